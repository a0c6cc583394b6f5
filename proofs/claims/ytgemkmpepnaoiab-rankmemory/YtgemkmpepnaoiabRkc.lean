/-
  The places 0, 1, 2 and on; By over numbers; Order.
-/
import Derived.Test.YtgemkmpepnaoiabRkr
import Derived.Recover
import Derived.Defers
namespace Go.Proofs.Ytgemkmpepnaoiab
open Go.RowKit Go.Lib Go.Maps

def upI (l : List Nat) : List Int := l.map (fun i : Nat => (i : Int))
theorem upI_length (l : List Nat) : (upI l).length = l.length := by simp [upI]
theorem upI_append (a b : List Nat) : upI (a ++ b) = upI a ++ upI b := by simp [upI]
theorem upI_get (l : List Nat) (i : Nat) : (upI l)[i]? = (l[i]?).map (fun i : Nat => (i : Int)) := by simp [upI]
theorem upI_inj {a b : List Nat} (h : upI a = upI b) : a = b := by
  unfold upI at h
  exact List.map_inj_right (fun x y h => Int.ofNat_inj.1 h) |>.1 h

theorem At.set1 {w : World} {b : Nat} {P Q : List Int} {x y : Int} (h : At w b (P ++ x :: Q)) : At (w.setCell ⟨b, P.length, none⟩ (zV y)) b (P ++ y :: Q) := by
  have := At.set (o := [y]) (M := [x]) (P := P) (Q := Q) (w := w) (b := b) (by simpa using h) rfl
  simpa [World.setCells] using this
theorem at_of_own {B : Nat} {w : World} {g n : Nat} {L : List Int} (h : w.ownsRow B 3 1 (.slice (some ⟨g, 0, none⟩) n n) n (L.map zV)) : At w g L := by
  rcases h.2 with ⟨h, _⟩ | ⟨g', cap', cur, hv, _, hg, _, _, hs, ht⟩
  · cases h
  · cases hv
    show _ = _
    rw [hg]
    have : cur = (L.map zV).toArray := by
      have e : cur.toList = L.map zV := by rw [← ht]; exact (List.take_of_length_le (by simp [hs])).symm
      rw [← e]
    rw [this]
theorem own_of_at {w : World} {g n : Nat} {L : List Int} (h : At w g L) (hn : L.length = n) (hm : n ≤ maxLen) : w.ownsRow 0 3 1 (.slice (some ⟨g, 0, none⟩) 0 n) 0 [] :=
  ⟨rfl, .inr ⟨g, n, _, rfl, Nat.zero_le _, h, Nat.zero_le _, hm, by simp [hn], rfl⟩⟩
theorem made_zeros (n : Nat) : madeCells (Value.int .i64 0).cells (n * 1) = ((List.replicate n (0 : Int)).map zV).toArray := by
  rw [Nat.mul_one]
  have h : ∀ x : Nat, (Value.int .i64 0).cells[x % (Value.int .i64 0).cells.size]! = zV 0 := fun x => by
    have : x % (Value.int .i64 0).cells.size = 0 := Nat.mod_one x
    rw [this]; rfl
  unfold madeCells
  simp only [h]
  apply Array.ext'
  simp [List.map_const']

set_option maxHeartbeats 1000000 in
set_option maxRecDepth 100000 in
theorem firstPlaces_any (n : Nat) (w : World) (hn : n ≤ 17592186044416) :
    Calls Try.prog 44 #[zV n] w fun e w' => e = .returned (.slice (some ⟨w.heap.size, 0, none⟩) n n) ∧ At w' w.heap.size (upI (List.range n)) ∧ Fresh w w' := by
  obtain ⟨i0, hi, hz0, hz1, hz2⟩ := info_parts Try.infoI
  have hm : ∀ (W : World), (Instr.makeSlice 32 (.int .i64 (n : Int)) (.int .i64 (n : Int))).run Try.prog W = .ok (.slice (some ⟨W.heap.size, 0, none⟩) n n) (W.alloc (.cells ((List.replicate n (0 : Int)).map zV).toArray 3)) := fun W => by
    have h := run_make (P := Try.prog) W 32 3 i0 _ Try.underlying32 hi hz0 .i64 .i64 (n : Int) (n : Int) (by omega) (by omega) (by rw [hz2]; omega) (by omega)
    rw [hz1] at h
    simp only [Int.toNat_natCast] at h
    rw [made_zeros] at h
    exact h
  have hF0 : Fresh w (w.alloc (.cells ((List.replicate n (0 : Int)).map zV).toArray 3)) := (Kept.refl _ w).alloc _
  have hA0 : At (w.alloc (.cells ((List.replicate n (0 : Int)).map zV).toArray 3)) w.heap.size (List.replicate n 0) := heap_alloc_new w _
  generalize hW0 : w.alloc (.cells ((List.replicate n (0 : Int)).map zV).toArray 3) = W0 at *
  have hm0 : (Instr.makeSlice 32 (.int .i64 (n : Int)) (.int .i64 (n : Int))).run Try.prog w = .ok (.slice (some ⟨w.heap.size, 0, none⟩) n n) W0 := by rw [hm, hW0]
  clear hm hW0
  go_enter Try.func44, Try.ntmps44
  go_wp2
  clear hm0
  go_loopw [9] (fun i wr => ∃ j : Nat, j ≤ n ∧ i = .int .i64 (j : Int) ∧ At wr w.heap.size (upI (List.range j) ++ List.replicate (n - j) 0) ∧ Fresh w wr) (fun i _ => n - (RowKit.intOf i).toNat)
  case atStart => exact ⟨0, Nat.zero_le _, rfl, hA0, hF0⟩
  case round =>
    obtain ⟨j, hj, rfl, hAt, hF⟩ := hrel
    clear hA0 hF0
    by_cases hlt : j < n
    · obtain ⟨m, hm⟩ : ∃ m, n - j = m + 1 := ⟨n - j - 1, by omega⟩
      have HA : Hid (At (wr.setCell ⟨w.heap.size, j, none⟩ (zV j)) w.heap.size (upI (List.range (j + 1)) ++ List.replicate (n - (j + 1)) 0)) := by
        rw [hm, List.replicate_succ] at hAt
        have := hAt.set1 (y := (j : Int))
        rw [upI_length, List.length_range] at this
        rw [List.range_succ, upI_append, show n - (j + 1) = m by omega, List.append_assoc]
        exact this
      have HF : Hid (Fresh w (wr.setCell ⟨w.heap.size, j, none⟩ (zV j))) := hF.setCell (fun e => absurd e (Nat.lt_irrefl _)) _
      have c1 : wr.cell? ⟨w.heap.size, j, none⟩ = some (zV 0) := by
        rw [hAt.cell, List.getElem?_append_right (by simp [upI_length]), upI_length, List.length_range, Nat.sub_self, hm]; rfl
      have c2 : wr.frozen? ⟨w.heap.size, j, none⟩ = false := hAt.frozen _
      clear hAt hF hm
      go_wp2
      go_roundw
      case rel => exact ⟨j + 1, hlt, by go_num, HA.out, HF.out⟩
      case measure => simp [RowKit.intOf]; omega
    · obtain rfl : j = n := by omega
      have HA : Hid (At wr w.heap.size (upI (List.range j))) := by show At _ _ _; simpa using hAt
      have HF : Hid (Fresh w wr) := hF
      clear hAt hF
      go_wp2
      go_ret
      exact ⟨rfl, HA.out, HF.out⟩

theorem greater_any (a b : Int) (w : World) : Calls Try.prog 34 #[zV a, zV b] w fun e w' => e = .returned (.bool (decide (b < a))) ∧ w' = w := by
  go_enter Try.func34, Try.ntmps34
  go_wp2
  go_ret
  exact ⟨rfl, rfl⟩

/-- What must be for By's comparison to be asked. -/
def JBy (bA bL : Nat) (rv : Value) (zs : List Int) (X : World) : Prop :=
  X.cell? ⟨bA, 0, none⟩ = some (.func (.func 34) #[] #[]) ∧ X.cell? ⟨bL, 0, none⟩ = some rv ∧ Rw (fun _ => True) X rv zs

set_option maxHeartbeats 1000000 in
set_option maxRecDepth 100000 in
theorem byAsk (bA bL n0 : Nat) (rv : Value) (zs : List Int) (hA : bA < n0) (hL : bL < n0) :
    Ask 46 #[.pointer (some ⟨bA, 0, none⟩), .pointer (some ⟨bL, 0, none⟩)] (fun z => 0 ≤ z ∧ z < zs.length) (fun i j b => b = decide (zs.getD j.toNat 0 < zs.getD i.toNat 0)) (fun _ => False) n0
      (fun X => JBy bA bL rv zs X ∧ n0 ≤ X.heap.size ∧ Rw (fun k => k < n0) X rv zs) where
  enters := fun args X => by simp [go_sem]
  ahead := fun _ h => h.elim
  kept := fun X X' h hk => by
    obtain ⟨⟨h1, h2, h3⟩, hs, h4⟩ := h
    have h4' := h4.kept hk (fun b hb e => by omega)
    refine ⟨⟨(hk.cell (p := ⟨bA, 0, none⟩) (by simp; omega) (by simp; omega)).trans h1, (hk.cell (p := ⟨bL, 0, none⟩) (by simp; omega) (by simp; omega)).trans h2, h4'.mono (fun _ _ => trivial)⟩, Nat.le_trans hs hk.size, h4'⟩
  asks := fun X i j hJ hi hj => by
    obtain ⟨⟨h1, h2, h3⟩, hs, h4⟩ := hJ
    have HJ : Hid (∀ n, (JBy bA bL rv zs (X.drewN n) ∧ n0 ≤ (X.drewN n).heap.size ∧ Rw (fun k => k < n0) (X.drewN n) rv zs)) := fun n => ⟨⟨h1, h2, h3.fresh (kept_drewN _ X n)⟩, hs, h4.fresh (kept_drewN _ X n)⟩
    obtain ⟨a, rfl⟩ : ∃ a : Nat, i = (a : Int) := ⟨i.toNat, by omega⟩
    obtain ⟨b, rfl⟩ : ∃ b : Nat, j = (b : Int) := ⟨j.toNat, by omega⟩
    have ha : (a : Int) < (zs.length : Int) := hi.2
    have hb : (b : Int) < (zs.length : Int) := hj.2
    obtain ⟨ao, cap, rfl, _, hc, _⟩ := h3
    obtain ⟨lb, off, rfl, _, _, hcell⟩ := hc (fun e => by rw [e] at ha; simp at ha; omega)
    have c1 := hcell a (by omega)
    have c2 := hcell b (by omega)
    simp only [Int.toNat_natCast]
    have key : ∀ x y n, (a : Int) < (n : Nat) → (b : Int) < (n : Nat) → X.cell? ⟨bL, 0, none⟩ = some (.slice (some ⟨lb, off, none⟩) n cap) → X.cell? ⟨lb, off + a, none⟩ = some (zV x) → X.cell? ⟨lb, off + b, none⟩ = some (zV y) →
        Calls Try.prog 46 #[zV a, zV b, .pointer (some ⟨bA, 0, none⟩), .pointer (some ⟨bL, 0, none⟩)] X fun e X' => e = .returned (.bool (decide (y < x))) ∧ ∃ n, X' = X.drewN n := by
      clear h2 c1 c2 hcell hc hs h4 hi hj HJ ha hb
      intro x y n ha hb h2 c1 c2
      go_enter Try.func46, Try.ntmps46
      go_wp2_with fail
      go_quiet ((go_at_call 34; exact Calls.quiet_of ((greater_any x y _).mono (fun e w' h => ⟨h.1, 0, h.2⟩))))
      go_wp2
      go_ret
      exact ⟨rfl, _, rfl⟩
    refine (key _ _ _ ha hb h2 c1 c2).mono ?_
    rintro e X' ⟨rfl, n, rfl⟩
    exact ⟨_, rfl, rfl, HJ.out _, kept_drewN _ _ _⟩
end Go.Proofs.Ytgemkmpepnaoiab
