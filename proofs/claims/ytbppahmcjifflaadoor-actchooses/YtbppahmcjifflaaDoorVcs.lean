/-
  What becomes of each number of a list: Widen, Scale and Shrink, the package's.
-/
import Derived.Test.YtbppahmcjifflaaDoorVce
import Derived.Test.YtbppahmcjifflaaDoorFwn
namespace Go.Proofs.YtbppahmcjifflaaDoor
open Go.RowKit Go.Lib Go.Maps

theorem bounded64_any (ao : Option Addr) (n c : Nat) (w : World) : Calls Tryd.prog 77 #[.slice ao n c] w fun e w' => e = .returned (zV (bE n)) ∧ w' = w := by
  by_cases h : 1048576 < n
  · have h' : (1048576 : Int) < (n : Int) := by omega
    rw [bE_many h]
    go_enter Tryd.func77, Tryd.ntmps77
    go_wp2
    go_ret
    exact ⟨rfl, rfl⟩
  · have h' : ¬ (1048576 : Int) < (n : Int) := by omega
    rw [bE_ok (by omega)]
    go_enter Tryd.func77, Tryd.ntmps77
    go_wp2
    go_ret
    exact ⟨rfl, rfl⟩

/-- What is wrong with a list that is to be shifted. -/
def sE (n : Nat) (s most : Int) : Int := if 1048576 < n then 81 else if s < 0 ∨ most < s then 20 else 0
def sL (l : List Int) (s most : Int) (f : Int → Int) : List Int := if sE l.length s most = 0 then l.map f else []
theorem sE_many {n : Nat} (s most : Int) (h : 1048576 < n) : sE n s most = 81 := if_pos h
theorem sE_else {n : Nat} {s most : Int} (h : ¬ 1048576 < n) (hs : s < 0 ∨ most < s) : sE n s most = 20 := by unfold sE; rw [if_neg h, if_pos hs]
theorem sE_ok {n : Nat} {s most : Int} (h : ¬ 1048576 < n) (hs : ¬ (s < 0 ∨ most < s)) : sE n s most = 0 := by unfold sE; rw [if_neg h, if_neg hs]
theorem sE_zero {n : Nat} {s most : Int} (h : sE n s most = 0) : n ≤ 1048576 ∧ 0 ≤ s ∧ s ≤ most := by
  unfold sE at h
  split at h
  · cases h
  · split at h
    · cases h
    · omega
theorem sL_bad {l : List Int} {s most : Int} {f : Int → Int} (h : sE l.length s most ≠ 0) : sL l s most f = [] := if_neg h
theorem sL_len (l : List Int) (s most : Int) (f : Int → Int) : (sL l s most f).length ≤ 1048576 := by
  unfold sL
  split
  · rename_i h
    have := (sE_zero h).1
    rw [List.length_map]; exact this
  · simp
set_option maxHeartbeats 4000000 in
set_option maxRecDepth 100000 in
theorem sh68_any (p : Nat → Prop) (F bs : Nat) (f : Int → Int) (lv : Value) (l : List Int) (s most : Int) (w : World) (hl : Rk .i64 p w lv l) (_hs : I64 s) (_hm : 0 ≤ most ∧ most ≤ 62)
    (hE : ∀ (args : Array Value) (X : World), (callFunc F args).run Tryd.prog X = .ok (.enter F args) X)
    (hf : sE l.length s most = 0 → ∀ (W : World) (x : Int), Fresh w W → x ∈ l → Calls Tryd.prog F #[.int .i64 x, .pointer (some ⟨bs, 0, none⟩)] W fun e w' => e = .returned (.int .i8 (f x)) ∧ Drew W w') :
    Calls Tryd.prog 65 #[lv, zV s, zV most, .func (.func F) #[] #[.pointer (some ⟨bs, 0, none⟩)]] w fun e w' => Gives .i8 30 (sL l s most f) (sE l.length s most) w e w' := by
  obtain ⟨ao, ac, hva, _⟩ := hl.shape
  subst hva
  have hB := bounded64_any ao l.length ac w
  have HG : Hid (∀ (E : Int), Gives .i8 30 [] E w (.returned (.tuple #[.slice none 0 0, zV E])) w) := fun E => Gives.none _ _ _ _
  by_cases h1 : 1048576 < l.length
  · rw [bE_many h1] at hB
    have HB : Hid (Unit → _) := fun (_ : Unit) => hB
    rw [sL_bad (by rw [sE_many _ _ h1]; omega), sE_many _ _ h1]
    clear hB hl hf
    go_enter Tryd.func65, Tryd.ntmps65
    go_wp2_with fail
    refine (HB.out ()).mono ?_
    rintro e w1 ⟨rfl, hw1⟩
    have hw2 := hw1.symm
    subst hw2
    clear hw1 HB
    go_wp2
    go_ret2
    exact HG.out _
  rw [bE_ok (by omega)] at hB
  have HB : Hid (Unit → _) := fun (_ : Unit) => hB
  by_cases h2 : s < 0
  · rw [sL_bad (by rw [sE_else h1 (.inl h2)]; omega), sE_else h1 (.inl h2)]
    clear hB hl hf
    go_enter Tryd.func65, Tryd.ntmps65
    go_wp2_with fail
    refine (HB.out ()).mono ?_
    rintro e w1 ⟨rfl, hw1⟩
    have hw2 := hw1.symm
    subst hw2
    clear hw1 HB
    go_wp2
    go_ret2
    exact HG.out _
  by_cases h3 : most < s
  · have h2' : decide (s < 0) = false := by simp; omega
    rw [sL_bad (by rw [sE_else h1 (.inr h3)]; omega), sE_else h1 (.inr h3)]
    clear hB hl hf
    go_enter Tryd.func65, Tryd.ntmps65
    go_wp2_with fail
    refine (HB.out ()).mono ?_
    rintro e w1 ⟨rfl, hw1⟩
    have hw2 := hw1.symm
    subst hw2
    clear hw1 HB
    go_wp2
    go_ret2
    exact HG.out _
  have e0 : sE l.length s most = 0 := sE_ok h1 (by omega)
  have HE : Hid (sL l s most f = l.map f) := if_pos e0
  have HF := show Hid _ from hf e0
  have h2' : decide (s < 0) = false := by simp; omega
  have h3' : decide (most < s) = false := by simp; omega
  obtain ⟨n, hn⟩ : ∃ n, l.length = n := ⟨_, rfl⟩
  have HN : Hid (l.length = n) := hn
  have hmk := run_mk ty8 n n (Nat.le_refl _) (by simp [kb]; omega) w
  have hO := own_made .i8 30 w w.heap.size (Nat.le_refl _) n n (Nat.le_refl _) (by omega)
  have hF0 : Fresh w (w.alloc (.cells ((List.replicate n (0 : Int)).map (Value.int .i8)).toArray 30)) := (Kept.refl _ w).alloc _
  generalize w.alloc (.cells ((List.replicate n (0 : Int)).map (Value.int .i8)).toArray 30) = W0 at *
  have HO : Hid (W0.ownsRow w.heap.size 30 1 (.slice (some ⟨w.heap.size, 0, none⟩) n n) n (((l.map f).take 0 ++ List.replicate (n - 0) 0).map (Value.int .i8)) ∧ Fresh w W0) := ⟨hO, hF0⟩
  rw [e0]
  rw [hn] at HB hl h1 ⊢
  have HC : Hid (0 < n → ∃ b off, ao = some ⟨b, off, none⟩ ∧ ∀ W, Fresh w W → ∀ i, i < n → W.cell? ⟨b, off + i, none⟩ = some (.int .i64 (l.getD i 0))) := fun hp => by
    obtain ⟨b, off, e, _, hb, hcell⟩ := hl.cells.2.2.2 hp
    exact ⟨b, off, e, fun W hF i hi => (hF.cell (p := ⟨b, off + i, none⟩) hb (fun e => e)).trans (hcell i hi)⟩
  clear hB hl hf hO hF0 e0 hn
  go_enter Tryd.func65, Tryd.ntmps65
  go_wp2_with fail
  refine (HB.out ()).mono ?_
  rintro e w1 ⟨rfl, hw1⟩
  have hw2 := hw1.symm
  subst hw2
  clear hw1 HB
  go_wp2
  clear hmk
  go_loopw [31] (fun iv wr => ∃ j : Nat, j ≤ n ∧ iv = zV j ∧ Hid (wr.ownsRow w.heap.size 30 1 (.slice (some ⟨w.heap.size, 0, none⟩) n n) n (((l.map f).take j ++ List.replicate (n - j) 0).map (Value.int .i8)) ∧ Fresh w wr)) (fun iv _ => n - (RowKit.intOf iv).toNat)
  case atStart => exact ⟨0, Nat.zero_le _, rfl, HO.out⟩
  case round =>
    obtain ⟨j, hj, rfl, HA⟩ := hrel
    clear HO
    by_cases hlt : j < n
    · obtain ⟨b, off, rfl, hcell⟩ := HC.out (by omega)
      have g1 := hcell wr HA.out.2 j hlt
      have hlt' : (j : Int) < (n : Int) := by omega
      have hjl : j < l.length := by rw [HN.out]; exact hlt
      have HCall : Hid (Unit → _) := fun (_ : Unit) => HF.out wr (l.getD j 0) HA.out.2 (by rw [getD_getElem hjl]; exact List.getElem_mem hjl)
      have hpl : ((l.map f).take j).length = j := by rw [List.length_take, List.length_map]; omega
      have HSt : Hid ((l.map f).take (j + 1) = (l.map f).take j ++ [f (l.getD j 0)]) := map_snoc l f hjl
      clear hcell hjl
      generalize l.getD j 0 = x at *
      go_wp2_with fail
      refine (HCall.out ()).mono ?_
      rintro e w3 ⟨rfl, d3, hw3⟩
      have hO3 : w3.ownsRow w.heap.size 30 1 (.slice (some ⟨w.heap.size, 0, none⟩) n n) n (((l.map f).take j ++ List.replicate (n - j) 0).map (Value.int .i8)) ∧ Fresh w w3 := by rw [hw3]; exact ⟨HA.out.1, HA.out.2.drewN d3⟩
      have f3 := own_frozen hO3.1 j
      have g3 := own_get hO3.1 j hlt
      have HX : Hid ((w3.setCell ⟨w.heap.size, j, none⟩ (.int .i8 (f x))).ownsRow w.heap.size 30 1 (.slice (some ⟨w.heap.size, 0, none⟩) n n) n (((l.map f).take (j + 1) ++ List.replicate (n - (j + 1)) 0).map (Value.int .i8)) ∧ Fresh w (w3.setCell ⟨w.heap.size, j, none⟩ (.int .i8 (f x)))) := by
        refine ⟨?_, hO3.2.setCell (fun e => absurd e (Nat.lt_irrefl _)) _⟩
        have := own_setB (i := j) (x := Value.int .i8 (f x)) hO3.1
        rw [← List.map_set, show n - j = (n - (j + 1)) + 1 by omega, set_at hpl] at this
        rw [HSt.out]
        exact this
      clear hO3 HA HCall hw3 hpl HSt
      go_wp2
      go_roundw
      case rel => exact ⟨j + 1, hlt, by go_num, HX.out⟩
      case measure => simp [RowKit.intOf]; omega
    · obtain rfl : j = n := by omega
      have HX : Hid (Gives .i8 30 (sL l s most f) 0 w (.returned (.tuple #[.slice (some ⟨w.heap.size, 0, none⟩) j j, zV 0])) wr) := by
        refine ⟨_, rfl, ?_, HA.out.2⟩
        have := HA.out.1
        rw [Nat.sub_self, List.replicate_zero, List.append_nil, List.take_of_length_le (by rw [List.length_map, HN.out]; exact Nat.le_refl _)] at this
        rw [HE.out, List.length_map, HN.out]
        exact this
      clear HA HC
      go_wp2
      go_ret2
      exact HX.out

/-- A number over a power of two, rounded. -/
theorem vround_any (x s : Int) (w : World) (hx : I64 x) : Calls Tryd.prog 67 #[zV x, zV s] w fun e w' => e = .returned (zV (rdQ x s)) ∧ Drew w w' := by
  have HR : Hid (Unit → _) := fun (_ : Unit) => round_any x s w hx
  go_enter Tryd.func67, Tryd.ntmps67
  go_wp2_with fail
  refine (HR.out ()).mono ?_
  rintro e w1 ⟨rfl, hd⟩
  have HD : Hid (Drew w w1) := hd
  clear hd HR
  go_wp2
  go_ret
  exact ⟨rfl, HD.out⟩
theorem shrink1_any (x s : Int) (b : Nat) (w : World) (hx : I64 x) (hs : w.cell? ⟨b, 0, none⟩ = some (zV s)) : Calls Tryd.prog 66 #[zV x, .pointer (some ⟨b, 0, none⟩)] w fun e w' => e = .returned (.int .i8 (clamp (rdQ x s) (-127) 127)) ∧ Drew w w' := by
  have HR : Hid (Unit → _) := fun (_ : Unit) => vround_any x s w hx
  have HN : Hid (∀ W, _) := fun W => narrow_any (rdQ x s) W
  go_enter Tryd.func66, Tryd.ntmps66
  go_wp2_with fail
  refine (HR.out ()).mono ?_
  rintro e w1 ⟨rfl, hd⟩
  have HD : Hid (Drew w w1) := hd
  clear hd HR hs
  go_wp2_with fail
  refine (HN.out _).mono ?_
  rintro e w2 ⟨rfl, hd⟩
  have HD2 : Hid (Drew w w2) := HD.out.trans hd
  clear hd HN HD
  go_wp2
  go_ret
  exact ⟨rfl, HD2.out⟩

set_option maxHeartbeats 1000000 in
set_option maxRecDepth 100000 in
theorem Shrink_any (p : Nat → Prop) (lv : Value) (l : List Int) (s : Int) (w : World) (hl : Rk .i64 p w lv l) (hs : I64 s) :
    Calls Tryd.prog 48 #[lv, zV s] w fun e w' => Gives .i8 30 (sL l s 62 (fun x => clamp (rdQ x s) (-127) 127)) (sE l.length s 62) w e w' := by
  obtain ⟨W0, hW0⟩ : ∃ W0, W0 = w.alloc (.cells #[zV s] 3) := ⟨_, rfl⟩
  have hF0 : Fresh w W0 := by rw [hW0]; exact (Kept.refl _ w).alloc _
  have p1 : W0.heap[w.heap.size]? = some (.cells #[zV s] 3 (0, 0)) := by rw [hW0]; exact heap_alloc_new w _
  have c0 : W0.cell? ⟨w.heap.size, 0, none⟩ = some (zV s) := by rw [Lib.cell_of_heap p1]; rfl
  have hS := sh68_any p 66 w.heap.size (fun x => clamp (rdQ x s) (-127) 127) lv l s 62 W0 (hl.fresh hF0) hs ⟨by omega, by omega⟩ (fun args X => by simp [go_sem]) (fun e0 W x hF hx => by
    have q1 := hF.at p1 (fun e => e)
    have c1 : W.cell? ⟨w.heap.size, 0, none⟩ = some (zV s) := by rw [Lib.cell_of_heap q1]; rfl
    exact shrink1_any x s _ W (hl.all x hx) c1)
  have HS : Hid (Unit → _) := fun (_ : Unit) => hS
  have HF0 : Hid (Fresh w W0) := hF0
  obtain ⟨ao, ac, hva, _⟩ := hl.shape
  subst hva
  generalize sE l.length s 62 = E at *
  generalize sL l s 62 (fun x => clamp (rdQ x s) (-127) 127) = L at *
  clear hl hS hF0 p1
  go_enter Tryd.func48, Tryd.ntmps48
  go_wp2_with fail
  rw [← hW0]
  refine (HS.out ()).mono ?_
  rintro e w2 ⟨v, rfl, ho, hF⟩
  have HX : Hid (Gives .i8 30 L E w (.returned (.tuple #[v, zV E])) w2) := ⟨_, rfl, own_low ho HF0.out.size, HF0.out.trans hF (fun _ _ e => e)⟩
  clear ho hF HS hW0 c0
  go_wp2
  go_ret2
  exact HX.out
end Go.Proofs.YtbppahmcjifflaaDoor
