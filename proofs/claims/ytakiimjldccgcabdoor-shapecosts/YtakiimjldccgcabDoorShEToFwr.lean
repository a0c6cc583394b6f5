/-
  The vocabulary of a sample of at most 256 tokens.
-/
import Derived.Test.YtakiimjldccgcabDoorShDToShG
import Derived.Test.YtakiimjldccgcabDoorNumToFw
namespace Go.Proofs.YtakiimjldccgcabDoor
open Go.RowKit Go.Lib Go.Maps

/-- The text of token i. -/
def smT (i : Nat) : List UInt8 := if i = 0 then [] else if i < 256 then [UInt8.ofNat (96 + i)] else [97, UInt8.ofNat (97 + (i - 256))]
def smTs (n : Nat) : List (List UInt8) := (List.range n).map smT
theorem smTs_len (n : Nat) : (smTs n).length = n := by simp [smTs]
theorem smTs_get {n i : Nat} (h : i < n) : gT (smTs n) i = smT i := by
  show (smTs n).getD i [] = _
  rw [List.getD_eq_getElem?_getD]
  simp [smTs, h]
theorem smT_len (i : Nat) : (smT i).length ≤ 2 := by
  unfold smT
  split
  · simp
  · split <;> simp
theorem run_mkS (n : Nat) (hn : n ≤ 1048576) (W : World) : (Instr.makeSlice 41 (.int .i64 (n : Int)) (.int .i64 (n : Int))).run Tryd.prog W = .ok (.slice (some ⟨W.heap.size, 0, none⟩) n n) (W.alloc (.cells (List.replicate n (sV [])).toArray 9)) := by
  have hinfo : (Tryd.prog.info? 9).map (fun i => (i.zero, i.size, i.bytes)) = some (some (sV []), 1, 16) := by kernel_rfl
  cases hi : Tryd.prog.info? 9 with
  | none => rw [hi] at hinfo; cases hinfo
  | some i0 =>
    rw [hi] at hinfo
    simp only [Option.map_some, Option.some.injEq, Prod.mk.injEq] at hinfo
    obtain ⟨h1, h2, h3⟩ := hinfo
    have h := run_make (P := Tryd.prog) W 41 9 i0 _ Tryd.underlying41 hi h1 .i64 .i64 (n : Int) (n : Int) (by omega) (by omega) (by rw [h3]; omega) (by omega)
    rw [h2] at h
    simp only [Int.toNat_natCast] at h
    have hz : ∀ x : Nat, (sV []).cells[x % (sV []).cells.size]! = sV [] := fun x => by
      have : x % (sV []).cells.size = 0 := Nat.mod_one x
      rw [this]; rfl
    have hm : madeCells (sV []).cells (n * 1) = (List.replicate n (sV [])).toArray := by
      rw [Nat.mul_one]
      unfold madeCells
      simp only [hz]
      apply Array.ext'
      simp [List.map_const']
    rw [h, hm]
/-- The texts are being made, in the row of block W.heap.size. -/
def TxI (W : World) (n j : Nat) (wr : World) : Prop :=
  wr.ownsRow W.heap.size 9 1 (.slice (some ⟨W.heap.size, 0, none⟩) n n) n ((((List.range j).map smT) ++ List.replicate (n - j) []).map sV) ∧ Fresh W wr
theorem TxI.start (W : World) (n : Nat) (hn : n ≤ 1048576) : TxI W n 0 (W.alloc (.cells (List.replicate n (sV [])).toArray 9)) :=
  ⟨⟨by simp, .inr ⟨W.heap.size, n, _, rfl, Nat.le_refl _, heap_alloc_new W _, Nat.le_refl _, by unfold maxLen; omega, by simp, by simp⟩⟩, (Kept.refl _ W).alloc _⟩
theorem TxI.one {W wr : World} {n : Nat} (h : TxI W n 0 wr) (h0 : 1 ≤ n) : TxI W n 1 wr := by
  refine ⟨?_, h.2⟩
  have := h.1
  rw [Nat.sub_zero, show n = (n - 1) + 1 by omega, List.replicate_succ] at this
  rw [show n = (n - 1) + 1 by omega] 
  exact this
theorem TxI.next {W wr X : World} {n j : Nat} (h : TxI W n j wr) (hj : j < n) (hk : Fresh wr X) : TxI W n (j + 1) (X.setCell ⟨W.heap.size, j, none⟩ (sV (smT j))) := by
  have h1 := owns_kept h.1 hk (fun _ _ e => e)
  refine ⟨?_, (h.2.trans hk (fun _ _ e => e)).setCell (fun e => absurd e (Nat.lt_irrefl _)) _⟩
  have := own_setB (i := j) (x := sV (smT j)) h1
  rw [← List.map_set, show n - j = (n - (j + 1)) + 1 by omega, List.replicate_succ, List.set_append, if_neg (by simp), List.length_map, List.length_range, Nat.sub_self, List.set_cons_zero] at this
  rw [List.range_succ]
  simp only [List.map_append, List.map_cons, List.map_nil, List.append_assoc, List.cons_append, List.nil_append] at this ⊢
  exact this
theorem TxI.cell {W wr : World} {n j : Nat} (h : TxI W n j wr) (i : Nat) (hi : i < n) : (∃ x, wr.cell? ⟨W.heap.size, i, none⟩ = some x) ∧ wr.frozen? ⟨W.heap.size, i, none⟩ = false := by
  refine ⟨?_, own_frozen h.1 i⟩
  have h2 := h.1
  rcases h2.2 with ⟨e, _⟩ | ⟨g', cap', cur, hv, hb, hh, hnc, hcm, hsz, htk⟩
  · cases e
  injection hv with e1 _ e3
  injection e1 with e1
  injection e1 with e1
  subst e1
  exact ⟨cur[i]'(by simp only [Nat.mul_one] at hsz; omega), by rw [Lib.cell_of_heap hh]; exact Array.getElem?_eq_getElem _⟩
theorem TxI.done {W wr : World} {n : Nat} (h : TxI W n n wr) (hn : n ≤ 1048576) : TxR (fun b => W.heap.size ≤ b ∧ b < wr.heap.size) wr (.slice (some ⟨W.heap.size, 0, none⟩) n n) (smTs n) := by
  have h2 := h.1
  rcases h2.2 with ⟨e, _⟩ | ⟨g', cap', cur, hv, hb, hh, hnc, hcm, hsz, htk⟩
  · cases e
  injection hv with e1 _ e3
  injection e1 with e1
  injection e1 with e1
  subst e1
  subst e3
  have hlt : W.heap.size < wr.heap.size := (Array.getElem?_eq_some_iff.1 hh).1
  refine ⟨_, n, by rw [smTs_len], (by simp), by rw [smTs_len]; exact Nat.le_refl _, fun i hi => ?_, by rw [smTs_len]; omega, fun _ => ⟨W.heap.size, 0, rfl, ⟨Nat.le_refl _, hlt⟩, hlt, fun i hi => ?_⟩⟩
  · rw [smTs_len] at hi
    rw [smTs_get hi]
    have := smT_len i
    unfold maxLen
    omega
  · rw [smTs_len] at hi
    rw [smTs_get hi, Lib.cell_of_heap hh, Nat.zero_add]
    have h3 := congrArg (fun l => l[i]?) htk
    simp only [Nat.mul_one, Nat.sub_self, List.replicate_zero, List.append_nil, List.map_map] at h3
    rw [List.getElem?_take, if_pos hi] at h3
    rw [← Array.getElem?_toList, h3]
    simp [hi]
theorem byte_of (i : Nat) (h1 : 1 ≤ i) (h2 : i < 256) : (96 + (i : Int)) % 256 = ((UInt8.ofNat (96 + i)).toNat : Int) ∧ smT i = [UInt8.ofNat (96 + i)] := by
  refine ⟨?_, ?_⟩
  · rw [UInt8.toNat_ofNat']
    omega
  · unfold smT
    rw [if_neg (by omega), if_pos h2]
set_option maxHeartbeats 2000000 in
set_option maxRecDepth 100000 in
theorem sampleVocab_any (n : Nat) (w : World) (h2 : 2 ≤ n) (hn : n ≤ 256) : Calls Tryd.prog 44 #[zV (n : Int)] w fun e w' => ∃ tv, e = .returned (.agg #[tv, .slice none 0 0]) ∧ TxR (fun b => w.heap.size ≤ b ∧ b < w'.heap.size) w' tv (smTs n) ∧ Fresh w w' := by
  go_enter Tryd.func44, Tryd.ntmps44
  go_upto_region 1 with fail
  have HF0 : Hid (Fresh w (w.alloc (.cells #[.slice none 0 0, .slice none 0 0] 44))) := (Kept.refl _ w).alloc _
  have HB0 : Hid ((w.alloc (.cells #[.slice none 0 0, .slice none 0 0] 44)).heap[w.heap.size]? = some (.cells #[.slice none 0 0, .slice none 0 0] 44 (0, 0))) := heap_alloc_new w _
  generalize w.alloc (.cells #[.slice none 0 0, .slice none 0 0] 44) = W at *
  have hmk := run_mkS n (by omega) W
  have HN := show Hid _ from (TxI.start W n (by omega)).one (by omega)
  have hsz : (W.alloc (.cells (List.replicate n (sV [])).toArray 9)).heap.size = W.heap.size + 1 := by rw [World.size_alloc]
  have HSZ : Hid ((W.alloc (.cells (List.replicate n (sV [])).toArray 9)).heap.size = W.heap.size + 1) := hsz
  have HF1 : Hid (Fresh W (W.alloc (.cells (List.replicate n (sV [])).toArray 9))) := (Kept.refl _ W).alloc _
  clear hsz
  generalize W.alloc (.cells (List.replicate n (sV [])).toArray 9) = W1 at *
  go_upto_region 2 with fail
  obtain ⟨tb, htb⟩ : ∃ tb, W.heap.size = tb := ⟨_, rfl⟩
  have HVB : Hid ((W1.alloc (.cells #[.slice (some ⟨W.heap.size, 0, none⟩) n n, .slice none 0 0] 44)).heap[W1.heap.size]? = some (.cells #[.slice (some ⟨W.heap.size, 0, none⟩) n n, .slice none 0 0] 44 (0, 0))) := heap_alloc_new W1 _
  have HI : Hid (TxI W n 1 (W1.alloc (.cells #[.slice (some ⟨W.heap.size, 0, none⟩) n n, .slice none 0 0] 44))) := by
    have hk : Fresh W1 (W1.alloc (.cells #[.slice (some ⟨W.heap.size, 0, none⟩) n n, .slice none 0 0] 44)) := (Kept.refl _ W1).alloc _
    exact ⟨owns_kept HN.out.1 hk (fun _ _ e => e), HN.out.2.trans hk (fun _ _ e => e)⟩
  have hsz := HSZ.out
  obtain ⟨vb, hvb⟩ : ∃ vb, W1.heap.size = vb := ⟨_, rfl⟩
  have HNE : Hid (vb = W.heap.size + 1 ∧ w.heap.size < W.heap.size) := ⟨by rw [← hvb, hsz], (Array.getElem?_eq_some_iff.1 HB0.out).1⟩
  rw [hvb] at HVB
  rw [hvb]
  clear hvb hsz HSZ HN hmk HF1
  generalize W1.alloc (.cells #[.slice (some ⟨W.heap.size, 0, none⟩) n n, .slice none 0 0] 44) = W2 at *
  have HTB : Hid (W.heap.size = tb) := htb
  rw [htb]
  rw [htb] at HVB HNE
  clear htb
  have h256 : (n : Int) ≤ 256 := by omega
  go_wp2
  go_loopw [4] (fun iv wr => ∃ j : Nat, 1 ≤ j ∧ j ≤ n ∧ iv = zV j ∧ Hid (TxI W n j wr ∧ wr.heap[vb]? = some (.cells #[.slice (some ⟨tb, 0, none⟩) n n, .slice none 0 0] 44 (0, 0)))) (fun iv _ => n - (RowKit.intOf iv).toNat)
  case atStart => exact ⟨1, Nat.le_refl _, by omega, rfl, HI.out, HVB.out⟩
  case round =>
    obtain ⟨j, hj1, hj, rfl, HA⟩ := hrel
    clear HI HVB
    by_cases hlt : j < n
    · have hlt' : (j : Int) < (n : Int) := by omega
      have h0j : (0 : Int) ≤ (j : Int) := by omega
      obtain ⟨b1, b2⟩ := byte_of j hj1 (by omega)
      have hwr : IntKind.i64.wrap (96 + (j : Int)) = 96 + (j : Int) := by rw [IntKind.wrap_i64]; omega
      have K1 : Hid (∀ d : Nw wr, Calls Tryd.prog 66 #[zV (96 + (j : Int))] d.w fun e w' => e = .returned (sV [UInt8.ofNat (96 + j)]) ∧ Fresh d.w w') := fun d => text_any _ _ _ b1
      have u0 : ∀ d : Nw wr, d.w.cell? ⟨vb, 0, none⟩ = some (.slice (some ⟨tb, 0, none⟩) n n) := fun d => by
        rw [Lib.cell_of_heap (d.f.at HA.out.2 (fun e => e))]
        rfl
      have HX : Hid (∀ d : Nw wr, ((∃ x, d.w.cell? ⟨tb, j, none⟩ = some x) ∧ d.w.frozen? ⟨tb, j, none⟩ = false) ∧ TxI W n (j + 1) (d.w.setCell ⟨tb, j, none⟩ (sV [UInt8.ofNat (96 + j)])) ∧ (d.w.setCell ⟨tb, j, none⟩ (sV [UInt8.ofNat (96 + j)])).heap[vb]? = some (.cells #[.slice (some ⟨tb, 0, none⟩) n n, .slice none 0 0] 44 (0, 0))) := fun d => by
        have h1 : TxI W n j d.w := ⟨owns_kept HA.out.1.1 d.f (fun _ _ e => e), HA.out.1.2.trans d.f (fun _ _ e => e)⟩
        have h2 := HA.out.1.next hlt d.f
        have h3 := h1.cell j hlt
        rw [b2] at h2
        rw [HTB.out] at h2 h3
        have := HNE.out
        exact ⟨h3, h2, by rw [Below.heap_setCell _ _ _ _ (by show vb ≠ tb; omega)]; exact d.f.at HA.out.2 (fun e => e)⟩
      generalize UInt8.ofNat (96 + j) = bb at *
      clear b1 b2
      go_upto_region 5 with fail
      haveI : Nonempty (Nw wr) := nw_some wr
      refine wp_region_tail 7 (by kernel_rfl) (by simp) (by kernel_rfl) (by kernel_rfl) ?_
      simp only [List.take_succ_cons, List.take_zero]
      repeat (go_big_quiet_step (with_reducible exact Calls.new_of (K1.out _)))
      refine wpQuiet_nil ?_
      intro _ hw'
      obtain ⟨d, hw''⟩ := hw'
      subst hw''
      simp only [List.drop_succ_cons, List.drop_zero]
      obtain ⟨⟨⟨z0, hz0⟩, hz1⟩, hz2, hz3⟩ := HX.out d
      have HZ : Hid _ := And.intro hz2 hz3
      clear hz2 hz3 HX u0 K1 HA this
      generalize d.w = X at *
      unfold wpTail
      go_simp
      unfold wpTail
      go_wp2
      go_roundw
      case rel => exact ⟨j + 1, by omega, hlt, by go_num, HZ.out⟩
      case measure => simp [RowKit.intOf]; omega
    · obtain rfl : j = n := by omega
      have hlt' : ¬ ((j : Int) < (j : Int)) := by omega
      have hF : Fresh w wr := HF0.out.trans HA.out.1.2 (fun _ _ e => e)
      have hrb : wr.heap[w.heap.size]? = some (.cells #[.slice none 0 0, .slice none 0 0] 44 (0, 0)) := HA.out.1.2.at HB0.out (fun e => e)
      have HT : Hid (TxR (fun b => W.heap.size ≤ b ∧ b < wr.heap.size) wr (.slice (some ⟨W.heap.size, 0, none⟩) j j) (smTs j)) := HA.out.1.done (by omega)
      have HF := show Hid _ from hF
      rw [HTB.out] at HT
      have x0 : wr.cell? ⟨vb, 0, none⟩ = some (.slice (some ⟨tb, 0, none⟩) j j) := by rw [Lib.cell_of_heap HA.out.2]; rfl
      have x1 : wr.cell? ⟨vb, 1, none⟩ = some (.slice none 0 0) := by rw [Lib.cell_of_heap HA.out.2]; rfl
      have x2 : wr.cell? ⟨w.heap.size, 0, none⟩ = some (.slice none 0 0) := by rw [Lib.cell_of_heap hrb]; rfl
      have x3 : wr.cell? ⟨w.heap.size, 1, none⟩ = some (.slice none 0 0) := by rw [Lib.cell_of_heap hrb]; rfl
      have x4 : ∀ k, wr.frozen? ⟨w.heap.size, k, none⟩ = false := fun k => Lib.frozen_of_heap hrb k
      have HTT : Hid (w.heap.size < tb) := HNE.out.2
      obtain ⟨rb, hrbn⟩ : ∃ rb, w.heap.size = rb := ⟨_, rfl⟩
      have HRB : Hid (w.heap.size = rb) := hrbn
      have HTB2 : Hid (W.heap.size = tb) := HTB.out
      rw [hrbn] at x2 x3 x4 HTT ⊢
      have hrbn2 := hrbn
      clear hF hrbn HA HB0 HF0 HNE HTB
      have h256' : ¬ (256 : Int) < (j : Int) := by omega
      rw [hrbn2] at hrb
      have HH : Hid (wr.heap[rb]? = some (.cells #[.slice none 0 0, .slice none 0 0] 44 (0, 0))) := hrb
      clear hrb hrbn2
      obtain ⟨Wz, hWz⟩ : ∃ Wz, Wz = wr := ⟨_, rfl⟩
      subst hWz
      go_wp2
      go_loopw [5] (fun iv wr2 => iv = zV 256 ∧ wr2 = Wz) (fun _ _ => 0)
      case atStart => exact ⟨rfl, rfl⟩
      case round Wy =>
        obtain ⟨rfl, hw2⟩ := hrel
        rw [hw2]
        clear hw2
        go_wp2
        have hk : Kept (fun b => b = rb) Wz ((Wz.setCell ⟨rb, 0, none⟩ (.slice (some ⟨tb, 0, none⟩) j j)).setCell ⟨rb, 1, none⟩ (.slice none 0 0)) := ((Kept.refl (fun b => b = rb) Wz).setCell (p := ⟨rb, 0, none⟩) (fun _ => rfl) _).setCell (p := ⟨rb, 1, none⟩) (fun _ => rfl) _
        have hh := Go.Lib.heap_setCell_same (i := 1) (Go.Lib.heap_setCell_same (i := 0) HH.out (.slice (some ⟨tb, 0, none⟩) j j)) (.slice none 0 0)
        refine ret_cell rfl rb _ #[.slice (some ⟨tb, 0, none⟩) j j, .slice none 0 0] _ _ rfl hh Tryd.underlying44 rfl (by kernel_rfl) rfl ⟨_, rfl, ((HT.out.kept hk (fun b hb e => ?_)).mono (fun b hb => ⟨?_, ?_⟩)), HF.out.trans hk (fun i hi e => ?_)⟩
        · have e' : b = rb := e
          have := HTT.out
          have := HTB2.out
          omega
        · have := HTT.out
          have := HTB2.out
          have := HRB.out
          omega
        · exact Nat.lt_of_lt_of_le hb.2 hk.size
        · have e' : i = rb := e
          have := HRB.out
          omega
end Go.Proofs.YtakiimjldccgcabDoor

/-
  Floor, the document's.
-/
namespace Go.Proofs.YtakiimjldccgcabDoor
open Go.RowKit

set_option maxHeartbeats 400000 in
theorem refFloor_bad (x d : Int) (w : World) (hd : d < 1) :
    Calls Tryd.prog 105 #[.int .i64 x, .int .i64 d] w fun e w' => e = .returned (.tuple #[.int .i64 0, .int .i64 0, .int .i64 21]) ∧ Drew w w' := by
  go_enter Tryd.func105, Tryd.ntmps105
  go_wp2
  go_ret3
  exact ⟨rfl, Drew.refl _⟩

set_option maxHeartbeats 400000 in
theorem refFloor_ok (x d : Int) (w : World) (hx : I64 x) (hd : 1 ≤ d) (hd' : d ≤ 9223372036854775807) :
    Calls Tryd.prog 105 #[.int .i64 x, .int .i64 d] w fun e w' => e = .returned (.tuple #[.int .i64 (x / d), .int .i64 (x % d), .int .i64 0]) ∧ Drew w w' := by
  obtain ⟨x0, x1⟩ := hx
  obtain ⟨f1, f2⟩ := tdiv_floor x d hd
  obtain ⟨b0, b1⟩ := ediv_bounds x d hd x0 x1
  obtain ⟨m0, m1⟩ := tmod_bounds x d hd
  rcases Int.lt_or_le (x.tmod d) 0 with h | h
  · obtain ⟨e1, e2⟩ := f1 h
    rw [← e1, ← e2]
    rw [← e1] at b0 b1
    clear e1 e2 f1 f2
    go_enter Tryd.func105, Tryd.ntmps105
    go_wp2
    go_ret3
    exact ⟨rfl, Drew.refl _⟩
  · obtain ⟨e1, e2⟩ := f2 h
    rw [← e1, ← e2]
    rw [← e1] at b0 b1
    clear e1 e2 f1 f2
    go_enter Tryd.func105, Tryd.ntmps105
    go_wp2
    go_ret3
    exact ⟨rfl, Drew.refl _⟩

theorem refFloor_any (x d : Int) (w : World) (hx : I64 x) (hd : I64 d) :
    Calls Tryd.prog 105 #[.int .i64 x, .int .i64 d] w fun e w' => e = .returned (.tuple #[.int .i64 (flQ x d), .int .i64 (flR x d), .int .i64 (flE d)]) ∧ Drew w w' := by
  unfold flQ flR flE
  rcases Int.lt_or_le d 1 with h | h
  · rw [if_pos h, if_pos h, if_pos h]; exact refFloor_bad x d w h
  · rw [if_neg (by omega), if_neg (by omega), if_neg (by omega)]; exact refFloor_ok x d w hx h hd.2
end Go.Proofs.YtakiimjldccgcabDoor

/-
  Near and Round, the document's.
-/
namespace Go.Proofs.YtakiimjldccgcabDoor
open Go.RowKit

set_option maxHeartbeats 400000 in
theorem refNear_bad (x d : Int) (w : World) (hd : d < 1) :
    Calls Tryd.prog 100 #[.int .i64 x, .int .i64 d] w fun e w' => e = .returned (.tuple #[.int .i64 0, .int .i64 21]) ∧ Drew w w' := by
  go_enter Tryd.func100, Tryd.ntmps100
  go_wp2_with fail
  refine (refFloor_bad _ _ _ hd).mono ?_
  rintro e w1 ⟨rfl, hw1⟩
  go_wp2
  go_ret2
  exact ⟨rfl, hw1⟩

set_option maxHeartbeats 400000 in
theorem refNear_ok (x d : Int) (w : World) (hx : I64 x) (hd : 1 ≤ d) (hd' : d ≤ 9223372036854775807) :
    Calls Tryd.prog 100 #[.int .i64 x, .int .i64 d] w fun e w' => e = .returned (.tuple #[.int .i64 (near x d), .int .i64 0]) ∧ Drew w w' := by
  have hb := ediv_bounds x d hd hx.1 hx.2
  have hh := fun h => ediv_half x d hx h
  have r0 : 0 ≤ x % d := Int.emod_nonneg _ (by omega)
  have r1 : x % d < d := Int.emod_lt_of_pos _ (by omega)
  have ho := tmod_two_ne (x / d)
  have hf := refFloor_ok x d w hx hd hd'
  unfold near
  generalize x / d = q at *
  generalize x % d = r at *
  by_cases h1 : d - r < r
  · rw [if_pos (Or.inl h1)]
    have := hh (by omega)
    go_enter Tryd.func100, Tryd.ntmps100
    go_wp2_with fail
    refine hf.mono ?_
    rintro e w1 ⟨rfl, hw1⟩
    go_wp2
    go_ret2
    exact ⟨rfl, hw1⟩
  · by_cases h2 : r = d - r
    · have := hh (by omega)
      obtain rfl : d = r + r := by omega
      clear h2
      by_cases h3 : q % 2 = 0
      · rw [if_neg (by omega)]
        rw [show (!decide (q % 2 = 0)) = false by simp [h3]] at ho
        go_enter Tryd.func100, Tryd.ntmps100
        go_wp2_with fail
        refine hf.mono ?_
        rintro e w1 ⟨rfl, hw1⟩
        go_wp2
        go_ret2
        exact ⟨rfl, hw1⟩
      · rw [if_pos (by omega)]
        rw [show (!decide (q % 2 = 0)) = true by simp [h3]] at ho
        go_enter Tryd.func100, Tryd.ntmps100
        go_wp2_with fail
        refine hf.mono ?_
        rintro e w1 ⟨rfl, hw1⟩
        go_wp2
        go_ret2
        exact ⟨rfl, hw1⟩
    · rw [if_neg (by omega)]
      go_enter Tryd.func100, Tryd.ntmps100
      go_wp2_with fail
      refine hf.mono ?_
      rintro e w1 ⟨rfl, hw1⟩
      go_wp2
      go_ret2
      exact ⟨rfl, hw1⟩

set_option maxHeartbeats 400000 in
theorem refRound_bad (x s : Int) (w : World) (hs : s < 0 ∨ 62 < s) :
    Calls Tryd.prog 90 #[.int .i64 x, .int .i64 s] w fun e w' => e = .returned (.tuple #[.int .i64 0, .int .i64 20]) ∧ Drew w w' := by
  by_cases h : s < 0
  · go_enter Tryd.func90, Tryd.ntmps90
    go_wp2
    go_ret2
    exact ⟨rfl, Drew.refl _⟩
  · have h2 : 62 < s := by omega
    go_enter Tryd.func90, Tryd.ntmps90
    go_wp2
    go_ret2
    exact ⟨rfl, Drew.refl _⟩

set_option maxHeartbeats 400000 in
theorem refRound_ok (x : Int) (k : Nat) (w : World) (hx : I64 x) (hk : k ≤ 62) :
    Calls Tryd.prog 90 #[.int .i64 x, .int .i64 k] w fun e w' => e = .returned (.tuple #[.int .i64 (near x (2 ^ k)), .int .i64 0]) ∧ Drew w w' := by
  obtain ⟨p1, p2⟩ := pow62 k hk
  have hc := refNear_ok x (2 ^ k) w hx p1 (by omega)
  go_enter Tryd.func90, Tryd.ntmps90
  go_wp2
  go_loop [6, 7] (fun d i => ∃ j : Nat, j ≤ k ∧ i = .int .i64 j ∧ d = .int .i64 (2 ^ j)) (fun _ i => k - (intOf i).toNat)
  case atStart => exact ⟨0, by omega, rfl, rfl⟩
  case round =>
    obtain ⟨j, hj, rfl, rfl⟩ := hrel
    by_cases hlt : j < k
    · obtain ⟨q1, q2⟩ := pow62 j (by omega)
      obtain ⟨q3, q4⟩ := pow62 (j + 1) (by omega)
      have HE : Hid ((2 : Int) ^ (j + 1) = 2 ^ j * 2) := Int.pow_succ ..
      rw [Int.pow_succ] at q3 q4
      generalize (2 : Int) ^ j = P at *
      go_wp2
      go_round
      case rel => exact ⟨j + 1, by omega, by go_num, by rw [HE.out]⟩
      case measure => simp [intOf]; omega
    · obtain rfl : j = k := by omega
      go_wp2_with fail
      refine hc.mono ?_
      rintro e w1 ⟨rfl, hw1⟩
      go_wp2
      go_ret2
      exact ⟨rfl, hw1⟩

theorem refNear_any (x d : Int) (w : World) (hx : I64 x) (hd : I64 d) :
    Calls Tryd.prog 100 #[.int .i64 x, .int .i64 d] w fun e w' => e = .returned (.tuple #[.int .i64 (nrQ x d), .int .i64 (flE d)]) ∧ Drew w w' := by
  unfold nrQ flE
  rcases Int.lt_or_le d 1 with h | h
  · rw [if_pos h, if_pos h]; exact refNear_bad x d w h
  · rw [if_neg (by omega), if_neg (by omega)]; exact refNear_ok x d w hx h hd.2
theorem refRound_any (x s : Int) (w : World) (hx : I64 x) :
    Calls Tryd.prog 90 #[.int .i64 x, .int .i64 s] w fun e w' => e = .returned (.tuple #[.int .i64 (rdQ x s), .int .i64 (rdE s)]) ∧ Drew w w' := by
  unfold rdQ rdE
  by_cases h : s < 0 ∨ 62 < s
  · rw [if_pos h, if_pos h]; exact refRound_bad x s w h
  · rw [if_neg h, if_neg h]
    have := refRound_ok x s.toNat w hx (by omega)
    rwa [show ((s.toNat : Nat) : Int) = s by omega] at this

end Go.Proofs.YtakiimjldccgcabDoor
