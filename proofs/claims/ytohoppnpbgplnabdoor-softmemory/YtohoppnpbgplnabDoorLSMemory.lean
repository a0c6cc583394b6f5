/-
  For every list of scores and every list of rows the statement SoftMemory answers true: awake does; Weights and Means answer what the document says, also behind all that is stored into the lists that came out and appended to them: what is done to one of them shows in no other; its card, tied to the program's text.
-/
import Derived.Test.YtohoppnpbgplnabDoorSfX
import Derived.Test.YtohoppnpbgplnabDoorSfb
import Derived.Test.YtohoppnpbgplnabDoorSfw
import Derived.Test.YtohoppnpbgplnabDoorSfq
namespace Go.Proofs.YtohoppnpbgplnabDoor.SMemory
open Go.ChangeShapes Go.WideShapes Go.ChangeAt Go.RowKit Go.Lib Go.Maps

abbrev R6 (W : World) (v : Value) (L : List Int) : Prop := Rk .i64 (fun _ => True) W v L
abbrev R1 (W : World) (v : Value) (L : List Int) : Prop := Rk .i8 (fun _ => True) W v L
/-- The two lists that hold what came out. -/
abbrev M2 (B : Nat) (X : World) (lv : Value) (us : List Value) (F : Nat → List Int) (sv : Value) (vs : List Value) (G : Nat → List Int) : Prop :=
  MemK .i64 2 22 B X lv us F (LK 26 sv vs :: rws .i8 37 vs G)
theorem M2.start {w : World} (F G : Nat → List Int) : M2 w.heap.size ((w.alloc (.cells #[] 22)).alloc (.cells #[] 26)) (.slice (some ⟨w.heap.size, 0, none⟩) 0 0) [] F (.slice (some ⟨w.heap.size + 1, 0, none⟩) 0 0) [] G := by
  have h0 : Rs w.heap.size w [] := ⟨by simp, by simp⟩
  have f1 : Fresh w (w.alloc (.cells #[] 22)) := (Kept.refl _ w).alloc _
  have f2 : Fresh (w.alloc (.cells #[] 22)) ((w.alloc (.cells #[] 22)).alloc (.cells #[] 26)) := (Kept.refl _ _).alloc _
  have h1 := h0.made (r := LK 22 (.slice (some ⟨w.heap.size, 0, none⟩) 0 0) []) f1 (Nat.le_refl _) (own_empty w _ (Nat.le_refl _) _)
  have h2 := h1.made (r := LK 26 (.slice (some ⟨w.heap.size + 1, 0, none⟩) 0 0) []) f2 f1.size (by
    have := own_empty (w.alloc (.cells #[] 22)) _ (Nat.le_refl _) 26
    rw [World.size_alloc] at this
    unfold Rr.At
    rw [World.size_alloc]
    exact this)
  exact h2.perm (List.Perm.swap _ _ _)
/-- What came out once more comes into both lists. -/
theorem M2.more {B : Nat} {X W8 : World} {lv sv a b : Value} {us vs : List Value} {A M : List Int} (h : Rs B W8 (RK .i8 37 b M :: RK .i64 2 a A :: ((LK 22 lv us :: rws .i64 2 us (fun _ => A)) ++ (LK 26 sv vs :: rws .i8 37 vs (fun _ => M))))) (hX : X = W8) (hB : B ≤ W8.heap.size) (ha : a.oneCell' = true) (hb : b.oneCell' = true) (h1 : us.length ≤ 1000) (h2 : vs.length ≤ 1000) :
    ∃ lv' X1, (Builtin.append_ #[29, 29] 29 #[lv, .slice (some ⟨X.heap.size, 0, none⟩) 1 1]).run Tryd.prog (X.alloc (.cells #[a] 22)) = .ok lv' X1 ∧ ∃ sv' X2, (Builtin.append_ #[23, 23] 23 #[sv, .slice (some ⟨X1.heap.size, 0, none⟩) 1 1]).run Tryd.prog (X1.alloc (.cells #[b] 26)) = .ok sv' X2 ∧ M2 B X2 lv' (us ++ [a]) (fun _ => A) sv' (vs ++ [b]) (fun _ => M) ∧ ∀ W : World, W.heap.size = B → Fresh W X → Fresh W X2 := by
  subst hX
  have p1 : MemK .i64 2 22 B X lv us (fun _ => A) (RK .i64 2 a A :: RK .i8 37 b M :: (LK 26 sv vs :: rws .i8 37 vs (fun _ => M))) := by
    refine Rs.perm h ((List.Perm.swap _ _ _).trans ?_)
    exact List.perm_append_comm_assoc [RK .i64 2 a A, RK .i8 37 b M] (LK 22 lv us :: rws .i64 2 us (fun _ => A)) (LK 26 sv vs :: rws .i8 37 vs (fun _ => M))
  obtain ⟨lv', X1, r1, m1, f1⟩ := MemK.app tyL64 p1 hB ha h1
  have p2 : MemK .i8 37 26 B X1 sv vs (fun _ => M) (RK .i8 37 b M :: (LK 22 lv' (us ++ [a]) :: rws .i64 2 (us ++ [a]) (fun _ => A))) := by
    refine Rs.perm m1 ?_
    exact (List.perm_middle.trans ((List.perm_append_comm (l₁ := LK 22 lv' (us ++ [a]) :: rws .i64 2 (us ++ [a]) (fun _ => A)) (l₂ := LK 26 sv vs :: rws .i8 37 vs (fun _ => M))).cons _)).trans List.perm_middle.symm
  have hB1 : B ≤ X1.heap.size := by
    have hh : X1.ownsRow B 22 1 lv' (us ++ [a]).length (us ++ [a]) := Rs.head m1
    rcases hh.2 with ⟨_, e⟩ | ⟨g, _, _, _, hb', hh', _⟩
    · simp at e
    · have := lt_of_heap hh'; omega
  obtain ⟨sv', X2, r2, m2, f2⟩ := MemK.app tyL8 p2 hB1 hb h2
  exact ⟨lv', X1, r1, sv', X2, r2, m2.swap, fun W hW hF => f2 W hW (f1 W hW hF)⟩
theorem M2.shapes {B : Nat} {X : World} {lv sv : Value} {us vs : List Value} {F G : Nat → List Int} (h : M2 B X lv us F sv vs G) : (∃ ao c, lv = .slice ao us.length c) ∧ ∃ bo d, sv = .slice bo vs.length d :=
  ⟨ownsRow_shape (Rs.head h), ownsRow_shape (Rs.head h.swap)⟩
theorem own_someV {w : World} {B : Nat} {e : TypeId} {ao : Option Addr} {n cp : Nat} {xs : List Value} (h : w.ownsRow B e 1 (.slice ao n cp) n xs) (hn : 0 < n) : ∃ g, ao = some ⟨g, 0, none⟩ ∧ B ≤ g := by
  rcases h.2 with ⟨_, e0⟩ | ⟨g, cap, cur, hv, hb, _⟩
  · omega
  · injection hv with e1 _ _
    exact ⟨g, e1, hb⟩
def cA (p : Nat) : Int := -1 - (p : Int)
def cM (p : Nat) : Int := (p : Int)
theorem lenOf_dec (n m : Nat) (h : m < n) : n - (m + 1) < n - m := by omega
/-- The length of a list's value. -/
def lenV : Value → Nat
  | .slice _ n _ => n
  | _ => 0

set_option maxHeartbeats 40000000 in
set_option maxRecDepth 100000 in
theorem walk (lv gv : Value) (zs : List Int) (L : List (List Int)) (w : World) (hB : Bend w) (hl : Rk .i64 (fun b => b < w.heap.size) w lv zs) (hg : LL .i8 (fun b => b < w.heap.size) w gv L) :
    Calls Tryd.prog 3 #[lv, gv] w fun e w' => e = .returned (.bool true) ∧ Fresh w w' := by
  obtain ⟨t, W0, hr1, hF0, hR0⟩ := copy_of ty64 hl
  have HP : Hid (∀ W, Fresh W0 W → Bend W ∧ Rk .i64 (fun b => b < w.heap.size) W lv zs ∧ LL .i8 (fun b => b < w.heap.size) W gv L) := fun W hF => by
    have := hF0.trans hF (fun _ _ e => e)
    exact ⟨hB.fresh this, hl.fresh this, hg.fresh this⟩
  have H1 : Hid (Unit → _) := fun (_ : Unit) => refWeights_any _ _ zs W0 hR0
  have HF0 : Hid (Fresh w W0) := hF0
  have HA0 : Hid (((woL zs).length * kb .i64 ≤ 140737488351232 ∧ ∀ z ∈ woL zs, Fit .i64 z) ∧ (woL zs).length ≤ 512) := ⟨⟨woL_room zs, woL_fit zs⟩, woL_len zs⟩
  have HM0 : Hid (∀ ws, ((msL ws L).length * kb .i8 ≤ 140737488351232 ∧ ∀ z ∈ msL ws L, Fit .i8 z) ∧ (msL ws L).length ≤ 140737488351232) := fun ws => by
    have h1 := msL_len ws L
    have h2 := hg.room
    simp only [kb, Nat.mul_one] at h2
    exact ⟨⟨by simp only [kb]; omega, msL_fit hg.c8⟩, by omega⟩
  have hmany := hg.many
  obtain ⟨lo, lc, rfl, _⟩ := hl.shape
  obtain ⟨go, gc, rfl, _⟩ := hg.shape
  obtain ⟨to, tc, rfl, _⟩ := hR0.shape
  obtain ⟨A, hA⟩ : ∃ A, woL zs = A := ⟨_, rfl⟩
  rw [hA] at H1 HA0
  obtain ⟨n, hn⟩ : ∃ n, L.length = n := ⟨_, rfl⟩
  have HWe : Hid (∀ W, Fresh W0 W → Calls Tryd.prog 8 #[.slice lo zs.length lc] W fun e w' => Gives .i64 2 A (wE zs.length) W e w') := fun W hF => by
    rw [← hA]
    exact Weights_any _ _ zs W (HP.out W hF).1 (HP.out W hF).2.1
  have HMe : Hid (∀ W v ws, Fresh W0 W → R6 W v ws → Calls Tryd.prog 9 #[v, .slice go n gc] W fun e w' => Gives .i8 37 (msL ws L) (msE ws L) W e w') := fun W v ws hF hv => by
    have := Means_any _ _ v _ ws L W hv (HP.out W hF).2.2
    rw [hn] at this
    exact this
  have HMr : Hid (∀ W v ws, Fresh W0 W → R6 W v ws → Calls Tryd.prog 7 #[v, .slice go n gc] W fun e w' => Gives .i8 37 (msL ws L) (msE ws L) W e w') := fun W v ws hF hv => by
    have := refMeans_any _ _ v _ ws L W hv (HP.out W hF).2.2
    rw [hn] at this
    exact this
  have HBd : Hid (∀ W, Fresh W0 W → Bend W) := fun W hF => (HP.out W hF).1
  rw [hn] at hmany ⊢
  clear hl hg hB hR0 hF0 HP hA hn
  generalize wE zs.length = E1 at *
  generalize zs.length = nz at *
  go_enter Tryd.func3, Tryd.ntmps3
  go_wp2_with (at_builtin; refine Lib.wpList_append_run _ rfl _ _ _ _ rfl _ _ rfl rfl _ _ hr1 ?_; clear hr1)
  refine (H1.out ()).mono ?_
  rintro e w1 hG
  obtain ⟨v1, rfl, hR1, hF1⟩ := hG.row HA0.out.1.1 HA0.out.1.2
  obtain ⟨vo, vc, rfl, _⟩ := hR1.shape
  have HR1 : Hid (∀ W, Fresh w1 W → R6 W (.slice vo A.length vc) A) := fun W hF => (hR1.fresh hF).mono (fun _ _ => trivial)
  have HF1 : Hid (Fresh W0 w1) := hF1
  have hFe : Fresh w1 (w1.alloc (.cells #[] 2)) := (Kept.refl _ w1).alloc _
  obtain ⟨t2, W2, hr2, ho2, hg2⟩ := twin ty64 22 (w1.alloc (.cells #[] 2)) w1.heap.size _ [] (own_empty w1 _ (Nat.le_refl _) _) hFe.size _ A _ (hR1.fresh hFe) (by have := HA0.out.1.1; simpa using this)
  simp only [List.length_nil, Nat.zero_add, List.nil_append] at ho2
  obtain ⟨o2, c2, ht2⟩ := ownsRow_shape ho2
  subst ht2
  have HS2 : Hid (W2.ownsRow w1.heap.size 2 1 (.slice o2 A.length c2) A.length ((A ++ List.replicate (A.length - A.length) 1).map zV) ∧ Fresh w1 W2) := ⟨by rw [Nat.sub_self, List.replicate_zero, List.append_nil]; exact ho2, hFe.grown hg2 (fun k hk e => by simp [Value.ownBlock] at e; omega)⟩
  clear H1 hG hR1 hF1 hFe ho2 hg2
  generalize hnA : A.length = nA at *
  have HnA : Hid (A.length = nA) := hnA
  clear hnA
  go_wp2_with (at_builtin; refine Lib.wpList_append_run _ rfl _ _ _ _ rfl _ _ rfl rfl _ _ hr2 ?_; clear hr2)
  go_loopw [7] (fun wv wr => ∃ (m : Nat) (ao : Option Addr) (cp : Nat), wv = .slice ao m cp ∧ nA ≤ m ∧ (m ≤ n ∨ m = nA) ∧ Hid (wr.ownsRow w1.heap.size 2 1 (.slice ao m cp) m ((A ++ List.replicate (m - nA) 1).map zV) ∧ Fresh w1 wr)) (fun wv _ => n - lenV wv)
  case atStart => exact ⟨nA, o2, c2, rfl, Nat.le_refl _, .inr rfl, HS2.out⟩
  case round =>
    obtain ⟨m, ao, cp, rfl, hm1, hm2, HA⟩ := hrel
    clear HS2
    by_cases hlt : m < n
    · have hlt' : (m : Int) < (n : Int) := by omega
      obtain ⟨v', X', hr3, ho3, hk3⟩ := pushV ty64 wr w1.heap.size _ m _ 1 HA.out.1 (by simp only [kb]; omega) HA.out.2.size
      obtain ⟨ao', cp', hv'⟩ := ownsRow_shape ho3
      subst hv'
      have HX : Hid (X'.ownsRow w1.heap.size 2 1 (.slice ao' (m + 1) cp') (m + 1) ((A ++ List.replicate (m + 1 - nA) 1).map zV) ∧ Fresh w1 X') := by
        have e1 := ww_snoc (A := A) (m := m) (by rw [HnA.out]; exact hm1)
        rw [HnA.out] at e1
        rw [e1] at ho3
        exact ⟨ho3, HA.out.2.trans hk3 (fun i hi e => by have := own_ge HA.out.1 e; omega)⟩
      clear HA ho3 hk3
      go_wp2_with (at_builtin; refine Lib.wpList_append_run _ rfl _ _ _ _ rfl _ _ rfl rfl _ _ hr3 ?_)
      go_roundw
      case rel => exact ⟨m + 1, ao', cp', rfl, by omega, .inl hlt, HX.out⟩
      case measure => simp [lenV]; omega
    · obtain ⟨⟨bo, rfl⟩, hcp⟩ := own_opt HA.out.1
      have hsl := fun W => run_upO bo m cp n (by omega) W
      have hfull : R6 wr (.slice (bo.map fun g => ⟨g, 0, none⟩) m cp) (A ++ List.replicate (m - nA) 1) := (rk_of_own HA.out.1 (by
        have := HA0.out.2
        simp only [List.length_append, List.length_replicate, HnA.out, kb]
        omega) (fun z hz => by
        rcases List.mem_append.1 hz with e | e
        · exact HA0.out.1.2 z e
        · rw [List.eq_of_mem_replicate e]; exact ⟨by decide, by decide⟩)).mono (fun _ _ => trivial)
      have hW := rk_take hfull (n := n) (by omega)
      have eww : (A ++ List.replicate (m - nA) 1).take n = wwL A n := by
        have := ww_eq (A := A) (m := m) (n := n) (by rw [HnA.out]; exact hm1) (by omega) (by rw [HnA.out]; exact hm2)
        rw [HnA.out] at this
        exact this
      rw [eww] at hW
      clear eww
      obtain ⟨ws, hws⟩ : ∃ ws, wwL A n = ws := ⟨_, rfl⟩
      rw [hws] at hW
      have hF01 : Fresh W0 wr := HF1.out.trans HA.out.2 (fun _ _ e => e)
      have H2 : Hid (Unit → _) := fun (_ : Unit) => HMr.out wr _ ws hF01 hW
      have HW : Hid (∀ W, Fresh wr W → R6 W (.slice (bo.map fun g => ⟨g, 0, none⟩) n cp) ws) := fun W hF => hW.fresh hF
      have HFa : Hid (Fresh w1 wr ∧ Fresh W0 wr) := ⟨HA.out.2, hF01⟩
      have hmn : (n : Int) ≤ (cp : Int) := by omega
      clear HA hfull hW hF01 HMr hws
      generalize (bo.map fun g => (⟨g, 0, none⟩ : Addr)) = wo at *
      go_wp2_with fail
      refine (H2.out ()).mono ?_
      rintro e w4 hG
      obtain ⟨M, hM⟩ : ∃ M, msL ws L = M := ⟨_, rfl⟩
      have HM1 := HM0.out ws
      rw [hM] at hG HM1
      have HMw : Hid (∀ W v, Fresh W0 W → R6 W v ws → Calls Tryd.prog 9 #[v, .slice go n gc] W fun e w' => Gives .i8 37 M (msE ws L) W e w') := fun W v hF hv => by rw [← hM]; exact HMe.out W v ws hF hv
      obtain ⟨v4, rfl, hR4, hF4⟩ := hG.row HM1.1.1 HM1.1.2
      obtain ⟨fo, fc, rfl, _⟩ := hR4.shape
      have HM1 : Hid _ := HM1
      have HQ : Hid (∀ W, Fresh w4 W → (Fresh w W ∧ Fresh W0 W ∧ Bend W) ∧ R6 W (.slice vo nA vc) A ∧ R6 W (.slice wo n cp) ws ∧ R1 W (.slice fo M.length fc) M) := fun W hF => by
        have h1 : Fresh wr W := hF4.trans hF (fun _ _ e => e)
        have h2 := HFa.out.2.trans h1 (fun _ _ e => e)
        exact ⟨⟨HF0.out.trans h2 (fun _ _ e => e), h2, HBd.out W h2⟩, HR1.out W (HFa.out.1.trans h1 (fun _ _ e => e)), HW.out W h1, (hR4.fresh hF).mono (fun _ _ => trivial)⟩
      have hS := M2.start (w := w4) (fun _ => A) (fun _ => M)
      have hFS : Fresh w4 ((w4.alloc (.cells #[] 22)).alloc (.cells #[] 26)) := ((Kept.refl _ w4).alloc _).alloc _
      have HS : Hid (M2 w4.heap.size ((w4.alloc (.cells #[] 22)).alloc (.cells #[] 26)) (.slice (some ⟨w4.heap.size, 0, none⟩) 0 0) [] (fun _ => A) (.slice (some ⟨w4.heap.size + 1, 0, none⟩) 0 0) [] (fun _ => M) ∧ Fresh w4 ((w4.alloc (.cells #[] 22)).alloc (.cells #[] 26))) := ⟨hS, hFS⟩
      obtain ⟨nM, hnM⟩ : ∃ nM, M.length = nM := ⟨_, rfl⟩
      have HnM : Hid (M.length = nM ∧ nM ≤ 140737488351232) := ⟨hnM, by rw [← hnM]; exact HM1.out.2⟩
      generalize msE ws L = E4 at *
      clear H2 hG hR4 hF4 hS hFS HFa HR1 HF1 HF0 HBd HMe HM0 hM hsl hnM HW
      obtain ⟨X0, hX0⟩ : ∃ X0, (w4.alloc (.cells #[] 22)).alloc (.cells #[] 26) = X0 := ⟨_, rfl⟩
      rw [hX0] at HS
      go_wp2
      clear hX0
      go_loopw [10, 11, 12] (fun lv sv iv wr => ∃ (i : Nat) (us vs : List Value) (a0 b0 : Option Addr) (a1 b1 : Nat), i ≤ 3 ∧ iv = zV i ∧ lv = .slice a0 i a1 ∧ sv = .slice b0 i b1 ∧ Hid ((us.length = i ∧ vs.length = i) ∧ M2 w4.heap.size wr (.slice a0 i a1) us (fun _ => A) (.slice b0 i b1) vs (fun _ => M) ∧ Fresh w4 wr)) (fun _ _ iv _ => 3 - (RowKit.intOf iv).toNat)
      case atStart => exact ⟨0, [], [], _, _, _, _, Nat.zero_le _, rfl, rfl, rfl, ⟨rfl, rfl⟩, HS.out⟩
      case round =>
        obtain ⟨i, us, vs, la, sa, lc', sc', hi, rfl, rfl, rfl, HA⟩ := hrel
        clear HS
        by_cases hi3 : i < 3
        · have hi3' : (i : Int) < 3 := by omega
          obtain ⟨⟨hlu, hlv⟩, hMem, hFr⟩ := HA.out
          obtain ⟨Wr, hWr⟩ : ∃ Wr, Wr = wr := ⟨_, rfl⟩
          rw [← hWr] at hMem hFr
          rw [← hWr]
          clear hWr HA
          have H5 : Hid (Unit → _) := fun (_ : Unit) => HWe.out Wr (HQ.out Wr hFr).1.2.1
          have HMem : Hid (M2 w4.heap.size Wr (.slice la i lc') us (fun _ => A) (.slice sa i sc') vs (fun _ => M) ∧ Fresh w4 Wr) := ⟨hMem, hFr⟩
          clear hMem hFr
          go_wp2_with fail
          refine (H5.out ()).mono ?_
          rintro e w5 ⟨a, rfl, hoa, hF5⟩
          have hz5 := rk_of_own hoa (by rw [HnA.out]; exact HA0.out.1.1) HA0.out.1.2
          obtain ⟨ao5, ac5, ea⟩ := ownsRow_shape hoa
          rw [HnA.out] at ea
          subst ea
          have hF45 : Fresh w4 w5 := HMem.out.2.trans hF5 (fun _ _ e => e)
          have hm5 := Rs.made (r := RK .i64 2 (.slice ao5 nA ac5) A) HMem.out.1 hF5 HMem.out.2.size (by unfold Rr.At; simpa using hoa)
          have H6 : Hid (Unit → _) := fun (_ : Unit) => HMw.out w5 _ (HQ.out w5 hF45).1.2.1 (HQ.out w5 hF45).2.2.1
          have HR5 : Hid (∀ W, Fresh w5 W → R6 W (.slice ao5 nA ac5) A) := fun W hF => (hz5.fresh hF).mono (fun _ _ => trivial)
          have HM5 : Hid (_ ∧ Fresh w4 w5) := ⟨hm5, hF45⟩
          clear H5 hoa hF5 hF45 hm5 HMem hz5
          go_wp2_with fail
          refine (H6.out ()).mono ?_
          rintro e w6 ⟨b, rfl, hob, hF6⟩
          have hz6 := rk_of_own hob HM1.out.1.1 HM1.out.1.2
          obtain ⟨bo6, bc6, eb⟩ := ownsRow_shape hob
          rw [HnM.out.1] at eb
          subst eb
          have hF46 : Fresh w4 w6 := HM5.out.2.trans hF6 (fun _ _ e => e)
          have hm6 := Rs.made (r := RK .i8 37 (.slice bo6 nM bc6) M) HM5.out.1 hF6 HM5.out.2.size (by unfold Rr.At; simpa using hob)
          have HR6 : Hid (∀ W, Fresh w6 W → R1 W (.slice bo6 nM bc6) M) := fun W hF => (hz6.fresh hF).mono (fun _ _ => trivial)
          have H7 : Hid (Unit → _) := fun (_ : Unit) => longs_any _ _ _ _ A w6 (HR5.out w6 hF6) (HQ.out w6 hF46).2.1
          have HM6 : Hid (_ ∧ Fresh w4 w6) := ⟨hm6, hF46⟩
          clear H6 hob hF6 hF46 hm6 HM5 HR5 hz6
          go_wp2_with fail
          refine (H7.out ()).mono ?_
          rintro e w7 ⟨rfl, n7, hw7⟩
          have hF7 : Fresh w6 w7 := by rw [hw7]; exact kept_drewN _ _ _
          have H8 : Hid (Unit → _) := fun (_ : Unit) => rows_any _ _ _ _ M w7 (HR6.out w7 hF7) (HQ.out w7 (HM6.out.2.trans hF7 (fun _ _ e => e))).2.2.2
          have HF7 : Hid (Fresh w6 w7) := hF7
          clear H7 hw7 hF7 HR6
          go_wp2_with fail
          refine (H8.out ()).mono ?_
          rintro e w8 ⟨rfl, n8, hw8⟩
          have hF8 : Fresh w6 w8 := by rw [hw8]; exact HF7.out.drewN n8
          obtain ⟨lv2, X1, hq1, sv2, X2, hq2, hM9, hF9⟩ := M2.more (X := w8) (HM6.out.1.fresh hF8) rfl (HM6.out.2.trans hF8 (fun _ _ e => e)).size rfl rfl (by omega) (by omega)
          have hl9 : (us ++ [Value.slice ao5 nA ac5]).length = i + 1 ∧ (vs ++ [Value.slice bo6 nM bc6]).length = i + 1 := ⟨by simp [hlu], by simp [hlv]⟩
          obtain ⟨⟨la2, lc2, el2⟩, sa2, sc2, es2⟩ := hM9.shapes
          rw [hl9.1] at el2
          rw [hl9.2] at es2
          subst el2
          subst es2
          have HX : Hid (((us ++ [Value.slice ao5 nA ac5]).length = i + 1 ∧ (vs ++ [Value.slice bo6 nM bc6]).length = i + 1) ∧ M2 w4.heap.size X2 (.slice la2 (i + 1) lc2) (us ++ [Value.slice ao5 nA ac5]) (fun _ => A) (.slice sa2 (i + 1) sc2) (vs ++ [Value.slice bo6 nM bc6]) (fun _ => M) ∧ Fresh w4 X2) := ⟨hl9, hM9, hF9 w4 rfl (HM6.out.2.trans hF8 (fun _ _ e => e))⟩
          clear H8 hw8 hF8 hM9 hF9 HM6 HF7 hl9
          go_wp2_with (at_builtin; first | (refine Lib.wpList_append_run _ rfl _ _ _ _ rfl _ _ rfl rfl _ _ hq1 ?_; clear hq1) | (refine Lib.wpList_append_run _ rfl _ _ _ _ rfl _ _ rfl rfl _ _ hq2 ?_; clear hq2))
          go_roundw
          case rel => exact ⟨i + 1, _, _, la2, sa2, lc2, sc2, hi3, by go_num, rfl, rfl, HX.out⟩
          case measure => simp [RowKit.intOf]; omega
        · obtain rfl : i = 3 := by omega
          obtain ⟨⟨hlu, hlv⟩, hMem, hFr⟩ := HA.out
          obtain ⟨gl, lcc, ell, _⟩ := hMem.cell (p := 0) (by omega)
          obtain ⟨gs, scc, ess, _⟩ := hMem.swap.cell (p := 0) (by omega)
          rw [hlu] at ell
          rw [hlv] at ess
          injection ell with ell1 _ ell3
          injection ess with ess1 _ ess3
          subst ell1 ell3 ess1 ess3
          have HLu : Hid (us.length = 3 ∧ vs.length = 3) := ⟨hlu, hlv⟩
          have HCl : Hid (∀ (X : World) (F G : Nat → List Int), M2 w4.heap.size X (.slice (some ⟨gl, 0, none⟩) 3 lc') us F (.slice (some ⟨gs, 0, none⟩) 3 sc') vs G → ∀ p, p < 3 → X.cell? ⟨gl, p, none⟩ = some (us.getD p nilV) ∧ X.cell? ⟨gs, p, none⟩ = some (vs.getD p nilV)) := fun X F G h p hp => by
            obtain ⟨g1, c1, e1, h1⟩ := h.cell (p := p) (by rw [HLu.out.1]; exact hp)
            obtain ⟨g2, c2, e2, h2⟩ := h.swap.cell (p := p) (by rw [HLu.out.2]; exact hp)
            injection e1 with e1 _ _
            injection e1 with e1
            injection e1 with e1
            injection e2 with e2 _ _
            injection e2 with e2
            injection e2 with e2
            subst e1 e2
            exact ⟨h1, h2⟩
          have HRl : Hid (∀ (X : World) (F G : Nat → List Int), M2 w4.heap.size X (.slice (some ⟨gl, 0, none⟩) 3 lc') us F (.slice (some ⟨gs, 0, none⟩) 3 sc') vs G → ∀ p, p < 3 → X.ownsRow w4.heap.size 2 1 (us.getD p nilV) (F p).length ((F p).map (Value.int .i64)) ∧ X.ownsRow w4.heap.size 37 1 (vs.getD p nilV) (G p).length ((G p).map (Value.int .i8))) := fun X F G h p hp => ⟨h.row (by rw [HLu.out.1]; exact hp), h.swap.row (by rw [HLu.out.2]; exact hp)⟩
          have HSt : Hid (M2 w4.heap.size wr (.slice (some ⟨gl, 0, none⟩) 3 lc') us (fun _ => A) (.slice (some ⟨gs, 0, none⟩) 3 sc') vs (fun _ => M) ∧ Fresh w4 wr ∧ Mar cA nA 0 0 (fun _ => A) ∧ Mar cM nM 0 0 (fun _ => M)) := ⟨hMem, hFr, Mar.start (fun _ _ => HnA.out), Mar.start (fun _ _ => HnM.out.1)⟩
          clear HA hMem hFr hlu hlv
          rw [show ((3 : Nat) : Int) = 3 from rfl]
          go_wp2
          go_loopw [17] (fun iv wx => ∃ (i : Nat) (F G : Nat → List Int), i ≤ 3 ∧ iv = zV i ∧ Hid (M2 w4.heap.size wx (.slice (some ⟨gl, 0, none⟩) 3 lc') us F (.slice (some ⟨gs, 0, none⟩) 3 sc') vs G ∧ Fresh w4 wx ∧ Mar cA nA i 0 F ∧ Mar cM nM i 0 G)) (fun iv _ => 3 - (RowKit.intOf iv).toNat)
          case atStart => exact ⟨0, _, _, Nat.zero_le _, rfl, HSt.out⟩
          case round =>
            obtain ⟨i, F, G, hi, rfl, HA⟩ := hrel
            clear HSt
            by_cases hi3 : i < 3
            · have hi3' : (i : Int) < 3 := by omega
              obtain ⟨uo, uc, hu⟩ := ownsRow_shape ((HRl.out _ F G HA.out.1 i hi3).1)
              obtain ⟨xo, xc, hx⟩ := ownsRow_shape ((HRl.out _ F G HA.out.1 i hi3).2)
              rw [HA.out.2.2.1.1 i hi3] at hu
              rw [HA.out.2.2.2.1 i hi3] at hx
              have HU : Hid (us.getD i nilV = .slice uo nA uc ∧ vs.getD i nilV = .slice xo nM xc) := ⟨hu, hx⟩
              have HB : Hid (∃ F, M2 w4.heap.size wr (.slice (some ⟨gl, 0, none⟩) 3 lc') us F (.slice (some ⟨gs, 0, none⟩) 3 sc') vs G ∧ Fresh w4 wr ∧ Mar cA nA i 0 F) := ⟨F, HA.out.1, HA.out.2.1, HA.out.2.2.1⟩
              have HG : Hid (Mar cM nM i 0 G) := HA.out.2.2.2
              clear HA hu hx
              go_wp2
              go_loopw [18] (fun jv wx => ∃ j : Nat, j ≤ nA ∧ jv = zV j ∧ Hid (∃ F, M2 w4.heap.size wx (.slice (some ⟨gl, 0, none⟩) 3 lc') us F (.slice (some ⟨gs, 0, none⟩) 3 sc') vs G ∧ Fresh w4 wx ∧ Mar cA nA i j F)) (fun jv _ => nA - (RowKit.intOf jv).toNat)
              case atStart => exact ⟨0, Nat.zero_le _, rfl, HB.out⟩
              case round =>
                obtain ⟨j, hj, rfl, HA⟩ := hrel
                clear HB
                obtain ⟨F', hM', hFr', hMa⟩ := HA.out
                have x1 := (HCl.out _ F' G hM' i hi3).1
                rw [HU.out.1] at x1
                by_cases hjr : j < nA
                · have hjr' : (j : Int) < (nA : Int) := by omega
                  have hnA := HA0.out.2
                  have ho := (HRl.out _ F' G hM' i hi3).1
                  rw [HU.out.1, hMa.1 i hi3] at ho
                  obtain ⟨g, rfl, _⟩ := own_someV ho (by omega)
                  have f1 := own_frozen ho j
                  have g1 := own_get ho j hjr
                  have hgB := (own_block ho).1
                  have HX : Hid (∃ F, M2 w4.heap.size (wr.setCell ⟨g, j, none⟩ (.int .i64 (cA i))) (.slice (some ⟨gl, 0, none⟩) 3 lc') us F (.slice (some ⟨gs, 0, none⟩) 3 sc') vs G ∧ Fresh w4 (wr.setCell ⟨g, j, none⟩ (.int .i64 (cA i))) ∧ Mar cA nA i (j + 1) F) := ⟨_, hM'.store (by rw [HLu.out.1]; exact hi3) HU.out.1 j (cA i), hFr'.setCell (fun e => by have : g < w4.heap.size := e; omega) _, hMa.set hi3 hjr⟩
                  rw [show cA i = -1 - (i : Int) from rfl] at HX
                  clear HA ho hM' hFr' hMa hgB
                  generalize (F' i).getD j 0 = old at *
                  go_wp2
                  go_roundw
                  case rel => exact ⟨j + 1, hjr, by go_num, HX.out⟩
                  case measure => simp [RowKit.intOf]; omega
                · obtain rfl : j = nA := by omega
                  have HB : Hid (∃ G, M2 w4.heap.size wr (.slice (some ⟨gl, 0, none⟩) 3 lc') us F' (.slice (some ⟨gs, 0, none⟩) 3 sc') vs G ∧ Fresh w4 wr ∧ Mar cM nM i 0 G) := ⟨G, hM', hFr', HG.out⟩
                  have HF' : Hid (Mar cA j (i + 1) 0 F') := hMa.next
                  clear HA hM' hFr' hMa HG
                  go_wp2
                  clear x1
                  go_loopw [19] (fun jv wx => ∃ q : Nat, q ≤ nM ∧ jv = zV q ∧ Hid (∃ G, M2 w4.heap.size wx (.slice (some ⟨gl, 0, none⟩) 3 lc') us F' (.slice (some ⟨gs, 0, none⟩) 3 sc') vs G ∧ Fresh w4 wx ∧ Mar cM nM i q G)) (fun jv _ => nM - (RowKit.intOf jv).toNat)
                  case atStart => exact ⟨0, Nat.zero_le _, rfl, HB.out⟩
                  case round =>
                    obtain ⟨q, hq, rfl, HA⟩ := hrel
                    clear HB
                    obtain ⟨G', hM', hFr', hMa⟩ := HA.out
                    have x1 := (HCl.out _ F' G' hM' i hi3).2
                    rw [HU.out.2] at x1
                    have hnM := HnM.out.2
                    by_cases hqr : q < nM
                    · have hqr' : (q : Int) < (nM : Int) := by omega
                      have ho := (HRl.out _ F' G' hM' i hi3).2
                      rw [HU.out.2, hMa.1 i hi3] at ho
                      obtain ⟨g, rfl, _⟩ := own_someV ho (by omega)
                      have f1 := own_frozen ho q
                      have g1 := own_get ho q hqr
                      have hgB := (own_block ho).1
                      have HX : Hid (∃ G, M2 w4.heap.size (wr.setCell ⟨g, q, none⟩ (.int .i8 (cM i))) (.slice (some ⟨gl, 0, none⟩) 3 lc') us F' (.slice (some ⟨gs, 0, none⟩) 3 sc') vs G ∧ Fresh w4 (wr.setCell ⟨g, q, none⟩ (.int .i8 (cM i))) ∧ Mar cM nM i (q + 1) G) := ⟨_, (hM'.swap.store (by rw [HLu.out.2]; exact hi3) HU.out.2 q (cM i)).swap, hFr'.setCell (fun e => by have : g < w4.heap.size := e; omega) _, hMa.set hi3 hqr⟩
                      rw [show cM i = (i : Int) from rfl] at HX
                      clear HA ho hM' hFr' hMa hgB
                      generalize (G' i).getD q 0 = old at *
                      go_wp2
                      go_roundw
                      case rel => exact ⟨q + 1, hqr, by go_num, HX.out⟩
                      case measure => simp [RowKit.intOf]; omega
                    · obtain rfl : q = nM := by omega
                      have HE : Hid (M2 w4.heap.size wr (.slice (some ⟨gl, 0, none⟩) 3 lc') us F' (.slice (some ⟨gs, 0, none⟩) 3 sc') vs G' ∧ Fresh w4 wr ∧ Mar cA j (i + 1) 0 F' ∧ Mar cM q (i + 1) 0 G') := ⟨hM', hFr', HF'.out, hMa.next⟩
                      clear HA hM' hFr' hMa HF'
                      go_wp2
                      go_roundw
                      case rel => exact ⟨i + 1, F', G', hi3, by go_num, HE.out⟩
                      case measure => simp [RowKit.intOf]; omega
            · obtain rfl : i = 3 := by omega
              have HFG : Hid (Mar cA nA 3 0 F ∧ Mar cM nM 3 0 G) := HA.out.2.2
              have HSt : Hid (M2 w4.heap.size wr (.slice (some ⟨gl, 0, none⟩) 3 lc') us F (.slice (some ⟨gs, 0, none⟩) 3 sc') vs G ∧ Fresh w4 wr) := ⟨HA.out.1, HA.out.2.1⟩
              clear HA
              rw [show ((3 : Nat) : Int) = 3 from rfl]
              go_wp2
              go_loopw [20] (fun iv wx => ∃ i : Nat, i ≤ 3 ∧ iv = zV i ∧ Hid (M2 w4.heap.size wx (.slice (some ⟨gl, 0, none⟩) 3 lc') us F (.slice (some ⟨gs, 0, none⟩) 3 sc') vs G ∧ Fresh w4 wx)) (fun iv _ => 3 - (RowKit.intOf iv).toNat)
              case atStart => exact ⟨0, Nat.zero_le _, rfl, HSt.out⟩
              case round =>
                obtain ⟨i, hi, rfl, HA⟩ := hrel
                clear HSt
                by_cases hi3 : i < 3
                · have hi3' : (i : Int) < 3 := by omega
                  obtain ⟨x1, x2⟩ := HCl.out _ F G HA.out.1 i hi3
                  obtain ⟨uo, uc, hu⟩ := ownsRow_shape ((HRl.out _ F G HA.out.1 i hi3).1)
                  obtain ⟨xo, xc, hx⟩ := ownsRow_shape ((HRl.out _ F G HA.out.1 i hi3).2)
                  rw [HFG.out.1.1 i hi3] at hu
                  rw [HFG.out.2.1 i hi3] at hx
                  obtain ⟨l, hfront⟩ := MemK.front (k := .i64) (k' := .i8) (e := 2) (s := 22) (e' := 37) (s' := 26) (B := w4.heap.size) (kv := .slice (some ⟨gl, 0, none⟩) 3 lc') (kv' := .slice (some ⟨gs, 0, none⟩) 3 sc') (us := us) (us' := vs) (F := F) (F' := G) (p := i) (by rw [HLu.out.1]; exact hi3) (by rw [HLu.out.2]; exact hi3)
                  have hl1 : ((F i).map (Value.int .i64)).length = nA := by rw [List.length_map]; exact HFG.out.1.1 i hi3
                  have hl2 : ((G i).map (Value.int .i8)).length = nM := by rw [List.length_map]; exact HFG.out.2.1 i hi3
                  have HFro : Hid (∀ X, M2 w4.heap.size X (.slice (some ⟨gl, 0, none⟩) 3 lc') us F (.slice (some ⟨gs, 0, none⟩) 3 sc') vs G ↔ Rs w4.heap.size X (RK .i64 2 (us.getD i nilV) (F i) :: RK .i8 37 (vs.getD i nilV) (G i) :: l)) := hfront
                  have HBs : Hid (∀ d, G2 w4.heap.size (wr.drewN d) (RK .i64 2 (us.getD i nilV) (F i)) (RK .i8 37 (vs.getD i nilV) (G i)) l (.slice uo nA uc) (nA + 0) (.slice xo nM xc) (nM + 0) ∧ Fresh w4 (wr.drewN d)) := fun d => by
                    have h := G2.start ((HFro.out _).1 (HA.out.1.fresh (kept_drewN _ _ d)))
                    have h1 : (RK .i64 2 (us.getD i nilV) (F i)).xs.length = nA := hl1
                    have h2 : (RK .i8 37 (vs.getD i nilV) (G i)).xs.length = nM := hl2
                    rw [h1, h2] at h
                    have h3 : (RK .i64 2 (us.getD i nilV) (F i)).v = .slice uo nA uc := hu
                    have h4 : (RK .i8 37 (vs.getD i nilV) (G i)).v = .slice xo nM xc := hx
                    rw [h3, h4] at h
                    exact ⟨h, HA.out.2.drewN d⟩
                  rw [hu] at x1
                  rw [hx] at x2
                  have hnM := HnM.out.2
                  have hnA := HA0.out.2
                  clear HA hu hx hfront hl1 hl2
                  go_wp2_with fail
                  go_quiet (fail)
                  have HB : Hid _ := HBs.out nq
                  clear HBs x1 x2
                  generalize wr.drewN nq = wq at *
                  go_wp2
                  go_loopw [21, 22, 23] (fun gv hv jv wx => ∃ (q : Nat) (g0 h0 : Option Addr) (g1 h1 : Nat), q ≤ 20 ∧ jv = zV q ∧ gv = .slice g0 (nA + q) g1 ∧ hv = .slice h0 (nM + q) h1 ∧ Hid (G2 w4.heap.size wx (RK .i64 2 (us.getD i nilV) (F i)) (RK .i8 37 (vs.getD i nilV) (G i)) l (.slice g0 (nA + q) g1) (nA + q) (.slice h0 (nM + q) h1) (nM + q) ∧ Fresh w4 wx)) (fun _ _ jv _ => 20 - (RowKit.intOf jv).toNat)
                  case atStart => exact ⟨0, _, _, _, _, Nat.zero_le _, rfl, rfl, rfl, HB.out⟩
                  case round =>
                    obtain ⟨q, ga, ha, gc1, hc1, hq, rfl, rfl, rfl, HA⟩ := hrel
                    clear HB
                    by_cases hq20 : q < 20
                    · have hq20' : (q : Int) < 20 := by omega
                      obtain ⟨gv2, Y1, hr5, hG5, hB5, hF5⟩ := G2.push ty64 HA.out.1 HA.out.2.size 77 (by omega) (by simp only [kb]; omega)
                      obtain ⟨hv2, Y2, hr6, hG6, hB6, hF6⟩ := G2.push ty8 hG5.swap hB5 77 (by omega) (by simp only [kb]; omega)
                      obtain ⟨ga2, gc2, eg⟩ := hG6.2.1.shape
                      obtain ⟨ha2, hc2, eh⟩ := hG6.1.shape
                      subst eg
                      subst eh
                      have HX : Hid (G2 w4.heap.size Y2 (RK .i64 2 (us.getD i nilV) (F i)) (RK .i8 37 (vs.getD i nilV) (G i)) l (.slice ga2 (nA + (q + 1)) gc2) (nA + (q + 1)) (.slice ha2 (nM + (q + 1)) hc2) (nM + (q + 1)) ∧ Fresh w4 Y2) := ⟨hG6.swap, hF6 w4 rfl (hF5 w4 rfl HA.out.2)⟩
                      clear HA hG5 hB5 hF5 hG6 hB6 hF6
                      go_wp2_with (at_builtin; first | (refine Lib.wpList_append_run _ rfl _ _ _ _ rfl _ _ rfl rfl _ _ hr5 ?_; clear hr5) | (refine Lib.wpList_append_run _ rfl _ _ _ _ rfl _ _ rfl rfl _ _ hr6 ?_; clear hr6))
                      go_roundw
                      case rel => exact ⟨q + 1, ga2, ha2, gc2, hc2, hq20, by go_num, rfl, rfl, HX.out⟩
                      case measure => simp [RowKit.intOf]; omega
                    · obtain rfl : q = 20 := by omega
                      have HE : Hid (M2 w4.heap.size _ (.slice (some ⟨gl, 0, none⟩) 3 lc') us F (.slice (some ⟨gs, 0, none⟩) 3 sc') vs G ∧ Fresh w4 _) := ⟨(HFro.out _).2 HA.out.1.1.1, HA.out.2⟩
                      clear HA
                      rw [show ((20 : Nat) : Int) = 20 from rfl]
                      go_wp2
                      go_roundw
                      case rel => exact ⟨i + 1, hi3, by go_num, HE.out⟩
                      case measure => simp [RowKit.intOf]; omega
                · obtain rfl : i = 3 := by omega
                  have HM9 : Hid (∀ W, Fresh wr W → Fresh w4 W) := fun W hF => HA.out.2.trans hF (fun _ _ e => e)
                  have HMm : Hid (M2 w4.heap.size wr (.slice (some ⟨gl, 0, none⟩) 3 lc') us F (.slice (some ⟨gs, 0, none⟩) 3 sc') vs G) := HA.out.1
                  clear HA
                  rw [show ((3 : Nat) : Int) = 3 from rfl]
                  go_wp2
                  go_loop [24] (fun iv => ∃ i : Nat, i ≤ 3 ∧ iv = zV i) (fun iv => 3 - (RowKit.intOf iv).toNat)
                  case atStart => exact ⟨0, Nat.zero_le _, rfl⟩
                  case round =>
                    obtain ⟨i, hi, rfl⟩ := hrel
                    by_cases hi3 : i < 3
                    · have hi3' : (i : Int) < 3 := by omega
                      obtain ⟨x1, x2⟩ := HCl.out _ F G HMm.out i hi3
                      obtain ⟨o1, o2⟩ := HRl.out _ F G HMm.out i hi3
                      rw [HFG.out.1.1 i hi3] at o1
                      rw [HFG.out.2.1 i hi3] at o2
                      obtain ⟨uo, uc, hu⟩ := ownsRow_shape o1
                      obtain ⟨xo, xc, hx⟩ := ownsRow_shape o2
                      rw [hu] at x1 o1
                      rw [hx] at x2 o2
                      have HV1 : Hid (∀ t, t < nA → (F i).getD t 0 = -1 - (i : Int)) := fun t ht => HFG.out.1.2.1 i hi3 t ht
                      have HV2 : Hid (∀ t, t < nM → (G i).getD t 0 = (i : Int)) := fun t ht => HFG.out.2.2.1 i hi3 t ht
                      have HO1 : Hid _ := o1
                      have HO2 : Hid _ := o2
                      clear o1 o2 hu hx
                      go_wp2
                      go_loop [25] (fun jv => ∃ j : Nat, j ≤ nA ∧ jv = zV j) (fun jv => nA - (RowKit.intOf jv).toNat)
                      case atStart => exact ⟨0, Nat.zero_le _, rfl⟩
                      case round =>
                        obtain ⟨j, hj, rfl⟩ := hrel
                        by_cases hjr : j < nA
                        · have hjr' : (j : Int) < (nA : Int) := by omega
                          have hnA := HA0.out.2
                          obtain ⟨g, rfl, _⟩ := own_someV HO1.out (by omega)
                          have g1 := own_get HO1.out j hjr
                          rw [HV1.out j hjr] at g1
                          go_wp2
                          go_round
                          case rel => exact ⟨j + 1, hjr, by go_num⟩
                          case measure => simp [RowKit.intOf]; omega
                        · obtain rfl : j = nA := by omega
                          go_wp2
                          go_loop [26] (fun jv => ∃ q : Nat, q ≤ nM ∧ jv = zV q) (fun jv => nM - (RowKit.intOf jv).toNat)
                          case atStart => exact ⟨0, Nat.zero_le _, rfl⟩
                          case round =>
                            obtain ⟨q, hq, rfl⟩ := hrel
                            have hnM := HnM.out.2
                            by_cases hqr : q < nM
                            · have hqr' : (q : Int) < (nM : Int) := by omega
                              obtain ⟨g, rfl, _⟩ := own_someV HO2.out (by omega)
                              have g1 := own_get HO2.out q hqr
                              rw [HV2.out q hqr] at g1
                              go_wp2
                              go_round
                              case rel => exact ⟨q + 1, hqr, by go_num⟩
                              case measure => simp [RowKit.intOf]; omega
                            · obtain rfl : q = nM := by omega
                              go_wp2
                              go_round
                              case rel => exact ⟨i + 1, hi3, by go_num⟩
                              case measure => simp [RowKit.intOf]; omega
                    · obtain rfl : i = 3 := by omega
                      have hFw : Fresh w4 wr := HM9.out wr (Kept.refl _ _)
                      have H5 : Hid (Unit → _) := fun (_ : Unit) => HWe.out wr (HQ.out wr hFw).1.2.1
                      have HFw : Hid (Fresh w4 wr) := hFw
                      clear hFw HMm HCl HRl HFG HM9
                      rw [show ((3 : Nat) : Int) = 3 from rfl]
                      go_wp2_with fail
                      refine (H5.out ()).mono ?_
                      rintro e w5 hG
                      obtain ⟨a, rfl, hRa, hF5⟩ := hG.row (by rw [HnA.out]; exact HA0.out.1.1) HA0.out.1.2
                      have hF45 : Fresh w4 w5 := HFw.out.trans hF5 (fun _ _ e => e)
                      have H6 : Hid (Unit → _) := fun (_ : Unit) => HMw.out w5 _ (HQ.out w5 hF45).1.2.1 (HQ.out w5 hF45).2.2.1
                      have HRa : Hid (∀ W, Fresh w5 W → R6 W a A) := fun W hF => (hRa.fresh hF).mono (fun _ _ => trivial)
                      have HF45 : Hid (Fresh w4 w5) := hF45
                      clear H5 hG hRa hF5 hF45 HFw
                      go_wp2_with fail
                      refine (H6.out ()).mono ?_
                      rintro e w6 hG
                      obtain ⟨b, rfl, hRb, hF6⟩ := hG.row HM1.out.1.1 HM1.out.1.2
                      have hF46 : Fresh w4 w6 := HF45.out.trans hF6 (fun _ _ e => e)
                      have HAw : Hid (Unit → _) := fun (_ : Unit) => awake_any w6 (HQ.out w6 hF46).1.2.2
                      have HRab : Hid (∀ W, Fresh w6 W → R6 W a A ∧ R1 W b M ∧ Fresh w4 W) := fun W hF => ⟨HRa.out W (hF6.trans hF (fun _ _ e => e)), (hRb.fresh hF).mono (fun _ _ => trivial), hF46.trans hF (fun _ _ e => e)⟩
                      clear H6 hG hRb hF6 hF46 HRa HF45
                      go_wp2_with fail
                      refine (HAw.out ()).mono ?_
                      rintro e w7 ⟨rfl, hF7⟩
                      have HF7 : Hid (Fresh w6 w7) := hF7
                      have H7 : Hid (Unit → _) := fun (_ : Unit) => longs_any _ _ _ _ A w7 (HRab.out w7 hF7).1 (HQ.out w7 (HRab.out w7 hF7).2.2).2.1
                      clear HAw hF7
                      go_wp2_with fail
                      refine (H7.out ()).mono ?_
                      rintro e w8 ⟨rfl, n8, hw8⟩
                      have hF8 : Fresh w6 w8 := by rw [hw8]; exact HF7.out.drewN n8
                      have H8 : Hid (Unit → _) := fun (_ : Unit) => rows_any _ _ _ _ M w8 (HRab.out w8 hF8).2.1 (HQ.out w8 (HRab.out w8 hF8).2.2).2.2.2
                      have HF8 : Hid (Fresh w6 w8) := hF8
                      clear H7 hw8 hF8 HF7
                      go_wp2_with fail
                      refine (H8.out ()).mono ?_
                      rintro e w9 ⟨rfl, n9, hw9⟩
                      have hF9 : Fresh w6 w9 := by rw [hw9]; exact HF8.out.drewN n9
                      have HEnd : Hid (Fresh w w9) := (HQ.out w9 (HRab.out w9 hF9).2.2).1.1
                      clear H8 hw9 hF9 HF8 HRab HQ
                      go_wp2
                      go_ret
                      exact ⟨by simp, HEnd.out⟩

set_option maxRecDepth 100000 in
theorem contract (H : Type) (enc : TypeId × Value → H) (W : World) (base : Nat) (args : Array Value) (ds gs : List (DataW H)) (before : List MemPlace)
    (hval : ∀ (j : Nat) t v, Tryd.f3.params[j]? = some t → args[j]? = some v → Value.okWide Tryd.prog W .any base t v)
    (hW : DataW.Whole enc Tryd.prog Tryd.f3.params.toList Rows.softMemorySpec.vars false W args.toList ds gs before) 
    (hsz : (DataW.weightsEach Tryd.prog (Tryd.f3.params.toList ++ []) (ds ++ gs)).all (· ≤ reachBytes) = true) (hL : laidMetH Tryd.prog Rows.softMemoryRow.laid W) :
    Calls Tryd.prog 3 args W fun e W' => ∃ v, e = .returned v ∧ Rows.softMemorySpec.post enc Tryd.prog Tryd.f3 false true false false W args v W' := by
  have hW' := hW
  obtain ⟨p, q, hA0, hV, rfl, hfz, hnd⟩ := hW
  have hA : DataW.TrodAll enc Tryd.prog W 0 (fun _ => true) true Tryd.f3.params.toList args.toList ds p := hA0
  rw [Tryd.params3] at hA hval hsz
  obtain ⟨rfl, rfl⟩ := trodVars_none hV
  obtain ⟨v0, v1, d0, d1, p0, p1, rfl, rfl, rfl, h0, h1⟩ := trodAll_two hA
  obtain ⟨zs, hz⟩ := arg64 (hval 0 22 v0 rfl rfl) h0 hsz (j := 0) rfl rfl
  obtain ⟨L, hLL⟩ := argL8 (hval 1 23 v1 rfl rfl) h1 hsz (j := 1) rfl rfl
  refine (walk v0 v1 zs L W (bend_of_laid hL) hz hLL).mono fun e W' ⟨he, hk⟩ => ?_
  subst he
  exact ⟨_, rfl, post_law rfl (by kernel_rfl) (by kernel_rfl) hW' rfl hk⟩

set_option maxRecDepth 100000 in
theorem laid_met (os : Os) : laidMet Tryd.prog Rows.softMemoryRow.laid ((layIn (World.holding Tryd.prog os ⟨#[], #[], []⟩)).forCall (fun _ _ => 0) ⟨#[], #[.slice none 0 0, .slice none 0 0], []⟩).memory :=
  laidMet_of_run' 8 (by kernel_rfl) (by kernel_rfl)
set_option maxRecDepth 100000 in
theorem reads (os : Os) {H : Type} (enc : TypeId × Value → H) : ∃ places, DataW.whole enc Tryd.prog ((layIn (World.holding Tryd.prog os ⟨#[], #[], []⟩)).forCall (fun _ _ => 0) ⟨#[], #[.slice none 0 0, .slice none 0 0], []⟩).memory Tryd.f3.params.toList Rows.softMemorySpec.vars false (#[.slice none 0 0, .slice none 0 0] : Array Value).toList 8 = some ([.nil, .nil], [], places) :=
  ⟨[], by kernel_rfl⟩

set_option maxRecDepth 100000 in
theorem lifted (os : Os) (started : os.Started) (H : Type) (enc : TypeId × Value → H) (F : Stop.Interp) :
    ReturnsInHanded {} Tryd.checked os 3 .any ((OpenSpec.ofChange Rows.softMemorySpec).preRow enc Tryd.prog Tryd.f3 Rows.softMemoryRow.domain false Rows.softMemoryRow.laid) (((OpenSpec.ofChange Rows.softMemorySpec).at F).post enc Tryd.prog Tryd.f3 false true false false) := by
  obtain ⟨places, hx⟩ := reads os enc
  refine returnsInHanded_of_row (C := Tryd.checked) (s := OpenSpec.ofChange Rows.softMemorySpec) Tryd.own started (by kernel_rfl) Tryd.func3
    (witness_row_at (enc := enc) (C := Tryd.checked) false (layIn (World.holding Tryd.prog os ⟨#[], #[], []⟩)) #[.slice none 0 0, .slice none 0 0] rfl (by kernel_rfl) (by kernel_rfl) (by kernel_rfl)
      (OpenSpec.preRow_of_cond 8 hx (by kernel_rfl) (fun k hk => by cases hk) (by kernel_rfl) (laid_met os))) ?_
  intro W base args ds gs before hval hW _ hc hsz hL _ _
  exact contract H enc W base args ds gs before hval hW hsz hL

theorem said : Rows.SoftMemorySaid :=
  OpenClaim.holds_of_cond 3 Tryd.f3 rfl rfl rfl rfl rfl rfl rfl ⟨rfl, rfl, rfl, rfl, rfl⟩ rfl rfl rfl rfl rfl (by kernel_rfl) Tryd.func3 (by kernel_rfl)
    (of_decide_eq_true (by kernel_rfl)) (by unfold Func.isWrapper; first | (rw [if_pos (by decide +kernel)]; kernel_rfl) | (rw [if_neg (by decide +kernel)]; exact ⟨rfl, rfl⟩))
    (fun os started H enc _ F => by rw [OpenClaim.pre_eq_preRow]; exact lifted os started H enc F)

theorem plain (f : FuncId) (fn : Func) (hf : Tryd.pinned.checked.prog.funcNamed Rows.softMemoryRow.func = some f) (hfn : Tryd.pinned.checked.prog.funcs[f]? = some fn) :
    false = Tryd.pinned.checked.prog.looks [] ∧ ∀ (j : Nat) t, fn.params[j]? = some t → Tryd.pinned.checked.prog.wantsStandIn t = false := by
  obtain rfl : f = 3 := Option.some.inj ((show Tryd.prog.funcNamed Rows.softMemoryRow.func = some 3 by kernel_rfl).symm.trans hf) |>.symm
  obtain rfl : fn = Tryd.f3 := (Option.some.inj (Tryd.func3.symm.trans hfn)).symm
  refine ⟨by kernel_rfl, fun j t ht => ?_⟩
  have hall : (Tryd.f3.params.toList.all fun u => !Tryd.prog.wantsStandIn u) = true := by kernel_rfl
  exact (show Tryd.prog.wantsStandIn t = false by simpa using List.all_eq_true.1 hall t (Array.mem_toList_iff.2 (Array.mem_of_getElem? ht)))

theorem card : Rows.SoftMemoryCardSaid :=
  Claim7.holds_tied_plain_at .later [] _ _ _ _ said (fun _ h => by cases h) (by kernel_rfl) (fun _ h => by cases h) softMemory_row_tie rfl ⟨rfl, rfl⟩ (by kernel_rfl) rfl plain (by kernel_rfl)

end Go.Proofs.YtohoppnpbgplnabDoor.SMemory
namespace Go.Proofs.YtohoppnpbgplnabDoor
theorem softMemory_card : Rows.SoftMemoryCardSaid := SMemory.card
end Go.Proofs.YtohoppnpbgplnabDoor
