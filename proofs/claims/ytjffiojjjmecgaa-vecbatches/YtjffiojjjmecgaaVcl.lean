/-
  Batch, the package's: each row in memory of its own.
-/
import Derived.Test.YtjffiojjjmecgaaVck
namespace Go.Proofs.Ytjffiojjjmecgaa
open Go.RowKit Go.Lib Go.Maps

theorem batch1_any (p : Nat → Prop) (u : Value) (x : List Int) (c : Int) (bc : Nat) (w : World) (hu : Rk .i8 p w u x) (hc : w.cell? ⟨bc, 0, none⟩ = some (zV c)) :
    Calls Try.prog 39 #[u, .pointer (some ⟨bc, 0, none⟩)] w fun e w' => e = .returned (.bool (odd c x)) ∧ w' = w := by
  obtain ⟨ao, ac, rfl, _⟩ := hu.shape
  have HO : Hid (odd c x = decide ((x.length : Int) ≠ c)) := rfl
  clear hu
  go_enter Try.func39, Try.ntmps39
  go_wp2
  go_ret
  exact ⟨by rw [HO.out]; by_cases e : (x.length : Int) = c <;> simp [e], rfl⟩

set_option maxHeartbeats 2000000 in
set_option maxRecDepth 100000 in
theorem containsFunc_any (p : Nat → Prop) (xv : Value) (X : List (List Int)) (c : Int) (bc : Nat) (w : World) (hx : LL .i8 p w xv X) (hc : w.cell? ⟨bc, 0, none⟩ = some (zV c)) :
    Calls Try.prog 38 #[xv, .func (.func 39) #[] #[.pointer (some ⟨bc, 0, none⟩)]] w fun e w' => e = .returned (.bool (X.any (odd c))) ∧ w' = w := by
  have hI : Calls Try.prog 56 #[xv, .func (.func 39) #[] #[.pointer (some ⟨bc, 0, none⟩)]] w fun e w' => ∃ z, e = .returned (zV z) ∧ decide (0 ≤ z) = X.any (odd c) ∧ w' = w := by
    have hmany := hx.many
    obtain ⟨xo, xc, hvx, _⟩ := hx.shape
    subst hvx
    obtain ⟨_, _, hcx⟩ := hx.cells
    obtain ⟨n, hn⟩ : ∃ n, X.length = n := ⟨_, rfl⟩
    have HN : Hid (X.length = n) := hn
    rw [hn] at hmany hcx ⊢
    clear hx hn
    go_enter Try.func56, Try.ntmps56
    go_wp2
    go_loopw [8] (fun iv wr => ∃ j : Nat, j ≤ n ∧ iv = zV j ∧ Hid ((X.take j).any (odd c) = false) ∧ wr = w) (fun iv _ => n - (RowKit.intOf iv).toNat)
    case atStart => exact ⟨0, Nat.zero_le _, rfl, rfl, rfl⟩
    case round =>
      obtain ⟨j, hj, rfl, HA, rfl⟩ := hrel
      by_cases hlt : j < n
      · obtain ⟨b, off, rfl, _, _, hcell⟩ := hcx (by omega)
        obtain ⟨u, g1, hr⟩ := hcell j hlt
        obtain ⟨a1, l1, c1, q1⟩ : ∃ a1 l1 c1, u = .slice a1 l1 c1 := let ⟨x, y, h, _⟩ := hr.shape; ⟨x, _, y, h⟩
        have HB : Hid (Unit → _) := fun (_ : Unit) => batch1_any p u _ c bc wr hr hc
        subst q1
        have hlt' : (j : Int) < (n : Int) := by omega
        have HX : Hid (odd c (X.getD j []) = true → X.any (odd c) = true) := fun h => any_at (by rw [HN.out]; exact hlt) h
        have HX2 : Hid (odd c (X.getD j []) = false → (X.take (j + 1)).any (odd c) = false) := fun h => any_take (by rw [HN.out]; exact hlt) HA.out h
        clear hcell hcx hr
        cases ho : odd c (X.getD j []) with
        | true =>
          rw [ho] at HB
          have HY : Hid (X.any (odd c) = true) := HX.out ho
          clear HX HX2 ho HA
          go_wp2_with fail
          refine (HB.out ()).mono ?_
          rintro e w3 ⟨rfl, rfl⟩
          go_wp2
          go_ret
          exact ⟨_, rfl, by rw [HY.out]; simp, rfl⟩
        | false =>
          rw [ho] at HB
          have HY : Hid ((X.take (j + 1)).any (odd c) = false) := HX2.out ho
          clear HX HX2 ho HA
          go_wp2_with fail
          refine (HB.out ()).mono ?_
          rintro e w3 ⟨rfl, rfl⟩
          go_wp2
          go_roundw
          case rel => exact ⟨j + 1, hlt, by go_num, HY.out, trivial⟩
          case measure => simp [RowKit.intOf]; omega
      · obtain rfl : j = n := by omega
        have HY : Hid (X.any (odd c) = false) := by
          have := HA.out
          rwa [List.take_of_length_le (by rw [HN.out]; exact Nat.le_refl _)] at this
        clear hcx HA
        go_wp2
        go_ret
        exact ⟨_, rfl, by rw [HY.out]; simp, rfl⟩
  have HI : Hid (Unit → _) := fun (_ : Unit) => hI
  obtain ⟨xo, xc, hvx, _⟩ := hx.shape
  subst hvx
  clear hI hx hc
  go_enter Try.func38, Try.ntmps38
  go_wp2_with fail
  refine (HI.out ()).mono ?_
  rintro e w3 ⟨z, rfl, hz, rfl⟩
  have HZ : Hid (decide (0 ≤ z) = X.any (odd c)) := hz
  clear hz HI
  go_wp2
  go_ret
  exact ⟨by rw [← HZ.out]; rfl, rfl⟩

/-- A row in a block of its own. -/
def Own1 (B : Nat) (W : World) (u : Value) (x : List Int) (gB : Nat) : Prop := ∃ g c, u = .slice (some ⟨g, 0, none⟩) x.length c ∧ W.ownsRow B 2 1 u x.length (x.map zV) ∧ g ≠ gB
/-- Rows, each in a block of its own. -/
def OwnRs (B : Nat) (W : World) (us : List Value) (L : List (List Int)) (gB : Nat) : Prop :=
  us.length = L.length ∧ (∀ i, i < L.length → Own1 B W (us.getD i (.slice none 0 0)) (L.getD i []) gB) ∧ ∀ i j, i < j → j < L.length → (us.getD i (.slice none 0 0)).ownBlock ≠ (us.getD j (.slice none 0 0)).ownBlock
theorem Own1.kept {B : Nat} {W W' : World} {u : Value} {x : List Int} {gB : Nat} {S : Nat → Prop} (h : Own1 B W u x gB) (hk : Kept S W W') (hn : ∀ g, u.ownBlock = some g → ¬ S g) : Own1 B W' u x gB := by
  obtain ⟨g, c, h1, h2, h3⟩ := h
  exact ⟨g, c, h1, owns_kept h2 hk hn, h3⟩
theorem OwnRs.fresh {B : Nat} {W W' : World} {us : List Value} {L : List (List Int)} {gB : Nat} (h : OwnRs B W us L gB) (hk : Fresh W W') : OwnRs B W' us L gB := ⟨h.1, fun i hi => (h.2.1 i hi).kept hk (fun _ _ e => e), h.2.2⟩
theorem OwnRs.setB {B : Nat} {W : World} {us : List Value} {L : List (List Int)} {gB : Nat} (h : OwnRs B W us L gB) (i : Nat) (v : Value) : OwnRs B (W.setCell ⟨gB, i, none⟩ v) us L gB :=
  ⟨h.1, fun j hj => by
    obtain ⟨g, c, h1, h2, h3⟩ := h.2.1 j hj
    exact ⟨g, c, h1, ownsRow_setCell_other h2 (by rw [h1]; simp [Value.ownBlock]; omega) _, h3⟩, h.2.2⟩
theorem getD_app1 {us : List Value} {u : Value} {i : Nat} (h : i < us.length) : (us ++ [u]).getD i (.slice none 0 0) = us.getD i (.slice none 0 0) := by
  rw [List.getD_eq_getElem?_getD, List.getD_eq_getElem?_getD, List.getElem?_append_left h]
theorem getD_app2 {us : List Value} {u : Value} : (us ++ [u]).getD us.length (.slice none 0 0) = u := by
  rw [List.getD_eq_getElem?_getD, List.getElem?_append_right (Nat.le_refl _), Nat.sub_self]; rfl
theorem getD_lapp1 {L : List (List Int)} {x : List Int} {i : Nat} (h : i < L.length) : (L ++ [x]).getD i [] = L.getD i [] := by
  rw [List.getD_eq_getElem?_getD, List.getD_eq_getElem?_getD, List.getElem?_append_left h]
theorem getD_lapp2 {L : List (List Int)} {x : List Int} : (L ++ [x]).getD L.length [] = x := by
  rw [List.getD_eq_getElem?_getD, List.getElem?_append_right (Nat.le_refl _), Nat.sub_self]; rfl
theorem OwnRs.snoc {B N : Nat} {W W0 : World} {us : List Value} {L : List (List Int)} {gB : Nat} {u : Value} {x : List Int} (h0 : OwnRs B W0 us L gB) (hk : Fresh W0 W) (hu : Own1 B W u x gB) (hN : W0.heap.size = N) (hg : ∀ g, u.ownBlock = some g → N ≤ g) : OwnRs B W (us ++ [u]) (L ++ [x]) gB := by
  have h := h0.fresh hk
  refine ⟨by simp [h.1], fun i hi => ?_, fun i j hij hj => ?_⟩
  · rcases Nat.lt_or_ge i L.length with e | e
    · rw [getD_app1 (by rw [h.1]; exact e), getD_lapp1 e]; exact h.2.1 i e
    · have : i = L.length := by simp at hi; omega
      subst this
      rw [getD_lapp2, ← h.1, getD_app2]; exact hu
  · rcases Nat.lt_or_ge j L.length with e | e
    · rw [getD_app1 (by rw [h.1]; omega), getD_app1 (by rw [h.1]; omega)]; exact h.2.2 i j hij e
    · have : j = L.length := by simp at hj; omega
      subst this
      rw [getD_app1 (by rw [h.1]; omega), ← h.1, getD_app2]
      obtain ⟨g, c, h1, h2, _⟩ := h0.2.1 i hij
      intro e2
      have q1 := owns_lt h2 (g := g) (by rw [h1]; simp [Value.ownBlock])
      have q2 := hg g (by rw [← e2, h1]; simp [Value.ownBlock])
      omega
theorem OwnRs.nil (B : Nat) (W : World) (gB : Nat) : OwnRs B W [] [] gB := ⟨rfl, fun i hi => by simp at hi, fun i j _ hj => by simp at hj⟩
/-- A list of rows, all of it in memory of its own, each row apart. -/
def OL (B : Nat) (W : World) (v : Value) (L : List (List Int)) : Prop := (v = .slice none 0 0 ∧ L = []) ∨ ∃ g us, v = .slice (some ⟨g, 0, none⟩) L.length L.length ∧ W.ownsRow B 36 1 v L.length us ∧ OwnRs B W us L g
theorem OL.fresh {B : Nat} {W W' : World} {v : Value} {L : List (List Int)} (h : OL B W v L) (hk : Fresh W W') : OL B W' v L := by
  rcases h with h | ⟨g, us, h1, h2, h3⟩
  · exact .inl h
  · exact .inr ⟨g, us, h1, owns_kept h2 hk (fun _ _ e => e), h3.fresh hk⟩
theorem OL.ll {B : Nat} {W : World} {v : Value} {L : List (List Int)} (h : OL B W v L) (hl : L.length * 24 ≤ 140737488351232) (hz : ∀ x ∈ L, x.length * kb .i64 ≤ 140737488351232 ∧ ∀ z ∈ x, Fit .i64 z) : LL .i64 (fun b => B ≤ b ∧ b < W.heap.size) W v L := by
  rcases h with ⟨rfl, rfl⟩ | ⟨g, us, h1, h2, h3⟩
  · exact ⟨none, 0, rfl, by simp, fun h => absurd rfl h, fun _ => rfl, by simp⟩
  · refine ll_of_own h2 ⟨h3.1, fun i hi => ?_⟩ hl
    obtain ⟨g', c', _, h5, _⟩ := h3.2.1 i hi
    have hm : L.getD i [] ∈ L := by rw [List.getD_eq_getElem?_getD, List.getElem?_eq_getElem hi]; exact List.getElem_mem hi
    exact rk_of_own h5 (hz _ hm).1 (hz _ hm).2
theorem made_nils (n : Nat) : madeCells (Value.slice none 0 0).cells (n * 1) = (List.replicate n (Value.slice none 0 0)).toArray := by
  rw [Nat.mul_one]
  have h : ∀ x : Nat, (Value.slice none 0 0).cells[x % (Value.slice none 0 0).cells.size]! = Value.slice none 0 0 := fun x => by
    have : x % (Value.slice none 0 0).cells.size = 0 := Nat.mod_one x
    rw [this]; rfl
  unfold madeCells
  simp only [h]
  apply Array.ext'
  simp [List.map_const']
theorem run_mkL {e s : TypeId} (ht : TyL e s) (n : Nat) (hn : n * 24 ≤ 140737488351232) (W : World) :
    (Instr.makeSlice s (.int .i64 (n : Int)) (.int .i64 (n : Int))).run Try.prog W = .ok (.slice (some ⟨W.heap.size, 0, none⟩) n n) (W.alloc (.cells (List.replicate n (Value.slice none 0 0)).toArray e)) := by
  obtain ⟨i0, hi, hz0, hz1, hz2⟩ := info_parts ht.info
  have h := run_make (P := Try.prog) W s e i0 _ ht.u hi hz0 .i64 .i64 (n : Int) (n : Int) (by omega) (by omega) (by rw [hz2]; omega) (by omega)
  rw [hz1] at h
  simp only [Int.toNat_natCast] at h
  rw [made_nils] at h
  exact h
theorem own_madeL (e : TypeId) (W : World) (B : Nat) (hB : B ≤ W.heap.size) (n : Nat) (hn : n ≤ 140737488351232) :
    (W.alloc (.cells (List.replicate n (Value.slice none 0 0)).toArray e)).ownsRow B e 1 (.slice (some ⟨W.heap.size, 0, none⟩) n n) n (List.replicate n (Value.slice none 0 0)) :=
  ⟨by simp, .inr ⟨W.heap.size, n, _, rfl, hB, heap_alloc_new W _, Nat.le_refl _, by unfold maxLen; omega, by simp, by simp⟩⟩

set_option maxHeartbeats 4000000 in
set_option maxRecDepth 100000 in
theorem Batch_any (p q : Nat → Prop) (wv xv : Value) (zs : List Int) (X : List (List Int)) (c : Int) (w : World) (hw : Rk .i8 p w wv zs) (hx : LL .i8 q w xv X) (hc : I64 c) :
    Calls Try.prog 16 #[wv, zV c, xv] w fun e w' => ∃ v, e = .returned (.tuple #[v, zV (bB zs c X)]) ∧ OL w.heap.size w' v (bL zs c X) ∧ Fresh w w' := by
  obtain ⟨ao, ac, hva, _⟩ := hw.shape
  subst hva
  obtain ⟨W0, hW0⟩ : ∃ W0, W0 = w.alloc (.cells #[zV c] 3) := ⟨_, rfl⟩
  have hF0 : Fresh w W0 := by rw [hW0]; exact (Kept.refl _ w).alloc _
  have HF0 : Hid (Fresh w W0) := hF0
  have c0 : W0.cell? ⟨w.heap.size, 0, none⟩ = some (zV c) := by rw [hW0, Lib.cell_of_heap (heap_alloc_new w _)]; rfl
  have hs0 : W0.heap.size = w.heap.size + 1 := by rw [hW0]; simp
  have hrows := rowsOf_any ao ac zs c W0
  have HCf : Hid (Unit → _) := fun (_ : Unit) => containsFunc_any _ _ X c w.heap.size W0 (hx.fresh hF0) c0
  have hmany := hx.many
  obtain ⟨xo, xc, hvx, _⟩ := hx.shape
  subst hvx
  by_cases h0 : mE zs c = 0
  · obtain ⟨hm, k, R, rfl, hk, hR⟩ := mE_zero h0
    rw [h0, (mE_ok hm hk hR).2] at hrows
    have HR : Hid (Unit → _) := fun (_ : Unit) => hrows
    cases ha : X.any (odd k) with
    | true =>
      have HE : Hid (bB zs k X = 80 ∧ bL zs k X = []) := ⟨bB_else h0 ha, bL_bad (by rw [bB_else h0 ha]; omega)⟩
      rw [HE.out.1, HE.out.2]
      rw [ha] at HCf
      clear hrows hw hx hR h0 ha hF0
      go_enter Try.func16, Try.ntmps16
      go_wp2_with fail
      rw [← hW0]
      refine (HR.out ()).mono ?_
      rintro e w1 ⟨rfl, hw1⟩
      have hw2 := hw1.symm
      subst hw2
      clear hw1 HR hW0
      go_wp2_with fail
      refine (HCf.out ()).mono ?_
      rintro e w1 ⟨rfl, hw1⟩
      have hw2 := hw1.symm
      subst hw2
      clear hw1 HCf
      go_wp2
      go_ret2
      exact ⟨_, rfl, .inl ⟨rfl, rfl⟩, HF0.out⟩
    | false =>
      have HE : Hid (bB zs k X = 0 ∧ bL zs k X = X.map (fun x => tL zs k x)) := ⟨bB_ok h0 ha, bL_ok (bB_ok h0 ha)⟩
      have hRz : R ≤ zs.length := by rw [hR]; exact Nat.le_mul_of_pos_right _ hk
      obtain ⟨n, hn⟩ : ∃ n, X.length = n := ⟨_, rfl⟩
      have HN : Hid (X.length = n) := hn
      have HXl : Hid (∀ j, j < n → (X.getD j []).length = k ∧ tL zs k (X.getD j []) = timesN zs k (X.getD j []) ∧ (timesN zs k (X.getD j [])).length = R) := fun j hj => by
        have hj' : j < X.length := by omega
        have ho : odd k (X.getD j []) = false := by
          cases e : odd k (X.getD j []) with
          | false => rfl
          | true => rw [any_at hj' e] at ha; cases ha
        have hl : (X.getD j []).length = k := by have h1 := of_decide_eq_false ho; omega
        exact ⟨hl, by unfold tL; rw [if_pos (tE_ok h0 (by omega)), Int.toNat_natCast], by rw [timesN_rows hR hk]; simp⟩
      obtain ⟨_, _, hcx⟩ := hx.cells
      have HCx : Hid (0 < n → ∃ b off, xo = some ⟨b, off, none⟩ ∧ ∀ W, Fresh w W → ∀ i, i < n → ∃ a1 c1, W.cell? ⟨b, off + i, none⟩ = some (.slice a1 k c1) ∧ Rk .i8 (fun b => b < w.heap.size) W (.slice a1 k c1) (X.getD i [])) := fun hp => by
        obtain ⟨b, off, e, _, hb, hcell⟩ := hcx (by omega)
        refine ⟨b, off, e, fun W hF i hi => ?_⟩
        obtain ⟨u, h1, h2⟩ := hcell i (by omega)
        obtain ⟨a1, c1, h3, _⟩ := h2.shape
        rw [(HXl.out i hi).1] at h3
        subst h3
        exact ⟨a1, c1, (hF.cell (p := ⟨b, off + i, none⟩) hb (fun e => e)).trans h1, (h2.low).fresh hF⟩
      have HAp : Hid (∀ (W : World) (xu : Value) (x : List Int), Fresh w W → Rk .i8 (fun b => b < w.heap.size) W xu x → x.length = k → ∃ W2, (Instr.makeSlice 36 (.int .i64 0) (.int .i64 (R : Int))).run Try.prog W = .ok (.slice (some ⟨W.heap.size, 0, none⟩) 0 R) W2 ∧
          Calls Try.prog 36 #[.slice (some ⟨W.heap.size, 0, none⟩) 0 R, .slice ao zs.length ac, xu] W2 fun e w' => ∃ g' c', e = .returned (.slice (some ⟨g', 0, none⟩) R c') ∧ w'.ownsRow w.heap.size 2 1 (.slice (some ⟨g', 0, none⟩) R c') R ((timesN zs k x).map zV) ∧ Fresh W w' ∧ W.heap.size ≤ g') := fun W xu x hF hxu hxl => by
        have hmk := run_mk ty64 0 R (Nat.zero_le _) (by simp [kb]; omega) W
        rw [show ((0 : Nat) : Int) = 0 from rfl] at hmk
        have hO := own_made .i64 2 W w.heap.size hF.size 0 R (Nat.zero_le _) (by omega)
        have hF2 : Fresh W (W.alloc (.cells ((List.replicate R (0 : Int)).map (Value.int .i64)).toArray 2)) := (Kept.refl _ W).alloc _
        refine ⟨_, hmk, ?_⟩
        have hs := hF.size
        have hA := appendTimes_any w.heap.size W.heap.size R [] _ _ _ _ zs x k R _ (by simpa using hO) (Nat.le_trans hs hF2.size) ((hw.low.fresh hF).fresh hF2) (hxu.fresh hF2) hR hxl hk hm (by simp) (fun b hb => by omega) (fun b hb => by omega)
        rw [List.length_nil, Nat.zero_add, List.nil_append] at hA
        refine hA.mono ?_
        rintro e w' ⟨g', c', h1, h2, h3, h4⟩
        refine ⟨g', c', h1, h2, hF2.trans h3 (fun i hi e => by omega), ?_⟩
        have := hF2.size
        omega
      rw [ha] at HCf
      have hmkL := run_mkL tyL64 n (by omega) W0
      have hOL := own_madeL 36 W0 w.heap.size hF0.size n (by omega)
      have hFL : Fresh w (W0.alloc (.cells (List.replicate n (Value.slice none 0 0)).toArray 36)) := hF0.alloc _
      generalize W0.alloc (.cells (List.replicate n (Value.slice none 0 0)).toArray 36) = W1 at *
      rw [hs0] at hmkL hOL
      have HO : Hid (W1.ownsRow w.heap.size 36 1 (.slice (some ⟨w.heap.size + 1, 0, none⟩) n n) n ([] ++ List.replicate (n - 0) (Value.slice none 0 0)) ∧ OwnRs w.heap.size W1 [] ((X.map (fun x => tL zs k x)).take 0) (w.heap.size + 1) ∧ Fresh w W1) := ⟨hOL, OwnRs.nil _ _ _, hFL⟩
      rw [hn, HE.out.1]
      rw [hn] at hmany HCf
      clear hrows hw hx hR h0 ha hF0 hcx hOL hFL hn hs0
      go_enter Try.func16, Try.ntmps16
      go_wp2_with fail
      rw [← hW0]
      refine (HR.out ()).mono ?_
      rintro e w1 ⟨rfl, hw1⟩
      have hw2 := hw1.symm
      subst hw2
      clear hw1 HR hW0 c0
      go_wp2_with fail
      refine (HCf.out ()).mono ?_
      rintro e w1 ⟨rfl, hw1⟩
      have hw2 := hw1.symm
      subst hw2
      clear hw1 HCf
      go_wp2
      clear hmkL
      go_loopw [30] (fun iv wr => ∃ (j : Nat) (us : List Value), j ≤ n ∧ iv = zV j ∧ Hid (wr.ownsRow w.heap.size 36 1 (.slice (some ⟨w.heap.size + 1, 0, none⟩) n n) n (us ++ List.replicate (n - j) (Value.slice none 0 0)) ∧ OwnRs w.heap.size wr us ((X.map (fun x => tL zs k x)).take j) (w.heap.size + 1) ∧ Fresh w wr)) (fun iv _ => n - (RowKit.intOf iv).toNat)
      case atStart => exact ⟨0, [], Nat.zero_le _, rfl, HO.out⟩
      case round =>
        obtain ⟨j, us, hj, rfl, HA⟩ := hrel
        clear HO
        by_cases hlt : j < n
        · obtain ⟨b, off, rfl, hcell⟩ := HCx.out (by omega)
          obtain ⟨a1, c1, g1, hr⟩ := hcell wr HA.out.2.2 j hlt
          obtain ⟨W2, hmk, hcall⟩ := HAp.out wr _ _ HA.out.2.2 hr (HXl.out j hlt).1
          have HCall : Hid (Unit → _) := fun (_ : Unit) => hcall
          have hul : us.length = j := by
            have := HA.out.2.1.1
            rw [this, List.length_take, List.length_map, HN.out]; omega
          have hlt' : (j : Int) < (n : Int) := by omega
          clear hcell hr hcall
          go_wp2_with fail
          refine (HCall.out ()).mono ?_
          rintro e w3 ⟨g', c', rfl, ho3, hF3, hg3⟩
          have hlow : w.heap.size + 1 < wr.heap.size := (own_block HA.out.1).2.1
          have hO3 := owns_kept HA.out.1 hF3 (fun _ _ e => e)
          have f3 := own_frozen hO3 j
          have g3 : w3.cell? ⟨w.heap.size + 1, j, none⟩ = some (.slice none 0 0) := by
            rw [hO3.cellAt j (by omega), List.getElem?_append_right (by omega), hul, Nat.sub_self, List.getElem?_replicate, if_pos (by omega)]
          have HX : Hid ((w3.setCell ⟨w.heap.size + 1, j, none⟩ (.slice (some ⟨g', 0, none⟩) R c')).ownsRow w.heap.size 36 1 (.slice (some ⟨w.heap.size + 1, 0, none⟩) n n) n ((us ++ [Value.slice (some ⟨g', 0, none⟩) R c']) ++ List.replicate (n - (j + 1)) (Value.slice none 0 0)) ∧ OwnRs w.heap.size (w3.setCell ⟨w.heap.size + 1, j, none⟩ (.slice (some ⟨g', 0, none⟩) R c')) (us ++ [Value.slice (some ⟨g', 0, none⟩) R c']) ((X.map (fun x => tL zs k x)).take (j + 1)) (w.heap.size + 1) ∧ Fresh w (w3.setCell ⟨w.heap.size + 1, j, none⟩ (.slice (some ⟨g', 0, none⟩) R c'))) := by
            obtain ⟨x1, x2, x3⟩ := HXl.out j hlt
            refine ⟨?_, ?_, (HA.out.2.2.trans hF3 (fun _ _ e => e)).setCell (fun e => by simp at e; omega) _⟩
            · have := own_setB (i := j) (x := Value.slice (some ⟨g', 0, none⟩) R c') hO3
              have e : (us ++ List.replicate (n - j) (Value.slice none 0 0)).set j (Value.slice (some ⟨g', 0, none⟩) R c') = (us ++ [Value.slice (some ⟨g', 0, none⟩) R c']) ++ List.replicate (n - (j + 1)) (Value.slice none 0 0) := by
                rw [List.set_append_right _ _ (by omega), hul, Nat.sub_self, show n - j = (n - (j + 1)) + 1 by omega, List.replicate_succ, List.set_cons_zero, List.append_assoc]
                rfl
              rw [e] at this
              exact this
            · rw [map_take_succ (by rw [HN.out]; exact hlt)]
              refine OwnRs.setB ?_ _ _
              refine HA.out.2.1.snoc hF3 ⟨g', c', by rw [x2, x3], by rw [x2, x3]; exact ho3, by omega⟩ rfl (fun g e => by simp [Value.ownBlock] at e; omega)
          clear ho3 hF3 hg3 hO3 HA HCall hmk hlow hul
          go_wp2
          go_roundw
          case rel => exact ⟨j + 1, us ++ [Value.slice (some ⟨g', 0, none⟩) R c'], hlt, by go_num, HX.out⟩
          case measure => simp [RowKit.intOf]; omega
        · obtain rfl : j = n := by omega
          have HX : Hid (OL w.heap.size wr (.slice (some ⟨w.heap.size + 1, 0, none⟩) j j) (bL zs k X) ∧ Fresh w wr) := by
            refine ⟨.inr ⟨w.heap.size + 1, us, ?_, ?_, ?_⟩, HA.out.2.2⟩
            · rw [HE.out.2, List.length_map, HN.out]
            · rw [HE.out.2, List.length_map, HN.out]
              have := HA.out.1
              rwa [Nat.sub_self, List.replicate_zero, List.append_nil] at this
            · have := HA.out.2.1
              rwa [List.take_of_length_le (by simp; rw [HN.out]; exact Nat.le_refl _), ← HE.out.2] at this
          clear HA HCx
          go_wp2
          go_ret2
          exact ⟨_, rfl, HX.out.1, HX.out.2⟩
  · have HE : Hid (bB zs c X = mE zs c ∧ bL zs c X = []) := ⟨bB_bad _ h0, bL_bad (by rw [bB_bad _ h0]; exact h0)⟩
    rw [HE.out.1, HE.out.2]
    have HR : Hid (Unit → _) := fun (_ : Unit) => hrows
    have h0' : (mE zs c == 0) = false := by simp [h0]
    clear hrows hw hx HCf hF0
    go_enter Try.func16, Try.ntmps16
    go_wp2_with fail
    rw [← hW0]
    refine (HR.out ()).mono ?_
    rintro e w1 ⟨rfl, hw1⟩
    have hw2 := hw1.symm
    subst hw2
    clear hw1 HR hW0
    go_wp2
    go_ret2
    exact ⟨_, rfl, .inl ⟨rfl, rfl⟩, HF0.out⟩
end Go.Proofs.Ytjffiojjjmecgaa
