/-
  Rows, the package's.
-/
import Derived.Test.YtkemaofclahaiabDoorRra
import Derived.Test.YtkemaofclahaiabDoorRob
import Derived.Test.YtkemaofclahaiabDoorGvl
namespace Go.Proofs.YtkemaofclahaiabDoor
open Go.RowKit Go.Lib Go.Maps

theorem Rk.at {p : Nat → Prop} {w : World} {v : Value} {c : List Int} (h : Rk .i8 p w v c) (E half place : Int) : (atL c E half place).length * 1 ≤ 140737488351232 ∧ ∀ z ∈ atL c E half place, C8 z :=
  ⟨by have := atL_len c E half place; have := h.many; omega, fun z hz => h.all z (atL_mem hz)⟩

set_option maxHeartbeats 2000000 in
set_option maxRecDepth 100000 in
theorem rowAt_any (p q r : Nat → Prop) (xv cv sv : Value) (xs cs ss : List Int) (size place : Int) (w : World) (hx : Rk .i8 p w xv xs) (hc : Rk .i8 q w cv cs) (hs : Rk .i8 r w sv ss) (hsz : I64 size) (hpl : I64 place) :
    Calls Tryd.prog 14 #[xv, zV size, cv, sv, zV place] w fun e w' => Gives .i8 35 (rwL xs size cs ss place) (rwE xs size cs ss place) w e w' := by
  have HH : Hid (Unit → _) := fun (_ : Unit) => headed_any size w hsz
  have HSz : Hid (I64 size) := hsz
  obtain ⟨xo, xc, hxv, _⟩ := hx.shape
  obtain ⟨co, cc, hcv, _⟩ := hc.shape
  obtain ⟨so, sc, hsv, _⟩ := hs.shape
  obtain ⟨z0, z1⟩ := hsz
  by_cases h1 : size < 2 ∨ size % 2 ≠ 0
  · rw [rwE_head h1, rwL_bad (by rw [rwE_head h1]; decide)]
    rw [show (decide (2 ≤ size) && decide (size % 2 = 0)) = false by simp; omega] at HH
    have HG : Hid (Gives .i8 35 [] 100 w (.returned (.tuple #[.slice none 0 0, zV 100])) w) := Gives.none _ _ _ _
    subst hxv hcv hsv
    clear hx hc hs
    go_enter Tryd.func14, Tryd.ntmps14
    go_wp2_with fail
    refine (HH.out ()).mono ?_
    rintro e w1 ⟨rfl, rfl⟩
    go_wp2
    go_ret2
    exact HG.out
  rw [show (decide (2 ≤ size) && decide (size % 2 = 0)) = true by simp; omega] at HH
  have HA : Hid (Unit → _) := fun (_ : Unit) => At_any q r cv sv cs ss (size / 2) place w hc hs hpl
  have hd : size.tdiv 2 = size / 2 := Int.tdiv_eq_ediv_of_nonneg (by omega)
  by_cases h2 : atE cs.length ss.length (size / 2) place = 0
  · rw [rwE_to h1 h2, rwL_to h1 h2]
    rw [h2] at HA
    have HB : Hid _ := And.intro (hc.at 0 (size / 2) place) (hs.at 0 (size / 2) place)
    have HX : Hid (∀ W, Fresh w W → Rk .i8 p W xv xs) := fun W hF => hx.fresh hF
    generalize atL cs 0 (size / 2) place = C at *
    generalize atL ss 0 (size / 2) place = S at *
    subst hxv hcv hsv
    obtain ⟨hf, hhf⟩ : ∃ hf, size / 2 = hf := ⟨_, rfl⟩
    rw [hhf] at HA hd
    clear hx hc hs h2
    go_enter Tryd.func14, Tryd.ntmps14
    go_wp2_with fail
    refine (HH.out ()).mono ?_
    rintro e w1 ⟨rfl, hw1⟩
    have hw2 := hw1.symm
    subst hw2
    clear hw1 HH
    go_wp2_with fail
    refine (HA.out ()).mono ?_
    rintro e w1 hG
    obtain ⟨u, v, rfl, hu, hv, hF⟩ := hG.rows HB.out.1.1 HB.out.2.1 HB.out.1.2 HB.out.2.2
    have HF : Hid (Fresh w w1) := hF
    have HT : Hid (Unit → _) := fun (_ : Unit) => Turn_any _ _ _ _ _ _ xs C S size w1 (HX.out w1 hF) hu hv HSz.out
    clear hG hu hv hF HA
    go_wp2_with fail
    refine (HT.out ()).mono ?_
    rintro e w2 ⟨v2, rfl, ho, hF2⟩
    have HY : Hid (Gives .i8 35 (toL 1 xs size C S) (toE xs.length size C.length S.length) w (.returned (.tuple #[v2, zV (toE xs.length size C.length S.length)])) w2) := ⟨v2, rfl, own_low ho HF.out.size, HF.out.trans hF2 (fun _ _ e => e)⟩
    clear ho hF2 HT HF
    go_wp2
    go_ret2
    exact HY.out
  · rw [rwE_at h1 h2, rwL_bad (by rw [rwE_at h1 h2]; exact h2)]
    have h2' : (atE cs.length ss.length (size / 2) place == 0) = false := beq_eq_false_iff_ne.2 h2
    rw [atL_bad h2, atL_bad h2] at HA
    generalize atE cs.length ss.length (size / 2) place = E at *
    subst hxv hcv hsv
    obtain ⟨hf, hhf⟩ : ∃ hf, size / 2 = hf := ⟨_, rfl⟩
    rw [hhf] at HA hd
    clear hx hc hs
    go_enter Tryd.func14, Tryd.ntmps14
    go_wp2_with fail
    refine (HH.out ()).mono ?_
    rintro e w1 ⟨rfl, hw1⟩
    have hw2 := hw1.symm
    subst hw2
    clear hw1 HH
    go_wp2_with fail
    refine (HA.out ()).mono ?_
    rintro e w1 ⟨u, v, rfl, _, _, _, hF⟩
    have HY : Hid (Gives .i8 35 [] E w (.returned (.tuple #[.slice none 0 0, zV E])) w1) := ⟨_, rfl, own_nil _ _ _, hF⟩
    clear hF HA
    go_wp2
    go_ret2
    exact HY.out

/-- The rows that a list has, whatever is made besides. -/
theorem LL.stay {k : IntKind} {p : Nat → Prop} {w : World} {ao : Option Addr} {n cap : Nat} {L : List (List Int)} (h : LL k p w (.slice ao n cap) L) : 0 < n → ∃ b off, ao = some ⟨b, off, none⟩ ∧ ∀ W, Fresh w W → ∀ i, i < n → ∃ a1 l1 c1, W.cell? ⟨b, off + i, none⟩ = some (.slice a1 l1 c1) ∧ Rk k p W (.slice a1 l1 c1) (L.getD i []) := fun hp => by
  obtain ⟨b, off, e, _, hb, hcell⟩ := h.cells.2.2 hp
  refine ⟨b, off, e, fun W hF i hi => ?_⟩
  obtain ⟨u, h1, h2⟩ := hcell i hi
  obtain ⟨a1, c1, h3, _⟩ := h2.shape
  subst h3
  exact ⟨a1, _, c1, (hF.cell (p := ⟨b, off + i, none⟩) hb (fun e => e)).trans h1, h2.fresh hF⟩
/-- The place of a row, where all ahead of it are right, is a number of 64 bits. -/
theorem place_i64 {eF : Nat → Int} {first : Int} {L : List (List Int)} {size : Int} {cs ss : List Int} (h1 : I64 first) (hc : cs.length ≤ 140737488351232) (he : ∀ i, eF i = rwE (L.getD i []) size cs ss (first + (i : Int))) {j : Nat} (hj : ∀ h, h < j → eF h = 0) : I64 (first + (j : Int)) := by
  rcases j with _ | j
  · simpa using h1
  · have := hj j (by omega)
    rw [he] at this
    have := rwE_place this
    exact ⟨by omega, by omega⟩

set_option maxHeartbeats 4000000 in
set_option maxRecDepth 100000 in
theorem Rows_any (p q r : Nat → Prop) (lv cv sv : Value) (L : List (List Int)) (cs ss : List Int) (size first : Int) (w : World) (hl : LL .i8 p w lv L) (hc : Rk .i8 q w cv cs) (hs : Rk .i8 r w sv ss) (hsz : I64 size) (hf : I64 first) (eF : Nat → Int) (lF : Nat → List Int)
    (he : ∀ i, eF i = rwE (L.getD i []) size cs ss (first + (i : Int))) (hlf : ∀ i, lF i = rwL (L.getD i []) size cs ss (first + (i : Int))) :
    Calls Tryd.prog 8 #[lv, zV size, cv, sv, zV first] w fun e w' => ∃ I E R v, e = .returned (.tuple #[v, zV I, zV E]) ∧ (RrIs L.length eF lF I E R ∧ LL .i8 (fun b => w.heap.size ≤ b ∧ b < w'.heap.size) w' v R ∧ Fresh w w') := by
  have hmany := hl.many
  have hcm := hc.many
  obtain ⟨ao, ac, hva, _⟩ := hl.shape
  obtain ⟨co, cc, hcv, _⟩ := hc.shape
  obtain ⟨so, sc, hsv, _⟩ := hs.shape
  subst hva
  have HC : Hid _ := hl.stay
  have HG : Hid (∀ W, Fresh w W → Rk .i8 q W cv cs ∧ Rk .i8 r W sv ss) := fun W hF => ⟨hc.fresh hF, hs.fresh hF⟩
  have HPl : Hid (∀ j : Nat, (∀ h, h < j → eF h = 0) → I64 (first + (j : Int))) := fun j hj => place_i64 hf hcm he hj
  have HSz : Hid (I64 size) := hsz
  have HEq : Hid ((∀ i, eF i = rwE (L.getD i []) size cs ss (first + (i : Int))) ∧ ∀ i, lF i = rwL (L.getD i []) size cs ss (first + (i : Int))) := ⟨he, hlf⟩
  obtain ⟨n, hn⟩ : ∃ n, L.length = n := ⟨_, rfl⟩
  have HN : Hid (L.length = n) := hn
  rw [hn] at HC hmany ⊢
  have hmk := run_mkL tyL8 n (by omega) w
  have hOL := own_madeL 23 w w.heap.size (Nat.le_refl _) n (by omega)
  have hFL : Fresh w (w.alloc (.cells (List.replicate n (Value.slice none 0 0)).toArray 23)) := (Kept.refl _ w).alloc _
  generalize w.alloc (.cells (List.replicate n (Value.slice none 0 0)).toArray 23) = W1 at *
  have HO : Hid (W1.ownsRow w.heap.size 23 1 (.slice (some ⟨w.heap.size, 0, none⟩) n n) n ([] ++ List.replicate (n - 0) (Value.slice none 0 0)) ∧ Us .i8 (fun b => w.heap.size < b ∧ b < W1.heap.size) W1 [] ((List.range 0).map lF) ∧ Fresh w W1 ∧ ∀ h, h < 0 → eF h = 0) := ⟨hOL, Us.nil _ _ _, hFL, fun h hh => by omega⟩
  subst hcv hsv
  clear hl hc hs hOL hFL hn hsz he hlf
  obtain ⟨f0, f1⟩ := hf
  go_enter Tryd.func8, Tryd.ntmps8
  go_wp2
  clear hmk
  go_loopw [23] (fun iv wr => ∃ (j : Nat) (us : List Value), j ≤ n ∧ iv = zV j ∧ Hid (wr.ownsRow w.heap.size 23 1 (.slice (some ⟨w.heap.size, 0, none⟩) n n) n (us ++ List.replicate (n - j) (Value.slice none 0 0)) ∧ Us .i8 (fun b => w.heap.size < b ∧ b < wr.heap.size) wr us ((List.range j).map lF) ∧ Fresh w wr ∧ ∀ h, h < j → eF h = 0)) (fun iv _ => n - (RowKit.intOf iv).toNat)
  case atStart => exact ⟨0, [], Nat.zero_le _, rfl, HO.out⟩
  case round =>
    obtain ⟨j, us, hj, rfl, HA⟩ := hrel
    clear HO
    by_cases hlt : j < n
    · obtain ⟨b, off, rfl, hcell⟩ := HC.out (by omega)
      obtain ⟨a1, l1, c1, g1, hr⟩ := hcell wr HA.out.2.2.1 j hlt
      obtain ⟨pl0, pl1⟩ := HPl.out j HA.out.2.2.2
      have HCall : Hid (Unit → _) := fun (_ : Unit) => rowAt_any _ _ _ _ _ _ _ _ _ size (first + (j : Int)) wr hr (HG.out wr HA.out.2.2.1).1 (HG.out wr HA.out.2.2.1).2 HSz.out ⟨pl0, pl1⟩
      rw [← HEq.out.1 j, ← HEq.out.2 j] at HCall
      have HI1 : Hid ((lF j).length * kb .i8 ≤ 140737488351232 ∧ ∀ z ∈ lF j, Fit .i8 z) := by
        show _ ∧ _
        rw [HEq.out.2 j]
        exact ⟨by have := rwL_len (L.getD j []) size cs ss (first + (j : Int)); have := hr.many; simp only [kb]; omega, rwL_c8 _ _ _ _ _⟩
      have hul : us.length = j := by rw [HA.out.2.1.1]; simp
      have hlt' : (j : Int) < (n : Int) := by omega
      by_cases h0 : eF j = 0
      · have hnext : ∀ h, h < j + 1 → eF h = 0 := fun h hh => by
          rcases Nat.lt_or_ge h j with e | e
          · exact HA.out.2.2.2 h e
          · obtain rfl : h = j := by omega
            exact h0
        rw [h0] at HCall
        have HQ : Hid (us.length = j ∧ ∀ h, h < j + 1 → eF h = 0) := ⟨hul, hnext⟩
        clear hcell hr hul hnext h0
        go_wp2_with fail
        refine (HCall.out ()).mono ?_
        rintro e w3 hG
        obtain ⟨v3, rfl, hR3, hF3⟩ := hG.row HI1.out.1 HI1.out.2
        obtain ⟨hul, hnext⟩ := HQ.out
        obtain ⟨a3, c3, rfl, _⟩ := hR3.shape
        have hlow : w.heap.size < wr.heap.size := (own_block HA.out.1).2.1
        have hO3 := owns_kept HA.out.1 hF3 (fun _ _ e => e)
        have f3 := own_frozen hO3 j
        have g3 : w3.cell? ⟨w.heap.size, j, none⟩ = some (.slice none 0 0) := by
          rw [hO3.cellAt j (by omega), List.getElem?_append_right (by omega), hul, Nat.sub_self, List.getElem?_replicate, if_pos (by omega)]
        generalize hlr : (lF j).length = lr at *
        have HX : Hid ((w3.setCell ⟨w.heap.size, j, none⟩ (.slice a3 lr c3)).ownsRow w.heap.size 23 1 (.slice (some ⟨w.heap.size, 0, none⟩) n n) n ((us ++ [Value.slice a3 lr c3]) ++ List.replicate (n - (j + 1)) (Value.slice none 0 0)) ∧ Us .i8 (fun b => w.heap.size < b ∧ b < (w3.setCell ⟨w.heap.size, j, none⟩ (.slice a3 lr c3)).heap.size) (w3.setCell ⟨w.heap.size, j, none⟩ (.slice a3 lr c3)) (us ++ [Value.slice a3 lr c3]) ((List.range (j + 1)).map lF) ∧ Fresh w (w3.setCell ⟨w.heap.size, j, none⟩ (.slice a3 lr c3)) ∧ ∀ h, h < j + 1 → eF h = 0) := by
          have hsz3 : (w3.setCell ⟨w.heap.size, j, none⟩ (.slice a3 lr c3)).heap.size = w3.heap.size := by simp [World.setCell]
          refine ⟨?_, ?_, (HA.out.2.2.1.trans hF3 (fun _ _ e => e)).setCell (fun e => by simp at e) _, hnext⟩
          · have := own_setB (i := j) (x := Value.slice a3 lr c3) hO3
            have e : (us ++ List.replicate (n - j) (Value.slice none 0 0)).set j (Value.slice a3 lr c3) = (us ++ [Value.slice a3 lr c3]) ++ List.replicate (n - (j + 1)) (Value.slice none 0 0) := by
              rw [List.set_append_right _ _ (by omega), hul, Nat.sub_self, show n - j = (n - (j + 1)) + 1 by omega, List.replicate_succ, List.set_cons_zero, List.append_assoc]
              rfl
            rw [e] at this
            exact this
          · rw [range_succL, hsz3]
            have hk : Kept (fun b => b = w.heap.size) w3 (w3.setCell ⟨w.heap.size, j, none⟩ (.slice a3 lr c3)) := (Kept.refl (fun b => b = w.heap.size) w3).setCell (p := ⟨w.heap.size, j, none⟩) (fun _ => rfl) _
            have hs3 := hF3.size
            have u1 : Us .i8 (fun b => w.heap.size < b ∧ b < w3.heap.size) w3 us ((List.range j).map lF) := (HA.out.2.1.kept hF3 (fun _ _ e => e)).mono (fun b hb => ⟨hb.1, by omega⟩)
            have u2 := u1.snoc (hR3.mono (q := fun b => w.heap.size < b ∧ b < w3.heap.size) (fun b hb => ⟨by omega, hb.2⟩))
            exact u2.kept hk (fun b hb e => by omega)
        clear hR3 hF3 hO3 HA HCall hlow hul hnext hlr HQ HI1 hG
        go_wp2
        go_roundw
        case rel => exact ⟨j + 1, us ++ [Value.slice a3 lr c3], hlt, by go_num, HX.out⟩
        case measure => simp [RowKit.intOf]; omega
      · have HX : Hid (RrIs n eF lF (j : Int) (eF j) [] ∧ Fresh w wr) := ⟨.inl ⟨j, hlt, h0, HA.out.2.2.2, rfl, rfl, rfl⟩, HA.out.2.2.1⟩
        have h0' : (eF j == 0) = false := beq_eq_false_iff_ne.2 h0
        clear hcell hr hul h0 HA HI1
        generalize eF j = E at *
        go_wp2_with fail
        refine (HCall.out ()).mono ?_
        rintro e w3 ⟨v3, rfl, ho3, hF3⟩
        obtain ⟨a3, c3, e3⟩ := ownsRow_shape ho3
        subst e3
        have HY : Hid (RrIs n eF lF (j : Int) E [] ∧ Fresh w w3) := ⟨HX.out.1, HX.out.2.trans hF3 (fun _ _ e => e)⟩
        clear ho3 hF3 HCall HX
        go_wp2
        go_ret3
        exact ⟨_, _, _, _, rfl, HY.out.1, ⟨none, 0, rfl, by simp, fun h => absurd rfl h, fun _ => rfl, by simp⟩, HY.out.2⟩
    · obtain rfl : j = n := by omega
      have HX : Hid (RrIs j eF lF 0 0 ((List.range j).map lF) ∧ LL .i8 (fun b => w.heap.size ≤ b ∧ b < wr.heap.size) wr (.slice (some ⟨w.heap.size, 0, none⟩) j j) ((List.range j).map lF) ∧ Fresh w wr) := by
        have ho := HA.out.1
        rw [Nat.sub_self, List.replicate_zero, List.append_nil] at ho
        exact ⟨.inr ⟨HA.out.2.2.2, rfl, rfl, rfl⟩, ll_of_own ho (HA.out.2.1.mono (fun b hb => ⟨by omega, hb.2⟩)) (by simp; omega), HA.out.2.2.1⟩
      clear HA HC
      go_wp2
      go_ret3
      exact ⟨_, _, _, _, rfl, HX.out⟩
end Go.Proofs.YtkemaofclahaiabDoor
