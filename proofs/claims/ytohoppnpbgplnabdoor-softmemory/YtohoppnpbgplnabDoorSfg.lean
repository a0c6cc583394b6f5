/-
  The means of columns, the package's.
-/
import Derived.Test.YtohoppnpbgplnabDoorSfc
import Derived.Test.YtohoppnpbgplnabDoorGvl
import Derived.BigQuiet
namespace Go.Proofs.YtohoppnpbgplnabDoor
open Go.RowKit Go.Lib Go.Maps

/-- The cells of a list of rows, whatever is made besides. -/
theorem LL.look {k : IntKind} {p : Nat → Prop} {w : World} {ao : Option Addr} {n cap : Nat} {L : List (List Int)} (h : LL k p w (.slice ao n cap) L) : 0 < n → ∃ b off, ao = some ⟨b, off, none⟩ ∧ ∀ W, Fresh w W → ∀ i, i < n → ∃ a1 c1, W.cell? ⟨b, off + i, none⟩ = some (.slice a1 (L.getD i []).length c1) ∧ Rk k p W (.slice a1 (L.getD i []).length c1) (L.getD i []) := fun hp => by
  obtain ⟨b, off, e, _, hb, hcell⟩ := h.cells.2.2 hp
  refine ⟨b, off, e, fun W hF i hi => ?_⟩
  obtain ⟨u, h1, h2⟩ := hcell i hi
  obtain ⟨a1, c1, h3, _⟩ := h2.shape
  subst h3
  exact ⟨a1, c1, (hF.cell (p := ⟨b, off + i, none⟩) hb (fun e => e)).trans h1, h2.fresh hF⟩
theorem LL.c8 {p : Nat → Prop} {w : World} {v : Value} {L : List (List Int)} (h : LL .i8 p w v L) (i c : Nat) : C8 ((L.getD i []).getD c 0) := by
  rcases Nat.lt_or_ge i L.length with e | e
  · obtain ⟨ao, cap, hv, _, hc, _⟩ := h
    obtain ⟨b, off, _, _, _, hcell⟩ := hc (fun e' => by rw [e'] at e; simp at e)
    obtain ⟨u, _, h2⟩ := hcell i e
    exact h2.get c
  · have h0 : L.getD i [] = [] := by rw [List.getD_eq_getElem?_getD, List.getElem?_eq_none e]; rfl
    rw [h0]
    exact ⟨by simp, by simp⟩

/-- Whether all rows have one length. -/
def lvB (L : List (List Int)) : Bool := L.all (fun r => decide (r.length = (L.getD 0 []).length))
theorem getD_L {L : List (List Int)} {i : Nat} (h : i < L.length) : L.getD i [] = L[i] := by rw [List.getD_eq_getElem?_getD, List.getElem?_eq_getElem h]; rfl
theorem lvB_not {L : List (List Int)} {i : Nat} (h : i < L.length) (he : (L.getD i []).length ≠ (L.getD 0 []).length) : lvB L = false := by
  unfold lvB
  rw [List.all_eq_false]
  exact ⟨L[i], List.getElem_mem h, by rw [← getD_L h]; simpa using he⟩
theorem lvB_of {L : List (List Int)} (h : ∀ i, i < L.length → (L.getD i []).length = (L.getD 0 []).length) : lvB L = true := by
  unfold lvB
  rw [List.all_eq_true]
  intro r hr
  obtain ⟨i, hi, rfl⟩ := List.getElem_of_mem hr
  rw [← getD_L hi]
  exact decide_eq_true (h i hi)
theorem lvB_get {L : List (List Int)} (h : lvB L = true) {i : Nat} (hi : i < L.length) : (L.getD i []).length = (L.getD 0 []).length := by
  have := List.all_eq_true.1 h _ (List.getElem_mem hi)
  rw [getD_L hi]
  exact of_decide_eq_true this
def msE (w : List Int) (L : List (List Int)) : Int := if lvB L = false then 1 else meE w L.length
/-- A column. -/
def colN (L : List (List Int)) (c : Nat) : List Int := mkL L.length (fun i => (L.getD i []).getD c 0)
def msF (w : List Int) (L : List (List Int)) (c : Nat) : Int := meF w (colN L c)
def msL (w : List Int) (L : List (List Int)) : List Int := if msE w L = 0 then mkL (L.getD 0 []).length (msF w L) else []
theorem msE_un {w : List Int} {L : List (List Int)} (h : lvB L = false) : msE w L = 1 := if_pos h
theorem msE_lv {w : List Int} {L : List (List Int)} (h : lvB L = true) : msE w L = meE w L.length := if_neg (by rw [h]; decide)
theorem msL_bad {w : List Int} {L : List (List Int)} (h : msE w L ≠ 0) : msL w L = [] := if_neg h
theorem msL_ok {w : List Int} {L : List (List Int)} (h : msE w L = 0) : msL w L = mkL (L.getD 0 []).length (msF w L) := if_pos h
theorem col_get {L : List (List Int)} {c i : Nat} (h : i < L.length) : (colN L c).getD i 0 = (L.getD i []).getD c 0 := mkL_get h
theorem col_c8 {L : List (List Int)} (h : ∀ i c, C8 ((L.getD i []).getD c 0)) (c i : Nat) : C8 ((colN L c).getD i 0) := by
  rcases Nat.lt_or_ge i L.length with e | e
  · rw [col_get e]; exact h i c
  · rw [List.getD_eq_getElem?_getD, List.getElem?_eq_none (by rw [colN, mkL_len]; exact e)]
    exact ⟨by simp, by simp⟩
theorem msE_zero {w : List Int} {L : List (List Int)} (h : msE w L = 0) : lvB L = true ∧ meE w L.length = 0 := by
  cases hl : lvB L with
  | false => rw [msE_un hl] at h; cases h
  | true => exact ⟨rfl, by rw [← msE_lv hl]; exact h⟩
theorem meE_some {w : List Int} {n : Nat} (h : meE w n = 0) : 1 ≤ n := by
  obtain ⟨e, _, _, h2⟩ := meE_zero h
  rcases Nat.eq_zero_or_pos n with h0 | h0
  · exact absurd (by rw [e, h0]; rfl) h2
  · exact h0
theorem msF_c8 {w : List Int} {L : List (List Int)} (h : msE w L = 0) (hv : ∀ i c, C8 ((L.getD i []).getD c 0)) (c : Nat) : C8 (msF w L c) := by
  obtain ⟨_, _, h1, h2⟩ := meE_zero (msE_zero h).2
  exact meF_c8 h1 h2 (col_c8 hv c)
theorem msL_fit {w : List Int} {L : List (List Int)} (hv : ∀ i c, C8 ((L.getD i []).getD c 0)) : ∀ z ∈ msL w L, Fit .i8 z := fun z hz => by
  by_cases h : msE w L = 0
  · rw [msL_ok h] at hz
    obtain ⟨i, _, rfl⟩ := mkL_mem hz
    exact msF_c8 h hv i
  · rw [msL_bad h] at hz; cases hz
theorem msL_len (w : List Int) (L : List (List Int)) : (msL w L).length ≤ (L.getD 0 []).length := by
  unfold msL
  split
  · rw [mkL_len]; omega
  · simp
theorem LL.room {k : IntKind} {p : Nat → Prop} {w : World} {v : Value} {L : List (List Int)} (h : LL k p w v L) : (L.getD 0 []).length * kb k ≤ 140737488351232 := by
  rcases Nat.eq_zero_or_pos L.length with e | e
  · rw [List.eq_nil_of_length_eq_zero e]; simp
  · obtain ⟨ao, cap, hv, _, hc, _⟩ := h
    obtain ⟨b, off, _, _, _, hcell⟩ := hc (fun e' => by rw [e'] at e; simp at e)
    obtain ⟨u, _, h2⟩ := hcell 0 e
    exact h2.len

set_option maxHeartbeats 1000000 in
set_option maxRecDepth 100000 in
theorem level_any (p : Nat → Prop) (v : Value) (L : List (List Int)) (w : World) (h : LL .i8 p w v L) :
    Calls Tryd.prog 27 #[v] w fun e w' => e = .returned (.bool (lvB L)) ∧ w' = w := by
  obtain ⟨ao, ac, rfl, _⟩ := h.shape
  have hm := h.many
  have HC : Hid _ := h.look
  have HN : Hid (∀ i, i < L.length → (L.getD i []).length ≠ (L.getD 0 []).length → lvB L = false) := fun i hi => lvB_not hi
  have HO : Hid ((∀ i, i < L.length → (L.getD i []).length = (L.getD 0 []).length) → lvB L = true) := lvB_of
  generalize hB : lvB L = B at *
  generalize L.length = n at *
  clear h hB
  go_enter Tryd.func27, Tryd.ntmps27
  go_wp2
  go_loop [7] (fun iv => ∃ j : Nat, j ≤ n ∧ iv = zV j ∧ Hid (∀ i, i < j → (L.getD i []).length = (L.getD 0 []).length)) (fun iv => n - (RowKit.intOf iv).toNat)
  case atStart => exact ⟨0, Nat.zero_le _, rfl, fun i hi => absurd hi (Nat.not_lt_zero _)⟩
  case round =>
    obtain ⟨j, hj, rfl, HA⟩ := hrel
    by_cases hlt : j < n
    · obtain ⟨b, off, rfl, hcell⟩ := HC.out (by omega)
      obtain ⟨a1, c1, g1, _⟩ := hcell w (Kept.refl _ _) j hlt
      obtain ⟨a0, c0, g0', _⟩ := hcell w (Kept.refl _ _) 0 (by omega)
      have g0 : w.cell? ⟨b, off, none⟩ = some (.slice a0 (L.getD 0 []).length c0) := by simpa using g0'
      have hlt' : (j : Int) < (n : Int) := by omega
      have hn0 : (0 : Int) < (n : Int) := by omega
      have HB : Hid ((L.getD j []).length = (L.getD 0 []).length → ∀ i, i < j + 1 → (L.getD i []).length = (L.getD 0 []).length) := fun hz i hi => by
        by_cases e : i = j
        · subst e; exact hz
        · exact HA.out i (by omega)
      have HN' : Hid _ := HN.out j hlt
      clear hcell HC HN HA HO g0'
      generalize (L.getD j []).length = x at *
      generalize (L.getD 0 []).length = y at *
      by_cases he : x = y
      · subst he
        clear HN'
        go_wp2
        go_round
        case rel => exact ⟨j + 1, hlt, by go_num, HB.out rfl⟩
        case measure => simp [RowKit.intOf]; omega
      · have e := HN'.out he
        subst e
        have he' : ¬ (x : Int) = (y : Int) := by omega
        clear he
        go_wp2
        go_ret
        exact ⟨rfl, rfl⟩
    · obtain rfl : j = n := by omega
      have e := HO.out HA.out
      subst e
      clear HC HN HO
      go_wp2
      go_ret
      exact ⟨rfl, rfl⟩

set_option maxHeartbeats 4000000 in
set_option maxRecDepth 100000 in
theorem Means_any (p q : Nat → Prop) (wv lv : Value) (ws : List Int) (L : List (List Int)) (w : World) (hw : Rk .i64 p w wv ws) (hl : LL .i8 q w lv L) :
    Calls Tryd.prog 9 #[wv, lv] w fun e w' => Gives .i8 37 (msL ws L) (msE ws L) w e w' := by
  have HLv : Hid (Unit → _) := fun (_ : Unit) => level_any q lv L w hl
  have hmany := hl.many
  have HW : Hid (Unit → _) := fun (_ : Unit) => weighed_any p wv ws L.length w hw (by omega)
  have HV : Hid (∀ i c, C8 ((L.getD i []).getD c 0)) := hl.c8
  have HRoom : Hid ((L.getD 0 []).length * kb .i8 ≤ 140737488351232) := hl.room
  obtain ⟨ao, ac, rfl, _⟩ := hw.shape
  obtain ⟨bo, bc, rfl, _⟩ := hl.shape
  cases hB : lvB L with
  | false =>
    rw [msL_bad (by rw [msE_un hB]; decide), msE_un hB]
    rw [hB] at HLv
    have HG : Hid (Gives .i8 37 [] 1 w (.returned (.tuple #[.slice none 0 0, zV 1])) w) := Gives.none _ _ _ _
    clear hw hl HW hB HV HRoom
    go_enter Tryd.func9, Tryd.ntmps9
    go_wp2_with fail
    refine (HLv.out ()).mono ?_
    rintro e w1 ⟨rfl, hw1⟩
    have hw2 := hw1.symm
    subst hw2
    clear hw1 HLv
    go_wp2
    go_ret2
    exact HG.out
  | true =>
    rw [hB] at HLv
    by_cases h0 : meE ws L.length = 0
    · have h0' : msE ws L = 0 := by rw [msE_lv hB]; exact h0
      obtain ⟨e1, e2, hO, hT⟩ := meE_zero h0
      have hS : meS ws L.length = tot ws ws.length := if_pos h0
      have hpos := meE_some h0
      rw [msL_ok h0', h0']
      rw [h0, hS] at HW
      have HX : Hid (∀ c W, Calls Tryd.prog 29 #[zV (dt ws (colN L c) ws.length), zV (tot ws ws.length)] W fun e w' => e = .returned (.int .i8 (msF ws L c)) ∧ Drew W w') := fun c W => nearest_any _ _ W (by have := tot_i64 hO (n := ws.length) (by omega); omega) (tot_i64 hO (n := ws.length) (by omega)).2 (dt_bound (okW_get hO) (col_c8 HV.out c) _).1 (dt_bound (okW_get hO) (col_c8 HV.out c) _).2
      have HD : Hid (∀ c j, j < ws.length → ((-70368744177664 ≤ dt ws (colN L c) j ∧ dt ws (colN L c) j ≤ 70368744177664) ∧ (-137438953472 ≤ ws.getD j 0 * (L.getD j []).getD c 0 ∧ ws.getD j 0 * (L.getD j []).getD c 0 ≤ 137438953472)) ∧ C8 ((L.getD j []).getD c 0) ∧ dt ws (colN L c) (j + 1) = dt ws (colN L c) j + ws.getD j 0 * (L.getD j []).getD c 0) := fun c j hj => by
        have h1 := dt_bound (okW_get hO) (col_c8 HV.out c) j
        have h2 := tot_i64 hO (n := j) (by omega)
        have h3 := okW_get hO j
        have h4 := HV.out j c
        refine ⟨⟨by omega, mul_w h3.1 h3.2 h4.1 h4.2⟩, h4, ?_⟩
        rw [← col_get (L := L) (c := c) (i := j) (by omega)]
        rfl
      have HLn : Hid (∀ i, i < L.length → (L.getD i []).length = (L.getD 0 []).length) := fun i hi => lvB_get hB hi
      have HC1 : Hid _ := hw.stay
      have HC2 : Hid _ := hl.look
      rw [e1] at HD HX HC1 HW ⊢
      generalize tot ws L.length = T at *
      generalize L.length = n at *
      obtain ⟨b2, off2, rfl, hcell2⟩ := HC2.out (by omega)
      obtain ⟨b1, off1, rfl, hcell1⟩ := HC1.out (by omega)
      have HCe1 : Hid _ := hcell1
      have HCe2 : Hid (∀ W, Fresh w W → ∀ i, i < n → ∃ a1 c1, W.cell? ⟨b2, off2 + i, none⟩ = some (.slice a1 (L.getD 0 []).length c1) ∧ Rk .i8 q W (.slice a1 (L.getD 0 []).length c1) (L.getD i [])) := fun W hF i hi => by
        have := hcell2 W hF i hi
        rw [HLn.out i hi] at this
        exact this
      have hroom := HRoom.out
      simp only [kb, Nat.mul_one] at hroom
      generalize hN : (L.getD 0 []).length = N at *
      have HFil : Hid (∀ W, Fil .i8 37 W N (msF ws L) 0 (W.alloc (.cells ((List.replicate N (0 : Int)).map (Value.int .i8)).toArray 37))) := fun W => Fil.start W N _ (by omega)
      have hmk := fun W => run_mk ty8 N N (Nat.le_refl _) (by simp [kb]; omega) W
      have hn0 : (0 : Int) < (n : Int) := by omega
      clear hw hl HV h0 h0' hO hT hS HC1 HC2 hcell1 hcell2 HLn HRoom hB e1 hN
      go_enter Tryd.func9, Tryd.ntmps9
      go_wp2_with fail
      refine (HLv.out ()).mono ?_
      rintro e w1 ⟨rfl, hw1⟩
      have hw2 := hw1.symm
      subst hw2
      clear hw1 HLv
      go_wp2_with fail
      refine (HW.out ()).mono ?_
      rintro e w1 ⟨rfl, d1, hw1⟩
      have HF1 : Hid (Fresh w w1) := by show Fresh _ _; rw [hw1]; exact (Kept.refl _ _).drewN d1
      have hmk1 := hmk w1
      have hFil1 := HFil.out w1
      obtain ⟨a0, c0, g0', _⟩ := HCe2.out w1 HF1.out 0 (by omega)
      have g0 : w1.cell? ⟨b2, off2, none⟩ = some (.slice a0 N c0) := by simpa using g0'
      generalize hW0 : w1.alloc (.cells ((List.replicate N (0 : Int)).map (Value.int .i8)).toArray 37) = W0 at *
      have HW0 : Hid (Fil .i8 37 w1 N (msF ws L) 0 W0) := hFil1
      clear hFil1 HFil hmk g0' hw1 HW hW0
      go_wp2
      clear hmk1 g0
      go_loopw [33] (fun iv wr => ∃ c : Nat, c ≤ N ∧ iv = zV c ∧ Hid (Fil .i8 37 w1 N (msF ws L) c wr)) (fun iv _ => N - (RowKit.intOf iv).toNat)
      case atStart => exact ⟨0, Nat.zero_le _, rfl, HW0.out⟩
      case round =>
        obtain ⟨c, hc, rfl, HA⟩ := hrel
        clear HW0
        by_cases hlt : c < N
        · have hlt' : (c : Int) < (N : Int) := by omega
          have HFw : Hid (Fresh w wr) := HF1.out.trans HA.out.2 (fun _ _ e => e)
          have HXc : Hid (∀ W : World, _) := HX.out c
          have HDc : Hid (∀ j, j < n → _) := HD.out c
          clear HX HD
          go_wp2
          go_loopw [10, 38] (fun sv jv wi => ∃ j d : Nat, j ≤ n ∧ jv = zV j ∧ sv = zV (dt ws (colN L c) j) ∧ wi = wr.drewN d) (fun _ jv _ => n - (RowKit.intOf jv).toNat)
          case atStart => exact ⟨0, 0, Nat.zero_le _, rfl, rfl, rfl⟩
          case round =>
            obtain ⟨j, d, hj, rfl, rfl, rfl⟩ := hrel
            by_cases hlt2 : j < n
            · have hlt2' : (j : Int) < (n : Int) := by omega
              have g1 := HCe1.out wr HFw.out j hlt2
              obtain ⟨ra, rc, g2, hrow⟩ := HCe2.out wr HFw.out j hlt2
              obtain ⟨rb, roff, rfl, hrc⟩ := hrow.stay (by omega)
              have g3 := hrc wr (Kept.refl _ _) c hlt
              obtain ⟨⟨⟨d0, d1⟩, m0, m1⟩, ⟨y0, y1⟩, hs⟩ := HDc.out j hlt2
              have HS : Hid _ := hs
              clear hrow hrc hs HDc HXc HCe1 HCe2
              generalize ws.getD j 0 = x at *
              generalize (L.getD j []).getD c 0 = y at *
              generalize dt ws (colN L c) j = D at *
              obtain ⟨P, hP⟩ : ∃ P, x * y = P := ⟨_, rfl⟩
              rw [hP] at m0 m1 HS
              go_wp2_with fail
              go_quiet (fail)
              go_wp2
              go_roundw
              case rel => exact ⟨j + 1, d + nq, hlt2, by go_num, by rw [HS.out], rfl⟩
              case measure => simp [RowKit.intOf]; omega
            · obtain rfl : j = n := by omega
              clear HDc HCe1 HCe2
              generalize dt ws (colN L c) j = D at *
              go_wp2_with fail
              refine (HXc.out _).mono ?_
              rintro e w3 ⟨rfl, d3, hw3⟩
              have HA3 : Hid (Fil .i8 37 w1 N (msF ws L) c w3) := by show Fil _ _ _ _ _ _ _; rw [hw3]; exact (HA.out.drew d).drew d3
              have f3 := own_frozen HA3.out.1 c
              have g3 := own_get HA3.out.1 c hlt
              have HXX : Hid (Fil .i8 37 w1 N (msF ws L) (c + 1) (w3.setCell ⟨w1.heap.size, c, none⟩ (.int .i8 (msF ws L c)))) := HA3.out.next hlt
              clear HXc HA hw3 HA3
              generalize msF ws L c = M at *
              go_wp2
              go_roundw
              case rel => exact ⟨c + 1, hlt, by go_num, HXX.out⟩
              case measure => simp [RowKit.intOf]; omega
        · obtain rfl : c = N := by omega
          have HXX : Hid (Gives .i8 37 (mkL c (msF ws L)) 0 w (.returned (.tuple #[.slice (some ⟨w1.heap.size, 0, none⟩) c c, zV 0])) wr) := by
            obtain ⟨v, h1, h2, h3⟩ := HA.out.done 0
            exact ⟨v, h1, own_low h2 HF1.out.size, HF1.out.trans h3 (fun _ _ e => e)⟩
          clear HA HX HD HCe1 HCe2
          go_wp2
          go_ret2
          exact HXX.out
    · have hE : msE ws L = meE ws L.length := msE_lv hB
      rw [msL_bad (by rw [hE]; exact h0), hE]
      have hS : meS ws L.length = 0 := if_neg h0
      rw [hS] at HW
      have h0' : (meE ws L.length == 0) = false := by simp [h0]
      have HG : Hid (∀ W, Fresh w W → Gives .i8 37 [] (meE ws L.length) w (.returned (.tuple #[.slice none 0 0, zV (meE ws L.length)])) W) := fun W hF => ⟨_, rfl, own_nil _ _ _, hF⟩
      clear hw hl hB HV HRoom hE hS
      generalize meE ws L.length = E at *
      generalize L.length = n at *
      go_enter Tryd.func9, Tryd.ntmps9
      go_wp2_with fail
      refine (HLv.out ()).mono ?_
      rintro e w1 ⟨rfl, hw1⟩
      have hw2 := hw1.symm
      subst hw2
      clear hw1 HLv
      go_wp2_with fail
      refine (HW.out ()).mono ?_
      rintro e w1 ⟨rfl, d1, hw1⟩
      have HGG : Hid _ := HG.out w1 (by rw [hw1]; exact (Kept.refl _ _).drewN d1)
      clear hw1 HW HG
      go_wp2
      go_ret2
      exact HGG.out
end Go.Proofs.YtohoppnpbgplnabDoor
