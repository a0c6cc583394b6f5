/-
  Masks: rows of bools; the places that a mask lets be; Masked, the package's.
-/
import Derived.Test.YtohoppnpbgplnabDoorSfa
import Derived.Test.YtohoppnpbgplnabDoorGvl
namespace Go.Proofs.YtohoppnpbgplnabDoor
open Go.RowKit Go.Lib Go.Maps

/-- A row of bools. -/
def Rb (p : Nat → Prop) (W : World) (v : Value) (l : List Bool) : Prop :=
  ∃ ao cap, v = .slice ao l.length cap ∧ l.length ≤ 140737488351232 ∧
    (0 < l.length → ∃ b off, ao = some ⟨b, off, none⟩ ∧ p b ∧ b < W.heap.size ∧ ∀ i, i < l.length → W.cell? ⟨b, off + i, none⟩ = some (.bool (l.getD i false)))
theorem Rb.fresh {p : Nat → Prop} {W W' : World} {v : Value} {l : List Bool} (h : Rb p W v l) (hk : Fresh W W') : Rb p W' v l := by
  obtain ⟨ao, cap, hv, hl, hc⟩ := h
  refine ⟨ao, cap, hv, hl, fun h0 => ?_⟩
  obtain ⟨b, off, ha, hp, hb, hcell⟩ := hc h0
  exact ⟨b, off, ha, hp, Nat.lt_of_lt_of_le hb hk.size, fun i hi => (hk.cell (p := ⟨b, off + i, none⟩) hb (fun e => e)).trans (hcell i hi)⟩
theorem Rb.shape {p : Nat → Prop} {W : World} {v : Value} {l : List Bool} (h : Rb p W v l) : ∃ ao cap, v = .slice ao l.length cap := by
  obtain ⟨ao, cap, hv, _⟩ := h
  exact ⟨ao, cap, hv⟩
theorem Rb.many {p : Nat → Prop} {W : World} {v : Value} {l : List Bool} (h : Rb p W v l) : l.length ≤ 140737488351232 := by
  obtain ⟨ao, cap, hv, h, _⟩ := h
  exact h
theorem Rb.stay {p : Nat → Prop} {w : World} {ao : Option Addr} {n cap : Nat} {l : List Bool} (h : Rb p w (.slice ao n cap) l) : 0 < n → ∃ b off, ao = some ⟨b, off, none⟩ ∧ ∀ W, Fresh w W → ∀ i, i < n → W.cell? ⟨b, off + i, none⟩ = some (.bool (l.getD i false)) := fun hp => by
  obtain ⟨ao', cap', hv, _, hc⟩ := h
  injection hv with e1 e2 e3
  subst e1
  subst e2
  obtain ⟨b, off, ha, _, hb, hcell⟩ := hc hp
  exact ⟨b, off, ha, fun W hF i hi => (hF.cell (p := ⟨b, off + i, none⟩) hb (fun e => e)).trans (hcell i hi)⟩

/-- The places that are let be, among the first k. -/
def plN (mk : List Bool) : Nat → List Int
  | 0 => []
  | k + 1 => if mk.getD k false = true then plN mk k ++ [(k : Int)] else plN mk k
def ct (mk : List Bool) (k : Nat) : Nat := (plN mk k).length
theorem plN_yes {mk : List Bool} {k : Nat} (h : mk.getD k false = true) : plN mk (k + 1) = plN mk k ++ [(k : Int)] := if_pos h
theorem plN_no {mk : List Bool} {k : Nat} (h : mk.getD k false = false) : plN mk (k + 1) = plN mk k := if_neg (by rw [h]; decide)
theorem ct_yes {mk : List Bool} {k : Nat} (h : mk.getD k false = true) : ct mk (k + 1) = ct mk k + 1 := by unfold ct; rw [plN_yes h]; simp
theorem ct_no {mk : List Bool} {k : Nat} (h : mk.getD k false = false) : ct mk (k + 1) = ct mk k := by unfold ct; rw [plN_no h]
theorem ct_le (mk : List Bool) : ∀ k, ct mk k ≤ k
  | 0 => Nat.le_refl _
  | k + 1 => by
    have := ct_le mk k
    cases h : mk.getD k false with
    | true => rw [ct_yes h]; omega
    | false => rw [ct_no h]; omega
theorem ct_mono (mk : List Bool) {j k : Nat} (h : j ≤ k) : ct mk j ≤ ct mk k := by
  induction k with
  | zero => rw [show j = 0 by omega]; exact Nat.le_refl _
  | succ k ih =>
    by_cases e : j = k + 1
    · rw [e]; exact Nat.le_refl _
    · have := ih (by omega)
      cases h : mk.getD k false with
      | true => rw [ct_yes h]; omega
      | false => rw [ct_no h]; omega
theorem ct_lt (mk : List Bool) {p n : Nat} (h : p < n) (hm : mk.getD p false = true) : ct mk p < ct mk n := by
  have := ct_mono mk (show p + 1 ≤ n from h)
  rw [ct_yes hm] at this
  omega
theorem pl_at (mk : List Bool) : ∀ n i, i < ct mk n → ∃ p : Nat, (plN mk n).getD i 0 = (p : Int) ∧ p < n ∧ mk.getD p false = true ∧ ct mk p = i
  | 0, i, h => absurd h (Nat.not_lt_zero _)
  | n + 1, i, h => by
    cases hm : mk.getD n false with
    | true =>
      rw [ct_yes hm] at h
      rw [plN_yes hm]
      by_cases e : i < ct mk n
      · obtain ⟨p, h1, h2, h3, h4⟩ := pl_at mk n i e
        refine ⟨p, ?_, by omega, h3, h4⟩
        rw [List.getD_eq_getElem?_getD, List.getElem?_append_left e, ← List.getD_eq_getElem?_getD]
        exact h1
      · obtain rfl : i = ct mk n := by omega
        refine ⟨n, ?_, by omega, hm, rfl⟩
        unfold ct
        rw [List.getD_eq_getElem?_getD, List.getElem?_append_right (Nat.le_refl _)]
        simp
    | false =>
      rw [ct_no hm] at h
      rw [plN_no hm]
      obtain ⟨p, h1, h2, h3, h4⟩ := pl_at mk n i h
      exact ⟨p, h1, by omega, h3, h4⟩
theorem pl_mem {mk : List Bool} : ∀ {n : Nat} {z : Int}, z ∈ plN mk n → ∃ p : Nat, z = (p : Int) ∧ p < n
  | 0, z, h => by cases h
  | n + 1, z, h => by
    cases hm : mk.getD n false with
    | true =>
      rw [plN_yes hm] at h
      rcases List.mem_append.1 h with e | e
      · obtain ⟨p, h1, h2⟩ := pl_mem e; exact ⟨p, h1, by omega⟩
      · simp at e; exact ⟨n, e, by omega⟩
    | false =>
      rw [plN_no hm] at h
      obtain ⟨p, h1, h2⟩ := pl_mem h
      exact ⟨p, h1, by omega⟩
/-- The scores that are let be. -/
def selL (zs : List Int) (mk : List Bool) (k : Nat) : List Int := (plN mk k).map (fun p => zs.getD p.toNat 0)
theorem selL_len (zs : List Int) (mk : List Bool) (k : Nat) : (selL zs mk k).length = ct mk k := by simp [selL, ct]
theorem selL_yes {zs : List Int} {mk : List Bool} {k : Nat} (h : mk.getD k false = true) : selL zs mk (k + 1) = selL zs mk k ++ [zs.getD k 0] := by
  unfold selL
  rw [plN_yes h]
  simp
theorem selL_no {zs : List Int} {mk : List Bool} {k : Nat} (h : mk.getD k false = false) : selL zs mk (k + 1) = selL zs mk k := by unfold selL; rw [plN_no h]
theorem selL_mk (zs : List Int) (mk : List Bool) (k : Nat) : selL zs mk k = mkL (ct mk k) (fun i => zs.getD ((plN mk k).getD i 0).toNat 0) := by
  apply List.ext_getElem
  · rw [selL_len, mkL_len]
  · intro i h1 h2
    have hi : i < (plN mk k).length := by rw [selL_len] at h1; exact h1
    simp only [selL, mkL, List.getElem_map, List.getElem_range, getD_getElem hi]
theorem selL_fit {zs : List Int} (mk : List Bool) (k : Nat) (h : ∀ i, I64 (zs.getD i 0)) : ∀ z ∈ selL zs mk k, Fit .i64 z := fun z hz => by
  obtain ⟨p, _, rfl⟩ := List.mem_map.1 hz
  exact h _
def maE (zs : List Int) (mk : List Bool) : Int := if (zs.length < 1 ∨ 512 < zs.length) ∨ mk.length ≠ zs.length then 1 else if ct mk zs.length = 0 then 111 else 0
def maF (zs : List Int) (mk : List Bool) (n p : Nat) : Int := if mk.getD p false = true then wF (selL zs mk n) (ct mk p) else 0
def maL (zs : List Int) (mk : List Bool) : List Int := if maE zs mk = 0 then mkL zs.length (maF zs mk zs.length) else []
theorem ma_arg {zs : List Int} {mk : List Bool} (h : (zs.length < 1 ∨ 512 < zs.length) ∨ mk.length ≠ zs.length) : maE zs mk = 1 ∧ maL zs mk = [] := by
  have e : maE zs mk = 1 := if_pos h
  exact ⟨e, if_neg (by rw [e]; decide)⟩
theorem ma_masked {zs : List Int} {mk : List Bool} (h1 : 1 ≤ zs.length) (h2 : zs.length ≤ 512) (h3 : mk.length = zs.length) (h4 : ct mk zs.length = 0) : maE zs mk = 111 ∧ maL zs mk = [] := by
  have e : maE zs mk = 111 := by unfold maE; rw [if_neg (by omega), if_pos h4]
  exact ⟨e, if_neg (by rw [e]; decide)⟩
theorem ma_ok {zs : List Int} {mk : List Bool} (h1 : 1 ≤ zs.length) (h2 : zs.length ≤ 512) (h3 : mk.length = zs.length) (h4 : ct mk zs.length ≠ 0) : maE zs mk = 0 ∧ maL zs mk = mkL zs.length (maF zs mk zs.length) := by
  have e : maE zs mk = 0 := by unfold maE; rw [if_neg (by omega), if_neg h4]
  exact ⟨e, if_pos e⟩
theorem maL_len (zs : List Int) (mk : List Bool) : (maL zs mk).length ≤ 512 := by
  unfold maL
  split
  · rename_i h
    rw [mkL_len]
    unfold maE at h
    split at h
    · cases h
    · omega
  · simp
theorem maL_mem {zs : List Int} {mk : List Bool} {z : Int} (hz : z ∈ maL zs mk) : 0 ≤ z ∧ z ≤ 1073741824 := by
  unfold maL at hz
  split at hz
  · obtain ⟨i, _, rfl⟩ := mkL_mem hz
    unfold maF
    split
    · exact wt_bound _ _
    · exact ⟨by decide, by decide⟩
  · cases hz
theorem maL_fit (zs : List Int) (mk : List Bool) : ∀ z ∈ maL zs mk, Fit .i64 z := fun z hz => by
  have := maL_mem hz
  exact ⟨by omega, by omega⟩
/-- What has been laid of it behind i weights. -/
def maG (zs : List Int) (mk : List Bool) (n i p : Nat) : Int := if mk.getD p false = true ∧ ct mk p < i then wF (selL zs mk n) (ct mk p) else 0
theorem maG_zero (zs : List Int) (mk : List Bool) (n : Nat) : mkL n (maG zs mk n 0) = List.replicate n 0 := by
  apply List.ext_getElem
  · simp [mkL]
  · intro i h1 h2
    simp [mkL, maG]
theorem maG_step {zs : List Int} {mk : List Bool} {n i p : Nat} (_hp : p < n) (hm : mk.getD p false = true) (hc : ct mk p = i) : (mkL n (maG zs mk n i)).set p (wF (selL zs mk n) i) = mkL n (maG zs mk n (i + 1)) := by
  apply List.ext_getElem
  · simp [mkL]
  · intro q h1 h2
    have hq : q < n := by simpa [mkL] using h2
    rw [List.getElem_set]
    simp only [mkL, List.getElem_map, List.getElem_range]
    by_cases e : p = q
    · subst e
      rw [if_pos rfl]
      unfold maG
      rw [if_pos ⟨hm, by omega⟩, hc]
    · rw [if_neg e]
      unfold maG
      cases hmq : mk.getD q false with
      | false => simp
      | true =>
        have hne : ct mk q ≠ i := by
          intro h
          rcases Nat.lt_or_ge p q with h' | h'
          · have := ct_lt mk h' hm; omega
          · have := ct_lt mk (show q < p by omega) hmq; omega
        by_cases hlt : ct mk q < i
        · rw [if_pos ⟨rfl, hlt⟩, if_pos ⟨rfl, by omega⟩]
        · rw [if_neg (by intro h; exact hlt h.2), if_neg (by intro h; omega)]
theorem maG_done {zs : List Int} {mk : List Bool} {n : Nat} : mkL n (maG zs mk n (ct mk n)) = mkL n (maF zs mk n) := by
  apply List.ext_getElem
  · simp [mkL]
  · intro q h1 h2
    have hq : q < n := by simpa [mkL] using h2
    simp only [mkL, List.getElem_map, List.getElem_range]
    unfold maG maF
    cases hmq : mk.getD q false with
    | false => simp
    | true => rw [if_pos ⟨rfl, ct_lt mk hq hmq⟩, if_pos rfl]

theorem tyI : Ty .i64 3 69 := ⟨Tryd.underlying69, Tryd.underlying3, by kernel_rfl, by kernel_rfl⟩
/-- One number behind a row of one's own, whatever its shape. -/
theorem pushV {k : IntKind} {e s : TypeId} (ht : Ty k e s) (X : World) (B : Nat) (v : Value) (j : Nat) (xs : List Int) (x : Int) (hown : X.ownsRow B e 1 v j (xs.map (Value.int k))) (hj : (j + 1) * kb k ≤ 140737488355328) (hB : B ≤ X.heap.size) :
    ∃ v' X', (Builtin.append_ #[s, s] s #[v, .slice (some ⟨X.heap.size, 0, none⟩) 1 1]).run Tryd.prog (X.alloc (.cells #[.int k x] e)) = .ok v' X' ∧
      X'.ownsRow B e 1 v' (j + 1) ((xs ++ [x]).map (Value.int k)) ∧ Kept (fun b => v.ownBlock = some b) X X' := by
  obtain ⟨i0, hi0, hz0, hz1, hz2⟩ := info_parts ht.info
  have hk := kb_pos k
  have hx2 : j + 1 ≤ 140737488355328 := Nat.le_trans (Nat.le_mul_of_pos_right _ hk) hj
  have hY : (X.alloc (.cells #[.int k x] e)).ownsRow B e 1 v j (xs.map (Value.int k)) := owns_kept hown ((Kept.refl (fun _ => False) X).alloc _) (fun _ _ e => e)
  obtain ⟨v', w', hrun, ho, hg, _, hb⟩ := run_append_own_at (P := Tryd.prog) (X.alloc (.cells #[.int k x] e)) B s s e i0 _ 1 (kb k) ht.u hi0 hz0 hz1 hz2 rfl (by omega) _ j _ hY ⟨X.heap.size, 0, none⟩ 1 1 [.int k x] rfl (fun q u hq => cell_one_new X (.int k x) e q u hq) (fun u hu => by simp at hu; subst hu; rfl) (by unfold maxLen; omega) hj (by simp; omega)
  exact ⟨v', w', hrun, by rw [List.map_append]; exact ho, ((Kept.refl (fun b => v.ownBlock = some b) X).alloc _).grown hg (fun q _ e => e)⟩

set_option maxHeartbeats 1000000 in
set_option maxRecDepth 100000 in
theorem letBe_any (p : Nat → Prop) (v : Value) (mk : List Bool) (w : World) (h : Rb p w v mk) (hn : mk.length ≤ 512) :
    Calls Tryd.prog 31 #[v] w fun e w' => ∃ ao cp, e = .returned (.slice ao (ct mk mk.length) cp) ∧ w'.ownsRow w.heap.size 3 1 (.slice ao (ct mk mk.length) cp) (ct mk mk.length) ((plN mk mk.length).map zV) ∧ Fresh w w' := by
  obtain ⟨ao, ac, rfl⟩ := h.shape
  have HC : Hid _ := h.stay
  generalize mk.length = n at *
  clear h
  have HO : Hid (w.ownsRow w.heap.size 3 1 (.slice none 0 0) 0 (([] : List Int).map zV) ∧ Fresh w w) := ⟨own_nil _ _ _, Kept.refl _ _⟩
  go_enter Tryd.func31, Tryd.ntmps31
  go_wp2
  go_loopw [3, 8] (fun pv iv wr => ∃ (j : Nat) (ao : Option Addr) (cp : Nat), j ≤ n ∧ iv = zV j ∧ pv = .slice ao (ct mk j) cp ∧ Hid (wr.ownsRow w.heap.size 3 1 (.slice ao (ct mk j) cp) (ct mk j) ((plN mk j).map zV) ∧ Fresh w wr)) (fun _ iv _ => n - (RowKit.intOf iv).toNat)
  case atStart => exact ⟨0, none, 0, Nat.zero_le _, rfl, rfl, HO.out⟩
  case round =>
    obtain ⟨j, qo, qc, hj, rfl, rfl, HA⟩ := hrel
    clear HO
    by_cases hlt : j < n
    · obtain ⟨b, off, rfl, hcell⟩ := HC.out (by omega)
      have g1 := hcell wr HA.out.2 j hlt
      have hlt' : (j : Int) < (n : Int) := by omega
      have hle := ct_le mk j
      clear hcell HC
      cases hm : mk.getD j false with
      | true =>
        rw [hm] at g1
        obtain ⟨v', X', hr1, ho, hk⟩ := pushV tyI wr w.heap.size _ _ _ (j : Int) HA.out.1 (by simp [kb]; omega) HA.out.2.size
        obtain ⟨ao', cp', rfl⟩ := ownsRow_shape ho
        have hF : Fresh w X' := HA.out.2.trans hk (fun i hi e => by have := own_ge HA.out.1 e; omega)
        rw [← plN_yes hm] at ho
        have HN : Hid (X'.ownsRow w.heap.size 3 1 (.slice ao' (ct mk (j + 1)) cp') (ct mk (j + 1)) ((plN mk (j + 1)).map zV) ∧ Fresh w X' ∧ ct mk (j + 1) = ct mk j + 1) := by
          refine ⟨?_, hF, ct_yes hm⟩
          rw [ct_yes hm]
          exact ho
        clear HA ho hk hF hm
        generalize ct mk j = c at *
        go_wp2_with (at_builtin; refine Lib.wpList_append_run _ rfl _ _ _ _ rfl _ _ rfl rfl _ _ hr1 ?_)
        go_roundw
        case rel => exact ⟨j + 1, ao', cp', hlt, by go_num, by rw [HN.out.2.2], HN.out.1, HN.out.2.1⟩
        case measure => simp [RowKit.intOf]; omega
      | false =>
        rw [hm] at g1
        have HN : Hid (wr.ownsRow w.heap.size 3 1 (.slice qo (ct mk (j + 1)) qc) (ct mk (j + 1)) ((plN mk (j + 1)).map zV) ∧ Fresh w wr ∧ ct mk (j + 1) = ct mk j) := by
          rw [show Hid _ = _ from rfl, ct_no hm, plN_no hm]
          exact ⟨HA.out.1, HA.out.2, rfl⟩
        clear HA hm
        generalize ct mk j = c at *
        go_wp2
        go_roundw
        case rel => exact ⟨j + 1, qo, qc, hlt, by go_num, by rw [HN.out.2.2], HN.out.1, HN.out.2.1⟩
        case measure => simp [RowKit.intOf]; omega
    · obtain rfl : j = n := by omega
      clear HC
      go_wp2
      go_ret
      exact ⟨qo, qc, rfl, HA.out⟩
end Go.Proofs.YtohoppnpbgplnabDoor
