/-
  A text becomes tokens, by a coder.
-/
import Derived.Test.YtjjpkidmlpmgaaaVok
namespace Go.Proofs.Ytjjpkidmlpmgaaa
open Go.RowKit Go.Lib Go.Maps

theorem CoSt.coder {B : Nat} {X : World} {s : Sc} {A : List Int} {M : List Mg} {mv : Value} {us : List Value} {W : List (List Int)} (h : CoSt B X s A M mv us W) : Rs B X [CO s A mv M.length] := h.rs.drop (by simp)
theorem CoSt.cA {B : Nat} {X : World} {s : Sc} {A : List Int} {M : List Mg} {mv : Value} {us : List Value} {W : List (List Int)} (h : CoSt B X s A M mv us W) {i : Nat} (hi : i < 256) : X.cell? ⟨s.cb, i, none⟩ = some (zV (gI A i)) := by
  have hl : (A.map zV ++ [mv, .map (some s.mb), sl s.wb M.length]).length = 259 := by simp [h.bA]
  have hiA : i < A.length := by rw [h.bA]; exact hi
  rw [h.coder.geV hl i (by omega), List.getD_eq_getElem?_getD, List.getElem?_append_left (by simpa using hiA), List.getElem?_map, List.getElem?_eq_getElem hiA]
  show some (zV A[i]) = some (zV (A.getD i 0))
  rw [getD_getElem hiA]
theorem CoSt.drewN {B : Nat} {X : World} {s : Sc} {A : List Int} {M : List Mg} {mv : Value} {us : List Value} {W : List (List Int)} (h : CoSt B X s A M mv us W) (d : Nat) : CoSt B (X.drewN d) s A M mv us W :=
  ⟨h.rs.drewN d, h.km.kept (kept_drewN (fun _ => False) X d) (fun e => e), h.mg.kept (kept_drewN (fun _ => False) X d) (fun _ _ e => e), h.bA, h.bu, h.bw, h.le, h.geM⟩
/-- A row behind all merges, of a text. -/
abbrev edF (A : List Int) (txt : List UInt8) (M : List Mg) (W : List (List Int)) : Ro := mrF M (txt.length + 3) (bgF A txt M W)
/-- The tokens of a text. -/
abbrev enL (A : List Int) (txt : List UInt8) (M : List Mg) (W : List (List Int)) : List Int := tkL (edF A txt M W) (txt.length + 2) (txt.length + 2) (gI (edF A txt M W).n 0).toNat
theorem nz_le (L : List Int) : nz L ≤ L.length := List.countP_le_length
theorem src_iv {M : List Mg} {n : Nat} : ∀ {k i : Nat} {R : Ro}, Iv R n → Iv (srcF M k i R).2 n
  | 0, _, _, h => h
  | k + 1, i, R, h => by
    unfold srcF
    split
    · rename_i p R' e; have := h.first (M := M) (i := i) (gW R.w i).length; rw [e] at this; exact this
    · rename_i R' e; have := h.first (M := M) (i := i) (gW R.w i).length; rw [e] at this; exact src_iv this
theorem src_fd {M : List Mg} {n : Nat} (hM : Mok M) : ∀ {k i : Nat} {R : Ro} {j p : Nat} {R' : Ro}, Iv R n → i + k ≤ M.length → srcF M k i R = (some (j, p), R') → j < M.length ∧ Fd M R' n j p (gI R'.n p).toNat (gI R'.n (gI R'.n p).toNat).toNat (gI (R'.a.set (gI R'.n (gI R'.n p).toNat).toNat (p : Int)) p).toNat
  | 0, _, _, _, _, _, _, _, h => by simp [srcF] at h
  | k + 1, i, R, j, p, R', hI, hk, h => by
    unfold srcF at h
    split at h
    · rename_i p' R'' e
      simp only [Prod.mk.injEq, Option.some.injEq] at h
      obtain ⟨⟨rfl, rfl⟩, rfl⟩ := h
      have hf := hI.found (M := M) (i := i) (m := (gW R.w i).length) (p := p') hM (by omega) (by rw [e])
      obtain ⟨_, e2, e3, _⟩ := fst_same M i (gW R.w i).length R
      rw [e] at hf e2 e3
      simp only at e2 e3
      rw [← e2, ← e3] at hf
      exact ⟨by omega, hf⟩
    · rename_i R'' e
      have h2 := hI.first (M := M) (i := i) (gW R.w i).length
      rw [e] at h2
      exact src_fd hM h2 (by omega) h
theorem ap_iv {M : List Mg} {n i p : Nat} {R : Ro} (hM : Mok M) (h : Iv R n) (hf : Fd M R n i p (gI R.n p).toNat (gI R.n (gI R.n p).toNat).toNat (gI (R.a.set (gI R.n (gI R.n p).toNat).toNat (p : Int)) p).toNat) : Iv (apF M R i p) n :=
  ((h.merged hf).note hM hf.un).note hM hf.pn
theorem mr_iv {M : List Mg} {n : Nat} (hM : Mok M) : ∀ {f : Nat} {R : Ro}, Iv R n → Iv (mrF M f R) n
  | 0, _, h => h
  | f + 1, R, h => by
    have h2 := src_iv (M := M) (k := M.length) (i := 0) h
    unfold mrF
    split
    · rename_i i p R' e
      rw [e] at h2
      exact mr_iv hM (ap_iv hM h2 (src_fd hM h (by omega) e).2)
    · rename_i R' e
      rw [e] at h2
      exact h2
/-- What encode leaves. -/
def Enc (B : Nat) (X : World) (s : Sc) (A : List Int) (M : List Mg) (mv : Value) (W : List (List Int)) (txt : List UInt8) (e : Ending) (X' : World) : Prop :=
  (∃ i, i < txt.length ∧ gI A (txt.getD i 0).toNat = 0 ∧ (∀ j, j < i → gI A (txt.getD j 0).toNat ≠ 0) ∧ e = .returned (.tuple #[nilV, zV i, zV 132]) ∧ ∃ d, X' = X.drewN d) ∨
  ((∀ j, j < txt.length → gI A (txt.getD j 0).toNat ≠ 0) ∧ ∃ v Y, e = .returned (.tuple #[v, zV 0, zV 0]) ∧ Rs Y.heap.size X' [RI v (enL A txt M W)] ∧ Fresh Y X' ∧ Up0 B X Y ∧ B ≤ Y.heap.size ∧ ∃ s' us', s'.cb = s.cb ∧ s'.wb = s.wb ∧ s'.mb = s.mb ∧ RwSt B Y s' A M mv (txt.length + 2) us' (edF A txt M W) [])
set_option maxHeartbeats 1000000 in
set_option maxRecDepth 100000 in
theorem encode_any {B : Nat} {X : World} {s : Sc} {A : List Int} {M : List Mg} {mv : Value} {us : List Value} {W : List (List Int)} (h : CoSt B X s A M mv us W) (txt : List UInt8) (hA : ∀ z ∈ A, I64 z) (hM : Mok M) (hMl : M.length ≤ 1048576) (hW : ∀ i, gW W i = []) (hl : txt.length ≤ 549755813888) :
    Calls Try.prog 26 #[.pointer (some ⟨s.cb, 0, none⟩), .string ⟨txt.toArray⟩] X (Enc B X s A M mv W txt) := by
  have HNew : Hid (∀ d, Calls Try.prog 33 #[.pointer (some ⟨s.cb, 0, none⟩), .string ⟨txt.toArray⟩] (X.drewN d) fun e X' => ∃ (s' : Sc) (us' : List Value), e = .returned (.pointer (some ⟨s'.rb, 0, none⟩)) ∧ s'.cb = s.cb ∧ s'.wb = s.wb ∧ s'.mb = s.mb ∧ RwSt B X' s' A M mv (txt.length + 2) us' (bgF A txt M W) [] ∧ Up0 B (X.drewN d) X') := fun d => newRow_any (h.drewN d) txt hA hM hW (by omega)
  have hiv : Iv (bgF A txt M W) (txt.length + 2) := nts_iv (ro_iv A txt W hW) hM (by omega)
  have hbt : Bt (txt.length + 2) (0 + txt.length + 2 * (txt.length + 2)) (bgF A txt M W) := by
    refine ⟨hiv, 0 + txt.length, nts_H (fun q => by show (gW W q).length ≤ 0; rw [hW q]; exact Nat.le_refl _) txt.length, ?_⟩
    have := nz_le (bgF A txt M W).t
    rw [hiv.bt] at this
    omega
  have hnz : nz (bgF A txt M W).t < txt.length + 3 := by
    have := nz_le (bgF A txt M W).t
    rw [hiv.bt] at this
    omega
  have HMrg : Hid (∀ X' s' us', RwSt B X' s' A M mv (txt.length + 2) us' (bgF A txt M W) [] → Calls Try.prog 34 #[.pointer (some ⟨s'.rb, 0, none⟩)] X' fun e X'' => e = .returned (.tuple #[]) ∧ (∃ us'', RwSt B X'' s' A M mv (txt.length + 2) us'' (edF A txt M W) []) ∧ Up0 B X' X'') := fun X' s' us' h' => mergeAll_any h' hM hMl hbt (by omega) hnz
  have HTok : Hid (∀ X' s' us', RwSt B X' s' A M mv (txt.length + 2) us' (edF A txt M W) [] → Calls Try.prog 35 #[.pointer (some ⟨s'.rb, 0, none⟩)] X' fun e X'' => ∃ v, e = .returned v ∧ Rs X'.heap.size X'' [RI v (enL A txt M W)] ∧ Fresh X' X'') := fun X' s' us' h' => tokens_any h' (mr_iv hM hiv) (by omega)
  have HCA := show Hid _ from (fun i (hi : i < 256) => h.cA hi)
  have HEnc : Hid (∀ e X', Enc B X s A M mv W txt e X' → Enc B X s A M mv W txt e X') := fun _ _ h => h
  clear hiv hbt hnz h hA hM hW
  generalize hEE : Enc B X s A M mv W txt = EE
  have HEE : Hid (∀ e X', Enc B X s A M mv W txt e X' → EE e X') := fun e X' h => by rw [← hEE]; exact h
  clear HEnc hEE
  go_enter Try.func26, Try.ntmps26
  go_wp2
  go_loopw [11] (fun iv wr => ∃ j d : Nat, j ≤ txt.length ∧ iv = zV j ∧ wr = X.drewN d ∧ Hid (∀ i, i < j → gI A (txt.getD i 0).toNat ≠ 0)) (fun iv _ => txt.length - (RowKit.intOf iv).toNat)
  case atStart => exact ⟨0, 0, Nat.zero_le _, rfl, rfl, fun i hi => absurd hi (Nat.not_lt_zero _)⟩
  case round =>
    obtain ⟨j, d, hj, rfl, rfl, HQ⟩ := hrel
    by_cases hlt : j < txt.length
    · have hlt' : (j : Int) < (txt.length : Int) := by omega
      have hb : (txt.getD j 0).toNat < 256 := UInt8.toNat_lt _
      have a0 := HCA.out _ hb
      have hx : ∀ hh : j < (ByteArray.mk txt.toArray).size, ((ByteArray.mk txt.toArray)[j]'hh).toNat = (txt.getD j 0).toNat := fun hh => by
        rw [List.getD_eq_getElem?_getD, List.getElem?_eq_getElem hlt]
        rfl
      by_cases hz : gI A (txt.getD j 0).toNat = 0
      · have HE : Hid (∀ d', EE (.returned (.tuple #[nilV, zV j, zV 132])) (X.drewN d')) := fun d' => HEE.out _ _ (.inl ⟨j, hlt, hz, HQ.out, rfl, d', rfl⟩)
        rw [hz] at a0
        clear HCA HNew HMrg HTok HQ HEE hz
        generalize (txt.getD j 0).toNat = bb at *
        have hbI : (bb : Int) < 256 := by omega
        go_wp2_with fail
        go_quiet (fail)
        go_wp2
        go_ret3
        have e : (X.drewN d).drewN nq = X.drewN (d + nq) := by simp [World.drewN, Nat.add_assoc]
        rw [e]
        exact HE.out (d + nq)
      · have HQ2 : Hid (∀ i, i < j + 1 → gI A (txt.getD i 0).toNat ≠ 0) := fun i hi => by
          by_cases e : i = j
          · rw [e]; exact hz
          · exact HQ.out i (by omega)
        have hz' : (gI A (txt.getD j 0).toNat == 0) = false := by simpa using hz
        clear HCA HNew HMrg HTok HQ HEE
        generalize gI A (txt.getD j 0).toNat = y at *
        generalize (txt.getD j 0).toNat = bb at *
        have hbI : (bb : Int) < 256 := by omega
        go_wp2_with fail
        go_quiet (fail)
        go_wp2
        go_roundw
        case rel => exact ⟨j + 1, _, hlt, by go_num, rfl, HQ2.out⟩
        case measure => simp [RowKit.intOf]; omega
    · obtain rfl : j = txt.length := by omega
      have HCall := show Hid _ from HNew.out d
      clear HCA HNew
      go_wp2_with fail
      refine Calls.mono HCall.out ?_
      rintro e W1 ⟨s', us', rfl, q1, q2, q3, hS1, hK1⟩
      have HC2 := show Hid _ from HMrg.out W1 s' us' hS1
      have HU1 : Hid (Up0 B X W1) := ((Up0.refl B X).drewN d).trans hK1
      have HQs : Hid (s'.cb = s.cb ∧ s'.wb = s.wb ∧ s'.mb = s.mb) := ⟨q1, q2, q3⟩
      clear HCall HMrg hS1 hK1 q1 q2 q3
      go_wp2_with fail
      refine Calls.mono HC2.out ?_
      rintro e W2 ⟨rfl, ⟨us2, hS2⟩, hK2⟩
      have HC3 := show Hid _ from HTok.out W2 s' us2 hS2
      have HU2 : Hid (Up0 B X W2) := HU1.out.trans hK2
      have HS2 := show Hid _ from hS2
      clear HC2 HTok hS2 hK2 HU1
      go_wp2_with fail
      refine Calls.mono HC3.out ?_
      rintro e W3 ⟨v, rfl, hR3, hF3⟩
      have HE : Hid (EE (.returned (.tuple #[v, zV 0, zV 0])) W3) := HEE.out _ _ (.inr ⟨HQ.out, v, W2, rfl, hR3, hF3, HU2.out, HS2.out.le, s', us2, HQs.out.1, HQs.out.2.1, HQs.out.2.2, HS2.out⟩)
      obtain ⟨ao, cc, hvs⟩ := hR3.shapeI
      generalize (enL A txt M W).length = len at *
      subst hvs
      clear HC3 hR3 hF3 HEE HU2 HS2 HQ
      go_wp2
      go_ret3
      exact HE.out
end Go.Proofs.Ytjjpkidmlpmgaaa
