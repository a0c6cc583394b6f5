/-
  All merges are applied.
-/
import Derived.Test.YtjjpkidmlpmgaaaVoI
import Derived.ScopeJumps
import Derived.WalkMore
namespace Go.Proofs.Ytjjpkidmlpmgaaa
open Go.RowKit Go.Lib Go.Maps

/-- How many tokens are left, as memory tells it. -/
def nzAt (w : World) (b n : Nat) : Nat := (List.range n).countP (fun p => match w.cell? ⟨b, p, none⟩ with | some (.int _ z) => decide (z ≠ 0) | _ => false)
theorem RwSt.nz {B : Nat} {X : World} {s : Sc} {A : List Int} {M : List Mg} {mv : Value} {n : Nat} {us : List Value} {R : Ro} {ex : List Rr} (h : RwSt B X s A M mv n us R ex) : nzAt X s.tb n = nz R.t := by
  have key : ∀ k, k ≤ n → (List.range k).countP (fun p => match X.cell? ⟨s.tb, p, none⟩ with | some (.int _ z) => decide (z ≠ 0) | _ => false) = Go.Proofs.Ytjjpkidmlpmgaaa.nz (R.t.take k) := by
    intro k
    induction k with
    | zero => intro _; simp [Go.Proofs.Ytjjpkidmlpmgaaa.nz]
    | succ k ih =>
      intro hk
      rw [List.range_succ, List.countP_append, ih (by omega), List.take_succ_eq_append_getElem (by rw [h.bt]; omega)]
      unfold Go.Proofs.Ytjjpkidmlpmgaaa.nz
      rw [List.countP_append]
      congr 1
      have hc := h.tok.geI h.bt k (by omega)
      rw [gI, getD_getElem (by rw [h.bt]; omega)] at hc
      simp [List.countP_cons, hc]
  have := key n (Nat.le_refl _)
  rw [← h.bt, List.take_length, h.bt] at this
  exact this
/-- What is known of a row between merges. -/
def Bt (n C : Nat) (R : Ro) : Prop := Iv R n ∧ ∃ H, Hle R H ∧ H + 2 * Go.Proofs.Ytjjpkidmlpmgaaa.nz R.t ≤ C
theorem Bt.first {M : List Mg} {n C i m : Nat} {R : Ro} (h : Bt n C R) : Bt n C (fstF M i m R).2 := by
  obtain ⟨h1, H, h2, h3⟩ := h
  obtain ⟨e1, _, _, _⟩ := fst_same M i m R
  exact ⟨h1.first m, H, h2.first m R, by rw [e1]; exact h3⟩
theorem src_some {M : List Mg} {k i p : Nat} {R R' : Ro} (h : fstF M i (gW R.w i).length R = (some p, R')) : srcF M (k + 1) i R = (some (i, p), R') := by unfold srcF; rw [h]
theorem src_none {M : List Mg} {k i : Nat} {R R' : Ro} (h : fstF M i (gW R.w i).length R = (none, R')) : srcF M (k + 1) i R = srcF M k (i + 1) R' := by
  conv => lhs; unfold srcF
  rw [h]
theorem mr_some {M : List Mg} {f i p : Nat} {R R' : Ro} (h : srcF M M.length 0 R = (some (i, p), R')) : mrF M (f + 1) R = mrF M f (apF M R' i p) := by
  conv => lhs; unfold mrF
  rw [h]
theorem mr_none {M : List Mg} {f : Nat} {R R' : Ro} (h : srcF M M.length 0 R = (none, R')) : mrF M (f + 1) R = R' := by unfold mrF; rw [h]
theorem wp_scope_label {P : Program} {a : Act} {w : World} {Q : Exit → Act → World → Prop} {rest : Code} (J : Act → World → Prop) (μ : Act → World → Nat) (hJ : J a w)
    (pass : ∀ a w, J a w → rest.wp P (Exit.jump 0 (fun a' w' => J a' w' ∧ μ a' w' < μ a w) Q) a w) : (Code.scope ((Code.label 0).seq rest)).wp P Q a w :=
  wp_scope_jumps (rest := Code.skip.seq rest) 0 J μ rfl (wp_seq (wp_label (wp_mono (pass a w hJ) (fun e a' w' h => by
    cases e with
    | goto l => exact ⟨h.1, h.2.1⟩
    | _ => exact h)))) (fun a w h => wp_seq (wp_skip (pass a w h)))
/-- A row behind one merge: what is known of it. -/
theorem Bt.merged {M : List Mg} {n C i p q r u : Nat} {R : Ro} (h : Bt n C R) (f : Fd M R n i p q r u) (hM : Mok M) (hi : i < M.length) : Bt n C (nteF M (nteF M (apR M R i p q r) u) p) ∧ Go.Proofs.Ytjjpkidmlpmgaaa.nz (nteF M (nteF M (apR M R i p q r) u) p).t + 1 = Go.Proofs.Ytjjpkidmlpmgaaa.nz R.t ∧ (∃ H, Hle R H ∧ H + 2 ≤ C) := by
  obtain ⟨h1, H, h2, h3⟩ := h
  have hl := f.less h1 hM hi
  obtain ⟨e1, _, _, _⟩ := nte_t M (apR M R i p q r) u
  obtain ⟨e2, _, _, _⟩ := nte_t M (nteF M (apR M R i p q r) u) p
  have ht : (nteF M (nteF M (apR M R i p q r) u) p).t = (apR M R i p q r).t := e2.trans e1
  refine ⟨⟨((h1.merged f).note hM f.un).note hM f.pn, H + 2, nte_H (nte_H (show Hle (apR M R i p q r) H from h2)), ?_⟩, ?_, H, h2, by omega⟩
  · rw [ht]; omega
  · rw [ht]; exact hl
set_option maxHeartbeats 1000000 in
set_option maxRecDepth 100000 in
theorem mergeAll_any {B : Nat} {X : World} {s : Sc} {A : List Int} {M : List Mg} {mv : Value} {n : Nat} {us : List Value} {R : Ro} (h : RwSt B X s A M mv n us R []) (hM : Mok M) (hMl : M.length ≤ 1048576) {C f : Nat} (hR : Bt n C R) (hC : C ≤ 8796093022208) (hf : Go.Proofs.Ytjjpkidmlpmgaaa.nz R.t < f) :
    Calls Try.prog 34 #[.pointer (some ⟨s.rb, 0, none⟩)] X fun e X' => e = .returned (.tuple #[]) ∧ (∃ us', RwSt B X' s A M mv n us' (mrF M f R) []) ∧ Up0 B X X' := by
  have HS := show Hid _ from h
  have HB : Hid (Bt n C R) := hR
  have HMk : Hid (Mok M) := hM
  have Hf := show Hid _ from hf
  obtain ⟨ao, cap, hmv⟩ := h.mg.shape
  subst hmv
  generalize hF : mrF M f R = F
  have HF : Hid (mrF M f R = F) := hF
  clear h hR hM hf hF
  go_enter Try.func34, Try.ntmps34
  go_wp2
  refine wp_scope_label (fun a' w' => ∃ (R' : Ro) (us' : List Value) (f' : Nat) (u1 u2 u3 u4 u5 u6 u7 u8 u9 u10 u11 u12 u13 u14 u15 u16 u17 u18 u19 u20 u21 u22 u23 u24 u25 u26 u27 : Value), a' = { tmps := #[.pointer (some ⟨s.rb, 0, none⟩), u1, u2, u3, u4, u5, u6, u7, u8, u9, u10, u11, u12, u13, u14, u15, u16, u17, u18, u19, u20, u21, u22, u23, u24, u25, u26, u27], defers := [] } ∧ Hid (RwSt B w' s A M (.slice ao M.length cap) n us' R' []) ∧ Hid (Bt n C R') ∧ Hid (mrF M f' R' = F) ∧ Hid (Go.Proofs.Ytjjpkidmlpmgaaa.nz R'.t < f') ∧ Hid (Up0 B X w')) (fun _ w' => nzAt w' s.tb n) ⟨R, us, f, undef, undef, undef, undef, undef, undef, undef, undef, undef, undef, undef, undef, undef, undef, undef, undef, undef, undef, undef, undef, undef, undef, undef, undef, undef, undef, undef, rfl, HS.out, HB.out, HF.out, Hf.out, Up0.refl _ _⟩ ?_
  rintro a' w' ⟨R', us', f', u1, u2, u3, u4, u5, u6, u7, u8, u9, u10, u11, u12, u13, u14, u15, u16, u17, u18, u19, u20, u21, u22, u23, u24, u25, u26, u27, rfl, HS', HB', HF', Hf', HU'⟩
  clear HS HB HF Hf
  obtain ⟨r0, _, _, _⟩ := HS'.out.cR
  obtain ⟨c0, _, _⟩ := HS'.out.cC
  go_wp2
  obtain ⟨f', rfl⟩ : ∃ q, f' = q + 1 := ⟨f' - 1, by have := Hf'.out; omega⟩
  have HN : Hid (nzAt w' s.tb n = Go.Proofs.Ytjjpkidmlpmgaaa.nz R'.t) := HS'.out.nz
  clear r0 c0
  generalize hkk : M.length = k at *
  have Hkk := show Hid _ from hkk
  go_loopw [13] (fun iv wr => ∃ (i : Nat) (R2 : Ro) (us2 : List Value), i ≤ k ∧ iv = zV i ∧ Hid (RwSt B wr s A M (.slice ao k cap) n us2 R2 []) ∧ Hid (Bt n C R2) ∧ Hid (srcF M k 0 R' = srcF M (k - i) i R2) ∧ Hid (R2.t = R'.t) ∧ Hid (Up0 B X wr)) (fun iv _ => k - (RowKit.intOf iv).toNat)
  case atStart => exact ⟨0, R', us', Nat.zero_le _, rfl, HS'.out, HB'.out, by rfl, by rfl, HU'.out⟩
  case round =>
    obtain ⟨i, R2, us2, hi, rfl, HS2, HB2, HQ2, HT2, HU2⟩ := hrel
    clear HS' HB' HU'
    by_cases hlt : i < k
    · have hlt' : (i : Int) < (k : Int) := by omega
      obtain ⟨H, hH1, hH2⟩ := HB2.out.2
      have HFst := show Hid _ from first_any HS2.out i H (by omega) hH1 (by omega) HB2.out.1.hok HB2.out.1.nok (by have := HB2.out.1.n2; omega)
      have HB3 : Hid (Bt n C (fstF M i (gW R2.w i).length R2).2) := HB2.out.first
      have HFd : Hid (∀ p, (fstF M i (gW R2.w i).length R2).1 = some p → Fd M (fstF M i (gW R2.w i).length R2).2 n i p (gI R2.n p).toNat (gI R2.n (gI R2.n p).toNat).toNat (gI (R2.a.set (gI R2.n (gI R2.n p).toNat).toNat (p : Int)) p).toNat) := fun p hp => HB2.out.1.found HMk.out (by omega) hp
      have HT3 : Hid ((fstF M i (gW R2.w i).length R2).2.t = R'.t ∧ (fstF M i (gW R2.w i).length R2).2.n = R2.n ∧ (fstF M i (gW R2.w i).length R2).2.a = R2.a) := by
        obtain ⟨e1, e2, e3, _⟩ := fst_same M i (gW R2.w i).length R2
        exact ⟨e1.trans HT2.out, e3, e2⟩
      clear hH1 hH2 HB2 HT2
      generalize hG : fstF M i (gW R2.w i).length R2 = G at *
      have HG : Hid (fstF M i (gW R2.w i).length R2 = G) := hG
      clear hG
      obtain ⟨o, R3⟩ := G
      cases o with
      | none =>
        have HQ3 : Hid (srcF M k 0 R' = srcF M (k - (i + 1)) (i + 1) R3) := by
          show _ = _
          rw [HQ2.out, show k - i = (k - (i + 1)) + 1 by omega]
          exact src_none HG.out
        clear HQ2 HG HFd
        go_wp2_with fail
        refine Calls.mono HFst.out ?_
        rintro e W3 ⟨rfl, ⟨us3, hS3⟩, hK3⟩
        have HS3 := show Hid _ from hS3
        have HU3 : Hid (Up0 B X W3) := HU2.out.trans hK3
        clear HFst hS3 hK3 HU2 HS2
        simp only [fsV]
        go_wp2
        go_roundw
        case rel => exact ⟨i + 1, R3, us3, hlt, by go_num, HS3.out, HB3.out, HQ3.out, HT3.out.1, HU3.out⟩
        case measure => simp [RowKit.intOf]; omega
      | some p =>
        have hQ3 : srcF M k 0 R' = (some (i, p), R3) := by
          rw [HQ2.out, show k - i = (k - (i + 1)) + 1 by omega]
          exact src_some HG.out
        have hfd := HFd.out p rfl
        obtain ⟨b1, b2, H', b3, b4⟩ := Bt.merged (R := R3) HB3.out hfd HMk.out (by omega)
        have hap : apF M R3 i p = nteF M (nteF M (apR M R3 i p (gI R2.n p).toNat (gI R2.n (gI R2.n p).toNat).toNat) (gI (R2.a.set (gI R2.n (gI R2.n p).toNat).toNat (p : Int)) p).toNat) p := by
          obtain ⟨_, t2, t3⟩ := HT3.out
          simp only at t2 t3
          unfold apF
          rw [t2, t3]
        rw [← hap] at b1 b2
        have HAp : Hid (∀ W3 us3, RwSt B W3 s A M (.slice ao k cap) n us3 R3 [] → Calls Try.prog 39 #[.pointer (some ⟨s.rb, 0, none⟩), zV i, zV p] W3 fun e X' => e = .returned (.tuple #[]) ∧ (∃ us', RwSt B X' s A M (.slice ao k cap) n us' (apF M R3 i p) []) ∧ Up0 B W3 X') := fun W3 us3 h3 => by
          rw [hap]
          exact apply_any h3 i H' p _ _ _ (by omega) b3 (by omega) HB3.out.1.nok hfd.pn hfd.qe hfd.qn hfd.pq hfd.re hfd.rn hfd.ue hfd.un
        have HF4 : Hid (mrF M f' (apF M R3 i p) = F) := by
          show _ = _
          rw [← HF'.out]
          exact (mr_some (by rw [hkk]; exact hQ3)).symm
        have HB4 : Hid (Bt n C (apF M R3 i p)) := b1
        have HZ4 : Hid (Go.Proofs.Ytjjpkidmlpmgaaa.nz (apF M R3 i p).t + 1 = Go.Proofs.Ytjjpkidmlpmgaaa.nz R'.t) := by
          show _ = _
          rw [b2]
          exact congrArg Go.Proofs.Ytjjpkidmlpmgaaa.nz HT3.out.1
        clear HQ2 HG HFd hQ3 hfd b1 b2 b3 b4 hap HB3 HT3
        generalize apF M R3 i p = R4 at *
        go_wp2_with fail
        refine Calls.mono HFst.out ?_
        rintro e W3 ⟨rfl, ⟨us3, hS3⟩, hK3⟩
        have HCall := show Hid _ from HAp.out W3 us3 hS3
        have HU3 : Hid (Up0 B X W3) := HU2.out.trans hK3
        clear HFst hS3 hK3 HU2 HS2 HAp
        simp only [fsV]
        go_wp2_with fail
        refine Calls.mono HCall.out ?_
        rintro e W4 ⟨rfl, ⟨us4, hS4⟩, hK4⟩
        have HS4 := show Hid _ from hS4
        have HU4 : Hid (Up0 B X W4) := HU3.out.trans hK4
        clear HCall hS4 hK4 HU3
        go_wp2
        go_step3
        refine ⟨rfl, ⟨R4, us4, f', _, _, _, _, _, _, _, _, _, _, _, _, _, _, _, _, _, _, _, _, _, _, _, _, _, _, _, rfl, by rw [hkk]; exact HS4, HB4.out, HF4.out, ?_, HU4.out⟩, ?_⟩
        · have h1 := HZ4.out
          have h2 := Hf'.out
          show Go.Proofs.Ytjjpkidmlpmgaaa.nz R4.t < f'
          omega
        · have h1 := HZ4.out
          have h2 := HS4.out.nz
          show nzAt W4 s.tb n < nzAt w' s.tb n
          rw [HN.out, h2]
          omega
    · obtain rfl : i = k := by omega
      have HE : Hid (F = R2) := by
        show _ = _
        rw [← HF'.out]
        refine mr_none ?_
        rw [hkk, HQ2.out, Nat.sub_self]
        rfl
      clear HQ2 HB2 HT2 HF'
      go_wp2
      simp only [Exit.jump]
      exact bodyPost_end (results_none rfl _ _ _) rfl ⟨rfl, ⟨us2, by rw [HE.out, hkk]; exact HS2.out⟩, HU2.out⟩
end Go.Proofs.Ytjjpkidmlpmgaaa
