/-
  A merge is made to wait for its turn.
-/
import Derived.Test.YtjjpkidmlpmgaaaVoe
namespace Go.Proofs.Ytjjpkidmlpmgaaa
open Go.RowKit Go.Lib Go.Maps

/-- Heaps are not too great. -/
def Hle (R : Ro) (H : Nat) : Prop := ∀ i, (gW R.w i).length ≤ H
theorem Hle.set {R : Ro} {H i : Nat} {x : List Int} (h : Hle R H) (hx : x.length ≤ H) : Hle { R with w := R.w.set i x } H := fun j => by
  show (((R.w.set i x).getD j [])).length ≤ H
  rw [List.getD_eq_getElem?_getD, List.getElem?_set]
  split
  · split
    · exact hx
    · exact Nat.zero_le _
  · rw [← List.getD_eq_getElem?_getD]; exact h j
theorem Hle.mono {R : Ro} {H H' : Nat} (h : Hle R H) (e : H ≤ H') : Hle R H' := fun i => Nat.le_trans (h i) e
theorem nte_t (M : List Mg) (R : Ro) (p : Nat) : (nteF M R p).t = R.t ∧ (nteF M R p).a = R.a ∧ (nteF M R p).n = R.n ∧ (nteF M R p).w.length = R.w.length := by
  unfold nteF
  split <;> simp
theorem nte_H {M : List Mg} {R : Ro} {p H : Nat} (h : Hle R H) : Hle (nteF M R p) (H + 1) := by
  unfold nteF
  split
  · rename_i i _
    exact (h.mono (Nat.le_succ H)).set (by rw [putF_len]; exact Nat.succ_le_succ (h i))
  · exact h.mono (Nat.le_succ H)

set_option maxHeartbeats 1000000 in
set_option maxRecDepth 100000 in
theorem note_any {B : Nat} {X : World} {s : Sc} {A : List Int} {M : List Mg} {mv : Value} {n : Nat} {us : List Value} {R : Ro} {ex : List Rr} (h : RwSt B X s A M mv n us R ex) (p H : Nat) (hp : p < n) (hq0 : 0 ≤ gI R.n p) (hq : gI R.n p < (n : Int)) (hH : Hle R H) (hHb : H + 1 ≤ 8796093022208) :
    Calls Try.prog 37 #[.pointer (some ⟨s.rb, 0, none⟩), zV p] X fun e X' => e = .returned (.tuple #[]) ∧ (∃ us', RwSt B X' s A M mv n us' (nteF M R p) ex) ∧ Up0 B X X' := by
  obtain ⟨q, hqe⟩ : ∃ q : Nat, gI R.n p = (q : Int) := ⟨(gI R.n p).toNat, by omega⟩
  have hqn : q < n := by omega
  obtain ⟨r0, r1, _, r3⟩ := h.cR
  obtain ⟨_, c1, c2⟩ := h.cC
  have t0 := h.tok.geI h.bt p hp
  have n0 := h.nxt.geI h.bn p hp
  have t1 := h.tok.geI h.bt q hqn
  rw [hqe] at n0
  have o1 : I64 (gI R.t p) := by rw [gI, getD_getElem (by rw [h.bt]; exact hp)]; exact h.okT _ (List.getElem_mem _)
  have o2 : I64 (gI R.t q) := by rw [gI, getD_getElem (by rw [h.bt]; exact hqn)]; exact h.okT _ (List.getElem_mem _)
  obtain ⟨kl, hkl⟩ := pairKey o1 o2
  have hlk := fun d => (h.drewN d).km.look pairKeyed Try.underlying75 hkl
  have hnt : nteF M R p = match rkA M (gI R.t p) (gI R.t q) with | some i => { R with w := R.w.set i (putF (gW R.w i) (p : Int)) } | none => R := by unfold nteF; rw [hqe]; rfl
  rw [hnt]
  have HSt : Hid (RwSt B X s A M mv n us R ex) := h
  have HH := show Hid _ from hH
  cases hrk : rkA M (gI R.t p) (gI R.t q) with
  | none =>
    have hlk0 : ∀ d, (Instr.lookup 75 (.map (some s.mb)) (pV (gI R.t p) (gI R.t q)) true).run Try.prog (X.drewN d) = .ok (.tuple #[.int .i64 0, .bool false]) (X.drewN d) := fun d => by
      have e := hlk d
      rw [show rkV M M.length (pV (gI R.t p) (gI R.t q)) = none from by rw [rkV_pair, show rkT M M.length (gI R.t p) (gI R.t q) = _ from hrk]; rfl] at e
      exact e
    clear hlk hnt hkl o1 o2 h hH hq hq0
    generalize gI R.t p = x0 at *
    generalize gI R.t q = x1 at *
    go_enter Try.func37, Try.ntmps37
    go_wp2_with fail
    go_quiet (fail)
    go_wp2
    exact bodyPost_end (results_none rfl _ _ _) rfl ⟨rfl, ⟨us, HSt.out.drewN _⟩, (Up0.refl _ _).drewN _⟩
  | some i =>
    have hi : i < M.length := rkT_lt M _ _ _ _ hrk
    have hlk0 : ∀ d, (Instr.lookup 75 (.map (some s.mb)) (pV (gI R.t p) (gI R.t q)) true).run Try.prog (X.drewN d) = .ok (.tuple #[.int .i64 (i : Int), .bool true]) (X.drewN d) := fun d => by
      have e := hlk d
      rw [show rkV M M.length (pV (gI R.t p) (gI R.t q)) = some (i : Int) from by rw [rkV_pair, show rkT M M.length (gI R.t p) (gI R.t q) = _ from hrk]; rfl] at e
      exact e
    clear hlk
    have w0 := h.wai.geV h.bu i hi
    obtain ⟨l, hP, hB⟩ := all6_front (s := s) (A := A) (mv := mv) (n := n) (us := us) (R := R) (ex := ex) i (by rw [h.bu]; exact hi) (h.bw.trans h.bu.symm) M.length
    have HPut : Hid (∀ d, Calls Try.prog 41 #[.pointer (some ⟨s.wb, i, none⟩), zV p] (X.drewN d) fun e X' => e = .returned (.tuple #[]) ∧ (∃ us', RwSt B X' s A M mv n us' { R with w := R.w.set i (putF (gW R.w i) (p : Int)) } ex) ∧ Up0 B X X') := fun d => by
      have h' := h.drewN d
      refine (put_any B s.wb M.length M.length i (us.getD i nilV) (X.drewN d) us (gW R.w i) p l (h'.rs.perm hP) h.bu hi rfl (Nat.le_trans (Nat.succ_le_succ (hH i)) hHb) h'.le).mono ?_
      rintro e X' ⟨rfl, g, c', hR', hK'⟩
      obtain ⟨es, cl, hmb⟩ := h'.km.isMap
      have hkm : KM 77 X' s.mb M.length (rkV M M.length) := by
        obtain ⟨D, ⟨es, clock, hb, hh⟩, ht⟩ := h'.km
        exact ⟨D, ⟨es, clock, hK'.map hb, hh⟩, ht⟩
      have hmg := h'.mg.kept hK'.1 (fun b hb e => by omega)
      have hlen : (R.w.set i (putF (gW R.w i) (p : Int))).length = M.length := by rw [List.length_set]; exact h.bw
      rw [← putF_len (gW R.w i) (p : Int)] at hR'
      exact ⟨rfl, ⟨_, ⟨hR'.perm (hB _ _), hkm, hmg, h.bA, h.bt, h.ba, h.bn, by rw [List.length_set]; exact h.bu, hlen, Nat.le_trans h'.le hK'.1.size, h.geM, h.okT⟩⟩, ((Up0.refl B X).drewN d).trans hK'⟩
    clear hnt hkl o1 o2 h hH hq hq0 hP hB
    generalize gI R.t p = x0 at *
    generalize gI R.t q = x1 at *
    generalize us.getD i nilV = u0 at *
    go_enter Try.func37, Try.ntmps37
    go_wp2_with fail
    go_quiet (fail)
    go_wp2_with fail
    refine (HPut.out _).mono ?_
    rintro e X' ⟨rfl, hus, hK⟩
    have Hus := show Hid _ from hus
    clear HPut HSt hus
    go_wp2
    exact bodyPost_end (results_none rfl _ _ _) rfl ⟨rfl, Hus.out, hK⟩
end Go.Proofs.Ytjjpkidmlpmgaaa
