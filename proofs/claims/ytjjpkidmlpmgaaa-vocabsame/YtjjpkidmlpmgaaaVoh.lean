/-
  A merge is applied.
-/
import Derived.Test.YtjjpkidmlpmgaaaVog
namespace Go.Proofs.Ytjjpkidmlpmgaaa
open Go.RowKit Go.Lib Go.Maps

/-- A row behind a merge, ahead of what waits. -/
def apR (M : List Mg) (R : Ro) (i p q r : Nat) : Ro := { t := (R.t.set p (gM M i).o).set q 0, a := R.a.set r (p : Int), n := R.n.set p (r : Int), w := R.w }
set_option maxHeartbeats 1000000 in
set_option maxRecDepth 100000 in
theorem apply_any {B : Nat} {X : World} {s : Sc} {A : List Int} {M : List Mg} {mv : Value} {n : Nat} {us : List Value} {R : Ro} {ex : List Rr} (h : RwSt B X s A M mv n us R ex) (i H p q r u : Nat) (hi : i < M.length) (hH : Hle R H) (hHb : H + 2 ≤ 8796093022208) (hnk : Nok R n)
    (hp : p + 1 < n) (hqe : gI R.n p = (q : Int)) (hq : q + 1 < n) (hpq : p < q) (hre : gI R.n q = (r : Int)) (hr : r < n) (hue : gI (R.a.set r (p : Int)) p = (u : Int)) (hu : u + 1 < n) :
    Calls Try.prog 39 #[.pointer (some ⟨s.rb, 0, none⟩), zV i, zV p] X fun e X' => e = .returned (.tuple #[]) ∧ (∃ us', RwSt B X' s A M mv n us' (nteF M (nteF M (apR M R i p q r) u) p) ex) ∧ Up0 B X X' := by
  obtain ⟨r0, r1, r2, r3⟩ := h.cR
  obtain ⟨c0, _, _⟩ := h.cC
  have HS := show Hid _ from h
  obtain ⟨ao, cap, hmv, _, hcap, hm64, hmc⟩ := h.mg
  obtain ⟨b, off, rfl, hb, hbX, hcells⟩ := hmc (by omega)
  obtain ⟨_, _, m2⟩ := hcells i hi
  obtain ⟨_, _, o64⟩ := hm64 i hi
  subst hmv
  have n0 := h.nxt.geI h.bn p (by omega)
  rw [hqe] at n0
  have HS1 := show Hid _ from (h.setT p (gM M i).o o64).setT q 0 (by constructor <;> omega)
  have HK1 : Hid (Up0 B X ((X.setCell ⟨s.tb, p, none⟩ (zV (gM M i).o)).setCell ⟨s.tb, q, none⟩ (zV 0))) := ((Up0.refl B X).setCell (p := ⟨s.tb, p, none⟩) h.tok.ge.1 _).setCell (p := ⟨s.tb, q, none⟩) h.tok.ge.1 _
  have t0 := h.tok.geI h.bt p (by omega)
  have t1 := h.tok.geI h.bt q (by omega)
  have f0 := h.tok.frozen p
  have f1 := h.tok.frozen q
  clear hmc hcells hm64 h
  generalize hmo : (gM M i).o = mo at *
  have HM : Hid ((gM M i).o = mo) := hmo
  clear hmo
  generalize gI R.t p = y0 at *
  generalize gI R.t q = y1 at *
  generalize hkk : M.length = k at *
  have hp1 : p < n := by omega
  have hq1 : q < n := by omega
  have hne1 : ¬ q = p := by omega
  have hne2 : ¬ p = q := by omega
  go_enter Try.func39, Try.ntmps39
  go_wp2_with fail
  go_region
  have hX1 : RwSt B (((X.setCell ⟨s.tb, p, none⟩ (.int .i64 mo)).setCell ⟨s.tb, q, none⟩ (.int .i64 0)).drew) s A M (.slice (some ⟨b, off, none⟩) k cap) n us { R with t := (R.t.set p mo).set q 0 } ex := HS1.out.drewN 1
  have HKX : Hid (Up0 B X (((X.setCell ⟨s.tb, p, none⟩ (.int .i64 mo)).setCell ⟨s.tb, q, none⟩ (.int .i64 0)).drew)) := HK1.out.drewN 1
  generalize ((X.setCell ⟨s.tb, p, none⟩ (.int .i64 mo)).setCell ⟨s.tb, q, none⟩ (.int .i64 0)).drew = X1 at *
  clear HS1 HK1 r0 r1 r2 r3 c0 m2 n0 t0 t1 f0 f1 HS
  obtain ⟨r0, r1, r2, r3⟩ := hX1.cR
  have n0 := hX1.nxt.geI hX1.bn p hp1
  have n1 := hX1.nxt.geI hX1.bn q hq1
  have f0 := hX1.nxt.frozen p
  have n0' : X1.cell? ⟨s.nb, p, none⟩ = some (.int .i64 (q : Int)) := by rw [n0]; show some (Value.int .i64 (gI R.n p)) = _; rw [hqe]
  have n1' : X1.cell? ⟨s.nb, q, none⟩ = some (.int .i64 (r : Int)) := by rw [n1]; show some (Value.int .i64 (gI R.n q)) = _; rw [hre]
  have HS2 := show Hid _ from hX1.setN p (r : Int)
  have HK2 : Hid (Up0 B X (X1.setCell ⟨s.nb, p, none⟩ (zV (r : Int)))) := HKX.out.setCell (p := ⟨s.nb, p, none⟩) hX1.nxt.ge.1 _
  clear n0 n1 hX1 HKX
  go_wp2_with fail
  go_region
  have hX2 : RwSt B (X1.setCell ⟨s.nb, p, none⟩ (.int .i64 (r : Int))).drew s A M (.slice (some ⟨b, off, none⟩) k cap) n us { R with t := (R.t.set p mo).set q 0, n := R.n.set p (r : Int) } ex := HS2.out.drewN 1
  have HKX : Hid (Up0 B X (X1.setCell ⟨s.nb, p, none⟩ (.int .i64 (r : Int))).drew) := HK2.out.drewN 1
  generalize (X1.setCell ⟨s.nb, p, none⟩ (.int .i64 (r : Int))).drew = X2 at *
  clear HS2 HK2 r0 r1 r2 r3 n0' n1' f0
  obtain ⟨r0, r1, r2, r3⟩ := hX2.cR
  have n0 : X2.cell? ⟨s.nb, p, none⟩ = some (.int .i64 (r : Int)) := by
    rw [hX2.nxt.geI hX2.bn p hp1]
    show some (Value.int .i64 ((R.n.set p (r : Int)).getD p 0)) = _
    rw [List.getD_eq_getElem?_getD, List.getElem?_set_self (by have := hX2.bn; simpa using (by simpa using this : R.n.length = n) ▸ hp1)]
    rfl
  have a0 := hX2.ahd.geI hX2.ba r hr
  have f0 := hX2.ahd.frozen r
  have HS3 := show Hid _ from hX2.setA r (p : Int)
  have HK3 : Hid (Up0 B X (X2.setCell ⟨s.ab, r, none⟩ (zV (p : Int)))) := HKX.out.setCell (p := ⟨s.ab, r, none⟩) hX2.ahd.ge.1 _
  clear hX2 HKX
  generalize gI R.a r = y2 at *
  go_wp2_with fail
  go_region
  have hX3 : RwSt B (X2.setCell ⟨s.ab, r, none⟩ (.int .i64 (p : Int))).drew s A M (.slice (some ⟨b, off, none⟩) k cap) n us (apR M R i p q r) ex := by
    have := HS3.out.drewN 1
    unfold apR
    rw [HM.out]
    exact this
  have HKX : Hid (Up0 B X (X2.setCell ⟨s.ab, r, none⟩ (.int .i64 (p : Int))).drew) := HK3.out.drewN 1
  generalize (X2.setCell ⟨s.ab, r, none⟩ (.int .i64 (p : Int))).drew = X3 at *
  clear HS3 HK3 r0 r1 r2 r3 n0 a0 f0
  obtain ⟨r0, r1, r2, r3⟩ := hX3.cR
  have a0 : X3.cell? ⟨s.ab, p, none⟩ = some (.int .i64 (u : Int)) := by
    rw [hX3.ahd.geI hX3.ba p hp1]
    show some (Value.int .i64 (gI (R.a.set r (p : Int)) p)) = _
    rw [hue]
  have hN1 : Nok (apR M R i p q r) n := fun j hj => by
    show 0 ≤ (R.n.set p (r : Int)).getD j 0 ∧ (R.n.set p (r : Int)).getD j 0 < (n : Int)
    rw [List.getD_eq_getElem?_getD, List.getElem?_set]
    split
    · split
      · constructor
        · exact Int.natCast_nonneg r
        · show (r : Int) < n
          omega
      · constructor
        · exact Int.le_refl 0
        · show (0 : Int) < n
          omega
    · rw [← List.getD_eq_getElem?_getD]; exact hnk j hj
  have hu2 := hN1 u hu
  have hp2 := hN1 p hp
  have hH1 : Hle (apR M R i p q r) H := hH
  have HNu := show Hid _ from note_any hX3 u H (by omega) hu2.1 hu2.2 hH1 (by omega)
  obtain ⟨_, _, e3, _⟩ := nte_t M (apR M R i p q r) u
  have HNp : Hid (∀ X' us', RwSt B X' s A M (.slice (some ⟨b, off, none⟩) k cap) n us' (nteF M (apR M R i p q r) u) ex → Calls Try.prog 37 #[.pointer (some ⟨s.rb, 0, none⟩), zV p] X' fun e X'' => e = .returned (.tuple #[]) ∧ (∃ us', RwSt B X'' s A M (.slice (some ⟨b, off, none⟩) k cap) n us' (nteF M (nteF M (apR M R i p q r) u) p) ex) ∧ Up0 B X' X'') := fun X' us' h' =>
    note_any h' p (H + 1) (by omega) (by rw [e3]; exact hp2.1) (by rw [e3]; exact hp2.2) (nte_H hH1) (by omega)
  clear hX3 hu2 hp2 hN1 hH1 hH hnk e3 hue hre hqe
  generalize hR1 : nteF M (apR M R i p q r) u = R1 at *
  have HR1 : Hid (nteF M (apR M R i p q r) u = R1) := hR1
  clear hR1
  go_wp2_with fail
  refine Calls.mono HNu.out ?_
  rintro e X4 ⟨rfl, ⟨us4, hS4⟩, hK4⟩
  have HCall := show Hid _ from HNp.out X4 us4 hS4
  have HK5 : Hid (Up0 B X X4) := HKX.out.trans hK4
  clear HNu HNp hS4 hK4 HKX r0 r1 r2 r3 a0
  go_wp2_with fail
  refine Calls.mono HCall.out ?_
  rintro e X5 ⟨rfl, hS5, hK5⟩
  have HS5 := show Hid _ from hS5
  clear hS5 HCall
  go_wp2
  exact bodyPost_end (results_none rfl _ _ _) rfl ⟨rfl, by rw [HR1.out]; exact HS5.out, HK5.out.trans hK5⟩
end Go.Proofs.Ytjjpkidmlpmgaaa
