/-
  Int of a number, the program's and the document's.
-/
import Derived.Test.YtdmjfmipalifpaaGreatDoorTa
import Derived.Test.YtdmjfmipalifpaaGreatDoorRfe
import Derived.Test.YtdmjfmipalifpaaGreatDoorWu
namespace Go.Proofs.YtdmjfmipalifpaaGreatDoor
open Go.RowKit

def inI (N : Nat) : Int := if 63 < bl N then 0 else (N : Int)
def inB (N : Nat) : Bool := !decide (63 < bl N)
theorem in_big {N : Nat} (h : 9223372036854775808 ≤ N) : inI N = 0 ∧ inB N = false := by
  have hb : 63 < bl N := by
    rcases Nat.lt_or_ge 63 (bl N) with e | e
    · exact e
    · have := (bl_le_iff N 63).1 e
      omega
  exact ⟨if_pos hb, by simp [inB, hb]⟩
theorem in_small {N : Nat} (h : N < 9223372036854775808) : inI N = (N : Int) ∧ inB N = true := by
  have hb : ¬ 63 < bl N := by
    have := (bl_le_iff N 63).2 h
    omega
  exact ⟨if_neg hb, by simp [inB, hb]⟩
theorem val_two {B : Nat} (hB : 0 < B) {L : List Nat} (hc : Can L) (h : 1 < L.length) : B ≤ val B L := by
  rcases List.eq_nil_or_concat L with rfl | ⟨A, d, rfl⟩
  · simp at h
  · rw [List.concat_eq_append] at *
    have hd : d ≠ 0 := fun e => hc (by simp [e])
    have hA : 1 ≤ A.length := by simp at h; omega
    rw [val_snoc]
    have h1 : B ^ 1 ≤ B ^ A.length := Nat.pow_le_pow_right hB hA
    rw [Nat.pow_one] at h1
    have h2 : B ^ A.length * 1 ≤ B ^ A.length * d := Nat.mul_le_mul_left _ (by omega)
    omega
theorem val_one {B : Nat} {L : List Nat} (h : ¬ 1 < L.length) : val B L = L.getD 0 0 := by
  match L, h with
  | [], _ => rfl
  | [d], _ => simp [val]
  | a :: b :: r, h => simp at h

set_option maxHeartbeats 400000 in
set_option maxRecDepth 100000 in
theorem natInt_any (v : Value) (N : Nat) (w : World) (h : Nm w v N) :
    Calls Tryz.prog 14 #[.agg #[v]] w fun e w' => e = .returned (.tuple #[.int .i64 (inI N), .bool (inB N)]) ∧ Fresh w w' := by
  obtain ⟨L, hL, hc, hv, _⟩ := h
  have ht := fun W (hF : Fresh w W) => at_any _ v L 0 W (Dw.fresh hL hF) (by omega)
  have hlen := hL.len
  obtain ⟨a, c, rfl⟩ := hL.shape
  have hF1 : Fresh w (w.alloc (.cells #[.slice a L.length c] 26)) := (Kept.refl _ _).alloc _
  have HF1 := show Hid _ from hF1
  have HT : Hid (Unit → _) := fun (_ : Unit) => ht
  clear hF1
  by_cases h1 : 1 < L.length
  · have hb := val_two (B := 18446744073709551616) (by decide) hc h1
    rw [hv] at hb
    obtain ⟨e1, e2⟩ := in_big (N := N) (by omega)
    rw [e1, e2]
    have h1' : (1 : Int) < (L.length : Int) := by omega
    clear hL hc hv hb e1 e2 ht h1
    generalize L.getD 0 0 = D at *
    generalize L.length = n at *
    go_enter Tryz.func14, Tryz.ntmps14
    go_wp2_with fail
    refine (HT.out () _ HF1.out).mono ?_
    rintro e w1 ⟨rfl, rfl⟩
    clear HT
    go_wp2
    go_ret2
    exact ⟨rfl, HF1.out⟩
  · have hb := val_one (B := 18446744073709551616) h1
    have hdl := Dg.getD (by decide) hL.dg 0
    rw [hv] at hb
    rw [← hb] at HT hdl
    have h1' : ¬ (1 : Int) < (L.length : Int) := by omega
    clear hL hc hv hb ht h1
    generalize L.length = n at *
    by_cases hs : N < 9223372036854775808
    · obtain ⟨e1, e2⟩ := in_small hs
      rw [e1, e2]
      have hs' : ¬ (9223372036854775807 : Int) < (N : Int) := by omega
      clear e1 e2
      go_enter Tryz.func14, Tryz.ntmps14
      go_wp2_with fail
      refine (HT.out () _ HF1.out).mono ?_
      rintro e w1 ⟨rfl, rfl⟩
      clear HT
      go_wp2
      go_ret2
      exact ⟨rfl, HF1.out⟩
    · obtain ⟨e1, e2⟩ := in_big (N := N) (by omega)
      rw [e1, e2]
      have hs' : (9223372036854775807 : Int) < (N : Int) := by omega
      clear e1 e2
      go_enter Tryz.func14, Tryz.ntmps14
      go_wp2_with fail
      refine (HT.out () _ HF1.out).mono ?_
      rintro e w1 ⟨rfl, rfl⟩
      clear HT
      go_wp2
      go_ret2
      exact ⟨rfl, HF1.out⟩

set_option maxHeartbeats 400000 in
set_option maxRecDepth 100000 in
theorem refInt_any (v : Value) (N : Nat) (w : World) (h : Rn w v N) :
    Calls Tryz.prog 15 #[v] w fun e w' => e = .returned (.tuple #[.int .i64 (inI N), .bool (inB N)]) ∧ w' = w := by
  have hbt := refBits_any v N w h
  obtain ⟨L, hL, hc, hv⟩ := h
  have hlen := hL.len
  obtain ⟨ao, cap, rfl, _, _, hcell, _⟩ := hL
  have HBt : Hid (Unit → _) := fun (_ : Unit) => hbt
  clear hbt
  by_cases hb : 63 < bl N
  · rw [show inI N = 0 from if_pos hb, show inB N = false by simp [inB, hb]]
    clear hcell
    generalize bl N = K at *
    go_enter Tryz.func15, Tryz.ntmps15
    go_wp2_with fail
    refine (HBt.out ()).mono ?_
    rintro e w1 ⟨rfl, rfl⟩
    clear HBt
    go_wp2
    go_ret2
    exact ⟨rfl, rfl⟩
  · rw [show inI N = (N : Int) from if_neg hb, show inB N = true by simp [inB, hb]]
    have hN : N < 9223372036854775808 := (bl_le_iff N 63).1 (by omega)
    have HV : Hid (∀ j, j ≤ L.length → val 65536 (L.drop j) ≤ N) := fun j hj => by
      rw [← hv, val_split 65536 L j hj]
      exact Nat.le_trans (Nat.le_mul_of_pos_left _ (Nat.pow_pos (by decide))) (Nat.le_add_left _ _)
    have HS : Hid (∀ j, j < L.length → val 65536 (L.drop j) = L.getD j 0 + 65536 * val 65536 (L.drop (j + 1))) := fun j hj => by
      rw [List.drop_eq_getElem_cons hj, List.getD_eq_getElem?_getD, List.getElem?_eq_getElem hj]
      rfl
    have HA : Hid (val 65536 (L.drop 0) = N) := by rw [List.drop_zero]; exact hv
    have HE : Hid (val 65536 (L.drop L.length) = 0) := by rw [List.drop_length]; rfl
    have HC : Hid (∀ i, i < L.length → ∃ b off, ao = some ⟨b, off, none⟩ ∧ w.cell? ⟨b, off + i, none⟩ = some (.int .i64 ((L.getD i 0 : Nat) : Int))) := fun i hi => by
      obtain ⟨b, off, e1, _, e3, e4⟩ := hcell (fun e => by rw [e] at hi; simp at hi)
      exact ⟨b, off, e1, e4 i hi⟩
    clear hcell hv hc
    generalize bl N = K at *
    go_enter Tryz.func15, Tryz.ntmps15
    go_wp2_with fail
    refine (HBt.out ()).mono ?_
    rintro e w1 ⟨rfl, rfl⟩
    clear HBt
    go_wp2_with fail
    go_loop [4, 5] (fun nv iv => ∃ j : Nat, j ≤ L.length ∧ nv = .int .i64 (val 65536 (L.drop j) : Nat) ∧ iv = .int .i64 ((j : Int) - 1)) (fun _ iv => (intOf iv + 1).toNat)
    case atStart => exact ⟨L.length, Nat.le_refl _, by rw [HE.out]; rfl, by go_num⟩
    case round =>
      obtain ⟨j, hj, rfl, rfl⟩ := hrel
      rcases Nat.eq_zero_or_pos j with hz | hz
      · subst hz
        rw [HA.out]
        have hz' : ((0 : Nat) : Int) - 1 = -1 := by omega
        clear HV HS HA HE HC
        go_wp2
        go_ret2
        exact ⟨rfl, rfl⟩
      · obtain ⟨m, rfl⟩ : ∃ m, j = m + 1 := ⟨j - 1, by omega⟩
        obtain ⟨b, off, rfl, hce⟩ := HC.out m (by omega)
        have hs := HS.out m (by omega)
        have hvm := HV.out m (by omega)
        have HS2 := show Hid _ from hs
        rw [hs] at hvm
        generalize L.getD m 0 = d at *
        generalize val 65536 (L.drop (m + 1)) = V at *
        have e1 : ((m + 1 : Nat) : Int) - 1 = (m : Int) := by omega
        rw [e1]
        have e2 : (V : Int) * 65536 ≤ 9223372036854775807 := by omega
        have e3 : (V : Int) * 65536 + (d : Int) = ((d + 65536 * V : Nat) : Int) := by omega
        have e4 : (V : Int) * 65536 + (d : Int) ≤ 9223372036854775807 := by omega
        clear HV HS HA HE HC hs
        go_wp2
        go_round
        case rel => exact ⟨m, by omega, by rw [HS2.out]; go_num, by go_num⟩
        case measure => simp [intOf]
end Go.Proofs.YtdmjfmipalifpaaGreatDoor
