/-
  Compare of numbers, the program's and the document's.
-/
import Derived.Test.YtdmjfmipalifpaaGreatDoorLka
import Derived.Deep.RegionHeld3
namespace Go.Proofs.YtdmjfmipalifpaaGreatDoor
open Go.RowKit

def cmpN (M N : Nat) : Int := if M < N then -1 else if N < M then 1 else 0
theorem cmpN_lt {M N : Nat} (h : M < N) : cmpN M N = -1 := if_pos h
theorem cmpN_gt {M N : Nat} (h : N < M) : cmpN M N = 1 := by unfold cmpN; rw [if_neg (by omega), if_pos h]
theorem cmpN_eq (M : Nat) : cmpN M M = 0 := by unfold cmpN; rw [if_neg (by omega), if_neg (by omega)]
theorem cmp_len {B : Nat} (hB : 0 < B) {X Y : List Nat} (hX : Dg B X) (hY : Can Y) (h : X.length < Y.length) : val B X < val B Y := by
  refine Nat.lt_of_lt_of_le (val_lt hB hX) ?_
  rcases List.eq_nil_or_concat Y with rfl | ⟨A, d, rfl⟩
  · simp at h
  · rw [List.concat_eq_append] at *
    have hd : d ≠ 0 := fun e => hY (by simp [e])
    have hA : X.length ≤ A.length := by simp at h; omega
    rw [val_snoc]
    have h1 : B ^ X.length ≤ B ^ A.length := Nat.pow_le_pow_right hB hA
    have h2 : B ^ A.length * 1 ≤ B ^ A.length * d := Nat.mul_le_mul_left _ (by omega)
    omega
theorem val_at (B : Nat) (X : List Nat) (m : Nat) (hm : m < X.length) : val B X = val B (X.take m) + B ^ m * (X.getD m 0 + B * val B (X.drop (m + 1))) := by
  rw [val_split B X m (by omega), List.drop_eq_getElem_cons hm, List.getD_eq_getElem?_getD, List.getElem?_eq_getElem hm]
  rfl
theorem cmp_at {B : Nat} (hB : 0 < B) {X Y : List Nat} {m : Nat} (hX : Dg B X) (hm : m < X.length) (hm' : m < Y.length) (hV : val B (X.drop (m + 1)) = val B (Y.drop (m + 1))) (hd : X.getD m 0 < Y.getD m 0) : val B X < val B Y := by
  rw [val_at B X m hm, val_at B Y m hm', hV]
  have h1 := val_lt hB (hX.take m)
  rw [List.length_take, Nat.min_eq_left (by omega)] at h1
  generalize val B (Y.drop (m + 1)) = V
  have h2 : B ^ m * (X.getD m 0 + B * V + 1) ≤ B ^ m * (Y.getD m 0 + B * V) := Nat.mul_le_mul_left _ (by omega)
  rw [Nat.mul_add, Nat.mul_one] at h2
  omega
theorem drop_step {B : Nat} {X Y : List Nat} {m : Nat} (hm : m < X.length) (hm' : m < Y.length) (hV : val B (X.drop (m + 1)) = val B (Y.drop (m + 1))) (hd : X.getD m 0 = Y.getD m 0) : val B (X.drop m) = val B (Y.drop m) := by
  rw [List.getD_eq_getElem?_getD, List.getD_eq_getElem?_getD, List.getElem?_eq_getElem hm, List.getElem?_eq_getElem hm'] at hd
  rw [List.drop_eq_getElem_cons hm, List.drop_eq_getElem_cons hm']
  simp only [val, hV]
  have : X[m] = Y[m] := hd
  omega
/-- The cells of a row, one by one. -/
theorem Dw.at {k : IntKind} {B : Nat} {p : Nat → Prop} {w : World} {v : Value} {L : List Nat} {ao : Option Addr} {cap : Nat} (h : Dw k B p w v L) (hv : v = .slice ao L.length cap) (i : Nat) (hi : i < L.length) :
    ∃ b off, ao = some ⟨b, off, none⟩ ∧ b < w.heap.size ∧ w.cell? ⟨b, off + i, none⟩ = some (.int k ((L.getD i 0 : Nat) : Int)) := by
  obtain ⟨ao', cap', e, _, _, hc, _⟩ := h
  rw [hv] at e
  injection e with e1 e2 e3
  subst e1
  obtain ⟨b, off, f1, _, f3, f4⟩ := hc (fun e => by rw [e] at hi; simp at hi)
  exact ⟨b, off, f1, f3, f4 i hi⟩

theorem nanI_any (a : Int) (w : World) : Calls Tryz.prog 92 #[.int .i64 a] w fun e w' => e = .returned (.bool false) ∧ w' = w := by
  go_enter Tryz.func92, Tryz.ntmps92
  go_wp2
  go_ret
  exact ⟨rfl, rfl⟩
theorem nanU_any (a : Int) (w : World) : Calls Tryz.prog 93 #[.int .u64 a] w fun e w' => e = .returned (.bool false) ∧ w' = w := by
  go_enter Tryz.func93, Tryz.ntmps93
  go_wp2
  go_ret
  exact ⟨rfl, rfl⟩
theorem cmpI_any (a b : Nat) (w : World) : Calls Tryz.prog 70 #[.int .i64 (a : Int), .int .i64 (b : Int)] w fun e w' => e = .returned (.int .i64 (cmpN a b)) ∧ w' = w := by
  have h1 := nanI_any (a : Int) w
  have h2 := nanI_any (b : Int) w
  rcases Nat.lt_trichotomy a b with h | h | h
  · rw [cmpN_lt h]
    have h' : (a : Int) < (b : Int) := by omega
    go_enter Tryz.func70, Tryz.ntmps70
    go_wp2_with fail
    refine h1.mono ?_
    rintro e w1 ⟨rfl, rfl⟩
    go_wp2_with fail
    refine h2.mono ?_
    rintro e w1 ⟨rfl, rfl⟩
    clear h1 h2
    go_wp2
    go_ret
    exact ⟨rfl, rfl⟩
  · subst h
    rw [cmpN_eq]
    go_enter Tryz.func70, Tryz.ntmps70
    go_wp2_with fail
    refine h1.mono ?_
    rintro e w1 ⟨rfl, rfl⟩
    go_wp2_with fail
    refine h2.mono ?_
    rintro e w1 ⟨rfl, rfl⟩
    clear h1 h2
    go_wp2
    go_ret
    exact ⟨rfl, rfl⟩
  · rw [cmpN_gt h]
    have h' : (b : Int) < (a : Int) := by omega
    have h'' : ¬ (a : Int) < (b : Int) := by omega
    go_enter Tryz.func70, Tryz.ntmps70
    go_wp2_with fail
    refine h1.mono ?_
    rintro e w1 ⟨rfl, rfl⟩
    go_wp2_with fail
    refine h2.mono ?_
    rintro e w1 ⟨rfl, rfl⟩
    clear h1 h2
    go_wp2
    go_ret
    exact ⟨rfl, rfl⟩
theorem cmpU_any (a b : Nat) (w : World) : Calls Tryz.prog 71 #[.int .u64 (a : Int), .int .u64 (b : Int)] w fun e w' => e = .returned (.int .i64 (cmpN a b)) ∧ w' = w := by
  have h1 := nanU_any (a : Int) w
  have h2 := nanU_any (b : Int) w
  rcases Nat.lt_trichotomy a b with h | h | h
  · rw [cmpN_lt h]
    have h' : (a : Int) < (b : Int) := by omega
    go_enter Tryz.func71, Tryz.ntmps71
    go_wp2_with fail
    refine h1.mono ?_
    rintro e w1 ⟨rfl, rfl⟩
    go_wp2_with fail
    refine h2.mono ?_
    rintro e w1 ⟨rfl, rfl⟩
    clear h1 h2
    go_wp2
    go_ret
    exact ⟨rfl, rfl⟩
  · subst h
    rw [cmpN_eq]
    go_enter Tryz.func71, Tryz.ntmps71
    go_wp2_with fail
    refine h1.mono ?_
    rintro e w1 ⟨rfl, rfl⟩
    go_wp2_with fail
    refine h2.mono ?_
    rintro e w1 ⟨rfl, rfl⟩
    clear h1 h2
    go_wp2
    go_ret
    exact ⟨rfl, rfl⟩
  · rw [cmpN_gt h]
    have h' : (b : Int) < (a : Int) := by omega
    have h'' : ¬ (a : Int) < (b : Int) := by omega
    go_enter Tryz.func71, Tryz.ntmps71
    go_wp2_with fail
    refine h1.mono ?_
    rintro e w1 ⟨rfl, rfl⟩
    go_wp2_with fail
    refine h2.mono ?_
    rintro e w1 ⟨rfl, rfl⟩
    clear h1 h2
    go_wp2
    go_ret
    exact ⟨rfl, rfl⟩
end Go.Proofs.YtdmjfmipalifpaaGreatDoor
