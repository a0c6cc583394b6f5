/-
  Clamp, Narrow and Add, the packages' and the document's.
-/
import Derived.Test.YtakiimjldccgcabDoorShEToFwr
import Derived.Test.YtakiimjldccgcabDoorVcaToMkL
namespace Go.Proofs.YtakiimjldccgcabDoor
open Go.ChangeShapes Go.WideShapes Go.ChangeAt Go.RowKit

def clamp (x lo hi : Int) : Int := if x < lo then lo else if hi < x then hi else x

set_option maxHeartbeats 400000 in
theorem clamp_any (x lo hi : Int) (w : World) :
    Calls Tryd.prog 104 #[.int .i64 x, .int .i64 lo, .int .i64 hi] w fun e w' => e = .returned (.int .i64 (clamp x lo hi)) ∧ Drew w w' := by
  unfold clamp
  by_cases h1 : x < lo
  · rw [if_pos h1]
    go_enter Tryd.func104, Tryd.ntmps104
    go_wp2
    go_ret
    exact ⟨rfl, Drew.refl _⟩
  · rw [if_neg h1]
    by_cases h2 : hi < x
    · rw [if_pos h2]
      go_enter Tryd.func104, Tryd.ntmps104
      go_wp2
      go_ret
      exact ⟨rfl, Drew.refl _⟩
    · rw [if_neg h2]
      go_enter Tryd.func104, Tryd.ntmps104
      go_wp2
      go_ret
      exact ⟨rfl, Drew.refl _⟩
theorem clamp_bound (x : Int) : -127 ≤ clamp x (-127) 127 ∧ clamp x (-127) 127 ≤ 127 := by unfold clamp; split <;> (try split) <;> omega
set_option maxHeartbeats 400000 in
theorem narrow_any (x : Int) (w : World) :
    Calls Tryd.prog 96 #[.int .i64 x] w fun e w' => e = .returned (.int .i8 (clamp x (-127) 127)) ∧ Drew w w' := by
  have hb := clamp_bound x
  go_enter Tryd.func96, Tryd.ntmps96
  go_wp2_with fail
  refine (clamp_any _ _ _ _).mono ?_
  rintro e w1 ⟨rfl, h1⟩
  go_wp2
  go_ret
  exact ⟨rfl, h1⟩

end Go.Proofs.YtakiimjldccgcabDoor

/-
  Numbers rounded.
-/
namespace Go.Proofs.YtakiimjldccgcabDoor
open Go.RowKit

theorem near_bound (x d : Int) : x / d ≤ near x d ∧ near x d ≤ x / d + 1 := by unfold near; split <;> omega
end Go.Proofs.YtakiimjldccgcabDoor

/-
  Numbers of layer 10: sines, pairs that are turned, the angles of places.
-/
namespace Go.Proofs.YtakiimjldccgcabDoor
open Go.RowKit

/-- The sines of a quarter of a turn. -/
def sT : List Int := [0, 2, 3, 5, 6, 8, 9, 11, 12, 14, 16, 17, 19, 20, 22, 23, 24, 26, 27, 29, 30, 32, 33, 34, 36, 37, 38, 39, 41, 42, 43, 44, 45, 46, 47, 48, 49, 50, 51, 52, 53, 54, 55, 56, 56, 57, 58, 59, 59, 60, 60, 61, 61, 62, 62, 62, 63, 63, 63, 64, 64, 64, 64, 64, 64]
theorem sT_in : ∀ i, i < 65 → 0 ≤ sT.getD i 0 ∧ sT.getD i 0 ≤ 64 := by decide +kernel
/-- The sine of an angle below a whole turn. -/
def snN (r : Nat) : Int := if r < 128 then sT.getD (min r (128 - r)) 0 else - sT.getD (min (r - 128) (256 - r)) 0
/-- The sine of an angle. -/
def sn (a : Int) : Int := snN (a % 256).toNat
theorem snN_in : ∀ r, r < 256 → -64 ≤ snN r ∧ snN r ≤ 64 := by decide +kernel
theorem sn_in (a : Int) : -64 ≤ sn a ∧ sn a ≤ 64 := snN_in _ (by omega)
theorem sn_c8 (a : Int) : C8 (sn a) := by have := sn_in a; exact ⟨by omega, by omega⟩
theorem sn_half {a : Int} {r : Nat} (h : a % 256 = r) (hr : r < 128) : sn a = sT.getD (min r (128 - r)) 0 := by unfold sn snN; rw [h, Int.toNat_natCast, if_pos hr]
theorem sn_rest {a : Int} {r : Nat} (h : a % 256 = ((r + 128 : Nat) : Int)) : sn a = - sT.getD (min r (128 - r)) 0 := by
  unfold sn snN
  rw [h, Int.toNat_natCast, if_neg (by omega), show r + 128 - 128 = r by omega, show 256 - (r + 128) = 128 - r by omega]
theorem sn_mod (a : Int) : sn (a % 256) = sn a := by unfold sn; rw [Int.emod_emod_of_dvd _ (by decide)]
theorem sn_per (a : Int) (k : Int) : sn (a + 256 * k) = sn a := by unfold sn; rw [show (a + 256 * k) % 256 = a % 256 by omega]
theorem sn_nat (r : Nat) (h : r < 256) : sn r = snN r := by unfold sn; rw [show ((r : Int) % 256).toNat = r by omega]

/-- A sum of two products, brought back to 8 bits. -/
def rnd (x : Int) : Int := clamp (near x 64) (-127) 127
theorem rnd_c8 (x : Int) : C8 (rnd x) := by have := clamp_bound (near x 64); exact ⟨by unfold rnd; omega, by unfold rnd; omega⟩
/-- What becomes of a pair of heads of half h: sg is 1 where it is turned, -1 where it is turned back. -/
def tuF (sg : Int) (x c s : List Int) (h : Nat) (j : Nat) : Int :=
  if j % 2 = 0 then rnd (x.getD j 0 * c.getD (j / 2 % h) 0 - sg * (x.getD (j + 1) 0 * s.getD (j / 2 % h) 0))
  else rnd (x.getD j 0 * c.getD (j / 2 % h) 0 + sg * (x.getD (j - 1) 0 * s.getD (j / 2 % h) 0))
theorem tuF_even (sg : Int) (x c s : List Int) (h p : Nat) : tuF sg x c s h (2 * p) = rnd (x.getD (2 * p) 0 * c.getD (p % h) 0 - sg * (x.getD (2 * p + 1) 0 * s.getD (p % h) 0)) := by
  unfold tuF; rw [if_pos (by omega), show 2 * p / 2 = p by omega]
theorem tuF_odd (sg : Int) (x c s : List Int) (h p : Nat) : tuF sg x c s h (2 * p + 1) = rnd (x.getD (2 * p + 1) 0 * c.getD (p % h) 0 + sg * (x.getD (2 * p) 0 * s.getD (p % h) 0)) := by
  unfold tuF; rw [if_neg (by omega), show (2 * p + 1) / 2 = p by omega, show 2 * p + 1 - 1 = 2 * p by omega]
theorem tuF_c8 (sg : Int) (x c s : List Int) (h j : Nat) : C8 (tuF sg x c s h j) := by unfold tuF; split <;> exact rnd_c8 _
/-- What is wrong with a row and the angles. -/
def toE (n : Nat) (size : Int) (lc ls : Nat) : Int := if size < 2 ∨ size % 2 ≠ 0 ∨ (n : Int) % size ≠ 0 then 100 else if (lc : Int) ≠ size / 2 ∨ (ls : Int) ≠ size / 2 then 101 else 0
/-- The row turned. -/
def toL (sg : Int) (x : List Int) (size : Int) (c s : List Int) : List Int := if toE x.length size c.length s.length = 0 then mkL x.length (tuF sg x c s (size / 2).toNat) else []
theorem toL_bad {sg : Int} {x : List Int} {size : Int} {c s : List Int} (h : toE x.length size c.length s.length ≠ 0) : toL sg x size c s = [] := if_neg h
theorem toL_ok {sg : Int} {x : List Int} {size : Int} {c s : List Int} (h : toE x.length size c.length s.length = 0) : toL sg x size c s = mkL x.length (tuF sg x c s (size / 2).toNat) := if_pos h
theorem toL_len (sg : Int) (x : List Int) (size : Int) (c s : List Int) : (toL sg x size c s).length ≤ x.length := by
  unfold toL; split
  · rw [mkL_len]; exact Nat.le_refl _
  · simp
theorem toL_c8 (sg : Int) (x : List Int) (size : Int) (c s : List Int) : ∀ z ∈ toL sg x size c s, C8 z := by
  unfold toL; split
  · intro z hz; obtain ⟨i, _, rfl⟩ := mkL_mem hz; exact tuF_c8 _ _ _ _ _ _
  · intro z hz; cases hz
/-- Told by cases: not heads; angles that are not so many; all well, a row of m heads of half h. -/
theorem to_cases (n : Nat) (size : Int) (lc ls : Nat) : (size < 2 ∧ toE n size lc ls = 100) ∨ (2 ≤ size ∧ size % 2 ≠ 0 ∧ toE n size lc ls = 100) ∨ (∃ h : Nat, 1 ≤ h ∧ size = 2 * h ∧ ((n : Int) % size ≠ 0 ∧ toE n size lc ls = 100 ∨ (∃ m : Nat, n = m * (2 * h) ∧ (n : Int) % size = 0 ∧ ((lc ≠ h ∧ toE n size lc ls = 101) ∨ (lc = h ∧ ls ≠ h ∧ toE n size lc ls = 101) ∨ (lc = h ∧ ls = h ∧ toE n size lc ls = 0))))) := by
  rcases Int.lt_or_le size 2 with h1 | h1
  · exact .inl ⟨h1, if_pos (.inl h1)⟩
  by_cases h2 : size % 2 = 0
  · refine .inr (.inr ⟨(size / 2).toNat, by omega, by omega, ?_⟩)
    by_cases h3 : (n : Int) % size = 0
    · refine .inr ⟨n / size.toNat, ?_, h3, ?_⟩
      · have e : ((size.toNat : Nat) : Int) = size := by omega
        have h4 : n % size.toNat = 0 := by rw [← e] at h3; omega
        have := Nat.div_add_mod n size.toNat
        rw [show 2 * (size / 2).toNat = size.toNat by omega, Nat.mul_comm]
        omega
      · have e0 : ¬ (size < 2 ∨ size % 2 ≠ 0 ∨ (n : Int) % size ≠ 0) := by
          rintro (e | e | e)
          · omega
          · exact e h2
          · exact e h3
        by_cases h4 : (lc : Int) = size / 2
        · by_cases h5 : (ls : Int) = size / 2
          · refine .inr (.inr ⟨by omega, by omega, ?_⟩)
            unfold toE; rw [if_neg e0, if_neg (fun e => e.elim (fun e => e h4) (fun e => e h5))]
          · refine .inr (.inl ⟨by omega, by omega, ?_⟩)
            unfold toE; rw [if_neg e0, if_pos (.inr h5)]
        · refine .inl ⟨by omega, ?_⟩
          unfold toE; rw [if_neg e0, if_pos (.inl h4)]
    · exact .inl ⟨h3, if_pos (.inr (.inr h3))⟩
  · exact .inr (.inl ⟨h1, h2, if_pos (.inr (.inl h2))⟩)

/-- Which angle a pair has at a place. -/
def ang (num den : Int) (p i : Nat) : Int := 64 * (p : Int) * num / (2 ^ i * den)
/-- What is wrong with a table's sizes and what it is stretched by. -/
def stE (places half num den : Int) : Int := if places < 1 ∨ 512 < places ∨ half < 1 ∨ 32 < half then 102 else if num < 1 ∨ 65536 < num ∨ den < 1 ∨ 65536 < den then 1 else 0
def cosF (num den : Int) (h j : Nat) : Int := sn (ang num den (j / h) (j % h) + 64)
def sinF (num den : Int) (h j : Nat) : Int := sn (ang num den (j / h) (j % h))
def cosL (places half num den : Int) : List Int := if stE places half num den = 0 then mkL (places * half).toNat (cosF num den half.toNat) else []
def sinL (places half num den : Int) : List Int := if stE places half num den = 0 then mkL (places * half).toNat (sinF num den half.toNat) else []
theorem stE_cases (places half num den : Int) : (stE places half num den = 102 ∧ (places < 1 ∨ 512 < places ∨ half < 1 ∨ 32 < half)) ∨ (∃ P h : Nat, places = P ∧ half = h ∧ 1 ≤ P ∧ P ≤ 512 ∧ 1 ≤ h ∧ h ≤ 32 ∧ ((stE places half num den = 1 ∧ (num < 1 ∨ 65536 < num ∨ den < 1 ∨ 65536 < den)) ∨ (stE places half num den = 0 ∧ 1 ≤ num ∧ num ≤ 65536 ∧ 1 ≤ den ∧ den ≤ 65536))) := by
  by_cases h : places < 1 ∨ 512 < places ∨ half < 1 ∨ 32 < half
  · exact .inl ⟨if_pos h, h⟩
  · refine .inr ⟨places.toNat, half.toNat, by omega, by omega, by omega, by omega, by omega, by omega, ?_⟩
    by_cases h2 : num < 1 ∨ 65536 < num ∨ den < 1 ∨ 65536 < den
    · exact .inl ⟨by unfold stE; rw [if_neg h, if_pos h2], h2⟩
    · exact .inr ⟨by unfold stE; rw [if_neg h, if_neg h2], by omega, by omega, by omega, by omega⟩
theorem cosL_bad {places half num den : Int} (h : stE places half num den ≠ 0) : cosL places half num den = [] := if_neg h
theorem sinL_bad {places half num den : Int} (h : stE places half num den ≠ 0) : sinL places half num den = [] := if_neg h
theorem cosL_ok {P h : Nat} {num den : Int} (h0 : stE P h num den = 0) : cosL P h num den = mkL (P * h) (cosF num den h) := by
  unfold cosL; rw [if_pos h0, ← Int.natCast_mul, Int.toNat_natCast, Int.toNat_natCast]
theorem sinL_ok {P h : Nat} {num den : Int} (h0 : stE P h num den = 0) : sinL P h num den = mkL (P * h) (sinF num den h) := by
  unfold sinL; rw [if_pos h0, ← Int.natCast_mul, Int.toNat_natCast, Int.toNat_natCast]
theorem cosL_c8 (places half num den : Int) : ∀ z ∈ cosL places half num den, C8 z := by
  unfold cosL; split
  · intro z hz; obtain ⟨i, _, rfl⟩ := mkL_mem hz; exact sn_c8 _
  · intro z hz; cases hz
theorem sinL_c8 (places half num den : Int) : ∀ z ∈ sinL places half num den, C8 z := by
  unfold sinL; split
  · intro z hz; obtain ⟨i, _, rfl⟩ := mkL_mem hz; exact sn_c8 _
  · intro z hz; cases hz
theorem sinL_len (places half num den : Int) : (sinL places half num den).length = (cosL places half num den).length := by
  unfold sinL cosL; split
  · rw [mkL_len, mkL_len]
  · rfl
theorem cosL_len (places half num den : Int) : (cosL places half num den).length ≤ 16384 := by
  rcases stE_cases places half num den with ⟨h, _⟩ | ⟨P, h, rfl, rfl, _, h1, _, h2, ⟨h0, _⟩ | ⟨h0, _⟩⟩
  · rw [cosL_bad (by omega)]; simp
  · rw [cosL_bad (by omega)]; simp
  · rw [cosL_ok h0, mkL_len]
    have := Nat.mul_le_mul h1 h2
    omega
theorem place_div {h : Nat} (p i : Nat) (hi : i < h) : (p * h + i) / h = p ∧ (p * h + i) % h = i := by
  constructor
  · rw [Nat.add_comm, Nat.add_mul_div_right _ _ (by omega), Nat.div_eq_of_lt hi, Nat.zero_add]
  · rw [Nat.add_comm, Nat.add_mul_mod_self_right, Nat.mod_eq_of_lt hi]
theorem cosF_at (num den : Int) {h : Nat} (p i : Nat) (hi : i < h) : cosF num den h (p * h + i) = sn (ang num den p i + 64) := by
  unfold cosF; rw [(place_div p i hi).1, (place_div p i hi).2]
theorem sinF_at (num den : Int) {h : Nat} (p i : Nat) (hi : i < h) : sinF num den h (p * h + i) = sn (ang num den p i) := by
  unfold sinF; rw [(place_div p i hi).1, (place_div p i hi).2]
end Go.Proofs.YtakiimjldccgcabDoor
