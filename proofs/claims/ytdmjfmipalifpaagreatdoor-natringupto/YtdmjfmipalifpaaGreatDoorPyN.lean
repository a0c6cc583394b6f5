/-
  Groups of 19 digits, put together. Numbers only.
-/
import Derived.Test.YtdmjfmipalifpaaGreatDoorPxN
import Derived.Test.YtdmjfmipalifpaaGreatDoorWmN
namespace Go.Proofs.YtdmjfmipalifpaaGreatDoor

/-- So many digits lie ahead of group i of G. -/
def plc (n G i : Nat) : Nat := n - (G - i) * 19
theorem plc_next {n G i : Nat} (hG : G = (n + 18) / 19) (hn : 1 ≤ n) (hi : i < G) :
    plc n G (i + 1) ≤ n ∧ plc n G i < plc n G (i + 1) ∧ plc n G (i + 1) - plc n G i ≤ 19 ∧ (i = 0 → plc n G i = 0) ∧ (i ≠ 0 → plc n G (i + 1) = plc n G i + 19) ∧ plc n G (i + 1) = n - (G - 1 - i) * 19 ∧ (G - 1 - i) * 19 < n := by
  unfold plc
  refine ⟨by omega, by omega, by omega, by omega, by omega, ?_, by omega⟩
  rw [show G - (i + 1) = G - 1 - i by omega]
theorem dig_step {n G i : Nat} {l : List UInt8} {L Z : List Nat} {o : Nat} (hG : G = (n + 18) / 19) (hn : 1 ≤ n) (hi : i < G) (hl : l.length = n) (hL : L.length = i) (hdL : Dg 18446744073709551616 L)
    (hd : Ds l) (hv : val 18446744073709551616 L = dn (l.take (plc n G i)))
    (h : val 18446744073709551616 Z + 18446744073709551616 ^ (L ++ [0]).length * o = 10000000000000000000 * val 18446744073709551616 (L ++ [0]) + dn ((l.drop (plc n G i)).take (plc n G (i + 1) - plc n G i))) :
    val 18446744073709551616 Z = dn (l.take (plc n G (i + 1))) := by
  obtain ⟨p1, p2, p3, p4, p5, p6, p7⟩ := plc_next hG hn hi
  generalize plc n G i = p at *
  generalize plc n G (i + 1) = q at *
  have e19 : (10 : Nat) ^ 19 = 10000000000000000000 := by decide
  have hq : l.take q = l.take p ++ (l.drop p).take (q - p) := by
    have := List.take_add (l := l) (i := p) (j := q - p)
    rw [show p + (q - p) = q by omega] at this
    exact this
  have hgl : ((l.drop p).take (q - p)).length = q - p := by simp; omega
  have hlt := dn_lt ((l.drop p).take (q - p)) ((hd.drop p).take _)
  rw [hgl] at hlt
  have hlt2 : dn ((l.drop p).take (q - p)) < 10000000000000000000 := Nat.lt_of_lt_of_le hlt (by have := Nat.pow_le_pow_right (n := 10) (by decide) p3; rw [e19] at this; exact this)
  rw [hq, dn_append, hgl, ← hv]
  rw [val_snoc, Nat.mul_zero, Nat.add_zero, List.length_append, List.length_singleton, hL, Nat.pow_succ] at h
  have hVl := val_lt (by omega) hdL
  rw [hL] at hVl
  have hV0 : i = 0 → val 18446744073709551616 L = 0 := fun e => by rw [List.length_eq_zero_iff.1 (hL.trans e)]; rfl
  have hpq : val 18446744073709551616 L * 10 ^ (q - p) = 10000000000000000000 * val 18446744073709551616 L := by
    by_cases e : i = 0
    · rw [hV0 e, Nat.zero_mul, Nat.mul_zero]
    · rw [show q - p = 19 by have := p5 e; omega, Nat.mul_comm, e19]
  rw [hpq]
  generalize dn ((l.drop p).take (q - p)) = c at *
  generalize val 18446744073709551616 L = V at *
  generalize val 18446744073709551616 Z = U at *
  generalize 18446744073709551616 ^ i = Q at *
  clear hpq hV0 hlt hgl hq e19 p1 p2 p3 p4 p5 p6 p7 hv hdL hd
  rcases Nat.eq_zero_or_pos o with e | e
  · subst e
    rw [Nat.mul_zero, Nat.add_zero] at h
    exact h
  · exfalso
    have h2 := Nat.le_mul_of_pos_right (Q * 18446744073709551616) e
    generalize Q * 18446744073709551616 * o = R at *
    omega
end Go.Proofs.YtdmjfmipalifpaaGreatDoor
