/-
  Decimal texts: of groups of nineteen digits, and of digits one by one.
-/
import Derived.Test.YtdmjfmipalifpaaGreatDoorNvN
import Derived.Lib.TrimByte
import Derived.Lib.Join
import Derived.Lib.Repeat
namespace Go.Proofs.YtdmjfmipalifpaaGreatDoor

/-- The last k decimal digits. -/
def pd : Nat → Nat → List UInt8
  | 0, _ => []
  | k + 1, n => pd k (n / 10) ++ [UInt8.ofNat (48 + n % 10)]
/-- The decimal digits, none of 0. -/
def dE (n : Nat) : List UInt8 := if n = 0 then [] else Lib.decDigits n
theorem dE_zero : dE 0 = [] := rfl
theorem dE_pos {n : Nat} (h : n ≠ 0) : dE n = Lib.decDigits n := if_neg h
theorem dE_step {n : Nat} (h : n ≠ 0) : dE n = dE (n / 10) ++ [UInt8.ofNat (48 + n % 10)] := by
  rw [dE_pos h, Lib.decDigits]
  by_cases c : n < 10
  · rw [dif_pos c, show n / 10 = 0 by omega, dE_zero, show n % 10 = n by omega]; rfl
  · rw [dif_neg c, dE_pos (by omega)]
theorem pd_length : ∀ k n, (pd k n).length = k
  | 0, _ => rfl
  | k + 1, n => by simp [pd, pd_length k]
theorem pd_zero : ∀ k, pd k 0 = List.replicate k 48
  | 0 => rfl
  | k + 1 => by
    rw [pd, Nat.zero_div, pd_zero k, List.replicate_succ']
    rfl
/-- Digits ahead of the last k. -/
theorem dE_pd : ∀ (k : Nat) {n : Nat}, n / 10 ^ k ≠ 0 → dE n = dE (n / 10 ^ k) ++ pd k n
  | 0, n, _ => by simp [pd]
  | k + 1, n, h => by
    have e : n / 10 ^ (k + 1) = n / 10 / 10 ^ k := by rw [Nat.pow_succ, Nat.mul_comm, Nat.div_div_eq_div_mul]
    have hn : n ≠ 0 := fun c => by subst c; simp at h
    rw [e] at h ⊢
    rw [dE_step hn, dE_pd k h, pd, List.append_assoc]
/-- The last k digits of a number that has no more: noughts, and its digits. -/
theorem pd_small : ∀ (k : Nat) {n : Nat}, n < 10 ^ k → ∃ z, pd k n = List.replicate z 48 ++ dE n
  | 0, n, h => ⟨0, by have : n = 0 := by simpa using h
                      subst this; rfl⟩
  | k + 1, n, h => by
    rcases Classical.em (n = 0) with c | c
    · subst c; exact ⟨k + 1, by rw [pd_zero, dE_zero, List.append_nil]⟩
    · obtain ⟨z, hz⟩ := pd_small k (n := n / 10) (by rw [Nat.pow_succ] at h; omega)
      exact ⟨z, by rw [pd, hz, dE_step c, List.append_assoc]⟩
theorem pd_mod : ∀ (k n : Nat), pd k (n % 10 ^ k) = pd k n
  | 0, _ => rfl
  | k + 1, n => by
    have e1 : n % 10 ^ (k + 1) / 10 = n / 10 % 10 ^ k := by
      rw [Nat.pow_succ, Nat.mul_comm, Nat.mod_mul_right_div_self]
    have e2 : n % 10 ^ (k + 1) % 10 = n % 10 := by
      rw [Nat.pow_succ, Nat.mod_mul_left_mod]
    rw [pd, pd, e1, e2, pd_mod k]
theorem decDigits_ne (n : Nat) : Lib.decDigits n ≠ [] := by
  intro h
  have := congrArg List.length h
  rw [Lib.decDigits_length] at this
  have := Lib.nDigits_pos n
  simp at *
  omega
/-- The padded text of a group. -/
theorem pd_pad (k : Nat) {u : Nat} (hk : 1 ≤ k) (h : u < 10 ^ k) : Lib.nDigits u ≤ k ∧ pd k u = List.replicate (k - Lib.nDigits u) 48 ++ Lib.decDigits u := by
  rcases Classical.em (u = 0) with c | c
  · subst c
    have e : Lib.nDigits 0 = 1 := Lib.nDigits_small (by omega)
    refine ⟨by omega, ?_⟩
    rw [e, pd_zero, Lib.decDigits_one (by omega)]
    obtain ⟨j, rfl⟩ : ∃ j, k = j + 1 := ⟨k - 1, by omega⟩
    rw [List.replicate_succ', show j + 1 - 1 = j by omega]
    rfl
  · obtain ⟨z, hz⟩ := pd_small k h
    have hl := congrArg List.length hz
    rw [pd_length, List.length_append, List.length_replicate, dE_pos c, Lib.decDigits_length] at hl
    refine ⟨by omega, ?_⟩
    rw [hz, dE_pos c, show k - Lib.nDigits u = z by omega]
/-- The first digit is no nought. -/
theorem dE_head : ∀ (k : Nat) {n : Nat}, n < 10 ^ k → n ≠ 0 → ∃ d r, dE n = d :: r ∧ d ≠ 48
  | 0, n, h, h0 => by simp at h; omega
  | k + 1, n, h, h0 => by
    rw [dE_step h0]
    rcases Classical.em (n / 10 = 0) with c | c
    · refine ⟨UInt8.ofNat (48 + n % 10), [], by rw [c]; rfl, fun e => ?_⟩
      have := congrArg UInt8.toNat e
      rw [UInt8.toNat_ofNat'] at this
      simp at this
      omega
    · obtain ⟨d, r, e, hd⟩ := dE_head k (n := n / 10) (by rw [Nat.pow_succ] at h; omega) c
      exact ⟨d, r ++ _, by rw [e]; rfl, hd⟩
theorem dropWhile_zeros (z : Nat) (l : List UInt8) : (List.replicate z (48 : UInt8) ++ l).dropWhile (· == 48) = l.dropWhile (· == 48) := by
  induction z with
  | zero => rfl
  | succ z ih => rw [List.replicate_succ, List.cons_append, List.dropWhile_cons, if_pos (by decide), ih]
/-- The text of a number, of its groups (the least first). -/
theorem groups_text {n z : Nat} (h : n ≠ 0) : (List.replicate z (48 : UInt8) ++ dE n).dropWhile (· == 48) = Lib.decDigits n := by
  rw [dropWhile_zeros]
  obtain ⟨d, r, e, hd⟩ := dE_head (Lib.nDigits n) (Lib.lt_pow_nDigits n) h
  rw [e, List.dropWhile_cons, if_neg (by simpa using hd), ← e, dE_pos h]
/-- What the groups told so far make, behind what is left. -/
def Grp (N : Nat) (n : Nat) (gs : List (List UInt8)) : Prop := ∃ z, (n = 0 → gs.reverse.flatten = List.replicate z 48 ++ dE N) ∧ (n ≠ 0 → dE N = dE n ++ gs.reverse.flatten)
theorem grp_nil {N : Nat} (h : N ≠ 0) : Grp N N [] := ⟨0, fun c => absurd c h, fun _ => by simp⟩
theorem grp_snoc {N n : Nat} {gs : List (List UInt8)} (h : Grp N n gs) (hn : n ≠ 0) : Grp N (n / 10000000000000000000) (gs ++ [pd 19 (n % 10000000000000000000)]) := by
  obtain ⟨_, _, h2⟩ := h
  have h2 := h2 hn
  have e : (10000000000000000000 : Nat) = 10 ^ 19 := by decide
  rw [e, pd_mod]
  rcases Classical.em (n / 10 ^ 19 = 0) with c | c
  · obtain ⟨z, hz⟩ := pd_small 19 (n := n) (by have := Nat.div_eq_zero_iff.1 c; omega)
    refine ⟨z, fun _ => ?_, fun k => absurd c k⟩
    rw [List.reverse_append, List.reverse_singleton, List.singleton_append, List.flatten_cons, hz, h2, List.append_assoc]
  · refine ⟨0, fun k => absurd k c, fun _ => ?_⟩
    rw [List.reverse_append, List.reverse_singleton, List.singleton_append, List.flatten_cons, h2, dE_pd 19 c, List.append_assoc]
theorem join_nil (l : List (List UInt8)) : Lib.join l [] = l.flatten := by
  unfold Lib.join
  induction l with
  | nil => rfl
  | cons a r ih =>
    cases r with
    | nil => simp [List.intercalate]
    | cons b t => rw [List.intercalate_cons_cons, ih]; simp
theorem grp_end {N : Nat} {gs : List (List UInt8)} (h : Grp N 0 gs) (hN : N ≠ 0) : Lib.trimLeftB (Lib.join gs.reverse []) 48 = Lib.decDigits N := by
  obtain ⟨z, h1, _⟩ := h
  rw [join_nil, h1 rfl]
  exact groups_text hN
end Go.Proofs.YtdmjfmipalifpaaGreatDoor
