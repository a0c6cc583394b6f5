/-
  Numbers of layer 14: characters by their bytes, as the model's decoder and encoder have them.
-/
import Derived.WalkKit
import Derived.Lib.DecodeN
import Derived.Lib.RuneBytes
namespace Go.Proofs.YtomeoklhjdgaoaaDoor
open Go.Lib

/-- How many bytes the character has that begins with a byte; 0: none does. -/
def szN (b : Nat) : Nat := if b < 128 then 1 else if 194 ≤ b ∧ b ≤ 223 then 2 else if 224 ≤ b ∧ b ≤ 239 then 3 else if 240 ≤ b ∧ b ≤ 244 then 4 else 0
def loN (f k : Nat) : Nat := if k = 1 ∧ f = 224 then 160 else if k = 1 ∧ f = 240 then 144 else 128
def hiN (f k : Nat) : Nat := if k = 1 ∧ f = 237 then 159 else if k = 1 ∧ f = 244 then 143 else 191
/-- May a byte stand at place k of the character that begins with f? -/
abbrev LaN (f k c : Nat) : Prop := loN f k ≤ c ∧ c ≤ hiN f k
/-- The bytes behind the first one, as far as there are n. -/
abbrev OkN (n b0 b1 b2 b3 : Nat) : Prop := (1 < n → LaN b0 1 b1) ∧ (2 < n → LaN b0 2 b2) ∧ (3 < n → LaN b0 3 b3)
/-- How many bytes the character has that stands at the front of n bytes; 0: none stands there. -/
def cwN (n b0 b1 b2 b3 : Nat) : Nat := if szN b0 ≤ n ∧ OkN (szN b0) b0 b1 b2 b3 then szN b0 else 0
/-- Are n bytes the beginning of a character, and not all of it? -/
abbrev HfN (n b0 b1 b2 b3 : Nat) : Prop := 0 < n ∧ n < szN b0 ∧ OkN n b0 b1 b2 b3

theorem szN_le (b : Nat) : szN b ≤ 4 := by
  unfold szN
  repeat' split
  all_goals omega
theorem laN_bd {f k c : Nat} (h : LaN f k c) : 128 ≤ c ∧ c ≤ 191 := by
  unfold LaN loN hiN at h
  repeat' split at h
  all_goals omega
theorem laN_rest {f k c : Nat} (hk : k ≠ 1) : LaN f k c ↔ 128 ≤ c ∧ c ≤ 191 := by
  unfold LaN loN hiN
  rw [if_neg (fun e => hk e.1), if_neg (fun e => hk e.1), if_neg (fun e => hk e.1), if_neg (fun e => hk e.1)]
theorem laN_one {f c : Nat} : LaN f 1 c ↔ (if f = 224 then 160 else if f = 240 then 144 else 128) ≤ c ∧ c ≤ (if f = 237 then 159 else if f = 244 then 143 else 191) := by
  unfold LaN loN hiN
  simp
theorem sz_cls (b : Nat) : (b < 128 ∧ szN b = 1) ∨ (((128 ≤ b ∧ b < 194) ∨ 245 ≤ b) ∧ szN b = 0) ∨ ((194 ≤ b ∧ b ≤ 223) ∧ szN b = 2) ∨ ((224 ≤ b ∧ b ≤ 239) ∧ szN b = 3) ∨ ((240 ≤ b ∧ b ≤ 244) ∧ szN b = 4) := by
  unfold szN
  repeat' split
  all_goals omega
theorem dec1 (n b0 b1 b2 b3 : Nat) (hb : b0 < 128) : decodeN n b0 b1 b2 b3 = (b0, 1) := by unfold decodeN; rw [if_pos hb]
set_option maxRecDepth 100000 in
set_option maxHeartbeats 4000000 in
theorem dec0 (n b0 b1 b2 b3 : Nat) (h0 : b0 < 256) (hb : (128 ≤ b0 ∧ b0 < 194) ∨ 245 ≤ b0) : decodeN n b0 b1 b2 b3 = (65533, 1) := by
  unfold decodeN
  repeat' split
  all_goals first | rfl | (exfalso; omega)
set_option maxRecDepth 100000 in
set_option maxHeartbeats 4000000 in
theorem dec2 (n b0 b1 b2 b3 : Nat) (h1 : b1 < 256) (h2 : b2 < 256) (h3 : b3 < 256) (hb : 194 ≤ b0 ∧ b0 ≤ 223) :
    (2 ≤ n ∧ (128 ≤ b1 ∧ b1 ≤ 191) → decodeN n b0 b1 b2 b3 = (b0 % 32 * 64 + b1 % 64, 2)) ∧ (¬ (2 ≤ n ∧ (128 ≤ b1 ∧ b1 ≤ 191)) → decodeN n b0 b1 b2 b3 = (65533, 1)) := by
  constructor <;> intro h <;> unfold decodeN <;> repeat' split
  all_goals first | rfl | (exfalso; omega)
set_option maxRecDepth 100000 in
set_option maxHeartbeats 4000000 in
theorem dec3 (n b0 b1 b2 b3 lo hi : Nat) (h1 : b1 < 256) (h2 : b2 < 256) (h3 : b3 < 256) (hb : 224 ≤ b0 ∧ b0 ≤ 239) (hlo : lo = if b0 = 224 then 160 else 128) (hhi : hi = if b0 = 237 then 159 else 191) :
    (3 ≤ n ∧ (lo ≤ b1 ∧ b1 ≤ hi) ∧ (128 ≤ b2 ∧ b2 ≤ 191) → decodeN n b0 b1 b2 b3 = (b0 % 16 * 4096 + b1 % 64 * 64 + b2 % 64, 3)) ∧ (¬ (3 ≤ n ∧ (lo ≤ b1 ∧ b1 ≤ hi) ∧ (128 ≤ b2 ∧ b2 ≤ 191)) → decodeN n b0 b1 b2 b3 = (65533, 1)) := by
  split at hlo <;> split at hhi <;> subst hlo <;> subst hhi <;> constructor <;> intro h <;> unfold decodeN <;> repeat' split
  all_goals first | rfl | (exfalso; omega)
set_option maxRecDepth 100000 in
set_option maxHeartbeats 8000000 in
theorem dec4 (n b0 b1 b2 b3 lo hi : Nat) (h1 : b1 < 256) (h2 : b2 < 256) (h3 : b3 < 256) (hb : 240 ≤ b0 ∧ b0 ≤ 244) (hlo : lo = if b0 = 240 then 144 else 128) (hhi : hi = if b0 = 244 then 143 else 191) :
    (4 ≤ n ∧ (lo ≤ b1 ∧ b1 ≤ hi) ∧ (128 ≤ b2 ∧ b2 ≤ 191) ∧ (128 ≤ b3 ∧ b3 ≤ 191) → decodeN n b0 b1 b2 b3 = (b0 % 8 * 262144 + b1 % 64 * 4096 + b2 % 64 * 64 + b3 % 64, 4)) ∧ (¬ (4 ≤ n ∧ (lo ≤ b1 ∧ b1 ≤ hi) ∧ (128 ≤ b2 ∧ b2 ≤ 191) ∧ (128 ≤ b3 ∧ b3 ≤ 191)) → decodeN n b0 b1 b2 b3 = (65533, 1)) := by
  split at hlo <;> split at hhi <;> subst hlo <;> subst hhi <;> constructor <;> intro h <;> unfold decodeN <;> repeat' split
  all_goals first | rfl | (exfalso; omega)

theorem ok2 (b0 b1 b2 b3 : Nat) (hb : 194 ≤ b0 ∧ b0 ≤ 223) : OkN 2 b0 b1 b2 b3 ↔ (128 ≤ b1 ∧ b1 ≤ 191) := by
  unfold OkN
  rw [laN_one, if_neg (by omega), if_neg (by omega), if_neg (by omega), if_neg (by omega)]
  omega
theorem ok3 (b0 b1 b2 b3 : Nat) (hb : 224 ≤ b0 ∧ b0 ≤ 239) : OkN 3 b0 b1 b2 b3 ↔ (((if b0 = 224 then 160 else 128) ≤ b1 ∧ b1 ≤ (if b0 = 237 then 159 else 191)) ∧ (128 ≤ b2 ∧ b2 ≤ 191)) := by
  unfold OkN
  rw [laN_one, laN_rest (by decide), if_neg (show ¬ b0 = 240 by omega), if_neg (show ¬ b0 = 244 by omega)]
  generalize (if b0 = 224 then 160 else 128) = lo
  generalize (if b0 = 237 then 159 else 191) = hi
  omega
theorem ok4 (b0 b1 b2 b3 : Nat) (hb : 240 ≤ b0 ∧ b0 ≤ 244) : OkN 4 b0 b1 b2 b3 ↔ (((if b0 = 240 then 144 else 128) ≤ b1 ∧ b1 ≤ (if b0 = 244 then 143 else 191)) ∧ (128 ≤ b2 ∧ b2 ≤ 191) ∧ (128 ≤ b3 ∧ b3 ≤ 191)) := by
  unfold OkN
  rw [laN_one, laN_rest (by decide), laN_rest (by decide), if_neg (show ¬ b0 = 224 by omega), if_neg (show ¬ b0 = 237 by omega)]
  generalize (if b0 = 240 then 144 else 128) = lo
  generalize (if b0 = 244 then 143 else 191) = hi
  omega
theorem dec_none (n b0 b1 b2 b3 : Nat) (hn : 1 ≤ n) (h0 : b0 < 256) (h1 : b1 < 256) (h2 : b2 < 256) (h3 : b3 < 256) (h : cwN n b0 b1 b2 b3 = 0) : decodeN n b0 b1 b2 b3 = (65533, 1) := by
  unfold cwN at h
  rcases sz_cls b0 with ⟨hb, hs⟩ | ⟨hb, hs⟩ | ⟨hb, hs⟩ | ⟨hb, hs⟩ | ⟨hb, hs⟩ <;> rw [hs] at h
  · exact absurd h (by rw [if_pos ⟨hn, fun e => absurd e (by omega), fun e => absurd e (by omega), fun e => absurd e (by omega)⟩]; decide)
  · exact dec0 n b0 b1 b2 b3 h0 hb
  · refine (dec2 n b0 b1 b2 b3 h1 h2 h3 hb).2 (fun e => ?_)
    rw [if_pos ⟨e.1, (ok2 b0 b1 b2 b3 hb).2 e.2⟩] at h
    cases h
  · refine (dec3 n b0 b1 b2 b3 _ _ h1 h2 h3 hb rfl rfl).2 (fun e => ?_)
    rw [if_pos ⟨e.1, (ok3 b0 b1 b2 b3 hb).2 e.2⟩] at h
    cases h
  · refine (dec4 n b0 b1 b2 b3 _ _ h1 h2 h3 hb rfl rfl).2 (fun e => ?_)
    rw [if_pos ⟨e.1, (ok4 b0 b1 b2 b3 hb).2 e.2⟩] at h
    cases h
set_option maxRecDepth 100000 in
set_option maxHeartbeats 4000000 in
theorem enc2 (b0 b1 : Nat) (hb : 194 ≤ b0 ∧ b0 ≤ 223) (h1 : 128 ≤ b1 ∧ b1 ≤ 191) : encodeRuneZ ((b0 % 32 * 64 + b1 % 64 : Nat) : Int) = [(b0 : Int), b1] := by
  rw [encodeRuneZ_two (by omega) (by omega)]
  congr 1
  · omega
  · congr 1
    omega
set_option maxRecDepth 100000 in
set_option maxHeartbeats 4000000 in
theorem enc3 (b0 b1 b2 : Nat) (hb : 224 ≤ b0 ∧ b0 ≤ 239) (h1 : (if b0 = 224 then 160 else 128) ≤ b1 ∧ b1 ≤ (if b0 = 237 then 159 else 191)) (h2 : 128 ≤ b2 ∧ b2 ≤ 191) : encodeRuneZ ((b0 % 16 * 4096 + b1 % 64 * 64 + b2 % 64 : Nat) : Int) = [(b0 : Int), b1, b2] := by
  have h1' : 128 ≤ b1 ∧ b1 ≤ 191 ∧ (b0 = 224 → 160 ≤ b1) ∧ (b0 = 237 → b1 ≤ 159) := by
    repeat' split at h1
    all_goals omega
  clear h1
  rw [encodeRuneZ_three (by omega)]
  congr 1
  · omega
  · congr 1
    · omega
    · congr 1
      omega
set_option maxRecDepth 100000 in
set_option maxHeartbeats 4000000 in
theorem enc4 (b0 b1 b2 b3 : Nat) (hb : 240 ≤ b0 ∧ b0 ≤ 244) (h1 : (if b0 = 240 then 144 else 128) ≤ b1 ∧ b1 ≤ (if b0 = 244 then 143 else 191)) (h2 : 128 ≤ b2 ∧ b2 ≤ 191) (h3 : 128 ≤ b3 ∧ b3 ≤ 191) : encodeRuneZ ((b0 % 8 * 262144 + b1 % 64 * 4096 + b2 % 64 * 64 + b3 % 64 : Nat) : Int) = [(b0 : Int), b1, b2, b3] := by
  have h1' : 128 ≤ b1 ∧ b1 ≤ 191 ∧ (b0 = 240 → 144 ≤ b1) ∧ (b0 = 244 → b1 ≤ 143) := by
    repeat' split at h1
    all_goals omega
  clear h1
  rw [encodeRuneZ_four (by omega) (by omega)]
  congr 1
  · omega
  · congr 1
    · omega
    · congr 1
      · omega
      · congr 1
        omega
theorem dec_some (n b0 b1 b2 b3 : Nat) (h0 : b0 < 256) (h1 : b1 < 256) (h2 : b2 < 256) (h3 : b3 < 256) (h : cwN n b0 b1 b2 b3 ≠ 0) : (decodeN n b0 b1 b2 b3).2 = cwN n b0 b1 b2 b3 ∧ encodeRuneZ (decodeN n b0 b1 b2 b3).1 = [(b0 : Int), b1, b2, b3].take (cwN n b0 b1 b2 b3) := by
  unfold cwN at h ⊢
  rcases sz_cls b0 with ⟨hb, hs⟩ | ⟨hb, hs⟩ | ⟨hb, hs⟩ | ⟨hb, hs⟩ | ⟨hb, hs⟩ <;> rw [hs] at h ⊢ <;> split at h <;> first | exact absurd rfl h | skip
  · rename_i e
    rw [if_pos e, dec1 n b0 b1 b2 b3 hb]
    exact ⟨rfl, encodeRuneZ_one (by omega) (by omega)⟩
  · rename_i e
    have e2 := (ok2 b0 b1 b2 b3 hb).1 e.2
    rw [if_pos e, (dec2 n b0 b1 b2 b3 h1 h2 h3 hb).1 ⟨e.1, e2⟩]
    exact ⟨rfl, enc2 b0 b1 hb e2⟩
  · rename_i e
    have e2 := (ok3 b0 b1 b2 b3 hb).1 e.2
    rw [if_pos e, (dec3 n b0 b1 b2 b3 _ _ h1 h2 h3 hb rfl rfl).1 ⟨e.1, e2⟩]
    exact ⟨rfl, enc3 b0 b1 b2 hb e2.1 e2.2⟩
  · rename_i e
    have e2 := (ok4 b0 b1 b2 b3 hb).1 e.2
    rw [if_pos e, (dec4 n b0 b1 b2 b3 _ _ h1 h2 h3 hb rfl rfl).1 ⟨e.1, e2⟩]
    exact ⟨rfl, enc4 b0 b1 b2 b3 hb e2.1 e2.2.1 e2.2.2⟩
end Go.Proofs.YtomeoklhjdgaoaaDoor
