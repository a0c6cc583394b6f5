/-
  Numbers of layer 13: heaps of places, rows of tokens on their way, which vocabularies are right.
-/
import Derived.WalkKit
namespace Go.Proofs.Ytdponkpgokncdaa

/-- What stands at a place. -/
abbrev gI (L : List Int) (i : Nat) : Int := L.getD i 0
abbrev gT (T : List (List UInt8)) (i : Nat) : List UInt8 := T.getD i []
/-- Two places change what they hold. -/
def swp (L : List Int) (i j : Nat) : List Int := (L.set i (gI L j)).set j (gI L i)
theorem swp_len (L : List Int) (i j : Nat) : (swp L i j).length = L.length := by simp [swp]
/-- What stands at place i is brought up to where it belongs. -/
def upF : Nat → List Int → Nat → List Int
  | 0, L, _ => L
  | n + 1, L, i => if i = 0 then L else if gI L ((i - 1) / 2) ≤ gI L i then L else upF n (swp L ((i - 1) / 2) i) ((i - 1) / 2)
theorem upF_len : ∀ (n : Nat) (L : List Int) (i : Nat), (upF n L i).length = L.length
  | 0, _, _ => rfl
  | n + 1, L, i => by
    unfold upF
    split
    · rfl
    · split
      · rfl
      · rw [upF_len n, swp_len]
def putF (L : List Int) (x : Int) : List Int := upF L.length (L ++ [x]) L.length
theorem putF_len (L : List Int) (x : Int) : (putF L x).length = L.length + 1 := by simp [putF, upF_len]
/-- The lesser child of a place. -/
def chd (L : List Int) (i : Nat) : Nat := if 2 * i + 1 + 1 < L.length ∧ gI L (2 * i + 1 + 1) < gI L (2 * i + 1) then 2 * i + 1 + 1 else 2 * i + 1
theorem chd_gt (L : List Int) (i : Nat) : i < chd L i := by unfold chd; split <;> omega
/-- What stands at place i is brought down to where it belongs. -/
def dnF : Nat → List Int → Nat → List Int
  | 0, L, _ => L
  | n + 1, L, i => if L.length ≤ chd L i then L else if gI L i ≤ gI L (chd L i) then L else dnF n (swp L i (chd L i)) (chd L i)
theorem dnF_len : ∀ (n : Nat) (L : List Int) (i : Nat), (dnF n L i).length = L.length
  | 0, _, _ => rfl
  | n + 1, L, i => by
    unfold dnF
    split
    · rfl
    · split
      · rfl
      · rw [dnF_len n, swp_len]
/-- What is left behind the least was taken. -/
def tkF (L : List Int) : List Int := dnF L.length ((L.set 0 (gI L (L.length - 1))).take (L.length - 1)) 0
theorem tkF_len (L : List Int) : (tkF L).length = L.length - 1 := by simp [tkF, dnF_len]

/-- A merge. -/
structure Mg where
  l : Int
  r : Int
  o : Int
deriving DecidableEq
abbrev gM (M : List Mg) (i : Nat) : Mg := M.getD i ⟨0, 0, 0⟩
/-- The rank of a pair among the first merges. -/
def rkT (M : List Mg) : Nat → Int → Int → Option Nat
  | 0, _, _ => none
  | k + 1, a, b => if (gM M k).l = a ∧ (gM M k).r = b then some k else rkT M k a b
theorem rkT_lt (M : List Mg) : ∀ (k : Nat) (a b : Int) (i : Nat), rkT M k a b = some i → i < k
  | 0, _, _, _, h => by simp [rkT] at h
  | k + 1, a, b, i, h => by
    unfold rkT at h
    split at h
    · simp at h; omega
    · have := rkT_lt M k a b i h; omega
abbrev rkA (M : List Mg) (a b : Int) : Option Nat := rkT M M.length a b
/-- The token of a byte alone among the first texts; 0: there is none. -/
def alT (T : List (List UInt8)) : Nat → Nat → Int
  | 0, _ => 0
  | k + 1, b => if (gT T k).length = 1 ∧ ((gT T k).getD 0 0).toNat = b then (k : Int) else alT T k b

/-- A row of tokens on its way: tokens, what stands ahead, what is next, what waits. -/
structure Ro where
  t : List Int
  a : List Int
  n : List Int
  w : List (List Int)
abbrev gW (W : List (List Int)) (i : Nat) : List Int := W.getD i []
def nteF (M : List Mg) (R : Ro) (p : Nat) : Ro :=
  match rkA M (gI R.t p) (gI R.t (gI R.n p).toNat) with
  | some i => { R with w := R.w.set i (putF (gW R.w i) (p : Int)) }
  | none => R
/-- The first place at which a rank's merge can be applied, and what still waits. -/
def fstF (M : List Mg) (i : Nat) : Nat → Ro → Option Nat × Ro
  | 0, R => (none, R)
  | n + 1, R => match gW R.w i with
    | [] => (none, R)
    | x :: _ =>
      let R' : Ro := { R with w := R.w.set i (tkF (gW R.w i)) }
      if gI R.t x.toNat = (gM M i).l ∧ gI R.t (gI R.n x.toNat).toNat = (gM M i).r then (some x.toNat, R') else fstF M i n R'
def appF (M : List Mg) (R : Ro) (i p : Nat) : Ro :=
  let q := (gI R.n p).toNat
  let n' := R.n.set p (gI R.n q)
  let R1 : Ro := { t := (R.t.set p (gM M i).o).set q 0, n := n', a := R.a.set (gI n' p).toNat (p : Int), w := R.w }
  nteF M (nteF M R1 (gI R1.a p).toNat) p
end Go.Proofs.Ytdponkpgokncdaa
