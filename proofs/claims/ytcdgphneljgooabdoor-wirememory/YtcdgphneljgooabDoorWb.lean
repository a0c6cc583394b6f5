/-
  What Number, Row, Raw, Text of package wire's Writer do, each told of cells; which numbers are sizes.
-/
import Derived.Test.YtcdgphneljgooabDoorWa
import Derived.Lib.AppendStr
import Derived.Lib.AppendZeros
namespace Go.Proofs.YtcdgphneljgooabDoor
open Go.RowKit

/-- The package's table of sizes lies in its block. -/
def Siz (w : World) : Prop := w.cell? ⟨0, 0, none⟩ = some (.int .i64 1) ∧ w.cell? ⟨0, 1, none⟩ = some (.int .i64 2) ∧ w.cell? ⟨0, 2, none⟩ = some (.int .i64 4) ∧ w.cell? ⟨0, 3, none⟩ = some (.int .i64 8)

def isSz (n : Int) : Bool := n == 1 || n == 2 || n == 4 || n == 8

theorem isSz_cases {n : Int} (h : isSz n = true) : n = 1 ∨ n = 2 ∨ n = 4 ∨ n = 8 := by
  simp [isSz] at h; omega

set_option maxHeartbeats 400000 in
theorem isSize_any (n : Int) (w : World) (hs : Siz w) :
    Calls Tryd.prog 45 #[.int .i64 n] w fun e w' => e = .returned (.bool (isSz n)) ∧ w' = w := by
  obtain ⟨h0, h1, h2, h3⟩ := hs
  have i0 : ∀ w, (Instr.index 97 (.agg #[.int .i64 1, .int .i64 2, .int .i64 4, .int .i64 8]) (.int .i64 0)).run Tryd.prog w = .ok (.int .i64 1) w := fun _ => by kernel_rfl
  have i1 : ∀ w, (Instr.index 97 (.agg #[.int .i64 1, .int .i64 2, .int .i64 4, .int .i64 8]) (.int .i64 1)).run Tryd.prog w = .ok (.int .i64 2) w := fun _ => by kernel_rfl
  have i2 : ∀ w, (Instr.index 97 (.agg #[.int .i64 1, .int .i64 2, .int .i64 4, .int .i64 8]) (.int .i64 2)).run Tryd.prog w = .ok (.int .i64 4) w := fun _ => by kernel_rfl
  have i3 : ∀ w, (Instr.index 97 (.agg #[.int .i64 1, .int .i64 2, .int .i64 4, .int .i64 8]) (.int .i64 3)).run Tryd.prog w = .ok (.int .i64 8) w := fun _ => by kernel_rfl
  go_enter Tryd.func45, Tryd.ntmps45
  go_wp2
  go_loop [6] (fun i => ∃ k : Nat, k ≤ 4 ∧ i = .int .i64 k ∧ (0 < k → n ≠ 1) ∧ (1 < k → n ≠ 2) ∧ (2 < k → n ≠ 4) ∧ (3 < k → n ≠ 8)) (fun i => 4 - (intOf i).toNat)
  case atStart => exact ⟨0, by omega, rfl, by omega, by omega, by omega, by omega⟩
  case round =>
    obtain ⟨k, hk, rfl, g1, g2, g3, g4⟩ := hrel
    have hkc : k = 0 ∨ k = 1 ∨ k = 2 ∨ k = 3 ∨ k = 4 := by omega
    rcases hkc with rfl | rfl | rfl | rfl | rfl
    · by_cases hn : n = 1
      · subst hn; go_wp2; go_ret; exact ⟨rfl, rfl⟩
      · have hb : (n == 1) = false := by simp [hn]
        go_wp2
        go_round
        case rel => exact ⟨1, by omega, rfl, by omega, by omega, by omega, by omega⟩
        case measure => simp [intOf]
    · by_cases hn : n = 2
      · subst hn; go_wp2; go_ret; exact ⟨rfl, rfl⟩
      · have hb : (n == 2) = false := by simp [hn]
        go_wp2
        go_round
        case rel => exact ⟨2, by omega, rfl, by omega, by omega, by omega, by omega⟩
        case measure => simp [intOf]
    · by_cases hn : n = 4
      · subst hn; go_wp2; go_ret; exact ⟨rfl, rfl⟩
      · have hb : (n == 4) = false := by simp [hn]
        go_wp2
        go_round
        case rel => exact ⟨3, by omega, rfl, by omega, by omega, by omega, by omega⟩
        case measure => simp [intOf]
    · by_cases hn : n = 8
      · subst hn; go_wp2; go_ret; exact ⟨rfl, rfl⟩
      · have hb : (n == 8) = false := by simp [hn]
        go_wp2
        go_round
        case rel => exact ⟨4, by omega, rfl, by omega, by omega, by omega, by omega⟩
        case measure => simp [intOf]
    · have hz : isSz n = false := by simp [isSz]; omega
      clear g1 g2 g3 g4
      go_wp2
      go_ret
      exact ⟨rfl, rfl⟩

/-- An int that has room in so many bytes leaves nothing behind the shift. -/
theorem shr_room (m k : Nat) (h1 : (m : Int) < 256 ^ k) : (m : Int) / 2 ^ (8 * k) = 0 := by
  apply Int.ediv_eq_zero_of_lt (by omega)
  have e : (2 : Int) ^ (8 * k) = 256 ^ k := by rw [Int.pow_mul]; rfl
  rw [e]; exact h1

set_option maxHeartbeats 400000 in
theorem wnumber_ok (b : Nat) (v : Value) (bs : List UInt8) (n bytes : Int) (w : World) (hs : Siz w) (hw : WrAt w b v bs) (hl : bs.length + 8 ≤ 1000000000000) (hz : isSz bytes = true) (h0 : 0 ≤ n) (hx : n ≤ 9223372036854775807) (h1 : n < 256 ^ bytes.toNat) :
    Calls Tryd.prog 15 #[.pointer (some ⟨b, 0, none⟩), .int .i64 n, .int .i64 bytes] w fun e w' => e = .returned (.int .i64 0) ∧ ∃ v', WrAt w' b v' (bs ++ le n.toNat bytes.toNat) ∧ Kept (wset b v) w w' ∧ RowMoved w v v' := by
  obtain ⟨m, rfl⟩ := Int.eq_ofNat_of_zero_le h0
  have hc := isSz_cases hz
  obtain ⟨k, rfl⟩ : ∃ k : Nat, bytes = k := ⟨bytes.toNat, by omega⟩
  have hk : k ≤ 8 := by omega
  simp only [Int.toNat_natCast] at h1 ⊢
  have hsh := shr_room m k h1
  have hwr : IntKind.u64.wrap (m : Int) = (m : Int) := by rw [IntKind.wrap_u64]; omega
  go_enter Tryd.func15, Tryd.ntmps15
  go_wp2_with fail
  refine (isSize_any _ _ hs).mono ?_
  rintro e w' ⟨rfl, rfl⟩
  rw [hz]
  go_wp2_with fail
  refine (wfixed_any b v bs m k _ hk hw hl).mono ?_
  rintro e w1 ⟨rfl, v1, q1, q2, q3⟩
  go_wp2
  go_ret
  exact ⟨rfl, v1, q1, q2, q3⟩

end Go.Proofs.YtcdgphneljgooabDoor
