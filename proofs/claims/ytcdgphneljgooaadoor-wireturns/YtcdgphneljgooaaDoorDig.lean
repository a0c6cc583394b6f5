/-
  The two digests: the package's and the document's.
-/
import Derived.Test.YtcdgphneljgooaaDoorRows
import Derived.Test.YtcdgphneljgooaaDoorBase
namespace Go.Proofs.YtcdgphneljgooaaDoor
open Go.RowKit

set_option maxHeartbeats 400000 in
theorem fnv_any (s : ByteArray) (w : World) (hs : s.size ≤ maxLen) :
    Calls Tryd.prog 10 #[.string s] w fun e w' => e = .returned (.int .u64 (fnvOf s.data.toList)) ∧ w' = w := by
  unfold maxLen at hs
  go_enter Tryd.func10, Tryd.ntmps10
  go_wp2
  go_loop [3, 7] (fun n i => ∃ k : Nat, k ≤ s.size ∧ i = .int .i64 k ∧ n = .int .u64 (fnvOf (s.data.toList.take k))) (fun _ i => s.size - (intOf i).toNat)
  case atStart => exact ⟨0, Nat.zero_le _, rfl, rfl⟩
  case round =>
    obtain ⟨k, hk, rfl, rfl⟩ := hrel
    by_cases hlt : k < s.size
    · have hts := take_snoc s k hlt
      have HS : Hid (fnvOf (s.data.toList.take (k + 1)) = fnvStep (fnvOf (s.data.toList.take k)) s[k]) := by rw [hts]; exact fnvOf_snoc _ _
      clear hts
      generalize fnvOf (s.data.toList.take k) = x at *
      go_wp2
      go_round
      case rel => exact ⟨k + 1, by omega, by go_num, by rw [HS.out]; rfl⟩
      case measure => simp [intOf]; omega
    · obtain rfl : k = s.size := by omega
      go_wp2
      go_ret
      exact ⟨ret_int (by rw [List.take_of_length_le (by rw [← Lib.size_eq]; omega)]), rfl⟩

set_option maxHeartbeats 400000 in
theorem refFnv_any (s : ByteArray) (w : World) (hs : s.size ≤ maxLen) :
    Calls Tryd.prog 11 #[.string s] w fun e w' => e = .returned (.int .u64 (fnvOf s.data.toList)) ∧ w' = w := by
  unfold maxLen at hs
  go_enter Tryd.func11, Tryd.ntmps11
  go_wp2
  go_loop [3, 4] (fun n i => ∃ k : Nat, k ≤ s.size ∧ i = .int .i64 k ∧ n = .int .u64 (fnvOf (s.data.toList.take k))) (fun _ i => s.size - (intOf i).toNat)
  case atStart => exact ⟨0, Nat.zero_le _, rfl, rfl⟩
  case round =>
    obtain ⟨k, hk, rfl, rfl⟩ := hrel
    by_cases hlt : k < s.size
    · have hts := take_snoc s k hlt
      have HS : Hid (fnvOf (s.data.toList.take (k + 1)) = fnvStep (fnvOf (s.data.toList.take k)) s[k]) := by rw [hts]; exact fnvOf_snoc _ _
      clear hts
      generalize fnvOf (s.data.toList.take k) = x at *
      go_wp2
      go_round
      case rel => exact ⟨k + 1, by omega, by go_num, by rw [HS.out]; rfl⟩
      case measure => simp [intOf]; omega
    · obtain rfl : k = s.size := by omega
      go_wp2
      go_ret
      exact ⟨ret_int (by rw [List.take_of_length_le (by rw [← Lib.size_eq]; omega)]), rfl⟩

end Go.Proofs.YtcdgphneljgooaaDoor
