/-
  How far a text is the beginning of one of a number: textEnd.
-/
import Derived.Test.YtdmjfmipalifpaaGreatDoorPxN
import Derived.Test.YtdmjfmipalifpaaGreatDoorShf
import Derived.Test.YtdmjfmipalifpaaGreatDoorBase
namespace Go.Proofs.YtdmjfmipalifpaaGreatDoor
open Go.RowKit

theorem toList_at (s : ByteArray) (k : Nat) (h : k < s.size) : s.data.toList[k]? = some s[k] := by
  rw [List.getElem?_eq_getElem (by rw [← Lib.size_eq]; exact h)]
  rfl
theorem pre_zero (l : List UInt8) : Lib.hasPrefix l [48] = decide (l.head? = some 48) := by
  cases l with
  | nil => rfl
  | cons b r =>
    unfold Lib.hasPrefix
    rw [Bool.eq_iff_iff]
    simp only [List.isPrefixOf, Bool.and_true, beq_iff_eq, List.head?_cons, Option.some.injEq, decide_eq_true_eq]
    exact eq_comm

set_option maxHeartbeats 800000 in
theorem textEnd_any (s : ByteArray) (w : World) (hs : s.size ≤ 9223372036854775807) :
    Calls Tryz.prog 36 #[.string s] w fun e w' => e = .returned (.int .i64 ((tE s.data.toList : Nat) : Int)) ∧ w' = w := by
  have hp := fun w => Tryz.strings_HasPrefix s ⟨#[48]⟩ w
  rw [show ((⟨#[48]⟩ : ByteArray).data.toList) = [48] from rfl, pre_zero] at hp
  by_cases h0 : s.data.toList.head? = some 48
  · rw [decide_eq_true h0] at hp
    rw [tE_zero h0]
    clear h0
    go_enter Tryz.func36, Tryz.ntmps36
    go_wp2_with fail
    refine (hp _).mono ?_
    rintro e w1 ⟨rfl, rfl⟩
    go_wp2
    go_ret
    exact ⟨rfl, rfl⟩
  · rw [decide_eq_false h0] at hp
    have HT : Hid (∀ n, Pre s.data.toList n → tE s.data.toList = n) := fun n hn => tE_pre h0 hn
    generalize tE s.data.toList = T at *
    clear h0
    go_enter Tryz.func36, Tryz.ntmps36
    go_wp2_with fail
    refine (hp _).mono ?_
    rintro e w1 ⟨rfl, rfl⟩
    go_wp2
    go_loop [3] (fun i => ∃ k : Nat, k ≤ s.size ∧ i = .int .i64 k ∧ Hid (Ds (s.data.toList.take k))) (fun i => s.size - (intOf i).toNat)
    case atStart => exact ⟨0, Nat.zero_le _, rfl, Ds.nil⟩
    case round =>
      obtain ⟨k, hk, rfl, HD⟩ := hrel
      by_cases hlt : k < s.size
      · have hat := toList_at s k hlt
        have HA := show Hid _ from hat
        clear hat
        by_cases hd : isD s[k] = true
        · have HN : Hid (Ds (s.data.toList.take (k + 1))) := by
            show Ds _
            rw [take_snoc s k hlt]
            exact HD.out.append (fun x hx => by rw [List.mem_singleton] at hx; rw [hx]; exact hd)
          obtain ⟨d1, d2⟩ := (isD_iff _).1 hd
          clear hd HD HA
          go_wp2
          go_round
          case rel => exact ⟨k + 1, by omega, by go_num, HN⟩
          case measure => simp [intOf]; omega
        · have hT : T = k := HT.out k ⟨by rw [← Lib.size_eq]; omega, HD.out, fun b hb => by rw [HA.out] at hb; cases hb; simpa using hd⟩
          subst hT
          have hd' : ¬ (48 ≤ s[T].toNat ∧ s[T].toNat ≤ 57) := fun h => hd ((isD_iff _).2 h)
          clear hd HD HA HT
          by_cases d1 : 48 ≤ s[T].toNat
          · have d2 : ¬ s[T].toNat ≤ 57 := fun h => hd' ⟨d1, h⟩
            clear hd'
            go_wp2
            go_ret
            exact ⟨rfl, rfl⟩
          · clear hd'
            go_wp2
            go_ret
            exact ⟨rfl, rfl⟩
      · have hT : T = k := HT.out k ⟨by rw [← Lib.size_eq]; omega, HD.out, fun b hb => by rw [List.getElem?_eq_none (by rw [← Lib.size_eq]; omega)] at hb; cases hb⟩
        subst hT
        clear HD HT
        go_wp2
        go_ret
        exact ⟨rfl, rfl⟩
end Go.Proofs.YtdmjfmipalifpaaGreatDoor
