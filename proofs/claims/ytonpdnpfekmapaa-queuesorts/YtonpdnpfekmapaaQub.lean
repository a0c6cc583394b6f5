/-
  Where an element belongs: among the elements of a run, and among the runs.
-/
import Derived.Test.YtonpdnpfekmapaaQua
namespace Go.Proofs.Ytonpdnpfekmapaa
open Go.RowKit

/-- A place was answered, and whether it stands there. -/
def BsR (p : Nat) (r : Ending) : Prop := ∃ f, r = .returned (.tuple #[nV p, .bool f])
theorem BsR.mk (p : Nat) (f : Bool) : BsR p (.returned (.tuple #[nV p, .bool f])) := ⟨f, rfl⟩

set_option maxHeartbeats 2000000 in
set_option maxRecDepth 100000 in
theorem bsE_any (b n cap : Nat) (ev : Nat → Value) (e : El) (c : Nat → Int) (w : World) (hc : ∀ t, t < n → w.cell? ⟨b, t, none⟩ = some (ev t))
    (H : ∀ t, t < n → ∀ m, Calls Try.prog 107 #[ev t, pV e] (w.drewN m) fun r w' => r = .returned (.int .i64 (c t)) ∧ ∃ k, w' = (w.drewN m).drewN k)
    (p : Nat) (hp : p ≤ n) (h1 : ∀ t, t < p → c t < 0) (h2 : ∀ t, p ≤ t → t < n → 0 ≤ c t) (hn : n ≤ 1099511627776) :
    Calls Try.prog 106 #[.slice (some ⟨b, 0, none⟩) n cap, pV e, .func (.func 107) #[] #[]] w fun r w' => BsR p r ∧ ∃ k, w' = w.drewN k := by
  have HC := show Hid _ from hc
  have HH := show Hid _ from H
  have H1 := show Hid _ from h1
  have H2 := show Hid _ from h2
  clear hc H h1 h2
  go_enter Try.func106, Try.ntmps106
  go_wp2_with fail
  go_loopw [9, 10] (fun lv hv wr => ∃ lo hi : Nat, lv = .int .i64 (lo : Int) ∧ hv = .int .i64 (hi : Int) ∧ lo ≤ p ∧ p ≤ hi ∧ hi ≤ n ∧ ∃ k, wr = w.drewN k) (fun lv hv _ => (intOf hv - intOf lv).toNat)
  case atStart => exact ⟨0, n, rfl, rfl, Nat.zero_le _, hp, Nat.le_refl _, 0, by simp [World.drewN_zero]⟩
  case round =>
    obtain ⟨lo, hi, rfl, rfl, hlo, hhi, hhn, k, rfl⟩ := hrel
    by_cases hlt : lo < hi
    · obtain ⟨m, hm⟩ : ∃ m, m = (lo + hi) / 2 := ⟨_, rfl⟩
      have hmn : m < n := by omega
      have cm : (w.drewN k).cell? ⟨b, m, none⟩ = some (ev m) := HC.out m hmn
      have HM : Hid (Unit → _) := fun (_ : Unit) => HH.out m hmn k
      have hm1 : ((lo : Int) + (hi : Int)) / 2 = (m : Int) := by omega
      have hm2 : IntKind.i64.wrap (m : Int) = (m : Int) := by rw [IntKind.wrap_i64]; omega
      have hm3 : (m : Int) < (n : Int) := by omega
      have hb1 : lo ≤ m ∧ m < hi := by omega
      clear hm
      by_cases hy : c m < 0
      · have hmp : m < p := by
          rcases Nat.lt_or_ge m p with e1 | e1
          · exact e1
          · have := H2.out m e1 hmn
            omega
        generalize c m = cc at *
        go_wp2_with fail
        refine (HM.out ()).mono ?_
        rintro r w1 ⟨rfl, k1, rfl⟩
        clear HM cm
        go_wp2
        go_roundw
        case rel => exact ⟨m + 1, hi, by go_num, rfl, by omega, hhi, hhn, k + k1, rfl⟩
        case measure => simp [intOf]; omega
      · have hmp : p ≤ m := by
          rcases Nat.lt_or_ge m p with e1 | e1
          · exact absurd (H1.out m e1) hy
          · exact e1
        generalize c m = cc at *
        go_wp2_with fail
        refine (HM.out ()).mono ?_
        rintro r w1 ⟨rfl, k1, rfl⟩
        clear HM cm
        go_wp2
        go_roundw
        case rel => exact ⟨lo, m, rfl, rfl, hlo, hmp, by omega, k + k1, rfl⟩
        case measure => simp [intOf]; omega
    · obtain rfl : lo = p := by omega
      by_cases hin : lo < n
      · have cm : (w.drewN k).cell? ⟨b, lo, none⟩ = some (ev lo) := HC.out lo hin
        have HM : Hid (Unit → _) := fun (_ : Unit) => HH.out lo hin k
        have hin' : (lo : Int) < (n : Int) := by omega
        generalize c lo = cc at *
        go_wp2_with fail
        refine (HM.out ()).mono ?_
        rintro r w1 ⟨rfl, k1, rfl⟩
        clear HM cm
        go_wp2
        go_ret2
        exact ⟨BsR.mk _ _, k + k1, rfl⟩
      · have hin' : ¬ (lo : Int) < (n : Int) := by omega
        go_wp2
        go_ret2
        exact ⟨BsR.mk _ _, k, rfl⟩

set_option maxHeartbeats 2000000 in
set_option maxRecDepth 100000 in
theorem bsR_any (b n cap : Nat) (ev : Nat → Value) (e : El) (c : Nat → Int) (w : World) (hc : ∀ t, t < n → w.cell? ⟨b, t, none⟩ = some (ev t))
    (H : ∀ t, t < n → ∀ m, Calls Try.prog 129 #[ev t, pV e] (w.drewN m) fun r w' => r = .returned (.int .i64 (c t)) ∧ ∃ k, w' = (w.drewN m).drewN k)
    (p : Nat) (hp : p ≤ n) (h1 : ∀ t, t < p → c t < 0) (h2 : ∀ t, p ≤ t → t < n → 0 ≤ c t) (hn : n ≤ 1099511627776) :
    Calls Try.prog 128 #[.slice (some ⟨b, 0, none⟩) n cap, pV e, .func (.func 129) #[] #[]] w fun r w' => BsR p r ∧ ∃ k, w' = w.drewN k := by
  have HC := show Hid _ from hc
  have HH := show Hid _ from H
  have H1 := show Hid _ from h1
  have H2 := show Hid _ from h2
  clear hc H h1 h2
  go_enter Try.func128, Try.ntmps128
  go_wp2_with fail
  go_loopw [9, 10] (fun lv hv wr => ∃ lo hi : Nat, lv = .int .i64 (lo : Int) ∧ hv = .int .i64 (hi : Int) ∧ lo ≤ p ∧ p ≤ hi ∧ hi ≤ n ∧ ∃ k, wr = w.drewN k) (fun lv hv _ => (intOf hv - intOf lv).toNat)
  case atStart => exact ⟨0, n, rfl, rfl, Nat.zero_le _, hp, Nat.le_refl _, 0, by simp [World.drewN_zero]⟩
  case round =>
    obtain ⟨lo, hi, rfl, rfl, hlo, hhi, hhn, k, rfl⟩ := hrel
    by_cases hlt : lo < hi
    · obtain ⟨m, hm⟩ : ∃ m, m = (lo + hi) / 2 := ⟨_, rfl⟩
      have hmn : m < n := by omega
      have cm : (w.drewN k).cell? ⟨b, m, none⟩ = some (ev m) := HC.out m hmn
      have HM : Hid (Unit → _) := fun (_ : Unit) => HH.out m hmn k
      have hm1 : ((lo : Int) + (hi : Int)) / 2 = (m : Int) := by omega
      have hm2 : IntKind.i64.wrap (m : Int) = (m : Int) := by rw [IntKind.wrap_i64]; omega
      have hm3 : (m : Int) < (n : Int) := by omega
      have hb1 : lo ≤ m ∧ m < hi := by omega
      clear hm
      by_cases hy : c m < 0
      · have hmp : m < p := by
          rcases Nat.lt_or_ge m p with e1 | e1
          · exact e1
          · have := H2.out m e1 hmn
            omega
        generalize c m = cc at *
        go_wp2_with fail
        refine (HM.out ()).mono ?_
        rintro r w1 ⟨rfl, k1, rfl⟩
        clear HM cm
        go_wp2
        go_roundw
        case rel => exact ⟨m + 1, hi, by go_num, rfl, by omega, hhi, hhn, k + k1, rfl⟩
        case measure => simp [intOf]; omega
      · have hmp : p ≤ m := by
          rcases Nat.lt_or_ge m p with e1 | e1
          · exact absurd (H1.out m e1) hy
          · exact e1
        generalize c m = cc at *
        go_wp2_with fail
        refine (HM.out ()).mono ?_
        rintro r w1 ⟨rfl, k1, rfl⟩
        clear HM cm
        go_wp2
        go_roundw
        case rel => exact ⟨lo, m, rfl, rfl, hlo, hmp, by omega, k + k1, rfl⟩
        case measure => simp [intOf]; omega
    · obtain rfl : lo = p := by omega
      by_cases hin : lo < n
      · have cm : (w.drewN k).cell? ⟨b, lo, none⟩ = some (ev lo) := HC.out lo hin
        have HM : Hid (Unit → _) := fun (_ : Unit) => HH.out lo hin k
        have hin' : (lo : Int) < (n : Int) := by omega
        generalize c lo = cc at *
        go_wp2_with fail
        refine (HM.out ()).mono ?_
        rintro r w1 ⟨rfl, k1, rfl⟩
        clear HM cm
        go_wp2
        go_ret2
        exact ⟨BsR.mk _ _, k + k1, rfl⟩
      · have hin' : ¬ (lo : Int) < (n : Int) := by omega
        go_wp2
        go_ret2
        exact ⟨BsR.mk _ _, k, rfl⟩
end Go.Proofs.Ytonpdnpfekmapaa
