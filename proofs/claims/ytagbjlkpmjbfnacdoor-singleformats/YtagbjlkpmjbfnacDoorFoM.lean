/-
  Halves and brains as singles, and back, by whole numbers.
-/
import Derived.Test.YtagbjlkpmjbfnacDoorFoN
namespace Go.Proofs.YtagbjlkpmjbfnacDoor
open Ieee

/-- Bits of a sign, an exponent and a fraction. -/
theorem mk_parts (s : Bool) (E F : Nat) (hE : E < 256) (hF : F < 8388608) :
    single.word s (E * 8388608 + F) < 4294967296 ∧ bE (single.word s (E * 8388608 + F)) = E ∧ bF (single.word s (E * 8388608 + F)) = F ∧ bN (single.word s (E * 8388608 + F)) = s := by
  rw [single_word]
  unfold bE bF bN
  cases s
  · simp only [Bool.false_eq_true, if_false, Nat.zero_add]
    refine ⟨by omega, by omega, by omega, decide_eq_false (by omega)⟩
  · simp only [if_true]
    refine ⟨by omega, by omega, by omega, decide_eq_true (by omega)⟩

/-- A number that a single has just so. -/
theorem exact_read (s : Bool) (m : Nat) (e : Int) (h0 : m ≠ 0) (hm : m.log2 ≤ 23) (h1 : 1 ≤ e + m.log2 + 127) (h2 : e + m.log2 + 127 ≤ 254) :
    ∃ k : Nat, single.read (single.nearest s m e) = .number s (m * 2 ^ k) (e - k) := by
  obtain ⟨k, hk⟩ : ∃ k, m.log2 + k = 23 := ⟨23 - m.log2, by omega⟩
  refine ⟨k, ?_⟩
  obtain ⟨E, hE⟩ : ∃ E : Nat, (E : Int) = e + m.log2 + 127 := ⟨(e + m.log2 + 127).toNat, by omega⟩
  have hl := log2_mul_pow h0 k
  have hlo := log2_lo (n := m * 2 ^ k) (Nat.mul_ne_zero h0 (by have := Nat.two_pow_pos k; omega))
  have hhi := log2_hi (m * 2 ^ k)
  rw [hl, hk] at hlo hhi
  obtain ⟨F, hF⟩ : ∃ F, m * 2 ^ k = 8388608 + F := ⟨m * 2 ^ k - 8388608, by omega⟩
  have hF2 : F < 8388608 := by omega
  have hr : rung single m e = E * 8388608 + F := by
    rw [← rung_shift single m k e, hF]
    have hh := rung_high single E F (by omega) (by rw [single_binade]; exact hF2) (by rw [single_binade, single_inf]; omega)
    rw [single_binade, single_least] at hh
    rw [show e - (k : Int) = -149 + ((E - 1 : Nat) : Int) by omega]
    exact hh
  rw [nearest_rung, hr]
  obtain ⟨p1, p2, p3, p4⟩ := mk_parts s E F (by omega) hF2
  rw [read_fin _ p1 (by omega), p4]
  unfold mt ex
  rw [p2, p3, if_neg (by omega), if_neg (by omega), if_neg (by omega), if_neg (by omega), hF]
  congr 1
  omega

theorem half_sign (h : Nat) (hh : h < 65536) : (h / 32768 % 2 == 1) = decide (32768 ≤ h) := by
  by_cases g : 32768 ≤ h
  · rw [show h / 32768 = 1 by omega, decide_eq_true g]; rfl
  · rw [show h / 32768 = 0 by omega, decide_eq_false g]; rfl
theorem half_read (h : Nat) : half.read h = (if h % 32768 < 1024 then .number (h / 32768 % 2 == 1) (h % 32768) (-24)
    else if h % 32768 < 31744 then .number (h / 32768 % 2 == 1) (1024 + h % 32768 % 1024) (-24 + (h % 32768 / 1024 - 1 : Nat))
    else if h % 32768 = 31744 then .infinity (h / 32768 % 2 == 1) else .nan (h / 32768 % 2 == 1) (h % 32768 - 31744)) := by
  obtain ⟨c1, c2, c3, c4, c5⟩ := half_consts
  rw [read_rung, c1, c2, c3, c4]
theorem brain_read (h : Nat) : brain.read h = (if h % 32768 < 128 then .number (h / 32768 % 2 == 1) (h % 32768) (-133)
    else if h % 32768 < 32640 then .number (h / 32768 % 2 == 1) (128 + h % 32768 % 128) (-133 + (h % 32768 / 128 - 1 : Nat))
    else if h % 32768 = 32640 then .infinity (h / 32768 % 2 == 1) else .nan (h / 32768 % 2 == 1) (h % 32768 - 32640)) := by
  obtain ⟨c1, c2, c3, c4, c5⟩ := brain_consts
  rw [read_rung, c1, c2, c3, c4]

theorem noneB_single : noneOf single = 2143289344 := by unfold noneOf; rw [single_inf, single_binade]
theorem noneB_half : noneOf half = 32256 := by decide
theorem noneB_brain : noneOf brain = 32704 := by decide

theorem read_word_inf (s : Bool) : single.read (single.word s 2139095040) = .infinity s := by
  obtain ⟨p1, p2, p3, p4⟩ := mk_parts s 255 0 (by decide) (by decide)
  have := read_inf _ p1 p2 p3
  rw [p4] at this
  exact this
theorem read_word_zero (s : Bool) : single.read (single.word s 0) = .number s 0 (-149) := by
  obtain ⟨p1, p2, p3, p4⟩ := mk_parts s 0 0 (by decide) (by decide)
  have := read_fin _ p1 (by rw [p2]; decide)
  rw [p4] at this
  unfold mt ex at this
  rw [p2, p3] at this
  exact this
theorem read_none : single.read 2143289344 = .nan false 4194304 := by
  have := read_nan 2143289344 (by decide) (by decide) (by decide)
  exact this

/-- Any half as a single, and a half again. -/
theorem half_back (h : Nat) (hh : h < 65536) : conv half (single.read (conv single (half.read h))) = if h / 1024 % 32 = 31 ∧ 0 < h % 1024 then 32256 else h := by
  obtain ⟨c1, c2, c3, c4, c5⟩ := half_consts
  have hw := word_self half h (by rw [c1]; omega)
  rw [c1] at hw
  have hd : h / 1024 % 32 = h % 32768 / 1024 := by omega
  have hm : h % 1024 = h % 32768 % 1024 := by omega
  have hself := fun s m e => rung_self half (b := h) (s := s) (m := m) (e := e) (by decide)
  rw [c1, c3] at hself
  have hr := half_read h
  rw [hd, hm]
  generalize hs : (h / 32768 % 2 == 1) = s at *
  have hrl : h % 32768 < 32768 := Nat.mod_lt _ (by decide)
  generalize h % 32768 = r at *
  by_cases g3 : 31744 < r
  · rw [if_pos (by omega)]
    rw [if_neg (by omega), if_neg (by omega), if_neg (by omega)] at hr
    rw [hr]
    show conv half (single.read (noneOf single)) = 32256
    rw [noneB_single, read_none]
    exact noneB_half
  · rw [if_neg (by omega)]
    by_cases g2 : r = 31744
    · rw [if_neg (by omega), if_neg (by omega), if_pos g2] at hr
      rw [hr]
      show conv half (single.read (single.word s single.infRung)) = h
      rw [single_inf, read_word_inf]
      show half.word s half.infRung = h
      rw [c3, ← g2]
      exact hw
    · -- a number
      have key : ∀ m e, half.read h = .number s m e → m < 2048 → -24 ≤ e → e ≤ 5 → conv half (single.read (conv single (half.read h))) = h := by
        intro m e hre hm2 he1 he2
        obtain ⟨hrg, _, _⟩ := hself s m e hre
        rw [hre]
        show conv half (single.read (single.nearest s m e)) = h
        by_cases m0 : m = 0
        · subst m0
          rw [nearest_zero, read_word_zero]
          show half.nearest s 0 (-149) = h
          rw [nearest_zero]
          unfold rung at hrg
          rw [if_pos rfl] at hrg
          rw [hrg]
          exact hw
        · have hlg : m.log2 < 11 := (Nat.log2_lt m0).2 hm2
          obtain ⟨k, hk⟩ := exact_read s m e m0 (by omega) (by omega) (by omega)
          rw [hk]
          show half.nearest s (m * 2 ^ k) (e - k) = h
          rw [nearest_rung, rung_shift, hrg]
          exact hw
      by_cases g1 : r < 1024
      · rw [if_pos g1] at hr
        exact key _ _ hr (by omega) (by omega) (by omega)
      · rw [if_neg g1, if_pos (by omega)] at hr
        exact key _ _ hr (by omega) (by omega) (by omega)

theorem inf_bits' (a : Nat) (ha : a < 4294967296) (h : bE a = 255) (hf : bF a = 0) : single.word (bN a) 2139095040 = a := by
  have := bits_eq a ha
  rw [h, hf] at this
  rw [single_word]
  omega
theorem brain_bits (h : Nat) (hh : h < 65536) : h * 65536 < 4294967296 ∧ bE (h * 65536) = h % 32768 / 128 ∧ bF (h * 65536) = h % 128 * 65536 ∧ bN (h * 65536) = (h / 32768 % 2 == 1) ∧ h * 65536 % 2147483648 = h % 32768 * 65536 := by
  unfold bE bF bN
  refine ⟨by omega, by omega, by omega, ?_, by omega⟩
  by_cases g : 32768 ≤ h
  · rw [show h / 32768 = 1 by omega, decide_eq_true (by omega)]; rfl
  · rw [show h / 32768 = 0 by omega, decide_eq_false (by omega)]; rfl

/-- A brain as a single. -/
theorem brain_single (h : Nat) (hh : h < 65536) : conv single (brain.read h) = if h % 32768 / 128 = 255 ∧ h % 128 ≠ 0 then 2143289344 else h * 65536 := by
  obtain ⟨p1, p2, p3, p4, p5⟩ := brain_bits h hh
  have hr := brain_read h
  rw [← p4] at hr
  have hm : h % 128 = h % 32768 % 128 := by omega
  have hrl : h % 32768 < 32768 := Nat.mod_lt _ (by decide)
  rw [hm] at p3 ⊢
  have hnb := nearest_back (h * 65536) p1
  have hib := inf_bits' (h * 65536) p1
  unfold mt ex at hnb
  rw [p2, p3] at hnb
  rw [p2, p3] at hib
  generalize h % 32768 = r at *
  by_cases g3 : 32640 < r
  · rw [if_neg (by omega), if_neg (by omega), if_neg (by omega)] at hr
    rw [hr, if_pos (by omega)]
    exact noneB_single
  · rw [if_neg (by omega)]
    by_cases g2 : r = 32640
    · rw [if_neg (by omega), if_neg (by omega), if_pos g2] at hr
      rw [hr]
      show single.word (bN (h * 65536)) single.infRung = _
      rw [single_inf]
      exact hib (by omega) (by omega)
    · have he : r / 128 ≠ 255 := by omega
      have hnb' := hnb he
      rw [if_neg he, if_neg he] at hnb'
      by_cases g1 : r < 128
      · rw [if_pos g1] at hr
        rw [if_pos (by omega), if_pos (by omega), show r % 128 = r by omega] at hnb'
        rw [hr]
        show single.nearest _ r (-133) = _
        refine Eq.trans ?_ hnb'
        rw [nearest_rung, nearest_rung]
        congr 1
        exact (rung_shift single r 16 (-133)).symm
      · rw [if_neg g1, if_pos (by omega)] at hr
        rw [if_neg (by omega), if_neg (by omega)] at hnb'
        rw [hr]
        show single.nearest _ (128 + r % 128) _ = _
        refine Eq.trans ?_ hnb'
        rw [nearest_rung, nearest_rung]
        congr 1
        have h128 : 1 ≤ r / 128 := by omega
        have hsh := rung_shift single (128 + r % 128) 16 (-133 + ((r / 128 - 1 : Nat) : Int))
        rw [show 8388608 + r % 128 * 65536 = (128 + r % 128) * 2 ^ 16 by omega, show ((r / 128 : Nat) : Int) - 150 = -133 + ((r / 128 - 1 : Nat) : Int) - ((16 : Nat) : Int) by omega]
        exact hsh.symm

/-- A single as a brain. -/
theorem single_brain (a : Nat) (ha : a < 4294967296) : conv brain (single.read a) = if bE a = 255 ∧ bF a ≠ 0 then 32704 else (if bN a then 32768 else 0) + rne (a % 2147483648) 16 := by
  obtain ⟨c1, c2, c3, c4, c5⟩ := brain_consts
  have hwd : ∀ (s : Bool) (r : Nat), brain.word s r = (if s then 32768 else 0) + r := fun s r => by
    unfold Format.word
    rw [c1]
    cases s <;> simp
  by_cases k : bE a = 255
  · by_cases kf : bF a = 0
    · rw [if_neg (by omega), read_inf a ha k kf]
      show brain.word (bN a) brain.infRung = _
      rw [hwd, c3, low_eq, k, kf]
      rfl
    · rw [if_pos ⟨k, kf⟩, read_nan a ha k kf]
      exact noneB_brain
  · rw [if_neg (by omega), read_fin a ha k]
    show brain.nearest (bN a) (mt a) (ex a) = _
    rw [nearest_rung, hwd, brain_rung a k]

/-- Any brain as a single, and a brain again. -/
theorem brain_back (h : Nat) (hh : h < 65536) : conv brain (single.read (conv single (brain.read h))) = if h / 128 % 256 = 255 ∧ 0 < h % 128 then 32704 else h := by
  rw [brain_single h hh]
  have hd : h / 128 % 256 = h % 32768 / 128 := by omega
  rw [hd]
  by_cases g : h % 32768 / 128 = 255 ∧ h % 128 ≠ 0
  · rw [if_pos g, if_pos (by omega), read_none]
    exact noneB_brain
  · rw [if_neg g, if_neg (by omega)]
    obtain ⟨p1, p2, p3, p4, p5⟩ := brain_bits h hh
    rw [single_brain _ p1, p2, p3, p4, p5, if_neg (by omega)]
    have hs := rne_shift (h % 32768) 0 16
    rw [Nat.zero_add, rne_zero] at hs
    rw [show h % 32768 * 65536 = h % 32768 * 2 ^ 16 from rfl, hs]
    by_cases g2 : 32768 ≤ h
    · rw [show h / 32768 = 1 by omega]
      simp only [Nat.reduceMod, Nat.reduceBEq, if_true]
      omega
    · rw [show h / 32768 = 0 by omega]
      simp only [Nat.zero_mod, Nat.reduceBEq, Bool.false_eq_true, if_false]
      omega

end Go.Proofs.YtagbjlkpmjbfnacDoor
