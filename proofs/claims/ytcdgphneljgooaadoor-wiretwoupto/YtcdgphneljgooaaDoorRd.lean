/-
  What the document's own reader answers (package heraldref01).
-/
import Derived.Test.YtcdgphneljgooaaDoorRc
import Derived.Test.YtcdgphneljgooaaDoorWf
namespace Go.Proofs.YtcdgphneljgooaaDoor
open Go.RowKit

/-- A reader of the document's, as a value. -/
abbrev rdV (s : ByteArray) (i : Nat) : Value := .agg #[.string s, .int .i64 i]

set_option maxHeartbeats 400000 in
theorem refLeft_any (s : ByteArray) (i : Nat) (w : World) (hi : i ≤ s.size) (hs : s.size ≤ 281474976710656) :
    Calls Tryd.prog 44 #[rdV s i] w fun e w' => e = .returned (.int .i64 ((s.size - i : Nat) : Int)) ∧ Fresh w w' := by
  go_enter Tryd.func44, Tryd.ntmps44
  go_wp2
  go_ret
  exact ⟨ret_int (by omega), (Kept.refl _ _).alloc _⟩

/-- Two blocks of two cells each, laid one behind the other, as they stand behind a call that made nothing but new ones. -/
theorem two_laid {w w1 : World} {a b c d : Value} {t : TypeId} (hk : Fresh ((w.alloc (.cells #[a, b] t)).alloc (.cells #[c, d] t)) w1) :
    (w1.cell? ⟨w.heap.size, 0, none⟩ = some a ∧ w1.cell? ⟨w.heap.size, 1, none⟩ = some b ∧ w1.cell? ⟨w.heap.size + 1, 0, none⟩ = some c ∧ w1.cell? ⟨w.heap.size + 1, 1, none⟩ = some d) ∧
    (w1.frozen? ⟨w.heap.size, 0, none⟩ = false ∧ w1.frozen? ⟨w.heap.size, 1, none⟩ = false ∧ w1.frozen? ⟨w.heap.size + 1, 0, none⟩ = false ∧ w1.frozen? ⟨w.heap.size + 1, 1, none⟩ = false) := by
  have h0 : ((w.alloc (.cells #[a, b] t)).alloc (.cells #[c, d] t)).heap[w.heap.size]? = some (.cells #[a, b] t (0, 0)) := (Below.heap_alloc _ _ _ (by simp)).trans (heap_alloc_new w _)
  have hs : (w.alloc (.cells #[a, b] t)).heap.size = w.heap.size + 1 := by simp
  have h1 := heap_alloc_new (w.alloc (.cells #[a, b] t)) (.cells #[c, d] t)
  rw [hs] at h1
  have g0 := hk.at h0 (fun e => e)
  have g1 := hk.at h1 (fun e => e)
  refine ⟨⟨?_, ?_, ?_, ?_⟩, ⟨?_, ?_, ?_, ?_⟩⟩
  · simp [World.cell?, g0]
  · simp [World.cell?, g0]
  · simp [World.cell?, g1]
  · simp [World.cell?, g1]
  · simp [World.frozen?, g0]
  · simp [World.frozen?, g0]
  · simp [World.frozen?, g1]
  · simp [World.frozen?, g1]

theorem two_blocks {w w1 : World} {a b c d : Value} {t : TypeId} (hk : Fresh ((w.alloc (.cells #[a, b] t)).alloc (.cells #[c, d] t)) w1) :
    w1.heap[w.heap.size]? = some (.cells #[a, b] t (0, 0)) ∧ w1.heap[w.heap.size + 1]? = some (.cells #[c, d] t (0, 0)) := by
  have h0 : ((w.alloc (.cells #[a, b] t)).alloc (.cells #[c, d] t)).heap[w.heap.size]? = some (.cells #[a, b] t (0, 0)) := (Below.heap_alloc _ _ _ (by simp)).trans (heap_alloc_new w _)
  have hs : (w.alloc (.cells #[a, b] t)).heap.size = w.heap.size + 1 := by simp
  have h1 := heap_alloc_new (w.alloc (.cells #[a, b] t)) (.cells #[c, d] t)
  rw [hs] at h1
  exact ⟨hk.at h0 (fun e => e), hk.at h1 (fun e => e)⟩
theorem cells2 {W : World} {og : Nat} {a b : Value} {t : TypeId} (h : W.heap[og]? = some (.cells #[a, b] t (0, 0))) :
    W.cell? ⟨og, 0, none⟩ = some a ∧ W.cell? ⟨og, 1, none⟩ = some b ∧ W.frozen? ⟨og, 0, none⟩ = false ∧ W.frozen? ⟨og, 1, none⟩ = false := by
  simp [World.cell?, World.frozen?, h]
theorem set2 {W : World} {og : Nat} {a b c d : Value} {t : TypeId} (h : W.heap[og]? = some (.cells #[a, b] t (0, 0))) : ((W.setCell ⟨og, 0, none⟩ c).setCell ⟨og, 1, none⟩ d).heap[og]? = some (.cells #[c, d] t (0, 0)) := by
  rw [Lib.heap_setCell_same (Lib.heap_setCell_same h c) d]
  rfl
theorem set_other {W : World} {p : Addr} {v : Value} {og : Nat} {o : Obj} (h : W.heap[og]? = some o) (hn : og ≠ p.block) : (W.setCell p v).heap[og]? = some o := (Below.heap_setCell W p v og hn).trans h

theorem fresh_set {w w1 : World} (h : Fresh w w1) {p : Addr} (hp : w.heap.size ≤ p.block) (v : Value) : Fresh w (w1.setCell p v) := h.setCell (fun e => by omega) v

set_option maxHeartbeats 400000 in
theorem refRaw_any (s : ByteArray) (i : Nat) (n : Int) (w : World) (hi : i ≤ s.size) (hs : s.size ≤ 281474976710656) :
    Calls Tryd.prog 39 #[rdV s i, .int .i64 n] w fun e w' => e = .returned (.tuple #[rdV s (rawR s i n).2.2, .string ⟨(rawR s i n).1.toArray⟩, .int .i64 (rawR s i n).2.1]) ∧ Fresh w w' := by
  by_cases hn : n < 0
  · rw [show rawR s i n = ([], 1, i) from by simp [rawR, hn]]
    go_enter Tryd.func39, Tryd.ntmps39
    go_wp2
    exact bodyPost_ret (v := .tuple #[rdV s i, .string ⟨#[]⟩, .int .i64 1]) (by simp [results, Tryd.results39, go_sem]) rfl ⟨rfl, ((Kept.refl _ _).alloc _).alloc _⟩
  · obtain ⟨m, rfl⟩ : ∃ m : Nat, n = m := ⟨n.toNat, by omega⟩
    by_cases hl : s.size - i < m
    · rw [show rawR s i m = ([], 11, i) from by unfold rawR; rw [if_neg (by omega), if_pos (by omega)]]
      go_enter Tryd.func39, Tryd.ntmps39
      go_wp2_with fail
      refine (refLeft_any s i _ hi hs).mono ?_
      rintro e w1 ⟨rfl, hk⟩
      obtain ⟨⟨q0, q1, z0, z1⟩, ⟨f0, f1, f2, f3⟩⟩ := two_laid hk
      have hkw : Fresh w w1 := (((Kept.refl _ w).alloc _).alloc _).trans hk (fun _ _ e => e)
      go_wp2
      exact bodyPost_ret (v := .tuple #[rdV s i, .string ⟨#[]⟩, .int .i64 11]) (by simp [results, Tryd.results39, go_sem, z0, z1]) rfl ⟨rfl, fresh_set (fresh_set hkw (by simp) _) (by simp) _⟩
    · have e1 : rawR s i m = (sub s i m, 0, i + m) := by unfold rawR; rw [if_neg (by omega), if_neg (by omega), Int.toNat_natCast]
      rw [e1]
      clear e1
      have hi0 : (0 : Int) ≤ (i : Int) := by omega
      have hi1 : (i : Int) ≤ (i : Int) + (m : Int) := by omega
      have hi2 : (i : Int) + (m : Int) ≤ (s.size : Int) := by omega
      have HE : Hid (s.extract i (i + m) = ⟨(sub s i m).toArray⟩) := extract_sub s i m
      go_enter Tryd.func39, Tryd.ntmps39
      go_wp2_with fail
      refine (refLeft_any s i _ hi hs).mono ?_
      rintro e w1 ⟨rfl, hk⟩
      obtain ⟨⟨q0, q1, z0, z1⟩, ⟨f0, f1, f2, f3⟩⟩ := two_laid hk
      have hkw : Fresh w w1 := (((Kept.refl _ w).alloc _).alloc _).trans hk (fun _ _ e => e)
      go_wp2
      have he := HE.out
      exact bodyPost_ret (v := .tuple #[rdV s (i + m), .string ⟨(sub s i m).toArray⟩, .int .i64 0]) (by simp [results, Tryd.results39, go_sem, z0, z1, he]) rfl ⟨rfl, by repeat (first | exact hkw | refine fresh_set ?_ (by simp) _)⟩

theorem sub_step (s : ByteArray) (p t k : Nat) (h : t < k) (hl : p + k ≤ s.size) : unle (sub s (p + t) (k - t)) = (s[p + t]'(by omega)).toNat + 256 * unle (sub s (p + (t + 1)) (k - (t + 1))) := by
  unfold sub
  rw [List.drop_eq_getElem_cons (by rw [← Lib.size_eq]; omega), show k - t = (k - (t + 1)) + 1 from by omega, List.take_succ_cons]
  rfl
theorem sub_lt (s : ByteArray) (p k : Nat) (hl : p + k ≤ s.size) : unle (sub s p k) < 256 ^ k := by
  have := unle_lt (sub s p k)
  rw [sub_length s p k hl] at this
  exact this

theorem wide8 (s : ByteArray) (p : Nat) (hl : p + 8 ≤ s.size) : 9223372036854775807 < unle (sub s p 8) ↔ 127 < (s[p + 7]'(by omega)).toNat := by
  have e : sub s p 8 = sub s p 7 ++ [s[p + 7]'(by omega)] := by
    unfold sub
    rw [List.take_succ_eq_append_getElem (by rw [List.length_drop, ← Lib.size_eq]; omega), List.getElem_drop]
    rfl
  rw [e, unle_snoc, sub_length s p 7 (by omega)]
  have := sub_lt s p 7 (by omega)
  omega

theorem sub_mono (s : ByteArray) (p k : Nat) (hl : p + k ≤ s.size) : ∀ t, t ≤ k → unle (sub s (p + t) (k - t)) ≤ unle (sub s p k)
  | 0, _ => by simp
  | t + 1, h => by
    have h1 := sub_mono s p k hl t (by omega)
    have h2 := sub_step s p t k (by omega) hl
    omega

set_option maxHeartbeats 800000 in
theorem refRNum_any (s : ByteArray) (i : Nat) (bytes : Int) (w : World) (hi : i ≤ s.size) (hs : s.size ≤ 281474976710656) :
    Calls Tryd.prog 37 #[rdV s i, .int .i64 bytes] w fun e w' => e = .returned (.tuple #[rdV s (numR s i bytes).2.2, .int .i64 (numR s i bytes).1, .int .i64 (numR s i bytes).2.1]) ∧ Fresh w w' := by
  by_cases hz : isSz bytes = true
  · have hc := isSz_cases hz
    by_cases hl : ((s.size - i : Nat) : Int) < bytes
    · rw [show numR s i bytes = (0, 11, i) from by unfold numR; rw [if_neg (by simp [hz]), if_pos hl]]
      go_enter Tryd.func37, Tryd.ntmps37
      go_wp2_with fail
      refine (refSize_any _ _).mono ?_
      rintro e w' ⟨rfl, rfl⟩
      rw [hz]
      go_wp2_with fail
      refine (refLeft_any s i _ hi hs).mono ?_
      rintro e w1 ⟨rfl, hk⟩
      obtain ⟨⟨q0, q1, z0, z1⟩, ⟨f0, f1, f2, f3⟩⟩ := two_laid hk
      have hkw : Fresh w w1 := (((Kept.refl _ w).alloc _).alloc _).trans hk (fun _ _ e => e)
      go_wp2
      exact bodyPost_ret (v := .tuple #[rdV s i, .int .i64 0, .int .i64 11]) (by simp [results, Tryd.results37, go_sem, z0, z1]) rfl ⟨rfl, by repeat (first | exact hkw | refine fresh_set ?_ (by simp) _)⟩
    · obtain ⟨k, rfl⟩ : ∃ k : Nat, bytes = k := ⟨bytes.toNat, by omega⟩
      have hk8 : k = 1 ∨ k = 2 ∨ k = 4 ∨ k = 8 := by omega
      have hlk : i + k ≤ s.size := by omega
      have HN : Hid (numR s i (k : Int) = if 9223372036854775807 < unle (sub s i k) then (0, 10, i) else (((unle (sub s i k) : Nat) : Int), 0, i + k)) := by
        show numR s i (k : Int) = _
        unfold numR
        rw [if_neg (by simp [hz]), if_neg hl, Int.toNat_natCast]
      go_enter Tryd.func37, Tryd.ntmps37
      go_wp2_with fail
      refine (refSize_any _ _).mono ?_
      rintro e w' ⟨rfl, rfl⟩
      rw [hz]
      go_wp2_with fail
      refine (refLeft_any s i _ hi hs).mono ?_
      rintro e w1 ⟨rfl, hk⟩
      obtain ⟨⟨q0, q1, z0, z1⟩, ⟨f0, f1, f2, f3⟩⟩ := two_laid hk
      have hkw : Fresh w w1 := (((Kept.refl _ w).alloc _).alloc _).trans hk (fun _ _ e => e)
      have hl' : k ≤ s.size - i := by omega
      go_wp2
      by_cases hwd : 9223372036854775807 < unle (sub s i k)
      · have HN2 : Hid (numR s i (k : Int) = (0, 10, i)) := by show numR s i (k : Int) = _; rw [HN.out, if_pos hwd]
        obtain rfl : k = 8 := by
          have := sub_lt s i k hlk
          rcases hk8 with rfl | rfl | rfl | rfl
          · omega
          · omega
          · omega
          · rfl
        have hb7 := (wide8 s i hlk).1 hwd
        have hlt7 : i + 7 < s.size := by omega
        have hb7' : (127 : Int) < ((s[i + 7]'hlt7).toNat : Int) := by omega
        clear hwd HN hb7
        go_loop [7, 8] (fun n c => c = .int .i64 7 ∧ n = .int .i64 0) (fun _ c => (intOf c + 1).toNat)
        case atStart => exact ⟨rfl, rfl⟩
        case round =>
          obtain ⟨rfl, rfl⟩ := hrel
          have hto : ((i : Int) + 7).toNat = i + 7 := by omega
          have hbl := (s[i + 7]'hlt7).toNat_lt
          go_wp2
          have he := HN2.out
          exact bodyPost_ret (v := .tuple #[rdV s i, .int .i64 0, .int .i64 10]) (by simp [results, Tryd.results37, go_sem, z0, z1]) rfl ⟨by rw [he], by repeat (first | exact hkw | refine fresh_set ?_ (by simp) _)⟩
      · have HN2 : Hid (numR s i (k : Int) = (((unle (sub s i k) : Nat) : Int), 0, i + k)) := by show numR s i (k : Int) = _; rw [HN.out, if_neg hwd]
        have hmono := sub_mono s i k hlk
        have hb7 : k = 8 → ∀ (h : i + 7 < s.size), (s[i + 7]'h).toNat ≤ 127 := fun e h => by
          subst e
          have := mt (wide8 s i hlk).2 hwd
          omega
        have HM := show Hid _ from hmono
        have HB := show Hid _ from hb7
        clear HN hmono hb7
        go_loop [7, 8] (fun n c => ∃ t : Nat, t ≤ k ∧ c = .int .i64 ((t : Int) - 1) ∧ n = .int .i64 ((unle (sub s (i + t) (k - t)) : Nat) : Int)) (fun _ c => (intOf c + 1).toNat)
        case atStart => exact ⟨k, Nat.le_refl _, rfl, by rw [Nat.sub_self]; simp [sub, unle]⟩
        case round =>
          obtain ⟨t, ht, rfl, rfl⟩ := hrel
          rcases t with _ | u
          · rw [show (((0 : Nat) : Int) - 1) = -1 from rfl, show i + 0 = i from rfl, show k - 0 = k from rfl]
            generalize hx : unle (sub s i k) = x at *
            have HX : Hid (unle (sub s i k) = x) := hx
            clear hx
            go_wp2
            have he := HN2.out
            exact bodyPost_ret (v := .tuple #[rdV s (i + k), .int .i64 x, .int .i64 0]) (by simp [results, Tryd.results37, go_sem, z0, z1]) rfl ⟨by rw [he], by repeat (first | exact hkw | refine fresh_set ?_ (by simp) _)⟩
          · rw [show (((u + 1 : Nat) : Int) - 1) = (u : Int) from by omega]
            have hul : i + u < s.size := by omega
            have hstep := sub_step s i u k (by omega) hlk
            have hm1 := HM.out u (by omega)
            have hto : ((i : Int) + (u : Int)).toNat = i + u := by omega
            have hbl := (s[i + u]'hul).toNat_lt
            have hi1 : (0 : Int) ≤ (i : Int) + (u : Int) := by omega
            have hi2 : (i : Int) + (u : Int) < (s.size : Int) := by omega
            have hb7u : u = 7 → ((s[i + u]'hul).toNat : Int) ≤ 127 := fun e => by
              subst e
              have := HB.out (by omega) hul
              omega
            have hy : unle (sub s (i + u) (k - u)) ≤ 9223372036854775807 := by omega
            have HS : Hid (unle (sub s (i + u) (k - u)) = (s[i + u]'hul).toNat + 256 * unle (sub s (i + (u + 1)) (k - (u + 1)))) := hstep
            have hx2 : (s[i + u]'hul).toNat + 256 * unle (sub s (i + (u + 1)) (k - (u + 1))) ≤ 9223372036854775807 := by omega
            clear hstep hm1 hy
            generalize unle (sub s (i + (u + 1)) (k - (u + 1))) = x at *
            by_cases hu7 : u = 7
            · have hb := hb7u hu7
              have hu7' : ((u : Int) == 7) = true := by simp; omega
              clear hb7u hu7
              go_wp2
              go_round
              case rel => exact ⟨u, by omega, rfl, by rw [HS.out]; go_num⟩
              case measure => simp [intOf]
            · have hu7' : ((u : Int) == 7) = false := by simp; omega
              clear hb7u hu7
              go_wp2
              go_round
              case rel => exact ⟨u, by omega, rfl, by rw [HS.out]; go_num⟩
              case measure => simp [intOf]
  · have hz' : isSz bytes = false := by simpa using hz
    rw [show numR s i bytes = (0, 1, i) from by unfold numR; rw [if_pos hz']]
    go_enter Tryd.func37, Tryd.ntmps37
    go_wp2_with fail
    refine (refSize_any _ _).mono ?_
    rintro e w' ⟨rfl, rfl⟩
    rw [hz']
    go_wp2
    exact bodyPost_ret (v := .tuple #[rdV s i, .int .i64 0, .int .i64 1]) (by simp [results, Tryd.results37, go_sem]) rfl ⟨rfl, ((Kept.refl _ _).alloc _).alloc _⟩

set_option maxHeartbeats 800000 in
theorem refRow2_any (s : ByteArray) (i : Nat) (n : Int) (w : World) (hi : i ≤ s.size) (hs : s.size ≤ 140737488351232) :
    Calls Tryd.prog 38 #[rdV s i, .int .i64 n] w fun e w' => ∃ rv, e = .returned (.tuple #[rdV s (rawR s i n).2.2, rv, .int .i64 (rawR s i n).2.1]) ∧ RowIs (fun k => w.heap.size ≤ k) w' rv ((rawR s i n).1.map s8) ∧ Fresh w w' := by
  obtain ⟨i0, hi0, hz0, hz1, hz2⟩ := info_parts Tryd.info8
  go_enter Tryd.func38, Tryd.ntmps38
  go_wp2_with fail
  refine (refRaw_any s i n _ hi (by omega)).mono ?_
  rintro e w1 ⟨rfl, hk⟩
  have hrl : (rawR s i n).1.length ≤ 140737488351232 := by
    unfold rawR
    split
    · simp
    · split
      · simp
      · show (sub s i n.toNat).length ≤ _
        rw [sub_length s i n.toNat (by omega)]
        omega
  have HR : Hid (rawR s i n = ((rawR s i n).1, (rawR s i n).2.1, (rawR s i n).2.2)) := rfl
  generalize (rawR s i n).1 = xs at *
  generalize (rawR s i n).2.2 = i' at *
  generalize (rawR s i n).2.1 = er at *
  obtain ⟨b0, b1⟩ := two_blocks hk
  have hkw : Fresh w w1 := (((Kept.refl _ w).alloc _).alloc _).trans hk (fun _ _ e => e)
  clear hk
  obtain ⟨q0, q1, f0, f1⟩ := cells2 b0
  have hs1 : w.heap.size + 1 < w1.heap.size := lt_of_heap b1
  have hb0 := set2 (c := .string s) (d := .int .i64 (i' : Int)) b0
  have hb1 : ((w1.setCell ⟨w.heap.size, 0, none⟩ (.string s)).setCell ⟨w.heap.size, 1, none⟩ (.int .i64 (i' : Int))).heap[w.heap.size + 1]? = some (.cells #[.string ⟨#[]⟩, .int .i64 0] 51 (0, 0)) := set_other (set_other b1 (by simp)) (by simp)
  have hf1 := fresh_set (fresh_set hkw (p := ⟨w.heap.size, 0, none⟩) (Nat.le_refl _) (.string s)) (p := ⟨w.heap.size, 1, none⟩) (Nat.le_refl _) (.int .i64 (i' : Int))
  have hsz1 : ((w1.setCell ⟨w.heap.size, 0, none⟩ (.string s)).setCell ⟨w.heap.size, 1, none⟩ (.int .i64 (i' : Int))).heap.size = w1.heap.size := by simp [World.setCell]
  have hst := own8_empty ((w1.setCell ⟨w.heap.size, 0, none⟩ (.string s)).setCell ⟨w.heap.size, 1, none⟩ (.int .i64 (i' : Int)))
  rw [hsz1] at hst
  have hb0' := (Below.heap_alloc _ (.cells #[] 72) _ (lt_of_heap hb0)).trans hb0
  have hb1' := (Below.heap_alloc _ (.cells #[] 72) _ (lt_of_heap hb1)).trans hb1
  have hf1' := hf1.alloc (.cells #[] 72)
  obtain ⟨tx, htx⟩ : ∃ tx : ByteArray, tx = ⟨xs.toArray⟩ := ⟨_, rfl⟩
  have htl : tx.data.toList = xs := by rw [htx]
  rw [← htx]
  have hts : tx.size ≤ 140737488351232 := by rw [Lib.size_eq, htl]; exact hrl
  have hbg : w1.heap.size ≤ (((w1.setCell ⟨w.heap.size, 0, none⟩ (.string s)).setCell ⟨w.heap.size, 1, none⟩ (.int .i64 (i' : Int))).alloc (.cells #[] 72)).heap.size := by simp [World.setCell]
  clear htx hrl hsz1 hb0 hb1 hf1
  go_wp2
  go_loopw [9, 10] (fun v c wr => ∃ j : Nat, j ≤ tx.size ∧ c = .int .i64 j ∧ wr.ownsRow w1.heap.size 72 1 v j (cells8 (tx.data.toList.take j)) ∧ wr.heap[w.heap.size]? = some (.cells #[.string s, .int .i64 i'] 51 (0, 0)) ∧ wr.heap[w.heap.size + 1]? = some (.cells #[.string ⟨#[]⟩, .int .i64 0] 51 (0, 0)) ∧ Fresh w wr ∧ w1.heap.size ≤ wr.heap.size) (fun _ c _ => tx.size - (intOf c).toNat)
  case atStart => exact ⟨0, by omega, rfl, hst, hb0', hb1', hf1', hbg⟩
  case round =>
    obtain ⟨j, hj, rfl, hown, hb0, hb1, hfr, hbig⟩ := hrel
    clear hb0' hb1' hf1' hst hbg
    by_cases hlt : j < tx.size
    · have HT : Hid (cells8 (tx.data.toList.take (j + 1)) = cells8 (tx.data.toList.take j) ++ [.int .i8 (s8 tx[j])]) := by
        show cells8 _ = _
        rw [take_snoc tx j hlt, cells8, List.map_append]
        rfl
      have hlw := lt_of_heap hb1
      have hbl := (tx[j]).toNat_lt
      by_cases h127 : (127 : Int) < ((tx[j]).toNat : Int)
      · have H8 : Hid (((tx[j]).toNat : Int) - 256 = s8 tx[j]) := by show _ = s8 _; unfold s8; rw [wrap_i8]; omega
        go_wp2_with (at_builtin; refine wpList_append_lies _ rfl _ _ _ rfl w1.heap.size 72 i0 _ 1 1 Tryd.underlying31 hi0 hz0 hz1 hz2 rfl (by omega) _ _ _ rfl (hown.alloc _) ⟨wr.heap.size, 0, none⟩ 1 1 [.int .i8 (((tx[j]).toNat : Int) - 256)] rfl rfl (World.news_of_block (cs := #[.int .i8 (((tx[j]).toNat : Int) - 256)]) (t := 72) (fr := (0, 0)) (heap_alloc_new wr _)) (by simp [Value.oneCell']) (by omega) (by unfold maxLen; omega) (by omega) (by simp; omega) (wr.heap.size + 1) (by simp) ?_; intro g cap w4 hown1 hgrow hat hlt1)
        have r1 : w4.ownsRow w1.heap.size 72 1 (.slice (some ⟨g, 0, none⟩) (j + 1) cap) (j + 1) (cells8 (tx.data.toList.take (j + 1))) := by
          rw [HT.out, ← H8.out]
          exact hown1
        have hne : ∀ k, k < w1.heap.size → u9.ownBlock ≠ some k := fun k hk e => by
          rcases hown.2 with ⟨e9, _⟩ | ⟨g', cap', cur, e9, hb, _⟩ <;> rw [e9] at e
          · simp [Value.ownBlock] at e
          · simp [Value.ownBlock] at e; omega
        have r3 := (grown_block hgrow rfl (by omega) (hne w.heap.size (by omega))).trans hb0
        have r4 := (grown_block hgrow rfl (by omega) (hne (w.heap.size + 1) (by omega))).trans hb1
        have r6 : w1.heap.size ≤ w4.heap.size := by have := hgrow.size; simp at this; omega
        have r5 : Fresh w w4 := (hfr.alloc _).grown hgrow (fun k hk e => hne k (by omega) e)
        clear hown1 hgrow hat hlt1 hne
        go_wp2
        go_roundw
        case rel => exact ⟨j + 1, by omega, by go_num, r1, r3, r4, r5, r6⟩
        case measure => simp [intOf]; omega
      · have H8 : Hid (((tx[j]).toNat : Int) = s8 tx[j]) := by show _ = s8 _; unfold s8; rw [wrap_i8]; omega
        go_wp2_with (at_builtin; refine wpList_append_lies _ rfl _ _ _ rfl w1.heap.size 72 i0 _ 1 1 Tryd.underlying31 hi0 hz0 hz1 hz2 rfl (by omega) _ _ _ rfl (hown.alloc _) ⟨wr.heap.size, 0, none⟩ 1 1 [.int .i8 ((tx[j]).toNat : Int)] rfl rfl (World.news_of_block (cs := #[.int .i8 ((tx[j]).toNat : Int)]) (t := 72) (fr := (0, 0)) (heap_alloc_new wr _)) (by simp [Value.oneCell']) (by omega) (by unfold maxLen; omega) (by omega) (by simp; omega) (wr.heap.size + 1) (by simp) ?_; intro g cap w4 hown1 hgrow hat hlt1)
        have r1 : w4.ownsRow w1.heap.size 72 1 (.slice (some ⟨g, 0, none⟩) (j + 1) cap) (j + 1) (cells8 (tx.data.toList.take (j + 1))) := by
          rw [HT.out, ← H8.out]
          exact hown1
        have hne : ∀ k, k < w1.heap.size → u9.ownBlock ≠ some k := fun k hk e => by
          rcases hown.2 with ⟨e9, _⟩ | ⟨g', cap', cur, e9, hb, _⟩ <;> rw [e9] at e
          · simp [Value.ownBlock] at e
          · simp [Value.ownBlock] at e; omega
        have r3 := (grown_block hgrow rfl (by omega) (hne w.heap.size (by omega))).trans hb0
        have r4 := (grown_block hgrow rfl (by omega) (hne (w.heap.size + 1) (by omega))).trans hb1
        have r6 : w1.heap.size ≤ w4.heap.size := by have := hgrow.size; simp at this; omega
        have r5 : Fresh w w4 := (hfr.alloc _).grown hgrow (fun k hk e => hne k (by omega) e)
        clear hown1 hgrow hat hlt1 hne
        go_wp2
        go_roundw
        case rel => exact ⟨j + 1, by omega, by go_num, r1, r3, r4, r5, r6⟩
        case measure => simp [intOf]; omega
    · obtain rfl : j = tx.size := by omega
      obtain ⟨q0, q1, f0, f1⟩ := cells2 hb0
      obtain ⟨z0, z1, g0, g1⟩ := cells2 hb1
      have hrow : RowIs (fun k => w1.heap.size ≤ k) wr u9 (tx.data.toList.map s8) := by
        rw [List.take_of_length_le (by rw [← Lib.size_eq]; omega)] at hown
        refine rowIs_of_own (B := w1.heap.size) ?_ ?_ ?_
        · rw [List.length_map, ← Lib.size_eq, List.map_map]
          exact hown
        · rw [List.length_map, ← Lib.size_eq]; exact hts
        · intro z hz
          obtain ⟨c, _, rfl⟩ := List.mem_map.1 hz
          exact s8_range c
      obtain ⟨vao, vcp, hv⟩ := ownsRow_shape hown
      subst hv
      rw [htl] at hrow
      have hrow' := hrow.kept (S := only (w.heap.size + 1)) (((Kept.refl (only (w.heap.size + 1)) wr).setCell (p := ⟨w.heap.size + 1, 0, none⟩) (fun _ => rfl) (.string s)).setCell (p := ⟨w.heap.size + 1, 1, none⟩) (fun _ => rfl) (.int .i64 (i' : Int))) (fun k hk e => by have e' : k = w.heap.size + 1 := e; omega)
      go_wp2
      have he := HR.out
      refine bodyPost_ret (v := .tuple #[rdV s i', .slice vao tx.size vcp, .int .i64 er]) (by simp [results, Tryd.results38, go_sem, z0, z1]) rfl ⟨_, by rw [he], ?_, by repeat (first | exact hfr | refine fresh_set ?_ (by simp) _)⟩
      rw [he]
      exact hrow'.mono (fun k hk => by omega)

theorem numR_four (s : ByteArray) (i : Nat) : numR s i 4 = if s.size - i < 4 then (0, 11, i) else (((unle (sub s i 4) : Nat) : Int), 0, i + 4) := by
  unfold numR
  rw [if_neg (by decide)]
  by_cases h : s.size - i < 4
  · rw [if_pos (by omega), if_pos h]
  · rw [if_neg (by omega), if_neg h, if_neg (by have := sub_lt s i 4 (by omega); show ¬ _ < unle (sub s i 4); omega)]
    rfl
theorem rawR_nat (s : ByteArray) (i n : Nat) : rawR s i n = if s.size - i < n then ([], 11, i) else (sub s i n, 0, i + n) := by
  unfold rawR
  rw [if_neg (by omega)]
  by_cases h : s.size - i < n
  · rw [if_pos (by omega), if_pos h]
  · rw [if_neg (by omega), if_neg h]
    rfl

set_option maxHeartbeats 800000 in
theorem refRText_any (s : ByteArray) (i : Nat) (most : Int) (w : World) (hi : i ≤ s.size) (hs : s.size ≤ 281474976710656) :
    Calls Tryd.prog 40 #[rdV s i, .int .i64 most] w fun e w' => e = .returned (.tuple #[rdV s (textR s i most).2.2, .string ⟨(textR s i most).1.toArray⟩, .int .i64 (textR s i most).2.1]) ∧ Fresh w w' := by
  by_cases hn : most < 0
  · rw [show textR s i most = ([], 1, i) from by simp [textR, hn]]
    go_enter Tryd.func40, Tryd.ntmps40
    go_wp2
    exact bodyPost_ret (v := .tuple #[rdV s i, .string ⟨#[]⟩, .int .i64 1]) (by simp [results, Tryd.results40, go_sem]) rfl ⟨rfl, ((Kept.refl _ _).alloc _).alloc _⟩
  have hn' : 0 ≤ most := by omega
  by_cases hl : s.size - i < 4
  · rw [show textR s i most = ([], 11, i) from by unfold textR; rw [if_neg hn, if_pos hl]]
    go_enter Tryd.func40, Tryd.ntmps40
    go_wp2_with fail
    refine (refRNum_any s i 4 _ hi hs).mono ?_
    rintro e w1 ⟨he, hk⟩
    rw [numR_four, if_pos hl] at he
    dsimp only at he
    subst he
    obtain ⟨b0, b1⟩ := two_blocks hk
    obtain ⟨q0, q1, f0, f1⟩ := cells2 b0
    obtain ⟨z0, z1, g0, g1⟩ := cells2 b1
    have hkw : Fresh w w1 := (((Kept.refl _ w).alloc _).alloc _).trans hk (fun _ _ e => e)
    have hlt := lt_of_heap b1
    have hlt0 := lt_of_heap b0
    clear hk
    go_wp2
    exact bodyPost_ret (v := .tuple #[rdV s i, .string ⟨#[]⟩, .int .i64 11]) (by simp [results, Tryd.results40, go_sem, z0, z1, hlt]) rfl ⟨rfl, by repeat (first | exact hkw | refine fresh_set ?_ (by simp) _ | refine Kept.alloc ?_ _)⟩
  have hx : unle (sub s i 4) < 4294967296 := by have := sub_lt s i 4 (by omega); omega
  have HT : Hid (textR s i most = if most < unle (sub s i 4) then ([], 12, i) else if s.size - i - 4 < unle (sub s i 4) then ([], 11, i) else (sub s (i + 4) (unle (sub s i 4)), 0, i + 4 + unle (sub s i 4))) := by
    show textR s i most = _; unfold textR; rw [if_neg hn, if_neg hl]
  have HN : Hid (numR s i 4 = (((unle (sub s i 4) : Nat) : Int), 0, i + 4)) := by show numR s i 4 = _; rw [numR_four, if_neg hl]
  generalize unle (sub s i 4) = x at *
  rw [HT.out]
  clear HT
  generalize hi4 : i + 4 = i4 at *
  have hi4a : i4 ≤ i + 4 := by omega
  have hi4b : i + 4 ≤ i4 := by omega
  clear hi4
  by_cases hm : most < x
  · rw [if_pos hm]
    go_enter Tryd.func40, Tryd.ntmps40
    go_wp2_with fail
    refine (refRNum_any s i 4 _ hi hs).mono ?_
    rintro e w1 ⟨he, hk⟩
    rw [HN.out] at he
    dsimp only at he
    subst he
    obtain ⟨b0, b1⟩ := two_blocks hk
    obtain ⟨q0, q1, f0, f1⟩ := cells2 b0
    obtain ⟨z0, z1, g0, g1⟩ := cells2 b1
    have hkw : Fresh w w1 := (((Kept.refl _ w).alloc _).alloc _).trans hk (fun _ _ e => e)
    have hlt := lt_of_heap b1
    have hlt0 := lt_of_heap b0
    clear hk
    go_wp2
    exact bodyPost_ret (v := .tuple #[rdV s i, .string ⟨#[]⟩, .int .i64 12]) (by simp [results, Tryd.results40, go_sem, z0, z1, hlt]) rfl ⟨rfl, by repeat (first | exact hkw | refine fresh_set ?_ (by simp) _ | refine Kept.alloc ?_ _)⟩
  · rw [if_neg hm]
    have hraw := rawR_nat s i4 x
    by_cases hr : s.size - i - 4 < x
    · rw [if_pos hr]
      rw [if_pos (by omega)] at hraw
      have HR := show Hid (rawR s i4 x = ([], 11, i4)) from hraw
      clear hraw
      go_enter Tryd.func40, Tryd.ntmps40
      go_wp2_with fail
      refine (refRNum_any s i 4 _ hi hs).mono ?_
      rintro e w1 ⟨he, hk⟩
      rw [HN.out] at he
      dsimp only at he
      subst he
      obtain ⟨b0, b1⟩ := two_blocks hk
      obtain ⟨q0, q1, f0, f1⟩ := cells2 b0
      have hkw : Fresh w w1 := (((Kept.refl _ w).alloc _).alloc _).trans hk (fun _ _ e => e)
      have hlt := lt_of_heap b1
      have hlt0 := lt_of_heap b0
      clear hk
      go_wp2_with fail
      refine (refRaw_any s i4 x _ (by omega) hs).mono ?_
      rintro e w2 ⟨he, hk2⟩
      rw [HR.out] at he
      dsimp only at he
      subst he
      have d0 := hk2.at ((Below.heap_alloc w1 _ _ hlt0).trans b0) (fun e => e)
      have d1 := hk2.at ((Below.heap_alloc w1 _ _ hlt).trans b1) (fun e => e)
      have d2 := hk2.at (heap_alloc_new w1 _) (fun e => e)
      obtain ⟨q0, q1, f0, f1⟩ := cells2 d0
      obtain ⟨z0, z1, g0, g1⟩ := cells2 d1
      obtain ⟨y0, y1, k0, k1⟩ := cells2 d2
      have hkw2 : Fresh w w2 := (hkw.alloc _).trans hk2 (fun _ _ e => e)
      have hn1 : w.heap.size ≠ w1.heap.size := by omega
      have hn2 : w.heap.size + 1 ≠ w1.heap.size := by omega
      have hn3 : w1.heap.size ≠ w.heap.size := by omega
      have hn4 : w1.heap.size ≠ w.heap.size + 1 := by omega
      have hlw : w.heap.size ≤ w1.heap.size := by omega
      clear hk2
      go_wp2
      exact bodyPost_ret (v := .tuple #[rdV s i, .string ⟨#[]⟩, .int .i64 11]) (by simp [results, Tryd.results40, go_sem, z0, z1]) rfl ⟨rfl, by repeat (first | exact hkw2 | refine fresh_set ?_ (by simp; try omega) _ | refine Kept.alloc ?_ _)⟩
    · rw [if_neg hr]
      rw [if_neg (by omega)] at hraw
      have HR := show Hid (rawR s i4 x = (sub s i4 x, 0, i4 + x)) from hraw
      clear hraw
      go_enter Tryd.func40, Tryd.ntmps40
      go_wp2_with fail
      refine (refRNum_any s i 4 _ hi hs).mono ?_
      rintro e w1 ⟨he, hk⟩
      rw [HN.out] at he
      dsimp only at he
      subst he
      obtain ⟨b0, b1⟩ := two_blocks hk
      obtain ⟨q0, q1, f0, f1⟩ := cells2 b0
      have hkw : Fresh w w1 := (((Kept.refl _ w).alloc _).alloc _).trans hk (fun _ _ e => e)
      have hlt := lt_of_heap b1
      have hlt0 := lt_of_heap b0
      clear hk
      go_wp2_with fail
      refine (refRaw_any s i4 x _ (by omega) hs).mono ?_
      rintro e w2 ⟨he, hk2⟩
      rw [HR.out] at he
      dsimp only at he
      subst he
      have d0 := hk2.at ((Below.heap_alloc w1 _ _ hlt0).trans b0) (fun e => e)
      have d1 := hk2.at ((Below.heap_alloc w1 _ _ hlt).trans b1) (fun e => e)
      have d2 := hk2.at (heap_alloc_new w1 _) (fun e => e)
      obtain ⟨q0, q1, f0, f1⟩ := cells2 d0
      obtain ⟨z0, z1, g0, g1⟩ := cells2 d1
      obtain ⟨y0, y1, k0, k1⟩ := cells2 d2
      have hkw2 : Fresh w w2 := (hkw.alloc _).trans hk2 (fun _ _ e => e)
      have hn1 : w.heap.size ≠ w1.heap.size := by omega
      have hn2 : w.heap.size + 1 ≠ w1.heap.size := by omega
      have hn3 : w1.heap.size ≠ w.heap.size := by omega
      have hn4 : w1.heap.size ≠ w.heap.size + 1 := by omega
      have hlw : w.heap.size ≤ w1.heap.size := by omega
      clear hk2
      go_wp2
      exact bodyPost_ret (v := .tuple #[rdV s (i4 + x), .string ⟨(sub s i4 x).toArray⟩, .int .i64 0]) (by simp [results, Tryd.results40, go_sem, z0, z1]) rfl ⟨rfl, by repeat (first | exact hkw2 | refine fresh_set ?_ (by simp; try omega) _ | refine Kept.alloc ?_ _)⟩

end Go.Proofs.YtcdgphneljgooaaDoor
