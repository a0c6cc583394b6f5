/-
  Pack: the document's shift of a group.
-/
import Derived.Test.YtlepdogfgpeogaaVdi
namespace Go.Proofs.Ytlepdogfgpeogaa
open Go.RowKit Go.Lib Go.Maps

/-- No shift below s has room for each. -/
def ShNot (l : List Int) (s : Nat) : Prop := s ≤ 5 ∧ ∀ t, t < s → ∃ x ∈ l, fits x t = false
theorem ShNot.shut {l : List Int} {s : Nat} (h : ShNot l s) (hf : l.all (fun x => fits x s) = true) : ShIs l s := ⟨h.1, fun x hx => List.all_eq_true.1 hf x hx, h.2⟩
theorem ShNot.grow {l : List Int} {s : Nat} (h : ShNot l s) (hl : ∀ y ∈ l, -128 ≤ y ∧ y ≤ 127) (hf : l.all (fun x => fits x s) = false) : s < 5 ∧ ShNot l (s + 1) := by
  obtain ⟨x, hx, hfx⟩ : ∃ x ∈ l, fits x s = false := by
    rw [List.all_eq_false] at hf
    obtain ⟨x, hx, h'⟩ := hf
    exact ⟨x, hx, by simpa using h'⟩
  have h5 : s < 5 := by
    rcases Nat.lt_or_ge s 5 with e | e
    · exact e
    · have := h.1
      obtain rfl : s = 5 := by omega
      rw [fits_five (hl x hx)] at hfx; cases hfx
  refine ⟨h5, by omega, fun t ht => ?_⟩
  rcases Nat.lt_or_ge t s with e | e
  · exact h.2 t e
  · obtain rfl : t = s := by omega
    exact ⟨x, hx, hfx⟩

set_option maxHeartbeats 2000000 in
set_option maxRecDepth 100000 in
theorem refShift_any (p : Nat → Prop) (v : Value) (l : List Int) (w : World) (hl : Rk .i8 p w v l) :
    Calls Try.prog 43 #[v] w fun e w' => ∃ s : Nat, e = .returned (zV (s : Int)) ∧ ShIs l s ∧ Drew w w' := by
  obtain ⟨ao, ac, hv, _⟩ := hl.shape
  subst hv
  obtain ⟨n, hn⟩ : ∃ n, l.length = n := ⟨_, rfl⟩
  rw [hn] at hl ⊢
  have HC : Hid (0 < n → ∃ b off, ao = some ⟨b, off, none⟩ ∧ ∀ W, Drew w W → ∀ i, i < n → W.cell? ⟨b, off + i, none⟩ = some (.int .i8 (l.getD i 0))) := fun h0 => by
    obtain ⟨b, off, h1, _⟩ := hl.cells.2.2.2 h0
    refine ⟨b, off, h1, fun W hD i hi => ?_⟩
    obtain ⟨b', off', h1', _, _, hc⟩ := (hl.fresh hD.fresh).cells.2.2.2 h0
    rw [h1] at h1'
    cases h1'
    exact hc i hi
  have HA : Hid ((∀ y ∈ l, -128 ≤ y ∧ y ≤ 127) ∧ l.length = n) := ⟨fun y hy => hl.all y hy, hn⟩
  have hnb : n ≤ 140737488351232 := by have := hl.many; omega
  clear hl hn
  go_enter Try.func43, Try.ntmps43
  go_wp2
  go_loopw [3] (fun sv wx => ∃ s : Nat, s ≤ 5 ∧ sv = zV s ∧ Hid (ShNot l s) ∧ Hid (Drew w wx)) (fun sv _ => 6 - (RowKit.intOf sv).toNat)
  case atStart => exact ⟨0, Nat.zero_le _, rfl, ⟨Nat.zero_le _, fun t ht => by omega⟩, Drew.refl w⟩
  case round =>
    obtain ⟨s, hs, rfl, HS, HD⟩ := hrel
    go_wp2
    go_loopw [4, 13] (fun bv iv wy => ∃ j : Nat, j ≤ n ∧ iv = zV j ∧ bv = .bool ((l.take j).all (fun x => fits x s)) ∧ Hid (Drew w wy)) (fun _ iv _ => n - (RowKit.intOf iv).toNat)
    case atStart => exact ⟨0, Nat.zero_le _, rfl, rfl, HD.out⟩
    case round =>
      obtain ⟨j, hj, rfl, rfl, HD⟩ := hrel
      by_cases hlt : j < n
      · obtain ⟨b, off, rfl, hcell⟩ := HC.out (by omega)
        have q1 := hcell _ HD.out j hlt
        have hlt' : (j : Int) < (n : Int) := by omega
        have hj' : j < l.length := by rw [HA.out.2]; exact hlt
        have HX : Hid ((-128 ≤ l.getD j 0 ∧ l.getD j 0 ≤ 127) ∧ (l.take (j + 1)).all (fun x => fits x s) = ((l.take j).all (fun x => fits x s) && fits (l.getD j 0) s)) := by
          refine ⟨?_, ?_⟩
          · rw [List.getD_eq_getElem?_getD, List.getElem?_eq_getElem hj']; exact HA.out.1 _ (List.getElem_mem hj')
          · rw [take_snocD hj', List.all_append]; simp
        have H1 : Hid (∀ W : World, _) := fun (W : World) => refRound_any (l.getD j 0) (s : Int) W ⟨by have := HX.out.1; omega, by have := HX.out.1; omega⟩
        obtain ⟨hx0, hx1⟩ := HX.out.1
        clear hcell hj'
        obtain ⟨B1, hB1⟩ : ∃ B1, (l.take (j + 1)).all (fun x => fits x s) = B1 := ⟨_, rfl⟩
        have HQ : Hid ((l.take (j + 1)).all (fun x => fits x s) = B1) := hB1
        rw [hB1] at HX
        clear hB1
        generalize (l.take j).all (fun x => fits x s) = B0 at *
        have HE : Hid (fits (l.getD j 0) s = decide (-7 ≤ rdQ (l.getD j 0) (s : Int) ∧ rdQ (l.getD j 0) (s : Int) ≤ 7)) := rfl
        generalize fits (l.getD j 0) s = B2 at *
        generalize l.getD j 0 = x at *
        generalize rdQ x (s : Int) = q at *
        generalize rdE (s : Int) = re at *
        go_wp2_with fail
        with_reducible refine (H1.out _).mono ?_
        rintro e w1 ⟨rfl, hd⟩
        have HD1 : Hid (Drew w w1) := HD.out.trans hd
        clear H1 hd HD q1
        cases B0 with
        | false =>
          have HB : Hid (B1 = false) := by show _ = _; rw [HX.out.2]; rfl
          go_wp2
          go_roundw
          case rel => exact ⟨j + 1, hlt, by go_num, by rw [HQ.out, HB.out], HD1.out⟩
          case measure => simp [RowKit.intOf]; omega
        | true =>
          have HB : Hid (B1 = decide (-7 ≤ q ∧ q ≤ 7)) := by show _ = _; rw [HX.out.2, HE.out]; rfl
          by_cases h1 : -7 ≤ q
          · by_cases h2 : q ≤ 7
            · have HB' : Hid (B1 = true) := by show _ = _; rw [HB.out]; simp [h1, h2]
              go_wp2
              go_roundw
              case rel => exact ⟨j + 1, hlt, by go_num, by rw [HQ.out, HB'.out] <;> simp <;> omega, HD1.out⟩
              case measure => simp [RowKit.intOf]; omega
            · have HB' : Hid (B1 = false) := by show _ = _; rw [HB.out]; exact decide_eq_false (fun e => h2 e.2)
              go_wp2
              go_roundw
              case rel => exact ⟨j + 1, hlt, by go_num, by rw [HQ.out, HB'.out] <;> simp <;> omega, HD1.out⟩
              case measure => simp [RowKit.intOf]; omega
          · have HB' : Hid (B1 = false) := by show _ = _; rw [HB.out]; exact decide_eq_false (fun e => h1 e.1)
            go_wp2
            go_roundw
            case rel => exact ⟨j + 1, hlt, by go_num, by rw [HQ.out, HB'.out] <;> simp <;> omega, HD1.out⟩
            case measure => simp [RowKit.intOf]; omega
      · obtain rfl : j = n := by omega
        have hlt' : ¬ (j : Int) < (j : Int) := by omega
        have ht : l.take j = l := List.take_of_length_le (by rw [HA.out.2]; omega)
        rw [ht]
        have HZ : Hid (l.all (fun x => fits x s) = true → ShIs l s) := fun h => HS.out.shut h
        have HG : Hid (l.all (fun x => fits x s) = false → s < 5 ∧ ShNot l (s + 1)) := fun h => HS.out.grow HA.out.1 h
        clear HC HS ht
        cases hB : l.all (fun x => fits x s) with
        | true =>
          have HZ' : Hid (ShIs l s) := HZ.out hB
          clear HZ HG hB
          go_wp2
          go_ret
          exact ⟨s, by simp, HZ'.out, HD.out⟩
        | false =>
          obtain ⟨h5, hN⟩ := HG.out hB
          have HN : Hid (ShNot l (s + 1)) := hN
          clear HZ HG hB hN
          go_wp2
          go_roundw
          case rel => exact ⟨s + 1, h5, by go_num, HN.out, HD.out⟩
          case measure => simp [RowKit.intOf]; omega
end Go.Proofs.Ytlepdogfgpeogaa
