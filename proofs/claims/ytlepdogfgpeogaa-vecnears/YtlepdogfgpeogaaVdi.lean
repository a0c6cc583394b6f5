/-
  Pack: the shift of a group.
-/
import Derived.Test.YtlepdogfgpeogaaVdh
namespace Go.Proofs.Ytlepdogfgpeogaa
open Go.RowKit Go.Lib Go.Maps

/-- s is the least shift by which each number of a group has room. -/
def ShIs (l : List Int) (s : Nat) : Prop := s ≤ 5 ∧ (∀ x ∈ l, fits x s = true) ∧ ∀ t, t < s → ∃ x ∈ l, fits x t = false
theorem ShIs.one {l : List Int} {s t : Nat} (h : ShIs l s) (k : ShIs l t) : s = t := by
  rcases Nat.lt_trichotomy s t with e | e | e
  · obtain ⟨x, hx, hf⟩ := k.2.2 s e
    rw [h.2.1 x hx] at hf; cases hf
  · exact e
  · obtain ⟨x, hx, hf⟩ := h.2.2 t e
    rw [k.2.1 x hx] at hf; cases hf
theorem ShIs.nil : ShIs [] 0 := ⟨by omega, fun _ hx => (nomatch hx), fun t ht => (by omega)⟩
/-- Within a round: the shift has grown so far. -/
def ShTo (l : List Int) (x : Int) (s : Nat) : Prop := s ≤ 5 ∧ (∀ y ∈ l, fits y s = true) ∧ ∀ t, t < s → ∃ y ∈ l ++ [x], fits y t = false
theorem ShIs.to {l : List Int} {s : Nat} (h : ShIs l s) (x : Int) : ShTo l x s := ⟨h.1, h.2.1, fun t ht => let ⟨y, h1, h2⟩ := h.2.2 t ht; ⟨y, List.mem_append_left _ h1, h2⟩⟩
theorem ShTo.grow {l : List Int} {x : Int} {s : Nat} (h : ShTo l x s) (hl : ∀ y ∈ l, -128 ≤ y ∧ y ≤ 127) (hx : -128 ≤ x ∧ x ≤ 127) (hf : fits x s = false) : s < 5 ∧ ShTo l x (s + 1) := by
  have h5 : s < 5 := by
    rcases Nat.lt_or_ge s 5 with e | e
    · exact e
    · have := h.1
      obtain rfl : s = 5 := by omega
      rw [fits_five hx] at hf; cases hf
  refine ⟨h5, by omega, fun y hy => fits_more (hl y hy) h5 (h.2.1 y hy), fun t ht => ?_⟩
  rcases Nat.lt_or_ge t s with e | e
  · exact h.2.2 t e
  · obtain rfl : t = s := by omega
    exact ⟨x, by simp, hf⟩
theorem ShTo.shut {l : List Int} {x : Int} {s : Nat} (h : ShTo l x s) (hf : fits x s = true) : ShIs (l ++ [x]) s := by
  refine ⟨h.1, fun y hy => ?_, h.2.2⟩
  rcases List.mem_append.1 hy with e | e
  · exact h.2.1 y e
  · rw [List.mem_singleton.1 e]; exact hf

set_option maxHeartbeats 2000000 in
set_option maxRecDepth 100000 in
theorem shiftOf_any (p : Nat → Prop) (v : Value) (l : List Int) (w : World) (hl : Rk .i8 p w v l) :
    Calls Try.prog 42 #[v] w fun e w' => ∃ s : Nat, e = .returned (.int .u8 (s : Int)) ∧ ShIs l s ∧ Drew w w' := by
  obtain ⟨ao, ac, hv, _⟩ := hl.shape
  subst hv
  obtain ⟨n, hn⟩ : ∃ n, l.length = n := ⟨_, rfl⟩
  rw [hn] at hl ⊢
  have HC : Hid (0 < n → ∃ b off, ao = some ⟨b, off, none⟩ ∧ ∀ W, Drew w W → ∀ i, i < n → W.cell? ⟨b, off + i, none⟩ = some (.int .i8 (l.getD i 0))) := fun h0 => by
    obtain ⟨b, off, h1, _⟩ := hl.cells.2.2.2 h0
    refine ⟨b, off, h1, fun W hD i hi => ?_⟩
    obtain ⟨b', off', h1', _, _, hc⟩ := (hl.fresh hD.fresh).cells.2.2.2 h0
    rw [h1] at h1'
    cases h1'
    exact hc i hi
  have HA : Hid ((∀ y ∈ l, -128 ≤ y ∧ y ≤ 127) ∧ l.length = n) := ⟨fun y hy => hl.all y hy, hn⟩
  have hnb : n ≤ 140737488351232 := by have := hl.many; omega
  clear hl hn
  go_enter Try.func42, Try.ntmps42
  go_wp2
  go_loopw [3, 8] (fun sv iv wx => ∃ s j : Nat, j ≤ n ∧ iv = zV j ∧ sv = zV s ∧ Hid (ShIs (l.take j) s) ∧ Hid (Drew w wx)) (fun _ iv _ => n - (RowKit.intOf iv).toNat)
  case atStart => exact ⟨0, 0, Nat.zero_le _, rfl, rfl, ShIs.nil, Drew.refl w⟩
  case round =>
    obtain ⟨s, j, hj, rfl, rfl, HS, HD⟩ := hrel
    by_cases hlt : j < n
    · obtain ⟨b, off, rfl, hcell⟩ := HC.out (by omega)
      have q1 := hcell _ HD.out j hlt
      have hlt' : (j : Int) < (n : Int) := by omega
      have HT : Hid (ShTo (l.take j) (l.getD j 0) s) := HS.out.to _
      have HX : Hid ((-128 ≤ l.getD j 0 ∧ l.getD j 0 ≤ 127) ∧ (∀ y ∈ l.take j, -128 ≤ y ∧ y ≤ 127) ∧ l.take j ++ [l.getD j 0] = l.take (j + 1)) := by
        have hj' : j < l.length := by rw [HA.out.2]; exact hlt
        refine ⟨?_, fun y hy => HA.out.1 y (List.mem_of_mem_take hy), ?_⟩
        · rw [List.getD_eq_getElem?_getD, List.getElem?_eq_getElem hj']; exact HA.out.1 _ (List.getElem_mem hj')
        · rw [List.getD_eq_getElem?_getD, List.getElem?_eq_getElem hj', List.take_add_one, List.getElem?_eq_getElem hj']; rfl
      clear hcell HS
      generalize l.getD j 0 = x at *
      go_wp2_with fail
      go_loopw [3] (fun sv wy => ∃ t : Nat, t ≤ 5 ∧ sv = zV t ∧ Hid (ShTo (l.take j) x t) ∧ Hid (Drew w wy)) (fun sv _ => 6 - (RowKit.intOf sv).toNat)
      case atStart => exact ⟨s, HT.out.1, rfl, HT.out, HD.out⟩
      case round =>
        obtain ⟨t, ht, rfl, HT, HD⟩ := hrel
        have H1 : Hid (∀ W : World, _) := fun (W : World) => hasRoom_any x t W HX.out.1
        go_wp2_with fail
        refine (H1.out _).mono ?_
        rintro e w1 ⟨rfl, hd⟩
        have HD1 : Hid (Drew w w1) := HD.out.trans hd
        clear H1 hd HD q1
        by_cases hf : fits x t = true
        · have HZ : Hid (ShIs (l.take (j + 1)) t) := by show ShIs _ _; rw [← HX.out.2.2]; exact HT.out.shut hf
          rw [hf]
          clear HT hf
          go_wp2
          go_roundw
          case rel => exact ⟨t, j + 1, hlt, by go_num, rfl, HZ.out, HD1.out⟩
          case measure => simp [RowKit.intOf]; omega
        · have hf' : fits x t = false := by simpa using hf
          obtain ⟨h5, hT⟩ := HT.out.grow HX.out.2.1 HX.out.1 hf'
          have HZ : Hid (ShTo (l.take j) x (t + 1)) := hT
          rw [hf']
          clear HT hf hf' hT
          go_wp2
          go_roundw
          case rel => exact ⟨t + 1, h5, by go_num, HZ.out, HD1.out⟩
          case measure => simp [RowKit.intOf]; omega
    · obtain rfl : j = n := by omega
      have hlt' : ¬ (j : Int) < (j : Int) := by omega
      have HZ : Hid (ShIs l s) := by have := HS.out; rw [show l.take j = l from List.take_of_length_le (by rw [HA.out.2]; omega)] at this; exact this
      have hs5 := HS.out.1
      clear HC HS
      go_wp2
      go_ret
      exact ⟨s, by simp <;> omega, HZ.out, HD.out⟩
end Go.Proofs.Ytlepdogfgpeogaa
