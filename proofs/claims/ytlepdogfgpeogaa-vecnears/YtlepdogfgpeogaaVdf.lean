/-
  Packed numbers as the document has them.
-/
import Derived.Test.YtlepdogfgpeogaaVde
import Derived.Test.YtlepdogfgpeogaaVdc
namespace Go.Proofs.Ytlepdogfgpeogaa
open Go.RowKit Go.Lib Go.Maps

/-- A row of bytes copied to a block made ahead. -/
theorem app_u8 (w Z : World) (g : Nat) (hFr : Fresh w Z) (hown : Z.ownsRow w.heap.size 5 1 (.slice (some ⟨g, 0, none⟩) 0 0) 0 []) (v : Value) (xs : List Int) (hv : Rk .u8 (fun b => b < w.heap.size) w v xs) :
    ∃ ta tc Y, (Builtin.append_ #[46, 46] 46 #[.slice (some ⟨g, 0, none⟩) 0 0, v]).run Try.prog Z = .ok (.slice ta xs.length tc) Y ∧ Fresh w Y ∧ Kept (fun b => b = g) Z Y ∧ Rk .u8 (fun b => b = g ∨ Z.heap.size ≤ b) Y (.slice ta xs.length tc) xs := by
  obtain ⟨i0, hi0, hz0, hz1, hz2⟩ := info_parts tyu8.info
  have hgb := own_block hown
  have hvZ := hv.fresh hFr
  have hlen := hv.many
  obtain ⟨ao, cap, hve, hzl, hcell, hal, hn, hcp⟩ := hvZ
  subst hve
  cases ao with
  | none =>
    have e : xs = [] := by
      rcases xs with _ | ⟨z, r⟩
      · rfl
      · obtain ⟨b, off, h, _⟩ := hcell (by simp)
        cases h
    subst e
    rw [hn rfl]
    refine ⟨_, _, Z, run_append_owned_none (P := Try.prog) Z w.heap.size _ _ _ i0 1 tyu8.u hi0 _ 0 [] hown, hFr, Kept.refl _ _, ?_⟩
    exact ⟨_, _, rfl, by simp, fun h => absurd rfl h, by simp, fun e => (by cases e), Nat.le_refl _⟩
  | some a =>
    obtain ⟨v', w', h1, h2, h3, _, hb⟩ := run_append_own_at (P := Try.prog) Z w.heap.size 46 46 5 i0 (.int .u8 0) 1 (kb .u8) tyu8.u hi0 hz0 hz1 hz2 rfl (by omega) (.slice (some ⟨g, 0, none⟩) 0 0) 0 [] hown a xs.length cap (xs.map (Value.int .u8)) (by simp)
      (fun j u hj => by
        have hj' : j < xs.length := by have := (List.getElem?_eq_some_iff.1 hj).1; simpa using this
        obtain ⟨b, off, h, _, _, hc⟩ := hcell (fun e => by rw [e] at hj'; simp at hj')
        simp only [Option.some.injEq] at h
        subst h
        rw [List.getElem?_map, List.getElem?_eq_getElem hj'] at hj
        simp only [Option.map_some, Option.some.injEq] at hj
        have := hc j hj'
        rw [List.getD_eq_getElem?_getD, List.getElem?_eq_getElem hj'] at this
        rw [← hj, Addr.add_lit]
        exact this)
      (fun u hu => by obtain ⟨_, _, rfl⟩ := List.mem_map.1 hu; rfl) (by unfold maxLen; omega) (by simp [kb]; omega) (Nat.le_trans hFr.size (Nat.le_refl _))
    rw [Nat.zero_add, List.nil_append] at h2
    have hK : Kept (fun b => b = g) Z w' := (Kept.refl _ Z).grown h3 (fun k hk e => by simp [Value.ownBlock] at e; exact e.symm)
    have hR := rk_of_own h2 (by simpa [kb] using hzl) hal
    obtain ⟨ta, tc, hv', _⟩ := hR.shape
    subst hv'
    refine ⟨ta, tc, w', h1, hFr.trans hK (fun i hi e => by omega), hK, ?_⟩
    obtain ⟨ao', cap', e', hl', hc', hz', hn', hcp'⟩ := hR
    injection e' with e1 e2 e3
    subst e1
    subst e3
    refine ⟨_, _, rfl, hl', fun h0 => ?_, hz', hn', hcp'⟩
    obtain ⟨b, off, e, hp, hbz, hcl⟩ := hc' h0
    refine ⟨b, off, e, ?_, hbz, hcl⟩
    have hob : (Value.slice ta xs.length tc).ownBlock = some b := by rw [e]; simp [Value.ownBlock]
    rw [hob] at hb
    simp [Value.ownBlock] at hb
    rcases hb with e | e
    · left; exact e
    · right; omega
end Go.Proofs.Ytlepdogfgpeogaa
