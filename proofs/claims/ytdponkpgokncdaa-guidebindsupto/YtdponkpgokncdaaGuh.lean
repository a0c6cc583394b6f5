/-
  sources: of each state those from which a byte leads to it.
-/
import Derived.Test.YtdponkpgokncdaaGug
namespace Go.Proofs.Ytdponkpgokncdaa
open Go.RowKit Go.Lib Go.Maps

/-- What is found of sources, in the row of state k, at byte c. -/
structure SrI (f : Nat → Nat → Int) (n : Nat) (F : Nat → List Int) (k c : Nat) : Prop where
  tru : ∀ t z, z ∈ F t → ∃ s : Nat, z = (s : Int) ∧ s < n ∧ ∃ b, b < 256 ∧ f s b = (t : Int)
  all : ∀ (t s b : Nat), t < n → (s < k ∧ b < 256) ∨ (s = k ∧ b < c) → f s b = (t : Int) → (s : Int) ∈ F t
  len : ∀ t, (F t).length ≤ k * 256 + c
theorem SrI.zero (f : Nat → Nat → Int) (n : Nat) : SrI f n (fun _ => []) 0 0 := ⟨fun _ _ h => by simp at h, fun _ _ _ _ h => by omega, fun _ => Nat.zero_le _⟩
theorem SrI.row {f : Nat → Nat → Int} {n : Nat} {F : Nat → List Int} {k : Nat} (h : SrI f n F k 256) : SrI f n F (k + 1) 0 :=
  ⟨h.tru, fun t s b ht hs hf => h.all t s b ht (by omega) hf, fun t => by have := h.len t; omega⟩
theorem SrI.skip {f : Nat → Nat → Int} {n : Nat} {F : Nat → List Int} {k c : Nat} (h : SrI f n F k c) (hc : ∀ t : Nat, t < n → f k c = (t : Int) → (k : Int) ∈ F t) : SrI f n F k (c + 1) :=
  ⟨h.tru, fun t s b ht hs hf => by
    by_cases e : s = k ∧ b = c
    · obtain ⟨rfl, rfl⟩ := e
      exact hc t ht hf
    · exact h.all t s b ht (by omega) hf, fun t => by have := h.len t; omega⟩
theorem SrI.add {f : Nat → Nat → Int} {n : Nat} {F : Nat → List Int} {k c t : Nat} (h : SrI f n F k c) (hk : k < n) (hc : c < 256) (hf : f k c = (t : Int)) : SrI f n (fun q => if q = t then F t ++ [(k : Int)] else F q) k (c + 1) := by
  refine ⟨fun q z hz => ?_, fun q s b hq hs hf' => ?_, fun q => ?_⟩
  · by_cases e : q = t
    · subst e
      rw [if_pos rfl, List.mem_append] at hz
      rcases hz with hz | hz
      · exact h.tru q z hz
      · rw [List.mem_singleton] at hz
        exact ⟨k, hz, hk, c, hc, hf⟩
    · rw [if_neg e] at hz
      exact h.tru q z hz
  · show (s : Int) ∈ (if q = t then F t ++ [(k : Int)] else F q)
    by_cases e : q = t
    · subst e
      rw [if_pos rfl, List.mem_append]
      by_cases e2 : s = k ∧ b = c
      · obtain ⟨rfl, rfl⟩ := e2
        exact .inr (List.mem_singleton.2 rfl)
      · exact .inl (h.all q s b hq (by omega) hf')
    · rw [if_neg e]
      by_cases e2 : s = k ∧ b = c
      · obtain ⟨rfl, rfl⟩ := e2
        rw [hf] at hf'
        omega
      · exact h.all q s b hq (by omega) hf'
  · show (if q = t then F t ++ [(k : Int)] else F q).length ≤ _
    have h1 := h.len t
    have h2 := h.len q
    split
    · rw [List.length_append, List.length_singleton]; omega
    · omega
theorem last_mem {l : List Int} {x : Int} (h0 : 0 < l.length) (h : l.getD (l.length - 1) 0 = x) : x ∈ l := by
  rw [List.getD_eq_getElem?_getD, List.getElem?_eq_getElem (by omega)] at h
  rw [← h]
  exact List.getElem_mem _
theorem memk_nils {w : World} (n : Nat) (hn : n ≤ 64) : MemK .i64 3 58 w.heap.size (w.alloc (.cells (List.replicate n nilV).toArray 58)) (.slice (some ⟨w.heap.size, 0, none⟩) n n) (List.replicate n nilV) (fun _ => []) [] := by
  unfold MemK
  rw [List.append_nil]
  refine ⟨fun r hr => ?_, ?_⟩
  · rcases List.mem_cons.1 hr with rfl | hr
    · unfold Rr.At
      show (w.alloc _).ownsRow _ _ 1 _ (List.replicate n nilV).length (List.replicate n nilV)
      rw [List.length_replicate]
      exact own_madeL 58 w w.heap.size (Nat.le_refl _) n (by omega)
    · unfold rws at hr
      rw [List.mem_map] at hr
      obtain ⟨p, hp, rfl⟩ := hr
      rw [List.length_replicate] at hp
      have e : (List.replicate n nilV).getD p nilV = nilV := by
        rw [List.getD_eq_getElem?_getD, List.getElem?_replicate, if_pos (List.mem_range.1 hp)]
        rfl
      unfold Rr.At
      show (w.alloc _).ownsRow _ _ 1 ((List.replicate n nilV).getD p nilV) _ _
      rw [e]
      exact ⟨rfl, .inl ⟨rfl, rfl⟩⟩
  · refine List.pairwise_cons.2 ⟨fun r hr k hk => ?_, ?_⟩
    · unfold rws at hr
      rw [List.mem_map] at hr
      obtain ⟨p, hp, rfl⟩ := hr
      rw [List.length_replicate] at hp
      have e : (List.replicate n nilV).getD p nilV = nilV := by
        rw [List.getD_eq_getElem?_getD, List.getElem?_replicate, if_pos (List.mem_range.1 hp)]
        rfl
      show ((List.replicate n nilV).getD p nilV).ownBlock ≠ some k
      rw [e]
      simp [Value.ownBlock]
    · refine List.Pairwise.imp_of_mem (R := fun _ _ => True) (fun {a b} ha hb _ k hk => ?_) (List.pairwise_of_forall (fun _ _ => trivial))
      unfold rws at ha
      rw [List.mem_map] at ha
      obtain ⟨p, hp, rfl⟩ := ha
      rw [List.length_replicate] at hp
      have e : (List.replicate n nilV).getD p nilV = nilV := by
        rw [List.getD_eq_getElem?_getD, List.getElem?_replicate, if_pos (List.mem_range.1 hp)]
        rfl
      have hk' : ((List.replicate n nilV).getD p nilV).ownBlock = some k := hk
      rw [e] at hk'
      simp [Value.ownBlock] at hk'
end Go.Proofs.Ytdponkpgokncdaa
