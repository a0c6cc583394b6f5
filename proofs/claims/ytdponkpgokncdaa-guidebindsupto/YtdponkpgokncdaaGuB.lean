/-
  What is found alive on the way: numbers.
-/
import Derived.Test.YtdponkpgokncdaaGuN
namespace Go.Proofs.Ytdponkpgokncdaa

def cf (L : List Bool) : Nat := L.count false
theorem cf_le (L : List Bool) : cf L ≤ L.length := List.count_le_length
theorem cf_set {L : List Bool} {s : Nat} (hs : s < L.length) (h : L.getD s false = false) : cf (L.set s true) + 1 = cf L := by
  have he : L[s] = false := by
    rw [List.getD_eq_getElem?_getD, List.getElem?_eq_getElem hs] at h
    exact h
  have hp : 0 < L.count false := List.count_pos_iff.2 (by rw [← he]; exact List.getElem_mem _)
  unfold cf
  rw [List.count_set hs, he, if_pos (by rfl), if_neg (by decide)]
  omega
theorem getB_set {L : List Bool} {s t : Nat} (hs : s < L.length) : (L.set s true).getD t false = true ↔ t = s ∨ L.getD t false = true := by
  rw [List.getD_eq_getElem?_getD, List.getElem?_set]
  by_cases e : s = t
  · subst e
    rw [if_pos rfl, if_pos hs]
    simp
  · rw [if_neg e, ← List.getD_eq_getElem?_getD]
    exact ⟨.inr, fun h => h.resolve_left (fun e2 => e e2.symm)⟩
/-- What is known: L are found alive, q wait; those of ex are being looked at. -/
structure BI (f : Nat → Nat → Int) (A : List Bool) (L : List Bool) (q : List Int) (ex : Nat → Prop) : Prop where
  ln : L.length = A.length
  snd : ∀ s, L.getD s false = true → Lv f A s
  acc : ∀ s, A.getD s false = true → L.getD s false = true
  inq : ∀ z ∈ q, ∃ s : Nat, z = (s : Int) ∧ s < A.length ∧ L.getD s false = true
  cls : ∀ t : Nat, t < A.length → ¬ ex t → L.getD t false = true → (t : Int) ∈ q ∨ ∀ s c, s < A.length → c < 256 → f s c = (t : Int) → L.getD s false = true
  bd : q.length + cf L ≤ 2 * A.length
section
variable {f : Nat → Nat → Int} {A L : List Bool} {q : List Int} {ex : Nat → Prop}
theorem BI.pop {x : Int} (h : BI f A L (x :: q) (fun _ => False)) : ∃ t : Nat, x = (t : Int) ∧ t < A.length ∧ BI f A L q (fun u => u = t) := by
  obtain ⟨t, ht, htn, hl⟩ := h.inq x List.mem_cons_self
  refine ⟨t, ht, htn, h.ln, h.snd, h.acc, fun z hz => h.inq z (List.mem_cons_of_mem _ hz), fun u hu he hl' => ?_, ?_⟩
  · rcases h.cls u hu (fun e => e) hl' with e | e
    · rcases List.mem_cons.1 e with e2 | e2
      · exact absurd (by omega : u = t) he
      · exact .inl e2
    · exact .inr e
  · have := h.bd
    rw [List.length_cons] at this
    omega
theorem BI.mark {s : Nat} (h : BI f A L q ex) (hs : s < A.length) (h0 : L.getD s false = false) (hl : Lv f A s) : BI f A (L.set s true) (q ++ [(s : Int)]) ex ∧ cf (L.set s true) + 1 = cf L := by
  have hsl : s < L.length := by rw [h.ln]; exact hs
  have hc := cf_set hsl h0
  refine ⟨⟨by rw [List.length_set]; exact h.ln, fun t ht => ?_, fun t ht => (getB_set hsl).2 (.inr (h.acc t ht)), fun z hz => ?_, fun t ht he htl => ?_, ?_⟩, hc⟩
  · rcases (getB_set hsl).1 ht with e | e
    · rw [e]; exact hl
    · exact h.snd t e
  · rcases List.mem_append.1 hz with e | e
    · obtain ⟨t, h1, h2, h3⟩ := h.inq z e
      exact ⟨t, h1, h2, (getB_set hsl).2 (.inr h3)⟩
    · rw [List.mem_singleton] at e
      exact ⟨s, e, hs, (getB_set hsl).2 (.inl rfl)⟩
  · rcases (getB_set hsl).1 htl with e | e
    · rw [e]; exact .inl (List.mem_append.2 (.inr (List.mem_singleton.2 rfl)))
    · rcases h.cls t ht he e with e2 | e2
      · exact .inl (List.mem_append.2 (.inl e2))
      · exact .inr (fun s' c h1 h2 h3 => (getB_set hsl).2 (.inr (e2 s' c h1 h2 h3)))
  · have := h.bd
    rw [List.length_append, List.length_singleton]
    omega
theorem BI.done {t : Nat} (h : BI f A L q (fun u => u = t)) (hc : ∀ s c, s < A.length → c < 256 → f s c = (t : Int) → L.getD s false = true) : BI f A L q (fun _ => False) :=
  ⟨h.ln, h.snd, h.acc, h.inq, fun u hu _ hl => by
    by_cases e : u = t
    · subst e
      exact .inr hc
    · exact h.cls u hu e hl, h.bd⟩
theorem BI.final (hf : ∀ s c, f s c = -1 ∨ (0 ≤ f s c ∧ f s c < (A.length : Int))) (h : BI f A L [] (fun _ => False)) : L = lvL f A :=
  lvL_unique h.ln (fun s => ⟨h.snd s, fun hl => Lv.least h.acc (fun s c hs hc h0 hp => by
    have hr := (hf s c).resolve_left (by omega)
    rcases h.cls (f s c).toNat (by omega) (fun e => e) hp with e | e
    · cases e
    · exact e s c hs hc (by omega)) hl⟩)
theorem BI.start (hq : ∀ s : Nat, A.getD s false = true → (s : Int) ∈ q) (hq2 : ∀ z ∈ q, ∃ s : Nat, z = (s : Int) ∧ s < A.length ∧ A.getD s false = true) (hl : q.length ≤ A.length) : BI f A A q (fun _ => False) :=
  ⟨rfl, fun _ h => Lv.acc h, fun _ h => h, hq2, fun t _ _ h => .inl (hq t h), by have := cf_le A; omega⟩
end
end Go.Proofs.Ytdponkpgokncdaa
