/-
  A queue in memory: its line, and its map from tickets to elements.
-/
import Derived.Test.YtonpdnpfekmapaaQup
import Derived.Maps.OwnSet
import Derived.Maps.OwnOps
namespace Go.Proofs.Ytonpdnpfekmapaa
open Go.RowKit Go.Lib Go.Maps

theorem mlaw : Keyed Try.prog 3 := int_keyed Try.underlying3
theorem wf64 {z : Int} (h1 : -9223372036854775808 ≤ z) (h2 : z ≤ 9223372036854775807) : (Lit.int .i64 z).wf = true := by
  simp [Lit.wf, IntKind.min, IntKind.max, IntKind.signed, IntKind.bits]
  omega
/-- How a pointer to an element reads: by its block. -/
def rdP : Value → Option (DataW Unit × List MemPlace)
  | .pointer none => some (.lit (.int .i64 (-1)), [])
  | .pointer (some ⟨b, 0, none⟩) => some (.lit (.int .i64 (b : Int)), [])
  | _ => none
theorem rdP_inv {v : Value} {c : Int} {ps : List MemPlace} (h : rdP v = some (.lit (.int .i64 c), ps)) : (c = -1 ∧ v = .pointer none) ∨ ∃ b : Nat, c = (b : Int) ∧ v = .pointer (some ⟨b, 0, none⟩) := by
  unfold rdP at h
  split at h
  · simp at h
    exact .inl ⟨h.1.symm, rfl⟩
  · rename_i b
    simp at h
    exact .inr ⟨b, h.1.symm, rfl⟩
  · cases h
/-- The element with a ticket. -/
def fnd (L : List El) (z : Int) : Option El := L.find? fun x => decide ((x.t : Int) = z)
def fb (L : List El) (z : Int) : Int := match fnd L z with
  | some x => (x.b : Int)
  | none => -1
/-- No ticket twice. -/
abbrev Tn (L : List El) : Prop := (L.map El.t).Nodup
theorem fnd_some {L : List El} {z : Int} {x : El} (h : fnd L z = some x) : x ∈ L ∧ (x.t : Int) = z := ⟨List.mem_of_find?_eq_some h, by simpa using List.find?_some h⟩
theorem fnd_none {L : List El} {z : Int} (h : fnd L z = none) : ∀ x ∈ L, (x.t : Int) ≠ z := fun x hx => by
  have := List.find?_eq_none.1 h x hx
  simpa using this
theorem tn_inj {L : List El} (hn : Tn L) {x y : El} (hx : x ∈ L) (hy : y ∈ L) (h : x.t = y.t) : x = y := by
  induction L with
  | nil => cases hx
  | cons a t ih =>
    unfold Tn at hn
    rw [List.map_cons, List.nodup_cons] at hn
    rcases List.mem_cons.1 hx with e1 | hx'
    · rcases List.mem_cons.1 hy with e2 | hy'
      · rw [e1, e2]
      · exact absurd (List.mem_map.2 ⟨y, hy', by rw [← h, e1]⟩) hn.1
    · rcases List.mem_cons.1 hy with e2 | hy'
      · exact absurd (List.mem_map.2 ⟨x, hx', by rw [h, e2]⟩) hn.1
      · exact ih hn.2 hx' hy'
theorem fnd_of {L : List El} (hn : Tn L) {x : El} (hx : x ∈ L) : fnd L (x.t : Int) = some x := by
  cases h : fnd L (x.t : Int) with
  | none => exact absurd rfl (fnd_none h x hx)
  | some y =>
    obtain ⟨h1, h2⟩ := fnd_some h
    have : y.t = x.t := by omega
    rw [tn_inj hn h1 hx this]
theorem fnd_mid {A B : List El} {e : El} (he : ∀ x ∈ A ++ B, x.t ≠ e.t) (z : Int) : fnd (A ++ e :: B) z = if z = (e.t : Int) then some e else fnd (A ++ B) z := by
  unfold fnd
  by_cases hz : z = (e.t : Int)
  · subst hz
    rw [if_pos rfl, List.find?_append, List.find?_cons_of_pos (by simp)]
    have : A.find? (fun x => decide ((x.t : Int) = (e.t : Int))) = none := by
      rw [List.find?_eq_none]
      intro x hx
      have := he x (List.mem_append_left _ hx)
      simp
      omega
    rw [this]
    rfl
  · rw [if_neg hz, List.find?_append, List.find?_append, List.find?_cons_of_neg (by simp; omega)]
theorem tn_mid {A B : List El} {e : El} : Tn (A ++ e :: B) ↔ Tn (A ++ B) ∧ ∀ x ∈ A ++ B, x.t ≠ e.t := by
  unfold Tn
  rw [List.map_append, List.map_cons, (List.perm_middle).nodup_iff, List.nodup_cons, ← List.map_append]
  constructor
  · rintro ⟨h1, h2⟩
    exact ⟨h2, fun x hx e1 => h1 (List.mem_map.2 ⟨x, hx, e1⟩)⟩
  · rintro ⟨h1, h2⟩
    refine ⟨fun h => ?_, h1⟩
    obtain ⟨x, hx, e1⟩ := List.mem_map.1 h
    exact h2 x hx e1
/-- The datum D tells which elements L has. -/
def Tells (D : DataW Unit) (L : List El) : Prop :=
  (∀ z : Int, Maps.has D (.int .i64 z) = (fnd L z).isSome ∧ D.atKey (.int .i64 z) (.lit (.int .i64 (-1))) = .lit (.int .i64 (fb L z))) ∧ Maps.size D = L.length
/-- In block M lies a map from their tickets to the elements L. -/
def MapT (w : World) (M : Nat) (L : List El) : Prop := ∃ D : DataW Unit, w.ownsMap Try.prog 3 rdP M L.length D ∧ Tells D L

/-- An element's pointer, or none. -/
def oV : Option El → Value
  | some x => pV x
  | none => .pointer none
theorem MapT.made (w : World) : MapT (w.alloc (.map #[] 0)) w.heap.size [] := ⟨.map [], World.ownsMap_made _ _ _ _, fun _ => ⟨rfl, rfl⟩, rfl⟩
theorem MapT.kept {S : Nat → Prop} {w w' : World} {M : Nat} {L : List El} (h : MapT w M L) (hk : Kept S w w') (hS : ¬ S M) : MapT w' M L := by
  obtain ⟨D, ⟨es, clock, hb, hh⟩, ht⟩ := h
  exact ⟨D, ⟨es, clock, hk.at hb hS, hh⟩, ht⟩
theorem MapT.block {w : World} {M : Nat} {L : List El} (h : MapT w M L) : ∃ es clock, w.heap[M]? = some (.map es clock) := by
  obtain ⟨D, ⟨es, clock, hb, _⟩, _⟩ := h
  exact ⟨es, clock, hb⟩
theorem MapT.not_cells {w : World} {M : Nat} {L : List El} (h : MapT w M L) {k : Nat} {c : Array Value} {t : TypeId} {fr : Nat × Nat} (hk : w.heap[k]? = some (.cells c t fr)) : k ≠ M := fun e => by
  obtain ⟨es, clock, hb⟩ := h.block
  rw [e, hb] at hk
  cases hk
theorem MapT.len {w : World} {M : Nat} {L : List El} (h : MapT w M L) (ty : TypeId) : (Builtin.len_ #[98] ty #[.map (some M)]).run Try.prog w = .ok (.int .i64 (L.length : Int)) w := by
  obtain ⟨D, ho, _, hs⟩ := h
  rw [ho.len Try.underlying98 ty, hs]
theorem MapT.look {w : World} {M : Nat} {L : List El} (h : MapT w M L) {z : Int} (hz : (Lit.int .i64 z).wf = true) :
    (Instr.lookup 98 (.map (some M)) (.int .i64 z) false).run Try.prog w = .ok (oV (fnd L z)) w := by
  obtain ⟨D, ho, ht, _⟩ := h
  obtain ⟨v, ps, hr, hv⟩ := ho.lookup mlaw Try.underlying98 (Try.zeroValue130 w) (zd := .lit (.int .i64 (-1))) (zp := []) rfl (keyOf_int_mk Try.underlying3 hz)
  rw [(ht z).2] at hv
  rw [hr]
  refine congrArg (fun u => Result.ok u w) ?_
  cases hf : fnd L z with
  | none =>
    unfold fb at hv
    simp only [hf] at hv
    rcases rdP_inv hv with ⟨_, e⟩ | ⟨b, e, _⟩
    · exact e
    · omega
  | some x =>
    unfold fb at hv
    simp only [hf] at hv
    rcases rdP_inv hv with ⟨e, _⟩ | ⟨b, e, e2⟩
    · omega
    · have : x.b = b := by omega
      rw [e2, ← this]
      rfl
theorem MapT.store {w : World} {M : Nat} {A B : List El} {e : El} (h : MapT w M (A ++ B)) (hl : (A ++ B).length ≤ 65536) (hz : (Lit.int .i64 (e.t : Int)).wf = true) (he : ∀ x ∈ A ++ B, x.t ≠ e.t) :
    ∃ w', (Instr.mapUpdate 98 (.map (some M)) (.int .i64 (e.t : Int)) (pV e)).run Try.prog w = .ok () w' ∧ MapT w' M (A ++ e :: B) ∧ w.grownBy w' (some M) := by
  obtain ⟨D, ho, ht, hs⟩ := h
  obtain ⟨w', hr, ho', hg⟩ := ho.update mlaw Try.underlying98 (by unfold maxLen; omega) (keyOf_int_mk Try.underlying3 hz) (val := pV e) (d := .lit (.int .i64 (e.b : Int))) (ps := []) rfl
  have hle : (A ++ e :: B).length = (A ++ B).length + 1 := by simp; omega
  refine ⟨w', hr, ⟨_, by rw [hle]; exact ho', fun z => ?_, ?_⟩, hg⟩
  · unfold fb
    rw [fnd_mid he]
    by_cases e1 : z = (e.t : Int)
    · subst e1
      rw [if_pos rfl, has_put_same (k := .int .i64 (e.t : Int)) ho.isMap trivial, atKey_put_same (k := .int .i64 (e.t : Int)) ho.isMap trivial]
      exact ⟨rfl, rfl⟩
    · rw [if_neg e1, has_put_other (fun h => e1 (by simpa using h)), atKey_put_other (fun h => e1 (by simpa using h))]
      exact ht z
  · rw [size_put (ho.tidy mlaw), (ht (e.t : Int)).1, hle, hs]
    cases hf : fnd (A ++ B) (e.t : Int) with
    | none => simp
    | some x =>
      obtain ⟨h1, h2⟩ := fnd_some hf
      exact absurd (by omega) (he x h1)
theorem MapT.drop {w : World} {M : Nat} {A B : List El} {e : El} (h : MapT w M (A ++ e :: B)) (hz : (Lit.int .i64 (e.t : Int)).wf = true) (he : ∀ x ∈ A ++ B, x.t ≠ e.t) (ty : TypeId) :
    ∃ w', (Builtin.delete_ #[98, 3] ty #[.map (some M), .int .i64 (e.t : Int)]).run Try.prog w = .ok (.tuple #[]) w' ∧ MapT w' M (A ++ B) ∧ w.grownBy w' (some M) := by
  obtain ⟨D, ho, ht, hs⟩ := h
  obtain ⟨w', hr, ho', hg⟩ := ho.drop mlaw Try.underlying98 (keyOf_int_mk Try.underlying3 hz) ty
  have hle : (A ++ e :: B).length = (A ++ B).length + 1 := by simp; omega
  have hsz : Maps.size (D.del (.int .i64 (e.t : Int))) = (A ++ B).length := by
    have h1 := size_del (k := .int .i64 (e.t : Int)) (ho.tidy mlaw)
    rw [(ht (e.t : Int)).1, fnd_mid he, if_pos rfl, hs, hle] at h1
    simp at h1
    simp
    omega
  refine ⟨w', hr, ⟨_, ?_, fun z => ?_, hsz⟩, hg.grown⟩
  · obtain ⟨es, clock, hb, F, _, hDe⟩ := ho'
    rw [← hsz, hDe]
    exact ⟨es, clock, hb, F, by simp [Maps.size, length_sorted], rfl⟩
  · have h2 := ht z
    unfold fb at h2 ⊢
    rw [fnd_mid he] at h2
    by_cases e1 : z = (e.t : Int)
    · subst e1
      have hnone : fnd (A ++ B) (e.t : Int) = none := by
        unfold fnd
        rw [List.find?_eq_none]
        intro x hx
        have := he x hx
        simp
        omega
      rw [has_del_same, atKey_del_same, hnone]
      exact ⟨rfl, rfl⟩
    · rw [if_neg e1] at h2
      rw [has_del_other (fun h => e1 (by simpa using h)), atKey_del_other (fun h => e1 (by simpa using h))]
      exact h2
end Go.Proofs.Ytonpdnpfekmapaa
