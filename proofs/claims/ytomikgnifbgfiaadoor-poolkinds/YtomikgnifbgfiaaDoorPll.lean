/-
  A map from places to what they have, as the statement PoolLeast keeps one; a list of numbers.
-/
import Derived.Test.YtomikgnifbgfiaaDoorPlk
import Derived.Maps.OwnSet
import Derived.Maps.OwnOps
namespace Go.Proofs.YtomikgnifbgfiaaDoor
open Go.ChangeShapes Go.WideShapes Go.ChangeAt Go.RowKit Go.Maps

theorem mlaw : Keyed Tryd.prog 3 := int_keyed Tryd.underlying3
theorem zeroI (w : World) : (zeroValue 3).run Tryd.prog w = .ok (.int .i64 0) w := by kernel_rfl
theorem wf64 {z : Int} (h1 : -9223372036854775808 ≤ z) (h2 : z ≤ 9223372036854775807) : (Lit.int .i64 z).wf = true := by
  simp [Lit.wf, IntKind.min, IntKind.max, IntKind.signed, IntKind.bits]
  omega

/-- The datum D tells what the places of l have. -/
def Tells (D : DataW Unit) (l : List (Option Int)) : Prop :=
  (∀ z : Int, Maps.has D (.int .i64 z) = (gt l z).isSome ∧ D.atKey (.int .i64 z) (.lit (.int .i64 0)) = .lit (.int .i64 ((gt l z).getD 0))) ∧ Maps.size D = used l
/-- In block M lies a map that tells what the places of l have. -/
def MapIs (w : World) (M n : Nat) (l : List (Option Int)) : Prop := ∃ D : DataW Unit, w.ownsMap Tryd.prog 3 (plainElem Tryd.prog 3) M n D ∧ Tells D l

theorem gt_none (n : Nat) (z : Int) : gt (List.replicate n none) z = none := by
  unfold gt
  split
  · rw [List.getD_eq_getElem?_getD, List.getElem?_replicate]
    split <;> rfl
  · rfl
theorem used_none (n : Nat) : used (List.replicate n none) = 0 := by
  unfold used
  rw [List.countP_eq_zero]
  intro x hx
  rw [(List.mem_replicate.1 hx).2]
  simp
theorem gt_set (l : List (Option Int)) (k : Nat) (o : Option Int) (hk : k < l.length) (z : Int) : gt (l.set k o) z = if z = (k : Int) then o else gt l z := by
  unfold gt
  rw [List.length_set]
  by_cases e : z = (k : Int)
  · subst e
    rw [if_pos ⟨by omega, by omega⟩, if_pos rfl, Int.toNat_natCast, List.getD_eq_getElem?_getD, List.getElem?_set]
    simp [hk]
  · rw [if_neg e]
    split
    · rename_i h
      rw [List.getD_eq_getElem?_getD, List.getD_eq_getElem?_getD, List.getElem?_set]
      have : ¬ k = z.toNat := by omega
      rw [if_neg this]
    · rfl
theorem used_set (l : List (Option Int)) (k : Nat) (o : Option Int) (hk : k < l.length) : used (l.set k o) + (if (l.getD k none).isSome then 1 else 0) = used l + (if o.isSome then 1 else 0) := by
  unfold used
  have h1 : l = l.take k ++ l[k] :: l.drop (k + 1) := by rw [List.getElem_cons_drop, List.take_append_drop]
  have h2 : l.set k o = l.take k ++ o :: l.drop (k + 1) := by rw [List.set_eq_take_append_cons_drop, if_pos hk]
  rw [h2, getD_some hk]
  conv => rhs; rw [h1]
  rw [List.countP_append, List.countP_append, List.countP_cons, List.countP_cons]
  omega

theorem MapIs.made (w : World) (n : Nat) : MapIs (w.alloc (.map #[] 0)) w.heap.size 0 (List.replicate n none) :=
  ⟨.map [], World.ownsMap_made _ _ _ _, fun z => by rw [gt_none]; exact ⟨rfl, rfl⟩, by rw [used_none]; rfl⟩
theorem MapIs.kept {S : Nat → Prop} {w w' : World} {M n : Nat} {l : List (Option Int)} (h : MapIs w M n l) (hk : Kept S w w') (hS : ¬ S M) : MapIs w' M n l := by
  obtain ⟨D, ⟨es, clock, hb, hh⟩, ht⟩ := h
  exact ⟨D, ⟨es, clock, hk.at hb hS, hh⟩, ht⟩
theorem MapIs.block {w : World} {M n : Nat} {l : List (Option Int)} (h : MapIs w M n l) : ∃ es clock, w.heap[M]? = some (.map es clock) := by
  obtain ⟨D, ⟨es, clock, hb, _⟩, _⟩ := h
  exact ⟨es, clock, hb⟩
theorem MapIs.look {w : World} {M n : Nat} {l : List (Option Int)} (h : MapIs w M n l) {z : Int} (hz : (Lit.int .i64 z).wf = true) :
    (Instr.lookup 37 (.map (some M)) (.int .i64 z) true).run Tryd.prog w = .ok (.tuple #[.int .i64 ((gt l z).getD 0), .bool (gt l z).isSome]) w := by
  obtain ⟨D, ho, ht, _⟩ := h
  obtain ⟨v, ps, hr, hv⟩ := ho.look_ok mlaw Tryd.underlying37 (zeroI w) (plainElem_int Tryd.underlying3 (wf64 (z := 0) (by omega) (by omega))) (keyOf_int_mk Tryd.underlying3 hz)
  obtain ⟨c, rfl, hc, _⟩ := plainElem_int_inv Tryd.underlying3 hv
  have e1 := congrArg Prod.fst hc
  simp only at e1
  rw [(ht z).2] at e1
  simp only [DataW.lit.injEq, Lit.int.injEq, true_and] at e1
  rw [hr, (ht z).1, ← e1]
theorem MapIs.len {w : World} {M n : Nat} {l : List (Option Int)} (h : MapIs w M n l) (ty : TypeId) : (Builtin.len_ #[37] ty #[.map (some M)]).run Tryd.prog w = .ok (.int .i64 (used l : Int)) w := by
  obtain ⟨D, ho, _, hs⟩ := h
  rw [ho.len Tryd.underlying37 ty, hs]
theorem MapIs.store {w : World} {M n : Nat} {l : List (Option Int)} (h : MapIs w M n l) (hn : n < maxLen) {k : Nat} (hk : k < l.length) (hk2 : l.length ≤ 65536) (hf : l.getD k none = none) {x : Int} (hx : (Lit.int .i64 x).wf = true) :
    ∃ w', (Instr.mapUpdate 37 (.map (some M)) (.int .i64 (k : Int)) (.int .i64 x)).run Tryd.prog w = .ok () w' ∧ MapIs w' M (n + 1) (l.set k (some x)) ∧ w.grownBy w' (some M) := by
  obtain ⟨D, ho, ht, hs⟩ := h
  obtain ⟨w', hr, ho', hg⟩ := ho.update mlaw Tryd.underlying37 hn (keyOf_int_mk Tryd.underlying3 (wf64 (z := (k : Int)) (by omega) (by omega))) (plainElem_int Tryd.underlying3 hx)
  refine ⟨w', hr, ⟨_, ho', fun z => ?_, ?_⟩, hg⟩
  · rw [gt_set l k (some x) hk]
    by_cases e : z = (k : Int)
    · subst e
      rw [if_pos rfl, has_put_same (k := .int .i64 (k : Int)) ho.isMap trivial, atKey_put_same (k := .int .i64 (k : Int)) ho.isMap trivial]
      exact ⟨rfl, rfl⟩
    · rw [if_neg e, has_put_other (fun h => e (by simpa using h)), atKey_put_other (fun h => e (by simpa using h))]
      exact ht z
  · rw [size_put (ho.tidy mlaw), (ht (k : Int)).1, gt_nat l k hk, hf]
    have := used_set l k (some x) hk
    rw [hf] at this
    simp at this
    simp
    omega
theorem MapIs.drop {w : World} {M n : Nat} {l : List (Option Int)} (h : MapIs w M n l) {z : Int} (hz : (Lit.int .i64 z).wf = true) (ty : TypeId) :
    ∃ w', (Builtin.delete_ #[37, 3] ty #[.map (some M), .int .i64 z]).run Tryd.prog w = .ok (.tuple #[]) w' ∧ MapIs w' M n (gvL l z) ∧ w.grownBy w' (some M) := by
  obtain ⟨D, ho, ht, hs⟩ := h
  obtain ⟨w', hr, ho', hg⟩ := ho.drop mlaw Tryd.underlying37 (keyOf_int_mk Tryd.underlying3 hz) ty
  refine ⟨w', hr, ⟨_, ho', fun y => ?_, ?_⟩, hg.grown⟩
  · unfold gvL
    cases hgz : gt l z with
    | none =>
      rw [del_of_not_has (by rw [(ht z).1, hgz]; rfl)]
      simp only [Option.isSome_none, Bool.false_eq_true, if_false]
      exact ht y
    | some a =>
      obtain ⟨k, rfl, hk, hka⟩ := gt_some hgz
      simp only [Option.isSome_some, if_true, Int.toNat_natCast]
      rw [gt_set l k none hk]
      by_cases e : y = (k : Int)
      · subst e
        rw [if_pos rfl, has_del_same, atKey_del_same]
        exact ⟨rfl, rfl⟩
      · rw [if_neg e, has_del_other (fun h => e (by simpa using h)), atKey_del_other (fun h => e (by simpa using h))]
        exact ht y
  · have h1 := size_del (k := .int .i64 z) (ho.tidy mlaw)
    rw [(ht z).1] at h1
    unfold gvL
    cases hgz : gt l z with
    | none => rw [hgz] at h1; simp at h1 ⊢; omega
    | some a =>
      obtain ⟨k, rfl, hk, hka⟩ := gt_some hgz
      rw [hgz] at h1
      have h2 := used_set l k none hk
      rw [hka] at h2
      simp at h1 h2 ⊢
      omega

/-- A list of numbers that came in. -/
def GvAt (w : World) (v : Value) (zs : List Int) : Prop :=
  ∃ ao cap, v = .slice ao zs.length cap ∧ zs.length ≤ 140737488351232 ∧ (zs ≠ [] → ∃ b off, ao = some ⟨b, off, none⟩ ∧ b < w.heap.size ∧ ∀ i, i < zs.length → w.cell? ⟨b, off + i, none⟩ = some (.int .i64 (zs.getD i 0))) ∧ ∀ z ∈ zs, (Lit.int .i64 z).wf = true
theorem GvAt.at {w W : World} {v : Value} {zs : List Int} (h : GvAt w v zs) (hk : Fresh w W) {i : Nat} (hi : i < zs.length) : ∃ b off cap, v = .slice (some ⟨b, off, none⟩) zs.length cap ∧ W.cell? ⟨b, off + i, none⟩ = some (.int .i64 (zs.getD i 0)) ∧ (Lit.int .i64 (zs.getD i 0)).wf = true ∧ b < w.heap.size := by
  obtain ⟨ao, cap, hv, _, hc, hw⟩ := h
  obtain ⟨b, off, ha, hb, hcl⟩ := hc (fun e => by rw [e] at hi; simp at hi)
  refine ⟨b, off, cap, by rw [hv, ha], (hk.cell (p := ⟨b, off + i, none⟩) hb (fun e => e)).trans (hcl i hi), hw _ ?_, hb⟩
  rw [List.getD_eq_getElem?_getD, List.getElem?_eq_getElem hi]
  exact List.getElem_mem hi
theorem gv_of {H : Type} {enc : TypeId × Value → H} {W : World} {fuel : Nat} {v : Value} {x : DataW H × List MemPlace} (h : DataW.trod enc Tryd.prog W 0 (fun _ => true) true fuel 36 [v] = some x)
    (hsz : ∀ es sp, x.1 = .slice es sp → es.length ≤ 140737488351232) : ∃ zs : List Int, GvAt W v zs := by
  rcases open_ints Tryd.underlying36 Tryd.underlying3 Tryd.cI h with ⟨hcs, hx⟩ | ⟨a, len, cap, zs, hcs, _, hl, hm, hz, hx, hcell, hwz⟩
  · exact ⟨[], none, 0, by simpa using hcs, by simp, fun h0 => absurd rfl h0, by simp⟩
  · simp only [if_true] at hz
    have htl : (zs.take len).length = len := by rw [List.length_take]; omega
    refine ⟨zs.take len, some a, cap, ?_, ?_, fun h0 => ?_, ?_⟩
    · rw [htl]; simpa using hcs
    · have := hsz _ _ (by rw [hx])
      simpa [lits] using this
    · have hpos : 0 < len := by
        rcases Nat.eq_zero_or_pos len with e | e
        · subst e; simp at h0
        · exact e
      obtain ⟨b, off, rfl, hc⟩ := ints_at hcell (by omega)
      refine ⟨b, off, rfl, ?_, fun i hi => ?_⟩
      · have := World.block_lt_of_cell? W _ (hc 0 (by omega)); simpa using this
      · rw [htl] at hi
        rw [hc i (by omega), List.getD_eq_getElem?_getD, List.getD_eq_getElem?_getD, List.getElem?_take_of_lt hi]
    · intro z hzm
      exact hwz z (List.mem_of_mem_take hzm)
theorem Tryd.bI : Tryd.prog.bytesOf 3 = 8 := by kernel_rfl

/-- What holds between two rounds of PoolLeast. -/
structure LeastSt (w wr : World) (F : Nat → Prop) (b M n : Nat) (l : List (Option Int)) : Prop where
  pool : PoolAt wr F b l
  map : MapIs wr M n l
  new : ∀ k, F k → w.heap.size ≤ k
  mnew : w.heap.size ≤ M
  fr : Fresh w wr
theorem map_apart {w : World} {F : Nat → Prop} {b M n : Nat} {l m : List (Option Int)} (hp : PoolAt w F b l) (hm : MapIs w M n m) : ¬ F M := fun e => by
  obtain ⟨cs, t, fz, h1, _⟩ := hp.type e
  obtain ⟨es, clock, h2⟩ := hm.block
  rw [h1] at h2
  simp at h2
end Go.Proofs.YtomikgnifbgfiaaDoor
