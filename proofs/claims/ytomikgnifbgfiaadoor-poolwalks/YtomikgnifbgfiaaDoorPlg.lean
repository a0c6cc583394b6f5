/-
  The document's pool: a list of places in memory; what its calls answer.
-/
import Derived.Test.YtomikgnifbgfiaaDoorPle
import Derived.Lib.AppendZeros
namespace Go.Proofs.YtomikgnifbgfiaaDoor
open Go.RowKit

/-- A place's cells. -/
def rV (l : List (Option Int)) : List Value := l.flatMap fun o => [.bool o.isSome, .int .i64 (o.getD 0)]
theorem rV_cons (o : Option Int) (l : List (Option Int)) : rV (o :: l) = .bool o.isSome :: .int .i64 (o.getD 0) :: rV l := by simp [rV]
theorem rV_length : ∀ l : List (Option Int), (rV l).length = l.length * 2
  | [] => rfl
  | o :: l => by rw [rV_cons]; simp only [List.length_cons, rV_length l]; omega
theorem rV_at : ∀ (l : List (Option Int)) (k : Nat), k < l.length → (rV l)[k * 2]? = some (.bool (l.getD k none).isSome) ∧ (rV l)[k * 2 + 1]? = some (.int .i64 ((l.getD k none).getD 0))
  | o :: l, 0, _ => by simp [rV_cons]
  | o :: l, k + 1, h => by
    have := rV_at l k (by simpa using h)
    rw [rV_cons, show (k + 1) * 2 = k * 2 + 1 + 1 by omega]
    simpa using this
theorem rV_set : ∀ (l : List (Option Int)) (k : Nat) (o : Option Int), ((rV l).set (k * 2) (.bool o.isSome)).set (k * 2 + 1) (.int .i64 (o.getD 0)) = rV (l.set k o)
  | [], k, o => by simp [rV]
  | a :: l, 0, o => by simp [rV_cons]
  | a :: l, k + 1, o => by
    have := rV_set l k o
    rw [rV_cons, show (k + 1) * 2 = k * 2 + 1 + 1 by omega]
    simp only [List.set_cons_succ, rV_cons]
    rw [this]
theorem rV_snoc (l : List (Option Int)) (o : Option Int) : rV (l ++ [o]) = rV l ++ [.bool o.isSome, .int .i64 (o.getD 0)] := by simp [rV]
theorem rV_one (l : List (Option Int)) : ∀ u ∈ rV l, u.oneCell' = true := by
  intro u hu
  simp only [rV, List.mem_flatMap] at hu
  obtain ⟨o, _, h⟩ := hu
  simp only [List.mem_cons, List.not_mem_nil, or_false] at h
  rcases h with rfl | rfl <;> rfl

/-- The document's pool. -/
def RefAt (w : World) (v : Value) (l : List (Option Int)) : Prop := w.ownsRow 0 66 2 v l.length (rV l) ∧ l.length ≤ 65536
theorem RefAt.fresh {w w' : World} {v : Value} {l : List (Option Int)} (h : RefAt w v l) (hk : Fresh w w') : RefAt w' v l := ⟨owns_kept h.1 hk (fun _ _ e => e), h.2⟩
/-- A pool's calls leave it. -/
theorem RefAt.kept {w w' : World} {v : Value} {l m : List (Option Int)} {F : Nat → Prop} {b : Nat} (h : RefAt w v l) (hp : PoolAt w F b m) (hk : Kept F w w') : RefAt w' v l :=
  ⟨owns_kept h.1 hk (fun g hg e => by
    obtain ⟨cs, t, fz, h1, h2⟩ := hp.type e
    refine row_ne h.1 h1 ?_ hg
    rcases h2 with e | e | e <;> rw [e] <;> decide), h.2⟩
theorem RefAt.at {w : World} {v : Value} {l : List (Option Int)} (h : RefAt w v l) {k : Nat} (hk : k < l.length) : ∃ g cap, v = .slice (some ⟨g, 0, none⟩) l.length cap ∧ w.cell? ⟨g, k * 2, none⟩ = some (.bool (l.getD k none).isSome) ∧ w.cell? ⟨g, k * 2 + 1, none⟩ = some (.int .i64 ((l.getD k none).getD 0)) := by
  obtain ⟨g, cap, hv, _, _⟩ := h.1.form (by omega)
  have h1 := h.1
  rw [hv] at h1
  obtain ⟨q1, q2⟩ := rV_at l k hk
  exact ⟨g, cap, hv, by rw [h1.cellAt _ (by omega), q1], by rw [h1.cellAt _ (by omega), q2]⟩

theorem Tryd.infoP : (Tryd.prog.info? 66).map (fun i => (i.zero, i.size, i.bytes)) = some (some (.agg #[.bool false, .int .i64 0]), 2, 16) := by kernel_rfl

/-- append([]Place(), l...). -/
theorem twinP (ty : TypeId) (W : World) (B : Nat) (v0 : Value) (hown : W.ownsRow B 66 2 v0 0 []) (hB : B ≤ W.heap.size) (v : Value) (l : List (Option Int)) (hl : 0 < l.length) (hr : RefAt W v l) :
    ∃ tv W', (Builtin.append_ #[24, 24] ty #[v0, v]).run Tryd.prog W = .ok tv W' ∧ W'.ownsRow B 66 2 tv l.length (rV l) ∧ W.grownBy W' v0.ownBlock := by
  obtain ⟨i0, hi, hz0, hz1, hz2⟩ := info_parts Tryd.infoP
  obtain ⟨g, cap, rfl, _, _⟩ := hr.1.form hl
  have hll := hr.2
  obtain ⟨v', w', h1, h2, h3, _⟩ := run_append_own (P := Tryd.prog) W B 24 ty 66 i0 _ 2 16 Tryd.underlying24 hi hz0 hz1 hz2 rfl (by omega) v0 0 [] hown ⟨g, 0, none⟩ l.length cap (rV l) (rV_length l)
    (fun j u hj => by
      have hj' : j < l.length * 2 := by have := (List.getElem?_eq_some_iff.1 hj).1; rw [rV_length] at this; exact this
      have := hr.1.cellAt j hj'
      rw [hj] at this
      rw [Addr.add_lit, Nat.zero_add]
      exact this)
    (rV_one l) (by unfold maxLen; omega) (by omega) hB
  rw [Nat.zero_add, List.nil_append] at h2
  exact ⟨v', w', h1, h2, h3⟩
theorem ownP_empty (w : World) : (w.alloc (.cells #[] 66)).ownsRow w.heap.size 66 2 (.slice (some ⟨w.heap.size, 0, none⟩) 0 0) 0 [] :=
  ⟨rfl, .inr ⟨w.heap.size, 0, #[], rfl, Nat.le_refl _, heap_alloc_new w _, Nat.le_refl _, Nat.zero_le _, rfl, rfl⟩⟩

set_option maxHeartbeats 1000000 in
set_option maxRecDepth 100000 in
theorem put_ref (v : Value) (l : List (Option Int)) (k : Nat) (o : Option Int) (w : World) (h : RefAt w v l) (hk : k < l.length) :
    Calls Tryd.prog 43 #[v, .int .i64 (k : Int), .agg #[.bool o.isSome, .int .i64 (o.getD 0)]] w fun e w' => ∃ v', e = .returned v' ∧ RefAt w' v' (l.set k o) ∧ Fresh w w' := by
  obtain ⟨g, cap, hv, _, _⟩ := id h.1.form (by omega)
  have hll := h.2
  have hF0 : Fresh w ((w.alloc (.cells #[.bool o.isSome, .int .i64 (o.getD 0)] 66)).alloc (.cells #[] 66)) := ((Kept.refl _ w).alloc _).alloc _
  have hE := ownP_empty (w.alloc (.cells #[.bool o.isSome, .int .i64 (o.getD 0)] 66))
  rw [World.size_alloc] at hE
  have hRF := h.fresh hF0
  obtain ⟨tv, W1, hrun, hown1, hgrow⟩ := twinP 24 _ _ _ hE (by simp) v l (Nat.lt_of_le_of_lt (Nat.zero_le k) hk) hRF
  have hF1 : Fresh w W1 := hF0.grown hgrow (fun i hi e => by simp [Value.ownBlock] at e; omega)
  have bX : W1.heap[w.heap.size]? = some (.cells #[.bool o.isSome, .int .i64 (o.getD 0)] 66 (0, 0)) := by
    rw [hgrow.block w.heap.size (by simp; omega) (fun e => by simp [Value.ownBlock] at e)]
    exact (Below.heap_alloc _ _ _ (by simp)).trans (heap_alloc_new w _)
  obtain ⟨g1, cap1, rfl, hg1, _⟩ := hown1.form (by omega)
  have x0 : W1.cell? ⟨w.heap.size, 0, none⟩ = some (.bool o.isSome) := by simp [World.cell?, bX]
  have x1 : W1.cell? ⟨w.heap.size, 1, none⟩ = some (.int .i64 (o.getD 0)) := by simp [World.cell?, bX]
  obtain ⟨q1, q2⟩ := rV_at l k hk
  have d0 := hown1.cellAt (k * 2) (by omega)
  have d1 := hown1.cellAt (k * 2 + 1) (by omega)
  rw [q1] at d0
  rw [q2] at d1
  have f0 := hown1.frozenAt (k * 2)
  have f1 := hown1.frozenAt (k * 2 + 1)
  have hs := ((hown1.stored (k * 2) (.bool o.isSome)).1.stored (k * 2 + 1) (.int .i64 (o.getD 0))).1
  rw [rV_set] at hs
  have HR : Hid (RefAt ((W1.setCell ⟨g1, k * 2, none⟩ (.bool o.isSome)).setCell ⟨g1, k * 2 + 1, none⟩ (.int .i64 (o.getD 0))) (.slice (some ⟨g1, 0, none⟩) l.length cap1) (l.set k o)) :=
    ⟨by rw [List.length_set]; exact owns_base hs, by rw [List.length_set]; exact hll⟩
  have hg1' : w.heap.size ≤ g1 := by omega
  have HF : Hid (Fresh w ((W1.setCell ⟨g1, k * 2, none⟩ (.bool o.isSome)).setCell ⟨g1, k * 2 + 1, none⟩ (.int .i64 (o.getD 0)))) :=
    (hF1.setCell (p := ⟨g1, k * 2, none⟩) (fun e => by simp at e; omega) _).setCell (p := ⟨g1, k * 2 + 1, none⟩) (fun e => by simp at e; omega) _
  subst hv
  clear hF0 hF1 hgrow hown1 bX q1 q2 hs h
  generalize (l.getD k none).isSome = y0 at *
  generalize (l.getD k none).getD 0 = y1 at *
  clear hE hRF
  go_enter Tryd.func43, Tryd.ntmps43
  go_wp2_with (at_builtin; refine Lib.wpList_append_run _ rfl _ _ _ _ rfl _ _ rfl rfl _ _ hrun ?_)
  clear hrun
  go_ret
  exact ⟨_, rfl, HR.out, HF.out⟩

theorem gt_nat (l : List (Option Int)) (k : Nat) (h : k < l.length) : gt l (k : Int) = l.getD k none := by
  unfold gt
  rw [if_pos ⟨by omega, by omega⟩, Int.toNat_natCast]

set_option maxHeartbeats 400000 in
theorem taken_ref (v : Value) (l : List (Option Int)) (p : Int) (w : World) (h : RefAt w v l) :
    Calls Tryd.prog 26 #[v, .int .i64 p] w fun e w' => e = .returned (.bool (gt l p).isSome) ∧ w' = w := by
  have hll := h.2
  by_cases h0 : 0 ≤ p
  · obtain ⟨k, rfl⟩ := Int.eq_ofNat_of_zero_le h0
    by_cases h1 : k < l.length
    · obtain ⟨g, cap, rfl, c0, c1⟩ := h.at h1
      rw [gt_nat l k h1]
      generalize (l.getD k none).isSome = y0 at *
      clear h
      go_enter Tryd.func26, Tryd.ntmps26
      go_wp2
      go_ret
      exact ⟨rfl, rfl⟩
    · have e : gt l (k : Int) = none := by unfold gt; rw [if_neg (by omega)]
      rw [e]
      obtain ⟨ao, cap, rfl⟩ := slice_shape h.1
      clear h e
      go_enter Tryd.func26, Tryd.ntmps26
      go_wp2
      go_ret
      exact ⟨rfl, rfl⟩
  · have e : gt l p = none := by unfold gt; rw [if_neg (by omega)]
    rw [e]
    clear h e
    go_enter Tryd.func26, Tryd.ntmps26
    go_wp2
    go_ret
    exact ⟨rfl, rfl⟩

/-- A taken place is one. -/
theorem gt_some {l : List (Option Int)} {p x : Int} (h : gt l p = some x) : ∃ k : Nat, p = (k : Int) ∧ k < l.length ∧ l.getD k none = some x := by
  unfold gt at h
  split at h
  · rename_i e
    exact ⟨p.toNat, by omega, by omega, h⟩
  · cases h

set_option maxHeartbeats 400000 in
theorem get_ref (v : Value) (l : List (Option Int)) (p : Int) (w : World) (h : RefAt w v l) :
    Calls Tryd.prog 32 #[v, .int .i64 p] w fun e w' => e = .returned (.tuple #[.int .i64 ((gt l p).getD 0), .bool (gt l p).isSome]) ∧ w' = w := by
  have ht := fun (_ : Unit) => taken_ref v l p w h
  have HT := show Hid _ from ht
  clear ht
  have hll := h.2
  cases hg : gt l p with
  | none =>
    rw [hg] at HT
    clear h
    go_enter Tryd.func32, Tryd.ntmps32
    go_wp2_with fail
    refine (HT.out ()).mono ?_
    rintro e w' ⟨rfl, rfl⟩
    simp only [Option.isSome_none]
    go_wp2
    go_ret2
    exact ⟨rfl, rfl⟩
  | some x =>
    rw [hg] at HT
    obtain ⟨k, rfl, hk, hx⟩ := gt_some hg
    obtain ⟨g, cap, rfl, c0, c1⟩ := h.at hk
    rw [hx] at c1
    simp only [Option.getD_some] at c1 ⊢
    clear h hg hx c0
    go_enter Tryd.func32, Tryd.ntmps32
    go_wp2_with fail
    refine (HT.out ()).mono ?_
    rintro e w' ⟨rfl, rfl⟩
    simp only [Option.isSome_some]
    go_wp2
    go_ret2
    exact ⟨rfl, rfl⟩

set_option maxHeartbeats 400000 in
theorem set_ref (v : Value) (l : List (Option Int)) (p x : Int) (w : World) (h : RefAt w v l) :
    Calls Tryd.prog 33 #[v, .int .i64 p, .int .i64 x] w fun e w' => ∃ v', e = .returned (.tuple #[v', .int .i64 (if (gt l p).isSome then 0 else 51)]) ∧ RefAt w' v' (if (gt l p).isSome then l.set p.toNat (some x) else l) ∧ Fresh w w' := by
  have ht := fun (_ : Unit) => taken_ref v l p w h
  have HT := show Hid _ from ht
  clear ht
  cases hg : gt l p with
  | none =>
    rw [hg] at HT
    have HR := show Hid _ from (fun (_ : Unit) => h)
    simp only [Option.isSome_none] at HT ⊢
    obtain ⟨ao, cap, rfl⟩ := slice_shape h.1
    clear h
    go_enter Tryd.func33, Tryd.ntmps33
    go_wp2_with fail
    refine (HT.out ()).mono ?_
    rintro e w' ⟨rfl, rfl⟩
    go_wp2
    go_ret2
    exact ⟨_, rfl, HR.out (), Kept.refl _ _⟩
  | some y =>
    rw [hg] at HT
    obtain ⟨k, rfl, hk, hx⟩ := gt_some hg
    simp only [Option.isSome_some, if_true, Int.toNat_natCast] at HT ⊢
    have hp := fun (_ : Unit) => put_ref v l k (some x) w h hk
    have HP := show Hid _ from hp
    obtain ⟨ao, cap, rfl⟩ := slice_shape h.1
    clear h hg hx hp
    go_enter Tryd.func33, Tryd.ntmps33
    go_wp2_with fail
    refine (HT.out ()).mono ?_
    rintro e w' ⟨rfl, rfl⟩
    go_wp2_with fail
    refine (HP.out ()).mono ?_
    rintro e w1 ⟨v', rfl, hR, hF⟩
    have HR := show Hid _ from (fun (_ : Unit) => hR)
    obtain ⟨ao', cap', hv'⟩ := slice_shape hR.1
    rw [List.length_set] at hv'
    have HF := show Hid _ from (fun (_ : Unit) => hF)
    clear hR hF
    subst hv'
    go_wp2
    go_ret2
    exact ⟨_, rfl, HR.out (), HF.out ()⟩

set_option maxHeartbeats 1000000 in
theorem give_ref (v : Value) (l : List (Option Int)) (p : Int) (w : World) (h : RefAt w v l) :
    Calls Tryd.prog 31 #[v, .int .i64 p] w fun e w' => ∃ v', e = .returned (.tuple #[v', .int .i64 ((gt l p).getD 0), .int .i64 (if (gt l p).isSome then 0 else 51)]) ∧ RefAt w' v' (if (gt l p).isSome then l.set p.toNat none else l) ∧ Fresh w w' := by
  have ht := fun (_ : Unit) => taken_ref v l p w h
  have HT := show Hid _ from ht
  clear ht
  cases hg : gt l p with
  | none =>
    rw [hg] at HT
    have HR := show Hid _ from (fun (_ : Unit) => h)
    simp only [Option.isSome_none, Option.getD_none] at HT ⊢
    obtain ⟨ao, cap, rfl⟩ := slice_shape h.1
    clear h
    go_enter Tryd.func31, Tryd.ntmps31
    go_wp2_with fail
    refine (HT.out ()).mono ?_
    rintro e w' ⟨rfl, rfl⟩
    go_wp2
    exact bodyPost_ret (v := .tuple #[.slice ao l.length cap, .int .i64 0, .int .i64 51]) (by simp [results, Tryd.results31, go_sem]) rfl ⟨_, rfl, HR.out (), Kept.refl _ _⟩
  | some y =>
    rw [hg] at HT
    obtain ⟨k, rfl, hk, hx⟩ := gt_some hg
    simp only [Option.isSome_some, if_true, Int.toNat_natCast, Option.getD_some] at HT ⊢
    have hll := h.2
    have hp : Unit → Calls Tryd.prog 43 #[v, .int .i64 (k : Int), .agg #[.bool false, .int .i64 0]] w.drew fun e w' => ∃ v', e = .returned v' ∧ RefAt w' v' (l.set k none) ∧ Fresh w.drew w' := fun _ => put_ref v l k none w.drew (h.fresh (Kept.refl _ _).drew) hk
    have HP := show Hid _ from hp
    obtain ⟨g, cap, rfl, c0, c1⟩ := h.at hk
    rw [hx] at c1
    simp only [Option.getD_some] at c1
    have hgl := World.block_lt_of_cell? w _ c1
    clear h hg hx hp c0
    have hcF : ∀ W, Fresh w W → W.cell? ⟨g, k * 2 + 1, none⟩ = some (.int .i64 y) := fun W hF => (hF.cell (p := ⟨g, k * 2 + 1, none⟩) hgl (fun e => e)).trans c1
    go_enter Tryd.func31, Tryd.ntmps31
    go_wp2_with fail
    refine (HT.out ()).mono ?_
    rintro e w' ⟨rfl, rfl⟩
    go_wp2_with fail
    go_region_with (first | (go_at_call 43; refine (HP.out ()).mono ?_; rintro e w1 ⟨v', rfl, hR, hF⟩; have d1 := hcF w1 hF.undrew; obtain ⟨ao', cap', hv'⟩ := slice_shape hR.1; rw [List.length_set] at hv'; subst hv'))
    all_goals
      have HR := show Hid _ from (fun (_ : Unit) => hR)
      have HF := show Hid _ from (fun (_ : Unit) => hF.undrew)
      clear hR hF
      go_wp2
      exact bodyPost_ret (v := .tuple #[.slice ao' l.length cap', .int .i64 y, .int .i64 0]) (by simp [results, Tryd.results31, go_sem]) rfl ⟨_, rfl, HR.out (), HF.out ()⟩
end Go.Proofs.YtomikgnifbgfiaaDoor
