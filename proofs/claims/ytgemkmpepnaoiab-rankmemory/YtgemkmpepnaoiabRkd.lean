/-
  By over numbers, and Order.
-/
import Derived.Test.YtgemkmpepnaoiabRkc
namespace Go.Proofs.Ytgemkmpepnaoiab
open Go.RowKit Go.Lib Go.Maps

/-- Places, told as numbers. -/
theorem upI_nil {l : List Nat} (h : [] = upI l) : l = [] := by
  cases l with
  | nil => rfl
  | cons x r => simp [upI] at h
theorem upI_cons {z : Int} {o : List Int} {l : List Nat} (h : z :: o = upI l) : ∃ x r, l = x :: r ∧ z = (x : Int) ∧ o = upI r := by
  cases l with
  | nil => simp [upI] at h
  | cons x r =>
    have h' : z = (x : Int) ∧ o = upI r := by simpa [upI] using h
    exact ⟨x, r, rfl, h'.1, h'.2⟩
theorem Mj.up {R : Int → Int → Bool → Prop} {A B o : List Int} {n : Nat} (h : Mj R A B o n) : ∀ a b : List Nat, A = upI a → B = upI b → ∃ p, o = upI p ∧ Mj (fun (i j : Nat) c => R (i : Int) (j : Int) c) a b p n := by
  refine Mj.elim (fun A B o n => ∀ a b : List Nat, A = upI a → B = upI b → ∃ p, o = upI p ∧ Mj (fun (i j : Nat) c => R (i : Int) (j : Int) c) a b p n) ?_ ?_ ?_ ?_ _ _ _ _ h
  · intro b a b' ha hb
    rw [upI_nil ha]
    exact ⟨b', hb, Mj.nilL _⟩
  · intro a a' b' ha hb
    rw [upI_nil hb]
    exact ⟨a', ha, Mj.nilR _⟩
  · intro x y a b o n hr _ ih a' b' ha hb
    obtain ⟨x', r, rfl, rfl, rfl⟩ := upI_cons ha
    obtain ⟨y', s, rfl, rfl, rfl⟩ := upI_cons hb
    obtain ⟨p, rfl, hp⟩ := ih (x' :: r) s rfl rfl
    refine ⟨y' :: p, rfl, ?_⟩
    rw [upI_length]
    exact Mj.back hr hp
  · intro x y a b o n hr _ ih a' b' ha hb
    obtain ⟨x', r, rfl, rfl, rfl⟩ := upI_cons ha
    obtain ⟨y', s, rfl, rfl, rfl⟩ := upI_cons hb
    obtain ⟨p, rfl, hp⟩ := ih r (y' :: s) rfl rfl
    exact ⟨x' :: p, rfl, Mj.front hr hp⟩
theorem Ar.up {R : Int → Int → Bool → Prop} {L o : List Int} {n : Nat} (h : Ar R L o n) : ∀ l : List Nat, L = upI l → ∃ p, o = upI p ∧ Ar (fun (i j : Nat) b => R (i : Int) (j : Int) b) l p n := by
  refine Ar.elim (fun L o n => ∀ l : List Nat, L = upI l → ∃ p, o = upI p ∧ Ar (fun (i j : Nat) b => R (i : Int) (j : Int) b) l p n) ?_ ?_ h
  · intro l hs l' hl
    refine ⟨l', hl, Ar.small l' ?_⟩
    rw [hl, upI_length] at hs
    exact hs
  · intro l a b o m n p h0 _ _ hm i1 i2 l' hl
    have hll : l.length = l'.length := by rw [hl, upI_length]
    obtain ⟨a', rfl, ha⟩ := i1 (l'.take (l'.length / 2)) (by rw [hl, upI_length]; simp [upI, List.map_take])
    obtain ⟨b', rfl, hb⟩ := i2 (l'.drop (l'.length / 2)) (by rw [hl, upI_length]; simp [upI, List.map_drop])
    obtain ⟨o', rfl, ho⟩ := hm.up a' b' rfl rfl
    exact ⟨o', rfl, Ar.halves (by omega) ha hb ho⟩

theorem run_equalIn_func_nil {P : Program} (w : World) (d : Nat) (t : TypeId) (fn : Fn) (a c : Array Value) {x y z} (h : P.underlying t = some (.func x y z)) : (Op.equalIn (d + 1) t (.func fn a c) .nilFunc).run P w = .ok false w := by
  simp [Op.equalIn, run_underlying h]
theorem run_neq_func_nil {P : Program} (w : World) (t : TypeId) (fn : Fn) (a c : Array Value) {x y z} (h : P.underlying t = some (.func x y z)) : (binOp .neq t (.func fn a c) .nilFunc).run P w = .ok (.bool true) w := by
  have := run_equalIn_func_nil w 9999 t fn a c h
  simp only [binOp]
  simp [show (Op.equal t (.func fn a c) .nilFunc).run P w = .ok false w from this]

theorem idle_any (bL bO : Addr) (w : World) :
    CallsD Try.prog 43 #[.pointer (some bL), .pointer (some bO)] .returning w fun e u' w' => e = .returned (.tuple #[]) ∧ u' = .returning ∧ w' = w := by
  refine callsD_of_wpS Try.func43 rfl fun c₀ cs hu => ?_
  apply wpS_seq
  apply wpS_region
  simp [wpOpsS, go_sem, recoverD, hu, Try.ntmps43, Exit.thenS]
  refine wpS_cond (t := false) (by simp [Act.eval, Array.replicate]) ?_
  simp only [Bool.false_eq_true, if_false]
  refine wpS_of_wp (wp_skip ?_)
  cases c₀
  simp_all [bodyPostS, results, Try.results43]

set_option maxHeartbeats 2000000 in
set_option maxRecDepth 100000 in
theorem by_any (rv : Value) (zs : List Int) (w : World) (hr : Rw (fun b => b < w.heap.size) w rv zs) :
    Calls Try.prog 33 #[rv, .func (.func 34) #[] #[]] w fun e w' =>
      ∃ o b, e = .returned (.slice (some ⟨b, 0, none⟩) zs.length zs.length) ∧ IsOrd (fun i => zs.getD i 0) zs.length o ∧ w.heap.size ≤ b ∧ At w' b (upI o) ∧ Fresh w w' := by
  have hmf : ∀ (fn : Fn) (first cap : Array Value) (w : World), (Instr.makeFunc fn first cap).run Try.prog w = .ok (.func fn first cap) w := fun _ _ _ _ => rfl
  obtain ⟨i0, hi, hz0, hz1, hz2⟩ := info_parts Try.infoI
  have hn := hr.len
  obtain ⟨n, hnz⟩ : ∃ n, n = zs.length := ⟨_, rfl⟩
  have hm : ∀ (W : World), (Instr.makeSlice 32 (.int .i64 (n : Int)) (.int .i64 (n : Int))).run Try.prog W = .ok (.slice (some ⟨W.heap.size, 0, none⟩) n n) (W.alloc (.cells ((List.replicate n (0 : Int)).map zV).toArray 3)) := fun W => by
    have h := run_make (P := Try.prog) W 32 3 i0 _ Try.underlying32 hi hz0 .i64 .i64 (n : Int) (n : Int) (by omega) (by omega) (by rw [hz2]; omega) (by omega)
    rw [hz1] at h
    simp only [Int.toNat_natCast] at h
    rw [made_zeros] at h
    exact h
  obtain ⟨ao, cap, hv, _⟩ := id hr
  rw [← hnz] at hv hn ⊢
  subst hv
  have HR : Hid (Rw (fun b => b < w.heap.size) w (.slice ao n cap) zs) := hr
  have HN : Hid (n = zs.length) := hnz
  clear hr hnz
  go_enter_defers Try.func33, Try.ntmps33
  go_wp2_with fail
  refine (firstPlaces_any n _ hn).mono ?_
  rintro e W2 ⟨rfl, hAt2, hF2⟩
  have hs1 : (((w.alloc (Obj.cells #[Value.slice ao n cap] 22)).alloc (Obj.cells #[Value.func (Fn.func 34) #[] #[]] 61)).alloc (Obj.cells #[Value.slice none 0 0] 32)).heap.size = w.heap.size + 1 + 1 + 1 := by simp
  rw [hs1] at hAt2
  rw [hs1]
  have hF0 : Fresh w (((w.alloc (Obj.cells #[Value.slice ao n cap] 22)).alloc (Obj.cells #[Value.func (Fn.func 34) #[] #[]] 61)).alloc (Obj.cells #[Value.slice none 0 0] 32)) := (((Kept.refl _ w).alloc _).alloc _).alloc _
  have d1 : W2.cell? ⟨w.heap.size, 0, none⟩ = some (.slice ao n cap) := (hF2.cell (p := ⟨w.heap.size, 0, none⟩) (by simp <;> omega) (fun e => e)).trans (by simp [go_sem])
  have d2 : W2.cell? ⟨w.heap.size + 1, 0, none⟩ = some (.func (.func 34) #[] #[]) := (hF2.cell (p := ⟨w.heap.size + 1, 0, none⟩) (by simp <;> omega) (fun e => e)).trans (by simp [go_sem])
  have d3 : W2.cell? ⟨w.heap.size + 1 + 1, 0, none⟩ = some (.slice none 0 0) := (hF2.cell (p := ⟨w.heap.size + 1 + 1, 0, none⟩) (by simp <;> omega) (fun e => e)).trans (by simp [go_sem])
  have d4 : W2.frozen? ⟨w.heap.size + 1 + 1, 0, none⟩ = false := (hF2.frozen (p := ⟨w.heap.size + 1 + 1, 0, none⟩) (by simp <;> omega) (fun e => e)).trans (by simp [go_sem])
  have hF02 : Fresh w W2 := hF0.trans hF2 (fun _ _ e => e)
  have hl2 : w.heap.size + 1 + 1 + 1 < W2.heap.size := lt_of_heap hAt2
  have hR2 := HR.out.fresh hF02
  clear hF0 hF2 hs1
  -- the world behind the store
  have hK3 : Kept (fun k => k = w.heap.size + 1 + 1) W2 (W2.setCell ⟨w.heap.size + 1 + 1, 0, none⟩ (.slice (some ⟨w.heap.size + 1 + 1 + 1, 0, none⟩) n n)) := (Kept.refl (fun k => k = w.heap.size + 1 + 1) W2).setCell (p := ⟨w.heap.size + 1 + 1, 0, none⟩) (fun _ => rfl) _
  have e1 := (hK3.cell (p := ⟨w.heap.size, 0, none⟩) (by simp <;> omega) (by simp <;> omega)).trans d1
  have e2 := (hK3.cell (p := ⟨w.heap.size + 1, 0, none⟩) (by simp <;> omega) (by simp <;> omega)).trans d2
  have e3 : (W2.setCell ⟨w.heap.size + 1 + 1, 0, none⟩ (.slice (some ⟨w.heap.size + 1 + 1 + 1, 0, none⟩) n n)).cell? ⟨w.heap.size + 1 + 1, 0, none⟩ = some (.slice (some ⟨w.heap.size + 1 + 1 + 1, 0, none⟩) n n) := World.cell?_setCell_same _ _ _ d3
  have e4 : (W2.setCell ⟨w.heap.size + 1 + 1, 0, none⟩ (.slice (some ⟨w.heap.size + 1 + 1 + 1, 0, none⟩) n n)).frozen? ⟨w.heap.size + 1 + 1, 0, none⟩ = false := by rw [World.frozen?_setCell]; exact d4
  have hAt3 := hAt2.kept hK3 (by omega)
  have hR3 := hR2.kept hK3 (fun b hb => by omega)
  have hF3 : Fresh w (W2.setCell ⟨w.heap.size + 1 + 1, 0, none⟩ (.slice (some ⟨w.heap.size + 1 + 1 + 1, 0, none⟩) n n)) := hF02.setCell (fun e => by simp at e; omega) _
  have hs3 : w.heap.size + 1 + 1 + 1 < (W2.setCell ⟨w.heap.size + 1 + 1, 0, none⟩ (.slice (some ⟨w.heap.size + 1 + 1 + 1, 0, none⟩) n n)).heap.size := Nat.lt_of_lt_of_le hl2 hK3.size
  go_upto_region 3 with fail
  generalize W2.setCell ⟨w.heap.size + 1 + 1, 0, none⟩ (.slice (some ⟨w.heap.size + 1 + 1 + 1, 0, none⟩) n n) = W3 at *
  clear d1 d2 d3 d4 hK3 hAt2 hR2 hF02 hl2
  have hJ3 : JBy (w.heap.size + 1) w.heap.size (.slice ao n cap) zs W3 ∧ w.heap.size + 1 + 1 + 1 ≤ W3.heap.size ∧ Rw (fun k => k < w.heap.size + 1 + 1 + 1) W3 (.slice ao n cap) zs := ⟨⟨e2, e1, hR3.mono (fun _ _ => trivial)⟩, by omega, hR3.mono (fun b hb => by omega)⟩
  have hask := byAsk (w.heap.size + 1) w.heap.size (w.heap.size + 1 + 1 + 1) (.slice ao n cap) zs (by omega) (by omega)
  have hFY : Fresh W3 (W3.alloc (.cells ((List.replicate n (0 : Int)).map zV).toArray 3)).drew := ((Kept.refl _ W3).alloc _).drew
  have hAtG : At (W3.alloc (.cells ((List.replicate n (0 : Int)).map zV).toArray 3)).drew W3.heap.size (List.replicate n 0) := heap_alloc_new W3 _
  have hcall := arrange_any hask W3.heap.size n n (w.heap.size + 1 + 1 + 1) (by omega) (Nat.le_refl _) (by omega) n (upI (List.range n)) [] [] n (W3.alloc (.cells ((List.replicate n (0 : Int)).map zV).toArray 3)).drew (by simp [upI_length]) (hask.kept _ _ hJ3 (hFY.mono (fun _ _ e => e.elim)))
    (by simpa using hAt3.kept hFY (fun e => e)) (by simp [upI_length]) (by omega) (own_of_at hAtG (by simp) (by unfold maxLen; omega)) (by simp [upI_length]) (fun z hz => by
      obtain ⟨i, hi, rfl⟩ := List.mem_map.1 hz
      rw [List.mem_range, HN.out] at hi
      exact ⟨by omega, by omega⟩)
  rw [upI_length, List.length_range] at hcall
  have HC : Hid (Unit → _) := fun (_ : Unit) => hcall
  have HF3 : Hid (Fresh w W3 ∧ w.heap.size + 1 + 1 + 1 < W3.heap.size) := ⟨hF3, hs3⟩
  have hm3 : (Instr.makeSlice 32 (.int .i64 (n : Int)) (.int .i64 (n : Int))).run Try.prog W3.drew = .ok (.slice (some ⟨W3.heap.size, 0, none⟩) n n) (W3.alloc (.cells ((List.replicate n (0 : Int)).map zV).toArray 3)).drew := hm W3.drew
  generalize hY : (W3.alloc (.cells ((List.replicate n (0 : Int)).map zV).toArray 3)) = Y at *
  have y1 : Y.cell? ⟨w.heap.size, 0, none⟩ = some (.slice ao n cap) := (hFY.cell (p := ⟨w.heap.size, 0, none⟩) (by simp; omega) (fun e => e)).trans e1
  have y3 : Y.cell? ⟨w.heap.size + 1 + 1, 0, none⟩ = some (.slice (some ⟨w.heap.size + 1 + 1 + 1, 0, none⟩) n n) := (hFY.cell (p := ⟨w.heap.size + 1 + 1, 0, none⟩) (by simp; omega) (fun e => e)).trans e3
  have y4 : Y.frozen? ⟨w.heap.size + 1 + 1, 0, none⟩ = false := (hFY.frozen (p := ⟨w.heap.size + 1 + 1, 0, none⟩) (by simp; omega) (fun e => e)).trans e4
  have HFY : Hid (Fresh W3 Y) := ⟨hFY.os, hFY.tape, hFY.output, hFY.size, hFY.block⟩
  clear hcall hask hJ3 hAt3 hR3 hAtG hFY hm hY
  have hne := fun (w : World) (a c : Array Value) => run_neq_func_nil (P := Try.prog) w 61 (.func 34) a c Try.underlying61
  go_wp2_with fail
  clear hne
  go_region_held3 (fun X => X.cell? ⟨w.heap.size, 0, none⟩ = some (.slice ao n cap) ∧ X.cell? ⟨w.heap.size + 1 + 1, 0, none⟩ = some (.slice (some ⟨w.heap.size + 1 + 1 + 1, 0, none⟩) n n) ∧ X.frozen? ⟨w.heap.size + 1 + 1, 0, none⟩ = false) (first | exact ⟨e1, e3, e4⟩ | exact ⟨y1, y3, y4⟩ | exact hS' | assumption)
    (first | (go_at_call 45; refine (HC.out ()).mono ?_; rintro e X' ⟨o, no, rfl, hAr, hAt5, hown5, hJ5, hK5⟩; have hS' : X'.cell? ⟨w.heap.size, 0, none⟩ = some (.slice ao n cap) ∧ X'.cell? ⟨w.heap.size + 1 + 1, 0, none⟩ = some (.slice (some ⟨w.heap.size + 1 + 1 + 1, 0, none⟩) n n) ∧ X'.frozen? ⟨w.heap.size + 1 + 1, 0, none⟩ = false := ⟨(hK5.cell (p := ⟨w.heap.size, 0, none⟩) (by have := HFY.out.size; have := HF3.out.2; simp; omega) (by have := HF3.out.2; simp; omega)).trans y1, (hK5.cell (p := ⟨w.heap.size + 1 + 1, 0, none⟩) (by have := HFY.out.size; have := HF3.out.2; simp; omega) (by have := HF3.out.2; simp; omega)).trans y3, (hK5.frozen (p := ⟨w.heap.size + 1 + 1, 0, none⟩) (by have := HFY.out.size; have := HF3.out.2; simp; omega) (by have := HF3.out.2; simp; omega)).trans y4⟩))
  all_goals
    have HS : Hid (∃ p, o = upI p ∧ IsOrd (fun i => zs.getD i 0) n p) := by
      obtain ⟨p, hp, hA⟩ := hAr.up _ rfl
      exact ⟨p, hp, hA.isOrd (fun i j b h => by rw [h]; simp)⟩
    have HX : Hid (At X' (w.heap.size + 1 + 1 + 1) o ∧ Fresh w X') := by
      refine ⟨by simpa using hAt5, (HF3.out.1.trans HFY.out (fun _ _ e => e)).trans (Kept.undrew hK5) (fun i hi h => ?_)⟩
      have := HF3.out.2
      rcases h with h | h | h
      · omega
      · omega
      · exact h
    obtain ⟨s1, s3, s4⟩ := hS'
    clear hAr hAt5 hown5 hJ5 hK5 HC
    go_wp2
    refine leaves_cons (f := 43) (args := #[.pointer (some ⟨w.heap.size, 0, none⟩), .pointer (some ⟨w.heap.size + 1 + 1, 0, none⟩)]) (by simp) (by simp [go_sem]) ?_
    refine (idle_any _ _ _).mono ?_
    rintro e u' w'' ⟨rfl, rfl, rfl⟩
    obtain ⟨p, hp, hO⟩ := HS.out
    have hAtX := HX.out.1.kept (S := fun k => k = w.heap.size + 1 + 1) (w' := X'.setCell ⟨w.heap.size + 1 + 1, 0, none⟩ (.slice (some ⟨w.heap.size + 1 + 1 + 1, 0, none⟩) n n)) ((Kept.refl (fun k => k = w.heap.size + 1 + 1) X').setCell (p := ⟨w.heap.size + 1 + 1, 0, none⟩) (fun _ => rfl) _) (by omega)
    have hFX : Fresh w (X'.setCell ⟨w.heap.size + 1 + 1, 0, none⟩ (.slice (some ⟨w.heap.size + 1 + 1 + 1, 0, none⟩) n n)) := HX.out.2.setCell (fun e => by simp at e; omega) _
    have hcell := World.cell?_setCell_same X' ⟨w.heap.size + 1 + 1, 0, none⟩ (.slice (some ⟨w.heap.size + 1 + 1 + 1, 0, none⟩) n n) s3
    simp [Leaves, settle, results, Try.results33, go_sem, hcell]
    exact ⟨p, hO, by omega, by rw [← hp]; exact hAtX, hFX⟩

set_option maxHeartbeats 1000000 in
theorem order_any (rv : Value) (zs : List Int) (w : World) (hr : Rw (fun b => b < w.heap.size) w rv zs) :
    Calls Try.prog 14 #[rv] w fun e w' =>
      ∃ o b, e = .returned (.slice (some ⟨b, 0, none⟩) zs.length zs.length) ∧ IsOrd (fun i => zs.getD i 0) zs.length o ∧ w.heap.size ≤ b ∧ At w' b (upI o) ∧ Fresh w w' := by
  have HB : Hid (Unit → _) := fun (_ : Unit) => by_any rv zs w hr
  go_enter Try.func14, Try.ntmps14
  go_wp2_with fail
  refine (HB.out ()).mono ?_
  rintro e w1 ⟨o, b, rfl, h⟩
  have H : Hid (Unit → _) := fun (_ : Unit) => h
  clear h HB
  go_wp2
  go_ret
  exact ⟨o, b, rfl, H.out ()⟩
end Go.Proofs.Ytgemkmpepnaoiab
