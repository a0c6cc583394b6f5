/-
  By over things, with an order that is handed in.
-/
import Derived.Test.YtgemkmpepnaoiaaRkt
namespace Go.Proofs.Ytgemkmpepnaoiaa
open Go.RowKit Go.Lib Go.Maps

/-- What the comparison of two places may answer. -/
def RT (zs : List Th) (R : Th → Th → Bool → Prop) (i j : Nat) (d : Bool) : Prop := ∃ x y, zs[i]? = some x ∧ zs[j]? = some y ∧ R x y d

theorem idleT_any (bL bO : Addr) (w : World) :
    CallsD Try.prog 25 #[.pointer (some bL), .pointer (some bO)] .returning w fun e u' w' => e = .returned (.tuple #[]) ∧ u' = .returning ∧ w' = w := by
  refine callsD_of_wpS Try.func25 rfl fun c₀ cs hu => ?_
  apply wpS_seq
  apply wpS_region
  simp [wpOpsS, go_sem, recoverD, hu, Try.ntmps25, Exit.thenS]
  refine wpS_cond (t := false) (by simp [Act.eval, Array.replicate]) ?_
  simp only [Bool.false_eq_true, if_false]
  refine wpS_of_wp (wp_skip ?_)
  cases c₀
  simp_all [bodyPostS, results, Try.results25]

set_option maxHeartbeats 2000000 in
set_option maxRecDepth 100000 in
theorem byT_any {F : Nat} {caps : Array Value} {R : Th → Th → Bool → Prop} {T : Nat → Prop} {J : World → Prop} (rv : Value) (zs : List Th) (w : World) (hAT : AskT F caps R T w.heap.size J) (hJ : J w) (hr : ThAt (fun b => b < w.heap.size ∧ ¬ T b) w rv zs) :
    Calls Try.prog 16 #[rv, .func (.func F) #[] caps] w fun e w' =>
      ∃ o b, e = .returned (.slice (some ⟨b, 0, none⟩) zs.length zs.length) ∧ (∃ c, Ar (RT zs R) (List.range zs.length) o c) ∧ w.heap.size ≤ b ∧ At w' b (upI o) ∧ J w' ∧ Kept T w w' := by
  have hmf : ∀ (fn : Fn) (first cap : Array Value) (w : World), (Instr.makeFunc fn first cap).run Try.prog w = .ok (.func fn first cap) w := fun _ _ _ _ => rfl
  obtain ⟨i0, hi, hz0, hz1, hz2⟩ := info_parts Try.infoI
  have hn := hr.len
  obtain ⟨n, hnz⟩ : ∃ n, n = zs.length := ⟨_, rfl⟩
  have hm : ∀ (W : World), (Instr.makeSlice 25 (.int .i64 (n : Int)) (.int .i64 (n : Int))).run Try.prog W = .ok (.slice (some ⟨W.heap.size, 0, none⟩) n n) (W.alloc (.cells ((List.replicate n (0 : Int)).map zV).toArray 3)) := fun W => by
    have h := run_make (P := Try.prog) W 25 3 i0 _ Try.underlying25 hi hz0 .i64 .i64 (n : Int) (n : Int) (by omega) (by omega) (by rw [hz2]; omega) (by omega)
    rw [hz1] at h
    simp only [Int.toNat_natCast] at h
    rw [made_zeros] at h
    exact h
  obtain ⟨ao, cap, hv, _⟩ := id hr
  rw [← hnz] at hv hn ⊢
  subst hv
  have HR : Hid (ThAt (fun b => b < w.heap.size ∧ ¬ T b) w (.slice ao n cap) zs) := hr
  have HJ : Hid (J w) := hJ
  have HAT : Hid (Unit → _) := fun (_ : Unit) => hAT
  have HN : Hid (n = zs.length) := hnz
  clear hr hnz hJ hAT
  go_enter_defers Try.func16, Try.ntmps16
  go_wp2_with fail
  refine (firstPlaces_any n _ hn).mono ?_
  rintro e W2 ⟨rfl, hAt2, hF2⟩
  have hs1 : (((w.alloc (Obj.cells #[Value.slice ao n cap] 32)).alloc (Obj.cells #[Value.func (Fn.func F) #[] caps] 37)).alloc (Obj.cells #[Value.slice none 0 0] 25)).heap.size = w.heap.size + 1 + 1 + 1 := by simp
  rw [hs1] at hAt2
  rw [hs1]
  have hF0 : Fresh w (((w.alloc (Obj.cells #[Value.slice ao n cap] 32)).alloc (Obj.cells #[Value.func (Fn.func F) #[] caps] 37)).alloc (Obj.cells #[Value.slice none 0 0] 25)) := (((Kept.refl _ w).alloc _).alloc _).alloc _
  have d1 : W2.cell? ⟨w.heap.size, 0, none⟩ = some (.slice ao n cap) := (hF2.cell (p := ⟨w.heap.size, 0, none⟩) (by simp <;> omega) (fun e => e)).trans (by simp [go_sem])
  have d2 : W2.cell? ⟨w.heap.size + 1, 0, none⟩ = some (.func (.func F) #[] caps) := (hF2.cell (p := ⟨w.heap.size + 1, 0, none⟩) (by simp <;> omega) (fun e => e)).trans (by simp [go_sem])
  have d3 : W2.cell? ⟨w.heap.size + 1 + 1, 0, none⟩ = some (.slice none 0 0) := (hF2.cell (p := ⟨w.heap.size + 1 + 1, 0, none⟩) (by simp <;> omega) (fun e => e)).trans (by simp [go_sem])
  have d4 : W2.frozen? ⟨w.heap.size + 1 + 1, 0, none⟩ = false := (hF2.frozen (p := ⟨w.heap.size + 1 + 1, 0, none⟩) (by simp <;> omega) (fun e => e)).trans (by simp [go_sem])
  have hF02 : Fresh w W2 := hF0.trans hF2 (fun _ _ e => e)
  have hl2 : w.heap.size + 1 + 1 + 1 < W2.heap.size := lt_of_heap hAt2
  have hR2 := HR.out.fresh hF02
  clear hF0 hF2 hs1
  -- the world behind the store
  have hK3 : Kept (fun k => k = w.heap.size + 1 + 1) W2 (W2.setCell ⟨w.heap.size + 1 + 1, 0, none⟩ (.slice (some ⟨w.heap.size + 1 + 1 + 1, 0, none⟩) n n)) := (Kept.refl (fun k => k = w.heap.size + 1 + 1) W2).setCell (p := ⟨w.heap.size + 1 + 1, 0, none⟩) (fun _ => rfl) _
  have e1 := (hK3.cell (p := ⟨w.heap.size, 0, none⟩) (by simp <;> omega) (by simp <;> omega)).trans d1
  have e2 := (hK3.cell (p := ⟨w.heap.size + 1, 0, none⟩) (by simp <;> omega) (by simp <;> omega)).trans d2
  have e3 : (W2.setCell ⟨w.heap.size + 1 + 1, 0, none⟩ (.slice (some ⟨w.heap.size + 1 + 1 + 1, 0, none⟩) n n)).cell? ⟨w.heap.size + 1 + 1, 0, none⟩ = some (.slice (some ⟨w.heap.size + 1 + 1 + 1, 0, none⟩) n n) := World.cell?_setCell_same _ _ _ d3
  have e4 : (W2.setCell ⟨w.heap.size + 1 + 1, 0, none⟩ (.slice (some ⟨w.heap.size + 1 + 1 + 1, 0, none⟩) n n)).frozen? ⟨w.heap.size + 1 + 1, 0, none⟩ = false := by rw [World.frozen?_setCell]; exact d4
  have hAt3 := hAt2.kept hK3 (by omega)
  have hR3 := hR2.kept hK3 (fun b hb => by have := hb.1; omega)
  have hJ2 : J W2 := (HAT.out ()).kept _ _ HJ.out (hF02.mono (fun _ _ e => e.elim))
  have hJ3 := (HAT.out ()).kept _ _ hJ2 (hK3.mono (fun k _ e => by omega))
  have hF3 : Fresh w (W2.setCell ⟨w.heap.size + 1 + 1, 0, none⟩ (.slice (some ⟨w.heap.size + 1 + 1 + 1, 0, none⟩) n n)) := hF02.setCell (fun e => by simp at e; omega) _
  have hs3 : w.heap.size + 1 + 1 + 1 < (W2.setCell ⟨w.heap.size + 1 + 1, 0, none⟩ (.slice (some ⟨w.heap.size + 1 + 1 + 1, 0, none⟩) n n)).heap.size := Nat.lt_of_lt_of_le hl2 hK3.size
  go_upto_region 3 with fail
  generalize W2.setCell ⟨w.heap.size + 1 + 1, 0, none⟩ (.slice (some ⟨w.heap.size + 1 + 1 + 1, 0, none⟩) n n) = W3 at *
  clear d1 d2 d3 d4 hK3 hAt2 hR2 hF02 hl2 hJ2
  have hJT : JT J T F caps (w.heap.size + 1) w.heap.size (w.heap.size + 1 + 1 + 1) (.slice ao n cap) zs W3 := ⟨hJ3, e2, e1, hR3.mono (fun b hb => ⟨by omega, hb.2⟩), by omega, by omega⟩
  have hask := byTAsk (HAT.out ()) (w.heap.size + 1) w.heap.size (w.heap.size + 1 + 1 + 1) (.slice ao n cap) zs (by omega) (by omega) (by omega) (by omega) (Nat.le_refl _)
  have hFY : Fresh W3 (W3.alloc (.cells ((List.replicate n (0 : Int)).map zV).toArray 3)).drew := ((Kept.refl _ W3).alloc _).drew
  have hAtG : At (W3.alloc (.cells ((List.replicate n (0 : Int)).map zV).toArray 3)).drew W3.heap.size (List.replicate n 0) := heap_alloc_new W3 _
  have hcall := arrange_any hask W3.heap.size n n (w.heap.size + 1 + 1 + 1) (by omega) (Nat.le_refl _) (by omega) n (upI (List.range n)) [] [] n (W3.alloc (.cells ((List.replicate n (0 : Int)).map zV).toArray 3)).drew (by simp [upI_length]) (hask.kept _ _ hJT (hFY.mono (fun _ _ e => e.elim)))
    (by simpa using hAt3.kept hFY (fun e => e)) (by simp [upI_length]) (by omega) (own_of_at hAtG (by simp) (by unfold maxLen; omega)) (by simp [upI_length]) (fun z hz => by
      obtain ⟨i, hi, rfl⟩ := List.mem_map.1 hz
      rw [List.mem_range, HN.out] at hi
      exact ⟨by omega, by omega⟩)
  rw [upI_length, List.length_range] at hcall
  have HC : Hid (Unit → _) := fun (_ : Unit) => hcall
  have HF3 : Hid (Fresh w W3 ∧ w.heap.size + 1 + 1 + 1 < W3.heap.size) := ⟨hF3, hs3⟩
  have hm3 : (Instr.makeSlice 25 (.int .i64 (n : Int)) (.int .i64 (n : Int))).run Try.prog W3.drew = .ok (.slice (some ⟨W3.heap.size, 0, none⟩) n n) (W3.alloc (.cells ((List.replicate n (0 : Int)).map zV).toArray 3)).drew := hm W3.drew
  generalize hY : (W3.alloc (.cells ((List.replicate n (0 : Int)).map zV).toArray 3)) = Y at *
  have y1 : Y.cell? ⟨w.heap.size, 0, none⟩ = some (.slice ao n cap) := (hFY.cell (p := ⟨w.heap.size, 0, none⟩) (by simp; omega) (fun e => e)).trans e1
  have y3 : Y.cell? ⟨w.heap.size + 1 + 1, 0, none⟩ = some (.slice (some ⟨w.heap.size + 1 + 1 + 1, 0, none⟩) n n) := (hFY.cell (p := ⟨w.heap.size + 1 + 1, 0, none⟩) (by simp; omega) (fun e => e)).trans e3
  have y4 : Y.frozen? ⟨w.heap.size + 1 + 1, 0, none⟩ = false := (hFY.frozen (p := ⟨w.heap.size + 1 + 1, 0, none⟩) (by simp; omega) (fun e => e)).trans e4
  have HFY : Hid (Fresh W3 Y) := ⟨hFY.os, hFY.tape, hFY.output, hFY.size, hFY.block⟩
  clear hcall hask hJ3 hJT hAt3 hR3 hAtG hFY hm hY
  have HTl : Hid (∀ k, T k → k < w.heap.size) := (HAT.out ()).ahead
  have hnb1 : ¬ (w.heap.size = W3.heap.size ∨ w.heap.size = w.heap.size + 1 + 1 + 1 ∨ T w.heap.size) := by
    have := HF3.out.2
    rintro (h | h | h)
    · omega
    · omega
    · exact absurd (HTl.out _ h) (by omega)
  have hnb3 : ¬ (w.heap.size + 1 + 1 = W3.heap.size ∨ w.heap.size + 1 + 1 = w.heap.size + 1 + 1 + 1 ∨ T (w.heap.size + 1 + 1)) := by
    have := HF3.out.2
    rintro (h | h | h)
    · omega
    · omega
    · exact absurd (HTl.out _ h) (by omega)
  have hne := fun (w : World) (a c : Array Value) => run_neq_func_nil (P := Try.prog) w 37 (.func F) a c Try.underlying37
  go_wp2_with fail
  clear hne
  go_region_held3 (fun X => X.cell? ⟨w.heap.size, 0, none⟩ = some (.slice ao n cap) ∧ X.cell? ⟨w.heap.size + 1 + 1, 0, none⟩ = some (.slice (some ⟨w.heap.size + 1 + 1 + 1, 0, none⟩) n n) ∧ X.frozen? ⟨w.heap.size + 1 + 1, 0, none⟩ = false) (first | exact ⟨e1, e3, e4⟩ | exact ⟨y1, y3, y4⟩ | exact hS' | assumption)
    (first | (go_at_call 27; refine (HC.out ()).mono ?_; rintro e X' ⟨o, no, rfl, hAr, hAt5, hown5, hJ5, hK5⟩; have hS' : X'.cell? ⟨w.heap.size, 0, none⟩ = some (.slice ao n cap) ∧ X'.cell? ⟨w.heap.size + 1 + 1, 0, none⟩ = some (.slice (some ⟨w.heap.size + 1 + 1 + 1, 0, none⟩) n n) ∧ X'.frozen? ⟨w.heap.size + 1 + 1, 0, none⟩ = false := ⟨(hK5.cell (p := ⟨w.heap.size, 0, none⟩) (by have := HFY.out.size; have := HF3.out.2; simp; omega) hnb1).trans y1, (hK5.cell (p := ⟨w.heap.size + 1 + 1, 0, none⟩) (by have := HFY.out.size; have := HF3.out.2; simp; omega) hnb3).trans y3, (hK5.frozen (p := ⟨w.heap.size + 1 + 1, 0, none⟩) (by have := HFY.out.size; have := HF3.out.2; simp; omega) hnb3).trans y4⟩))
  all_goals
    have HS : Hid (∃ p, o = upI p ∧ ∃ c, Ar (RT zs R) (List.range n) p c) := by
      obtain ⟨p, hp, hA⟩ := hAr.up _ rfl
      exact ⟨p, hp, _, hA⟩
    have HX : Hid (At X' (w.heap.size + 1 + 1 + 1) o ∧ J X' ∧ Kept T w X') := by
      refine ⟨by simpa using hAt5, hJ5.1, ((HF3.out.1.trans HFY.out (fun _ _ e => e)).mono (fun _ _ e => e.elim)).trans (Kept.undrew hK5) (fun i hi h => ?_)⟩
      have := HF3.out.2
      rcases h with h | h | h
      · omega
      · omega
      · exact h
    obtain ⟨s1, s3, s4⟩ := hS'
    clear hAr hAt5 hown5 hJ5 hK5 HC
    go_wp2
    refine leaves_cons (f := 25) (args := #[.pointer (some ⟨w.heap.size, 0, none⟩), .pointer (some ⟨w.heap.size + 1 + 1, 0, none⟩)]) (by simp) (by simp [go_sem]) ?_
    refine (idleT_any _ _ _).mono ?_
    rintro e u' w'' ⟨rfl, rfl, rfl⟩
    obtain ⟨p, hp, hO⟩ := HS.out
    have hAtX := HX.out.1.kept (S := fun k => k = w.heap.size + 1 + 1) (w' := X'.setCell ⟨w.heap.size + 1 + 1, 0, none⟩ (.slice (some ⟨w.heap.size + 1 + 1 + 1, 0, none⟩) n n)) ((Kept.refl (fun k => k = w.heap.size + 1 + 1) X').setCell (p := ⟨w.heap.size + 1 + 1, 0, none⟩) (fun _ => rfl) _) (by omega)
    have hJX : J (X'.setCell ⟨w.heap.size + 1 + 1, 0, none⟩ (.slice (some ⟨w.heap.size + 1 + 1 + 1, 0, none⟩) n n)) := (HAT.out ()).kept _ _ HX.out.2.1 ((Kept.refl (fun k => w.heap.size ≤ k) X').setCell (p := ⟨w.heap.size + 1 + 1, 0, none⟩) (fun _ => by simp; omega) _)
    have hFX : Kept T w (X'.setCell ⟨w.heap.size + 1 + 1, 0, none⟩ (.slice (some ⟨w.heap.size + 1 + 1 + 1, 0, none⟩) n n)) := HX.out.2.2.setCell (fun e => by simp at e; omega) _
    have hcell := World.cell?_setCell_same X' ⟨w.heap.size + 1 + 1, 0, none⟩ (.slice (some ⟨w.heap.size + 1 + 1 + 1, 0, none⟩) n n) s3
    simp [Leaves, settle, results, Try.results16, go_sem, hcell]
    exact ⟨p, hO, by omega, by rw [← hp]; exact hAtX, hJX, hFX⟩


theorem run_equalIn_nil_nil {P : Program} (w : World) (d : Nat) (t : TypeId) {x y z} (h : P.underlying t = some (.func x y z)) : (Op.equalIn (d + 1) t .nilFunc .nilFunc).run P w = .ok true w := by
  simp [Op.equalIn, run_underlying h]
theorem run_neq_nil_nil {P : Program} (w : World) (t : TypeId) {x y z} (h : P.underlying t = some (.func x y z)) : (binOp .neq t .nilFunc .nilFunc).run P w = .ok (.bool false) w := by
  have := run_equalIn_nil_nil w 9999 t h
  simp only [binOp]
  simp [show (Op.equal t .nilFunc .nilFunc).run P w = .ok true w from this]

set_option maxHeartbeats 2000000 in
set_option maxRecDepth 100000 in
theorem byT_nil (p : Nat → Prop) (rv : Value) (zs : List Th) (w : World) (hr : ThAt p w rv zs) :
    Calls Try.prog 16 #[rv, .nilFunc] w fun e w' => ∃ b, e = .returned (.slice (some ⟨b, 0, none⟩) zs.length zs.length) ∧ w.heap.size ≤ b ∧ At w' b (upI (List.range zs.length)) ∧ Fresh w w' := by
  have hmf : ∀ (fn : Fn) (first cap : Array Value) (w : World), (Instr.makeFunc fn first cap).run Try.prog w = .ok (.func fn first cap) w := fun _ _ _ _ => rfl
  have hn := hr.len
  obtain ⟨n, hnz⟩ : ∃ n, n = zs.length := ⟨_, rfl⟩
  obtain ⟨ao, cap, hv, _⟩ := id hr
  rw [← hnz] at hv hn ⊢
  subst hv
  clear hr hnz
  have hnn : ∀ (w : World), (binOp .neq 37 .nilFunc .nilFunc).run Try.prog w = .ok (.bool false) w := fun w => run_neq_nil_nil w _ Try.underlying37
  go_enter_defers Try.func16, Try.ntmps16
  go_wp2_with fail
  refine (firstPlaces_any n _ hn).mono ?_
  rintro e W2 ⟨rfl, hAt2, hF2⟩
  have hs1 : (((w.alloc (Obj.cells #[Value.slice ao n cap] 32)).alloc (Obj.cells #[Value.nilFunc] 37)).alloc (Obj.cells #[Value.slice none 0 0] 25)).heap.size = w.heap.size + 1 + 1 + 1 := by simp
  rw [hs1] at hAt2
  rw [hs1]
  have hF0 : Fresh w (((w.alloc (Obj.cells #[Value.slice ao n cap] 32)).alloc (Obj.cells #[Value.nilFunc] 37)).alloc (Obj.cells #[Value.slice none 0 0] 25)) := (((Kept.refl _ w).alloc _).alloc _).alloc _
  have d2 : W2.cell? ⟨w.heap.size + 1, 0, none⟩ = some .nilFunc := (hF2.cell (p := ⟨w.heap.size + 1, 0, none⟩) (by simp <;> omega) (fun e => e)).trans (by simp [go_sem])
  have d3 : W2.cell? ⟨w.heap.size + 1 + 1, 0, none⟩ = some (.slice none 0 0) := (hF2.cell (p := ⟨w.heap.size + 1 + 1, 0, none⟩) (by simp <;> omega) (fun e => e)).trans (by simp [go_sem])
  have d4 : W2.frozen? ⟨w.heap.size + 1 + 1, 0, none⟩ = false := (hF2.frozen (p := ⟨w.heap.size + 1 + 1, 0, none⟩) (by simp <;> omega) (fun e => e)).trans (by simp [go_sem])
  have hF02 : Fresh w W2 := hF0.trans hF2 (fun _ _ e => e)
  have hl2 : w.heap.size + 1 + 1 + 1 < W2.heap.size := lt_of_heap hAt2
  clear hF0 hF2 hs1
  have hK3 : Kept (fun k => k = w.heap.size + 1 + 1) W2 (W2.setCell ⟨w.heap.size + 1 + 1, 0, none⟩ (.slice (some ⟨w.heap.size + 1 + 1 + 1, 0, none⟩) n n)) := (Kept.refl (fun k => k = w.heap.size + 1 + 1) W2).setCell (p := ⟨w.heap.size + 1 + 1, 0, none⟩) (fun _ => rfl) _
  have e2 := (hK3.cell (p := ⟨w.heap.size + 1, 0, none⟩) (by simp <;> omega) (by simp <;> omega)).trans d2
  have e3 : (W2.setCell ⟨w.heap.size + 1 + 1, 0, none⟩ (.slice (some ⟨w.heap.size + 1 + 1 + 1, 0, none⟩) n n)).cell? ⟨w.heap.size + 1 + 1, 0, none⟩ = some (.slice (some ⟨w.heap.size + 1 + 1 + 1, 0, none⟩) n n) := World.cell?_setCell_same _ _ _ d3
  have e4 : (W2.setCell ⟨w.heap.size + 1 + 1, 0, none⟩ (.slice (some ⟨w.heap.size + 1 + 1 + 1, 0, none⟩) n n)).frozen? ⟨w.heap.size + 1 + 1, 0, none⟩ = false := by rw [World.frozen?_setCell]; exact d4
  have hAt3 := hAt2.kept hK3 (by omega)
  have hF3 : Fresh w (W2.setCell ⟨w.heap.size + 1 + 1, 0, none⟩ (.slice (some ⟨w.heap.size + 1 + 1 + 1, 0, none⟩) n n)) := hF02.setCell (fun e => by simp at e; omega) _
  go_upto_region 3 with fail
  generalize W2.setCell ⟨w.heap.size + 1 + 1, 0, none⟩ (.slice (some ⟨w.heap.size + 1 + 1 + 1, 0, none⟩) n n) = W3 at *
  clear d2 d3 d4 hK3 hAt2 hF02 hl2
  have HX : Hid (At W3 (w.heap.size + 1 + 1 + 1) (upI (List.range n)) ∧ Fresh w W3) := ⟨hAt3, hF3⟩
  clear hAt3 hF3
  go_wp2
  refine leaves_cons (f := 25) (args := #[.pointer (some ⟨w.heap.size, 0, none⟩), .pointer (some ⟨w.heap.size + 1 + 1, 0, none⟩)]) (by simp) (by simp [go_sem]) ?_
  refine (idleT_any _ _ _).mono ?_
  rintro e u' w'' ⟨rfl, rfl, rfl⟩
  have hAtX := HX.out.1.kept (S := fun k => k = w.heap.size + 1 + 1) (w' := W3.setCell ⟨w.heap.size + 1 + 1, 0, none⟩ (.slice (some ⟨w.heap.size + 1 + 1 + 1, 0, none⟩) n n)) ((Kept.refl (fun k => k = w.heap.size + 1 + 1) W3).setCell (p := ⟨w.heap.size + 1 + 1, 0, none⟩) (fun _ => rfl) _) (by omega)
  have hFX : Fresh w (W3.setCell ⟨w.heap.size + 1 + 1, 0, none⟩ (.slice (some ⟨w.heap.size + 1 + 1 + 1, 0, none⟩) n n)) := HX.out.2.setCell (fun e => by simp at e; omega) _
  have hcell := World.cell?_setCell_same W3 ⟨w.heap.size + 1 + 1, 0, none⟩ (.slice (some ⟨w.heap.size + 1 + 1 + 1, 0, none⟩) n n) e3
  simp [Leaves, settle, results, Try.results16, go_sem, hcell]
  exact ⟨by omega, hAtX, hFX⟩
end Go.Proofs.Ytgemkmpepnaoiaa
