/-
  By over things, with an order that may be asked so many times alone.
-/
import Derived.Test.YtgemkmpepnaoiaaRxa
namespace Go.Proofs.Ytgemkmpepnaoiaa
open Go.RowKit Go.Lib Go.Maps

/-- A comparison of things that is handed in. -/
structure AskTB (F : Nat) (caps : Array Value) (R : Th → Th → Bool → Prop) (T : Nat → Prop) (n0 : Nat) (J : Nat → World → Prop) : Prop where
  enters : ∀ (args : Array Value) (X : World), (callFunc F args).run Try.prog X = .ok (.enter F args) X
  asks : ∀ c X a b, J (c + 1) X → Calls Try.prog F (#[thV a, thV b] ++ caps) X fun e X' => ∃ d, e = .returned (.bool d) ∧ R a b d ∧ J c X' ∧ Kept T X X'
  kept : ∀ c X X', J c X → Kept (fun k => n0 ≤ k) X X' → J c X'
  less : ∀ c d X, c ≤ d → J d X → J c X
  ahead : ∀ k, T k → k < n0

/-- What must be for By's comparison to be asked. -/
def JTB (J : Nat → World → Prop) (T : Nat → Prop) (F : Nat) (caps : Array Value) (bA bL n0 : Nat) (rv : Value) (l : List Th) (c : Nat) (X : World) : Prop :=
  J c X ∧ X.cell? ⟨bA, 0, none⟩ = some (.func (.func F) #[] caps) ∧ X.cell? ⟨bL, 0, none⟩ = some rv ∧ ThAt (fun k => k < n0 ∧ ¬ T k) X rv l ∧ bA < X.heap.size ∧ bL < X.heap.size

set_option maxHeartbeats 1000000 in
set_option maxRecDepth 100000 in
theorem byTAskB {F : Nat} {caps : Array Value} {R : Th → Th → Bool → Prop} {T : Nat → Prop} {n1 : Nat} {J : Nat → World → Prop} (hA : AskTB F caps R T n1 J) (bA bL n0 : Nat) (rv : Value) (l : List Th) (_h01 : n1 ≤ n0) (hbA : bA < n0) (hbL : bL < n0) (hA1 : n1 ≤ bA) (hL1 : n1 ≤ bL) :
    AskB 28 #[.pointer (some ⟨bA, 0, none⟩), .pointer (some ⟨bL, 0, none⟩)] (fun z => 0 ≤ z ∧ z < l.length) (fun i j b => ∃ x y, l[i.toNat]? = some x ∧ l[j.toNat]? = some y ∧ R x y b) T n0 (JTB J T F caps bA bL n0 rv l) where
  enters := fun args X => by simp [go_sem]
  ahead := fun k h => by have := hA.ahead k h; omega
  less := fun c d X hcd h => ⟨hA.less c d X hcd h.1, h.2⟩
  kept := fun c X X' h hk => by
    obtain ⟨h0, h1, h2, h3, h4, h5⟩ := h
    exact ⟨hA.kept _ _ _ h0 (hk.mono (fun k _ e => by omega)), (hk.cell (p := ⟨bA, 0, none⟩) h4 (by simp; omega)).trans h1, (hk.cell (p := ⟨bL, 0, none⟩) h5 (by simp; omega)).trans h2, h3.kept hk (fun b hb e => by omega), Nat.lt_of_lt_of_le h4 hk.size, Nat.lt_of_lt_of_le h5 hk.size⟩
  asks := fun c X i j hJ hi hj => by
    obtain ⟨a, rfl⟩ : ∃ a : Nat, i = (a : Int) := ⟨i.toNat, by omega⟩
    obtain ⟨b, rfl⟩ : ∃ b : Nat, j = (b : Int) := ⟨j.toNat, by omega⟩
    have ha : a < l.length := by have := hi.2; omega
    have hb : b < l.length := by have := hj.2; omega
    have HE := hA.enters
    have HAs : Hid (Unit → _) := fun (_ : Unit) => hA.asks
    have HT : Hid (∀ k, T k → k < n1) := hA.ahead
    have HKp : Hid (∀ c X X', J c X → Kept (fun k => n1 ≤ k) X X' → J c X') := hA.kept
    obtain ⟨h0, h1, h2, h3, h4, h5⟩ := hJ
    obtain ⟨ao, cap, hv, _, _, hc⟩ := id h3
    subst hv
    obtain ⟨lb, off, rfl, hp, hlb, hcell⟩ := hc (fun e => by rw [e] at ha; simp at ha)
    obtain ⟨c1, c2⟩ := hcell a ha
    obtain ⟨c3, c4⟩ := hcell b hb
    simp only [Int.toNat_natCast]
    have HX : Hid (l[a]? = some l[a] ∧ l[b]? = some l[b]) := ⟨List.getElem?_eq_getElem ha, List.getElem?_eq_getElem hb⟩
    have ha' : (a : Int) < (l.length : Int) := by omega
    have hb' : (b : Int) < (l.length : Int) := by omega
    have hTl : ¬ T lb := hp.2
    have hTA : ¬ T bA := fun e => by have := HT.out _ e; omega
    have hTL : ¬ T bL := fun e => by have := HT.out _ e; omega
    have hd : JTB J T F caps bA bL n0 (.slice (some ⟨lb, off, none⟩) l.length cap) l (c + 1) X.drew := ⟨HKp.out _ _ _ h0 (Kept.refl _ _).drew, h1, h2, h3.fresh ((Kept.refl _ X).drew), h4, h5⟩
    have hask := (HAs.out ()) c X.drew l[a] l[b] hd.1
    generalize l[a] = x at *
    generalize l[b] = y at *
    clear hcell hc hA hi hj
    show Calls Try.prog 28 #[zV a, zV b, .pointer (some ⟨bA, 0, none⟩), .pointer (some ⟨bL, 0, none⟩)] X _
    go_enter Try.func28, Try.ntmps28
    go_wp2_with fail
    go_region_held3 (fun X' => X'.cell? ⟨bA, 0, none⟩ = some (.func (.func F) #[] caps) ∧ X'.cell? ⟨bL, 0, none⟩ = some (.slice (some ⟨lb, off, none⟩) l.length cap) ∧ X'.cell? ⟨lb, off + a * 2, none⟩ = some (.int .i64 x.k) ∧ X'.cell? ⟨lb, off + a * 2 + 1, none⟩ = some (.string x.m) ∧ X'.cell? ⟨lb, off + b * 2, none⟩ = some (.int .i64 y.k) ∧ X'.cell? ⟨lb, off + b * 2 + 1, none⟩ = some (.string y.m)) (first | exact ⟨h1, h2, c1, c2, c3, c4⟩ | exact hS' | assumption)
      (first | ((with_reducible refine hask.mono ?_); rintro e X' ⟨cc, rfl, hRb, hJb, hKb⟩; have hS' : X'.cell? ⟨bA, 0, none⟩ = some (.func (.func F) #[] caps) ∧ X'.cell? ⟨bL, 0, none⟩ = some (.slice (some ⟨lb, off, none⟩) l.length cap) ∧ X'.cell? ⟨lb, off + a * 2, none⟩ = some (.int .i64 x.k) ∧ X'.cell? ⟨lb, off + a * 2 + 1, none⟩ = some (.string x.m) ∧ X'.cell? ⟨lb, off + b * 2, none⟩ = some (.int .i64 y.k) ∧ X'.cell? ⟨lb, off + b * 2 + 1, none⟩ = some (.string y.m) := ⟨(hKb.cell (p := ⟨bA, 0, none⟩) h4 hTA).trans h1, (hKb.cell (p := ⟨bL, 0, none⟩) h5 hTL).trans h2, (hKb.cell (p := ⟨lb, off + a * 2, none⟩) hlb hTl).trans c1, (hKb.cell (p := ⟨lb, off + a * 2 + 1, none⟩) hlb hTl).trans c2, (hKb.cell (p := ⟨lb, off + b * 2, none⟩) hlb hTl).trans c3, (hKb.cell (p := ⟨lb, off + b * 2 + 1, none⟩) hlb hTl).trans c4⟩))
    all_goals
      have HR : Hid (R x y cc ∧ JTB J T F caps bA bL n0 (.slice (some ⟨lb, off, none⟩) l.length cap) l c X' ∧ Kept T X X') := ⟨hRb, ⟨hJb, hS'.1, hS'.2.1, hd.2.2.2.1.kept hKb (fun b hb e => hb.2 e), Nat.lt_of_lt_of_le h4 hKb.size, Nat.lt_of_lt_of_le h5 hKb.size⟩, Kept.undrew hKb⟩
      clear hKb hJb hRb hS'
      go_wp2
      go_ret
      exact ⟨_, rfl, ⟨x, y, HX.out.1, HX.out.2, HR.out.1⟩, HR.out.2.1, HR.out.2.2⟩

set_option maxHeartbeats 2000000 in
set_option maxRecDepth 100000 in
theorem byTB_any {F : Nat} {caps : Array Value} {R : Th → Th → Bool → Prop} {T : Nat → Prop} {J : Nat → World → Prop} (rv : Value) (zs : List Th) (w : World) (hAT : AskTB F caps R T w.heap.size J) (hJ : J (zs.length * 44) w) (hr : ThAt (fun b => b < w.heap.size ∧ ¬ T b) w rv zs) :
    Calls Try.prog 16 #[rv, .func (.func F) #[] caps] w fun e w' =>
      ∃ o b, e = .returned (.slice (some ⟨b, 0, none⟩) zs.length zs.length) ∧ (∃ c, Ar (RT zs R) (List.range zs.length) o c) ∧ w.heap.size ≤ b ∧ At w' b (upI o) ∧ J 0 w' ∧ Kept T w w' := by
  have hmf : ∀ (fn : Fn) (first cap : Array Value) (w : World), (Instr.makeFunc fn first cap).run Try.prog w = .ok (.func fn first cap) w := fun _ _ _ _ => rfl
  obtain ⟨i0, hi, hz0, hz1, hz2⟩ := info_parts Try.infoI
  have hn := hr.len
  obtain ⟨n, hnz⟩ : ∃ n, n = zs.length := ⟨_, rfl⟩
  have hm : ∀ (W : World), (Instr.makeSlice 25 (.int .i64 (n : Int)) (.int .i64 (n : Int))).run Try.prog W = .ok (.slice (some ⟨W.heap.size, 0, none⟩) n n) (W.alloc (.cells ((List.replicate n (0 : Int)).map zV).toArray 3)) := fun W => by
    have h := run_make (P := Try.prog) W 25 3 i0 _ Try.underlying25 hi hz0 .i64 .i64 (n : Int) (n : Int) (by omega) (by omega) (by rw [hz2]; omega) (by omega)
    rw [hz1] at h
    simp only [Int.toNat_natCast] at h
    rw [made_zeros] at h
    exact h
  obtain ⟨ao, cap, hv, _⟩ := id hr
  rw [← hnz] at hv hn ⊢
  subst hv
  have HR : Hid (ThAt (fun b => b < w.heap.size ∧ ¬ T b) w (.slice ao n cap) zs) := hr
  have HJ : Hid (J (n * 44) w) := by rw [hnz]; exact hJ
  have HAT : Hid (Unit → _) := fun (_ : Unit) => hAT
  have HN : Hid (n = zs.length) := hnz
  clear hr hnz hJ hAT
  go_enter_defers Try.func16, Try.ntmps16
  go_wp2_with fail
  refine (firstPlaces_any n _ hn).mono ?_
  rintro e W2 ⟨rfl, hAt2, hF2⟩
  have hs1 : (((w.alloc (Obj.cells #[Value.slice ao n cap] 32)).alloc (Obj.cells #[Value.func (Fn.func F) #[] caps] 37)).alloc (Obj.cells #[Value.slice none 0 0] 25)).heap.size = w.heap.size + 1 + 1 + 1 := by simp
  rw [hs1] at hAt2
  rw [hs1]
  have hF0 : Fresh w (((w.alloc (Obj.cells #[Value.slice ao n cap] 32)).alloc (Obj.cells #[Value.func (Fn.func F) #[] caps] 37)).alloc (Obj.cells #[Value.slice none 0 0] 25)) := (((Kept.refl _ w).alloc _).alloc _).alloc _
  have d1 : W2.cell? ⟨w.heap.size, 0, none⟩ = some (.slice ao n cap) := (hF2.cell (p := ⟨w.heap.size, 0, none⟩) (by simp <;> omega) (fun e => e)).trans (by simp [go_sem])
  have d2 : W2.cell? ⟨w.heap.size + 1, 0, none⟩ = some (.func (.func F) #[] caps) := (hF2.cell (p := ⟨w.heap.size + 1, 0, none⟩) (by simp <;> omega) (fun e => e)).trans (by simp [go_sem])
  have d3 : W2.cell? ⟨w.heap.size + 1 + 1, 0, none⟩ = some (.slice none 0 0) := (hF2.cell (p := ⟨w.heap.size + 1 + 1, 0, none⟩) (by simp <;> omega) (fun e => e)).trans (by simp [go_sem])
  have d4 : W2.frozen? ⟨w.heap.size + 1 + 1, 0, none⟩ = false := (hF2.frozen (p := ⟨w.heap.size + 1 + 1, 0, none⟩) (by simp <;> omega) (fun e => e)).trans (by simp [go_sem])
  have hF02 : Fresh w W2 := hF0.trans hF2 (fun _ _ e => e)
  have hl2 : w.heap.size + 1 + 1 + 1 < W2.heap.size := lt_of_heap hAt2
  have hR2 := HR.out.fresh hF02
  clear hF0 hF2 hs1
  -- the world behind the store
  have hK3 : Kept (fun k => k = w.heap.size + 1 + 1) W2 (W2.setCell ⟨w.heap.size + 1 + 1, 0, none⟩ (.slice (some ⟨w.heap.size + 1 + 1 + 1, 0, none⟩) n n)) := (Kept.refl (fun k => k = w.heap.size + 1 + 1) W2).setCell (p := ⟨w.heap.size + 1 + 1, 0, none⟩) (fun _ => rfl) _
  have e1 := (hK3.cell (p := ⟨w.heap.size, 0, none⟩) (by simp <;> omega) (by simp <;> omega)).trans d1
  have e2 := (hK3.cell (p := ⟨w.heap.size + 1, 0, none⟩) (by simp <;> omega) (by simp <;> omega)).trans d2
  have e3 : (W2.setCell ⟨w.heap.size + 1 + 1, 0, none⟩ (.slice (some ⟨w.heap.size + 1 + 1 + 1, 0, none⟩) n n)).cell? ⟨w.heap.size + 1 + 1, 0, none⟩ = some (.slice (some ⟨w.heap.size + 1 + 1 + 1, 0, none⟩) n n) := World.cell?_setCell_same _ _ _ d3
  have e4 : (W2.setCell ⟨w.heap.size + 1 + 1, 0, none⟩ (.slice (some ⟨w.heap.size + 1 + 1 + 1, 0, none⟩) n n)).frozen? ⟨w.heap.size + 1 + 1, 0, none⟩ = false := by rw [World.frozen?_setCell]; exact d4
  have hAt3 := hAt2.kept hK3 (by omega)
  have hR3 := hR2.kept hK3 (fun b hb => by have := hb.1; omega)
  have hJ2 : J (n * 44) W2 := (HAT.out ()).kept _ _ _ HJ.out (hF02.mono (fun _ _ e => e.elim))
  have hJ3 := (HAT.out ()).kept _ _ _ hJ2 (hK3.mono (fun k _ e => by omega))
  have hF3 : Fresh w (W2.setCell ⟨w.heap.size + 1 + 1, 0, none⟩ (.slice (some ⟨w.heap.size + 1 + 1 + 1, 0, none⟩) n n)) := hF02.setCell (fun e => by simp at e; omega) _
  have hs3 : w.heap.size + 1 + 1 + 1 < (W2.setCell ⟨w.heap.size + 1 + 1, 0, none⟩ (.slice (some ⟨w.heap.size + 1 + 1 + 1, 0, none⟩) n n)).heap.size := Nat.lt_of_lt_of_le hl2 hK3.size
  go_upto_region 3 with fail
  generalize W2.setCell ⟨w.heap.size + 1 + 1, 0, none⟩ (.slice (some ⟨w.heap.size + 1 + 1 + 1, 0, none⟩) n n) = W3 at *
  clear d1 d2 d3 d4 hK3 hAt2 hR2 hF02 hl2 hJ2
  have hJT : JTB J T F caps (w.heap.size + 1) w.heap.size (w.heap.size + 1 + 1 + 1) (.slice ao n cap) zs (n * 44) W3 := ⟨hJ3, e2, e1, hR3.mono (fun b hb => ⟨by omega, hb.2⟩), by omega, by omega⟩
  have hask := byTAskB (HAT.out ()) (w.heap.size + 1) w.heap.size (w.heap.size + 1 + 1 + 1) (.slice ao n cap) zs (by omega) (by omega) (by omega) (by omega) (Nat.le_refl _)
  have hFY : Fresh W3 (W3.alloc (.cells ((List.replicate n (0 : Int)).map zV).toArray 3)).drew := ((Kept.refl _ W3).alloc _).drew
  have hAtG : At (W3.alloc (.cells ((List.replicate n (0 : Int)).map zV).toArray 3)).drew W3.heap.size (List.replicate n 0) := heap_alloc_new W3 _
  have hcall := arrangeB_any hask W3.heap.size n n (w.heap.size + 1 + 1 + 1) (by omega) (Nat.le_refl _) (by omega) 44 0 (upI (List.range n)) [] [] n (W3.alloc (.cells ((List.replicate n (0 : Int)).map zV).toArray 3)).drew (by rw [upI_length, List.length_range]; exact hn) (hask.less _ _ _ (by rw [upI_length, List.length_range]; omega) (hask.kept _ _ _ hJT (hFY.mono (fun _ _ e => e.elim))))
    (by simpa using hAt3.kept hFY (fun e => e)) (by simp [upI_length]) (by omega) (own_of_at hAtG (by simp) (by unfold maxLen; omega)) (by simp [upI_length]) (fun z hz => by
      obtain ⟨i, hi, rfl⟩ := List.mem_map.1 hz
      rw [List.mem_range, HN.out] at hi
      exact ⟨by omega, by omega⟩)
  rw [upI_length, List.length_range] at hcall
  have HC : Hid (Unit → _) := fun (_ : Unit) => hcall
  have HF3 : Hid (Fresh w W3 ∧ w.heap.size + 1 + 1 + 1 < W3.heap.size) := ⟨hF3, hs3⟩
  have hm3 : (Instr.makeSlice 25 (.int .i64 (n : Int)) (.int .i64 (n : Int))).run Try.prog W3.drew = .ok (.slice (some ⟨W3.heap.size, 0, none⟩) n n) (W3.alloc (.cells ((List.replicate n (0 : Int)).map zV).toArray 3)).drew := hm W3.drew
  generalize hY : (W3.alloc (.cells ((List.replicate n (0 : Int)).map zV).toArray 3)) = Y at *
  have y1 : Y.cell? ⟨w.heap.size, 0, none⟩ = some (.slice ao n cap) := (hFY.cell (p := ⟨w.heap.size, 0, none⟩) (by simp; omega) (fun e => e)).trans e1
  have y3 : Y.cell? ⟨w.heap.size + 1 + 1, 0, none⟩ = some (.slice (some ⟨w.heap.size + 1 + 1 + 1, 0, none⟩) n n) := (hFY.cell (p := ⟨w.heap.size + 1 + 1, 0, none⟩) (by simp; omega) (fun e => e)).trans e3
  have y4 : Y.frozen? ⟨w.heap.size + 1 + 1, 0, none⟩ = false := (hFY.frozen (p := ⟨w.heap.size + 1 + 1, 0, none⟩) (by simp; omega) (fun e => e)).trans e4
  have HFY : Hid (Fresh W3 Y) := ⟨hFY.os, hFY.tape, hFY.output, hFY.size, hFY.block⟩
  clear hcall hask hJ3 hJT hAt3 hR3 hAtG hFY hm hY
  have HTl : Hid (∀ k, T k → k < w.heap.size) := (HAT.out ()).ahead
  have hnb1 : ¬ (w.heap.size = W3.heap.size ∨ w.heap.size = w.heap.size + 1 + 1 + 1 ∨ T w.heap.size) := by
    have := HF3.out.2
    rintro (h | h | h)
    · omega
    · omega
    · exact absurd (HTl.out _ h) (by omega)
  have hnb3 : ¬ (w.heap.size + 1 + 1 = W3.heap.size ∨ w.heap.size + 1 + 1 = w.heap.size + 1 + 1 + 1 ∨ T (w.heap.size + 1 + 1)) := by
    have := HF3.out.2
    rintro (h | h | h)
    · omega
    · omega
    · exact absurd (HTl.out _ h) (by omega)
  have hne := fun (w : World) (a c : Array Value) => run_neq_func_nil (P := Try.prog) w 37 (.func F) a c Try.underlying37
  go_wp2_with fail
  clear hne
  go_region_held3 (fun X => X.cell? ⟨w.heap.size, 0, none⟩ = some (.slice ao n cap) ∧ X.cell? ⟨w.heap.size + 1 + 1, 0, none⟩ = some (.slice (some ⟨w.heap.size + 1 + 1 + 1, 0, none⟩) n n) ∧ X.frozen? ⟨w.heap.size + 1 + 1, 0, none⟩ = false) (first | exact ⟨e1, e3, e4⟩ | exact ⟨y1, y3, y4⟩ | exact hS' | assumption)
    (first | (go_at_call 27; refine (HC.out ()).mono ?_; rintro e X' ⟨o, no, rfl, hAr, hAt5, hown5, hJ5, hK5⟩; have hS' : X'.cell? ⟨w.heap.size, 0, none⟩ = some (.slice ao n cap) ∧ X'.cell? ⟨w.heap.size + 1 + 1, 0, none⟩ = some (.slice (some ⟨w.heap.size + 1 + 1 + 1, 0, none⟩) n n) ∧ X'.frozen? ⟨w.heap.size + 1 + 1, 0, none⟩ = false := ⟨(hK5.cell (p := ⟨w.heap.size, 0, none⟩) (by have := HFY.out.size; have := HF3.out.2; simp; omega) hnb1).trans y1, (hK5.cell (p := ⟨w.heap.size + 1 + 1, 0, none⟩) (by have := HFY.out.size; have := HF3.out.2; simp; omega) hnb3).trans y3, (hK5.frozen (p := ⟨w.heap.size + 1 + 1, 0, none⟩) (by have := HFY.out.size; have := HF3.out.2; simp; omega) hnb3).trans y4⟩))
  all_goals
    have HS : Hid (∃ p, o = upI p ∧ ∃ c, Ar (RT zs R) (List.range n) p c) := by
      obtain ⟨p, hp, hA⟩ := hAr.up _ rfl
      exact ⟨p, hp, _, hA⟩
    have HX : Hid (At X' (w.heap.size + 1 + 1 + 1) o ∧ J 0 X' ∧ Kept T w X') := by
      refine ⟨by simpa using hAt5, hJ5.1, ((HF3.out.1.trans HFY.out (fun _ _ e => e)).mono (fun _ _ e => e.elim)).trans (Kept.undrew hK5) (fun i hi h => ?_)⟩
      have := HF3.out.2
      rcases h with h | h | h
      · omega
      · omega
      · exact h
    obtain ⟨s1, s3, s4⟩ := hS'
    clear hAr hAt5 hown5 hJ5 hK5 HC
    go_wp2
    refine leaves_cons (f := 25) (args := #[.pointer (some ⟨w.heap.size, 0, none⟩), .pointer (some ⟨w.heap.size + 1 + 1, 0, none⟩)]) (by simp) (by simp [go_sem]) ?_
    refine (idleT_any _ _ _).mono ?_
    rintro e u' w'' ⟨rfl, rfl, rfl⟩
    obtain ⟨p, hp, hO⟩ := HS.out
    have hAtX := HX.out.1.kept (S := fun k => k = w.heap.size + 1 + 1) (w' := X'.setCell ⟨w.heap.size + 1 + 1, 0, none⟩ (.slice (some ⟨w.heap.size + 1 + 1 + 1, 0, none⟩) n n)) ((Kept.refl (fun k => k = w.heap.size + 1 + 1) X').setCell (p := ⟨w.heap.size + 1 + 1, 0, none⟩) (fun _ => rfl) _) (by omega)
    have hJX : J 0 (X'.setCell ⟨w.heap.size + 1 + 1, 0, none⟩ (.slice (some ⟨w.heap.size + 1 + 1 + 1, 0, none⟩) n n)) := (HAT.out ()).kept _ _ _ HX.out.2.1 ((Kept.refl (fun k => w.heap.size ≤ k) X').setCell (p := ⟨w.heap.size + 1 + 1, 0, none⟩) (fun _ => by simp; omega) _)
    have hFX : Kept T w (X'.setCell ⟨w.heap.size + 1 + 1, 0, none⟩ (.slice (some ⟨w.heap.size + 1 + 1 + 1, 0, none⟩) n n)) := HX.out.2.2.setCell (fun e => by simp at e; omega) _
    have hcell := World.cell?_setCell_same X' ⟨w.heap.size + 1 + 1, 0, none⟩ (.slice (some ⟨w.heap.size + 1 + 1 + 1, 0, none⟩) n n) s3
    simp [Leaves, settle, results, Try.results16, go_sem, hcell]
    exact ⟨p, hO, by omega, by rw [← hp]; exact hAtX, hJX, hFX⟩


end Go.Proofs.Ytgemkmpepnaoiaa
