/-
  For every number of places, every script and every number the statement PoolWalks answers true: the walk.
-/
import Derived.Test.YtomikgnifbgfiaaDoorPlk
import Derived.Deep.RegionWith
import Derived.Laws.EntriesVeiled
namespace Go.Proofs.YtomikgnifbgfiaaDoor
open Go.RowKit Go.Shelf

attribute [local go_sem] Oper.semAt_some

theorem ownFrom_kept {β : Type} {S : Nat → Prop} {X0 : World} {B : Nat} (hB : X0.heap.size ≤ B) : OwnFrom B (fun (_ : β) W => Kept S X0 W) :=
  fun _ _ _ _ hs hg hr => hs.grown hg (fun k hk e => by have := (hr k e).1; omega)
theorem own_pool {β : Type} {b : Nat} {G : (Nat → Prop) → List (Option Int) → Prop} : Own (fun (_ : β) W => ∃ F m, PoolAt W F b m ∧ G F m) := fun _ X Y row hs hg hr => by
  obtain ⟨F, m, hp, hG⟩ := hs
  refine ⟨F, m, hp.kept ((Kept.refl (fun k => row = some k) X).grown hg (fun k _ e => e)) (fun k hk e => ?_), hG⟩
  obtain ⟨cs, t, fz, h1, _⟩ := hp.type hk
  obtain ⟨o, ho, hc⟩ := hr k e
  rw [h1] at ho
  simp only [Option.some.injEq] at ho
  subst ho
  simp [Obj.isCells] at hc
theorem keepsFrom_pool {W W' : World} {F : Nat → Prop} {b : Nat} {m : List (Option Int)} (hp : PoolAt W F b m) (hk : Kept F W W') (B : Nat) : KeepsFrom B W W' := ⟨hk.size, fun k o _ ho hc => by
  refine (hk.block k (lt_of_heap ho) (fun e => ?_)).trans ho
  obtain ⟨cs, t, fz, h1, _⟩ := hp.type e
  rw [h1] at ho
  simp only [Option.some.injEq] at ho
  subst ho
  simp [Obj.isCells] at hc⟩
theorem keepsFrom_only {W W' : World} {C : Nat} {t : TypeId} {u : Value} (hC : Boxed W C t u) (hk : Kept (only C) W W') (B : Nat) : KeepsFrom B W W' := ⟨hk.size, fun k o _ ho hc => by
  refine (hk.block k (lt_of_heap ho) (fun e => ?_)).trans ho
  have e' : k = C := e
  subst e'
  rw [show W.heap[k]? = _ from hC] at ho
  simp only [Option.some.injEq] at ho
  subst ho
  simp [Obj.isCells] at hc⟩
theorem mem_ents {l : List (Option Int)} {k : Nat} {y : Int} (h : (k, y) ∈ ents l) : k < l.length ∧ l.getD k none = some y := by
  unfold ents entsTo at h
  rw [List.mem_filterMap] at h
  obtain ⟨j, hj, he⟩ := h
  rw [List.mem_range] at hj
  cases ho : l.getD j none with
  | none => rw [ho] at he; simp at he
  | some z =>
    rw [ho] at he
    simp only [Option.map_some, Option.some.injEq, Prod.mk.injEq] at he
    obtain ⟨rfl, rfl⟩ := he
    exact ⟨hj, ho⟩
theorem ents_length (l : List (Option Int)) : (ents l).length = used l := by
  have h : ∀ k, k ≤ l.length → (entsTo l k).length = used (l.take k) := by
    intro k
    induction k with
    | zero => intro _; rfl
    | succ k ih =>
      intro hk
      rw [entsTo_succ, List.length_append, ih (by omega), used_take l k (by omega)]
      cases l.getD k none <;> simp
  have := h l.length (Nat.le_refl _)
  rw [List.take_length] at this
  exact this

/-- .. where the code runs to its end. -/
def OnlyN (Q : Exit → Act → World → Prop) : Exit → Act → World → Prop
  | .normal, a, w => Q .normal a w
  | _, _, _ => False
theorem wp_only {c : Code} {Q : Exit → Act → World → Prop} {a : Act} {w : World} (h : c.wp Tryd.prog (OnlyN Q) a w) : c.wp Tryd.prog Q a w := wp_mono h fun e a w hq => by
  cases e with
  | normal => exact hq
  | _ => exact hq.elim

/-- What holds between two steps of the script: the pool's box and the list's. -/
structure WkSt (w0 wr : World) (F : Nat → Prop) (b P L : Nat) (v : Value) (l : List (Option Int)) : Prop where
  both : Both w0 wr F b v l
  bp : Boxed wr P 23 (.pointer (some ⟨b, 0, none⟩))
  bl : Boxed wr L 24 v
theorem foot_type {w : World} {F : Nat → Prop} {b k : Nat} {l : List (Option Int)} (hp : PoolAt w F b l) {cs : Array Value} {t : TypeId} {fz : Nat × Nat} (h : w.heap[k]? = some (.cells cs t fz)) (h1 : t ≠ 82) (h2 : t ≠ 3) (h3 : t ≠ 96) : ¬ F k := fun e => by
  obtain ⟨cs', t', fz', g, ht⟩ := hp.type e
  rw [h] at g
  simp only [Option.some.injEq, Obj.cells.injEq] at g
  rcases ht with e | e | e
  · exact h1 (g.2.1.trans e)
  · exact h2 (g.2.1.trans e)
  · exact h3 (g.2.1.trans e)

theorem WkSt.only {w0 wr W : World} {F : Nat → Prop} {b P L A : Nat} {v u : Value} {l : List (Option Int)} (h : WkSt w0 wr F b P L v l) (hA : Boxed wr A 3 u) (hk : Kept (only A) wr W) (hF : ¬ F A) (hs : w0.heap.size ≤ A) : WkSt w0 W F b P L v l :=
  ⟨⟨h.both.pool.kept hk (fun k hk' (e : k = A) => hF (e ▸ hk')), ⟨owns_kept h.both.ref.1 hk (fun g hg (e : g = A) => row_ne h.both.ref.1 hA (by decide) (by rw [hg, e])), h.both.ref.2⟩, h.both.new, h.both.fr.trans hk (fun i hi (e : i = A) => by omega)⟩,
    hk.at h.bp (fun e => ne_type h.bp hA (by decide) e), hk.at h.bl (fun e => ne_type h.bl hA (by decide) e)⟩
theorem WkSt.fresh {w0 wr W : World} {F : Nat → Prop} {b P L : Nat} {v : Value} {l : List (Option Int)} (h : WkSt w0 wr F b P L v l) (hk : Fresh wr W) : WkSt w0 W F b P L v l := ⟨h.both.fresh hk, hk.at h.bp (fun e => e), hk.at h.bl (fun e => e)⟩

set_option maxRecDepth 100000 in
set_option maxHeartbeats 4000000 in
theorem walks_walk (P : Int) (v : Value) (sc : List O3) (leave : Int) (w : World) (hT : Tab w) (hs : ScrAt w v sc) :
    Calls Tryd.prog 7 #[.int .i64 P, v, .int .i64 leave] w fun e w' => e = .returned (.bool true) ∧ Fresh w w' := by
  have hef := eql_func
  have hsl : sc.length ≤ 140737488351232 := let ⟨_, _, _, h, _⟩ := hs; h
  have HS : Hid (ScrAt w v sc) := hs
  obtain ⟨ao, cap, hv⟩ := hs.shape
  clear hs
  subst hv
  refine (callsIn_wide (n := 10)).1 ?_
  refine callsIn_of_wp_marks Tryd.func7 rfl trivial ?_ rfl
  simp only [Tryd.ntmps7, List.size_toArray, List.length_cons, List.length_nil, Nat.reduceAdd, Nat.reduceSub, Array.replicate_succ, Array.replicate_zero, List.push_toArray, List.append_toArray, List.nil_append, List.cons_append]
  refine wpIn_wide.2 ?_
  have hF0 : Fresh w ((w.alloc (.cells #[.int .i64 leave] 3)).alloc (.cells #[.bool false] 4)) := ((Kept.refl _ w).alloc _).alloc _
  have hT0 := hT.kept hF0 (fun e => e)
  have bV : Boxed ((w.alloc (.cells #[.int .i64 leave] 3)).alloc (.cells #[.bool false] 4)) w.heap.size 3 (.int .i64 leave) := (Boxed.new w _ _).alloc _
  have bR : Boxed ((w.alloc (.cells #[.int .i64 leave] 3)).alloc (.cells #[.bool false] 4)) (w.heap.size + 1) 4 (.bool false) := by
    have := Boxed.new (w.alloc (.cells #[.int .i64 leave] 3)) 4 (.bool false)
    rwa [World.size_alloc] at this
  by_cases hN : 1 ≤ P ∧ P ≤ 65536
  · obtain ⟨N, rfl⟩ := Int.eq_ofNat_of_zero_le (show 0 ≤ P by omega)
    have hN1 : 1 ≤ N := by omega
    have hN2 : N ≤ 65536 := by omega
    clear hN
    go_wp2_with fail
    generalize hW0 : (w.alloc (.cells #[.int .i64 leave] 3)).alloc (.cells #[.bool false] 4) = W0 at *
    have hs0 : W0.heap.size = w.heap.size + 2 := by rw [← hW0]; simp
    clear hW0
    refine (begun_any N W0 hT0 hN1 hN2).mono ?_
    rintro e w1 ⟨v1, rfl, hP1, hR1, hF1⟩
    obtain ⟨a1, p1, hv1⟩ := slice_shape hR1.1
    rw [List.length_replicate] at hv1
    subst hv1
    have hB1 := Both.start hP1 hR1 hF1
    have bP0 := (Boxed.new w1 23 (.pointer (some ⟨W0.heap.size, 0, none⟩))).alloc (.cells #[.slice a1 N p1] 24)
    have bL0 : Boxed ((w1.alloc (.cells #[.pointer (some ⟨W0.heap.size, 0, none⟩)] 23)).alloc (.cells #[.slice a1 N p1] 24)) (w1.heap.size + 1) 24 (.slice a1 N p1) := by
      have := Boxed.new (w1.alloc (.cells #[.pointer (some ⟨W0.heap.size, 0, none⟩)] 23)) 24 (.slice a1 N p1)
      rwa [World.size_alloc] at this
    have hSt : WkSt W0 ((w1.alloc (.cells #[.pointer (some ⟨W0.heap.size, 0, none⟩)] 23)).alloc (.cells #[.slice a1 N p1] 24)) (only W0.heap.size) W0.heap.size w1.heap.size (w1.heap.size + 1) (.slice a1 N p1) (List.replicate N none) :=
      ⟨hB1.fresh (((Kept.refl _ w1).alloc _).alloc _), bP0, bL0⟩
    have hs1 := hF1.size
    clear hP1 hR1 hF1 hB1 bP0 bL0
    rw [hs0] at hSt
    have hsb : w1.heap.size ≥ w.heap.size + 2 := by omega
    go_wp2
    generalize hbE : w.heap.size + 2 = b at *
    generalize hLE : w1.heap.size + 1 = LB at *
    generalize hPE : w1.heap.size = PB at *
    go_loopw [11] (fun i wr => ∃ j : Nat, j ≤ sc.length ∧ i = .int .i64 (j : Int) ∧ ∃ F s l, WkSt W0 wr F b PB LB s l) (fun i _ => sc.length - (intOf i).toNat)
    case atStart => exact ⟨0, Nat.zero_le _, rfl, _, _, _, hSt⟩
    case round =>
      obtain ⟨j, hj, rfl, F, s, l, hB⟩ := hrel
      obtain ⟨a2, p2, hv2⟩ := slice_shape hB.both.ref.1
      subst hv2
      clear hSt
      have cP := hB.bp.cell
      have cL := hB.bl.cell
      have fL := hB.bl.frozen
      have HB : Hid (WkSt W0 wr F b PB LB (.slice a2 l.length p2) l) := hB
      have HFw : Hid (Fresh w wr) := hF0.trans hB.both.fr (fun _ _ e => e)
      clear hB
      by_cases hlt : j < sc.length
      · obtain ⟨sb, off, cp, hv, c0, c1, c2⟩ := HS.out.at HFw.out hlt
        cases hv
        have hst := fun (_ : Unit) => step_any F b _ l sc[j].k sc[j].p sc[j].x wr.drew (HB.out.both.pool.kept (Kept.refl (fun _ => False) wr).drew (fun _ _ e => e)) (HB.out.both.ref.fresh (Kept.refl _ wr).drew) (HB.out.both.tab hT0)
        have HSt := show Hid _ from hst
        have HEnd : Hid (∀ w2 v2, StepO wr.drew F b l w2 v2 → (∃ a n p, v2 = .slice a n p) ∧ w2.cell? ⟨LB, 0, none⟩ = some (.slice a2 l.length p2) ∧ w2.frozen? ⟨LB, 0, none⟩ = false ∧ ∃ F' l', WkSt W0 (w2.setCell ⟨LB, 0, none⟩ v2) F' b PB LB v2 l') := by
          intro w2 v2 ⟨l2, hR2, ht2, hl2⟩
          have ht2' : Turned wr F b l2 w2 := let ⟨F', t1, t2, t3⟩ := ht2; ⟨F', t1, t2.undrew, t3⟩
          obtain ⟨F2, hB2, hK2, hF2⟩ := HB.out.both.of_turned hR2 ht2'
          have nP := foot_type HB.out.both.pool HB.out.bp (by decide) (by decide) (by decide)
          have nL := foot_type HB.out.both.pool HB.out.bl (by decide) (by decide) (by decide)
          have bP2 : Boxed w2 PB 23 (.pointer (some ⟨b, 0, none⟩)) := hK2.at HB.out.bp nP
          have bL2 : Boxed w2 LB 24 (.slice a2 l.length p2) := hK2.at HB.out.bl nL
          have nL2 := foot_type hB2.pool bL2 (by decide) (by decide) (by decide)
          have hkS := kept_set w2 LB 0 v2
          have hLn : W0.heap.size ≤ LB := by omega
          refine ⟨let ⟨a, p, e⟩ := slice_shape hR2.1; ⟨a, _, p, e⟩, bL2.cell, bL2.frozen, F2, l2, ⟨⟨hB2.pool.kept hkS (fun k hk (e : k = LB) => nL2 (e ▸ hk)), ⟨owns_kept hB2.ref.1 hkS (fun g hg (e : g = LB) => row_ne hB2.ref.1 bL2 (by decide) (by rw [hg, e])), hB2.ref.2⟩, hB2.new, hB2.fr.trans hkS (fun i hi (e : i = LB) => by omega)⟩, bP2.other (ne_type bP2 bL2 (by decide)) _, bL2.set _⟩⟩
        clear hst
        generalize sc[j].k = ok at *
        generalize sc[j].p = op at *
        generalize sc[j].x = ox at *
        go_wp2_with fail
        refine wp_only ?_
        go_region_with (first | (go_at_call 10; refine (HSt.out ()).mono ?_; rintro e w2 ⟨v2, rfl, hO⟩; obtain ⟨⟨a9, n9, p9, hv9⟩, d1, d2, d3⟩ := HEnd.out w2 v2 hO; subst hv9))
        all_goals
          have HD := show Hid _ from d3
          clear hO d3 HEnd HSt
          dsimp only [OnlyN]
          go_wp2
          go_roundw
          case rel => exact ⟨j + 1, by omega, by go_num, let ⟨F', l', h'⟩ := HD.out; ⟨F', _, l', h'⟩⟩
          case measure => simp [intOf]; omega
      · obtain rfl : j = sc.length := by omega
        clear HS hsl
        go_wp2_with fail
        refine (all_any F b l wr HB.out.both.pool).mono ?_
        rintro e X ⟨B, rfl, hA, hkX⟩
        have hB2 : WkSt W0 X F b PB LB (.slice a2 l.length p2) l := ⟨HB.out.both.fresh hkX, hkX.at HB.out.bp (fun e => e), hkX.at HB.out.bl (fun e => e)⟩
        have hlsz := HB.out.both.fr.size
        clear HB cP cL fL
        have hA' : AllAt wr.heap.size X B (ents l) := hA
        obtain ⟨hB2', vv, hb1, hb2⟩ := hA'
        have hgv : ∀ g, vv.ownBlock = some g → wr.heap.size ≤ g ∧ g < X.heap.size := fun g e => hb2.lt g e
        have hBX := lt_of_heap hb1
        have hll := hB2.both.ref.2
        have hn0 : (ents l).length ≤ 65536 := Nat.le_trans (entsTo_le l _) hll
        have hFA : Fresh X ((X.alloc (.cells #[.func (.func 42) #[] #[.pointer (some ⟨B, 0, none⟩)]] 63)).alloc (.cells #[.int .i64 0] 3)) := ((Kept.refl _ X).alloc _).alloc _
        have bM : Boxed ((X.alloc (.cells #[.func (.func 42) #[] #[.pointer (some ⟨B, 0, none⟩)]] 63)).alloc (.cells #[.int .i64 0] 3)) X.heap.size 63 (.func (.func 42) #[] #[.pointer (some ⟨B, 0, none⟩)]) := (Boxed.new X _ _).alloc _
        have bA : Boxed ((X.alloc (.cells #[.func (.func 42) #[] #[.pointer (some ⟨B, 0, none⟩)]] 63)).alloc (.cells #[.int .i64 0] 3)) (X.heap.size + 1) 3 (.int .i64 0) := by
          have := Boxed.new (X.alloc (.cells #[.func (.func 42) #[] #[.pointer (some ⟨B, 0, none⟩)]] 63)) 3 (.int .i64 0)
          rwa [World.size_alloc] at this
        have hB3 : WkSt W0 ((X.alloc (.cells #[.func (.func 42) #[] #[.pointer (some ⟨B, 0, none⟩)]] 63)).alloc (.cells #[.int .i64 0] 3)) F b PB LB (.slice a2 l.length p2) l := ⟨hB2.both.fresh hFA, hFA.at hB2.bp (fun e => e), hFA.at hB2.bl (fun e => e)⟩
        have hb1' := hFA.at hb1 (fun e => e)
        have hb2' := owns_base (owns_kept hb2 hFA (fun _ _ e => e))
        have hFb : ∀ k, F k → k < X.heap.size := fun k hk => hB2.both.pool.lt hk
        have hsX := hkX.size
        go_wp2
        generalize hY : (X.alloc (.cells #[.func (.func 42) #[] #[.pointer (some ⟨B, 0, none⟩)]] 63)).alloc (.cells #[.int .i64 0] 3) = Y at *
        have hsY : Y.heap.size = X.heap.size + 2 := by rw [← hY]; simp
        clear hY hB2 hA hb1 hb2 hFA hkX
        generalize hAE : X.heap.size + 1 = A at *
        generalize hME : X.heap.size = M at *
        have bV3 : Boxed Y w.heap.size 3 (.int .i64 leave) := hB3.both.fr.at bV (fun e => e)
        have hs03 := hB3.both.fr.size
        refine (wpIn_wide (n := 10)).1 ?_
        refine wpIn_rangeFunc_ownH (F := Fence.wide) (n := 10) rfl (by omega) (gf := 42) (lb := #[.pointer (some ⟨B, 0, none⟩)]) rfl trivial (enters_of Tryd.func42 (by kernel_rfl) rfl)
          (iter_stops Fence.wide 9 trivial rfl (by omega) B vv (ents l) hn0 Y hb1' hb2') Kp.trans (fun W l' o o' hl' _ _ _ => ⟨World.putObj_heap_other (by omega), fun g e => World.putObj_heap_other (by have := hgv g e; omega)⟩) (Below.refl _ _) (fun _ => rfl)
          (fun pre W => Boxed W A 3 (.int .i64 (pre.length : Int)) ∧ Kept (only A) Y W)
          (fun c pre W => (c = .exit 2) ∧ Kept (only A) Y W)
          (OwnFrom.and (Own.from (boxed_own _ _ _) _) (ownFrom_kept (Nat.le_refl _)))
          (fun c => OwnFrom.and (ownFrom_pure _ _) (ownFrom_kept (Nat.le_refl _))) ⟨bA, Kept.refl _ _⟩
          (fun x a' _ => a' = { tmps := #[.int .i64 (N : Int), .slice ao sc.length cap, .int .i64 leave, undef, undef, .pointer (some ⟨w.heap.size, 0, none⟩), .pointer (some ⟨w.heap.size + 1, 0, none⟩), .pointer (some ⟨PB, 0, none⟩), .pointer (some ⟨LB, 0, none⟩), .bool true, u10, .int .i64 (sc.length : Int), .pointer (some ⟨M, 0, none⟩), .pointer (some ⟨A, 0, none⟩), undef, undef, undef, undef, undef, undef, .tuple #[.pointer (some ⟨b, 0, none⟩), .slice a1 N p1, .bool true, .bool true], .int .i64 (N : Int), .tuple #[.pointer (some ⟨b, 0, none⟩), .slice a1 N p1, .bool true, .bool true], .pointer (some ⟨b, 0, none⟩), .slice a1 N p1, .bool true, .bool true, .bool true, .bool false, .bool false, .bool true, .bool false, .bool false, undef, .int .i64 (sc.length : Int), .slice ao sc.length cap, .int .i64 (sc.length : Int), .bool false, u38, u39, u40, u41, u42, u43, u44, u45, u46, u47, u48, u49, u50, u51, .pointer (some ⟨b, 0, none⟩), .func (.func 42) #[] #[.pointer (some ⟨B, 0, none⟩)], .func (.func 42) #[] #[.pointer (some ⟨B, 0, none⟩)], .bool false, .func (.func 42) #[] #[.pointer (some ⟨B, 0, none⟩)], .int .i64 (x.1 : Int), .int .i64 x.2, undef, undef, undef, undef, undef, undef, undef, undef, undef, undef, undef, undef, undef, undef, undef, undef, undef, undef, undef, undef, undef, undef, undef, undef, undef, undef, undef, undef, undef, undef, undef, undef, undef, undef, undef, undef, undef, undef, undef, undef, undef, undef, undef, undef, undef, undef, undef, undef, undef, undef, undef, undef, undef, undef, undef, undef, undef, undef, undef, undef, undef, undef, undef, undef, undef, undef, undef, undef, undef, undef, undef, undef, undef, undef, undef, undef, undef, undef, undef, undef, undef, undef, undef, undef, undef, undef, undef, undef, undef, undef], defers := [] }) (fun _ _ _ _ _ _ hs _ _ => hs) ?assign ?body ?done ?stop
        case assign =>
          rintro l' pre x W K hi hK
          gi_wp2
          exact hK _ _ (KeepsFrom.refl _ _) (Kp.refl _ _ _) hi rfl
        case body =>
          rintro l' pre x a' W hl' _ ⟨bA1, hKA⟩ rfl hlt
          have cA := bA1.cell
          have fA := bA1.frozen
          have bV1 : Boxed W w.heap.size 3 (.int .i64 leave) := hKA.at bV3 (fun e => by have e' : w.heap.size = A := e; omega)
          have cV := bV1.cell
          have hkp : ∀ u, Kp B vv W (W.setCell ⟨A, 0, none⟩ u) := fun u => ⟨Below.heap_setCell _ _ _ _ (by show B ≠ A; omega), fun g e => Below.heap_setCell _ _ _ _ (by have := hgv g e; show g ≠ A; omega)⟩
          have hpl : (pre ++ [x]).length = pre.length + 1 := by simp
          have hp2 : pre.length < 65536 := by omega
          by_cases hlv : (pre.length : Int) = leave
          · have hbe : ((pre.length : Int) == leave) = true := by simp [hlv]
            gi_wp2
            exact ⟨KeepsFrom.refl _ _, rfl, hKA⟩
          · have hbe : ((pre.length : Int) == leave) = false := by simp [hlv]
            gi_wp2
            exact ⟨(KeepsOthers.setCell _ _ _).from _, hkp _, by rw [hpl]; exact bA1.set _, hKA.setCell (p := ⟨A, 0, none⟩) (fun _ => rfl) _⟩
        case' done => (rintro D xs W hD _ ⟨_, hKA⟩ hK)
        case' stop => (rintro D c pre W hD hpre ⟨rfl, hKA⟩ hK; clear hpre; refine wpIn_wide.2 ?_)
        all_goals
          have nA : ¬ F A := fun e => by have := hFb A e; omega
          have hB4 := hB3.only bA hKA nA (by omega)
          have bM4 : Boxed W M 63 (.func (.func 42) #[] #[.pointer (some ⟨B, 0, none⟩)]) := hKA.at bM (fun e => by have e' : M = A := e; omega)
          have hc1 := hKA.at hb1' (fun e => by have e' : B = A := e; omega)
          have hc2 := owns_kept hb2' hKA (fun g hg (e : g = A) => by have := hgv g hg; omega)
          have hsW : M + 2 ≤ W.heap.size := by have := hKA.size; omega
          have cM : ∀ o, (W.alloc o).cell? ⟨M, 0, none⟩ = some (.func (.func 42) #[] #[.pointer (some ⟨B, 0, none⟩)]) := fun o => (bM4.alloc o).cell
          clear hKA
          go_wp2
          have bC0 := Boxed.new W 3 (.int .i64 0)
          have hB5 := hB4.fresh ((Kept.refl _ W).alloc (.cells #[.int .i64 0] 3))
          have hd1 := ((Kept.refl (fun _ => False) W).alloc (.cells #[.int .i64 0] 3)).at hc1 (fun e => e)
          have hd2 := owns_kept hc2 ((Kept.refl (fun _ => False) W).alloc (.cells #[.int .i64 0] 3)) (fun _ _ e => e)
          have bM5 := bM4.alloc (.cells #[.int .i64 0] 3)
          have hK5 : (W.alloc (.cells #[.int .i64 0] 3)).heap[D]? = some (.deferred (some [])) := ((Kept.refl (fun _ => False) W).alloc (.cells #[.int .i64 0] 3)).at hK (fun e => e)
          have hDW := lt_of_heap hK
          generalize hZ : W.alloc (.cells #[.int .i64 0] 3) = Z at *
          have hsZ : Z.heap.size = W.heap.size + 1 := by rw [← hZ]; simp
          clear hZ hB4 bM4 hc1 hc2 cM hK hB3 bM hb1' hb2'
          generalize W.heap.size = C at *
          have nF : ∀ k, F k → k < M := hFb
          have nFB : ¬ F B := foot_type hB5.both.pool hd1 (by decide) (by decide) (by decide)
          have nFv : ∀ g, vv.ownBlock = some g → ¬ F g := fun g hg e => by
            obtain ⟨cs, t, fz, e1, e2⟩ := hB5.both.pool.type e
            refine row_ne hd2 e1 ?_ hg
            rcases e2 with e | e | e <;> rw [e] <;> decide
          refine (wpIn_wide (n := 10)).1 ?_
          refine wpIn_rangeFunc_ownH (F := Fence.wide) (n := 10) rfl (by omega) (gf := 42) (lb := #[.pointer (some ⟨B, 0, none⟩)]) rfl trivial (enters_of Tryd.func42 (by kernel_rfl) rfl)
            (iter_stops Fence.wide 9 trivial rfl (by omega) B vv (ents l) hn0 Z hd1 hd2) Kp.trans (fun W l' o o' hl' _ _ _ => ⟨World.putObj_heap_other (by omega), fun g e => World.putObj_heap_other (by have := hgv g e; omega)⟩) (Below.refl _ _) (fun _ => rfl)
            (fun pre W' => ((∃ k : Nat, (k ≤ l.length ∧ entsTo l k = pre) ∧ Boxed W' C 3 (.int .i64 (k : Int))) ∧ Kept (fun i => F i ∨ i = C) Z W') ∧ ∃ F' m, PoolAt W' F' b m ∧ ∀ i, i < Z.heap.size → F' i → F i)
            (fun c pre _ => c = .ret ∧ ¬ pre <+: ents l)
            (OwnFrom.and (OwnFrom.and (fun s' X' Y' row hs hg hr => let ⟨k, hk, hb⟩ := hs; ⟨k, hk, Own.from (boxed_own C 3 (fun (_ : List (Nat × Int)) => Value.int .i64 (k : Int))) Z.heap.size s' X' Y' row hb hg hr⟩) (ownFrom_kept (Nat.le_refl _))) (Own.from own_pool _))
            (fun _ => ownFrom_pure _ _) ⟨⟨⟨0, ⟨Nat.zero_le _, rfl⟩, bC0⟩, Kept.refl _ _⟩, F, l, hB5.both.pool, fun _ _ e => e⟩
            (fun x a' _ => a' = { tmps := #[.int .i64 (N : Int), .slice ao sc.length cap, .int .i64 leave, undef, undef, .pointer (some ⟨w.heap.size, 0, none⟩), .pointer (some ⟨w.heap.size + 1, 0, none⟩), .pointer (some ⟨PB, 0, none⟩), .pointer (some ⟨LB, 0, none⟩), .bool true, u10, .int .i64 (sc.length : Int), .pointer (some ⟨M, 0, none⟩), .pointer (some ⟨A, 0, none⟩), .pointer (some ⟨C, 0, none⟩), .int .i64 (x.1 : Int), .int .i64 x.2, undef, undef, undef, .tuple #[.pointer (some ⟨b, 0, none⟩), .slice a1 N p1, .bool true, .bool true], .int .i64 (N : Int), .tuple #[.pointer (some ⟨b, 0, none⟩), .slice a1 N p1, .bool true, .bool true], .pointer (some ⟨b, 0, none⟩), .slice a1 N p1, .bool true, .bool true, .bool true, .bool false, .bool false, .bool true, .bool false, .bool false, undef, .int .i64 (sc.length : Int), .slice ao sc.length cap, .int .i64 (sc.length : Int), .bool false, u38, u39, u40, u41, u42, u43, u44, u45, u46, u47, u48, u49, u50, u51, .pointer (some ⟨b, 0, none⟩), .func (.func 42) #[] #[.pointer (some ⟨B, 0, none⟩)], .func (.func 42) #[] #[.pointer (some ⟨B, 0, none⟩)], .bool false, .func (.func 42) #[] #[.pointer (some ⟨B, 0, none⟩)], undef, undef, undef, undef, undef, undef, undef, .func (.func 42) #[] #[.pointer (some ⟨B, 0, none⟩)], .int .i64 (x.1 : Int), .int .i64 x.2, undef, undef, undef, undef, undef, undef, undef, undef, undef, undef, undef, undef, undef, undef, undef, undef, undef, undef, undef, undef, undef, undef, undef, undef, undef, undef, undef, undef, undef, undef, undef, undef, undef, undef, undef, undef, undef, undef, undef, undef, undef, undef, undef, undef, undef, undef, undef, undef, undef, undef, undef, undef, undef, undef, undef, undef, undef, undef, undef, undef, undef, undef, undef, undef, undef, undef, undef, undef, undef, undef, undef, undef, undef, undef, undef, undef, undef, undef, undef, undef, undef, undef], defers := [] }) (fun _ _ _ _ _ _ hs _ _ => hs) ?assign2 ?body2 ?done2 ?stop2
          case assign2 =>
            rintro l' pre x W1 K hi hK
            gi_wp2
            exact hK _ _ (KeepsFrom.refl _ _) (Kp.refl _ _ _) hi rfl
          case stop2 =>
            rintro D2 c pre W1 hD2 hpre ⟨_, hne⟩ hK2
            exact absurd hpre hne
          case done2 =>
            rintro D2 xs W1 hD2 rfl ⟨⟨⟨k, ⟨hk, hpre⟩, bC1⟩, hKZ⟩, _⟩ hK2
            have bL1 : Boxed W1 LB 24 (.slice a2 l.length p2) := hKZ.at hB5.bl (fun e => by rcases e with e | e; exact foot_type hB5.both.pool hB5.bl (by decide) (by decide) (by decide) e; exact ne_type hB5.bl bC0 (by decide) e)
            have hR1 : RefAt W1 (.slice a2 l.length p2) l := ⟨owns_kept hB5.both.ref.1 hKZ (fun g hg e => by
              rcases e with e | e
              · obtain ⟨cs, t, fz, e1, e2⟩ := hB5.both.pool.type e
                refine row_ne hB5.both.ref.1 e1 ?_ hg
                rcases e2 with e | e | e <;> rw [e] <;> decide
              · exact row_ne hB5.both.ref.1 bC0 (by decide) (by rw [hg, e])), hll⟩
            have bR1 : Boxed W1 (w.heap.size + 1) 4 (.bool false) := by
              have h1 : Boxed Z (w.heap.size + 1) 4 (.bool false) := hB5.both.fr.at bR (fun e => e)
              exact hKZ.at h1 (fun e => by rcases e with e | e; have := hB5.both.new _ e; omega; omega)
            have hKD : W1.heap[D]? = some (.deferred (some [])) := hKZ.at hK5 (fun e => by
              rcases e with e | e
              · obtain ⟨cs, t, fz, e1, _⟩ := hB5.both.pool.type e
                rw [hK5] at e1
                cases e1
              · omega)
            have hFw1 : Fresh w W1 := (hF0.trans hB5.both.fr (fun _ _ e => e)).trans hKZ (fun i hi e => by rcases e with e | e; have := hB5.both.new _ e; omega; omega)
            have hsW1 := hKZ.size
            have hDl := lt_of_heap hKD
            have hD2l := lt_of_heap hK2
            go_wp2
            go_loopw [131] (fun _ wr => ∃ j : Nat, (j ≤ l.length ∧ entsTo l j = ents l) ∧ Boxed wr C 3 (.int .i64 (j : Int)) ∧ Kept (only C) W1 wr) (fun _ wr => l.length - numAt wr C)
            case atStart => exact ⟨k, ⟨hk, hpre⟩, bC1, Kept.refl _ _⟩
            case round =>
              obtain ⟨j, ⟨hj, hpj⟩, bC2, hKC⟩ := hrel
              have bL2 : Boxed wr LB 24 (.slice a2 l.length p2) := hKC.at bL1 (fun e => ne_type bL1 bC1 (by decide) e)
              have bR2 : Boxed wr (w.heap.size + 1) 4 (.bool false) := hKC.at bR1 (fun e => ne_type bR1 bC1 (by decide) e)
              have hR2 : RefAt wr (.slice a2 l.length p2) l := ⟨owns_kept hR1.1 hKC (fun g hg (e : g = C) => row_ne hR1.1 bC1 (by decide) (by rw [hg, e])), hll⟩
              have cC := bC2.cell
              have fC := bC2.frozen
              have cL := bL2.cell
              have cR := bR2.cell
              have fR := bR2.frozen
              have hnum := numAt_of bC2
              by_cases hjl : j < l.length
              · obtain ⟨g, cp, hv, c0, c1⟩ := hR2.at hjl
                cases hv
                have hsucc := entsTo_succ l j
                have ho : l.getD j none = none := by
                  cases ho : l.getD j none with
                  | none => rfl
                  | some y =>
                    rw [ho] at hsucc
                    have h1 := entsTo_prefix l (j + 1) (l.length - (j + 1))
                    rw [show j + 1 + (l.length - (j + 1)) = l.length by omega, hsucc] at h1
                    have h2 := h1.length_le
                    have h3 : (entsTo l j).length = (entsTo l l.length).length := by rw [hpj]; rfl
                    simp at h2
                    omega
                rw [ho, hpj] at hsucc
                simp only [List.append_nil] at hsucc
                rw [ho] at c0
                simp only [Option.isSome_none] at c0
                have HSu : Hid (entsTo l (j + 1) = ents l) := hsucc
                clear hsucc ho c1
                go_wp2
                go_roundw
                case rel => exact ⟨j + 1, ⟨by omega, HSu.out⟩, bC2.set _, hKC.setCell (p := ⟨C, 0, none⟩) (fun _ => rfl) _⟩
                case measure =>
                  rw [show (j : Int) + 1 = ((j + 1 : Nat) : Int) by omega, numAt_of (k := j + 1) (bC2.set _), hnum]
                  omega
              · obtain rfl : j = l.length := by omega
                go_wp2
                have hkD2 : wr.heap[D2]? = some (.deferred (some [])) := hKC.at hK2 (fun e => by have e' : D2 = C := e; omega)
                have hkD1 : wr.heap[D]? = some (.deferred (some [])) := hKC.at hKD (fun e => by have e' : D = C := e; omega)
                have hE2 := (KeepsOthers.setCell wr ⟨w.heap.size + 1, 0, none⟩ (.bool true)).same D2 _ hkD2 rfl
                have hE1 := (KeepsOthers.setCell wr ⟨w.heap.size + 1, 0, none⟩ (.bool true)).same D _ hkD1 rfl
                have hE1' : ((wr.setCell ⟨w.heap.size + 1, 0, none⟩ (.bool true)).putObj D2 (.deferred none)).heap[D]? = some (.deferred (some [])) := (World.putObj_heap_other (by omega)).trans hE1
                refine ⟨by simp, .inl ⟨_, _, rfl, run_takeDeferred hE2, ?_⟩⟩
                refine ⟨by simp, .inl ⟨_, _, rfl, run_takeDeferred hE1', ?_⟩⟩
                have hc4 := cell_kept (bR2.set (.bool true)).cell (grownBy_putObj' _ D2 (.deferred none)) (fun r e => by cases e; exact ⟨_, hE2, rfl⟩)
                have hc5 := cell_kept hc4 (grownBy_putObj' _ D (.deferred none)) (fun r e => by cases e; exact ⟨_, hE1', rfl⟩)
                have hFE : Fresh w (((wr.setCell ⟨w.heap.size + 1, 0, none⟩ (.bool true)).putObj D2 (.deferred none)).putObj D (.deferred none)) :=
                  ((((hFw1.trans hKC (fun i hi (e : i = C) => by omega)).setCell (p := ⟨w.heap.size + 1, 0, none⟩) (fun e => by have e' : w.heap.size + 1 < w.heap.size := e; omega) _).grown (grownBy_putObj' _ D2 _) (fun i hi e => by simp at e; omega)).grown (grownBy_putObj' _ D _) (fun i hi e => by simp at e; omega))
                refine ⟨.bool true, ?_, rfl, hFE⟩
                simp [results, Tryd.f7, go_sem, hc5]
          case body2 =>
            rintro l' pre ⟨x1, x2⟩ a' W1 hl' ⟨r, hr⟩ ⟨⟨⟨k, ⟨hk, hpre⟩, bC1⟩, hKZ⟩, F1, m1, hP1, hF1⟩ rfl hlt
            dsimp only
            have nC : ¬ F C := fun e => by have := nF C e; omega
            have bL1 : Boxed W1 LB 24 (.slice a2 l.length p2) := hKZ.at hB5.bl (fun e => by rcases e with e | e; exact foot_type hB5.both.pool hB5.bl (by decide) (by decide) (by decide) e; exact ne_type hB5.bl bC0 (by decide) e)
            have bP1 : Boxed W1 PB 23 (.pointer (some ⟨b, 0, none⟩)) := hKZ.at hB5.bp (fun e => by rcases e with e | e; exact foot_type hB5.both.pool hB5.bp (by decide) (by decide) (by decide) e; exact ne_type hB5.bp bC0 (by decide) e)
            have bM1 : Boxed W1 M 63 (.func (.func 42) #[] #[.pointer (some ⟨B, 0, none⟩)]) := hKZ.at bM5 (fun e => by rcases e with e | e; exact foot_type hB5.both.pool bM5 (by decide) (by decide) (by decide) e; omega)
            have hR1 : RefAt W1 (.slice a2 l.length p2) l := ⟨owns_kept hB5.both.ref.1 hKZ (fun g hg e => by
              rcases e with e | e
              · obtain ⟨cs, t, fz, e1, e2⟩ := hB5.both.pool.type e
                refine row_ne hB5.both.ref.1 e1 ?_ hg
                rcases e2 with e | e | e <;> rw [e] <;> decide
              · exact row_ne hB5.both.ref.1 bC0 (by decide) (by rw [hg, e])), hll⟩
            have hq1 : W1.heap[B]? = some (.cells #[vv] 90 (0, 0)) := hKZ.at hd1 (fun e => by rcases e with e | e; exact nFB e; omega)
            have hq2 := owns_kept hd2 hKZ (fun g hg e => by rcases e with e | e; exact nFv g hg e; have := hgv g hg; omega)
            have hsW1 := hKZ.size
            gi_wp2
            gi_loopw [67] (fun _ wr => ∃ j : Nat, ((k ≤ j ∧ j ≤ l.length) ∧ entsTo l j = pre) ∧ Boxed wr C 3 (.int .i64 (j : Int)) ∧ Kept (only C) W1 wr) (fun _ wr => l.length - numAt wr C)
            case atStart => exact ⟨k, ⟨⟨Nat.le_refl _, hk⟩, hpre⟩, bC1, Kept.refl _ _⟩
            case round =>
              obtain ⟨j, ⟨⟨hkj, hj⟩, hpj⟩, bC2, hKC⟩ := hrel
              have bL2 : Boxed wr LB 24 (.slice a2 l.length p2) := hKC.at bL1 (fun e => ne_type bL1 bC1 (by decide) e)
              have bM2 : Boxed wr M 63 (.func (.func 42) #[] #[.pointer (some ⟨B, 0, none⟩)]) := hKC.at bM1 (fun e => ne_type bM1 bC1 (by decide) e)
              have hR2 : RefAt wr (.slice a2 l.length p2) l := ⟨owns_kept hR1.1 hKC (fun g hg (e : g = C) => row_ne hR1.1 bC1 (by decide) (by rw [hg, e])), hll⟩
              have cC := bC2.cell
              have fC := bC2.frozen
              have cL := bL2.cell
              have hnum := numAt_of bC2
              have hjl : j < l.length := by
                apply Classical.byContradiction
                intro hn
                have e : j = l.length := by omega
                rw [e] at hpj
                have : pre.length = (ents l).length := by rw [← hpj]; rfl
                omega
              obtain ⟨g, cp, hv, c0, c1⟩ := hR2.at hjl
              cases hv
              have hsucc := entsTo_succ l j
              cases ho : l.getD j none with
              | none =>
                rw [ho, hpj] at hsucc
                simp only [List.append_nil] at hsucc
                rw [ho] at c0
                simp only [Option.isSome_none] at c0
                have HSu : Hid (entsTo l (j + 1) = pre) := hsucc
                clear hsucc ho c1
                gi_wp2
                go_roundw
                case rel => exact ⟨j + 1, ⟨⟨by omega, by omega⟩, HSu.out⟩, bC2.set _, hKC.setCell (p := ⟨C, 0, none⟩) (fun _ => rfl) _⟩
                case measure =>
                  rw [show (j : Int) + 1 = ((j + 1 : Nat) : Int) by omega, numAt_of (k := j + 1) (bC2.set _), hnum]
                  omega
              | some y =>
                rw [ho, hpj] at hsucc
                rw [ho] at c0 c1
                simp only [Option.isSome_some, Option.getD_some] at c0 c1 hsucc
                have HSu : Hid (entsTo l (j + 1) = pre ++ [(j, y)]) := hsucc
                clear hsucc
                have HKF : Hid (KeepsFrom Z.heap.size W1 wr) := keepsFrom_only bC1 hKC _
                have bR2 : Boxed wr (w.heap.size + 1) 4 (.bool false) := by
                  have h1 : Boxed Z (w.heap.size + 1) 4 (.bool false) := hB5.both.fr.at bR (fun e => e)
                  have h2 : Boxed W1 (w.heap.size + 1) 4 (.bool false) := hKZ.at h1 (fun e => by rcases e with e | e; have := hB5.both.new _ e; omega; omega)
                  exact hKC.at h2 (fun e => ne_type h2 bC1 (by decide) e)
                have cR := bR2.cell
                have fR := bR2.frozen
                by_cases e1 : x1 = j
                · subst e1
                  by_cases e2 : x2 = y
                  · subst e2
                    have cM2 : ∀ o, (wr.alloc o).cell? ⟨M, 0, none⟩ = some (.func (.func 42) #[] #[.pointer (some ⟨B, 0, none⟩)]) := fun o => (bM2.alloc o).cell
                    have e5 : ((x1 : Int) == (l.length : Int)) = false := by simp; omega
                    have hsr := hKC.size
                    have nl : l' ≠ C := fun e => by
                      rw [e, show W1.heap[C]? = _ from bC1] at hr
                      cases hr
                    have bI := Boxed.new wr 3 (.int .i64 0)
                    have hFV : Fresh wr (wr.alloc (.cells #[.int .i64 0] 3)) := (Kept.refl _ wr).alloc _
                    have hr' : (wr.alloc (.cells #[.int .i64 0] 3)).heap[l']? = some (.loop r) := hFV.at (hKC.at hr nl) (fun e => e)
                    have hV1 : (wr.alloc (.cells #[.int .i64 0] 3)).heap[B]? = some (.cells #[vv] 90 (0, 0)) := hFV.at (hKC.at hq1 (fun e => by have e' : B = C := e; omega)) (fun e => e)
                    have hV2 := owns_kept (owns_kept hq2 hKC (fun g' hg' (e : g' = C) => by have := hgv g' hg'; omega)) hFV (fun _ _ e => e)
                    have bL3 := bL2.alloc (.cells #[.int .i64 0] 3)
                    have bP3 : Boxed (wr.alloc (.cells #[.int .i64 0] 3)) PB 23 (.pointer (some ⟨b, 0, none⟩)) := hFV.at (hKC.at bP1 (fun e => ne_type bP1 bC1 (by decide) e)) (fun e => e)
                    have bC3 := bC2.alloc (.cells #[.int .i64 0] 3)
                    have bR3 := bR2.alloc (.cells #[.int .i64 0] 3)
                    have hR3 := hR2.fresh hFV
                    have nF1 : ¬ F1 C := fun e => nC (hF1 C (by omega) e)
                    have hP3 : PoolAt (wr.alloc (.cells #[.int .i64 0] 3)) F1 b m1 := (hP1.kept hKC (fun k' hk' (e : k' = C) => nF1 (e ▸ hk'))).kept hFV (fun _ _ e => e)
                    have hP1l : ∀ k', F1 k' → k' < W1.heap.size := fun k' hk' => hP1.lt hk'
                    have HK3 : Hid (Kept (only C) W1 (wr.alloc (.cells #[.int .i64 0] 3))) := hKC.alloc _
                    have HKF3 : Hid (KeepsFrom Z.heap.size W1 (wr.alloc (.cells #[.int .i64 0] 3))) := HKF.out.trans ((KeepsOthers.alloc _ _).from _)
                    have hT3 : Tab (wr.alloc (.cells #[.int .i64 0] 3)) := by
                      have h0 : Tab Z := hB5.both.tab hT0
                      have h1 : Tab W1 := h0.kept hKZ (fun e => by rcases e with e | e; exact hB5.both.pool.pos e rfl; have := hT.pos; omega)
                      exact (h1.kept hKC (fun e => by have e' : 0 = C := e; have := hT.pos; omega)).kept hFV (fun e => e)
                    gi_wp2
                    generalize hVE : wr.alloc (.cells #[.int .i64 0] 3) = V at *
                    have hsV : V.heap.size = wr.heap.size + 1 := by rw [← hVE]; simp
                    clear hVE
                    generalize wr.heap.size = I7 at *
                    refine wpIn_rangeFunc_ownN (l₀ := l') (r₀ := r) rfl hr' (by omega) (gf := 42) (lb := #[.pointer (some ⟨B, 0, none⟩)]) rfl trivial (enters_of Tryd.func42 (by kernel_rfl) rfl)
                      ((iter_stops Fence.wide 7 trivial rfl (by omega) B vv (ents l) hn0 V hV1 hV2).inRound l') Kp.trans (fun W l' o o' hl' _ _ _ => ⟨World.putObj_heap_other (by omega), fun g e => World.putObj_heap_other (by have := hgv g e; omega)⟩) (Below.refl _ _) (fun _ => rfl)
                      (fun pre' W' => Boxed W' I7 3 (.int .i64 (pre'.length : Int)) ∧ Kept (only I7) V W')
                      (fun c pre' _ => c = .ret ∧ ¬ pre' <+: ents l)
                      (OwnFrom.and (Own.from (boxed_own _ _ _) _) (ownFrom_kept (Nat.le_refl _)))
                      (fun _ => ownFrom_pure _ _) ⟨bI, Kept.refl _ _⟩
                      (fun z a'' _ => a'' = { tmps := #[.int .i64 (N : Int), .slice ao sc.length cap, .int .i64 leave, undef, undef, .pointer (some ⟨w.heap.size, 0, none⟩), .pointer (some ⟨w.heap.size + 1, 0, none⟩), .pointer (some ⟨PB, 0, none⟩), .pointer (some ⟨LB, 0, none⟩), .bool true, u10, .int .i64 (sc.length : Int), .pointer (some ⟨M, 0, none⟩), .pointer (some ⟨A, 0, none⟩), .pointer (some ⟨C, 0, none⟩), .int .i64 (x1 : Int), .int .i64 x2, .pointer (some ⟨I7, 0, none⟩), .int .i64 (z.1 : Int), .int .i64 z.2, .tuple #[.pointer (some ⟨b, 0, none⟩), .slice a1 N p1, .bool true, .bool true], .int .i64 (N : Int), .tuple #[.pointer (some ⟨b, 0, none⟩), .slice a1 N p1, .bool true, .bool true], .pointer (some ⟨b, 0, none⟩), .slice a1 N p1, .bool true, .bool true, .bool true, .bool false, .bool false, .bool true, .bool false, .bool false, undef, .int .i64 (sc.length : Int), .slice ao sc.length cap, .int .i64 (sc.length : Int), .bool false, u38, u39, u40, u41, u42, u43, u44, u45, u46, u47, u48, u49, u50, u51, .pointer (some ⟨b, 0, none⟩), .func (.func 42) #[] #[.pointer (some ⟨B, 0, none⟩)], .func (.func 42) #[] #[.pointer (some ⟨B, 0, none⟩)], .bool false, .func (.func 42) #[] #[.pointer (some ⟨B, 0, none⟩)], undef, undef, undef, undef, undef, undef, undef, .func (.func 42) #[] #[.pointer (some ⟨B, 0, none⟩)], .int .i64 (x1 : Int), .int .i64 x2, .int .i64 (x1 : Int), .slice (some ⟨g, 0, none⟩) l.length p2, .int .i64 (l.length : Int), .bool true, .bool true, .slice (some ⟨g, 0, none⟩) l.length p2, .int .i64 (x1 : Int), .pointer (some ⟨g, x1 * 2, none⟩), .pointer (some ⟨g, x1 * 2, none⟩), .bool true, .bool false, .bool false, u79, u80, .int .i64 (x1 : Int), .slice (some ⟨g, 0, none⟩) l.length p2, .int .i64 (l.length : Int), .bool false, .bool false, .int .i64 (x1 : Int), .int .i64 (x1 : Int), .bool false, .bool false, .bool false, .int .i64 x2, .slice (some ⟨g, 0, none⟩) l.length p2, .int .i64 (x1 : Int), .pointer (some ⟨g, x1 * 2, none⟩), .pointer (some ⟨g, x1 * 2 + 1, none⟩), .int .i64 x2, .bool false, .bool false, .func (.func 42) #[] #[.pointer (some ⟨B, 0, none⟩)], .int .i64 (z.1 : Int), .int .i64 z.2, undef, undef, undef, undef, undef, undef, undef, undef, undef, undef, undef, undef, undef, undef, undef, undef, undef, undef, undef, undef, undef, undef, undef, undef, undef, undef, undef, undef, undef, undef, undef, undef, undef, undef, undef, undef, undef, undef, undef, undef, undef, undef, undef, undef, undef, undef, undef], defers := [] }) (fun _ _ _ _ _ _ hs _ _ => hs) ?assign3 ?body3 ?done3 ?stop3
                    case assign3 =>
                      rintro l2 pre' z W' K hi hK
                      gi_wp2
                      exact hK _ _ (KeepsFrom.refl _ _) (Kp.refl _ _ _) hi rfl
                    case stop3 =>
                      rintro c pre' W' hpre' ⟨_, hne⟩
                      exact absurd hpre' hne
                    case body3 =>
                      rintro l2 pre' ⟨z1, z2⟩ a'' W' hl2 _ ⟨bI1, hKI⟩ rfl hlt2
                      dsimp only
                      have bL4 : Boxed W' LB 24 (.slice (some ⟨g, 0, none⟩) l.length p2) := hKI.at bL3 (fun e => ne_type bL3 bI (by decide) e)
                      have bR4 : Boxed W' (w.heap.size + 1) 4 (.bool false) := hKI.at bR3 (fun e => ne_type bR3 bI (by decide) e)
                      have hR4 : RefAt W' (.slice (some ⟨g, 0, none⟩) l.length p2) l := ⟨owns_kept hR3.1 hKI (fun g' hg' (e : g' = I7) => row_ne hR3.1 bI (by decide) (by rw [hg', e])), hll⟩
                      have cL4 := bL4.cell
                      have cI := bI1.cell
                      have fI := bI1.frozen
                      have cR4 := bR4.cell
                      have fR4 := bR4.frozen
                      have hpl : (pre' ++ [(z1, z2)]).length = pre'.length + 1 := by simp
                      have hkp : ∀ u, Kp B vv W' (W'.setCell ⟨I7, 0, none⟩ u) := fun u => ⟨Below.heap_setCell _ _ _ _ (by show B ≠ I7; omega), fun g e => Below.heap_setCell _ _ _ _ (by have := hgv g e; show g ≠ I7; omega)⟩
                      have hnp : ∀ (h9 : ¬ (z1 < l.length ∧ l.getD z1 none = some z2)), ¬ (pre' ++ [(z1, z2)]) <+: ents l := fun h9 hp9 => h9 (mem_ents (hp9.subset (by simp)))
                      have HTk := show Hid _ from (fun (_ : Unit) => taken_ref _ l (z1 : Int) W' hR4)
                      have hp3 : pre'.length < 65536 := by omega
                      by_cases hz1 : z1 < l.length
                      · rw [gt_nat l z1 hz1] at HTk
                        obtain ⟨g', cp', hv', d0, d1⟩ := hR4.at hz1
                        cases hv'
                        cases hoz : l.getD z1 none with
                        | none =>
                          rw [hoz] at HTk
                          simp only [Option.isSome_none] at HTk
                          have HN : Hid (¬ (pre' ++ [(z1, z2)]) <+: ents l) := hnp (fun ⟨_, e⟩ => by rw [hoz] at e; cases e)
                          clear hnp d0 d1 hoz
                          gi_wp2_with (refine ⟨trivial, ?_⟩; gi_at_call 26; refine (CallsIn.inRound l2 (CallsIn.inRound l' (callsIn_wide.2 (HTk.out ())))).mono ?_; rintro e w' ⟨rfl, rfl⟩)
                          exact ⟨(KeepsOthers.setCell _ _ _).from _, rfl, HN.out⟩
                        | some y3 =>
                          rw [hoz] at HTk d1
                          simp only [Option.isSome_some, Option.getD_some] at HTk d1
                          by_cases hz2 : y3 = z2
                          · subst hz2
                            clear hnp d0 hoz
                            gi_wp2_with (refine ⟨trivial, ?_⟩; gi_at_call 26; refine (CallsIn.inRound l2 (CallsIn.inRound l' (callsIn_wide.2 (HTk.out ())))).mono ?_; rintro e w' ⟨rfl, rfl⟩)
                            exact ⟨(KeepsOthers.setCell _ _ _).from _, hkp _, by rw [hpl]; exact bI1.set _, hKI.setCell (p := ⟨I7, 0, none⟩) (fun _ => rfl) _⟩
                          · have e9 : (y3 != z2) = true := by simp [hz2]
                            have HN : Hid (¬ (pre' ++ [(z1, z2)]) <+: ents l) := hnp (fun ⟨_, e⟩ => by rw [hoz] at e; exact hz2 (Option.some.inj e))
                            clear hnp d0 hoz
                            gi_wp2_with (refine ⟨trivial, ?_⟩; gi_at_call 26; refine (CallsIn.inRound l2 (CallsIn.inRound l' (callsIn_wide.2 (HTk.out ())))).mono ?_; rintro e w' ⟨rfl, rfl⟩)
                            exact ⟨(KeepsOthers.setCell _ _ _).from _, rfl, HN.out⟩
                      · have eg : gt l (z1 : Int) = none := by unfold gt; rw [if_neg (by omega)]
                        rw [eg] at HTk
                        simp only [Option.isSome_none] at HTk
                        have HN : Hid (¬ (pre' ++ [(z1, z2)]) <+: ents l) := hnp (fun ⟨e, _⟩ => hz1 e)
                        clear hnp eg
                        gi_wp2_with (refine ⟨trivial, ?_⟩; gi_at_call 26; refine (CallsIn.inRound l2 (CallsIn.inRound l' (callsIn_wide.2 (HTk.out ())))).mono ?_; rintro e w' ⟨rfl, rfl⟩)
                        exact ⟨(KeepsOthers.setCell _ _ _).from _, rfl, HN.out⟩
                    case done3 =>
                      rintro xs W' rfl ⟨bI1, hKI⟩
                      have bL4 : Boxed W' LB 24 (.slice (some ⟨g, 0, none⟩) l.length p2) := hKI.at bL3 (fun e => ne_type bL3 bI (by decide) e)
                      have bP4 : Boxed W' PB 23 (.pointer (some ⟨b, 0, none⟩)) := hKI.at bP3 (fun e => ne_type bP3 bI (by decide) e)
                      have bC4 : Boxed W' C 3 (.int .i64 (x1 : Int)) := hKI.at bC3 (fun e => by have e' : C = I7 := e; omega)
                      have hR4 : RefAt W' (.slice (some ⟨g, 0, none⟩) l.length p2) l := ⟨owns_kept hR3.1 hKI (fun g' hg' (e : g' = I7) => row_ne hR3.1 bI (by decide) (by rw [hg', e])), hll⟩
                      have nI : ¬ F1 I7 := fun e => by have := hP1l I7 e; omega
                      have hP4 : PoolAt W' F1 b m1 := hP3.kept hKI (fun k' hk' (e : k' = I7) => nI (e ▸ hk'))
                      have hT4 : Tab W' := hT3.kept hKI (fun e => by have e' : 0 = I7 := e; have := hT.pos; omega)
                      have HK4 : Hid (Kept (fun i => F i ∨ i = C) Z W') := (hKZ.trans HK3.out (fun i _ (e : i = C) => .inr e)).trans hKI (fun i hi (e : i = I7) => by omega)
                      have HKF4 : Hid (KeepsFrom Z.heap.size W1 W') := HKF3.out.trans (keepsFrom_only bI hKI _)
                      have cI := bI1.cell
                      rw [ents_length] at cI
                      have cL4 := bL4.cell
                      have HUs := show Hid _ from (fun (_ : Unit) => used_ref _ l W'.drew (hR4.fresh (Kept.refl _ _).drew))
                      have HP4 : Hid (PoolAt W' F1 b m1) := hP4
                      clear hP4
                      generalize used l = ul at *
                      have hmx : Tryd.prog.follows .mixedOrders = true := by kernel_rfl
                      gi_wp2_with fail
                      refine wpIn_mono (Q := fun e a9 W9 => match e with | .normal => a9 = { tmps := #[.int .i64 (N : Int), .slice ao sc.length cap, .int .i64 leave, undef, undef, .pointer (some ⟨w.heap.size, 0, none⟩), .pointer (some ⟨w.heap.size + 1, 0, none⟩), .pointer (some ⟨PB, 0, none⟩), .pointer (some ⟨LB, 0, none⟩), .bool true, u10, .int .i64 (sc.length : Int), .pointer (some ⟨M, 0, none⟩), .pointer (some ⟨A, 0, none⟩), .pointer (some ⟨C, 0, none⟩), .int .i64 (x1 : Int), .int .i64 x2, .pointer (some ⟨I7, 0, none⟩), undef, undef, .tuple #[.pointer (some ⟨b, 0, none⟩), .slice a1 N p1, .bool true, .bool true], .int .i64 (N : Int), .tuple #[.pointer (some ⟨b, 0, none⟩), .slice a1 N p1, .bool true, .bool true], .pointer (some ⟨b, 0, none⟩), .slice a1 N p1, .bool true, .bool true, .bool true, .bool false, .bool false, .bool true, .bool false, .bool false, undef, .int .i64 (sc.length : Int), .slice ao sc.length cap, .int .i64 (sc.length : Int), .bool false, u38, u39, u40, u41, u42, u43, u44, u45, u46, u47, u48, u49, u50, u51, .pointer (some ⟨b, 0, none⟩), .func (.func 42) #[] #[.pointer (some ⟨B, 0, none⟩)], .func (.func 42) #[] #[.pointer (some ⟨B, 0, none⟩)], .bool false, .func (.func 42) #[] #[.pointer (some ⟨B, 0, none⟩)], undef, undef, undef, undef, undef, undef, undef, .func (.func 42) #[] #[.pointer (some ⟨B, 0, none⟩)], .int .i64 (x1 : Int), .int .i64 x2, .int .i64 (x1 : Int), .slice (some ⟨g, 0, none⟩) l.length p2, .int .i64 (l.length : Int), .bool true, .bool true, .slice (some ⟨g, 0, none⟩) l.length p2, .int .i64 (x1 : Int), .pointer (some ⟨g, x1 * 2, none⟩), .pointer (some ⟨g, x1 * 2, none⟩), .bool true, .bool false, .bool false, u79, u80, .int .i64 (x1 : Int), .slice (some ⟨g, 0, none⟩) l.length p2, .int .i64 (l.length : Int), .bool false, .bool false, .int .i64 (x1 : Int), .int .i64 (x1 : Int), .bool false, .bool false, .bool false, .int .i64 x2, .slice (some ⟨g, 0, none⟩) l.length p2, .int .i64 (x1 : Int), .pointer (some ⟨g, x1 * 2, none⟩), .pointer (some ⟨g, x1 * 2 + 1, none⟩), .int .i64 x2, .bool false, .bool false, .func (.func 42) #[] #[.pointer (some ⟨B, 0, none⟩)], undef, undef, undef, undef, undef, undef, undef, undef, undef, undef, undef, undef, undef, undef, undef, undef, undef, .int .i64 (ul : Int), .slice (some ⟨g, 0, none⟩) l.length p2, .int .i64 (ul : Int), .bool false, undef, undef, undef, undef, undef, undef, undef, undef, undef, undef, undef, undef, undef, undef, undef, undef, undef, undef, undef, undef, undef, undef, undef, undef, undef, undef, undef, undef], defers := [] } ∧ W9 = W'.drew | _ => False) ?_ ?_
                      · gi_region_with_o (refine ⟨trivial, ?_⟩; gi_at_call 11; refine (CallsIn.inRound l' (callsIn_wide.2 (HUs.out ()))).mono ?_; rintro e w' ⟨rfl, rfl⟩)
                        all_goals exact ⟨rfl, rfl⟩
                      · rintro e9 a9 W9 hq9
                        cases e9 with
                        | normal =>
                          obtain ⟨rfl, rfl⟩ := hq9
                          have hPd : PoolAt W'.drew F1 b m1 := HP4.out.kept (Kept.refl (fun _ => False) W').drew (fun _ _ e => e)
                          have bPd : Boxed W'.drew PB 23 (.pointer (some ⟨b, 0, none⟩)) := bP4
                          have bCd : Boxed W'.drew C 3 (.int .i64 (x1 : Int)) := bC4
                          have hTd : Tab W'.drew := hT4
                          have cPd := bPd.cell
                          have HGv := show Hid _ from (fun (_ : Unit) => give_gv F1 b m1 (x1 : Int) W'.drew hPd)
                          gi_wp2_with fail
                          refine ⟨trivial, ?_⟩
                          refine (CallsIn.inRound l' (callsIn_wide.2 (HGv.out ()))).mono ?_
                          rintro e W5 ⟨rfl, F5, hP5, hK5, hF5⟩
                          have bP5 : Boxed W5 PB 23 (.pointer (some ⟨b, 0, none⟩)) := hK5.at bPd (foot_type hPd bPd (by decide) (by decide) (by decide))
                          have hT5 := hPd.tab hTd hK5
                          have HKF5 : Hid (KeepsFrom Z.heap.size W'.drew W5) := keepsFrom_pool hPd hK5 _
                          have cP5 := bP5.cell
                          have HTk5 := show Hid _ from (fun (_ : Unit) => take_tk F5 b _ (-5) W5 hP5 hT5)
                          gi_wp2_with fail
                          refine ⟨trivial, ?_⟩
                          refine (CallsIn.inRound l' (callsIn_wide.2 (HTk5.out ()))).mono ?_
                          rintro e W6 ⟨rfl, F6, hP6, hK6, hF6⟩
                          have bP6 : Boxed W6 PB 23 (.pointer (some ⟨b, 0, none⟩)) := hK6.at bP5 (foot_type hP5 bP5 (by decide) (by decide) (by decide))
                          have HKF6 : Hid (KeepsFrom Z.heap.size W5 W6) := keepsFrom_pool hP5 hK6 _
                          have cP6 := bP6.cell
                          have HSt6 := show Hid _ from (fun (_ : Unit) => set_st F6 b _ (x1 : Int) (-7) W6 hP6)
                          gi_wp2_with fail
                          refine ⟨trivial, ?_⟩
                          refine (CallsIn.inRound l' (callsIn_wide.2 (HSt6.out ()))).mono ?_
                          rintro e W7 ⟨rfl, F7, hP7, hK7, hF7⟩
                          have HKF7 : Hid (KeepsFrom Z.heap.size W6 W7) := keepsFrom_pool hP6 hK7 _
                          have hK6' : Kept F1 W'.drew W6 := hK5.trans hK6 (fun i hi e => hF5 i hi e)
                          have hs5 := hK5.size
                          have hs6 := hK6'.size
                          have hK7' : Kept F1 W'.drew W7 := hK6'.trans hK7 (fun i hi e => hF5 i hi (hF6 i (by omega) e))
                          have hsub : ∀ i, i < W'.drew.heap.size → F7 i → F1 i := fun i hi e => hF5 i hi (hF6 i (by omega) (hF7 i (by omega) e))
                          have bC7 : Boxed W7 C 3 (.int .i64 (x1 : Int)) := hK7'.at bCd nF1
                          have hCl : C < W'.drew.heap.size := bCd.lt
                          have nF7 : ¬ F7 C := fun e => nF1 (hsub C hCl e)
                          have cC7 := bC7.cell
                          have fC7 := bC7.frozen
                          have hsW' : Z.heap.size ≤ W'.drew.heap.size := HK4.out.size
                          have hW1W : W1.heap.size ≤ W'.drew.heap.size := HKF4.out.size
                          have HFin : Hid (∀ u : Nat, entsTo l u = pre ++ [(x1, x2)] → u ≤ l.length → ∀ W8, W8 = W7.setCell ⟨C, 0, none⟩ (.int .i64 (u : Int)) → KeepsFrom Z.heap.size W1 W8 ∧ Kp B vv W1 W8 ∧ ((∃ k : Nat, (k ≤ l.length ∧ entsTo l k = pre ++ [(x1, x2)]) ∧ Boxed W8 C 3 (.int .i64 (k : Int))) ∧ Kept (fun i => F i ∨ i = C) Z W8) ∧ ∃ F' m, PoolAt W8 F' b m ∧ ∀ i, i < Z.heap.size → F' i → F i) := by
                            intro u hu hul W8 hW8
                            subst hW8
                            have hKW : Kept (fun i => F1 i ∨ i = C) W1 (W7.setCell ⟨C, 0, none⟩ (.int .i64 (u : Int))) := by
                              have a1 : Kept (fun i => F1 i ∨ i = C) W1 W'.drew := ((HK3.out.trans hKI (fun i hi (e : i = I7) => by omega)).drew).mono (fun i _ (e : i = C) => .inr e)
                              exact (a1.trans hK7' (fun i _ e => .inl e)).setCell (p := ⟨C, 0, none⟩) (fun _ => .inr rfl) _
                            have hKZ8 : Kept (fun i => F i ∨ i = C) Z (W7.setCell ⟨C, 0, none⟩ (.int .i64 (u : Int))) :=
                              (HK4.out.drew.trans hK7' (fun i hi e => .inl (hF1 i hi e))).setCell (p := ⟨C, 0, none⟩) (fun _ => .inr rfl) _
                            have hKFd : KeepsFrom Z.heap.size W' W'.drew := (KeepsOthers.drew _).from _
                            refine ⟨((((HKF4.out.trans hKFd).trans HKF5.out).trans HKF6.out).trans HKF7.out).trans ((KeepsOthers.setCell _ _ _).from _), Kp.of hKW (by omega) (fun g' hg' => ⟨by have := hgv g' hg'; omega, fun e => ?_⟩) (fun e => ?_), ⟨⟨u, ⟨hul, hu⟩, bC7.set _⟩, hKZ8⟩, F7, _, hP7.kept (kept_set W7 C 0 _) (fun k' hk' (e : k' = C) => nF7 (e ▸ hk')), fun i hi e => hF1 i hi (hsub i (by omega) e)⟩
                            · rcases e with e | e
                              · exact nFv g' hg' (hF1 g' (by have := hgv g' hg'; omega) e)
                              · have := hgv g' hg'; omega
                            · rcases e with e | e
                              · exact nFB (hF1 B (by omega) e)
                              · omega
                          clear hP5 hP6 hP7 hK5 hK6 hK7 hF5 hF6 hF7
                          gi_wp2
                          exact HFin.out (x1 + 1) HSu.out (by omega) _ (by rfl)
                        | _ => exact hq9.elim
                  · have e3 : (x2 != y) = true := by simp [e2]
                    have e5 : ((x1 : Int) == (l.length : Int)) = false := by simp; omega
                    have HN : Hid (¬ (pre ++ [(x1, x2)]) <+: ents l) := not_next hjl HSu.out (fun e => e2 (Prod.mk.inj e).2)
                    gi_wp2
                    exact ⟨HKF.out.trans ((KeepsOthers.setCell _ _ _).from _), rfl, HN.out⟩
                · have e3 : ((x1 : Int) == (j : Int)) = false := by simp; omega
                  have HN : Hid (¬ (pre ++ [(x1, x2)]) <+: ents l) := not_next hjl HSu.out (fun e => e1 (Prod.mk.inj e).1)
                  gi_wp2
                  exact ⟨HKF.out.trans ((KeepsOthers.setCell _ _ _).from _), rfl, HN.out⟩
  · go_wp2_with fail
    refine (begun_bad P _ hT0 hN).mono ?_
    rintro e w1 ⟨v1, rfl, hF1⟩
    have bR1 : Boxed w1 (w.heap.size + 1) 4 (.bool false) := hF1.at bR (fun e => e)
    have hs1 := hF1.size
    simp at hs1
    have bR2 := (bR1.alloc (.cells #[.pointer none] 23)).alloc (.cells #[.slice v1 0 0] 24)
    have cR := bR2.cell
    have fR := bR2.frozen
    have HF : Hid (Fresh w ((w1.alloc (.cells #[.pointer none] 23)).alloc (.cells #[.slice v1 0 0] 24))) := ((hF0.trans hF1 (fun _ _ e => e)).alloc _).alloc _
    clear hN hF1 hF0
    go_wp2
    have hc5 := (bR2.set (.bool true)).cell
    refine ⟨.bool true, ?_, rfl, HF.out.setCell (p := ⟨w.heap.size + 1, 0, none⟩) (fun e => by have e' : w.heap.size + 1 < w.heap.size := e; omega) _⟩
    simp [results, Tryd.f7, go_sem, hc5]
end Go.Proofs.YtomikgnifbgfiaaDoor
