/-
  The coder of a vocabulary is made.
-/
import Derived.Test.YtjjpkidmlpmgaaaVom
namespace Go.Proofs.Ytjjpkidmlpmgaaa
open Go.RowKit Go.Lib Go.Maps

theorem run_mm {t k e : TypeId} (ht : Try.prog.underlying t = some (.map k e)) (n : Int) (w : World) : (Instr.makeMap t (some (.int .i64 n))).run Try.prog w = .ok (.map (some w.heap.size)) (w.alloc (.map #[] 0)) := by
  simp [Instr.makeMap, run_underlying ht, asInt, Result.andThen]
  rfl
theorem tyHs : TyL 95 79 := ⟨Try.underlying79, by kernel_rfl⟩
theorem KM.congr {k : TypeId} {w : World} {M n : Nat} {f g : Value → Option Int} (h : KM k w M n f) (e : ∀ v, f v = g v) : KM k w M n g := by
  have : f = g := funext e
  rw [← this]; exact h
theorem rkV_zero (M : List Mg) (v : Value) : rkV M 0 v = none := by
  unfold rkV
  split
  · rfl
  · rfl
theorem Rs.nils {B : Nat} {X : World} {l : List Rr} (h : Rs B X l) (k : Nat) : Rs B X (l ++ hps (List.replicate k nilV) (List.replicate k [])) := by
  have hg : ∀ p, (List.replicate k nilV).getD p nilV = nilV := fun p => by
    rw [List.getD_eq_getElem?_getD, List.getElem?_replicate]; split <;> rfl
  have hw : ∀ p, gW (List.replicate k []) p = [] := fun p => by
    unfold gW; rw [List.getD_eq_getElem?_getD, List.getElem?_replicate]; split <;> rfl
  have hm : ∀ r ∈ hps (List.replicate k nilV) (List.replicate k []), r = RI nilV [] := fun r hr => by
    obtain ⟨p, _, rfl⟩ := List.mem_map.1 hr
    show RK _ _ _ _ = _
    rw [hg, hw]
  refine ⟨fun r hr => ?_, List.pairwise_append.2 ⟨h.nd, ?_, fun a _ b hb k _ => ?_⟩⟩
  · rcases List.mem_append.1 hr with e | e
    · exact h.own r e
    · rw [hm r e]; exact own_nil _ _ _
  · refine List.Pairwise.imp_of_mem (R := fun _ _ => True) (fun {a b} ha _ _ k hk => ?_) (List.pairwise_of_forall (fun _ _ => trivial))
    rw [hm a ha] at hk
    simp [Value.ownBlock] at hk
  · rw [hm b hb]
    simp [Value.ownBlock]
/-- A coder that is being made. -/
structure CoMk (B : Nat) (X w : World) (s : Sc) (A : List Int) (M : List Mg) (tv mv : Value) (k z : Nat) : Prop where
  rs : Rs B w [CO s A mv M.length, RH s.wb M.length M.length (List.replicate M.length nilV), ⟨25, sl z 2, [tv, mv]⟩]
  km : KM 77 w s.mb k (rkV M k)
  bA : A.length = 256
  geM : B ≤ s.mb
  fr : Fresh X w
theorem CoMk.drewN {B : Nat} {X w : World} {s : Sc} {A : List Int} {M : List Mg} {tv mv : Value} {k z : Nat} (h : CoMk B X w s A M tv mv k z) (d : Nat) : CoMk B X (w.drewN d) s A M tv mv k z :=
  ⟨h.rs.drewN d, h.km.kept (kept_drewN (fun _ => False) _ d) (fun e => e), h.bA, h.geM, h.fr.drewN d⟩
theorem CoMk.alloc {B : Nat} {X w : World} {s : Sc} {A : List Int} {M : List Mg} {tv mv : Value} {k z : Nat} (h : CoMk B X w s A M tv mv k z) (o : Obj) : CoMk B X (w.alloc o) s A M tv mv k z :=
  have hk : Fresh w (w.alloc o) := (Kept.refl _ w).alloc o
  ⟨h.rs.fresh hk, h.km.kept hk (fun e => e), h.bA, h.geM, h.fr.alloc o⟩
theorem CoMk.cells {B : Nat} {X w : World} {s : Sc} {A : List Int} {M : List Mg} {tv mv : Value} {k z : Nat} (h : CoMk B X w s A M tv mv k z) : w.cell? ⟨s.cb, 257, none⟩ = some (.map (some s.mb)) ∧ w.cell? ⟨z, 0, none⟩ = some tv ∧ w.cell? ⟨z, 1, none⟩ = some mv ∧ (∀ i, i < 256 → w.cell? ⟨s.cb, i, none⟩ = some (zV (gI A i))) ∧ ∀ i, w.frozen? ⟨s.cb, i, none⟩ = false := by
  have hl : (A.map zV ++ [mv, .map (some s.mb), sl s.wb M.length]).length = 259 := by simp [h.bA]
  obtain ⟨e1, e2, e3⟩ := co_get h.bA mv (.map (some s.mb)) (sl s.wb M.length)
  have g2 := h.rs.geV hl 257 (by omega)
  rw [e2] at g2
  have hz : Rs B w [⟨25, sl z 2, [tv, mv]⟩] := h.rs.drop (by simp)
  refine ⟨g2, hz.geV rfl 0 (by omega), hz.geV rfl 1 (by omega), fun i hi => ?_, h.rs.frozen⟩
  have hiA : i < A.length := by rw [h.bA]; exact hi
  rw [h.rs.geV hl i (by omega), List.getD_eq_getElem?_getD, List.getElem?_append_left (by simpa using hiA), List.getElem?_map, List.getElem?_eq_getElem hiA]
  show some (zV A[i]) = some (zV (A.getD i 0))
  rw [getD_getElem hiA]
/-- The token of a byte is stored. -/
theorem CoMk.setA {B : Nat} {X w : World} {s : Sc} {A : List Int} {M : List Mg} {tv mv : Value} {k z : Nat} (h : CoMk B X w s A M tv mv k z) (hB : B = X.heap.size) {i : Nat} (hi : i < 256) (x : Int) : CoMk B X (w.setCell ⟨s.cb, i, none⟩ (zV x)) s (A.set i x) M tv mv k z := by
  have hl : (A.map zV ++ [mv, .map (some s.mb), sl s.wb M.length]).length = 259 := by simp [h.bA]
  have h1 := h.rs.seV hl i (zV x)
  rw [List.set_append_left _ _ (by rw [List.length_map, h.bA]; exact hi), ← List.map_set] at h1
  have hge := h.rs.ge
  obtain ⟨es, cl, hm⟩ := h.km.isMap
  have hne : s.cb ≠ s.mb := fun e => by
    rcases h.rs.head.2 with ⟨e', _⟩ | ⟨g, cap, cur, hv, hb, hh, _⟩
    · cases e'
    · have hv' : Value.slice (some ⟨s.cb, 0, none⟩) 259 259 = .slice (some ⟨g, 0, none⟩) _ cap := hv
      injection hv' with e1
      injection e1 with e1
      injection e1 with e1
      rw [← e1, e, hm] at hh
      cases hh
  have hk : Kept (fun q => q = s.cb) w (w.setCell ⟨s.cb, i, none⟩ (zV x)) := (Kept.refl (fun q => q = s.cb) w).setCell (p := ⟨s.cb, i, none⟩) (fun _ => rfl) _
  exact ⟨h1, h.km.kept hk (fun e => hne e.symm), by rw [List.length_set]; exact h.bA, h.geM, h.fr.setCell (p := ⟨s.cb, i, none⟩) (fun e => by have := hge.1; simp only at e; omega) _⟩
theorem zeroC (w : World) : (zeroValue 82).run Try.prog w = .ok (.agg (Array.replicate 256 (zV 0) ++ #[nilV, .map none, nilV])) w := by kernel_rfl
theorem zeroCell : ∃ Zc : Array Value, (∀ w, (zeroValue 82).run Try.prog w = .ok (.agg Zc) w) ∧ Zc.size = 259 ∧ Zc.toList = List.replicate 256 (zV 0) ++ [nilV, .map none, nilV] := ⟨_, zeroC, by rw [Array.size_append, Array.size_replicate]; rfl, by rw [Array.toList_append, Array.toList_replicate]⟩
theorem zero_set {Zc : Array Value} (hs : Zc.size = 259) (hl : Zc.toList = List.replicate 256 (zV 0) ++ [nilV, .map none, nilV]) (a b c : Value) :
    (((Zc.setIfInBounds 256 a).setIfInBounds 257 b).setIfInBounds 258 c).size = 259 ∧ (((Zc.setIfInBounds 256 a).setIfInBounds 257 b).setIfInBounds 258 c).toList = (List.replicate 256 (0 : Int)).map zV ++ [a, b, c] := by
  refine ⟨by rw [Array.size_setIfInBounds, Array.size_setIfInBounds, Array.size_setIfInBounds, hs], ?_⟩
  rw [Array.toList_setIfInBounds, Array.toList_setIfInBounds, Array.toList_setIfInBounds, hl, List.map_replicate]
  rw [List.set_append_right _ _ (by rw [List.length_replicate]; omega), List.set_append_right _ _ (by rw [List.length_replicate]; omega), List.set_append_right _ _ (by rw [List.length_replicate]; omega), List.length_replicate]
  rfl
theorem At.new (V : World) (c : Array Value) (T : TypeId) (m : Nat) (hm : c.size = m) (l : List Value) (hl : c.toList = l) (hc : m ≤ 2000000) : Rr.At V.heap.size (V.alloc (.cells c T)) ⟨T, sl V.heap.size m, l⟩ := by
  subst hm hl
  exact ⟨by simp, .inr ⟨V.heap.size, c.size, c, by simp, Nat.le_refl _, heap_alloc_new V _, by simp, by unfold maxLen; omega, by simp, by simp; exact List.take_of_length_le (by simp)⟩⟩
theorem alL_zero (T : List (List UInt8)) : alL T 0 = List.replicate 256 0 := fl_zero 256
/-- Both orders in which the coder's map and rows are made. -/
theorem comk_map (X : World) (T : List (List UInt8)) (M : List Mg) (tv mv : Value) (hMl : M.length ≤ 1048576) {c : Array Value} (X1 : World) (hX1 : X1 = X.alloc (.cells #[tv, mv] 25))
    (hs : c.size = 259) (hl : c.toList = (List.replicate 256 (0 : Int)).map zV ++ [mv, .map (some X1.heap.size), sl (X1.heap.size + 1) M.length]) :
    CoMk X.heap.size X (((X1.alloc (.map #[] 0)).alloc (.cells (List.replicate M.length nilV).toArray 95)).alloc (.cells c 82)).drew ⟨X1.heap.size + 1 + 1, 0, 0, 0, 0, X1.heap.size + 1, X1.heap.size⟩ (alL T 0) M tv mv 0 X.heap.size := by
  have s0 : X1.heap.size = X.heap.size + 1 := by rw [hX1, World.size_alloc]
  have s1 : (X1.alloc (.map #[] 0)).heap.size = X1.heap.size + 1 := by rw [World.size_alloc]
  have s2 : ((X1.alloc (.map #[] 0)).alloc (.cells (List.replicate M.length nilV).toArray 95)).heap.size = X1.heap.size + 1 + 1 := by rw [World.size_alloc, s1]
  have r0 : Rs X.heap.size X1 [⟨25, sl X.heap.size 2, [tv, mv]⟩] := by
    rw [hX1]
    exact Rs.made ⟨fun r hr => by simp at hr, List.Pairwise.nil⟩ ((Kept.refl _ X).alloc _) (Nat.le_refl _) (At.new X #[tv, mv] _ 2 rfl _ rfl (by omega))
  have r1 := r0.fresh ((Kept.refl _ X1).alloc (.map #[] 0))
  have k2 := At.new (X1.alloc (.map #[] 0)) (List.replicate M.length nilV).toArray 95 M.length (by simp) _ rfl (by omega)
  have r2 := r1.made ((Kept.refl _ _).alloc _) (by omega) k2
  have k3 := At.new ((X1.alloc (.map #[] 0)).alloc (.cells (List.replicate M.length nilV).toArray 95)) c 82 259 hs _ hl (by omega)
  have r3 := r2.made ((Kept.refl _ _).alloc _) (by omega) k3
  rw [s1, s2] at r3
  have m1 := KM.made 77 X1
  have m2 : KM 77 (((X1.alloc (.map #[] 0)).alloc (.cells (List.replicate M.length nilV).toArray 95)).alloc (.cells c 82)).drew X1.heap.size 0 (fun _ => none) := m1.kept ((((Kept.refl (fun _ => False) _).alloc _).alloc _).drew) (fun e => e)
  rw [alL_zero]
  refine ⟨r3.drewN 1, m2.congr (fun v => (rkV_zero M v).symm), List.length_replicate, by show X.heap.size ≤ X1.heap.size; omega, ?_⟩
  rw [hX1]
  exact (((((Kept.refl _ X).alloc _).alloc _).alloc _).alloc _).drew
theorem comk_row (X : World) (T : List (List UInt8)) (M : List Mg) (tv mv : Value) (hMl : M.length ≤ 1048576) {c : Array Value} (X1 : World) (hX1 : X1 = X.alloc (.cells #[tv, mv] 25))
    (hs : c.size = 259) (hl : c.toList = (List.replicate 256 (0 : Int)).map zV ++ [mv, .map (some (X1.heap.size + 1)), sl X1.heap.size M.length]) :
    CoMk X.heap.size X (((X1.alloc (.cells (List.replicate M.length nilV).toArray 95)).alloc (.map #[] 0)).alloc (.cells c 82)).drew ⟨X1.heap.size + 1 + 1, 0, 0, 0, 0, X1.heap.size, X1.heap.size + 1⟩ (alL T 0) M tv mv 0 X.heap.size := by
  have s0 : X1.heap.size = X.heap.size + 1 := by rw [hX1, World.size_alloc]
  have s1 : (X1.alloc (.cells (List.replicate M.length nilV).toArray 95)).heap.size = X1.heap.size + 1 := by rw [World.size_alloc]
  have s2 : ((X1.alloc (.cells (List.replicate M.length nilV).toArray 95)).alloc (.map #[] 0)).heap.size = X1.heap.size + 1 + 1 := by rw [World.size_alloc, s1]
  have r0 : Rs X.heap.size X1 [⟨25, sl X.heap.size 2, [tv, mv]⟩] := by
    rw [hX1]
    exact Rs.made ⟨fun r hr => by simp at hr, List.Pairwise.nil⟩ ((Kept.refl _ X).alloc _) (Nat.le_refl _) (At.new X #[tv, mv] _ 2 rfl _ rfl (by omega))
  have k2 := At.new X1 (List.replicate M.length nilV).toArray 95 M.length (by simp) _ rfl (by omega)
  have r2 := r0.made ((Kept.refl _ _).alloc _) (by omega) k2
  have r2' := r2.fresh ((Kept.refl _ _).alloc (.map #[] 0))
  have k3 := At.new ((X1.alloc (.cells (List.replicate M.length nilV).toArray 95)).alloc (.map #[] 0)) c 82 259 hs _ hl (by omega)
  have r3 := r2'.made ((Kept.refl _ _).alloc _) (by omega) k3
  rw [s2] at r3
  have m1 := KM.made 77 (X1.alloc (.cells (List.replicate M.length nilV).toArray 95))
  rw [s1] at m1
  have m2 : KM 77 (((X1.alloc (.cells (List.replicate M.length nilV).toArray 95)).alloc (.map #[] 0)).alloc (.cells c 82)).drew (X1.heap.size + 1) 0 (fun _ => none) := m1.kept (((Kept.refl (fun _ => False) _).alloc _).drew) (fun e => e)
  rw [alL_zero]
  refine ⟨r3.drewN 1, m2.congr (fun v => (rkV_zero M v).symm), List.length_replicate, by show X.heap.size ≤ X1.heap.size + 1; omega, ?_⟩
  rw [hX1]
  exact (((((Kept.refl _ X).alloc _).alloc _).alloc _).alloc _).drew
set_option maxHeartbeats 2000000 in
set_option maxRecDepth 100000 in
theorem newCoder_any {p : Nat → Prop} (X : World) (tv mv : Value) (T : List (List UInt8)) (M : List Mg) (hT : TxR p X tv T) (hM : MgR p X mv M) (hTl : T.length ≤ 1048576) (hMl : M.length ≤ 1048576) :
    Calls Try.prog 25 #[.agg #[tv, mv]] X fun e X' => ∃ s us, e = .returned (.pointer (some ⟨s.cb, 0, none⟩)) ∧ CoSt X.heap.size X' s (alL T T.length) M mv us (List.replicate M.length []) ∧ Fresh X X' := by
  have HT : Hid (TxR (fun b => b < X.heap.size) X tv T) := hT.low
  have HM : Hid (MgR (fun b => b < X.heap.size) X mv M) := hM.low
  obtain ⟨ta, tc, htv⟩ := hT.shape
  obtain ⟨ma, mc, hmv⟩ := hM.shape
  subst htv hmv
  clear hT hM
  have hmk : ∀ V : World, (Instr.makeSlice 79 (.int .i64 (M.length : Int)) (.int .i64 (M.length : Int))).run Try.prog V = .ok (.slice (some ⟨V.heap.size, 0, none⟩) M.length M.length) (V.alloc (.cells (List.replicate M.length nilV).toArray 95)) := fun V => run_mkL tyHs M.length (by omega) V
  have hmm : ∀ V : World, (Instr.makeMap 75 (some (.int .i64 (M.length : Int)))).run Try.prog V = .ok (.map (some V.heap.size)) (V.alloc (.map #[] 0)) := fun V => run_mm Try.underlying75 _ V
  generalize hkk : M.length = k at *
  generalize htt : T.length = tn at *
  obtain ⟨Z, hZ⟩ : ∃ Z, (Obj.cells (List.replicate k nilV).toArray 95) = Z := ⟨_, rfl⟩
  rw [hZ] at hmk
  go_enter Try.func25, Try.ntmps25
  go_upto_region 1 with fail
  go_cut [3] (fun cv w' => ∃ s : Sc, cv = .pointer (some ⟨s.cb, 0, none⟩) ∧ Hid (CoMk X.heap.size X w' s (alL T 0) M (.slice ta tn tc) (.slice ma k mc) 0 X.heap.size))
  case first =>
    generalize hX1 : X.alloc (.cells #[.slice ta tn tc, .slice ma k mc] 25) = X1
    have b0 : X1.cell? ⟨X.heap.size, 0, none⟩ = some (.slice ta tn tc) := by rw [← hX1]; rw [World.cell?_alloc_new]; rfl
    have b1 : X1.cell? ⟨X.heap.size, 1, none⟩ = some (.slice ma k mc) := by rw [← hX1]; rw [World.cell?_alloc_new]; rfl
    have hz1 : X.heap.size < X1.heap.size := by rw [← hX1, World.size_alloc]; omega
    have b2 : ∀ o i, (X1.alloc o).cell? ⟨X.heap.size, i, none⟩ = X1.cell? ⟨X.heap.size, i, none⟩ := fun o i => World.cell?_alloc_lt X1 o _ hz1
    have b3 : ∀ o o' i, ((X1.alloc o).alloc o').cell? ⟨X.heap.size, i, none⟩ = X1.cell? ⟨X.heap.size, i, none⟩ := fun o o' i => (World.cell?_alloc_lt (X1.alloc o) o' _ (by simp; omega)).trans (b2 o i)
    obtain ⟨Zc, hzc, hzs, hzl⟩ := zeroCell
    have HA : Hid _ := comk_map X T M (.slice ta tn tc) (.slice ma k mc) (by omega) X1 hX1.symm (zero_set hzs hzl _ _ _).1 (zero_set hzs hzl _ _ _).2
    have HB : Hid _ := comk_row X T M (.slice ta tn tc) (.slice ma k mc) (by omega) X1 hX1.symm (zero_set hzs hzl _ _ _).1 (zero_set hzs hzl _ _ _).2
    rw [hkk, hZ] at HA HB
    go_region
    all_goals
      go_wp2
      go_meet
      case rel => first
        | exact ⟨_, rfl, HA.out⟩
        | exact ⟨_, rfl, HB.out⟩
  case rest =>
    obtain ⟨s, rfl, HP⟩ := hcut
    clear hmk hmm
    have HT1 : Hid (∀ w, Fresh X w → TxR (fun b => b < X.heap.size) w (.slice ta tn tc) T) := fun w hk => HT.out.fresh hk
    have HM1 : Hid (∀ w, Fresh X w → MgR (fun b => b < X.heap.size) w (.slice ma k mc) M) := fun w hk => HM.out.fresh hk
    obtain ⟨c0, c1, c2, _, _⟩ := HP.out.cells
    go_wp2
    clear c0 c1 c2
    go_loopw [23] (fun iv wr => ∃ j : Nat, j ≤ tn ∧ iv = zV j ∧ Hid (CoMk X.heap.size X wr s (alL T j) M (.slice ta tn tc) (.slice ma k mc) 0 X.heap.size)) (fun iv _ => tn - (RowKit.intOf iv).toNat)
    case atStart => exact ⟨0, Nat.zero_le _, rfl, HP.out⟩
    case round =>
      obtain ⟨j, hj, rfl, HQ⟩ := hrel
      clear HP
      by_cases hlt : j < tn
      · have hlt' : (j : Int) < (tn : Int) := by omega
        obtain ⟨b, off, rfl, _, _, hcell⟩ := (HT1.out wr HQ.out.fr).cells.2.2 (by omega)
        have t0 : wr.cell? ⟨b, off + j, none⟩ = some (.string (ByteArray.mk (gT T j).toArray)) := hcell j hlt
        have hnx := alL_next T j
        by_cases h1 : (gT T j).length = 1
        · rw [if_pos h1] at hnx
          have hb : ((gT T j).getD 0 0).toNat < 256 := UInt8.toNat_lt _
          obtain ⟨_, _, _, hcA, hfz⟩ := HQ.out.cells
          have a0 := hcA _ hb
          have f0 := hfz ((gT T j).getD 0 0).toNat
          have HN : Hid (CoMk X.heap.size X (wr.setCell ⟨s.cb, ((gT T j).getD 0 0).toNat, none⟩ (zV j)) s (alL T (j + 1)) M (.slice (some ⟨b, off, none⟩) tn tc) (.slice ma k mc) 0 X.heap.size) := by
            show CoMk _ _ _ _ _ _ _ _ _ _
            rw [hnx]
            exact HQ.out.setA rfl hb _
          have hx : ∀ hh : 0 < (ByteArray.mk (gT T j).toArray).size, ((ByteArray.mk (gT T j).toArray)[0]'hh).toNat = ((gT T j).getD 0 0).toNat := fun hh => by
            rw [List.getD_eq_getElem?_getD, List.getElem?_eq_getElem (by omega)]
            rfl
          have hsz : (ByteArray.mk (gT T j).toArray).size = 1 := by show (gT T j).toArray.size = 1; rw [List.size_toArray]; exact h1
          clear HQ hcA hfz hnx hcell
          generalize ((gT T j).getD 0 0).toNat = bb at *
          generalize gI (alL T j) bb = y0 at *
          generalize hg : (ByteArray.mk (gT T j).toArray) = ss at *
          clear hg h1
          have hbI : (bb : Int) < 256 := by omega
          have h0s : (0 : Nat) < ss.size := by omega
          go_wp2_with fail
          go_region
          go_wp2
          go_roundw
          case rel => exact ⟨j + 1, hlt, by go_num, HN.out.drewN 1⟩
          case measure => simp [RowKit.intOf]; omega
        · rw [if_neg h1] at hnx
          have HN : Hid (CoMk X.heap.size X wr s (alL T (j + 1)) M (.slice (some ⟨b, off, none⟩) tn tc) (.slice ma k mc) 0 X.heap.size) := by
            show CoMk _ _ _ _ _ _ _ _ _ _
            rw [hnx]
            exact HQ.out
          have hsz : (((ByteArray.mk (gT T j).toArray).size : Int) == 1) = false := by
            have : (ByteArray.mk (gT T j).toArray).size = (gT T j).length := by show (gT T j).toArray.size = _; rw [List.size_toArray]
            rw [this]
            exact decide_eq_false (by omega)
          clear HQ hnx hcell
          generalize hg : (ByteArray.mk (gT T j).toArray) = ss at *
          clear hg h1
          go_wp2
          go_roundw
          case rel => exact ⟨j + 1, hlt, by go_num, HN.out⟩
          case measure => simp [RowKit.intOf]; omega
      · obtain rfl : j = tn := by omega
        obtain ⟨c0, c1, c2, _, _⟩ := HQ.out.cells
        go_wp2
        clear c0 c1 c2
        have HT0 : Hid (T.length = j) := htt
        go_loopw [42] (fun iv w2 => ∃ i : Nat, i ≤ k ∧ iv = zV i ∧ Hid (CoMk X.heap.size X w2 s (alL T j) M (.slice ta j tc) (.slice ma k mc) i X.heap.size)) (fun iv _ => k - (RowKit.intOf iv).toNat)
        case atStart => exact ⟨0, Nat.zero_le _, rfl, HQ.out⟩
        case round =>
          obtain ⟨i, hi, rfl, HQ2⟩ := hrel
          clear HQ
          by_cases hlt2 : i < k
          · have hlt' : (i : Int) < (k : Int) := by omega
            obtain ⟨ao, cap, hmv, _, _, hm64, hmc⟩ := HM1.out wr HQ2.out.fr
            injection hmv with e1 e2 e3
            subst e1 e3
            clear e2
            obtain ⟨b, off, rfl, _, hbX, hcells⟩ := hmc (by omega)
            obtain ⟨m0, m1, m2⟩ := hcells i (by omega)
            obtain ⟨i1, i2, _⟩ := hm64 i (by omega)
            have hA := (HQ2.out.alloc (.cells #[zV (gM M i).l, zV (gM M i).r, zV (gM M i).o] 52)).drewN 1
            obtain ⟨kl, hkl⟩ := pairKey i1 i2
            obtain ⟨w', hst, hkm, hgr⟩ := hA.km.store pairKeyed Try.underlying75 (by unfold maxLen; omega) hkl (x := (i : Int)) (by constructor <;> omega) (rkV M (i + 1)) (by
              rw [rkV_pair]
              unfold rkT
              rw [if_pos ⟨rfl, rfl⟩]
              rfl) (fun key' kl' hne hk' => by
              unfold rkV
              split
              · rename_i a' b' he
                conv => lhs; unfold rkT
                rw [if_neg (fun e => ?_)]
                refine hne ?_
                cases key' with
                | agg c =>
                  have hc : c.toList = [.int .i64 a', .int .i64 b'] := he
                  have : c = #[.int .i64 a', .int .i64 b'] := by
                    apply Array.ext'
                    rw [hc]
                  rw [this, ← e.1, ← e.2]
                | _ => simp [lstV] at he
              · rfl)
            have HN : Hid (CoMk X.heap.size X w' s (alL T j) M (.slice ta j tc) (.slice (some ⟨b, off, none⟩) k mc) (i + 1) X.heap.size) := by
              have hk : Kept (fun q => q = s.mb) _ w' := (Kept.refl (fun q => q = s.mb) _).grown hgr (fun q _ e => by injection e with e; exact e.symm)
              refine ⟨hA.rs.kept hk (fun r hr q hq e => ?_), hkm, hA.bA, hA.geM, hA.fr.trans hk (fun q hq e => by have := hA.geM; have e' : q = s.mb := e; omega)⟩
              obtain ⟨es, cl, hm⟩ := hA.km.isMap
              rcases (hA.rs.own r hr).2 with ⟨e', _⟩ | ⟨g, cap, cur, hv, _, hh, _⟩
              · rw [e'] at hq; simp [Value.ownBlock] at hq
              · rw [hv] at hq
                simp [Value.ownBlock] at hq
                rw [hq, e, hm] at hh
                cases hh
            obtain ⟨c0, _, _, _, _⟩ := (HQ2.out.alloc (.cells #[.int .i64 (gM M i).l, .int .i64 (gM M i).r, .int .i64 (gM M i).o] 52)).cells
            obtain ⟨d0, _, _, _, _⟩ := HQ2.out.cells
            have hst' : (Instr.mapUpdate 75 (.map (some s.mb)) (pV (gM M i).l (gM M i).r) (.int .i64 (i : Int))).run Try.prog (wr.alloc (.cells #[zV (gM M i).l, zV (gM M i).r, zV (gM M i).o] 52)).drew = .ok () w' := hst
            clear HQ2 hA hkm hgr hst hkl hm64 hmc hcells i1 i2
            generalize (gM M i).l = ml at *
            generalize (gM M i).r = mr at *
            generalize (gM M i).o = mo at *
            go_wp2_with fail
            go_region
            go_wp2
            go_roundw
            case rel => exact ⟨i + 1, hlt2, by go_num, HN.out⟩
            case measure => simp [RowKit.intOf]; omega
          · obtain rfl : i = k := by omega
            have HE : Hid (CoSt X.heap.size wr s (alL T j) M (.slice ma i mc) (List.replicate i nilV) (List.replicate i []) ∧ Fresh X wr) := by
              have h := HQ2.out
              refine ⟨⟨?_, by rw [hkk]; exact h.km, HM1.out wr h.fr, h.bA, by rw [hkk, List.length_replicate], by rw [hkk, List.length_replicate], h.fr.size, h.geM⟩, h.fr⟩
              have h1 := (h.rs.drop (m := [CO s (alL T j) (.slice ma i mc) M.length, RH s.wb M.length M.length (List.replicate M.length nilV)]) (List.Sublist.cons_cons _ (List.Sublist.cons_cons _ (List.nil_sublist _)))).nils i
              rw [hkk] at h1 ⊢
              exact h1
            go_wp2
            go_ret
            exact ⟨s, _, rfl, HE.out⟩
end Go.Proofs.Ytjjpkidmlpmgaaa
