/-
  Whether rows of texts are as long as they should be; what is wrong with a model's vocabulary.
-/
import Derived.Test.YtakiimjldccgcabDoorShHToShK
import Derived.Test.YtakiimjldccgcabDoorVoqToVosC
import Derived.Test.YtakiimjldccgcabDoorShKxToVop
namespace Go.Proofs.YtakiimjldccgcabDoor
open Go.RowKit Go.Lib Go.Maps

set_option maxHeartbeats 1000000 in
set_option maxRecDepth 100000 in
theorem fitS_any (g n c : Nat) (ln : Nat → Nat) (sz : Nat → Int) (w : World) (hg : g < w.heap.size) (hP : PtR w g n ln sz) (hn : n ≤ 1048576) : Calls Tryd.prog 74 #[.slice (some ⟨g, 0, none⟩) n c] w fun e w' => e = .returned (.bool (fitF n ln sz)) ∧ Fresh w w' := by
  have HP : Hid (∀ X, Fresh w X → ∀ i, i < n → (∃ ao c, X.cell? ⟨g, i * 2, none⟩ = some (.slice ao (ln i) c)) ∧ X.cell? ⟨g, i * 2 + 1, none⟩ = some (zV (sz i))) := fun X hX i hi => by
    obtain ⟨⟨ao, c, h1⟩, h2⟩ := hP i hi
    exact ⟨⟨ao, c, (hX.cell (p := ⟨g, i * 2, none⟩) hg (fun e => e)).trans h1⟩, (hX.cell (p := ⟨g, i * 2 + 1, none⟩) hg (fun e => e)).trans h2⟩
  have HF := show Hid _ from fitF_iff n ln sz
  have HNO : Hid (∀ i, i < n → (ln i : Int) ≠ sz i → fitF n ln sz = false) := fun i hi h => fitF_no hi h
  clear hP hg
  generalize fitF n ln sz = R at *
  go_enter Tryd.func74, Tryd.ntmps74
  go_wp2
  go_loopw [7] (fun iv wr => ∃ j : Nat, j ≤ n ∧ iv = zV j ∧ Hid (Fresh w wr ∧ ∀ i, i < j → (ln i : Int) = sz i)) (fun iv _ => n - (RowKit.intOf iv).toNat)
  case atStart => exact ⟨0, Nat.zero_le _, rfl, Kept.refl _ _, fun i h => absurd h (Nat.not_lt_zero _)⟩
  case round =>
    obtain ⟨j, hj, rfl, HA⟩ := hrel
    by_cases hlt : j < n
    · have hlt' : (j : Int) < (n : Int) := by omega
      have h0j : (0 : Int) ≤ (j : Int) := by omega
      obtain ⟨⟨ao, lc, c0⟩, c1⟩ := HP.out wr HA.out.1 j hlt
      have hF2 : Hid (Fresh w (wr.alloc (.cells #[.slice ao (ln j) lc, zV (sz j)] 152))) := HA.out.1.alloc _
      obtain ⟨l, hl⟩ : ∃ l, ln j = l := ⟨_, rfl⟩
      obtain ⟨z, hz⟩ : ∃ z, sz j = z := ⟨_, rfl⟩
      rw [hl] at c0 hF2
      rw [hz] at c1 hF2
      by_cases he : (l : Int) = z
      · have hne : ((l : Int) != z) = false := by simp [he]
        have HZ : Hid (∀ i, i < j + 1 → (ln i : Int) = sz i) := fun i hi => by
          rcases Nat.lt_or_ge i j with e | e
          · exact HA.out.2 i e
          · rw [show i = j by omega, hl, hz]; exact he
        clear he hl hz HA HNO HF HP
        go_wp2
        go_roundw
        case rel => exact ⟨j + 1, hlt, by go_num, hF2.out, HZ.out⟩
        case measure => simp [RowKit.intOf]; omega
      · have hne : ((l : Int) != z) = true := bne_iff_ne.2 he
        have HR : Hid (R = false) := HNO.out j hlt (by rw [hl, hz]; exact he)
        clear he hl hz HA HNO HF HP
        go_wp2
        go_ret
        exact ⟨by rw [HR.out]; rfl, hF2.out⟩
    · obtain rfl : j = n := by omega
      have hlt' : ¬ ((j : Int) < (j : Int)) := by omega
      have HR : Hid (R = true ∧ Fresh w wr) := ⟨HF.out.2 HA.out.2, HA.out.1⟩
      clear HA HNO HF HP
      go_wp2
      go_ret
      exact ⟨by rw [HR.out.1]; rfl, HR.out.2⟩
/-- The cells of a model. -/
def mdlC (s : Shp) (tv mv ev : Value) (es : Int) (cv sv bv bev gv uv : Value) (ls : Int) : Array Value := #[zV s.v, zV s.c, zV s.d, zV s.h, zV s.l, zV s.n, tv, mv, ev, zV es, cv, sv, bv, bev, gv, uv, zV ls]
theorem ret_ct {P : Program} {fn : Func} {R : Ending → World → Prop} {a : Act} {w : World} {p u : Tmp} {ty : TypeId} (h : fn.results = #[.cell p ty, .tmp u]) (g : Nat) (t : TypeId) (cs : Array Value) (fr : Nat × Nat) (d : TypeDesc)
    (hp : a.tmps.getD p undef = .pointer (some ⟨g, 0, none⟩)) (hg : w.heap[g]? = some (.cells cs t fr))
    (hu : P.underlying ty = some d) (hd : (match d with | .struct _ | .array _ _ => true | _ => false) = true) (hi : (P.info? ty).map (·.size) = some cs.size) (hdf : a.defers = []) (hR : R (.returned (.tuple #[.agg cs, a.tmps.getD u undef])) w) : bodyPost P fn R .ret a w :=
  bodyPost_ret (by
    rw [results_cell_tmp h, hp]
    simp [asAddr, run_loadVar_row w g t ty cs fr d hg hu hd hi]) hdf hR
/-- What is wrong with a model's vocabulary. -/
def wvE (n : Int) (T : List (List UInt8)) (M : List Mg) : Int := if vcE T M ≠ 0 then vcE T M else if (T.length : Int) ≠ n then 161 else 0
def wvN (n : Int) (T : List (List UInt8)) (M : List Mg) : Int := if vcE T M ≠ 0 then vcP T M else if (T.length : Int) ≠ n then (T.length : Int) else 0
def wvP (n : Int) (T : List (List UInt8)) (M : List Mg) : Int := if wvE n T M ≠ 0 then 2 else 0
theorem wv_bad {n : Int} {T : List (List UInt8)} {M : List Mg} (h : vcE T M ≠ 0) : wvE n T M = vcE T M ∧ wvN n T M = vcP T M ∧ wvP n T M = 2 := by
  have h1 : wvE n T M = vcE T M := if_pos h
  exact ⟨h1, if_pos h, if_pos (by rw [h1]; exact h)⟩
theorem wv_len {n : Int} {T : List (List UInt8)} {M : List Mg} (h : vcE T M = 0) (h2 : (T.length : Int) ≠ n) : wvE n T M = 161 ∧ wvN n T M = (T.length : Int) ∧ wvP n T M = 2 := by
  have h1 : wvE n T M = 161 := by unfold wvE; rw [if_neg (fun e => e h), if_pos h2]
  exact ⟨h1, by unfold wvN; rw [if_neg (fun e => e h), if_pos h2], if_pos (by rw [h1]; decide)⟩
theorem wv_ok {n : Int} {T : List (List UInt8)} {M : List Mg} (h : vcE T M = 0) (h2 : (T.length : Int) = n) : wvE n T M = 0 ∧ wvN n T M = 0 ∧ wvP n T M = 0 := by
  have h1 : wvE n T M = 0 := by unfold wvE; rw [if_neg (fun e => e h), if_neg (fun e => e h2)]
  exact ⟨h1, by unfold wvN; rw [if_neg (fun e => e h), if_neg (fun e => e h2)], if_neg (fun e => e h1)⟩
end Go.Proofs.YtakiimjldccgcabDoor

/-
  What is wrong with a model's vocabulary: the walk.
-/
namespace Go.Proofs.YtakiimjldccgcabDoor
open Go.RowKit Go.Lib Go.Maps

theorem two_set {W : World} {z : Nat} {a0 a1 : Value} {t : TypeId} (h : W.heap[z]? = some (.cells #[a0, a1] t (0, 0))) (v0 v1 : Value) :
    ((W.setCell ⟨z, 0, none⟩ v0).setCell ⟨z, 1, none⟩ v1).heap[z]? = some (.cells #[v0, v1] t (0, 0)) := by
  have e0 := Lib.heap_setCell_same h v0 (i := 0)
  exact Lib.heap_setCell_same e0 v1 (i := 1)
theorem two_fresh {w W : World} (h : Fresh w W) (v0 v1 : Value) :
    Fresh w ((W.setCell ⟨w.heap.size + 1, 0, none⟩ v0).setCell ⟨w.heap.size + 1, 1, none⟩ v1) := by
  have hn : ¬ w.heap.size + 1 < w.heap.size := by omega
  exact (h.setCell (fun e => absurd e hn) _).setCell (fun e => absurd e hn) _
theorem whSize : (Tryd.prog.info? 64).map (·.size) = some 2 := by kernel_rfl
set_option maxHeartbeats 2000000 in
set_option maxRecDepth 100000 in
theorem wrongVocab_any {p : Nat → Prop} (s : Shp) (tv mv ev : Value) (es : Int) (cv sv bv bev gv uv : Value) (ls : Int) (T : List (List UInt8)) (M : List Mg) (w : World) (hT : TxR p w tv T) (hM : MgR p w mv M) :
    Calls Tryd.prog 58 #[.agg (mdlC s tv mv ev es cv sv bv bev gv uv ls)] w fun e w' => e = .returned (.tuple #[.agg #[zV (wvP s.v T M), zV (wvN s.v T M)], zV (wvE s.v T M)]) ∧ Fresh w w' := by
  have HB := show Hid _ from box2 w (mdlC s tv mv ev es cv sv bv bev gv uv ls) #[zV 0, zV 0] 48 64
  have HVC : Hid (∀ X, Fresh w X → Calls Tryd.prog 73 #[.agg #[tv, mv]] X fun e X' => e = .returned (.tuple #[zV (vcP T M), zV (vcE T M)]) ∧ Fresh X X') := fun X hX => vcheck_any X tv mv T M (hT.fresh hX) (hM.fresh hX)
  obtain ⟨to1, tc, rfl⟩ := hT.shape
  obtain ⟨mo, mc, rfl⟩ := hM.shape
  clear hT hM
  have HBAD : Hid (vcE T M ≠ 0 → _) := fun h => wv_bad (n := s.v) (T := T) (M := M) h
  have HLEN : Hid (vcE T M = 0 → (T.length : Int) ≠ s.v → _) := fun h h' => wv_len (n := s.v) (T := T) (M := M) h h'
  have HOK : Hid (vcE T M = 0 → (T.length : Int) = s.v → _) := fun h h' => wv_ok (n := s.v) (T := T) (M := M) h h'
  generalize wvE s.v T M = RE at *
  generalize wvN s.v T M = RN at *
  generalize wvP s.v T M = RP at *
  generalize vcE T M = ce at *
  generalize vcP T M = cp at *
  generalize T.length = tn at *
  generalize M.length = mn at *
  unfold mdlC at *
  go_enter Tryd.func58, Tryd.ntmps58
  go_wp2_with fail
  refine Calls.mono (HVC.out _ (((Kept.refl _ w).alloc _).alloc _)) ?_
  rintro e X ⟨rfl, hf⟩
  obtain ⟨hfw, hb0, hb1⟩ := HB.out X hf
  have x0 : X.cell? ⟨w.heap.size, 0, none⟩ = some (zV s.v) := by rw [Lib.cell_of_heap hb0]; rfl
  have x6 : X.cell? ⟨w.heap.size, 6, none⟩ = some (.slice to1 tn tc) := by rw [Lib.cell_of_heap hb0]; rfl
  have y0 : X.cell? ⟨w.heap.size + 1, 0, none⟩ = some (zV 0) := by rw [Lib.cell_of_heap hb1]; rfl
  have y1 : X.cell? ⟨w.heap.size + 1, 1, none⟩ = some (zV 0) := by rw [Lib.cell_of_heap hb1]; rfl
  have z0 : X.frozen? ⟨w.heap.size + 1, 0, none⟩ = false := Lib.frozen_of_heap hb1 _
  have z1 : X.frozen? ⟨w.heap.size + 1, 1, none⟩ = false := Lib.frozen_of_heap hb1 _
  have HH := show Hid _ from hb1
  have HF := show Hid _ from hfw
  have h0 : (X.alloc (.cells #[.slice to1 tn tc, zV s.v] 152)).heap[X.heap.size]? = some (.cells #[.slice to1 tn tc, zV s.v] 152 (0, 0)) := heap_alloc_new X _
  have HFT := show Hid _ from fitS_any X.heap.size 1 1 (fun _ => tn) (fun _ => s.v) (X.alloc (.cells #[.slice to1 tn tc, zV s.v] 152)) (by rw [World.size_alloc]; omega) (fun i hi => by
    obtain rfl : i = 0 := by omega
    exact ⟨⟨to1, tc, by rw [Lib.cell_of_heap h0]; rfl⟩, by rw [Lib.cell_of_heap h0]; rfl⟩) (by omega)
  have HDE : Hid (fitF 1 (fun _ => tn) (fun _ => s.v) = decide ((tn : Int) = s.v)) := by
    show _ = _
    unfold fitF
    simp
  rw [HDE.out] at HFT
  have HB2 : Hid (∀ Y, Fresh (X.alloc (.cells #[.slice to1 tn tc, zV s.v] 152)) Y → _) := fun Y hY => HB.out Y (hf.trans (((Kept.refl _ X).alloc _).trans hY (fun _ _ e => e)) (fun _ _ e => e))
  clear hf HVC hb0 hb1 hfw HB HDE h0
  by_cases hc : ce = 0
  · have HCZ : Hid (ce = 0) := hc
    have hcc : (ce != 0) = false := by rw [hc]; rfl
    clear hc
    clear HBAD
    by_cases he : (tn : Int) = s.v
    · rw [decide_eq_true he] at HFT
      have HE : Hid ((tn : Int) = s.v) := he
      clear he HLEN
      go_wp2_with fail
      refine Calls.mono HFT.out ?_
      rintro e Y ⟨rfl, hf⟩
      obtain ⟨hfw, _, hb1⟩ := HB2.out Y hf
      have u0 : Y.cell? ⟨w.heap.size + 1, 0, none⟩ = some (zV 0) := by rw [Lib.cell_of_heap hb1]; rfl
      have u1 : Y.cell? ⟨w.heap.size + 1, 1, none⟩ = some (zV 0) := by rw [Lib.cell_of_heap hb1]; rfl
      have v0 : Y.frozen? ⟨w.heap.size + 1, 0, none⟩ = false := Lib.frozen_of_heap hb1 _
      have v1 : Y.frozen? ⟨w.heap.size + 1, 1, none⟩ = false := Lib.frozen_of_heap hb1 _
      have HHY := show Hid _ from hb1
      have HFY := show Hid _ from hfw
      clear hf hb1 hfw HB2 HFT
      go_wp2
      refine ret_ct rfl (w.heap.size + 1) _ _ _ _ rfl (two_set HHY.out _ _) rfl rfl whSize rfl ?_
      obtain ⟨r1, r2, r3⟩ := HOK.out HCZ.out HE.out
      refine ⟨?_, two_fresh HFY.out _ _⟩
      rw [r1, r2, r3]
      rfl
    · rw [decide_eq_false he] at HFT
      have HE : Hid ((tn : Int) ≠ s.v) := he
      clear he HOK
      go_wp2_with fail
      refine Calls.mono HFT.out ?_
      rintro e Y ⟨rfl, hf⟩
      obtain ⟨hfw, _, hb1⟩ := HB2.out Y hf
      have u0 : Y.cell? ⟨w.heap.size + 1, 0, none⟩ = some (zV 0) := by rw [Lib.cell_of_heap hb1]; rfl
      have u1 : Y.cell? ⟨w.heap.size + 1, 1, none⟩ = some (zV 0) := by rw [Lib.cell_of_heap hb1]; rfl
      have v0 : Y.frozen? ⟨w.heap.size + 1, 0, none⟩ = false := Lib.frozen_of_heap hb1 _
      have v1 : Y.frozen? ⟨w.heap.size + 1, 1, none⟩ = false := Lib.frozen_of_heap hb1 _
      have HHY := show Hid _ from hb1
      have HFY := show Hid _ from hfw
      clear hf hb1 hfw HB2 HFT
      go_wp2
      refine ret_ct rfl (w.heap.size + 1) _ _ _ _ rfl (two_set HHY.out _ _) rfl rfl whSize rfl ?_
      obtain ⟨r1, r2, r3⟩ := HLEN.out HCZ.out HE.out
      refine ⟨?_, two_fresh HFY.out _ _⟩
      rw [r1, r2, r3]
      rfl
  · have hcc : (ce != 0) = true := bne_iff_ne.2 hc
    have HNE : Hid (ce ≠ 0) := hc
    clear hc
    go_wp2
    refine ret_ct rfl (w.heap.size + 1) _ _ _ _ rfl (two_set HH.out _ _) rfl rfl whSize rfl ?_
    obtain ⟨r1, r2, r3⟩ := HBAD.out HNE.out
    refine ⟨?_, two_fresh HF.out _ _⟩
    rw [r1, r2, r3]
    rfl
end Go.Proofs.YtakiimjldccgcabDoor

/-
  A model in memory; which part of it is wrong, as a function.
-/
namespace Go.Proofs.YtakiimjldccgcabDoor
open Go.RowKit Go.Lib Go.Maps

/-- A model. -/
structure Md where
  s : Shp
  T : List (List UInt8)
  M : List Mg
  E : List Int
  es : Int
  C : List Int
  S : List Int
  L : List Bk
  B : List Int
  G : List Int
  U : List Int
  ls : Int
/-- A model's cells, its rows laid where p allows. -/
structure MdC (p : Nat → Prop) (W : World) (m : Md) (tv mv ev cv sv bv bev gv uv : Value) : Prop where
  tx : TxR p W tv m.T
  mg : MgR p W mv m.M
  e : Rk .i8 p W ev m.E
  c : Rk .i8 p W cv m.C
  s : Rk .i8 p W sv m.S
  b : BkR p W bv m.L
  be : Rk .i8 p W bev m.B
  g : Rk .i8 p W gv m.G
  u : Rk .i8 p W uv m.U
  so : m.s.Ok
  eo : I64 m.es
  lo : I64 m.ls
theorem MdC.fresh {p : Nat → Prop} {W X : World} {m : Md} {tv mv ev cv sv bv bev gv uv : Value} (h : MdC p W m tv mv ev cv sv bv bev gv uv) (hk : Fresh W X) : MdC p X m tv mv ev cv sv bv bev gv uv :=
  ⟨h.tx.fresh hk, h.mg.fresh hk, h.e.fresh hk, h.c.fresh hk, h.s.fresh hk, h.b.fresh hk, h.be.fresh hk, h.g.fresh hk, h.u.fresh hk, h.so, h.eo, h.lo⟩
/-- How many numbers each kind of part has. -/
def szW (s : Shp) : Int := s.v * s.d
def szA (s : Shp) : Int := s.c * shH s
def szQ (s : Shp) : Nat := (s.d * s.d).toNat
def szN (s : Shp) : Nat := (s.n * s.d).toNat
def szD (s : Shp) : Nat := s.d.toNat
theorem Rsh.sz {s : Shp} {V C D L N P : Nat} (h : Rsh s V C D L N P) : szW s = ((V * D : Nat) : Int) ∧ szA s = ((C * P : Nat) : Int) ∧ szQ s = D * D ∧ szN s = N * D ∧ szD s = D ∧ s.d = (D : Int) ∧ s.l = (L : Int) := by
  refine ⟨?_, ?_, ?_, ?_, ?_, h.d, h.l⟩
  · unfold szW; rw [h.v, h.d, Int.natCast_mul]
  · unfold szA; rw [shH_ok h.ok, h.c, h.p, Int.natCast_mul]
  · unfold szQ; rw [h.d, ← Int.natCast_mul]; rfl
  · unfold szN; rw [h.d, h.n, ← Int.natCast_mul]; rfl
  · unfold szD; rw [h.d]; rfl
/-- The first part of a model that is wrong: which, at what number, and what is wrong. -/
def wpF (m : Md) : Int × Int × Int :=
  if shE m.s ≠ 0 then (1, 0, shE m.s) else
  if wvE m.s.v m.T m.M ≠ 0 then (wvP m.s.v m.T m.M, wvN m.s.v m.T m.M, wvE m.s.v m.T m.M) else
  if wwE m.E.length (szW m.s) m.es 24 ≠ 0 then (3, 0, wwE m.E.length (szW m.s) m.es 24) else
  if (m.C.length : Int) ≠ szA m.s then (4, 0, 161) else
  if (m.S.length : Int) ≠ szA m.s then (4, 1, 161) else
  if (wbG m.s.l (szQ m.s) (szN m.s) (szD m.s) 0 m.L).2 ≠ 0 then (5, (wbG m.s.l (szQ m.s) (szN m.s) (szD m.s) 0 m.L).1, (wbG m.s.l (szQ m.s) (szN m.s) (szD m.s) 0 m.L).2) else
  if (m.B.length : Int) ≠ 256 then (6, 0, 161) else
  if (m.G.length : Int) ≠ m.s.d then (7, 0, 161) else
  if wwE m.U.length (szW m.s) m.ls 31 ≠ 0 then (8, 0, wwE m.U.length (szW m.s) m.ls 31) else (0, 0, 0)
/-- What holds while a model is looked at: its box and the place of the answer. -/
structure Wp (w X : World) (cs : Array Value) : Prop where
  fr : Fresh w X
  box : X.heap[w.heap.size]? = some (.cells cs 48 (0, 0))
  res : X.heap[w.heap.size + 1]? = some (.cells #[zV 0, zV 0] 64 (0, 0))
theorem Wp.next {w X Y : World} {cs : Array Value} (h : Wp w X cs) (hk : Fresh X Y) : Wp w Y cs := ⟨h.fr.trans hk (fun _ _ e => e), hk.at h.box (fun e => e), hk.at h.res (fun e => e)⟩
theorem Wp.start (w : World) (cs : Array Value) : Wp w ((w.alloc (.cells cs 48)).alloc (.cells #[zV 0, zV 0] 64)) cs := by
  obtain ⟨h1, h2, h3⟩ := box2 w cs #[zV 0, zV 0] 48 64 _ (Kept.refl _ _)
  exact ⟨h1, h2, h3⟩
theorem Wp.cell {w X : World} {cs : Array Value} (h : Wp w X cs) {k : Nat} {v : Value} (hv : cs[k]? = some v) : X.cell? ⟨w.heap.size, k, none⟩ = some v := by
  rw [Lib.cell_of_heap h.box]; exact hv
theorem Wp.r0 {w X : World} {cs : Array Value} (h : Wp w X cs) : X.cell? ⟨w.heap.size + 1, 0, none⟩ = some (zV 0) := by rw [Lib.cell_of_heap h.res]; rfl
theorem Wp.r1 {w X : World} {cs : Array Value} (h : Wp w X cs) : X.cell? ⟨w.heap.size + 1, 1, none⟩ = some (zV 0) := by rw [Lib.cell_of_heap h.res]; rfl
theorem Wp.fz {w X : World} {cs : Array Value} (h : Wp w X cs) (k : Nat) : X.frozen? ⟨w.heap.size + 1, k, none⟩ = false := Lib.frozen_of_heap h.res _
/-- The answer, stored. -/
theorem Wp.ret {w X : World} {cs : Array Value} (h : Wp w X cs) (a b : Value) : ((X.setCell ⟨w.heap.size + 1, 0, none⟩ a).setCell ⟨w.heap.size + 1, 1, none⟩ b).heap[w.heap.size + 1]? = some (.cells #[a, b] 64 (0, 0)) ∧ Fresh w ((X.setCell ⟨w.heap.size + 1, 0, none⟩ a).setCell ⟨w.heap.size + 1, 1, none⟩ b) :=
  ⟨two_set h.res a b, two_fresh h.fr a b⟩
theorem mdlSize : (Tryd.prog.info? 48).map (·.size) = some 17 := by kernel_rfl
theorem shpSize : (Tryd.prog.info? 23).map (·.size) = some 6 := by kernel_rfl
theorem Wp.all {w X : World} {cs : Array Value} (h : Wp w X cs) (hc : cs.size = 17) : (loadVar 48 ⟨w.heap.size, 0, none⟩).run Tryd.prog X = .ok (.agg cs) X :=
  run_loadVar_row X w.heap.size 48 48 cs _ _ h.box Tryd.underlying48 rfl (by rw [hc]; exact mdlSize)
theorem Wp.shp {w X : World} {cs SV : Array Value} (h : Wp w X cs) (hs : SV.size = 6) (hc : ∀ j, j < 6 → cs[j]? = SV[j]?) : (loadVar 23 ⟨w.heap.size, 0, none⟩).run Tryd.prog X = .ok (.agg SV) X :=
  run_loadAt X w.heap.size 0 23 SV _ (fun j hj => by rw [Nat.zero_add, Lib.cell_of_heap h.box]; exact hc j (by omega)) Tryd.underlying23 rfl (by rw [hs]; exact shpSize)
theorem run_index2 {C : Array Value} {c : Nat} {x : Value} (hc : c < 2) (hx : C[c]? = some x) (W : World) : (Instr.index 128 (.agg C) (zV (c : Int))).run Tryd.prog W = .ok x W := by
  have hz : (sizeOf 45).run Tryd.prog W = .ok 1 W := by kernel_rfl
  have ha : (isAgg 45).run Tryd.prog W = .ok false W := by kernel_rfl
  have hp : (Go.part 45 C c).run Tryd.prog W = .ok x W := by
    unfold Go.part
    rw [Sem.run_bind, ha]
    simp [Result.andThen, hx]
  unfold Instr.index
  simp [asIntOf, Sem.run_bind, run_underlying Tryd.underlying128 W, hc, hz, hp, Result.andThen]
/-- One list held against its length. -/
theorem fit1_any (ao : Option Addr) (n c : Nat) (sz : Int) (X : World) : Calls Tryd.prog 60 #[.slice (some ⟨X.heap.size, 0, none⟩) 1 1] (X.alloc (.cells #[.slice ao n c, zV sz] 131)) fun e w' => e = .returned (.bool (decide ((n : Int) = sz))) ∧ Fresh X w' := by
  have h0 : (X.alloc (.cells #[.slice ao n c, zV sz] 131)).heap[X.heap.size]? = some (.cells #[.slice ao n c, zV sz] 131 (0, 0)) := heap_alloc_new X _
  have h := fit8_any X.heap.size 1 1 (fun _ => n) (fun _ => sz) (X.alloc (.cells #[.slice ao n c, zV sz] 131)) (by rw [World.size_alloc]; omega) (fun i hi => by
    obtain rfl : i = 0 := by omega
    exact ⟨⟨ao, c, by rw [Lib.cell_of_heap h0]; rfl⟩, by rw [Lib.cell_of_heap h0]; rfl⟩) (by omega)
  have e : fitF 1 (fun _ => n) (fun _ => sz) = decide ((n : Int) = sz) := by unfold fitF; simp
  rw [e] at h
  exact h.mono fun e w' ⟨h1, h2⟩ => ⟨h1, ((Kept.refl _ X).alloc _).trans h2 (fun _ _ e => e)⟩
end Go.Proofs.YtakiimjldccgcabDoor
