/-
  The reaches of a model: the walk.
-/
import Derived.Test.YtakiimjldccgcabDoorShWToShP
import Derived.BigQuiet
namespace Go.Proofs.YtakiimjldccgcabDoor
open Go.RowKit Go.Lib Go.Maps

/-- What holds while the reaches are told. -/
structure Rw (w X : World) (cs : Array Value) (lv : Value) (L : List Int) : Prop where
  fr : Fresh w X
  box : X.heap[w.heap.size]? = some (.cells cs 48 (0, 0))
  own : X.ownsRow (w.heap.size + 1) 2 1 lv L.length (L.map (Value.int .i64))
theorem Rw.next {w X Y : World} {cs : Array Value} {lv : Value} {L : List Int} (h : Rw w X cs lv L) (hk : Fresh X Y) : Rw w Y cs lv L :=
  ⟨h.fr.trans hk (fun _ _ e => e), hk.at h.box (fun e => e), owns_kept h.own hk (fun _ _ e => e)⟩
theorem Rw.cell {w X : World} {cs : Array Value} {lv : Value} {L : List Int} (h : Rw w X cs lv L) {k : Nat} {v : Value} (hv : cs[k]? = some v) : X.cell? ⟨w.heap.size, k, none⟩ = some v := by
  rw [Lib.cell_of_heap h.box]; exact hv
theorem Rw.push {w X : World} {cs : Array Value} {g c k : Nat} {L : List Int} (h : Rw w X cs (.slice (some ⟨g, 0, none⟩) k c) L) (hk : L.length = k) (x : Int) (hl : k ≤ 100) :
    ∃ g' c' X', (Builtin.append_ #[106, 106] 106 #[.slice (some ⟨g, 0, none⟩) k c, .slice (some ⟨X.heap.size, 0, none⟩) 1 1]).run Tryd.prog (X.alloc (.cells #[.int .i64 x] 2)) = .ok (.slice (some ⟨g', 0, none⟩) (k + 1) c') X' ∧
      Rw w X' cs (.slice (some ⟨g', 0, none⟩) (k + 1) c') (L ++ [x]) ∧ Kept (fun b => b = g) X X' ∧ w.heap.size < g ∧ g < X.heap.size := by
  subst hk
  obtain ⟨hb, hb2, _⟩ := own_block h.own
  have hsz := h.fr.size
  have hlt := lt_of_heap h.box
  obtain ⟨g', c', X', h1, h2, _, h4⟩ := Go.Proofs.YtakiimjldccgcabDoor.push ty64 X (w.heap.size + 1) g c L.length L x h.own (by simp [kb]; omega) (by omega)
  refine ⟨g', c', X', h1, ⟨h.fr.trans h4 (fun i hi e => by have e' : i = g := e; omega), h4.at h.box (fun e => by have e' : w.heap.size = g := e; omega), ?_⟩, h4, by omega, hb2⟩
  rw [List.length_append]
  exact h2
theorem Rw.aside {w X Y : World} {cs : Array Value} {g c k : Nat} {L : List Int} (h : Rw w X cs (.slice (some ⟨g, 0, none⟩) k c) L) (hk : L.length = k) (z : Obj) (hY : Kept (fun b => b = X.heap.size) (X.alloc z) Y) : Rw w Y cs (.slice (some ⟨g, 0, none⟩) k c) L := by
  subst hk
  have h1 := h.next ((Kept.refl (fun _ => False) X).alloc z)
  have hb := (own_block h.own).2.1
  have hlt := lt_of_heap h.box
  have hsz := h.fr.size
  exact ⟨h1.fr.trans hY (fun i hi e => by have e' : i = X.heap.size := e; omega), hY.at h1.box (fun e => by have e' : w.heap.size = X.heap.size := e; omega), owns_kept h1.own hY (fun q hq e => by
    have e' : q = X.heap.size := e
    simp [Value.ownBlock] at hq
    omega)⟩
theorem BkR.low {p : Nat → Prop} {W : World} {v : Value} {L : List Bk} (h : BkR p W v L) : BkR (fun b => b < W.heap.size) W v L := by
  obtain ⟨ao, cap, h1, h2, h3, h4, h5⟩ := h
  refine ⟨ao, cap, h1, h2, h3, h4, fun h0 => ?_⟩
  obtain ⟨b, off, ha, hp, hb, hc⟩ := h5 h0
  refine ⟨b, off, ha, hb, hb, fun i hi => ?_⟩
  obtain ⟨cs, ⟨g1, q, k, v, o, g2, mg, mu, md, e, r1, r2, r3, r4, r5, r6, r7, r8, r9, r10⟩, c1⟩ := hc i hi
  exact ⟨cs, ⟨g1, q, k, v, o, g2, mg, mu, md, e, r1.low, r2.low, r3.low, r4.low, r5.low, r6.low, r7.low, r8.low, r9.low, r10⟩, c1⟩
/-- What of a block is looked at here. -/
theorem BkC.outs {p : Nat → Prop} {W : World} {C : Array Value} {B : Bk} (h : BkC p W C B) : ∃ (o1 o2 : Option Addr) (c1 c2 : Nat), C[4]? = some (.slice o1 B.o.length c1) ∧ C[9]? = some (zV B.os) ∧ C[13]? = some (.slice o2 B.md.length c2) ∧ C[16]? = some (zV B.ds) ∧ Rk .i8 p W (.slice o1 B.o.length c1) B.o ∧ Rk .i8 p W (.slice o2 B.md.length c2) B.md := by
  obtain ⟨g1, q, k, v, o, g2, mg, mu, md, rfl, r1, r2, r3, r4, r5, r6, r7, r8, r9, _⟩ := h
  obtain ⟨o1, c1, rfl, _⟩ := r5.shape
  obtain ⟨o2, c2, rfl, _⟩ := r9.shape
  exact ⟨o1, o2, c1, c2, rfl, rfl, rfl, rfl, r5, r9⟩
set_option maxHeartbeats 4000000 in
set_option maxRecDepth 100000 in
theorem reachesOf_any {p : Nat → Prop} (m : Md) (tv mv ev cv sv bv bev gv uv : Value) (w : World) (hm : MdC p w m tv mv ev cv sv bv bev gv uv) (ho : Mok m) :
    Calls Tryd.prog 40 #[.agg (mdlC m.s tv mv ev m.es cv sv bv bev gv uv m.ls)] w fun e w' => ∃ g c, e = .returned (.slice (some ⟨g, 0, none⟩) (1 + 2 * m.L.length) c) ∧ w'.ownsRow (w.heap.size + 1) 2 1 (.slice (some ⟨g, 0, none⟩) (1 + 2 * m.L.length) c) (1 + 2 * m.L.length) ((rL m m.L.length).map (Value.int .i64)) ∧ Fresh w w' := by
  have HG : Hid (∀ X, Fresh w X → Calls Tryd.prog 62 #[ev] X fun e w' => e = .returned (zV (gzF m.E m.E.length)) ∧ w' = X) := fun X hX => greatestSize_any p ev m.E X (hm.e.fresh hX)
  have hgz := gzF_range (zs := m.E) hm.e.all m.E.length
  obtain ⟨eo, ec, rfl, _⟩ := hm.e.shape
  obtain ⟨bo, bc, rfl⟩ := hm.b.shape
  have HB : Hid (0 < m.L.length → _) := fun h0 => hm.b.low.blk h0
  have HRF := show Hid _ from ho.first
  have HR0 : Hid (rA m 0 = gzF m.E m.E.length * 2 ^ m.es.toNat) := rfl
  have HRN : Hid (∀ j, rL m (j + 1) = (rL m j ++ [rA m j + moO m j]) ++ [rA m j + moO m j + moD m j]) := fun _ => rfl
  have HRA : Hid (∀ j, rA m (j + 1) = rA m j + moO m j + moD m j) := fun _ => rfl
  have HRZ : Hid (rL m 0 = [rA m 0]) := rfl
  have HLN := show Hid _ from rL_len m
  have HRG := show Hid _ from ho.range
  have HHF : Hid (∀ i, i < m.L.length → _) := fun i hi => ho.half hi
  have HMO : Hid (∀ i ov X q, Rk .i8 q X ov (gBk m.L i).o → Calls Tryd.prog 63 #[ov, zV m.s.d, zV (gBk m.L i).os] X fun e w' => e = .returned (zV (moO m i)) ∧ Fresh X w') := fun i ov X q h => mostOut_any q ov _ _ _ X h hm.so.2.2.1
  have HMD : Hid (∀ i ov X q, Rk .i8 q X ov (gBk m.L i).md → Calls Tryd.prog 63 #[ov, zV m.s.n, zV (gBk m.L i).ds] X fun e w' => e = .returned (zV (moD m i)) ∧ Fresh X w') := fun i ov X q h => mostOut_any q ov _ _ _ X h hm.so.2.2.2.2.2
  have hl := ho.l
  obtain ⟨e1, e2⟩ := ho.es
  clear hm ho
  generalize rA m = RA at *
  generalize rL m = RL at *
  generalize moO m = MO at *
  generalize moD m = MD at *
  obtain ⟨s, T, M, E, es, C, S, L, B, G, U, ls⟩ := m
  simp only at *
  obtain ⟨cs, hcs⟩ : ∃ cs, mdlC s tv mv (.slice eo E.length ec) es cv sv (.slice bo L.length bc) bev gv uv ls = cs := ⟨_, rfl⟩
  have k2 : cs[2]? = some (zV s.d) := by rw [← hcs]; rfl
  have k5 : cs[5]? = some (zV s.n) := by rw [← hcs]; rfl
  have k8 : cs[8]? = some (.slice eo E.length ec) := by rw [← hcs]; rfl
  have k9 : cs[9]? = some (zV es) := by rw [← hcs]; rfl
  have k12 : cs[12]? = some (.slice bo L.length bc) := by rw [← hcs]; rfl
  rw [hcs]
  clear hcs
  obtain ⟨n, hn⟩ : ∃ n, L.length = n := ⟨_, rfl⟩
  rw [hn] at HB HRG HHF hl k12
  rw [hn]
  have HN := show Hid _ from hn
  clear hn
  generalize gzF E E.length = z at *
  generalize E.length = en at *
  have HBX : Hid (∀ X, Fresh (w.alloc (.cells cs 48)) X → Fresh w X ∧ X.heap[w.heap.size]? = some (.cells cs 48 (0, 0))) := fun X hX => ⟨((Kept.refl _ w).alloc _).trans hX (fun _ _ e => e), hX.at (heap_alloc_new w _) (fun e => e)⟩
  go_enter Tryd.func40, Tryd.ntmps40
  go_upto_region 1 with fail
  have u8 : ∀ d, ((w.alloc (.cells cs 48)).drewN d).cell? ⟨w.heap.size, 8, none⟩ = some (.slice eo en ec) := fun d => by
    rw [Lib.cell_of_heap (HBX.out _ (kept_drewN _ _ d)).2]; exact k8
  have u9 : ∀ d, ((w.alloc (.cells cs 48)).drewN d).cell? ⟨w.heap.size, 9, none⟩ = some (zV es) := fun d => by
    rw [Lib.cell_of_heap (HBX.out _ (kept_drewN _ _ d)).2]; exact k9
  have HCall : Hid (∀ d, _) := fun d => HG.out ((w.alloc (.cells cs 48)).drewN d) (HBX.out _ (kept_drewN _ _ d)).1
  have HFD : Hid (∀ d, Fresh (w.alloc (.cells cs 48)) ((w.alloc (.cells cs 48)).drewN d)) := fun d => kept_drewN _ _ d
  generalize w.alloc (.cells cs 48) = W0 at *
  go_quiet ((go_at_call 62; exact Calls.quiet_of_same (HCall.out _)))
  have hwr : wrap64 (z * 2 ^ es.toNat) = RA 0 := by rw [← HR0.out]; exact wrap_i64 (by have := HRF.out; unfold I64; omega)
  rw [hwr]
  have hF1 : Fresh W0 (W0.drewN nq) := HFD.out nq
  clear hwr u8 u9 HCall HFD HG HR0 hgz k8 k9
  generalize W0.drewN nq = W1 at *
  obtain ⟨hfw, hbox⟩ := HBX.out W1 hF1
  have HF1 := show Hid _ from hfw
  have HBX1 := show Hid _ from hbox
  clear hF1 HBX hfw hbox
  have c12 : W1.cell? ⟨w.heap.size, 12, none⟩ = some (.slice bo n bc) := by rw [Lib.cell_of_heap HBX1.out]; exact k12
  have hmk : ∀ W, (Instr.makeSlice 106 (.int .i64 0) (.int .i64 (1 + 2 * (n : Int)))).run Tryd.prog W = .ok (.slice (some ⟨W.heap.size, 0, none⟩) 0 (1 + 2 * n)) (W.alloc (.cells ((List.replicate (1 + 2 * n) (0 : Int)).map (Value.int .i64)).toArray 2)) := fun W => by
    have h := run_mk ty64 0 (1 + 2 * n) (Nat.zero_le _) (by simp [kb]; omega) W
    rwa [show ((1 + 2 * n : Nat) : Int) = 1 + 2 * (n : Int) by omega] at h
  have w1 : IntKind.i64.wrap (2 * (n : Int)) = 2 * (n : Int) := by rw [IntKind.wrap_i64]; omega
  have w2 : IntKind.i64.wrap (1 + 2 * (n : Int)) = 1 + 2 * (n : Int) := by rw [IntKind.wrap_i64]; omega
  have hown0 := own_made .i64 2 W1 (w.heap.size + 1) (by have := lt_of_heap HBX1.out; omega) 0 (1 + 2 * n) (Nat.zero_le _) (by omega)
  have hk2 : Fresh W1 (W1.alloc (.cells ((List.replicate (1 + 2 * n) (0 : Int)).map (Value.int .i64)).toArray 2)) := (Kept.refl _ W1).alloc _
  have HR2 : Hid (Rw w (W1.alloc (.cells ((List.replicate (1 + 2 * n) (0 : Int)).map (Value.int .i64)).toArray 2)) cs (.slice (some ⟨W1.heap.size, 0, none⟩) 0 (1 + 2 * n)) []) :=
    ⟨HF1.out.trans hk2 (fun _ _ e => e), hk2.at HBX1.out (fun e => e), hown0⟩
  clear hown0 hk2
  have hsz2 : (W1.alloc (.cells ((List.replicate (1 + 2 * n) (0 : Int)).map (Value.int .i64)).toArray 2)).heap.size = W1.heap.size + 1 := by rw [World.size_alloc]
  obtain ⟨g1, c1, W3, hr3, hR3, _⟩ := HR2.out.push rfl (RA 0) (Nat.zero_le _)
  rw [hsz2] at hr3
  have HR3 : Hid (Rw w W3 cs (.slice (some ⟨g1, 0, none⟩) (0 + 1) c1) (RL 0)) := by rw [HRZ.out]; exact hR3
  have c12' : (W1.alloc (.cells ((List.replicate (1 + 2 * n) (0 : Int)).map (Value.int .i64)).toArray 2)).cell? ⟨w.heap.size, 12, none⟩ = some (.slice bo n bc) := HR2.out.cell k12
  clear hR3 hsz2 HR2
  generalize (Obj.cells ((List.replicate (1 + 2 * n) (0 : Int)).map (Value.int .i64)).toArray 2) = Z at *
  rw [Nat.zero_add] at hr3 HR3
  go_upto_region 3 with (at_builtin; refine Lib.wpList_append_run _ rfl _ _ _ _ rfl _ _ rfl rfl _ _ hr3 ?_)
  have c12a := HR3.out.cell k12
  clear hr3 c12 c12' hmk w1 w2 HF1 HBX1 k12
  have HL1 : Hid ((RL 0).length = 1) := HLN.out 0
  go_wp2
  clear c12a
  go_loopw [3, 4, 25] (fun rv lv iv wr => ∃ j g c k : Nat, j ≤ n ∧ Hid (k = 1 + 2 * j) ∧ iv = zV j ∧ rv = zV (RA j) ∧ lv = .slice (some ⟨g, 0, none⟩) k c ∧ Hid ((RL j).length = k ∧ Rw w wr cs (.slice (some ⟨g, 0, none⟩) k c) (RL j))) (fun _ _ iv _ => n - (RowKit.intOf iv).toNat)
  case atStart => exact ⟨0, g1, c1, 1, Nat.zero_le _, rfl, rfl, rfl, rfl, HL1.out, HR3.out⟩
  case round =>
    obtain ⟨j, g, c, k, hj, HK, rfl, rfl, rfl, HA⟩ := hrel
    have hk100 : k ≤ 90 := by have := HK.out; omega
    by_cases hlt : j < n
    · have hlt' : (j : Int) < (n : Int) := by omega
      have h0j : (0 : Int) ≤ (j : Int) := by omega
      obtain ⟨_, hcp, b, off, rfl, HAT⟩ := HB.out (by omega)
      obtain ⟨C, hld, hbc⟩ := HAT HA.out.2.fr (fun _ _ e => e) j hlt
      obtain ⟨o1, o2, d1, d2, C4, C9, C13, C16, ro, rd⟩ := hbc.outs
      have HLD := show Hid _ from hld
      have HC := show Hid _ from hbc.size
      have HC1 := show Hid _ from hbc.one
      have HRO : Hid (∀ X, Kept (fun b => w.heap.size ≤ b) wr X → Calls Tryd.prog 63 #[.slice o1 (gBk L j).o.length d1, zV s.d, zV (gBk L j).os] X fun e w' => e = .returned (zV (MO j)) ∧ Fresh X w') := fun X hX => HMO.out j _ X _ (ro.kept hX (fun b hb e => by have hb' : b < w.heap.size := hb; have e' : w.heap.size ≤ b := e; omega))
      have HRD : Hid (∀ X, Kept (fun b => w.heap.size ≤ b) wr X → Calls Tryd.prog 63 #[.slice o2 (gBk L j).md.length d2, zV s.n, zV (gBk L j).ds] X fun e w' => e = .returned (zV (MD j)) ∧ Fresh X w') := fun X hX => HMD.out j _ X _ (rd.kept hX (fun b hb e => by have hb' : b < w.heap.size := hb; have e' : w.heap.size ≤ b := e; omega))
      obtain ⟨r1, r2⟩ := HRG.out j hj
      obtain ⟨⟨m1, m2⟩, m3, m4⟩ := HHF.out j hlt
      have HRN' := show Hid _ from HRN.out j
      have HRA' := show Hid _ from HRA.out j
      clear ro rd hld hbc HAT HB HRG HHF HRN HRA HMO HMD
      generalize (gBk L j).o.length = on at *
      generalize (gBk L j).md.length = dn at *
      generalize (gBk L j).os = os at *
      generalize (gBk L j).ds = ds at *
      generalize RA j = r at *
      generalize RL j = RJ at *
      generalize MO j = mo at *
      generalize MD j = md at *
      have hnew := heap_alloc_new wr (.cells (blkC nil8 nil8 nil8 nil8 nil8 nil8 0 0 0 0 0 nil8 nil8 nil8 0 0 0) 72)
      unfold blkC at hnew
      go_upto_region 6 with (first | (refine wpList_loadAt rfl _ _ rfl b (off + j * 17) rfl C HLD.out ?_) | (refine list_store rfl 72 _ _ rfl wr.heap.size _ _ 72 rfl rfl hnew HC.out.symm (by rw [HC.out]; exact blkSize) HC1.out ?_; intro V hV hkV))
      have hRV := HA.out.2.aside HA.out.1 _ hkV
      have hFV : Fresh wr V := newAt (Kept.refl _ wr) hkV
      have HV := show Hid _ from hV
      have v4 : V.cell? ⟨wr.heap.size, 4, none⟩ = some (.slice o1 on d1) := by rw [Lib.cell_of_heap hV]; exact C4
      have v9 : V.cell? ⟨wr.heap.size, 9, none⟩ = some (zV os) := by rw [Lib.cell_of_heap hV]; exact C9
      have v2 := hRV.cell k2
      have HRV := show Hid _ from hRV
      have HFV := show Hid _ from hFV
      have w1 : IntKind.i64.wrap (r + mo) = r + mo := by rw [IntKind.wrap_i64]; omega
      have w2 : IntKind.i64.wrap (r + mo + md) = r + mo + md := by rw [IntKind.wrap_i64]; omega
      clear hkV hV hnew HLD HC HC1 hRV hFV
      go_wp2_with fail
      refine Calls.mono (HRO.out V (HFV.out.mono (fun _ _ e => e.elim))) ?_
      rintro e X ⟨rfl, hf⟩
      have hRX := HRV.out.next hf
      have HX : Hid (Fresh wr X ∧ X.heap[wr.heap.size]? = some (.cells C 72 (0, 0))) := ⟨HFV.out.trans hf (fun _ _ e => e), hf.at HV.out (fun e => e)⟩
      clear hf HRO HRV HV HFV v4 v9 v2
      obtain ⟨g2, c2, Y, hrun, hRY, hkY, hg1, hg2⟩ := hRX.push HA.out.1 (r + mo) (by omega)
      have hgb : wr.heap.size ≠ g := by
        have h := HA.out.2.own
        have e := HA.out.1
        rw [e] at h
        have := (own_block h).2.1
        omega
      have hkY2 : Kept (fun b => w.heap.size ≤ b) wr Y := (HX.out.1.mono (S' := fun b => w.heap.size ≤ b) (fun _ _ e => e.elim)).trans (hkY.mono (S' := fun b => w.heap.size ≤ b) (fun b _ e => by have e' : b = g := e; show w.heap.size ≤ b; omega)) (fun _ _ e => e)
      have hYb : Y.heap[wr.heap.size]? = some (.cells C 72 (0, 0)) := hkY.at HX.out.2 hgb
      have HKY := show Hid _ from hkY2
      have HYB := show Hid _ from hYb
      have HRY := show Hid _ from hRY
      clear hRX HX hkY hgb hkY2 hYb hRY hg1 hg2
      go_upto_region 8 with (at_builtin; refine Lib.wpList_append_run _ rfl _ _ _ _ rfl _ _ rfl rfl _ _ hrun ?_)
      have v13 : Y.cell? ⟨wr.heap.size, 13, none⟩ = some (.slice o2 dn d2) := by rw [Lib.cell_of_heap HYB.out]; exact C13
      have v16 : Y.cell? ⟨wr.heap.size, 16, none⟩ = some (zV ds) := by rw [Lib.cell_of_heap HYB.out]; exact C16
      have v5 := HRY.out.cell k5
      clear hrun
      go_wp2_with fail
      refine Calls.mono (HRD.out Y HKY.out) ?_
      rintro e Z2 ⟨rfl, hf⟩
      have hRZ := HRY.out.next hf
      clear hf HRD HYB HKY v13 v16 v5
      have hlk : (RJ ++ [r + mo]).length = k + 1 := by rw [List.length_append, HA.out.1]; rfl
      obtain ⟨g3, c3, Z3, hrun, hR3, _⟩ := hRZ.push hlk (r + mo + md) (by omega)
      have HNX : Hid ((RL (j + 1)).length = k + 1 + 1 ∧ Rw w Z3 cs (.slice (some ⟨g3, 0, none⟩) (k + 1 + 1) c3) (RL (j + 1))) := by
        rw [HRN'.out]
        exact ⟨by rw [List.length_append, hlk]; rfl, hR3⟩
      have HK2 : Hid (k + 1 + 1 = 1 + 2 * (j + 1)) := by have h := HK.out; show k + 1 + 1 = 1 + 2 * (j + 1); omega
      clear hlk hR3 hRZ HRY HA
      go_wp2_with (at_builtin; refine Lib.wpList_append_run _ rfl _ _ _ _ rfl _ _ rfl rfl _ _ hrun ?_)
      go_roundw
      case rel => exact ⟨j + 1, g3, c3, k + 1 + 1, by omega, HK2, by go_num, by rw [HRA'.out], rfl, HNX.out⟩
      case measure => simp [RowKit.intOf]; omega
    · obtain rfl : j = n := by omega
      have hlt' : ¬ ((j : Int) < (j : Int)) := by omega
      have hk := HK.out
      subst hk
      have hown := HA.out.2.own
      rw [HA.out.1] at hown
      have HF : Hid (wr.ownsRow (w.heap.size + 1) 2 1 (.slice (some ⟨g, 0, none⟩) (1 + 2 * j) c) (1 + 2 * j) ((RL j).map (Value.int .i64)) ∧ Fresh w wr) := ⟨hown, HA.out.2.fr⟩
      clear hown HA HRF HLN HRZ HRA HRN HB HRG HHF HMO HMD HL1 HR3
      go_wp2
      go_ret
      exact ⟨g, c, rfl, HF.out.1, HF.out.2⟩
end Go.Proofs.YtakiimjldccgcabDoor

/-
  Is a model valid: as a function, and the walk.
-/
namespace Go.Proofs.YtakiimjldccgcabDoor
open Go.RowKit Go.Lib Go.Maps

theorem wbG_zero {l : Int} {A B D : Nat} : ∀ (L : List Bk) (i : Nat), (i : Int) ≤ l → (wbG l A B D i L).2 = 0 → (i : Int) + L.length = l
  | [], i, h, e => by
    have e' : (if (i : Int) < l then ((i : Int), (161 : Int)) else (0, 0)).2 = 0 := e
    by_cases hl : (i : Int) < l
    · rw [if_pos hl] at e'; cases e'
    · simp; omega
  | b :: r, i, h, e => by
    have e' : (if (i : Int) = l ∨ bkW b A B D = false then ((i : Int), (161 : Int)) else if bkS b = false then ((i : Int), 162) else wbG l A B D (i + 1) r).2 = 0 := e
    by_cases h1 : (i : Int) = l ∨ bkW b A B D = false
    · rw [if_pos h1] at e'; cases e'
    · rw [if_neg h1] at e'
      by_cases h2 : bkS b = false
      · rw [if_pos h2] at e'; cases e'
      · rw [if_neg h2] at e'
        have h3 : ¬ (i : Int) = l := fun e => h1 (.inl e)
        have := wbG_zero r (i + 1) (by omega) e'
        simp only [List.length_cons]
        omega
/-- What a model has whose parts all fit. -/
theorem wpF_zero {m : Md} (h : (wpF m).2.2 = 0) : shB m.s = true ∧ (0 ≤ m.es ∧ m.es ≤ 24) ∧ (m.L.length : Int) = m.s.l := by
  unfold wpF at h
  by_cases h1 : shE m.s ≠ 0
  · rw [if_pos h1] at h; exact absurd h h1
  rw [if_neg h1] at h
  have h1' : shE m.s = 0 := Decidable.of_not_not h1
  by_cases h2 : wvE m.s.v m.T m.M ≠ 0
  · rw [if_pos h2] at h; exact absurd h h2
  rw [if_neg h2] at h
  by_cases h3 : wwE m.E.length (szW m.s) m.es 24 ≠ 0
  · rw [if_pos h3] at h; exact absurd h h3
  rw [if_neg h3] at h
  by_cases h4 : (m.C.length : Int) ≠ szA m.s
  · rw [if_pos h4] at h; cases h
  rw [if_neg h4] at h
  by_cases h5 : (m.S.length : Int) ≠ szA m.s
  · rw [if_pos h5] at h; cases h
  rw [if_neg h5] at h
  by_cases h6 : (wbG m.s.l (szQ m.s) (szN m.s) (szD m.s) 0 m.L).2 ≠ 0
  · rw [if_pos h6] at h; exact absurd h h6
  have hb := shE_zero h1'
  refine ⟨hb, ?_, ?_⟩
  · have h3' : wwE m.E.length (szW m.s) m.es 24 = 0 := Decidable.of_not_not h3
    unfold wwE at h3'
    split at h3'
    · cases h3'
    · split at h3'
      · rename_i h7
        exact (wiB_iff _ _ _).1 h7
      · cases h3'
  · have := wbG_zero m.L 0 (by have := ((shB_iff m.s).1 hb).2.2.2.2.1; omega) (Decidable.of_not_not h6)
    omega
theorem MdC.mok {p : Nat → Prop} {W : World} {m : Md} {tv mv ev cv sv bv bev gv uv : Value} (h : MdC p W m tv mv ev cv sv bv bev gv uv) (hz : (wpF m).2.2 = 0) : Mok m := by
  obtain ⟨h1, h2, h3⟩ := wpF_zero hz
  have h4 := ((shB_iff m.s).1 h1).2.2.2.2.1
  obtain ⟨ao, cap, _, _, _, _, h5⟩ := h.b
  refine ⟨h.e.all, h2, by omega, fun i hi => ?_, fun i hi => ?_⟩
  · obtain ⟨b, off, _, _, _, hc⟩ := h5 (by omega)
    obtain ⟨cs, ⟨g1, q, k, v, o, g2, mg, mu, md, _, r1, r2, r3, r4, r5, r6, r7, r8, r9, _⟩, _⟩ := hc i hi
    exact r5.all
  · obtain ⟨b, off, _, _, _, hc⟩ := h5 (by omega)
    obtain ⟨cs, ⟨g1, q, k, v, o, g2, mg, mu, md, _, r1, r2, r3, r4, r5, r6, r7, r8, r9, _⟩, _⟩ := hc i hi
    exact r9.all
/-- The first reach that is too great, from the i-th on. -/
def tfF : Nat → List Int → Int × Int × Int
  | _, [] => (0, 0, 0)
  | i, z :: r => if 268435456 < z then (9, (i : Int), 163) else tfF (i + 1) r
theorem drop_get {L : List Int} {i : Nat} (h : i < L.length) : L.drop i = L.getD i 0 :: L.drop (i + 1) := by
  rw [List.drop_eq_getElem_cons h]
  congr 1
  simp [h]
theorem tfF_far {L : List Int} {i : Nat} (h : i < L.length) (hz : 268435456 < L.getD i 0) : tfF i (L.drop i) = (9, (i : Int), 163) := by
  rw [drop_get h]
  exact if_pos hz
theorem tfF_next {L : List Int} {i : Nat} (h : i < L.length) (hz : ¬ 268435456 < L.getD i 0) : tfF i (L.drop i) = tfF (i + 1) (L.drop (i + 1)) := by
  rw [drop_get h]
  exact if_neg hz
theorem tfF_end (L : List Int) : tfF L.length (L.drop L.length) = (0, 0, 0) := by rw [List.drop_length]; rfl
/-- Is a model valid: which part is wrong, at what number, and what is wrong. -/
def vdF (m : Md) : Int × Int × Int := if (wpF m).2.2 ≠ 0 then wpF m else tfF 0 (rL m m.L.length)
end Go.Proofs.YtakiimjldccgcabDoor

/-
  Is a model valid: the walk.
-/
namespace Go.Proofs.YtakiimjldccgcabDoor
open Go.RowKit Go.Lib Go.Maps

set_option maxHeartbeats 4000000 in
set_option maxRecDepth 100000 in
theorem Valid_any {p : Nat → Prop} (m : Md) (tv mv ev cv sv bv bev gv uv : Value) (w : World) (hm : MdC p w m tv mv ev cv sv bv bev gv uv) :
    Calls Tryd.prog 18 #[.agg (mdlC m.s tv mv ev m.es cv sv bv bev gv uv m.ls)] w fun e w' => e = .returned (.tuple #[.agg #[zV (vdF m).1, zV (vdF m).2.1], zV (vdF m).2.2]) ∧ Fresh w w' := by
  have HWP : Hid (∀ X, Fresh w X → _) := fun X hX => wrongPart_any m tv mv ev cv sv bv bev gv uv X (hm.fresh hX)
  have HRO : Hid ((wpF m).2.2 = 0 → ∀ X, Fresh w X → Calls Tryd.prog 40 #[.agg (mdlC m.s tv mv ev m.es cv sv bv bev gv uv m.ls)] X fun e w' => ∃ g c, e = .returned (.slice (some ⟨g, 0, none⟩) (1 + 2 * m.L.length) c) ∧ w'.ownsRow (X.heap.size + 1) 2 1 (.slice (some ⟨g, 0, none⟩) (1 + 2 * m.L.length) c) (1 + 2 * m.L.length) ((rL m m.L.length).map (Value.int .i64)) ∧ Fresh X w') := fun h X hX => reachesOf_any m tv mv ev cv sv bv bev gv uv X (hm.fresh hX) (hm.mok h)
  have HL8 : Hid ((wpF m).2.2 = 0 → m.L.length ≤ 8) := fun h => (hm.mok h).l
  have HW0 := show Hid _ from Wp.start w (mdlC m.s tv mv ev m.es cv sv bv bev gv uv m.ls)
  have HLN := show Hid _ from rL_len m m.L.length
  obtain ⟨R, HR⟩ : ∃ R, vdF m = R := ⟨_, rfl⟩
  rw [HR]
  replace HR := HR.symm
  unfold vdF at HR
  have HRH := show Hid _ from HR
  clear HR hm
  have HK : Hid ((mdlC m.s tv mv ev m.es cv sv bv bev gv uv m.ls).size = 17) := rfl
  generalize mdlC m.s tv mv ev m.es cv sv bv bev gv uv m.ls = cs at *
  generalize rL m m.L.length = RL at *
  generalize wpF m = WP at *
  obtain ⟨n, hn⟩ : ∃ n, m.L.length = n := ⟨_, rfl⟩
  rw [hn] at HRO HL8 HLN
  clear hn
  obtain ⟨k, hk⟩ : ∃ k, 1 + 2 * n = k := ⟨_, rfl⟩
  have HKN : Hid (1 + 2 * n = k) := hk
  rw [hk] at HRO HLN
  clear hk
  obtain ⟨wa, wb, wc⟩ := WP
  simp only at HWP HRO HL8 HRH
  go_enter Tryd.func18, Tryd.ntmps18
  go_upto_region 1 with fail
  generalize (w.alloc (.cells cs 48)).alloc (.cells #[zV 0, zV 0] 64) = W0 at *
  go_wp2_with (refine wpList_loadAt rfl 48 _ rfl w.heap.size 0 rfl cs (HW0.out.all HK.out) ?_)
  refine Calls.mono (HWP.out _ HW0.out.fr) ?_
  rintro e X ⟨rfl, hf⟩
  have HX : Hid (Wp w X cs) := HW0.out.next hf
  clear hf HWP HW0
  go_upto_region 2 with fail
  have HX3 : Hid (Wp w (X.alloc (.cells #[zV wa, zV wb] 64)) cs ∧ (X.alloc (.cells #[zV wa, zV wb] 64)).heap[X.heap.size]? = some (.cells #[zV wa, zV wb] 64 (0, 0))) := ⟨HX.out.next ((Kept.refl _ X).alloc _), heap_alloc_new X _⟩
  generalize hq2 : X.heap.size = q2 at *
  generalize X.alloc (.cells #[zV wa, zV wb] 64) = W3 at *
  clear hq2
  by_cases hE : wc = 0
  case neg =>
    have hne : (wc != 0) = true := bne_iff_ne.2 hE
    have HRR : Hid (R = (wa, wb, wc)) := wp_yes HRH.out hE
    have y0 : W3.cell? ⟨q2, 0, none⟩ = some (zV wa) := by rw [Lib.cell_of_heap HX3.out.2]; rfl
    have y1 : W3.cell? ⟨q2, 1, none⟩ = some (zV wb) := by rw [Lib.cell_of_heap HX3.out.2]; rfl
    clear hE HRH HRO
    have z0 := HX3.out.1.r0
    have z1 := HX3.out.1.r1
    have zf := fun k => HX3.out.1.fz k
    go_wp2
    refine ret_ct rfl (w.heap.size + 1) _ _ _ _ rfl (HX3.out.1.ret _ _).1 rfl rfl whSize rfl ?_
    refine ⟨?_, (HX3.out.1.ret _ _).2⟩
    rw [HRR.out]
    rfl
  have hne : (wc != 0) = false := by rw [hE]; rfl
  replace HRH := show Hid (R = _) from wp_no HRH.out hE
  have HRX := show Hid _ from HRO.out hE
  have hn8 := HL8.out hE
  clear hE HRO HL8
  go_upto_region 4 with fail
  go_wp2_with (refine wpList_loadAt rfl 48 _ rfl w.heap.size 0 rfl cs (HX3.out.1.all HK.out) ?_)
  refine Calls.mono (HRX.out _ HX3.out.1.fr) ?_
  rintro e X4 ⟨g, c, rfl, hown, hf⟩
  have HX4 : Hid (Wp w X4 cs) := HX3.out.1.next hf
  have HKB : Hid (k ≤ 17) := by have := HKN.out; show k ≤ 17; omega
  have hkc := (own_block hown).2.2
  have HC : Hid (∀ i, i < k → X4.cell? ⟨g, i, none⟩ = some (.int .i64 (RL.getD i 0))) := fun i hi => own_get hown i hi
  have hk17 := HKB.out
  have HS0 : Hid (R = tfF 0 (RL.drop 0)) := by show _ = _; rw [List.drop_zero]; exact HRH.out
  have HEN : Hid (tfF k (RL.drop k) = (0, 0, 0)) := by
    have h := tfF_end RL
    rw [HLN.out] at h
    exact h
  clear hown hf HX HX3 HRX hne HRH
  go_wp2
  go_loopw [20] (fun iv wr => ∃ j : Nat, j ≤ k ∧ iv = zV j ∧ Hid (wr = X4 ∧ R = tfF j (RL.drop j))) (fun iv _ => k - (RowKit.intOf iv).toNat)
  case atStart => exact ⟨0, Nat.zero_le _, rfl, rfl, HS0.out⟩
  case round =>
    obtain ⟨j, hj, rfl, HA⟩ := hrel
    obtain ⟨rfl, hA⟩ := HA.out
    clear HA
    by_cases hlt : j < k
    · have hlt' : (j : Int) < (k : Int) := by omega
      have h0j : (0 : Int) ≤ (j : Int) := by omega
      have hc := HC.out j hlt
      have HFA : Hid (268435456 < RL.getD j 0 → R = (9, (j : Int), 163)) := fun h => hA.trans (tfF_far (by rw [HLN.out]; exact hlt) h)
      have HNX : Hid (¬ 268435456 < RL.getD j 0 → R = tfF (j + 1) (RL.drop (j + 1))) := fun h => hA.trans (tfF_next (by rw [HLN.out]; exact hlt) h)
      generalize RL.getD j 0 = z at *
      clear hA HEN HS0 HC
      by_cases hz : 268435456 < z
      · have HRR : Hid (R = (9, (j : Int), 163)) := HFA.out hz
        have z0 := HX4.out.r0
        have z1 := HX4.out.r1
        have zf := fun k => HX4.out.fz k
        clear HFA HNX
        go_wp2
        refine ret_ct rfl (w.heap.size + 1) _ _ _ _ rfl (HX4.out.ret _ _).1 rfl rfl whSize rfl ?_
        refine ⟨?_, (HX4.out.ret _ _).2⟩
        rw [HRR.out]
        rfl
      · have HRN : Hid (R = tfF (j + 1) (RL.drop (j + 1))) := HNX.out hz
        clear HFA HNX
        go_wp2
        go_roundw
        case rel => exact ⟨j + 1, hlt, by go_num, trivial, HRN.out⟩
        case measure => simp [RowKit.intOf]; omega
    · obtain rfl : j = k := by omega
      have hlt' : ¬ ((j : Int) < (j : Int)) := by omega
      have HRR : Hid (R = (0, 0, 0)) := hA.trans HEN.out
      have z0 := HX4.out.r0
      have z1 := HX4.out.r1
      have zf := fun k => HX4.out.fz k
      clear hA HEN HS0 HC HLN
      go_wp2
      refine ret_ct rfl (w.heap.size + 1) _ _ _ _ rfl (HX4.out.ret _ _).1 rfl rfl whSize rfl ?_
      refine ⟨?_, (HX4.out.ret _ _).2⟩
      rw [HRR.out]
      rfl
end Go.Proofs.YtakiimjldccgcabDoor
