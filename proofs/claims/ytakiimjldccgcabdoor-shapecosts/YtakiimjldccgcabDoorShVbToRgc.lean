/-
  A sample of a shape: its blocks, one behind the other.
-/
import Derived.Test.YtakiimjldccgcabDoorAcNToShV
import Derived.Test.YtakiimjldccgcabDoorShKwToShKy
import Derived.Test.YtakiimjldccgcabDoorVcNToFrQ
import Derived.Lib.AppendZeros
import Derived.Test.YtakiimjldccgcabDoorShBToRgt
namespace Go.Proofs.YtakiimjldccgcabDoor
open Go.RowKit Go.Lib Go.Maps

theorem rk_lowp {k : IntKind} {p : Nat → Prop} {W : World} {v : Value} {zs : List Int} (h : Rk k p W v zs) : Rk k (fun b => p b ∧ b < W.heap.size) W v zs := by
  obtain ⟨ao, cap, hv, hl, hc, hz⟩ := h
  exact ⟨ao, cap, hv, hl, fun h0 => let ⟨b, off, ha, hp, hb, r⟩ := hc h0; ⟨b, off, ha, ⟨hp, hb⟩, hb, r⟩, hz⟩
theorem tx_lowp {p : Nat → Prop} {W : World} {v : Value} {T : List (List UInt8)} (h : TxR p W v T) : TxR (fun b => p b ∧ b < W.heap.size) W v T := by
  obtain ⟨ao, cap, h1, h2, h3, h4, h6, h5⟩ := h
  exact ⟨ao, cap, h1, h2, h3, h4, h6, fun h0 => let ⟨b, off, ha, hp, hb, hc⟩ := h5 h0; ⟨b, off, ha, ⟨hp, hb⟩, hb, hc⟩⟩
theorem mg_lowp {p : Nat → Prop} {W : World} {v : Value} {M : List Mg} (h : MgR p W v M) : MgR (fun b => p b ∧ b < W.heap.size) W v M := by
  obtain ⟨ao, cap, h1, h2, h3, h4, h5⟩ := h
  exact ⟨ao, cap, h1, h2, h3, h4, fun h0 => let ⟨b, off, ha, hp, hb, hc⟩ := h5 h0; ⟨b, off, ha, ⟨hp, hb⟩, hb, hc⟩⟩
theorem BkC.mono {p q : Nat → Prop} {W : World} {C : Array Value} {B : Bk} (h : BkC p W C B) (hpq : ∀ b, p b → q b) : BkC q W C B := by
  obtain ⟨g1, q1, k, v, o, g2, mg, mu, md, h0, h1, h2, h3, h4, h5, h6, h7, h8, h9, h10⟩ := h
  exact ⟨g1, q1, k, v, o, g2, mg, mu, md, h0, h1.mono hpq, h2.mono hpq, h3.mono hpq, h4.mono hpq, h5.mono hpq, h6.mono hpq, h7.mono hpq, h8.mono hpq, h9.mono hpq, h10⟩
theorem BkC.lowp {p : Nat → Prop} {W : World} {C : Array Value} {B : Bk} (h : BkC p W C B) : BkC (fun b => p b ∧ b < W.heap.size) W C B := by
  obtain ⟨g1, q1, k, v, o, g2, mg, mu, md, h0, h1, h2, h3, h4, h5, h6, h7, h8, h9, h10⟩ := h
  exact ⟨g1, q1, k, v, o, g2, mg, mu, md, h0, rk_lowp h1, rk_lowp h2, rk_lowp h3, rk_lowp h4, rk_lowp h5, rk_lowp h6, rk_lowp h7, rk_lowp h8, rk_lowp h9, h10⟩
/-- A model's rows without its blocks. -/
structure MdS (p : Nat → Prop) (W : World) (m : Md) (tv mv ev cv sv bev gv uv : Value) : Prop where
  tx : TxR p W tv m.T
  mg : MgR p W mv m.M
  e : Rk .i8 p W ev m.E
  c : Rk .i8 p W cv m.C
  s : Rk .i8 p W sv m.S
  be : Rk .i8 p W bev m.B
  g : Rk .i8 p W gv m.G
  u : Rk .i8 p W uv m.U
theorem MdS.kept {p S : Nat → Prop} {W X : World} {m : Md} {tv mv ev cv sv bev gv uv : Value} (h : MdS p W m tv mv ev cv sv bev gv uv) (hk : Kept S W X) (hn : ∀ b, p b → ¬ S b) : MdS p X m tv mv ev cv sv bev gv uv :=
  ⟨h.tx.kept hk hn, h.mg.kept hk hn, h.e.kept hk hn, h.c.kept hk hn, h.s.kept hk hn, h.be.kept hk hn, h.g.kept hk hn, h.u.kept hk hn⟩
theorem MdS.fresh {p : Nat → Prop} {W X : World} {m : Md} {tv mv ev cv sv bev gv uv : Value} (h : MdS p W m tv mv ev cv sv bev gv uv) (hk : Fresh W X) : MdS p X m tv mv ev cv sv bev gv uv := h.kept hk (fun _ _ e => e)
theorem MdS.mono {p q : Nat → Prop} {W : World} {m : Md} {tv mv ev cv sv bev gv uv : Value} (h : MdS p W m tv mv ev cv sv bev gv uv) (hpq : ∀ b, p b → q b) : MdS q W m tv mv ev cv sv bev gv uv :=
  ⟨h.tx.mono hpq, h.mg.mono hpq, h.e.mono hpq, h.c.mono hpq, h.s.mono hpq, h.be.mono hpq, h.g.mono hpq, h.u.mono hpq⟩
theorem MdS.lowp {p : Nat → Prop} {W : World} {m : Md} {tv mv ev cv sv bev gv uv : Value} (h : MdS p W m tv mv ev cv sv bev gv uv) : MdS (fun b => p b ∧ b < W.heap.size) W m tv mv ev cv sv bev gv uv :=
  ⟨tx_lowp h.tx, mg_lowp h.mg, rk_lowp h.e, rk_lowp h.c, rk_lowp h.s, rk_lowp h.be, rk_lowp h.g, rk_lowp h.u⟩
/-- Where the rows of a model that is being made lie. -/
def Zn (lo q9 : Nat) (lv : Value) (b : Nat) : Prop := lo ≤ b ∧ b ≠ q9 ∧ lv.ownBlock ≠ some b
/-- A model that is being made, with its first blocks. -/
structure SaL (w X : World) (SV SZ : Array Value) (q7 q8 q9 lo : Nat) (m : Md) (tv mv ev cv sv bev gv uv : Value) (st : Nat) (blf : Nat → Bk) (j : Nat) (lv : Value) : Prop where
  sa : Sa w X SV SZ q7 q8 st
  md : X.heap[q9]? = some (.cells (mdlC m.s tv mv ev m.es cv sv lv bev gv uv m.ls) 48 (0, 0))
  rows : MdS (Zn lo q9 lv) X m tv mv ev cv sv bev gv uv
  own : ∃ Cs, (∀ i, (Cs i).size = 17) ∧ X.ownsRow lo 72 17 lv j (flB Cs j) ∧ ∀ i, i < j → BkC (Zn lo q9 lv) X (Cs i) (blf i)
  nq : lv.ownBlock ≠ some q9
theorem own_blk {X : World} {lo n : Nat} {lv : Value} {F : List Value} {e : TypeId} {z : Nat} (h : X.ownsRow lo e z lv n F) : (∀ b, lv.ownBlock = some b → lo ≤ b ∧ b < X.heap.size) ∧ ∃ ao c, lv = .slice ao n c := by
  rcases h.2 with ⟨rfl, h0⟩ | ⟨g, cap, cur, rfl, hb2, hg, _⟩
  · exact ⟨fun b hb => by simp [Value.ownBlock] at hb, none, 0, by rw [h0]⟩
  · refine ⟨fun b hb => ?_, some ⟨g, 0, none⟩, cap, rfl⟩
    have e : g = b := by simpa [Value.ownBlock] using hb
    subst e
    exact ⟨hb2, lt_of_heap hg⟩
theorem SaL.zero {w X : World} {SV SZ : Array Value} {q7 q8 q9 lo : Nat} {m : Md} {tv mv ev cv sv bev gv uv : Value} {st : Nat} {blf : Nat → Bk} (h1 : Sa w X SV SZ q7 q8 st) (h2 : X.heap[q9]? = some (.cells (mdlC m.s tv mv ev m.es cv sv nil8 bev gv uv m.ls) 48 (0, 0))) (h3 : MdS (Zn lo q9 nil8) X m tv mv ev cv sv bev gv uv) : SaL w X SV SZ q7 q8 q9 lo m tv mv ev cv sv bev gv uv st blf 0 nil8 :=
  ⟨h1, h2, h3, ⟨fun _ => blkC nil8 nil8 nil8 nil8 nil8 nil8 0 0 0 0 0 nil8 nil8 nil8 0 0 0, fun _ => rfl, ⟨rfl, .inl ⟨rfl, rfl⟩⟩, fun i hi => absurd hi (Nat.not_lt_zero _)⟩, by simp [Value.ownBlock]⟩
/-- What holds is kept by all that touches none of it. -/
theorem SaL.next {w X Y : World} {SV SZ : Array Value} {q7 q8 q9 lo : Nat} {m : Md} {tv mv ev cv sv bev gv uv : Value} {st : Nat} {blf : Nat → Bk} {j : Nat} {lv : Value} (h : SaL w X SV SZ q7 q8 q9 lo m tv mv ev cv sv bev gv uv st blf j lv) (hk : Fresh X Y) : SaL w Y SV SZ q7 q8 q9 lo m tv mv ev cv sv bev gv uv st blf j lv := by
  obtain ⟨Cs, c1, c2, c3⟩ := h.own
  exact ⟨h.sa.next hk, hk.at h.md (fun e => e), h.rows.fresh hk, ⟨Cs, c1, owns_kept c2 hk (fun _ _ e => e), fun i hi => (c3 i hi).kept hk (fun _ _ e => e)⟩, h.nq⟩
theorem SaL.gen {w X Y : World} {SV SZ : Array Value} {q7 q8 q9 lo : Nat} {m : Md} {tv mv ev cv sv bev gv uv : Value} {st st' : Nat} {blf : Nat → Bk} {j : Nat} {lv : Value} (h : SaL w X SV SZ q7 q8 q9 lo m tv mv ev cv sv bev gv uv st blf j lv) (hlo : q8 < lo ∧ lo ≤ q9) (hk : Kept (fun b => b = q8) X Y) (hg : GnAt Y q8 st') : SaL w Y SV SZ q7 q8 q9 lo m tv mv ev cv sv bev gv uv st' blf j lv := by
  obtain ⟨Cs, c1, c2, c3⟩ := h.own
  have hn : ∀ b, Zn lo q9 lv b → ¬ b = q8 := fun b ⟨z1, _, _⟩ e => by omega
  exact ⟨h.sa.gen hk hg, hk.at h.md (fun e => by have e' : q9 = q8 := e; omega), h.rows.kept hk hn, ⟨Cs, c1, owns_kept c2 hk (fun q hq e => by
    have e' : q = q8 := e
    have := ((own_blk c2).1 q hq).1
    omega), fun i hi => (c3 i hi).kept hk hn⟩, h.nq⟩
theorem SaL.sets {w X : World} {SV SZ : Array Value} {q7 q8 q9 lo : Nat} {m : Md} {tv mv ev cv sv bev gv uv : Value} {st : Nat} {blf : Nat → Bk} {j : Nat} {lv : Value} (h : SaL w X SV SZ q7 q8 q9 lo m tv mv ev cv sv bev gv uv st blf j lv) (hlo : w.heap.size + 1 < q9 ∧ q7 < q9 ∧ q8 < q9) {Z : World} (hk : Kept (fun b => b = q9) X Z) {m' : Md} {tv' mv' ev' cv' sv' bev' gv' uv' : Value} (hmd : Z.heap[q9]? = some (.cells (mdlC m'.s tv' mv' ev' m'.es cv' sv' lv bev' gv' uv' m'.ls) 48 (0, 0)))
    (hr : MdS (Zn lo q9 lv) Z m' tv' mv' ev' cv' sv' bev' gv' uv') : SaL w Z SV SZ q7 q8 q9 lo m' tv' mv' ev' cv' sv' bev' gv' uv' st blf j lv := by
  obtain ⟨Cs, c1, c2, c3⟩ := h.own
  have hn : ∀ b, Zn lo q9 lv b → ¬ b = q9 := fun b ⟨_, z2, _⟩ e => z2 e
  exact ⟨h.sa.kept hk (fun b e => by have e' : b = q9 := e; omega), hmd, hr, ⟨Cs, c1, owns_kept c2 hk (fun q hq e => by
    have e' : q = q9 := e
    subst e'
    exact h.nq hq), fun i hi => (c3 i hi).kept hk hn⟩, h.nq⟩
/-- The rows, at the world behind a store into the model. -/
theorem SaL.rk9 {w X Z : World} {SV SZ : Array Value} {q7 q8 q9 lo : Nat} {m : Md} {tv mv ev cv sv bev gv uv : Value} {st : Nat} {blf : Nat → Bk} {j : Nat} {lv : Value} (h : SaL w X SV SZ q7 q8 q9 lo m tv mv ev cv sv bev gv uv st blf j lv) (hk : Kept (fun b => b = q9) X Z) : MdS (Zn lo q9 lv) Z m tv mv ev cv sv bev gv uv :=
  h.rows.kept hk (fun _ z e => z.2.1 e)
theorem flB_congr {C D : Nat → Array Value} : ∀ j, (∀ i, i < j → C i = D i) → flB C j = flB D j
  | 0, _ => rfl
  | j + 1, h => by
    show flB C j ++ (C j).toList = flB D j ++ (D j).toList
    rw [flB_congr j (fun i hi => h i (by omega)), h j (by omega)]
/-- The first n of some blocks. -/
def mkB (n : Nat) (f : Nat → Bk) : List Bk := (List.range n).map f
theorem mkB_len (n : Nat) (f : Nat → Bk) : (mkB n f).length = n := by simp [mkB]
theorem mkB_get {n i : Nat} (f : Nat → Bk) (h : i < n) : gBk (mkB n f) i = f i := by simp [gBk, mkB, h]
/-- The model is made: behind the store into the answer. -/
theorem SaL.done {w X Y : World} {SV SZ : Array Value} {q7 q8 q9 lo : Nat} {m : Md} {tv mv ev cv sv bev gv uv : Value} {st : Nat} {blf : Nat → Bk} {n : Nat} {lv : Value} (h : SaL w X SV SZ q7 q8 q9 lo m tv mv ev cv sv bev gv uv st blf n lv)
    (hlo : w.heap.size + 1 < lo) (hn : n ≤ 8) (hk : Kept (fun b => b = w.heap.size + 1) X Y) (so : m.s.Ok) (eo : I64 m.es) (l64 : I64 m.ls) : MdC (fun b => w.heap.size ≤ b) Y { m with L := mkB n blf } tv mv ev cv sv lv bev gv uv ∧ Fresh w Y := by
  obtain ⟨Cs, c1, c2, c3⟩ := h.own
  have hz : ∀ b, Zn lo q9 lv b → ¬ b = w.heap.size + 1 := fun b z e => by have := z.1; omega
  have hr := h.rows.kept hk hz
  have hp : ∀ b, Zn lo q9 lv b → w.heap.size ≤ b := fun b z => by have := z.1; omega
  have hr2 := hr.mono hp
  have hb : BkR (fun b => w.heap.size ≤ b) Y lv (mkB n blf) := by
    refine bkr_of_own c1 (by rw [mkB_len]; exact owns_kept c2 hk (fun q hq e => by
      have := ((own_blk c2).1 q hq).1
      have e' : q = w.heap.size + 1 := e
      omega)) (fun b hb => by have := ((own_blk c2).1 b hb).1; omega) (fun i hi => ?_) (by rw [mkB_len]; omega)
    rw [mkB_len] at hi
    rw [mkB_get blf hi]
    exact ((c3 i hi).kept hk hz).mono hp
  exact ⟨⟨hr2.tx, hr2.mg, hr2.e, hr2.c, hr2.s, hb, hr2.be, hr2.g, hr2.u, so, eo, l64⟩, h.sa.fr.trans hk (fun i hi e => by have e' : i = w.heap.size + 1 := e; omega)⟩
theorem fold17 {K : Array Value} (h : K.size = 17) (z0 z1 z2 z3 z4 z5 z6 z7 z8 z9 z10 z11 z12 z13 z14 z15 z16 : Value) : Array.foldl (fun cs (x : Value × Nat) => cs.setIfInBounds x.snd x.fst) #[z0, z1, z2, z3, z4, z5, z6, z7, z8, z9, z10, z11, z12, z13, z14, z15, z16] (K.zipIdx 0) 0 17 = K := by
  obtain ⟨l⟩ := K
  match l, h with
  | [a0, a1, a2, a3, a4, a5, a6, a7, a8, a9, a10, a11, a12, a13, a14, a15, a16], _ => simp
/-- One block more. -/
theorem SaL.step {w X Y : World} {SV SZ : Array Value} {q7 q8 q9 lo : Nat} {m : Md} {tv mv ev cv sv bev gv uv : Value} {st st' : Nat} {blf : Nat → Bk} {j : Nat} {lv : Value} (h : SaL w X SV SZ q7 q8 q9 lo m tv mv ev cv sv bev gv uv st blf j lv)
    (hlo : w.heap.size + 1 < lo ∧ q7 < lo ∧ q8 < lo ∧ lo ≤ q9) (hk : Kept (fun b => b = q8) X Y) (hg : GnAt Y q8 st') {C : Array Value} (hC : BkC (fun b => X.heap.size ≤ b) Y C (blf j)) (hj : j ≤ 100) :
    ∃ v' Z, (Builtin.append_ #[46, 46] 46 #[lv, .slice (some ⟨Y.heap.size, 0, none⟩) 1 1]).run Tryd.prog (Y.alloc (.cells C 72)) = .ok v' Z ∧ (∃ ao c, v' = .slice ao (j + 1) c) ∧
      Z.cell? ⟨q9, 12, none⟩ = some lv ∧ (∀ k, Z.frozen? ⟨q9, k, none⟩ = false) ∧ Kept (fun b => b = q8 ∨ lv.ownBlock = some b) X Z ∧
      SaL w (Z.setCell ⟨q9, 12, none⟩ v') SV SZ q7 q8 q9 lo m tv mv ev cv sv bev gv uv st' blf (j + 1) v' := by
  obtain ⟨l1, l2, l3, l4⟩ := hlo
  obtain ⟨Cs, c1, c2, c3⟩ := h.own
  obtain ⟨o1, _⟩ := own_blk c2
  have hnq := h.nq
  have h9 := lt_of_heap h.md
  have hsz := hk.size
  have c2Y := owns_kept c2 hk (fun q hq e => by
    have e' : q = q8 := e
    have := (o1 q hq).1
    omega)
  obtain ⟨v', Z, hrun, ho, hkZ, hv⟩ := pushK Y lo lv (flB Cs j) j C hC.size hC.one c2Y (by omega) (by omega)
  have mdZ := hkZ.at (hk.at h.md (fun e => by have e' : q9 = q8 := e; omega)) hnq
  have saZ := (h.sa.gen hk hg).kept hkZ (fun b e => by
    have := o1 b e
    omega)
  have kz : Kept (fun b => b = q9) Z (Z.setCell ⟨q9, 12, none⟩ v') := (Kept.refl (fun b => b = q9) Z).setCell (p := ⟨q9, 12, none⟩) (fun _ => rfl) v'
  have hv9 : v'.ownBlock ≠ some q9 := fun e => by
    rcases hv q9 e with e2 | e2
    · exact hnq e2
    · omega
  have hkXZ : Kept (fun b => b = q8 ∨ lv.ownBlock = some b) X Z := (hk.mono (S' := fun b => b = q8 ∨ lv.ownBlock = some b) (fun _ _ e => .inl e)).trans (hkZ.mono (S' := fun b => b = q8 ∨ lv.ownBlock = some b) (fun _ _ e => .inr e)) (fun _ _ e => e)
  have hkAll : Kept (fun b => b = q8 ∨ lv.ownBlock = some b ∨ b = q9) X (Z.setCell ⟨q9, 12, none⟩ v') := (hkXZ.mono (S' := fun b => b = q8 ∨ lv.ownBlock = some b ∨ b = q9) (fun _ _ e => e.elim .inl (fun e => .inr (.inl e)))).trans (kz.mono (S' := fun b => b = q8 ∨ lv.ownBlock = some b ∨ b = q9) (fun _ _ e => .inr (.inr e))) (fun _ _ e => e)
  have hn : ∀ b, (Zn lo q9 lv b ∧ b < X.heap.size) → ¬ (b = q8 ∨ lv.ownBlock = some b ∨ b = q9) := fun b ⟨⟨z1, z2, z3⟩, _⟩ e => by
    rcases e with e | e | e
    · omega
    · exact z3 e
    · exact z2 e
  have hp : ∀ b, (Zn lo q9 lv b ∧ b < X.heap.size) → Zn lo q9 v' b := fun b ⟨⟨z1, z2, z3⟩, z4⟩ => ⟨z1, z2, fun e => by
    rcases hv b e with e2 | e2
    · exact z3 e2
    · omega⟩
  have hC' : BkC (Zn lo q9 v') (Z.setCell ⟨q9, 12, none⟩ v') C (blf j) := by
    have k2 : Kept (fun b => lv.ownBlock = some b ∨ b = q9) Y (Z.setCell ⟨q9, 12, none⟩ v') := (hkZ.mono (S' := fun b => lv.ownBlock = some b ∨ b = q9) (fun _ _ e => .inl e)).trans (kz.mono (S' := fun b => lv.ownBlock = some b ∨ b = q9) (fun _ _ e => .inr e)) (fun _ _ e => e)
    refine (hC.lowp.kept k2 (fun b hb e => ?_)).mono (fun b hb => ?_)
    · have hb1 : X.heap.size ≤ b := hb.1
      rcases e with e | e
      · have := (o1 b e).2
        omega
      · omega
    · have hb1 : X.heap.size ≤ b := hb.1
      have hb2 : b < Y.heap.size := hb.2
      refine ⟨by omega, by omega, fun e => ?_⟩
      rcases hv b e with e2 | e2
      · have := (o1 b e2).2
        omega
      · omega
  refine ⟨v', Z, hrun, (own_blk ho).2, by rw [Lib.cell_of_heap mdZ]; rfl, fun k => Lib.frozen_of_heap mdZ k, hkXZ, saZ.kept kz (fun b e => by
    have e' : b = q9 := e
    omega), mdl_setL mdZ v', (h.rows.lowp.kept hkAll hn).mono hp, ⟨fun i => if i = j then C else Cs i, fun i => ?_, ?_, fun i hi => ?_⟩, hv9⟩
  · show (if i = j then C else Cs i).size = 17
    split
    · exact hC.size
    · exact c1 i
  · have e : flB (fun i => if i = j then C else Cs i) (j + 1) = flB Cs j ++ C.toList := by
      show flB (fun i => if i = j then C else Cs i) j ++ (if j = j then C else Cs j).toList = _
      rw [if_pos rfl, flB_congr j (fun i hi => if_neg (by omega))]
    rw [e]
    exact owns_kept ho kz (fun q hq e => by
      have e' : q = q9 := e
      subst e'
      exact hv9 hq)
  · show BkC _ _ (if i = j then C else Cs i) (blf i)
    by_cases e : i = j
    · rw [if_pos e, e]
      exact hC'
    · rw [if_neg e]
      exact ((c3 i (by omega)).lowp.kept hkAll hn).mono hp
end Go.Proofs.YtakiimjldccgcabDoor

/-
  An append in a region, by its run.
-/
namespace Go.Proofs.YtakiimjldccgcabDoor
open Go.RowKit Go.Lib Go.Maps

theorem step_append_run {P : Program} {ops : Array Oper} {o : Oper} {a : Act} {w : World} {K : Act → World → Prop} {Q : Exit → Act → World → Prop} {E : Prop} (hgd : o.guard = none) (s x : Operand) (t tn : TypeId)
    (ho : o.op = .call { callee := .builtin .append, args := #[s, x], argTypes := #[t, tn] }) (vs vx : Value) (hs : a.eval s = vs) (hx : a.eval x = vx)
    (v' : Value) (w' : World) (hr : (Builtin.append_ #[t, tn] o.type #[vs, vx]).run P w = .ok v' w') (h : K (a.put o.dst v') w') :
    if Region.wanted o (yielded ops a.tmps) = true then Oper.wp P o a w K Q else E := by
  have hw : Region.wanted o (yielded ops a.tmps) = true := by simp [Region.wanted, hgd]
  rw [if_pos hw]
  exact wp_append_run w s x t tn ho vs vx hs hx v' w' hr h
end Go.Proofs.YtakiimjldccgcabDoor

/-
  A drawn region whose last operations each wait for all ahead of them: its beginning, then these.
-/
namespace Go.Proofs.YtakiimjldccgcabDoor
open Go.RowKit

section
variable {P : Program} {l : List Oper} {k : Nat} {Q : Exit → Act → World → Prop}
/-- What is to hold behind the beginning: the last ones go through. -/
def Qcut (P : Program) (l : List Oper) (k : Nat) (Q : Exit → Act → World → Prop) : Exit → Act → World → Prop
  | .normal, a, w => wpTail P l.toArray Q (l.drop k) a w
  | e, a, w => Q e a w
theorem oper_cut {o : Oper} {a : Act} {w : World} {K K' : Act → World → Prop} (h : ∀ a w, K a w → K' a w) (hh : o.wp P a w K (Qcut P l k Q)) : o.wp P a w K' Q := by
  unfold Oper.wp at *
  generalize (execOp a.eval o).run P w = r at *
  cases r with
  | ok n w' =>
    cases n <;> simp only [Oper.upon] at hh ⊢ <;>
      first
        | exact h _ _ hh
        | exact Calls.mono hh (fun e w'' he => by cases e <;> first | exact h _ _ he | exact he)
        | exact Rows.mono hh (fun _ _ he => h _ _ he)
  | halt x w' => cases x <;> simp only [Oper.upon] at hh ⊢ <;> exact hh
theorem wpOp_of_cut (hT : tailB l k = true) {i : Nat} (hi : i < k) (hl : i < l.length) {a : Act} {K K' : Act → World → Prop} {w : World} (h : ∀ a w', K a w' → K' a w') (hh : wpOp P (l.take k).toArray (Qcut P l k Q) i K a w) : wpOp P l.toArray Q i K' a w := by
  have ho : l[i]? = some l[i] := List.getElem?_eq_getElem hl
  have ho' : l.toArray[i]? = some l[i] := by simp
  have ho2 : (l.take k).toArray[i]? = some l[i] := by rw [take_at hi, ho']
  unfold wpOp at *
  rw [ho2] at hh
  rw [ho']
  simp only [wanted_take hT ho hi] at hh
  show if Region.wanted _ _ = true then _ else _
  split
  · rename_i hw
    have hh' : (if Region.wanted l[i] (yielded l.toArray a.tmps) = true then (l[i].wp P a w K (Qcut P l k Q) ∨ (l[i].asks P a w ∧ LetsOut (Qcut P l k Q))) else K (a.put l[i].dst undef) w) := hh
    rw [if_pos hw] at hh'
    rcases hh' with h1 | ⟨h1, h2⟩
    · exact .inl (oper_cut h h1)
    · exact .inr ⟨h1, h2⟩
  · rename_i hw
    have hh' : (if Region.wanted l[i] (yielded l.toArray a.tmps) = true then (l[i].wp P a w K (Qcut P l k Q) ∨ (l[i].asks P a w ∧ LetsOut (Qcut P l k Q))) else K (a.put l[i].dst undef) w) := hh
    rw [if_neg hw] at hh'
    exact h _ _ hh'
theorem wpAny_cut (hT : tailB l k = true) (hk : k ≤ l.length) : ∀ (fuel : Nat) (L1 L : Array Bool) (a : Act) (w : World), L1.size = k → L.size = l.length → (∀ i, i < k → L[i]? = L1[i]?) → (∀ i, k ≤ i → i < l.length → L[i]? = some false) →
    wpAny P .any (l.take k).toArray (Qcut P l k Q) fuel L1 a w → wpAny P .any l.toArray Q (fuel + (l.length - k)) L a w := by
  have hts : (l.take k).toArray.size = k := by simp [Nat.min_eq_left hk]
  have hback : ∀ (i : Nat) (o : Oper), (l.take k).toArray[i]? = some o → ∀ e ∈ o.after, Region.binds .any e = true → e.on < i := fun i o ho => by
    have hi : i < k := by
      have := (Array.getElem?_eq_some_iff.1 ho).1
      omega
    rw [take_at hi] at ho
    exact tail_back hT i o (by simpa using ho)
  -- where nothing of the beginning may come up, the rest comes up in its order
  have hend : ∀ (f : Nat) (L1 L : Array Bool) (a : Act) (w : World), L1.size = k → L.size = l.length → (∀ i, i < k → L[i]? = L1[i]?) → (∀ i, k ≤ i → i < l.length → L[i]? = some false) → Region.ready .any (l.take k).toArray L1 = [] → wpTail P l.toArray Q (l.drop k) a w → l.length - k ≤ f → wpAny P .any l.toArray Q f L a w := by
    intro f L1 L a w h1 h2 h3 h4 hr hq hf
    refine wpAny_tail hT (l.drop k) k L f a w rfl (Nat.le_refl _) h2 (fun i hi hil => ?_) h4 (by simpa using hf) hq
    have hu := all_up hback (by rw [hts]; exact h1) hr (i + 1) i (by omega) (by omega)
    unfold Up at hu
    have hlt : i < L1.size := by omega
    rw [h3 i hi, Array.getElem?_eq_getElem hlt]
    rw [Array.getD_eq_getD_getElem?, Array.getElem?_eq_getElem hlt] at hu
    exact congrArg some hu
  intro fuel
  induction fuel with
  | zero =>
    intro L1 L a w h1 h2 h3 h4 h
    exact hend _ L1 L a w h1 h2 h3 h4 h.1 h.2 (by omega)
  | succ fuel ih =>
    intro L1 L a w h1 h2 h3 h4 h
    by_cases hr : Region.ready .any (l.take k).toArray L1 = []
    · exact hend _ L1 L a w h1 h2 h3 h4 hr (h.1 hr) (by omega)
    · have hsub : ∀ i, i ∈ Region.ready .any l.toArray L ↔ i < k ∧ i ∈ Region.ready .any (l.take k).toArray L1 := fun i => by
        constructor
        · intro hi
          obtain ⟨g1, o, ho, g2⟩ := mem_ready.1 hi
          rcases Nat.lt_or_ge i k with e | e
          · refine ⟨e, mem_ready.2 ⟨by rw [Array.getD_eq_getD_getElem?, ← h3 i e, ← Array.getD_eq_getD_getElem?]; exact g1, o, by rw [take_at e]; exact ho, fun e' he hb => ?_⟩⟩
            have := tail_back hT i o (by simpa using ho) e' he hb
            rw [Array.getD_eq_getD_getElem?, ← h3 e'.on (by omega), ← Array.getD_eq_getD_getElem?]
            exact g2 e' he hb
          · exfalso
            refine hr ?_
            rw [List.eq_nil_iff_forall_not_mem]
            intro j hj
            obtain ⟨k1, oj, hoj, _⟩ := mem_ready.1 hj
            have hjk : j < k := by
              have := (Array.getElem?_eq_some_iff.1 hoj).1
              omega
            obtain ⟨e', he', hb, hon⟩ := tail_waits hT i o (by simpa using ho) e j (by omega)
            have h5 := g2 e' he' hb
            rw [hon, Array.getD_eq_getD_getElem?, h3 j hjk] at h5
            have hlt : j < L1.size := by omega
            rw [Array.getElem?_eq_getElem hlt] at h5
            rw [Array.getD_eq_getD_getElem?, Array.getElem?_eq_getElem hlt] at k1
            simp only [Option.getD_some] at h5 k1
            rw [h5] at k1
            cases k1
        · rintro ⟨e, hi⟩
          obtain ⟨g1, o, ho, g2⟩ := mem_ready.1 hi
          rw [take_at e] at ho
          refine mem_ready.2 ⟨by rw [Array.getD_eq_getD_getElem?, h3 i e, ← Array.getD_eq_getD_getElem?]; exact g1, o, ho, fun e' he hb => ?_⟩
          have := tail_back hT i o (by simpa using ho) e' he hb
          rw [Array.getD_eq_getD_getElem?, h3 e'.on (by omega), ← Array.getD_eq_getD_getElem?]
          exact g2 e' he hb
      rw [show fuel + 1 + (l.length - k) = (fuel + (l.length - k)) + 1 by omega]
      refine ⟨fun e => ?_, fun i hi => ?_⟩
      · exfalso
        refine hr ?_
        rw [List.eq_nil_iff_forall_not_mem]
        intro j hj
        obtain ⟨_, oj, hoj, _⟩ := mem_ready.1 hj
        have hjk : j < k := by
          have := (Array.getElem?_eq_some_iff.1 hoj).1
          omega
        have := (hsub j).2 ⟨hjk, hj⟩
        rw [e] at this
        cases this
      · obtain ⟨hik, hi1⟩ := (hsub i).1 hi
        refine wpOp_of_cut hT hik (by omega) (fun a' w' hk' => ?_) (h.2 i hi1)
        refine ih (L1.setIfInBounds i true) (L.setIfInBounds i true) a' w' (by simpa using h1) (by simpa using h2) (fun j hj => ?_) (fun j hj hjl => ?_) hk'
        · rw [Array.getElem?_setIfInBounds, Array.getElem?_setIfInBounds, h3 j hj, h1, h2]
          by_cases e : i = j
          · rw [if_pos e, if_pos e, if_pos (by omega), if_pos (by omega)]
          · rw [if_neg e, if_neg e]
        · rw [Array.getElem?_setIfInBounds, if_neg (by omega)]
          exact h4 j hj hjl
/-- The whole region: its beginning may come up in whatever order, the last ones follow. -/
theorem wp_region_cut {id : Nat} {a : Act} {W : World} (k : Nat) (hm : P.follows .mixedOrders = true) (hk : k ≤ l.length) (hT : tailB l k = true)
    (h : wpAny P .any (l.take k).toArray (Qcut P l k Q) k (Array.replicate k false) a W.drew) : (Code.region id l.toArray true).wp P Q a W := by
  refine wp_region_any hm ?_
  have h2 := wpAny_cut (Q := Q) hT hk k (Array.replicate k false) (Array.replicate l.toArray.size false) a W.drew (by simp) (by simp) (fun i hi => by
    rw [Array.getElem?_replicate, Array.getElem?_replicate, if_pos (by simp; omega), if_pos hi]) (fun i hi hil => by simp [hil]) h
  have e : k + (l.length - k) = l.toArray.size := by simp; omega
  rw [e] at h2
  exact h2
end
end Go.Proofs.YtakiimjldccgcabDoor
