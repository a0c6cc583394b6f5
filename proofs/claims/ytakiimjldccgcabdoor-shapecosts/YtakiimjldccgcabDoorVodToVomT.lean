/-
  Maps of numbers: asked, stored to, by keys of whatever type; keys that are pairs, keys that are texts.
-/
import Derived.Test.YtakiimjldccgcabDoorStRToVoN
import Derived.Test.YtakiimjldccgcabDoorVcaToMkL
import Derived.Maps.OwnSet
import Derived.Maps.OwnOps
import Derived.DeepKeys4
namespace Go.Proofs.YtakiimjldccgcabDoor
open Go.RowKit Go.Lib Go.Maps

theorem zeroI (w : World) : (zeroValue 3).run Tryd.prog w = .ok (.int .i64 0) w := by kernel_rfl
theorem wf64 {z : Int} (h : I64 z) : (Lit.int .i64 z).wf = true := by
  obtain ⟨h1, h2⟩ := h
  simp [Lit.wf, IntKind.min, IntKind.max, IntKind.signed, IntKind.bits]
  omega
/-- In block M lies a map of these numbers. -/
def KM (k : TypeId) (w : World) (M n : Nat) (f : Value → Option Int) : Prop :=
  ∃ D : DataW Unit, w.ownsMap Tryd.prog k (plainElem Tryd.prog 3) M n D ∧ ∀ key kl, keyOf Tryd.prog k key = some kl → Maps.has D kl = (f key).isSome ∧ D.atKey kl (.lit (.int .i64 0)) = .lit (.int .i64 ((f key).getD 0))
theorem KM.made (k : TypeId) (w : World) : KM k (w.alloc (.map #[] 0)) w.heap.size 0 (fun _ => none) := ⟨.map [], World.ownsMap_made _ _ _ _, fun _ _ _ => ⟨rfl, rfl⟩⟩
theorem KM.kept {k : TypeId} {S : Nat → Prop} {w w' : World} {M n : Nat} {f : Value → Option Int} (h : KM k w M n f) (hk : Kept S w w') (hS : ¬ S M) : KM k w' M n f := by
  obtain ⟨D, ⟨es, clock, hb, hh⟩, ht⟩ := h
  exact ⟨D, ⟨es, clock, hk.at hb hS, hh⟩, ht⟩
theorem KM.lt {k : TypeId} {w : World} {M n : Nat} {f : Value → Option Int} (h : KM k w M n f) : M < w.heap.size := by
  obtain ⟨D, ⟨es, clock, hb, _⟩, _⟩ := h
  exact lt_of_heap hb
theorem KM.isMap {k : TypeId} {w : World} {M n : Nat} {f : Value → Option Int} (h : KM k w M n f) : ∃ es clock, w.heap[M]? = some (.map es clock) := by
  obtain ⟨D, ⟨es, clock, hb, _⟩, _⟩ := h
  exact ⟨es, clock, hb⟩
theorem KM.look {k t : TypeId} (K : Keyed Tryd.prog k) (ht : Tryd.prog.underlying t = some (.map k 3)) {w : World} {M n : Nat} {f : Value → Option Int} (h : KM k w M n f) {key : Value} {kl : Lit} (hkey : keyOf Tryd.prog k key = some kl) :
    (Instr.lookup t (.map (some M)) key true).run Tryd.prog w = .ok (.tuple #[.int .i64 ((f key).getD 0), .bool (f key).isSome]) w := by
  obtain ⟨D, ho, hf⟩ := h
  obtain ⟨v, ps, hr, hv⟩ := ho.look_ok K ht (zeroI w) (plainElem_int Tryd.underlying3 (wf64 (z := 0) (by constructor <;> omega))) hkey
  obtain ⟨e1, e2⟩ := hf key kl hkey
  rw [e2] at hv
  obtain ⟨c, rfl, hc, _⟩ := plainElem_int_inv Tryd.underlying3 hv
  simp only [Prod.mk.injEq, DataW.lit.injEq, Lit.int.injEq, true_and] at hc
  rw [hr, e1, ← hc.1]
theorem KM.store {k t : TypeId} (K : Keyed Tryd.prog k) (ht : Tryd.prog.underlying t = some (.map k 3)) {w : World} {M n : Nat} {f : Value → Option Int} (h : KM k w M n f) (hn : n < maxLen) {key : Value} {kl : Lit} (hkey : keyOf Tryd.prog k key = some kl) {x : Int} (hx : I64 x)
    (f' : Value → Option Int) (h1 : f' key = some x) (h2 : ∀ key' kl', key' ≠ key → keyOf Tryd.prog k key' = some kl' → f' key' = f key') :
    ∃ w', (Instr.mapUpdate t (.map (some M)) key (.int .i64 x)).run Tryd.prog w = .ok () w' ∧ KM k w' M (n + 1) f' ∧ w.grownBy w' (some M) := by
  obtain ⟨D, ho, hf⟩ := h
  have hD : IsMap D := by
    obtain ⟨es, clock, hb, F, hs, rfl⟩ := ho
    exact ⟨_, rfl⟩
  obtain ⟨w', hr, ho', hg⟩ := ho.update K ht hn hkey (plainElem_int Tryd.underlying3 (wf64 hx))
  refine ⟨w', hr, ⟨_, ho', fun key' kl' hk' => ?_⟩, hg⟩
  by_cases e : kl' = kl
  · subst e
    obtain rfl := K.inj hk' hkey
    rw [has_put_same hD (K.key hkey), atKey_put_same hD (K.key hkey), h1]
    exact ⟨rfl, rfl⟩
  · have hne : key' ≠ key := fun e2 => e (by rw [e2, hkey] at hk'; exact (Option.some.inj hk').symm)
    rw [has_put_other e, atKey_put_other e, h2 key' kl' hne hk']
    exact hf key' kl' hk'

theorem strKeyed : Keyed Tryd.prog 9 := string_keyed Tryd.underlying9
set_option maxRecDepth 100000 in
theorem pairRow : (182 : TypeId) < Tryd.prog.types.size := of_decide_eq_true (by kernel_rfl)
set_option maxRecDepth 100000 in
theorem pairWide : (match Tryd.prog.underlying 182 with | some (.array _ _) | some (.struct _) => true | _ => false) = true := by kernel_rfl
set_option maxRecDepth 100000 in
theorem pairKeyed : Keyed Tryd.prog 182 := Keyed.of_law (deep_law_laid Tryd.laidOut (m := 2) (by omega) pairRow (by kernel_rfl) pairWide)
/-- A pair as a value. -/
abbrev pV (a b : Int) : Value := .agg #[.int .i64 a, .int .i64 b]
set_option maxRecDepth 100000 in
theorem pairKey {a b : Int} (ha : I64 a) (hb : I64 b) : ∃ kl, keyOf Tryd.prog 182 (pV a b) = some kl := by
  have hc : Tryd.prog.cellsOf 182 = 2 := by kernel_rfl
  have hkt : Tryd.prog.keyType 182 = true := by kernel_rfl
  have hci : Tryd.prog.cellsOf 3 = 1 := by kernel_rfl
  have hsz : ∃ m, Tryd.prog.types.size = m + 1 := ⟨_, (Nat.succ_pred_eq_of_pos (Nat.lt_of_le_of_lt (Nat.zero_le _) pairRow)).symm⟩
  obtain ⟨m, hm⟩ := hsz
  unfold keyOf
  rw [Tryd.underlying182]
  simp only []
  rw [if_pos (by simp [Value.formed, Tryd.underlying182, hc, hkt])]
  rw [hm]
  simp [Program.keyLits, Tryd.underlying182, Tryd.underlying3, Value.cells, hci, hc, wf64 ha, wf64 hb]
end Go.Proofs.YtakiimjldccgcabDoor

/-
  Merges in memory; what the map of ranks tells.
-/
namespace Go.Proofs.YtakiimjldccgcabDoor
open Go.RowKit Go.Lib Go.Maps

/-- A row of merges in a block that p allows. -/
def MgR (p : Nat → Prop) (W : World) (v : Value) (M : List Mg) : Prop :=
  ∃ ao cap, v = .slice ao M.length cap ∧ (ao = none → cap = 0) ∧ M.length ≤ cap ∧ (∀ i, i < M.length → I64 (gM M i).l ∧ I64 (gM M i).r ∧ I64 (gM M i).o) ∧
    (0 < M.length → ∃ b off, ao = some ⟨b, off, none⟩ ∧ p b ∧ b < W.heap.size ∧ ∀ i, i < M.length → W.cell? ⟨b, off + i * 3, none⟩ = some (zV (gM M i).l) ∧ W.cell? ⟨b, off + i * 3 + 1, none⟩ = some (zV (gM M i).r) ∧ W.cell? ⟨b, off + i * 3 + 2, none⟩ = some (zV (gM M i).o))
theorem MgR.kept {p : Nat → Prop} {S : Nat → Prop} {W W' : World} {v : Value} {M : List Mg} (h : MgR p W v M) (hk : Kept S W W') (hn : ∀ b, p b → ¬ S b) : MgR p W' v M := by
  obtain ⟨ao, cap, h1, h2, h3, h4, h5⟩ := h
  refine ⟨ao, cap, h1, h2, h3, h4, fun h0 => ?_⟩
  obtain ⟨b, off, ha, hp, hb, hc⟩ := h5 h0
  refine ⟨b, off, ha, hp, Nat.lt_of_lt_of_le hb hk.size, fun i hi => ?_⟩
  obtain ⟨c0, c1, c2⟩ := hc i hi
  exact ⟨(hk.cell (p := ⟨b, off + i * 3, none⟩) hb (hn b hp)).trans c0, (hk.cell (p := ⟨b, off + i * 3 + 1, none⟩) hb (hn b hp)).trans c1, (hk.cell (p := ⟨b, off + i * 3 + 2, none⟩) hb (hn b hp)).trans c2⟩
theorem MgR.shape {p : Nat → Prop} {W : World} {v : Value} {M : List Mg} (h : MgR p W v M) : ∃ ao cap, v = .slice ao M.length cap := by obtain ⟨ao, cap, h1, _⟩ := h; exact ⟨ao, cap, h1⟩

/-- What the map of ranks tells. -/
def lstV : Value → List Value
  | .agg c => c.toList
  | _ => []
def rkV (M : List Mg) (k : Nat) (v : Value) : Option Int := match lstV v with
  | [.int .i64 a, .int .i64 b] => (rkT M k a b).map Int.ofNat
  | _ => none
theorem rkV_pair (M : List Mg) (k : Nat) (a b : Int) : rkV M k (pV a b) = (rkT M k a b).map Int.ofNat := rfl
end Go.Proofs.YtakiimjldccgcabDoor

/-
  Texts and merges as they are handed in.
-/
namespace Go.Proofs.YtakiimjldccgcabDoor
open Go.RowKit Go.Lib Go.Maps

abbrev sV (t : List UInt8) : Value := .string ⟨t.toArray⟩
/-- A row of texts in a block that p allows. -/
def TxR (p : Nat → Prop) (W : World) (v : Value) (T : List (List UInt8)) : Prop :=
  ∃ ao cap, v = .slice ao T.length cap ∧ (ao = none → cap = 0) ∧ T.length ≤ cap ∧ (∀ i, i < T.length → (gT T i).length ≤ maxLen) ∧ T.length * 16 ≤ 140737488351232 ∧
    (0 < T.length → ∃ b off, ao = some ⟨b, off, none⟩ ∧ p b ∧ b < W.heap.size ∧ ∀ i, i < T.length → W.cell? ⟨b, off + i, none⟩ = some (sV (gT T i)))
theorem TxR.kept {p : Nat → Prop} {S : Nat → Prop} {W W' : World} {v : Value} {T : List (List UInt8)} (h : TxR p W v T) (hk : Kept S W W') (hn : ∀ b, p b → ¬ S b) : TxR p W' v T := by
  obtain ⟨ao, cap, h1, h2, h3, h4, h6, h5⟩ := h
  refine ⟨ao, cap, h1, h2, h3, h4, h6, fun h0 => ?_⟩
  obtain ⟨b, off, ha, hp, hb, hc⟩ := h5 h0
  exact ⟨b, off, ha, hp, Nat.lt_of_lt_of_le hb hk.size, fun i hi => (hk.cell (p := ⟨b, off + i, none⟩) hb (hn b hp)).trans (hc i hi)⟩
theorem TxR.fresh {p : Nat → Prop} {W W' : World} {v : Value} {T : List (List UInt8)} (h : TxR p W v T) (hk : Fresh W W') : TxR p W' v T := h.kept hk (fun _ _ e => e)
theorem MgR.fresh {p : Nat → Prop} {W W' : World} {v : Value} {M : List Mg} (h : MgR p W v M) (hk : Fresh W W') : MgR p W' v M := h.kept hk (fun _ _ e => e)
theorem TxR.mono {p q : Nat → Prop} {W : World} {v : Value} {T : List (List UInt8)} (h : TxR p W v T) (hpq : ∀ b, p b → q b) : TxR q W v T := by
  obtain ⟨ao, cap, h1, h2, h3, h4, h6, h5⟩ := h
  exact ⟨ao, cap, h1, h2, h3, h4, h6, fun h0 => let ⟨b, off, ha, hp, hb, hc⟩ := h5 h0; ⟨b, off, ha, hpq b hp, hb, hc⟩⟩
theorem MgR.mono {p q : Nat → Prop} {W : World} {v : Value} {M : List Mg} (h : MgR p W v M) (hpq : ∀ b, p b → q b) : MgR q W v M := by
  obtain ⟨ao, cap, h1, h2, h3, h4, h5⟩ := h
  exact ⟨ao, cap, h1, h2, h3, h4, fun h0 => let ⟨b, off, ha, hp, hb, hc⟩ := h5 h0; ⟨b, off, ha, hpq b hp, hb, hc⟩⟩
theorem TxR.low {p : Nat → Prop} {W : World} {v : Value} {T : List (List UInt8)} (h : TxR p W v T) : TxR (fun b => b < W.heap.size) W v T := by
  obtain ⟨ao, cap, h1, h2, h3, h4, h6, h5⟩ := h
  exact ⟨ao, cap, h1, h2, h3, h4, h6, fun h0 => let ⟨b, off, ha, hp, hb, hc⟩ := h5 h0; ⟨b, off, ha, hb, hb, hc⟩⟩
theorem MgR.low {p : Nat → Prop} {W : World} {v : Value} {M : List Mg} (h : MgR p W v M) : MgR (fun b => b < W.heap.size) W v M := by
  obtain ⟨ao, cap, h1, h2, h3, h4, h5⟩ := h
  exact ⟨ao, cap, h1, h2, h3, h4, fun h0 => let ⟨b, off, ha, hp, hb, hc⟩ := h5 h0; ⟨b, off, ha, hb, hb, hc⟩⟩
theorem TxR.cells {p : Nat → Prop} {W : World} {ao : Option Addr} {n cap : Nat} {T : List (List UInt8)} (h : TxR p W (.slice ao n cap) T) : T.length = n ∧ n ≤ cap ∧ (0 < n → ∃ b off, ao = some ⟨b, off, none⟩ ∧ p b ∧ b < W.heap.size ∧ ∀ i, i < n → W.cell? ⟨b, off + i, none⟩ = some (sV (gT T i))) := by
  obtain ⟨ao', cap', hv, h2, h3, h4, h6, h5⟩ := h
  injection hv with e1 e2 e3
  subst e1 e2 e3
  exact ⟨rfl, h3, h5⟩
theorem TxR.shape {p : Nat → Prop} {W : World} {v : Value} {T : List (List UInt8)} (h : TxR p W v T) : ∃ ao cap, v = .slice ao T.length cap := by obtain ⟨ao, cap, h1, _⟩ := h; exact ⟨ao, cap, h1⟩
end Go.Proofs.YtakiimjldccgcabDoor
