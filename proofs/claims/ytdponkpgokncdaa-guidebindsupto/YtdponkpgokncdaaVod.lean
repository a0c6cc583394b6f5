/-
  Maps of numbers: asked, stored to, by keys of whatever type; keys that are pairs, keys that are texts.
-/
import Derived.Test.YtdponkpgokncdaaVoN
import Derived.Test.YtdponkpgokncdaaVca
import Derived.Maps.OwnSet
import Derived.Maps.OwnOps
import Derived.DeepKeys4
namespace Go.Proofs.Ytdponkpgokncdaa
open Go.RowKit Go.Lib Go.Maps

theorem zeroI (w : World) : (zeroValue 3).run Try.prog w = .ok (.int .i64 0) w := by kernel_rfl
theorem wf64 {z : Int} (h : I64 z) : (Lit.int .i64 z).wf = true := by
  obtain ⟨h1, h2⟩ := h
  simp [Lit.wf, IntKind.min, IntKind.max, IntKind.signed, IntKind.bits]
  omega
/-- In block M lies a map of these numbers. -/
def KM (k : TypeId) (w : World) (M n : Nat) (f : Value → Option Int) : Prop :=
  ∃ D : DataW Unit, w.ownsMap Try.prog k (plainElem Try.prog 3) M n D ∧ ∀ key kl, keyOf Try.prog k key = some kl → Maps.has D kl = (f key).isSome ∧ D.atKey kl (.lit (.int .i64 0)) = .lit (.int .i64 ((f key).getD 0))
theorem KM.made (k : TypeId) (w : World) : KM k (w.alloc (.map #[] 0)) w.heap.size 0 (fun _ => none) := ⟨.map [], World.ownsMap_made _ _ _ _, fun _ _ _ => ⟨rfl, rfl⟩⟩
theorem KM.kept {k : TypeId} {S : Nat → Prop} {w w' : World} {M n : Nat} {f : Value → Option Int} (h : KM k w M n f) (hk : Kept S w w') (hS : ¬ S M) : KM k w' M n f := by
  obtain ⟨D, ⟨es, clock, hb, hh⟩, ht⟩ := h
  exact ⟨D, ⟨es, clock, hk.at hb hS, hh⟩, ht⟩
theorem KM.lt {k : TypeId} {w : World} {M n : Nat} {f : Value → Option Int} (h : KM k w M n f) : M < w.heap.size := by
  obtain ⟨D, ⟨es, clock, hb, _⟩, _⟩ := h
  exact lt_of_heap hb
theorem KM.isMap {k : TypeId} {w : World} {M n : Nat} {f : Value → Option Int} (h : KM k w M n f) : ∃ es clock, w.heap[M]? = some (.map es clock) := by
  obtain ⟨D, ⟨es, clock, hb, _⟩, _⟩ := h
  exact ⟨es, clock, hb⟩
theorem KM.look {k t : TypeId} (K : Keyed Try.prog k) (ht : Try.prog.underlying t = some (.map k 3)) {w : World} {M n : Nat} {f : Value → Option Int} (h : KM k w M n f) {key : Value} {kl : Lit} (hkey : keyOf Try.prog k key = some kl) :
    (Instr.lookup t (.map (some M)) key true).run Try.prog w = .ok (.tuple #[.int .i64 ((f key).getD 0), .bool (f key).isSome]) w := by
  obtain ⟨D, ho, hf⟩ := h
  obtain ⟨v, ps, hr, hv⟩ := ho.look_ok K ht (zeroI w) (plainElem_int Try.underlying3 (wf64 (z := 0) (by constructor <;> omega))) hkey
  obtain ⟨e1, e2⟩ := hf key kl hkey
  rw [e2] at hv
  obtain ⟨c, rfl, hc, _⟩ := plainElem_int_inv Try.underlying3 hv
  simp only [Prod.mk.injEq, DataW.lit.injEq, Lit.int.injEq, true_and] at hc
  rw [hr, e1, ← hc.1]
theorem KM.store {k t : TypeId} (K : Keyed Try.prog k) (ht : Try.prog.underlying t = some (.map k 3)) {w : World} {M n : Nat} {f : Value → Option Int} (h : KM k w M n f) (hn : n < maxLen) {key : Value} {kl : Lit} (hkey : keyOf Try.prog k key = some kl) {x : Int} (hx : I64 x)
    (f' : Value → Option Int) (h1 : f' key = some x) (h2 : ∀ key' kl', key' ≠ key → keyOf Try.prog k key' = some kl' → f' key' = f key') :
    ∃ w', (Instr.mapUpdate t (.map (some M)) key (.int .i64 x)).run Try.prog w = .ok () w' ∧ KM k w' M (n + 1) f' ∧ w.grownBy w' (some M) := by
  obtain ⟨D, ho, hf⟩ := h
  have hD : IsMap D := by
    obtain ⟨es, clock, hb, F, hs, rfl⟩ := ho
    exact ⟨_, rfl⟩
  obtain ⟨w', hr, ho', hg⟩ := ho.update K ht hn hkey (plainElem_int Try.underlying3 (wf64 hx))
  refine ⟨w', hr, ⟨_, ho', fun key' kl' hk' => ?_⟩, hg⟩
  by_cases e : kl' = kl
  · subst e
    obtain rfl := K.inj hk' hkey
    rw [has_put_same hD (K.key hkey), atKey_put_same hD (K.key hkey), h1]
    exact ⟨rfl, rfl⟩
  · have hne : key' ≠ key := fun e2 => e (by rw [e2, hkey] at hk'; exact (Option.some.inj hk').symm)
    rw [has_put_other e, atKey_put_other e, h2 key' kl' hne hk']
    exact hf key' kl' hk'

theorem strKeyed : Keyed Try.prog 9 := string_keyed Try.underlying9
set_option maxRecDepth 100000 in
theorem pairRow : (107 : TypeId) < Try.prog.types.size := of_decide_eq_true (by kernel_rfl)
set_option maxRecDepth 100000 in
theorem pairWide : (match Try.prog.underlying 107 with | some (.array _ _) | some (.struct _) => true | _ => false) = true := by kernel_rfl
set_option maxRecDepth 100000 in
theorem pairKeyed : Keyed Try.prog 107 := Keyed.of_law (deep_law_laid Try.laidOut (m := 2) (by omega) pairRow (by kernel_rfl) pairWide)
/-- A pair as a value. -/
abbrev pV (a b : Int) : Value := .agg #[.int .i64 a, .int .i64 b]
set_option maxRecDepth 100000 in
theorem pairKey {a b : Int} (ha : I64 a) (hb : I64 b) : ∃ kl, keyOf Try.prog 107 (pV a b) = some kl := by
  have hc : Try.prog.cellsOf 107 = 2 := by kernel_rfl
  have hkt : Try.prog.keyType 107 = true := by kernel_rfl
  have hci : Try.prog.cellsOf 3 = 1 := by kernel_rfl
  have hsz : ∃ m, Try.prog.types.size = m + 1 := ⟨_, (Nat.succ_pred_eq_of_pos (Nat.lt_of_le_of_lt (Nat.zero_le _) pairRow)).symm⟩
  obtain ⟨m, hm⟩ := hsz
  unfold keyOf
  rw [Try.underlying107]
  simp only []
  rw [if_pos (by simp [Value.formed, Try.underlying107, hc, hkt])]
  rw [hm]
  simp [Program.keyLits, Try.underlying107, Try.underlying3, Value.cells, hci, hc, wf64 ha, wf64 hb]
end Go.Proofs.Ytdponkpgokncdaa
