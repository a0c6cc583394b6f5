/-
  Numbers as rows of words: Clone, word, times, timesWord.
-/
import Derived.Test.YtdmjfmipalifpaaGreatDoorWp
import Derived.Deep.AppendSrc
import Derived.Deep.AppendLies
import Derived.Lib.AppendZeros
import Derived.Lib.SliceRun
namespace Go.Proofs.YtdmjfmipalifpaaGreatDoor
open Go.RowKit

theorem Tryz.infoU : (Tryz.prog.info? 71).map (fun i => (i.zero, i.size, i.bytes)) = some (some (.int .u64 0), 1, 8) := by kernel_rfl

/-- A block of words. -/
def isU (w : World) (b : Nat) : Prop := ∃ cs fr, w.heap[b]? = some (.cells cs 71 fr)
theorem isU.fresh {w w' : World} {b : Nat} (h : isU w b) (hk : Fresh w w') : isU w' b := let ⟨cs, fr, e⟩ := h; ⟨cs, fr, hk.at e (fun e => e)⟩
/-- A number: a row of words without noughts at its end. -/
def Nm (w : World) (v : Value) (N : Nat) : Prop := ∃ L, Wd (isU w) w v L ∧ Can L ∧ val 18446744073709551616 L = N ∧ (L = [] → v = .slice none 0 0)
theorem Nm.fresh {w w' : World} {v : Value} {N : Nat} (h : Nm w v N) (hk : Fresh w w') : Nm w' v N := let ⟨L, h1, h2⟩ := h; ⟨L, Dw.mono (Dw.fresh h1 hk) (fun _ _ e => e.fresh hk), h2⟩
/-- A store into a block of another type leaves a number. -/
theorem nm_set {w : World} {v : Value} {N : Nat} (h : Nm w v N) {b : Nat} {cs : Array Value} {t : TypeId} {fr : Nat × Nat} (hb : w.heap[b]? = some (.cells cs t fr)) (ht : t ≠ 71) (i : Nat) (u : Value) : Nm (w.setCell ⟨b, i, none⟩ u) v N := by
  obtain ⟨L, h1, h2⟩ := h
  have hne : ∀ k, isU w k → ¬ only b k := fun k ⟨cs', fr', e⟩ c => by
    have c' : k = b := c
    subst c'
    rw [hb] at e
    simp only [Option.some.injEq, Obj.cells.injEq] at e
    exact ht e.2.1
  refine ⟨L, Dw.mono (Dw.kept h1 (kept_set w b i u) (fun k hk _ => hne k hk)) (fun k _ hk => ?_), h2⟩
  obtain ⟨cs', fr', e⟩ := hk
  exact ⟨cs', fr', (kept_set w b i u).at e (hne k ⟨cs', fr', e⟩)⟩
theorem Nm.shape {w : World} {v : Value} {N : Nat} (h : Nm w v N) : ∃ a n c, v = .slice a n c := by
  obtain ⟨L, h1, _⟩ := h
  obtain ⟨a, c, e⟩ := h1.shape
  exact ⟨a, _, c, e⟩
theorem nm_len {L : List Nat} (hd : Dg 18446744073709551616 L) (hc : Can L) : 64 * L.length ≤ bl (val 18446744073709551616 L) + 63 := by
  rcases List.eq_nil_or_concat L with rfl | ⟨A, d, rfl⟩
  · simp
  · rw [List.concat_eq_append] at *
    have hd0 : d ≠ 0 := by intro e; subst e; simp [Can] at hc
    have hb := bl_snoc 64 A d (fun x hx => hd x (List.mem_append_left _ hx)) hd0
    rw [show (2 : Nat) ^ 64 = 18446744073709551616 from rfl] at hb
    have := (bl_pos hd0).2.2
    rw [hb, List.length_append, List.length_singleton]
    omega
theorem nm_of_trim {p : Nat → Prop} {w : World} {L : List Nat} {v0 v : Value} (h : TrimO p w v0 L v) (hp : ∀ b, p b → isU w b) : Nm w v (val 18446744073709551616 L) := by
  obtain ⟨n, ht, hw, hn, _⟩ := h
  refine ⟨L.take n, Dw.mono hw (fun b _ h => hp b h), ht.can, ht.val, fun e => hn ?_⟩
  have := congrArg List.length e
  rw [List.length_take, Nat.min_eq_left ht.le] at this
  simpa using this
theorem Ow.isU {w : World} {b : Nat} {A S : List Value} {L : List Nat} (h : Ow 71 .u64 w b A L S) : ∀ k, k = b → isU w k := fun k e => by rw [e]; exact ⟨_, _, h⟩
theorem nm_zero (w : World) : Nm w (.slice none 0 0) 0 := ⟨[], Dw.nil _ _ _ _, Can.nil, rfl, fun _ => rfl⟩
theorem Nm.zero {w : World} {v : Value} (h : Nm w v 0) : v = .slice none 0 0 := by
  obtain ⟨L, _, h2, h3, h4⟩ := h
  exact h4 ((val_eq_zero (by omega) h2).1 h3)

/-- append(words{}, x...). -/
theorem twinW (ty : TypeId) (W : World) (B : Nat) (v0 : Value) (hown : W.ownsRow B 71 1 v0 0 []) (hB : B ≤ W.heap.size) (rv : Value) (L : List Nat) (p : Nat → Prop) (hr : Wd p W rv L) (hL : L.length ≤ 1099511627776) :
    ∃ tv W', (Builtin.append_ #[24, 24] ty #[v0, rv]).run Tryz.prog W = .ok tv W' ∧ W'.ownsRow B 71 1 tv L.length (enW .u64 L) ∧ W.grownBy W' v0.ownBlock := by
  obtain ⟨i0, hi, hz0, hz1, hz2⟩ := info_parts Tryz.infoU
  obtain ⟨ao, cap, rfl, hzl, _, hcell, _, hn⟩ := hr
  cases ao with
  | none =>
    have e : L = [] := by
      rcases L with _ | ⟨z, r⟩
      · rfl
      · obtain ⟨b, off, h, _⟩ := hcell (by simp)
        cases h
    subst e
    rw [hn rfl]
    exact ⟨v0, W, run_append_owned_none (P := Tryz.prog) W B _ _ _ i0 1 Tryz.underlying24 hi v0 0 [] hown, by simpa using hown, ⟨rfl, rfl, rfl, Nat.le_refl _, fun _ _ _ => rfl⟩⟩
  | some a =>
    obtain ⟨v', w', h1, h2, h3, _⟩ := run_append_own (P := Tryz.prog) W B 24 ty 71 i0 (.int .u64 0) 1 8 Tryz.underlying24 hi hz0 hz1 hz2 rfl (by omega) v0 0 [] hown a L.length cap (enW .u64 L) (by simp)
      (fun j u hj => by
        have hj' : j < L.length := by have := (List.getElem?_eq_some_iff.1 hj).1; simpa using this
        obtain ⟨b, off, h, _, _, hc⟩ := hcell (fun e => by rw [e] at hj'; simp at hj')
        simp only [Option.some.injEq] at h
        subst h
        rw [List.getElem?_map, List.getElem?_eq_getElem hj'] at hj
        simp only [Option.map_some, Option.some.injEq] at hj
        have := hc j hj'
        rw [List.getD_eq_getElem?_getD, List.getElem?_eq_getElem hj'] at this
        rw [← hj, Addr.add_lit]
        exact this)
      (fun u hu => by obtain ⟨_, _, rfl⟩ := List.mem_map.1 hu; rfl) (by unfold maxLen; omega) (by omega) hB
    rw [Nat.zero_add, List.nil_append] at h2
    exact ⟨v', w', h1, h2, h3⟩
theorem ownU_empty (w : World) : (w.alloc (.cells #[] 71)).ownsRow w.heap.size 71 1 (.slice (some ⟨w.heap.size, 0, none⟩) 0 0) 0 [] :=
  ⟨rfl, .inr ⟨w.heap.size, 0, #[], rfl, Nat.le_refl _, heap_alloc_new w _, Nat.le_refl _, Nat.zero_le _, rfl, rfl⟩⟩

/-- What Clone answers: a row of the call's own, or nil of nil. -/
def CloO (w w' : World) (L : List Nat) (v : Value) : Prop := w'.ownsRow w.heap.size 71 1 v L.length (enW .u64 L) ∧ Fresh w w'

set_option maxHeartbeats 400000 in
set_option maxRecDepth 100000 in
theorem clone_any (p : Nat → Prop) (v : Value) (L : List Nat) (w : World) (h : Wd p w v L) (hL : L.length ≤ 1099511627776) :
    Calls Tryz.prog 62 #[v] w fun e w' => ∃ v', e = .returned v' ∧ CloO w w' L v' := by
  have h' := h
  have qW : ∀ (w : World) (a : Option Addr) (n c : Nat), (binOp .eql 24 (.slice a n c) (.slice none 0 0)).run Tryz.prog w = .ok (.bool a.isNone) w := fun w a n c => Lib.run_eql_slice_nil w _ _ a n c 0 0 Tryz.underlying24
  obtain ⟨ao, cap, rfl, hc, _, hcell, _, hn⟩ := h
  cases ao with
  | none =>
    have e : L = [] := by
      rcases L with _ | ⟨z, r⟩
      · rfl
      · obtain ⟨b, off, h, _⟩ := hcell (by simp)
        cases h
    subst e
    rw [hn rfl]
    have HR : Hid (CloO w w [] (.slice none 0 0)) := ⟨World.ownsRow_nil _ _ _ _, Kept.refl _ _⟩
    clear h' hcell
    go_enter Tryz.func62, Tryz.ntmps62
    go_wp2
    go_ret
    exact ⟨_, rfl, HR.out⟩
  | some a =>
    obtain ⟨tv, W1, hrun, hown1, hgrow⟩ := twinW 24 _ w.heap.size _ (ownU_empty w) (by simp) _ L _ (Dw.fresh h' ((Kept.refl (fun _ => False) _).alloc _)) hL
    have hkW : Fresh w W1 := ((Kept.refl _ _).alloc _).grown hgrow (fun k hk e => by simp [Value.ownBlock] at e; omega)
    have HR : Hid (CloO w W1 L tv) := ⟨hown1, hkW⟩
    clear hown1 hgrow hkW h' hcell
    go_enter Tryz.func62, Tryz.ntmps62
    go_wp2_with (at_builtin; refine Lib.wpList_append_run _ rfl _ _ _ _ rfl _ _ rfl rfl _ _ hrun ?_)
    clear hrun
    go_wp2
    go_ret
    exact ⟨_, rfl, HR.out⟩

set_option maxHeartbeats 400000 in
theorem word_any (n : Nat) (w : World) (hn : n < 18446744073709551616) :
    Calls Tryz.prog 56 #[.int .u64 n] w fun e w' => ∃ v', e = .returned v' ∧ (Nm w' v' n ∧ Fresh w w') := by
  have hO : Ow 71 .u64 (w.alloc (.cells #[.int .u64 (n : Int)] 71)) w.heap.size [] [n] [] := heap_alloc_new w _
  have hW := hO.dw (B := 18446744073709551616) (cap := 1) (Dg.one hn) (by simp) (by simp) (by omega)
  have ht := fun W (e : W = w.alloc (.cells #[.int .u64 (n : Int)] 71)) => trim_any _ _ _ W (e ▸ hW)
  have hF : Fresh w (w.alloc (.cells #[.int .u64 (n : Int)] 71)) := (Kept.refl _ _).alloc _
  have HF := show Hid _ from hF
  have HU := show Hid _ from Ow.isU hO
  clear hO hW hF
  go_enter Tryz.func56, Tryz.ntmps56
  go_wp2_with fail
  refine (ht _ rfl).mono ?_
  rintro e w1 ⟨v', rfl, hT, rfl⟩
  have hN := nm_of_trim hT HU.out
  rw [show val 18446744073709551616 [n] = n by simp [val]] at hN
  have HN := show Hid _ from hN
  clear hT hN ht
  go_wp2
  go_ret
  exact ⟨_, rfl, HN.out, HF.out⟩
end Go.Proofs.YtdmjfmipalifpaaGreatDoor
