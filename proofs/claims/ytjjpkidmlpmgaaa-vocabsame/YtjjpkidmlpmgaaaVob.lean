/-
  A heap: the least is taken out; one more is put in.
-/
import Derived.Test.YtjjpkidmlpmgaaaVoa
namespace Go.Proofs.Ytjjpkidmlpmgaaa
open Go.RowKit Go.Lib Go.Maps

abbrev RH (wb n c : Nat) (us : List Value) : Rr := ⟨95, .slice (some ⟨wb, 0, none⟩) n c, us⟩
theorem tyI : Ty .i64 3 38 := ⟨Try.underlying38, Try.underlying3, by kernel_rfl, by kernel_rfl⟩
theorem tyH : Ty .i64 3 95 := ⟨Try.underlying95, Try.underlying3, by kernel_rfl, by kernel_rfl⟩
theorem Rs.geV {B g n c : Nat} {X : World} {T : TypeId} {xs : List Value} {l : List Rr} (h : Rs B X (⟨T, .slice (some ⟨g, 0, none⟩) n c, xs⟩ :: l)) (hn : xs.length = n) (i : Nat) (hi : i < n) : X.cell? ⟨g, i, none⟩ = some (xs.getD i nilV) := by
  have h1 : X.ownsRow B T 1 (.slice (some ⟨g, 0, none⟩) n c) n xs := by have := h.head; unfold Rr.At at this; rw [hn] at this; exact this
  rw [h1.cellAt i (by omega), List.getD_eq_getElem?_getD, List.getElem?_eq_getElem (by omega)]
  rfl
/-- A row that is the same block with fewer elements. -/
theorem Rs.less {B g n c m : Nat} {X : World} {L : List Int} {l : List Rr} (h : Rs B X (RI (.slice (some ⟨g, 0, none⟩) n c) L :: l)) (hn : L.length = n) (hm : m ≤ n) : Rs B X (RI (.slice (some ⟨g, 0, none⟩) m c) (L.take m) :: l) := by
  have h1 : X.ownsRow B 3 1 (.slice (some ⟨g, 0, none⟩) n c) n (L.map (Value.int .i64)) := by have := h.head; unfold Rr.At at this; simpa [hn] using this
  refine h.turn (Kept.refl _ X) ?_ (fun k hk => .inl hk)
  have h2 := own_begins h1 hm
  unfold Rr.At
  show X.ownsRow B 3 1 (.slice (some ⟨g, 0, none⟩) m c) ((L.take m).map (Value.int .i64)).length ((L.take m).map (Value.int .i64))
  rw [List.map_take, show ((L.map (Value.int .i64)).take m).length = m by simp; omega]
  exact h2
theorem Rs.swap2 {B : Nat} {X : World} {a b : Rr} {l : List Rr} (h : Rs B X (a :: b :: l)) : Rs B X (b :: a :: l) := h.perm (List.Perm.swap _ _ _)
/-- A store of a value. -/
theorem Rs.seV {B g n c : Nat} {X : World} {T : TypeId} {xs : List Value} {l : List Rr} (h : Rs B X (⟨T, .slice (some ⟨g, 0, none⟩) n c, xs⟩ :: l)) (hn : xs.length = n) (i : Nat) (u : Value) : Rs B (X.setCell ⟨g, i, none⟩ u) (⟨T, .slice (some ⟨g, 0, none⟩) n c, xs.set i u⟩ :: l) := h.store hn

set_option maxHeartbeats 1000000 in
set_option maxRecDepth 100000 in
theorem take_any (B wb n c r g m cp : Nat) (X : World) (us : List Value) (L : List Int) (l : List Rr) (h : Rs B X (RH wb n c us :: RI (.slice (some ⟨g, 0, none⟩) m cp) L :: l)) (hus : us.length = n) (hr : r < n) (hu : us.getD r nilV = .slice (some ⟨g, 0, none⟩) m cp) (hL : L.length = m) (hm : 0 < m) (hb : m ≤ 70368744177664) :
    Calls Try.prog 42 #[.pointer (some ⟨wb, r, none⟩)] X fun e X' => e = .returned (zV (gI L 0)) ∧ Rs B X' (RH wb n c (us.set r (.slice (some ⟨g, 0, none⟩) (m - 1) cp)) :: RI (.slice (some ⟨g, 0, none⟩) (m - 1) cp) (tkF L) :: l) ∧ Up0 B X X' := by
  have a0 := h.geV hus r hr
  rw [hu] at a0
  have a1 := h.swap2.geI hL 0 hm
  have a2 := h.swap2.geI hL (m - 1) (by omega)
  have f0 := h.frozen r
  have f1 := h.swap2.frozen 0
  have hgB := h.swap2.ge
  have hwB := h.ge
  have hne : g ≠ wb := fun e => h.apart _ List.mem_cons_self wb rfl (by rw [e]; rfl)
  have hmc : m ≤ cp := (own_block (show X.ownsRow B 3 1 (.slice (some ⟨g, 0, none⟩) m cp) m (L.map (Value.int .i64)) by have := h.swap2.head; unfold Rr.At at this; simpa [hL] using this)).2.2
  generalize hX1 : (X.setCell ⟨g, 0, none⟩ (.int .i64 (gI L (m - 1)))).setCell ⟨wb, r, none⟩ (.slice (some ⟨g, 0, none⟩) (m - 1) cp) = X1
  have hS1 : Rs B X1 (RI (.slice (some ⟨g, 0, none⟩) (m - 1) cp) ((L.set 0 (gI L (m - 1))).take (m - 1)) :: RH wb n c (us.set r (.slice (some ⟨g, 0, none⟩) (m - 1) cp)) :: l) := by
    rw [← hX1]
    exact ((h.swap2.seI hL 0 (gI L (m - 1))).swap2.seV hus r _).swap2.less (by simpa using hL) (by omega)
  have hK1 : Up0 B X X1 := by
    rw [← hX1]
    exact ((Up0.refl _ X).setCell (p := ⟨g, 0, none⟩) hgB.1 _).setCell (p := ⟨wb, r, none⟩) hwB.1 _
  have hlen : ((L.set 0 (gI L (m - 1))).take (m - 1)).length = m - 1 := by simp; omega
  have HTk : Hid (Calls Try.prog 43 #[.slice (some ⟨g, 0, none⟩) (m - 1) cp] X1 fun e X' => e = .returned (.tuple #[]) ∧ Rs B X' (RI (.slice (some ⟨g, 0, none⟩) (m - 1) cp) (tkF L) :: RH wb n c (us.set r (.slice (some ⟨g, 0, none⟩) (m - 1) cp)) :: l) ∧ Up0 B X1 X') := by
    show Calls _ _ _ _ _
    have := sink_any B g (m - 1) cp X1 _ _ hS1 hlen (by omega)
    rw [show m - 1 + 1 = L.length by omega] at this
    unfold tkF
    rw [hL] at this ⊢
    exact this
  have a3 : X1.cell? ⟨wb, r, none⟩ = some (.slice (some ⟨g, 0, none⟩) (m - 1) cp) := by
    have := hS1.swap2.geV (by simpa using hus) r hr
    rw [this, List.getD_eq_getElem?_getD, List.getElem?_set_self (by omega)]
    rfl
  have a4 : ∀ u, (X.setCell ⟨g, 0, none⟩ u).cell? ⟨wb, r, none⟩ = X.cell? ⟨wb, r, none⟩ := fun u => ((Kept.refl (fun k => k = g) X).setCell (p := ⟨g, 0, none⟩) (fun _ => rfl) u).cell (p := ⟨wb, r, none⟩) hwB.2 (fun e => hne e.symm)
  have f4 : ∀ u, (X.setCell ⟨g, 0, none⟩ u).frozen? ⟨wb, r, none⟩ = X.frozen? ⟨wb, r, none⟩ := fun u => ((Kept.refl (fun k => k = g) X).setCell (p := ⟨g, 0, none⟩) (fun _ => rfl) u).frozen (p := ⟨wb, r, none⟩) hwB.2 (fun e => hne e.symm)
  have HK1 : Hid (Up0 B X X1) := hK1
  have hm1 : (m : Int) - 1 = ((m - 1 : Nat) : Int) := by omega
  generalize hx : gI L 0 = x at *
  generalize hy : gI L (m - 1) = y at *
  clear hS1 hK1 h hu hlen hx hy
  generalize tkF L = Z at *
  go_enter Try.func42, Try.ntmps42
  go_wp2_with fail
  refine HTk.out.mono ?_
  rintro e X2 ⟨rfl, hR2, hK2⟩
  clear HTk
  go_wp2
  go_ret
  exact ⟨rfl, hR2.swap2, HK1.out.trans hK2⟩
end Go.Proofs.Ytjjpkidmlpmgaaa
