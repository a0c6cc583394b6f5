/-
  What stands at the top of a heap is brought down.
-/
import Derived.Test.YtjjpkidmlpmgaaaVoN
import Derived.Test.YtjjpkidmlpmgaaaMk2
namespace Go.Proofs.Ytjjpkidmlpmgaaa
open Go.RowKit Go.Lib Go.Maps

/-- Nothing older than B turns. -/
def Up0 (B : Nat) (w w' : World) : Prop := Kept (fun k => B ≤ k) w w' ∧ ∀ (k : Nat) (es : Array MapEntry) (cl : Nat), w.heap[k]? = some (Obj.map es cl) → w'.heap[k]? = some (Obj.map es cl)
theorem Up0.refl (B : Nat) (w : World) : Up0 B w w := ⟨Kept.refl _ _, fun _ _ _ h => h⟩
theorem Up0.trans {B : Nat} {a b c : World} (h : Up0 B a b) (k : Up0 B b c) : Up0 B a c := ⟨h.1.trans k.1 (fun _ _ e => e), fun i es cl e => k.2 i es cl (h.2 i es cl e)⟩
theorem Up0.drewN {B : Nat} {a b : World} (h : Up0 B a b) (d : Nat) : Up0 B a (b.drewN d) := ⟨h.1.drewN d, h.2⟩
theorem Up0.alloc {B : Nat} {a b : World} (h : Up0 B a b) (o : Obj) : Up0 B a (b.alloc o) := ⟨h.1.alloc o, fun i es cl e => by
  have h1 := h.2 i es cl e
  rw [Below.heap_alloc _ _ _ (lt_of_heap h1)]
  exact h1⟩
theorem Up0.setCell {B : Nat} {a b : World} (h : Up0 B a b) {p : Addr} (hp : B ≤ p.block) (u : Value) : Up0 B a (b.setCell p u) := ⟨h.1.setCell (fun _ => hp) u, fun i es cl e => by
  have h1 := h.2 i es cl e
  by_cases hi : p.block = i
  · unfold World.setCell
    subst hi
    show (b.heap.modify p.block _)[p.block]? = _
    rw [Array.getElem?_modify, if_pos rfl, h1]
    rfl
  · rw [Below.heap_setCell _ _ _ _ (fun e => hi e.symm)]
    exact h1⟩
/-- What turns cells alone. -/
theorem Up0.of {B : Nat} {S : Nat → Prop} {a b : World} (h : Kept S a b) (hS : ∀ k, S k → B ≤ k ∧ ∀ es cl, a.heap[k]? ≠ some (.map es cl)) : Up0 B a b :=
  ⟨h.mono (fun k _ e => (hS k e).1), fun k es cl e => h.at e (fun hs => (hS k hs).2 es cl e)⟩
theorem Up0.map {B : Nat} {a b : World} (h : Up0 B a b) {k : Nat} {es : Array MapEntry} {cl : Nat} (e : a.heap[k]? = some (.map es cl)) : b.heap[k]? = some (.map es cl) := h.2 k es cl e
abbrev RI (v : Value) (L : List Int) : Rr := RK .i64 3 v L
theorem Rs.frozen {B g n c : Nat} {X : World} {T : TypeId} {xs : List Value} {l : List Rr} (h : Rs B X (⟨T, .slice (some ⟨g, 0, none⟩) n c, xs⟩ :: l)) (i : Nat) : X.frozen? ⟨g, i, none⟩ = false := by
  rcases h.head.2 with ⟨e, _⟩ | ⟨g', cap', cur, hv, hb, hh, _⟩
  · cases e
  · have hv' : Value.slice (some ⟨g, 0, none⟩) n c = .slice (some ⟨g', 0, none⟩) xs.length cap' := hv
    cases hv'
    unfold World.frozen?
    rw [hh]
    simp
theorem Rs.geI {B g n c : Nat} {X : World} {L : List Int} {l : List Rr} (h : Rs B X (RI (.slice (some ⟨g, 0, none⟩) n c) L :: l)) (hn : L.length = n) (i : Nat) (hi : i < n) : X.cell? ⟨g, i, none⟩ = some (.int .i64 (gI L i)) := by
  have h1 : X.ownsRow B 3 1 (.slice (some ⟨g, 0, none⟩) n c) n (L.map (Value.int .i64)) := by have := h.head; unfold Rr.At at this; simpa [hn] using this
  exact own_get h1 i hi
theorem Rs.seI {B g n c : Nat} {X : World} {L : List Int} {l : List Rr} (h : Rs B X (RI (.slice (some ⟨g, 0, none⟩) n c) L :: l)) (hn : L.length = n) (i : Nat) (x : Int) : Rs B (X.setCell ⟨g, i, none⟩ (.int .i64 x)) (RI (.slice (some ⟨g, 0, none⟩) n c) (L.set i x) :: l) := by
  have := h.store (i := i) (u := .int .i64 x) (by simpa using hn)
  rw [← List.map_set] at this
  exact this
theorem Rs.ge {B g n c : Nat} {X : World} {T : TypeId} {xs : List Value} {l : List Rr} (h : Rs B X (⟨T, .slice (some ⟨g, 0, none⟩) n c, xs⟩ :: l)) : B ≤ g ∧ g < X.heap.size := h.head.lt rfl
theorem Rs.swI {B g n c : Nat} {X : World} {L : List Int} {l : List Rr} (h : Rs B X (RI (.slice (some ⟨g, 0, none⟩) n c) L :: l)) (hn : L.length = n) (i j : Nat) : Rs B ((X.setCell ⟨g, i, none⟩ (.int .i64 (gI L j))).setCell ⟨g, j, none⟩ (.int .i64 (gI L i))) (RI (.slice (some ⟨g, 0, none⟩) n c) (swp L i j) :: l) :=
  (h.seI hn i _).seI (by simpa using hn) j _
theorem wrap_i64' {x : Int} (h1 : -9223372036854775808 ≤ x) (h2 : x ≤ 9223372036854775807) : IntKind.i64.wrap x = x := by rw [IntKind.wrap_i64]; omega
theorem Rs.drewN {B : Nat} {X : World} {l : List Rr} (h : Rs B X l) (d : Nat) : Rs B (X.drewN d) l := h.fresh (kept_drewN _ _ _)

set_option maxHeartbeats 1000000 in
set_option maxRecDepth 100000 in
theorem sink_any (B g n c : Nat) (X : World) (L : List Int) (l : List Rr) (h : Rs B X (RI (.slice (some ⟨g, 0, none⟩) n c) L :: l)) (hn : L.length = n) (hb : n ≤ 70368744177664) :
    Calls Try.prog 43 #[.slice (some ⟨g, 0, none⟩) n c] X fun e X' => e = .returned (.tuple #[]) ∧ Rs B X' (RI (.slice (some ⟨g, 0, none⟩) n c) (dnF (n + 1) L 0) :: l) ∧ Up0 B X X' := by
  have HR : Hid (Rs B X (RI (.slice (some ⟨g, 0, none⟩) n c) L :: l)) := h
  generalize hF : dnF (n + 1) L 0 = F
  have HF : Hid (dnF (n + 1) L 0 = F) := hF
  have HL : Hid (L.length = n) := hn
  clear h hF hn
  go_enter Try.func43, Try.ntmps43
  go_wp2
  go_loopw [2] (fun iv wr => ∃ (i m : Nat) (L' : List Int), i ≤ n ∧ n - i < m ∧ iv = zV i ∧ Hid (Rs B wr (RI (.slice (some ⟨g, 0, none⟩) n c) L' :: l) ∧ L'.length = n ∧ dnF m L' i = F ∧ Up0 B X wr)) (fun iv _ => n - (RowKit.intOf iv).toNat)
  case atStart => exact ⟨0, n + 1, L, Nat.zero_le _, by omega, rfl, HR.out, HL.out, HF.out, Up0.refl _ _⟩
  case round =>
    obtain ⟨i, m, L', hi, hm, rfl, HA⟩ := hrel
    clear HR HF HL L
    have hfr := HA.out.1.frozen
    have hge := HA.out.1.ge.1
    have hLn := HA.out.2.1
    have hstep := HA.out.2.2.1
    obtain ⟨m, rfl⟩ : ∃ k, m = k + 1 := ⟨m - 1, by omega⟩
    unfold dnF at hstep
    rw [hLn] at hstep
    have hci := fun (e : i < n) => HA.out.1.geI hLn i e
    have hc1 := fun (e : 2 * i + 1 < n) => HA.out.1.geI hLn (2 * i + 1) e
    have hc2 := fun (e : 2 * i + 1 + 1 < n) => HA.out.1.geI hLn (2 * i + 1 + 1) e
    have HSw : Hid (∀ j, Rs B ((wr.setCell ⟨g, i, none⟩ (.int .i64 (gI L' j))).setCell ⟨g, j, none⟩ (.int .i64 (gI L' i))) (RI (.slice (some ⟨g, 0, none⟩) n c) (swp L' i j) :: l)) := fun j => HA.out.1.swI hLn i j
    by_cases h1 : 2 * i + 1 + 1 < n
    · by_cases h2 : gI L' (2 * i + 1 + 1) < gI L' (2 * i + 1)
      · have hch : chd L' i = 2 * i + 1 + 1 := by unfold chd; rw [if_pos ⟨by omega, h2⟩]
        rw [hch] at hstep
        by_cases h4 : n ≤ 2 * i + 1 + 1
        · exact absurd h4 (by omega)
        · rw [if_neg h4] at hstep
          have a0 := hci (by omega)
          have a1 := hc1 (by omega)
          have a2 := hc2 h1
          clear hci hc1 hc2
          have d2 : decide ((n : Int) ≤ 2 * (i : Int) + 1 + 1) = false := by simp; omega
          by_cases h3 : gI L' i ≤ gI L' (2 * i + 1 + 1)
          · have HE : Hid (Rs B wr (RI (.slice (some ⟨g, 0, none⟩) n c) F :: l)) := by rw [if_pos h3] at hstep; rw [← hstep]; exact HA.out.1
            have HK : Hid (Up0 B X wr) := HA.out.2.2.2
            clear hstep hch HSw HA
            have w2 : IntKind.i64.wrap (2 * (i : Int) + 1 + 1) = 2 * (i : Int) + 1 + 1 := wrap_i64' (by omega) (by omega)
            have w1 : IntKind.i64.wrap (2 * (i : Int) + 1) = 2 * (i : Int) + 1 := wrap_i64' (by omega) (by omega)
            have d1 : decide (2 * (i : Int) + 1 + 1 < (n : Int)) = true := by simp; omega
            have t1 : (2 * (i : Int) + 1).toNat = 2 * i + 1 := by omega
            have t2 : (2 * (i : Int) + 1 + 1).toNat = 2 * i + 1 + 1 := by omega
            generalize gI L' i = x0 at *
            generalize gI L' (2 * i + 1) = x1 at *
            generalize gI L' (2 * i + 1 + 1) = x2 at *
            have d5 : decide (x2 < x1) = true := by simpa using h2
            have d3 : decide (x0 ≤ x2) = true := by simpa using h3
            go_wp2_with fail
            go_quiet (fail)
            generalize nq = n1
            go_wp2_with fail
            go_quiet (fail)
            generalize nq = n2
            go_wp2
            exact bodyPost_ret (results_none rfl _ _ _) rfl ⟨rfl, (HE.out.drewN _).drewN _, (HK.out.drewN _).drewN _⟩
          · rw [if_neg h3] at hstep
            have HS : Hid (dnF m (swp L' i (2 * i + 1 + 1)) (2 * i + 1 + 1) = F) := hstep
            have HS2 := show Hid _ from HSw.out (2 * i + 1 + 1)
            have HS3 : Hid ((swp L' i (2 * i + 1 + 1)).length = n) := by show _ = _; rw [swp_len]; exact hLn
            have HK : Hid (∀ u u', Up0 B X ((wr.setCell ⟨g, i, none⟩ u).setCell ⟨g, 2 * i + 1 + 1, none⟩ u')) := fun u u' => (HA.out.2.2.2.setCell (p := ⟨g, i, none⟩) hge u).setCell (p := ⟨g, 2 * i + 1 + 1, none⟩) hge u'
            clear hstep hch HSw HA
            have w2 : IntKind.i64.wrap (2 * (i : Int) + 1 + 1) = 2 * (i : Int) + 1 + 1 := wrap_i64' (by omega) (by omega)
            have w1 : IntKind.i64.wrap (2 * (i : Int) + 1) = 2 * (i : Int) + 1 := wrap_i64' (by omega) (by omega)
            have d1 : decide (2 * (i : Int) + 1 + 1 < (n : Int)) = true := by simp; omega
            have t1 : (2 * (i : Int) + 1).toNat = 2 * i + 1 := by omega
            have t2 : (2 * (i : Int) + 1 + 1).toNat = 2 * i + 1 + 1 := by omega
            generalize hsw : swp L' i (2 * i + 1 + 1) = Z at *
            clear hsw
            generalize gI L' i = x0 at *
            generalize gI L' (2 * i + 1) = x1 at *
            generalize gI L' (2 * i + 1 + 1) = x2 at *
            have d5 : decide (x2 < x1) = true := by simpa using h2
            have d3 : decide (x0 ≤ x2) = false := by simpa using h3
            have fi := hfr i
            have fc := hfr (2 * i + 1 + 1)
            go_wp2_with fail
            go_quiet (fail)
            generalize nq = n1
            go_wp2_with fail
            go_quiet (fail)
            generalize nq = n2
            go_wp2_with fail
            go_region
            go_wp2
            go_roundw
            case rel => exact ⟨2 * i + 1 + 1, m, Z, by omega, by omega, by go_num, HS2.out.drewN _, HS3.out, HS.out, (HK.out _ _).drewN _⟩
            case measure => simp [RowKit.intOf]; omega
      · have hch : chd L' i = 2 * i + 1 := by unfold chd; rw [if_neg (fun e => h2 e.2)]
        rw [hch] at hstep
        by_cases h4 : n ≤ 2 * i + 1
        · exact absurd h4 (by omega)
        · rw [if_neg h4] at hstep
          have a0 := hci (by omega)
          have a1 := hc1 (by omega)
          have a2 := hc2 h1
          clear hci hc1 hc2
          have d2 : decide ((n : Int) ≤ 2 * (i : Int) + 1) = false := by simp; omega
          by_cases h3 : gI L' i ≤ gI L' (2 * i + 1)
          · have HE : Hid (Rs B wr (RI (.slice (some ⟨g, 0, none⟩) n c) F :: l)) := by rw [if_pos h3] at hstep; rw [← hstep]; exact HA.out.1
            have HK : Hid (Up0 B X wr) := HA.out.2.2.2
            clear hstep hch HSw HA
            have w2 : IntKind.i64.wrap (2 * (i : Int) + 1 + 1) = 2 * (i : Int) + 1 + 1 := wrap_i64' (by omega) (by omega)
            have w1 : IntKind.i64.wrap (2 * (i : Int) + 1) = 2 * (i : Int) + 1 := wrap_i64' (by omega) (by omega)
            have d1 : decide (2 * (i : Int) + 1 + 1 < (n : Int)) = true := by simp; omega
            have t1 : (2 * (i : Int) + 1).toNat = 2 * i + 1 := by omega
            have t2 : (2 * (i : Int) + 1 + 1).toNat = 2 * i + 1 + 1 := by omega
            generalize gI L' i = x0 at *
            generalize gI L' (2 * i + 1) = x1 at *
            generalize gI L' (2 * i + 1 + 1) = x2 at *
            have d5 : decide (x2 < x1) = false := by simpa using h2
            have d3 : decide (x0 ≤ x1) = true := by simpa using h3
            go_wp2_with fail
            go_quiet (fail)
            generalize nq = n1
            go_wp2_with fail
            go_quiet (fail)
            generalize nq = n2
            go_wp2
            exact bodyPost_ret (results_none rfl _ _ _) rfl ⟨rfl, (HE.out.drewN _).drewN _, (HK.out.drewN _).drewN _⟩
          · rw [if_neg h3] at hstep
            have HS : Hid (dnF m (swp L' i (2 * i + 1)) (2 * i + 1) = F) := hstep
            have HS2 := show Hid _ from HSw.out (2 * i + 1)
            have HS3 : Hid ((swp L' i (2 * i + 1)).length = n) := by show _ = _; rw [swp_len]; exact hLn
            have HK : Hid (∀ u u', Up0 B X ((wr.setCell ⟨g, i, none⟩ u).setCell ⟨g, 2 * i + 1, none⟩ u')) := fun u u' => (HA.out.2.2.2.setCell (p := ⟨g, i, none⟩) hge u).setCell (p := ⟨g, 2 * i + 1, none⟩) hge u'
            clear hstep hch HSw HA
            have w2 : IntKind.i64.wrap (2 * (i : Int) + 1 + 1) = 2 * (i : Int) + 1 + 1 := wrap_i64' (by omega) (by omega)
            have w1 : IntKind.i64.wrap (2 * (i : Int) + 1) = 2 * (i : Int) + 1 := wrap_i64' (by omega) (by omega)
            have d1 : decide (2 * (i : Int) + 1 + 1 < (n : Int)) = true := by simp; omega
            have t1 : (2 * (i : Int) + 1).toNat = 2 * i + 1 := by omega
            have t2 : (2 * (i : Int) + 1 + 1).toNat = 2 * i + 1 + 1 := by omega
            generalize hsw : swp L' i (2 * i + 1) = Z at *
            clear hsw
            generalize gI L' i = x0 at *
            generalize gI L' (2 * i + 1) = x1 at *
            generalize gI L' (2 * i + 1 + 1) = x2 at *
            have d5 : decide (x2 < x1) = false := by simpa using h2
            have d3 : decide (x0 ≤ x1) = false := by simpa using h3
            have fi := hfr i
            have fc := hfr (2 * i + 1)
            go_wp2_with fail
            go_quiet (fail)
            generalize nq = n1
            go_wp2_with fail
            go_quiet (fail)
            generalize nq = n2
            go_wp2_with fail
            go_region
            go_wp2
            go_roundw
            case rel => exact ⟨2 * i + 1, m, Z, by omega, by omega, by go_num, HS2.out.drewN _, HS3.out, HS.out, (HK.out _ _).drewN _⟩
            case measure => simp [RowKit.intOf]; omega
    · have hch : chd L' i = 2 * i + 1 := by unfold chd; rw [if_neg (fun e => h1 (by omega))]
      rw [hch] at hstep
      by_cases h4 : n ≤ 2 * i + 1
      · have HE : Hid (Rs B wr (RI (.slice (some ⟨g, 0, none⟩) n c) F :: l)) := by rw [if_pos h4] at hstep; rw [← hstep]; exact HA.out.1
        have HK : Hid (Up0 B X wr) := HA.out.2.2.2
        clear hstep hch HSw HA
        have w2 : IntKind.i64.wrap (2 * (i : Int) + 1 + 1) = 2 * (i : Int) + 1 + 1 := wrap_i64' (by omega) (by omega)
        have w1 : IntKind.i64.wrap (2 * (i : Int) + 1) = 2 * (i : Int) + 1 := wrap_i64' (by omega) (by omega)
        have d1 : decide (2 * (i : Int) + 1 + 1 < (n : Int)) = false := by simp; omega
        have t1 : (2 * (i : Int) + 1).toNat = 2 * i + 1 := by omega
        have t2 : (2 * (i : Int) + 1 + 1).toNat = 2 * i + 1 + 1 := by omega
        generalize gI L' i = x0 at *
        generalize gI L' (2 * i + 1) = x1 at *
        generalize gI L' (2 * i + 1 + 1) = x2 at *
        have d2 : decide ((n : Int) ≤ 2 * (i : Int) + 1) = true := by simp; omega
        go_wp2_with fail
        go_quiet (fail)
        generalize nq = n1
        go_wp2_with fail
        go_quiet (fail)
        generalize nq = n2
        go_wp2
        exact bodyPost_ret (results_none rfl _ _ _) rfl ⟨rfl, (HE.out.drewN _).drewN _, (HK.out.drewN _).drewN _⟩
      · rw [if_neg h4] at hstep
        have a0 := hci (by omega)
        have a1 := hc1 (by omega)
        clear hci hc1 hc2
        have d2 : decide ((n : Int) ≤ 2 * (i : Int) + 1) = false := by simp; omega
        by_cases h3 : gI L' i ≤ gI L' (2 * i + 1)
        · have HE : Hid (Rs B wr (RI (.slice (some ⟨g, 0, none⟩) n c) F :: l)) := by rw [if_pos h3] at hstep; rw [← hstep]; exact HA.out.1
          have HK : Hid (Up0 B X wr) := HA.out.2.2.2
          clear hstep hch HSw HA
          have w2 : IntKind.i64.wrap (2 * (i : Int) + 1 + 1) = 2 * (i : Int) + 1 + 1 := wrap_i64' (by omega) (by omega)
          have w1 : IntKind.i64.wrap (2 * (i : Int) + 1) = 2 * (i : Int) + 1 := wrap_i64' (by omega) (by omega)
          have d1 : decide (2 * (i : Int) + 1 + 1 < (n : Int)) = false := by simp; omega
          have t1 : (2 * (i : Int) + 1).toNat = 2 * i + 1 := by omega
          have t2 : (2 * (i : Int) + 1 + 1).toNat = 2 * i + 1 + 1 := by omega
          generalize gI L' i = x0 at *
          generalize gI L' (2 * i + 1) = x1 at *
          generalize gI L' (2 * i + 1 + 1) = x2 at *
          have d3 : decide (x0 ≤ x1) = true := by simpa using h3
          go_wp2_with fail
          go_quiet (fail)
          generalize nq = n1
          go_wp2_with fail
          go_quiet (fail)
          generalize nq = n2
          go_wp2
          exact bodyPost_ret (results_none rfl _ _ _) rfl ⟨rfl, (HE.out.drewN _).drewN _, (HK.out.drewN _).drewN _⟩
        · rw [if_neg h3] at hstep
          have HS : Hid (dnF m (swp L' i (2 * i + 1)) (2 * i + 1) = F) := hstep
          have HS2 := show Hid _ from HSw.out (2 * i + 1)
          have HS3 : Hid ((swp L' i (2 * i + 1)).length = n) := by show _ = _; rw [swp_len]; exact hLn
          have HK : Hid (∀ u u', Up0 B X ((wr.setCell ⟨g, i, none⟩ u).setCell ⟨g, 2 * i + 1, none⟩ u')) := fun u u' => (HA.out.2.2.2.setCell (p := ⟨g, i, none⟩) hge u).setCell (p := ⟨g, 2 * i + 1, none⟩) hge u'
          clear hstep hch HSw HA
          have w2 : IntKind.i64.wrap (2 * (i : Int) + 1 + 1) = 2 * (i : Int) + 1 + 1 := wrap_i64' (by omega) (by omega)
          have w1 : IntKind.i64.wrap (2 * (i : Int) + 1) = 2 * (i : Int) + 1 := wrap_i64' (by omega) (by omega)
          have d1 : decide (2 * (i : Int) + 1 + 1 < (n : Int)) = false := by simp; omega
          have t1 : (2 * (i : Int) + 1).toNat = 2 * i + 1 := by omega
          have t2 : (2 * (i : Int) + 1 + 1).toNat = 2 * i + 1 + 1 := by omega
          generalize hsw : swp L' i (2 * i + 1) = Z at *
          clear hsw
          generalize gI L' i = x0 at *
          generalize gI L' (2 * i + 1) = x1 at *
          generalize gI L' (2 * i + 1 + 1) = x2 at *
          have d3 : decide (x0 ≤ x1) = false := by simpa using h3
          have fi := hfr i
          have fc := hfr (2 * i + 1)
          go_wp2_with fail
          go_quiet (fail)
          generalize nq = n1
          go_wp2_with fail
          go_quiet (fail)
          generalize nq = n2
          go_wp2_with fail
          go_region
          go_wp2
          go_roundw
          case rel => exact ⟨2 * i + 1, m, Z, by omega, by omega, by go_num, HS2.out.drewN _, HS3.out, HS.out, (HK.out _ _).drewN _⟩
          case measure => simp [RowKit.intOf]; omega
end Go.Proofs.Ytjjpkidmlpmgaaa
