/-
  What stands in a row, as a list of its own.
-/
import Derived.Test.YtjjpkidmlpmgaaaVoi
namespace Go.Proofs.Ytjjpkidmlpmgaaa
open Go.RowKit Go.Lib Go.Maps

theorem RwSt.fresh {B : Nat} {X X' : World} {s : Sc} {A : List Int} {M : List Mg} {mv : Value} {n : Nat} {us : List Value} {R : Ro} {ex : List Rr} (h : RwSt B X s A M mv n us R ex) (hk : Fresh X X') : RwSt B X' s A M mv n us R ex :=
  ⟨h.rs.fresh hk, h.km.kept hk (fun e => e), h.mg.kept hk (fun _ _ e => e), h.bA, h.bt, h.ba, h.bn, h.bu, h.bw, Nat.le_trans h.le hk.size, h.geM, h.okT⟩
theorem Up0.new {X X' : World} (h : Up0 X.heap.size X X') : Fresh X X' := h.1.mono (fun i hi e => by omega)
/-- What stands from a place on. -/
def tkL (R : Ro) (n : Nat) : Nat → Nat → List Int
  | 0, _ => []
  | f + 1, p => if p + 1 < n then gI R.t p :: tkL R n f (gI R.n p).toNat else []
theorem tkL_end {R : Ro} {n f p : Nat} (h : ¬ p + 1 < n) : tkL R n f p = [] := by
  cases f with
  | zero => rfl
  | succ f => unfold tkL; rw [if_neg h]
theorem tkL_len (R : Ro) (n : Nat) : ∀ (f p : Nat), (tkL R n f p).length ≤ f
  | 0, _ => Nat.le_refl _
  | f + 1, p => by
    unfold tkL
    split
    · have := tkL_len R n f (gI R.n p).toNat
      rw [List.length_cons]
      omega
    · exact Nat.zero_le _
theorem Rs.shapeI {B : Nat} {X : World} {v : Value} {L : List Int} {l : List Rr} (h : Rs B X (RI v L :: l)) : ∃ ao c, v = .slice ao L.length c := by
  obtain ⟨ao, c, e⟩ := ownsRow_shape (h.head : X.ownsRow B 3 1 v (L.map (Value.int .i64)).length (L.map (Value.int .i64)))
  rw [List.length_map] at e
  exact ⟨ao, c, e⟩
set_option maxHeartbeats 1000000 in
set_option maxRecDepth 100000 in
theorem tokens_any {B : Nat} {X : World} {s : Sc} {A : List Int} {M : List Mg} {mv : Value} {n : Nat} {us : List Value} {R : Ro} {ex : List Rr} (h : RwSt B X s A M mv n us R ex) (hI : Iv R n) (hn : n ≤ 1099511627776) :
    Calls Try.prog 35 #[.pointer (some ⟨s.rb, 0, none⟩)] X fun e X' => ∃ v, e = .returned v ∧ Rs X.heap.size X' [RI v (tkL R n n (gI R.n 0).toNat)] ∧ Fresh X X' := by
  have HS := show Hid _ from h
  have HI : Hid (Iv R n) := hI
  obtain ⟨r0, r1, _, r3⟩ := h.cR
  have n2 := hI.n2
  have h0 := hI.nx 0 (by omega)
  obtain ⟨p0, hp0⟩ : ∃ p : Nat, gI R.n 0 = (p : Int) := ⟨(gI R.n 0).toNat, by omega⟩
  have c0 := h.nxt.geI h.bn 0 (by omega)
  rw [hp0] at c0 h0
  rw [hp0, Int.toNat_natCast]
  have hp1 : p0 < n := by omega
  have h00 : 0 < n := by omega
  generalize hF : tkL R n n p0 = F
  have HF : Hid (tkL R n n p0 = F) := hF
  have HR0 : Hid (Rs X.heap.size X [RI nilV []]) := ⟨fun r hr => by simp at hr; subst hr; exact own_nil _ _ _, List.pairwise_singleton _ _⟩
  clear h hI hF
  go_enter Try.func35, Try.ntmps35
  go_wp2
  clear r0 r1 r3 c0 hp0
  go_loopw [3, 4] (fun lv pv wr => ∃ (p f c : Nat) (ao : Option Addr) (L : List Int), p < n ∧ n < p + f + 1 ∧ f ≤ n ∧ L.length + f ≤ n ∧ pv = zV p ∧ lv = .slice ao L.length c ∧ Hid (Rs X.heap.size wr [RI (.slice ao L.length c) L] ∧ L ++ tkL R n f p = F ∧ Up0 X.heap.size X wr)) (fun _ pv _ => n - (RowKit.intOf pv).toNat)
  case atStart => exact ⟨p0, n, 0, none, [], hp1, by omega, Nat.le_refl _, by simp, rfl, rfl, HR0.out, by rw [List.nil_append]; exact HF.out, Up0.refl _ _⟩
  case round =>
    obtain ⟨p, f, c, ao, L, hp, hf, hfn, hL, rfl, rfl, HA⟩ := hrel
    clear HR0 HF
    obtain ⟨f, rfl⟩ : ∃ g, f = g + 1 := ⟨f - 1, by omega⟩
    have hw := HS.out.fresh HA.out.2.2.new
    obtain ⟨r0, r1, _, r3⟩ := hw.cR
    have t0 := hw.tok.geI hw.bt p hp
    have n0 := hw.nxt.geI hw.bn p hp
    have Hw := show Hid _ from hw
    clear hw
    by_cases hlt : p + 1 < n
    · have hnx := HI.out.nx p hlt
      obtain ⟨q, hq⟩ : ∃ q : Nat, gI R.n p = (q : Int) := ⟨(gI R.n p).toNat, by omega⟩
      rw [hq] at hnx n0
      have hq1 : q < n := by omega
      have hpq : p < q := by omega
      have hlt' : (p : Int) < (n : Int) - 1 := by omega
      obtain ⟨g, c', W1, happ, hR1, hK1⟩ := HA.out.1.pushI tyI (gI R.t p) HA.out.2.2.1.size (by omega)
      have hstep := HA.out.2.1
      unfold tkL at hstep
      rw [if_pos hlt, hq, Int.toNat_natCast] at hstep
      have HR1 : Hid (Rs X.heap.size W1 [RI (.slice (some ⟨g, 0, none⟩) (L ++ [gI R.t p]).length c') (L ++ [gI R.t p])] ∧ (L ++ [gI R.t p]) ++ tkL R n f q = F ∧ Up0 X.heap.size X W1) := by
        refine ⟨?_, by rw [List.append_assoc]; exact hstep, HA.out.2.2.trans hK1⟩
        rw [List.length_append]
        exact hR1
      have hl2 : (L ++ [gI R.t p]).length = L.length + 1 := by simp
      obtain ⟨k1, k2⟩ : W1.cell? ⟨s.nb, p, none⟩ = some (zV (q : Int)) ∧ W1.cell? ⟨s.rb, 3, none⟩ = some (sl s.nb n) := by
        have hw2 := HS.out.fresh (HA.out.2.2.trans hK1).new
        refine ⟨?_, hw2.cR.2.2.2⟩
        rw [hw2.nxt.geI hw2.bn p hp, hq]
      clear HA hR1 hK1 hstep Hw n0 r3
      generalize gI R.t p = x at *
      rw [hl2] at HR1
      generalize hLL : L ++ [x] = L1 at *
      generalize hll : L.length = m at *
      clear hLL hll
      go_wp2_with (at_builtin; refine Lib.wpList_append_run _ rfl _ _ _ _ rfl _ _ rfl rfl _ _ happ ?_)
      go_roundw
      case rel => exact ⟨q, f, c', some ⟨g, 0, none⟩, L1, hq1, by omega, by omega, by omega, by go_num, by rw [hl2], by rw [hl2]; exact HR1.out⟩
      case measure => simp [RowKit.intOf]; omega
    · have hlt' : ¬ (p : Int) < (n : Int) - 1 := by omega
      have HE : Hid (L = F) := by show _ = _; rw [← HA.out.2.1, tkL_end hlt, List.append_nil]
      clear Hw
      go_wp2
      go_ret
      exact ⟨_, rfl, by rw [← HE.out]; exact HA.out.1, HA.out.2.2.new⟩
end Go.Proofs.Ytjjpkidmlpmgaaa
