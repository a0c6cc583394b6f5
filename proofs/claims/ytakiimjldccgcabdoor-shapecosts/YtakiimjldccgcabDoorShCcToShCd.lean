/-
  What a model of a shape costs: the document's walk; the presets.
-/
import Derived.Test.YtakiimjldccgcabDoorShPlToShCb
import Derived.Test.YtakiimjldccgcabDoorShBToRgt
namespace Go.Proofs.YtakiimjldccgcabDoor
open Go.RowKit Go.Lib Go.Maps

theorem cstRSize : (Tryd.prog.info? 30).map (·.size) = some 4 := by kernel_rfl
set_option maxHeartbeats 2000000 in
set_option maxRecDepth 100000 in
theorem refCosts_any (s : Shp) (p : Int) (w : World) : Calls Tryd.prog 7 #[s.val, zV p] w fun e w' => e = .returned (.tuple #[.agg #[zV (csN s p), zV (csP s p), zV (csA s p), zV (csS s p)], zV (csE s p)]) ∧ Fresh w w' := by
  have HC : Hid (∀ X, Calls Tryd.prog 26 #[s.val] X fun e w' => e = .returned (zV (shE s)) ∧ Fresh X w') := fun X => (refCheck16_any s X).mono fun e w' ⟨h1, h2⟩ => ⟨h1, by rw [h2]; exact (Kept.refl _ X).alloc _⟩
  have HN : Hid (∀ X, _) := fun X => refNumbers_any s X
  have HBX := show Hid _ from box2 w #[zV s.v, zV s.c, zV s.d, zV s.h, zV s.l, zV s.n] #[zV 0, zV 0, zV 0, zV 0] 33 30
  have HX : Hid (∀ X, Fresh ((w.alloc (.cells #[zV s.v, zV s.c, zV s.d, zV s.h, zV s.l, zV s.n] 33)).alloc (.cells #[zV 0, zV 0, zV 0, zV 0] 30)) X → Fresh w X ∧ (X.cell? ⟨w.heap.size, 0, none⟩ = some (zV s.v) ∧ X.cell? ⟨w.heap.size, 1, none⟩ = some (zV s.c) ∧ X.cell? ⟨w.heap.size, 2, none⟩ = some (zV s.d) ∧ X.cell? ⟨w.heap.size, 3, none⟩ = some (zV s.h) ∧ X.cell? ⟨w.heap.size, 4, none⟩ = some (zV s.l) ∧ X.cell? ⟨w.heap.size, 5, none⟩ = some (zV s.n)) ∧ X.heap[w.heap.size + 1]? = some (.cells #[zV 0, zV 0, zV 0, zV 0] 30 (0, 0))) := fun X hX => by
    obtain ⟨h1, h2, h3⟩ := HBX.out X hX
    exact ⟨h1, ⟨by rw [Lib.cell_of_heap h2]; rfl, by rw [Lib.cell_of_heap h2]; rfl, by rw [Lib.cell_of_heap h2]; rfl, by rw [Lib.cell_of_heap h2]; rfl, by rw [Lib.cell_of_heap h2]; rfl, by rw [Lib.cell_of_heap h2]; rfl⟩, h3⟩
  have HZ : Hid (∀ X : World, X.heap[w.heap.size + 1]? = some (.cells #[zV 0, zV 0, zV 0, zV 0] 30 (0, 0)) → (∀ k, k < 4 → X.cell? ⟨w.heap.size + 1, k, none⟩ = some (zV 0)) ∧ ∀ k, X.frozen? ⟨w.heap.size + 1, k, none⟩ = false) := fun X h => ⟨fun k hk => by
    rw [Lib.cell_of_heap h]
    rcases (show k = 0 ∨ k = 1 ∨ k = 2 ∨ k = 3 by omega) with rfl | rfl | rfl | rfl <;> rfl, fun k => Lib.frozen_of_heap h k⟩
  clear HBX
  by_cases hE : csE s p = 0
  · obtain ⟨V, C, D, L, N, P, q, h⟩ := csh_of hE
    obtain ⟨b1, b2, b3, b4, b5, b6, b7⟩ := h.bounds
    rw [shE_ok h.r.ok] at HC HN
    rw [hE, h.n, h.p', h.a, h.s']
    have hp := h.hq
    subst hp
    have e1 : 2 * (D : Int) = ((2 * D : Nat) : Int) := by simp
    have e2 : ((2 * D : Nat) : Int) * (L : Int) = ((2 * D * L : Nat) : Int) := by simp
    have e3 : ((2 * D * L : Nat) : Int) * (q : Int) = ((L * (2 * D * q) : Nat) : Int) := by
      rw [← Int.natCast_mul, show 2 * D * L * q = L * (2 * D * q) by rw [Nat.mul_comm (2 * D) L, Nat.mul_assoc]]
    have e4 : 4 * (D : Int) = ((4 * D : Nat) : Int) := by simp
    have e5 : ((4 * D : Nat) : Int) * (D : Int) = ((4 * (D * D) : Nat) : Int) := by
      rw [← Int.natCast_mul, Nat.mul_assoc]
    have e6 : ((2 * D : Nat) : Int) * (q : Int) = ((2 * D * q : Nat) : Int) := by simp
    have e7 : 3 * (D : Int) = ((3 * D : Nat) : Int) := by simp
    have e8 : ((3 * D : Nat) : Int) * (N : Int) = ((3 * (N * D) : Nat) : Int) := by
      rw [← Int.natCast_mul, Nat.mul_assoc, Nat.mul_comm D N]
    have e9 : ((4 * (D * D) : Nat) : Int) + ((2 * D * q : Nat) : Int) + ((3 * (N * D) : Nat) : Int) = ((4 * (D * D) + 2 * D * q + 3 * (N * D) : Nat) : Int) := by simp
    have ea : (L : Int) * ((4 * (D * D) + 2 * D * q + 3 * (N * D) : Nat) : Int) = ((L * (4 * (D * D) + 2 * D * q + 3 * (N * D)) : Nat) : Int) := by simp
    have eb : (V : Int) * (D : Int) = ((V * D : Nat) : Int) := by simp
    obtain ⟨f1, f2, f3, f4, f5⟩ := And.intro h.r.v (And.intro h.r.c (And.intro h.r.d (And.intro h.r.l h.r.n)))
    have hl8 := h.r.l1
    have hd64 := h.r.d1
    have hqc := h.qc
    have hc5 := h.r.c1
    have h2dl : 2 * D * L ≤ 128 * 8 := nat_mul_le b1 hl8.2
    have h4d : 4 * (D * D) + 2 * D * q + 3 * (N * D) ≤ 131072 := by omega
    have h4e : 4 * (D * D) ≤ 16384 := by omega
    have h3e : 3 * (N * D) ≤ 49152 := by omega
    have h4f : 4 * D ≤ 256 := by omega
    have h3f : 3 * D ≤ 192 := by omega
    clear h hE
    generalize shN s = nn at *
    unfold Shp.val at *
    obtain ⟨sv1, sv2, sv3, hh, sv5, sv6⟩ := s
    simp only at f1 f2 f3 f4 f5 HC HN HX
    subst f1 f2 f3 f4 f5
    simp only
    generalize L * (2 * D * q) = P1 at *
    generalize L * (4 * (D * D) + 2 * D * q + 3 * (N * D)) = P2 at *
    generalize 4 * (D * D) + 2 * D * q + 3 * (N * D) = P3 at *
    generalize 2 * D * q = P4 at *
    generalize 2 * D * L = R1 at *
    generalize 2 * D = P5 at *
    generalize 4 * (D * D) = R3 at *
    generalize 3 * (N * D) = R5 at *
    generalize 4 * D = R2 at *
    generalize 3 * D = R4 at *
    generalize V * D = A1 at *
    have g1 : IntKind.i64.wrap (P5 : Int) = P5 := by rw [IntKind.wrap_i64]; omega
    have g2 : IntKind.i64.wrap (R1 : Int) = R1 := by rw [IntKind.wrap_i64]; omega
    have g3 : IntKind.i64.wrap (P1 : Int) = P1 := by rw [IntKind.wrap_i64]; omega
    have g4 : IntKind.i64.wrap (R2 : Int) = R2 := by rw [IntKind.wrap_i64]; omega
    have g5 : IntKind.i64.wrap (R3 : Int) = R3 := by rw [IntKind.wrap_i64]; omega
    have g6 : IntKind.i64.wrap (P4 : Int) = P4 := by rw [IntKind.wrap_i64]; omega
    have g7 : IntKind.i64.wrap ((R3 : Int) + (P4 : Int)) = (R3 : Int) + (P4 : Int) := by rw [IntKind.wrap_i64]; omega
    have g8 : IntKind.i64.wrap (R4 : Int) = R4 := by rw [IntKind.wrap_i64]; omega
    have g9 : IntKind.i64.wrap (R5 : Int) = R5 := by rw [IntKind.wrap_i64]; omega
    have ga : IntKind.i64.wrap (P3 : Int) = P3 := by rw [IntKind.wrap_i64]; omega
    have gb : IntKind.i64.wrap (P2 : Int) = P2 := by rw [IntKind.wrap_i64]; omega
    have gc : IntKind.i64.wrap (A1 : Int) = A1 := by rw [IntKind.wrap_i64]; omega
    have hn0 : ¬ (q : Int) < 0 := by omega
    have hn1 : ¬ (C : Int) < (q : Int) := by omega
    go_enter Tryd.func7, Tryd.ntmps7
    go_upto_region 1 with fail
    obtain ⟨_, ⟨c0, c1, c2, c3, c4, c5⟩, _⟩ := HX.out _ (Kept.refl _ _)
    generalize ((w.alloc (.cells #[zV (V : Int), zV (C : Int), zV (D : Int), zV hh, zV (L : Int), zV (N : Int)] 33)).alloc (.cells #[zV 0, zV 0, zV 0, zV 0] 30)) = W0 at *
    go_wp2_with fail
    refine Calls.mono (HC.out _) ?_
    rintro e X1 ⟨rfl, hf1⟩
    have HF1 : Hid (Fresh W0 X1) := hf1
    clear hf1 c0 c1 c2 c3 c4 c5 HC
    go_upto_region 3 with fail
    obtain ⟨_, ⟨c0, c1, c2, c3, c4, c5⟩, _⟩ := HX.out X1 HF1.out
    go_wp2_with fail
    refine Calls.mono (HN.out _) ?_
    rintro e X2 ⟨rfl, hf2⟩
    have HF2 : Hid (Fresh W0 X2) := HF1.out.trans hf2 (fun _ _ e => e)
    clear hf2 c0 c1 c2 c3 c4 c5 HN HF1
    go_upto_region 6 with fail
    obtain ⟨hfw, ⟨c0, c1, c2, c3, c4, c5⟩, hres⟩ := HX.out X2 HF2.out
    have HFZ := show Hid _ from hfw
    have HRS := show Hid _ from hres
    clear hfw hres
    have z0 := (HZ.out X2 HRS.out).1 0 (by omega)
    have z1 := (HZ.out X2 HRS.out).1 1 (by omega)
    have z2 := (HZ.out X2 HRS.out).1 2 (by omega)
    have z3 := (HZ.out X2 HRS.out).1 3 (by omega)
    have zf := (HZ.out X2 HRS.out).2
    clear HZ HX
    go_wp2
    exact ret_ct rfl (w.heap.size + 1) _ _ _ _ rfl (cost_ret HRS.out HFZ.out _ _ _ _).1 rfl rfl cstRSize rfl ⟨rfl, (cost_ret HRS.out HFZ.out _ _ _ _).2⟩
  · obtain ⟨n0, p0, a0, s0⟩ := cs_bad hE
    rw [n0, p0, a0, s0]
    cases hb : shB s with
    | false =>
      rw [csE_sh p hb]
      rw [shE_bad hb] at HC
      clear HN hE n0 p0 a0 s0 hb
      unfold Shp.val at *
      obtain ⟨sv1, sv2, sv3, hh, sv5, sv6⟩ := s
      simp only at HC HX ⊢
      go_enter Tryd.func7, Tryd.ntmps7
      go_upto_region 1 with fail
      obtain ⟨_, ⟨c0, c1, c2, c3, c4, c5⟩, _⟩ := HX.out _ (Kept.refl _ _)
      generalize ((w.alloc (.cells #[zV sv1, zV sv2, zV sv3, zV hh, zV sv5, zV sv6] 33)).alloc (.cells #[zV 0, zV 0, zV 0, zV 0] 30)) = W0 at *
      go_wp2_with fail
      refine Calls.mono (HC.out _) ?_
      rintro e X1 ⟨rfl, hf1⟩
      have HF1 : Hid (Fresh W0 X1) := hf1
      clear hf1 c0 c1 c2 c3 c4 c5 HC
      obtain ⟨hfw, _, hres⟩ := HX.out X1 HF1.out
      have HFZ := show Hid _ from hfw
      have HRS := show Hid _ from hres
      clear hfw hres
      have z0 := (HZ.out X1 HRS.out).1 0 (by omega)
      have z1 := (HZ.out X1 HRS.out).1 1 (by omega)
      have z2 := (HZ.out X1 HRS.out).1 2 (by omega)
      have z3 := (HZ.out X1 HRS.out).1 3 (by omega)
      have zf := (HZ.out X1 HRS.out).2
      clear HZ HX
      go_wp2
      exact ret_ct rfl (w.heap.size + 1) _ _ _ _ rfl (cost_ret HRS.out HFZ.out _ _ _ _).1 rfl rfl cstRSize rfl ⟨rfl, (cost_ret HRS.out HFZ.out _ _ _ _).2⟩
    | true =>
      have hout : ¬ (0 ≤ p ∧ p ≤ s.c) := fun h2 => hE (csE_in hb h2)
      rw [csE_out hb hout]
      rw [shE_ok hb] at HC
      clear HN hE n0 p0 a0 s0 hb
      by_cases hn0 : p < 0
      · clear hout
        unfold Shp.val at *
        obtain ⟨sv1, sv2, sv3, hh, sv5, sv6⟩ := s
        simp only at HC HX ⊢
        go_enter Tryd.func7, Tryd.ntmps7
        go_upto_region 1 with fail
        obtain ⟨_, ⟨c0, c1, c2, c3, c4, c5⟩, _⟩ := HX.out _ (Kept.refl _ _)
        generalize ((w.alloc (.cells #[zV sv1, zV sv2, zV sv3, zV hh, zV sv5, zV sv6] 33)).alloc (.cells #[zV 0, zV 0, zV 0, zV 0] 30)) = W0 at *
        go_wp2_with fail
        refine Calls.mono (HC.out _) ?_
        rintro e X1 ⟨rfl, hf1⟩
        have HF1 : Hid (Fresh W0 X1) := hf1
        clear hf1 c0 c1 c2 c3 c4 c5 HC
        obtain ⟨hfw, ⟨c0, c1, c2, c3, c4, c5⟩, hres⟩ := HX.out X1 HF1.out
        have HFZ := show Hid _ from hfw
        have HRS := show Hid _ from hres
        clear hfw hres
        have z0 := (HZ.out X1 HRS.out).1 0 (by omega)
        have z1 := (HZ.out X1 HRS.out).1 1 (by omega)
        have z2 := (HZ.out X1 HRS.out).1 2 (by omega)
        have z3 := (HZ.out X1 HRS.out).1 3 (by omega)
        have zf := (HZ.out X1 HRS.out).2
        clear HZ HX
        go_wp2
        exact ret_ct rfl (w.heap.size + 1) _ _ _ _ rfl (cost_ret HRS.out HFZ.out _ _ _ _).1 rfl rfl cstRSize rfl ⟨rfl, (cost_ret HRS.out HFZ.out _ _ _ _).2⟩
      · have hn1 : s.c < p := by omega
        clear hout
        unfold Shp.val at *
        obtain ⟨sv1, sv2, sv3, hh, sv5, sv6⟩ := s
        simp only at HC HX hn1 ⊢
        go_enter Tryd.func7, Tryd.ntmps7
        go_upto_region 1 with fail
        obtain ⟨_, ⟨c0, c1, c2, c3, c4, c5⟩, _⟩ := HX.out _ (Kept.refl _ _)
        generalize ((w.alloc (.cells #[zV sv1, zV sv2, zV sv3, zV hh, zV sv5, zV sv6] 33)).alloc (.cells #[zV 0, zV 0, zV 0, zV 0] 30)) = W0 at *
        go_wp2_with fail
        refine Calls.mono (HC.out _) ?_
        rintro e X1 ⟨rfl, hf1⟩
        have HF1 : Hid (Fresh W0 X1) := hf1
        clear hf1 c0 c1 c2 c3 c4 c5 HC
        obtain ⟨hfw, ⟨c0, c1, c2, c3, c4, c5⟩, hres⟩ := HX.out X1 HF1.out
        have HFZ := show Hid _ from hfw
        have HRS := show Hid _ from hres
        clear hfw hres
        have z0 := (HZ.out X1 HRS.out).1 0 (by omega)
        have z1 := (HZ.out X1 HRS.out).1 1 (by omega)
        have z2 := (HZ.out X1 HRS.out).1 2 (by omega)
        have z3 := (HZ.out X1 HRS.out).1 3 (by omega)
        have zf := (HZ.out X1 HRS.out).2
        clear HZ HX
        go_wp2
        exact ret_ct rfl (w.heap.size + 1) _ _ _ _ rfl (cost_ret HRS.out HFZ.out _ _ _ _).1 rfl rfl cstRSize rfl ⟨rfl, (cost_ret HRS.out HFZ.out _ _ _ _).2⟩
end Go.Proofs.YtakiimjldccgcabDoor

/-
  The presets.
-/
namespace Go.Proofs.YtakiimjldccgcabDoor
open Go.RowKit Go.Lib Go.Maps

def nTiny : ByteArray := ⟨#[116, 105, 110, 121]⟩
def nSmall : ByteArray := ⟨#[115, 109, 97, 108, 108]⟩
def nMedium : ByteArray := ⟨#[109, 101, 100, 105, 117, 109]⟩
def nLarge : ByteArray := ⟨#[108, 97, 114, 103, 101]⟩
/-- The preset of a name. -/
def psS (t : ByteArray) : Shp := if t = nTiny then ⟨3, 8, 2, 1, 1, 2⟩ else if t = nSmall then ⟨64, 64, 8, 2, 2, 16⟩ else if t = nMedium then ⟨256, 256, 32, 4, 4, 96⟩ else if t = nLarge then ⟨512, 512, 64, 8, 8, 256⟩ else ⟨0, 0, 0, 0, 0, 0⟩
def psE (t : ByteArray) : Int := if t = nTiny ∨ t = nSmall ∨ t = nMedium ∨ t = nLarge then 0 else 160
theorem ps_cases (t : ByteArray) : (t = nTiny ∧ psS t = ⟨3, 8, 2, 1, 1, 2⟩ ∧ psE t = 0) ∨ (t = nSmall ∧ psS t = ⟨64, 64, 8, 2, 2, 16⟩ ∧ psE t = 0) ∨ (t = nMedium ∧ psS t = ⟨256, 256, 32, 4, 4, 96⟩ ∧ psE t = 0) ∨ (t = nLarge ∧ psS t = ⟨512, 512, 64, 8, 8, 256⟩ ∧ psE t = 0) ∨ (t ≠ nTiny ∧ t ≠ nSmall ∧ t ≠ nMedium ∧ t ≠ nLarge ∧ psS t = ⟨0, 0, 0, 0, 0, 0⟩ ∧ psE t = 160) := by
  by_cases h1 : t = nTiny
  · exact .inl ⟨h1, if_pos h1, if_pos (.inl h1)⟩
  · by_cases h2 : t = nSmall
    · exact .inr (.inl ⟨h2, (if_neg h1).trans (if_pos h2), if_pos (.inr (.inl h2))⟩)
    · by_cases h3 : t = nMedium
      · exact .inr (.inr (.inl ⟨h3, ((if_neg h1).trans (if_neg h2)).trans (if_pos h3), if_pos (.inr (.inr (.inl h3)))⟩))
      · by_cases h4 : t = nLarge
        · exact .inr (.inr (.inr (.inl ⟨h4, (((if_neg h1).trans (if_neg h2)).trans (if_neg h3)).trans (if_pos h4), if_pos (.inr (.inr (.inr h4)))⟩)))
        · exact .inr (.inr (.inr (.inr ⟨h1, h2, h3, h4, (((if_neg h1).trans (if_neg h2)).trans (if_neg h3)).trans (if_neg h4), if_neg (fun e => by rcases e with e | e | e | e; exact h1 e; exact h2 e; exact h3 e; exact h4 e)⟩)))
theorem name_ne {t : ByteArray} {l : List UInt8} (h : t ≠ ⟨l.toArray⟩) : (t.toList == l) = false := beq_eq_false_iff_ne.2 (fun e => h (by
  rw [ByteArray.toList_eq] at e
  obtain ⟨a⟩ := t
  obtain ⟨b⟩ := a
  have e' : b = l := e
  rw [e']))
theorem shpRSize : (Tryd.prog.info? 33).map (·.size) = some 6 := by kernel_rfl
theorem shpPSize : (Tryd.prog.info? 23).map (·.size) = some 6 := by kernel_rfl
set_option maxHeartbeats 1000000 in
set_option maxRecDepth 100000 in
theorem Preset_any (t : ByteArray) (w : World) : Calls Tryd.prog 9 #[.string t] w fun e w' => e = .returned (.tuple #[(psS t).val, zV (psE t)]) ∧ Fresh w w' := by
  rcases ps_cases t with ⟨rfl, hs, he⟩ | ⟨rfl, hs, he⟩ | ⟨rfl, hs, he⟩ | ⟨rfl, hs, he⟩ | ⟨h1, h2, h3, h4, hs, he⟩
  · rw [hs, he]
    clear hs he
    unfold nTiny Shp.val
    simp only
    go_enter Tryd.func9, Tryd.ntmps9
    go_wp2
    exact ret_ct rfl w.heap.size _ _ _ _ rfl (heap_alloc_new w _) rfl rfl shpPSize rfl ⟨rfl, (Kept.refl _ w).alloc _⟩
  · rw [hs, he]
    clear hs he
    unfold nSmall Shp.val
    simp only
    go_enter Tryd.func9, Tryd.ntmps9
    go_wp2
    exact ret_ct rfl w.heap.size _ _ _ _ rfl (heap_alloc_new w _) rfl rfl shpPSize rfl ⟨rfl, (Kept.refl _ w).alloc _⟩
  · rw [hs, he]
    clear hs he
    unfold nMedium Shp.val
    simp only
    go_enter Tryd.func9, Tryd.ntmps9
    go_wp2
    exact ret_ct rfl w.heap.size _ _ _ _ rfl (heap_alloc_new w _) rfl rfl shpPSize rfl ⟨rfl, (Kept.refl _ w).alloc _⟩
  · rw [hs, he]
    clear hs he
    unfold nLarge Shp.val
    simp only
    go_enter Tryd.func9, Tryd.ntmps9
    go_wp2
    exact ret_ct rfl w.heap.size _ _ _ _ rfl (heap_alloc_new w _) rfl rfl shpPSize rfl ⟨rfl, (Kept.refl _ w).alloc _⟩
  · rw [hs, he]
    clear hs he
    unfold nTiny at h1
    unfold nSmall at h2
    unfold nMedium at h3
    unfold nLarge at h4
    have b1 := name_ne (l := [116, 105, 110, 121]) h1
    have b2 := name_ne (l := [115, 109, 97, 108, 108]) h2
    have b3 := name_ne (l := [109, 101, 100, 105, 117, 109]) h3
    have b4 := name_ne (l := [108, 97, 114, 103, 101]) h4
    unfold Shp.val
    simp only
    go_enter Tryd.func9, Tryd.ntmps9
    go_wp2
    exact ret_ct rfl w.heap.size _ _ _ _ rfl (heap_alloc_new w _) rfl rfl shpPSize rfl ⟨rfl, (Kept.refl _ w).alloc _⟩
set_option maxHeartbeats 1000000 in
set_option maxRecDepth 100000 in
theorem refPreset_any (t : ByteArray) (w : World) : Calls Tryd.prog 10 #[.string t] w fun e w' => e = .returned (.tuple #[(psS t).val, zV (psE t)]) ∧ Fresh w w' := by
  rcases ps_cases t with ⟨rfl, hs, he⟩ | ⟨rfl, hs, he⟩ | ⟨rfl, hs, he⟩ | ⟨rfl, hs, he⟩ | ⟨h1, h2, h3, h4, hs, he⟩
  · rw [hs, he]
    clear hs he
    unfold nTiny Shp.val
    simp only
    go_enter Tryd.func10, Tryd.ntmps10
    go_wp2
    exact ret_ct rfl w.heap.size _ _ _ _ rfl (heap_alloc_new w _) rfl rfl shpRSize rfl ⟨rfl, (Kept.refl _ w).alloc _⟩
  · rw [hs, he]
    clear hs he
    unfold nSmall Shp.val
    simp only
    go_enter Tryd.func10, Tryd.ntmps10
    go_wp2
    exact ret_ct rfl w.heap.size _ _ _ _ rfl (heap_alloc_new w _) rfl rfl shpRSize rfl ⟨rfl, (Kept.refl _ w).alloc _⟩
  · rw [hs, he]
    clear hs he
    unfold nMedium Shp.val
    simp only
    go_enter Tryd.func10, Tryd.ntmps10
    go_wp2
    exact ret_ct rfl w.heap.size _ _ _ _ rfl (heap_alloc_new w _) rfl rfl shpRSize rfl ⟨rfl, (Kept.refl _ w).alloc _⟩
  · rw [hs, he]
    clear hs he
    unfold nLarge Shp.val
    simp only
    go_enter Tryd.func10, Tryd.ntmps10
    go_wp2
    exact ret_ct rfl w.heap.size _ _ _ _ rfl (heap_alloc_new w _) rfl rfl shpRSize rfl ⟨rfl, (Kept.refl _ w).alloc _⟩
  · rw [hs, he]
    clear hs he
    unfold nTiny at h1
    unfold nSmall at h2
    unfold nMedium at h3
    unfold nLarge at h4
    have b1 := name_ne (l := [116, 105, 110, 121]) h1
    have b2 := name_ne (l := [115, 109, 97, 108, 108]) h2
    have b3 := name_ne (l := [109, 101, 100, 105, 117, 109]) h3
    have b4 := name_ne (l := [108, 97, 114, 103, 101]) h4
    unfold Shp.val
    simp only
    go_enter Tryd.func10, Tryd.ntmps10
    go_wp2
    exact ret_ct rfl w.heap.size _ _ _ _ rfl (heap_alloc_new w _) rfl rfl shpRSize rfl ⟨rfl, (Kept.refl _ w).alloc _⟩
end Go.Proofs.YtakiimjldccgcabDoor
