/-
  For all rows of bits the statement SingleMemory answers true: what Quantise answers is the caller's own; its card, tied to the program's text.
-/
import Derived.Test.YtmkaafnoanidpaaDoorSmA
import Derived.Deep.AppendLies
import Derived.BigQuiet
import Derived.Deep.QuietTactic
namespace Go.Proofs.YtmkaafnoanidpaaDoor.SMem
open Go.ChangeShapes Go.WideShapes Go.ChangeAt Go.RowKit R3 LQuant

/-- What the rows are marked with. -/
abbrev mk3 (m k : Nat) : List Int := List.replicate m ((k : Int) - 1)

set_option maxHeartbeats 2000000 in
set_option maxRecDepth 100000 in
theorem walk (rv : Value) (bs : List Nat) (w : World) (hS : Sing w) (hr : R32 (fun b => b < w.heap.size) w rv bs) :
    Calls Tryd.prog 7 #[rv] w fun r w' => r = .returned (.bool true) ∧ Fresh w w' := by
  obtain ⟨i8, hi8, h80, h81, h82⟩ := info_parts Tryd.info8'
  obtain ⟨iR, hiR, hR0, hR1, hR2⟩ := info_parts Tryd.infoR
  have HS := show Hid _ from hS
  have hzz := hr
  obtain ⟨ao, cap, rfl, hl, _, hz, _⟩ := hzz
  obtain ⟨tv, W1, hrun, hown1, hgrow⟩ := twin32 27 _ w.heap.size _ (own32_empty w) (by simp) _ bs _ (hr.kept ((Kept.refl (fun _ => False) _).alloc _) (fun _ _ e => e))
  have hkW : Fresh w W1 := ((Kept.refl _ _).alloc _).grown hgrow (fun k hk e => by simp [Value.ownBlock] at e; omega)
  have htw := r32_of_own hown1 hl hz
  have HR := show Hid _ from hr
  have HT := show Hid _ from htw
  have HL := show Hid _ from hl
  clear hown1 hgrow htw hr hz hS hl
  go_enter Tryd.func7, Tryd.ntmps7
  go_wp2_with (at_builtin; refine Lib.wpList_append_run _ rfl _ _ _ _ rfl _ _ rfl rfl _ _ hrun ?_)
  clear hrun
  refine (refQuantise_own _ _ _ _ HT.out).mono ?_
  rintro r W2 ⟨tv, e0, s0, zs, hq, rfl, h2, ho⟩
  have hFW : Fresh w W2 := hkW.trans h2 (fun _ _ e => e)
  have hqr := qn_range hq
  have HQ := show Hid _ from hq
  have HQZ : Hid (∀ z ∈ zs, -128 ≤ z ∧ z ≤ 127) := hqr.2
  have hzl : zs.length ≤ 35184372088832 := Nat.le_trans hqr.1 HL.out
  have hlt2 : ∀ g, tv.ownBlock = some g → g < W2.heap.size := fun g e => owns_lt ho e
  have htw2 : RowIs (fun _ => True) W2 tv zs := RowIs.mono (rowIs_of_own ho (by omega) hqr.2) (fun _ _ => trivial)
  have HT2 := show Hid _ from htw2
  have HFW := show Hid _ from hFW
  clear hq hqr htw2 hlt2 h2 ho hkW HT hFW
  obtain ⟨tao, tn, tcap, rfl⟩ : ∃ ao n cap, tv = .slice ao n cap := by
    obtain ⟨ao, cap, h, _⟩ := HT2.out
    exact ⟨ao, _, cap, h⟩
  go_wp2_with fail
  go_loopw [6, 7] (fun kv i wr => ∃ j : Nat, j ≤ 3 ∧ i = .int .i64 j ∧ ∃ af : Nat → Option Addr, wr.ownsRow W2.heap.size 28 1 kv j ((List.range j).map fun t => sl (af t) zs.length) ∧ (∀ t, t < j → wr.ownsRow W2.heap.size 37 1 (sl (af t) zs.length) zs.length (c8 zs)) ∧ (∀ t u g, t < j → u < j → (sl (af t) zs.length).ownBlock = some g → (sl (af u) zs.length).ownBlock = some g → t = u) ∧ (∀ t g, t < j → kv.ownBlock = some g → (sl (af t) zs.length).ownBlock ≠ some g) ∧ Fresh W2 wr) (fun _ i _ => 3 - (intOf i).toNat)
  case atStart => exact ⟨0, by omega, rfl, fun _ => none, ⟨rfl, .inr ⟨W2.heap.size, 0, #[], rfl, Nat.le_refl _, heap_alloc_new W2 _, Nat.le_refl _, Nat.zero_le _, rfl, rfl⟩⟩, fun t ht => by omega, fun t u g ht => by omega, fun t g ht => by omega, (Kept.refl _ _).alloc _⟩
  case round =>
    obtain ⟨j, hj, rfl, af, hown, hrw, hinj, hoff, hfr⟩ := hrel
    by_cases hlt : j < 3
    · have hfw : Fresh w wr := HFW.out.trans hfr (fun _ _ e => e)
      go_wp2_with fail
      refine (Quantise_own _ _ _ _ (Sing.fresh HS.out hfw) (R32.kept HR.out hfw (fun _ _ e => e))).mono ?_
      rintro r w4 ⟨v, e1, s1, zs1, hq1, rfl, hk5, hv⟩
      obtain ⟨rfl, rfl, rfl⟩ := qn_unique HQ.out hq1
      obtain ⟨ga, rfl, ho4, hgB⟩ := made_row hv
      have hrA : RowIs (fun _ => True) w4 (sl ga zs.length) zs := RowIs.mono (rowIs_of_own ho4 (by omega) HQZ.out) (fun _ _ => trivial)
      have hrT : RowIs (fun _ => True) w4 (.slice tao tn tcap) zs := RowIs.kept (RowIs.kept HT2.out hfr (fun _ _ e => e)) hk5 (fun _ _ e => e)
      clear hv hq1
      go_wp2_with fail
      refine (rows_any _ _ _ _ zs zs _ hrA hrT).mono ?_
      rintro r w5 ⟨rfl, n5, h5⟩
      rw [show decide (zs = zs) = true from by simp]
      have hk6 : Fresh w4 w5 := by rw [h5]; exact ⟨rfl, rfl, rfl, Nat.le_refl _, fun _ _ _ => rfl⟩
      have hk7 : Fresh wr w5 := hk5.trans hk6 (fun _ _ e => e)
      have ho5 : w5.ownsRow W2.heap.size 37 1 (sl ga zs.length) zs.length (c8 zs) := owns_kept (own_low ho4 hfr.size) hk6 (fun _ _ e => e)
      have hgl : ∀ g, (sl ga zs.length).ownBlock = some g → g < w5.heap.size := fun g e => owns_lt ho5 e
      have hown5 := owns_kept hown hk7 (fun _ _ e => e)
      have hkl : ∀ k, u6.ownBlock = some k → k < wr.heap.size := fun k e => owns_lt hown e
      have hfr5 : Fresh W2 w5 := hfr.trans hk7 (fun _ _ e => e)
      have hrw5 : ∀ t, t < j → w5.ownsRow W2.heap.size 37 1 (sl (af t) zs.length) zs.length (c8 zs) := fun t ht => owns_kept (hrw t ht) hk7 (fun _ _ e => e)
      have hbl : ∀ t g, t < j → (sl (af t) zs.length).ownBlock = some g → g < wr.heap.size := fun t g ht e => owns_lt (hrw t ht) e
      clear h5 hk6 hk5 hrT hrA ho4 hown hrw
      have hW5 := hfr5.size
      go_wp2_with (at_builtin; refine wpList_append_lies _ rfl _ _ _ rfl W2.heap.size 28 iR _ 1 24 Tryd.underlying44 hiR hR0 hR1 hR2 rfl (by omega) u6 _ _ rfl (hown5.alloc _) ⟨w5.heap.size, 0, none⟩ 1 1 [sl ga zs.length] rfl rfl (World.news_of_block (cs := #[sl ga zs.length]) (t := 28) (fr := (0, 0)) (heap_alloc_new w5 _)) (by simp [Value.oneCell']) (by omega) (by unfold maxLen; omega) (by omega) (by simp; omega) (w5.heap.size + 1) (by simp) ?_; intro g1 cap1 w6 hown6 hgrow hat hlt6)
      have hk8 : Kept (fun k => u6.ownBlock = some k) w5 w6 := ((Kept.refl _ w5).alloc _).grown hgrow (fun k _ e => e)
      have hr6 : Fresh W2 w6 := fresh_grown hfr5 hown5 (Nat.le_refl _) hgrow
      have hg1 : g1 < wr.heap.size ∨ g1 = w5.heap.size + 1 := by rcases hat with e | e; exact .inl (hkl _ e); exact .inr e
      have hk7s := hk7.size
      have hrel : ∃ j' : Nat, j' ≤ 3 ∧ (Value.int .i64 ((j : Int) + 1)) = .int .i64 j' ∧ ∃ af : Nat → Option Addr, w6.ownsRow W2.heap.size 28 1 (.slice (some ⟨g1, 0, none⟩) (j + 1) cap1) j' ((List.range j').map fun t => sl (af t) zs.length) ∧ (∀ t, t < j' → w6.ownsRow W2.heap.size 37 1 (sl (af t) zs.length) zs.length (c8 zs)) ∧ (∀ t u g, t < j' → u < j' → (sl (af t) zs.length).ownBlock = some g → (sl (af u) zs.length).ownBlock = some g → t = u) ∧ (∀ t g, t < j' → (Value.slice (some ⟨g1, 0, none⟩) (j + 1) cap1).ownBlock = some g → (sl (af t) zs.length).ownBlock ≠ some g) ∧ Fresh W2 w6 := by
        refine ⟨j + 1, by omega, by simp, fun t => if t = j then ga else af t, ?_, fun t ht => ?_, fun t u g ht hu e f => ?_, fun t g ht eg e => ?_, hr6⟩
        · rw [← rng_next j zs.length ga af] at hown6
          exact hown6
        · by_cases e : t = j
          · simp only [if_pos e]
            exact owns_kept ho5 hk8 (fun g eg e' => by have h1 := hkl _ e'; have h2 := hgB g eg; omega)
          · simp only [if_neg e]
            exact owns_kept (hrw5 t (by omega)) hk8 (fun g eg e' => hoff t g (by omega) e' eg)
        · by_cases e1 : t = j <;> by_cases e2 : u = j
          · omega
          · simp only [if_pos e1, if_neg e2] at e f
            have h1 := hgB g e
            have h2 := hbl u g (by omega) f
            omega
          · simp only [if_neg e1, if_pos e2] at e f
            have h1 := hgB g f
            have h2 := hbl t g (by omega) e
            omega
          · simp only [if_neg e1, if_neg e2] at e f
            exact hinj t u g (by omega) (by omega) e f
        · have eg' : g1 = g := by simpa [Value.ownBlock] using eg
          subst eg'
          by_cases e1 : t = j
          · simp only [if_pos e1] at e
            have h1 := hgB _ e
            have h2 := hgl _ e
            omega
          · simp only [if_neg e1] at e
            have := hbl t _ (by omega) e
            rcases hat with h | h
            · exact hoff t _ (by omega) h e
            · omega
      have HRl := show Hid _ from hrel
      clear hrel hown6 hgrow hat hlt6 hk8 hr6
      go_roundw
      case rel => exact HRl.out
      case measure => simp [intOf]; omega
    · obtain rfl : j = 3 := by omega
      rw [show ((3 : Nat) : Int) = 3 from rfl]
      obtain ⟨kb, kcap, rfl, hkb, hK⟩ := K3.of hown hrw hinj hoff
      clear hown hrw hinj hoff
      go_wp2_with fail
      go_loopw [11] (fun c wq => ∃ t : Nat, t ≤ 3 ∧ c = .int .i64 t ∧ ∃ f, K3 W2.heap.size wq kb af zs.length f ∧ (∀ k, k < t → f k = mk3 zs.length k) ∧ Fresh W2 wq) (fun c _ => 3 - (intOf c).toNat)
      case atStart => exact ⟨0, by omega, rfl, _, hK, fun k hk => by omega, hfr⟩
      case round =>
        obtain ⟨t, ht, rfl, f, hK, hf, hfr⟩ := hrel
        by_cases ht3 : t < 3
        · go_wp2_with fail
          go_loopw [12] (fun c wq => ∃ u : Nat, u ≤ zs.length ∧ c = .int .i64 u ∧ ∃ f, K3 W2.heap.size wq kb af zs.length f ∧ (∀ k, k < t → f k = mk3 zs.length k) ∧ (f t).take u = List.replicate u ((t : Int) - 1) ∧ Fresh W2 wq) (fun c _ => zs.length - (intOf c).toNat)
          case atStart => exact ⟨0, by omega, rfl, _, hK, hf, by simp, hfr⟩
          case round =>
            clear hK hf hfr
            obtain ⟨u, hu, rfl, f, hK, hf, htk, hfr⟩ := hrel
            have hc := hK.at_ t ht3
            have hi0 : (0 : Int) ≤ (t : Int) := by omega
            have hi1 : (t : Int) < 3 := by omega
            by_cases hlt2 : u < zs.length
            · obtain ⟨b, hb, hge, -⟩ := hK.blk t ht3 (by omega)
              obtain ⟨hcu, hfu⟩ := hK.cell t ht3 b hb u hlt2
              rw [hb] at hc
              have hj0 : (0 : Int) ≤ (u : Int) := by omega
              have hj1 : (u : Int) < (zs.length : Int) := by omega
              have r1 := hK.set t ht3 b hb u ((t : Int) - 1)
              have r2 : (f t).take u = List.replicate u ((t : Int) - 1) → ((f t).set u ((t : Int) - 1)).take (u + 1) = List.replicate (u + 1) ((t : Int) - 1) := take_set_next (by rw [hK.len t ht3]; exact hlt2)
              have r3 : Fresh W2 (wr.setCell ⟨b, u, none⟩ (.int .i8 ((t : Int) - 1))) := hfr.setCell (p := ⟨b, u, none⟩) (fun e => by simp at e; omega) _
              have HB := show Hid _ from hb
              clear hb
              go_wp2
              go_roundw
              case rel => exact ⟨u + 1, by omega, by go_num, _, r1, fun k hk => by rw [if_neg (by omega)]; exact hf k hk, by simp only [if_true]; exact r2 htk, r3⟩
              case measure => simp [intOf]; omega
            · obtain rfl : u = zs.length := by omega
              have hrt := hK.len t ht3
              rw [List.take_of_length_le (by omega)] at htk
              go_wp2
              go_roundw
              case rel => exact ⟨t + 1, by omega, by go_num, f, hK, fun k hk => by
                rcases Nat.lt_or_ge k t with e | e
                · exact hf k e
                · obtain rfl : k = t := by omega
                  exact htk, hfr⟩
              case measure => simp [intOf]; omega
        · obtain rfl : t = 3 := by omega
          rw [show ((3 : Nat) : Int) = 3 from rfl]
          have hK3 := hK.congr hf
          clear hK hf
          go_wp2_with fail
          go_loopw [13] (fun c wq => ∃ t : Nat, t ≤ 3 ∧ c = .int .i64 t ∧ K3 W2.heap.size wq kb af zs.length (mk3 zs.length) ∧ Fresh W2 wq) (fun c _ => 3 - (intOf c).toNat)
          case atStart => exact ⟨0, by omega, rfl, hK3, hfr⟩
          case round =>
            clear hK3 hfr
            obtain ⟨t, ht, rfl, hK, hfr⟩ := hrel
            by_cases ht3 : t < 3
            · have hc := hK.at_ t ht3
              have hi0 : (0 : Int) ≤ (t : Int) := by omega
              have hi1 : (t : Int) < 3 := by omega
              obtain ⟨X, hX⟩ : ∃ X, X = wr.heap.size := ⟨_, rfl⟩
              have hX1 : kb < X := by rw [hX]; exact hK.lt
              have hX2 : ∀ k g, k < 3 → (sl (af k) zs.length).ownBlock = some g → g < X := fun k g hk e => by rw [hX]; exact owns_lt (hK.row k hk) e
              have hX3 : W2.heap.size ≤ X := by rw [hX]; exact hfr.size
              have hX4 : X ≤ wr.heap.size := Nat.le_of_eq hX
              clear hX
              go_wp2_with fail
              go_loopw [14, 15] (fun g c wq => ∃ u : Nat, u ≤ 20 ∧ c = .int .i64 u ∧ (u = 0 ∧ g = sl (af t) zs.length ∨ 0 < u ∧ ∃ xs, wq.ownsRow X 37 1 g (zs.length + u) xs) ∧ K3 W2.heap.size wq kb af zs.length (mk3 zs.length) ∧ Fresh W2 wq ∧ X ≤ wq.heap.size) (fun _ c _ => 20 - (intOf c).toNat)
              case atStart => exact ⟨0, by omega, rfl, .inl ⟨rfl, rfl⟩, hK, hfr, hX4⟩
              case round =>
                clear hK hfr hX4 hc
                obtain ⟨u, hu, rfl, hg, hK, hfr, hX4⟩ := hrel
                by_cases hlt2 : u < 20
                · have hrt := hK.row t ht3
                  rcases hg with ⟨rfl, rfl⟩ | ⟨hu0, xs, hown⟩
                  · go_wp2_with (at_builtin; refine wpList_append_grows _ rfl _ _ _ rfl 37 i8 _ 1 1 Tryd.underlying28 hi8 h80 h81 h82 rfl (by omega) (af t) zs.length zs.length (c8 (mk3 zs.length t)) rfl (own_none hrt) (by simp) (own_cells (World.ownsRow.alloc hrt _)) ⟨wr.heap.size, 0, none⟩ 1 1 [.int .i8 77] rfl rfl (World.news_of_block (cs := #[.int .i8 77]) (t := 37) (fr := (0, 0)) (heap_alloc_new wr _)) (by simp [Value.oneCell']) (by omega) (by unfold maxLen; omega) (by omega) ?_; intro v1 w6 hown6 hgrow)
                    have k1 : Fresh wr w6 := ((Kept.refl _ wr).alloc _).grown hgrow (fun k _ e => by cases e)
                    have k2 : K3 W2.heap.size w6 kb af zs.length (mk3 zs.length) := hK.kept k1 (fun e => e) (fun _ _ _ _ e => e)
                    have k3 : Fresh W2 w6 := hfr.trans k1 (fun _ _ e => e)
                    have k4 : X ≤ w6.heap.size := Nat.le_trans hX4 k1.size
                    have k5 : ∃ xs, w6.ownsRow X 37 1 v1 (zs.length + 1) xs := ⟨_, own_low hown6 (by simp; omega)⟩
                    clear hown6 hgrow k1
                    go_roundw
                    case rel => exact ⟨1, by omega, by go_num, .inr ⟨by omega, k5⟩, k2, k3, k4⟩
                    case measure => simp [intOf]
                  · go_wp2_with (at_builtin; refine wpList_append_lies _ rfl _ _ _ rfl X 37 i8 _ 1 1 Tryd.underlying28 hi8 h80 h81 h82 rfl (by omega) u14 _ _ rfl (hown.alloc _) ⟨wr.heap.size, 0, none⟩ 1 1 [.int .i8 77] rfl rfl (World.news_of_block (cs := #[.int .i8 77]) (t := 37) (fr := (0, 0)) (heap_alloc_new wr _)) (by simp [Value.oneCell']) (by omega) (by unfold maxLen; omega) (by omega) (by simp; omega) (wr.heap.size + 1) (by simp) ?_; intro g1 cap1 w6 hown6 hgrow hat hlt6)
                    have hb5 : ∀ k, u14.ownBlock = some k → X ≤ k := fun k e => (World.ownsRow.lt hown k e).1
                    have k1 : Kept (fun k => X ≤ k) wr w6 := ((Kept.refl _ wr).alloc _).grown hgrow (fun k _ e => hb5 k e)
                    have k2 : K3 W2.heap.size w6 kb af zs.length (mk3 zs.length) := hK.kept k1 (fun e => by omega) (fun k g hk eg e => by have := hX2 k g hk eg; omega)
                    have k3 : Fresh W2 w6 := hfr.trans k1 (fun i hi e => by omega)
                    have k4 : X ≤ w6.heap.size := Nat.le_trans hX4 k1.size
                    have k5 : ∃ ys, w6.ownsRow X 37 1 (.slice (some ⟨g1, 0, none⟩) (zs.length + u + 1) cap1) (zs.length + (u + 1)) ys := ⟨_, hown6⟩
                    clear hown6 hgrow k1 hat hlt6
                    go_roundw
                    case rel => exact ⟨u + 1, by omega, by go_num, .inr ⟨by omega, k5⟩, k2, k3, k4⟩
                    case measure => simp [intOf]; omega
                · clear hg
                  go_wp2
                  go_roundw
                  case rel => exact ⟨t + 1, by omega, by go_num, hK, hfr⟩
                  case measure => simp [intOf]; omega
            · obtain rfl : t = 3 := by omega
              rw [show ((3 : Nat) : Int) = 3 from rfl]
              go_wp2_with fail
              go_loopw [16] (fun c wq => ∃ t : Nat, t ≤ 3 ∧ c = .int .i64 t ∧ K3 W2.heap.size wq kb af zs.length (mk3 zs.length) ∧ Fresh W2 wq) (fun c _ => 3 - (intOf c).toNat)
              case atStart => exact ⟨0, by omega, rfl, hK, hfr⟩
              case round =>
                clear hK hfr
                obtain ⟨t, ht, rfl, hK, hfr⟩ := hrel
                by_cases ht3 : t < 3
                · go_wp2_with fail
                  go_loopw [17] (fun c wq => ∃ u : Nat, u ≤ zs.length ∧ c = .int .i64 u ∧ K3 W2.heap.size wq kb af zs.length (mk3 zs.length) ∧ Fresh W2 wq) (fun c _ => zs.length - (intOf c).toNat)
                  case atStart => exact ⟨0, by omega, rfl, hK, hfr⟩
                  case round =>
                    clear hK hfr
                    obtain ⟨u, hu, rfl, hK, hfr⟩ := hrel
                    have hc := hK.at_ t ht3
                    have hi0 : (0 : Int) ≤ (t : Int) := by omega
                    have hi1 : (t : Int) < 3 := by omega
                    by_cases hlt2 : u < zs.length
                    · obtain ⟨b, hb, -⟩ := hK.blk t ht3 (by omega)
                      have hcu : wr.cell? ⟨b, u, none⟩ = some (.int .i8 ((t : Int) - 1)) := by
                        rw [(hK.cell t ht3 b hb u hlt2).1, List.getD_eq_getElem?_getD, List.getElem?_replicate, if_pos hlt2]
                        rfl
                      rw [hb] at hc
                      clear hb
                      have hj0 : (0 : Int) ≤ (u : Int) := by omega
                      have hj1 : (u : Int) < (zs.length : Int) := by omega
                      go_wp2
                      go_roundw
                      case rel => exact ⟨u + 1, by omega, by go_num, hK, hfr⟩
                      case measure => simp [intOf]; omega
                    · obtain rfl : u = zs.length := by omega
                      go_wp2
                      go_roundw
                      case rel => exact ⟨t + 1, by omega, by go_num, hK, hfr⟩
                      case measure => simp [intOf]; omega
                · obtain rfl : t = 3 := by omega
                  rw [show ((3 : Nat) : Int) = 3 from rfl]
                  clear hK
                  have hfw : Fresh w wr := HFW.out.trans hfr (fun _ _ e => e)
                  go_wp2_with fail
                  refine (Quantise_own _ _ _ _ (Sing.fresh HS.out hfw) (R32.kept HR.out hfw (fun _ _ e => e))).mono ?_
                  rintro r w4 ⟨v, e1, s1, zs1, hq1, rfl, hk5, hv⟩
                  obtain ⟨rfl, rfl, rfl⟩ := qn_unique HQ.out hq1
                  obtain ⟨ga, rfl, ho4, hgB⟩ := made_row hv
                  have hrA : RowIs (fun _ => True) w4 (sl ga zs.length) zs := RowIs.mono (rowIs_of_own ho4 (by omega) HQZ.out) (fun _ _ => trivial)
                  have hrT : RowIs (fun _ => True) w4 (.slice tao tn tcap) zs := RowIs.kept (RowIs.kept HT2.out hfr (fun _ _ e => e)) hk5 (fun _ _ e => e)
                  have hf4 : Fresh w w4 := hfw.trans hk5 (fun _ _ e => e)
                  clear hv hq1 ho4 hgB
                  go_wp2_with fail
                  refine (awake_any _ (Sing.fresh HS.out hf4)).mono ?_
                  rintro r w5 ⟨rfl, h5⟩
                  have hf5 : Fresh w w5 := hf4.trans h5 (fun _ _ e => e)
                  have hrA5 := RowIs.kept hrA h5 (fun _ _ e => e)
                  have hrT5 := RowIs.kept hrT h5 (fun _ _ e => e)
                  clear hrA hrT
                  go_wp2_with fail
                  refine (rows_any _ _ _ _ zs zs _ hrA5 hrT5).mono ?_
                  rintro r w6 ⟨rfl, n6, h6⟩
                  rw [show decide (zs = zs) = true from by simp]
                  have hf6 : Fresh w w6 := by rw [h6]; exact ⟨hf5.os, hf5.tape, hf5.output, hf5.size, hf5.block⟩
                  clear h6
                  go_wp2
                  go_ret
                  exact ⟨by simp, hf6⟩

theorem contract (H : Type) (enc : TypeId × Value → H) (W : World) (base : Nat) (args : Array Value) (ds gs : List (DataW H)) (before : List MemPlace)
    (hval : ∀ (j : Nat) t v, Tryd.f7.params[j]? = some t → args[j]? = some v → Value.okWide Tryd.prog W .any base t v)
    (hW : DataW.Whole enc Tryd.prog Tryd.f7.params.toList Rows.singleMemorySpec.vars false W args.toList ds gs before) 
    (hsz : (DataW.weightsEach Tryd.prog (Tryd.f7.params.toList ++ []) (ds ++ gs)).all (· ≤ reachBytes) = true) (hL : laidMetH Tryd.prog Rows.singleMemoryRow.laid W) :
    Calls Tryd.prog 7 args W fun e W' => ∃ v, e = .returned v ∧ Rows.singleMemorySpec.post enc Tryd.prog Tryd.f7 false true false false W args v W' := by
  have hW' := hW
  obtain ⟨p, q, hA0, hV, rfl, hfz, hnd⟩ := hW
  have hA : DataW.TrodAll enc Tryd.prog W 0 (fun _ => true) true Tryd.f7.params.toList args.toList ds p := hA0
  rw [Tryd.params7] at hA hval hsz
  obtain ⟨rfl, rfl⟩ := trodVars_none hV
  obtain ⟨v0, d0, rfl, rfl, h0⟩ := trodAll_one hA
  obtain ⟨ao, ln, cap, rfl⟩ := okWide_slice Tryd.underlying27 (hval 0 27 v0 rfl rfl)
  obtain ⟨fuel, hf⟩ := h0
  obtain ⟨bs, hr⟩ := r32_of (x := (d0, _)) hf (fun es sp e => by
    have e' : d0 = .slice es sp := e
    subst e'
    have := sized_slice hsz (j := 0) (t := 27) (e := 22) rfl rfl Tryd.underlying27
    rw [Tryd.b32] at this
    simp only [reachBytes] at this
    omega)
  refine (walk _ bs W (sing_of_laid hL (by simp [Rows.singleMemoryRow])) hr).mono fun e W' ⟨he, hk⟩ => ?_
  subst he
  exact ⟨_, rfl, post_law rfl (by kernel_rfl) (by kernel_rfl) hW' rfl hk⟩

theorem laid_met (os : Os) : laidMet Tryd.prog Rows.singleMemoryRow.laid ((layIn (World.holding Tryd.prog os ⟨#[], #[], []⟩)).forCall (fun _ _ => 0) ⟨#[], #[.slice none 0 0], []⟩).memory :=
  laidMet_of_run' 8 (by kernel_rfl) (by kernel_rfl)
theorem reads (os : Os) {H : Type} (enc : TypeId × Value → H) : ∃ places, DataW.whole enc Tryd.prog ((layIn (World.holding Tryd.prog os ⟨#[], #[], []⟩)).forCall (fun _ _ => 0) ⟨#[], #[.slice none 0 0], []⟩).memory Tryd.f7.params.toList Rows.singleMemorySpec.vars false (#[.slice none 0 0] : Array Value).toList 8 = some ([.nil], [], places) :=
  ⟨[], by kernel_rfl⟩

set_option maxRecDepth 100000 in
theorem lifted (os : Os) (started : os.Started) (H : Type) (enc : TypeId × Value → H) (F : Stop.Interp) :
    ReturnsInHanded {} Tryd.checked os 7 .any ((OpenSpec.ofChange Rows.singleMemorySpec).preRow enc Tryd.prog Tryd.f7 Rows.singleMemoryRow.domain false Rows.singleMemoryRow.laid) (((OpenSpec.ofChange Rows.singleMemorySpec).at F).post enc Tryd.prog Tryd.f7 false true false false) := by
  obtain ⟨places, hx⟩ := reads os enc
  refine returnsInHanded_of_row (C := Tryd.checked) (s := OpenSpec.ofChange Rows.singleMemorySpec) Tryd.own started (by kernel_rfl) Tryd.func7
    (witness_row_at (enc := enc) (C := Tryd.checked) false (layIn (World.holding Tryd.prog os ⟨#[], #[], []⟩)) #[.slice none 0 0] rfl (by kernel_rfl) (by kernel_rfl) (by kernel_rfl)
      (OpenSpec.preRow_of_cond 8 hx (by kernel_rfl) (fun k hk => by cases hk) (by kernel_rfl) (laid_met os))) ?_
  intro W base args ds gs before hval hW _ hc hsz hL _ _
  exact contract H enc W base args ds gs before hval hW hsz hL

theorem said : Rows.SingleMemorySaid :=
  OpenClaim.holds_of_cond 7 Tryd.f7 rfl rfl rfl rfl rfl rfl rfl ⟨rfl, rfl, rfl, rfl, rfl⟩ rfl rfl rfl rfl rfl (by kernel_rfl) Tryd.func7 (by kernel_rfl)
    (of_decide_eq_true (by kernel_rfl)) (by unfold Func.isWrapper; first | (rw [if_pos (by decide +kernel)]; kernel_rfl) | (rw [if_neg (by decide +kernel)]; exact ⟨rfl, rfl⟩))
    (fun os started H enc _ F => by rw [OpenClaim.pre_eq_preRow]; exact lifted os started H enc F)

theorem plain (f : FuncId) (fn : Func) (hf : Tryd.pinned.checked.prog.funcNamed Rows.singleMemoryRow.func = some f) (hfn : Tryd.pinned.checked.prog.funcs[f]? = some fn) :
    false = Tryd.pinned.checked.prog.looks [] ∧ ∀ (j : Nat) t, fn.params[j]? = some t → Tryd.pinned.checked.prog.wantsStandIn t = false := by
  obtain rfl : f = 7 := Option.some.inj ((show Tryd.prog.funcNamed Rows.singleMemoryRow.func = some 7 by kernel_rfl).symm.trans hf) |>.symm
  obtain rfl : fn = Tryd.f7 := (Option.some.inj (Tryd.func7.symm.trans hfn)).symm
  refine ⟨by kernel_rfl, fun j t ht => ?_⟩
  have hall : (Tryd.f7.params.toList.all fun u => !Tryd.prog.wantsStandIn u) = true := by kernel_rfl
  exact (show Tryd.prog.wantsStandIn t = false by simpa using List.all_eq_true.1 hall t (Array.mem_toList_iff.2 (Array.mem_of_getElem? ht)))

theorem card : Rows.SingleMemoryCardSaid :=
  Claim7.holds_tied_plain_at .later [] _ _ _ _ said (fun _ h => by cases h) (by kernel_rfl) (fun _ h => by cases h) singleMemory_row_tie rfl ⟨rfl, rfl⟩ (by kernel_rfl) rfl plain (by kernel_rfl)

end Go.Proofs.YtmkaafnoanidpaaDoor.SMem
namespace Go.Proofs.YtmkaafnoanidpaaDoor
theorem singleMemory_card : Rows.SingleMemoryCardSaid := SMem.card
end Go.Proofs.YtmkaafnoanidpaaDoor
