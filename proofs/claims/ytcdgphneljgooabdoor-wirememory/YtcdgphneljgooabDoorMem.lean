/-
  For every row l and every text behind, WireMemory answers true.
-/
import Derived.Test.YtcdgphneljgooabDoorMemA
import Derived.Test.YtcdgphneljgooabDoorSiz
import Derived.ArgAppend
import Derived.Test.YtcdgphneljgooabDoorOps
import Derived.BigQuiet
import Derived.Deep.QuietTactic
namespace Go.Proofs.YtcdgphneljgooabDoor.Memo
open Go.ChangeShapes Go.WideShapes Go.ChangeAt Go.RowKit

set_option maxHeartbeats 2000000 in
set_option maxRecDepth 100000 in
theorem walk (rv : Value) (zs : List Int) (s : ByteArray) (w : World) (hz : Siz w) (hr : RowIs (fun b => b < w.heap.size) w rv zs) (hs : s.size ≤ 140737488351232) :
    Calls Tryd.prog 4 #[rv, .string s] w fun e w' => e = .returned (.bool true) ∧ Fresh w w' := by
  obtain ⟨i8, hi8, h80, h81, h82⟩ := info_parts Tryd.info8
  obtain ⟨iR, hiR, hR0, hR1, hR2⟩ := info_parts Tryd.infoR
  go_enter Tryd.func4, Tryd.ntmps4
  go_wp2_with fail
  refine (awake_any _ hz).mono ?_
  rintro e w1 ⟨rfl, hk1⟩
  have hr1 := hr.kept hk1 (fun _ _ e => e)
  obtain ⟨tv, W1, hrun, hown1, hgrow⟩ := twin_own 22 _ w1.heap.size _ (own8_empty w1) (by simp) _ zs _ (hr1.kept ((Kept.refl (fun _ => False) _).alloc _) (fun _ _ e => e))
  have hkW : Fresh w1 W1 := ((Kept.refl _ _).alloc _).grown hgrow (fun k hk e => by simp [Value.ownBlock] at e; omega)
  have hzl : zs.length ≤ 140737488351232 := by obtain ⟨_, _, _, h, _⟩ := hr; exact h
  have hzr : ∀ z ∈ zs, -128 ≤ z ∧ z ≤ 127 := by obtain ⟨_, _, _, _, _, h, _⟩ := hr; exact h
  have htw : RowIs (fun k => w1.heap.size ≤ k ∧ k < W1.heap.size) W1 tv zs := by
    obtain ⟨ao, cap, h1, h2, h3, h4⟩ := rowIs_of_own hown1 hzl hzr
    exact ⟨ao, cap, h1, h2, fun h0 => let ⟨b, off, e1, e2, e3, e4⟩ := h3 h0; ⟨b, off, e1, ⟨e2, e3⟩, e3, e4⟩, h4⟩
  obtain ⟨tao, tcap, rfl⟩ : ∃ ao cap, tv = .slice ao zs.length cap := ownsRow_shape hown1
  obtain ⟨rao, rcap, rfl, -⟩ := hr1
  clear hr hgrow hown1
  go_wp2_with (at_builtin; refine Lib.wpList_append_run _ rfl _ _ _ _ rfl _ _ rfl rfl _ _ hrun ?_)
  clear hrun
  refine (refRow_any _ _ zs _ htw).mono ?_
  rintro e W2 ⟨rfl, hk2⟩
  have hFW : Fresh w W2 := (hk1.trans hkW (fun _ _ e => e)).trans hk2 (fun _ _ e => e)
  have htw2 : RowIs (fun k => k < W2.heap.size) W2 (.slice tao zs.length tcap) zs := (htw.kept hk2 (fun _ _ e => e)).mono (fun b hb => Nat.lt_of_lt_of_le hb.2 hk2.size)
  clear htw hk2 hkW hk1 hz
  have hxl : (⟨(zs.map b8).toArray⟩ : ByteArray).size = zs.length := by show (zs.map b8).toArray.size = _; simp
  have hsub := sub_head (zs.map b8) s
  rw [List.length_map] at hsub
  generalize (⟨(zs.map b8).toArray⟩ : ByteArray) = x at *
  have hys : (x ++ s).size ≤ 281474976710656 := by rw [ByteArray.size_append]; omega
  have hyl : zs.length ≤ (x ++ s).size := by rw [ByteArray.size_append]; omega
  go_wp2_with fail
  go_loopw [7, 8] (fun kv i wr => ∃ j : Nat, j ≤ 3 ∧ i = .int .i64 j ∧ ∃ bf : Nat → Nat, wr.ownsRow W2.heap.size 22 1 kv j ((List.range j).map fun t => Value.slice (some ⟨bf t, 0, none⟩) zs.length zs.length) ∧ (∀ t, t < j → Rw W2.heap.size wr zs.length (bf t) zs) ∧ (∀ t u, t < j → u < j → bf t = bf u → t = u) ∧ (∀ t, t < j → kv.ownBlock ≠ some (bf t)) ∧ Fresh W2 wr) (fun _ i _ => 3 - (intOf i).toNat)
  case atStart => exact ⟨0, by omega, rfl, fun _ => 0, ⟨rfl, .inr ⟨W2.heap.size, 0, #[], rfl, Nat.le_refl _, heap_alloc_new W2 _, Nat.le_refl _, Nat.zero_le _, rfl, rfl⟩⟩, fun t ht => by omega, fun t u ht => by omega, fun t ht => by omega, (Kept.refl _ _).alloc _⟩
  case round =>
    obtain ⟨j, hj, rfl, bf, hown, hrw, hinj, hoff, hfr⟩ := hrel
    by_cases hlt : j < 3
    · go_wp2_with fail
      refine (newReader_any (x ++ s) _ hys).mono ?_
      rintro e w3 ⟨b, rfl, hb, hrd, hk3⟩
      go_wp2_with fail
      refine (rrow_own b (x ++ s) 0 zs.length _ hrd (by omega) hzl).mono ?_
      rintro e w4 ⟨g, rfl, hg, ho4, -, hk4⟩
      rw [hsub, map_s8_b8 zs hzr] at ho4
      have hk5 : Fresh wr w4 := hk3.trans hk4 (fun i hi e => by have e' : i = b := e; omega)
      have hrA := rowIs_of_own ho4 hzl hzr
      have hrT : RowIs (fun k => k < W2.heap.size) w4 (.slice tao zs.length tcap) zs := htw2.kept (hfr.trans hk5 (fun _ _ e => e)) (fun _ _ e => e)
      go_wp2_with fail
      refine (rows_any _ _ _ _ zs zs _ hrA hrT).mono ?_
      rintro e w5 ⟨rfl, n5, h5⟩
      rw [show decide (zs = zs) = true from by simp]
      have hk6 : Fresh w4 w5 := by rw [h5]; exact (Kept.refl _ _).drewN n5
      have hk7 : Fresh wr w5 := hk5.trans hk6 (fun _ _ e => e)
      have hkg : wr.heap.size ≤ g := Nat.le_trans hk3.size hg
      have ho5 : Rw W2.heap.size w5 zs.length g zs := owns_kept (owns_mono ho4 (Nat.le_trans hfr.size hk3.size)) hk6 (fun _ _ e => e)
      have hown5 := owns_kept hown hk7 (fun _ _ e => e)
      have hkl : ∀ k, u7.ownBlock = some k → k < wr.heap.size := fun k e => owns_lt hown e
      have hfr5 : Fresh W2 w5 := hfr.trans hk7 (fun _ _ e => e)
      have hrw5 : ∀ t, t < j → Rw W2.heap.size w5 zs.length (bf t) zs := fun t ht => (hrw t ht).kept hk7 (fun e => e)
      have hbl : ∀ t, t < j → bf t < wr.heap.size := fun t ht => (hrw t ht).lt
      clear h5 hk6 hk5 hk4 hk3 hrd hrT hrA ho4 hown hrw
      have hW5 := hfr5.size
      go_wp2_with (at_builtin; refine wpList_append_lies _ rfl _ _ _ rfl W2.heap.size 22 iR _ 1 24 Tryd.underlying44 hiR hR0 hR1 hR2 rfl (by omega) u7 _ _ rfl (hown5.alloc _) ⟨w5.heap.size, 0, none⟩ 1 1 [.slice (some ⟨g, 0, none⟩) zs.length zs.length] rfl rfl (World.news_of_block (cs := #[.slice (some ⟨g, 0, none⟩) zs.length zs.length]) (t := 22) (fr := (0, 0)) (heap_alloc_new w5 _)) (by simp [Value.oneCell']) (by omega) (by unfold maxLen; omega) (by omega) (by simp; omega) (w5.heap.size + 1) (by simp) ?_; intro g1 cap w6 hown6 hgrow hat hlt6)
      have hk8 : Kept (fun k => u7.ownBlock = some k) w5 w6 := ((Kept.refl _ w5).alloc _).grown hgrow (fun k _ e => e)
      have hr6 : Fresh W2 w6 := fresh_grown hfr5 hown5 (Nat.le_refl _) hgrow
      have hg5 := ho5.lt
      have hg1 : g1 < wr.heap.size ∨ g1 = w5.heap.size + 1 := by rcases hat with e | e; exact .inl (hkl _ e); exact .inr e
      have hk7s := hk7.size
      have hrel : ∃ j' : Nat, j' ≤ 3 ∧ (Value.int .i64 ((j : Int) + 1)) = .int .i64 j' ∧ ∃ bf : Nat → Nat, w6.ownsRow W2.heap.size 22 1 (.slice (some ⟨g1, 0, none⟩) (j + 1) cap) j' ((List.range j').map fun t => Value.slice (some ⟨bf t, 0, none⟩) zs.length zs.length) ∧ (∀ t, t < j' → Rw W2.heap.size w6 zs.length (bf t) zs) ∧ (∀ t u, t < j' → u < j' → bf t = bf u → t = u) ∧ (∀ t, t < j' → (Value.slice (some ⟨g1, 0, none⟩) (j + 1) cap).ownBlock ≠ some (bf t)) ∧ Fresh W2 w6 := by
        refine ⟨j + 1, by omega, by simp, fun t => if t = j then g else bf t, ?_, fun t ht => ?_, fun t u ht hu e => ?_, fun t ht e => ?_, hr6⟩
        · rw [← rng_next j g zs.length bf] at hown6
          exact hown6
        · by_cases e : t = j
          · simp only [if_pos e]
            exact ho5.kept hk8 (fun e => by have := hkl _ e; omega)
          · simp only [if_neg e]
            exact (hrw5 t (by omega)).kept hk8 (fun e' => hoff t (by omega) e')
        · by_cases e1 : t = j <;> by_cases e2 : u = j <;> simp only [e1, e2, if_true, if_false] at e
          · omega
          · have := hbl u (by omega); omega
          · have := hbl t (by omega); omega
          · exact hinj t u (by omega) (by omega) e
        · have e' : g1 = if t = j then g else bf t := by simpa [Value.ownBlock] using e
          by_cases e1 : t = j
          · rw [if_pos e1] at e'; omega
          · rw [if_neg e1] at e'
            have := hbl t (by omega)
            rcases hat with h | h
            · exact hoff t (by omega) (by rw [h, e'])
            · omega
      have HR := show Hid _ from hrel
      clear hrel hown6 hgrow hat hlt6 hk8 hr6
      go_roundw
      case rel => exact HR.out
      case measure => simp [intOf]; omega
    · obtain rfl : j = 3 := by omega
      rw [show ((3 : Nat) : Int) = 3 from rfl]
      obtain ⟨kb, kcap, rfl, hkb, hK⟩ := K3.of hown hrw hinj hoff
      clear hown hrw hinj hoff
      go_wp2_with fail
      go_loopw [12] (fun c wq => ∃ t : Nat, t ≤ 3 ∧ c = .int .i64 t ∧ ∃ f, K3 W2.heap.size wq kb bf zs.length f ∧ (∀ k, k < t → f k = List.replicate zs.length ((k : Int) + 1)) ∧ Fresh W2 wq) (fun c _ => 3 - (intOf c).toNat)
      case atStart => exact ⟨0, by omega, rfl, _, hK, fun k hk => by omega, hfr⟩
      case round =>
        obtain ⟨t, ht, rfl, f, hK, hf, hfr⟩ := hrel
        by_cases ht3 : t < 3
        · go_wp2_with fail
          go_loopw [13] (fun c wq => ∃ u : Nat, u ≤ zs.length ∧ c = .int .i64 u ∧ ∃ f, K3 W2.heap.size wq kb bf zs.length f ∧ (∀ k, k < t → f k = List.replicate zs.length ((k : Int) + 1)) ∧ (f t).take u = List.replicate u ((t : Int) + 1) ∧ Fresh W2 wq) (fun c _ => zs.length - (intOf c).toNat)
          case atStart => exact ⟨0, by omega, rfl, _, hK, hf, by simp, hfr⟩
          case round =>
            clear hK hf hfr
            obtain ⟨u, hu, rfl, f, hK, hf, htk, hfr⟩ := hrel
            have hc := hK.at_ t ht3
            have hi0 : (0 : Int) ≤ (t : Int) := by omega
            have hi1 : (t : Int) < 3 := by omega
            by_cases hlt2 : u < zs.length
            · have hrt := hK.row t ht3
              have hcu := hrt.cell u hlt2
              have hfu := hrt.free u
              have hj0 : (0 : Int) ≤ (u : Int) := by omega
              have hj1 : (u : Int) < (zs.length : Int) := by omega
              have hge := hrt.ge
              have r1 := hK.set t ht3 u ((t : Int) + 1)
              have r2 : (f t).take u = List.replicate u ((t : Int) + 1) → ((f t).set u ((t : Int) + 1)).take (u + 1) = List.replicate (u + 1) ((t : Int) + 1) := take_set_next (by rw [hrt.len]; exact hlt2)
              have r3 : Fresh W2 (wr.setCell ⟨bf t, u, none⟩ (.int .i8 ((t : Int) + 1))) := hfr.setCell (p := ⟨bf t, u, none⟩) (fun e => by simp at e; omega) _
              go_wp2
              go_roundw
              case rel => exact ⟨u + 1, by omega, by go_num, _, r1, fun k hk => by rw [if_neg (by omega)]; exact hf k hk, by simp only [if_true]; exact r2 htk, r3⟩
              case measure => simp [intOf]; omega
            · obtain rfl : u = zs.length := by omega
              have hrt := (hK.row t ht3).len
              rw [List.take_of_length_le (by omega)] at htk
              go_wp2
              go_roundw
              case rel => exact ⟨t + 1, by omega, by go_num, f, hK, fun k hk => by
                rcases Nat.lt_or_ge k t with e | e
                · exact hf k e
                · obtain rfl : k = t := by omega
                  exact htk, hfr⟩
              case measure => simp [intOf]; omega
        · obtain rfl : t = 3 := by omega
          rw [show ((3 : Nat) : Int) = 3 from rfl]
          have hK3 := hK.congr hf
          clear hK hf
          go_wp2_with fail
          go_loopw [14] (fun c wq => ∃ t : Nat, t ≤ 3 ∧ c = .int .i64 t ∧ K3 W2.heap.size wq kb bf zs.length (fun k => List.replicate zs.length ((k : Int) + 1)) ∧ Fresh W2 wq) (fun c _ => 3 - (intOf c).toNat)
          case atStart => exact ⟨0, by omega, rfl, hK3, hfr⟩
          case round =>
            clear hK3 hfr
            obtain ⟨t, ht, rfl, hK, hfr⟩ := hrel
            by_cases ht3 : t < 3
            · have hc := hK.at_ t ht3
              have hi0 : (0 : Int) ≤ (t : Int) := by omega
              have hi1 : (t : Int) < 3 := by omega
              obtain ⟨X, hX⟩ : ∃ X, X = wr.heap.size := ⟨_, rfl⟩
              have hX1 : kb < X := by rw [hX]; exact hK.lt
              have hX2 : ∀ k, k < 3 → bf k < X := fun k hk => by rw [hX]; exact (hK.row k hk).lt
              have hX3 : W2.heap.size ≤ X := by rw [hX]; exact hfr.size
              have hX4 : X ≤ wr.heap.size := Nat.le_of_eq hX
              clear hX
              go_wp2_with fail
              go_loopw [15, 16] (fun g c wq => ∃ u : Nat, u ≤ 20 ∧ c = .int .i64 u ∧ (u = 0 ∧ g = .slice (some ⟨bf t, 0, none⟩) zs.length zs.length ∨ 0 < u ∧ ∃ xs, wq.ownsRow X 47 1 g (zs.length + u) xs) ∧ K3 W2.heap.size wq kb bf zs.length (fun k => List.replicate zs.length ((k : Int) + 1)) ∧ Fresh W2 wq ∧ X ≤ wq.heap.size) (fun _ c _ => 20 - (intOf c).toNat)
              case atStart => exact ⟨0, by omega, rfl, .inl ⟨rfl, rfl⟩, hK, hfr, hX4⟩
              case round =>
                clear hK hfr hX4 hc
                obtain ⟨u, hu, rfl, hg, hK, hfr, hX4⟩ := hrel
                by_cases hlt2 : u < 20
                · have hrt := hK.row t ht3
                  rcases hg with ⟨rfl, rfl⟩ | ⟨hu0, xs, hown⟩
                  · go_wp2_with (at_builtin; refine wpList_append_grows _ rfl _ _ _ rfl 47 i8 _ 1 1 Tryd.underlying22 hi8 h80 h81 h82 rfl (by omega) (some ⟨bf t, 0, none⟩) zs.length zs.length (c8 (List.replicate zs.length ((t : Int) + 1))) rfl (fun e => by cases e) (by simp) (fun b e => by cases e; exact World.ownsRow.cells (World.ownsRow.alloc hrt _) rfl) ⟨wr.heap.size, 0, none⟩ 1 1 [.int .i8 77] rfl rfl (World.news_of_block (cs := #[.int .i8 77]) (t := 47) (fr := (0, 0)) (heap_alloc_new wr _)) (by simp [Value.oneCell']) (by omega) (by unfold maxLen; omega) (by omega) ?_; intro v1 w6 hown6 hgrow)
                    have k1 : Fresh wr w6 := ((Kept.refl _ wr).alloc _).grown hgrow (fun k _ e => by cases e)
                    have k2 : K3 W2.heap.size w6 kb bf zs.length (fun k => List.replicate zs.length ((k : Int) + 1)) := hK.kept k1 (fun e => e) (fun _ _ e => e)
                    have k3 : Fresh W2 w6 := hfr.trans k1 (fun _ _ e => e)
                    have k4 : X ≤ w6.heap.size := Nat.le_trans hX4 k1.size
                    have k5 : ∃ xs, w6.ownsRow X 47 1 v1 (zs.length + 1) xs := ⟨_, owns_mono hown6 (by simp; omega)⟩
                    clear hown6 hgrow k1
                    go_roundw
                    case rel => exact ⟨1, by omega, by go_num, .inr ⟨by omega, k5⟩, k2, k3, k4⟩
                    case measure => simp [intOf]
                  · go_wp2_with (at_builtin; refine wpList_append_lies _ rfl _ _ _ rfl X 47 i8 _ 1 1 Tryd.underlying22 hi8 h80 h81 h82 rfl (by omega) u15 _ _ rfl (hown.alloc _) ⟨wr.heap.size, 0, none⟩ 1 1 [.int .i8 77] rfl rfl (World.news_of_block (cs := #[.int .i8 77]) (t := 47) (fr := (0, 0)) (heap_alloc_new wr _)) (by simp [Value.oneCell']) (by omega) (by unfold maxLen; omega) (by omega) (by simp; omega) (wr.heap.size + 1) (by simp) ?_; intro g1 cap w6 hown6 hgrow hat hlt6)
                    have hb5 : ∀ k, u15.ownBlock = some k → X ≤ k := fun k e => (World.ownsRow.lt hown k e).1
                    have k1 : Kept (fun k => X ≤ k) wr w6 := ((Kept.refl _ wr).alloc _).grown hgrow (fun k _ e => hb5 k e)
                    have k2 : K3 W2.heap.size w6 kb bf zs.length (fun k => List.replicate zs.length ((k : Int) + 1)) := hK.kept k1 (fun e => by omega) (fun k hk e => by have := hX2 k hk; omega)
                    have k3 : Fresh W2 w6 := hfr.trans k1 (fun i hi e => by omega)
                    have k4 : X ≤ w6.heap.size := Nat.le_trans hX4 k1.size
                    have k5 : ∃ ys, w6.ownsRow X 47 1 (.slice (some ⟨g1, 0, none⟩) (zs.length + u + 1) cap) (zs.length + (u + 1)) ys := ⟨_, hown6⟩
                    clear hown6 hgrow k1 hat hlt6
                    go_roundw
                    case rel => exact ⟨u + 1, by omega, by go_num, .inr ⟨by omega, k5⟩, k2, k3, k4⟩
                    case measure => simp [intOf]; omega
                · clear hg
                  go_wp2
                  go_roundw
                  case rel => exact ⟨t + 1, by omega, by go_num, hK, hfr⟩
                  case measure => simp [intOf]; omega
            · obtain rfl : t = 3 := by omega
              rw [show ((3 : Nat) : Int) = 3 from rfl]
              go_wp2_with fail
              go_loopw [17] (fun c wq => ∃ t : Nat, t ≤ 3 ∧ c = .int .i64 t ∧ K3 W2.heap.size wq kb bf zs.length (fun k => List.replicate zs.length ((k : Int) + 1)) ∧ Fresh W2 wq) (fun c _ => 3 - (intOf c).toNat)
              case atStart => exact ⟨0, by omega, rfl, hK, hfr⟩
              case round =>
                clear hK hfr
                obtain ⟨t, ht, rfl, hK, hfr⟩ := hrel
                by_cases ht3 : t < 3
                · go_wp2_with fail
                  go_loopw [18] (fun c wq => ∃ u : Nat, u ≤ zs.length ∧ c = .int .i64 u ∧ K3 W2.heap.size wq kb bf zs.length (fun k => List.replicate zs.length ((k : Int) + 1)) ∧ Fresh W2 wq) (fun c _ => zs.length - (intOf c).toNat)
                  case atStart => exact ⟨0, by omega, rfl, hK, hfr⟩
                  case round =>
                    clear hK hfr
                    obtain ⟨u, hu, rfl, hK, hfr⟩ := hrel
                    have hc := hK.at_ t ht3
                    have hi0 : (0 : Int) ≤ (t : Int) := by omega
                    have hi1 : (t : Int) < 3 := by omega
                    by_cases hlt2 : u < zs.length
                    · have hcu : wr.cell? ⟨bf t, u, none⟩ = some (.int .i8 ((t : Int) + 1)) := by
                        rw [(hK.row t ht3).cell u hlt2, List.getD_eq_getElem?_getD, List.getElem?_replicate, if_pos hlt2]
                        rfl
                      have hj0 : (0 : Int) ≤ (u : Int) := by omega
                      have hj1 : (u : Int) < (zs.length : Int) := by omega
                      go_wp2
                      go_roundw
                      case rel => exact ⟨u + 1, by omega, by go_num, hK, hfr⟩
                      case measure => simp [intOf]; omega
                    · obtain rfl : u = zs.length := by omega
                      go_wp2
                      go_roundw
                      case rel => exact ⟨t + 1, by omega, by go_num, hK, hfr⟩
                      case measure => simp [intOf]; omega
                · obtain rfl : t = 3 := by omega
                  rw [show ((3 : Nat) : Int) = 3 from rfl]
                  clear hK
                  have htw3 : RowIs (fun k => k < W2.heap.size) wr (.slice tao zs.length tcap) zs := htw2.kept hfr (fun _ _ e => e)
                  go_wp2_with fail
                  refine (newWriter_any _).mono ?_
                  rintro e w7 ⟨rfl, hw7, hk7⟩
                  have hWl := lt_of_heap hw7.1
                  obtain ⟨A, hA⟩ : ∃ A, A = wr.heap.size := ⟨_, rfl⟩
                  rw [← hA] at hw7 hWl
                  have hA1 : W2.heap.size ≤ A := by rw [hA]; exact hfr.size
                  have hf7 : Fresh W2 w7 := hfr.trans hk7 (fun _ _ e => e)
                  have htw7 : RowIs (fun k => k < W2.heap.size) w7 (.slice tao zs.length tcap) zs := htw3.kept hk7 (fun _ _ e => e)
                  obtain ⟨gv, W8, hrun, hown8, hgrow⟩ := twin_own 22 _ w7.heap.size _ (own8_empty w7) (by simp) _ zs _ (htw7.kept ((Kept.refl (fun _ => False) _).alloc _) (fun _ _ e => e))
                  have hk8 : Fresh w7 W8 := ((Kept.refl _ _).alloc _).grown hgrow (fun k hk e => by simp [Value.ownBlock] at e; omega)
                  have hw8 : WrAt W8 A (.slice none 0 0) [] := hw7.kept hk8 (fun e => e) (fun _ _ e => e)
                  have hrow8 := rowIs_of_own hown8 hzl hzr
                  obtain ⟨gao, gcap, rfl⟩ : ∃ ao cap, gv = .slice ao zs.length cap := ownsRow_shape hown8
                  have hf8 : Fresh W2 W8 := hf7.trans hk8 (fun _ _ e => e)
                  rw [← hA]
                  clear hgrow htw3 hk7 hfr hA
                  go_wp2_with (at_builtin; refine Lib.wpList_append_run _ rfl _ _ _ _ rfl _ _ rfl rfl _ _ hrun ?_)
                  clear hrun
                  refine (wrow_any A (.slice none 0 0) [] _ zs _ _ hw8 hrow8 (fun k hk e => by rcases e with e | e; omega; simp [Value.ownBlock] at e) (by simp; omega)).mono ?_
                  rintro e W9 ⟨rfl, v9, hw9, hk9, hm9⟩
                  rw [List.nil_append] at hw9
                  have hown9 := owns_kept hown8 hk9 (fun g e h => by have := (World.ownsRow.lt hown8 g e).1; rcases h with h | h; omega; simp [Value.ownBlock] at h)
                  have hap : ∀ g, Value.ownBlock (.slice gao zs.length gcap) = some g → g ≠ A ∧ v9.ownBlock ≠ some g := fun g e => by
                    have h1 := World.ownsRow.lt hown8 g e
                    refine ⟨by omega, fun h => ?_⟩
                    rcases hm9 with h2 | ⟨g', h2, h3⟩
                    · rw [h2] at h; simp [Value.ownBlock] at h
                    · rw [h2] at h; cases h; omega
                  have hf9 : Fresh W2 W9 := hf8.trans hk9 (fun i hi e => by rcases e with e | e; omega; simp [Value.ownBlock] at e)
                  have h7 := hf7.size
                  clear hown8 hrow8 hw8 hk8 hw7 hk9 hm9 hf8 hf7 htw7
                  go_wp2_with fail
                  go_loopw [21] (fun c wq => ∃ u : Nat, u ≤ zs.length ∧ c = .int .i64 u ∧ ∃ xs, wq.ownsRow w7.heap.size 47 1 (.slice gao zs.length gcap) zs.length xs ∧ WrAt wq A v9 (zs.map b8) ∧ Fresh W2 wq) (fun c _ => zs.length - (intOf c).toNat)
                  case atStart => exact ⟨0, by omega, rfl, _, hown9, hw9, hf9⟩
                  case round =>
                    clear hown9 hw9 hf9
                    obtain ⟨u, hu, rfl, xs, hown, hw, hfr⟩ := hrel
                    by_cases hlt2 : u < zs.length
                    · obtain ⟨g, rfl⟩ : ∃ g, gao = some ⟨g, 0, none⟩ := by
                        obtain ⟨_, ⟨_, h⟩ | ⟨g, cap, cur, h, _⟩⟩ := hown
                        · omega
                        · exact ⟨g, by simp only [Value.slice.injEq] at h; exact h.1⟩
                      have hxl : xs.length = zs.length := by have := hown.1; omega
                      have hcu : wr.cell? ⟨g, u, none⟩ = some (xs[u]'(by omega)) := by rw [hown.cellAt u (by omega), List.getElem?_eq_getElem (by omega)]
                      have hfu : wr.frozen? ⟨g, u, none⟩ = false := hown.frozenAt u
                      obtain ⟨st1, st2⟩ := hown.stored u (.int .i8 99)
                      obtain ⟨a1, a2⟩ := hap g rfl
                      have hgl := (World.ownsRow.lt hown g rfl).1
                      have r1 : WrAt (wr.setCell ⟨g, u, none⟩ (.int .i8 99)) A v9 (zs.map b8) := hw.kept (S := only g) ((Kept.refl (only g) wr).setCell (p := ⟨g, u, none⟩) (fun _ => rfl) _) (fun e => a1 (by have e' : A = g := e; exact e'.symm)) (fun k e h => a2 (by have h' : k = g := h; rw [← h']; exact e))
                      have r2 : Fresh W2 (wr.setCell ⟨g, u, none⟩ (.int .i8 99)) := hfr.setCell (p := ⟨g, u, none⟩) (fun e => by simp at e; omega) _
                      have hj0 : (0 : Int) ≤ (u : Int) := by omega
                      have hj1 : (u : Int) < (zs.length : Int) := by omega
                      go_wp2
                      go_roundw
                      case rel => exact ⟨u + 1, by omega, by go_num, _, st1, r1, r2⟩
                      case measure => simp [intOf]; omega
                    · clear hown
                      have hT : RowIs (fun k => k < W2.heap.size) wr (.slice tao zs.length tcap) zs := htw2.kept hfr (fun _ _ e => e)
                      go_wp2_with fail
                      refine (wbytes_any A v9 _ _ hw).mono ?_
                      rintro e w' ⟨rfl, rfl⟩
                      go_wp2_with fail
                      refine (refRow_any _ _ zs _ hT).mono ?_
                      rintro e W10 ⟨rfl, hk10⟩
                      have hfin : Fresh w W10 := (hFW.trans hfr (fun _ _ e => e)).trans hk10 (fun _ _ e => e)
                      clear hw
                      generalize (⟨(zs.map b8).toArray⟩ : ByteArray) = z at *
                      go_wp2
                      go_ret
                      exact ⟨by simp, hfin⟩

theorem bytes8 : Tryd.prog.bytesOf 47 = 1 := by kernel_rfl

theorem contract (H : Type) (enc : TypeId × Value → H) (W : World) (base : Nat) (args : Array Value) (ds gs : List (DataW H)) (before : List MemPlace)
    (hval : ∀ (j : Nat) t v, Tryd.f4.params[j]? = some t → args[j]? = some v → Value.okWide Tryd.prog W .any base t v)
    (hW : DataW.Whole enc Tryd.prog Tryd.f4.params.toList Rows.wireMemorySpec.vars false W args.toList ds gs before) 
    (hsz : (DataW.weightsEach Tryd.prog (Tryd.f4.params.toList ++ []) (ds ++ gs)).all (· ≤ reachBytes) = true) (hL : laidMetH Tryd.prog Rows.wireMemoryRow.laid W) :
    Calls Tryd.prog 4 args W fun e W' => ∃ v, e = .returned v ∧ Rows.wireMemorySpec.post enc Tryd.prog Tryd.f4 false true false false W args v W' := by
  have hW' := hW
  obtain ⟨p, q, hA0, hV, rfl, hfz, hnd⟩ := hW
  have hA : DataW.TrodAll enc Tryd.prog W 0 (fun _ => true) true Tryd.f4.params.toList args.toList ds p := hA0
  rw [Tryd.params4] at hA hval hsz
  obtain ⟨rfl, rfl⟩ := trodVars_none hV
  obtain ⟨v0, v1, d0, d1, p0, p1, rfl, rfl, rfl, h0, h1⟩ := trodAll_two hA
  obtain ⟨s, rfl, rfl, rfl, hs⟩ := Go.ChangeMaps.open_string Tryd.underlying9 (hval 1 9 v1 rfl rfl) h1
  have hss : s.size ≤ 140737488351232 := by
    have := sized_string hsz (j := 1) (t := 9) rfl rfl
    rw [Lib.size_eq]
    simpa [reachBytes] using this
  obtain ⟨ao, ln, cap, rfl⟩ := okWide_slice Tryd.underlying22 (hval 0 22 v0 rfl rfl)
  obtain ⟨fuel, hf⟩ := h0
  obtain ⟨zs, hr, _⟩ := row_of (v := .slice ao ln cap) (x := (d0, p0)) hf (fun es sp e => by
    have e' : d0 = .slice es sp := e
    subst e'
    have := sized_slice hsz (j := 0) (t := 22) (e := 47) rfl rfl Tryd.underlying22
    rw [bytes8] at this
    simp only [reachBytes] at this
    omega)
  refine (walk _ zs s W (siz_of_laid hL) hr hss).mono fun e W' ⟨he, hk⟩ => ?_
  subst he
  exact ⟨_, rfl, post_law rfl (by kernel_rfl) (by kernel_rfl) hW' rfl hk⟩

theorem laid_met (os : Os) : laidMet Tryd.prog Rows.wireMemoryRow.laid ((layIn (World.holding Tryd.prog os ⟨#[], #[], []⟩)).forCall (fun _ _ => 0) ⟨#[], #[.slice none 0 0, .string ⟨#[]⟩], []⟩).memory :=
  laidMet_of_run' 8 (by kernel_rfl) (by kernel_rfl)
theorem reads (os : Os) {H : Type} (enc : TypeId × Value → H) : ∃ places, DataW.whole enc Tryd.prog ((layIn (World.holding Tryd.prog os ⟨#[], #[], []⟩)).forCall (fun _ _ => 0) ⟨#[], #[.slice none 0 0, .string ⟨#[]⟩], []⟩).memory Tryd.f4.params.toList Rows.wireMemorySpec.vars false (#[.slice none 0 0, .string ⟨#[]⟩] : Array Value).toList 8 = some ([.nil, .lit (.string [])], [], places) :=
  ⟨[], by kernel_rfl⟩

set_option maxRecDepth 100000 in
theorem lifted (os : Os) (started : os.Started) (H : Type) (enc : TypeId × Value → H) (F : Stop.Interp) :
    ReturnsInHanded {} Tryd.checked os 4 .any ((OpenSpec.ofChange Rows.wireMemorySpec).preRow enc Tryd.prog Tryd.f4 Rows.wireMemoryRow.domain false Rows.wireMemoryRow.laid) (((OpenSpec.ofChange Rows.wireMemorySpec).at F).post enc Tryd.prog Tryd.f4 false true false false) := by
  obtain ⟨places, hx⟩ := reads os enc
  refine returnsInHanded_of_row (C := Tryd.checked) (s := OpenSpec.ofChange Rows.wireMemorySpec) Tryd.own started (by kernel_rfl) Tryd.func4
    (witness_row_at (enc := enc) (C := Tryd.checked) false (layIn (World.holding Tryd.prog os ⟨#[], #[], []⟩)) #[.slice none 0 0, .string ⟨#[]⟩] rfl (by kernel_rfl) (by kernel_rfl) (by kernel_rfl)
      (OpenSpec.preRow_of_cond 8 hx (by kernel_rfl) (fun k hk => by cases hk) (by kernel_rfl) (laid_met os))) ?_
  intro W base args ds gs before hval hW _ hc hsz hL _ _
  exact contract H enc W base args ds gs before hval hW hsz hL

theorem said : Rows.WireMemorySaid :=
  OpenClaim.holds_of_cond 4 Tryd.f4 rfl rfl rfl rfl rfl rfl rfl ⟨rfl, rfl, rfl, rfl, rfl⟩ rfl rfl rfl rfl rfl (by kernel_rfl) Tryd.func4 (by kernel_rfl)
    (of_decide_eq_true (by kernel_rfl)) (by unfold Func.isWrapper; first | (rw [if_pos (by decide +kernel)]; kernel_rfl) | (rw [if_neg (by decide +kernel)]; exact ⟨rfl, rfl⟩))
    (fun os started H enc _ F => by rw [OpenClaim.pre_eq_preRow]; exact lifted os started H enc F)

theorem plain (f : FuncId) (fn : Func) (hf : Tryd.pinned.checked.prog.funcNamed Rows.wireMemoryRow.func = some f) (hfn : Tryd.pinned.checked.prog.funcs[f]? = some fn) :
    false = Tryd.pinned.checked.prog.looks [] ∧ ∀ (j : Nat) t, fn.params[j]? = some t → Tryd.pinned.checked.prog.wantsStandIn t = false := by
  obtain rfl : f = 4 := Option.some.inj ((show Tryd.prog.funcNamed Rows.wireMemoryRow.func = some 4 by kernel_rfl).symm.trans hf) |>.symm
  obtain rfl : fn = Tryd.f4 := (Option.some.inj (Tryd.func4.symm.trans hfn)).symm
  refine ⟨by kernel_rfl, fun j t ht => ?_⟩
  have hall : (Tryd.f4.params.toList.all fun u => !Tryd.prog.wantsStandIn u) = true := by kernel_rfl
  exact (show Tryd.prog.wantsStandIn t = false by simpa using List.all_eq_true.1 hall t (Array.mem_toList_iff.2 (Array.mem_of_getElem? ht)))

theorem card : Rows.WireMemoryCardSaid :=
  Claim7.holds_tied_plain_at .later [] _ _ _ _ said (fun _ h => by cases h) (by kernel_rfl) (fun _ h => by cases h) wireMemory_row_tie rfl ⟨rfl, rfl⟩ (by kernel_rfl) rfl plain (by kernel_rfl)

end Go.Proofs.YtcdgphneljgooabDoor.Memo
namespace Go.Proofs.YtcdgphneljgooabDoor
theorem wireMemory_card : Rows.WireMemoryCardSaid := Memo.card
end Go.Proofs.YtcdgphneljgooabDoor
