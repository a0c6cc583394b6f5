/-
  'read' of the statements' package: the program's reader and the document's answer alike.
-/
import Derived.Test.YtcdgphneljgooaaDoorRd
import Derived.Test.YtcdgphneljgooaaDoorAwake
namespace Go.Proofs.YtcdgphneljgooaaDoor
open Go.RowKit

theorem three_blocks {w w1 : World} {m o z : Obj} (hk : Fresh (((w.alloc m).alloc o).alloc z) w1) :
    w1.heap[w.heap.size]? = some m ∧ w1.heap[w.heap.size + 1]? = some o ∧ w1.heap[w.heap.size + 2]? = some z := by
  have hs1 : (w.alloc m).heap.size = w.heap.size + 1 := by simp
  have hs2 : ((w.alloc m).alloc o).heap.size = w.heap.size + 2 := by simp
  have h0 : (((w.alloc m).alloc o).alloc z).heap[w.heap.size]? = some m := (Below.heap_alloc _ _ _ (by omega)).trans ((Below.heap_alloc _ _ _ (by omega)).trans (heap_alloc_new w _))
  have h1 := (Below.heap_alloc ((w.alloc m).alloc o) z _ (by omega)).trans (heap_alloc_new (w.alloc m) o)
  have h2 := heap_alloc_new ((w.alloc m).alloc o) z
  rw [hs1] at h1
  rw [hs2] at h2
  exact ⟨hk.at h0 (fun e => e), hk.at h1 (fun e => e), hk.at h2 (fun e => e)⟩

theorem kept_set {S : Nat → Prop} {w w1 : World} (h : Kept S w w1) {p : Addr} (hp : w.heap.size ≤ p.block) (v : Value) : Kept S w (w1.setCell p v) := h.setCell (fun e => by omega) v

set_option maxHeartbeats 1000000 in
theorem read_any (b : Nat) (s : ByteArray) (i : Nat) (k n bt : Int) (ao : Option Addr) (ln cp : Nat) (tx : ByteArray) (w : World) (hz : Siz w) (h : RdAt w b s i) (hs : s.size ≤ 140737488351232) :
    Calls Tryd.prog 25 #[.pointer (some ⟨b, 0, none⟩), rdV s i, .agg #[.int .i64 k, .int .i64 n, .int .i64 bt, .slice ao ln cp, .string tx]] w fun e w' => ∃ i', e = .returned (.tuple #[rdV s i', .bool true]) ∧ RdAt w' b s i' ∧ Kept (only b) w w' := by
  have hi := h.2.1
  have hbw := lt_of_heap h.1
  go_enter Tryd.func25, Tryd.ntmps25
  go_wp2_with fail
  refine (kind_any _ _).mono ?_
  rintro e w3 ⟨rfl, rfl⟩
  have hf0 := ((((Kept.refl (fun _ => False) w).alloc (.cells #[.string s, .int .i64 i] 51)).alloc (.cells #[.int .i64 k, .int .i64 n, .int .i64 bt, .slice ao ln cp, .string tx] 33)).alloc (.cells #[.string ⟨#[]⟩, .int .i64 0] 51))
  rcases kd_cases k with hkd | hkd | hkd | hkd
  · rw [hkd]
    go_wp2_with fail
    refine (refRNum_any s i bt _ hi (by omega)).mono ?_
    rintro e w1 ⟨rfl, hk1⟩
    obtain ⟨b0, b1, b2⟩ := three_blocks hk1
    have hf1 : Fresh w w1 := hf0.trans hk1 (fun _ _ e => e)
    have hl2 := lt_of_heap b2
    have hl1 : w.heap.size + 1 < w1.heap.size := by omega
    have hl0 : w.heap.size < w1.heap.size := by omega
    clear hk1
    have hnum := rnumber_any b s i bt
    have HN := show Hid _ from hnum
    clear hnum
    generalize (numR s i bt).1 = x at *
    generalize (numR s i bt).2.1 = er at *
    generalize (numR s i bt).2.2 = i' at *
    obtain ⟨p0, p1, p2, p3, p4⟩ := cells5 b1
    have hfk : Fresh w (w1.alloc (.cells #[.string s, .int .i64 i'] 51)) := hf1.alloc _
    have d0 := heap_alloc_new w1 (.cells #[.string s, .int .i64 i'] 51)
    have d2 := (Below.heap_alloc w1 (.cells #[.string s, .int .i64 i'] 51) _ hl2).trans b2
    have hzk := hz.kept hfk (fun e => e)
    have hrk := h.kept hfk (fun e => e)
    go_wp2_with fail
    refine (HN.out _ hzk hrk).mono ?_
    rintro e w2 ⟨rfl, hr2, hk2⟩
    have hbn : w1.heap.size ≠ b := by omega
    have hbn2 : w.heap.size + 2 ≠ b := by omega
    obtain ⟨y0, y1, g0, g1⟩ := cells2 (hk2.at d0 hbn)
    obtain ⟨z0, z1, c0, c1⟩ := cells2 (hk2.at d2 hbn2)
    have hkw : Kept (only b) w w2 := (hfk.mono (S' := only b) (fun _ _ e => e.elim)).trans hk2 (fun _ _ e => e)
    have hr3 : ∀ v u, RdAt ((w2.setCell ⟨w.heap.size + 2, 0, none⟩ v).setCell ⟨w.heap.size + 2, 1, none⟩ u) b s i' := fun v u => hr2.kept (S := only (w.heap.size + 2)) (((Kept.refl (only (w.heap.size + 2)) w2).setCell (p := ⟨w.heap.size + 2, 0, none⟩) (fun _ => rfl) v).setCell (p := ⟨w.heap.size + 2, 1, none⟩) (fun _ => rfl) u) (fun e => hbn2 e.symm)
    clear hk2 HN
    go_wp2
    exact bodyPost_ret (v := .tuple #[rdV s i', .bool true]) (by simp [results, Tryd.results25, go_sem, z0, z1]) rfl ⟨i', rfl, hr3 _ _, kept_set (p := ⟨w.heap.size + 2, 1, none⟩) (kept_set (p := ⟨w.heap.size + 2, 0, none⟩) hkw (by show _ ≤ w.heap.size + 2; omega) _) (by show _ ≤ w.heap.size + 2; omega) _⟩
  · rw [hkd]
    go_wp2_with fail
    refine (refRow2_any s i n _ hi hs).mono ?_
    rintro e w1 ⟨rv, rfl, hrow1, hk1⟩
    obtain ⟨b0, b1, b2⟩ := three_blocks hk1
    have hf1 : Fresh w w1 := hf0.trans hk1 (fun _ _ e => e)
    have hl2 := lt_of_heap b2
    have hl1 : w.heap.size + 1 < w1.heap.size := by omega
    have hl0 : w.heap.size < w1.heap.size := by omega
    have hrow1' := hrow1.mono (q := fun k => w.heap.size ≤ k) (fun k hk => by simp at hk; omega)
    clear hk1 hrow1
    have hnum := fun W (hR : RdAt W b s i) => rrow_any b s i n W hR hs
    have HN := show Hid _ from hnum
    clear hnum
    generalize ((rawR s i n).1.map s8) = zs at *
    generalize (rawR s i n).2.1 = er at *
    generalize (rawR s i n).2.2 = i' at *
    obtain ⟨p0, p1, p2, p3, p4⟩ := cells5 b1
    have hfk : Fresh w (w1.alloc (.cells #[.string s, .int .i64 i'] 51)) := hf1.alloc _
    have d0 := heap_alloc_new w1 (.cells #[.string s, .int .i64 i'] 51)
    have d2 := (Below.heap_alloc w1 (.cells #[.string s, .int .i64 i'] 51) _ hl2).trans b2
    have hrk := h.kept hfk (fun e => e)
    have hrowk := hrow1'.kept ((Kept.refl (fun _ => False) w1).alloc (.cells #[.string s, .int .i64 i'] 51)) (fun _ _ e => e)
    obtain ⟨rao, rcp, hrv, _⟩ := hrow1'
    subst hrv
    go_wp2_with fail
    refine (HN.out _ hrk).mono ?_
    rintro e w2 ⟨rv2, rfl, hrow2, hr2, hk2⟩
    have hbn : w1.heap.size ≠ b := by omega
    have hbn2 : w.heap.size + 2 ≠ b := by omega
    have d0' := hk2.at d0 hbn
    have d2' := hk2.at d2 hbn2
    have hrow3 := hrowk.kept hk2 (fun k hk e => by have e' : k = b := e; omega)
    obtain ⟨y0, y1, g0, g1⟩ := cells2 d0'
    obtain ⟨z0, z1, c0, c1⟩ := cells2 d2'
    have hkw : Kept (only b) w w2 := (hfk.mono (S' := only b) (fun _ _ e => e.elim)).trans hk2 (fun _ _ e => e)
    obtain ⟨sao, scp, hsv, _⟩ := id hrow2
    subst hsv
    have hrows : ∀ m, Calls Tryd.prog 17 #[.slice sao zs.length scp, .slice rao zs.length rcp] (w2.drewN m) fun e w' => e = .returned (.bool true) ∧ ∃ n, w' = w2.drewN n := fun m => by
      refine (rows_any _ _ _ _ zs zs (w2.drewN m) (hrow2.kept ((Kept.refl (fun _ => False) w2).drewN m) (fun _ _ e => e)) (hrow3.kept ((Kept.refl (fun _ => False) w2).drewN m) (fun _ _ e => e))).mono ?_
      rintro e w' ⟨rfl, n', rfl⟩
      exact ⟨by simp, m + n', by simp [World.drewN, Nat.add_assoc]⟩
    have HRW := show Hid _ from hrows
    clear hk2 HN hrows hrow2 hrow3 hrowk
    have hnz : w1.heap.size ≠ w.heap.size + 2 := by omega
    have hnz2 : w.heap.size + 2 ≠ w1.heap.size := by omega
    go_wp2_with fail
    go_region_held3 (fun w' => w'.cell? ⟨w1.heap.size, 0, none⟩ = some (.string s) ∧ w'.cell? ⟨w1.heap.size, 1, none⟩ = some (.int .i64 i')) (go_keep) (first | (go_at_call 17; refine (HRW.out 1).mono ?_; rintro e w' ⟨rfl, n', rfl⟩))
    have hr3 : ∀ v u, RdAt ((w2.setCell ⟨w.heap.size + 2, 0, none⟩ v).setCell ⟨w.heap.size + 2, 1, none⟩ u) b s i' := fun v u => hr2.kept (S := only (w.heap.size + 2)) (((Kept.refl (only (w.heap.size + 2)) w2).setCell (p := ⟨w.heap.size + 2, 0, none⟩) (fun _ => rfl) v).setCell (p := ⟨w.heap.size + 2, 1, none⟩) (fun _ => rfl) u) (fun e => hbn2 e.symm)
    have hk3 : ∀ v u, Kept (only b) w ((w2.setCell ⟨w.heap.size + 2, 0, none⟩ v).setCell ⟨w.heap.size + 2, 1, none⟩ u) := fun v u => kept_set (p := ⟨w.heap.size + 2, 1, none⟩) (kept_set (p := ⟨w.heap.size + 2, 0, none⟩) hkw (by show _ ≤ w.heap.size + 2; omega) v) (by show _ ≤ w.heap.size + 2; omega) u
    go_wp2
    exact bodyPost_ret (v := .tuple #[rdV s i', .bool true]) (by simp [results, Tryd.results25, go_sem, z0, z1]) rfl ⟨i', rfl, (hr3 _ _).drewN _, (hk3 _ _).drewN _⟩
  · rw [hkd]
    go_wp2_with fail
    refine (refRaw_any s i n _ hi (by omega)).mono ?_
    rintro e w1 ⟨rfl, hk1⟩
    obtain ⟨b0, b1, b2⟩ := three_blocks hk1
    have hf1 : Fresh w w1 := hf0.trans hk1 (fun _ _ e => e)
    have hl2 := lt_of_heap b2
    have hl1 : w.heap.size + 1 < w1.heap.size := by omega
    have hl0 : w.heap.size < w1.heap.size := by omega
    clear hk1
    have hnum := rraw_any b s i n
    have HN := show Hid _ from hnum
    clear hnum
    generalize (rawR s i n).1 = x at *
    generalize (rawR s i n).2.1 = er at *
    generalize (rawR s i n).2.2 = i' at *
    obtain ⟨p0, p1, p2, p3, p4⟩ := cells5 b1
    have hfk : Fresh w (w1.alloc (.cells #[.string s, .int .i64 i'] 51)) := hf1.alloc _
    have d0 := heap_alloc_new w1 (.cells #[.string s, .int .i64 i'] 51)
    have d2 := (Below.heap_alloc w1 (.cells #[.string s, .int .i64 i'] 51) _ hl2).trans b2
    have hzk := hz.kept hfk (fun e => e)
    have hrk := h.kept hfk (fun e => e)
    go_wp2_with fail
    refine (HN.out _ hrk).mono ?_
    rintro e w2 ⟨rfl, hr2, hk2⟩
    have hbn : w1.heap.size ≠ b := by omega
    have hbn2 : w.heap.size + 2 ≠ b := by omega
    obtain ⟨y0, y1, g0, g1⟩ := cells2 (hk2.at d0 hbn)
    obtain ⟨z0, z1, c0, c1⟩ := cells2 (hk2.at d2 hbn2)
    have hkw : Kept (only b) w w2 := (hfk.mono (S' := only b) (fun _ _ e => e.elim)).trans hk2 (fun _ _ e => e)
    have hr3 : ∀ v u, RdAt ((w2.setCell ⟨w.heap.size + 2, 0, none⟩ v).setCell ⟨w.heap.size + 2, 1, none⟩ u) b s i' := fun v u => hr2.kept (S := only (w.heap.size + 2)) (((Kept.refl (only (w.heap.size + 2)) w2).setCell (p := ⟨w.heap.size + 2, 0, none⟩) (fun _ => rfl) v).setCell (p := ⟨w.heap.size + 2, 1, none⟩) (fun _ => rfl) u) (fun e => hbn2 e.symm)
    clear hk2 HN
    go_wp2
    exact bodyPost_ret (v := .tuple #[rdV s i', .bool true]) (by simp [results, Tryd.results25, go_sem, z0, z1]) rfl ⟨i', rfl, hr3 _ _, kept_set (p := ⟨w.heap.size + 2, 1, none⟩) (kept_set (p := ⟨w.heap.size + 2, 0, none⟩) hkw (by show _ ≤ w.heap.size + 2; omega) _) (by show _ ≤ w.heap.size + 2; omega) _⟩
  · rw [hkd]
    go_wp2_with fail
    refine (refRText_any s i n _ hi (by omega)).mono ?_
    rintro e w1 ⟨rfl, hk1⟩
    obtain ⟨b0, b1, b2⟩ := three_blocks hk1
    have hf1 : Fresh w w1 := hf0.trans hk1 (fun _ _ e => e)
    have hl2 := lt_of_heap b2
    have hl1 : w.heap.size + 1 < w1.heap.size := by omega
    have hl0 : w.heap.size < w1.heap.size := by omega
    clear hk1
    have hnum := rtext_any b s i n
    have HN := show Hid _ from hnum
    clear hnum
    generalize (textR s i n).1 = x at *
    generalize (textR s i n).2.1 = er at *
    generalize (textR s i n).2.2 = i' at *
    obtain ⟨p0, p1, p2, p3, p4⟩ := cells5 b1
    have hfk : Fresh w (w1.alloc (.cells #[.string s, .int .i64 i'] 51)) := hf1.alloc _
    have d0 := heap_alloc_new w1 (.cells #[.string s, .int .i64 i'] 51)
    have d2 := (Below.heap_alloc w1 (.cells #[.string s, .int .i64 i'] 51) _ hl2).trans b2
    have hzk := hz.kept hfk (fun e => e)
    have hrk := h.kept hfk (fun e => e)
    go_wp2_with fail
    refine (HN.out _ hrk).mono ?_
    rintro e w2 ⟨rfl, hr2, hk2⟩
    have hbn : w1.heap.size ≠ b := by omega
    have hbn2 : w.heap.size + 2 ≠ b := by omega
    obtain ⟨y0, y1, g0, g1⟩ := cells2 (hk2.at d0 hbn)
    obtain ⟨z0, z1, c0, c1⟩ := cells2 (hk2.at d2 hbn2)
    have hkw : Kept (only b) w w2 := (hfk.mono (S' := only b) (fun _ _ e => e.elim)).trans hk2 (fun _ _ e => e)
    have hr3 : ∀ v u, RdAt ((w2.setCell ⟨w.heap.size + 2, 0, none⟩ v).setCell ⟨w.heap.size + 2, 1, none⟩ u) b s i' := fun v u => hr2.kept (S := only (w.heap.size + 2)) (((Kept.refl (only (w.heap.size + 2)) w2).setCell (p := ⟨w.heap.size + 2, 0, none⟩) (fun _ => rfl) v).setCell (p := ⟨w.heap.size + 2, 1, none⟩) (fun _ => rfl) u) (fun e => hbn2 e.symm)
    clear hk2 HN
    go_wp2
    exact bodyPost_ret (v := .tuple #[rdV s i', .bool true]) (by simp [results, Tryd.results25, go_sem, z0, z1]) rfl ⟨i', rfl, hr3 _ _, kept_set (p := ⟨w.heap.size + 2, 1, none⟩) (kept_set (p := ⟨w.heap.size + 2, 0, none⟩) hkw (by show _ ≤ w.heap.size + 2; omega) _) (by show _ ≤ w.heap.size + 2; omega) _⟩

end Go.Proofs.YtcdgphneljgooaaDoor
