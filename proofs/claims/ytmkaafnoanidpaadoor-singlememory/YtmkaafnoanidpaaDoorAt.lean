/-
  The document's row at a scale.
-/
import Derived.Test.YtmkaafnoanidpaaDoorWh
import Derived.Test.YtmkaafnoanidpaaDoorKn
import Derived.Deep.AppendLies
namespace Go.Proofs.YtmkaafnoanidpaaDoor
open Go.RowKit Ieee

set_option maxHeartbeats 800000 in
theorem whole_any (m : Nat) (e : Int) (w : World) (hm : m < 16777216) (he : -1000 ≤ e ∧ e ≤ 1000) :
    Calls Tryd.prog 50 #[.int .i64 m, .int .i64 e] w fun r w' => r = .returned (.int .i64 (whV m e)) ∧ Fresh w w' := by
  obtain ⟨he1, he2⟩ := he
  by_cases h0 : m = 0
  · subst h0
    have hv : whV 0 e = 0 := by unfold whV; rw [rnI_zero]; rfl
    rw [hv]
    clear hv
    go_enter Tryd.func50, Tryd.ntmps50
    go_wp2
    go_ret
    exact ⟨rfl, Kept.refl _ _⟩
  · have HL : Hid (∀ X, Calls Tryd.prog 47 #[.int .u64 m] X fun e w' => e = .returned (.int .i64 (Go.bitLen m : Nat)) ∧ X = w') := fun X => (length_any m X (by omega)).mono fun _ _ h => ⟨h.1, h.2.symm⟩
    have hl64 : Go.bitLen m ≤ 64 := bitLen_le64 (by omega)
    have hm0 : ((m : Int) == 0) = false := by simp; omega
    by_cases g1 : (Go.bitLen m : Int) + e < -1
    · have hv : whV m e = 0 := by unfold whV; rw [wh_low g1]; rfl
      rw [hv]
      clear hv
      generalize Go.bitLen m = L at *
      have hw : wrap64 ((L : Int) + e) = (L : Int) + e := by unfold wrap64; omega
      go_enter Tryd.func50, Tryd.ntmps50
      go_wp2_with fail
      refine (HL.out _).mono ?_
      rintro r X ⟨rfl, rfl⟩
      go_wp2
      go_ret
      exact ⟨rfl, Kept.refl _ _⟩
    · by_cases g2 : 8 < (Go.bitLen m : Int) + e
      · have hv : whV m e = -1 := by unfold whV; rw [if_neg (by have := wh_high h0 g2; omega)]
        rw [hv]
        clear hv
        generalize Go.bitLen m = L at *
        have hw : wrap64 ((L : Int) + e) = (L : Int) + e := by unfold wrap64; omega
        go_enter Tryd.func50, Tryd.ntmps50
        go_wp2_with fail
        refine (HL.out _).mono ?_
        rintro r X ⟨rfl, rfl⟩
        go_wp2_with fail
        refine (HL.out _).mono ?_
        rintro r X ⟨rfl, rfl⟩
        go_wp2
        go_ret
        exact ⟨rfl, Kept.refl _ _⟩
      · rcases Int.lt_or_le e 0 with g3 | g3
        · obtain ⟨d, rfl⟩ : ∃ d : Nat, e = -(d : Int) := ⟨e.natAbs, by omega⟩
          exact whole_down m d w h0 hm (by omega) (by omega) (by omega)
        · obtain ⟨d, rfl⟩ : ∃ d : Nat, e = (d : Int) := ⟨e.natAbs, by omega⟩
          exact (whole_up m d w h0 hm (by omega)).mono fun r w' h => ⟨h.1, h.2 ▸ Kept.refl _ _⟩

theorem fresh_grown {w w0 w1 : World} {B : Nat} {v : Value} {n : Nat} {xs : List Value} {e : TypeId} {size : Nat} (hk : Fresh w w0) (hown : w0.ownsRow B e size v n xs) (hB : w.heap.size ≤ B) {o : Obj} (hg : (w0.alloc o).grownBy w1 v.ownBlock) : Fresh w w1 := by
  refine (hk.alloc o).grown hg (fun k hk e => ?_)
  rcases hown.2 with ⟨rfl, _⟩ | ⟨g, cap, cur, rfl, hb, _⟩
  · simp [Value.ownBlock] at e
  · simp [Value.ownBlock] at e; omega

theorem own_fresh {w w' : World} {B : Nat} {e : TypeId} {size : Nat} {v : Value} {n : Nat} {xs : List Value} (h : w.ownsRow B e size v n xs) (hk : Fresh w w') : w'.ownsRow B e size v n xs := by
  refine ⟨h.1, h.2.imp id fun ⟨g, cap, cur, h1, h2, h3, h4⟩ => ⟨g, cap, cur, h1, h2, ?_, h4⟩⟩
  rw [hk.block g (lt_of_heap h3) (fun e => e)]
  exact h3

theorem own8_empty (w : World) : (w.alloc (.cells #[] 37)).ownsRow w.heap.size 37 1 (.slice (some ⟨w.heap.size, 0, none⟩) 0 0) 0 [] :=
  ⟨rfl, .inr ⟨w.heap.size, 0, #[], rfl, Nat.le_refl _, heap_alloc_new w _, Nat.le_refl _, Nat.zero_le _, rfl, rfl⟩⟩
theorem q8s_succ (s : Int) (bs : List Nat) {j : Nat} (h : j < bs.length) : q8s s (bs.take (j + 1)) = q8s s (bs.take j) ++ [.int .i8 (q8 s (bs.getD j 0))] := by
  unfold q8s
  rw [List.take_succ_eq_append_getElem h, List.map_append, List.getD_eq_getElem?_getD, List.getElem?_eq_getElem h]; rfl

/-- The whole row has room at a scale. -/
def Room (s : Int) (bs : List Nat) : Prop := ∀ b ∈ bs, whl b s ≤ 127

set_option maxHeartbeats 1000000 in
set_option maxRecDepth 100000 in
theorem refat_any (p : Nat → Prop) (rv : Value) (bs : List Nat) (s : Int) (w : World) (hr : R32 p w rv bs) (hs : -64 ≤ s ∧ s ≤ 64) (hf : ∀ b ∈ bs, bE b ≠ 255) :
    Calls Tryd.prog 34 #[rv, .int .i64 s] w fun e w' => Fresh w w' ∧ ∃ v, (Room s bs ∧ e = .returned (.tuple #[v, .bool true]) ∧ w'.ownsRow w.heap.size 37 1 v bs.length (q8s s bs)) ∨ (¬ Room s bs ∧ e = .returned (.tuple #[v, .bool false])) := by
  obtain ⟨i0, hi, hz0, hz1, hz2⟩ := info_parts Tryd.info8'
  obtain ⟨ao, cap, rfl, hl, hc, hz, _⟩ := hr
  obtain ⟨hs1, hs2⟩ := hs
  go_enter Tryd.func34, Tryd.ntmps34
  go_wp2
  go_loopw [6, 7] (fun v i wr => ∃ j : Nat, j ≤ bs.length ∧ i = .int .i64 j ∧ Room s (bs.take j) ∧ wr.ownsRow w.heap.size 37 1 v j (q8s s (bs.take j)) ∧ Fresh w wr) (fun _ i _ => bs.length - (intOf i).toNat)
  case atStart => exact ⟨0, by omega, rfl, by simp [Room], own8_empty w, (Kept.refl _ _).alloc _⟩
  case round =>
    obtain ⟨j, hj, rfl, hrm, hown, hfr⟩ := hrel
    by_cases hlt : j < bs.length
    · obtain ⟨b, off, rfl, _, hb, hcell⟩ := hc (fun e => by rw [e] at hlt; simp at hlt)
      have g1 : wr.cell? ⟨b, off + j, none⟩ = some (.int .u32 (bs.getD j 0 : Nat)) := (hfr.cell (p := ⟨b, off + j, none⟩) hb (fun e => e)).trans (hcell j hlt)
      have hmem : bs.getD j 0 ∈ bs := by rw [List.getD_eq_getElem?_getD, List.getElem?_eq_getElem hlt]; exact List.getElem_mem hlt
      have hE := hf _ hmem
      have hz1' := hz _ hmem
      have HRaw := show Hid _ from fun X => raw_fin (bs.getD j 0) hz1' hE X
      have he := ex_bounds (bs.getD j 0)
      have HW := show Hid _ from fun X => whole_any (mt (bs.getD j 0)) (ex (bs.getD j 0) + s) X (mt_lt _) (by omega)
      have HNo : Hid (127 < whl (bs.getD j 0) s → ¬ Room s bs) := fun h hr => by have := hr _ hmem; omega
      have HYes : Hid (whl (bs.getD j 0) s ≤ 127 → Room s (bs.take (j + 1))) := fun h b hb => by
        rw [List.take_succ_eq_append_getElem hlt, List.mem_append] at hb
        rcases hb with hb | hb
        · exact hrm b hb
        · rw [List.getD_eq_getElem?_getD, List.getElem?_eq_getElem hlt] at h
          simp only [List.mem_singleton] at hb
          rw [hb]
          exact h
      have HT := show Hid _ from q8s_succ s bs hlt
      have hxl : (q8s s (bs.take j)).length = j := by unfold q8s; rw [List.length_map, List.length_take]; omega
      have hq : q8 s (bs.getD j 0) = sgnI (bN (bs.getD j 0)) (whl (bs.getD j 0) s) := rfl
      have hv : whV (mt (bs.getD j 0)) (ex (bs.getD j 0) + s) = if whl (bs.getD j 0) s ≤ 127 then (whl (bs.getD j 0) s : Int) else -1 := rfl
      have hwe : wrap64 (ex (bs.getD j 0) + s) = ex (bs.getD j 0) + s := by unfold wrap64; omega
      have hbn : w.heap.size ≤ wr.heap.size := hfr.size
      generalize q8s s (bs.take j) = xs at *
      generalize q8 s (bs.getD j 0) = Q at *
      generalize whV (mt (bs.getD j 0)) (ex (bs.getD j 0) + s) = V at *
      generalize whl (bs.getD j 0) s = T at *
      generalize ex (bs.getD j 0) = E at *
      generalize mt (bs.getD j 0) = M at *
      generalize bN (bs.getD j 0) = N at *
      generalize bs.getD j 0 = z at *
      clear hcell hc hz hf hmem hE hrm he
      by_cases g : T ≤ 127
      · rw [if_pos g] at hv
        have HY2 := show Hid _ from HYes.out g
        clear HYes HNo
        subst hv
        unfold sgnI at hq
        cases N with
        | true =>
          rw [if_pos rfl] at hq
          subst hq
          have hn : wrap64 (-(T : Int)) = -(T : Int) := by unfold wrap64; omega
          go_wp2_with fail
          refine (HRaw.out _).mono ?_
          rintro r X ⟨rfl, rfl⟩
          go_wp2_with fail
          refine (HW.out _).mono ?_
          rintro r w4 ⟨rfl, h4⟩
          have hfr4 : Fresh w w4 := hfr.trans h4 (fun _ _ e => e)
          have hown4 := own_fresh hown h4
          have hbn4 : w.heap.size ≤ w4.heap.size := hfr4.size
          clear hown
          have hw8 : IntKind.i8.wrap (-(T : Int)) = -(T : Int) := by simp [IntKind.wrap, IntKind.bits, IntKind.signed]; omega
          go_wp2_with (at_builtin; refine wpList_append_lies _ rfl _ _ _ rfl w.heap.size 37 i0 _ 1 1 Tryd.underlying28 hi hz0 hz1 hz2 rfl (by omega) _ _ _ rfl (hown4.alloc _) ⟨w4.heap.size, 0, none⟩ 1 1 [.int .i8 (-(T : Int))] rfl rfl (World.news_of_block (cs := #[.int .i8 (-(T : Int))]) (t := 37) (fr := (0, 0)) (heap_alloc_new w4 _)) (by simp [Value.oneCell']) (by omega) (by unfold maxLen; omega) (by omega) (by simp; omega) (w4.heap.size + 1) (by simp) ?_; intro g cap w1 hown1 hgrow hat hlt1)
          have r2 : Fresh w w1 := fresh_grown hfr4 hown4 (Nat.le_refl _) hgrow
          rw [← HT.out] at hown1
          clear hgrow hat hlt1
          go_roundw
          case rel => exact ⟨j + 1, by omega, by go_num, HY2.out, hown1, r2⟩
          case measure => simp [intOf]; omega
        | false =>
          rw [if_neg (by decide)] at hq
          subst hq
          go_wp2_with fail
          refine (HRaw.out _).mono ?_
          rintro r X ⟨rfl, rfl⟩
          go_wp2_with fail
          refine (HW.out _).mono ?_
          rintro r w4 ⟨rfl, h4⟩
          have hfr4 : Fresh w w4 := hfr.trans h4 (fun _ _ e => e)
          have hown4 := own_fresh hown h4
          have hbn4 : w.heap.size ≤ w4.heap.size := hfr4.size
          clear hown
          have hw8 : IntKind.i8.wrap ((T : Int)) = (T : Int) := by simp [IntKind.wrap, IntKind.bits, IntKind.signed]; omega
          go_wp2_with (at_builtin; refine wpList_append_lies _ rfl _ _ _ rfl w.heap.size 37 i0 _ 1 1 Tryd.underlying28 hi hz0 hz1 hz2 rfl (by omega) _ _ _ rfl (hown4.alloc _) ⟨w4.heap.size, 0, none⟩ 1 1 [.int .i8 ((T : Int))] rfl rfl (World.news_of_block (cs := #[.int .i8 ((T : Int))]) (t := 37) (fr := (0, 0)) (heap_alloc_new w4 _)) (by simp [Value.oneCell']) (by omega) (by unfold maxLen; omega) (by omega) (by simp; omega) (w4.heap.size + 1) (by simp) ?_; intro g cap w1 hown1 hgrow hat hlt1)
          have r2 : Fresh w w1 := fresh_grown hfr4 hown4 (Nat.le_refl _) hgrow
          rw [← HT.out] at hown1
          clear hgrow hat hlt1
          go_roundw
          case rel => exact ⟨j + 1, by omega, by go_num, HY2.out, hown1, r2⟩
          case measure => simp [intOf]; omega
      · rw [if_neg g] at hv
        have HN2 := show Hid _ from HNo.out (by omega)
        clear HYes HNo
        subst hv
        clear hq
        go_wp2_with fail
        refine (HRaw.out _).mono ?_
        rintro r X ⟨rfl, rfl⟩
        go_wp2_with fail
        refine (HW.out _).mono ?_
        rintro r w4 ⟨rfl, h4⟩
        have hfr4 : Fresh w w4 := hfr.trans h4 (fun _ _ e => e)
        go_wp2
        go_ret2
        exact ⟨hfr4.alloc _, _, .inr ⟨HN2.out, rfl⟩⟩
    · obtain rfl : j = bs.length := by omega
      rw [List.take_length] at hrm hown
      have HRm := show Hid _ from hrm
      clear hc hz hf hrm
      go_wp2
      go_ret2
      exact ⟨hfr, _, .inl ⟨HRm.out, rfl, hown⟩⟩

end Go.Proofs.YtmkaafnoanidpaaDoor
