/-
  A run more: slices.Insert, on the runs.
-/
import Derived.Test.YtonpdnpfekmapaaQud
namespace Go.Proofs.Ytonpdnpfekmapaa
open Go.RowKit Go.Lib

theorem Try.infoRn : (Try.prog.info? 162).map (fun i => (i.zero, i.size, i.bytes)) = some (some (.slice none 0 0), 1, 24) := by kernel_rfl

set_option maxHeartbeats 4000000 in
set_option maxRecDepth 100000 in
theorem insR_shift (b n cap i : Nat) (cs : List Value) (x : Value) (vb : Nat) (w : World) (hown : w.ownsRow 0 162 1 (.slice (some ⟨b, 0, none⟩) n cap) n cs) (hi : i < n) (hroom : n + 1 ≤ cap)
    (hx : x.oneCell' = true) (h1c : ∀ v ∈ cs, v.oneCell' = true) (hvb : w.heap[vb]? = some (.cells #[x] 162 (0, 0))) (hne : vb ≠ b) :
    Calls Try.prog 134 #[.slice (some ⟨b, 0, none⟩) n cap, nV i, .slice (some ⟨vb, 0, none⟩) 1 1] w (InR 162 (.slice (some ⟨b, 0, none⟩) n cap) (n + 1) (cs.take i ++ x :: cs.drop i) w) := by
  obtain ⟨hcl, h2⟩ := hown
  rw [Nat.mul_one] at hcl
  rcases h2 with ⟨e, _⟩ | ⟨g, cap', cur, hv, _, hh, hnc, hcm, hsz, htk⟩
  · cases e
  injection hv with e1 _ e3
  injection e1 with e1
  injection e1 with e1
  subst e1
  subst e3
  rw [Nat.mul_one] at hsz htk
  have hc63 : cap ≤ 9223372036854775807 := by unfold maxLen at hcm; omega
  have hcs : ∀ j v, cs[j]? = some v → w.cell? ⟨b, j, none⟩ = some v := fun j v hj => by
    simp only [World.cell?, hh]
    rw [← htk, List.getElem?_take] at hj
    split at hj
    · simpa using hj
    · cases hj
  have hsp : ∀ j, j < n + 1 → (w.cell? ⟨b, j, none⟩).isSome = true := fun j hj => by
    simp only [World.cell?, hh]
    rw [Array.getElem?_eq_getElem (by omega)]
    rfl
  have hfz : ∀ j, w.frozen? ⟨b, j, none⟩ = false := fun j => Lib.frozen_of_heap hh j
  have hvc : w.cell? ⟨vb, 0, none⟩ = some x := by rw [Lib.cell_of_heap hvb]; rfl
  have hsize : (Try.prog.info? 162).map (·.size) = some 1 := by kernel_rfl
  have hov : ∀ lb cb, (callFunc 151 #[.slice (some ⟨vb, 0, none⟩) 1 1, .slice (some ⟨b, i + 1, none⟩) lb cb]).run Try.prog w = .ok (.value (.bool false)) w := fun lb cb => by
    rw [run_callFunc_extern Try.func151 (by kernel_rfl) (by kernel_rfl) (by kernel_rfl) (e := Extern.SlicesOverlaps.overlaps #[95, 95] #[4]) (by kernel_rfl),
      Lib.run_overlaps_apart w 95 4 162 Try.underlying95 1 Try.sizeOf162 ⟨vb, 0, none⟩ ⟨b, i + 1, none⟩ 1 1 lb cb hne 162 162 1 cur.size (by simp [World.shape?, hvb]) (by simp [World.shape?, hh]) (by omega) (Lib.frozen_of_heap hvb 0) (Lib.frozen_of_heap hvb 1)]
    rfl
  have hdl : (cs.drop i).length = n - i := by rw [List.length_drop, hcl]
  have hcp1 : ∀ ty dc sc, (Builtin.copy_ #[95, 95] ty #[.slice (some ⟨b, i + 1, none⟩) (n - i) dc, .slice (some ⟨b, i, none⟩) (n + 1 - i) sc]).run Try.prog w.drew = .ok (goInt (cs.drop i).length) (w.drew.setCells b (i + 1) (cs.drop i)) := fun ty dc sc =>
    run_copy_cells w.drew _ _ ty 162 b (i + 1) (n - i) dc ⟨b, i, none⟩ (n + 1 - i) sc (cs.drop i) Try.underlying95 hsize (by rw [hdl]; simp only [Nat.min_def]; split <;> omega)
      (fun j v hj => by rw [Addr.add_lit]; exact hcs (i + j) v (by rwa [List.getElem?_drop] at hj))
      (fun j hj => hsp _ (by omega)) (fun j hj => hfz _) (fun v hv => h1c v (List.mem_of_mem_drop hv))
  obtain ⟨W1, hW1⟩ : ∃ W1, W1 = w.drew.setCells b (i + 1) (cs.drop i) := ⟨_, rfl⟩
  have hcp2 : ∀ ty dc, (Builtin.copy_ #[95, 95] ty #[.slice (some ⟨b, i, none⟩) (n + 1 - i) dc, .slice (some ⟨vb, 0, none⟩) 1 1]).run Try.prog W1 = .ok (goInt [x].length) (W1.setCells b i [x]) := fun ty dc =>
    run_copy_cells W1 _ _ ty 162 b i (n + 1 - i) dc ⟨vb, 0, none⟩ 1 1 [x] Try.underlying95 hsize (by simp only [Nat.min_def, List.length_singleton]; split <;> omega)
      (fun j v hj => by
        rw [Addr.add_lit, hW1, World.cell?_setCells_out b _ _ _ _ (fun h _ => absurd h hne)]
        have : j = 0 := by
          rcases Nat.eq_zero_or_pos j with e | e
          · exact e
          · rw [List.getElem?_eq_none (by simp; omega)] at hj; cases hj
        subst this
        simp at hj
        subst hj
        exact hvc)
      (fun j hj => by
        rw [hW1]
        exact isSome_setCells b (cs.drop i) (i + 1) w.drew (fun t ht => hsp _ (by rw [hdl] at ht; omega)) (i + j) (hsp _ (by rw [List.length_singleton] at hj; omega)))
      (fun j hj => by rw [hW1, World.frozen?_setCells]; exact hfz _) (fun v hv => by rw [List.mem_singleton.1 hv]; exact hx)
  rw [← hW1] at hcp1
  have HEND : Hid (InR 162 (.slice (some ⟨b, 0, none⟩) n cap) (n + 1) (cs.take i ++ x :: cs.drop i) w (.returned (.slice (some ⟨b, 0, none⟩) (n + 1) cap)) (W1.setCells b i [x])) := by
    have q1 := heap_setCells (cs.drop i) (i + 1) w.drew cur.toList (by rw [Array.toArray_toList]; exact hh) (by rw [hdl, Array.length_toList]; omega)
    rw [← hW1] at q1
    have q2 := heap_setCells [x] i W1 _ q1 (by simp; omega)
    have hcur : cur.toList.take i = cs.take i := by rw [← htk, List.take_take, Nat.min_eq_left (by omega)]
    have hl1 : (cur.toList.take (i + 1)).length = i + 1 := by rw [List.length_take, Array.length_toList]; omega
    refine InR.mk ⟨?_, .inr ⟨b, cap, _, rfl, Nat.zero_le _, q2, hroom, hcm, ?_, ?_⟩⟩ ?_ (.inl rfl)
    · simp [hcl]; omega
    · simp [hcl]; omega
    · rw [Nat.mul_one, List.toList_toArray]
      have e1 : (List.take (i + 1) cur.toList ++ List.drop i cs ++ List.drop (i + 1 + (List.drop i cs).length) cur.toList).take i = cs.take i := by
        rw [List.append_assoc, List.take_append_of_le_length (by omega), List.take_take, Nat.min_eq_left (by omega), hcur]
      have e2 : (List.take (i + 1) cur.toList ++ List.drop i cs ++ List.drop (i + 1 + (List.drop i cs).length) cur.toList).drop (i + [x].length) = cs.drop i ++ List.drop (i + 1 + (List.drop i cs).length) cur.toList := by
        rw [List.append_assoc, List.drop_append, List.drop_of_length_le (by simp; omega), List.nil_append, hl1, List.length_singleton, Nat.sub_self, List.drop_zero]
      rw [e1, e2, List.append_assoc, List.singleton_append, ← List.cons_append, ← List.append_assoc]
      rw [List.take_append_of_le_length (by simp; omega), List.take_of_length_le (by simp; omega)]
    · rw [hW1]
      exact ((Kept.refl (ob (.slice (some ⟨b, 0, none⟩) n cap)) w).drew.trans (kept_setCells b _ _ _) (fun k _ e => by rw [e]; rfl)).trans (kept_setCells b _ _ _) (fun k _ e => by rw [e]; rfl)
  have mixed : Try.prog.follows .mixedOrders = true := by kernel_rfl
  have hz2 : ¬ ((i : Int) = (n : Int)) := by omega
  have hw1 : IntKind.i64.wrap ((i : Int) + 1) = (i : Int) + 1 := by rw [IntKind.wrap_i64]; omega
  have hb1 : (0 : Int) ≤ (i : Int) + 1 := by omega
  have hin : i ≤ n := by omega
  have htn : ((i : Int) + 1).toNat = i + 1 := by omega
  have hb2 : ¬ (cap = i + 1) := by omega
  have hb3 : (i : Int) ≤ (n : Int) + 1 := by omega
  have hb4 : ¬ (cap = i) := by omega
  clear hcs hsp hfz hvc hW1 hdl h1c hx hvb hh htk hcl
  go_enter Try.func134, Try.ntmps134
  go_wp2_with (simp only [hov])
  go_region_law_o (refine step_copy_runI rfl _ _ 95 95 rfl _ _ (by simp [Act.eval, Act.put]) (by simp [Act.eval, Act.put]) (hcp1 _ _ _) ?_)
  go_wp2_with (at_builtin; refine wpList_copy_runI _ rfl _ _ 95 95 rfl _ _ rfl rfl (hcp2 _ _) ?_)
  go_ret
  exact HEND.out
set_option maxHeartbeats 4000000 in
set_option maxRecDepth 100000 in
theorem insR_end (b n cap : Nat) (cs : List Value) (x : Value) (vb : Nat) (w : World) (hown : w.ownsRow 0 162 1 (.slice (some ⟨b, 0, none⟩) n cap) n cs) (hn : n ≤ 1048576)
    (hx : x.oneCell' = true) (hvb : w.heap[vb]? = some (.cells #[x] 162 (0, 0))) :
    Calls Try.prog 134 #[.slice (some ⟨b, 0, none⟩) n cap, nV n, .slice (some ⟨vb, 0, none⟩) 1 1] w (InR 162 (.slice (some ⟨b, 0, none⟩) n cap) (n + 1) (cs ++ [x]) w) := by
  obtain ⟨i0, hi0, hz0, hzs, hzb⟩ := info_parts Try.infoRn
  have hnw : ∀ j u, [x][j]? = some u → w.cell? ((⟨vb, 0, none⟩ : Addr).add j) = some u := World.news_of_block (cs := #[x]) (t := 162) (fr := (0, 0)) hvb
  have h1 : ∀ u ∈ [x], u.oneCell' = true := fun u hu => by rw [List.mem_singleton.1 hu]; exact hx
  have hcc : n ≤ cap ∧ cap ≤ 9223372036854775807 := by
    rcases hown.2 with ⟨e, _⟩ | ⟨g, cap', cur, hv, _, _, hnc, hcm, _⟩
    · cases e
    · injection hv with _ _ e3
      subst e3
      unfold maxLen at hcm
      omega
  obtain ⟨hc1, hc2⟩ := hcc
  clear hvb hx
  go_enter Try.func134, Try.ntmps134
  go_wp2_with (at_builtin; refine wpList_append_lies _ rfl _ _ _ rfl 0 162 i0 _ 1 24 Try.underlying95 hi0 hz0 hzs hzb rfl (by omega) _ _ _ rfl hown ⟨vb, 0, none⟩ 1 1 [x] rfl rfl hnw h1 (by omega) (by unfold maxLen; omega) (by omega) (by omega) w.heap.size rfl ?_; intro g cap' w' hown' hgrow hat hlt)
  all_goals go_ret
  all_goals exact InR.mk hown' ((Kept.refl _ w).grown hgrow (fun k _ e => e)) (by rcases hat with e | e; exact .inl e; exact .inr (by omega))

set_option maxHeartbeats 4000000 in
set_option maxRecDepth 100000 in
theorem insR_grow (b n cap i : Nat) (cs : List Value) (x : Value) (vb : Nat) (w : World) (hown : w.ownsRow 0 162 1 (.slice (some ⟨b, 0, none⟩) n cap) n cs) (hi : i < n) (hn : n ≤ 1048576) (hroom : cap < n + 1)
    (hx : x.oneCell' = true) (h1c : ∀ v ∈ cs, v.oneCell' = true) (hvb : w.heap[vb]? = some (.cells #[x] 162 (0, 0))) :
    Calls Try.prog 134 #[.slice (some ⟨b, 0, none⟩) n cap, nV i, .slice (some ⟨vb, 0, none⟩) 1 1] w (InR 162 (.slice (some ⟨b, 0, none⟩) n cap) (n + 1) (cs.take i ++ x :: cs.drop i) w) := by
  obtain ⟨i0, hi0, hz0, hzs, hzb⟩ := info_parts Try.infoRn
  obtain ⟨hcl, h2⟩ := hown
  rw [Nat.mul_one] at hcl
  rcases h2 with ⟨e, _⟩ | ⟨g, cap', cur, hv, _, hh, hnc, hcm, hsz, htk⟩
  · cases e
  injection hv with e1 _ e3
  injection e1 with e1
  injection e1 with e1
  subst e1
  subst e3
  obtain rfl : cap = n := by omega
  rw [Nat.mul_one] at hsz htk
  have hcs : ∀ j v, cs[j]? = some v → w.cell? ⟨b, j, none⟩ = some v := fun j v hj => by
    simp only [World.cell?, hh]
    rw [← htk, List.getElem?_take] at hj
    split at hj
    · simpa using hj
    · cases hj
  have hvc : w.cell? ⟨vb, 0, none⟩ = some x := by rw [Lib.cell_of_heap hvb]; rfl
  have hsize : (Try.prog.info? 162).map (·.size) = some 1 := by kernel_rfl
  have hbw : b < w.heap.size := lt_of_heap hh
  have hvw : vb < w.heap.size := lt_of_heap hvb
  have hkk : (cap : Int) + 1 - (i : Int) = ((cap + 1 - i : Nat) : Int) := by omega
  have hik : i + (cap + 1 - i) = cap + 1 := by omega
  have hold : (Builtin.firstCells i0.size i (.slice (some ⟨b, 0, none⟩) i cap)).run Try.prog w.drew = .ok (cs.take i).toArray w.drew := by
    rw [hzs]
    exact run_firstCells_some w.drew 1 i ⟨b, 0, none⟩ i cap (cs.take i) (by rw [List.length_take]; omega) (fun j v hj => by
      rw [Addr.add_lit, Nat.zero_add]
      rw [List.getElem?_take] at hj
      split at hj
      · exact hcs j v hj
      · cases hj)
  obtain ⟨G, hG⟩ : ∃ G, G = grownCap w (cap + 1) cap 162 := ⟨_, rfl⟩
  obtain ⟨ROW, hROW⟩ : ∃ ROW : List Value, ROW = cs.take i ++ List.replicate (cap + 1 - i) (.slice none 0 0) ++ List.replicate (G - (cap + 1)) (.slice none 0 0) := ⟨_, rfl⟩
  have hrz : ∀ ty, (Builtin.append_ #[95, 3] ty #[.slice (some ⟨b, 0, none⟩) i cap, .int .i64 ((cap : Int) + 1 - (i : Int))]).run Try.prog w =
      .ok (.slice (some ⟨w.heap.size, 0, none⟩) (cap + 1) G) (w.drew.alloc (.cells ROW.toArray 162)) := fun ty => by
    have h := Lib.run_append_grow_zeros w 95 3 ty 162 i0 _ .i64 .i64 Try.underlying95 Try.underlying3 hi0 hz0 (some ⟨b, 0, none⟩) i cap (cs.take i) hold (cap + 1 - i) (by omega) (by omega) (by omega) (by omega) (by rw [hzb]; omega) (by rw [hzb, hik]; exact growslice_fits (by omega) (by omega))
    rw [hik, ← hG] at h
    rw [hkk, h, hROW]
    have hzc : ∀ k, Builtin.zeroCells (Value.slice none 0 0).cells k = (List.replicate k (Value.slice none 0 0)).toArray := fun k => by
      unfold Builtin.zeroCells
      apply Array.ext
      · simp [Value.cells]
      · intro j h1 h2
        simp [Value.cells, Nat.mod_one]
    rw [hzc, hzc]
    simp only [List.append_toArray]
  have hGn : cap + 1 ≤ G := by rw [hG]; exact grownCap_ge w _ _ _
  have hGm : G ≤ maxLen := by rw [hG]; exact grownCap_le_maxLen w (cap + 1) cap 162 (by unfold maxLen; omega)
  have hG63 : G ≤ 9223372036854775807 := by unfold maxLen at hGm; omega
  have hRl : ROW.length = G := by
    rw [hROW]
    simp
    omega
  obtain ⟨W1, hW1⟩ : ∃ W1, W1 = w.drew.alloc (.cells ROW.toArray 162) := ⟨_, rfl⟩
  have hH1 : W1.heap[w.heap.size]? = some (.cells ROW.toArray 162 (0, 0)) := by rw [hW1]; exact heap_alloc_new w.drew _
  have hK1 : Fresh w W1 := by rw [hW1]; exact (Kept.refl _ w).drew.alloc _
  rw [← hW1] at hrz
  have hN : ∀ (W : World), W.heap = W1.heap → ∀ j, j < cap + 1 → (W.cell? ⟨w.heap.size, j, none⟩).isSome = true := fun W hW j hj => by
    simp only [World.cell?, hW, hH1]
    simp
    omega
  have hcpA : ∀ (W : World), W.heap = W1.heap → ∀ ty dc, (Builtin.copy_ #[95, 95] ty #[.slice (some ⟨w.heap.size, i, none⟩) (cap + 1 - i) dc, .slice (some ⟨vb, 0, none⟩) 1 1]).run Try.prog W = .ok (goInt [x].length) (W.setCells w.heap.size i [x]) := fun W hW ty dc =>
    run_copy_cells W _ _ ty 162 w.heap.size i (cap + 1 - i) dc ⟨vb, 0, none⟩ 1 1 [x] Try.underlying95 hsize (by simp only [Nat.min_def, List.length_singleton]; split <;> omega)
      (fun j v hj => by
        rw [Addr.add_lit]
        have : j = 0 := by
          rcases Nat.eq_zero_or_pos j with e | e
          · exact e
          · rw [List.getElem?_eq_none (by simp; omega)] at hj; cases hj
        subst this
        simp at hj
        subst hj
        have h3 : W1.cell? ⟨vb, 0, none⟩ = some x := (hK1.cell (p := ⟨vb, 0, none⟩) hvw (fun e => e)).trans hvc
        simp only [World.cell?, hW] at h3 ⊢
        exact h3)
      (fun j hj => hN W hW _ (by rw [List.length_singleton] at hj; omega))
      (fun j hj => Lib.frozen_of_heap (by rw [hW]; exact hH1) _) (fun v hv => by rw [List.mem_singleton.1 hv]; exact hx)
  have hdl : (cs.drop i).length = cap - i := by rw [List.length_drop, hcl]
  have hbN : b ≠ w.heap.size := by omega
  have hcpB : ∀ (W V : World), V.heap = W1.heap → W.heap = (V.setCells w.heap.size i [x]).heap → ∀ ty dc sc, (Builtin.copy_ #[95, 95] ty #[.slice (some ⟨w.heap.size, i + 1, none⟩) (cap - i) dc, .slice (some ⟨b, i, none⟩) (cap - i) sc]).run Try.prog W = .ok (goInt (cs.drop i).length) (W.setCells w.heap.size (i + 1) (cs.drop i)) := fun W V hV hW ty dc sc =>
    run_copy_cells W _ _ ty 162 w.heap.size (i + 1) (cap - i) dc ⟨b, i, none⟩ (cap - i) sc (cs.drop i) Try.underlying95 hsize (by rw [hdl]; simp only [Nat.min_def]; split <;> omega)
      (fun j v hj => by
        have h3 : W1.cell? ⟨b, i + j, none⟩ = some v := (hK1.cell (p := ⟨b, i + j, none⟩) hbw (fun e => e)).trans (hcs (i + j) v (by rwa [List.getElem?_drop] at hj))
        have h4 : (V.setCells w.heap.size i [x]).cell? ⟨b, i + j, none⟩ = some v := by
          rw [World.cell?_setCells_out _ _ _ _ _ (fun h _ => absurd h hbN)]
          simp only [World.cell?, hV] at h3 ⊢
          exact h3
        rw [Addr.add_lit]
        simp only [World.cell?, hW] at h4 ⊢
        exact h4)
      (fun j hj => by
        have h4 := isSome_setCells w.heap.size [x] i V (fun t ht => hN V hV _ (by rw [List.length_singleton] at ht; omega)) (i + 1 + j) (hN V hV _ (by rw [hdl] at hj; omega))
        simp only [World.cell?, hW] at h4 ⊢
        exact h4)
      (fun j hj => by
        have h5 := heap_setCells [x] i V ROW (by rw [hV]; exact hH1) (by rw [List.length_singleton]; omega)
        exact Lib.frozen_of_heap (by rw [hW]; exact h5) _) (fun v hv => h1c v (List.mem_of_mem_drop hv))
  have HEND : Hid (∀ (V W : World), Kept (fun _ => False) w V → V.heap = W1.heap → Kept (fun _ => False) (V.setCells w.heap.size i [x]) W → W.heap = (V.setCells w.heap.size i [x]).heap → InR 162 (.slice (some ⟨b, 0, none⟩) cap cap) (cap + 1) (cs.take i ++ x :: cs.drop i) w (.returned (.slice (some ⟨w.heap.size, 0, none⟩) (cap + 1) G)) (W.setCells w.heap.size (i + 1) (cs.drop i))) := fun V W hkV hV hkW hW => by
    have q1 := heap_setCells [x] i V ROW (by rw [hV]; exact hH1) (by rw [List.length_singleton]; omega)
    rw [← hW] at q1
    have hrt : ROW.take i = cs.take i := by rw [hROW, List.append_assoc, List.take_append_of_le_length (by rw [List.length_take]; omega), List.take_take, Nat.min_self]
    rw [hrt] at q1
    have q2 := heap_setCells (cs.drop i) (i + 1) W _ q1 (by simp; omega)
    refine InR.mk ⟨?_, .inr ⟨w.heap.size, G, _, rfl, Nat.zero_le _, q2, hGn, hGm, ?_, ?_⟩⟩ ?_ (.inr (Nat.le_refl _))
    · simp [hcl]; omega
    · simp [hcl]; omega
    · rw [Nat.mul_one, List.toList_toArray]
      have hl1 : (cs.take i ++ [x]).length = i + 1 := by simp; omega
      have e1 : ∀ Y, (cs.take i ++ [x] ++ Y).take (i + 1) = cs.take i ++ [x] := fun Y => by rw [List.take_append_of_le_length (by omega), List.take_of_length_le (by omega)]
      have hl2 : (cs.take i ++ [x] ++ cs.drop i).length = cap + 1 := by simp; omega
      rw [e1, List.take_append_of_le_length (by omega), List.take_of_length_le (by omega)]
      simp
    · refine Kept.trans (S' := fun k => k = w.heap.size) ?_ (kept_setCells w.heap.size _ _ _) (fun k hk e => by omega)
      refine Kept.trans (S' := fun _ => False) ?_ hkW (fun k _ e => e.elim)
      exact Kept.trans (S' := fun k => k = w.heap.size) (hkV.mono (fun k _ e => e.elim)) (kept_setCells w.heap.size _ _ _) (fun k hk e => by omega)
  have mixed : Try.prog.follows .mixedOrders = true := by kernel_rfl
  have hz2 : ¬ ((i : Int) = (cap : Int)) := by omega
  have hz3 : (cap : Int) < (cap : Int) + 1 := by omega
  have hGi : ¬ (G = i) := by omega
  have hGim : ¬ (G = i + 1) := by omega
  have hci : ¬ (cap = i) := by omega
  have hw1 : IntKind.i64.wrap ((i : Int) + 1) = (i : Int) + 1 := by rw [IntKind.wrap_i64]; omega
  have hb1 : (0 : Int) ≤ (i : Int) + 1 := by omega
  have hin : i ≤ cap := by omega
  have htn : ((i : Int) + 1).toNat = i + 1 := by omega
  have hb3 : (i : Int) ≤ (cap : Int) := by omega
  clear hkk hik hold hROW hG hRl hcs hvc hN hdl hcl h1c hx hvb hh htk hW1 hH1
  go_enter Try.func134, Try.ntmps134
  go_wp2_with (first
    | (at_builtin; refine Lib.wpList_append_run _ rfl _ _ _ _ rfl _ _ rfl rfl _ _ (hrz _) ?_)
    | (at_builtin; refine wpList_copy_runI _ rfl _ _ 95 95 rfl _ _ rfl rfl (hcpA _ rfl _ _) ?_))
  go_region_law_o (refine step_copy_runI rfl _ _ 95 95 rfl (.slice (some ⟨w.heap.size, i + 1, none⟩) (cap - i) (G - (i + 1))) (.slice (some ⟨b, i, none⟩) (cap - i) (cap - i)) (by simp [Act.eval, Act.put]) (by simp [Act.eval, Act.put]) (hcpB ((W1.setCells w.heap.size i [x]).drew) W1 rfl rfl 3 (G - (i + 1)) (cap - i)) ?_)
  go_wp2
  go_ret
  exact HEND.out W1 _ hK1 rfl (Kept.refl _ _).drew rfl

/-- slices.Insert, on the runs. -/
theorem insR_any (b n cap i : Nat) (cs : List Value) (x : Value) (vb : Nat) (w : World) (hown : w.ownsRow 0 162 1 (.slice (some ⟨b, 0, none⟩) n cap) n cs) (hi : i ≤ n) (hn : n ≤ 1048576)
    (hx : x.oneCell' = true) (h1c : ∀ v ∈ cs, v.oneCell' = true) (hvb : w.heap[vb]? = some (.cells #[x] 162 (0, 0))) (hne : vb ≠ b) :
    Calls Try.prog 134 #[.slice (some ⟨b, 0, none⟩) n cap, nV i, .slice (some ⟨vb, 0, none⟩) 1 1] w (InR 162 (.slice (some ⟨b, 0, none⟩) n cap) (n + 1) (cs.take i ++ x :: cs.drop i) w) := by
  by_cases h : i = n
  · subst h
    have hl : cs.length = i := by have := hown.1; omega
    rw [List.take_of_length_le (by omega), List.drop_of_length_le (by omega)]
    exact insR_end b i cap cs x vb w hown hn hx hvb
  · by_cases hr : n + 1 ≤ cap
    · exact insR_shift b n cap i cs x vb w hown (by omega) hr hx h1c hvb hne
    · exact insR_grow b n cap i cs x vb w hown (by omega) hn (by omega) hx h1c hvb
end Go.Proofs.Ytonpdnpfekmapaa
