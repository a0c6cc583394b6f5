/-
  The document's order of scores.
-/
import Derived.Test.YtbppahmcjifflaaDoorRkN
import Derived.Test.YtbppahmcjifflaaDoorFrw
namespace Go.Proofs.YtbppahmcjifflaaDoor
open Go.RowKit Go.Lib Go.Maps

theorem Rw.len {p : Nat → Prop} {W : World} {v : Value} {zs : List Int} (h : Rw p W v zs) : zs.length ≤ 17592186044416 := by obtain ⟨_, _, _, h, _⟩ := h; exact h
theorem Tryd.infoI : (Tryd.prog.info? 3).map (fun i => (i.zero, i.size, i.bytes)) = some (some (.int .i64 0), 1, 8) := by kernel_rfl
/-- Places, as numbers. -/
def upI (l : List Nat) : List Int := l.map (fun i : Nat => (i : Int))
theorem upI_length (l : List Nat) : (upI l).length = l.length := by simp [upI]
theorem upI_append (a b : List Nat) : upI (a ++ b) = upI a ++ upI b := by simp [upI]
theorem upI_get (l : List Nat) (i : Nat) : (upI l)[i]? = (l[i]?).map (fun i : Nat => (i : Int)) := by simp [upI]
theorem upI_inj {a b : List Nat} (h : upI a = upI b) : a = b := by
  unfold upI at h
  exact List.map_inj_right (fun x y h => Int.ofNat_inj.1 h) |>.1 h
theorem isOrd_insert {G : Nat → Int} {i a : Nat} {o : List Nat} (h : IsOrd G i o) (ha : a ≤ i) (h1 : ∀ t, a ≤ t → t < i → G (o.getD t 0) < G i) (h2 : a = 0 ∨ ¬ G (o.getD (a - 1) 0) < G i) : IsOrd G (i + 1) (o.take a ++ i :: o.drop a) := by
  have hl := h.length
  refine ⟨?_, ?_⟩
  · refine List.perm_middle.trans ?_
    rw [List.take_append_drop, List.range_succ]
    exact (h.1.cons i).trans (List.perm_append_comm (l₁ := [i]) (l₂ := List.range i))
  · have hp : (o.take a ++ o.drop a).Pairwise (Bf G) := by rw [List.take_append_drop]; exact h.2
    obtain ⟨p1, p2, p3⟩ := List.pairwise_append.1 hp
    rw [List.pairwise_append, List.pairwise_cons]
    refine ⟨p1, ⟨fun z hz => ?_, p2⟩, fun x hx y hy => ?_⟩
    · obtain ⟨t, ht, rfl⟩ := List.getElem_of_mem hz
      rw [List.length_drop] at ht
      have := h1 (a + t) (by omega) (by omega)
      rw [List.getD_eq_getElem?_getD, List.getElem?_eq_getElem (by omega)] at this
      rw [List.getElem_drop]
      exact .inl this
    · rcases List.mem_cons.1 hy with rfl | hy
      · obtain ⟨t, ht, rfl⟩ := List.getElem_of_mem hx
        rw [List.length_take] at ht
        have hlt : (o.take a)[t] < y := h.lt (List.mem_of_mem_take (List.getElem_mem (by rw [List.length_take]; omega)))
        rcases h2 with e | e
        · omega
        · have hge : G y ≤ G (o.take a)[t] := by
            rw [List.getD_eq_getElem?_getD, List.getElem?_eq_getElem (by omega), Option.getD_some] at e
            rcases Nat.lt_or_ge t (a - 1) with q | q
            · have := List.pairwise_iff_getElem.1 h.2 t (a - 1) (by omega) (by omega) q
              rw [List.getElem_take]
              unfold Bf at this
              omega
            · rw [List.getElem_take]
              have et : t = a - 1 := by omega
              subst et
              omega
          unfold Bf
          omega
      · exact p3 x hx y hy

theorem set_mid (P Q : List Int) (x y : Int) (n : Nat) (hn : P.length = n) : ((P ++ x :: Q).map zV).set n (zV y) = (P ++ y :: Q).map zV := by
  subst hn
  simp

set_option maxHeartbeats 4000000 in
set_option maxRecDepth 100000 in
theorem refOrder_any (p : Nat → Prop) (rv : Value) (zs : List Int) (w : World) (hr : Rw p w rv zs) :
    Calls Tryd.prog 36 #[rv] w fun e w' => ∃ o v, e = .returned v ∧ IsOrd (fun i => zs.getD i 0) zs.length o ∧ w'.ownsRow w.heap.size 3 1 v zs.length ((upI o).map zV) ∧ Fresh w w' := by
  obtain ⟨i0, hi0, hz0, hz1, hz2⟩ := info_parts Tryd.infoI
  have hlen := hr.len
  obtain ⟨n, hn⟩ : ∃ n, n = zs.length := ⟨_, rfl⟩
  obtain ⟨G, hG⟩ : ∃ G : Nat → Int, G = fun i => zs.getD i 0 := ⟨_, rfl⟩
  obtain ⟨ao, cap0, hv, _⟩ := id hr
  subst hv
  have HC : Hid (0 < n → ∃ b off, ao = some ⟨b, off, none⟩ ∧ ∀ W, Fresh w W → ∀ i, i < n → W.cell? ⟨b, off + i, none⟩ = some (zV (G i))) := fun h0 => by
    obtain ⟨ao', cap', hv', _, hc, _⟩ := hr
    cases hv'
    obtain ⟨b, off, e, _, hb, hcell⟩ := hc (fun e => by rw [e] at hn; simp at hn; omega)
    refine ⟨b, off, e, fun W hF i hi => ?_⟩
    rw [hG]
    exact (hF.cell (p := ⟨b, off + i, none⟩) hb (fun e => e)).trans (hcell i (by omega))
  rw [← hG, ← hn]
  rw [← hn] at hlen
  clear hr hG hn
  have hO0 : (w.alloc (.cells #[] 3)).ownsRow w.heap.size 3 1 (.slice (some ⟨w.heap.size, 0, none⟩) 0 0) 0 [] := ⟨rfl, .inr ⟨_, 0, #[], rfl, Nat.le_refl _, heap_alloc_new w _, Nat.le_refl _, by unfold maxLen; omega, rfl, rfl⟩⟩
  have hF0 : Fresh w (w.alloc (.cells #[] 3)) := (Kept.refl _ w).alloc _
  go_enter Tryd.func36, Tryd.ntmps36
  go_wp2
  go_loopw [3, 4] (fun ov iv wr => ∃ (i g cap : Nat) (o : List Nat), i ≤ n ∧ iv = zV i ∧ ov = .slice (some ⟨g, 0, none⟩) i cap ∧ IsOrd G i o ∧ wr.ownsRow w.heap.size 3 1 (.slice (some ⟨g, 0, none⟩) i cap) i ((upI o).map zV) ∧ Fresh w wr) (fun _ iv _ => n - (RowKit.intOf iv).toNat)
  case atStart => exact ⟨0, w.heap.size, 0, [], Nat.zero_le _, rfl, rfl, ⟨by simp, .nil⟩, hO0, hF0⟩
  case round =>
    obtain ⟨i, g, cap, o, hi, rfl, rfl, hO, hown, hF⟩ := hrel
    clear hO0 hF0
    by_cases hlt : i < n
    · obtain ⟨b, off, rfl, hcell⟩ := HC.out (by omega)
      have hol := hO.length
      have hg : w.heap.size ≤ g := by
        rcases hown.2 with ⟨e, _⟩ | ⟨g', cap', cur, hv, hb, _⟩
        · cases e
        · cases hv; exact hb
      have HO : Hid (IsOrd G i o) := hO
      have HOw : Hid (wr.ownsRow w.heap.size 3 1 (.slice (some ⟨g, 0, none⟩) i cap) i ((upI o).map zV)) := hown
      have HF : Hid (Fresh w wr) := hF
      have HCell : Hid (∀ W, Fresh w W → ∀ i, i < n → W.cell? ⟨b, off + i, none⟩ = some (zV (G i))) := hcell
      have HOl : Hid (o.length = i) := hol
      have hlt' : (i : Int) < (n : Int) := by omega
      clear hO hown hF hcell hol HC
      go_wp2
      go_loopw [5] (fun av w1 => ∃ a : Nat, a ≤ i ∧ av = zV a ∧ Hid (∀ t, a ≤ t → t < i → G (o.getD t 0) < G i) ∧ ∃ k, w1 = wr.drewN k) (fun av _ => (RowKit.intOf av).toNat)
      case atStart => exact ⟨i, Nat.le_refl _, rfl, (fun t h1 h2 => by omega : ∀ t, i ≤ t → t < i → G (o.getD t 0) < G i), 0, rfl⟩
      case round =>
        obtain ⟨a, ha, rfl, HA, k, rfl⟩ := hrel
        have HOw1 : Hid ((wr.drewN k).ownsRow w.heap.size 3 1 (.slice (some ⟨g, 0, none⟩) i cap) i ((upI o).map zV)) := HOw.out
        have HF1 : Hid (Fresh w (wr.drewN k)) := HF.out.drewN k
        by_cases h0 : a = 0
        · subst h0
          have HEX : Hid (0 = 0 ∨ ¬ G (o.getD (0 - 1) 0) < G i) := .inl rfl
          rw [show ((0 : Nat) : Int) = 0 from rfl]
          go_wp2_with fail
          go_quiet (fail)
          have HOw1 : Hid (((wr.drewN k).drewN nq).ownsRow w.heap.size 3 1 (.slice (some ⟨g, 0, none⟩) i cap) i ((upI o).map zV)) := HOw1.out
          have HF1 : Hid (Fresh w ((wr.drewN k).drewN nq)) := HF1.out.drewN nq
          obtain ⟨W1, hW1⟩ : ∃ W1, W1 = (wr.drewN k).drewN nq := ⟨_, rfl⟩
          rw [← hW1] at HOw1 HF1 ⊢
          clear hW1
          have hgw : g < wr.heap.size := owns_lt HOw.out (by simp [Value.ownBlock])
          have hY : (W1.alloc (.cells #[zV 0] 3)).ownsRow w.heap.size 3 1 (.slice (some ⟨g, 0, none⟩) i cap) i ((upI o).map zV) := owns_kept HOw1.out ((Kept.refl (fun _ => False) W1).alloc _) (fun _ _ e => e)
          obtain ⟨v2, w2, hrun, hown2, hgrow, _, _⟩ := run_append_own_at (P := Tryd.prog) (W1.alloc (.cells #[zV 0] 3)) w.heap.size 52 52 3 i0 _ 1 8 Tryd.underlying52 hi0 hz0 hz1 hz2 rfl (by omega) _ i _ hY ⟨W1.heap.size, 0, none⟩ 1 1 [zV 0] rfl (fun j u hj => cell_one_new W1 (zV 0) 3 j u hj) (fun u hu => by simp at hu; subst hu; rfl) (by unfold maxLen; omega) (by omega) (by have := HF1.out.size; simp; omega)
          have hF2 : Fresh w w2 := (HF1.out.alloc _).grown hgrow (fun k hk e => by simp [Value.ownBlock] at e; omega)
          obtain ⟨g2, cap2, rfl, hg2⟩ : ∃ g2 cap2, v2 = .slice (some ⟨g2, 0, none⟩) (i + 1) cap2 ∧ w.heap.size ≤ g2 := by
            rcases hown2.2 with ⟨_, e⟩ | ⟨g', cap', cur, hv, hb, _⟩
            · omega
            · exact ⟨g', cap', hv, hb⟩
          have HO2 : Hid (w2.ownsRow w.heap.size 3 1 (.slice (some ⟨g2, 0, none⟩) (i + 1) cap2) (i + 1) ((upI (o.take i) ++ 0 :: upI (o.drop i)).map zV)) := by
            have e1 : o.take i = o := List.take_of_length_le (by rw [HOl.out]; exact Nat.le_refl _)
            have e2 : o.drop i = [] := List.drop_of_length_le (by rw [HOl.out]; exact Nat.le_refl _)
            rw [e1, e2, List.map_append]
            exact hown2
          have HF2 : Hid (Fresh w w2) := hF2
          clear hY hown2 hgrow hF2 HOw1 HF1 hgw
          go_wp2_with (at_builtin; refine Lib.wpList_append_run _ rfl _ _ _ _ rfl _ _ rfl rfl _ _ hrun ?_)
          clear hrun
          go_loopw [6] (fun kv w3 => ∃ (k : Nat) (x : Int), 0 ≤ k ∧ k ≤ i ∧ kv = zV k ∧ Hid (w3.ownsRow w.heap.size 3 1 (.slice (some ⟨g2, 0, none⟩) (i + 1) cap2) (i + 1) ((upI (o.take k) ++ x :: upI (o.drop k)).map zV)) ∧ Hid (Fresh w w3)) (fun kv _ => (RowKit.intOf kv).toNat)
          case atStart => exact ⟨i, 0, ha, Nat.le_refl _, by go_num, HO2.out, HF2.out⟩
          case round =>
            obtain ⟨k, x, hak, hki, rfl, HO3, HF3⟩ := hrel
            clear HO2 HF2
            by_cases hka : 0 < k
            · obtain ⟨m, rfl⟩ : ∃ m, k = m + 1 := ⟨k - 1, by omega⟩
              have hml : m < o.length := by have := HOl.out; omega
              have htk : o.take (m + 1) = o.take m ++ [o[m]] := List.take_succ_eq_append_getElem hml
              have hdr : o.drop m = o[m] :: o.drop (m + 1) := List.drop_eq_getElem_cons hml
              have c1 : wr.cell? ⟨g2, m, none⟩ = some (zV (o[m] : Nat)) := by
                rw [HO3.out.cellAt m (by omega), List.getElem?_map, htk, upI_append, List.append_assoc, List.getElem?_append_right (by simp [upI_length]; omega), upI_length, List.length_take, Nat.min_eq_left (by omega), Nat.sub_self]
                rfl
              have c2 : ∃ u, wr.cell? ⟨g2, m + 1, none⟩ = some u := by
                have hh := HO3.out.cellAt (m + 1) (by omega)
                rw [List.getElem?_eq_getElem (by have := HO3.out.1; omega)] at hh
                exact ⟨_, hh⟩
              obtain ⟨u2, c2⟩ := c2
              have c3 := own_frozen HO3.out (m + 1)
              have HO4 : Hid ((wr.setCell ⟨g2, m + 1, none⟩ (zV (o[m] : Nat))).ownsRow w.heap.size 3 1 (.slice (some ⟨g2, 0, none⟩) (i + 1) cap2) (i + 1) ((upI (o.take m) ++ ((o[m] : Nat) : Int) :: upI (o.drop m)).map zV)) := by
                have hh := own_setB (i := m + 1) (x := zV (o[m] : Nat)) HO3.out
                rw [set_mid _ _ _ _ _ (by rw [upI_length, List.length_take]; omega), htk, upI_append, List.append_assoc] at hh
                rw [hdr]
                exact hh
              have HF4 : Hid (Fresh w (wr.setCell ⟨g2, m + 1, none⟩ (zV (o[m] : Nat)))) := HF3.out.setCell (fun e => by simp at e; omega) _
              rw [show ((m + 1 : Nat) : Int) = (m : Int) + 1 from rfl]
              have q1 : (0 : Int) < (m : Int) + 1 := by omega
              have q2 : (m : Int) + 1 < (i : Int) + 1 := by omega
              have q3 : (m : Int) < (i : Int) + 1 := by omega
              generalize o[m] = om at *
              clear htk hdr HO3 HF3 hml
              go_wp2
              go_roundw
              case rel => exact ⟨m, om, by omega, by omega, by go_num, HO4.out, HF4.out⟩
              case measure => simp [RowKit.intOf]
            · obtain rfl : k = 0 := by omega
              have hkl : (upI (o.take 0)).length = 0 := by rw [upI_length, List.length_take, HOl.out]; omega
              have c2 : ∃ u, wr.cell? ⟨g2, 0, none⟩ = some u := by
                have hh := HO3.out.cellAt 0 (by omega)
                rw [List.getElem?_eq_getElem (by have := HO3.out.1; omega)] at hh
                exact ⟨_, hh⟩
              obtain ⟨u2, c2⟩ := c2
              have c3 := own_frozen HO3.out 0
              have HO4 : Hid ((wr.setCell ⟨g2, 0, none⟩ (zV i)).ownsRow w.heap.size 3 1 (.slice (some ⟨g2, 0, none⟩) (i + 1) cap2) (i + 1) ((upI (o.take 0 ++ i :: o.drop 0)).map zV)) := by
                have hh := own_setB (i := 0) (x := zV i) HO3.out
                rw [set_mid _ _ _ _ _ hkl] at hh
                rw [upI_append]
                exact hh
              have HF4 : Hid (Fresh w (wr.setCell ⟨g2, 0, none⟩ (zV i))) := HF3.out.setCell (fun e => by simp at e; omega) _
              have HI : Hid (IsOrd G (i + 1) (o.take 0 ++ i :: o.drop 0)) := isOrd_insert HO.out ha HA.out (.inl rfl)
              have q2 : (0 : Int) < (i : Int) + 1 := by omega
              clear HO3 HF3 hkl HA HEX HO HOw hka
              go_wp2
              go_roundw
              case rel => exact ⟨i + 1, g2, cap2, o.take 0 ++ i :: o.drop 0, hlt, by go_num, rfl, HI.out, HO4.out, HF4.out⟩
              case measure => simp [RowKit.intOf]; omega
        · obtain ⟨m, rfl⟩ : ∃ m, a = m + 1 := ⟨a - 1, by omega⟩
          have hml : m < o.length := by have := HOl.out; omega
          have hx : o.getD m 0 < i := by
            rw [List.getD_eq_getElem?_getD, List.getElem?_eq_getElem hml]
            exact HO.out.lt (List.getElem_mem hml)
          have c1 : wr.cell? ⟨g, m, none⟩ = some (zV (o.getD m 0 : Nat)) := by
            rw [HOw.out.cellAt m (by omega), List.getElem?_map, upI_get, List.getD_eq_getElem?_getD, List.getElem?_eq_getElem hml]
            rfl
          have c2 := HCell.out _ HF.out (o.getD m 0) (by omega)
          have c3 := HCell.out _ HF.out i hlt
          have q1 : ((o.getD m 0 : Nat) : Int) < (n : Int) := by omega
          have q2 : (m : Int) < (i : Int) := by omega
          have q4 : IntKind.i64.wrap (m : Int) = (m : Int) := by rw [IntKind.wrap_i64]; omega
          have HS : Hid (G (o.getD m 0) < G i → ∀ t, m ≤ t → t < i → G (o.getD t 0) < G i) := fun h t h1 h2 => by
            rcases Nat.lt_or_ge m t with e | e
            · exact HA.out t e h2
            · obtain rfl : t = m := by omega
              exact h
          have HX : Hid (¬ G (o.getD m 0) < G i → (m + 1 = 0 ∨ ¬ G (o.getD (m + 1 - 1) 0) < G i)) := fun h => .inr h
          rw [show ((m + 1 : Nat) : Int) = (m : Int) + 1 from rfl]
          generalize o.getD m 0 = x at *
          by_cases hc : G x < G i
          · have HS' := HS.out hc
            have HS2 : Hid (∀ t, m ≤ t → t < i → G (o.getD t 0) < G i) := HS'
            clear HS' HS HX HA
            generalize G x = gx at *
            generalize G i = gi at *
            go_wp2_with fail
            go_quiet (fail)
            go_wp2
            go_roundw
            case rel => exact ⟨m, by omega, by go_num, HS2.out, _, rfl⟩
            case measure => simp [RowKit.intOf]
          · have HEX : Hid (m + 1 = 0 ∨ ¬ G (o.getD (m + 1 - 1) 0) < G i) := HX.out hc
            clear HS HX
            go_wp2_with fail
            go_quiet (fail)
            have HOw1 : Hid (((wr.drewN k).drewN nq).ownsRow w.heap.size 3 1 (.slice (some ⟨g, 0, none⟩) i cap) i ((upI o).map zV)) := HOw1.out
            have HF1 : Hid (Fresh w ((wr.drewN k).drewN nq)) := HF1.out.drewN nq
            obtain ⟨W1, hW1⟩ : ∃ W1, W1 = (wr.drewN k).drewN nq := ⟨_, rfl⟩
            rw [← hW1] at HOw1 HF1 ⊢
            clear hW1
            have hgw : g < wr.heap.size := owns_lt HOw.out (by simp [Value.ownBlock])
            have hY : (W1.alloc (.cells #[zV 0] 3)).ownsRow w.heap.size 3 1 (.slice (some ⟨g, 0, none⟩) i cap) i ((upI o).map zV) := owns_kept HOw1.out ((Kept.refl (fun _ => False) W1).alloc _) (fun _ _ e => e)
            obtain ⟨v2, w2, hrun, hown2, hgrow, _, _⟩ := run_append_own_at (P := Tryd.prog) (W1.alloc (.cells #[zV 0] 3)) w.heap.size 52 52 3 i0 _ 1 8 Tryd.underlying52 hi0 hz0 hz1 hz2 rfl (by omega) _ i _ hY ⟨W1.heap.size, 0, none⟩ 1 1 [zV 0] rfl (fun j u hj => cell_one_new W1 (zV 0) 3 j u hj) (fun u hu => by simp at hu; subst hu; rfl) (by unfold maxLen; omega) (by omega) (by have := HF1.out.size; simp; omega)
            have hF2 : Fresh w w2 := (HF1.out.alloc _).grown hgrow (fun k hk e => by simp [Value.ownBlock] at e; omega)
            obtain ⟨g2, cap2, rfl, hg2⟩ : ∃ g2 cap2, v2 = .slice (some ⟨g2, 0, none⟩) (i + 1) cap2 ∧ w.heap.size ≤ g2 := by
              rcases hown2.2 with ⟨_, e⟩ | ⟨g', cap', cur, hv, hb, _⟩
              · omega
              · exact ⟨g', cap', hv, hb⟩
            have HO2 : Hid (w2.ownsRow w.heap.size 3 1 (.slice (some ⟨g2, 0, none⟩) (i + 1) cap2) (i + 1) ((upI (o.take i) ++ 0 :: upI (o.drop i)).map zV)) := by
              have e1 : o.take i = o := List.take_of_length_le (by rw [HOl.out]; exact Nat.le_refl _)
              have e2 : o.drop i = [] := List.drop_of_length_le (by rw [HOl.out]; exact Nat.le_refl _)
              rw [e1, e2, List.map_append]
              exact hown2
            have HF2 : Hid (Fresh w w2) := hF2
            clear hY hown2 hgrow hF2 HOw1 HF1 hgw
            go_wp2_with (at_builtin; refine Lib.wpList_append_run _ rfl _ _ _ _ rfl _ _ rfl rfl _ _ hrun ?_)
            clear hrun
            go_loopw [6] (fun kv w3 => ∃ (k : Nat) (x : Int), m + 1 ≤ k ∧ k ≤ i ∧ kv = zV k ∧ Hid (w3.ownsRow w.heap.size 3 1 (.slice (some ⟨g2, 0, none⟩) (i + 1) cap2) (i + 1) ((upI (o.take k) ++ x :: upI (o.drop k)).map zV)) ∧ Hid (Fresh w w3)) (fun kv _ => (RowKit.intOf kv).toNat)
            case atStart => exact ⟨i, 0, ha, Nat.le_refl _, by go_num, HO2.out, HF2.out⟩
            case round =>
              obtain ⟨k, x, hak, hki, rfl, HO3, HF3⟩ := hrel
              clear HO2 HF2
              by_cases hka : m + 1 < k
              · obtain ⟨l, rfl⟩ : ∃ l, k = l + 1 := ⟨k - 1, by omega⟩
                have hml : l < o.length := by have := HOl.out; omega
                have htk : o.take (l + 1) = o.take l ++ [o[l]] := List.take_succ_eq_append_getElem hml
                have hdr : o.drop l = o[l] :: o.drop (l + 1) := List.drop_eq_getElem_cons hml
                have c1 : wr.cell? ⟨g2, l, none⟩ = some (zV (o[l] : Nat)) := by
                  rw [HO3.out.cellAt l (by omega), List.getElem?_map, htk, upI_append, List.append_assoc, List.getElem?_append_right (by simp [upI_length]; omega), upI_length, List.length_take, Nat.min_eq_left (by omega), Nat.sub_self]
                  rfl
                have c2 : ∃ u, wr.cell? ⟨g2, l + 1, none⟩ = some u := by
                  have hh := HO3.out.cellAt (l + 1) (by omega)
                  rw [List.getElem?_eq_getElem (by have := HO3.out.1; omega)] at hh
                  exact ⟨_, hh⟩
                obtain ⟨u2, c2⟩ := c2
                have c3 := own_frozen HO3.out (l + 1)
                have HO4 : Hid ((wr.setCell ⟨g2, l + 1, none⟩ (zV (o[l] : Nat))).ownsRow w.heap.size 3 1 (.slice (some ⟨g2, 0, none⟩) (i + 1) cap2) (i + 1) ((upI (o.take l) ++ ((o[l] : Nat) : Int) :: upI (o.drop l)).map zV)) := by
                  have hh := own_setB (i := l + 1) (x := zV (o[l] : Nat)) HO3.out
                  rw [set_mid _ _ _ _ _ (by rw [upI_length, List.length_take]; omega), htk, upI_append, List.append_assoc] at hh
                  rw [hdr]
                  exact hh
                have HF4 : Hid (Fresh w (wr.setCell ⟨g2, l + 1, none⟩ (zV (o[l] : Nat)))) := HF3.out.setCell (fun e => by simp at e; omega) _
                rw [show ((l + 1 : Nat) : Int) = (l : Int) + 1 from rfl]
                have q1 : (m : Int) + 1 < (l : Int) + 1 := by omega
                have q2 : (l : Int) + 1 < (i : Int) + 1 := by omega
                have q3 : (l : Int) < (i : Int) + 1 := by omega
                generalize o[l] = om at *
                clear htk hdr HO3 HF3 hml
                go_wp2
                go_roundw
                case rel => exact ⟨l, om, by omega, by omega, by go_num, HO4.out, HF4.out⟩
                case measure => simp [RowKit.intOf]
              · obtain rfl : k = m + 1 := by omega
                have hkl : (upI (o.take (m + 1))).length = (m + 1) := by rw [upI_length, List.length_take, HOl.out]; omega
                have c2 : ∃ u, wr.cell? ⟨g2, (m + 1), none⟩ = some u := by
                  have hh := HO3.out.cellAt (m + 1) (by omega)
                  rw [List.getElem?_eq_getElem (by have := HO3.out.1; omega)] at hh
                  exact ⟨_, hh⟩
                obtain ⟨u2, c2⟩ := c2
                have c3 := own_frozen HO3.out (m + 1)
                have HO4 : Hid ((wr.setCell ⟨g2, (m + 1), none⟩ (zV i)).ownsRow w.heap.size 3 1 (.slice (some ⟨g2, 0, none⟩) (i + 1) cap2) (i + 1) ((upI (o.take (m + 1) ++ i :: o.drop (m + 1))).map zV)) := by
                  have hh := own_setB (i := (m + 1)) (x := zV i) HO3.out
                  rw [set_mid _ _ _ _ _ hkl] at hh
                  rw [upI_append]
                  exact hh
                have HF4 : Hid (Fresh w (wr.setCell ⟨g2, (m + 1), none⟩ (zV i))) := HF3.out.setCell (fun e => by simp at e; omega) _
                have HI : Hid (IsOrd G (i + 1) (o.take (m + 1) ++ i :: o.drop (m + 1))) := isOrd_insert HO.out ha HA.out (HEX.out.imp id (fun h => Int.not_lt.2 h))
                rw [show ((m + 1 : Nat) : Int) = (m : Int) + 1 from rfl]
                have q2 : (m : Int) + 1 < (i : Int) + 1 := by omega
                clear HO3 HF3 hkl HA HEX HO HOw hka
                go_wp2
                go_roundw
                case rel => exact ⟨i + 1, g2, cap2, o.take (m + 1) ++ i :: o.drop (m + 1), hlt, by go_num, rfl, HI.out, HO4.out, HF4.out⟩
                case measure => simp [RowKit.intOf]; omega
    · obtain rfl : i = n := by omega
      have HP : Hid (IsOrd G i o ∧ wr.ownsRow w.heap.size 3 1 (.slice (some ⟨g, 0, none⟩) i cap) i ((upI o).map zV) ∧ Fresh w wr) := ⟨hO, hown, hF⟩
      clear hO hown hF HC
      go_wp2
      go_ret
      exact ⟨o, _, rfl, HP.out.1, HP.out.2.1, HP.out.2.2⟩
end Go.Proofs.YtbppahmcjifflaaDoor
