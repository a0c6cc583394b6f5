/-
  strings.ToValidUTF8 with one byte for what is no character: what is clean stays as it is, and nothing else does.
-/
import Derived.Test.YtkkaaoflolgaiaaDoorSuc
namespace Go.Proofs.YtkkaaoflolgaiaaDoor
open Go.RowKit Go.Lib Go.Maps

theorem BuB.fresh {B b : Nat} {a : List UInt8} {w w' : World} (h : BuB B b a w) (hk : Fresh w w') : BuB B b a w' :=
  let ⟨hB, v, hb, ho, hn⟩ := h
  ⟨hB, v, hk.at hb (fun e => e), owns_kept ho hk (fun _ _ e => e), hn⟩
theorem BuB.lt {B b : Nat} {a : List UInt8} {w : World} (h : BuB B b a w) : b < w.heap.size := let ⟨_, _, hb, _⟩ := h; lt_of_heap hb
theorem tv_go {l : List UInt8} {i : Nat} (hi : i < l.length) : ∃ m r : Nat, Utf8.decode ⟨l.toArray⟩ i = (r, m) ∧ Lib.decodeGo ⟨(l.drop i).toArray⟩ = (r, m) ∧ 1 ≤ m ∧ i + m ≤ l.length ∧ m ≤ 4 ∧ r ≤ 1114111 ∧
    ((r ≠ 65533 ∨ m ≠ 1) → clL (l.drop i) = (l.drop i).take m ++ clL (l.drop (i + m))) ∧ (r = 65533 → m = 1 → chW (l.drop i) = 0) ∧ (chW (l.drop i) = 0 → m = 1) := by
  have hlen : (l.drop i).length = l.length - i := List.length_drop
  have hg := decGo_at l i hi
  by_cases hc : chW (l.drop i) = 0
  · have hd := dec_bad hi hc
    exact ⟨1, 65533, hd, hg.trans hd, Nat.le_refl _, by omega, by omega, by omega, fun h => by omega, fun _ _ => hc, fun _ => rfl⟩
  · have hd := dec_good hc
    have hle := chW_le (l.drop i)
    refine ⟨chW (l.drop i), (Utf8.decode ⟨l.toArray⟩ i).1, Prod.ext rfl hd.1, hg.trans (Prod.ext rfl hd.1), by omega, by omega, hle.2, ?_, fun _ => ?_, fun h1 h2 => ?_, fun h => absurd h hc⟩
    · rw [dec_at]
      exact Lib.decodeN_rune_le _ _ _ _ _ (bN_lt _ _)
    · rw [clL_char hc, List.drop_drop]
    · exact (dec_one hi).1 (Prod.ext h1 (hd.1.trans h2))
theorem growB_any (B n : Nat) (w : World) (hbk : w.heap[B]? = some (.cells #[.pointer none, .slice none 0 0] 57 (0, 0))) (hn : n ≤ 281474976710655) :
    Calls Tryd.prog 25 #[.pointer (some ⟨B, 0, none⟩), .int .i64 ((n : Int) + 1)] w fun e w' => e = .returned (.tuple #[]) ∧ BuB B B [] w' ∧ Below B w w' ∧ ∃ p cap, w'.cell? ⟨B, 1, none⟩ = some (.slice p 0 cap) ∧ n + 1 ≤ cap := by
  have hlt := lt_of_heap hbk
  have h := Any.Builder_Grow_fresh_cap Tryd.lays165 Tryd.Builder_Extra_165 B B (n + 1) w (Nat.le_refl _) hbk (by omega) (by omega)
  exact h.mono (fun e w' ⟨h1, ⟨h2, h3⟩, h4⟩ => ⟨h1, h2, h3, h4⟩)
set_option maxHeartbeats 8000000 in
set_option maxRecDepth 100000 in
theorem toValid_any (l : List UInt8) (w : World) (hl : l.length ≤ 16777216) (hm : TbM w) :
    Calls Tryd.prog 12 #[sV l, .string ⟨#[63]⟩] w fun e w' => (∃ r, e = .returned (sV r) ∧ (r = l ↔ clL l = l)) ∧ Fresh w w' := by
  obtain ⟨S, hS⟩ : ∃ S : ByteArray, S = ⟨l.toArray⟩ := ⟨_, rfl⟩
  have hsz : S.size = l.length := by rw [hS]; exact len_l l
  have HS : Hid (S = ⟨l.toArray⟩ ∧ S.size = l.length) := ⟨hS, hsz⟩
  have HT : Hid (∀ W, Below w.heap.size w W → TbM W) := fun W hk => hm.fresh (fresh_below hk)
  have HD : Hid (∀ i, i < S.size → ∃ m r : Nat, Utf8.decode S i = (r, m) ∧ Lib.decodeGo ⟨(l.drop i).toArray⟩ = (r, m) ∧ 1 ≤ m ∧ i + m ≤ S.size ∧ m ≤ 4 ∧ r ≤ 1114111 ∧
    ((r ≠ 65533 ∨ m ≠ 1) → clL (l.drop i) = (l.drop i).take m ++ clL (l.drop (i + m))) ∧ (r = 65533 → m = 1 → chW (l.drop i) = 0) ∧ (chW (l.drop i) = 0 → m = 1)) := fun i hi => by
    rw [hsz] at hi ⊢
    rw [hS]
    exact tv_go hi
  have HSf : Hid (∀ i, i ≤ S.size → ∀ w, (Instr.slice 9 (.string S) (some (.int .i64 (i : Int))) none none).run Tryd.prog w = .ok (sV (l.drop i)) w) := fun i hi w => by rw [hS]; exact slice_from l i (by omega) w
  have HSo : Hid (∀ i, i ≤ S.size → ∀ w, (Instr.slice 9 (.string S) none (some (.int .i64 (i : Int))) none).run Tryd.prog w = .ok (sV (l.take i)) w) := fun i hi w => by rw [hS]; exact slice_to l i (by omega) w
  have hbd : S.size ≤ 16777216 := by omega
  obtain ⟨B, hB⟩ : ∃ B, B = w.heap.size := ⟨_, rfl⟩
  have hbk : (w.alloc (.cells #[.pointer none, .slice none 0 0] 57)).heap[B]? = some (.cells #[.pointer none, .slice none 0 0] 57 (0, 0)) := by rw [hB]; exact heap_alloc_new _ _
  have hB0 : Below B w (w.alloc (.cells #[.pointer none, .slice none 0 0] 57)) := (Below.refl B w).alloc (by omega) _
  have hBs : (w.alloc (.cells #[.pointer none, .slice none 0 0] 57)).heap.size = B + 1 := by rw [World.size_alloc]; omega
  rw [← hB] at HT
  show Calls Tryd.prog _ #[.string ⟨l.toArray⟩, _] _ _
  rw [← hS]
  have hB' : Hid (w.heap.size = B) := hB.symm
  clear hS hsz hl hm
  generalize hA : w.alloc (.cells #[.pointer none, .slice none 0 0] 57) = wa at *
  have hA' : w.alloc (.cells #[.pointer none, .slice none 0 0] 57) = wa := hA
  have hB2 : w.heap.size = B := hB.symm
  clear hA hB
  have hit0 : (wa.iter S 0).heap[wa.heap.size]? = some (.stringIter S 0) := World.iter_heap wa S 0
  obtain ⟨k, hk⟩ : ∃ k, k = wa.heap.size := ⟨_, rfl⟩
  rw [← hk] at hBs hit0
  have hbu0 : (wa.iter S 0).heap[B]? = some (.cells #[.pointer none, .slice none 0 0] 57 (0, 0)) := by
    have : Fresh wa (wa.iter S 0) := (Kept.refl (fun _ => False) wa).alloc _
    exact this.at hbk (fun e => e)
  have hbe0 : Below B w (wa.iter S 0) := hB0.alloc (by have := hB0.size; omega) _
  subst hBs
  have hk' : wa.heap.size = B + 1 := hk.symm
  clear hk hB0 hbk
  go_enter Tryd.func12, Tryd.ntmps12
  go_wp2
  go_loopw [0] (fun sv wr => ∃ pos : Nat, sv = .string S ∧ pos ≤ S.size ∧ wr.heap[B]? = some (.cells #[.pointer none, .slice none 0 0] 57 (0, 0)) ∧ wr.heap[B + 1]? = some (.stringIter S pos) ∧ Below B w wr ∧ Hid (clL l = l.take pos ++ clL (l.drop pos))) (fun _ wr => S.size - wr.iterPos (B + 1))
  case atStart => exact ⟨0, rfl, Nat.zero_le _, hbu0, hit0, hbe0, rfl⟩
  case round =>
    obtain ⟨pos, rfl, hps, hbk, hit, hbw, Hcl⟩ := hrel
    clear hbu0 hit0 hbe0 hk' hA' hB2
    have hsz : B + 1 < wr.heap.size := lt_of_heap hit
    by_cases hp : pos < S.size
    · obtain ⟨m, r, hdec, hgo, h1m, hms, hm4, hr1, hgood, hbad, hone⟩ := HD.out pos hp
      have hnx : ∀ ty, (Instr.next (.pointer (some ⟨B + 1, 0, none⟩)) true ty).run Tryd.prog wr = _ := fun ty => Lib.run_next_any_at wr (B + 1) S pos ty hit hp
      rw [hdec] at hnx
      have hit2 := Lib.iterAt_heap wr (B + 1) S pos (pos + m) hit
      have hbk2 := (Lib.iterAt_other wr (B + 1) B S (pos + m) (by omega)).trans hbk
      have hbw2 := Lib.below_iterAt hbw (k := B + 1) (by omega) S (pos + m)
      have hsz2 : B + 1 < (wr.iterAt (B + 1) S (pos + m)).heap.size := by rw [Lib.iterAt_size]; exact hsz
      have Hgood : Hid ((r ≠ 65533 ∨ m ≠ 1) → clL l = l.take (pos + m) ++ clL (l.drop (pos + m))) := fun h => by
        have e1 : l.take (pos + m) = l.take pos ++ (l.drop pos).take m := by rw [List.take_add]
        rw [Hcl.out, hgood h, e1, List.append_assoc]
      have hmeas : wr.iterPos (B + 1) = pos := by simp only [World.iterPos, hit]
      clear hdec hgood hbk
      generalize wr.iterAt (B + 1) S (pos + m) = wi at *
      by_cases hr : r = 65533
      · subst hr
        have hsl := HSf.out pos hps
        have hC := Tryd.utf8_DecodeRuneInString ⟨(l.drop pos).toArray⟩ wi (HT.out wi hbw2).1
        rw [hgo] at hC
        have HC : Hid _ := hC
        clear hC
        by_cases hm1 : m = 1
        · subst hm1
          have Hbad : Hid (chW (l.drop pos) = 0) := hbad rfl rfl
          have HTl : Hid ((l.take pos).length = pos) := by show _ = _; rw [List.length_take, ← HS.out.2]; omega
          have hslo := HSo.out pos hps
          clear hgo hbad hone Hgood HD HSf HSo
          have hne : l.drop pos ≠ [] := fun e => by have := congrArg List.length e; rw [List.length_drop, ← HS.out.2] at this; simp at this; omega
          have H0 : Hid (¬ bN (l.drop pos) 0 < 128) := fun h => chW_one hne h Hbad.out
          have HDt : Hid (∀ j, j < (l.drop pos).length → ∃ m2 r2 : Nat, Lib.decodeGo ⟨((l.drop pos).drop j).toArray⟩ = (r2, m2) ∧ 1 ≤ m2 ∧ j + m2 ≤ (l.drop pos).length ∧ (j = 0 → m2 = 1)) := fun j hj => by
            obtain ⟨m2, r2, _, hg, a1, a2, _, _, _, _, a3⟩ := tv_go hj
            exact ⟨m2, r2, hg, a1, a2, fun e => a3 (by rw [e, List.drop_zero]; exact Hbad.out)⟩
          have HFin : Hid (∀ rest, ¬ (l.take pos ++ 63 :: rest = l)) := fun rest e => by
            have e3 : 63 :: rest = l.drop pos := List.append_cancel_left (e.trans (List.take_append_drop pos l).symm)
            apply H0.out
            rw [← e3]
            simp [bN]
          have HNe : Hid (clL l ≠ l) := fun e => by
            have e2 : clL (l.drop pos) = l.drop pos := List.append_cancel_left (by rw [← Hcl.out, e, List.take_append_drop])
            rw [clL_bad hne Hbad.out] at e2
            have e3 := chW_sgn (clL ((l.drop pos).drop 1))
            rw [e2, Hbad.out] at e3
            cases e3
          have Htl : Hid ((l.drop pos).length + pos ≤ 16777216 ∧ 0 < (l.drop pos).length) := by show _ ∧ _; rw [List.length_drop, ← HS.out.2]; omega
          have hts : (⟨(l.drop pos).toArray⟩ : ByteArray).size = (l.drop pos).length := len_l _
          clear Hcl hne Hbad HS
          generalize l.take pos = P at *
          generalize l.drop pos = t at *
          go_wp2_with fail
          refine Calls.mono HC.out ?_
          rintro e' W1 ⟨rfl, hb1⟩
          have hbk3 := (fresh_below hb1).at hbk2 (fun e => e)
          have hbw3 : Below B w W1 := hbw2.trans ((fresh_below hb1).below (by omega) (fun _ _ e => e))
          have HG := show Hid _ from growB_any B S.size W1 hbk3 (by omega)
          have HB3 : Hid (Below B w W1) := hbw3
          clear HC hb1 hbk3 hbw3 hbk2 hbw2 hit2 hit hbw hnx
          go_wp2_with fail
          refine Calls.mono HG.out ?_
          rintro e' W2 ⟨rfl, hbu, hb2, p, cap, c1, hcap⟩
          have HB4 : Hid (Below B w W2) := HB3.out.trans hb2
          have HW := show Hid _ from wrS_any B B [] P W2 hbu (by rw [HTl.out]; simp; omega) (Nat.le_of_lt hbu.lt)
          have HCs : Hid (W2.cell? ⟨B, 1, none⟩ = some (.slice p 0 cap) ∧ S.size + 1 ≤ cap) := ⟨c1, hcap⟩
          clear HG hbu hb2 c1 hcap HB3
          go_wp2_with fail
          refine Calls.mono HW.out ?_
          rintro e' W3 ⟨rfl, hbu3, hb3, hc3⟩
          rw [List.nil_append] at hbu3
          have hcp := HCs.out.2
          have c3 := hc3 p cap HCs.out.1 (by omega) (by rw [HTl.out]; simp; omega)
          have HB5 : Hid (Below B w W3) := HB4.out.trans hb3
          have HBu : Hid (BuB B B P W3) := hbu3
          have HCap := show Hid _ from Tryd.Builder_Cap_cell B p _ cap W3 c3
          have hcb : ((cap : Int) == 0) = false := beq_eq_false_iff_ne.2 (by omega)
          clear HW HCs hbu3 hb3 hc3 c3 HB4 hcp
          go_wp2_with fail
          refine Calls.mono HCap.out ?_
          rintro e' W4 ⟨rfl, hW⟩
          have hW' := hW.symm
          subst hW'
          clear HCap hW
          go_wp2
          go_loopw [10, 11] (fun qv jv wr' => ∃ (j : Nat) (q : Bool) (acc : List UInt8), j ≤ t.length ∧ qv = .bool q ∧ jv = zV j ∧ acc.length ≤ pos + j ∧ Hid (BuB B B acc wr') ∧ Hid (Below B w wr') ∧ Hid ((j = 0 ∧ q = false ∧ acc = P) ∨ (0 < j ∧ ∃ rest, acc = P ++ 63 :: rest))) (fun _ jv _ => t.length - (RowKit.intOf jv).toNat)
          case atStart => exact ⟨0, false, P, Nat.zero_le _, rfl, rfl, by rw [HTl.out]; omega, HBu, HB5, .inl ⟨rfl, rfl, rfl⟩⟩
          case round =>
            obtain ⟨j, q, acc, hj, rfl, rfl, hacc, HBa, HBl, HI⟩ := hrel
            clear HBu HB5
            obtain ⟨htp, ht0⟩ := Htl.out
            by_cases hlt : j < t.length
            · have hlt' : (j : Int) < (t.length : Int) := by omega
              have hx : ((⟨t.toArray⟩ : ByteArray)[j]'(by rw [hts]; exact hlt)).toNat = bN t j := get_l t j _
              obtain ⟨c, hc⟩ : ∃ c : UInt8, c.toNat = bN t j := ⟨_, rfl⟩
              have hx256 := bN_lt t j
              by_cases ha : bN t j < 128
              · have hj0 : 0 < j := by
                  rcases Nat.eq_zero_or_pos j with e | e
                  · rw [e] at ha; exact absurd ha H0.out
                  · exact e
                have ha' : ((bN t j : Nat) : Int) < 128 := by omega
                have had : decide (((bN t j : Nat) : Int) < 128) = true := decide_eq_true ha'
                have HW := show Hid _ from wrB_any B B acc c wr HBa.out (by omega) (Nat.le_of_lt HBa.out.lt)
                rw [hc] at HW
                have HI2 : Hid (∃ rest, acc ++ [c] = P ++ 63 :: rest) := by
                  rcases HI.out with ⟨e, _⟩ | ⟨_, rest, e⟩
                  · omega
                  · exact ⟨rest ++ [c], by rw [e, List.append_assoc, List.cons_append]⟩
                clear HI hc
                generalize bN t j = x at *
                go_wp2_with fail
                refine Calls.mono HW.out ?_
                rintro e' W5 ⟨rfl, hbu5, hb5⟩
                have HBu5 : Hid (BuB B B (acc ++ [c]) W5) := hbu5
                have HB5 : Hid (Below B w W5) := HBl.out.trans hb5
                clear HW hbu5 hb5 HBl HBa
                go_wp2
                go_roundw
                case rel => exact ⟨j + 1, false, acc ++ [c], by omega, rfl, by go_num, by rw [List.length_append]; simp; omega, HBu5, HB5, .inr ⟨by omega, HI2.out⟩⟩
                case measure => simp [RowKit.intOf]; omega
              · have ha' : ¬ ((bN t j : Nat) : Int) < 128 := by omega
                have had : decide (((bN t j : Nat) : Int) < 128) = false := decide_eq_false ha'
                obtain ⟨m2, r2, hgo2, h1, h2, h3⟩ := HDt.out j hlt
                have hsl := fun w => slice_from t j (by omega) w
                have hC := Tryd.utf8_DecodeRuneInString ⟨(t.drop j).toArray⟩ wr (HT.out wr HBl.out).1
                rw [hgo2] at hC
                have HC : Hid _ := hC
                clear hC hgo2 hc c
                generalize bN t j = x at *
                by_cases hm2 : m2 = 1
                · subst hm2
                  clear h1 h2 h3
                  generalize t.drop j = u at *
                  go_wp2_with fail
                  refine Calls.mono HC.out ?_
                  rintro e' W5 ⟨rfl, hb5⟩
                  have hbu5 := HBa.out.fresh (fresh_below hb5)
                  have HBu5 : Hid (BuB B B acc W5) := hbu5
                  have HB5 : Hid (Below B w W5) := HBl.out.trans ((fresh_below hb5).below (by have := HBa.out.lt; omega) (fun _ _ e => e))
                  clear HC hb5 hbu5 HBl HBa
                  cases q with
                  | true =>
                    have HI2 : Hid (0 < j ∧ ∃ rest, acc = P ++ 63 :: rest) := by
                      rcases HI.out with ⟨_, e, _⟩ | e
                      · cases e
                      · exact e
                    clear HI
                    go_wp2
                    go_roundw
                    case rel => exact ⟨j + 1, true, acc, by omega, rfl, by go_num, by omega, HBu5, HB5, .inr ⟨by omega, HI2.out.2⟩⟩
                    case measure => simp [RowKit.intOf]; omega
                  | false =>
                    have HI2 : Hid (∃ rest, acc ++ [63] = P ++ 63 :: rest) := by
                      rcases HI.out with ⟨_, _, e⟩ | ⟨_, rest, e⟩
                      · exact ⟨[], by rw [e]⟩
                      · exact ⟨rest ++ [63], by rw [e, List.append_assoc, List.cons_append]⟩
                    have HW := show Hid _ from wrS_any B B acc [63] W5 HBu5.out (by simp; omega) (Nat.le_of_lt HBu5.out.lt)
                    clear HI
                    go_wp2_with fail
                    refine Calls.mono HW.out ?_
                    rintro e' W6 ⟨rfl, hbu6, hb6, _⟩
                    have HBu6 : Hid (BuB B B (acc ++ [63]) W6) := hbu6
                    have HB6 : Hid (Below B w W6) := HB5.out.trans hb6
                    clear HW hbu6 hb6 HB5 HBu5
                    go_wp2
                    go_roundw
                    case rel => exact ⟨j + 1, true, acc ++ [63], by omega, rfl, by go_num, by rw [List.length_append]; simp; omega, HBu6, HB6, .inr ⟨by omega, HI2.out⟩⟩
                    case measure => simp [RowKit.intOf]; omega
                · have hj0 : 0 < j := by
                    rcases Nat.eq_zero_or_pos j with e | e
                    · exact absurd (h3 e) hm2
                    · exact e
                  have hmb : ((m2 : Int) == 1) = false := beq_eq_false_iff_ne.2 (by omega)
                  have hs2 : ∀ w, (Instr.slice 9 (sV t) (some (.int .i64 (j : Int))) (some (.int .i64 ((j : Int) + (m2 : Int)))) none).run Tryd.prog w = .ok (sV ((t.take (j + m2)).drop j)) w := fun w => by
                    rw [← Int.natCast_add]
                    exact slice_both t j (j + m2) (by omega) h2 w
                  have hvl : ((t.take (j + m2)).drop j).length = m2 := by rw [List.length_drop, List.length_take]; omega
                  generalize hv : (t.take (j + m2)).drop j = v at *
                  have HI2 : Hid (∃ rest, acc ++ v = P ++ 63 :: rest) := by
                    rcases HI.out with ⟨e, _⟩ | ⟨_, rest, e⟩
                    · omega
                    · exact ⟨rest ++ v, by rw [e, List.append_assoc, List.cons_append]⟩
                  clear HI hv h3
                  generalize t.drop j = u at *
                  go_wp2_with fail
                  refine Calls.mono HC.out ?_
                  rintro e' W5 ⟨rfl, hb5⟩
                  have hbu5 := HBa.out.fresh (fresh_below hb5)
                  have HB5 : Hid (Below B w W5) := HBl.out.trans ((fresh_below hb5).below (by have := HBa.out.lt; omega) (fun _ _ e => e))
                  have HW := show Hid _ from wrS_any B B acc v W5 hbu5 (by omega) (Nat.le_of_lt hbu5.lt)
                  clear HC hb5 hbu5 HBl HBa
                  go_wp2_with fail
                  refine Calls.mono HW.out ?_
                  rintro e' W6 ⟨rfl, hbu6, hb6, _⟩
                  have HBu6 : Hid (BuB B B (acc ++ v) W6) := hbu6
                  have HB6 : Hid (Below B w W6) := HB5.out.trans hb6
                  clear HW hbu6 hb6 HB5
                  go_wp2
                  go_roundw
                  case rel => exact ⟨j + m2, false, acc ++ v, by omega, rfl, by go_num, by rw [List.length_append]; omega, HBu6, HB6, .inr ⟨by omega, HI2.out⟩⟩
                  case measure => simp [RowKit.intOf]; omega
            · have hlt' : ¬ (j : Int) < (t.length : Int) := by omega
              have HStr := show Hid _ from Tryd.Builder_String_any_f B B acc wr (.inr (Lib.BuilderAtF.of HBa.out)) (Nat.le_of_lt HBa.out.lt)
              have HR : Hid (acc = l ↔ clL l = l) := by
                rcases HI.out with ⟨e, _⟩ | ⟨_, rest, e⟩
                · omega
                · exact ⟨fun h => absurd (e.symm.trans h) (HFin.out rest), fun h => absurd h HNe.out⟩
              clear HI HFin HNe HDt HBa
              go_wp2_with fail
              refine Calls.mono HStr.out ?_
              rintro e' W5 ⟨rfl, _, hb5⟩
              have HF5 : Hid (Fresh w W5) := fresh_below (by rw [hB'.out]; exact HBl.out.trans hb5)
              clear HStr hb5 HBl
              go_wp2
              go_ret
              exact ⟨⟨acc, rfl, HR.out⟩, HF5.out⟩
        · have hm1b : ((m : Int) == 1) = false := beq_eq_false_iff_ne.2 (by omega)
          have Hg2 := show Hid _ from Hgood.out (.inr hm1)
          clear hgo hbad hone Hgood HSf HSo HD
          generalize l.drop pos = t at *
          go_wp2_with fail
          refine Calls.mono HC.out ?_
          rintro e' W1 ⟨rfl, hb1⟩
          have hbk3 := (fresh_below hb1).at hbk2 (fun e => e)
          have hit3 := (fresh_below hb1).at hit2 (fun e => e)
          have hbw3 : Below B w W1 := hbw2.trans ((fresh_below hb1).below (by omega) (fun _ _ e => e))
          clear HC hb1
          go_wp2
          go_roundw
          case rel => exact ⟨pos + m, rfl, by omega, hbk3, hit3, hbw3, Hg2⟩
          case measure =>
            rw [hmeas]
            simp only [World.iterPos, hit3]
            omega
      · have hrb : ((r : Int) != 65533) = true := by simp; omega
        have Hg2 := show Hid _ from Hgood.out (.inl hr)
        clear hgo hbad hone Hgood HSf HSo HD
        go_wp2
        go_roundw
        case rel => exact ⟨pos + m, rfl, by omega, hbk2, hit2, hbw2, Hg2⟩
        case measure =>
          rw [hmeas]
          simp only [World.iterPos, hit2]
          omega
    · have hnx : ∀ ty, (Instr.next (.pointer (some ⟨B + 1, 0, none⟩)) true ty).run Tryd.prog wr = _ := fun ty => Lib.run_next_end_at wr (B + 1) S pos ty hit hp
      have c1 : wr.cell? ⟨B, 1, none⟩ = some (.slice none 0 0) := by rw [Lib.cell_of_heap hbk]; rfl
      have HCap := show Hid _ from Tryd.Builder_Cap_cell B none 0 0 wr c1
      have HEnd : Hid (S = ⟨l.toArray⟩ ∧ clL l = l) := ⟨HS.out.1, by
        have e1 : pos = l.length := by have := HS.out.2; omega
        have := Hcl.out
        rw [e1, List.take_length, List.drop_length, clL_nil, List.append_nil] at this
        exact this⟩
      have HF : Hid (Fresh w wr) := fresh_below (by rw [hB'.out]; exact hbw)
      clear Hcl HD HSf HSo HS HT hbw hbk
      go_wp2_with fail
      refine Calls.mono HCap.out ?_
      rintro e' W1 ⟨rfl, hW⟩
      have hW' := hW.symm
      subst hW'
      clear HCap hW
      go_wp2
      go_ret
      exact ⟨⟨l, by rw [HEnd.out.1]; first | rfl | simp, by simp [HEnd.out.2]⟩, HF.out⟩
end Go.Proofs.YtkkaaoflolgaiaaDoor
