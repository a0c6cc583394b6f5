/-
  For all stop texts and every text the statement StreamStops answers true: no stop text stands in what comes out, which is a beginning of the clean form, up to where the first stop text begins.
-/
import Derived.Test.YtkkaaoflolgaiaaDoorStq
import Derived.Test.YtkkaaoflolgaiaaDoorStn
import Derived.Test.YtkkaaoflolgaiaaDoorRgo
import Derived.Lib.IndexMore
namespace Go.Proofs.YtkkaaoflolgaiaaDoor.SStops
open Go.ChangeShapes Go.WideShapes Go.ChangeAt Go.RowKit Go.Lib Go.Maps

theorem cont_en {t x : List UInt8} (hx : x ≠ []) : Lib.contains t x = true ↔ ∃ n, En t x n := by
  unfold Lib.contains
  rw [decide_eq_true_iff]
  rcases index_en (t := t) hx with ⟨h1, h2⟩ | ⟨k, h1, _, h3, _⟩
  · exact ⟨fun h => by omega, fun ⟨n, h⟩ => absurd h (h2 n)⟩
  · exact ⟨fun _ => ⟨_, h3⟩, fun _ => by omega⟩
theorem cont_no {t x : List UInt8} (hx : x ≠ []) (h : ∀ n, ¬ En t x n) : Lib.contains t x = false := by
  cases e : Lib.contains t x with
  | false => rfl
  | true => obtain ⟨n, hn⟩ := (cont_en hx).1 e; exact absurd hn (h n)
theorem cut_parts {T : List (List UInt8)} {l : List UInt8} (h : cuM T l ≠ -1) : ∃ e p : Nat, bst T l e T.length = some p ∧ cuM T l = p ∧ cuS T l = l.take (e - (tX T p).length) ∧ ∀ n, n < e → bst T l n T.length = none := by
  cases hc : cuN T l with
  | none => exact absurd (by unfold cuM; rw [hc]) h
  | some e =>
    obtain ⟨_, h2, h3⟩ := f1st_some hc
    obtain ⟨p, hp⟩ := Option.isSome_iff_exists.1 h2
    exact ⟨e, p, hp, by unfold cuM; rw [hc]; simp [hp], by unfold cuS; rw [hc]; simp [hp], fun n hn => by simpa using h3 n hn⟩
theorem slice_mid (r : List UInt8) (i n : Nat) (h : i + n ≤ r.length) (w : World) : (Instr.slice 9 (sV r) (some (.int .i64 (i : Int))) (some (.int .i64 ((i : Int) + (n : Int)))) none).run Tryd.prog w = .ok (sV ((r.drop i).take n)) w := by
  rw [run_slice_string (h := Tryd.underlying9) (h0 := by omega) (h1 := by omega) (h2 := by rw [len_l]; omega), show ((i : Int) + (n : Int)).toNat = i + n by omega, Int.toNat_natCast, ext_l, List.drop_take, show i + n - i = n by omega]

set_option maxHeartbeats 8000000 in
set_option maxRecDepth 100000 in
theorem walk {p : Nat → Prop} (w : World) (v : Value) (T : List (List UInt8)) (l : List UInt8) (hR : TxR p w v T) (hl : l.length ≤ 1048576) (hm : TbM w) :
    Calls Tryd.prog 8 #[v, sV l] w fun e w' => e = .returned (.bool true) ∧ Fresh w w' := by
  have HA := show Hid _ from awake_any w hm
  have HW : Hid (∀ W, Fresh w W → Calls Tryd.prog 16 #[v, sV l] W fun e w' => e = .returned (.tuple #[sV (whO T l), zV (whP T l), zV (chkF T)]) ∧ Fresh W w') := fun W hk => Whole_any T l v W (by omega) (hR.fresh hk) (hm.fresh hk)
  have HK : Hid (∀ W, Fresh w W → Calls Tryd.prog 17 #[v] W fun e w' => e = .returned (zV (chkF T)) ∧ Fresh W w') := fun W hk => refCheck_any T v W (hR.fresh hk)
  have HCl : Hid (∀ t W, t.length ≤ l.length → Calls Tryd.prog 10 #[sV t] W fun e w' => e = .returned (sV (clL t)) ∧ Fresh W w') := fun t W h => Clean_any t W (by omega)
  have HCo : Hid (∀ t x W, t.length ≤ l.length → Fresh w W → Calls Tryd.prog 24 #[sV t, sV x] W fun e w' => e = .returned (.bool (Lib.contains t x)) ∧ w' = W) := fun t x W h hk => by
    obtain ⟨_, m, hm2⟩ := hm.fresh hk
    exact Tryd.strings_Contains ⟨t.toArray⟩ ⟨x.toArray⟩ m W (by rw [len_l]; omega) hm2
  have HO : Hid ((chkF T = 0 → whO T l = clL (cuS T l) ∧ whP T l = cuM T l) ∧ (chkF T ≠ 0 → whO T l = [] ∧ whP T l = 0)) :=
    ⟨fun h => ⟨by unfold whO; rw [if_pos h], by unfold whP; rw [if_pos h]⟩, fun h => ⟨by unfold whO; rw [if_neg h], by unfold whP; rw [if_neg h]⟩⟩
  have HG : Hid (chkF T = 0 → ∀ j, j < T.length → tX T j ≠ []) := fun h => (chk_ok h).2.ne
  have HE : Hid (∀ i, i < T.length → (tX T i).length ≤ 1048576) := hR.each
  have h20 := hR.len
  have HR : Hid (∀ W, Fresh w W → TxR p W v T) := fun W hk => hR.fresh hk
  have HNo : Hid (chkF T = 0 → cuM T l = -1 → cuS T l = l ∧ ∀ j n, j < T.length → ¬ En l (tX T j) n) := fun hc h => ⟨cuM_none h, fun j n hj he => by
    have hN : NoCut T l := by
      refine (cuN_none (chk_ok hc).2.ne).1 ?_
      cases e : cuN T l with
      | none => rfl
      | some k => exfalso; unfold cuM at h; rw [e] at h; have h : (((bst T l k T.length).getD 0 : Nat) : Int) = -1 := h; omega
    exact bst_none.1 (hN n) j hj he⟩
  have HYes : Hid (cuM T l ≠ -1 → ∃ e p : Nat, bst T l e T.length = some p ∧ cuM T l = p ∧ cuS T l = l.take (e - (tX T p).length) ∧ ∀ n, n < e → bst T l n T.length = none) := fun h => cut_parts h
  obtain ⟨ao, cap, rfl⟩ := hR.shape
  clear hR hm
  have hll : (⟨l.toArray⟩ : ByteArray).size = l.length := len_l l
  generalize whO T l = O at *
  generalize whP T l = P at *
  by_cases hc : chkF T = 0
  · obtain ⟨o1, o2⟩ := HO.out.1 hc
    subst o1
    subst o2
    have HG0 := show Hid _ from HG.out hc
    have HNo0 := show Hid _ from HNo.out hc
    rw [hc] at HW
    clear HO HK HG HNo hc
    generalize hTl : T.length = tn at *
    have hTl' : Hid (T.length = tn) := hTl
    clear hTl
    by_cases hM : cuM T l = -1
    · obtain ⟨n1, n2⟩ := HNo0.out hM
      have HN : Hid (∀ j, j < tn → Lib.contains l (tX T j) = false) := fun j hj => cont_no (HG0.out j hj) (fun n => n2 j n hj)
      have HC1 : Hid (∀ W, Calls Tryd.prog 10 #[sV l] W fun e w' => e = .returned (sV (clL l)) ∧ Fresh W w') := fun W => HCl.out l W (Nat.le_refl _)
      rw [hM, n1] at HW
      clear HYes HG0 HNo0 HCl n1 n2 hM
      generalize clL l = C at *
      go_enter Tryd.func8, Tryd.ntmps8
      go_wp2_with fail
      refine Calls.mono HA.out ?_
      rintro e' W1 ⟨rfl, hF1⟩
      have HF1 : Hid (Fresh w W1) := hF1
      have HW1 := show Hid _ from HW.out W1 hF1
      clear HA hF1 HW
      go_wp2_with fail
      refine Calls.mono HW1.out ?_
      rintro e' W2 ⟨rfl, hF2⟩
      have HF2 : Hid (Fresh w W2) := HF1.out.trans hF2 (fun _ _ e => e)
      clear HW1 hF2 HF1
      go_wp2
      go_loopw [34] (fun iv wr => ∃ i : Nat, i ≤ tn ∧ iv = zV i ∧ wr = W2) (fun iv _ => tn - (RowKit.intOf iv).toNat)
      case atStart => exact ⟨0, Nat.zero_le _, rfl, rfl⟩
      case round =>
        obtain ⟨i, hi, rfl, hWW⟩ := hrel
        have hWW' := hWW.symm
        subst hWW'
        clear hWW
        by_cases hlt : i < tn
        · have hlt' : (i : Int) < (tn : Int) := by omega
          obtain ⟨b, off, rfl, _, hbl, hcell⟩ := (HR.out W2 HF2.out).cells.2.2 (by omega)
          have c0 := hcell i hlt
          have HC := show Hid _ from HCo.out l (tX T i) W2 (Nat.le_refl _) HF2.out
          rw [HN.out i hlt] at HC
          clear hcell
          generalize tX T i = x at *
          go_wp2_with fail
          refine Calls.mono HC.out ?_
          rintro e' W3 ⟨rfl, hW⟩
          have hW' := hW.symm
          subst hW'
          clear HC hW
          go_wp2
          go_roundw
          case rel => exact ⟨i + 1, by omega, by go_num, by first | rfl | trivial⟩
          case measure => simp [RowKit.intOf]; omega
        · have hlt' : ¬ (i : Int) < (tn : Int) := by omega
          have hin : i = tn := by omega
          subst hin
          have HC2 := show Hid _ from HC1.out W2
          clear HC1 HN HCo
          go_wp2_with fail
          refine Calls.mono HC2.out ?_
          rintro e' W3 ⟨rfl, hF3⟩
          have HF3 : Hid (Fresh w W3) := HF2.out.trans hF3 (fun _ _ e => e)
          clear HC2 hF3 HF2
          go_wp2
          go_ret
          exact ⟨by simp, HF3.out⟩
    · obtain ⟨e, q, b1, b2, b3, b4⟩ := HYes.out hM
      obtain ⟨hq, hen⟩ := bst_some b1
      have hx := HG0.out q hq
      have hroom := hen.room hx
      have hxe := hen.1
      have hxl := HE.out q hq
      have HX : Hid (tX T q ≠ []) := hx
      have hxp := List.length_pos_iff.2 hx
      obtain ⟨i0, hi0⟩ : ∃ i0, e = i0 + (tX T q).length := ⟨e - (tX T q).length, by omega⟩
      subst hi0
      rw [Nat.add_sub_cancel] at b3
      have HMiss : Hid (∀ i, i < i0 → ((l.drop i).take (tX T q).length == tX T q) = false) := fun i hi => beq_eq_false_iff_ne.2 (fun h => by
        have := bst_none.1 (b4 (i + (tX T q).length) (by omega)) q hq
        exact this ⟨by omega, by rw [Nat.add_sub_cancel]; exact h⟩)
      have HHit : Hid ((l.drop i0).take (tX T q).length = tX T q) := by have := hen.2; rw [Nat.add_sub_cancel] at this; exact this
      have HEarly : Hid (∀ j, j < tn → Lib.contains (l.take (i0 + (tX T q).length - 1)) (tX T j) = false) := fun j hj => cont_no (HG0.out j hj) (fun n hn => by
        have hr := hn.room (HG0.out j hj)
        rw [List.length_take] at hr
        have h2 := (en_take (t := l) (x := tX T j) (e := i0 + (tX T q).length - 1) (by omega)).1 hn
        exact bst_none.1 (b4 n (by omega)) j hj h2)
      have HCon : Hid (Lib.contains l (tX T q) = true) := (cont_en hx).2 ⟨_, hen⟩
      have HCi : Hid (∀ W, Calls Tryd.prog 10 #[sV (l.take i0)] W fun e w' => e = .returned (sV (clL (l.take i0))) ∧ Fresh W w') := fun W => HCl.out (l.take i0) W (by rw [List.length_take]; omega)
      have HSm : Hid (∀ i, i ≤ i0 → ∀ w, (Instr.slice 9 (sV l) (some (.int .i64 (i : Int))) (some (.int .i64 ((i : Int) + ((tX T q).length : Int)))) none).run Tryd.prog w = .ok (sV ((l.drop i).take (tX T q).length)) w) := fun i hi w => slice_mid l i _ (by omega) w
      have HSt : Hid (∀ w, (Instr.slice 9 (sV l) none (some (.int .i64 (i0 : Int))) none).run Tryd.prog w = .ok (sV (l.take i0)) w) := fun w => slice_to l i0 (by omega) w
      have HSe : Hid (∀ w, (Instr.slice 9 (sV l) none (some (.int .i64 ((i0 : Int) + ((tX T q).length : Int) - 1))) none).run Tryd.prog w = .ok (sV (l.take (i0 + (tX T q).length - 1))) w) := fun w => by
        rw [show (i0 : Int) + ((tX T q).length : Int) - 1 = ((i0 + (tX T q).length - 1 : Nat) : Int) by omega]
        exact slice_to l _ (by omega) w
      have HCe : Hid (∀ j W, j < tn → Fresh w W → Calls Tryd.prog 24 #[sV (l.take (i0 + (tX T q).length - 1)), sV (tX T j)] W fun e w' => e = .returned (.bool false) ∧ w' = W) := fun j W hj hk => by
        have := HCo.out (l.take (i0 + (tX T q).length - 1)) (tX T j) W (by rw [List.length_take]; omega) hk
        rw [HEarly.out j hj] at this
        exact this
      have HC0 : Hid (∀ W, Fresh w W → Calls Tryd.prog 24 #[sV l, sV (tX T q)] W fun e w' => e = .returned (.bool true) ∧ w' = W) := fun W hk => by
        have := HCo.out l (tX T q) W (Nat.le_refl _) hk
        rw [HCon.out] at this
        exact this
      rw [b2, b3] at HW
      have hqlt : (q : Int) < (tn : Int) := by omega
      have hq0 : ¬ (q : Int) < 0 := by omega
      have hqt : decide ((tn : Int) ≤ (q : Int)) = false := decide_eq_false (by omega)
      have hqtn : decide (tn ≤ q) = false := decide_eq_false (by omega)
      have hq0' : (0 : Int) ≤ (q : Int) := by omega
      have hsx : (⟨(tX T q).toArray⟩ : ByteArray).size = (tX T q).length := len_l _
      have HCellq : Hid (∀ W, Fresh w W → ∃ b off, ao = some ⟨b, off, none⟩ ∧ ∀ i, i < tn → W.cell? ⟨b, off + i, none⟩ = some (sV (tX T i))) := fun W hk => by
        obtain ⟨b, off, h1, _, _, h2⟩ := (HR.out W hk).cells.2.2 (by omega)
        exact ⟨b, off, h1, h2⟩
      clear HYes HG0 HNo0 HCl hM b1 b2 b3 b4 hx hen HEarly HCon HCo HR HX
      generalize clL (l.take i0) = C at *
      go_enter Tryd.func8, Tryd.ntmps8
      go_wp2_with fail
      refine Calls.mono HA.out ?_
      rintro e' W1 ⟨rfl, hF1⟩
      have HF1 : Hid (Fresh w W1) := hF1
      have HW1 := show Hid _ from HW.out W1 hF1
      clear HA hF1 HW
      go_wp2_with fail
      refine Calls.mono HW1.out ?_
      rintro e' W2 ⟨rfl, hF2⟩
      have HF2 : Hid (Fresh w W2) := HF1.out.trans hF2 (fun _ _ e => e)
      clear HW1 hF2 HF1
      go_wp2
      go_loopw [34] (fun iv wr => ∃ i : Nat, i ≤ tn ∧ iv = zV i ∧ wr = W2) (fun iv _ => tn - (RowKit.intOf iv).toNat)
      case atStart => exact ⟨0, Nat.zero_le _, rfl, rfl⟩
      case round =>
        obtain ⟨i, hi, rfl, hWW⟩ := hrel
        have hWW' := hWW.symm
        subst hWW'
        clear hWW
        obtain ⟨b, off, rfl, hcell⟩ := HCellq.out W2 HF2.out
        by_cases hlt : i < tn
        · have hlt' : (i : Int) < (tn : Int) := by omega
          have c0 := hcell i hlt
          clear hcell
          generalize tX T i = xi at *
          go_wp2
          go_roundw
          case rel => exact ⟨i + 1, by omega, by go_num, by first | rfl | trivial⟩
          case measure => simp [RowKit.intOf]; omega
        · have hlt' : ¬ (i : Int) < (tn : Int) := by omega
          have hin : i = tn := by omega
          subst hin
          have cq := hcell q hq
          have HC2 := show Hid _ from HC0.out W2 HF2.out
          clear hcell HC0
          go_wp2_with fail
          refine Calls.mono HC2.out ?_
          rintro e' W3 ⟨rfl, hW⟩
          have hW' := hW.symm
          subst hW'
          clear HC2 hW
          have HCq : Hid (∀ W, Fresh w W → ∀ k, k < i → W.cell? ⟨b, off + k, none⟩ = some (sV (tX T k))) := fun W hk k hki => by
            obtain ⟨b', off', e1, e2⟩ := HCellq.out W hk
            injection e1 with e1
            injection e1 with e3 e4
            subst e3 e4
            exact e2 k hki
          clear HCellq
          go_wp2
          clear cq
          go_loopw [10] (fun iv wr => ∃ k : Nat, k ≤ i0 ∧ iv = zV k ∧ Hid (Fresh w wr)) (fun iv _ => i0 - (RowKit.intOf iv).toNat)
          case atStart => exact ⟨0, Nat.zero_le _, rfl, HF2⟩
          case round =>
            obtain ⟨k, hk, rfl, HF⟩ := hrel
            have cq := HCq.out wr HF.out q hq
            have hks : (k : Int) ≤ (l.length : Int) - ((tX T q).length : Int) := by omega
            have hsm := HSm.out k hk
            by_cases hki : k < i0
            · have hcmp := HMiss.out k hki
              generalize (l.drop k).take (tX T q).length = y at *
              generalize tX T q = x at *
              go_wp2
              go_quiet (fail)
              go_wp2
              go_roundw
              case rel => exact ⟨k + 1, by omega, by go_num, HF.out.drewN _⟩
              case measure => simp [RowKit.intOf]; omega
            · have hk0 : k = i0 := by omega
              subst hk0
              have hHit := HHit.out
              have hst := HSt.out
              have hse := HSe.out
              rw [hHit] at hsm
              have hxx : (tX T q == tX T q) = true := beq_self_eq_true _
              have cqd : ∀ d : Nw wr, d.w.cell? ⟨b, off + q, none⟩ = some (sV (tX T q)) := fun d => HCq.out d.w (HF.out.trans d.f (fun _ _ e => e)) q hq
              have HC3 : Hid (∀ d : Nw wr, Calls Tryd.prog 10 #[sV (l.take k)] d.w fun e w' => e = .returned (sV C) ∧ Fresh d.w w') := fun d => HCi.out d.w
              have HFd : Hid (∀ d : Nw wr, Fresh w d.w) := fun d => HF.out.trans d.f (fun _ _ e => e)
              clear HMiss HHit HSt HSe HSm HCi hHit
              generalize hT1 : l.take k = t1 at *
              clear hT1
              generalize hT2 : l.take (k + (tX T q).length - 1) = t2 at *
              clear hT2
              generalize tX T q = x at *
              go_wp2
              have hqi2 : (q : Int) < (i : Int) := by omega
              have hqi3 : (0 : Int) ≤ (q : Int) := by omega
              haveI : Nonempty (Nw wr) := nw_some wr
              refine wp_region_new (by kernel_rfl) (by kernel_rfl) ?_
              repeat (first | go_big_quiet_step ((with_reducible exact Calls.new_of (HC3.out _))) | quiet_step ((with_reducible exact Calls.new_of (HC3.out _))))
              refine wpQuiet_nil ?_
              intro _ hw'
              obtain ⟨dq, hw''⟩ := hw'
              subst hw''
              have HF3 : Hid (Fresh w dq.w) := HFd.out dq
              have cq3 := cqd dq
              clear cqd cq HC3 HFd hst hsm
              generalize dq.w = W3 at *
              go_wp2
              go_loopw [106] (fun jv wr' => ∃ j : Nat, j ≤ i ∧ jv = zV j ∧ wr' = W3) (fun jv _ => i - (RowKit.intOf jv).toNat)
              case atStart => exact ⟨0, Nat.zero_le _, rfl, rfl⟩
              case round =>
                obtain ⟨j, hj, rfl, hWW⟩ := hrel
                have hWW' := hWW.symm
                subst hWW'
                clear hWW
                by_cases hlt : j < i
                · have hlt' : (j : Int) < (i : Int) := by omega
                  have cj := HCq.out W3 HF3.out j hlt
                  have HC := show Hid _ from HCe.out j W3 hlt HF3.out
                  generalize tX T j = xj at *
                  go_wp2_with fail
                  refine Calls.mono HC.out ?_
                  rintro e' W4 ⟨rfl, hW⟩
                  have hW' := hW.symm
                  subst hW'
                  clear HC hW
                  go_wp2
                  go_roundw
                  case rel => exact ⟨j + 1, by omega, by go_num, by first | rfl | trivial⟩
                  case measure => simp [RowKit.intOf]; omega
                · have hlt' : ¬ (j : Int) < (i : Int) := by omega
                  go_wp2
                  go_ret
                  exact ⟨rfl, HF3.out⟩
  · obtain ⟨o1, o2⟩ := HO.out.2 hc
    subst o1
    subst o2
    generalize chkF T = E at *
    have hcb : (E == 0) = false := beq_eq_false_iff_ne.2 hc
    clear HO HCl HCo HG HE HR HNo HYes hc
    generalize T.length = tn at *
    go_enter Tryd.func8, Tryd.ntmps8
    go_wp2_with fail
    refine Calls.mono HA.out ?_
    rintro e' W1 ⟨rfl, hF1⟩
    have HF1 : Hid (Fresh w W1) := hF1
    have HW1 := show Hid _ from HW.out W1 hF1
    clear HA hF1 HW
    go_wp2_with fail
    refine Calls.mono HW1.out ?_
    rintro e' W2 ⟨rfl, hF2⟩
    have HF2 : Hid (Fresh w W2) := HF1.out.trans hF2 (fun _ _ e => e)
    have HK2 := show Hid _ from HK.out W2 HF2.out
    clear HW1 hF2 HF1 HK
    go_wp2_with fail
    refine Calls.mono HK2.out ?_
    rintro e' W3 ⟨rfl, hF3⟩
    have HF3 : Hid (Fresh w W3) := HF2.out.trans hF3 (fun _ _ e => e)
    clear HK2 hF3 HF2
    go_wp2
    go_ret
    exact ⟨by simp, HF3.out⟩

set_option maxRecDepth 100000 in
theorem contract (H : Type) (enc : TypeId × Value → H) (W : World) (base : Nat) (args : Array Value) (ds gs : List (DataW H)) (before : List MemPlace)
    (hval : ∀ (j : Nat) t v, Tryd.f8.params[j]? = some t → args[j]? = some v → Value.okWide Tryd.prog W .any base t v)
    (hW : DataW.Whole enc Tryd.prog Tryd.f8.params.toList Rows.streamStopsSpec.vars false W args.toList ds gs before) (hbk : Rows.uptoSmall H (ds ++ gs) = true)
    (hsz : (DataW.weightsEach Tryd.prog (Tryd.f8.params.toList ++ []) (ds ++ gs)).all (· ≤ reachBytes) = true) (hsh : W.ShapedOpen Tryd.prog) (hL : laidMetH Tryd.prog Rows.streamStopsRow.laid W) :
    Calls Tryd.prog 8 args W fun e W' => ∃ v, e = .returned v ∧ Rows.streamStopsSpec.post enc Tryd.prog Tryd.f8 false true false false W args v W' := by
  have hW' := hW
  obtain ⟨p, q, hA0, hV, rfl, hfz, hnd⟩ := hW
  have hA : DataW.TrodAll enc Tryd.prog W 0 (fun _ => true) true Tryd.f8.params.toList args.toList ds p := hA0
  rw [Tryd.params8] at hA hval hsz
  obtain ⟨rfl, rfl⟩ := trodVars_none hV
  obtain ⟨v0, v1, d0, d1, p0, p1, rfl, rfl, rfl, h0, h1⟩ := trodAll_two hA
  have hbd := bulk_le hbk
  simp only [List.append_nil, Rows.uptoBulkAll, Nat.add_zero] at hbd
  obtain ⟨T, hT⟩ := txr_of (hval 0 26 v0 rfl rfl) h0 (by omega)
  obtain ⟨l, rfl, hl⟩ := str_of (hval 1 9 v1 rfl rfl) h1 (by omega)
  refine (walk W v0 T l hT hl (tbm_of hL hsh)).mono fun e W' ⟨he, hk⟩ => ?_
  subst he
  exact ⟨_, rfl, post_law rfl (by kernel_rfl) (by kernel_rfl) hW' rfl hk⟩

set_option maxRecDepth 100000 in
theorem laid_met (os : Os) : laidMet Tryd.prog Rows.streamStopsUptoRow.laid ((layIn (World.holding Tryd.prog os ⟨#[], #[], []⟩)).forCall (fun _ _ => 0) ⟨#[], #[.slice none 0 0, .string ⟨#[]⟩], []⟩).memory :=
  laidMet_of_run' 8 (by kernel_rfl) (by kernel_rfl)
set_option maxRecDepth 100000 in
theorem reads (os : Os) {H : Type} (enc : TypeId × Value → H) : ∃ places, DataW.whole enc Tryd.prog ((layIn (World.holding Tryd.prog os ⟨#[], #[], []⟩)).forCall (fun _ _ => 0) ⟨#[], #[.slice none 0 0, .string ⟨#[]⟩], []⟩).memory Tryd.f8.params.toList Rows.streamStopsSpec.vars false (#[.slice none 0 0, .string ⟨#[]⟩] : Array Value).toList 8 = some ([.nil, .lit (.string [])], [], places) :=
  ⟨[], by kernel_rfl⟩

set_option maxRecDepth 100000 in
theorem lifted (os : Os) (started : os.Started) (H : Type) (enc : TypeId × Value → H) (F : Stop.Interp) :
    ReturnsInHanded {} Tryd.checked os 8 .any ((Rows.OpenSpec.upto Rows.streamStopsSpec).preRow enc Tryd.prog Tryd.f8 Rows.streamStopsUptoRow.domain false Rows.streamStopsUptoRow.laid) (((Rows.OpenSpec.upto Rows.streamStopsSpec).at F).post enc Tryd.prog Tryd.f8 false true false false) := by
  obtain ⟨places, hx⟩ := reads os enc
  refine returnsInHanded_of_row (C := Tryd.checked) (s := Rows.OpenSpec.upto Rows.streamStopsSpec) Tryd.own started (by kernel_rfl) Tryd.func8
    (witness_row_at (enc := enc) (C := Tryd.checked) false (layIn (World.holding Tryd.prog os ⟨#[], #[], []⟩)) #[.slice none 0 0, .string ⟨#[]⟩] rfl (by kernel_rfl) (by kernel_rfl) (by kernel_rfl)
      (OpenSpec.preRow_of_cond 8 hx (by kernel_rfl) (fun k hk => by cases hk; kernel_rfl) (by kernel_rfl) (laid_met os))) ?_
  intro W base args ds gs before hval hW _ hc hsz hL hsh _
  exact contract H enc W base args ds gs before hval hW (hc _ rfl) hsz hsh hL

theorem said : Rows.StreamStopsUptoSaid :=
  OpenClaim.holds_of_cond 8 Tryd.f8 rfl rfl rfl rfl rfl rfl rfl ⟨rfl, rfl, rfl, rfl, rfl⟩ rfl rfl rfl rfl rfl (by kernel_rfl) Tryd.func8 (by kernel_rfl)
    (of_decide_eq_true (by kernel_rfl)) (by unfold Func.isWrapper; first | (rw [if_pos (by decide +kernel)]; kernel_rfl) | (rw [if_neg (by decide +kernel)]; exact ⟨rfl, rfl⟩))
    (fun os started H enc _ F => by rw [OpenClaim.pre_eq_preRow]; exact lifted os started H enc F)

theorem plain (f : FuncId) (fn : Func) (hf : Tryd.pinned.checked.prog.funcNamed Rows.streamStopsUptoRow.func = some f) (hfn : Tryd.pinned.checked.prog.funcs[f]? = some fn) :
    false = Tryd.pinned.checked.prog.looks [] ∧ ∀ (j : Nat) t, fn.params[j]? = some t → Tryd.pinned.checked.prog.wantsStandIn t = false := by
  obtain rfl : f = 8 := Option.some.inj ((show Tryd.prog.funcNamed Rows.streamStopsUptoRow.func = some 8 by kernel_rfl).symm.trans hf) |>.symm
  obtain rfl : fn = Tryd.f8 := (Option.some.inj (Tryd.func8.symm.trans hfn)).symm
  refine ⟨by kernel_rfl, fun j t ht => ?_⟩
  have hall : (Tryd.f8.params.toList.all fun u => !Tryd.prog.wantsStandIn u) = true := by kernel_rfl
  exact (show Tryd.prog.wantsStandIn t = false by simpa using List.all_eq_true.1 hall t (Array.mem_toList_iff.2 (Array.mem_of_getElem? ht)))

theorem card : Rows.StreamStopsUptoCardSaid :=
  Claim7.holds_tied_plain_at .later [] _ _ _ _ said (fun _ h => by cases h) (by kernel_rfl) (fun _ h => by cases h) streamStopsUpto_row_tie rfl ⟨rfl, rfl⟩ (by kernel_rfl) rfl plain (by kernel_rfl)

end Go.Proofs.YtkkaaoflolgaiaaDoor.SStops
namespace Go.Proofs.YtkkaaoflolgaiaaDoor
theorem streamStops_upto_card : Rows.StreamStopsUptoCardSaid := SStops.card
end Go.Proofs.YtkkaaoflolgaiaaDoor
