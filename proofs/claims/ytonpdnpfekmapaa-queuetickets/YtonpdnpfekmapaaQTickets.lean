/-
  For every number of elements and every script the statement QueueTickets answers true: the walk.
-/
import Derived.Test.YtonpdnpfekmapaaQuw
namespace Go.Proofs.Ytonpdnpfekmapaa
open Go.RowKit Go.Lib Go.Maps

/-- An Op in a box. -/
def OpAt (w : World) (b : Nat) (o : O4) : Prop := w.heap[b]? = some (.cells #[.int .i64 o.k, .int .i64 o.y, .string o.v, .int .i64 o.t] 31 (0, 0))
theorem OpAt.cells {w : World} {b : Nat} {o : O4} (h : OpAt w b o) : w.cell? ⟨b, 0, none⟩ = some (.int .i64 o.k) ∧ w.cell? ⟨b, 1, none⟩ = some (.int .i64 o.y) ∧ w.cell? ⟨b, 2, none⟩ = some (.string o.v) ∧ w.cell? ⟨b, 3, none⟩ = some (.int .i64 o.t) := by
  simp [World.cell?, show w.heap[b]? = _ from h]
theorem QAt.bound {w : World} {F : Nat → Prop} {qb N : Nat} {L : List El} {tk ar : Nat} (h : QAt w F qb N L tk ar) : ∀ x ∈ L, x.t < tk := by
  obtain ⟨lv, M, R, h1, rfl, rfl⟩ := h
  exact fun x hx => (h1.bd x hx).1
theorem fnd_lt {L : List El} {n : Nat} (h : ∀ x ∈ L, x.t < n) : fnd L (n : Int) = none := by
  unfold fnd
  rw [List.find?_eq_none]
  intro x hx
  have := h x hx
  simp
  omega

set_option maxHeartbeats 4000000 in
set_option maxRecDepth 100000 in
theorem tickets_walk (N : Int) (v : Value) (sc : List O4) (w : World) (hs : ScrAt w v sc) :
    Calls Try.prog 7 #[.int .i64 N, v] w fun e w' => e = .returned (.bool true) ∧ Fresh w w' := by
  have hsl : sc.length ≤ 140737488351232 := let ⟨_, _, _, h, _⟩ := hs; h
  have hwf : ∀ o ∈ sc, (Lit.int .i64 o.k).wf = true ∧ (Lit.int .i64 o.t).wf = true := let ⟨_, _, _, _, h, _⟩ := hs; h
  have HS : Hid (ScrAt w v sc) := hs
  have HWF := show Hid _ from hwf
  obtain ⟨ao, cap, hv⟩ := hs.shape
  have HA : Hid (Unit → _) := fun (_ : Unit) => awake_any w
  clear hs hwf
  subst hv
  by_cases hN : 1 ≤ N ∧ N ≤ 65536
  · obtain ⟨n, rfl⟩ := Int.eq_ofNat_of_zero_le (show 0 ≤ N by omega)
    have hd1 : decide ((n : Int) < 1) = false := by rw [decide_eq_false_iff_not]; omega
    have hd2 : decide (65536 < (n : Int)) = false := by rw [decide_eq_false_iff_not]; omega
    have hn1 : 1 ≤ n := by omega
    have hn2 : n ≤ 65536 := by omega
    have HNw : Hid (∀ W, _) := fun W => new_any (n : Int) W
    simp only [if_pos hN, Int.toNat_natCast] at HNw
    clear hN
    go_enter Try.func7, Try.ntmps7
    go_wp2_with fail
    refine (HA.out ()).mono ?_
    rintro e w1 ⟨rfl, hF1⟩
    have HF1 := show Hid _ from hF1
    have HN1 : Hid (Unit → _) := fun (_ : Unit) => HNw.out w1
    clear HA HNw hF1
    go_wp2_with fail
    refine (HN1.out ()).mono ?_
    rintro e w2 ⟨F0, qb, rfl, q1, q2, q3⟩
    have hS0 : St w w2 F0 qb n [] 0 0 := ⟨q1, fun k hk => by have := q3 k hk; have := HF1.out.size; omega, HF1.out.trans q2 (fun _ _ e => e)⟩
    have HS0 := show Hid _ from hS0
    clear HN1 q1 q2 q3 hS0 HF1
    go_wp2_with fail
    go_loopw [9, 61] (fun s i wr => ∃ (j tk : Nat), j ≤ sc.length ∧ i = .int .i64 (j : Int) ∧ s = .int .i64 (tk : Int) ∧ tk ≤ j ∧ ∃ F L, L.length ≤ n ∧ Hid (St w wr F qb n L tk tk)) (fun _ i _ => sc.length - (RowKit.intOf i).toNat)
    case atStart => exact ⟨0, 0, Nat.zero_le _, rfl, rfl, Nat.le_refl _, F0, [], by simp, HS0⟩
    case round =>
      obtain ⟨j, tk, hj, rfl, rfl, htk, F, L, hLn, HSt⟩ := hrel
      clear HS0
      by_cases hlt : j < sc.length
      · obtain ⟨sb, off, cp, hv, c0, c1, c2, c3⟩ := HS.out.at HSt.out.fr hlt
        cases hv
        have HOk : Hid ((Lit.int .i64 sc[j].k).wf = true ∧ (Lit.int .i64 sc[j].t).wf = true) := HWF.out _ (List.getElem_mem hlt)
        generalize sc[j] = o at *
        have hA : Fresh wr (wr.alloc (.cells #[.int .i64 o.k, .int .i64 o.y, .string o.v, .int .i64 o.t] 31)) := (Kept.refl _ _).alloc _
        have HS1 : Hid (St w (wr.alloc (.cells #[.int .i64 o.k, .int .i64 o.y, .string o.v, .int .i64 o.t] 31)) F qb n L tk tk) := HSt.out.fresh hA
        have HO : Hid (OpAt (wr.alloc (.cells #[.int .i64 o.k, .int .i64 o.y, .string o.v, .int .i64 o.t] 31)) wr.heap.size o) := heap_alloc_new wr _
        have HNF : Hid (¬ F wr.heap.size) := fun e => by have := HSt.out.q.lt e; omega
        have HK : Hid (Unit → _) := fun (_ : Unit) => kind_any o.k 5 (wr.alloc (.cells #[.int .i64 o.k, .int .i64 o.y, .string o.v, .int .i64 o.t] 31)) (by omega) (by omega)
        have ck := HO.out.cells.1
        clear hA HSt
        go_wp2_with fail
        refine (HK.out ()).mono ?_
        rintro e w3 ⟨⟨m, hm, rfl⟩, rfl⟩
        clear HK c0 c1 c2 c3 ck
        generalize wr.alloc (.cells #[.int .i64 o.k, .int .i64 o.y, .string o.v, .int .i64 o.t] 31) = W at *
        generalize wr.heap.size = bo at *
        rcases (show m = 0 ∨ m = 1 ∨ m = 2 ∨ m = 3 ∨ m = 4 by omega) with rfl | rfl | rfl | rfl | rfl
        · have HL : Hid (Unit → _) := fun (_ : Unit) => len_any F qb n L tk tk W HS1.out.q
          have cy := HO.out.cells.2.1
          have cv := HO.out.cells.2.2.1
          by_cases hroom : L.length < n
          · have HP : Hid (Unit → _) := fun (_ : Unit) => put_room F qb n L tk tk o.y o.v W HS1.out.q hroom hn2 (by omega) (by omega)
            generalize hln : L.length = ln at HL
            rw [hln] at hroom
            have HLN := show Hid _ from hln
            have hdr : decide ((ln : Int) < (n : Int)) = true := by rw [decide_eq_true_eq]; omega
            clear hln
            go_wp2_with fail
            refine (HL.out ()).mono ?_
            rintro e wq ⟨rfl, rfl⟩
            clear HL
            go_wp2_with fail
            refine (HP.out ()).mono ?_
            rintro e W2 ⟨rfl, hp⟩
            have hkF : Kept F wq W2 := by obtain ⟨_, _, _, _, _, _, _, _, _, _, _, h8, _⟩ := hp; exact h8
            have HO2 : Hid (OpAt W2 bo o) := hkF.at HO.out HNF.out
            obtain ⟨e, A, B, F2, a1, a2, a3, a4, a5, a6, hS2⟩ := HS1.out.put hp
            have hf : fnd (A ++ e :: B) (tk : Int) = some e := by rw [← a3]; exact fnd_of hS2.q.tn (by simp)
            have HG : Hid (Unit → _) := fun (_ : Unit) => get_any F2 qb n (A ++ e :: B) (tk + 1) (tk + 1) (tk : Int) W2 hS2.q (wf64 (by omega) (by omega))
            rw [hf] at HG
            simp only [tK, tS, Option.isSome_some, a1, a2] at HG
            have HS2 := show Hid _ from hS2
            have HLE : Hid ((A ++ e :: B).length ≤ n) := by
              have h1 := congrArg List.length a5
              rw [HLN.out] at h1
              show _ ≤ _
              simp at h1 ⊢
              omega
            clear HP hp hkF a1 a2 a3 a4 a5 a6 hf hS2 HS1 HO cy cv HLN
            go_wp2_with fail
            refine (HG.out ()).mono ?_
            rintro e3 W3 ⟨rfl, k3, rfl⟩
            have cy : (W2.drewN k3).cell? ⟨bo, 1, none⟩ = some (.int .i64 o.y) := HO2.out.cells.2.1
            have cv : (W2.drewN k3).cell? ⟨bo, 2, none⟩ = some (.string o.v) := HO2.out.cells.2.2.1
            have HS3 := show Hid _ from HS2.out.drewN k3
            clear HG HS2 HO2
            generalize W2.drewN k3 = W3 at *
            go_wp2
            go_roundw
            case rel => exact ⟨j + 1, tk + 1, by omega, by go_num, by go_num, by omega, F2, _, HLE.out, HS3⟩
            case measure => simp [RowKit.intOf]; omega
          · have HP : Hid (Unit → _) := fun (_ : Unit) => put_full F qb n L tk tk o.y o.v W HS1.out.q (by omega)
            generalize hln : L.length = ln at HL hroom
            have hdr : decide ((ln : Int) < (n : Int)) = false := by rw [decide_eq_false_iff_not]; omega
            clear hln
            go_wp2_with fail
            refine (HL.out ()).mono ?_
            rintro e wq ⟨rfl, rfl⟩
            clear HL
            go_wp2_with fail
            refine (HP.out ()).mono ?_
            rintro e W2 ⟨rfl, k3, rfl⟩
            have HS3 := show Hid _ from HS1.out.drewN k3
            clear HP HS1 HO cy cv
            generalize wq.drewN k3 = W3 at *
            go_wp2
            go_roundw
            case rel => exact ⟨j + 1, tk, by omega, by go_num, rfl, by omega, F, L, hLn, HS3⟩
            case measure => simp [RowKit.intOf]; omega
        · have HL : Hid (Unit → _) := fun (_ : Unit) => len_any F qb n L tk tk W HS1.out.q
          have cy := HO.out.cells.2.1
          have cv := HO.out.cells.2.2.1
          by_cases hroom : L.length < n
          · have HP : Hid (Unit → _) := fun (_ : Unit) => put_room F qb n L tk tk o.y o.v W HS1.out.q hroom hn2 (by omega) (by omega)
            generalize hln : L.length = ln at HL
            rw [hln] at hroom
            have HLN := show Hid _ from hln
            have hdr : decide ((ln : Int) < (n : Int)) = true := by rw [decide_eq_true_eq]; omega
            clear hln
            go_wp2_with fail
            refine (HL.out ()).mono ?_
            rintro e wq ⟨rfl, rfl⟩
            clear HL
            go_wp2_with fail
            refine (HP.out ()).mono ?_
            rintro e W2 ⟨rfl, hp⟩
            have hkF : Kept F wq W2 := by obtain ⟨_, _, _, _, _, _, _, _, _, _, _, h8, _⟩ := hp; exact h8
            have HO2 : Hid (OpAt W2 bo o) := hkF.at HO.out HNF.out
            obtain ⟨e, A, B, F2, a1, a2, a3, a4, a5, a6, hS2⟩ := HS1.out.put hp
            have hf : fnd (A ++ e :: B) (tk : Int) = some e := by rw [← a3]; exact fnd_of hS2.q.tn (by simp)
            have HG : Hid (Unit → _) := fun (_ : Unit) => get_any F2 qb n (A ++ e :: B) (tk + 1) (tk + 1) (tk : Int) W2 hS2.q (wf64 (by omega) (by omega))
            rw [hf] at HG
            simp only [tK, tS, Option.isSome_some, a1, a2] at HG
            have HS2 := show Hid _ from hS2
            have HLE : Hid ((A ++ e :: B).length ≤ n) := by
              have h1 := congrArg List.length a5
              rw [HLN.out] at h1
              show _ ≤ _
              simp at h1 ⊢
              omega
            clear HP hp hkF a1 a2 a3 a4 a5 a6 hf hS2 HS1 HO cy cv HLN
            go_wp2_with fail
            refine (HG.out ()).mono ?_
            rintro e3 W3 ⟨rfl, k3, rfl⟩
            have cy : (W2.drewN k3).cell? ⟨bo, 1, none⟩ = some (.int .i64 o.y) := HO2.out.cells.2.1
            have cv : (W2.drewN k3).cell? ⟨bo, 2, none⟩ = some (.string o.v) := HO2.out.cells.2.2.1
            have HS3 := show Hid _ from HS2.out.drewN k3
            clear HG HS2 HO2
            generalize W2.drewN k3 = W3 at *
            go_wp2
            go_roundw
            case rel => exact ⟨j + 1, tk + 1, by omega, by go_num, by go_num, by omega, F2, _, HLE.out, HS3⟩
            case measure => simp [RowKit.intOf]; omega
          · have HP : Hid (Unit → _) := fun (_ : Unit) => put_full F qb n L tk tk o.y o.v W HS1.out.q (by omega)
            generalize hln : L.length = ln at HL hroom
            have hdr : decide ((ln : Int) < (n : Int)) = false := by rw [decide_eq_false_iff_not]; omega
            clear hln
            go_wp2_with fail
            refine (HL.out ()).mono ?_
            rintro e wq ⟨rfl, rfl⟩
            clear HL
            go_wp2_with fail
            refine (HP.out ()).mono ?_
            rintro e W2 ⟨rfl, k3, rfl⟩
            have HS3 := show Hid _ from HS1.out.drewN k3
            clear HP HS1 HO cy cv
            generalize wq.drewN k3 = W3 at *
            go_wp2
            go_roundw
            case rel => exact ⟨j + 1, tk, by omega, by go_num, rfl, by omega, F, L, hLn, HS3⟩
            case measure => simp [RowKit.intOf]; omega
        · have HL : Hid (Unit → _) := fun (_ : Unit) => len_any F qb n L tk tk W HS1.out.q
          have HP : Hid (Unit → _) := fun (_ : Unit) => pop_any F qb n L tk tk W HS1.out.q (by omega)
          rw [toldV_eq] at HP
          cases L with
          | nil =>
            simp only [List.head?_nil, List.tail_nil, tK, tS, tT, Option.isSome_none, List.length_nil] at HP HL
            go_wp2_with fail
            refine (HL.out ()).mono ?_
            rintro e wq ⟨rfl, rfl⟩
            clear HL
            go_wp2_with fail
            refine (HP.out ()).mono ?_
            rintro e W2 ⟨rfl, hp⟩
            obtain ⟨F2, hS2⟩ := HS1.out.now hp
            have HG : Hid (Unit → _) := fun (_ : Unit) => get_any F2 qb n [] tk tk 0 W2 hS2.q (wf64 (by omega) (by omega))
            have HS2 := show Hid _ from hS2
            rw [show fnd [] 0 = none from rfl] at HG
            simp only [tK, tS, Option.isSome_none] at HG
            clear HP hp hS2 HS1 HO
            go_wp2_with fail
            refine (HG.out ()).mono ?_
            rintro e3 W3 ⟨rfl, k3, rfl⟩
            have HS3 := show Hid _ from HS2.out.drewN k3
            clear HG HS2
            generalize W2.drewN k3 = W3 at *
            go_wp2
            go_roundw
            case rel => exact ⟨j + 1, tk, by omega, by go_num, rfl, by omega, F2, [], by simp, HS3⟩
            case measure => simp [RowKit.intOf]; omega
          | cons e B =>
            have hbd := HS1.out.q.bound e (by simp)
            have HTn := show Hid _ from HS1.out.q.tn
            have HLn : Hid (B.length ≤ n) := by have := hLn; simp at this; show _ ≤ _; omega
            simp only [List.head?_cons, List.tail_cons, tK, tS, tT, Option.isSome_some, List.length_cons] at HP HL
            have hb1 : (0 : Int) ≤ (e.t : Int) := by omega
            have hb2 : (e.t : Int) < (tk : Int) := by omega
            generalize B.length = bn at HL
            go_wp2_with fail
            refine (HL.out ()).mono ?_
            rintro e3 wq ⟨rfl, rfl⟩
            clear HL
            go_wp2_with fail
            refine (HP.out ()).mono ?_
            rintro e3 W2 ⟨rfl, hp⟩
            obtain ⟨F2, hS2⟩ := HS1.out.now hp
            have HG : Hid (Unit → _) := fun (_ : Unit) => get_any F2 qb n B tk tk (e.t : Int) W2 hS2.q (wf64 (by omega) (by omega))
            have HS2 := show Hid _ from hS2
            have hfn : fnd B (e.t : Int) = none := by
              have h1 := (tn_mid (A := []) (B := B) (e := e)).1 HTn.out
              unfold fnd
              rw [List.find?_eq_none]
              intro x hx
              have := h1.2 x (by simpa using hx)
              simp
              omega
            rw [hfn] at HG
            simp only [tK, tS, Option.isSome_none] at HG
            clear HP hp hS2 HS1 HO hfn HTn hLn
            generalize e.t = et at *
            go_wp2_with fail
            refine (HG.out ()).mono ?_
            rintro e3 W3 ⟨rfl, k3, rfl⟩
            have HS3 := show Hid _ from HS2.out.drewN k3
            clear HG HS2
            generalize W2.drewN k3 = W3 at *
            go_wp2
            go_roundw
            case rel => exact ⟨j + 1, tk, by omega, by go_num, rfl, by omega, F2, B, HLn.out, HS3⟩
            case measure => simp [RowKit.intOf]; omega
        · have HC : Hid (Unit → _) := fun (_ : Unit) => clear_any F qb n L tk tk W HS1.out.q
          go_wp2_with fail
          refine (HC.out ()).mono ?_
          rintro e W2 ⟨rfl, hp⟩
          obtain ⟨F2, hS2⟩ := HS1.out.now hp
          have HS2 := show Hid _ from hS2
          clear HC hp hS2 HS1 HO
          go_wp2
          go_roundw
          case rel => exact ⟨j + 1, tk, by omega, by go_num, rfl, by omega, F2, [], by simp, HS2⟩
          case measure => simp [RowKit.intOf]; omega
        · have HG : Hid (Unit → _) := fun (_ : Unit) => get_any F qb n L tk tk (tk : Int) W HS1.out.q (wf64 (by omega) (by omega))
          rw [fnd_lt HS1.out.q.bound] at HG
          simp only [tK, tS, Option.isSome_none] at HG
          go_wp2_with fail
          refine (HG.out ()).mono ?_
          rintro e3 W3 ⟨rfl, k3, rfl⟩
          have ct : (W.drewN k3).cell? ⟨bo, 3, none⟩ = some (.int .i64 o.t) := HO.out.cells.2.2.2
          have HS3 := show Hid _ from HS1.out.drewN k3
          clear HG HS1 HO
          generalize W.drewN k3 = W3 at *
          have HR : Hid (Unit → _) := fun (_ : Unit) => remove_any F qb n L tk tk o.t W3 HS3.out.q HOk.out.2 (by omega)
          generalize tS (fnd L o.t) = r1 at HR
          generalize (fnd L o.t).isSome = r2 at HR
          go_wp2_with fail
          refine (HR.out ()).mono ?_
          rintro e W2 ⟨rfl, hp⟩
          obtain ⟨F2, hS2⟩ := HS3.out.now hp
          have HS2 := show Hid _ from hS2
          have HLE : Hid ((lessT L o.t).length ≤ n) := Nat.le_trans (List.length_filter_le _ _) hLn
          clear HR hp hS2 HS3 ct
          go_wp2
          go_roundw
          case rel => exact ⟨j + 1, tk, by omega, by go_num, rfl, by omega, F2, _, HLE.out, HS2⟩
          case measure => simp [RowKit.intOf]; omega
      · obtain rfl : j = sc.length := by omega
        have HL : Hid (Unit → _) := fun (_ : Unit) => len_any F qb n L tk tk wr HSt.out.q
        have HFr := show Hid _ from HSt.out.fr
        generalize hln : L.length = ln at HL hLn
        clear hln HSt
        have hl1 : (0 : Int) ≤ (ln : Int) := by omega
        have hl2 : (ln : Int) ≤ (n : Int) := by omega
        go_wp2_with fail
        refine (HL.out ()).mono ?_
        rintro e w3 ⟨rfl, rfl⟩
        go_wp2_with fail
        refine (HL.out ()).mono ?_
        rintro e w3 ⟨rfl, rfl⟩
        clear HL
        go_wp2
        go_ret
        exact ⟨by simp, HFr.out⟩
  · have HNw : Hid (∀ W, _) := fun W => new_any N W
    simp only [if_neg hN] at HNw
    by_cases h1 : N < 1
    · clear hN
      go_enter Try.func7, Try.ntmps7
      go_wp2_with fail
      refine (HA.out ()).mono ?_
      rintro e w1 ⟨rfl, hF1⟩
      have HF1 := show Hid _ from hF1
      have HN1 : Hid (Unit → _) := fun (_ : Unit) => HNw.out w1
      clear HA HNw hF1
      go_wp2_with fail
      refine (HN1.out ()).mono ?_
      rintro e w2 ⟨rfl, rfl⟩
      clear HN1
      go_wp2
      go_ret
      exact ⟨by simp, HF1.out⟩
    · have h2 : 65536 < N := by omega
      clear hN
      go_enter Try.func7, Try.ntmps7
      go_wp2_with fail
      refine (HA.out ()).mono ?_
      rintro e w1 ⟨rfl, hF1⟩
      have HF1 := show Hid _ from hF1
      have HN1 : Hid (Unit → _) := fun (_ : Unit) => HNw.out w1
      clear HA HNw hF1
      go_wp2_with fail
      refine (HN1.out ()).mono ?_
      rintro e w2 ⟨rfl, rfl⟩
      clear HN1
      go_wp2
      go_ret
      exact ⟨by simp, HF1.out⟩
end Go.Proofs.Ytonpdnpfekmapaa
