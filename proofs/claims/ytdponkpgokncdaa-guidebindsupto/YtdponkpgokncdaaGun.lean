/-
  alive: the walk.
-/
import Derived.Test.YtdponkpgokncdaaGum
namespace Go.Proofs.Ytdponkpgokncdaa
open Go.RowKit Go.Lib Go.Maps

theorem own_down {w : World} {B B' k : Nat} {e : TypeId} {v : Value} {n : Nat} {xs : List Value} (h : w.ownsRow B e k v n xs) (hb : B' ≤ B) : w.ownsRow B' e k v n xs := by
  obtain ⟨h1, h2⟩ := h
  refine ⟨h1, ?_⟩
  rcases h2 with h2 | ⟨g, cap, cur, hv, hg, r⟩
  · exact .inl h2
  · exact .inr ⟨g, cap, cur, hv, Nat.le_trans hb hg, r⟩
/-- The states that accept, found so far. -/
structure FQ (A : List Bool) (i : Nat) (q : List Int) : Prop where
  all : ∀ s : Nat, s < i → A.getD s false = true → (s : Int) ∈ q
  tru : ∀ z ∈ q, ∃ s : Nat, z = (s : Int) ∧ s < A.length ∧ A.getD s false = true
  len : q.length ≤ i
theorem FQ.zero (A : List Bool) : FQ A 0 [] := ⟨fun _ h => absurd h (Nat.not_lt_zero _), fun _ h => (by simp at h), Nat.le_refl _⟩
theorem FQ.yes {A : List Bool} {i : Nat} {q : List Int} (h : FQ A i q) (hi : i < A.length) (ha : A.getD i false = true) : FQ A (i + 1) (q ++ [(i : Int)]) := by
  refine ⟨fun s hs hs2 => ?_, fun z hz => ?_, by rw [List.length_append, List.length_singleton]; have := h.len; omega⟩
  · by_cases e : s = i
    · rw [e]; exact List.mem_append.2 (.inr (List.mem_singleton.2 rfl))
    · exact List.mem_append.2 (.inl (h.all s (by omega) hs2))
  · rcases List.mem_append.1 hz with e | e
    · exact h.tru z e
    · rw [List.mem_singleton] at e
      exact ⟨i, e, hi, ha⟩
theorem FQ.no {A : List Bool} {i : Nat} {q : List Int} (h : FQ A i q) (ha : A.getD i false = false) : FQ A (i + 1) q :=
  ⟨fun s hs hs2 => by
    by_cases e : s = i
    · rw [e, ha] at hs2; cases hs2
    · exact h.all s (by omega) hs2, h.tru, by have := h.len; omega⟩
set_option maxHeartbeats 500000 in
set_option maxRecDepth 100000 in
theorem alive_any {B : Nat} {w : World} {b : Nat} {av sv : Value} {A : List Bool} {n : Nat} {f : Nat → Nat → Int} (h : MaAt B w b av sv A n f) (h0 : 0 < n) :
    Calls Try.prog 30 #[.pointer (some ⟨b, 0, none⟩)] w fun e w' => ∃ g c, e = .returned (.slice (some ⟨g, 0, none⟩) n c) ∧ w'.ownsRow w.heap.size 4 1 (.slice (some ⟨g, 0, none⟩) n c) n ((lvL f A).map Value.bool) ∧ Fresh w w' := by
  have HSR := show Hid _ from sources_any h
  have HLN : Hid (A.length = n) := h.ln
  have HSM : Hid (n ≤ 64) := h.sm
  have HRG : Hid (∀ s c, f s c = -1 ∨ (0 ≤ f s c ∧ f s c < (A.length : Int))) := by
    intro s c
    rw [h.ln]
    exact h.rg s c
  have HM : Hid (∀ (W1 X : World), Fresh w W1 → Kept (fun k => W1.heap.size ≤ k) W1 X → MaAt B X b av sv A n f) := fun W1 X h1 h2 => h.kept (Kept.trans (S := fun k => w.heap.size ≤ k) (h1.mono (fun _ _ (e : False) => e.elim)) h2 (fun i _ e => by have e1 := h1.size; have e' : W1.heap.size ≤ i := e; show w.heap.size ≤ i; omega)) (fun q _ hq e => by have e' : w.heap.size ≤ q := e; omega)
  obtain ⟨ga, ac, rfl, _⟩ := h.acc h0
  clear h
  go_enter Try.func30, Try.ntmps30
  go_wp2_with fail
  refine Calls.mono HSR.out ?_
  rintro e W1 ⟨us, F, rfl, hS⟩
  have HS : Hid (SrW w W1 n f us F n 0) := hS
  have m1 := HM.out W1 W1 hS.fr (Kept.refl _ W1)
  have c0 : W1.cell? ⟨b, 0, none⟩ = some (.slice (some ⟨ga, 0, none⟩) n ac) := by rw [Lib.cell_of_heap m1.hb]; rfl
  have HCL : Hid (Calls Try.prog 45 #[.slice (some ⟨ga, 0, none⟩) n ac] W1 fun e w' => ∃ v, e = .returned v ∧ w'.ownsRow W1.heap.size 4 1 v n (A.map Value.bool) ∧ Fresh W1 w') := by
    have := cloneB_any (B := B) A ga ac W1 (by rw [HLN.out]; exact m1.ac) (by rw [HLN.out]; have := HSM.out; omega)
    rw [HLN.out] at this
    exact this
  clear m1 hS HSR
  go_wp2_with fail
  refine Calls.mono HCL.out ?_
  rintro e W2 ⟨v, rfl, hv, hF2⟩
  obtain ⟨gA, cA, rfl, hgl⟩ : ∃ gA cA, v = .slice (some ⟨gA, 0, none⟩) n cA ∧ gA < W2.heap.size := by
    rcases hv.2 with ⟨_, e⟩ | ⟨g', cap', cur, e, _, hh, _⟩
    · omega
    · exact ⟨g', cap', e, lt_of_heap hh⟩
  have HA0 : Hid (AlS w W1 W2 W2.heap.size n gA cA A [] (.slice none 0 0)) := ⟨hv, QuR.nil _ _, hF2.mono (fun _ _ (e : False) => e.elim), Nat.le_refl _, hF2.size, hgl, HS.out.fr⟩
  have m2 := HM.out W1 W2 HS.out.fr HA0.out.kp
  have c0 : W2.cell? ⟨b, 0, none⟩ = some (.slice (some ⟨ga, 0, none⟩) n ac) := by rw [Lib.cell_of_heap m2.hb]; rfl
  clear m2 hv hF2 hgl HCL
  generalize hB2 : W2.heap.size = B2 at *
  clear hB2
  have hsm : n ≤ 64 := HSM.out
  go_wp2
  go_loopw [5, 23] (fun qv iv wr => ∃ (i : Nat) (q : List Int), i ≤ n ∧ iv = zV i ∧ Hid (AlS w W1 wr B2 n gA cA A q qv) ∧ Hid (FQ A i q)) (fun _ iv _ => n - (RowKit.intOf iv).toNat)
  case atStart => exact ⟨0, [], Nat.zero_le _, rfl, HA0.out, FQ.zero A⟩
  case round =>
    obtain ⟨i, q, hi, rfl, HAq, HFq⟩ := hrel
    clear HA0 c0
    have mw := HM.out W1 wr HS.out.fr HAq.out.kp
    by_cases hlt : i < n
    · have hlt' : (i : Int) < (n : Int) := by omega
      obtain ⟨ga', ac', hav, hcell⟩ := mw.acc h0
      injection hav with e1 _ e3
      injection e1 with e1
      injection e1 with e1
      subst e1 e3
      have c1 := hcell i hlt
      obtain ⟨qo, qc, rfl⟩ := HAq.out.qu.shape
      clear hcell mw
      cases hA : A.getD i false with
      | false =>
        rw [hA] at c1
        have HF1 : Hid (FQ A (i + 1) q) := HFq.out.no hA
        clear hA HFq
        generalize q.length = ql at *
        go_wp2
        go_roundw
        case rel => exact ⟨i + 1, q, hlt, by go_num, HAq, HF1.out⟩
        case measure => simp [RowKit.intOf]; omega
      | true =>
        rw [hA] at c1
        have HF1 : Hid (FQ A (i + 1) (q ++ [(i : Int)])) := HFq.out.yes (by rw [HLN.out]; exact hlt) hA
        obtain ⟨v', X', r1, r2⟩ := HAq.out.push (i : Int) (by have := HFq.out.len; have := HSM.out; omega)
        have HX : Hid (AlS w W1 X' B2 n gA cA A (q ++ [(i : Int)]) v') := r2
        clear hA HFq HAq r2
        generalize q.length = ql at *
        go_wp2_with (at_builtin; refine Lib.wpList_append_run _ rfl _ _ _ _ rfl _ _ rfl rfl _ _ r1 ?_)
        go_roundw
        case rel => exact ⟨i + 1, _, hlt, by go_num, HX.out, HF1.out⟩
        case measure => simp [RowKit.intOf]; omega
    · obtain rfl : i = n := by omega
      have hlt' : ¬ ((i : Int) < (i : Int)) := by omega
      have HBI : Hid (BI f A A q (fun _ => False)) := BI.start (fun s hs => HFq.out.all s (by have := getB_lt hs; rw [HLN.out] at this; exact this) hs) HFq.out.tru (by rw [HLN.out]; exact HFq.out.len)
      clear mw HFq
      go_wp2
      go_loopg [5] (2 * cf A + q.length) (fun g qv wx => ∃ (L : List Bool) (q : List Int), Hid (AlS w W1 wx B2 i gA cA L q qv) ∧ Hid (BI f A L q (fun _ => False)) ∧ Hid (2 * cf L + q.length ≤ g))
      case atStart => exact ⟨A, q, HAq, HBI, Nat.le_refl _⟩
      case round =>
        clear HAq HBI
        obtain ⟨L, q, HAq, HBI, HG⟩ := hrel
        cases q with
        | nil =>
          obtain ⟨qo, qc, rfl⟩ := HAq.out.qu.shape
          have HL : Hid (L = lvL f A) := BI.final HRG.out HBI.out
          have HFr : Hid (wr.ownsRow w.heap.size 4 1 (.slice (some ⟨gA, 0, none⟩) i cA) i ((lvL f A).map Value.bool) ∧ Fresh w wr) := by
            have h1 := HAq.out.al
            rw [HL.out] at h1
            exact ⟨own_down h1 HAq.out.wf.size, Kept.trans (S := fun _ => False) HAq.out.wf HAq.out.kp (fun j hj e => by have e1 := HAq.out.wf.size; have e' : W1.heap.size ≤ j := e; omega)⟩
          clear HAq HBI HG HL
          go_wp2
          go_ret
          exact ⟨gA, cA, rfl, HFr.out.1, HFr.out.2⟩
        | cons x r =>
          obtain ⟨t, rfl, htn, hbi⟩ := HBI.out.pop
          have HLt : Hid (Lv f A t) := by
            obtain ⟨s, e1, _, e3⟩ := HBI.out.inq (t : Int) List.mem_cons_self
            have e4 : t = s := by omega
            rw [e4]
            exact HBI.out.snd s e3
          rw [HLN.out] at htn
          obtain ⟨qg, qo, qc, v', rfl, k0, hcut, hqr⟩ := HAq.out.qu.pop
          have HAr : Hid (AlS w W1 wr B2 i gA cA L r v') := ⟨HAq.out.al, hqr, HAq.out.kp, HAq.out.sz, HAq.out.b1, HAq.out.gb, HAq.out.wf⟩
          have HBr : Hid (BI f A L r (fun u => u = t)) := hbi
          have HG1 : Hid (2 * cf L + r.length < gk) := by have := HG.out; rw [List.length_cons] at this; show _ < _; omega
          have hmm := memk_stay HS.out.mm HAq.out.kp (n := i) rfl
          obtain ⟨ro, rc, k1, hro⟩ := memk_cell hmm HS.out.ln htn
          have HM1 := show Hid _ from hmm
          have HK1 := show Hid _ from k1
          clear hbi hqr HBI HG HAq hmm
          obtain ⟨m, hm⟩ : ∃ m, (F t).length = m := ⟨_, rfl⟩
          have HMM : Hid ((F t).length = m) := hm
          rw [hm] at k1 hro HK1
          obtain ⟨v'o, v'c, rfl⟩ := HAr.out.qu.shape
          have hm2 : m ≤ 16640 := by have := HS.out.sr.len t; omega
          clear hm
          generalize hrl : r.length = rl at *
          have HRL : Hid (r.length = rl) := hrl
          clear hrl
          have htw : (0 : Int) ≤ (t : Int) := by omega
          have ht2 : (t : Int) < (i : Int) := by omega
          go_wp2
          go_loopw [5, 47] (fun qv iv wx => ∃ (j : Nat) (L2 : List Bool) (q2 : List Int), j ≤ m ∧ iv = zV j ∧ Hid (AlS w W1 wx B2 i gA cA L2 q2 qv) ∧ Hid (BI f A L2 q2 (fun u => u = t)) ∧ Hid (∀ p, p < j → ∀ s : Nat, (F t).getD p 0 = (s : Int) → L2.getD s false = true) ∧ Hid (2 * cf L2 + q2.length ≤ 2 * cf L + rl)) (fun _ iv _ => m - (RowKit.intOf iv).toNat)
          case atStart => exact ⟨0, L, r, Nat.zero_le _, rfl, HAr.out, HBr, fun p hp => absurd hp (Nat.not_lt_zero _), by show _ ≤ _; rw [HRL.out]; exact Nat.le_refl _⟩
          case round =>
            clear HAr HBr HRL hcut k0 k1
            obtain ⟨j, L2, q2, hj, rfl, HA2, HB2, HP2, HM2⟩ := hrel
            by_cases hlj : j < m
            · have hlj' : (j : Int) < (m : Int) := by omega
              obtain ⟨rg, rfl⟩ := hro (by omega)
              have mm2 := memk_stay HS.out.mm HA2.out.kp (n := i) rfl
              obtain ⟨o2, c2, y1, y2⟩ := memk_cell mm2 HS.out.ln htn
              have hnum := memk_num mm2 HS.out.ln htn HM1.out HK1.out j (by rw [HMM.out]; exact hlj)
              obtain ⟨s, hs, hsn, bb, hb1, hb2⟩ := HS.out.sr.tru t ((F t).getD j 0) (by
                have hjl : j < (F t).length := by rw [HMM.out]; exact hlj
                rw [List.getD_eq_getElem?_getD, List.getElem?_eq_getElem hjl]
                exact List.getElem_mem hjl)
              have HSV : Hid ((F t).getD j 0 = (s : Int)) := hs
              rw [hs] at hnum
              have a1 := HA2.out.cell hsn
              have hsn' : (s : Int) < (i : Int) := by omega
              obtain ⟨xo, xc, rfl⟩ := HA2.out.qu.shape
              cases hA : L2.getD s false with
              | true =>
                rw [hA] at a1
                have HPn : Hid (∀ p, p < j + 1 → ∀ s : Nat, (F t).getD p 0 = (s : Int) → L2.getD s false = true) := fun p hp s' hs' => by
                  by_cases e : p = j
                  · subst e
                    have := HSV.out.symm.trans hs'
                    have e2 : s = s' := by omega
                    rw [← e2]; exact hA
                  · exact HP2.out p (by omega) s' hs'
                clear hA y1 y2 mm2 hs hb1 hb2 HP2
                generalize hql : q2.length = ql at *
                have HQL : Hid (q2.length = ql) := hql
                clear hql
                go_wp2
                go_roundw
                case rel => exact ⟨j + 1, L2, q2, hlj, by go_num, HA2, HB2, HPn.out, by have e1 := HM2.out; have e2 := HQL.out; show _ ≤ _; omega⟩
                case measure => simp [RowKit.intOf]; omega
              | false =>
                rw [hA] at a1
                have hsA : s < A.length := by rw [HLN.out]; exact hsn
                obtain ⟨hB3, hcf⟩ := HB2.out.mark hsA hA (Lv.step hsA hb1 (by omega) (by
                  rw [hb2, Int.toNat_natCast]
                  exact HLt.out))
                have f1 := HA2.out.froz s
                have hbd : q2.length + 1 ≤ 1000000 := by have e1 := hB3.bd; rw [List.length_append, List.length_singleton, HLN.out] at e1; omega
                obtain ⟨v3, X3, r3, hA4⟩ := (HA2.out.mark s).push (s : Int) hbd
                have hA4' : L2.length = i := HA2.out.len
                have HPn : Hid (∀ p, p < j + 1 → ∀ s' : Nat, (F t).getD p 0 = (s' : Int) → (L2.set s true).getD s' false = true) := fun p hp s' hs' => by
                  have hsl : s < L2.length := by rw [HA2.out.len]; exact hsn
                  by_cases e : p = j
                  · subst e
                    have := HSV.out.symm.trans hs'
                    have e2 : s = s' := by omega
                    rw [← e2]; exact (getB_set hsl).2 (.inl rfl)
                  · exact (getB_set hsl).2 (.inr (HP2.out p (by omega) s' hs'))
                have HA5 : Hid (AlS w W1 X3 B2 i gA cA (L2.set s true) (q2 ++ [(s : Int)]) v3) := hA4
                have HB5 : Hid (BI f A (L2.set s true) (q2 ++ [(s : Int)]) (fun u => u = t)) := hB3
                have HM5 : Hid (2 * cf (L2.set s true) + (q2 ++ [(s : Int)]).length ≤ 2 * cf L + rl) := by
                  have e1 := HM2.out
                  show _ ≤ _
                  rw [List.length_append, List.length_singleton]
                  omega
                clear hA y1 y2 mm2 hs hb1 hb2 HP2 hA4 hB3 hcf hA4' hbd HM2 HA2 HB2
                generalize q2.length = ql at *
                go_upto_region 18 with fail
                generalize wr.setCell ⟨gA, s, none⟩ (.bool true) = Y at *
                clear a1 f1 hnum
                go_wp2_with (at_builtin; refine Lib.wpList_append_run _ rfl _ _ _ _ rfl _ _ rfl rfl _ _ r3 ?_)
                go_roundw
                case rel => exact ⟨j + 1, _, _, hlj, by go_num, HA5.out, HB5.out, HPn.out, HM5.out⟩
                case measure => simp [RowKit.intOf]; omega
            · obtain rfl : j = m := by omega
              have hlj' : ¬ ((j : Int) < (j : Int)) := by omega
              have HB6 : Hid (BI f A L2 q2 (fun _ => False)) := HB2.out.done (fun s c hs hc he => by
                have hmem := HS.out.sr.all t s c htn (.inl ⟨by rw [HLN.out] at hs; exact hs, hc⟩) he
                obtain ⟨p, hp, he2⟩ := List.getElem_of_mem hmem
                refine HP2.out p (by rw [← HMM.out]; exact hp) s ?_
                rw [List.getD_eq_getElem?_getD, List.getElem?_eq_getElem hp]
                exact he2)
              clear HP2 HB2
              go_wp2
              go_roundg (2 * cf L + rl)
              case measure => exact HG1.out
              case rel => exact ⟨L2, q2, HA2, HB6.out, HM2.out⟩
end Go.Proofs.Ytdponkpgokncdaa
