/-
  For every guide, vocabulary and list of picks the statement GuideBinds answers true: tokens each of which may follow lead on, and the end comes where the state accepts.
-/
import Derived.Test.YtdponkpgokncdaaGwk
import Derived.Test.YtdponkpgokncdaaVpa
import Derived.Test.YtdponkpgokncdaaBulk1
namespace Go.Proofs.Ytdponkpgokncdaa.GBinds
open Go.ChangeShapes Go.WideShapes Go.ChangeAt Go.RowKit Go.Lib Go.Maps

theorem tyI : Ty .i64 3 58 := ⟨Try.underlying58, Try.underlying3, by kernel_rfl, by kernel_rfl⟩
theorem stA_snoc (A : List Bool) (E : List Ed) (T : List (List UInt8)) (M : List Mg) (xs : List Int) (x : Int) : ∀ k, k ≤ xs.length → stA A E T M (xs ++ [x]) k = stA A E T M xs k
  | 0, _ => rfl
  | k + 1, h => by
    show nxF A E T M (stA A E T M (xs ++ [x]) k) ((xs ++ [x]).getD k 0) = nxF A E T M (stA A E T M xs k) (xs.getD k 0)
    rw [stA_snoc A E T M xs x k (by omega), List.getD_eq_getElem?_getD, List.getD_eq_getElem?_getD, List.getElem?_append_left (by omega)]
/-- What holds ahead of each pick. -/
structure BiS (A : List Bool) (E : List Ed) (T : List (List UInt8)) (M : List Mg) (W : World) (i : Nat) (s : Int) (t : ByteArray) (v : Value) (xs : List Int) (wr : World) : Prop where
  fr : Fresh W wr
  own : wr.ownsRow W.heap.size 3 1 v i (xs.map zV)
  s0 : 0 ≤ s ∧ s < ((nA A).length : Int)
  wk : wkF (mF A E) 0 t.data.toList = s
  st : stA A E T M xs i = s
  sz : t.size ≤ 64 * i
  xi : ∀ z ∈ xs, 0 ≤ z ∧ z ≤ 512
theorem BiS.len {A : List Bool} {E : List Ed} {T : List (List UInt8)} {M : List Mg} {W : World} {i : Nat} {s : Int} {t : ByteArray} {v : Value} {xs : List Int} {wr : World} (h : BiS A E T M W i s t v xs wr) : xs.length = i := by
  have := h.own.1
  simpa using this
theorem BiS.fresh {A : List Bool} {E : List Ed} {T : List (List UInt8)} {M : List Mg} {W : World} {i : Nat} {s : Int} {t : ByteArray} {v : Value} {xs : List Int} {wr X : World} (h : BiS A E T M W i s t v xs wr) (hk : Fresh wr X) : BiS A E T M W i s t v xs X :=
  ⟨h.fr.trans hk (fun _ _ e => e), owns_kept h.own hk (fun _ _ e => e), h.s0, h.wk, h.st, h.sz, h.xi⟩
theorem BiS.row {A : List Bool} {E : List Ed} {T : List (List UInt8)} {M : List Mg} {W : World} {i : Nat} {s : Int} {t : ByteArray} {v : Value} {xs : List Int} {wr : World} (h : BiS A E T M W i s t v xs wr) (hi : i ≤ 1048577) : Rk .i64 (fun b => W.heap.size ≤ b ∧ b < wr.heap.size) wr v xs :=
  rk_of_own h.own (by rw [h.len]; simp [kb]; omega) (fun z hz => by have := h.xi z hz; simp only [Fit, I64]; omega)
/-- The next one: token x, which leads on. -/
theorem BiS.next {A : List Bool} {E : List Ed} {T : List (List UInt8)} {M : List Mg} {W : World} {i : Nat} {s : Int} {t : ByteArray} {v v' : Value} {xs : List Int} {wr X : World} {x : Nat} (h : BiS A E T M W i s t v xs wr) (h1 : vcE T M = 0) (h2 : chE A E = 0) (hx : 0 < x) (hxT : x < T.length) (hn : wkF (mF A E) s (gT T x) ≠ -1)
    (hF : Fresh W X) (ho : X.ownsRow W.heap.size 3 1 v' (i + 1) ((xs ++ [(x : Int)]).map zV)) {u : ByteArray} (hu : u.data.toList = t.data.toList ++ gT T x) (hus : u.size = t.size + (gT T x).length) :
    BiS A E T M W (i + 1) (wkF (mF A E) s (gT T x)) u v' (xs ++ [(x : Int)]) X ∧ nxF A E T M s (x : Int) = wkF (mF A E) s (gT T x) ∧ wlF A E 0 u.data.toList = wkF (mF A E) s (gT T x) ∧ 0 ≤ wkF (mF A E) s (gT T x) ∧ wkF (mF A E) s (gT T x) < ((nA A).length : Int) := by
  have hr := wkF_range (fun a c => mF_range (chE_zero h2).2.2.1 a c) (gT T x) s (.inr h.s0)
  have hr2 : 0 ≤ wkF (mF A E) s (gT T x) ∧ wkF (mF A E) s (gT T x) < ((nA A).length : Int) := by
    rcases hr with e | e
    · exact absurd e hn
    · exact e
  have hnx : nxF A E T M s (x : Int) = wkF (mF A E) s (gT T x) := by
    rw [nx_in h1 h2 h.s0, if_pos ⟨by omega, by omega⟩]
    rfl
  have hwk : wkF (mF A E) 0 u.data.toList = wkF (mF A E) s (gT T x) := by rw [hu, wkF_append, h.wk]
  have hwl : wlF A E 0 u.data.toList = wkF (mF A E) s (gT T x) := by
    unfold wlF
    rw [if_pos ⟨h2, Int.le_refl _, by have := nA_pos A; omega⟩, hwk]
  refine ⟨⟨hF, ho, hr2, hwk, ?_, ?_, ?_⟩, hnx, hwl, hr2⟩
  · show nxF A E T M (stA A E T M (xs ++ [(x : Int)]) i) ((xs ++ [(x : Int)]).getD i 0) = _
    have hl := h.len
    rw [stA_snoc A E T M xs _ i (by omega), h.st, List.getD_eq_getElem?_getD, List.getElem?_append_right (by omega), hl, Nat.sub_self]
    exact hnx
  · have h6 := good_64 (vcE_zero h1).1 x hxT
    have := h.sz
    omega
  · intro z hz
    rcases List.mem_append.1 hz with e | e
    · exact h.xi z e
    · have hw := (wrT_good (vcE_zero h1).1).1
      simp only [List.mem_singleton] at e
      omega
set_option maxHeartbeats 4000000 in
set_option maxRecDepth 100000 in
theorem walk {p q r : Nat → Prop} (w : World) (an en tv mv pv : Value) (A : List Bool) (E : List Ed) (T : List (List UInt8)) (M : List Mg) (P : List Int) (hA : RbL p w an A) (hE : EdR p w en E) (hT : TxR q w tv T) (hM : MgR q w mv M) (hM24 : M.length * 24 ≤ 140737488351232) (hP : Rk .i64 r w pv P) (hPl : P.length ≤ 1048576) :
    Calls Try.prog 7 #[.agg #[an, en], .agg #[tv, mv], pv] w fun e w' => e = .returned (.bool true) ∧ Fresh w w' := by
  have HB := show Hid _ from box2 w #[an, en] #[tv, mv] 25 49
  have HGM : Hid (∀ X s, Fresh w X → Calls Try.prog 20 #[.agg #[an, en], .agg #[tv, mv], zV s] X fun e w' => MkQ A E T M s X e w') := fun X s hX => gmask_any A E T M an en tv mv X (hA.fresh hX) (hE.fresh hX) (hT.fresh hX) (hM.fresh hX) s
  have HGG : Hid (∀ X, Fresh w X → Calls Try.prog 9 #[.agg #[an, en]] X fun e w' => ∃ tn mn, e = .returned (.agg #[tn, mn]) ∧ RbL (fun b => X.heap.size ≤ b ∧ b < w'.heap.size) w' tn A ∧ EdR (fun b => X.heap.size ≤ b ∧ b < w'.heap.size) w' mn E ∧ Fresh X w') := fun X hX => givenG_any X an en A E (hA.fresh hX) (hE.fresh hX)
  have HGW : Hid (∀ X, Fresh w X → Calls Try.prog 22 #[.agg #[tv, mv]] X fun e w' => ∃ tn mn, e = .returned (.agg #[tn, mn]) ∧ TxR (fun b => X.heap.size ≤ b ∧ b < w'.heap.size) w' tn T ∧ MgR (fun b => X.heap.size ≤ b ∧ b < w'.heap.size) w' mn M ∧ Fresh X w') := fun X hX => given_any X tv mv T M (hT.fresh hX) (hM.fresh hX) hM24
  have HACC : Hid (∀ X (t : ByteArray), Fresh w X → t.size ≤ 9223372036854775000 → Calls Try.prog 18 #[.agg #[an, en], .string t] X fun e w' => e = .returned (.bool (acF A E t.data.toList)) ∧ Fresh X w') := fun X t hX ht => accept_any A E an en X (hA.fresh hX) (hE.fresh hX) t ht
  have HNX : Hid (∀ X s k, Fresh w X → Calls Try.prog 23 #[.agg #[an, en], .agg #[tv, mv], zV s, zV k] X fun e w' => e = .returned (zV (nxF A E T M s k)) ∧ Fresh X w') := fun X s k hX => gnext_any A E T M an en tv mv X (hA.fresh hX) (hE.fresh hX) (hT.fresh hX) (hM.fresh hX) s k
  have HWK : Hid (∀ X (t : ByteArray), Fresh w X → t.size ≤ 9223372036854775000 → Calls Try.prog 16 #[.agg #[an, en], zV 0, .string t] X fun e w' => e = .returned (zV (wlF A E 0 t.data.toList)) ∧ Fresh X w') := fun X t hX ht => walk_any A E an en X (hA.fresh hX) (hE.fresh hX) 0 t ht
  have HGS : Hid (∀ (u : Nat → Prop) X xs lv, Fresh w X → Rk .i64 u X lv xs → Calls Try.prog 25 #[.agg #[an, en], .agg #[tv, mv], lv] X fun e w' => e = .returned (zV (stA A E T M xs xs.length)) ∧ Fresh X w') := fun u X xs lv hX hl => gstate_any A E T M xs an en tv mv lv X (hA.fresh hX) (hE.fresh hX) (hT.fresh hX) (hM.fresh hX) hl
  have HAL : Hid (∀ X, Fresh w X → Calls Try.prog 12 #[.agg #[an, en]] X fun e w' => ∃ v, e = .returned (.tuple #[v, zV (chE A E)]) ∧ w'.ownsRow X.heap.size 4 1 v (aliF A E).length ((aliF A E).map Value.bool) ∧ Fresh X w') := fun X hX => aliveFn_any A E an en X (hA.fresh hX) (hE.fresh hX)
  have HTX : Hid (∀ X, Fresh w X → TxR q X tv T) := fun X hX => hT.fresh hX
  have HPC : Hid (∀ X, Fresh w X → 0 < P.length → ∃ b off, (∃ c, pv = .slice (some ⟨b, off, none⟩) P.length c) ∧ ∀ i, i < P.length → X.cell? ⟨b, off + i, none⟩ = some (.int .i64 (P.getD i 0))) := fun X hX h0 => by
    obtain ⟨lo, lc, e, _, _⟩ := hP.shape
    subst e
    obtain ⟨b, off, h1, _, _, h2⟩ := (hP.fresh hX).cells.2.2.2 h0
    subst h1
    exact ⟨b, off, ⟨_, rfl⟩, h2⟩
  obtain ⟨ta, tc, rfl⟩ := hT.shape
  obtain ⟨ma, mc, rfl⟩ := hM.shape
  obtain ⟨ao, ac, rfl⟩ := hA.shape
  obtain ⟨eo, ec, rfl⟩ := hE.shape
  obtain ⟨po, pc, rfl, _, _⟩ := hP.shape
  clear hA hE hT hM hM24 hP
  go_enter Try.func7, Try.ntmps7
  go_upto_region 1 with fail
  have HK0 : Hid (Fresh ((w.alloc (.cells #[.slice ao A.length ac, .slice eo E.length ec] 25)).alloc (.cells #[.slice ta T.length tc, .slice ma M.length mc] 49)) ((w.alloc (.cells #[.slice ao A.length ac, .slice eo E.length ec] 25)).alloc (.cells #[.slice ta T.length tc, .slice ma M.length mc] 49))) := Kept.refl _ _
  generalize (w.alloc (.cells #[.slice ao A.length ac, .slice eo E.length ec] 25)).alloc (.cells #[.slice ta T.length tc, .slice ma M.length mc] 49) = W1 at *
  have HX : Hid (∀ X, Fresh W1 X → Fresh w X ∧ X.cell? ⟨w.heap.size, 0, none⟩ = some (.slice ao A.length ac) ∧ X.cell? ⟨w.heap.size, 1, none⟩ = some (.slice eo E.length ec) ∧ X.cell? ⟨w.heap.size + 1, 0, none⟩ = some (.slice ta T.length tc) ∧ X.cell? ⟨w.heap.size + 1, 1, none⟩ = some (.slice ma M.length mc)) := fun X hk => by
    obtain ⟨hf1, hb0, hb1⟩ := HB.out X hk
    exact ⟨hf1, by rw [Lib.cell_of_heap hb0]; rfl, by rw [Lib.cell_of_heap hb0]; rfl, by rw [Lib.cell_of_heap hb1]; rfl, by rw [Lib.cell_of_heap hb1]; rfl⟩
  clear HB
  obtain ⟨hf1, x0, x1, x2, x3⟩ := HX.out W1 HK0.out
  have HG1 := show Hid _ from HGG.out W1 hf1
  clear hf1 HGG HK0
  go_wp2_with fail
  refine Calls.mono HG1.out ?_
  rintro e W2 ⟨gn, gm, rfl, hA1, hE1, hf2⟩
  have HF2 : Hid (Fresh W1 W2) := hf2
  have HC1 := show Hid _ from rcheck_any A E gn gm W2 hA1 hE1
  clear hA1 hE1 hf2 HG1
  go_wp2_with fail
  refine Calls.mono HC1.out ?_
  rintro e W3 ⟨rfl, hf3⟩
  have HF3 : Hid (Fresh W1 W3) := HF2.out.trans hf3 (fun _ _ e => e)
  obtain ⟨hf3w, x0, x1, x2, x3⟩ := HX.out W3 HF3.out
  have HG2 := show Hid _ from HGW.out W3 hf3w
  clear hf3 hf3w HC1 HF2 HGW
  go_wp2_with fail
  refine Calls.mono HG2.out ?_
  rintro e W4 ⟨vn, vm, rfl, hT1, hM1, hf4⟩
  have HF4 : Hid (Fresh W1 W4) := HF3.out.trans hf4 (fun _ _ e => e)
  have HC2 := show Hid _ from refCheck_any W4 vn vm T M hT1 hM1
  clear hT1 hM1 hf4 HG2 HF3
  go_wp2_with fail
  refine Calls.mono HC2.out ?_
  rintro e W5 ⟨rfl, hf5⟩
  have HF5 : Hid (Fresh W1 W5) := HF4.out.trans hf5 (fun _ _ e => e)
  have HAW := show Hid _ from awakeG_any W5
  clear hf5 HC2 HF4
  go_wp2_with fail
  refine Calls.mono HAW.out ?_
  rintro e W6 ⟨rfl, hf6⟩
  have HF6 : Hid (Fresh W1 W6) := HF5.out.trans hf6 (fun _ _ e => e)
  obtain ⟨hf6w, x0, x1, x2, x3⟩ := HX.out W6 HF6.out
  have HF6w : Hid (Fresh w W6) := hf6w
  clear hf6 HAW HF5 hf6w
  by_cases hok : vcE T M = 0 ∧ chE A E = 0
  · obtain ⟨hv0, hc0⟩ := hok
    have HV0 : Hid (vcE T M = 0) := hv0
    have HC0 : Hid (chE A E = 0) := hc0
    rw [hc0] at HAL
    rw [hv0, hc0]
    clear hv0 hc0
    have hw512 := wrT_good (vcE_zero HV0.out).1
    have hT1 := hw512.1
    have hT2 := hw512.2.1
    clear hw512
    obtain ⟨n, hn⟩ : ∃ n, P.length = n := ⟨_, rfl⟩
    rw [hn] at HPC hPl
    rw [hn]
    clear hn
    obtain ⟨N, hN⟩ : ∃ N, T.length = N := ⟨_, rfl⟩
    have HN : Hid (T.length = N) := hN
    rw [hN] at hT1 hT2 HX HGM HNX HGS HTX x2
    rw [hN]
    clear hN
    have HI0 : Hid (BiS A E T M W6 0 0 ⟨#[]⟩ (.slice (some ⟨W6.heap.size, 0, none⟩) 0 0) [] (W6.alloc (.cells #[] 3))) :=
      ⟨(Kept.refl _ W6).alloc _, own_empty W6 _ (Nat.le_refl _) _, ⟨Int.le_refl _, by have := nA_pos A; omega⟩, rfl, rfl, Nat.le_refl _, fun z hz => (by cases hz)⟩
    go_upto_region 8 with fail
    generalize W6.alloc (.cells #[] 3) = W7 at *
    clear x0 x1 x2 x3
    go_wp2
    go_loopw [13, 14, 15, 16] (fun sv dv kv iv wr => ∃ (i : Nat) (s : Int) (t : ByteArray) (so : Option Addr) (c : Nat) (xs : List Int), i ≤ n ∧ iv = zV i ∧ sv = zV s ∧ dv = .string t ∧ kv = .slice so i c ∧ Hid (BiS A E T M W6 i s t (.slice so i c) xs wr)) (fun _ _ _ iv _ => n - (RowKit.intOf iv).toNat)
    case atStart => exact ⟨0, 0, _, _, 0, [], Nat.zero_le _, rfl, rfl, rfl, rfl, HI0.out⟩
    case round =>
      obtain ⟨i, s, t, so, c, xs, hi, rfl, rfl, rfl, rfl, HA⟩ := hrel
      clear HI0
      have HFA : Hid (Fresh W1 wr) := HF6.out.trans HA.out.fr (fun _ _ e => e)
      by_cases hlt : i < n
      · have hlt' : (i : Int) < (n : Int) := by omega
        have h0i : (0 : Int) ≤ (i : Int) := by omega
        obtain ⟨hfa, x0, x1, x2, x3⟩ := HX.out wr HFA.out
        have HM1 := show Hid _ from HGM.out wr s hfa
        have hDm : DmS A s := .inr HA.out.s0
        have hmk := mk_ok (s := s) HV0.out HC0.out hDm
        unfold MkQ at HM1
        have hmk2 : mkM A E T M s = msL A E T s := hmk.2
        rw [hmk.1, hmk2] at HM1
        clear hmk hmk2 hDm
        go_wp2_with fail
        refine Calls.mono HM1.out ?_
        rintro e X1 ⟨va, rfl, hown, hf1⟩
        have HF1 : Hid (Fresh wr X1) := hf1
        obtain ⟨hfw1, x0, x1, x2, x3⟩ := HX.out X1 (HFA.out.trans hf1 (fun _ _ e => e))
        have hown2 : X1.ownsRow wr.heap.size 4 1 va N ((msL A E T s).map Value.bool) := by
          have h1 := hown
          rw [msL_len, HN.out] at h1
          exact h1
        have HLN : Hid ((msL A E T s).length = N) := msL_len.trans HN.out
        obtain ⟨mb, mc2, hva, HMC⟩ : ∃ mb mc2, va = .slice (some ⟨mb, 0, none⟩) N mc2 ∧ Hid (∀ X, Fresh X1 X → ∀ k, k < N → X.cell? ⟨mb, k, none⟩ = some (.bool ((msL A E T s).getD k false))) := by
          rcases hown2.2 with ⟨_, e⟩ | ⟨mb, mc2, cur, hv, _⟩
          · omega
          · subst hv
            refine ⟨mb, mc2, rfl, fun X hX k hk => ?_⟩
            rw [own_cellB (owns_kept hown2 hX (fun _ _ e => e)) hk, List.getElem?_map, List.getD_eq_getElem?_getD, List.getElem?_eq_getElem (by rw [HLN.out]; exact hk)]
            rfl
        subst hva
        have HAN : Hid (0 < (mayL (msL A E T s) N).length) := by
          have := mayL_pos (L := msL A E T s) (ms_any (by rw [mkB_len, HN.out]; omega))
          rwa [HLN.out] at this
        have HEN : Hid ((msL A E T s).getD 0 false = true → acF A E t.data.toList = true ∨ (mayL (msL A E T s) N).length = 1) := fun h => by
          have := bind_end HC0.out HA.out.wk HA.out.s0.1 (by rw [HN.out]; omega) h
          rwa [HN.out] at this
        have HNE : Hid (∀ x, 0 < x → x < N → (msL A E T s).getD x false = true → wkF (mF A E) s (gT T x) ≠ -1 ∧ (lvL (mF A E) (nA A)).getD (wkF (mF A E) s (gT T x)).toNat false = true) := fun x h1 h2 h3 => bind_next h1 (by rw [HN.out]; exact h2) h3
        clear hown hown2 hf1 hfa HM1
        generalize msL A E T s = L at *
        obtain ⟨Wo, hWo⟩ : ∃ Wo, Wo = wr := ⟨_, rfl⟩
        subst hWo
        have HY0 : Hid (MyI X1 L (.slice (some ⟨X1.heap.size, 0, none⟩) 0 0) 0 (X1.alloc (.cells #[] 3))) := MyI.start
        go_upto_region 15 with fail
        generalize X1.alloc (.cells #[] 3) = X2 at *
        clear x0 x1 x2 x3
        go_wp2
        go_loopw [19, 20] (fun yv kv wr2 => ∃ (k m : Nat) (yo : Option Addr) (yc : Nat), k ≤ N ∧ kv = zV k ∧ yv = .slice yo m yc ∧ Hid (m = (mayL L k).length ∧ MyI X1 L (.slice yo m yc) k wr2)) (fun _ kv _ => N - (RowKit.intOf kv).toNat)
        case atStart => exact ⟨0, 0, _, 0, Nat.zero_le _, rfl, rfl, rfl, HY0.out⟩
        case round =>
          obtain ⟨k, m, yo, yc, hk, rfl, rfl, HY⟩ := hrel
          clear HY0
          by_cases hltk : k < N
          · have hltk' : (k : Int) < (N : Int) := by omega
            have h0k : (0 : Int) ≤ (k : Int) := by omega
            have hmc := HMC.out wr HY.out.2.2 k hltk
            have HYN : Hid (L.getD k false = false → MyI X1 L (.slice yo m yc) (k + 1) wr ∧ m = (mayL L (k + 1)).length) := fun h => ⟨HY.out.2.no h, by rw [mayL_no h]; exact HY.out.1⟩
            have HYY : Hid (L.getD k false = true → ∃ so c X', (Builtin.append_ #[58, 58] 58 #[.slice yo m yc, .slice (some ⟨wr.heap.size, 0, none⟩) 1 1]).run Try.prog (wr.alloc (.cells #[zV (k : Int)] 3)) = .ok (.slice so (m + 1) c) X' ∧ MyI X1 L (.slice so (m + 1) c) (k + 1) X' ∧ m + 1 = (mayL L (k + 1)).length) := fun h => by
              obtain ⟨so, c, X', h1, h2, h3⟩ := HY.out.2.yes h (by omega)
              rw [← HY.out.1] at h1 h2 h3
              exact ⟨so, c, X', h1, h2, h3.symm⟩
            clear HY
            generalize L.getD k false = y at *
            cases y with
            | false =>
              have HZ : Hid _ := HYN.out rfl
              clear HYN HYY
              go_wp2
              go_roundw
              case rel => exact ⟨k + 1, m, yo, yc, hltk, by go_num, rfl, HZ.out.2, HZ.out.1⟩
              case measure => simp [RowKit.intOf]; omega
            | true =>
              obtain ⟨so3, c3, X3, hrun, hz1, hz2⟩ := HYY.out rfl
              have HZ : Hid _ := And.intro hz1 hz2
              clear HYN HYY hz1 hz2
              go_wp2_with (at_builtin; refine Lib.wpList_append_run _ rfl _ _ _ _ rfl _ _ rfl rfl _ _ hrun ?_)
              clear hrun
              go_roundw
              case rel => exact ⟨k + 1, m + 1, so3, c3, hltk, by go_num, rfl, HZ.out.2, HZ.out.1⟩
              case measure => simp [RowKit.intOf]; omega
          · obtain rfl : k = N := by omega
            have hltk' : ¬ ((k : Int) < (k : Int)) := by omega
            obtain ⟨hm, hmy⟩ := HY.out
            have HMF : Hid (Fresh X1 wr) := hmy.2
            have HAN2 : Hid (0 < m) := by rw [hm]; exact HAN.out
            have HFW : Hid (Fresh W1 wr) := HFA.out.trans (HF1.out.trans HMF.out (fun _ _ e => e)) (fun _ _ e => e)
            have HAB : Hid (BiS A E T M W6 i s t (.slice so i c) xs wr) := HA.out.fresh (HF1.out.trans HMF.out (fun _ _ e => e))
            obtain ⟨hfw, x0, x1, x2, x3⟩ := HX.out wr HFW.out
            obtain ⟨pb, poff, ⟨pc2, hpe⟩, hpc⟩ := HPC.out wr hfw (by omega)
            injection hpe with hpe1 _ hpe2
            subst hpe1
            subst hpe2
            have hpi := hpc i hlt
            obtain ⟨p, hp⟩ : ∃ p, P.getD i 0 = p := ⟨_, rfl⟩
            rw [hp] at hpi
            have hm0 : 0 < m := HAN2.out
            obtain ⟨rr, hrr⟩ : ∃ rr, p.tmod (m : Int) = rr := ⟨_, rfl⟩
            have hr1 : -(m : Int) < rr ∧ rr < (m : Int) := by
              rw [← hrr]
              have h1 := Int.tmod_lt_of_pos p (show (0 : Int) < (m : Int) by omega)
              have h2 := Int.lt_tmod_of_pos p (show (0 : Int) < (m : Int) by omega)
              omega
            obtain ⟨hr1, hr2⟩ := hr1
            obtain ⟨qn, hqn⟩ : ∃ qn : Nat, (rr + (m : Int)) % (m : Int) = (qn : Int) := ⟨((rr + (m : Int)) % (m : Int)).toNat, (Int.toNat_of_nonneg (Int.emod_nonneg _ (by omega))).symm⟩
            have hqm : qn < m := by
              have := Int.emod_lt_of_pos (rr + (m : Int)) (show (0 : Int) < (m : Int) by omega)
              omega
            have hqn2 : (rr + (m : Int)).tmod (m : Int) = (qn : Int) := by rw [Int.tmod_eq_emod_of_nonneg (by omega), hqn]
            have hmN : m ≤ 512 := by
              have := mayL_le L k
              omega
            have hmz : ¬ (m : Int) = 0 := by omega
            obtain ⟨x, hxk, hxe, hxL⟩ := mayL_get (L := L) (k := k) (q := qn) (by omega)
            obtain ⟨yb, hyo, hyc⟩ : ∃ yb, yo = some ⟨yb, 0, none⟩ ∧ wr.cell? ⟨yb, qn, none⟩ = some (zV (x : Int)) := by
              have ho := hmy.1
              rw [← hm] at ho
              rcases ho.2 with ⟨_, e⟩ | ⟨yb, ycap, cur, hv, _⟩
              · omega
              · injection hv with e1 e2 e3
                subst e1
                refine ⟨yb, rfl, ?_⟩
                rw [own_cellB ho hqm, List.getElem?_map, List.getElem?_eq_getElem (by omega)]
                rw [List.getD_eq_getElem?_getD, List.getElem?_eq_getElem (by omega)] at hxe
                simp only [Option.getD_some] at hxe
                rw [Option.map_some, hxe]
            subst hyo
            have hqi : (qn : Int) < (m : Int) := by omega
            have h0q : (0 : Int) ≤ (qn : Int) := by omega
            clear hpc hmy HY hxe hp HPC HFA HF1 HMF
            rcases Nat.eq_zero_or_pos x with hx0 | hx0
            · subst hx0
              have hen := HEN.out hxL
              have HAQ := show Hid _ from HACC.out wr t hfw (by have := HAB.out.sz; omega)
              have HM1 : Hid (acF A E t.data.toList = true ∨ m = 1) := by
                rcases hen with e | e
                · exact .inl e
                · exact .inr (by omega)
              have HFX : Hid (Fresh w wr) := hfw
              clear hen HEN HNE HACC HAB HA HMC hfw hm
              generalize acF A E t.data.toList = ac2 at *
              go_wp2_with fail
              refine Calls.mono HAQ.out ?_
              rintro e X4 ⟨rfl, hf4⟩
              have HF4 : Hid (Fresh w X4) := HFX.out.trans hf4 (fun _ _ e => e)
              clear hf4 HAQ
              rcases HM1.out with e | e
              · subst e
                clear HM1
                go_wp2
                go_ret
                exact ⟨rfl, HF4.out⟩
              · subst e
                cases ac2
                all_goals
                  go_wp2
                  go_ret
                  exact ⟨rfl, HF4.out⟩
            · have hxz : ((x : Int) == 0) = false := beq_eq_false_iff_ne.2 (by omega)
              have hxk2 : (x : Int) < (k : Int) := by omega
              have h0x : (0 : Int) ≤ (x : Int) := by omega
              obtain ⟨hn1, hn2⟩ := HNE.out x hx0 hxk hxL
              obtain ⟨tb, toff, hta, htc⟩ : ∃ tb toff, ta = some ⟨tb, toff, none⟩ ∧ wr.cell? ⟨tb, toff + x, none⟩ = some (sV (gT T x)) := by
                obtain ⟨_, _, h6⟩ := (HTX.out wr hfw).cells
                obtain ⟨tb, toff, e, _, _, hc⟩ := h6 (by omega)
                exact ⟨tb, toff, e, hc x hxk⟩
              subst hta
              obtain ⟨u, hu⟩ : ∃ u : ByteArray, t ++ ⟨(gT T x).toArray⟩ = u := ⟨_, rfl⟩
              have hu1 : u.data.toList = t.data.toList ++ gT T x := by rw [← hu, ByteArray.data_append, Array.toList_append]
              have hu2 : u.size = t.size + (gT T x).length := by rw [← hu, ByteArray.size_append]; rfl
              obtain ⟨so3, c3, X3, hrun, ho3, hf3, hk3⟩ := push_int (x : Int) HAB.out.own HAB.out.fr (by omega)
              have HNXT := HAB.out.next HV0.out HC0.out hx0 (by rw [HN.out]; exact hxk) hn1 hf3 ho3 hu1 hu2
              obtain ⟨hb2, hnx, hwl, hz0, hz1⟩ := HNXT
              generalize wkF (mF A E) s (gT T x) = z at *
              obtain ⟨zn, rfl⟩ := Int.eq_ofNat_of_zero_le hz0
              have HB2 : Hid (BiS A E T M W6 (i + 1) (zn : Int) u (.slice so3 (i + 1) c3) (xs ++ [(x : Int)]) X3) := hb2
              have HF3 : Hid (Fresh W1 X3) := HF6.out.trans hf3 (fun _ _ e => e)
              have HN3 := show Hid _ from HNX.out X3 s (x : Int) (HX.out X3 HF3.out).1
              rw [hnx] at HN3
              have HWK3 : Hid (∀ X, Fresh W1 X → Calls Try.prog 16 #[.agg #[.slice ao A.length ac, .slice eo E.length ec], zV 0, .string u] X fun e w' => e = .returned (zV (zn : Int)) ∧ Fresh X w') := fun X hX => by
                have h1 := HWK.out X u (HX.out X hX).1 (by have := HB2.out.sz; omega)
                rwa [hwl] at h1
              have HGS3 : Hid (∀ X, Fresh X3 X → Calls Try.prog 25 #[.agg #[.slice ao A.length ac, .slice eo E.length ec], .agg #[.slice (some ⟨tb, toff, none⟩) k tc, .slice ma M.length mc], .slice so3 (i + 1) c3] X fun e w' => e = .returned (zV (zn : Int)) ∧ Fresh X w') := fun X hX => by
                have h1 := HGS.out _ X (xs ++ [(x : Int)]) _ (HX.out X (HF3.out.trans hX (fun _ _ e => e))).1 ((HB2.out.fresh hX).row (by omega))
                have h2 := HB2.out.len
                have h3 := HB2.out.st
                rw [h2, h3] at h1
                exact h1
              have HLV : Hid (0 < A.length → aliF A E = lvL (mF A E) (nA A) ∧ (lvL (mF A E) (nA A)).length = A.length ∧ zn < A.length) := fun h => by
                refine ⟨if_pos ⟨HC0.out, by omega⟩, ?_, ?_⟩
                · rw [lvL_len, (mF_some (E := E) h).1]
                · rw [(mF_some (E := E) h).1] at hz1
                  omega
              have hn3 : (lvL (mF A E) (nA A)).getD zn false = true := hn2
              have HN5 : Hid ((lvL (mF A E) (nA A)).getD zn false = true) := hn3
              have hts : t.size ≤ 140737488355328 := by
                have := HAB.out.sz
                omega
              have htl : (gT T x).length ≤ 64 := good_64 (vcE_zero HV0.out).1 x (by rw [HN.out]; exact hxk)
              clear hb2 hnx hwl hf3 ho3 hk3 hu1 hu2 hn1 hn2 hn3 HNX HWK HGS HACC HEN HNE HAB HA HMC HTX hm hfw hz0 hz1 HGM
              have hb1 : ((zn : Int) != (zn : Int)) = false := by simp
              have hlt0 : ¬ (zn : Int) < 0 := by omega
              generalize gT T x = tx at *
              obtain ⟨_, x0, x1, x2, x3⟩ := HX.out X3 HF3.out
              go_wp2_with (at_builtin; refine Lib.wpList_append_run _ rfl _ _ _ _ rfl _ _ rfl rfl _ _ hrun ?_)
              clear hrun
              refine Calls.mono HN3.out ?_
              rintro e X4 ⟨rfl, hf4⟩
              have HF4 : Hid (Fresh X3 X4) := hf4
              obtain ⟨_, x0, x1, x2, x3⟩ := HX.out X4 (HF3.out.trans hf4 (fun _ _ e => e))
              have HW4 := show Hid _ from HWK3.out X4 (HF3.out.trans hf4 (fun _ _ e => e))
              clear hf4 HN3 HWK3
              go_wp2_with fail
              refine Calls.mono HW4.out ?_
              rintro e X5 ⟨rfl, hf5⟩
              have HF5 : Hid (Fresh X3 X5) := HF4.out.trans hf5 (fun _ _ e => e)
              obtain ⟨_, x0, x1, x2, x3⟩ := HX.out X5 (HF3.out.trans HF5.out (fun _ _ e => e))
              have HS5 := show Hid _ from HGS3.out X5 HF5.out
              clear hf5 HW4 HGS3 HF4
              go_wp2_with fail
              refine Calls.mono HS5.out ?_
              rintro e X6 ⟨rfl, hf6⟩
              have HF7 : Hid (Fresh X3 X6) := HF5.out.trans hf6 (fun _ _ e => e)
              obtain ⟨hfw6, x0, x1, x2, x3⟩ := HX.out X6 (HF3.out.trans HF7.out (fun _ _ e => e))
              have HA6 := show Hid _ from HAL.out X6 hfw6
              clear hf6 HS5 HF5 hfw6
              go_wp2_with fail
              refine Calls.mono HA6.out ?_
              rintro e X7 ⟨av, rfl, hal, hf7⟩
              have HF8 : Hid (Fresh X3 X7) := HF7.out.trans hf7 (fun _ _ e => e)
              obtain ⟨_, x0, x1, x2, x3⟩ := HX.out X7 (HF3.out.trans HF8.out (fun _ _ e => e))
              have HZ : Hid _ := HB2.out.fresh HF8.out
              rcases Nat.eq_zero_or_pos A.length with hA0 | hA0
              · have x0z := x0
                rw [hA0] at x0z
                clear x0
                clear hA0 hal hf7 HA6 HF7 HB2 HLV HN5
                go_wp2
                go_roundw
                case rel => exact ⟨i + 1, zn, u, so3, c3, xs ++ [(x : Int)], hlt, by go_num, rfl, rfl, rfl, HZ.out⟩
                case measure => simp [RowKit.intOf]; omega
              · obtain ⟨h1, h2, h3⟩ := HLV.out hA0
                rw [h1] at hal
                obtain ⟨ab, acap, hav, hac⟩ : ∃ ab acap, av = .slice (some ⟨ab, 0, none⟩) A.length acap ∧ X7.cell? ⟨ab, zn, none⟩ = some (.bool true) := by
                  rw [h2] at hal
                  rcases hal.2 with ⟨_, e⟩ | ⟨ab, acap, cur, hv, _⟩
                  · omega
                  · subst hv
                    refine ⟨ab, acap, rfl, ?_⟩
                    rw [own_cellB hal h3, List.getElem?_map, List.getElem?_eq_getElem (by omega)]
                    have h4 := HN5.out
                    rw [List.getD_eq_getElem?_getD, List.getElem?_eq_getElem (by omega)] at h4
                    simp only [Option.getD_some] at h4
                    rw [Option.map_some, h4]
                subst hav
                have hpos : (0 : Int) < (A.length : Int) := by omega
                have hge : ¬ (A.length : Int) ≤ (zn : Int) := by omega
                have hzl : (zn : Int) < (A.length : Int) := by omega
                have h0z : (0 : Int) ≤ (zn : Int) := by omega
                clear hal hf7 HA6 HF7 HB2 HLV HN5 h1 h2
                go_wp2
                go_roundw
                case rel => exact ⟨i + 1, zn, u, so3, c3, xs ++ [(x : Int)], hlt, by go_num, rfl, rfl, rfl, HZ.out⟩
                case measure => simp [RowKit.intOf]; omega
      · obtain rfl : i = n := by omega
        have hlt' : ¬ ((i : Int) < (i : Int)) := by omega
        have HZ : Hid (Fresh w wr) := (HX.out wr HFA.out).1
        go_wp2
        go_ret
        exact ⟨rfl, HZ.out⟩
  · have HMK := show Hid _ from HGM.out W6 0 HF6w.out
    have HNE : Hid (((mkE A E T M 0 : Int) != 0) = true) := by
      show _ = true
      rw [bne_iff_ne]
      unfold mkE
      split
      · assumption
      · rename_i h
        split
        · rename_i h2
          omega
        · rename_i h2
          exact absurd ⟨by simpa using h, by simpa using h2⟩ hok
    have hne := HNE.out
    have HTWO : Hid ((((chE A E : Int) != 0) = true) ∨ (((chE A E : Int) != 0) = false ∧ ((vcE T M : Int) != 0) = true)) := by
      show _ ∨ _
      by_cases h : chE A E = 0
      · refine .inr ⟨by rw [h]; rfl, bne_iff_ne.2 (fun e => hok ⟨e, h⟩)⟩
      · exact .inl (bne_iff_ne.2 (by omega))
    clear HNX HWK HGS HAL HTX HPC HACC HGM hok HNE
    unfold MkQ at HMK
    generalize mkE A E T M 0 = me at *
    generalize mkM A E T M 0 = ml at *
    generalize chE A E = ge at *
    generalize vcE T M = ve at *
    rcases HTWO.out with h1 | ⟨h1, h2⟩
    all_goals
      clear HTWO
      go_wp2_with fail
      refine Calls.mono HMK.out ?_
      rintro e W7 ⟨v7, rfl, _, hf7⟩
      have HF7 : Hid (Fresh w W7) := HF6w.out.trans hf7 (fun _ _ e => e)
      have HAW := show Hid _ from awakeG_any W7
      clear hf7 HMK
      go_wp2_with fail
      refine Calls.mono HAW.out ?_
      rintro e W8 ⟨rfl, hf8⟩
      have HF8 : Hid (Fresh w W8) := HF7.out.trans hf8 (fun _ _ e => e)
      clear hf8 HAW HF7
      go_wp2
      go_ret
      exact ⟨rfl, HF8.out⟩

set_option maxRecDepth 100000 in
theorem contract (H : Type) (enc : TypeId × Value → H) (W : World) (base : Nat) (args : Array Value) (ds gs : List (DataW H)) (before : List MemPlace)
    (hval : ∀ (j : Nat) t v, Try.f7.params[j]? = some t → args[j]? = some v → Value.okWide Try.prog W .any base t v)
    (hW : DataW.Whole enc Try.prog Try.f7.params.toList Rows.guideBindsSpec.vars false W args.toList ds gs before) (hbk : Rows.uptoSmall H (ds ++ gs) = true)
    (hsz : (DataW.weightsEach Try.prog (Try.f7.params.toList ++ []) (ds ++ gs)).all (· ≤ reachBytes) = true) (hL : laidMetH Try.prog Rows.guideBindsRow.laid W) :
    Calls Try.prog 7 args W fun e W' => ∃ v, e = .returned v ∧ Rows.guideBindsSpec.post enc Try.prog Try.f7 false true false false W args v W' := by
  have hW' := hW
  obtain ⟨p, q, hA0, hV, rfl, hfz, hnd⟩ := hW
  have hA : DataW.TrodAll enc Try.prog W 0 (fun _ => true) true Try.f7.params.toList args.toList ds p := hA0
  rw [Try.params7] at hA hval hsz
  obtain ⟨rfl, rfl⟩ := trodVars_none hV
  have _hL := hL
  obtain ⟨v0, v1, v2, d0, d1, d2, p0, p1, p2, rfl, rfl, rfl, h0, h1, h2⟩ := trodAll_three hA
  have hbd := bulk_le hbk
  simp only [List.append_nil, Rows.uptoBulkAll, Nat.add_zero] at hbd
  obtain ⟨acv, edv, A, E, rfl, hA', hE'⟩ := guide_of (hval 0 25 v0 rfl rfl) h0 hsz (j := 0) rfl rfl
  obtain ⟨tv, mv, T, M, rfl, hT, hM, hM24⟩ := voc_of (hval 1 49 v1 rfl rfl) h1 hsz (j := 1) rfl rfl
  obtain ⟨lo, ln, lcap, rfl⟩ := okWide_slice Try.underlying58 (hval 2 58 v2 rfl rfl)
  obtain ⟨fuel, hf⟩ := h2
  obtain ⟨ys, hy, hy2⟩ := row_of tyI (x := (d2, _)) hf (fun es sp e => by
    have e' : d2 = .slice es sp := e
    subst e'
    have := sized_slice hsz (j := 2) (t := 58) (e := 3) rfl rfl Try.underlying58
    rw [Try.bInt] at this
    simp only [reachBytes] at this
    simp [kb]
    omega)
  have hl : ys.length ≤ 1048576 := by
    rcases hy2 with ⟨_, rfl⟩ | ⟨sp, e⟩
    · simp
    · have e' : d2 = .slice (lits .i64 ys) sp := e
      rw [e'] at hbd
      simp only [Rows.uptoBulk] at hbd
      have h1 := bulk_length (lits (H := H) .i64 ys)
      simp only [lits, List.length_map] at h1 hbd
      omega
  refine (walk W acv edv tv mv _ A E T M ys hA' hE' hT hM hM24 hy hl).mono fun e W' ⟨he, hk⟩ => ?_
  subst he
  exact ⟨_, rfl, post_law rfl (by kernel_rfl) (by kernel_rfl) hW' rfl hk⟩

set_option maxRecDepth 100000 in
theorem laid_met (os : Os) : laidMet Try.prog Rows.guideBindsUptoRow.laid ((layIn (World.holding Try.prog os ⟨#[], #[], []⟩)).forCall (fun _ _ => 0) ⟨#[], #[.agg #[.slice none 0 0, .slice none 0 0], .agg #[.slice none 0 0, .slice none 0 0], .slice none 0 0], []⟩).memory :=
  laidMet_of_run' 8 (by kernel_rfl) (by kernel_rfl)
set_option maxRecDepth 100000 in
theorem reads (os : Os) {H : Type} (enc : TypeId × Value → H) : ∃ places, DataW.whole enc Try.prog ((layIn (World.holding Try.prog os ⟨#[], #[], []⟩)).forCall (fun _ _ => 0) ⟨#[], #[.agg #[.slice none 0 0, .slice none 0 0], .agg #[.slice none 0 0, .slice none 0 0], .slice none 0 0], []⟩).memory Try.f7.params.toList Rows.guideBindsSpec.vars false (#[.agg #[.slice none 0 0, .slice none 0 0], .agg #[.slice none 0 0, .slice none 0 0], .slice none 0 0] : Array Value).toList 8 = some ([.agg [.nil, .nil], .agg [.nil, .nil], .nil], [], places) :=
  ⟨[], by kernel_rfl⟩

set_option maxRecDepth 100000 in
theorem lifted (os : Os) (started : os.Started) (H : Type) (enc : TypeId × Value → H) (F : Stop.Interp) :
    ReturnsInHanded {} Try.checked os 7 .any ((Rows.OpenSpec.upto Rows.guideBindsSpec).preRow enc Try.prog Try.f7 Rows.guideBindsUptoRow.domain false Rows.guideBindsUptoRow.laid) (((Rows.OpenSpec.upto Rows.guideBindsSpec).at F).post enc Try.prog Try.f7 false true false false) := by
  obtain ⟨places, hx⟩ := reads os enc
  refine returnsInHanded_of_row (C := Try.checked) (s := Rows.OpenSpec.upto Rows.guideBindsSpec) Try.own started (by kernel_rfl) Try.func7
    (witness_row_at (enc := enc) (C := Try.checked) false (layIn (World.holding Try.prog os ⟨#[], #[], []⟩)) #[.agg #[.slice none 0 0, .slice none 0 0], .agg #[.slice none 0 0, .slice none 0 0], .slice none 0 0] rfl (by kernel_rfl) (by kernel_rfl) (by kernel_rfl)
      (OpenSpec.preRow_of_cond 8 hx (by kernel_rfl) (fun k hk => by cases hk; kernel_rfl) (by kernel_rfl) (laid_met os))) ?_
  intro W base args ds gs before hval hW _ hc hsz hL _ _
  exact contract H enc W base args ds gs before hval hW (hc _ rfl) hsz hL

theorem said : Rows.GuideBindsUptoSaid :=
  OpenClaim.holds_of_cond 7 Try.f7 rfl rfl rfl rfl rfl rfl rfl ⟨rfl, rfl, rfl, rfl, rfl⟩ rfl rfl rfl rfl rfl (by kernel_rfl) Try.func7 (by kernel_rfl)
    (of_decide_eq_true (by kernel_rfl)) (by unfold Func.isWrapper; first | (rw [if_pos (by decide +kernel)]; kernel_rfl) | (rw [if_neg (by decide +kernel)]; exact ⟨rfl, rfl⟩))
    (fun os started H enc _ F => by rw [OpenClaim.pre_eq_preRow]; exact lifted os started H enc F)


end Go.Proofs.Ytdponkpgokncdaa.GBinds
namespace Go.Proofs.Ytdponkpgokncdaa
theorem guideBinds_upto_holds : Rows.GuideBindsUptoSaid := GBinds.said
end Go.Proofs.Ytdponkpgokncdaa
