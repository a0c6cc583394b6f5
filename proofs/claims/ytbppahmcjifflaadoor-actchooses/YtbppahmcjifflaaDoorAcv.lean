/-
  Choose, the document's.
-/
import Derived.Test.YtbppahmcjifflaaDoorAcu
import Derived.Test.YtbppahmcjifflaaDoorSfr
import Derived.Test.YtbppahmcjifflaaDoorGrw
namespace Go.Proofs.YtbppahmcjifflaaDoor
open Go.RowKit Go.Lib Go.Maps

set_option maxHeartbeats 4000000 in
set_option maxRecDepth 100000 in
theorem refChoose_any (p q : Nat → Prop) (wv hv : Value) (ws h : List Int) (s k : Int) (w : World) (hw : Rk .i8 p w wv ws) (hh : Rk .i8 q w hv h) (hs : I64 s) :
    Calls Tryd.prog 22 #[wv, hv, zV s, zV k] w fun e w' => Chosen ws h s k w e w' := by
  have HT : Hid (Unit → _) := fun (_ : Unit) => refTimes_any p q wv hv ws h h.length w hw hh ⟨by have := hh.many; omega, by have := hh.many; omega⟩
  have HTl : Hid ((tL ws h.length h).length * kb .i64 ≤ 140737488351232 ∧ ∀ z ∈ tL ws h.length h, Fit .i64 z) := ⟨by have := tL_len ws h (h.length : Int); simp [kb]; omega, tL_i64 _ hw.all hh.all⟩
  have HSc : Hid (∀ W v', Rk .i64 (fun b => b < W.heap.size) W v' (tL ws h.length h) → Calls Tryd.prog 33 #[v', zV s] W fun e w' => Gives .i64 2 (scL ws h s) (sE (tL ws h.length h).length s 62) W e w') := fun W v' hv => refScale_any _ v' _ s W hv hs
  have HI : Hid ((scL ws h s).length * kb .i64 ≤ 140737488351232 ∧ (∀ z ∈ scL ws h s, Fit .i64 z) ∧ (scL ws h s).length ≤ 1048576 ∧ ∀ i, -17179869184 ≤ (scL ws h s).getD i 0 ∧ (scL ws h s).getD i 0 ≤ 17179869184) := ⟨by have := scL_len ws h s; simp [kb]; omega, scL_i64 hw.all hh.all, scL_len _ _ _, scL_bound hw.all hh.all⟩
  obtain ⟨ao, ac, rfl, _⟩ := hw.shape
  have hmany := hh.many
  obtain ⟨bo, bc, rfl, _⟩ := hh.shape
  have HNo : Hid (∀ (E : Int) (W' : World), choE ws h s k = E → E ≠ 0 → Fresh w W' → Chosen ws h s k w (.returned (.tuple #[.slice none 0 0, .slice none 0 0, zV E])) W') := fun E W' hE h0 hF => ⟨hF, .inl ⟨by rw [hE]; exact h0, by rw [hE]⟩⟩
  have HE1 : Hid (tE ws h.length h ≠ 0 → choE ws h s k = tE ws h.length h) := fun e => by rw [choE_bad (by rw [srE_bad e]; exact e), srE_bad e]
  have HE2 : Hid (tE ws h.length h = 0 → srE ws h s = sE (tL ws h.length h).length s 62) := fun e => srE_ok e
  clear hw hh hs
  generalize hn : h.length = n at *
  generalize hET : tE ws (n : Int) h = ET at *
  generalize hTL : tL ws (n : Int) h = TL at *
  obtain ⟨ES, hES⟩ : ∃ ES, sE TL.length s 62 = ES := ⟨_, rfl⟩
  rw [hES] at HSc HE2
  go_enter Tryd.func22, Tryd.ntmps22
  go_wp2_with fail
  refine (HT.out ()).mono ?_
  rintro e w1 hg1
  obtain ⟨v1, rfl, hr1, hF1⟩ := hg1.row HTl.out.1 HTl.out.2
  clear hg1 HT
  by_cases h0 : ET = 0
  · subst h0
    have HE3 : Hid (srE ws h s = ES) := HE2.out rfl
    clear HE2
    have HS : Hid (Unit → _) := fun (_ : Unit) => HSc.out w1 v1 hr1.low
    have HF1 : Hid (Fresh w w1) := hF1
    clear hr1 hF1 HSc
    go_wp2_with fail
    refine (HS.out ()).mono ?_
    rintro e w2 hg2
    obtain ⟨v2, rfl, hr2, hF2⟩ := hg2.row HI.out.1 HI.out.2.1
    clear hg2 HS
    have hF2' : Fresh w w2 := HF1.out.trans hF2 (fun _ _ e => e)
    by_cases h1 : ES = 0
    · subst h1
      have hsr := HE3.out
      by_cases hk : k < 1 ∨ ((scL ws h s).length : Int) < k
      · have HX : Hid _ := HNo.out 121 w2 (choE_kind hsr hk) (by decide) hF2'
        obtain ⟨zo, zc, rfl, _⟩ := hr2.shape
        clear hr2 hF2 hF2' HNo HE1 HE3 hsr
        obtain ⟨m, hm⟩ : ∃ m, (scL ws h s).length = m := ⟨_, rfl⟩
        rw [hm] at hk ⊢
        clear hm
        by_cases hk1 : k < 1
        · go_wp2
          go_ret3
          exact HX.out
        · have hk2 : (m : Int) < k := by omega
          go_wp2
          go_ret3
          exact HX.out
      · obtain ⟨K, rfl⟩ : ∃ K : Nat, k = K := ⟨k.toNat, by omega⟩
        have HE : Hid (choE ws h s K = 0) := choE_ok hsr hk
        obtain ⟨zo, zc, rfl, _⟩ := hr2.shape
        have HO : Hid (Unit → _) := fun (_ : Unit) => refOrder_any _ _ (scL ws h s) w2 hr2.rw
        obtain ⟨zs, hzs⟩ : ∃ zs, scL ws h s = zs := ⟨_, rfl⟩
        have HZS : Hid (scL ws h s = zs) := hzs
        rw [hzs] at hr2 hk HO HI ⊢
        have hk1 : 1 ≤ K := by omega
        have hk2 : K ≤ zs.length := by omega
        have hk3 : ¬ ((K : Nat) : Int) < 1 := by omega
        have hk4 : ¬ (zs.length : Int) < (K : Int) := by omega
        obtain ⟨b1, off1, rfl, _, hb1, hc1⟩ := hr2.cells.2.2.2 (by omega)
        have HF2 : Hid (Fresh w w2) := hF2'
        have HC1 : Hid (b1 < w2.heap.size ∧ ∀ W, Fresh w2 W → ∀ i, i < zs.length → W.cell? ⟨b1, off1 + i, none⟩ = some (zV (zs.getD i 0))) := ⟨hb1, fun W hF i hi => (hF.cell (p := ⟨b1, off1 + i, none⟩) hb1 (fun e => e)).trans (hc1 i hi)⟩
        have hmz := HI.out.2.2.1
        clear hzs hr2 hF2 hF2' HNo HE1 HE3 hsr hb1 hc1
        generalize hnz : zs.length = nz at *
        have HNZ : Hid (zs.length = nz) := hnz
        go_wp2_with fail
        refine (HO.out ()).mono ?_
        rintro e w3 ⟨o, v3, rfl, hO, ho3, hF3⟩
        have hnzo : o.length = nz := hO.length
        obtain ⟨g3, c3, rfl⟩ : ∃ g3 c3, v3 = .slice (some ⟨g3, 0, none⟩) nz c3 := by
          rcases ho3.2 with ⟨_, e⟩ | ⟨g', cap', cur, hv, hb, _⟩
          · omega
          · exact ⟨g', cap', hv⟩
        have hbk := own_block ho3
        have hcap : K ≤ c3 := by omega
        have hcap' : (K : Int) ≤ (c3 : Int) := by omega
        have hOl : (o.take K).length = K := by rw [List.length_take, hnzo]; omega
        have HP : Hid (g3 < w3.heap.size ∧ ∀ W, Fresh w3 W → ∀ i, i < K → W.cell? ⟨g3, i, none⟩ = some (zV (((o.take K).getD i 0 : Nat) : Int))) := ⟨hbk.2.1, fun W hF i hi => (hF.cell (p := ⟨g3, i, none⟩) hbk.2.1 (fun e => e)).trans (by
          have := own_get ho3 i (by omega)
          rw [this]
          congr 2
          rw [List.getD_eq_getElem?_getD, upI_get, List.getD_eq_getElem?_getD, List.getElem?_take_of_lt hi, List.getElem?_eq_getElem (by omega)]
          rfl)⟩
        have HOlt : Hid (∀ i, i < K → (o.take K).getD i 0 < nz) := fun i hi => by
          rw [List.getD_eq_getElem?_getD, List.getElem?_eq_getElem (by omega)]
          exact hO.lt (List.mem_of_mem_take (List.getElem_mem _))
        have HOo : Hid (IsOrd (fun i => zs.getD i 0) nz o ∧ (o.take K).length = K) := ⟨hO, hOl⟩
        have HC3 : Hid (∀ W, Fresh w3 W → ∀ i, i < nz → W.cell? ⟨b1, off1 + i, none⟩ = some (zV (zs.getD i 0))) := fun W hF => HC1.out.2 W (hF3.trans hF (fun _ _ e => e))
        have HF3 : Hid (Fresh w w3 ∧ w2.heap.size ≤ w3.heap.size ∧ w.heap.size ≤ w2.heap.size) := ⟨HF2.out.trans hF3 (fun _ _ e => e), hF3.size, HF2.out.size⟩
        have HRP : Hid (∀ W, Fresh w3 W → W.ownsRow w2.heap.size 3 1 (.slice (some ⟨g3, 0, none⟩) nz c3) nz ((upI o).map zV)) := fun W hF => owns_kept ho3 hF (fun _ _ e => e)
        obtain ⟨O, hO'⟩ : ∃ O, o.take K = O := ⟨_, rfl⟩
        have HOO : Hid (o.take K = O) := hO'
        rw [hO'] at HP HOlt hOl
        have HX : Hid (∀ i W, Calls Tryd.prog 37 #[zV (256 * (zs.getD (O.getD i 0) 0 - zs.getD (O.getD 0 0) 0))] W fun e w' => e = .returned (zV (exF zs O i)) ∧ Drew W w') := fun i W => refExp2_any _ W (by
          have := HI.out.2.2.2 (O.getD i 0)
          have := HI.out.2.2.2 (O.getD 0 0)
          exact ⟨by omega, by omega⟩)
        have HZ : Hid _ := HI.out.2.2.2
        have HOL : Hid (O.length = K) := hOl
        have hS : Hid (Grw .i64 2 w3 (exF zs O) 0 w3.heap.size 0 (w3.alloc (.cells #[] 2))) := Grw.start _ (Kept.refl _ _)
        clear hO ho3 hF3 hbk hO' hOl HC1 HF2 HI HO hnzo hnz hk hmany
        generalize hW4 : w3.alloc (.cells #[] 2) = W4 at *
        go_wp2
        clear hW4
        go_loopw [15, 16, 59] (fun pv av iv wr => ∃ j g c : Nat, j ≤ K ∧ iv = zV j ∧ av = zV (exS zs O j) ∧ pv = .slice (some ⟨g, 0, none⟩) j c ∧ Hid (Grw .i64 2 w3 (exF zs O) j g c wr)) (fun _ _ iv _ => K - (RowKit.intOf iv).toNat)
        case atStart => exact ⟨0, _, _, Nat.zero_le _, rfl, rfl, rfl, hS.out⟩
        case round =>
          obtain ⟨j, pg, pc, hj, rfl, rfl, rfl, HA⟩ := hrel
          clear hS
          by_cases hlt : j < K
          · have hlt' : (j : Int) < (K : Int) := by omega
            have cP := HP.out.2 wr HA.out.2 j hlt
            have c0 := HP.out.2 wr HA.out.2 0 (by omega)
            have hPl := HOlt.out j hlt
            have hQl := HOlt.out 0 (by omega)
            have sP := HC3.out wr HA.out.2 _ hPl
            have sQ := HC3.out wr HA.out.2 _ hQl
            have zP := HZ.out (O.getD j 0)
            have zQ := HZ.out (O.getD 0 0)
            have HCall : Hid (∀ W, _) := HX.out j
            have HEnd : Hid (∀ X : World, Grw .i64 2 w3 (exF zs O) j pg pc X → _) := fun X hX => hX.push ty64 (by simp [kb]; omega)
            have HFr : Hid (∀ d, Grw .i64 2 w3 (exF zs O) j pg pc (wr.drewN d)) := fun d => HA.out.drew d
            obtain ⟨e0, e1⟩ := exF_bound zs O j
            obtain ⟨u0, u1, _⟩ := exS_bound zs O j
            have HS1 : Hid (exS zs O (j + 1) = exS zs O j + exF zs O j) := rfl
            have hP' : ((O.getD j 0 : Nat) : Int) < (nz : Int) := by omega
            have hQ' : ((O.getD 0 0 : Nat) : Int) < (nz : Int) := by omega
            have hjk : 1073741824 * (j : Int) ≤ 1125899906842624 := by omega
            have hk0 : (0 : Int) < (K : Int) := by omega
            have hk0n : 0 < K := by omega
            clear HX HA HZ HOlt HP HC3 HRP
            generalize exF zs O j = e at *
            generalize exS zs O j = S at *
            generalize zs.getD (O.getD j 0) 0 = a at *
            generalize zs.getD (O.getD 0 0) 0 = b at *
            generalize O.getD j 0 = P at *
            generalize O.getD 0 0 = Q at *
            have e5 : IntKind.i64.wrap (a - b) = a - b := by rw [IntKind.wrap_i64]; omega
            have e6 : IntKind.i64.wrap (256 * (a - b)) = 256 * (a - b) := by rw [IntKind.wrap_i64]; omega
            have HCall3 : Hid (∀ W, Calls Tryd.prog 37 #[.int .i64 (IntKind.i64.wrap (256 * IntKind.i64.wrap (a - b)))] W fun r w' => r = .returned (zV e) ∧ Drew W w') := fun W => by rw [e5, e6]; exact HCall.out W
            go_wp2_with fail
            go_quiet ((first | (go_at_call 37; exact Calls.quiet_of (HCall.out _)) | (go_at_call 37; exact Calls.quiet_of (HCall3.out _))))
            obtain ⟨g', c', X', hr1, hG⟩ := HEnd.out _ (HFr.out nq)
            have HG : Hid _ := hG
            clear hG HEnd HFr HCall HCall3
            go_wp2_with (at_builtin; refine Lib.wpList_append_run _ rfl _ _ _ _ rfl _ _ rfl rfl _ _ hr1 ?_)
            go_roundw
            case rel => exact ⟨j + 1, g', c', hlt, by go_num, by rw [HS1.out], rfl, HG.out⟩
            case measure => simp [RowKit.intOf]; omega
          · obtain rfl : j = K := by omega
            have hpo := HA.out.1
            have hpb := own_block hpo
            have HPw : Hid (∀ W, Fresh wr W → ∀ i, i < j → W.cell? ⟨pg, i, none⟩ = some (zV (exF zs O i))) := fun W hF i hi => (hF.cell (p := ⟨pg, i, none⟩) hpb.2.1 (fun e => e)).trans (by
              have := own_get hpo i hi
              rwa [mkL_get hi] at this)
            have HF5 : Hid (Fresh w3 wr) := HA.out.2
            have hSb := exS_bound zs O j
            have HSb : Hid (∀ i, i < j → wgF zs O i = exF zs O i * 65536 / exS zs O j) := fun i _ => by unfold wgF; rw [HOL.out]
            have HM : Hid (∀ i, i ≤ j → 65536 - 65536 * (i : Int) ≤ msF zs O i ∧ msF zs O i ≤ 65536) := fun i hi => msF_le zs O i (by rw [HOL.out]; exact hi)
            have HG : Hid (∀ i, i < j → 0 ≤ wgF zs O i ∧ wgF zs O i ≤ 65536) := fun i hi => wgF_bound zs O (by rw [HOL.out]; exact hi)
            have HMn : Hid (0 ≤ msF zs O j ∧ msF zs O j ≤ 65536) := by have := msF_nonneg zs O (by rw [HOL.out]; exact hk1); rwa [HOL.out] at this
            obtain ⟨S0, S1, S2⟩ := hSb
            have S3 := S2 hk1
            have hS6 : Hid (Grw .i64 2 wr (wgF zs O) 0 wr.heap.size 0 (wr.alloc (.cells #[] 2))) := Grw.start _ (Kept.refl _ _)
            clear HA HX HZ HOlt HP HC3 S2 hpo hpb
            obtain ⟨w5, hw5⟩ : ∃ w5, w5 = wr := ⟨_, rfl⟩
            subst hw5
            generalize exS zs O j = S at *
            generalize hW6 : w5.alloc (.cells #[] 2) = W6 at *
            go_wp2
            clear hW6
            go_loopw [20, 21, 87] (fun wv mv iv wq => ∃ i g c : Nat, i ≤ j ∧ iv = zV i ∧ mv = zV (msF zs O i) ∧ wv = .slice (some ⟨g, 0, none⟩) i c ∧ Hid (Grw .i64 2 w5 (wgF zs O) i g c wq)) (fun _ _ iv _ => j - (RowKit.intOf iv).toNat)
            case atStart => exact ⟨0, _, _, Nat.zero_le _, rfl, rfl, rfl, hS6.out⟩
            case round =>
              obtain ⟨i, qg, qc, hi, rfl, rfl, rfl, HA⟩ := hrel
              clear hS6
              by_cases hlt2 : i < j
              · have hlt2' : (i : Int) < (j : Int) := by omega
                have g1 := HPw.out wr HA.out.2 i hlt2
                have hwg := HSb.out i hlt2
                obtain ⟨e0, e1⟩ := exF_bound zs O i
                obtain ⟨y0, y1⟩ := HG.out i hlt2
                obtain ⟨m0, m1⟩ := HM.out i hi
                have hdv : (65536 * exF zs O i).tdiv S = wgF zs O i := by rw [hwg, Int.mul_comm]; exact Int.tdiv_eq_ediv_of_nonneg (by omega)
                have hS0 : ¬ S = 0 := by omega
                have HMs : Hid (msF zs O (i + 1) = msF zs O i - wgF zs O i) := rfl
                obtain ⟨g', c', X', hr1, hGr⟩ := HA.out.push ty64 (by simp [kb]; omega)
                have HGr : Hid _ := hGr
                have g2 : X'.cell? ⟨pg, i, none⟩ = some (zV (exF zs O i)) := HPw.out X' hGr.2 i hlt2
                clear HA HSb HG HM hwg hGr HPw
                generalize exF zs O i = e at *
                generalize wgF zs O i = y at *
                generalize msF zs O i = q at *
                go_wp2_with (at_builtin; refine Lib.wpList_append_run _ rfl _ _ _ _ rfl _ _ rfl rfl _ _ hr1 ?_)
                go_roundw
                case rel => exact ⟨i + 1, g', c', hlt2, by go_num, by rw [HMs.out], rfl, HGr.out⟩
                case measure => simp [RowKit.intOf]; omega
              · obtain rfl : i = j := by omega
                obtain ⟨ho9, hF9⟩ := HA.out
                have hb9 := own_block ho9
                have g1 := own_get ho9 0 (by omega)
                rw [mkL_get (by omega)] at g1
                have f1 := own_frozen ho9 0
                obtain ⟨y0, y1⟩ := HG.out 0 (by omega)
                obtain ⟨m0, m1⟩ := HMn.out
                have hi0 : (0 : Int) < (i : Int) := by omega
                have hi0n : 0 < i := by omega
                have HX : Hid (Chosen ws h s (i : Int) w (.returned (.tuple #[.slice (some ⟨g3, 0, none⟩) i c3, .slice (some ⟨qg, 0, none⟩) i qc, zV 0])) (wr.setCell ⟨qg, 0, none⟩ (zV (wgF zs O 0 + msF zs O i)))) := by
                  have hsz3 := HF3.out
                  have hsz5 := HF5.out.size
                  have hF10 : Fresh w5 (wr.setCell ⟨qg, 0, none⟩ (zV (wgF zs O 0 + msF zs O i))) := hF9.setCell (fun e => by simp only at e; omega) _
                  have hF11 : Fresh w3 (wr.setCell ⟨qg, 0, none⟩ (zV (wgF zs O 0 + msF zs O i))) := HF5.out.trans hF10 (fun _ _ e => e)
                  have ho10 := own_setB (i := 0) (x := zV (wgF zs O 0 + msF zs O i)) ho9
                  rw [← List.map_set, mkL_set] at ho10
                  have hwl : mkL i (fun t => if t = 0 then wgF zs O 0 + msF zs O i else wgF zs O t) = wtL zs O := by
                    unfold wtL
                    rw [HOL.out]
                    exact List.map_congr_left (fun t _ => by
                      unfold wtF
                      rw [HOL.out])
                  rw [hwl] at ho10
                  have hml : (wtL zs O).length = i := by unfold wtL; rw [mkL_len]; exact HOL.out
                  have hbz : ∀ z ∈ wtL zs O, Fit .i64 z := fun z hz => by
                    obtain ⟨t, ht, rfl⟩ := mkL_mem hz
                    have h1 := HG.out t (by rw [HOL.out] at ht; exact ht)
                    show I64 (wtF zs O t)
                    unfold wtF I64
                    rw [HOL.out]
                    split <;> omega
                  refine ⟨HF3.out.1.trans hF11 (fun _ _ e => e), .inr ⟨HE.out, o, _, _, ?_, rfl, ?_, ?_⟩⟩
                  · rw [HZS.out, HNZ.out]
                    exact HOo.out.1
                  · rw [Int.toNat_natCast, show upI (o.take i) = (upI o).take i by simp [upI]]
                    have hrp := HRP.out _ hF11
                    have hoL : (upI o).length = nz := by rw [upI_length]; exact HOo.out.1.length
                    have hrk : Rk .i64 (fun x => w2.heap.size ≤ x ∧ x < (wr.setCell ⟨qg, 0, none⟩ (zV (wgF zs O 0 + msF zs O i))).heap.size) (wr.setCell ⟨qg, 0, none⟩ (zV (wgF zs O 0 + msF zs O i))) (.slice (some ⟨g3, 0, none⟩) nz c3) (upI o) := rk_of_own (zs := upI o) hrp (by rw [hoL]; simp [kb]; omega) (fun z hz => by
                      obtain ⟨t, ht, rfl⟩ := List.mem_map.1 hz
                      have := HOo.out.1.lt ht
                      exact ⟨by omega, by omega⟩)
                    exact (hrk.pre i hk2).mono (fun b hb => ⟨by omega, hb.2⟩)
                  · rw [HZS.out, Int.toNat_natCast, HOO.out]
                    have h9 : (wr.setCell ⟨qg, 0, none⟩ (zV (wgF zs O 0 + msF zs O i))).ownsRow w5.heap.size 2 1 (.slice (some ⟨qg, 0, none⟩) i qc) (wtL zs O).length ((wtL zs O).map (Value.int .i64)) := by rw [hml]; exact ho10
                    exact (rk_of_own h9 (by rw [hml]; simp [kb]; omega) hbz).mono (fun b hb => ⟨by omega, hb.2⟩)
                clear HA HSb HG HM HPw HMn HRP ho9 hF9 hb9
                generalize wgF zs O 0 = y at *
                generalize msF zs O i = q at *
                go_wp2
                go_ret3
                exact HX.out
    · have h1' : (ES == 0) = false := by simp [h1]
      have HX : Hid _ := HNo.out ES w2 (by rw [choE_bad (by rw [HE3.out]; exact h1), HE3.out]) h1 hF2'
      clear hr2 hF2 hF2' HNo HE1 HE3
      go_wp2
      go_ret3
      exact HX.out
  · have h0' : (ET == 0) = false := by simp [h0]
    have HX : Hid _ := HNo.out ET w1 (HE1.out h0) h0 hF1
    clear hr1 hF1 HNo HE1 HE2
    go_wp2
    go_ret3
    exact HX.out
end Go.Proofs.YtbppahmcjifflaaDoor
