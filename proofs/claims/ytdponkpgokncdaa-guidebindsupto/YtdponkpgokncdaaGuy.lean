/-
  The document's Walk and Accepts.
-/
import Derived.Test.YtdponkpgokncdaaGux
import Derived.BigQuiet
namespace Go.Proofs.Ytdponkpgokncdaa
open Go.RowKit Go.Lib Go.Maps

theorem wk_loop {A : List Bool} {E : List Ed} (h : A.length = 0) : ∀ l : List UInt8, wkF (mF A E) 0 l = 0
  | [] => rfl
  | b :: r => by
    show (if (0 : Int) = -1 then -1 else wkF (mF A E) (mF A E (0 : Int).toNat b.toNat) r) = 0
    rw [if_neg (by decide), (mF_empty (E := E) h).2]
    have hb : b.toNat < 256 := b.toNat_lt
    have h1 : lyF (fun _ _ => -1) e0 (0 : Int).toNat b.toNat = 0 := by
      unfold lyF
      rw [if_pos (covB_iff.2 ⟨rfl, Nat.zero_le _, by show b.toNat ≤ 255; omega⟩)]
      rfl
    rw [h1, ← (mF_empty (E := E) h).2]
    exact wk_loop h r
theorem wl_empty {A : List Bool} {E : List Ed} (h : A.length = 0) (h0 : chE A E = 0) (s : Int) (l : List UInt8) : wlF A E s l = if s = 0 then 0 else -1 := by
  unfold wlF
  rw [(mF_empty (E := E) h).1]
  by_cases e : s = 0
  · subst e
    rw [if_pos ⟨h0, Int.le_refl _, by decide⟩, if_pos rfl, wk_loop h]
  · rw [if_neg (fun e2 => e (by have h3 : s < ((1 : Nat) : Int) := e2.2.2; omega)), if_neg e]
set_option maxHeartbeats 1000000 in
set_option maxRecDepth 100000 in
theorem rwalk_any {p q : Nat → Prop} (A : List Bool) (E : List Ed) (an en : Value) (w : World) (hA : RbL p w an A) (hE : EdR q w en E) (s : Int) (t : ByteArray) (ht : t.size ≤ 9223372036854775000) :
    Calls Try.prog 17 #[.agg #[an, en], zV s, .string t] w fun e w' => e = .returned (zV (wlF A E s t.data.toList)) ∧ Fresh w w' := by
  have hF1 : Fresh w (w.alloc (.cells #[an, en] 28)) := (Kept.refl _ w).alloc _
  have HC := show Hid _ from rcheck_any A E an en _ (hA.fresh hF1) (hE.fresh hF1)
  have HX : Hid (∀ X, Fresh (w.alloc (.cells #[an, en] 28)) X → Fresh w X ∧ EdR q X en E ∧ X.cell? ⟨w.heap.size, 0, none⟩ = some an ∧ X.cell? ⟨w.heap.size, 1, none⟩ = some en) := fun X hk => by
    have h1 := hk.at (heap_alloc_new w (.cells #[an, en] 28)) (fun e => e)
    have h2 := hF1.trans hk (fun _ _ e => e)
    exact ⟨h2, hE.fresh h2, by rw [Lib.cell_of_heap h1]; rfl, by rw [Lib.cell_of_heap h1]; rfl⟩
  obtain ⟨ao, ac, rfl⟩ := hA.shape
  obtain ⟨eo, ec, rfl⟩ := hE.shape
  have hk9 : E.length * 24 ≤ 140737488351232 := by obtain ⟨_, _, _, _, _, h, _⟩ := hE; exact h
  clear hA hE hF1
  have HZ1 : Hid (chE A E ≠ 0 → wlF A E s t.data.toList = -1) := fun h => if_neg (fun e => h e.1)
  have HZ2 : Hid (chE A E = 0 → A.length = 0 → (s = 0 → wlF A E s t.data.toList = 0) ∧ (s ≠ 0 → wlF A E s t.data.toList = -1)) := fun h h2 => by
    rw [wl_empty h2 h]
    exact ⟨fun e => if_pos e, fun e => if_neg e⟩
  have HZ3 : Hid (chE A E = 0 → 0 < A.length → (¬ (0 ≤ s ∧ s < (A.length : Int)) → wlF A E s t.data.toList = -1) ∧ (0 ≤ s ∧ s < (A.length : Int) → wlF A E s t.data.toList = wkF (stF E E.length) s t.data.toList ∧ ∀ a b, stF E E.length a b = -1 ∨ (0 ≤ stF E E.length a b ∧ stF E E.length a b < (A.length : Int)))) := fun h h2 => by
    obtain ⟨e1, e2⟩ := mF_some (E := E) h2
    unfold wlF
    rw [e1, e2]
    refine ⟨fun h3 => if_neg (fun e => h3 e.2), fun h3 => ⟨if_pos ⟨h, h3⟩, fun a b => ?_⟩⟩
    have := mF_range (chE_zero h).2.2.1 a b
    rw [e1, e2] at this
    exact this
  generalize wlF A E s t.data.toList = Z at *
  generalize chE A E = ce at *
  generalize chP A E = cp at *
  obtain ⟨n, hn⟩ : ∃ n, A.length = n := ⟨_, rfl⟩
  obtain ⟨k, hk⟩ : ∃ k, E.length = k := ⟨_, rfl⟩
  rw [hn] at HZ2 HZ3 HX HC
  rw [hk] at HZ3 HX HC hk9
  rw [hn, hk]
  have HK : Hid (E.length = k) := hk
  have hk8 : k ≤ 5864062014806 := by omega
  clear hn hk hk9
  go_enter Try.func17, Try.ntmps17
  go_wp2_with fail
  refine Calls.mono HC.out ?_
  generalize w.alloc (.cells #[.slice ao n ac, .slice eo k ec] 28) = W1 at *
  rintro e X ⟨rfl, hf⟩
  have HF : Hid (Fresh W1 X) := hf
  obtain ⟨hfw, _, x0, x1⟩ := HX.out X hf
  have HFw := show Hid _ from hfw
  clear hf HC hfw
  by_cases hc : ce = 0
  · subst hc
    rcases Nat.eq_zero_or_pos n with h0 | h0
    · have hz := HZ2.out rfl h0
      have HZs := show Hid _ from hz
      clear HZ1 HZ2 HZ3 hz
      subst h0
      by_cases hs : s = 0
      · have HZ : Hid (Z = 0) := HZs.out.1 hs
        subst hs
        clear HZs
        go_wp2
        go_ret
        exact ⟨by rw [HZ.out]; rfl, HFw.out⟩
      · have HZ : Hid (Z = -1) := HZs.out.2 hs
        have hs' : (s == 0) = false := beq_eq_false_iff_ne.2 hs
        clear HZs hs
        go_wp2
        go_ret
        exact ⟨by rw [HZ.out]; rfl, HFw.out⟩
    · have hn0 : ((n : Int) == 0) = false := beq_eq_false_iff_ne.2 (by omega)
      have hz := HZ3.out rfl h0
      have C0 := show Hid _ from rstate_any ao eo n ac k ec s X
      by_cases hs : 0 ≤ s ∧ s < (n : Int)
      · have d0 : (decide (0 ≤ s) && decide (s < (n : Int))) = true := by rw [decide_eq_true hs.1, decide_eq_true hs.2]; rfl
        rw [d0] at C0
        obtain ⟨hz1, hrg⟩ := hz.2 hs
        have HT : Hid (∀ i, wkF (stF E k) s (t.data.toList.take i) = -1 ∨ (0 ≤ wkF (stF E k) s (t.data.toList.take i) ∧ wkF (stF E k) s (t.data.toList.take i) < (n : Int))) := fun i => wkF_take hrg (.inr hs) i
        have HE1 : Hid (∀ i, wkF (stF E k) s (t.data.toList.take i) = -1 → Z = -1) := fun i e => hz1.trans (wkF_stop e)
        have HFZ : Hid (wkF (stF E k) s (t.data.toList.take t.size) = Z) := by
          show _ = _
          rw [List.take_of_length_le (by rw [← Lib.size_eq]; exact Nat.le_refl _)]
          exact hz1.symm
        have HN : Hid (∀ i (hi : i < t.size), wkF (stF E k) s (t.data.toList.take i) ≠ -1 → wkF (stF E k) s (t.data.toList.take (i + 1)) = stF E k (wkF (stF E k) s (t.data.toList.take i)).toNat (t[i]).toNat) := fun i hi e => wkF_next hi e
        have H0 : Hid (wkF (stF E k) s (t.data.toList.take 0) = s) := rfl
        have HRG := show Hid _ from hrg
        generalize hG : (fun i => wkF (stF E k) s (t.data.toList.take i)) = G
        have hG' : ∀ i, wkF (stF E k) s (t.data.toList.take i) = G i := fun i => by rw [← hG]
        simp only [hG'] at HT HE1 HFZ HN H0
        clear HZ1 HZ2 HZ3 hz hz1 hrg d0 hG hG'
        have HS0 : Hid (0 ≤ s ∧ s < (n : Int)) := hs
        clear hs
        go_wp2_with fail
        refine Calls.mono C0.out ?_
        rintro r X2 ⟨rfl, rfl⟩
        have hX2 : Fresh W1 (X.alloc (.cells #[.slice ao n ac, .slice eo k ec] 28)) := HF.out.alloc _
        generalize X.alloc (.cells #[.slice ao n ac, .slice eo k ec] 28) = X2 at *
        obtain ⟨_, _, x0, x1⟩ := HX.out X2 hX2
        have HX2 := show Hid _ from hX2
        clear hX2 C0 HF HFw
        go_wp2
        clear x0 x1
        go_loopw [1, 9] (fun sv iv wr => ∃ i : Nat, i ≤ t.size ∧ iv = zV i ∧ sv = zV (G i) ∧ Hid (Fresh W1 wr) ∧ Hid (G i ≠ -1)) (fun _ iv _ => t.size - (RowKit.intOf iv).toNat)
        case atStart => exact ⟨0, Nat.zero_le _, rfl, by show zV s = zV (G 0); rw [H0.out], HX2.out, by show G 0 ≠ -1; rw [H0.out]; have := HS0.out.1; omega⟩
        case round =>
          clear HX2 H0 HS0
          obtain ⟨i, hi, rfl, rfl, HF, HNE⟩ := hrel
          obtain ⟨hfw, _, x0, x1⟩ := HX.out wr HF.out
          by_cases hlt : i < t.size
          · have hlt' : (i : Int) < (t.size : Int) := by omega
            have hx := (HT.out i).resolve_left HNE.out
            have HN1 : Hid (G (i + 1) = stF E k (G i).toNat (t[i]).toNat) := HN.out i hlt HNE.out
            obtain ⟨x, hxe⟩ : ∃ x : Nat, G i = (x : Int) := ⟨(G i).toNat, by omega⟩
            rw [hxe, Int.toNat_natCast] at HN1
            rw [hxe]
            have HGI : Hid (G i = (x : Int)) := hxe
            clear hx hxe hfw HNE
            have hcb : (t[i]).toNat < 256 := (t[i]).toNat_lt
            go_wp2
            clear x0 x1
            go_loopw [10, 11] (fun tv jv wx => ∃ j : Nat, j ≤ k ∧ jv = zV j ∧ tv = zV (stF E j x (t[i]).toNat) ∧ Hid (Fresh W1 wx)) (fun _ jv _ => k - (RowKit.intOf jv).toNat)
            case atStart => exact ⟨0, Nat.zero_le _, rfl, rfl, HF.out⟩
            case round =>
              clear HF
              obtain ⟨j, hj, rfl, rfl, HF⟩ := hrel
              obtain ⟨hfw, hed, x0, x1⟩ := HX.out wr HF.out
              by_cases hlj : j < k
              · have hlj' : (j : Int) < (k : Int) := by omega
                obtain ⟨bb, off, rfl, _, _, hcells⟩ := hed.cells (by omega)
                obtain ⟨c0, c1, c2, c3⟩ := hcells j hlj
                have HST : Hid (stF E (j + 1) x (t[i]).toNat = if (decide ((gE E j).f = (x : Int)) && decide ((gE E j).lo ≤ (t[i]).toNat)) && decide ((t[i]).toNat ≤ (gE E j).hi) then (gE E j).t else stF E j x (t[i]).toNat) := rfl
                have HFn : Hid (∀ o, Fresh W1 (wr.alloc o)) := fun o => HF.out.alloc o
                clear hcells hfw hed HF
                generalize hto : stF E j x (t[i]).toNat = tz at *
                generalize htn : stF E (j + 1) x (t[i]).toNat = tn at *
                have HTN : Hid (stF E (j + 1) x (t[i]).toNat = tn) := htn
                clear hto htn
                generalize (gE E j).f = jf at *
                generalize (gE E j).lo = jl at *
                generalize (gE E j).hi = jh at *
                generalize (gE E j).t = jt at *
                by_cases q1 : jf = (x : Int)
                · subst q1
                  have dk : ((x : Int) == (x : Int)) = true := beq_self_eq_true _
                  have dz : decide ((x : Int) = (x : Int)) = true := decide_eq_true rfl
                  by_cases q2 : jl ≤ (t[i]).toNat
                  · have d2 : decide (jl ≤ (t[i]).toNat) = true := decide_eq_true q2
                    by_cases q3 : (t[i]).toNat ≤ jh
                    · have d3 : decide ((t[i]).toNat ≤ jh) = true := decide_eq_true q3
                      clear q2 q3
                      have HTT : Hid (stF E (j + 1) x (t[i]).toNat = jt) := HTN.out.trans (HST.out.trans (by rw [dz, d2, d3]; rfl))
                      clear HTN HST HRG HT HE1 HFZ HN HGI HN1
                      go_wp2
                      go_quiet (fail)
                      go_wp2
                      go_roundw
                      case rel => exact ⟨j + 1, hlj, by go_num, by rw [HTT.out], (HFn.out _).drewN nq⟩
                      case measure => simp [RowKit.intOf]; omega
                    · have d3 : decide ((t[i]).toNat ≤ jh) = false := decide_eq_false q3
                      clear q2 q3
                      have HTT : Hid (stF E (j + 1) x (t[i]).toNat = tz) := HTN.out.trans (HST.out.trans (by rw [dz, d2, d3]; rfl))
                      clear HTN HST HRG HT HE1 HFZ HN HGI HN1
                      go_wp2
                      go_quiet (fail)
                      go_wp2
                      go_roundw
                      case rel => exact ⟨j + 1, hlj, by go_num, by rw [HTT.out], (HFn.out _).drewN nq⟩
                      case measure => simp [RowKit.intOf]; omega
                  · have d2 : decide (jl ≤ (t[i]).toNat) = false := decide_eq_false q2
                    clear q2
                    have HTT : Hid (stF E (j + 1) x (t[i]).toNat = tz) := HTN.out.trans (HST.out.trans (by rw [dz, d2]; rfl))
                    clear HTN HST HRG HT HE1 HFZ HN HGI HN1
                    go_wp2
                    go_quiet (fail)
                    go_wp2
                    go_roundw
                    case rel => exact ⟨j + 1, hlj, by go_num, by rw [HTT.out], (HFn.out _).drewN nq⟩
                    case measure => simp [RowKit.intOf]; omega
                · have dk : (jf == (x : Int)) = false := beq_eq_false_iff_ne.2 q1
                  have dz : decide (jf = (x : Int)) = false := decide_eq_false q1
                  clear q1
                  have HTT : Hid (stF E (j + 1) x (t[i]).toNat = tz) := HTN.out.trans (HST.out.trans (by rw [dz]; rfl))
                  clear HTN HST HRG HT HE1 HFZ HN HGI HN1
                  go_wp2
                  go_quiet (fail)
                  go_wp2
                  go_roundw
                  case rel => exact ⟨j + 1, hlj, by go_num, by rw [HTT.out], (HFn.out _).drewN nq⟩
                  case measure => simp [RowKit.intOf]; omega
              · obtain rfl : j = k := by omega
                have hlj' : ¬ ((j : Int) < (j : Int)) := by omega
                rw [← HN1.out]
                have HFw := show Hid _ from hfw
                rcases HT.out (i + 1) with hd | ⟨hd, hd2⟩
                · have HZ : Hid (Z = -1) := HE1.out _ hd
                  rw [hd]
                  clear hd HT HE1 HN HN1 HFZ HRG x0 hfw hed
                  go_wp2
                  go_ret
                  exact ⟨by rw [HZ.out]; rfl, HFw.out⟩
                · have HNE2 : Hid (G (i + 1) ≠ -1) := by show _ ≠ _; omega
                  have hd' : ¬ (G (i + 1) < 0) := by omega
                  have hgy : ∃ y, y = G (i + 1) := ⟨_, rfl⟩
                  obtain ⟨y, hy⟩ := hgy
                  rw [← hy]
                  rw [← hy] at hd'
                  have HY : Hid (y = G (i + 1)) := hy
                  clear hd hd2 hy x0 hfw hed HFw HN1
                  go_wp2
                  go_roundw
                  case rel => exact ⟨i + 1, hlt, by go_num, by rw [HY.out], HF.out, HNE2.out⟩
                  case measure => simp [RowKit.intOf]; omega
          · obtain rfl : i = t.size := by omega
            have hlt' : ¬ ((t.size : Int) < (t.size : Int)) := by omega
            have HFw := show Hid _ from hfw
            rw [HFZ.out]
            clear HT HE1 HN HFZ HRG x0 x1 hfw
            go_wp2
            go_ret
            exact ⟨rfl, HFw.out⟩
      · have d0 : (decide (0 ≤ s) && decide (s < (n : Int))) = false := by
          by_cases e1 : 0 ≤ s
          · rw [decide_eq_true e1, decide_eq_false (fun e2 => hs ⟨e1, e2⟩)]; rfl
          · rw [decide_eq_false e1]; rfl
        rw [d0] at C0
        have HZ : Hid (Z = -1) := hz.1 hs
        clear HZ1 HZ2 HZ3 hz hs d0
        go_wp2_with fail
        refine Calls.mono C0.out ?_
        rintro r X2 ⟨rfl, rfl⟩
        have HFX : Hid (Fresh w (X.alloc (.cells #[.slice ao n ac, .slice eo k ec] 28))) := HFw.out.alloc _
        generalize X.alloc (.cells #[.slice ao n ac, .slice eo k ec] 28) = X2 at *
        clear C0 x0 x1
        go_wp2
        go_ret
        exact ⟨by rw [HZ.out]; rfl, HFX.out⟩
  · have HZ : Hid (Z = -1) := HZ1.out hc
    have hcc : ((ce : Int) != 0) = true := bne_iff_ne.2 (by omega)
    clear HZ1 HZ2 HZ3 hc
    go_wp2
    go_ret
    exact ⟨by rw [HZ.out]; rfl, HFw.out⟩
end Go.Proofs.Ytdponkpgokncdaa
