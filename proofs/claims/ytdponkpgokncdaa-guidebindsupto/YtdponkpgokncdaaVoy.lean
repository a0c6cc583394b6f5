/-
  The document's: is a merge right.
-/
import Derived.Test.YtdponkpgokncdaaVox
import Derived.Test.YtdponkpgokncdaaRgo
namespace Go.Proofs.Ytdponkpgokncdaa
open Go.RowKit Go.Lib Go.Maps

set_option maxHeartbeats 2000000 in
set_option maxRecDepth 100000 in
theorem merge_any {p : Nat → Prop} (w : World) (tv mv : Value) (T : List (List UInt8)) (M : List Mg) (i : Nat) (hi : i < M.length) (hT : TxR p w tv T) (hM : MgR p w mv M) (h64 : ∀ i, i < T.length → (gT T i).length ≤ 64) (hMl : M.length ≤ 1048576) :
    Calls Try.prog 41 #[.agg #[tv, mv], zV i] w fun e w' => e = .returned (.bool (!bdM T M i)) ∧ Fresh w w' := by
  have HTk : Hid (∀ W z, Fresh w W → Calls Try.prog 50 #[.agg #[tv, mv], zV z] W fun e w' => e = .returned (.bool (tkB T.length z)) ∧ Fresh W w') := fun W z hk => by
    obtain ⟨ma, mc, e⟩ := hM.shape
    exact token_any W tv mv T z (hT.fresh hk) ma _ mc e
  have H64 := show Hid _ from h64
  have HT : Hid (∀ W, Fresh w W → TxR p W tv T) := fun W hk => hT.fresh hk
  have HM : Hid (∀ W, Fresh w W → MgR p W mv M) := fun W hk => hM.fresh hk
  obtain ⟨ta, tc, rfl⟩ := hT.shape
  obtain ⟨ma, mc, rfl⟩ := hM.shape
  have HBd : Hid (bdM T M i = ((List.range i).any (fun j => decide ((gM M j).l = (gM M i).l ∧ (gM M j).r = (gM M i).r)) || !fiB T (gM M i))) := rfl
  have HFi : Hid (fiB T (gM M i) = (tkB T.length (gM M i).l && tkB T.length (gM M i).r && tkB T.length (gM M i).o && (gT T (gM M i).o.toNat == gT T (gM M i).l.toNat ++ gT T (gM M i).r.toNat))) := rfl
  have h16 := hT.len16
  clear hT hM h64
  generalize hbdm : bdM T M i = bd at *
  clear hbdm
  generalize htt : T.length = tl at *
  generalize hmm : M.length = ml at *
  have hF1 : Fresh w (w.alloc (.cells #[.slice ta tl tc, .slice ma ml mc] 55)) := (Kept.refl _ w).alloc _
  have hb1 : (w.alloc (.cells #[.slice ta tl tc, .slice ma ml mc] 55)).cell? ⟨w.heap.size, 1, none⟩ = some (.slice ma ml mc) := by rw [World.cell?_alloc_new]; rfl
  have hb0 : (w.alloc (.cells #[.slice ta tl tc, .slice ma ml mc] 55)).cell? ⟨w.heap.size, 0, none⟩ = some (.slice ta tl tc) := by rw [World.cell?_alloc_new]; rfl
  have hs1 : w.heap.size < (w.alloc (.cells #[.slice ta tl tc, .slice ma ml mc] 55)).heap.size := by rw [World.size_alloc]; omega
  generalize hW1 : w.alloc (.cells #[.slice ta tl tc, .slice ma ml mc] 55) = W1 at *
  obtain ⟨ao, cap, hmv, _, _, hm64, hmc⟩ := HM.out W1 hF1
  injection hmv with e1 e2 e3
  subst e1 e3
  clear e2
  obtain ⟨b, off, rfl, _, hbX, hcells⟩ := hmc (by omega)
  obtain ⟨m0, m1, m2⟩ := hcells i (by omega)
  have HMc : Hid (∀ W, Fresh W1 W → ∀ k, k < ml → W.cell? ⟨b, off + k * 3, none⟩ = some (zV (gM M k).l) ∧ W.cell? ⟨b, off + k * 3 + 1, none⟩ = some (zV (gM M k).r)) := fun W hk k hk2 => by
    obtain ⟨x0, x1, _⟩ := hcells k (by omega)
    exact ⟨(hk.cell (p := ⟨b, off + k * 3, none⟩) hbX (fun e => e)).trans x0, (hk.cell (p := ⟨b, off + k * 3 + 1, none⟩) hbX (fun e => e)).trans x1⟩
  clear hmc hcells hm64
  generalize hml : (gM M i).l = xl at *
  generalize hmr : (gM M i).r = xr at *
  generalize hmo : (gM M i).o = xo at *
  clear hml hmr hmo
  have hF2 : Fresh W1 (W1.alloc (.cells #[.int .i64 xl, .int .i64 xr, .int .i64 xo] 83)) := (Kept.refl _ W1).alloc _
  have hs2 : W1.heap.size < (W1.alloc (.cells #[.int .i64 xl, .int .i64 xr, .int .i64 xo] 83)).heap.size := by rw [World.size_alloc]; omega
  have HK : Hid (∀ W, Fresh (W1.alloc (.cells #[.int .i64 xl, .int .i64 xr, .int .i64 xo] 83)) W → W.cell? ⟨w.heap.size, 0, none⟩ = some (.slice ta tl tc) ∧ W.cell? ⟨w.heap.size, 1, none⟩ = some (.slice (some ⟨b, off, none⟩) ml mc) ∧ W.cell? ⟨W1.heap.size, 0, none⟩ = some (.int .i64 xl) ∧ W.cell? ⟨W1.heap.size, 1, none⟩ = some (.int .i64 xr) ∧ W.cell? ⟨W1.heap.size, 2, none⟩ = some (.int .i64 xo) ∧ Fresh W1 W ∧ Fresh w W) := fun W hk => by
    have hk1 : Fresh W1 W := hF2.trans hk (fun _ _ e => e)
    refine ⟨(hk1.cell (p := ⟨w.heap.size, 0, none⟩) hs1 (fun e => e)).trans hb0, (hk1.cell (p := ⟨w.heap.size, 1, none⟩) hs1 (fun e => e)).trans hb1, ?_, ?_, ?_, hk1, hF1.trans hk1 (fun _ _ e => e)⟩
    · exact (hk.cell (p := ⟨W1.heap.size, 0, none⟩) hs2 (fun e => e)).trans (by rw [World.cell?_alloc_new]; rfl)
    · exact (hk.cell (p := ⟨W1.heap.size, 1, none⟩) hs2 (fun e => e)).trans (by rw [World.cell?_alloc_new]; rfl)
    · exact (hk.cell (p := ⟨W1.heap.size, 2, none⟩) hs2 (fun e => e)).trans (by rw [World.cell?_alloc_new]; rfl)
  have HF1 : Hid (Fresh w W1) := hF1
  generalize hW2 : W1.alloc (.cells #[.int .i64 xl, .int .i64 xr, .int .i64 xo] 83) = W2 at *
  generalize hz1 : W1.heap.size = z1 at *
  obtain ⟨k0, k1, k2, k3, k4, k5, k6⟩ := HK.out W2 (Kept.refl _ _)
  have HF26 : Hid (Fresh w W2) := k6
  have HT0 := show Hid _ from (fun (d : Nw W2) => HTk.out d.w xl (HF26.out.trans d.f (fun _ _ e => e)))
  have HT1 := show Hid _ from (fun (d : Nw W2) => HTk.out d.w xr (HF26.out.trans d.f (fun _ _ e => e)))
  have HT2 := show Hid _ from (fun (d : Nw W2) => HTk.out d.w xo (HF26.out.trans d.f (fun _ _ e => e)))
  clear HTk hF2 hF1 hs1 hs2 k5 k6 HM hbX
  go_enter Try.func41, Try.ntmps41
  go_wp2_with fail
  clear hW2 hW1 k0 k1 k2 k3 k4
  have u0 : ∀ d : Nw W2, d.w.cell? ⟨w.heap.size, 0, none⟩ = some (.slice ta tl tc) := fun d => (HK.out d.w d.f).1
  have u1 : ∀ d : Nw W2, d.w.cell? ⟨w.heap.size, 1, none⟩ = some (.slice (some ⟨b, off, none⟩) ml mc) := fun d => (HK.out d.w d.f).2.1
  have u2 : ∀ d : Nw W2, d.w.cell? ⟨z1, 0, none⟩ = some (.int .i64 xl) := fun d => (HK.out d.w d.f).2.2.1
  have u3 : ∀ d : Nw W2, d.w.cell? ⟨z1, 1, none⟩ = some (.int .i64 xr) := fun d => (HK.out d.w d.f).2.2.2.1
  have u4 : ∀ d : Nw W2, d.w.cell? ⟨z1, 2, none⟩ = some (.int .i64 xo) := fun d => (HK.out d.w d.f).2.2.2.2.1
  by_cases c0 : tkB tl xl = true
  · rw [c0] at HT0 HFi
    by_cases c1 : tkB tl xr = true
    · rw [c1] at HT1 HFi
      by_cases c2 : tkB tl xo = true
      · rw [c2] at HT2 HFi
        have q0 := c0
        have q1 := c1
        have q2 := c2
        unfold tkB at q0 q1 q2
        simp only [Bool.and_eq_true, decide_eq_true_eq] at q0 q1 q2
        obtain ⟨nl, rfl⟩ : ∃ n : Nat, xl = (n : Int) := ⟨xl.toNat, by omega⟩
        obtain ⟨nr, rfl⟩ : ∃ n : Nat, xr = (n : Int) := ⟨xr.toNat, by omega⟩
        obtain ⟨no, rfl⟩ : ∃ n : Nat, xo = (n : Int) := ⟨xo.toNat, by omega⟩
        rw [Int.toNat_natCast, Int.toNat_natCast, Int.toNat_natCast] at HFi
        have n0 : nl < tl := by omega
        have n1 : nr < tl := by omega
        have n2 : no < tl := by omega
        obtain ⟨b2, off2, rfl, _, hb2, hcell⟩ := (HT.out W2 HF26.out).cells.2.2 (by omega)
        have HS : Hid (∀ W, Fresh W2 W → W.cell? ⟨b2, off2 + nl, none⟩ = some (.string (ByteArray.mk (gT T nl).toArray)) ∧ W.cell? ⟨b2, off2 + nr, none⟩ = some (.string (ByteArray.mk (gT T nr).toArray)) ∧ W.cell? ⟨b2, off2 + no, none⟩ = some (.string (ByteArray.mk (gT T no).toArray))) := fun W hk => ⟨(hk.cell (p := ⟨b2, off2 + nl, none⟩) hb2 (fun e => e)).trans (hcell nl n0), (hk.cell (p := ⟨b2, off2 + nr, none⟩) hb2 (fun e => e)).trans (hcell nr n1), (hk.cell (p := ⟨b2, off2 + no, none⟩) hb2 (fun e => e)).trans (hcell no n2)⟩
        have l0 := H64.out nl n0
        have l1 := H64.out nr n1
        rw [← bA_size] at l0 l1
        have HEq : Hid (((ByteArray.mk (gT T no).toArray).toList == (ByteArray.mk (gT T nl).toArray ++ ByteArray.mk (gT T nr).toArray).toList) = (gT T no == gT T nl ++ gT T nr)) := by
          show _ = _
          rw [bA_app, ByteArray.toList_eq, ByteArray.toList_eq]
        rw [← HEq.out] at HFi
        obtain ⟨t0, t1, t2⟩ := HS.out W2 (Kept.refl _ _)
        clear HEq hcell H64 c0 c1 c2 q0 q1 q2
        have v0 := fun (d : Nw W2) => (HS.out d.w d.f).1
        have v1 := fun (d : Nw W2) => (HS.out d.w d.f).2.1
        have v2 := fun (d : Nw W2) => (HS.out d.w d.f).2.2
        clear t0 t1 t2 HS
        generalize ByteArray.mk (gT T nl).toArray = sa at *
        generalize ByteArray.mk (gT T nr).toArray = sb at *
        generalize ByteArray.mk (gT T no).toArray = sc at *
        generalize hEE : (sc.toList == (sa ++ sb).toList) = EE at *
        cases EE with
        | false =>
          have hbd : bd = true := by rw [HBd.out, HFi.out]; simp
          clear HBd HFi HMc
          subst hbd
          haveI : ∀ W : World, Nonempty (Nw W) := nw_some
          refine wp_region_new (by kernel_rfl) (by kernel_rfl) ?_
          repeat (go_big_quiet_step ((first | (with_reducible exact Calls.new_of (HT0.out _)) | (with_reducible exact Calls.new_of (HT1.out _)) | (with_reducible exact Calls.new_of (HT2.out _)))))
          refine wpQuiet_nil ?_
          intro _ hw'
          obtain ⟨dq, hw''⟩ := hw'
          subst hw''
          go_wp2
          go_ret
          exact ⟨rfl, HF26.out.trans dq.f (fun _ _ e => e)⟩
        | true =>
          have HBd2 : Hid (bd = (List.range i).any (fun j => decide ((gM M j).l = (nl : Int) ∧ (gM M j).r = (nr : Int)))) := by
            show _ = _
            rw [HBd.out, HFi.out]
            simp
          clear HBd HFi
          haveI : ∀ W : World, Nonempty (Nw W) := nw_some
          refine wp_region_new (by kernel_rfl) (by kernel_rfl) ?_
          repeat (go_big_quiet_step ((first | (with_reducible exact Calls.new_of (HT0.out _)) | (with_reducible exact Calls.new_of (HT1.out _)) | (with_reducible exact Calls.new_of (HT2.out _)))))
          refine wpQuiet_nil ?_
          intro _ hw'
          obtain ⟨dq, hw''⟩ := hw'
          subst hw''
          go_wp2_with fail
          have x1 := u1 dq
          have x2 := u2 dq
          have x3 := u3 dq
          have HD : Hid (Fresh W2 dq.w) := dq.f
          have HCk : Hid (∀ k, k < ml → dq.w.cell? ⟨b, off + k * 3, none⟩ = some (zV (gM M k).l) ∧ dq.w.cell? ⟨b, off + k * 3 + 1, none⟩ = some (zV (gM M k).r)) := fun k hk => HMc.out dq.w (HK.out dq.w dq.f).2.2.2.2.2.1 k hk
          clear u0 u1 u2 u3 u4 v0 v1 v2 HT0 HT1 HT2 HK HMc HT
          generalize dq.w = W3 at *
          go_loopw [6] (fun kv wr => ∃ k d : Nat, k ≤ i ∧ kv = zV k ∧ wr = W3.drewN d ∧ Hid (∀ q, q < k → ¬ ((gM M q).l = (nl : Int) ∧ (gM M q).r = (nr : Int)))) (fun kv _ => i - (RowKit.intOf kv).toNat)
          case atStart => exact ⟨0, 0, Nat.zero_le _, rfl, rfl, fun q hq => absurd hq (Nat.not_lt_zero _)⟩
          case round =>
            obtain ⟨k, d, hk, rfl, rfl, HQ⟩ := hrel
            by_cases hlt : k < i
            · have hlt' : (k : Int) < (i : Int) := by omega
              have hk2 : k < ml := by omega
              obtain ⟨g0, g1⟩ := HCk.out k hk2
              by_cases e0 : (gM M k).l = (nl : Int)
              · have d0 : ((gM M k).l == (nl : Int)) = true := by simpa using e0
                by_cases e1 : (gM M k).r = (nr : Int)
                · have d1 : ((gM M k).r == (nr : Int)) = true := by simpa using e1
                  have hbd : bd = true := by
                    rw [HBd2.out]
                    exact List.any_eq_true.2 ⟨k, List.mem_range.2 hlt, decide_eq_true ⟨e0, e1⟩⟩
                  clear HBd2 HQ HCk e0 e1
                  subst hbd
                  generalize (gM M k).l = y0 at *
                  generalize (gM M k).r = y1 at *
                  go_wp2_with fail
                  go_quiet (fail)
                  go_wp2
                  go_ret
                  exact ⟨rfl, (HF26.out.trans HD.out (fun _ _ e => e)).drewN _ |>.drewN _⟩
                · have d1 : ((gM M k).r == (nr : Int)) = false := by simpa using e1
                  have HQ2 : Hid (∀ q, q < k + 1 → ¬ ((gM M q).l = (nl : Int) ∧ (gM M q).r = (nr : Int))) := fun q hq => by
                    by_cases e : q = k
                    · rw [e]; exact fun h => e1 h.2
                    · exact HQ.out q (by omega)
                  clear HBd2 HQ HCk e0 e1
                  generalize (gM M k).l = y0 at *
                  generalize (gM M k).r = y1 at *
                  go_wp2_with fail
                  go_quiet (fail)
                  go_wp2
                  go_roundw
                  case rel => exact ⟨k + 1, _, hlt, by go_num, rfl, HQ2.out⟩
                  case measure => simp [RowKit.intOf]; omega
              · have d0 : ((gM M k).l == (nl : Int)) = false := by simpa using e0
                have HQ2 : Hid (∀ q, q < k + 1 → ¬ ((gM M q).l = (nl : Int) ∧ (gM M q).r = (nr : Int))) := fun q hq => by
                  by_cases e : q = k
                  · rw [e]; exact fun h => e0 h.1
                  · exact HQ.out q (by omega)
                clear HBd2 HQ HCk e0
                generalize (gM M k).l = y0 at *
                generalize (gM M k).r = y1 at *
                go_wp2_with fail
                go_quiet (fail)
                go_wp2
                go_roundw
                case rel => exact ⟨k + 1, _, hlt, by go_num, rfl, HQ2.out⟩
                case measure => simp [RowKit.intOf]; omega
            · obtain rfl : k = i := by omega
              have hbd : bd = false := by
                rw [HBd2.out, List.any_eq_false]
                intro q hq
                simpa using HQ.out q (List.mem_range.1 hq)
              clear HBd2 HQ HCk
              subst hbd
              go_wp2
              go_ret
              exact ⟨rfl, (HF26.out.trans HD.out (fun _ _ e => e)).drewN _⟩
      · have c2' : tkB tl xo = false := by simpa using c2
        rw [c2'] at HT2 HFi
        have hbd : bd = true := by rw [HBd.out, HFi.out]; simp
        clear HBd HFi H64 HMc
        subst hbd
        haveI : ∀ W : World, Nonempty (Nw W) := nw_some
        refine wp_region_new (by kernel_rfl) (by kernel_rfl) ?_
        repeat (go_big_quiet_step ((first | (with_reducible exact Calls.new_of (HT0.out _)) | (with_reducible exact Calls.new_of (HT1.out _)) | (with_reducible exact Calls.new_of (HT2.out _)))))
        refine wpQuiet_nil ?_
        intro _ hw'
        obtain ⟨dq, hw''⟩ := hw'
        subst hw''
        go_wp2
        go_ret
        exact ⟨rfl, HF26.out.trans dq.f (fun _ _ e => e)⟩
    · have c1' : tkB tl xr = false := by simpa using c1
      rw [c1'] at HT1 HFi
      have hbd : bd = true := by rw [HBd.out, HFi.out]; simp
      clear HBd HFi H64 HMc
      subst hbd
      haveI : ∀ W : World, Nonempty (Nw W) := nw_some
      refine wp_region_new (by kernel_rfl) (by kernel_rfl) ?_
      repeat (go_big_quiet_step ((first | (with_reducible exact Calls.new_of (HT0.out _)) | (with_reducible exact Calls.new_of (HT1.out _)))))
      refine wpQuiet_nil ?_
      intro _ hw'
      obtain ⟨dq, hw''⟩ := hw'
      subst hw''
      go_wp2
      go_ret
      exact ⟨rfl, HF26.out.trans dq.f (fun _ _ e => e)⟩
  · have c0' : tkB tl xl = false := by simpa using c0
    rw [c0'] at HT0 HFi
    have hbd : bd = true := by rw [HBd.out, HFi.out]; simp
    clear HBd HFi H64 HMc
    subst hbd
    haveI : ∀ W : World, Nonempty (Nw W) := nw_some
    refine wp_region_new (by kernel_rfl) (by kernel_rfl) ?_
    repeat (go_big_quiet_step ((first | (with_reducible exact Calls.new_of (HT0.out _)))))
    refine wpQuiet_nil ?_
    intro _ hw'
    obtain ⟨dq, hw''⟩ := hw'
    subst hw''
    go_wp2
    go_ret
    exact ⟨rfl, HF26.out.trans dq.f (fun _ _ e => e)⟩
end Go.Proofs.Ytdponkpgokncdaa
