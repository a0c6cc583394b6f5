/-
  For every list of texts the statement QueueSorts answers true: the walk, of many texts, upwards.
-/
import Derived.Test.YtonpdnpfekmapaaQSorta
namespace Go.Proofs.Ytonpdnpfekmapaa.SI
open Go.RowKit Go.Lib Go.Maps

set_option maxHeartbeats 4000000 in
set_option maxRecDepth 100000 in
theorem sorts_long (v : Value) (ks : List ByteArray) (w : World) (hs : SkAt w v ks) (hn : 65536 < ks.length) :
    Calls Try.prog 5 #[v, .bool false] w fun e w' => e = .returned (.bool true) ∧ Fresh w w' := by
  have hs' := hs
  obtain ⟨ao, cap, hv, hl1, hl2, hrest⟩ := hs
  subst hv
  have hK' := hs'.take (n := 65536) (by omega)
  have hKl : (ks.take 65536).length = 65536 := by rw [List.length_take]; omega
  generalize ks.take 65536 = K at *
  have HK : Hid (SkAt w (.slice ao 65536 cap) K) := hK'
  have HN : Hid (65536 = K.length) := hKl.symm
  have HNw : Hid (Unit → _) := fun (_ : Unit) => new_any 65536 w
  simp only [show (1 : Int) ≤ 65536 ∧ (65536 : Int) ≤ 65536 from by omega, if_true, and_self] at HNw
  have HA : Hid (∀ W, _) := fun W => awake_any W
  clear hs' hK' hrest
  generalize ks.length = nl at *
  have hb1 : (65536 : Int) ≤ (cap : Int) := by omega
  have hb2 : decide (65536 < (nl : Int)) = true := by rw [decide_eq_true_eq]; omega
  clear hKl
  go_enter Try.func5, Try.ntmps5
  go_wp2_with fail
  refine (HNw.out ()).mono ?_
  rintro e w1 ⟨F0, qb, rfl, q1, q2, q3⟩
  have HAw : Hid (Unit → _) := fun (_ : Unit) => HA.out w1
  have HQ1 : Hid (QAt w1 F0 qb 65536 [] 0 0 ∧ Fresh w w1 ∧ ∀ k, F0 k → w.heap.size ≤ k) := ⟨q1, q2, q3⟩
  clear HNw HA q1 q2 q3
  go_wp2_with fail
  refine (HAw.out ()).mono ?_
  rintro e w2 ⟨rfl, hF2⟩
  have HS0 : Hid (Fill w w2 F0 qb K [] 0) := ⟨⟨HQ1.out.1.fresh hF2, HQ1.out.2.2, HQ1.out.2.1.trans hF2 (fun _ _ e => e)⟩, rfl, fun x hx => by simp at hx, fun i hi => by omega⟩
  clear HAw HQ1 hF2
  go_wp2_with fail
  obtain ⟨n, hn0⟩ : ∃ n : Nat, n = 65536 := ⟨_, rfl⟩
  rw [show Value.slice ao 65536 cap = Value.slice ao n cap from by rw [hn0], show Value.int IntKind.i64 65536 = Value.int .i64 ((n : Nat) : Int) from by rw [hn0]; rfl]
  have HNo := HN.out
  clear HN
  have HN : Hid (n = K.length) := hn0.trans HNo
  rw [show Value.slice ao 65536 cap = Value.slice ao K.length cap from by rw [← HNo]] at HK
  have hn2 : n ≤ cap := by omega
  clear hn
  have hn : n ≤ 65536 := by omega
  clear hn0 HNo hb1 hb2 hl1 hl2
  go_loopw [43] (fun i wr => ∃ j : Nat, j ≤ n ∧ i = .int .i64 (j : Int) ∧ ∃ F L, Hid (Fill w wr F qb K L j)) (fun i _ => n - (RowKit.intOf i).toNat)
  case atStart => exact ⟨0, Nat.zero_le _, rfl, F0, [], HS0⟩
  case round =>
    obtain ⟨j, hj, rfl, F, L, HFl⟩ := hrel
    clear HS0
    by_cases hlt : j < n
    · have hjK : j < K.length := by rw [← HN.out]; exact hlt
      obtain ⟨sb, off, cp, hv, c0⟩ := HK.out.at HFl.out.st.fr hjK
      cases hv
      have HP : Hid (Unit → _) := fun (_ : Unit) => put_room F qb 65536 L j j K[j] (j : Int) wr HFl.out.st.q (by have := HFl.out.len; omega) (by omega) (by omega) (by omega)
      have HX : Hid (∀ w', PutQ wr F qb 65536 L j j K[j] (j : Int) w' → ∃ F' L', Fill w w' F' qb K L' (j + 1)) := fun w' hp => HFl.out.next hjK hp
      clear HFl
      generalize K[j] = kj at *
      go_wp2_with fail
      refine (HP.out ()).mono ?_
      rintro e W2 ⟨rfl, hp⟩
      obtain ⟨F2, L2, hF2⟩ := HX.out W2 hp
      have HF2 := show Hid _ from hF2
      clear HP HX hp hF2 c0
      go_wp2
      go_roundw
      case rel => exact ⟨j + 1, by omega, by go_num, F2, L2, HF2⟩
      case measure => simp [RowKit.intOf]; omega
    · obtain rfl : j = n := by omega
      obtain ⟨i0, hi, hz0, hz1, hz2⟩ := info_parts Try.infoB
      go_wp2_with (at_make; refine wpList_make_full _ rfl _ _ _ rfl 0 4 i0 _ 1 Try.underlying45 hi hz0 hz1 _ _ _ _ j rfl rfl rfl rfl (by rw [hz2]; omega) (by unfold maxLen; omega) (by omega) ?_; intro w3 hown3 hgrow3)
      rw [show (Value.bool false).cells = #[.bool false] from rfl, Nat.mul_one, toList_madeCells_one] at hown3
      have hD0 : Drain w w3 F qb wr.heap.size K j 0 L false ⟨#[]⟩ (-1) := by
        have hF3 : Fresh wr w3 := (Kept.refl _ wr).grown hgrow3 (fun k _ e => by cases e)
        refine ⟨HFl.out.st.fresh hF3, HN.out, by rw [HFl.out.len]; rfl, HFl.out.own, ?_, HFl.out.st.fr.size, fun e => by have := HFl.out.st.q.lt e; omega, .inl rfl⟩
        rw [seen_all HFl.out.all]
        exact hown3
      have HD0 := show Hid _ from hD0
      clear hD0 hown3 hgrow3 HFl hi hz0 hz1 hz2 i0
      generalize wr.heap.size = sb at *
      go_loopw [12, 13, 68] (fun wv av iv wr => ∃ (m : Nat) (wk : ByteArray) (ati : Int), m ≤ j ∧ iv = .int .i64 (m : Int) ∧ wv = .string wk ∧ av = .int .i64 ati ∧ ∃ F L, Hid (Drain w wr F qb sb K j m L false wk ati)) (fun _ _ iv _ => j - (RowKit.intOf iv).toNat)
      case atStart => exact ⟨0, _, _, Nat.zero_le _, rfl, rfl, rfl, F, L, HD0⟩
      case round =>
        obtain ⟨m, wk, ati, hmj, rfl, rfl, rfl, F4, L4, HD⟩ := hrel
        clear HD0
        by_cases hlt2 : m < j
        · obtain ⟨e, B, hL4⟩ : ∃ e B, L4 = e :: B := by
            cases L4 with
            | nil => have := HD.out.len; simp at this; omega
            | cons e B => exact ⟨e, B, rfl⟩
          subst hL4
          have hjp : 0 < j := by omega
          have HFi : Hid (Unit → _) := fun (_ : Unit) => First_any F4 qb 65536 (e :: B) j j wr HD.out.st.q
          rw [toldV_eq] at HFi
          have HPo : Hid (∀ k, _) := fun k => pop_any F4 qb 65536 (e :: B) j j (wr.drewN k) (HD.out.drewN k).st.q (by omega)
          simp only [toldV_eq] at HPo
          simp only [List.head?_cons, List.tail_cons, tK, tS, tT, Option.isSome_some] at HFi HPo
          have hlist : [] ++ e :: B = e :: B := rfl
          have HLs : Hid (∀ k w', QNow (wr.drewN k) F4 qb 65536 B j j w' → _) := fun k w' hq => Drain.less (A := []) (HD.out.drewN k) hjp hq
          have HOrd : Hid (∀ x ∈ B, (if (false : Bool) = true then ord x e else ord e x) < 0) := fun x hx => by
            have h1 := HD.out.st.q.sd
            exact (List.pairwise_cons.1 h1).1 x hx
          have HWas : Hid (ati = -1 ∨ ∃ p : El, ati = (p.t : Int) ∧ wk = p.k ∧ p.a = p.t + 1 ∧ ord p e < 0) := by
            rcases HD.out.was with h0 | ⟨p, p1, p2, p3, p4⟩
            · exact .inl h0
            · exact .inr ⟨p, p1, p2, p3, by simpa using p4 e (by simp)⟩
          have HEa : Hid (e.a = e.t + 1) := by obtain ⟨_, _, _, h⟩ := HD.out.own e (by simp); exact h
          clear HD
          go_wp2_with fail
          refine (HFi.out ()).mono ?_
          rintro q5 w5 ⟨rfl, k5, rfl⟩
          have HPk : Hid (Unit → _) := fun (_ : Unit) => HPo.out k5
          have HLk : Hid (∀ w', _ → _) := fun w' hq => HLs.out k5 w' hq
          clear HFi HPo HLs
          generalize wr.drewN k5 = w5q at *
          go_wp2_with fail
          refine (HPk.out ()).mono ?_
          rintro q6 w6 ⟨rfl, hq6⟩
          obtain ⟨⟨F6, hD6⟩, hF6, d1, d2, hev, het, hek⟩ := HLk.out w6 hq6
          obtain ⟨kb, koff, kcp, hkv, d3⟩ := HK.out.at hF6 het
          rw [← hek] at d3
          cases hkv
          have HD6 := show Hid _ from hD6 false HOrd.out
          rw [hev]
          have het2 : e.t < j := by rw [HN.out]; exact het
          have r1 : (0 : Int) ≤ (e.t : Int) := by omega
          have r2 : (e.t : Int) < (j : Int) := by omega
          clear HPk HLk hq6 hD6 hF6 hev hek HOrd
          rcases HWas.out with h0 | ⟨p, p1, p2, p3, p4⟩
          · subst h0
            clear HWas HEa
            generalize e.k = ek at *
            generalize e.t = et at *
            go_wp2
            go_roundw
            case rel => exact ⟨m + 1, _, _, by omega, by go_num, rfl, rfl, F6, _, HD6⟩
            case measure => simp [RowKit.intOf]; omega
          · obtain ⟨u1, u2⟩ := up_keys p4 p3 HEa.out
            subst p1
            subst p2
            have r3 : (0 : Int) ≤ (p.t : Int) := by omega
            clear HWas HEa p3 p4
            rcases u2 with u2 | ⟨u2, u3⟩
            · generalize e.k = ek at *
              generalize p.k = pk at *
              generalize e.t = et at *
              generalize p.t = pt at *
              go_wp2
              go_roundw
              case rel => exact ⟨m + 1, _, _, by omega, by go_num, rfl, rfl, F6, _, HD6⟩
              case measure => simp [RowKit.intOf]; omega
            · have r4 : ¬ ((e.t : Int) < (p.t : Int)) := by omega
              rw [← u2] at u1 ⊢
              clear u2
              generalize e.k = ek at *
              generalize e.t = et at *
              generalize p.t = pt at *
              go_wp2
              go_roundw
              case rel => exact ⟨m + 1, _, _, by omega, by go_num, rfl, rfl, F6, _, HD6⟩
              case measure => simp [RowKit.intOf]; omega
        · obtain rfl : m = j := by omega
          have hL0 : L4 = [] := List.eq_nil_of_length_eq_zero (by have := HD.out.len; omega)
          subst hL0
          have HP : Hid (Unit → _) := fun (_ : Unit) => pop_any F4 qb 65536 [] m m wr HD.out.st.q (by omega)
          rw [toldV_eq] at HP
          simp only [List.head?_nil, List.tail_nil, tK, tS, tT, Option.isSome_none] at HP
          have HSt := show Hid _ from HD.out.st
          clear HD
          go_wp2_with fail
          refine (HP.out ()).mono ?_
          rintro q5 w5 ⟨rfl, hq5⟩
          obtain ⟨F5, hS5⟩ := HSt.out.now hq5
          have HL : Hid (Unit → _) := fun (_ : Unit) => len_any F5 qb 65536 [] m m w5 hS5.q
          have HFr := show Hid _ from hS5.fr
          clear HP hq5 HSt hS5
          go_wp2_with fail
          refine (HL.out ()).mono ?_
          rintro q6 w6 ⟨rfl, rfl⟩
          clear HL
          go_wp2
          go_ret
          exact ⟨by simp, HFr.out⟩

end Go.Proofs.Ytonpdnpfekmapaa.SI
