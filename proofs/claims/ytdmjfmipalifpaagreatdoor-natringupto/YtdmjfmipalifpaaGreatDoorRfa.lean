/-
  The document's numbers: cut, at, small, Bits.
-/
import Derived.Test.YtdmjfmipalifpaaGreatDoorWq
namespace Go.Proofs.YtdmjfmipalifpaaGreatDoor
open Go.RowKit

/-- A number of the document: digits to the base 65536, no nought at the end. -/
def Rn (w : World) (v : Value) (N : Nat) : Prop := ∃ L, Nd (fun _ => True) w v L ∧ Can L ∧ val 65536 L = N
theorem Rn.fresh {w w' : World} {v : Value} {N : Nat} (h : Rn w v N) (hk : Fresh w w') : Rn w' v N := let ⟨L, h1, h2⟩ := h; ⟨L, Dw.fresh h1 hk, h2⟩
theorem Rn.shape {w : World} {v : Value} {N : Nat} (h : Rn w v N) : ∃ a n c, v = .slice a n c := by
  obtain ⟨L, h1, _⟩ := h
  obtain ⟨a, c, e⟩ := h1.shape
  exact ⟨a, _, c, e⟩
theorem rn_nil (w : World) : Rn w (.slice none 0 0) 0 := ⟨[], Dw.nil _ _ _ _, Can.nil, rfl⟩
theorem rn_len {L : List Nat} (hd : Dg 65536 L) (hc : Can L) : 16 * L.length ≤ bl (val 65536 L) + 15 := by
  rcases List.eq_nil_or_concat L with rfl | ⟨A, d, rfl⟩
  · simp
  · rw [List.concat_eq_append] at *
    have hd0 : d ≠ 0 := by intro e; subst e; simp [Can] at hc
    have hb := bl_snoc 16 A d (fun x hx => hd x (List.mem_append_left _ hx)) hd0
    rw [show (2 : Nat) ^ 16 = 65536 from rfl] at hb
    have := (bl_pos hd0).2.2
    rw [hb, List.length_append, List.length_singleton]
    omega
theorem Tryz.infoI : (Tryz.prog.info? 3).map (fun i => (i.zero, i.size, i.bytes)) = some (some (.int .i64 0), 1, 8) := by kernel_rfl

/-- What cut answers. -/
def CutO (w : World) (L : List Nat) (v' : Value) : Prop := Rn w v' (val 65536 L)

set_option maxHeartbeats 400000 in
theorem refCut_any (p : Nat → Prop) (v : Value) (L : List Nat) (w : World) (h : Nd p w v L) :
    Calls Tryz.prog 39 #[v] w fun e w' => ∃ v', e = .returned v' ∧ Rn w v' (val 65536 L) ∧ w' = w := by
  obtain ⟨ao, cap, rfl, hc, hcm, hcell, hdg, hnil⟩ := h
  go_enter Tryz.func39, Tryz.ntmps39
  go_wp2
  go_loop [0] (fun c => ∃ n : Nat, n ≤ L.length ∧ c = .slice ao n cap ∧ Hid (∀ i, n ≤ i → L.getD i 0 = 0)) (fun c => (match c with | .slice _ n _ => n | _ => 0))
  case atStart => exact ⟨L.length, by omega, rfl, fun i hi => by rw [List.getD_eq_getElem?_getD, List.getElem?_eq_none (by omega)]; rfl⟩
  case round =>
    obtain ⟨n, hn, rfl, H0⟩ := hrel
    have HRn : Hid ((n = 0 ∨ L.getD (n - 1) 0 ≠ 0) → Rn w (.slice ao n cap) (val 65536 L)) := fun h => by
      have hl : (L.take n).length = n := by rw [List.length_take]; omega
      refine ⟨L.take n, ⟨ao, cap, by rw [hl], ⟨by omega, by omega⟩, hcm, fun h0 => ?_, hdg.take _, hnil⟩, can_take _ _ hn h, val_take _ _ _ hn H0.out⟩
      obtain ⟨b, off, e1, _, e3, e4⟩ := hcell (fun e => h0 (by rw [e]; simp))
      refine ⟨b, off, e1, trivial, e3, fun i hi => ?_⟩
      rw [e4 i (by omega), List.getD_eq_getElem?_getD, List.getD_eq_getElem?_getD, List.getElem?_take_of_lt (by omega)]
    rcases Nat.eq_zero_or_pos n with hz | hz
    · subst hz
      have HR := show Hid _ from HRn.out (.inl rfl)
      clear HRn hcell
      go_wp2
      go_ret
      exact ⟨_, rfl, HR.out, rfl⟩
    · obtain ⟨m, rfl⟩ : ∃ m, n = m + 1 := ⟨n - 1, by omega⟩
      obtain ⟨b, off, rfl, hp, hb, hce⟩ := hcell (fun e => by rw [e] at hn; simp at hn)
      have hcu := hce m (by omega)
      have hj0 : (0 : Int) ≤ (m : Int) := by omega
      have hj1 : (m : Int) < (m : Int) + 1 := by omega
      have hj2 : (m : Int) ≤ (cap : Int) := by omega
      have e1 : (m : Int) + 1 - 1 = (m : Int) := by omega
      by_cases hd : L.getD m 0 = 0
      · have H1 : Hid (∀ i, m ≤ i → L.getD i 0 = 0) := fun i hi => by
          rcases Nat.lt_or_ge m i with e | e
          · exact H0.out i (by omega)
          · obtain rfl : i = m := by omega
            exact hd
        rw [hd] at hcu
        clear hcell hce HRn
        go_wp2
        go_round
        case rel => exact ⟨m, by omega, by simp, H1⟩
        case measure => simp
      · have HR := show Hid _ from HRn.out (.inr (by simpa using hd))
        generalize L.getD m 0 = D at *
        have hne : ((D : Int) == 0) = false := by simp; exact hd
        clear hcell hce hd H0 HRn
        go_wp2
        go_ret
        exact ⟨_, rfl, HR.out, rfl⟩

set_option maxHeartbeats 400000 in
theorem refAt_any (p : Nat → Prop) (v : Value) (L : List Nat) (i : Nat) (w : World) (h : Nd p w v L) (hi : i ≤ 9223372036854775807) :
    Calls Tryz.prog 50 #[v, .int .i64 i] w fun e w' => e = .returned (.int .i64 ((L.getD i 0 : Nat) : Int)) ∧ w' = w := by
  obtain ⟨ao, cap, rfl, hc, _, hcell, _⟩ := h
  by_cases hlt : i < L.length
  · obtain ⟨b, off, rfl, _, _, hce⟩ := hcell (fun e => by rw [e] at hlt; simp at hlt)
    have hcu := hce i hlt
    have hj0 : (0 : Int) ≤ (i : Int) := by omega
    have hj1 : (i : Int) < (L.length : Int) := by omega
    generalize L.getD i 0 = D at *
    clear hce hcell
    go_enter Tryz.func50, Tryz.ntmps50
    go_wp2
    go_ret
    exact ⟨rfl, rfl⟩
  · rw [show L.getD i 0 = 0 by rw [List.getD_eq_getElem?_getD, List.getElem?_eq_none (by omega)]; rfl]
    clear hcell
    go_enter Tryz.func50, Tryz.ntmps50
    go_wp2
    go_ret
    exact ⟨rfl, rfl⟩

set_option maxHeartbeats 1000000 in
set_option maxRecDepth 100000 in
theorem refSmall_any (v : Value) (L : List Nat) (d : Nat) (w : World) (h : Nd (fun _ => True) w v L) (hL : L.length ≤ 1099511627776) (hd0 : 0 < d) (hdl : d ≤ 65536) :
    Calls Tryz.prog 46 #[v, .int .i64 d] w fun e w' => ∃ v', e = .returned (.tuple #[v', .int .i64 ((val 65536 L % d : Nat) : Int)]) ∧ (Rn w' v' (val 65536 L / d) ∧ Fresh w w') := by
  obtain ⟨i0, hi, hz0, hz1, hz2⟩ := info_parts Tryz.infoI
  have hdg := h.dg
  obtain ⟨ao, cap, rfl, hc, hcm, hcell, _, hnil⟩ := h
  have hcap := hc.1
  obtain ⟨VD, hVD⟩ : ∃ x, x = val 65536 L / d := ⟨_, rfl⟩
  obtain ⟨VM, hVM⟩ : ∃ x, x = val 65536 L % d := ⟨_, rfl⟩
  rw [← hVD, ← hVM]
  have HVD : Hid (VD = val 65536 L / d) := hVD
  have HVM : Hid (VM = val 65536 L % d) := hVM
  clear hVD hVM
  go_enter Tryz.func46, Tryz.ntmps46
  go_wp2_with (at_make; refine wpList_make_full _ rfl _ _ _ rfl w.heap.size 3 i0 _ 1 Tryz.underlying31 hi hz0 hz1 _ _ _ _ L.length rfl rfl rfl rfl (by rw [hz2]; omega) (by unfold maxLen; omega) (by omega) ?_; intro w2 hown2 hgrow2)
  have hk2 : Fresh w w2 := (Kept.refl _ w).grown hgrow2 (fun k _ e => by cases e)
  rw [show (Value.int .i64 0).cells = #[.int .i64 0] from rfl, Nat.mul_one, madeZeros] at hown2
  obtain ⟨S, hO2, _, _, _, _⟩ := ow_of_own hown2
  have HO2 := show Hid _ from hO2
  clear hgrow2 hown2 hO2
  go_loopw [7, 8] (fun rv iv wr => ∃ (n l : Nat) (Q : List Nat), n ≤ L.length ∧ Q.length = L.length - n ∧ iv = .int .i64 ((n : Int) - 1) ∧ rv = .int .i64 (l : Int) ∧ l < d ∧ Dg 65536 Q ∧ Hid (val 65536 (L.drop n) = d * val 65536 Q + l) ∧ Hid (Ow 3 .i64 wr w.heap.size [] ((List.replicate L.length 0).take n ++ Q) S) ∧ Fresh w wr) (fun _ iv _ => (intOf iv + 1).toNat)
  case atStart => exact ⟨L.length, 0, [], by omega, by simp, rfl, rfl, hd0, Dg.nil _, by simp [Hid, val], by rw [List.take_of_length_le (by simp), List.append_nil]; exact HO2, hk2⟩
  case round =>
    obtain ⟨n, l, Q, hn, hQl, rfl, rfl, hld, hdQ, HV, HO, hF⟩ := hrel
    rcases Nat.eq_zero_or_pos n with hz | hz
    · subst hz
      have hV := HV.out
      rw [List.drop_zero] at hV
      have hO := HO.out
      rw [List.take_zero, List.nil_append] at hO
      have hq1 : val 65536 Q = VD := by rw [HVD.out, hV, Nat.mul_add_div hd0, Nat.div_eq_of_lt hld, Nat.add_zero]
      have hq2 : l = VM := by rw [HVM.out, hV, Nat.mul_add_mod, Nat.mod_eq_of_lt hld]
      have hD := Ow.dw (B := 65536) (cap := L.length) hO hdQ (by omega) (by omega) (by omega)
      rw [hQl, Nat.sub_zero, List.length_nil] at hD
      have ht := refCut_any _ _ _ _ hD
      rw [hq1] at ht
      subst hq2
      have HF := show Hid _ from hF
      clear hV hO HO HV hdQ hD hF hq1 hcell
      go_wp2_with fail
      refine ht.mono ?_
      rintro e w3 ⟨v', rfl, hR, rfl⟩
      have HR := show Hid _ from hR
      clear hR ht
      go_wp2
      go_ret2
      exact ⟨_, rfl, HR.out, HF.out⟩
    · obtain ⟨i, rfl⟩ : ∃ i, n = i + 1 := ⟨n - 1, by omega⟩
      have e1 : ((i + 1 : Nat) : Int) - 1 = (i : Int) := by omega
      rw [e1]
      obtain ⟨b, off, rfl, _, hb, hce⟩ := hcell (fun e => by rw [e] at hn; simp at hn)
      have hcu : wr.cell? ⟨b, off + i, none⟩ = some (.int .i64 ((L.getD i 0 : Nat) : Int)) := (hF.cell (p := ⟨b, off + i, none⟩) hb (fun e => e)).trans (hce i (by omega))
      have hO := HO.out
      have hoc := hO.cell i (by simp; omega)
      rw [List.length_nil, Nat.zero_add] at hoc
      have hof := hO.free i
      have hzd := Dg.getD (by omega) hdg i
      have hstep := spl_step (z := L.getD i 0) HV.out
      have hroom := spl_room (B := 65536) hld hzd
      have hset := hO.set i ((l * 65536 + L.getD i 0) / d) (by simp; omega)
      rw [set_prev _ Q i _ (by simp; omega), List.length_nil, Nat.zero_add] at hset
      have hml : (l * 65536 + L.getD i 0) % d < d := Nat.mod_lt _ hd0
      rw [show L.getD i 0 :: L.drop (i + 1) = L.drop i by
        rw [List.drop_eq_getElem_cons (i := i) (by omega), List.getD_eq_getElem?_getD, List.getElem?_eq_getElem (by omega)]; rfl] at hstep
      obtain ⟨q, hq⟩ : ∃ q, q = (l * 65536 + L.getD i 0) / d := ⟨_, rfl⟩
      obtain ⟨r, hr⟩ : ∃ r, r = (l * 65536 + L.getD i 0) % d := ⟨_, rfl⟩
      obtain ⟨T, hT⟩ : ∃ T, T = l * 65536 + L.getD i 0 := ⟨_, rfl⟩
      have hTl : T < 65536 * 65536 := by rw [hT]; omega
      rw [← hq, ← hr] at hstep
      rw [← hq] at hset hroom
      rw [← hr] at hml
      rw [← hT] at hq hr
      have c1 : (l : Int) * 65536 + ((L.getD i 0 : Nat) : Int) = (T : Int) := by rw [hT]; simp
      have c2 : (T : Int) / (d : Int) = (q : Int) := by rw [hq]; simp
      have c3 : (T : Int).tdiv (d : Int) = (q : Int) := by rw [hq, Int.tdiv_eq_ediv_of_nonneg (by omega)]; simp
      have c4 : (T : Int).tmod (d : Int) = (r : Int) := by rw [hr, Int.tmod_eq_emod_of_nonneg (by omega)]; simp
      have c5 : (T : Int) % (d : Int) = (r : Int) := by rw [hr]; simp
      have HS := show Hid _ from hstep
      have HSET := show Hid _ from hset
      have HDQ : Hid (Dg 65536 (q :: Q)) := fun x hx => by
        rcases List.mem_cons.1 hx with e | e
        · omega
        · exact hdQ x e
      have HK : Hid (Fresh w (wr.setCell ⟨w.heap.size, i, none⟩ (.int .i64 (q : Int)))) := hF.setCell (p := ⟨w.heap.size, i, none⟩) (fun e => by simp at e) _
      have hj0 : (0 : Int) ≤ (i : Int) := by omega
      have hj1 : (i : Int) < (L.length : Int) := by omega
      have hdne : (d : Int) ≠ 0 := by omega
      generalize ((((List.replicate L.length 0).take (i + 1) ++ Q).getD i 0 : Nat) : Int) = OLD at *
      generalize L.getD i 0 = D at *
      clear hq hr hset hstep hO HO HV hdQ hce hcell hT hF
      go_wp2
      go_roundw
      case rel => exact ⟨i, r, q :: Q, by omega, by simp; omega, by go_num, rfl, hml, HDQ.out, HS, HSET, HK.out⟩
      case measure => simp [intOf]
end Go.Proofs.YtdmjfmipalifpaaGreatDoor
