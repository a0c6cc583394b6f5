/-
  The number of decimal digits: digitsNumber.
-/
import Derived.Test.YtdmjfmipalifpaaGreatDoorPx
import Derived.Test.YtdmjfmipalifpaaGreatDoorPyN
import Derived.Test.YtdmjfmipalifpaaGreatDoorWu
import Derived.Test.YtdmjfmipalifpaaGreatDoorTx
namespace Go.Proofs.YtdmjfmipalifpaaGreatDoor
open Go.RowKit

theorem extract_list (s : ByteArray) (a b : Nat) : (s.extract a b).data.toList = (s.data.toList.drop a).take (b - a) := by
  rw [ByteArray.data_extract, Array.toList_extract, List.extract]
theorem fresh_bytes (w : World) (e : TypeId) (s : ByteArray) : Fresh w (Lib.bytesWorld w e s) := by
  unfold Lib.bytesWorld
  have h : Fresh w (w.drew.alloc (.cells (Lib.bytesCells w e s) e)) := (Kept.refl _ w).drew.alloc _
  refine ⟨h.os, h.tape, h.output, ?_, ?_⟩
  · simp [World.freeze]
  · intro k hk hn
    refine Eq.trans ?_ (h.block k hk hn)
    have hne : k ≠ w.heap.size := by omega
    unfold World.freeze
    split
    · rfl
    · exact (Array.getElem?_modify ..).trans (if_neg (Ne.symm hne))
theorem ow_assoc {t : TypeId} {k : IntKind} {w : World} {b : Nat} {S : List Value} {Z M : List Nat} : Ow t k w b [] Z (M.map (fun d : Nat => Value.int k (d : Int)) ++ S) ↔ Ow t k w b [] (Z ++ M) S := by
  unfold Ow
  simp
theorem zeros_next {L : List Nat} {G : Nat} (h : L.length < G) : L ++ List.replicate (G - L.length) 0 = (L ++ [0]) ++ List.replicate (G - (L.length + 1)) 0 := by
  rw [show G - L.length = (G - (L.length + 1)) + 1 by omega, List.replicate_succ]
  simp

set_option maxHeartbeats 1000000 in
set_option maxRecDepth 100000 in
theorem digitsNumber_any (s : ByteArray) (w : World) (hs : s.size ≤ 19729) (h1 : 1 ≤ s.size) (hd : Ds s.data.toList) :
    Calls Tryz.prog 38 #[.string s] w fun e w' => ∃ v', e = .returned v' ∧ (Nm w' v' (dn s.data.toList) ∧ Fresh w w') := by
  obtain ⟨i0, hi, hz0, hz1, hz2⟩ := info_parts Tryz.infoU
  have HSZ : Hid (s.size = s.data.toList.length) := Lib.size_eq s
  have hlist := fun a b => extract_list s a b
  generalize s.data.toList = l at *
  obtain ⟨G, hG⟩ : ∃ G, G = (s.size + 18) / 19 := ⟨_, rfl⟩
  have HK1 : Hid (((s.size : Int) + 19 - 1) / 19 = (G : Int)) := by show _ = _; omega
  have hGl : G ≤ 1040 := by omega
  have HD := show Hid _ from hd
  have HG := show Hid _ from hG
  clear hd hG
  go_enter Tryz.func38, Tryz.ntmps38
  go_wp2_with (at_make; refine wpList_make_full _ rfl _ _ _ rfl w.heap.size 71 i0 _ 1 Tryz.underlying24 hi hz0 hz1 _ _ _ _ G rfl rfl HK1.out HK1.out (by rw [hz2]; omega) (by unfold maxLen; omega) (by omega) ?_; intro w2 hown2 hgrow2)
  have hk2 : Fresh w w2 := (Kept.refl _ w).grown hgrow2 (fun k _ e => by cases e)
  rw [show (Value.int .u64 0).cells = #[.int .u64 0] from rfl, Nat.mul_one, madeZeros] at hown2
  obtain ⟨S, hO2, _, _, _, _⟩ := ow_of_own hown2
  have HO2 := show Hid _ from hO2
  clear hgrow2 hown2 hO2
  go_loopw [16] (fun c wr => ∃ L : List Nat, L.length ≤ G ∧ c = .int .i64 (L.length : Int) ∧ Hid (Dg 18446744073709551616 L) ∧ Hid (val 18446744073709551616 L = dn (l.take (plc s.size G L.length))) ∧ Hid (Ow 71 .u64 wr w.heap.size [] (L ++ List.replicate (G - L.length) 0) S) ∧ Hid (Fresh w wr)) (fun c _ => G - (intOf c).toNat)
  case atStart => exact ⟨[], by simp, rfl, Dg.nil _, by show _ = _; rw [show plc s.size G ([] : List Nat).length = 0 by unfold plc; have := HG.out; simp; omega]; rfl, HO2, hk2⟩
  case round =>
    obtain ⟨L, hL, rfl, HDL, HV, HO, HF⟩ := hrel
    by_cases hlt : L.length < G
    · obtain ⟨p1, p2, p3, p4, p5, p6, p7⟩ := plc_next HG.out (by omega) hlt
      have HS : Hid (∀ (Z : List Nat) (o : Nat), val 18446744073709551616 Z + 18446744073709551616 ^ (L ++ [0]).length * o = 10000000000000000000 * val 18446744073709551616 (L ++ [0]) + dn ((l.drop (plc s.size G L.length)).take (plc s.size G (L.length + 1) - plc s.size G L.length)) → val 18446744073709551616 Z = dn (l.take (plc s.size G (L.length + 1)))) :=
        fun Z o h => dig_step HG.out (by omega) hlt HSZ.out.symm rfl HDL.out HD.out HV.out h
      have hO := HO.out
      rw [zeros_next hlt, ← ow_assoc] at hO
      have HO' := show Hid _ from hO
      clear hO HO HV
      generalize plc s.size G L.length = p at *
      obtain ⟨q, hq⟩ : ∃ q, plc s.size G (L.length + 1) = q := ⟨_, rfl⟩
      rw [hq] at p1 p2 p3 p5 p6 HS
      have HQ := show Hid _ from hq
      clear hq
      have hgl : ((l.drop p).take (q - p)).length = q - p := by rw [List.length_take, List.length_drop, ← HSZ.out]; omega
      have hgd : Ds ((l.drop p).take (q - p)) := (Ds.drop HD.out p).take _
      have hpa := parse_dn _ (fun e => by rw [e] at hgl; simp at hgl; omega) hgd (by omega)
      have hcl := dn_lt _ hgd
      rw [hgl] at hcl
      have hcl2 := Nat.lt_of_lt_of_le hcl (Nat.pow_le_pow_right (by decide) p3)
      rw [show (10 : Nat) ^ 19 = 10000000000000000000 by decide] at hcl2
      have hxs : (s.extract p q).size ≤ 9223372036854775806 := by rw [Lib.size_eq, hlist, hgl]; omega
      have hpu := fun w => Tryz.strconv_ParseUint_10_at64_ok (s.extract p q) hxs _ (by rw [hlist]; exact hpa) w
      clear hpa hcl hgd hgl hxs
      generalize dn ((l.drop p).take (q - p)) = c at *
      have hsc := fun W cap (h : Ow 71 .u64 W w.heap.size [] (L ++ [0]) ((List.replicate (G - (L.length + 1)) 0).map (fun d : Nat => Value.int .u64 (d : Int)) ++ S)) => scale_any w.heap.size cap [] _ (L ++ [0]) 10000000000000000000 c W h (Dg.append HDL.out (Dg.one (by omega))) (by simp; omega) (by omega) (by omega)
      have hlen1 : (L ++ ([0] : List Nat)).length = L.length + 1 := by simp
      rw [hlen1] at hsc HS
      have eE : (s.size : Int) - ((G : Int) - 1 - (L.length : Int)) * 19 = (q : Int) := by omega
      have hmax : max ((q : Int) - 19) 0 = (p : Int) := by
        rw [Int.max_def]
        by_cases e : L.length = 0
        · have := p4 e
          split <;> omega
        · have := p5 e
          split <;> omega
      have j0 : (0 : Int) ≤ (p : Int) := by omega
      have j1 : (p : Int) ≤ (q : Int) := by omega
      have j2 : (q : Int) ≤ (s.size : Int) := by omega
      have j3 : (L.length : Int) < (G : Int) := by omega
      clear p1 p2 p3 p4 p5 p6 p7
      go_wp2_with fail
      refine (hpu _).mono ?_
      rintro e w3 ⟨rfl, hw3⟩
      have hF3 : Fresh wr w3 := by
        rcases hw3 with rfl | rfl
        · exact Kept.refl _ _
        · exact fresh_bytes _ _ _
      have hsc3 := fun cap => hsc w3 cap (Ow.kept HO'.out hF3 (fun e => e))
      have HF3 : Hid (Fresh w w3) := Kept.trans HF.out hF3 (fun _ _ e => e)
      clear hpu hsc hw3 hF3 hmax eE
      have hs0 : (0 : Int) ≤ (L.length : Int) + 1 := by omega
      have hs1 : (L.length : Int) + 1 ≤ (G : Int) := by omega
      go_wp2_with fail
      refine (hsc3 _).mono ?_
      rintro e w4 ⟨rfl, Z, o, hZl, hdZ, hvZ, hO4, hk4⟩
      rw [hlen1] at hZl hvZ
      have HR : Hid (∃ L' : List Nat, L'.length = L.length + 1 ∧ Hid (Dg 18446744073709551616 L') ∧ Hid (val 18446744073709551616 L' = dn (l.take q)) ∧ Hid (Ow 71 .u64 w4 w.heap.size [] (L' ++ List.replicate (G - (L.length + 1)) 0) S) ∧ Hid (Fresh w w4)) :=
        ⟨Z, hZl, hdZ, HS.out Z o hvZ, ow_assoc.1 hO4, Kept.trans HF3.out hk4 (fun i hi e => by have e' : i = w.heap.size := e; omega)⟩
      clear hsc3 hO4 hk4 hvZ hdZ hZl HF3 HF
      go_wp2
      go_roundw
      case rel =>
        obtain ⟨L', hl', r1, r2, r3, r4⟩ := HR.out
        exact ⟨L', by omega, by rw [hl']; go_num, r1, by rw [hl', HQ.out]; exact r2, by rw [hl']; exact r3, r4⟩
      case measure => simp [intOf]; omega
    · obtain hLG : L.length = G := by omega
      have hO := HO.out
      have hv := HV.out
      rw [hLG, Nat.sub_self, List.replicate_zero, List.append_nil] at hO
      rw [hLG, show plc s.size G G = s.size by unfold plc; simp, List.take_of_length_le (by rw [← HSZ.out]; omega)] at hv
      have hD := Ow.dw (B := 18446744073709551616) (cap := G) hO HDL.out (by omega) (by omega) (by omega)
      rw [hLG] at hD
      have ht := trim_any _ _ _ _ hD
      have HU := show Hid _ from Ow.isU hO
      have HVV : Hid (val 18446744073709551616 L = dn l) := hv
      clear hD hv HO hO HV HDL
      rw [hLG]
      go_wp2_with fail
      refine ht.mono ?_
      rintro e w3 ⟨v', rfl, hT, rfl⟩
      have hN := nm_of_trim hT HU.out
      rw [HVV.out] at hN
      have HN := show Hid _ from hN
      clear hT hN
      go_wp2
      go_ret
      exact ⟨_, rfl, HN.out, HF.out⟩
end Go.Proofs.YtdmjfmipalifpaaGreatDoor
