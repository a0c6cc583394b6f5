/-
  For every number of places and every script the statement PoolPlays answers true: the walk.
-/
import Derived.Test.YtomikgnifbgfiaaDoorPlk
namespace Go.Proofs.YtomikgnifbgfiaaDoor
open Go.RowKit

set_option maxRecDepth 100000 in
set_option maxHeartbeats 1000000 in
theorem plays_walk (N : Int) (v : Value) (sc : List O3) (w : World) (hT : Tab w) (hs : ScrAt w v sc) :
    Calls Tryd.prog 3 #[.int .i64 N, v] w fun e w' => e = .returned (.bool true) ∧ Fresh w w' := by
  have hsl : sc.length ≤ 140737488351232 := let ⟨_, _, _, h, _⟩ := hs; h
  have HS : Hid (ScrAt w v sc) := hs
  obtain ⟨ao, cap, hv⟩ := hs.shape
  clear hs
  subst hv
  by_cases hN : 1 ≤ N ∧ N ≤ 65536
  · obtain ⟨n, rfl⟩ := Int.eq_ofNat_of_zero_le (show 0 ≤ N by omega)
    go_enter Tryd.func3, Tryd.ntmps3
    go_wp2_with fail
    refine (begun_any n w hT (by omega) (by omega)).mono ?_
    rintro e w1 ⟨v1, rfl, hP1, hR1, hF1⟩
    have hB1 := Both.start hP1 hR1 hF1
    obtain ⟨a1, p1, hv1⟩ := slice_shape hR1.1
    clear hP1 hR1 hF1
    generalize w.heap.size = b at *
    have hn1 : (List.replicate n (none : Option Int)).length = n := List.length_replicate
    rw [hn1] at hv1
    subst hv1
    go_wp2
    go_loopw [6, 9] (fun s i wr => ∃ j : Nat, j ≤ sc.length ∧ i = .int .i64 (j : Int) ∧ ∃ F l, Both w wr F b s l ∧ l.length = n) (fun _ i _ => sc.length - (intOf i).toNat)
    case atStart => exact ⟨0, Nat.zero_le _, rfl, _, _, hB1, hn1⟩
    case round =>
      obtain ⟨j, hj, rfl, F, l, hB, hln⟩ := hrel
      have HLn : Hid (l.length = n) := hln
      clear hln hn1
      obtain ⟨a2, p2, hv2⟩ := slice_shape hB.ref.1
      subst hv2
      clear hB1
      by_cases hlt : j < sc.length
      · obtain ⟨sb, off, cp, hv, c0, c1, c2⟩ := HS.out.at hB.fr hlt
        cases hv
        have hst := fun (_ : Unit) => step_any F b _ l sc[j].k sc[j].p sc[j].x wr hB.pool hB.ref (hB.tab hT)
        have HSt := show Hid _ from hst
        have HB : Hid (Both w wr F b (.slice a2 l.length p2) l) := hB
        clear hst hB
        generalize sc[j].k = ok at *
        generalize sc[j].p = op at *
        generalize sc[j].x = ox at *
        go_wp2_with fail
        refine (HSt.out ()).mono ?_
        rintro e w2 ⟨v2, rfl, l2, hR2, hT2, hl2⟩
        obtain ⟨F2, hB2, _, _⟩ := HB.out.of_turned hR2 hT2
        obtain ⟨a3, p3, hv3⟩ := slice_shape hR2.1
        have HL2 : Hid (l2.length = l.length) := hl2
        clear hR2 hT2 hl2
        subst hv3
        go_wp2
        go_roundw
        case rel => exact ⟨j + 1, by omega, by go_num, F2, l2, hB2, HL2.out.trans HLn.out⟩
        case measure => simp [intOf]; omega
      · obtain rfl : j = sc.length := by omega
        have hul := used_le l
        have hu2 : ((l.length - used l : Nat) : Int) = (l.length : Int) - (used l : Int) := by omega
        have hll := hB.ref.2
        have HB : Hid (Both w wr F b (.slice a2 l.length p2) l) := hB
        clear hB
        go_wp2_with fail
        refine (used_ref _ l _ HB.out.ref).mono ?_
        rintro e w2 ⟨rfl, rfl⟩
        go_wp2_with fail
        refine (whole_any F b _ l _ HB.out.pool HB.out.ref).mono ?_
        rintro e w3 ⟨rfl, hF3⟩
        have HB3 : Hid (Both w w3 F b (.slice a2 l.length p2) l) := HB.out.fresh hF3
        clear hF3
        go_wp2_with fail
        refine (used_any F b l _ HB3.out.pool).mono ?_
        rintro e w4 ⟨rfl, n4, rfl⟩
        go_wp2_with fail
        refine (free_any F b l _ (HB3.out.pool.drewN n4)).mono ?_
        rintro e w5 ⟨rfl, n5, rfl⟩
        have HFr : Hid (Fresh w ((w3.drewN n4).drewN n5)) := (HB3.out.fr.drewN n4).drewN n5
        rw [hu2]
        clear hu2
        generalize (w3.drewN n4).drewN n5 = X at *
        generalize used l = t1 at *
        go_wp2
        go_ret
        exact ⟨rfl, HFr.out⟩
  · go_enter Tryd.func3, Tryd.ntmps3
    go_wp2_with fail
    refine (begun_bad N w hT hN).mono ?_
    rintro e w1 ⟨v1, rfl, hF1⟩
    go_wp2
    go_ret
    exact ⟨rfl, hF1⟩
end Go.Proofs.YtomikgnifbgfiaaDoor
