/-
  For every number of places and every two scripts the statement PoolTwo answers true: the walk.
-/
import Derived.Test.YtomikgnifbgfiaaDoorPlk
namespace Go.Proofs.YtomikgnifbgfiaaDoor
open Go.RowKit

/-- Two pools that share no block. -/
structure Pair (w wr : World) (F G : Nat → Prop) (b c : Nat) (v u : Value) (l m : List (Option Int)) : Prop where
  one : Both w wr F b v l
  two : Both w wr G c u m
  ap : ∀ k, F k → ¬ G k
theorem Pair.swap {w wr : World} {F G : Nat → Prop} {b c : Nat} {v u : Value} {l m : List (Option Int)} (h : Pair w wr F G b c v u l m) : Pair w wr G F c b u v m l := ⟨h.two, h.one, fun k hg hf => h.ap k hf hg⟩
theorem Pair.step {w wr w' : World} {F G : Nat → Prop} {b c : Nat} {v u v' : Value} {l m l' : List (Option Int)} (h : Pair w wr F G b c v u l m) (hr : RefAt w' v' l') (ht : Turned wr F b l' w') : ∃ F', Pair w w' F' G b c v' u l' m := by
  obtain ⟨F', h1, h2, h3⟩ := h.one.of_turned hr ht
  refine ⟨F', h1, ⟨h.two.pool.kept h2 (fun k hg hf => h.ap k hf hg), h.two.ref.kept h.one.pool h2, h.two.new, h1.fr⟩, fun k hf hg => ?_⟩
  exact h.ap k (h3 k (h.two.pool.lt hg) hf) hg
theorem Pair.fresh {w wr w' : World} {F G : Nat → Prop} {b c : Nat} {v u : Value} {l m : List (Option Int)} (h : Pair w wr F G b c v u l m) (hF : Fresh wr w') : Pair w w' F G b c v u l m := ⟨h.one.fresh hF, h.two.fresh hF, h.ap⟩

/-- A half round: one step of the first of two, where its script has one. -/
theorem step_pair {w wr : World} {F G : Nat → Prop} {b c : Nat} {v u : Value} {l m : List (Option Int)} (h : Pair w wr F G b c v u l m) (hT : Tab w) (k p x : Int) :
    Calls Tryd.prog 10 #[.pointer (some ⟨b, 0, none⟩), v, .agg #[.int .i64 k, .int .i64 p, .int .i64 x]] wr fun e w' => ∃ v' F' l', e = .returned (.tuple #[v', .bool true]) ∧ Pair w w' F' G b c v' u l' m :=
  (step_any F b v l k p x wr h.one.pool h.one.ref (h.one.tab hT)).mono fun _ _ ⟨v', he, l', hr, ht, _⟩ => let ⟨F', hp⟩ := h.step hr ht; ⟨v', F', l', he, hp⟩

theorem Pair.shape1 {w wr : World} {F G : Nat → Prop} {b c : Nat} {v u : Value} {l m : List (Option Int)} (h : Pair w wr F G b c v u l m) : ∃ a n p, v = .slice a n p := let ⟨a, p, e⟩ := slice_shape h.one.ref.1; ⟨a, _, p, e⟩

set_option maxRecDepth 100000 in
set_option maxHeartbeats 2000000 in
theorem two_walk (N : Int) (v u : Value) (sc sd : List O3) (w : World) (hT : Tab w) (hs : ScrAt w v sc) (hs2 : ScrAt w u sd) :
    Calls Tryd.prog 4 #[.int .i64 N, v, u] w fun e w' => e = .returned (.bool true) ∧ Fresh w w' := by
  have hsl : sc.length ≤ 140737488351232 := let ⟨_, _, _, h, _⟩ := hs; h
  have hsl2 : sd.length ≤ 140737488351232 := let ⟨_, _, _, h, _⟩ := hs2; h
  have HS : Hid (ScrAt w v sc) := hs
  have HS2 : Hid (ScrAt w u sd) := hs2
  obtain ⟨ao, cap, hv⟩ := hs.shape
  obtain ⟨ao2, cap2, hv2⟩ := hs2.shape
  clear hs hs2
  subst hv hv2
  by_cases hN : 1 ≤ N ∧ N ≤ 65536
  · obtain ⟨n, rfl⟩ := Int.eq_ofNat_of_zero_le (show 0 ≤ N by omega)
    go_enter Tryd.func4, Tryd.ntmps4
    go_wp2_with fail
    refine (begun_any n w hT (by omega) (by omega)).mono ?_
    rintro e w1 ⟨v1, rfl, hP1, hR1, hF1⟩
    have hB1 := Both.start hP1 hR1 hF1
    obtain ⟨a1, p1, hv1⟩ := slice_shape hR1.1
    rw [List.length_replicate] at hv1
    have hT1 := hT.kept hF1 (fun e => e)
    have hlt1 : w.heap.size < w1.heap.size := hP1.lt rfl
    clear hP1 hR1
    subst hv1
    go_wp2_with fail
    refine (begun_any n w1 hT1 (by omega) (by omega)).mono ?_
    rintro e w2 ⟨v2, rfl, hP2, hR2, hF2⟩
    have hPair : Pair w w2 (only w.heap.size) (only w1.heap.size) w.heap.size w1.heap.size (.slice a1 n p1) v2 (List.replicate n none) (List.replicate n none) :=
      ⟨hB1.fresh hF2, ⟨hP2, hR2, fun k (e : k = w1.heap.size) => by omega, hF1.trans hF2 (fun _ _ e => e)⟩, fun k (e : k = w.heap.size) (e' : k = w1.heap.size) => by omega⟩
    obtain ⟨a2, p2, hv2⟩ := slice_shape hR2.1
    rw [List.length_replicate] at hv2
    clear hP2 hR2 hF1 hF2 hB1 hT1 hlt1
    subst hv2
    go_wp2
    generalize w.heap.size = b at *
    generalize w1.heap.size = c at *
    go_loopw [8, 12, 15] (fun s t i wr => ∃ j : Nat, (j ≤ sc.length ∨ j ≤ sd.length) ∧ i = .int .i64 (j : Int) ∧ ∃ F G l m, Pair w wr F G b c s t l m) (fun _ _ i _ => max sc.length sd.length - (intOf i).toNat)
    case atStart => exact ⟨0, .inl (Nat.zero_le _), rfl, _, _, _, _, hPair⟩
    case round =>
      obtain ⟨j, hj, rfl, F, G, l, m, hB⟩ := hrel
      obtain ⟨a3, n3, p3, hv3⟩ := hB.shape1
      obtain ⟨a4, n4, p4, hv4⟩ := hB.swap.shape1
      subst hv3 hv4
      clear hPair
      have hj0 : (0 : Int) ≤ (j : Int) := by omega
      by_cases hlt : j < sc.length
      · obtain ⟨sb, off, cp, hv, c0, c1, c2⟩ := HS.out.at hB.one.fr hlt
        cases hv
        have hst := fun (_ : Unit) => step_pair hB hT sc[j].k sc[j].p sc[j].x
        have HSt := show Hid _ from hst
        have hjl : (j : Int) < (sc.length : Int) := by omega
        clear hst hB
        generalize sc[j].k = ok at *
        generalize sc[j].p = op at *
        generalize sc[j].x = ox at *
        go_wp2_with fail
        refine (HSt.out ()).mono ?_
        rintro e w3 ⟨v3, F3, l3, rfl, hB3⟩
        obtain ⟨a5, n5, p5, hv5⟩ := hB3.shape1
        subst hv5
        clear HSt c0 c1 c2
        by_cases hlt2 : j < sd.length
        · obtain ⟨sb2, off2, cp2, hv, c0, c1, c2⟩ := HS2.out.at hB3.one.fr hlt2
          cases hv
          have hst := fun (_ : Unit) => step_pair hB3.swap hT sd[j].k sd[j].p sd[j].x
          have HSt := show Hid _ from hst
          have hjl2 : (j : Int) < (sd.length : Int) := by omega
          clear hst hB3
          generalize sd[j].k = ok2 at *
          generalize sd[j].p = op2 at *
          generalize sd[j].x = ox2 at *
          go_wp2_with fail
          refine (HSt.out ()).mono ?_
          rintro e w4 ⟨v4, G4, m4, rfl, hB4⟩
          obtain ⟨a6, n6, p6, hv6⟩ := hB4.shape1
          subst hv6
          have HB4 : Hid _ := fun (_ : Unit) => hB4.swap
          clear HSt c0 c1 c2 hB4
          go_wp2
          go_roundw
          case rel => exact ⟨j + 1, by omega, by go_num, _, _, _, _, HB4.out ()⟩
          case measure => simp [intOf]; omega
        · have hjl2 : ¬ (j : Int) < (sd.length : Int) := by omega
          have HB4 : Hid _ := fun (_ : Unit) => hB3
          clear hB3
          go_wp2
          go_roundw
          case rel => exact ⟨j + 1, by omega, by go_num, _, _, _, _, HB4.out ()⟩
          case measure => simp [intOf]; omega
      · have hjl : ¬ (j : Int) < (sc.length : Int) := by omega
        by_cases hlt2 : j < sd.length
        · obtain ⟨sb2, off2, cp2, hv, c0, c1, c2⟩ := HS2.out.at hB.one.fr hlt2
          cases hv
          have hst := fun (_ : Unit) => step_pair hB.swap hT sd[j].k sd[j].p sd[j].x
          have HSt := show Hid _ from hst
          have hjl2 : (j : Int) < (sd.length : Int) := by omega
          clear hst hB
          generalize sd[j].k = ok2 at *
          generalize sd[j].p = op2 at *
          generalize sd[j].x = ox2 at *
          go_wp2_with fail
          refine (HSt.out ()).mono ?_
          rintro e w4 ⟨v4, G4, m4, rfl, hB4⟩
          obtain ⟨a6, n6, p6, hv6⟩ := hB4.shape1
          subst hv6
          have HB4 : Hid _ := fun (_ : Unit) => hB4.swap
          clear HSt c0 c1 c2 hB4
          go_wp2
          go_roundw
          case rel => exact ⟨j + 1, by omega, by go_num, _, _, _, _, HB4.out ()⟩
          case measure => simp [intOf]; omega
        · have hjl2 : ¬ (j : Int) < (sd.length : Int) := by omega
          have HB : Hid _ := fun (_ : Unit) => hB
          clear hB
          go_wp2_with fail
          refine (whole_any F b _ l _ (HB.out ()).one.pool (HB.out ()).one.ref).mono ?_
          rintro e w3 ⟨rfl, hF3⟩
          go_wp2_with fail
          refine (whole_any G c _ m _ ((HB.out ()).fresh hF3).two.pool ((HB.out ()).fresh hF3).two.ref).mono ?_
          rintro e w4 ⟨rfl, hF4⟩
          have HFr : Hid (Fresh w w4) := ((HB.out ()).one.fr.trans hF3 (fun _ _ e => e)).trans hF4 (fun _ _ e => e)
          clear hF3 hF4
          go_wp2
          go_ret
          exact ⟨rfl, HFr.out⟩
  · go_enter Tryd.func4, Tryd.ntmps4
    go_wp2_with fail
    refine (begun_bad N w hT hN).mono ?_
    rintro e w1 ⟨v1, rfl, hF1⟩
    go_wp2_with fail
    refine (begun_bad N w1 (hT.kept hF1 (fun e => e)) hN).mono ?_
    rintro e w2 ⟨v2, rfl, hF2⟩
    have HFr : Hid (Fresh w w2) := hF1.trans hF2 (fun _ _ e => e)
    clear hF1 hF2 hN
    go_wp2
    go_ret
    exact ⟨rfl, HFr.out⟩
end Go.Proofs.YtomikgnifbgfiaaDoor
