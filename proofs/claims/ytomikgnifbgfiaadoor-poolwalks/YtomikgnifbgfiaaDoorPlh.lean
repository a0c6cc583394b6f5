/-
  The document's pool: Take, Used, New; and begun, which makes both pools.
-/
import Derived.Test.YtomikgnifbgfiaaDoorPlg
namespace Go.Proofs.YtomikgnifbgfiaaDoor
open Go.RowKit

/-- What Take, Give, Set answer, and what is left. -/
def tkI (l : List (Option Int)) : Int := if fr l < l.length then (fr l : Int) else -1
def tkE (l : List (Option Int)) : Int := if fr l < l.length then 0 else 50
def tkL (l : List (Option Int)) (x : Int) : List (Option Int) := if fr l < l.length then l.set (fr l) (some x) else l
def gvE (l : List (Option Int)) (p : Int) : Int := if (gt l p).isSome then 0 else 51
def gvL (l : List (Option Int)) (p : Int) : List (Option Int) := if (gt l p).isSome then l.set p.toNat none else l
def stL (l : List (Option Int)) (p x : Int) : List (Option Int) := if (gt l p).isSome then l.set p.toNat (some x) else l
theorem tkL_length (l : List (Option Int)) (x : Int) : (tkL l x).length = l.length := by unfold tkL; split <;> simp
theorem gvL_length (l : List (Option Int)) (p : Int) : (gvL l p).length = l.length := by unfold gvL; split <;> simp
theorem stL_length (l : List (Option Int)) (p x : Int) : (stL l p x).length = l.length := by unfold stL; split <;> simp

/-- What a call that changes a pool leaves. -/
def Turned (w : World) (F : Nat → Prop) (b : Nat) (l : List (Option Int)) (w' : World) : Prop := ∃ F', PoolAt w' F' b l ∧ Kept F w w' ∧ ∀ k, k < w.heap.size → F' k → F k

theorem take_tk (F : Nat → Prop) (b : Nat) (l : List (Option Int)) (v : Int) (w : World) (h : PoolAt w F b l) (hT : Tab w) :
    Calls Tryd.prog 15 #[.pointer (some ⟨b, 0, none⟩), .int .i64 v] w fun e w' => e = .returned (.tuple #[.int .i64 (tkI l), .int .i64 (tkE l)]) ∧ Turned w F b (tkL l v) w' := by
  refine (take_any F b l v w h hT).mono fun e w' hh => ?_
  unfold tkI tkE tkL
  by_cases hf : fr l < l.length
  · simp only [hf, if_true] at hh ⊢; exact hh
  · simp only [hf, if_false] at hh ⊢; exact hh
theorem give_gv (F : Nat → Prop) (b : Nat) (l : List (Option Int)) (p : Int) (w : World) (h : PoolAt w F b l) :
    Calls Tryd.prog 16 #[.pointer (some ⟨b, 0, none⟩), .int .i64 p] w fun e w' => e = .returned (.tuple #[.int .i64 ((gt l p).getD 0), .int .i64 (gvE l p)]) ∧ Turned w F b (gvL l p) w' := give_any F b l p w h
theorem set_st (F : Nat → Prop) (b : Nat) (l : List (Option Int)) (p v : Int) (w : World) (h : PoolAt w F b l) :
    Calls Tryd.prog 27 #[.pointer (some ⟨b, 0, none⟩), .int .i64 p, .int .i64 v] w fun e w' => e = .returned (.int .i64 (gvE l p)) ∧ Turned w F b (stL l p v) w' := set_any F b l p v w h
theorem give_rv (v : Value) (l : List (Option Int)) (p : Int) (w : World) (h : RefAt w v l) :
    Calls Tryd.prog 31 #[v, .int .i64 p] w fun e w' => ∃ v', e = .returned (.tuple #[v', .int .i64 ((gt l p).getD 0), .int .i64 (gvE l p)]) ∧ RefAt w' v' (gvL l p) ∧ Fresh w w' := give_ref v l p w h
theorem set_rv (v : Value) (l : List (Option Int)) (p x : Int) (w : World) (h : RefAt w v l) :
    Calls Tryd.prog 33 #[v, .int .i64 p, .int .i64 x] w fun e w' => ∃ v', e = .returned (.tuple #[v', .int .i64 (gvE l p)]) ∧ RefAt w' v' (stL l p x) ∧ Fresh w w' := set_ref v l p x w h

theorem getD_some {l : List (Option Int)} {k : Nat} (hk : k < l.length) : l.getD k none = l[k] := by
  rw [List.getD_eq_getElem?_getD, List.getElem?_eq_getElem hk, Option.getD_some]

set_option maxHeartbeats 1000000 in
theorem take_ref (v : Value) (l : List (Option Int)) (x : Int) (w : World) (h : RefAt w v l) :
    Calls Tryd.prog 30 #[v, .int .i64 x] w fun e w' => ∃ v', e = .returned (.tuple #[v', .int .i64 (tkI l), .int .i64 (tkE l)]) ∧ RefAt w' v' (tkL l x) ∧ Fresh w w' := by
  have hll := h.2
  obtain ⟨ao, cap, hv⟩ := slice_shape h.1
  have HP : Hid (∀ k, k < l.length → Calls Tryd.prog 43 #[v, .int .i64 (k : Int), .agg #[.bool true, .int .i64 x]] w fun e w' => ∃ v', e = .returned v' ∧ RefAt w' v' (l.set k (some x)) ∧ Fresh w w') := fun k hk => put_ref v l k (some x) w h hk
  have HR : Hid (RefAt w v l) := h
  clear h
  subst hv
  go_enter Tryd.func30, Tryd.ntmps30
  go_wp2
  go_loop [7] (fun i => ∃ k : Nat, k ≤ l.length ∧ i = .int .i64 (k : Int) ∧ ∀ j, j < k → (l.getD j none).isSome = true) (fun i => l.length - (intOf i).toNat)
  case atStart => exact ⟨0, Nat.zero_le _, rfl, fun j hj => absurd hj (Nat.not_lt_zero _)⟩
  case round =>
    obtain ⟨k, hk, rfl, hall⟩ := hrel
    by_cases hlt : k < l.length
    · obtain ⟨g, cp, hv, c0, c1⟩ := HR.out.at hlt
      cases hv
      cases ho : l.getD k none with
      | none =>
        have hfr : fr l = k := fr_eq hlt (by rw [← getD_some hlt]; exact ho) (fun j hj => by rw [← getD_some (by omega)]; exact hall j hj)
        have hlt2 : fr l < l.length := by rw [hfr]; exact hlt
        have HE : Hid (fr l = k ∧ fr l < l.length) := ⟨hfr, hlt2⟩
        rw [ho] at c0
        simp only [Option.isSome_none] at c0
        clear hall ho c1 hfr hlt2
        go_wp2_with fail
        refine (HP.out k hlt).mono ?_
        rintro e w1 ⟨v', rfl, hR1, hF1⟩
        have HR1 := show Hid _ from (fun (_ : Unit) => hR1)
        have HF1 := show Hid _ from (fun (_ : Unit) => hF1)
        obtain ⟨ao', cap', hv'⟩ := slice_shape hR1.1
        rw [List.length_set] at hv'
        clear hR1 hF1
        subst hv'
        go_wp2
        obtain ⟨e1, e2⟩ := HE.out
        unfold tkI tkE tkL
        refine bodyPost_ret (v := .tuple #[.slice ao' l.length cap', .int .i64 (k : Int), .int .i64 0]) (by simp [results, Tryd.results30, go_sem]) rfl ⟨.slice ao' l.length cap', ?_, ?_, HF1.out ()⟩
        · rw [if_pos e2, if_pos e2, e1]
        · rw [if_pos e2, e1]; exact HR1.out ()
      | some y =>
        rw [ho] at c0
        simp only [Option.isSome_some] at c0
        have HA : Hid (∀ j, j < k + 1 → (l.getD j none).isSome = true) := fun j hj => by
          by_cases e : j = k
          · rw [e, ho]; rfl
          · exact hall j (by omega)
        clear hall ho c1
        go_wp2
        go_round
        case rel => exact ⟨k + 1, by omega, by go_num, HA.out⟩
        case measure => simp [intOf]; omega
    · obtain rfl : k = l.length := by omega
      have hnf : ¬ fr l < l.length := by
        intro e
        have h1 := hall (fr l) e
        have h2 := List.findIdx_getElem (p := Option.isNone) (xs := l) (w := e)
        rw [getD_some e] at h1
        have h3 : (l[fr l]).isNone = true := h2
        cases hh : l[fr l] with
        | none => rw [hh] at h1; simp at h1
        | some y => rw [hh] at h3; simp at h3
      have HN : Hid (¬ fr l < l.length) := hnf
      clear hall hnf
      go_wp2
      unfold tkI tkE tkL
      refine bodyPost_ret (v := .tuple #[.slice ao l.length cap, .int .i64 (-1), .int .i64 50]) (by simp [results, Tryd.results30, go_sem]) rfl ⟨.slice ao l.length cap, ?_, ?_, Kept.refl _ _⟩
      · rw [if_neg HN.out, if_neg HN.out]
      · rw [if_neg HN.out]; exact HR.out

theorem used_take (l : List (Option Int)) (k : Nat) (hk : k < l.length) : used (l.take (k + 1)) = used (l.take k) + (if (l.getD k none).isSome then 1 else 0) := by
  unfold used
  rw [List.take_succ_eq_append_getElem hk, List.countP_append, List.countP_singleton, getD_some hk]

set_option maxHeartbeats 1000000 in
theorem used_ref (v : Value) (l : List (Option Int)) (w : World) (h : RefAt w v l) :
    Calls Tryd.prog 11 #[v] w fun e w' => e = .returned (.int .i64 (used l : Int)) ∧ w' = w := by
  have hll := h.2
  obtain ⟨ao, cap, hv⟩ := slice_shape h.1
  have HR : Hid (RefAt w v l) := h
  clear h
  subst hv
  go_enter Tryd.func11, Tryd.ntmps11
  go_wp2
  go_loop [3, 4] (fun n i => ∃ k : Nat, k ≤ l.length ∧ i = .int .i64 (k : Int) ∧ n = .int .i64 (used (l.take k) : Int)) (fun _ i => l.length - (intOf i).toNat)
  case atStart => exact ⟨0, Nat.zero_le _, rfl, rfl⟩
  case round =>
    obtain ⟨k, hk, rfl, rfl⟩ := hrel
    by_cases hlt : k < l.length
    · obtain ⟨g, cp, hv, c0, c1⟩ := HR.out.at hlt
      cases hv
      have hu := used_take l k hlt
      have hul : used (l.take k) ≤ l.length := Nat.le_trans (used_le _) (by rw [List.length_take]; omega)
      have HU : Hid (used (l.take (k + 1)) = used (l.take k) + (if (l.getD k none).isSome then 1 else 0)) := hu
      clear hu c1
      generalize used (l.take k) = u at *
      cases ho : (l.getD k none).isSome with
      | true =>
        rw [ho] at c0
        have hu' : used (l.take (k + 1)) = u + 1 := by have := HU.out; rw [ho] at this; simpa using this
        have HU' : Hid (used (l.take (k + 1)) = u + 1) := hu'
        clear hu' ho
        go_wp2
        go_round
        case rel => exact ⟨k + 1, by omega, by go_num, by rw [HU'.out]; go_num⟩
        case measure => simp [intOf]; omega
      | false =>
        rw [ho] at c0
        have hu' : used (l.take (k + 1)) = u := by have := HU.out; rw [ho] at this; simpa using this
        have HU' : Hid (used (l.take (k + 1)) = u) := hu'
        clear hu' ho
        go_wp2
        go_round
        case rel => exact ⟨k + 1, by omega, by go_num, by rw [HU'.out]⟩
        case measure => simp [intOf]; omega
    · obtain rfl : k = l.length := by omega
      rw [List.take_length]
      go_wp2
      go_ret
      exact ⟨rfl, rfl⟩

set_option maxHeartbeats 1000000 in
theorem new_ref_bad (N : Int) (w : World) (h : ¬ (1 ≤ N ∧ N ≤ 65536)) :
    Calls Tryd.prog 19 #[.int .i64 N] w fun e w' => ∃ v, e = .returned (.tuple #[.slice v 0 0, .int .i64 1]) ∧ Fresh w w' := by
  by_cases h1 : N < 1
  · clear h
    go_enter Tryd.func19, Tryd.ntmps19
    go_wp2
    go_ret2
    first
      | exact ⟨_, rfl, (Kept.refl _ _).alloc _⟩
      | exact ⟨⟨_, rfl⟩, (Kept.refl _ _).alloc _⟩
  · have h2 : 65536 < N := by omega
    clear h
    go_enter Tryd.func19, Tryd.ntmps19
    go_wp2
    go_ret2
    first
      | exact ⟨_, rfl, (Kept.refl _ _).alloc _⟩
      | exact ⟨⟨_, rfl⟩, (Kept.refl _ _).alloc _⟩

set_option maxHeartbeats 1000000 in
set_option maxRecDepth 100000 in
theorem new_ref (N : Nat) (w : World) (h1 : 1 ≤ N) (h2 : N ≤ 65536) :
    Calls Tryd.prog 19 #[.int .i64 (N : Int)] w fun e w' => ∃ v, e = .returned (.tuple #[v, .int .i64 0]) ∧ RefAt w' v (List.replicate N none) ∧ Fresh w w' := by
  obtain ⟨i0, hi, hz0, hz1, hz2⟩ := info_parts Tryd.infoP
  have hE := ownP_empty w
  go_enter Tryd.func19, Tryd.ntmps19
  go_wp2
  go_loopw [4, 5] (fun s i wr => ∃ k : Nat, k ≤ N ∧ i = .int .i64 (k : Int) ∧ wr.ownsRow w.heap.size 66 2 s k (rV (List.replicate k none)) ∧ Fresh w wr) (fun _ i _ => N - (intOf i).toNat)
  case atStart => exact ⟨0, Nat.zero_le _, rfl, hE, (Kept.refl _ _).alloc _⟩
  case round =>
    obtain ⟨k, hk, rfl, hown, hF⟩ := hrel
    have hsz := hF.size
    by_cases hlt : k < N
    · clear hE
      generalize hX : rV (List.replicate k none) = X at *
      have HX : Hid (rV (List.replicate k none) = X) := hX
      clear hX
      go_wp2_with (at_builtin; refine wpList_append_lies _ rfl _ _ _ rfl w.heap.size 66 i0 _ 2 16 Tryd.underlying24 hi hz0 hz1 hz2 rfl (by omega) _ _ _ rfl (hown.alloc _) ⟨wr.heap.size, 0, none⟩ 1 1 [.bool false, .int .i64 0] rfl rfl (World.news_of_block (cs := #[.bool false, .int .i64 0]) (t := 66) (fr := (0, 0)) (heap_alloc_new wr _)) (by simp [Value.oneCell']) (by omega) (by unfold maxLen; omega) (by omega) (by simp; omega) (wr.heap.size + 1) (by simp) ?_; intro g2 cap2 w1 hown1 hgrow hat hlt2)
      have hF1 : Fresh w w1 := (hF.alloc _).grown hgrow (fun i hi e => by have := hown.lt i e; omega)
      have hX1 : rV (List.replicate (k + 1) none) = X ++ [.bool false, .int .i64 0] := by rw [List.replicate_succ', rV_snoc, HX.out]; rfl
      rw [← hX1] at hown1
      go_roundw
      case rel => exact ⟨k + 1, by omega, by go_num, hown1, hF1⟩
      case measure => simp [intOf]; omega
    · obtain rfl : k = N := by omega
      have HR : Hid _ := fun (_ : Unit) => hown
      obtain ⟨ao, cap, hv⟩ := slice_shape hown
      clear hown hE
      subst hv
      go_wp2
      go_ret2
      exact ⟨_, rfl, ⟨by rw [List.length_replicate]; exact owns_base (HR.out ()), by rw [List.length_replicate]; exact h2⟩, hF⟩

set_option maxHeartbeats 1000000 in
theorem begun_bad (N : Int) (w : World) (hT : Tab w) (h : ¬ (1 ≤ N ∧ N ≤ 65536)) :
    Calls Tryd.prog 9 #[.int .i64 N] w fun e w' => ∃ v, e = .returned (.tuple #[.pointer none, .slice v 0 0, .bool false, .bool true]) ∧ Fresh w w' := by
  have HB : Hid (∀ W, Fresh w W → Tab W) := fun W hk => hT.kept hk (fun e => e)
  have h1 := fun (_ : Unit) => new_bad N w h
  have H1 := show Hid _ from h1
  have h2 := fun (_ : Unit) => new_ref_bad N w h
  have H2 := show Hid _ from h2
  clear h1 h2 h hT
  go_enter Tryd.func9, Tryd.ntmps9
  go_wp2_with fail
  refine (H1.out ()).mono ?_
  rintro e w' ⟨rfl, rfl⟩
  go_wp2_with fail
  refine (H2.out ()).mono ?_
  rintro e w1 ⟨v, rfl, hF1⟩
  go_wp2_with fail
  refine (awake_any _ (HB.out _ hF1)).mono ?_
  rintro e w2 ⟨rfl, hF2⟩
  go_wp2
  exact bodyPost_ret (v := .tuple #[.pointer none, .slice v 0 0, .bool false, .bool true]) (by simp [results, Tryd.results9, go_sem]) rfl ⟨_, rfl, hF1.trans hF2 (fun _ _ e => e)⟩

set_option maxHeartbeats 1000000 in
theorem begun_any (N : Nat) (w : World) (hT : Tab w) (h1 : 1 ≤ N) (h2 : N ≤ 65536) :
    Calls Tryd.prog 9 #[.int .i64 (N : Int)] w fun e w' => ∃ v, e = .returned (.tuple #[.pointer (some ⟨w.heap.size, 0, none⟩), v, .bool true, .bool true]) ∧
      PoolAt w' (only w.heap.size) w.heap.size (List.replicate N none) ∧ RefAt w' v (List.replicate N none) ∧ Fresh w w' := by
  have HB : Hid (∀ W, Fresh w W → Tab W) := fun W hk => hT.kept hk (fun e => e)
  have hp := hT.pos
  go_enter Tryd.func9, Tryd.ntmps9
  go_wp2_with fail
  refine (new_any N _ hp h1 h2).mono ?_
  rintro e w1 ⟨rfl, hP1, hF1⟩
  go_wp2_with fail
  refine (new_ref N _ h1 h2).mono ?_
  rintro e w2 ⟨v, rfl, hR2, hF2⟩
  obtain ⟨ao, cap, hv⟩ := slice_shape hR2.1
  rw [List.length_replicate] at hv
  have hF02 := hF1.trans hF2 (fun _ _ e => e)
  have HP : Hid _ := fun (_ : Unit) => hP1.kept hF2 (fun _ _ e => e)
  have HR : Hid _ := fun (_ : Unit) => hR2
  clear hP1 hR2
  subst hv
  go_wp2_with fail
  refine (awake_any _ (HB.out _ hF02)).mono ?_
  rintro e w3 ⟨rfl, hF3⟩
  go_wp2
  exact bodyPost_ret (v := .tuple #[.pointer (some ⟨w.heap.size, 0, none⟩), .slice ao N cap, .bool true, .bool true]) (by simp [results, Tryd.results9, go_sem]) rfl ⟨_, rfl, (HP.out ()).kept hF3 (fun _ _ e => e), (HR.out ()).fresh hF3, hF02.trans hF3 (fun _ _ e => e)⟩
end Go.Proofs.YtomikgnifbgfiaaDoor
