/-
  For every text s and every script of Ops the statement WireReads answers true: every call on a reader of any text, in every order, answers as the document's; its card, tied to the program's text.
-/
import Derived.Test.YtcdgphneljgooaaDoorSiz
import Derived.Test.YtcdgphneljgooaaDoorRe
import Derived.Deep.Slices
import Derived.SizedLaws
namespace Go.Proofs.YtcdgphneljgooaaDoor.Reads
open Go.ChangeShapes Go.WideShapes Go.ChangeAt Go.RowKit

/-- The Ops of a script lie in memory, below block B. -/
def ScriptAt (B : Nat) (w : World) (v : Value) (l : List OpD) : Prop :=
  ∃ ao cap, v = .slice ao l.length cap ∧ l.length ≤ 140737488351232 ∧ (l ≠ [] → ∃ b off, ao = some ⟨b, off, none⟩ ∧ b < B ∧ b < w.heap.size ∧ ∀ i (h : i < l.length),
    w.cell? ⟨b, off + i * 5, none⟩ = some (.int .i64 l[i].k) ∧ w.cell? ⟨b, off + i * 5 + 1, none⟩ = some (.int .i64 l[i].n) ∧ w.cell? ⟨b, off + i * 5 + 2, none⟩ = some (.int .i64 l[i].b) ∧
    w.cell? ⟨b, off + i * 5 + 3, none⟩ = some l[i].rv ∧ w.cell? ⟨b, off + i * 5 + 4, none⟩ = some (.string l[i].s)) ∧ ∀ o ∈ l, ∃ ao ln cp, o.rv = .slice ao ln cp

theorem script_at {H : Type} {enc : TypeId × Value → H} {W : World} {fuel : Nat} {v : Value} {x : DataW H × List MemPlace} (h : DataW.trod enc Tryd.prog W 0 (fun _ => true) true fuel 28 [v] = some x) (hsz : ∀ es sp, x.1 = .slice es sp → es.length ≤ 140737488351232) :
    ∃ l : List OpD, ScriptAt W.heap.size W v l := by
  rcases Go.Deep.open_slice Tryd.underlying28 h with ⟨hcs, hx⟩ | ⟨a, len, cap, m, n, D, Pl, hcs, _, hl, hmx, hm, hx, hel⟩
  · exact ⟨[], none, 0, by simpa using hcs, by simp, fun e => absurd rfl e, by simp⟩
  · simp only [if_true] at hm
    subst hm
    rw [Tryd.cOp] at hel
    have hlen : len ≤ 140737488351232 := by
      have := hsz _ _ (by rw [hx])
      rw [List.length_map, List.length_range] at this
      exact this
    have build : ∀ k, k ≤ len → ∃ l : List OpD, l.length = k ∧ ∀ i (hi : i < l.length), W.cells? 0 (a.add (i * 5)) 5 = some [.int .i64 l[i].k, .int .i64 l[i].n, .int .i64 l[i].b, l[i].rv, .string l[i].s] ∧ ∃ ao ln cp, l[i].rv = .slice ao ln cp := by
      intro k
      induction k with
      | zero => intro _; exact ⟨[], rfl, fun i hi => by simp at hi⟩
      | succ k ih =>
        intro hk
        obtain ⟨l, hlk, hcl⟩ := ih (by omega)
        obtain ⟨cs', hc, ht⟩ := hel k (by omega)
        obtain ⟨k', n', b', v3, s', m', y3, hcs', _, _, _, h3, _, _⟩ := op_parts ht
        obtain ⟨ao, ln, cp, hv3⟩ := row_shape h3
        refine ⟨l ++ [⟨k', n', b', v3, [], s'⟩], by simp [hlk], fun i hi => ?_⟩
        by_cases hik : i < l.length
        · rw [List.getElem_append_left hik]
          exact hcl i hik
        · have hie : i = l.length := by simp at hi; omega
          subst hie
          rw [List.getElem_concat_length rfl]
          rw [hlk, hc, hcs']
          exact ⟨rfl, ao, ln, cp, hv3⟩
    obtain ⟨l, hll, hcl⟩ := build len (Nat.le_refl _)
    refine ⟨l, some a, m, by rw [hll]; simpa using hcs, by omega, fun hne => ?_, fun o ho => ?_⟩
    · have hpos : 0 < l.length := List.length_pos_iff.2 hne
      obtain ⟨b, off, spot⟩ := a
      have h0 := (World.cells?_some (hcl 0 hpos).1).2.2 0 (by omega)
      have hspot : spot = none := by simpa [Addr.add] using World.cell?_spot h0
      subst hspot
      have hb0 := World.block_lt_of_cell? W _ h0
      refine ⟨b, off, rfl, by simpa [Addr.add] using hb0, by simpa [Addr.add] using hb0, fun i hi => ?_⟩
      have hc := (World.cells?_some (hcl i hi).1).2.2
      have c0 := hc 0 (by omega)
      have c1 := hc 1 (by omega)
      have c2 := hc 2 (by omega)
      have c3 := hc 3 (by omega)
      have c4 := hc 4 (by omega)
      simp only [Addr.add_lit] at c0 c1 c2 c3 c4
      exact ⟨c0, c1, c2, c3, c4⟩
    · obtain ⟨i, hi, rfl⟩ := List.getElem_of_mem ho
      exact (hcl i hi).2

/-- What holds between two rounds. -/
def Rel (s : ByteArray) (l : List OpD) (w : World) (rb mb : Nat) (c : Value) (wr : World) : Prop :=
  ∃ j : Nat, j ≤ l.length ∧ c = .int .i64 j ∧ ∃ i : Nat, RdAt wr rb s i ∧ wr.heap[mb]? = some (.cells #[.string s, .int .i64 i] 51 (0, 0)) ∧ Fresh w wr

set_option maxHeartbeats 1000000 in
theorem walk (s : ByteArray) (v : Value) (l : List OpD) (w : World) (hz : Siz w) (hs : s.size ≤ 140737488351232) (hsc : ScriptAt w.heap.size w v l) :
    Calls Tryd.prog 6 #[.string s, v] w fun e w' => e = .returned (.bool true) ∧ Fresh w w' := by
  obtain ⟨ao, cap, rfl, hlen, hcell, hfits⟩ := hsc
  go_enter Tryd.func6, Tryd.ntmps6
  go_wp2_with fail
  refine (newReader_any s _ (by omega)).mono ?_
  rintro e w1 ⟨rb, rfl, hrb, hr1, hk1⟩
  have hs1 : Siz w1 := hz.kept hk1 (fun e => e)
  go_wp2_with fail
  refine (awake_any _ hs1).mono ?_
  rintro e w2 ⟨rfl, hk2⟩
  have hr2 := hr1.kept hk2 (fun e => e)
  have hf2 : Fresh w w2 := hk1.trans hk2 (fun _ _ e => e)
  have hrb2 := lt_of_heap hr2.1
  go_wp2
  go_loopw [7] (fun c wr => Rel s l w rb w2.heap.size c wr) (fun c _ => l.length - (intOf c).toNat)
  case atStart => exact ⟨0, Nat.zero_le _, rfl, 0, hr2.kept ((Kept.refl (fun _ => False) w2).alloc _) (fun e => e), heap_alloc_new w2 _, hf2.alloc _⟩
  case round =>
    obtain ⟨j, hj, rfl, i, hr, hm, hfr⟩ := hrel
    by_cases hlt : j < l.length
    · obtain ⟨ob, off, rfl, hob, hob2, hcl⟩ := hcell (fun e => by rw [e] at hlt; simp at hlt)
      obtain ⟨rao, rln, rcp, hrv⟩ := hfits l[j] (List.getElem_mem hlt)
      obtain ⟨c0, c1, c2, c3, c4⟩ := hcl j hlt
      rw [hrv] at c3
      generalize l[j].k = ok at *
      generalize l[j].n = on at *
      generalize l[j].b = obt at *
      generalize l[j].s = tx at *
      have e : ∀ i, wr.cell? ⟨ob, i, none⟩ = w.cell? ⟨ob, i, none⟩ := fun i => hfr.cell (p := ⟨ob, i, none⟩) hob2 (fun e => e)
      rw [← e] at c0 c1 c2 c3 c4
      clear e hcl hcell hfits hrv
      obtain ⟨m0, m1, mf0, mf1⟩ := cells2 hm
      have hmb := lt_of_heap hm
      have hobw : ob < wr.heap.size := Nat.lt_of_lt_of_le hob2 hfr.size
      have hj0 : (0 : Int) ≤ (j : Int) := by omega
      have hj1 : (j : Int) < (l.length : Int) := by omega
      have hzr : Siz wr := hz.kept hfr (fun e => e)
      have hne : w2.heap.size ≠ rb := by omega
      have hno : ob ≠ rb := by omega
      have hrd : ∀ W, Fresh wr W → Calls Tryd.prog 25 #[.pointer (some ⟨rb, 0, none⟩), .agg #[.string s, .int .i64 i], .agg #[.int .i64 ok, .int .i64 on, .int .i64 obt, .slice rao rln rcp, .string tx]] W fun e W' => ∃ i', e = .returned (.tuple #[rdV s i', .bool true]) ∧ RdAt W' rb s i' ∧ Kept (only rb) W W' ∧ W'.heap[w2.heap.size]? = some (.cells #[.string s, .int .i64 i] 51 (0, 0)) ∧ Fresh w W' ∧ w2.heap.size < W'.heap.size ∧ ob < W'.heap.size ∧ W'.cell? ⟨w2.heap.size, 0, none⟩ = some (.string s) ∧ W'.cell? ⟨w2.heap.size, 1, none⟩ = some (.int .i64 i) ∧ W'.cell? ⟨ob, off + j * 5, none⟩ = some (.int .i64 ok) ∧ W'.cell? ⟨ob, off + j * 5 + 1, none⟩ = some (.int .i64 on) ∧ W'.cell? ⟨ob, off + j * 5 + 2, none⟩ = some (.int .i64 obt) ∧ W'.cell? ⟨ob, off + j * 5 + 3, none⟩ = some (.slice rao rln rcp) ∧ W'.cell? ⟨ob, off + j * 5 + 4, none⟩ = some (.string tx) := fun W hW => by
        refine (read_any rb s i ok on obt rao rln rcp tx W (hzr.kept hW (fun e => e)) (hr.kept hW (fun e => e)) hs).mono ?_
        rintro e W' ⟨i', rfl, hr', hk'⟩
        have hm' := hk'.at (hW.at hm (fun e => e)) hne
        obtain ⟨n0, n1, _, _⟩ := cells2 hm'
        have hfW : Fresh w W := hfr.trans hW (fun _ _ e => e)
        have ec : ∀ t, W'.cell? ⟨ob, t, none⟩ = wr.cell? ⟨ob, t, none⟩ := fun t => (hk'.cell (p := ⟨ob, t, none⟩) (Nat.lt_of_lt_of_le hobw hW.size) hno).trans (hW.cell (p := ⟨ob, t, none⟩) hobw (fun e => e))
        exact ⟨i', rfl, hr', hk', hm', hfW.trans hk' (fun k hk e => by have e' : k = rb := e; omega), lt_of_heap hm', Nat.lt_of_lt_of_le (Nat.lt_of_lt_of_le hobw hW.size) hk'.size, n0, n1, (ec _).trans c0, (ec _).trans c1, (ec _).trans c2, (ec _).trans c3, (ec _).trans c4⟩
      have HRD := show Hid _ from hrd
      clear hrd
      have hko : ∀ (k : Nat), k ≠ wr.heap.size → ∀ (W : World) (v u : Value) (t : Nat), ((W.setCell ⟨wr.heap.size, 0, none⟩ v).setCell ⟨wr.heap.size, 1, none⟩ u).cell? ⟨k, t, none⟩ = W.cell? ⟨k, t, none⟩ := fun k hk W v u t =>
        World.cell?_of_block (w := W) (a := ⟨k, t, none⟩) ((Below.heap_setCell _ ⟨wr.heap.size, 1, none⟩ u k hk).trans (Below.heap_setCell W ⟨wr.heap.size, 0, none⟩ v k hk))
      have hko1 := hko w2.heap.size (by omega)
      have hko2 := hko ob (by omega)
      have HKO := show Hid _ from hko
      clear hko
      go_wp2_with fail
      go_region_held3 (fun W' => W'.cell? ⟨w2.heap.size, 0, none⟩ = some (.string s) ∧ W'.cell? ⟨w2.heap.size, 1, none⟩ = some (.int .i64 i) ∧ W'.cell? ⟨ob, off + j * 5, none⟩ = some (.int .i64 ok) ∧ W'.cell? ⟨ob, off + j * 5 + 1, none⟩ = some (.int .i64 on) ∧ W'.cell? ⟨ob, off + j * 5 + 2, none⟩ = some (.int .i64 obt) ∧ W'.cell? ⟨ob, off + j * 5 + 3, none⟩ = some (.slice rao rln rcp) ∧ W'.cell? ⟨ob, off + j * 5 + 4, none⟩ = some (.string tx)) (first | exact hS' | go_keep | (simp only [hko1, hko2]; exact hS')) (first | (go_at_call 25; refine (HRD.out _ (by first | exact (Kept.refl _ _).drew | exact ((Kept.refl _ _).alloc _).drew)).mono ?_; rintro e W' ⟨i', rfl, hr', hk', hm', hf', hl1', hl2', hS'⟩; (try (have d8 := hk'.at (heap_alloc_new wr _) (by show ¬ _ = rb; omega); obtain ⟨t0, t1, tf0, tf1⟩ := cells2 d8))))
      · clear m0 m1 mf0 mf1 c0 c1 c2 c3 c4
        have hkY : Kept (only w2.heap.size) W' (((W'.setCell ⟨w2.heap.size, 0, none⟩ (.string s)).setCell ⟨w2.heap.size, 1, none⟩ (.int .i64 (i' : Int))).alloc (.cells #[.string s, .int .i64 (i' : Int)] 51)) := (((Kept.refl (only w2.heap.size) W').setCell (p := ⟨w2.heap.size, 0, none⟩) (fun _ => rfl) _).setCell (p := ⟨w2.heap.size, 1, none⟩) (fun _ => rfl) _).alloc _
        have hY1 : RdAt (((W'.setCell ⟨w2.heap.size, 0, none⟩ (.string s)).setCell ⟨w2.heap.size, 1, none⟩ (.int .i64 (i' : Int))).alloc (.cells #[.string s, .int .i64 (i' : Int)] 51)) rb s i' := hr'.kept hkY (fun e => hne e.symm)
        have hY2 : (((W'.setCell ⟨w2.heap.size, 0, none⟩ (.string s)).setCell ⟨w2.heap.size, 1, none⟩ (.int .i64 (i' : Int))).alloc (.cells #[.string s, .int .i64 (i' : Int)] 51)).heap[w2.heap.size]? = some (.cells #[.string s, .int .i64 (i' : Int)] 51 (0, 0)) := (Below.heap_alloc _ _ _ (lt_of_heap (set2 hm'))).trans (set2 hm')
        have hY3 : Fresh w (((W'.setCell ⟨w2.heap.size, 0, none⟩ (.string s)).setCell ⟨w2.heap.size, 1, none⟩ (.int .i64 (i' : Int))).alloc (.cells #[.string s, .int .i64 (i' : Int)] 51)) := hf'.trans hkY (fun k hk e => by have e' : k = w2.heap.size := e; have := hf2.size; omega)
        obtain ⟨m0', m1', mf0', mf1'⟩ := cells2 hm'
        have hi' := hr'.2.1
        have hsub : ((s.size - i' : Nat) : Int) = (s.size : Int) - (i' : Int) := by omega
        clear HRD HKO hko1 hko2 hS'
        by_cases hend : i' = s.size
        · have hend' : ((i' : Int) == (s.size : Int)) = true := by simp [hend]
          have hif : (if i' = s.size then (0 : Int) else 13) = 0 := if_pos hend
          clear hend
          go_wp2_with fail
          generalize (((W'.setCell ⟨w2.heap.size, 0, none⟩ (.string s)).setCell ⟨w2.heap.size, 1, none⟩ (.int .i64 (i' : Int))).alloc (.cells #[.string s, .int .i64 (i' : Int)] 51)) = Y at *
          obtain ⟨u0, u1, _, _⟩ := cells2 hY2
          have q0 := hY1.c0
          have q1 := hY1.c1
          go_quiet ((first | (go_at_call 26; exact Calls.quiet_of_same (rat_any rb s i' _ (hY1.drewN _))) | (go_at_call 27; exact Calls.quiet_of (rleft_any rb s i' _ (hY1.drewN _))) | (go_at_call 28; exact Calls.quiet_of (rend_any rb s i' _ (hY1.drewN _)))))
          go_wp2
          go_roundw
          case rel => exact ⟨j + 1, by omega, by go_num, i', hY1.drewN _, hY2, hY3.drewN _⟩
          case measure => simp [intOf]; omega
        · have hend' : ((i' : Int) == (s.size : Int)) = false := by simp; omega
          have hif : (if i' = s.size then (0 : Int) else 13) = 13 := if_neg hend
          clear hend
          go_wp2_with fail
          generalize (((W'.setCell ⟨w2.heap.size, 0, none⟩ (.string s)).setCell ⟨w2.heap.size, 1, none⟩ (.int .i64 (i' : Int))).alloc (.cells #[.string s, .int .i64 (i' : Int)] 51)) = Y at *
          obtain ⟨u0, u1, _, _⟩ := cells2 hY2
          have q0 := hY1.c0
          have q1 := hY1.c1
          go_quiet ((first | (go_at_call 26; exact Calls.quiet_of_same (rat_any rb s i' _ (hY1.drewN _))) | (go_at_call 27; exact Calls.quiet_of (rleft_any rb s i' _ (hY1.drewN _))) | (go_at_call 28; exact Calls.quiet_of (rend_any rb s i' _ (hY1.drewN _)))))
          go_wp2
          go_roundw
          case rel => exact ⟨j + 1, by omega, by go_num, i', hY1.drewN _, hY2, hY3.drewN _⟩
          case measure => simp [intOf]; omega
      · clear m0 m1 mf0 mf1 c0 c1 c2 c3 c4
        have hmm := set_other (v := .int .i64 (i' : Int)) (p := ⟨wr.heap.size, 1, none⟩) (set_other (v := .string s) (p := ⟨wr.heap.size, 0, none⟩) hm' (by show w2.heap.size ≠ wr.heap.size; omega)) (by show w2.heap.size ≠ wr.heap.size; omega)
        have hkY : Kept (fun k => k = w2.heap.size ∨ k = wr.heap.size) W' ((((W'.setCell ⟨wr.heap.size, 0, none⟩ (.string s)).setCell ⟨wr.heap.size, 1, none⟩ (.int .i64 (i' : Int))).setCell ⟨w2.heap.size, 0, none⟩ (.string s)).setCell ⟨w2.heap.size, 1, none⟩ (.int .i64 (i' : Int))) := ((((Kept.refl (fun k => k = w2.heap.size ∨ k = wr.heap.size) W').setCell (p := ⟨wr.heap.size, 0, none⟩) (fun _ => .inr rfl) _).setCell (p := ⟨wr.heap.size, 1, none⟩) (fun _ => .inr rfl) _).setCell (p := ⟨w2.heap.size, 0, none⟩) (fun _ => .inl rfl) _).setCell (p := ⟨w2.heap.size, 1, none⟩) (fun _ => .inl rfl) _
        have hY1 : RdAt ((((W'.setCell ⟨wr.heap.size, 0, none⟩ (.string s)).setCell ⟨wr.heap.size, 1, none⟩ (.int .i64 (i' : Int))).setCell ⟨w2.heap.size, 0, none⟩ (.string s)).setCell ⟨w2.heap.size, 1, none⟩ (.int .i64 (i' : Int))) rb s i' := hr'.kept hkY (fun e => by rcases e with e | e; exact hne e.symm; omega)
        have hY2 : ((((W'.setCell ⟨wr.heap.size, 0, none⟩ (.string s)).setCell ⟨wr.heap.size, 1, none⟩ (.int .i64 (i' : Int))).setCell ⟨w2.heap.size, 0, none⟩ (.string s)).setCell ⟨w2.heap.size, 1, none⟩ (.int .i64 (i' : Int))).heap[w2.heap.size]? = some (.cells #[.string s, .int .i64 (i' : Int)] 51 (0, 0)) := set2 hmm
        have hY3 : Fresh w ((((W'.setCell ⟨wr.heap.size, 0, none⟩ (.string s)).setCell ⟨wr.heap.size, 1, none⟩ (.int .i64 (i' : Int))).setCell ⟨w2.heap.size, 0, none⟩ (.string s)).setCell ⟨w2.heap.size, 1, none⟩ (.int .i64 (i' : Int))) := hf'.trans hkY (fun k hk e => by have h2 := hf2.size; have h3 := hfr.size; rcases e with e | e <;> omega)
        clear hmm
        obtain ⟨m0', m1', mf0', mf1'⟩ := cells2 hm'
        have hi' := hr'.2.1
        have hsub : ((s.size - i' : Nat) : Int) = (s.size : Int) - (i' : Int) := by omega
        clear HRD HKO hko1 hko2 hS'
        by_cases hend : i' = s.size
        · have hend' : ((i' : Int) == (s.size : Int)) = true := by simp [hend]
          have hif : (if i' = s.size then (0 : Int) else 13) = 0 := if_pos hend
          clear hend
          go_wp2_with fail
          generalize ((((W'.setCell ⟨wr.heap.size, 0, none⟩ (.string s)).setCell ⟨wr.heap.size, 1, none⟩ (.int .i64 (i' : Int))).setCell ⟨w2.heap.size, 0, none⟩ (.string s)).setCell ⟨w2.heap.size, 1, none⟩ (.int .i64 (i' : Int))) = Y at *
          obtain ⟨u0, u1, _, _⟩ := cells2 hY2
          have q0 := hY1.c0
          have q1 := hY1.c1
          go_quiet ((first | (go_at_call 26; exact Calls.quiet_of_same (rat_any rb s i' _ (hY1.drewN _))) | (go_at_call 27; exact Calls.quiet_of (rleft_any rb s i' _ (hY1.drewN _))) | (go_at_call 28; exact Calls.quiet_of (rend_any rb s i' _ (hY1.drewN _)))))
          go_wp2
          go_roundw
          case rel => exact ⟨j + 1, by omega, by go_num, i', hY1.drewN _, hY2, hY3.drewN _⟩
          case measure => simp [intOf]; omega
        · have hend' : ((i' : Int) == (s.size : Int)) = false := by simp; omega
          have hif : (if i' = s.size then (0 : Int) else 13) = 13 := if_neg hend
          clear hend
          go_wp2_with fail
          generalize ((((W'.setCell ⟨wr.heap.size, 0, none⟩ (.string s)).setCell ⟨wr.heap.size, 1, none⟩ (.int .i64 (i' : Int))).setCell ⟨w2.heap.size, 0, none⟩ (.string s)).setCell ⟨w2.heap.size, 1, none⟩ (.int .i64 (i' : Int))) = Y at *
          obtain ⟨u0, u1, _, _⟩ := cells2 hY2
          have q0 := hY1.c0
          have q1 := hY1.c1
          go_quiet ((first | (go_at_call 26; exact Calls.quiet_of_same (rat_any rb s i' _ (hY1.drewN _))) | (go_at_call 27; exact Calls.quiet_of (rleft_any rb s i' _ (hY1.drewN _))) | (go_at_call 28; exact Calls.quiet_of (rend_any rb s i' _ (hY1.drewN _)))))
          go_wp2
          go_roundw
          case rel => exact ⟨j + 1, by omega, by go_num, i', hY1.drewN _, hY2, hY3.drewN _⟩
          case measure => simp [intOf]; omega
    · go_wp2
      go_ret
      exact ⟨rfl, hfr⟩

theorem bytesOp : Tryd.prog.bytesOf 33 = 64 := by kernel_rfl

theorem contract (H : Type) (enc : TypeId × Value → H) (W : World) (base : Nat) (args : Array Value) (ds gs : List (DataW H)) (before : List MemPlace)
    (hval : ∀ (j : Nat) t v, Tryd.f6.params[j]? = some t → args[j]? = some v → Value.okWide Tryd.prog W .any base t v)
    (hW : DataW.Whole enc Tryd.prog Tryd.f6.params.toList Rows.wireReadsSpec.vars false W args.toList ds gs before) 
    (hsz : (DataW.weightsEach Tryd.prog (Tryd.f6.params.toList ++ []) (ds ++ gs)).all (· ≤ reachBytes) = true) (hL : laidMetH Tryd.prog Rows.wireReadsRow.laid W) :
    Calls Tryd.prog 6 args W fun e W' => ∃ v, e = .returned v ∧ Rows.wireReadsSpec.post enc Tryd.prog Tryd.f6 false true false false W args v W' := by
  have hW' := hW
  obtain ⟨p, q, hA0, hV, rfl, hfz, hnd⟩ := hW
  have hA : DataW.TrodAll enc Tryd.prog W 0 (fun _ => true) true Tryd.f6.params.toList args.toList ds p := hA0
  rw [Tryd.params6] at hA hval hsz
  obtain ⟨rfl, rfl⟩ := trodVars_none hV
  obtain ⟨v0, v1, d0, d1, p0, p1, rfl, rfl, rfl, h0, h1⟩ := trodAll_two hA
  obtain ⟨s, rfl, rfl, rfl, hs⟩ := Go.ChangeMaps.open_string Tryd.underlying9 (hval 0 9 v0 rfl rfl) h0
  obtain ⟨ao, ln, cap, rfl⟩ := okWide_slice Tryd.underlying28 (hval 1 28 v1 rfl rfl)
  obtain ⟨fuel, hf⟩ := h1
  have hss : s.size ≤ 140737488351232 := by
    have := sized_string hsz (j := 0) (t := 9) rfl rfl
    rw [Lib.size_eq]
    simpa [reachBytes] using this
  obtain ⟨l, hl⟩ := script_at hf (fun es sp e => by
    have e' : d1 = .slice es sp := e
    subst e'
    have := sized_slice hsz (j := 1) (t := 28) (e := 33) rfl rfl Tryd.underlying28
    rw [bytesOp] at this
    simp only [reachBytes] at this
    omega)
  refine (walk s _ l W (siz_of_laid hL) hss hl).mono fun e W' ⟨he, hk⟩ => ?_
  subst he
  exact ⟨_, rfl, post_law rfl (by kernel_rfl) (by kernel_rfl) hW' rfl hk⟩

theorem laid_met (os : Os) : laidMet Tryd.prog Rows.wireReadsRow.laid ((layIn (World.holding Tryd.prog os ⟨#[], #[], []⟩)).forCall (fun _ _ => 0) ⟨#[], #[.string ⟨#[]⟩, .slice none 0 0], []⟩).memory :=
  laidMet_of_run' 8 (by kernel_rfl) (by kernel_rfl)
theorem reads (os : Os) {H : Type} (enc : TypeId × Value → H) : ∃ places, DataW.whole enc Tryd.prog ((layIn (World.holding Tryd.prog os ⟨#[], #[], []⟩)).forCall (fun _ _ => 0) ⟨#[], #[.string ⟨#[]⟩, .slice none 0 0], []⟩).memory Tryd.f6.params.toList Rows.wireReadsSpec.vars false (#[.string ⟨#[]⟩, .slice none 0 0] : Array Value).toList 8 = some ([.lit (.string []), .nil], [], places) :=
  ⟨[], by kernel_rfl⟩

set_option maxRecDepth 100000 in
theorem lifted (os : Os) (started : os.Started) (H : Type) (enc : TypeId × Value → H) (F : Stop.Interp) :
    ReturnsInHanded {} Tryd.checked os 6 .any ((OpenSpec.ofChange Rows.wireReadsSpec).preRow enc Tryd.prog Tryd.f6 Rows.wireReadsRow.domain false Rows.wireReadsRow.laid) (((OpenSpec.ofChange Rows.wireReadsSpec).at F).post enc Tryd.prog Tryd.f6 false true false false) := by
  obtain ⟨places, hx⟩ := reads os enc
  refine returnsInHanded_of_row (C := Tryd.checked) (s := OpenSpec.ofChange Rows.wireReadsSpec) Tryd.own started (by kernel_rfl) Tryd.func6
    (witness_row_at (enc := enc) (C := Tryd.checked) false (layIn (World.holding Tryd.prog os ⟨#[], #[], []⟩)) #[.string ⟨#[]⟩, .slice none 0 0] rfl (by kernel_rfl) (by kernel_rfl) (by kernel_rfl)
      (OpenSpec.preRow_of_cond 8 hx (by kernel_rfl) (fun k hk => by cases hk) (by kernel_rfl) (laid_met os))) ?_
  intro W base args ds gs before hval hW _ hc hsz hL _ _
  exact contract H enc W base args ds gs before hval hW hsz hL

theorem said : Rows.WireReadsSaid :=
  OpenClaim.holds_of_cond 6 Tryd.f6 rfl rfl rfl rfl rfl rfl rfl ⟨rfl, rfl, rfl, rfl, rfl⟩ rfl rfl rfl rfl rfl (by kernel_rfl) Tryd.func6 (by kernel_rfl)
    (of_decide_eq_true (by kernel_rfl)) (by unfold Func.isWrapper; first | (rw [if_pos (by decide +kernel)]; kernel_rfl) | (rw [if_neg (by decide +kernel)]; exact ⟨rfl, rfl⟩))
    (fun os started H enc _ F => by rw [OpenClaim.pre_eq_preRow]; exact lifted os started H enc F)

theorem plain (f : FuncId) (fn : Func) (hf : Tryd.pinned.checked.prog.funcNamed Rows.wireReadsRow.func = some f) (hfn : Tryd.pinned.checked.prog.funcs[f]? = some fn) :
    false = Tryd.pinned.checked.prog.looks [] ∧ ∀ (j : Nat) t, fn.params[j]? = some t → Tryd.pinned.checked.prog.wantsStandIn t = false := by
  obtain rfl : f = 6 := Option.some.inj ((show Tryd.prog.funcNamed Rows.wireReadsRow.func = some 6 by kernel_rfl).symm.trans hf) |>.symm
  obtain rfl : fn = Tryd.f6 := (Option.some.inj (Tryd.func6.symm.trans hfn)).symm
  refine ⟨by kernel_rfl, fun j t ht => ?_⟩
  have hall : (Tryd.f6.params.toList.all fun u => !Tryd.prog.wantsStandIn u) = true := by kernel_rfl
  exact (show Tryd.prog.wantsStandIn t = false by simpa using List.all_eq_true.1 hall t (Array.mem_toList_iff.2 (Array.mem_of_getElem? ht)))

theorem card : Rows.WireReadsCardSaid :=
  Claim7.holds_tied_plain_at .later [] _ _ _ _ said (fun _ h => by cases h) (by kernel_rfl) (fun _ h => by cases h) wireReads_row_tie rfl ⟨rfl, rfl⟩ (by kernel_rfl) rfl plain (by kernel_rfl)

end Go.Proofs.YtcdgphneljgooaaDoor.Reads
namespace Go.Proofs.YtcdgphneljgooaaDoor
theorem wireReads_card : Rows.WireReadsCardSaid := Reads.card
end Go.Proofs.YtcdgphneljgooaaDoor
