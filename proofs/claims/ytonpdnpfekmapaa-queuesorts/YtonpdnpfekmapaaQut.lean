/-
  New, Put, Pop, Get, Remove, Clear of a queue.
-/
import Derived.Test.YtonpdnpfekmapaaQus
namespace Go.Proofs.Ytonpdnpfekmapaa
open Go.RowKit Go.Lib Go.Maps

theorem QM.setq {w w' : World} {qb N : Nat} {lv : Value} {M tk ar tk' ar' : Nat} {R : List Run} (h : QM w qb N lv M R tk ar) (hk : Kept (fun k => k = qb) w w') (hq : QB w' qb N lv M tk' ar') (h1 : tk ≤ tk') (h2 : ar ≤ ar') : QM w' qb N lv M R tk' ar' := by
  have hn : ∀ k, LF lv R k → k ≠ qb := fun k e e1 => h.blk.not_lf h.ln (e1 ▸ e)
  exact ⟨hq, ⟨owns_kept h.ln.own hk (fun k e => hn k (.inl e)), fun r hr => owns_kept (h.ln.run r hr) hk (fun k e => hn k (.inr ⟨r, hr, e⟩)), h.ln.ne, h.ln.nd, fun r hr x hx => (h.ln.el r hr x hx).kept hk ((h.ln.el r hr x hx).not_qb h.blk)⟩, h.map.kept hk (fun e => h.map.not_cells h.blk e.symm), h.sd, h.tn, fun x hx => ⟨by have := (h.bd x hx).1; omega, by have := (h.bd x hx).2; omega⟩, h.le⟩
theorem qb_set3 {w : World} {qb N : Nat} {lv : Value} {M tk ar : Nat} (h : QB w qb N lv M tk ar) (t : Nat) : QB (w.setCell ⟨qb, 3, none⟩ (nV t)) qb N lv M t ar := Lib.heap_setCell_same h _ (i := 3)
theorem qb_set4 {w : World} {qb N : Nat} {lv : Value} {M tk ar : Nat} (h : QB w qb N lv M tk ar) (t : Nat) : QB (w.setCell ⟨qb, 4, none⟩ (nV t)) qb N lv M tk t := Lib.heap_setCell_same h _ (i := 4)

theorem arrival_any (qb N : Nat) (lv : Value) (M tk ar : Nat) (w : World) (hq : QB w qb N lv M tk ar) (ha : ar < 4611686018427387904) :
    Calls Try.prog 66 #[qV qb] w fun q w' => q = .returned (nV (ar + 1)) ∧ w' = w.setCell ⟨qb, 4, none⟩ (nV (ar + 1)) := by
  obtain ⟨_, _, _, _, c4⟩ := hq.cells
  have f4 := hq.frozen 4
  have c5 := (qb_set4 hq (ar + 1)).cells.2.2.2.2
  have e1 : IntKind.i64.wrap ((ar : Int) + 1) = (ar : Int) + 1 := by rw [IntKind.wrap_i64]; omega
  clear hq
  go_enter Try.func66, Try.ntmps66
  go_wp2
  go_ret
  exact ⟨rfl, rfl⟩

theorem make_map (w : World) : (Instr.makeMap 98 none).run Try.prog w = .ok (.map (some w.heap.size)) (w.alloc (.map #[] 0)) := by
  simp [Instr.makeMap, Result.andThen]
theorem new_any (n : Int) (w : World) :
    Calls Try.prog 28 #[.int .i64 n] w fun q w' => if 1 ≤ n ∧ n ≤ 65536 then ∃ F qb, q = .returned (.tuple #[qV qb, .int .i64 0]) ∧ QAt w' F qb n.toNat [] 0 0 ∧ Fresh w w' ∧ ∀ k, F k → w.heap.size ≤ k
      else q = .returned (.tuple #[.pointer none, .int .i64 60]) ∧ w' = w := by
  by_cases h : 1 ≤ n ∧ n ≤ 65536
  · simp only [if_pos h]
    obtain ⟨h1, h2⟩ := h
    have hF : Fresh w ((w.alloc (.map #[] 0)).alloc (.cells #[.int .i64 n, .slice none 0 0, .map (some w.heap.size), .int .i64 0, .int .i64 0] 100)) := ((Kept.refl _ _).alloc _).alloc _
    have hq : QM ((w.alloc (.map #[] 0)).alloc (.cells #[.int .i64 n, .slice none 0 0, .map (some w.heap.size), .int .i64 0, .int .i64 0] 100)) (w.heap.size + 1) n.toNat (.slice none 0 0) w.heap.size [] 0 0 := by
      refine ⟨?_, ⟨⟨rfl, .inl ⟨rfl, rfl⟩⟩, fun _ h => by (cases h), fun _ h => by (cases h), List.Pairwise.nil, fun _ h => by (cases h)⟩, (MapT.made w).kept ((Kept.refl (fun _ => False) _).alloc _) (fun e => e), Sd.nil, List.Pairwise.nil, fun _ h => by (cases h), by simp⟩
      have := heap_alloc_new (w.alloc (.map #[] 0)) (.cells #[.int .i64 n, .slice none 0 0, .map (some w.heap.size), .int .i64 0, .int .i64 0] 100)
      unfold QB
      rw [show nV n.toNat = .int .i64 n by show Value.int .i64 ((n.toNat : Nat) : Int) = _; rw [Int.toNat_of_nonneg (by omega)], show nV 0 = .int .i64 0 from rfl]
      simpa using this
    have HQ : Hid (∃ F, QAt ((w.alloc (.map #[] 0)).alloc (.cells #[.int .i64 n, .slice none 0 0, .map (some w.heap.size), .int .i64 0, .int .i64 0] 100)) F (w.heap.size + 1) n.toNat [] 0 0 ∧ ∀ k, F k → w.heap.size ≤ k) := ⟨_, ⟨_, _, _, hq, rfl, rfl⟩, fun k hk => by
      rcases hk with e | e | e | ⟨x, hx, _⟩
      · omega
      · omega
      · rcases e with e | ⟨r, hr, _⟩
        · cases e
        · cases hr
      · cases hx⟩
    have HF := show Hid _ from hF
    have hmk := make_map w
    have hd1 : decide (n < 1) = false := by rw [decide_eq_false_iff_not]; omega
    have hd2 : decide (65536 < n) = false := by rw [decide_eq_false_iff_not]; omega
    clear hF hq h1 h2
    go_enter Try.func28, Try.ntmps28
    go_wp2
    go_ret2
    obtain ⟨F, q1, q2⟩ := HQ.out
    exact ⟨F, _, rfl, q1, HF.out, q2⟩
  · simp only [if_neg h]
    by_cases h1 : n < 1
    · clear h
      go_enter Try.func28, Try.ntmps28
      go_wp2
      go_ret2
      exact ⟨rfl, rfl⟩
    · have h2 : 65536 < n := by omega
      clear h
      go_enter Try.func28, Try.ntmps28
      go_wp2
      go_ret2
      exact ⟨rfl, rfl⟩

/-- What Put makes of a queue. -/
def PutQ (w : World) (F : Nat → Prop) (qb N : Nat) (L : List El) (tk ar : Nat) (k : KT) (v : ByteArray) (w' : World) : Prop :=
  ∃ e A B F', e.k = k ∧ e.v = v ∧ e.t = tk ∧ e.a = ar + 1 ∧ L = A ++ B ∧ Sp A B e ∧ QAt w' F' qb N (A ++ e :: B) (tk + 1) (ar + 1) ∧ Kept F w w' ∧ ∀ k, F' k → F k ∨ w.heap.size ≤ k

set_option maxHeartbeats 1000000 in
set_option maxRecDepth 100000 in
theorem put_full (F : Nat → Prop) (qb N : Nat) (L : List El) (tk ar : Nat) (k : KT) (v : ByteArray) (w : World) (h : QAt w F qb N L tk ar) (hl : N ≤ L.length) :
    Calls Try.prog 30 #[qV qb, kV k, .string v] w fun q w' => q = .returned (.tuple #[nV 0, .int .i64 61]) ∧ ∃ n, w' = w.drewN n := by
  have HL : Hid (∀ m, _) := fun m => len_any F qb N L tk ar (w.drewN m) (h.drewN m)
  obtain ⟨lv, M, R, h1, h2, rfl⟩ := h
  obtain ⟨c0, _, _, _, _⟩ := h1.blk.cells
  have c0' : ∀ m, (w.drewN m).cell? ⟨qb, 0, none⟩ = some (nV N) := fun _ => c0
  have hd : decide ((N : Int) ≤ (L.length : Int)) = true := by rw [decide_eq_true_eq]; omega
  clear h1 h2 c0
  generalize L.length = n at *
  go_enter Try.func30, Try.ntmps30
  go_wp2_with fail
  go_quiet ((go_at_call 13; exact Calls.quiet_of_same (HL.out _)))
  go_wp2
  go_ret2
  exact ⟨rfl, _, rfl⟩

set_option maxHeartbeats 2000000 in
set_option maxRecDepth 100000 in
theorem put_room (F : Nat → Prop) (qb N : Nat) (L : List El) (tk ar : Nat) (k : KT) (v : ByteArray) (w : World) (h : QAt w F qb N L tk ar) (hl : L.length < N) (hN : N ≤ 65536) (ht : tk < 4611686018427387904) (ha : ar < 4611686018427387904) :
    Calls Try.prog 30 #[qV qb, kV k, .string v] w fun q w' => q = .returned (.tuple #[nV tk, .int .i64 0]) ∧ PutQ w F qb N L tk ar k v w' := by
  have HL : Hid (∀ m, _) := fun m => len_any F qb N L tk ar (w.drewN m) (h.drewN m)
  obtain ⟨lv, M, R, h1, rfl, rfl⟩ := h
  obtain ⟨c0, _, _, c3, _⟩ := h1.blk.cells
  have c0' : ∀ m, (w.drewN m).cell? ⟨qb, 0, none⟩ = some (nV N) := fun _ => c0
  have hd : decide ((N : Int) ≤ ((flat R).length : Int)) = false := by rw [decide_eq_false_iff_not]; omega
  have HQ := show Hid _ from h1
  have HN : Hid ((flat R).length < 65536) := by show _ < _; omega
  clear h1 c0
  generalize hn : (flat R).length = n at HL hd
  have hd2 : ¬ (N ≤ n) := by omega
  clear hn
  go_enter Try.func30, Try.ntmps30
  go_wp2_with fail
  go_quiet ((go_at_call 13; exact Calls.quiet_of_same (HL.out _)))
  have hK1 : Fresh w (w.drewN nq) := (Kept.refl _ w).drewN nq
  have hq1 : QM (w.drewN nq) qb N lv M R tk ar := HQ.out.kept hK1 (fun _ _ e => e)
  have d3 := hq1.blk.cells.2.2.2.1
  have f3 := hq1.blk.frozen 3
  have HK1 := show Hid _ from hK1
  have HQ1 := show Hid _ from hq1
  clear HL c0' hK1 hq1 HQ c3
  generalize w.drewN nq = w1 at *
  have e1 : IntKind.i64.wrap ((tk : Int) + 1) = (tk : Int) + 1 := by rw [IntKind.wrap_i64]; omega
  have hk2 : Kept (fun k => k = qb) w1 (w1.setCell ⟨qb, 3, none⟩ (nV (tk + 1))) := (Kept.refl (fun k => k = qb) w1).setCell (p := ⟨qb, 3, none⟩) (fun _ => rfl) _
  have hq2 : QM (w1.setCell ⟨qb, 3, none⟩ (nV (tk + 1))) qb N lv M R (tk + 1) ar := HQ1.out.setq hk2 (qb_set3 HQ1.out.blk _) (by omega) (by omega)
  have HA : Hid (Unit → _) := fun (_ : Unit) => arrival_any qb N lv M (tk + 1) ar _ hq2.blk ha
  have HK2 := show Hid _ from hk2
  have HQ2 := show Hid _ from hq2
  clear hk2 hq2
  go_wp2_with fail
  refine (HA.out ()).mono ?_
  rintro q w3 ⟨rfl, hw3⟩
  have hk3 : Kept (fun k => k = qb) w1 w3 := by rw [hw3]; exact HK2.out.setCell (p := ⟨qb, 4, none⟩) (fun _ => rfl) _
  have hq3 : QM w3 qb N lv M R (tk + 1) (ar + 1) := by
    rw [hw3]
    exact HQ2.out.setq ((Kept.refl (fun k => k = qb) _).setCell (p := ⟨qb, 4, none⟩) (fun _ => rfl) _) (qb_set4 HQ2.out.blk _) (by omega) (by omega)
  have hA3 : Fresh w3 (w3.alloc (.cells #[kV k, .string v, nV tk, nV (ar + 1)] 132)) := (Kept.refl _ _).alloc _
  have HKp : Hid (Unit → _) := fun (_ : Unit) => keep_any qb N lv M R (tk + 1) (ar + 1) ⟨w3.heap.size, k, v, tk, ar + 1⟩ _ (hq3.kept hA3 (fun _ _ e => e)) (heap_alloc_new w3 _) (by show tk < tk + 1; omega) (Nat.le_refl _) HN.out
    (fun x hx => ⟨fun e => by have := (HQ1.out.bd x hx).1; have e' : x.t = tk := e; omega, fun e => by have := (HQ1.out.bd x hx).2; have e' : x.a = ar + 1 := e; omega⟩) (by omega)
  have HK3 := show Hid _ from hk3
  have HQ3 := show Hid _ from hq3
  have HA3 := show Hid _ from hA3
  clear HA HK2 HQ2 hw3 hk3 hq3 hA3 HN d3 f3
  go_wp2_with fail
  refine (HKp.out ()).mono ?_
  rintro q w4 ⟨rfl, A, B, hAB, hsp, lv', R', b1, b2, b3, b4⟩
  have HEND : Hid (PutQ w (QF qb M lv R) qb N (flat R) tk ar k v w4) := by
    have hK4 : Kept (QF qb M lv R) w w4 := by
      refine Kept.trans (Kept.trans (HK1.out.mono (fun _ _ e => e.elim)) HK3.out (fun k _ e => .inl e)) (Kept.trans (HA3.out.mono (fun _ _ e => e.elim)) b3 (fun k _ e => e.qf)) (fun k _ e => e)
    refine ⟨⟨w3.heap.size, k, v, tk, ar + 1⟩, A, B, QF qb M lv' R', rfl, rfl, rfl, rfl, hAB, hsp, ⟨lv', M, R', b1, b2, rfl⟩, hK4, fun j hj => ?_⟩
    have hs3 : w.heap.size ≤ w3.heap.size := Nat.le_trans HK1.out.size HK3.out.size
    rcases hj with e | e | e | ⟨x, hx, e⟩
    · exact .inl (.inl e)
    · exact .inl (.inr (.inl e))
    · rcases b4 j e with e | e
      · exact .inl (.inr (.inr (.inl e)))
      · exact .inr (by have := HA3.out.size; omega)
    · rw [b2] at hx
      have hx' : x ∈ A ++ B ∨ x = ⟨w3.heap.size, k, v, tk, ar + 1⟩ := by
        rcases List.mem_append.1 hx with hx | hx
        · exact .inl (List.mem_append_left _ hx)
        · rcases List.mem_cons.1 hx with rfl | hx
          · exact .inr rfl
          · exact .inl (List.mem_append_right _ hx)
      rcases hx' with hx' | rfl
      · exact .inl (.inr (.inr (.inr ⟨x, by rw [hAB]; exact hx', e⟩)))
      · have e' : w3.heap.size = j := e
        exact .inr (by omega)
  clear HKp hAB hsp b1 b2 b3 b4 HK1 HQ1 HK3 HQ3 HA3
  go_wp2
  go_ret2
  exact ⟨rfl, HEND.out⟩
end Go.Proofs.Ytonpdnpfekmapaa
