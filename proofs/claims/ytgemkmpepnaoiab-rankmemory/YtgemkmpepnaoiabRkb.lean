/-
  A row put in order by halves: the contract of arrange[int].
-/
import Derived.Test.YtgemkmpepnaoiabRka
import Derived.Laws.IdiomCopy
import Derived.Lib.BufferMore
import Derived.Lib.SlBuf
namespace Go.Proofs.Ytgemkmpepnaoiab
open Go.RowKit Go.Lib Go.Maps

theorem heap_setCells {b : Nat} {T : TypeId} : ∀ (vs : List Value) (o : Nat) (w : World) (cs : List Value), w.heap[b]? = some (.cells cs.toArray T (0, 0)) → o + vs.length ≤ cs.length →
    (w.setCells b o vs).heap[b]? = some (.cells (cs.take o ++ vs ++ cs.drop (o + vs.length)).toArray T (0, 0))
  | [], o, w, cs, h, _ => by simpa [World.setCells] using h
  | v :: r, o, w, cs, h, hl => by
    rw [List.length_cons] at hl
    have h1 := Lib.heap_setCell_same h v (i := o)
    rw [List.setIfInBounds_toArray] at h1
    have h2 := heap_setCells r (o + 1) _ _ h1 (by rw [List.length_set]; omega)
    rw [World.setCells, h2]
    congr 3
    rw [List.set_eq_take_append_cons_drop, if_pos (by omega), List.length_cons]
    have e1 : (List.take o cs ++ v :: List.drop (o + 1) cs).take (o + 1) = cs.take o ++ [v] := by
      rw [List.take_append, List.length_take, Nat.min_eq_left (by omega), List.take_of_length_le (by rw [List.length_take]; omega), show o + 1 - o = 1 by omega]
      rfl
    have e2 : (List.take o cs ++ v :: List.drop (o + 1) cs).drop (o + 1 + r.length) = cs.drop (o + (r.length + 1)) := by
      rw [List.drop_append, List.length_take, Nat.min_eq_left (by omega), List.drop_of_length_le (by rw [List.length_take]; omega), show o + 1 + r.length - o = r.length + 1 by omega, List.drop_succ_cons, List.drop_drop, List.nil_append]
      congr 1
      omega
    rw [e1, e2]
    simp
theorem kept_setCells (b : Nat) : ∀ (vs : List Value) (o : Nat) (w : World), Kept (fun k => k = b) w (w.setCells b o vs)
  | [], _, w => Kept.refl _ w
  | v :: r, o, w => ((Kept.refl (fun k => k = b) w).setCell (p := ⟨b, o, none⟩) (fun _ => rfl) v).trans (kept_setCells b r (o + 1) _) (fun _ _ e => e)

/-- The block b holds these numbers, and no more. -/
def At (w : World) (b : Nat) (L : List Int) : Prop := w.heap[b]? = some (.cells (L.map zV).toArray 3 (0, 0))
theorem At.cell {w : World} {b : Nat} {L : List Int} (h : At w b L) (i : Nat) : w.cell? ⟨b, i, none⟩ = (L[i]?).map zV := by
  rw [Lib.cell_of_heap h]; simp
theorem At.frozen {w : World} {b : Nat} {L : List Int} (h : At w b L) (i : Nat) : w.frozen? ⟨b, i, none⟩ = false := Lib.frozen_of_heap h i
theorem At.kept {S : Nat → Prop} {w w' : World} {b : Nat} {L : List Int} (h : At w b L) (hk : Kept S w w') (hn : ¬ S b) : At w' b L := hk.at h hn
/-- The middle is written over. -/
theorem At.set {w : World} {b : Nat} {P M Q o : List Int} (h : At w b (P ++ M ++ Q)) (ho : o.length = M.length) : At (w.setCells b P.length (o.map zV)) b (P ++ o ++ Q) := by
  have := heap_setCells (o.map zV) P.length w ((P ++ M ++ Q).map zV) h (by simp [ho])
  show _ = _
  rw [this]
  congr 3
  simp only [List.map_append, List.length_map, ho]
  rw [List.append_assoc (P.map zV) (M.map zV), List.take_left' (by simp), ← Nat.add_zero (P.length + M.length)]
  have : List.drop (P.length + M.length) (List.map zV P ++ (List.map zV M ++ List.map zV Q)) = List.map zV Q := by
    rw [← List.append_assoc]
    exact List.drop_left' (by simp)
  rw [Nat.add_zero, this]
theorem wrap_sum (m n p : Int) : wrap64 (wrap64 (wrap64 m + wrap64 n) + wrap64 p) = wrap64 (m + n + p) := by
  unfold wrap64; omega

set_option maxHeartbeats 2000000 in
set_option maxRecDepth 100000 in
theorem arrange_any {F : Nat} {caps : Array Value} {D : Int → Prop} {R : Int → Int → Bool → Prop} {T : Nat → Prop} {n0 : Nat} {J : World → Prop} (hA : Ask F caps D R T n0 J)
    (g NL N ob : Nat) (hg : n0 ≤ g) (ho : n0 ≤ ob) (hgo : g ≠ ob) : ∀ (k : Nat) (M P Q : List Int) (cap : Nat) (w : World), M.length ≤ k → J w → At w ob (P ++ M ++ Q) → M.length ≤ cap → cap ≤ 4611686018427387904 →
      w.ownsRow 0 3 1 (.slice (some ⟨g, 0, none⟩) 0 N) 0 [] → M.length ≤ N → (∀ z ∈ M, D z) →
    Calls Try.prog 45 #[.slice (some ⟨ob, P.length, none⟩) M.length cap, .slice (some ⟨g, 0, none⟩) NL N, .func (.func F) #[] caps] w fun e w' =>
      ∃ o n, e = .returned (zV (wrap64 (n : Nat))) ∧ Ar R M o n ∧ At w' ob (P ++ o ++ Q) ∧ w'.ownsRow 0 3 1 (.slice (some ⟨g, 0, none⟩) 0 N) 0 [] ∧ J w' ∧ Kept (fun k => k = g ∨ k = ob ∨ T k) w w' := by
  have hgT : ¬ T g := fun h => by have := hA.ahead g h; omega
  have hoT : ¬ T ob := fun h => by have := hA.ahead ob h; omega
  intro k
  induction k with
  | zero =>
    intro M P Q cap w hk hJ hAt hcap hcb hr hN hD
    have hl : M.length = 0 := by omega
    have HF : Hid (Ar R M M 0 ∧ At w ob (P ++ M ++ Q) ∧ w.ownsRow 0 3 1 (.slice (some ⟨g, 0, none⟩) 0 N) 0 [] ∧ J w) := ⟨Ar.small M (by omega), hAt, hr, hJ⟩
    clear hAt hr hJ hD
    go_enter Try.func45, Try.ntmps45
    go_wp2_with fail
    go_ret
    exact ⟨M, 0, by unfold wrap64; rfl, HF.out.1, HF.out.2.1, HF.out.2.2.1, HF.out.2.2.2, Kept.refl _ _⟩
  | succ k ih =>
    intro M P Q cap w hk hJ hAt hcap hcb hr hN hD
    obtain ⟨h, hh⟩ : ∃ h, h = M.length / 2 := ⟨_, rfl⟩
    obtain ⟨l, hl⟩ : ∃ l, l = M.length := ⟨_, rfl⟩
    by_cases h0 : h = 0
    · have HF : Hid (Ar R M M 0 ∧ At w ob (P ++ M ++ Q) ∧ w.ownsRow 0 3 1 (.slice (some ⟨g, 0, none⟩) 0 N) 0 [] ∧ J w) := ⟨Ar.small M (by omega), hAt, hr, hJ⟩
      have hq : ((l : Int)).tdiv 2 = 0 := by rw [Int.tdiv_eq_ediv_of_nonneg (by omega)]; omega
      rw [← hl] at hk hcap hN ⊢
      clear hAt hr hJ hD hh ih hl
      go_enter Try.func45, Try.ntmps45
      go_wp2_with fail
      go_ret
      exact ⟨M, 0, by unfold wrap64; rfl, HF.out.1, HF.out.2.1, HF.out.2.2.1, HF.out.2.2.2, Kept.refl _ _⟩
    · obtain ⟨X, Y, hX, hY, hXY⟩ : ∃ X Y, X = M.take h ∧ Y = M.drop h ∧ M = X ++ Y := ⟨_, _, rfl, rfl, (List.take_append_drop _ _).symm⟩
      have hXl : X.length = h := by rw [hX, List.length_take]; omega
      have hYl : Y.length = l - h := by rw [hY, List.length_drop, hl]
      have hhl : h < l := by omega
      have HX : Hid (X = M.take (M.length / 2) ∧ Y = M.drop (M.length / 2) ∧ M.length / 2 ≠ 0) := ⟨by rw [hX, hh], by rw [hY, hh], by omega⟩
      have hq : ((l : Int)).tdiv 2 = (h : Int) := by rw [Int.tdiv_eq_ediv_of_nonneg (by omega)]; omega
      have i1 := fun (w1 : World) hJ1 hAt1 hr1 => ih X P (Y ++ Q) cap w1 (by omega) hJ1 hAt1 (by omega) hcb hr1 (by omega) (fun z hz => hD z (by rw [hXY]; exact List.mem_append.2 (.inl hz)))
      have i2 := fun (a : List Int) (w1 : World) (ha : a.length = h) hJ1 hAt1 hr1 => ih Y (P ++ a) Q (cap - h) w1 (by omega) hJ1 hAt1 (by omega) (by omega) hr1 (by omega) (fun z hz => hD z (by rw [hXY]; exact List.mem_append.2 (.inr hz)))
      rw [← hl] at hcap hN ⊢
      have r1 : (h : Int) ≤ (cap : Int) := by omega
      have r2 : (h : Int) ≤ (l : Int) := by omega
      have r3 : ¬ cap = h := by omega
      have hAtw : At w ob (P ++ X ++ (Y ++ Q)) := by rw [hXY] at hAt; simpa using hAt
      have HS : Hid (∀ n, J (w.drewN n) ∧ At (w.drewN n) ob (P ++ X ++ (Y ++ Q)) ∧ (w.drewN n).ownsRow 0 3 1 (.slice (some ⟨g, 0, none⟩) 0 N) 0 [] ∧ Kept (fun k => k = g ∨ k = ob ∨ T k) w (w.drewN n)) := fun n =>
        ⟨hA.kept _ _ hJ ⟨rfl, rfl, rfl, Nat.le_refl _, fun _ _ _ => rfl⟩, hAtw, hr, ⟨rfl, rfl, rfl, Nat.le_refl _, fun _ _ _ => rfl⟩⟩
      rw [hXl] at i1
      have HI1 : Hid (Unit → _) := fun (_ : Unit) => i1
      have HI2 : Hid (Unit → _) := fun (_ : Unit) => i2
      have HMY : Hid (M = X ++ Y ∧ l = M.length ∧ X.length = h ∧ Y.length = l - h) := ⟨hXY, hl, hXl, hYl⟩
      have HD : Hid (∀ z ∈ M, D z) := hD
      have HAS : Hid (Unit → _) := fun (_ : Unit) => hA
      have hsz : (Try.prog.info? 3).map (·.size) = some 1 := by obtain ⟨i0, hi, _, hz1, _⟩ := info_parts Try.infoI; rw [hi]; simp [hz1]
      clear i1 i2 hX hY hXY hh hAt hr hJ hl hD ih hXl hYl hAtw hA
      go_enter Try.func45, Try.ntmps45
      go_wp2_with fail
      go_quiet (fail)
      have HS' := HS.out nq
      clear HS
      go_wp2_with fail
      refine ((HI1.out ()) _ HS'.1 HS'.2.1 HS'.2.2.1).mono ?_
      rintro e w1 ⟨a, na, rfl, hAr1, hAt1, hr1, hJ1, hK1⟩
      have ha : a.length = h := hAr1.length.trans HMY.out.2.2.1
      have hK01 : Kept (fun k => k = g ∨ k = ob ∨ T k) w w1 := HS'.2.2.2.trans hK1 (fun _ _ e => e)
      have hi2 := (HI2.out ()) a w1 ha hJ1 (by simpa using hAt1) hr1
      rw [List.length_append, ha, HMY.out.2.2.2] at hi2
      have HI2' : Hid (Unit → _) := fun (_ : Unit) => hi2
      have HP1 : Hid (Ar R X a na ∧ Kept (fun k => k = g ∨ k = ob ∨ T k) w w1) := ⟨hAr1, hK01⟩
      clear hi2 HS' HI1 HI2 hAr1 hAt1 hr1 hJ1 hK1 hK01
      go_wp2_with fail
      refine ((HI2'.out ())).mono ?_
      rintro e w2 ⟨b, nb, rfl, hAr2, hAt2, hr2, hJ2, hK2⟩
      have hb : b.length = l - h := hAr2.length.trans HMY.out.2.2.2
      have hM2 := HMY.out.2.1
      have hol2 : ob < w2.heap.size := lt_of_heap hAt2
      have hDab : ∀ z, z ∈ a ∨ z ∈ b → D z := fun z hz => HD.out z (by
        rw [HMY.out.1]
        exact List.mem_append.2 (hz.imp (HP1.out.1.perm.mem_iff.1) (hAr2.perm.mem_iff.1)))
      have hj := join_any (HAS.out ()) g N ob P.length cap (P.length + h) (cap - h) a b w2 hJ2 hg ho hgo hol2 hr2 (by omega) (by omega) (by omega)
        (fun i z hz => by
          have hi : i < a.length := (List.getElem?_eq_some_iff.1 hz).1
          rw [hAt2.cell, List.append_assoc, List.append_assoc, List.getElem?_append_right (by omega), Nat.add_sub_cancel_left, List.getElem?_append_left hi, hz]; rfl)
        (fun i z hz => by
          have hi : i < b.length := (List.getElem?_eq_some_iff.1 hz).1
          rw [hAt2.cell, List.append_assoc, List.getElem?_append_right (by simp; omega), List.length_append, ha, Nat.add_sub_cancel_left, List.getElem?_append_left hi, hz]; rfl) hDab
      rw [ha, hb] at hj
      have HJ' : Hid (Unit → _) := fun (_ : Unit) => hj
      have HP2 : Hid (Ar R Y b nb ∧ At w2 ob (P ++ a ++ b ++ Q) ∧ Kept (fun k => k = g ∨ k = ob ∨ T k) w w2) := ⟨hAr2, hAt2, HP1.out.2.trans hK2 (fun _ _ e => e)⟩
      clear hj hDab hol2 hM2 hAr2 hAt2 hr2 hJ2 hK2 HI2'
      go_wp2_with fail
      refine ((HJ'.out ())).mono ?_
      rintro e w3 ⟨o, no, rfl, hmj, hown3, hJ3, hK3⟩
      have hol : o.length = l := by rw [hmj.length, ha, hb]; omega
      have hAt3 : At w3 ob (P ++ (a ++ b) ++ Q) := by
        have := HP2.out.2.1.kept hK3 (fun h => h.elim (fun e => hgo e.symm) hoT)
        simpa using this
      have hgl : g < w3.heap.size := owns_lt hown3 (by simp [Value.ownBlock])
      have hcp : ∀ ty, (Builtin.copy_ #[32, 32] ty #[.slice (some ⟨ob, P.length, none⟩) l cap, .slice (some ⟨g, 0, none⟩) l N]).run Try.prog w3 = .ok (goInt (o.map zV).length) (w3.setCells ob P.length (o.map zV)) := fun ty =>
        run_copy_cells w3 _ _ ty 3 ob P.length l cap ⟨g, 0, none⟩ l N (o.map zV) Try.underlying32 hsz (by simp [hol])
          (fun j v hj => by
            have hj' : j < o.length := by have := (List.getElem?_eq_some_iff.1 hj).1; simpa using this
            rw [Addr.add_lit, Nat.zero_add, hown3.cellAt j (by omega)]
            exact hj)
          (fun j hj => by
            rw [hAt3.cell, List.append_assoc, List.getElem?_append_right (by omega), Nat.add_sub_cancel_left, List.getElem?_append_left (by simp at hj ⊢; omega), List.getElem?_eq_getElem (by simp at hj ⊢; omega)]; rfl)
          (fun j _ => hAt3.frozen _) (fun u hu => by obtain ⟨_, _, rfl⟩ := List.mem_map.1 hu; rfl)
      have hK4 : Kept (fun k => k = ob) w3 (w3.setCells ob P.length (o.map zV)) := kept_setCells ob _ _ _
      have HP3 : Hid (Ar R M o (na + nb + no) ∧ At (w3.setCells ob P.length (o.map zV)) ob (P ++ o ++ Q) ∧ (w3.setCells ob P.length (o.map zV)).ownsRow 0 3 1 (.slice (some ⟨g, 0, none⟩) 0 N) 0 [] ∧ J (w3.setCells ob P.length (o.map zV)) ∧ Kept (fun k => k = g ∨ k = ob ∨ T k) w (w3.setCells ob P.length (o.map zV))) := by
        refine ⟨Ar.halves HX.out.2.2 (by rw [← HX.out.1]; exact HP1.out.1) (by rw [← HX.out.2.1]; exact HP2.out.1) hmj, hAt3.set (by rw [hmj.length, List.length_append]), ?_, (HAS.out ()).kept _ _ hJ3 (hK4.mono (fun i _ e => by rw [e]; exact ho)), (HP2.out.2.2.trans (hK3.mono (fun i _ h => h.elim .inl (fun h => .inr (.inr h)))) (fun _ _ e => e)).trans hK4 (fun _ _ e => .inr (.inl e))⟩
        have h4 := owns_kept hown3 hK4 (fun k e => by simp [Value.ownBlock] at e; subst e; exact hgo)
        refine ⟨rfl, ?_⟩
        rcases h4.2 with ⟨h, _⟩ | ⟨g', cap', cur, h, hb', hg', hn', hm', hs', _⟩
        · cases h
        · cases h
          exact .inr ⟨g, N, cur, rfl, hb', hg', Nat.zero_le _, hm', hs', rfl⟩
      rw [hol]
      generalize w3.setCells ob P.length (o.map zV) = w4 at *
      clear hmj hown3 hJ3 hK3 hol hAt3 hgl hK4 HJ' HP2 HP1 HD HAS
      go_wp2_with (at_builtin; refine wpList_copy_run _ rfl _ _ 32 32 rfl _ _ rfl rfl (hcp _) ?_)
      go_ret
      exact ⟨o, na + nb + no, congrArg (fun x => Ending.returned (zV x)) (wrap_sum na nb no), HP3.out⟩
end Go.Proofs.Ytgemkmpepnaoiab
