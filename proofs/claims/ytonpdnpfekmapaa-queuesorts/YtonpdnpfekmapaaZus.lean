/-
  A queue has an element more, and one less.
-/
import Derived.Test.YtonpdnpfekmapaaZur
namespace Go.Proofs.Ytonpdnpfekmapaa.SI
open Go.RowKit Go.Lib Go.Maps

/-- The blocks of a queue but its elements'. -/
def QT (qb M : Nat) (lv : Value) (R : List Run) (k : Nat) : Prop := k = qb ∨ k = M ∨ LF lv R k
theorem QT.qf {qb M : Nat} {lv : Value} {R : List Run} {k : Nat} (h : QT qb M lv R k) : QF qb M lv R k := by
  rcases h with e | e | e
  · exact .inl e
  · exact .inr (.inl e)
  · exact .inr (.inr (.inl e))
/-- A queue whose elements are L now. -/
def QPost (w : World) (qb N : Nat) (lv : Value) (M : Nat) (R : List Run) (tk ar : Nat) (L : List El) (w' : World) : Prop :=
  ∃ lv' R', QM w' qb N lv' M R' tk ar ∧ flat R' = L ∧ Kept (QT qb M lv R) w w' ∧ ∀ k, LF lv' R' k → LF lv R k ∨ w.heap.size ≤ k

/-- The line and the map have turned. -/
theorem turned_qm {w X w' : World} {qb N : Nat} {lv : Value} {M tk ar : Nat} {R : List Run} {L : List El} (h : QM w qb N lv M R tk ar) (hp : LnPost w qb N lv M tk ar R L X) (hm : MapT w' M L) (hg : Kept (fun k => k = M) X w') (hsd : Sd L) (htn : Tn L) (hbd : ∀ x ∈ L, x.t < tk ∧ x.a ≤ ar) (hle : L.length ≤ 65536) :
    QPost w qb N lv M R tk ar L w' := by
  obtain ⟨lv', R', a1, a2, rfl, a4, a5⟩ := hp
  have hMX : MapT X M (flat R) := h.map.kept a4 (fun e => by
    rcases e with e | e
    · exact h.map.not_cells h.blk e.symm
    · obtain ⟨c, t, hc, _⟩ := h.ln.lf_type e
      exact h.map.not_cells hc rfl)
  have hnl : ∀ k, LF lv' R' k → k ≠ M := fun k e => by
    obtain ⟨c, t, hc, _⟩ := a2.lf_type e
    exact hMX.not_cells hc
  refine ⟨lv', R', ⟨hg.at a1 (hMX.not_cells a1), ⟨owns_kept a2.own hg (fun k e => hnl k (.inl e)), fun r hr => owns_kept (a2.run r hr) hg (fun k e => hnl k (.inr ⟨r, hr, e⟩)), a2.ne, a2.nd, fun r hr x hx => (a2.el r hr x hx).kept hg (hMX.not_cells (a2.el r hr x hx))⟩, hm, hsd, htn, hbd, hle⟩, rfl, Kept.trans (a4.mono (fun k _ e => by rcases e with e | e; exact .inl e; exact .inr (.inr e))) hg (fun k _ e => .inr (.inl e)), a5⟩

set_option maxHeartbeats 1000000 in
set_option maxRecDepth 100000 in
theorem keep_any (qb N : Nat) (lv : Value) (M : Nat) (R : List Run) (tk ar : Nat) (e : El) (w : World) (h : QM w qb N lv M R tk ar) (he : ElAt w e) (ht : e.t < tk) (ha : e.a ≤ ar) (hle : (flat R).length < 65536) (hne : ∀ x ∈ flat R, x.t ≠ e.t ∧ x.a ≠ e.a) (htk : tk ≤ 9223372036854775807) :
    Calls Try.prog 49 #[qV qb, pV e] w fun q w' => q = .returned (.tuple #[]) ∧ ∃ A B, flat R = A ++ B ∧ Sp A B e ∧ QPost w qb N lv M R tk ar (A ++ e :: B) w' := by
  have HP : Hid (Unit → _) := fun (_ : Unit) => put_any qb N lv M tk ar R e w h.blk h.ln h.sd (by omega) he
  have HH := show Hid _ from h
  have HN : Hid (e.t < tk ∧ e.a ≤ ar ∧ (flat R).length < 65536 ∧ (∀ x ∈ flat R, x.t ≠ e.t ∧ x.a ≠ e.a) ∧ ElAt w e) := ⟨ht, ha, hle, hne, he⟩
  clear h he ht ha hle hne
  go_enter Try.func49, Try.ntmps49
  go_wp2_with fail
  refine (HP.out ()).mono ?_
  rintro q X ⟨rfl, A, B, hAB, hsp, hln⟩
  have hq := HH.out.blk
  have hkX : Kept (fun k => k = qb ∨ LF lv R k) w X := by obtain ⟨lv', R', a1, a2, a3, a4, a5⟩ := hln; exact a4
  have hMX : MapT X M (A ++ B) := by
    rw [← hAB]
    exact HH.out.map.kept hkX (fun e => by
      rcases e with e | e
      · exact HH.out.map.not_cells HH.out.blk e.symm
      · obtain ⟨c, t, hc, _⟩ := HH.out.ln.lf_type e
        exact HH.out.map.not_cells hc rfl)
  have heX : ElAt X e := HN.out.2.2.2.2.kept hkX (fun e1 => by
    rcases e1 with e1 | e1
    · exact HN.out.2.2.2.2.not_qb hq e1
    · exact HN.out.2.2.2.2.not_lf HH.out.ln e1)
  have hdis : ∀ x ∈ A ++ B, x.t ≠ e.t := fun x hx => (HN.out.2.2.2.1 x (by rw [hAB]; exact hx)).1
  obtain ⟨w', hrun, hM', hg⟩ := MapT.store (w := X.drew) (show MapT X.drew M (A ++ B) from hMX) (by rw [← hAB]; have := HN.out.2.2.1; omega) (wf64 (by omega) (by have := HN.out.1; omega)) hdis
  have hkM : Kept (fun k => k = M) X w' := ((Kept.refl (fun k => k = M) X).drew).grown hg (fun k _ e => (Option.some.inj e).symm)
  have hsd : Sd (A ++ e :: B) := Sd.put (by rw [← hAB]; exact HH.out.sd) hsp (fun x hx => (HN.out.2.2.2.1 x (by rw [hAB]; exact List.mem_append_right _ hx)).2)
  have htn : Tn (A ++ e :: B) := tn_mid.2 ⟨by rw [← hAB]; exact HH.out.tn, hdis⟩
  have hbd : ∀ x ∈ A ++ e :: B, x.t < tk ∧ x.a ≤ ar := fun x hx => by
    rcases List.mem_append.1 hx with hx | hx
    · exact HH.out.bd x (by rw [hAB]; exact List.mem_append_left _ hx)
    · rcases List.mem_cons.1 hx with rfl | hx
      · exact ⟨HN.out.1, HN.out.2.1⟩
      · exact HH.out.bd x (by rw [hAB]; exact List.mem_append_right _ hx)
  have hlen : (A ++ e :: B).length ≤ 65536 := by
    have h1 := HN.out.2.2.1
    rw [hAB] at h1
    simp at h1 ⊢
    omega
  have HEND : Hid (QPost w qb N lv M R tk ar (A ++ e :: B) w') := turned_qm HH.out hln hM' hkM hsd htn hbd hlen
  have c2 : X.cell? ⟨qb, 2, none⟩ = some (.map (some M)) := by
    obtain ⟨lv', R', a1, _⟩ := hln
    exact a1.cells.2.2.1
  have c3 := heX.cells.2.2.1
  have HAB : Hid (flat R = A ++ B ∧ Sp A B e) := ⟨hAB, hsp⟩
  clear HP HH HN hAB hsp hln hq hkX hMX heX hdis hM' hg hkM hsd htn hbd hlen
  go_wp2_with fail
  go_region
  go_wp2
  go_end0
  exact ⟨rfl, A, B, HAB.out.1, HAB.out.2, HEND.out⟩

set_option maxHeartbeats 1000000 in
set_option maxRecDepth 100000 in
theorem drop_any (qb N : Nat) (lv : Value) (M : Nat) (R : List Run) (tk ar : Nat) (A B : List El) (e : El) (w : World) (h : QM w qb N lv M R tk ar) (hAB : flat R = A ++ e :: B) (htk : tk ≤ 9223372036854775807) :
    Calls Try.prog 85 #[qV qb, pV e] w fun q w' => q = .returned (.tuple #[]) ∧ QPost w qb N lv M R tk ar (A ++ B) w' := by
  have hem : e ∈ flat R := by rw [hAB]; simp
  have he : ElAt w e := h.el hem
  obtain ⟨l, hl, hel⟩ := List.mem_flatten.1 hem
  obtain ⟨r, hr, rfl⟩ := List.mem_map.1 hl
  obtain ⟨R1, R2, rfl⟩ := List.append_of_mem hr
  obtain ⟨a, b, hab⟩ := List.append_of_mem hel
  have HP : Hid (Unit → _) := fun (_ : Unit) => take_any qb N lv M tk ar R1 R2 r a b e w h.blk h.ln h.sd h.le hab
  have hAA : A = flat R1 ++ a ∧ e :: B = e :: (b ++ flat R2) := by
    have h1 := h.sd
    have e1 : flat (R1 ++ r :: R2) = (flat R1 ++ a) ++ e :: (b ++ flat R2) := by simp [flat, hab]
    refine sp_one (e := e) ?_ (Sd.sp (by rw [← hAB]; exact h1)) (Sd.sp (by rw [← e1]; exact h1))
    rw [← hAB, e1]
  have hBB : B = b ++ flat R2 := by have := hAA.2; simpa using this
  rw [show flat R1 ++ (a ++ b) ++ flat R2 = A ++ B by rw [hAA.1, hBB]; simp] at HP
  generalize R1 ++ r :: R2 = R at *
  have hz := h.bd e hem
  have hmid := tn_mid.1 (show Tn (A ++ e :: B) by rw [← hAB]; exact h.tn)
  have HH := show Hid _ from h
  have HN : Hid (flat R = A ++ e :: B ∧ ElAt w e ∧ (∀ x ∈ A ++ B, x.t ≠ e.t) ∧ Tn (A ++ B)) := ⟨hAB, he, hmid.2, hmid.1⟩
  have hzz : e.t < tk := hz.1
  clear h hAB hem he hl hel hr hab hAA hBB hz hmid
  go_enter Try.func85, Try.ntmps85
  go_wp2_with fail
  refine (HP.out ()).mono ?_
  rintro q X ⟨rfl, hln⟩
  have hq := HH.out.blk
  have hkX : Kept (fun k => k = qb ∨ LF lv R k) w X := by obtain ⟨lv', R', a1, a2, a3, a4, a5⟩ := hln; exact a4
  have hMX : MapT X M (A ++ e :: B) := by
    rw [← HN.out.1]
    exact HH.out.map.kept hkX (fun e => by
      rcases e with e | e
      · exact HH.out.map.not_cells HH.out.blk e.symm
      · obtain ⟨c, t, hc, _⟩ := HH.out.ln.lf_type e
        exact HH.out.map.not_cells hc rfl)
  have heX : ElAt X e := HN.out.2.1.kept hkX (fun e1 => by
    rcases e1 with e1 | e1
    · exact HN.out.2.1.not_qb hq e1
    · exact HN.out.2.1.not_lf HH.out.ln e1)
  obtain ⟨w', hrun, hM', hg⟩ := MapT.drop (w := X.drew) (show MapT X.drew M (A ++ e :: B) from hMX) (wf64 (by omega) (by omega)) HN.out.2.2.1 0
  have hkM : Kept (fun k => k = M) X w' := ((Kept.refl (fun k => k = M) X).drew).grown hg (fun k _ e => (Option.some.inj e).symm)
  have hsd : Sd (A ++ B) := Sd.take (by rw [← HN.out.1]; exact HH.out.sd)
  have hbd : ∀ x ∈ A ++ B, x.t < tk ∧ x.a ≤ ar := fun x hx => HH.out.bd x (by rw [HN.out.1]; rcases List.mem_append.1 hx with hx | hx <;> simp [hx])
  have hlen : (A ++ B).length ≤ 65536 := by
    have h1 := HH.out.le
    rw [HN.out.1] at h1
    simp at h1 ⊢
    omega
  have HEND : Hid (QPost w qb N lv M R tk ar (A ++ B) w') := turned_qm HH.out hln hM' hkM hsd HN.out.2.2.2 hbd hlen
  have c2 : X.cell? ⟨qb, 2, none⟩ = some (.map (some M)) := by
    obtain ⟨lv', R', a1, _⟩ := hln
    exact a1.cells.2.2.1
  have c3 := heX.cells.2.2.1
  clear HP HH HN hln hq hkX hMX heX hM' hg hkM hsd hbd hlen
  go_wp2_with fail
  go_region
  go_wp2
  go_end0
  exact ⟨rfl, HEND.out⟩
end Go.Proofs.Ytonpdnpfekmapaa.SI
