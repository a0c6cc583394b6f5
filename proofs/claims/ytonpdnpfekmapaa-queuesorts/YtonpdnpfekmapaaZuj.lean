/-
  The run of an element, and its place in it.
-/
import Derived.Test.YtonpdnpfekmapaaZui
namespace Go.Proofs.Ytonpdnpfekmapaa.SI
open Go.RowKit Go.Lib

theorem flat_len {R : List Run} {r : Run} (hr : r ∈ R) : r.els.length ≤ (flat R).length :=
  List.Sublist.length_le (List.sublist_flatten_of_mem (List.mem_map.2 ⟨r, hr, rfl⟩))
theorem runs_len {R : List Run} (h : ∀ r ∈ R, r.els ≠ []) : R.length ≤ (flat R).length := by
  induction R with
  | nil => simp
  | cons r t ih =>
    have h1 := List.length_pos_iff.2 (h r List.mem_cons_self)
    have h2 := ih (fun s hs => h s (List.mem_cons_of_mem _ hs))
    simp only [flat, List.map_cons, List.flatten_cons, List.length_append, List.length_cons] at *
    omega

set_option maxHeartbeats 400000 in
theorem runOf_any (qb N : Nat) (lv : Value) (M tk ar : Nat) (R : List Run) (e : El) (w : World) (hq : QB w qb N lv M tk ar) (h : LnM w lv R) (hs : Sd (flat R)) (hR : R ≠ []) (hl : (flat R).length ≤ 65536) (he : ElAt w e) :
    Calls Try.prog 112 #[.pointer (some ⟨qb, 1, none⟩), pV e] w fun q w' => q = .returned (nV (rcut (R.map Run.els) e)) ∧ ∃ k, w' = w.drewN k := by
  have hpos := List.length_pos_iff.2 hR
  have hrl := runs_len h.ne
  obtain ⟨g, cap, hlv, h1, h2, h3⟩ := own_some h.own hpos
  have hne : ∀ r ∈ R.map Run.els, r ≠ [] := fun r hr => by
    obtain ⟨s, hs1, rfl⟩ := List.mem_map.1 hr
    exact h.ne s hs1
  have HB : Hid (Unit → _) := fun (_ : Unit) => bsR_any g R.length cap (fun t => (R.map Run.v).getD t (.bool false)) e (fun t => ord (((R.map Run.els).getD t []).getLast?.getD e) e) w
    (fun t ht => by
      refine h3 t _ ?_
      rw [List.getD_eq_getElem?_getD, List.getElem?_map, List.getElem?_eq_getElem ht]
      rfl)
    (fun t ht m => by
      have e1 : (R.map Run.v).getD t (.bool false) = R[t].v := by rw [List.getD_eq_getElem?_getD, List.getElem?_map, List.getElem?_eq_getElem ht]; rfl
      have e2 : (R.map Run.els).getD t [] = R[t].els := by rw [List.getD_eq_getElem?_getD, List.getElem?_map, List.getElem?_eq_getElem ht]; rfl
      have hy := List.getLast?_eq_some_getLast (h.ne R[t] (List.getElem_mem ht))
      simp only [e1, e2, hy, Option.getD_some]
      exact runOf1_any R[t] e (w.drewN m) lv R (h.drewN m) (List.getElem_mem ht) _ hy (Nat.le_trans (flat_len (List.getElem_mem ht)) (by omega)) (he.drewN m))
    (rcut (R.map Run.els) e) (by have := rcut_le (R.map Run.els) e; simpa using this)
    (fun t ht => by
      have htl : t < R.length := by have := rcut_le (R.map Run.els) e; simp at this; omega
      have e2 : (R.map Run.els).getD t [] = (R.map Run.els)[t]'(by simpa using htl) := by rw [List.getD_eq_getElem?_getD, List.getElem?_eq_getElem (by simpa using htl)]; rfl
      have hy := List.getLast?_eq_some_getLast (hne _ (List.getElem_mem (by simpa using htl : t < (R.map Run.els).length)))
      simp only [e2, hy, Option.getD_some]
      exact (rcut_at hs hne e t (by simpa using htl) _ hy).1 ht)
    (fun t ht htl => by
      have e2 : (R.map Run.els).getD t [] = (R.map Run.els)[t]'(by simpa using htl) := by rw [List.getD_eq_getElem?_getD, List.getElem?_eq_getElem (by simpa using htl)]; rfl
      have hy := List.getLast?_eq_some_getLast (hne _ (List.getElem_mem (by simpa using htl : t < (R.map Run.els).length)))
      simp only [e2, hy, Option.getD_some]
      exact (rcut_at hs hne e t (by simpa using htl) _ hy).2 ht)
    (by omega)
  obtain ⟨c0, c1, c2, c3, c4⟩ := hq.cells
  subst hlv
  clear hq h hs he c0 c2 c3 c4 h3 hne hR
  generalize rcut (R.map Run.els) e = p at *
  go_enter Try.func112, Try.ntmps112
  go_wp2_with fail
  refine (HB.out ()).mono ?_
  rintro q w1 ⟨⟨f, rfl⟩, k, rfl⟩
  clear HB
  go_wp2
  go_ret
  exact ⟨rfl, _, rfl⟩

/-- Where an element belongs in a run. -/
theorem bsAt (g cap : Nat) (r : Run) (e : El) (w : World) (hs : Sd r.els) (hc : ∀ j (hj : j < r.els.length), w.cell? ⟨g, j, none⟩ = some (pV r.els[j])) (hel : ∀ x ∈ r.els, ElAt w x) (he : ElAt w e) (hl : r.els.length ≤ 65536) :
    Calls Try.prog 113 #[.slice (some ⟨g, 0, none⟩) r.els.length cap, pV e, .func (.func 114) #[] #[]] w fun q w' => BsR (cut r.els e) q ∧ ∃ k, w' = w.drewN k :=
  bsE_any g r.els.length cap (fun t => pV (r.els.getD t e)) e (fun t => ord (r.els.getD t e) e) w
    (fun t ht => by rw [hc t ht, List.getD_eq_getElem?_getD, List.getElem?_eq_getElem ht]; rfl)
    (fun t ht m => by
      have e1 : r.els.getD t e = r.els[t] := by rw [List.getD_eq_getElem?_getD, List.getElem?_eq_getElem ht]; rfl
      rw [e1]
      exact order_any _ e (w.drewN m) ((hel _ (List.getElem_mem ht)).drewN m) (he.drewN m))
    (cut r.els e) (cut_le _ _)
    (fun t ht => by
      have htl : t < r.els.length := Nat.lt_of_lt_of_le ht (cut_le _ _)
      have e1 : r.els.getD t e = r.els[t] := by rw [List.getD_eq_getElem?_getD, List.getElem?_eq_getElem htl]; rfl
      rw [e1]
      exact (cut_at hs e t htl).1 ht)
    (fun t ht htl => by
      have e1 : r.els.getD t e = r.els[t] := by rw [List.getD_eq_getElem?_getD, List.getElem?_eq_getElem htl]; rfl
      rw [e1]
      exact (cut_at hs e t htl).2 ht)
    (by omega)
theorem sd_run {R : List Run} (hs : Sd (flat R)) {r : Run} (hr : r ∈ R) : Sd r.els := List.Pairwise.sublist (List.sublist_flatten_of_mem (List.mem_map.2 ⟨r, hr, rfl⟩)) hs

set_option maxHeartbeats 400000 in
theorem place_any (qb N : Nat) (lv : Value) (M tk ar : Nat) (R1 R2 : List Run) (r : Run) (a b : List El) (e : El) (w : World) (hq : QB w qb N lv M tk ar) (h : LnM w lv (R1 ++ r :: R2)) (hs : Sd (flat (R1 ++ r :: R2))) (hl : (flat (R1 ++ r :: R2)).length ≤ 65536) (hr : r.els = a ++ e :: b) :
    Calls Try.prog 143 #[.pointer (some ⟨qb, 1, none⟩), pV e] w fun q w' => q = .returned (.tuple #[nV R1.length, nV a.length]) ∧ ∃ k, w' = w.drewN k := by
  have hrm : r ∈ R1 ++ r :: R2 := by simp
  have he : ElAt w e := h.el r hrm e (by rw [hr]; simp)
  have HR : Hid (Unit → _) := fun (_ : Unit) => runOf_any qb N lv M tk ar _ e w hq h hs (by simp) hl he
  have hne : ∀ s ∈ (R1.map Run.els) ++ (a ++ e :: b) :: R2.map Run.els, s ≠ [] := fun s hs1 => by
    have hs2 : s ∈ (R1 ++ r :: R2).map Run.els := by simpa [hr] using hs1
    obtain ⟨t, ht, rfl⟩ := List.mem_map.1 hs2
    exact h.ne t ht
  have hta := take_at (R1 := R1.map Run.els) (R2 := R2.map Run.els) (a := a) (b := b) (e := e) (by simpa [flat, hr] using hs) hne
  have hrc : rcut ((R1 ++ r :: R2).map Run.els) e = R1.length := by
    have := hta.1
    rw [List.length_map] at this
    rw [← this, List.map_append, List.map_cons, hr]
  rw [hrc] at HR
  obtain ⟨g, cap, hlv, h1, h2, h3⟩ := h.outer (i := R1.length) (by simp)
  rw [show (R1 ++ r :: R2)[R1.length]'(by simp) = r by simp] at h3
  obtain ⟨g2, cap2, hv, h4, h5, hc⟩ := h.runAt hrm
  have HB : Hid (∀ m, _) := fun m => bsAt g2 cap2 r e (w.drewN m) (sd_run hs hrm) (fun j hj => hc j hj) (fun x hx => (h.el r hrm x hx).drewN m) (he.drewN m) (Nat.le_trans (flat_len hrm) hl)
  have hcut : cut r.els e = a.length := by rw [hr]; exact hta.2
  rw [hcut] at HB
  have hlen : (R1 ++ r :: R2).length = R1.length + R2.length + 1 := by simp; omega
  have hrl := runs_len h.ne
  obtain ⟨c0, c1, c2, c3, c4⟩ := hq.cells
  have c1' : ∀ m, (w.drewN m).cell? ⟨qb, 1, none⟩ = some lv := fun _ => c1
  have h3' : ∀ m, (w.drewN m).cell? ⟨g, R1.length, none⟩ = some r.v := fun _ => h3
  subst hlv
  rw [hlen] at *
  rw [hv] at h3'
  clear hq h hs he c0 c1 c2 c3 c4 h3 hne hta hrc hc hcut hv hr hrm
  generalize r.els.length = rn at *
  go_enter Try.func143, Try.ntmps143
  go_wp2_with fail
  refine (HR.out ()).mono ?_
  rintro q w1 ⟨rfl, k, rfl⟩
  clear HR
  have HBk : Hid (Unit → _) := fun (_ : Unit) => HB.out k
  have c1 := c1' k
  have h3 := h3' k
  have HW : Hid (∀ n, (w.drewN k).drewN n = w.drewN (k + n)) := fun n => by rw [World.drewN_drewN]
  clear HB c1' h3'
  generalize w.drewN k = w2 at *
  go_wp2_with fail
  refine (HBk.out ()).mono ?_
  rintro q w1 ⟨⟨f, rfl⟩, k2, rfl⟩
  clear HBk
  go_wp2
  go_ret2
  exact ⟨rfl, _, HW.out _⟩
end Go.Proofs.Ytonpdnpfekmapaa.SI
