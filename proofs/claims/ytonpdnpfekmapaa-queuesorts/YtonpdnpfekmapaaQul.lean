/-
  An element is taken out of a line.
-/
import Derived.Test.YtonpdnpfekmapaaQuk
import Derived.Deep.RegionWith
namespace Go.Proofs.Ytonpdnpfekmapaa
open Go.RowKit Go.Lib

theorem pV_one (l : List El) : ∀ v ∈ l.map pV, v.oneCell' = true := fun v hv => by
  obtain ⟨x, _, rfl⟩ := List.mem_map.1 hv
  rfl
theorem mid_out {A B : List Value} {x : Value} {i : Nat} (h : i = A.length) : (A ++ x :: B).take i ++ (A ++ x :: B).drop (i + 1) = A ++ B := by
  subst h
  rw [List.take_left' rfl, List.drop_append, List.drop_of_length_le (by omega), show A.length + 1 - A.length = 1 by omega]
  rfl
theorem rV_one {w : World} {lv : Value} {R : List Run} (h : LnM w lv R) : ∀ v ∈ R.map Run.v, v.oneCell' = true := fun v hv => by
  obtain ⟨r, hr, rfl⟩ := List.mem_map.1 hv
  obtain ⟨g, cap, e, _⟩ := h.runAt hr
  rw [e]
  rfl

section
variable {w W X : World} {qb N : Nat} {lv : Value} {M tk ar : Nat} {R1 R2 : List Run} {r : Run} {g cap g2 cap2 : Nat}

/-- The rows and the blocks behind a turn of one run, where its slice is stored anew. -/
theorem turn_kept (hlv : lv = .slice (some ⟨g, 0, none⟩) (R1 ++ r :: R2).length cap) (hv : r.v = .slice (some ⟨g2, 0, none⟩) r.els.length cap2) (hK0 : Fresh w W) (hX2 : Kept (fun k => k = g2) W X) (x : Value) (i : Nat) :
    Kept (fun k => k = qb ∨ lv.ownBlock = some k ∨ r.v.ownBlock = some k) w (X.setCell ⟨g, i, none⟩ x) := by
  refine Kept.setCell (p := ⟨g, i, none⟩) ?_ (fun _ => .inr (.inl (by rw [hlv]; rfl))) x
  refine Kept.trans (hK0.mono (fun k _ e => e.elim)) hX2 (fun k _ e => .inr (.inr ?_))
  rw [hv, e]
  rfl
theorem qb_kept {w' : World} (hq : QB w qb N lv M tk ar) (h : LnM w lv (R1 ++ r :: R2)) {S : Nat → Prop} (hk : Kept S w w') (hS : ∀ k, S k → LF lv (R1 ++ r :: R2) k) : QB w' qb N lv M tk ar := hk.at hq (fun e => hq.not_lf h (hS _ e))
theorem outer_kept (h : LnM w lv (R1 ++ r :: R2)) (hlv : lv = .slice (some ⟨g, 0, none⟩) (R1 ++ r :: R2).length cap) (hv : r.v = .slice (some ⟨g2, 0, none⟩) r.els.length cap2) (hK0 : Fresh w W) (hX2 : Kept (fun k => k = g2) W X) (x : Value) :
    (X.setCell ⟨g, R1.length, none⟩ x).ownsRow 0 162 1 lv (R1 ++ r :: R2).length (R1.map Run.v ++ x :: R2.map Run.v) := by
  have hrm : r ∈ R1 ++ r :: R2 := by simp
  have h1 : X.ownsRow 0 162 1 lv (R1 ++ r :: R2).length ((R1 ++ r :: R2).map Run.v) := by
    refine owns_kept (owns_kept h.own hK0 (fun _ _ e => e)) hX2 (fun k hk e => ?_)
    exact h.outer_not_run hrm (by rw [hv, hk, e]; rfl)
  rw [hlv] at h1 ⊢
  have h2 := own_set (i := R1.length) (x := x) h1
  have e1 : ((R1 ++ r :: R2).map Run.v).set R1.length x = R1.map Run.v ++ x :: R2.map Run.v := by simp
  rw [e1] at h2
  exact h2
theorem take_end1 {a b : List El} {e : El} {n : Nat} (hq : QB w qb N lv M tk ar) (h : LnM w lv (R1 ++ r :: R2)) (hlv : lv = .slice (some ⟨g, 0, none⟩) (R1 ++ r :: R2).length cap) (hv : r.v = .slice (some ⟨g2, 0, none⟩) r.els.length cap2) (hr : r.els = a ++ e :: b)
    (hK0 : Fresh w W) (hX1 : X.ownsRow 0 130 1 (.slice (some ⟨g2, 0, none⟩) n cap2) n ((a ++ b).map pV)) (hX2 : Kept (fun k => k = g2) W X) (hn : n = a.length + b.length) (h0 : n ≠ 0) :
    LnPost w qb N lv M tk ar (R1 ++ r :: R2) (flat R1 ++ (a ++ b) ++ flat R2) (X.setCell ⟨g, R1.length, none⟩ (.slice (some ⟨g2, 0, none⟩) n cap2)) := by
  have hrm : r ∈ R1 ++ r :: R2 := by simp
  have hgg : g2 ≠ g := fun e => h.outer_not_run hrm (by rw [hv, hlv, e]; rfl)
  have hk := turn_kept (qb := qb) hlv hv hK0 hX2 (.slice (some ⟨g2, 0, none⟩) n cap2) R1.length
  have hk2 : Kept (fun k => LF lv (R1 ++ r :: R2) k) w (X.setCell ⟨g, R1.length, none⟩ (.slice (some ⟨g2, 0, none⟩) n cap2)) := by
    refine (turn_kept (qb := g) hlv hv hK0 hX2 _ R1.length).mono (fun k _ e => ?_)
    rcases e with e | e | e
    · exact .inl (by rw [hlv, e]; rfl)
    · exact .inl e
    · exact .inr ⟨r, hrm, e⟩
  have ho := outer_kept h hlv hv hK0 hX2 (.slice (some ⟨g2, 0, none⟩) n cap2)
  obtain ⟨_, o2⟩ := h.others hq (rb := r.v.ownBlock) (fun k e => .inr ⟨r, hrm, e⟩) hk
  have hLn := h.swap hq ⟨.slice (some ⟨g2, 0, none⟩) n cap2, a ++ b⟩ hk (by simpa using ho)
    (by
      have : (a ++ b).length = n := by rw [hn]; simp
      show World.ownsRow _ 0 _ 1 _ (a ++ b).length _
      rw [this]
      exact owns_kept hX1 ((Kept.refl (fun k => k = g) X).setCell (p := ⟨g, R1.length, none⟩) (fun _ => rfl) _) (fun k hk e => hgg ((Option.some.inj hk).trans e)))
    (fun e => h0 (by rw [hn]; have := congrArg List.length e; simpa using this)) (.inl (by rw [hv]; rfl)) (fun x hx => o2 r hrm x (by rw [hr]; rcases List.mem_append.1 hx with hx | hx <;> simp [hx]))
  refine ⟨lv, _, qb_kept hq h hk2 (fun _ e => e), hLn, by simp [flat], hk2.mono (fun k _ e => .inr e), fun k hk3 => .inl ?_⟩
  rcases hk3 with e | ⟨s, hs, e⟩
  · exact .inl e
  · rcases List.mem_append.1 hs with hs | hs
    · exact .inr ⟨s, List.mem_append_left _ hs, e⟩
    · rcases List.mem_cons.1 hs with rfl | hs
      · exact .inr ⟨r, hrm, by rw [hv]; exact e⟩
      · exact .inr ⟨s, by simp [hs], e⟩
theorem take_end2 {a b : List El} {e : El} {m : Nat} {Y : World} (hq : QB w qb N lv M tk ar) (h : LnM w lv (R1 ++ r :: R2)) (hlv : lv = .slice (some ⟨g, 0, none⟩) (R1 ++ r :: R2).length cap) (hv : r.v = .slice (some ⟨g2, 0, none⟩) r.els.length cap2) (hr : r.els = a ++ e :: b)
    (hK0 : Fresh w W) (hX2 : Kept (fun k => k = g2) W X) (h0 : a.length + b.length = 0) (x : Value) (hm : m = R1.length + R2.length)
    (hY1 : Y.ownsRow 0 162 1 (.slice (some ⟨g, 0, none⟩) m cap) m (R1.map Run.v ++ R2.map Run.v)) (hY2 : Kept (fun k => k = g) (X.setCell ⟨g, R1.length, none⟩ x) Y) :
    LnPost w qb N lv M tk ar (R1 ++ r :: R2) (flat R1 ++ (a ++ b) ++ flat R2) (Y.setCell ⟨qb, 1, none⟩ (.slice (some ⟨g, 0, none⟩) m cap)) := by
  have hrm : r ∈ R1 ++ r :: R2 := by simp
  have hgq : g ≠ qb := fun e => hq.not_lf h (.inl (by rw [hlv, e]; rfl))
  have hg2q : g2 ≠ qb := fun e => hq.not_lf h (.inr ⟨r, hrm, by rw [hv, e]; rfl⟩)
  have hkY : Kept (fun k => k = g ∨ k = g2) w Y := by
    refine Kept.trans (Kept.setCell (p := ⟨g, R1.length, none⟩) (Kept.trans (hK0.mono (fun k _ e => e.elim)) hX2 (fun k _ e => .inr e)) (fun _ => .inl rfl) x) hY2 (fun k _ e => .inl e)
  have hqY : QB Y qb N lv M tk ar := hkY.at hq (fun e => by rcases e with e | e; exact hgq e.symm; exact hg2q e.symm)
  have hk : Kept (fun k => k = qb ∨ lv.ownBlock = some k ∨ r.v.ownBlock = some k) w (Y.setCell ⟨qb, 1, none⟩ (.slice (some ⟨g, 0, none⟩) m cap)) := by
    refine Kept.setCell (p := ⟨qb, 1, none⟩) (hkY.mono (fun k _ e => ?_)) (fun _ => .inl rfl) _
    rcases e with rfl | rfl
    · exact .inr (.inl (by rw [hlv]; rfl))
    · exact .inr (.inr (by rw [hv]; rfl))
  have hown : (Y.setCell ⟨qb, 1, none⟩ (.slice (some ⟨g, 0, none⟩) m cap)).ownsRow 0 162 1 (.slice (some ⟨g, 0, none⟩) m cap) m (R1.map Run.v ++ R2.map Run.v) :=
    owns_kept hY1 ((Kept.refl (fun k => k = qb) Y).setCell (p := ⟨qb, 1, none⟩) (fun _ => rfl) _) (fun k hk e => hgq ((Option.some.inj hk).trans e))
  have hml : (R1 ++ R2).length = m := by rw [hm]; simp
  have hLn := h.less hq hk (lv' := .slice (some ⟨g, 0, none⟩) m cap) (by rw [hml, List.map_append]; exact hown)
  have ha : a = [] := List.eq_nil_of_length_eq_zero (by omega)
  have hb : b = [] := List.eq_nil_of_length_eq_zero (by omega)
  subst ha
  subst hb
  refine ⟨_, _, Lib.heap_setCell_same hqY _ (i := 1), hLn, by simp [flat], hk.mono (fun k _ e => ?_), fun k hk3 => .inl ?_⟩
  · rcases e with e | e | e
    · exact .inl e
    · exact .inr (.inl e)
    · exact .inr (.inr ⟨r, hrm, e⟩)
  · rcases hk3 with e | ⟨s, hs, e⟩
    · exact .inl (by rw [hlv]; exact e)
    · rcases List.mem_append.1 hs with hs | hs
      · exact .inr ⟨s, List.mem_append_left _ hs, e⟩
      · exact .inr ⟨s, by simp [hs], e⟩
end

set_option maxHeartbeats 2000000 in
set_option maxRecDepth 100000 in
theorem take_any (qb N : Nat) (lv : Value) (M tk ar : Nat) (R1 R2 : List Run) (r : Run) (a b : List El) (e : El) (w : World) (hq : QB w qb N lv M tk ar) (h : LnM w lv (R1 ++ r :: R2)) (hs : Sd (flat (R1 ++ r :: R2))) (hl : (flat (R1 ++ r :: R2)).length ≤ 65536) (hr : r.els = a ++ e :: b) :
    Calls Try.prog 76 #[.pointer (some ⟨qb, 1, none⟩), pV e] w fun q w' => q = .returned (.tuple #[]) ∧ LnPost w qb N lv M tk ar (R1 ++ r :: R2) (flat R1 ++ (a ++ b) ++ flat R2) w' := by
  have HP : Hid (Unit → _) := fun (_ : Unit) => place_any qb N lv M tk ar R1 R2 r a b e w hq h hs hl hr
  have hrm : r ∈ R1 ++ r :: R2 := by simp
  obtain ⟨g, cap, hlv, h1, h2, h3⟩ := h.outer (i := R1.length) (by simp)
  rw [show (R1 ++ r :: R2)[R1.length]'(by simp) = r by simp] at h3
  obtain ⟨g2, cap2, hv, h4, h5, hc⟩ := h.runAt hrm
  have hlen : (R1 ++ r :: R2).length = R1.length + R2.length + 1 := by simp; omega
  have hrl := runs_len h.ne
  have hrn := flat_len hrm
  have hal : r.els.length = a.length + b.length + 1 := by rw [hr]; simp; omega
  have hgq : g ≠ qb := fun e => hq.not_lf h (.inl (by rw [hlv, e]; rfl))
  have hg2q : g2 ≠ qb := fun e => hq.not_lf h (.inr ⟨r, hrm, by rw [hv, e]; rfl⟩)
  have hgg : g2 ≠ g := fun e => h.outer_not_run hrm (by rw [hv, hlv, e]; rfl)
  have HD : Hid (∀ k, _) := fun k => delE_any g2 r.els.length cap2 a.length (r.els.map pV) (w.drewN k).drew (by have := h.run r hrm; rw [hv] at this; exact this) (by omega) (pV_one _)
  have hll : (r.els.map pV).take a.length ++ (r.els.map pV).drop (a.length + 1) = (a ++ b).map pV := by
    rw [hr, ← List.map_take, ← List.map_drop, ← List.map_append]
    congr 1
    simp
  rw [hll, hal] at HD
  rw [show a.length + b.length + 1 - 1 = a.length + b.length by omega] at HD
  obtain ⟨c0, c1, c2, c3, c4⟩ := hq.cells
  have HQ := show Hid _ from hq
  have HL := show Hid _ from h
  have c1' : ∀ m, (w.drewN m).drew.cell? ⟨qb, 1, none⟩ = some lv := fun _ => c1
  have h3' : ∀ m, (w.drewN m).drew.cell? ⟨g, R1.length, none⟩ = some r.v := fun _ => h3
  have f3' : ∀ m, (w.drewN m).drew.frozen? ⟨g, R1.length, none⟩ = false := fun _ => by
    obtain ⟨cur, hcur⟩ := own_type h.own (k := g) (by rw [hlv]; rfl)
    exact Lib.frozen_of_heap (w := w) hcur _
  have hbg : g < w.heap.size := h.lf_lt (.inl (by rw [hlv]; rfl))
  have hbq : qb < w.heap.size := lt_of_heap hq
  have HLV := show Hid _ from hlv
  have HV := show Hid _ from hv
  have HR := show Hid _ from hr
  rw [hv, hal] at h3'
  rw [hlen] at hrl h1
  rw [hlv, hlen] at c1'
  obtain ⟨i, hi⟩ : ∃ i, i = R1.length := ⟨_, rfl⟩
  obtain ⟨m, hm⟩ : ∃ m, m = R1.length + R2.length + 1 := ⟨_, rfl⟩
  obtain ⟨p, hp⟩ : ∃ p, p = a.length := ⟨_, rfl⟩
  obtain ⟨n, hn⟩ : ∃ n, n = a.length + b.length := ⟨_, rfl⟩
  have hj0 : (0 : Int) ≤ (i : Int) := by omega
  have hj1 : (i : Int) < (m : Int) := by omega
  have hj2 : IntKind.i64.wrap ((p : Int) + 1) = (p : Int) + 1 := by rw [IntKind.wrap_i64]; omega
  have hj3 : IntKind.i64.wrap ((i : Int) + 1) = (i : Int) + 1 := by rw [IntKind.wrap_i64]; omega
  rw [← hm] at c1' h1
  rw [← hi] at HP h3' f3'
  rw [← hn] at HD h3'
  rw [← hp] at HP HD
  have HN : Hid (i = R1.length ∧ m = R1.length + R2.length + 1 ∧ p = a.length ∧ n = a.length + b.length) := ⟨hi, hm, hp, hn⟩
  have hn64 : n ≤ 65536 := by omega
  clear hq h hs c0 c1 c2 c3 c4 h3 hc hv hlv hr hrm hll hi hm hp hn hlen hrl hrn hal
  go_enter Try.func76, Try.ntmps76
  go_wp2_with fail
  refine (HP.out ()).mono ?_
  rintro q w1 ⟨rfl, k, rfl⟩
  clear HP
  have HDk : Hid (Unit → _) := fun (_ : Unit) => HD.out k
  have hS1 : (w.drewN k).cell? ⟨qb, 1, none⟩ = some (.slice (some ⟨g, 0, none⟩) m cap) := c1' k
  have hS2 : (w.drewN k).frozen? ⟨g, i, none⟩ = false := f3' k
  have h3k : (w.drewN k).cell? ⟨g, i, none⟩ = some (.slice (some ⟨g2, 0, none⟩) (n + 1) cap2) := h3' k
  have HK0 : Hid (Fresh w (w.drewN k)) := (Kept.refl _ w).drewN k
  have hsz : (w.drewN k).heap.size = w.heap.size := rfl
  rw [← hsz] at hbg hbq
  clear HD c1' h3' f3' hsz
  generalize w.drewN k = w2 at *
  go_wp2_with fail
  go_region_with (first | (go_at_call 103; refine (HDk.out ()).mono ?_; rintro r5 X5 ⟨rfl, hX1, hX2⟩; have hY1 := (hX2.cell (p := ⟨qb, 1, none⟩) hbq (fun e => hg2q e.symm)).trans hS1; have hY2 := (hX2.frozen (p := ⟨g, i, none⟩) hbg (fun e => hgg e.symm)).trans hS2; have hY3 := (hX2.cell (p := ⟨g, i, none⟩) hbg (fun e => hgg e.symm)).trans h3k))
  all_goals
    have hgX : g < X5.heap.size := Nat.lt_of_lt_of_le hbg hX2.size
    have hqX : qb < X5.heap.size := Nat.lt_of_lt_of_le hbq hX2.size
    have hk3 := (Kept.refl (fun k => k = g) X5).setCell (p := ⟨g, i, none⟩) (fun _ => rfl) (.slice (some ⟨g2, 0, none⟩) n cap2)
    have hZ1 := (hk3.cell (p := ⟨qb, 1, none⟩) hqX (fun e => hgq e.symm)).trans hY1
    have hZ2 := World.cell?_setCell_same X5 ⟨g, i, none⟩ (.slice (some ⟨g2, 0, none⟩) n cap2) hY3
    have hZ3 := (hk3.frozen (p := ⟨qb, 1, none⟩) hqX (fun e => hgq e.symm)).trans (hX2.frozen (p := ⟨qb, 1, none⟩) hbq (fun e => hg2q e.symm))
    by_cases h0 : n = 0
    · have hDR := delR_any g m cap i (R1.map Run.v ++ (.slice (some ⟨g2, 0, none⟩) n cap2) :: R2.map Run.v) (X5.setCell ⟨g, i, none⟩ (.slice (some ⟨g2, 0, none⟩) n cap2))
        (by
          have h6 := outer_kept HL.out HLV.out HV.out HK0.out.drew hX2 (.slice (some ⟨g2, 0, none⟩) n cap2)
          rw [HLV.out, show (R1 ++ r :: R2).length = m by rw [HN.out.2.1]; simp; omega, ← HN.out.1] at h6
          exact h6)
        (by omega)
        (fun v hv => by
          rcases List.mem_append.1 hv with hv | hv
          · exact rV_one HL.out v (by rw [List.map_append]; exact List.mem_append_left _ hv)
          · rcases List.mem_cons.1 hv with rfl | hv
            · rfl
            · exact rV_one HL.out v (by rw [List.map_append, List.map_cons]; simp [hv]))
      rw [show (R1.map Run.v ++ (.slice (some ⟨g2, 0, none⟩) n cap2) :: R2.map Run.v).take i ++ (R1.map Run.v ++ (.slice (some ⟨g2, 0, none⟩) n cap2) :: R2.map Run.v).drop (i + 1) = R1.map Run.v ++ R2.map Run.v from mid_out (by rw [HN.out.1, List.length_map])] at hDR
      have HDR : Hid (Unit → _) := fun (_ : Unit) => hDR
      have HEND : Hid (∀ Y : World, Y.ownsRow 0 162 1 (.slice (some ⟨g, 0, none⟩) (m - 1) cap) (m - 1) (R1.map Run.v ++ R2.map Run.v) → Kept (fun k => k = g) (X5.setCell ⟨g, i, none⟩ (.slice (some ⟨g2, 0, none⟩) n cap2)) Y → LnPost w qb N lv M tk ar (R1 ++ r :: R2) (flat R1 ++ (a ++ b) ++ flat R2) (Y.setCell ⟨qb, 1, none⟩ (.slice (some ⟨g, 0, none⟩) (m - 1) cap))) := fun Y y1 y2 => by
        rw [HN.out.1] at y2
        exact take_end2 HQ.out HL.out HLV.out HV.out HR.out HK0.out.drew hX2 (by have := HN.out; omega) _ (by have := HN.out; omega) y1 y2
      have hqW : qb < (X5.setCell ⟨g, i, none⟩ (.slice (some ⟨g2, 0, none⟩) n cap2)).heap.size := Nat.lt_of_lt_of_le hqX hk3.size
      have hzq : w2.drew.frozen? ⟨qb, 1, none⟩ = false := by
        have := HK0.out.drew.frozen (p := ⟨qb, 1, none⟩) (lt_of_heap HQ.out) (fun e => e)
        rw [this]
        exact Lib.frozen_of_heap HQ.out 1
      rw [hzq] at hZ3
      generalize X5.setCell ⟨g, i, none⟩ (.slice (some ⟨g2, 0, none⟩) n cap2) = W3 at *
      subst h0
      clear HQ HL HLV HV HR HN hX1 hX2 hk3 HDk hDR
      go_wp2_with fail
      refine (HDR.out ()).mono ?_
      rintro q5 Y ⟨rfl, y1, y2⟩
      have hY5 := (y2.cell (p := ⟨qb, 1, none⟩) hqW (fun e => hgq e.symm)).trans hZ1
      have hY6 := (y2.frozen (p := ⟨qb, 1, none⟩) hqW (fun e => hgq e.symm)).trans hZ3
      have HY : Hid (Unit → _) := fun (_ : Unit) => HEND.out Y y1 y2
      clear HDR y1 y2 HEND
      go_wp2
      go_end0
      exact ⟨rfl, HY.out ()⟩
    · have HEND : Hid (LnPost w qb N lv M tk ar (R1 ++ r :: R2) (flat R1 ++ (a ++ b) ++ flat R2) (X5.setCell ⟨g, i, none⟩ (.slice (some ⟨g2, 0, none⟩) n cap2))) := by
        rw [HN.out.1]
        exact take_end1 HQ.out HL.out HLV.out HV.out HR.out HK0.out.drew hX1 hX2 HN.out.2.2.2 h0
      generalize X5.setCell ⟨g, i, none⟩ (.slice (some ⟨g2, 0, none⟩) n cap2) = W3 at *
      clear HQ HL HLV HV HR HN hX1 hX2 hk3 HDk
      go_wp2
      go_end0
      exact ⟨rfl, HEND.out⟩
end Go.Proofs.Ytonpdnpfekmapaa
