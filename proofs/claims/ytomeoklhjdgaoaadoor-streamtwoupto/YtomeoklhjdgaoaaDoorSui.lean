/-
  A stream and the document's one beside it: each call tells the same on both sides.
-/
import Derived.Test.YtomeoklhjdgaoaaDoorSuh
import Derived.Test.YtomeoklhjdgaoaaDoorSts
namespace Go.Proofs.YtomeoklhjdgaoaaDoor
open Go.RowKit Go.Lib Go.Maps

/-- The program's stream pv in memory and the document's: nil; live; a stop text met; ended. -/
def PlS (T : List (List UInt8)) (F : Nat → Prop) (W : World) (pv : Value) (so : Option Addr) (sn sc : Nat) (no : Bool) (all out : List UInt8) (met : Int) (en : Bool) : Prop :=
  (no = true ∧ pv = .pointer none ∧ out = [] ∧ met = -1) ∨ (no = false ∧ ∃ b, pv = .pointer (some ⟨b, 0, none⟩) ∧ TxR (fun q => ¬ F q) W (.slice so sn sc) T ∧ GdT T ∧
    ((en = false ∧ met = -1 ∧ NoCut T all ∧ out = clL (goF T all) ∧ StM F W b T out (hldF T all) false false 0) ∨
     (0 ≤ met ∧ StM F W b T out [] true true met) ∨
     (en = true ∧ met = -1 ∧ StM F W b T out [] true false 0)))
theorem TxR.mvd {F F' : Nat → Prop} {W W' : World} {v : Value} {T : List (List UInt8)} (h : TxR (fun q => ¬ F q) W v T) (k : Mvd F W F' W') : TxR (fun q => ¬ F' q) W' v T := by
  have h1 := h.kept k.1 (fun b hb e => hb e)
  obtain ⟨ao, cap, h1, h2, h3, h4, h6, h5⟩ := h
  refine ⟨ao, cap, h1, h2, h3, h4, h6, fun h0 => ?_⟩
  obtain ⟨b, off, ha, hp, hb, hc⟩ := h5 h0
  exact ⟨b, off, ha, fun e => (k.2.2 b e).elim hp (fun e2 => by omega), Nat.lt_of_lt_of_le hb k.1.size, fun i hi => (k.1.cell (p := ⟨b, off + i, none⟩) hb hp).trans (hc i hi)⟩
variable {T : List (List UInt8)} {F : Nat → Prop} {W : World} {pv : Value} {so : Option Addr} {sn sc : Nat} {no en : Bool} {all out piece : List UInt8} {met : Int}
theorem PlS.fresh {W' : World} (h : PlS T F W pv so sn sc no all out met en) (hk : Fresh W W') : PlS T F W' pv so sn sc no all out met en := by
  rcases h with h | ⟨h1, b, h2, h3, h4, h5⟩
  · exact .inl h
  · refine .inr ⟨h1, b, h2, h3.fresh hk, h4, ?_⟩
    rcases h5 with ⟨a1, a2, a3, a4, a5⟩ | ⟨a1, a2⟩ | ⟨a1, a2, a3⟩
    · exact .inl ⟨a1, a2, a3, a4, a5.fresh hk⟩
    · exact .inr (.inl ⟨a1, a2.fresh hk⟩)
    · exact .inr (.inr ⟨a1, a2, a3.fresh hk⟩)
/-- Text. -/
theorem PlS.text (h : PlS T F W pv so sn sc no all out met en) : Calls Tryd.prog 15 #[pv] W fun e w' => e = .returned (sV out) ∧ w' = W := by
  rcases h with ⟨_, rfl, rfl, _⟩ | ⟨_, b, rfl, _, _, h⟩
  · exact Text_nil W
  · rcases h with ⟨_, _, _, _, h⟩ | ⟨_, h⟩ | ⟨_, _, h⟩ <;> exact Text_any h
/-- Stopped. -/
theorem PlS.stopped (h : PlS T F W pv so sn sc no all out met en) : Calls Tryd.prog 22 #[pv] W fun e w' => (e = .returned (.tuple #[zV met, .bool true]) ∧ 0 ≤ met ∨ e = .returned (.tuple #[zV 0, .bool false]) ∧ met = -1) ∧ Fresh W w' := by
  rcases h with ⟨_, rfl, _, hm⟩ | ⟨_, b, rfl, _, _, h⟩
  · exact (Stopped_nil W).mono (fun e w' ⟨he, hw⟩ => ⟨.inr ⟨he, hm⟩, by rw [hw]; exact Kept.refl _ _⟩)
  · rcases h with ⟨_, hm, _, _, h⟩ | ⟨hm, h⟩ | ⟨_, hm, h⟩
    · exact (Stopped_any h).mono (fun e w' ⟨he, hw⟩ => ⟨.inr ⟨he, hm⟩, hw⟩)
    · exact (Stopped_any h).mono (fun e w' ⟨he, hw⟩ => ⟨.inl ⟨he, hm⟩, hw⟩)
    · exact (Stopped_any h).mono (fun e w' ⟨he, hw⟩ => ⟨.inr ⟨he, hm⟩, hw⟩)
/-- Held and Back: the same on both sides. -/
theorem PlS.held (h : PlS T F W pv so sn sc no all out met en) (hl : all.length ≤ 16777216) : ∃ hd : List UInt8, (∀ X, Fresh W X → Calls Tryd.prog 21 #[pv] X fun e w' => e = .returned (sV hd) ∧ w' = X) ∧
    (∀ X, Fresh W X → Calls Tryd.prog 37 #[rsV no (.slice so sn sc) all out met en] X fun e w' => e = .returned (sV hd) ∧ Fresh X w') := by
  rcases h with ⟨hn, rfl, _, _⟩ | ⟨hn, b, rfl, hR, hT, h⟩
  · exact ⟨[], fun X _ => Held_nil X, fun X _ => refBack_done no en _ all out met X (.inl hn)⟩
  · rcases h with ⟨he, hm, _, _, h⟩ | ⟨hm, h⟩ | ⟨he, _, h⟩
    · subst hn he hm
      exact ⟨hldF T all, fun X hk => Held_any (h.fresh hk), fun X hk => refBack_live T _ all out X (hR.fresh hk) hT hl⟩
    · exact ⟨[], fun X hk => Held_any (h.fresh hk), fun X _ => refBack_done no en _ all out met X (.inr (.inr hm))⟩
    · exact ⟨[], fun X hk => Held_any (h.fresh hk), fun X _ => refBack_done no en _ all out met X (.inr (.inl he))⟩
/-- End: the same on both sides. -/
theorem PlS.end_ (h : PlS T F W pv so sn sc no all out met en) (hl : all.length ≤ 4194304) : ∃ pc out' : List UInt8,
    (∀ X, Fresh W X → Calls Tryd.prog 36 #[rsV no (.slice so sn sc) all out met en] X fun e w' => e = .returned (.tuple #[rsV no (.slice so sn sc) all out' met true, sV pc]) ∧ Fresh X w') ∧
    (∀ X, Fresh W X → Calls Tryd.prog 23 #[pv] X fun e w' => e = .returned (sV pc) ∧ ∃ F', PlS T F' w' pv so sn sc no all out' met true ∧ Mvd F X F' w') := by
  rcases h with ⟨hn, rfl, ho, hm⟩ | ⟨hn, b, rfl, hR, hT, h⟩
  · exact ⟨[], out, fun X _ => refEnd_done no en so sn sc all out met X (.inl hn), fun X _ => (End_nil X).mono (fun e w' ⟨he, hw⟩ => ⟨he, F, .inl ⟨hn, rfl, ho, hm⟩, by rw [hw]; exact Mvd.refl _ _⟩)⟩
  · rcases h with ⟨he, hm, hN, ho, h⟩ | ⟨hm, h⟩ | ⟨he, hm, h⟩
    · subst hn he hm
      have hh := hldF_63 hT all
      have hg : (goF T all).length ≤ all.length := by unfold goF; rw [List.length_take]; omega
      have hcl := clL_le (goF T all)
      refine ⟨clL (hldF T all), out ++ clL (hldF T all), fun X hk => refEnd_live so sn sc all out _ X (by omega) (by rw [ho]; exact cl_end hT all), fun X hk => ?_⟩
      refine (End_live (h.fresh hk) (by omega) (by rw [ho]; omega)).mono ?_
      rintro e w' ⟨rfl, F', g1, g2⟩
      exact ⟨rfl, F', .inr ⟨rfl, b, rfl, (hR.fresh hk).mvd g2, hT, .inr (.inr ⟨rfl, rfl, g1⟩)⟩, g2⟩
    · refine ⟨[], out, fun X _ => refEnd_done no en so sn sc all out met X (.inr (.inr hm)), fun X hk => (End_ended (h.fresh hk)).mono ?_⟩
      rintro e w' ⟨rfl, rfl⟩
      exact ⟨rfl, F, .inr ⟨hn, b, rfl, hR.fresh hk, hT, .inr (.inl ⟨hm, h.fresh hk⟩)⟩, Mvd.refl _ _⟩
    · refine ⟨[], out, fun X _ => refEnd_done no en so sn sc all out met X (.inr (.inl he)), fun X hk => (End_ended (h.fresh hk)).mono ?_⟩
      rintro e w' ⟨rfl, rfl⟩
      exact ⟨rfl, F, .inr ⟨hn, b, rfl, hR.fresh hk, hT, .inr (.inr ⟨rfl, hm, h.fresh hk⟩)⟩, Mvd.refl _ _⟩
/-- Feed: the same on both sides. -/
theorem PlS.feed (h : PlS T F W pv so sn sc no all out met en) (piece : List UInt8) (hl : all.length + piece.length ≤ 4194304) (hm : TbM W) : ∃ (pc all' out' : List UInt8) (met' : Int), all'.length ≤ all.length + piece.length ∧
    (∀ X, Fresh W X → Calls Tryd.prog 38 #[rsV no (.slice so sn sc) all out met en, sV piece] X fun e w' => e = .returned (.tuple #[rsV no (.slice so sn sc) all' out' met' en, sV pc]) ∧ Fresh X w') ∧
    (∀ X, Fresh W X → Calls Tryd.prog 20 #[pv, sV piece] X fun e w' => e = .returned (sV pc) ∧ ∃ F', PlS T F' w' pv so sn sc no all' out' met' en ∧ Mvd F X F' w') := by
  rcases h with ⟨hn, rfl, ho, hmt⟩ | ⟨hn, b, rfl, hR, hT, h⟩
  · exact ⟨[], all, out, met, by omega, fun X _ => refFeed_done no en so sn sc all out piece met X (.inl hn), fun X _ => (Feed_nil piece X).mono (fun e w' ⟨he, hw⟩ => ⟨he, F, .inl ⟨hn, rfl, ho, hmt⟩, by rw [hw]; exact Mvd.refl _ _⟩)⟩
  · rcases h with ⟨he, hmt, hN, ho, h⟩ | ⟨hmt, h⟩ | ⟨he, hmt, h⟩
    · subst hn he hmt
      have hh := hldF_le T all
      have hg : (goF T all).length ≤ all.length := by unfold goF; rw [List.length_take]; omega
      have hcl := clL_le (goF T all)
      obtain ⟨c1, c2, c3⟩ := cut_shift (b := piece) hT hN
      have hFd := fun X (hk : Fresh W X) => Feed_live piece (h.fresh hk) (by rw [List.length_append]; omega) (by rw [ho]; omega) hT (hm.fresh hk)
      by_cases hM : cuM T (all ++ piece) = -1
      · have hM2 : cuM T (hldF T all ++ piece) = -1 := by rw [← c1]; exact hM
        refine ⟨clL (goF T (hldF T all ++ piece)), all ++ piece, out ++ clL (goF T (hldF T all ++ piece)), cuM T (all ++ piece), by rw [List.length_append]; omega, fun X hk => refFeed_live T so sn sc all piece out _ X (hR.fresh hk) hT (by rw [List.length_append]; omega) (fun _ => by rw [ho]; exact cl_next hT all piece) (fun e => absurd hM e), fun X hk => (hFd X hk).mono ?_⟩
        rintro e w' ⟨_, hn⟩
        obtain ⟨rfl, F', g1, g2⟩ := hn hM2
        refine ⟨rfl, F', .inr ⟨rfl, b, rfl, (hR.fresh hk).mvd g2, hT, .inl ⟨rfl, hM, c2 hM, by rw [ho]; exact (cl_next hT all piece).symm, ?_⟩⟩, g2⟩
        rw [hold_shift]
        exact g1
      · have hM2 : cuM T (hldF T all ++ piece) ≠ -1 := by rw [← c1]; exact hM
        have hge := cuM_ge T (all ++ piece)
        obtain ⟨k, d1, d2⟩ := c3 hM
        have hco : clL (cuS T (all ++ piece)) = out ++ clL (cuS T (hldF T all ++ piece)) := by rw [ho, d1, d2, cl_go hT]
        refine ⟨clL (cuS T (hldF T all ++ piece)), all ++ piece, out ++ clL (cuS T (hldF T all ++ piece)), cuM T (all ++ piece), by rw [List.length_append]; omega, fun X hk => refFeed_live T so sn sc all piece out _ X (hR.fresh hk) hT (by rw [List.length_append]; omega) (fun e => absurd e hM) (fun _ => hco), fun X hk => (hFd X hk).mono ?_⟩
        rintro e w' ⟨hy, _⟩
        obtain ⟨rfl, F', g1, g2⟩ := hy hM2
        rw [← c1] at g1
        exact ⟨rfl, F', .inr ⟨rfl, b, rfl, (hR.fresh hk).mvd g2, hT, .inr (.inl ⟨by omega, g1⟩)⟩, g2⟩
    · refine ⟨[], all, out, met, by omega, fun X _ => refFeed_done no en so sn sc all out piece met X (.inr (.inr hmt)), fun X hk => (Feed_ended piece (h.fresh hk)).mono ?_⟩
      rintro e w' ⟨rfl, rfl⟩
      exact ⟨rfl, F, .inr ⟨hn, b, rfl, hR.fresh hk, hT, .inr (.inl ⟨hmt, h.fresh hk⟩)⟩, Mvd.refl _ _⟩
    · refine ⟨[], all, out, met, by omega, fun X _ => refFeed_done no en so sn sc all out piece met X (.inr (.inl he)), fun X hk => (Feed_ended piece (h.fresh hk)).mono ?_⟩
      rintro e w' ⟨rfl, rfl⟩
      exact ⟨rfl, F, .inr ⟨hn, b, rfl, hR.fresh hk, hT, .inr (.inr ⟨he, hmt, h.fresh hk⟩)⟩, Mvd.refl _ _⟩
end Go.Proofs.YtomeoklhjdgaoaaDoor
