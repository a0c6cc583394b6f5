/-
  Rows, the package's and the document's.
-/
import Derived.Test.YtibbifklnimlcaaNod
import Derived.Test.YtibbifklnimlcaaGvl
namespace Go.Proofs.Ytibbifklnimlcaa
open Go.RowKit Go.Lib Go.Maps

/-- What Rows answers: of the first row that may not be its place and the error, else all rows. -/
def RaIs (L : List (List Int)) (gs : List Int) (I E : Int) (R : List (List Int)) : Prop :=
  (∃ i : Nat, i < L.length ∧ roE (L.getD i []) gs ≠ 0 ∧ (∀ h, h < i → roE (L.getD h []) gs = 0) ∧ I = i ∧ E = roE (L.getD i []) gs ∧ R = []) ∨
  ((∀ i, i < L.length → roE (L.getD i []) gs = 0) ∧ I = 0 ∧ E = 0 ∧ R = L.map (fun x => roL x gs))
theorem RaIs.unique {L : List (List Int)} {gs : List Int} {I E I' E' : Int} {R R' : List (List Int)} (h : RaIs L gs I E R) (k : RaIs L gs I' E' R') : I = I' ∧ E = E' ∧ R = R' := by
  rcases h with ⟨i, h1, h2, h3, rfl, rfl, rfl⟩ | ⟨h1, rfl, rfl, rfl⟩ <;> rcases k with ⟨j, k1, k2, k3, rfl, rfl, rfl⟩ | ⟨k1, rfl, rfl, rfl⟩
  · obtain rfl : i = j := by
      rcases Nat.lt_trichotomy i j with c | c | c
      · exact absurd (k3 i c) h2
      · exact c
      · exact absurd (h3 j c) k2
    exact ⟨rfl, rfl, rfl⟩
  · exact absurd (k1 i h1) h2
  · exact absurd (h1 j k1) k2
  · exact ⟨rfl, rfl, rfl⟩
theorem RaIs.small {L : List (List Int)} {gs : List Int} {I E : Int} {R : List (List Int)} (h : RaIs L gs I E R) : R.length ≤ L.length ∧ ∀ x ∈ R, x.length * kb .i8 ≤ 140737488351232 ∧ ∀ z ∈ x, Fit .i8 z := by
  rcases h with ⟨i, h1, h2, h3, rfl, rfl, rfl⟩ | ⟨h1, rfl, rfl, rfl⟩
  · exact ⟨by simp, fun x hx => by simp at hx⟩
  · refine ⟨by simp, fun x hx => ?_⟩
    obtain ⟨y, _, rfl⟩ := List.mem_map.1 hx
    exact ⟨by have := roL_len y gs; simp [kb]; omega, roL_fit y gs⟩
/-- The rows that a list has, whatever is made besides. -/
theorem LL.stay {k : IntKind} {p : Nat → Prop} {w : World} {ao : Option Addr} {n cap : Nat} {L : List (List Int)} (h : LL k p w (.slice ao n cap) L) : 0 < n → ∃ b off, ao = some ⟨b, off, none⟩ ∧ ∀ W, Fresh w W → ∀ i, i < n → ∃ a1 l1 c1, W.cell? ⟨b, off + i, none⟩ = some (.slice a1 l1 c1) ∧ Rk k p W (.slice a1 l1 c1) (L.getD i []) := fun hp => by
  obtain ⟨b, off, e, _, hb, hcell⟩ := h.cells.2.2 hp
  refine ⟨b, off, e, fun W hF i hi => ?_⟩
  obtain ⟨u, h1, h2⟩ := hcell i hi
  obtain ⟨a1, c1, h3, _⟩ := h2.shape
  subst h3
  exact ⟨a1, _, c1, (hF.cell (p := ⟨b, off + i, none⟩) hb (fun e => e)).trans h1, h2.fresh hF⟩
theorem own_some {B : Nat} {e : TypeId} {w : World} {v : Value} {n : Nat} {xs : List Value} (h : w.ownsRow B e 1 v n xs) (hn : 0 < n) : ∃ g c, v = .slice (some ⟨g, 0, none⟩) n c ∧ B ≤ g := by
  rcases h.2 with ⟨_, e⟩ | ⟨g', cap', cur, hv, hb, _⟩
  · omega
  · exact ⟨g', cap', hv, hb⟩

set_option maxHeartbeats 4000000 in
set_option maxRecDepth 100000 in
theorem Rows_any (p q : Nat → Prop) (lv gv : Value) (L : List (List Int)) (gs : List Int) (w : World) (hl : LL .i64 p w lv L) (hg : Rk .i8 q w gv gs) :
    Calls Try.prog 16 #[lv, gv] w fun e w' => ∃ I E R v, e = .returned (.tuple #[v, zV I, zV E]) ∧ (RaIs L gs I E R ∧ OLK .i8 45 31 w.heap.size w' v R ∧ Fresh w w') := by
  have hmany := hl.many
  obtain ⟨ao, ac, hva, _⟩ := hl.shape
  obtain ⟨bo, bc, hvb, _⟩ := hg.shape
  subst hva
  have HC : Hid _ := hl.stay
  have HG : Hid (∀ W, Fresh w W → Rk .i8 q W gv gs) := fun W hF => hg.fresh hF
  obtain ⟨n, hn⟩ : ∃ n, L.length = n := ⟨_, rfl⟩
  have HN : Hid (L.length = n) := hn
  rw [hn] at HC hmany ⊢
  have hmk := run_mkL tyL8 n (by omega) w
  have hOL := own_madeL 31 w w.heap.size (Nat.le_refl _) n (by omega)
  have hFL : Fresh w (w.alloc (.cells (List.replicate n (Value.slice none 0 0)).toArray 31)) := (Kept.refl _ w).alloc _
  generalize w.alloc (.cells (List.replicate n (Value.slice none 0 0)).toArray 31) = W1 at *
  have HO : Hid (W1.ownsRow w.heap.size 31 1 (.slice (some ⟨w.heap.size, 0, none⟩) n n) n ([] ++ List.replicate (n - 0) (Value.slice none 0 0)) ∧ OwnK .i8 45 w.heap.size W1 [] ((L.map (fun x => roL x gs)).take 0) w.heap.size ∧ Fresh w W1 ∧ ∀ h, h < 0 → roE (L.getD h []) gs = 0) := ⟨hOL, OwnK.nil _ _ _ _ _, hFL, fun h hh => by omega⟩
  subst hvb
  clear hl hg hOL hFL hn
  go_enter Try.func16, Try.ntmps16
  go_wp2
  clear hmk
  go_loopw [17] (fun iv wr => ∃ (j : Nat) (us : List Value), j ≤ n ∧ iv = zV j ∧ Hid (wr.ownsRow w.heap.size 31 1 (.slice (some ⟨w.heap.size, 0, none⟩) n n) n (us ++ List.replicate (n - j) (Value.slice none 0 0)) ∧ OwnK .i8 45 w.heap.size wr us ((L.map (fun x => roL x gs)).take j) w.heap.size ∧ Fresh w wr ∧ ∀ h, h < j → roE (L.getD h []) gs = 0)) (fun iv _ => n - (RowKit.intOf iv).toNat)
  case atStart => exact ⟨0, [], Nat.zero_le _, rfl, HO.out⟩
  case round =>
    obtain ⟨j, us, hj, rfl, HA⟩ := hrel
    clear HO
    by_cases hlt : j < n
    · obtain ⟨b, off, rfl, hcell⟩ := HC.out (by omega)
      obtain ⟨a1, l1, c1, g1, hr⟩ := hcell wr HA.out.2.2.1 j hlt
      have HCall : Hid (Unit → _) := fun (_ : Unit) => Row_any _ _ _ _ _ _ wr hr (HG.out wr HA.out.2.2.1)
      have hul : us.length = j := by
        have := HA.out.2.1.1
        rw [this, List.length_take, List.length_map, HN.out]; omega
      have hlt' : (j : Int) < (n : Int) := by omega
      have hjL : j < L.length := by rw [HN.out]; exact hlt
      by_cases h0 : roE (L.getD j []) gs = 0
      · have hpos : 0 < (roL (L.getD j []) gs).length := by
          rw [roL_ok h0, mkL_len]
          exact (nE_zero (roE_zero h0).2).1
        have hstep : (L.map (fun x => roL x gs)).take (j + 1) = (L.map (fun x => roL x gs)).take j ++ [roL (L.getD j []) gs] := map_take_succ hjL
        have hnext : ∀ h, h < j + 1 → roE (L.getD h []) gs = 0 := fun h hh => by
          rcases Nat.lt_or_ge h j with e | e
          · exact HA.out.2.2.2 h e
          · obtain rfl : h = j := by omega
            exact h0
        rw [h0] at HCall
        have HQ : Hid (0 < (roL (L.getD j []) gs).length ∧ ((L.map (fun x => roL x gs)).take (j + 1) = (L.map (fun x => roL x gs)).take j ++ [roL (L.getD j []) gs]) ∧ us.length = j ∧ ∀ h, h < j + 1 → roE (L.getD h []) gs = 0) := ⟨hpos, hstep, hul, hnext⟩
        clear hcell hr hpos hstep hul hnext hjL h0
        go_wp2_with fail
        refine (HCall.out ()).mono ?_
        rintro e w3 ⟨v3, rfl, ho3, hF3⟩
        obtain ⟨hpos, hstep, hul, hnext⟩ := HQ.out
        obtain ⟨g', c', rfl, hg3⟩ := own_some ho3 hpos
        have hlow : w.heap.size < wr.heap.size := (own_block HA.out.1).2.1
        have hO3 := owns_kept HA.out.1 hF3 (fun _ _ e => e)
        have f3 := own_frozen hO3 j
        have g3 : w3.cell? ⟨w.heap.size, j, none⟩ = some (.slice none 0 0) := by
          rw [hO3.cellAt j (by omega), List.getElem?_append_right (by omega), hul, Nat.sub_self, List.getElem?_replicate, if_pos (by omega)]
        generalize hlr : (roL (L.getD j []) gs).length = lr at *
        have HX : Hid ((w3.setCell ⟨w.heap.size, j, none⟩ (.slice (some ⟨g', 0, none⟩) lr c')).ownsRow w.heap.size 31 1 (.slice (some ⟨w.heap.size, 0, none⟩) n n) n ((us ++ [Value.slice (some ⟨g', 0, none⟩) lr c']) ++ List.replicate (n - (j + 1)) (Value.slice none 0 0)) ∧ OwnK .i8 45 w.heap.size (w3.setCell ⟨w.heap.size, j, none⟩ (.slice (some ⟨g', 0, none⟩) lr c')) (us ++ [Value.slice (some ⟨g', 0, none⟩) lr c']) ((L.map (fun x => roL x gs)).take (j + 1)) w.heap.size ∧ Fresh w (w3.setCell ⟨w.heap.size, j, none⟩ (.slice (some ⟨g', 0, none⟩) lr c')) ∧ ∀ h, h < j + 1 → roE (L.getD h []) gs = 0) := by
          refine ⟨?_, ?_, (HA.out.2.2.1.trans hF3 (fun _ _ e => e)).setCell (fun e => by simp at e) _, hnext⟩
          · have := own_setB (i := j) (x := Value.slice (some ⟨g', 0, none⟩) lr c') hO3
            have e : (us ++ List.replicate (n - j) (Value.slice none 0 0)).set j (Value.slice (some ⟨g', 0, none⟩) lr c') = (us ++ [Value.slice (some ⟨g', 0, none⟩) lr c']) ++ List.replicate (n - (j + 1)) (Value.slice none 0 0) := by
              rw [List.set_append_right _ _ (by omega), hul, Nat.sub_self, show n - j = (n - (j + 1)) + 1 by omega, List.replicate_succ, List.set_cons_zero, List.append_assoc]
              rfl
            rw [e] at this
            exact this
          · rw [hstep]
            refine OwnK.setB ?_ _ _
            refine HA.out.2.1.snoc hF3 ⟨g', c', by rw [hlr], by rw [hlr]; exact own_low ho3 (by omega), by omega⟩ rfl (fun g e => by simp [Value.ownBlock] at e; omega)
        clear ho3 hF3 hg3 hO3 HA HCall hlow hul hpos hstep hnext hlr HQ
        go_wp2
        go_roundw
        case rel => exact ⟨j + 1, us ++ [Value.slice (some ⟨g', 0, none⟩) lr c'], hlt, by go_num, HX.out⟩
        case measure => simp [RowKit.intOf]; omega
      · have HX : Hid (RaIs L gs (j : Int) (roE (L.getD j []) gs) [] ∧ Fresh w wr) := ⟨.inl ⟨j, hjL, h0, HA.out.2.2.2, rfl, rfl, rfl⟩, HA.out.2.2.1⟩
        have h0' : (roE (L.getD j []) gs == 0) = false := beq_eq_false_iff_ne.2 h0
        clear hcell hr hul hjL h0 HA
        generalize roE (L.getD j []) gs = E at *
        go_wp2_with fail
        refine (HCall.out ()).mono ?_
        rintro e w3 ⟨v3, rfl, ho3, hF3⟩
        obtain ⟨a3, c3, e3⟩ := ownsRow_shape ho3
        subst e3
        have HY : Hid (RaIs L gs (j : Int) E [] ∧ Fresh w w3) := ⟨HX.out.1, HX.out.2.trans hF3 (fun _ _ e => e)⟩
        clear ho3 hF3 HCall HX
        go_wp2
        go_ret3
        exact ⟨_, _, _, _, rfl, HY.out.1, .inl ⟨rfl, rfl⟩, HY.out.2⟩
    · obtain rfl : j = n := by omega
      have HX : Hid (RaIs L gs 0 0 (L.map (fun x => roL x gs)) ∧ OLK .i8 45 31 w.heap.size wr (.slice (some ⟨w.heap.size, 0, none⟩) j j) (L.map (fun x => roL x gs)) ∧ Fresh w wr) := by
        refine ⟨.inr ⟨fun i hi => HA.out.2.2.2 i (by rw [HN.out] at hi; exact hi), rfl, rfl, rfl⟩, .inr ⟨w.heap.size, us, ?_, ?_, ?_⟩, HA.out.2.2.1⟩
        · rw [List.length_map, HN.out]
        · rw [List.length_map, HN.out]
          have := HA.out.1
          rwa [Nat.sub_self, List.replicate_zero, List.append_nil] at this
        · have := HA.out.2.1
          rwa [List.take_of_length_le (by simp; rw [HN.out]; exact Nat.le_refl _)] at this
      clear HA HC
      go_wp2
      go_ret3
      exact ⟨_, _, _, _, rfl, HX.out⟩
end Go.Proofs.Ytibbifklnimlcaa
