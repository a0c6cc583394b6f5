/-
  The document's Words and Fit: a list of digits to the base 2^32 as a number.
-/
import Derived.Test.YtdmjfmipalifpaaGreatDoorRfc
import Derived.Test.YtdmjfmipalifpaaGreatDoorRfe
import Derived.Test.YtdmjfmipalifpaaGreatDoorWu
namespace Go.Proofs.YtdmjfmipalifpaaGreatDoor
open Go.RowKit

/-- A list of digits to the base 2^32, as digits to the base 2^16. -/
def halves : List Nat → List Nat
  | [] => []
  | d :: r => d % 65536 :: d / 65536 :: halves r
theorem halves_snoc (l : List Nat) (d : Nat) : halves (l ++ [d]) = halves l ++ [d % 65536, d / 65536] := by
  induction l with
  | nil => rfl
  | cons x r ih => simp only [List.cons_append, halves, ih]
theorem halves_len (l : List Nat) : (halves l).length = 2 * l.length := by
  induction l with
  | nil => rfl
  | cons x r ih => simp only [halves, List.length_cons, ih]; omega
theorem halves_val (l : List Nat) : val 65536 (halves l) = val 4294967296 l := by
  induction l with
  | nil => rfl
  | cons x r ih =>
    simp only [halves, val, ih]
    omega
theorem halves_dg {l : List Nat} (h : Dg 4294967296 l) : Dg 65536 (halves l) := by
  induction l with
  | nil => exact Dg.nil _
  | cons x r ih =>
    have hx := h x (List.mem_cons_self)
    intro d hd
    simp only [halves, List.mem_cons] at hd
    rcases hd with rfl | rfl | hd
    · omega
    · omega
    · exact ih h.tail d hd
theorem nd_of_own {B : Nat} {w : World} {v : Value} {X : List Nat} (h : w.ownsRow B 3 1 v X.length (enW .i64 X)) (hd : Dg 65536 X) (hl : X.length ≤ 35184372088832) : Nd (fun _ => True) w v X := by
  rcases h.2 with ⟨rfl, h0⟩ | ⟨g, cap, cur, rfl, hb, hg, hn, hm, _⟩
  · have e : X = [] := List.eq_nil_of_length_eq_zero h0
    subst e
    exact Dw.nil _ _ _ _
  · refine ⟨_, cap, rfl, ⟨hn, hl⟩, by unfold maxLen at hm; omega, fun _ => ⟨g, 0, rfl, trivial, lt_of_heap hg, fun i hi => ?_⟩, hd, fun e => by cases e⟩
    rw [Nat.zero_add, h.cellAt i (by omega), List.getElem?_map, List.getD_eq_getElem?_getD, List.getElem?_eq_getElem hi]
    rfl

theorem refFit_any (v : Value) (N : Nat) (w : World) (h : Rn w v N) :
    Calls Tryz.prog 44 #[v] w fun e w' => ∃ v', e = .returned (.tuple #[v', .int .i64 (fitE N)]) ∧ Rn w v' (fitN N) ∧ w' = w := by
  have hb := refBits_any v N w h
  have HR := fun (_ : Unit) => h
  obtain ⟨a, n, c, rfl⟩ := h.shape
  by_cases hbig : 65536 < bl N
  · obtain ⟨f1, f2⟩ := fit_out hbig
    rw [f1, f2]
    clear h HR f1 f2
    generalize bl N = K at *
    go_enter Tryz.func44, Tryz.ntmps44
    go_wp2_with fail
    refine hb.mono ?_
    rintro e w' ⟨rfl, rfl⟩
    go_wp2
    go_ret2
    exact ⟨_, rfl, rn_nil _, rfl⟩
  · obtain ⟨f1, f2⟩ := fit_in (Nat.le_of_not_lt hbig)
    rw [f1, f2]
    clear h f1 f2
    have HR' : Hid (Unit → Rn w (.slice a n c) N) := HR
    clear HR
    generalize bl N = K at *
    go_enter Tryz.func44, Tryz.ntmps44
    go_wp2_with fail
    refine hb.mono ?_
    rintro e w' ⟨rfl, rfl⟩
    go_wp2
    go_ret2
    exact ⟨_, rfl, HR'.out (), rfl⟩

set_option maxHeartbeats 1000000 in
set_option maxRecDepth 100000 in
theorem refWords_any (v : Value) (L : List Nat) (w : World) (h : Dw .u32 4294967296 (fun _ => True) w v L) (hl : L.length ≤ 1048576) :
    Calls Tryz.prog 43 #[v] w fun e w' => ∃ v', e = .returned v' ∧ (Rn w' v' (val 4294967296 L) ∧ Fresh w w') := by
  obtain ⟨i0, hi, hz0, hz1, hz2⟩ := info_parts Tryz.infoI
  have HDG := show Hid _ from halves_dg h.dg
  have HD : Hid (∀ i, L.getD i 0 < 4294967296) := fun i => Dg.getD (by decide) h.dg i
  obtain ⟨ao, cap, rfl, hc, hcm, hcell, _, hnil⟩ := h
  have HC : Hid (∀ i, i < L.length → ∃ b off, ao = some ⟨b, off, none⟩ ∧ b < w.heap.size ∧ w.cell? ⟨b, off + i, none⟩ = some (.int .u32 ((L.getD i 0 : Nat) : Int))) := fun i hi => by
    obtain ⟨b, off, e1, _, e3, e4⟩ := hcell (fun e => by rw [e] at hi; simp at hi)
    exact ⟨b, off, e1, e3, e4 i hi⟩
  have HTK : Hid (∀ i, i < L.length → halves (L.take (i + 1)) = halves (L.take i) ++ [L.getD i 0 % 65536, L.getD i 0 / 65536]) := fun i hi => by
    rw [List.take_succ_eq_append_getElem hi, halves_snoc, List.getD_eq_getElem?_getD, List.getElem?_eq_getElem hi]
    rfl
  have HAL : Hid (∀ i, L.length ≤ i → halves (L.take i) = halves L) := fun i hi => by rw [List.take_of_length_le hi]
  have HLN : Hid (∀ i, i ≤ L.length → (halves (L.take i)).length = 2 * i) := fun i hi => by rw [halves_len, List.length_take]; omega
  clear hcell hnil
  go_enter Tryz.func43, Tryz.ntmps43
  go_wp2_with fail
  go_loopw [3, 9] (fun xv iv wr => ∃ i : Nat, i ≤ L.length ∧ iv = .int .i64 (i : Int) ∧ wr.ownsRow w.heap.size 3 1 xv (halves (L.take i)).length (enW .i64 (halves (L.take i))) ∧ Fresh w wr) (fun _ iv _ => L.length - (intOf iv).toNat)
  case atStart => exact ⟨0, Nat.zero_le _, rfl, ownI_empty w, (Kept.refl _ _).alloc _⟩
  case round =>
    obtain ⟨i, hil, rfl, hown, hF⟩ := hrel
    by_cases hlt : i < L.length
    · obtain ⟨b, off, rfl, hb, hce⟩ := HC.out i hlt
      have hdl := HD.out i
      have hln := HLN.out i hil
      have htk := HTK.out i hlt
      generalize L.getD i 0 = d at *
      obtain ⟨X, hX⟩ : ∃ X, X = halves (L.take i) := ⟨_, rfl⟩
      rw [← hX] at hown hln htk
      obtain ⟨D, hD⟩ : ∃ D, D = d % 65536 := ⟨_, rfl⟩
      obtain ⟨E, hE⟩ : ∃ E, E = d / 65536 := ⟨_, rfl⟩
      rw [← hD, ← hE] at htk
      have c1 : (d : Int) % 65536 = (D : Int) := by rw [hD]; simp
      have c2 : (d : Int).tmod 65536 = (D : Int) := by rw [hD, Int.tmod_eq_emod_of_nonneg (by omega)]; simp
      have c3 : (d : Int) / 65536 = (E : Int) := by rw [hE]; simp
      have c4 : (d : Int).tdiv 65536 = (E : Int) := by rw [hE, Int.tdiv_eq_ediv_of_nonneg (by omega)]; simp
      have hDl : D < 65536 := by omega
      have hEl : E < 65536 := by omega
      have hcw : wr.cell? ⟨b, off + i, none⟩ = some (.int .u32 (d : Int)) := (hF.cell (p := ⟨b, off + i, none⟩) hb (fun e => e)).trans hce
      obtain ⟨xa, xc, rfl⟩ : ∃ a c, u3 = .slice a X.length c := by
        rcases hown.2 with ⟨h, h0⟩ | ⟨g, cap, cur, h, _⟩
        · exact ⟨none, 0, by rw [h, h0]⟩
        · exact ⟨_, cap, h⟩
      have hW := hF.size
      have hXl : X.length ≤ 2097152 := by omega
      have HTK2 := show Hid _ from htk
      clear hD hE htk HC HTK HAL HLN HD HDG hX hce hln
      go_wp2_with (at_builtin; refine wpList_append_lies _ rfl _ _ _ rfl w.heap.size 3 i0 _ 1 8 Tryz.underlying31 hi hz0 hz1 hz2 rfl (by omega) (.slice xa X.length xc) _ _ rfl (hown.alloc _) ⟨wr.heap.size, 0, none⟩ 2 2 [.int .i64 (D : Int), .int .i64 (E : Int)] rfl rfl (World.news_of_block (cs := #[.int .i64 (D : Int), .int .i64 (E : Int)]) (t := 3) (fr := (0, 0)) (heap_alloc_new wr _)) (by simp [Value.oneCell']) (by omega) (by unfold maxLen; omega) (by omega) (by simp; omega) (wr.heap.size + 1) (by simp) ?_; intro g cap w2 hown2 hgrow hat hlt)
      have hk2 : Kept (fun k => (Value.slice xa X.length xc).ownBlock = some k) wr w2 := ((Kept.refl _ wr).alloc _).grown hgrow (fun k _ e => e)
      have hF2 : Fresh w w2 := hF.trans hk2 (fun i hi e => by
        have := (World.ownsRow.lt hown i e).1
        omega)
      rw [show enW .i64 X ++ [.int .i64 (D : Int), .int .i64 (E : Int)] = enW .i64 (X ++ [D, E]) by simp [enW]] at hown2
      have HO := show Hid _ from hown2
      have HF2 := show Hid _ from hF2
      clear hown hown2 hgrow hat hk2 hF2 hF
      go_wp2
      go_roundw
      case rel => exact ⟨i + 1, by omega, by go_num, by rw [HTK2.out, List.length_append]; exact HO.out, HF2.out⟩
      case measure => simp [intOf]; omega
    · have hil' : L.length ≤ i := by omega
      have hln := HLN.out i hil
      have hal := HAL.out i hil'
      rw [hal] at hown hln
      have hR := refCut_any _ u3 _ wr (nd_of_own hown HDG.out (by omega))
      rw [halves_val] at hR
      have HR : Hid (Unit → _) := fun (_ : Unit) => hR
      obtain ⟨xa, xn, xc, rfl⟩ : ∃ a n c, u3 = .slice a n c := by
        rcases hown.2 with ⟨h, h0⟩ | ⟨g, cap, cur, h, _⟩
        · exact ⟨none, 0, 0, h⟩
        · exact ⟨_, _, cap, h⟩
      have HF := show Hid _ from hF
      clear hR hown hF HC HTK HAL HLN HD HDG hal hln
      go_wp2_with fail
      refine (HR.out ()).mono ?_
      rintro e w2 ⟨v2, rfl, hN, rfl⟩
      go_wp2
      go_ret
      exact ⟨_, rfl, hN, HF.out⟩
end Go.Proofs.YtdmjfmipalifpaaGreatDoor
