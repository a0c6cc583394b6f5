/-
  A guide as the document has it.
-/
import Derived.Test.YtdponkpgokncdaaGus
namespace Go.Proofs.Ytdponkpgokncdaa
open Go.RowKit Go.Lib Go.Maps

/-- The cells of the first edges. -/
def flE (E : List Ed) : Nat → List Value
  | 0 => []
  | j + 1 => flE E j ++ [zV (gE E j).f, .int .u8 ((gE E j).lo : Int), .int .u8 ((gE E j).hi : Int), zV (gE E j).t]
theorem flE_len (E : List Ed) : ∀ j, (flE E j).length = j * 4
  | 0 => rfl
  | j + 1 => by show (flE E j ++ _).length = _; rw [List.length_append, flE_len E j, Nat.add_mul]; rfl
theorem flE_get (E : List Ed) : ∀ n i, i < n → (flE E n)[i * 4]? = some (zV (gE E i).f) ∧ (flE E n)[i * 4 + 1]? = some (.int .u8 ((gE E i).lo : Int)) ∧ (flE E n)[i * 4 + 2]? = some (.int .u8 ((gE E i).hi : Int)) ∧ (flE E n)[i * 4 + 3]? = some (zV (gE E i).t)
  | 0, i, h => absurd h (Nat.not_lt_zero _)
  | n + 1, i, h => by
    have hl := flE_len E n
    show (flE E n ++ _)[i * 4]? = _ ∧ (flE E n ++ _)[i * 4 + 1]? = _ ∧ (flE E n ++ _)[i * 4 + 2]? = _ ∧ (flE E n ++ _)[i * 4 + 3]? = _
    rcases Nat.lt_or_ge i n with e | e
    · obtain ⟨h1, h2, h3, h4⟩ := flE_get E n i e
      rw [List.getElem?_append_left (by omega), List.getElem?_append_left (by omega), List.getElem?_append_left (by omega), List.getElem?_append_left (by omega)]
      exact ⟨h1, h2, h3, h4⟩
    · obtain rfl : i = n := by omega
      rw [List.getElem?_append_right (by omega), List.getElem?_append_right (by omega), List.getElem?_append_right (by omega), List.getElem?_append_right (by omega), hl]
      rw [Nat.sub_self, show i * 4 + 1 - i * 4 = 1 by omega, show i * 4 + 2 - i * 4 = 2 by omega, show i * 4 + 3 - i * 4 = 3 by omega]
      exact ⟨rfl, rfl, rfl, rfl⟩
theorem edr_of_own {B : Nat} {e : TypeId} {w : World} {v : Value} {E : List Ed} (h : w.ownsRow B e 4 v E.length (flE E E.length)) (hi : ∀ i, i < E.length → EdOk (gE E i)) (h24 : E.length * 24 ≤ 140737488351232) : EdR (fun b => B ≤ b ∧ b < w.heap.size) w v E := by
  rcases h.2 with ⟨rfl, h0⟩ | ⟨g, cap, cur, rfl, hb, hg, hnc, _⟩
  · exact ⟨none, 0, by rw [h0], fun _ => rfl, by omega, h24, hi, fun h1 => by omega⟩
  · refine ⟨_, cap, rfl, fun e => (by cases e), hnc, h24, hi, fun _ => ⟨g, 0, rfl, ⟨hb, lt_of_heap hg⟩, lt_of_heap hg, fun i hi2 => ?_⟩⟩
    obtain ⟨h1, h2, h3, h4⟩ := flE_get E E.length i hi2
    refine ⟨?_, ?_, ?_, ?_⟩
    · rw [Nat.zero_add, h.cellAt (i * 4) (by omega)]; exact h1
    · rw [Nat.zero_add, h.cellAt (i * 4 + 1) (by omega)]; exact h2
    · rw [Nat.zero_add, h.cellAt (i * 4 + 2) (by omega)]; exact h3
    · rw [Nat.zero_add, h.cellAt (i * 4 + 3) (by omega)]; exact h4
theorem rbl_of_own {B : Nat} {w : World} {v : Value} {A : List Bool} (h : w.ownsRow B 4 1 v A.length (A.map Value.bool)) (hl : A.length ≤ 140737488351232) : RbL (fun b => B ≤ b ∧ b < w.heap.size) w v A := by
  rcases h.2 with ⟨rfl, h0⟩ | ⟨g, cap, cur, rfl, hb, hg, hnc, _⟩
  · exact ⟨none, 0, by rw [h0], fun _ => rfl, by omega, hl, fun h1 => by omega⟩
  · refine ⟨_, cap, rfl, fun e => (by cases e), hnc, hl, fun _ => ⟨g, 0, rfl, ⟨hb, lt_of_heap hg⟩, lt_of_heap hg, fun i hi2 => ?_⟩⟩
    rw [Nat.zero_add, h.cellAt i (by omega), List.getElem?_map, List.getD_eq_getElem?_getD, List.getElem?_eq_getElem hi2]
    rfl
theorem RbL.len {p : Nat → Prop} {W : World} {v : Value} {l : List Bool} (h : RbL p W v l) : l.length ≤ 140737488351232 := by obtain ⟨_, _, _, _, _, h4, _⟩ := h; exact h4
theorem erInfo : (Try.prog.info? 70).map (fun i => (i.zero, i.size, i.bytes)) = some (some (.agg #[zV 0, .int .u8 0, .int .u8 0, zV 0]), 4, 24) := by kernel_rfl
theorem grSize : (Try.prog.info? 28).map (·.size) = some 2 := by kernel_rfl
/-- append([]bool{}, list...). -/
theorem twinB (ty : TypeId) (W : World) (B : Nat) (v0 : Value) (hown : W.ownsRow B 4 1 v0 0 []) (hB : B ≤ W.heap.size) (rv : Value) (T : List Bool) (p : Nat → Prop) (hr : RbL p W rv T) :
    ∃ tv W', (Builtin.append_ #[22, 22] ty #[v0, rv]).run Try.prog W = .ok tv W' ∧ W'.ownsRow B 4 1 tv T.length (T.map Value.bool) ∧ W.grownBy W' v0.ownBlock := by
  obtain ⟨i0, hi, hz0, hz1, hz2⟩ := info_parts boolInfo
  obtain ⟨ao, cap, rfl, hn, _, h16, hcell⟩ := hr
  cases ao with
  | none =>
    have e : T = [] := by
      rcases T with _ | ⟨z, r⟩
      · rfl
      · obtain ⟨b, off, h, _⟩ := hcell (by simp)
        cases h
    subst e
    rw [hn rfl]
    exact ⟨v0, W, run_append_owned_none (P := Try.prog) W B _ _ _ i0 1 Try.underlying22 hi v0 _ _ hown, by simpa using hown, ⟨rfl, rfl, rfl, Nat.le_refl _, fun _ _ _ => rfl⟩⟩
  | some a =>
    obtain ⟨v', w', h1, h2, h3, _⟩ := run_append_own (P := Try.prog) W B 22 ty 4 i0 _ 1 1 Try.underlying22 hi hz0 hz1 hz2 rfl (by omega) v0 _ _ hown a T.length cap (T.map Value.bool) (by simp)
      (fun j u hj => by
        have hj' : j < T.length := by have := (List.getElem?_eq_some_iff.1 hj).1; simpa using this
        obtain ⟨b, off, h, _, _, hc⟩ := hcell (by omega)
        simp only [Option.some.injEq] at h
        subst h
        rw [List.getElem?_map, List.getElem?_eq_getElem hj'] at hj
        simp only [Option.map_some, Option.some.injEq] at hj
        have := hc j hj'
        rw [List.getD_eq_getElem?_getD, List.getElem?_eq_getElem hj'] at this
        rw [← hj, Addr.add_lit]
        exact this)
      (fun u hu => by obtain ⟨_, _, rfl⟩ := List.mem_map.1 hu; rfl) (by unfold maxLen; omega) (by omega) hB
    rw [Nat.zero_add, List.nil_append] at h2
    exact ⟨v', w', h1, h2, h3⟩
/-- One edge behind a row of one's own. -/
theorem pushE (X : World) (B : Nat) (v : Value) (E : List Ed) (j : Nat) (hown : X.ownsRow B 70 4 v j (flE E j)) (hj : (j + 1) * 24 ≤ 140737488355328) (hB : B ≤ X.heap.size) :
    ∃ v' X', (Builtin.append_ #[26, 26] 26 #[v, .slice (some ⟨X.heap.size, 0, none⟩) 1 1]).run Try.prog (X.alloc (.cells #[zV (gE E j).f, .int .u8 ((gE E j).lo : Int), .int .u8 ((gE E j).hi : Int), zV (gE E j).t] 70)) = .ok v' X' ∧
      X'.ownsRow B 70 4 v' (j + 1) (flE E (j + 1)) ∧ Kept (fun b => v.ownBlock = some b) X X' := by
  obtain ⟨i0, hi0, hz0, hz1, hz2⟩ := info_parts erInfo
  have hY : (X.alloc (.cells #[zV (gE E j).f, .int .u8 ((gE E j).lo : Int), .int .u8 ((gE E j).hi : Int), zV (gE E j).t] 70)).ownsRow B 70 4 v j (flE E j) := owns_kept hown ((Kept.refl (fun _ => False) X).alloc _) (fun _ _ e => e)
  obtain ⟨v', w', hrun, ho, hg, _, hb⟩ := run_append_own_at (P := Try.prog) (X.alloc (.cells #[zV (gE E j).f, .int .u8 ((gE E j).lo : Int), .int .u8 ((gE E j).hi : Int), zV (gE E j).t] 70)) B 26 26 70 i0 _ 4 24 Try.underlying26 hi0 hz0 hz1 hz2 rfl (by omega) _ j _ hY ⟨X.heap.size, 0, none⟩ 1 1 [zV (gE E j).f, .int .u8 ((gE E j).lo : Int), .int .u8 ((gE E j).hi : Int), zV (gE E j).t] rfl
    (fun q u hq => by
      rw [Addr.add_lit, Nat.zero_add, World.cell?_alloc_new, ← Array.getElem?_toList]
      exact hq) (fun u hu => by simp at hu; rcases hu with rfl | rfl | rfl | rfl <;> rfl) (by unfold maxLen; omega) hj (by simp; omega)
  exact ⟨v', w', hrun, ho, ((Kept.refl (fun b => v.ownBlock = some b) X).alloc _).grown hg (fun q _ e => e)⟩
/-- A guide that is being given. -/
structure Gg (w wr : World) (tv mv : Value) (A : List Bool) (E : List Ed) (j ob : Nat) (tn mn : Value) : Prop where
  box : wr.heap[w.heap.size]? = some (.cells #[tv, mv] 25 (0, 0))
  res : wr.heap[w.heap.size + 1]? = some (.cells #[nilV, nilV] 28 (0, 0))
  out : wr.heap[ob]? = some (.cells #[tn, mn] 28 (0, 0))
  ne : w.heap.size + 1 < ob
  tx : wr.ownsRow w.heap.size 4 1 tn A.length (A.map Value.bool)
  mg : wr.ownsRow w.heap.size 70 4 mn j (flE E j)
  fr : Fresh w wr
set_option maxHeartbeats 2000000 in
set_option maxRecDepth 100000 in
theorem givenG_any {p : Nat → Prop} (w : World) (tv mv : Value) (A : List Bool) (E : List Ed) (hT : RbL p w tv A) (hM : EdR p w mv E) :
    Calls Try.prog 9 #[.agg #[tv, mv]] w fun e w' => ∃ tn mn, e = .returned (.agg #[tn, mn]) ∧ RbL (fun b => w.heap.size ≤ b ∧ b < w'.heap.size) w' tn A ∧ EdR (fun b => w.heap.size ≤ b ∧ b < w'.heap.size) w' mn E ∧ Fresh w w' := by
  have HT : Hid (∀ W, Fresh w W → RbL p W tv A) := fun W hk => hT.fresh hk
  have HM : Hid (∀ W, Fresh w W → EdR p W mv E) := fun W hk => hM.fresh hk
  obtain ⟨ta, tc, rfl⟩ := hT.shape
  obtain ⟨ma, mc, rfl⟩ := hM.shape
  clear hT hM
  generalize htt : A.length = tl at *
  generalize hmm : E.length = ml at *
  have s1 : (w.alloc (.cells #[.slice ta tl tc, .slice ma ml mc] 25)).heap.size = w.heap.size + 1 := by rw [World.size_alloc]
  have s2 : ((w.alloc (.cells #[.slice ta tl tc, .slice ma ml mc] 25)).alloc (.cells #[nilV, nilV] 28)).heap.size = w.heap.size + 1 + 1 := by rw [World.size_alloc, s1]
  have hF3 : Fresh w (((w.alloc (.cells #[.slice ta tl tc, .slice ma ml mc] 25)).alloc (.cells #[nilV, nilV] 28)).alloc (.cells #[] 4)) := (((Kept.refl _ w).alloc _).alloc _).alloc _
  have ho := own_emptyB ((w.alloc (.cells #[.slice ta tl tc, .slice ma ml mc] 25)).alloc (.cells #[nilV, nilV] 28)) w.heap.size (by omega) 4
  rw [s2] at ho
  have hbx : (((w.alloc (.cells #[.slice ta tl tc, .slice ma ml mc] 25)).alloc (.cells #[nilV, nilV] 28)).alloc (.cells #[] 4)).heap[w.heap.size]? = some (.cells #[.slice ta tl tc, .slice ma ml mc] 25 (0, 0)) := by
    rw [Below.heap_alloc _ _ _ (by omega), Below.heap_alloc _ _ _ (by omega)]; exact heap_alloc_new _ _
  have hrs : (((w.alloc (.cells #[.slice ta tl tc, .slice ma ml mc] 25)).alloc (.cells #[nilV, nilV] 28)).alloc (.cells #[] 4)).heap[w.heap.size + 1]? = some (.cells #[nilV, nilV] 28 (0, 0)) := by
    rw [Below.heap_alloc _ _ _ (by omega), ← s1]; exact heap_alloc_new _ _
  obtain ⟨tn, W1, happ, htx, hgr⟩ := twinB 22 _ w.heap.size _ ho (by have := hF3.size; exact this) _ A p (HT.out _ hF3)
  have hk1 := (Kept.refl (fun b => b = w.heap.size + 1 + 1) _).grown hgr (fun q _ e => by simp [Value.ownBlock] at e; exact e.symm)
  have HG0 : Hid (Gg w (W1.alloc (.cells #[tn, nilV] 28)) (.slice ta tl tc) (.slice ma ml mc) A E 0 W1.heap.size tn nilV) := by
    have hk2 : Fresh W1 (W1.alloc (.cells #[tn, nilV] 28)) := (Kept.refl _ W1).alloc _
    refine ⟨hk2.at (hk1.at hbx (by omega)) (fun e => e), hk2.at (hk1.at hrs (by omega)) (fun e => e), heap_alloc_new _ _, ?_, owns_kept htx hk2 (fun _ _ e => e), ⟨rfl, .inl ⟨rfl, rfl⟩⟩, (hF3.trans hk1 (fun q hq e => by have e' : q = w.heap.size + 1 + 1 := e; omega)).trans hk2 (fun _ _ e => e)⟩
    have := hk1.size
    rw [World.size_alloc, s2] at this
    omega
  obtain ⟨tto, tcp, htn⟩ := ownsRow_shape htx
  rw [htt] at htn
  subst htn
  have b0 := Lib.cell_of_heap (hk1.at hbx (by omega)) 1
  clear ho hbx hrs hF3 hgr s1 s2 htx
  go_enter Try.func9, Try.ntmps9
  go_wp2_with (at_builtin; refine Lib.wpList_append_run _ rfl _ _ _ _ rfl _ _ rfl rfl _ _ happ ?_)
  clear happ hk1 b0
  generalize hob : W1.heap.size = ob at *
  generalize W1.alloc (.cells #[.slice tto tl tcp, nilV] 28) = W2 at *
  go_loopw [4] (fun iv wr => ∃ (j : Nat) (mo : Option Addr) (mcp : Nat), j ≤ ml ∧ iv = zV j ∧ Hid (Gg w wr (.slice ta tl tc) (.slice ma ml mc) A E j ob (.slice tto tl tcp) (.slice mo j mcp))) (fun iv _ => ml - (RowKit.intOf iv).toNat)
  case atStart => exact ⟨0, none, 0, Nat.zero_le _, rfl, HG0.out⟩
  case round =>
    obtain ⟨j, mo, mcp, hj, rfl, HQ⟩ := hrel
    clear HG0
    have x0 : wr.cell? ⟨w.heap.size, 1, none⟩ = some (.slice ma ml mc) := by rw [Lib.cell_of_heap HQ.out.box]; rfl
    have y0 : wr.cell? ⟨ob, 0, none⟩ = some (.slice tto tl tcp) := by rw [Lib.cell_of_heap HQ.out.out]; rfl
    have y1 : wr.cell? ⟨ob, 1, none⟩ = some (.slice mo j mcp) := by rw [Lib.cell_of_heap HQ.out.out]; rfl
    by_cases hlt : j < ml
    · have hlt' : (j : Int) < (ml : Int) := by omega
      obtain ⟨ao, cap, hmv, _, _, hm24, hm64, hmc⟩ := HM.out wr HQ.out.fr
      injection hmv with e1 e2 e3
      subst e1 e3
      clear e2
      obtain ⟨b, off, rfl, _, hbX, hcells⟩ := hmc (by omega)
      obtain ⟨m0, m1, m2, m3⟩ := hcells j (by omega)
      have hFa : Fresh wr (wr.alloc (.cells #[zV (gE E j).f, .int .u8 ((gE E j).lo : Int), .int .u8 ((gE E j).hi : Int), zV (gE E j).t] 69)) := (Kept.refl _ wr).alloc _
      have hG2 := HQ.out
      have ho2 := owns_kept HQ.out.mg hFa (fun _ _ e => e)
      obtain ⟨mn', W3, happ, hmg, hk3⟩ := pushE _ w.heap.size _ E j ho2 (by rw [hmm] at hm24; omega) (by have := HQ.out.fr.size; have := hFa.size; omega)
      have hob2 := hFa.at HQ.out.out (fun e => e)
      have hne2 : (Value.slice mo j mcp).ownBlock ≠ some ob := ownBlock_ne3 ho2 hob2 (by decide)
      rw [World.size_alloc] at happ
      obtain ⟨mo', mcp', hmn⟩ := ownsRow_shape hmg
      subst hmn
      have hbx2 := hFa.at HQ.out.box (fun e => e)
      have hrs2 := hFa.at HQ.out.res (fun e => e)
      have htx2 := owns_kept HQ.out.tx hFa (fun _ _ e => e)
      have hob3 := hk3.at hob2 hne2
      have hk4 : Kept (fun b => b = ob) W3 (W3.setCell ⟨ob, 1, none⟩ (.slice mo' (j + 1) mcp')) := (Kept.refl (fun b => b = ob) W3).setCell (p := ⟨ob, 1, none⟩) (fun _ => rfl) _
      have hnb := HQ.out.ne
      have HN : Hid (Gg w (W3.setCell ⟨ob, 1, none⟩ (.slice mo' (j + 1) mcp')) (.slice ta tl tc) (.slice (some ⟨b, off, none⟩) ml mc) A E (j + 1) ob (.slice tto tl tcp) (.slice mo' (j + 1) mcp')) := by
        have htx3 := owns_kept htx2 hk3 (fun q h1 h2 => own_apart htx2 ho2 (by decide) h1 h2)
        refine ⟨hk4.at (hk3.at hbx2 (ownBlock_ne3 ho2 hbx2 (by decide))) (by omega), hk4.at (hk3.at hrs2 (ownBlock_ne3 ho2 hrs2 (by decide))) (by omega), Lib.heap_setCell_same hob3 _ (i := 1), hnb, owns_kept htx3 hk4 (fun q h1 h2 => ?_), owns_kept hmg hk4 (fun q h1 h2 => ?_), ?_⟩
        · subst h2; exact ownBlock_ne3 htx3 hob3 (by decide) h1
        · subst h2; exact ownBlock_ne3 hmg hob3 (by decide) h1
        · refine (((HQ.out.fr.trans hFa (fun _ _ e => e)).trans hk3 (fun q hq e => ?_))).trans hk4 (fun q hq e => by have e' : q = ob := e; omega)
          have := own_ge3 ho2 e
          omega
      have d1 : W3.cell? ⟨ob, 1, none⟩ = some (.slice mo j mcp) := by rw [Lib.cell_of_heap hob3]; rfl
      have f1 : W3.frozen? ⟨ob, 1, none⟩ = false := Lib.frozen_of_heap hob3 1
      have y1' : (wr.alloc (.cells #[zV (gE E j).f, .int .u8 ((gE E j).lo : Int), .int .u8 ((gE E j).hi : Int), zV (gE E j).t] 69)).cell? ⟨ob, 1, none⟩ = some (.slice mo j mcp) := by rw [Lib.cell_of_heap hob2]; rfl
      clear hbx2 hrs2 htx2 hob3 hk4 hk3 hmg ho2 hob2 hFa hG2 HQ hmc hcells hm64 hne2
      generalize (gE E j).f = xl at *
      generalize (gE E j).lo = xr at *
      generalize (gE E j).hi = xs at *
      generalize (gE E j).t = xo at *
      go_wp2_with (at_builtin; refine Lib.wpList_append_run _ rfl _ _ _ _ rfl _ _ rfl rfl _ _ happ ?_)
      go_roundw
      case rel => exact ⟨j + 1, mo', mcp', hlt, by go_num, HN.out⟩
      case measure => simp [RowKit.intOf]; omega
    · obtain rfl : j = ml := by omega
      have hk4 : Kept (fun b => b = w.heap.size + 1) wr ((wr.setCell ⟨w.heap.size + 1, 0, none⟩ (.slice tto tl tcp)).setCell ⟨w.heap.size + 1, 1, none⟩ (.slice mo j mcp)) := ((Kept.refl (fun b => b = w.heap.size + 1) wr).setCell (p := ⟨w.heap.size + 1, 0, none⟩) (fun _ => rfl) _).setCell (p := ⟨w.heap.size + 1, 1, none⟩) (fun _ => rfl) _
      have HM2 : Hid (EdR (fun b => w.heap.size ≤ b ∧ b < ((wr.setCell ⟨w.heap.size + 1, 0, none⟩ (.slice tto tl tcp)).setCell ⟨w.heap.size + 1, 1, none⟩ (.slice mo j mcp)).heap.size) ((wr.setCell ⟨w.heap.size + 1, 0, none⟩ (.slice tto tl tcp)).setCell ⟨w.heap.size + 1, 1, none⟩ (.slice mo j mcp)) (.slice mo j mcp) E ∧
          RbL (fun b => w.heap.size ≤ b ∧ b < ((wr.setCell ⟨w.heap.size + 1, 0, none⟩ (.slice tto tl tcp)).setCell ⟨w.heap.size + 1, 1, none⟩ (.slice mo j mcp)).heap.size) ((wr.setCell ⟨w.heap.size + 1, 0, none⟩ (.slice tto tl tcp)).setCell ⟨w.heap.size + 1, 1, none⟩ (.slice mo j mcp)) (.slice tto tl tcp) A) := by
        obtain ⟨_, _, _, _, _, hm24, hm64, _⟩ := HM.out wr HQ.out.fr
        have h3 := HT.out wr HQ.out.fr
        have h1 := owns_kept HQ.out.mg hk4 (fun q h1 h2 => by subst h2; exact ownBlock_ne3 HQ.out.mg HQ.out.res (by decide) h1)
        have h2 := owns_kept HQ.out.tx hk4 (fun q h1 h2 => by subst h2; exact ownBlock_ne3 HQ.out.tx HQ.out.res (by decide) h1)
        refine ⟨edr_of_own (by rw [hmm]; exact h1) hm64 hm24, rbl_of_own (by rw [htt] at h2 ⊢; exact h2) h3.len⟩
      have HR : Hid (((wr.setCell ⟨w.heap.size + 1, 0, none⟩ (.slice tto tl tcp)).setCell ⟨w.heap.size + 1, 1, none⟩ (.slice mo j mcp)).heap[w.heap.size + 1]? = some (.cells #[.slice tto tl tcp, .slice mo j mcp] 28 (0, 0))) := by
        have e1 := Lib.heap_setCell_same HQ.out.res (.slice tto tl tcp) (i := 0)
        exact Lib.heap_setCell_same e1 (.slice mo j mcp) (i := 1)
      have HFx : Hid (Fresh w ((wr.setCell ⟨w.heap.size + 1, 0, none⟩ (.slice tto tl tcp)).setCell ⟨w.heap.size + 1, 1, none⟩ (.slice mo j mcp))) := HQ.out.fr.trans hk4 (fun q hq e => by have e' : q = w.heap.size + 1 := e; omega)
      have z0 : wr.cell? ⟨w.heap.size + 1, 0, none⟩ = some nilV := by rw [Lib.cell_of_heap HQ.out.res]; rfl
      have z1 : wr.cell? ⟨w.heap.size + 1, 1, none⟩ = some nilV := by rw [Lib.cell_of_heap HQ.out.res]; rfl
      have fz := fun i => Lib.frozen_of_heap HQ.out.res i
      clear hk4 HQ
      go_wp2
      exact bodyPost_ret (results_cell_row rfl _ _ (w.heap.size + 1) _ _ _ _ rfl HR.out Try.underlying28 rfl grSize) rfl ⟨_, _, rfl, HM2.out.2, HM2.out.1, HFx.out⟩
end Go.Proofs.Ytdponkpgokncdaa
