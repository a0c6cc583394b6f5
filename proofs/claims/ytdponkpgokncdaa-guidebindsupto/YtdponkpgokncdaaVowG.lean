/-
  A vocabulary as the document has it.
-/
import Derived.Test.YtdponkpgokncdaaVosC
import Derived.Test.YtdponkpgokncdaaOwA
import Derived.Test.YtdponkpgokncdaaMk2
namespace Go.Proofs.Ytdponkpgokncdaa
open Go.RowKit Go.Lib Go.Maps

/-- The cells of the first merges. -/
def flM (M : List Mg) : Nat → List Value
  | 0 => []
  | j + 1 => flM M j ++ [zV (gM M j).l, zV (gM M j).r, zV (gM M j).o]
theorem flM_len (M : List Mg) : ∀ j, (flM M j).length = j * 3
  | 0 => rfl
  | j + 1 => by show (flM M j ++ _).length = _; rw [List.length_append, flM_len M j, Nat.add_mul]; rfl
theorem flM_get (M : List Mg) : ∀ n i, i < n → (flM M n)[i * 3]? = some (zV (gM M i).l) ∧ (flM M n)[i * 3 + 1]? = some (zV (gM M i).r) ∧ (flM M n)[i * 3 + 2]? = some (zV (gM M i).o)
  | 0, i, h => absurd h (Nat.not_lt_zero _)
  | n + 1, i, h => by
    have hl := flM_len M n
    show (flM M n ++ _)[i * 3]? = _ ∧ (flM M n ++ _)[i * 3 + 1]? = _ ∧ (flM M n ++ _)[i * 3 + 2]? = _
    rcases Nat.lt_or_ge i n with e | e
    · obtain ⟨h1, h2, h3⟩ := flM_get M n i e
      rw [List.getElem?_append_left (by omega), List.getElem?_append_left (by omega), List.getElem?_append_left (by omega)]
      exact ⟨h1, h2, h3⟩
    · obtain rfl : i = n := by omega
      rw [List.getElem?_append_right (by omega), List.getElem?_append_right (by omega), List.getElem?_append_right (by omega), hl]
      rw [Nat.sub_self, show i * 3 + 1 - i * 3 = 1 by omega, show i * 3 + 2 - i * 3 = 2 by omega]
      exact ⟨rfl, rfl, rfl⟩
theorem mgr_of_own {B : Nat} {e : TypeId} {w : World} {v : Value} {M : List Mg} (h : w.ownsRow B e 3 v M.length (flM M M.length)) (hi : ∀ i, i < M.length → I64 (gM M i).l ∧ I64 (gM M i).r ∧ I64 (gM M i).o) : MgR (fun b => B ≤ b ∧ b < w.heap.size) w v M := by
  rcases h.2 with ⟨rfl, h0⟩ | ⟨g, cap, cur, rfl, hb, hg, hnc, _⟩
  · exact ⟨none, 0, by rw [h0], fun _ => rfl, by omega, hi, fun h1 => by omega⟩
  · refine ⟨_, cap, rfl, fun e => (by cases e), hnc, hi, fun _ => ⟨g, 0, rfl, ⟨hb, lt_of_heap hg⟩, lt_of_heap hg, fun i hi2 => ?_⟩⟩
    obtain ⟨h1, h2, h3⟩ := flM_get M M.length i hi2
    refine ⟨?_, ?_, ?_⟩
    · rw [Nat.zero_add, h.cellAt (i * 3) (by omega)]; exact h1
    · rw [Nat.zero_add, h.cellAt (i * 3 + 1) (by omega)]; exact h2
    · rw [Nat.zero_add, h.cellAt (i * 3 + 2) (by omega)]; exact h3
theorem txr_of_own {B : Nat} {e : TypeId} {w : World} {v : Value} {T : List (List UInt8)} (h : w.ownsRow B e 1 v T.length (T.map sV)) (hl : ∀ i, i < T.length → (gT T i).length ≤ maxLen) (h16 : T.length * 16 ≤ 140737488351232) : TxR (fun b => B ≤ b ∧ b < w.heap.size) w v T := by
  rcases h.2 with ⟨rfl, h0⟩ | ⟨g, cap, cur, rfl, hb, hg, hnc, _⟩
  · exact ⟨none, 0, by rw [h0], fun _ => rfl, by omega, hl, h16, fun h1 => by omega⟩
  · refine ⟨_, cap, rfl, fun e => (by cases e), hnc, hl, h16, fun _ => ⟨g, 0, rfl, ⟨hb, lt_of_heap hg⟩, lt_of_heap hg, fun i hi2 => ?_⟩⟩
    rw [Nat.zero_add, h.cellAt i (by omega), List.getElem?_map, gT, List.getD_eq_getElem?_getD, List.getElem?_eq_getElem hi2]
    rfl
theorem strInfo : (Try.prog.info? 9).map (fun i => (i.zero, i.size, i.bytes)) = some (some (.string ⟨#[]⟩), 1, 16) := by kernel_rfl
theorem mrInfo : (Try.prog.info? 83).map (fun i => (i.zero, i.size, i.bytes)) = some (some (.agg #[zV 0, zV 0, zV 0]), 3, 24) := by kernel_rfl
theorem vrSize : (Try.prog.info? 55).map (·.size) = some 2 := by kernel_rfl
/-- append([]string{}, texts...). -/
theorem twinT (ty : TypeId) (W : World) (B : Nat) (v0 : Value) (hown : W.ownsRow B 9 1 v0 0 []) (hB : B ≤ W.heap.size) (rv : Value) (T : List (List UInt8)) (p : Nat → Prop) (hr : TxR p W rv T) :
    ∃ tv W', (Builtin.append_ #[46, 46] ty #[v0, rv]).run Try.prog W = .ok tv W' ∧ W'.ownsRow B 9 1 tv T.length (T.map sV) ∧ W.grownBy W' v0.ownBlock := by
  obtain ⟨i0, hi, hz0, hz1, hz2⟩ := info_parts strInfo
  have h16 := hr.len16
  obtain ⟨ao, cap, rfl, hn, _, _, _, hcell⟩ := hr
  cases ao with
  | none =>
    have e : T = [] := by
      rcases T with _ | ⟨z, r⟩
      · rfl
      · obtain ⟨b, off, h, _⟩ := hcell (by simp)
        cases h
    subst e
    rw [hn rfl]
    exact ⟨v0, W, run_append_owned_none (P := Try.prog) W B _ _ _ i0 1 Try.underlying46 hi v0 _ _ hown, by simpa using hown, ⟨rfl, rfl, rfl, Nat.le_refl _, fun _ _ _ => rfl⟩⟩
  | some a =>
    obtain ⟨v', w', h1, h2, h3, _⟩ := run_append_own (P := Try.prog) W B 46 ty 9 i0 _ 1 16 Try.underlying46 hi hz0 hz1 hz2 rfl (by omega) v0 _ _ hown a T.length cap (T.map sV) (by simp)
      (fun j u hj => by
        have hj' : j < T.length := by have := (List.getElem?_eq_some_iff.1 hj).1; simpa using this
        obtain ⟨b, off, h, _, _, hc⟩ := hcell (by omega)
        simp only [Option.some.injEq] at h
        subst h
        rw [List.getElem?_map, List.getElem?_eq_getElem hj'] at hj
        simp only [Option.map_some, Option.some.injEq] at hj
        have := hc j hj'
        rw [gT, List.getD_eq_getElem?_getD, List.getElem?_eq_getElem hj'] at this
        rw [← hj, Addr.add_lit]
        exact this)
      (fun u hu => by obtain ⟨_, _, rfl⟩ := List.mem_map.1 hu; rfl) (by unfold maxLen; omega) (by omega) hB
    rw [Nat.zero_add, List.nil_append] at h2
    exact ⟨v', w', h1, h2, h3⟩
/-- One merge behind a row of one's own. -/
theorem pushM (X : World) (B : Nat) (v : Value) (M : List Mg) (j : Nat) (hown : X.ownsRow B 83 3 v j (flM M j)) (hj : (j + 1) * 24 ≤ 140737488355328) (hB : B ≤ X.heap.size) :
    ∃ v' X', (Builtin.append_ #[53, 53] 53 #[v, .slice (some ⟨X.heap.size, 0, none⟩) 1 1]).run Try.prog (X.alloc (.cells #[zV (gM M j).l, zV (gM M j).r, zV (gM M j).o] 83)) = .ok v' X' ∧
      X'.ownsRow B 83 3 v' (j + 1) (flM M (j + 1)) ∧ Kept (fun b => v.ownBlock = some b) X X' := by
  obtain ⟨i0, hi0, hz0, hz1, hz2⟩ := info_parts mrInfo
  have hY : (X.alloc (.cells #[zV (gM M j).l, zV (gM M j).r, zV (gM M j).o] 83)).ownsRow B 83 3 v j (flM M j) := owns_kept hown ((Kept.refl (fun _ => False) X).alloc _) (fun _ _ e => e)
  obtain ⟨v', w', hrun, ho, hg, _, hb⟩ := run_append_own_at (P := Try.prog) (X.alloc (.cells #[zV (gM M j).l, zV (gM M j).r, zV (gM M j).o] 83)) B 53 53 83 i0 _ 3 24 Try.underlying53 hi0 hz0 hz1 hz2 rfl (by omega) _ j _ hY ⟨X.heap.size, 0, none⟩ 1 1 [zV (gM M j).l, zV (gM M j).r, zV (gM M j).o] rfl
    (fun q u hq => by
      rw [Addr.add_lit, Nat.zero_add, World.cell?_alloc_new, ← Array.getElem?_toList]
      exact hq) (fun u hu => by simp at hu; rcases hu with rfl | rfl | rfl <;> rfl) (by unfold maxLen; omega) hj (by simp; omega)
  exact ⟨v', w', hrun, ho, ((Kept.refl (fun b => v.ownBlock = some b) X).alloc _).grown hg (fun q _ e => e)⟩
/-- A vocabulary that is being given. -/
structure Gv (w wr : World) (tv mv : Value) (T : List (List UInt8)) (M : List Mg) (j ob : Nat) (tn mn : Value) : Prop where
  box : wr.heap[w.heap.size]? = some (.cells #[tv, mv] 49 (0, 0))
  res : wr.heap[w.heap.size + 1]? = some (.cells #[nilV, nilV] 55 (0, 0))
  out : wr.heap[ob]? = some (.cells #[tn, mn] 55 (0, 0))
  ne : w.heap.size + 1 < ob
  tx : wr.ownsRow w.heap.size 9 1 tn T.length (T.map sV)
  mg : wr.ownsRow w.heap.size 83 3 mn j (flM M j)
  fr : Fresh w wr
set_option maxHeartbeats 2000000 in
set_option maxRecDepth 100000 in
theorem given_any {p : Nat → Prop} (w : World) (tv mv : Value) (T : List (List UInt8)) (M : List Mg) (hT : TxR p w tv T) (hM : MgR p w mv M) (hM24 : M.length * 24 ≤ 140737488351232) :
    Calls Try.prog 22 #[.agg #[tv, mv]] w fun e w' => ∃ tn mn, e = .returned (.agg #[tn, mn]) ∧ TxR (fun b => w.heap.size ≤ b ∧ b < w'.heap.size) w' tn T ∧ MgR (fun b => w.heap.size ≤ b ∧ b < w'.heap.size) w' mn M ∧ Fresh w w' := by
  have HT : Hid (∀ W, Fresh w W → TxR p W tv T) := fun W hk => hT.fresh hk
  have HM : Hid (∀ W, Fresh w W → MgR p W mv M) := fun W hk => hM.fresh hk
  obtain ⟨ta, tc, rfl⟩ := hT.shape
  obtain ⟨ma, mc, rfl⟩ := hM.shape
  clear hT hM
  generalize htt : T.length = tl at *
  generalize hmm : M.length = ml at *
  have s1 : (w.alloc (.cells #[.slice ta tl tc, .slice ma ml mc] 49)).heap.size = w.heap.size + 1 := by rw [World.size_alloc]
  have s2 : ((w.alloc (.cells #[.slice ta tl tc, .slice ma ml mc] 49)).alloc (.cells #[nilV, nilV] 55)).heap.size = w.heap.size + 1 + 1 := by rw [World.size_alloc, s1]
  have hF3 : Fresh w (((w.alloc (.cells #[.slice ta tl tc, .slice ma ml mc] 49)).alloc (.cells #[nilV, nilV] 55)).alloc (.cells #[] 9)) := (((Kept.refl _ w).alloc _).alloc _).alloc _
  have ho := own_empty ((w.alloc (.cells #[.slice ta tl tc, .slice ma ml mc] 49)).alloc (.cells #[nilV, nilV] 55)) w.heap.size (by omega) 9
  rw [s2] at ho
  have hbx : (((w.alloc (.cells #[.slice ta tl tc, .slice ma ml mc] 49)).alloc (.cells #[nilV, nilV] 55)).alloc (.cells #[] 9)).heap[w.heap.size]? = some (.cells #[.slice ta tl tc, .slice ma ml mc] 49 (0, 0)) := by
    rw [Below.heap_alloc _ _ _ (by omega), Below.heap_alloc _ _ _ (by omega)]; exact heap_alloc_new _ _
  have hrs : (((w.alloc (.cells #[.slice ta tl tc, .slice ma ml mc] 49)).alloc (.cells #[nilV, nilV] 55)).alloc (.cells #[] 9)).heap[w.heap.size + 1]? = some (.cells #[nilV, nilV] 55 (0, 0)) := by
    rw [Below.heap_alloc _ _ _ (by omega), ← s1]; exact heap_alloc_new _ _
  obtain ⟨tn, W1, happ, htx, hgr⟩ := twinT 46 _ w.heap.size _ ho (by have := hF3.size; exact this) _ T p (HT.out _ hF3)
  have hk1 := (Kept.refl (fun b => b = w.heap.size + 1 + 1) _).grown hgr (fun q _ e => by simp [Value.ownBlock] at e; exact e.symm)
  have HG0 : Hid (Gv w (W1.alloc (.cells #[tn, nilV] 55)) (.slice ta tl tc) (.slice ma ml mc) T M 0 W1.heap.size tn nilV) := by
    have hk2 : Fresh W1 (W1.alloc (.cells #[tn, nilV] 55)) := (Kept.refl _ W1).alloc _
    refine ⟨hk2.at (hk1.at hbx (by omega)) (fun e => e), hk2.at (hk1.at hrs (by omega)) (fun e => e), heap_alloc_new _ _, ?_, owns_kept htx hk2 (fun _ _ e => e), ⟨rfl, .inl ⟨rfl, rfl⟩⟩, (hF3.trans hk1 (fun q hq e => by have e' : q = w.heap.size + 1 + 1 := e; omega)).trans hk2 (fun _ _ e => e)⟩
    have := hk1.size
    rw [World.size_alloc, s2] at this
    omega
  obtain ⟨tto, tcp, htn⟩ := ownsRow_shape htx
  rw [htt] at htn
  subst htn
  have b0 := Lib.cell_of_heap (hk1.at hbx (by omega)) 1
  clear ho hbx hrs hF3 hgr s1 s2 htx
  go_enter Try.func22, Try.ntmps22
  go_wp2_with (at_builtin; refine Lib.wpList_append_run _ rfl _ _ _ _ rfl _ _ rfl rfl _ _ happ ?_)
  clear happ hk1 b0
  generalize hob : W1.heap.size = ob at *
  generalize W1.alloc (.cells #[.slice tto tl tcp, nilV] 55) = W2 at *
  go_loopw [4] (fun iv wr => ∃ (j : Nat) (mo : Option Addr) (mcp : Nat), j ≤ ml ∧ iv = zV j ∧ Hid (Gv w wr (.slice ta tl tc) (.slice ma ml mc) T M j ob (.slice tto tl tcp) (.slice mo j mcp))) (fun iv _ => ml - (RowKit.intOf iv).toNat)
  case atStart => exact ⟨0, none, 0, Nat.zero_le _, rfl, HG0.out⟩
  case round =>
    obtain ⟨j, mo, mcp, hj, rfl, HQ⟩ := hrel
    clear HG0
    have x0 : wr.cell? ⟨w.heap.size, 1, none⟩ = some (.slice ma ml mc) := by rw [Lib.cell_of_heap HQ.out.box]; rfl
    have y0 : wr.cell? ⟨ob, 0, none⟩ = some (.slice tto tl tcp) := by rw [Lib.cell_of_heap HQ.out.out]; rfl
    have y1 : wr.cell? ⟨ob, 1, none⟩ = some (.slice mo j mcp) := by rw [Lib.cell_of_heap HQ.out.out]; rfl
    by_cases hlt : j < ml
    · have hlt' : (j : Int) < (ml : Int) := by omega
      obtain ⟨ao, cap, hmv, _, _, hm64, hmc⟩ := HM.out wr HQ.out.fr
      injection hmv with e1 e2 e3
      subst e1 e3
      clear e2
      obtain ⟨b, off, rfl, _, hbX, hcells⟩ := hmc (by omega)
      obtain ⟨m0, m1, m2⟩ := hcells j (by omega)
      have hFa : Fresh wr (wr.alloc (.cells #[.int .i64 (gM M j).l, .int .i64 (gM M j).r, .int .i64 (gM M j).o] 82)) := (Kept.refl _ wr).alloc _
      have hG2 := HQ.out
      have ho2 := owns_kept HQ.out.mg hFa (fun _ _ e => e)
      obtain ⟨mn', W3, happ, hmg, hk3⟩ := pushM _ w.heap.size _ M j ho2 (by omega) (by have := HQ.out.fr.size; have := hFa.size; omega)
      have hob2 := hFa.at HQ.out.out (fun e => e)
      have hne2 : (Value.slice mo j mcp).ownBlock ≠ some ob := ownBlock_ne3 ho2 hob2 (by decide)
      rw [World.size_alloc] at happ
      obtain ⟨mo', mcp', hmn⟩ := ownsRow_shape hmg
      subst hmn
      have hbx2 := hFa.at HQ.out.box (fun e => e)
      have hrs2 := hFa.at HQ.out.res (fun e => e)
      have htx2 := owns_kept HQ.out.tx hFa (fun _ _ e => e)
      have hob3 := hk3.at hob2 hne2
      have hk4 : Kept (fun b => b = ob) W3 (W3.setCell ⟨ob, 1, none⟩ (.slice mo' (j + 1) mcp')) := (Kept.refl (fun b => b = ob) W3).setCell (p := ⟨ob, 1, none⟩) (fun _ => rfl) _
      have hnb := HQ.out.ne
      have HN : Hid (Gv w (W3.setCell ⟨ob, 1, none⟩ (.slice mo' (j + 1) mcp')) (.slice ta tl tc) (.slice (some ⟨b, off, none⟩) ml mc) T M (j + 1) ob (.slice tto tl tcp) (.slice mo' (j + 1) mcp')) := by
        have htx3 := owns_kept htx2 hk3 (fun q h1 h2 => own_apart htx2 ho2 (by decide) h1 h2)
        refine ⟨hk4.at (hk3.at hbx2 (ownBlock_ne3 ho2 hbx2 (by decide))) (by omega), hk4.at (hk3.at hrs2 (ownBlock_ne3 ho2 hrs2 (by decide))) (by omega), Lib.heap_setCell_same hob3 _ (i := 1), hnb, owns_kept htx3 hk4 (fun q h1 h2 => ?_), owns_kept hmg hk4 (fun q h1 h2 => ?_), ?_⟩
        · subst h2; exact ownBlock_ne3 htx3 hob3 (by decide) h1
        · subst h2; exact ownBlock_ne3 hmg hob3 (by decide) h1
        · refine (((HQ.out.fr.trans hFa (fun _ _ e => e)).trans hk3 (fun q hq e => ?_))).trans hk4 (fun q hq e => by have e' : q = ob := e; omega)
          have := own_ge3 ho2 e
          omega
      have d1 : W3.cell? ⟨ob, 1, none⟩ = some (.slice mo j mcp) := by rw [Lib.cell_of_heap hob3]; rfl
      have f1 : W3.frozen? ⟨ob, 1, none⟩ = false := Lib.frozen_of_heap hob3 1
      have y1' : (wr.alloc (.cells #[.int .i64 (gM M j).l, .int .i64 (gM M j).r, .int .i64 (gM M j).o] 82)).cell? ⟨ob, 1, none⟩ = some (.slice mo j mcp) := by rw [Lib.cell_of_heap hob2]; rfl
      clear hbx2 hrs2 htx2 hob3 hk4 hk3 hmg ho2 hob2 hFa hG2 HQ hmc hcells hm64 hne2
      generalize (gM M j).l = xl at *
      generalize (gM M j).r = xr at *
      generalize (gM M j).o = xo at *
      go_wp2_with (at_builtin; refine Lib.wpList_append_run _ rfl _ _ _ _ rfl _ _ rfl rfl _ _ happ ?_)
      go_roundw
      case rel => exact ⟨j + 1, mo', mcp', hlt, by go_num, HN.out⟩
      case measure => simp [RowKit.intOf]; omega
    · obtain rfl : j = ml := by omega
      have hk4 : Kept (fun b => b = w.heap.size + 1) wr ((wr.setCell ⟨w.heap.size + 1, 0, none⟩ (.slice tto tl tcp)).setCell ⟨w.heap.size + 1, 1, none⟩ (.slice mo j mcp)) := ((Kept.refl (fun b => b = w.heap.size + 1) wr).setCell (p := ⟨w.heap.size + 1, 0, none⟩) (fun _ => rfl) _).setCell (p := ⟨w.heap.size + 1, 1, none⟩) (fun _ => rfl) _
      have HM2 : Hid (MgR (fun b => w.heap.size ≤ b ∧ b < ((wr.setCell ⟨w.heap.size + 1, 0, none⟩ (.slice tto tl tcp)).setCell ⟨w.heap.size + 1, 1, none⟩ (.slice mo j mcp)).heap.size) ((wr.setCell ⟨w.heap.size + 1, 0, none⟩ (.slice tto tl tcp)).setCell ⟨w.heap.size + 1, 1, none⟩ (.slice mo j mcp)) (.slice mo j mcp) M ∧
          TxR (fun b => w.heap.size ≤ b ∧ b < ((wr.setCell ⟨w.heap.size + 1, 0, none⟩ (.slice tto tl tcp)).setCell ⟨w.heap.size + 1, 1, none⟩ (.slice mo j mcp)).heap.size) ((wr.setCell ⟨w.heap.size + 1, 0, none⟩ (.slice tto tl tcp)).setCell ⟨w.heap.size + 1, 1, none⟩ (.slice mo j mcp)) (.slice tto tl tcp) T) := by
        obtain ⟨_, _, _, _, _, hm64, _⟩ := HM.out wr HQ.out.fr
        have h3 := HT.out wr HQ.out.fr
        have h1 := owns_kept HQ.out.mg hk4 (fun q h1 h2 => by subst h2; exact ownBlock_ne3 HQ.out.mg HQ.out.res (by decide) h1)
        have h2 := owns_kept HQ.out.tx hk4 (fun q h1 h2 => by subst h2; exact ownBlock_ne3 HQ.out.tx HQ.out.res (by decide) h1)
        refine ⟨mgr_of_own (by rw [hmm]; exact h1) hm64, txr_of_own (by rw [htt] at h2 ⊢; exact h2) (fun i hi => h3.room hi) h3.len16⟩
      have HR : Hid (((wr.setCell ⟨w.heap.size + 1, 0, none⟩ (.slice tto tl tcp)).setCell ⟨w.heap.size + 1, 1, none⟩ (.slice mo j mcp)).heap[w.heap.size + 1]? = some (.cells #[.slice tto tl tcp, .slice mo j mcp] 55 (0, 0))) := by
        have e1 := Lib.heap_setCell_same HQ.out.res (.slice tto tl tcp) (i := 0)
        exact Lib.heap_setCell_same e1 (.slice mo j mcp) (i := 1)
      have HFx : Hid (Fresh w ((wr.setCell ⟨w.heap.size + 1, 0, none⟩ (.slice tto tl tcp)).setCell ⟨w.heap.size + 1, 1, none⟩ (.slice mo j mcp))) := HQ.out.fr.trans hk4 (fun q hq e => by have e' : q = w.heap.size + 1 := e; omega)
      have z0 : wr.cell? ⟨w.heap.size + 1, 0, none⟩ = some nilV := by rw [Lib.cell_of_heap HQ.out.res]; rfl
      have z1 : wr.cell? ⟨w.heap.size + 1, 1, none⟩ = some nilV := by rw [Lib.cell_of_heap HQ.out.res]; rfl
      have fz := fun i => Lib.frozen_of_heap HQ.out.res i
      clear hk4 HQ
      go_wp2
      exact bodyPost_ret (results_cell_row rfl _ _ (w.heap.size + 1) _ _ _ _ rfl HR.out Try.underlying55 rfl vrSize) rfl ⟨_, _, rfl, HM2.out.2, HM2.out.1, HFx.out⟩
end Go.Proofs.Ytdponkpgokncdaa
