/-
  One more is put into a heap.
-/
import Derived.Test.YtjjpkidmlpmgaaaVob
namespace Go.Proofs.Ytjjpkidmlpmgaaa
open Go.RowKit Go.Lib Go.Maps

/-- One number behind the first row. -/
theorem Rs.pushI {s : TypeId} (ht : Ty .i64 3 s) {B : Nat} {X : World} {v : Value} {L : List Int} {l : List Rr} (h : Rs B X (RI v L :: l)) (x : Int) (hB : B ≤ X.heap.size) (hb : L.length + 1 ≤ 8796093022208) :
    ∃ g c X', (Builtin.append_ #[s, s] s #[v, .slice (some ⟨X.heap.size, 0, none⟩) 1 1]).run Try.prog (X.alloc (.cells #[.int .i64 x] 3)) = .ok (.slice (some ⟨g, 0, none⟩) (L.length + 1) c) X' ∧
      Rs B X' (RI (.slice (some ⟨g, 0, none⟩) (L.length + 1) c) (L ++ [x]) :: l) ∧ Up0 B X X' := by
  have hown : X.ownsRow B 3 1 v L.length (L.map (Value.int .i64)) := by have := h.head; unfold Rr.At at this; simpa using this
  obtain ⟨i0, hi0, hz0, hz1, hz2⟩ := info_parts ht.info
  have hY : (X.alloc (.cells #[.int .i64 x] 3)).ownsRow B 3 1 v L.length (L.map (Value.int .i64)) := owns_kept hown ((Kept.refl (fun _ => False) X).alloc _) (fun _ _ e => e)
  obtain ⟨v', w', hrun, ho, hg, _, hbk⟩ := run_append_own_at (P := Try.prog) (X.alloc (.cells #[.int .i64 x] 3)) B s s 3 i0 _ 1 8 ht.u hi0 hz0 hz1 hz2 rfl (by omega) _ L.length _ hY ⟨X.heap.size, 0, none⟩ 1 1 [.int .i64 x] rfl (fun q u hq => cell_one_new X (.int .i64 x) 3 q u hq) (fun u hu => by simp at hu; subst hu; rfl) (by unfold maxLen; omega) (by omega) (by simp; omega)
  obtain ⟨g', c', rfl⟩ : ∃ g' c', v' = .slice (some ⟨g', 0, none⟩) (L.length + 1) c' := by
    rcases ho.2 with ⟨_, e⟩ | ⟨g', cap', cur, hv, _⟩
    · omega
    · exact ⟨g', cap', hv⟩
  have hk : Kept (fun b => v.ownBlock = some b) X w' := ((Kept.refl (fun b => v.ownBlock = some b) X).alloc _).grown hg (fun q _ e => e)
  refine ⟨g', c', w', hrun, h.turn hk ?_ (fun k hk2 => ?_), Up0.of hk (fun k e => ⟨own_ge hown e, fun es cl e2 => by
    rcases hown.2 with ⟨e', _⟩ | ⟨g, cap, cur, hv, _, hh, _⟩
    · rw [e'] at e; simp [Value.ownBlock] at e
    · rw [hv] at e
      simp [Value.ownBlock] at e
      rw [e, e2] at hh
      cases hh⟩)⟩
  · unfold Rr.At
    show w'.ownsRow B 3 1 _ ((L ++ [x]).map (Value.int .i64)).length ((L ++ [x]).map (Value.int .i64))
    rw [List.map_append, show (L.map (Value.int .i64) ++ [x].map (Value.int .i64)).length = L.length + 1 by simp]
    exact ho
  · rcases hbk with e | e
    · left; rw [← e]; exact hk2
    · right
      have : (Value.slice (some ⟨g', 0, none⟩) (L.length + 1) c').ownBlock = some k := hk2
      rw [e] at this
      simp at this
      omega

set_option maxHeartbeats 1000000 in
set_option maxRecDepth 100000 in
theorem put_any (B wb n c r : Nat) (hv : Value) (X : World) (us : List Value) (L : List Int) (x : Int) (l : List Rr) (h : Rs B X (RH wb n c us :: RI hv L :: l)) (hus : us.length = n) (hr : r < n) (hu : us.getD r nilV = hv) (hb : L.length + 1 ≤ 8796093022208) (hB : B ≤ X.heap.size) :
    Calls Try.prog 41 #[.pointer (some ⟨wb, r, none⟩), zV x] X fun e X' => e = .returned (.tuple #[]) ∧ ∃ g c', Rs B X' (RH wb n c (us.set r (.slice (some ⟨g, 0, none⟩) (L.length + 1) c')) :: RI (.slice (some ⟨g, 0, none⟩) (L.length + 1) c') (putF L x) :: l) ∧ Up0 B X X' := by
  have a0 := h.geV hus r hr
  rw [hu] at a0
  obtain ⟨ao, cp0, hsh⟩ := ownsRow_shape (h.swap2.head : X.ownsRow B 3 1 hv (L.map (Value.int .i64)).length (L.map (Value.int .i64)))
  rw [List.length_map] at hsh
  subst hsh
  have hwB := h.ge
  obtain ⟨g, cp, X1, happ, hR1, hK1⟩ := h.swap2.pushI tyH x hB hb
  have f1 := hR1.swap2.frozen r
  have a1 := hR1.swap2.geV hus r hr
  have HR2 : Hid (Rs B (X1.setCell ⟨wb, r, none⟩ (.slice (some ⟨g, 0, none⟩) (L.length + 1) cp)) (RI (.slice (some ⟨g, 0, none⟩) (L.length + 1) cp) (L ++ [x]) :: RH wb n c (us.set r (.slice (some ⟨g, 0, none⟩) (L.length + 1) cp)) :: l)) := (hR1.swap2.seV hus r _).swap2
  have HK2 : Hid (∀ u, Up0 B X (X1.setCell ⟨wb, r, none⟩ u)) := fun u => hK1.setCell (p := ⟨wb, r, none⟩) hwB.1 u
  have a2 : (X1.setCell ⟨wb, r, none⟩ (.slice (some ⟨g, 0, none⟩) (L.length + 1) cp)).cell? ⟨wb, r, none⟩ = some (.slice (some ⟨g, 0, none⟩) (L.length + 1) cp) := by
    rw [HR2.out.swap2.geV (by simpa using hus) r hr, List.getD_eq_getElem?_getD, List.getElem?_set_self (by omega)]
    rfl
  generalize hF : putF L x = F
  have HF : Hid (upF L.length (L ++ [x]) L.length = F) := hF
  have HLn : Hid ((L ++ [x]).length = L.length + 1) := by show _ = _; simp
  generalize hus' : us.set r (.slice (some ⟨g, 0, none⟩) (L.length + 1) cp) = us' at HR2
  have HUs : Hid (us' = us.set r (.slice (some ⟨g, 0, none⟩) (L.length + 1) cp)) := hus'.symm
  clear hF hR1 hK1 h hus'
  generalize hm : L.length = m at *
  generalize hL0 : L ++ [x] = L0 at *
  clear hm hL0 hu
  go_enter Try.func41, Try.ntmps41
  go_wp2_with (at_builtin; refine Lib.wpList_append_run _ rfl _ _ _ _ rfl _ _ rfl rfl _ _ happ ?_)
  generalize hX2 : X1.setCell ⟨wb, r, none⟩ (.slice (some ⟨g, 0, none⟩) (m + 1) cp) = X2 at *
  have HKX : Hid (Up0 B X X2) := by show Up0 _ _ _; rw [← hX2]; exact HK2.out _
  clear hX2 HK2 happ f1 a1 a0 a2
  go_loopw [5] (fun iv wr => ∃ (i q : Nat) (L' : List Int), i ≤ m ∧ i ≤ q ∧ iv = zV i ∧ Hid (Rs B wr (RI (.slice (some ⟨g, 0, none⟩) (m + 1) cp) L' :: RH wb n c us' :: l) ∧ L'.length = m + 1 ∧ upF q L' i = F ∧ Up0 B X wr)) (fun iv _ => (RowKit.intOf iv).toNat)
  case atStart => exact ⟨m, m, L0, Nat.le_refl _, Nat.le_refl _, by go_num, HR2.out, HLn.out, HF.out, HKX.out⟩
  case round =>
    obtain ⟨i, q, L', hi, hq, rfl, HA⟩ := hrel
    clear HR2 HLn HF HKX
    have hfr := HA.out.1.frozen
    have hge := HA.out.1.ge.1
    have hLn := HA.out.2.1
    have hstep := HA.out.2.2.1
    by_cases h0 : i = 0
    · subst h0
      have HE : Hid (L' = F) := by
        show _ = _
        cases q with
        | zero => exact hstep
        | succ q => unfold upF at hstep; simpa using hstep
      have HG : Hid (Rs B wr (RI (.slice (some ⟨g, 0, none⟩) (m + 1) cp) F :: RH wb n c us' :: l) ∧ Up0 B X wr) := by
        have h1 := HA.out.1
        rw [HE.out] at h1
        exact ⟨h1, HA.out.2.2.2⟩
      clear HA HE hstep hLn hfr
      go_wp2
      exact bodyPost_end (results_none rfl _ _ _) rfl ⟨rfl, g, cp, by rw [← HUs.out]; exact HG.out.1.swap2, HG.out.2⟩
    · have hp0 : (i - 1) / 2 < i := by omega
      obtain ⟨q, rfl⟩ : ∃ k, q = k + 1 := ⟨q - 1, by omega⟩
      unfold upF at hstep
      rw [if_neg h0] at hstep
      have b0 := HA.out.1.geI hLn i (by omega)
      have b1 := HA.out.1.geI hLn ((i - 1) / 2) (by omega)
      have hge' := hge
      have hpos : decide ((i : Int) > 0) = true := by simp; omega
      have hpos2 : (0 : Int) < (i : Int) := by omega
      have e1 : (i : Int) - 1 = ((i - 1 : Nat) : Int) := by omega
      have e2 : Int.tdiv ((i - 1 : Nat) : Int) 2 = (((i - 1) / 2 : Nat) : Int) := by rw [Int.tdiv_eq_ediv_of_nonneg (by omega)]; omega
      have f0 := hfr i
      have f1 := hfr ((i - 1) / 2)
      by_cases h3 : gI L' ((i - 1) / 2) ≤ gI L' i
      · have HG : Hid (Rs B wr (RI (.slice (some ⟨g, 0, none⟩) (m + 1) cp) F :: RH wb n c us' :: l) ∧ Up0 B X wr) := by
          have h1 := HA.out.1
          rw [if_pos h3] at hstep
          rw [hstep] at h1
          exact ⟨h1, HA.out.2.2.2⟩
        clear hstep HA hfr
        generalize gI L' i = x0 at *
        generalize gI L' ((i - 1) / 2) = x1 at *
        generalize (i - 1) / 2 = p at *
        have d3 : decide (x1 ≤ x0) = true := by simpa using h3
        go_wp2_with fail
        go_quiet (fail)
        go_wp2
        exact bodyPost_ret (results_none rfl _ _ _) rfl ⟨rfl, g, cp, by rw [← HUs.out]; exact (HG.out.1.drewN _).swap2, HG.out.2.drewN _⟩
      · have HS : Hid (upF q (swp L' ((i - 1) / 2) i) ((i - 1) / 2) = F) := by rw [if_neg h3] at hstep; exact hstep
        have HS2 := show Hid _ from HA.out.1.swI hLn ((i - 1) / 2) i
        have HS3 : Hid ((swp L' ((i - 1) / 2) i).length = m + 1) := by show _ = _; rw [swp_len]; exact hLn
        have HK : Hid (∀ u u', Up0 B X ((wr.setCell ⟨g, (i - 1) / 2, none⟩ u).setCell ⟨g, i, none⟩ u')) := fun u u' => (HA.out.2.2.2.setCell (p := ⟨g, (i - 1) / 2, none⟩) hge u).setCell (p := ⟨g, i, none⟩) hge u'
        clear hstep HA hfr
        generalize swp L' ((i - 1) / 2) i = Z at *
        generalize gI L' i = x0 at *
        generalize gI L' ((i - 1) / 2) = x1 at *
        generalize (i - 1) / 2 = p at *
        have d3 : decide (x1 ≤ x0) = false := by simpa using h3
        go_wp2_with fail
        go_quiet (fail)
        generalize nq = n1
        go_wp2_with fail
        go_region
        go_wp2
        go_roundw
        case rel => exact ⟨p, q, Z, by omega, by omega, by go_num, HS2.out.drewN _, HS3.out, HS.out, (HK.out _ _).drewN _⟩
        case measure => simp [RowKit.intOf]; omega
end Go.Proofs.Ytjjpkidmlpmgaaa
