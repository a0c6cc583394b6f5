/-
  Nucleus, Order and Top, told by the rows that they own.
-/
import Derived.Test.YtgemkmpepnaoiabRkl
namespace Go.Proofs.Ytgemkmpepnaoiab
open Go.RowKit Go.Lib Go.Maps

theorem own_take {w : World} {B b c m : Nat} {L : List Int} (h : At w b L) (hB : B ≤ b) (hc : L.length = c) (hm : m ≤ c) (hx : c ≤ maxLen) : w.ownsRow B 3 1 (.slice (some ⟨b, 0, none⟩) m c) m ((L.take m).map zV) :=
  ⟨by rw [List.length_map, List.length_take]; omega, .inr ⟨b, c, _, rfl, hB, h, hm, hx, by simp [hc], by rw [Nat.mul_one, List.toList_toArray, List.map_take]⟩⟩
/-- An order's beginning told in a row of one's own, in new memory. -/
def OwnAt (zs : List Int) (m : Nat) (w w' : World) (v : Value) : Prop := ∃ o, IsOrd (fun i => zs.getD i 0) zs.length o ∧ w'.ownsRow w.heap.size 3 1 v m (((upI o).take m).map zV) ∧ Fresh w w'
theorem order_own (rv : Value) (zs : List Int) (w : World) (hr : Rw (fun b => b < w.heap.size) w rv zs) :
    Calls Try.prog 14 #[rv] w fun e w' => ∃ v, e = .returned v ∧ OwnAt zs zs.length w w' v := by
  refine (order_any rv zs w hr).mono ?_
  rintro e w' ⟨o, b, rfl, hO, hb, hA, hF⟩
  have hl := hr.len
  exact ⟨_, rfl, o, hO, own_take hA hb (by rw [upI_length, hO.length]) (Nat.le_refl _) (by unfold maxLen; omega), hF⟩

set_option maxHeartbeats 1000000 in
set_option maxRecDepth 100000 in
theorem top_own (rv : Value) (zs : List Int) (k : Int) (w : World) (hr : Rw (fun b => b < w.heap.size) w rv zs) (hk : I64 k) :
    Calls Try.prog 15 #[rv, zV k] w fun e w' => ∃ v, e = .returned v ∧ OwnAt zs (topN k zs.length) w w' v := by
  have HO : Hid (Unit → _) := fun (_ : Unit) => order_any rv zs w hr
  have hln := hr.len
  obtain ⟨lo, hi⟩ := hk
  obtain ⟨n, hn⟩ : ∃ n, zs.length = n := ⟨_, rfl⟩
  have HN : Hid (zs.length = n) := hn
  rw [hn] at HO hln ⊢
  clear hn hr
  go_enter Try.func15, Try.ntmps15
  go_wp2_with fail
  refine (HO.out ()).mono ?_
  rintro e w1 ⟨o, b, rfl, hO, hb, hA, hF⟩
  have h1 : ∀ m, m ≤ n → w1.ownsRow w.heap.size 3 1 (.slice (some ⟨b, 0, none⟩) m n) m (((upI o).take m).map zV) := fun m hm => own_take hA hb (by rw [upI_length, hO.length]) (by omega) (by unfold maxLen; omega)
  rw [← HN.out] at hO
  have HP : Hid (∀ m, m ≤ n → OwnAt zs m w w1 (.slice (some ⟨b, 0, none⟩) m n)) := fun m hm => ⟨o, hO, h1 m hm, hF⟩
  clear h1 hO hA hF hb HO HN
  by_cases h1 : k < 1
  · have HT : Hid (topN k n = n) := topN_all (.inl h1)
    go_wp2
    go_ret
    exact ⟨_, rfl, by rw [HT.out]; exact HP.out n (Nat.le_refl _)⟩
  · obtain ⟨m, rfl⟩ : ∃ m : Nat, k = (m : Int) := ⟨k.toNat, by omega⟩
    by_cases h2 : (n : Int) < (m : Int)
    · have HT : Hid (topN (m : Int) n = n) := topN_all (.inr (by omega))
      go_wp2
      go_ret
      exact ⟨_, rfl, by rw [HT.out]; exact HP.out n (Nat.le_refl _)⟩
    · have HT : Hid (topN (m : Int) n = m) := topN_some (by omega) (by omega)
      have h3 : (m : Int) ≤ (n : Int) := by omega
      have h4 : ¬ (m : Int) < 1 := by omega
      go_wp2
      go_ret
      exact ⟨_, rfl, by rw [HT.out]; exact HP.out m (by omega)⟩


set_option maxHeartbeats 1000000 in
set_option maxRecDepth 100000 in
theorem nucleus_own (rv : Value) (zs : List Int) (T : Int) (w : World) (hr : Rw (fun b => b < w.heap.size) w rv zs) (_hT : I64 T) :
    Calls Try.prog 13 #[rv, zV T] w fun e w' => ∃ v, e = .returned (.tuple #[v, zV (nE zs T)]) ∧ ∃ L, NuIs zs T L ∧ w'.ownsRow w.heap.size 3 1 v L.length (L.map zV) ∧ Fresh w w' := by
  have HEm : Hid (∀ w : World, ∀ v, v = (.slice none 0 0) → w.ownsRow w.heap.size 3 1 v 0 []) := fun w v hv => by
    subst hv
    exact ⟨rfl, .inl ⟨rfl, rfl⟩⟩
  by_cases hb : T < 1 ∨ 65536 < T
  · have HE : Hid (nE zs T = 1 ∧ NuIs zs T []) := ⟨nE_bad hb, .inl ⟨by rw [nE_bad hb]; omega, rfl⟩⟩
    obtain ⟨ao, cap, rfl, _⟩ := hr
    by_cases h1 : T < 1
    · clear hb
      go_enter Try.func13, Try.ntmps13
      go_wp2
      go_ret2
      exact ⟨_, by rw [HE.out.1]; rfl, [], HE.out.2, HEm.out w _ rfl, Kept.refl _ _⟩
    · have h2 : 65536 < T := by omega
      clear hb
      go_enter Try.func13, Try.ntmps13
      go_wp2
      go_ret2
      exact ⟨_, by rw [HE.out.1]; rfl, [], HE.out.2, HEm.out w _ rfl, Kept.refl _ _⟩
  have h1 : ¬ T < 1 := by omega
  have h2 : ¬ 65536 < T := by omega
  have HW : Hid (Unit → _) := fun (_ : Unit) => weigh_any _ rv zs w hr
  by_cases he : wE zs = 0
  · obtain ⟨hn, hz, h0, hS0⟩ := wE_zero he
    have HE : Hid (nE zs T = 0 ∧ wS zs = zs.sum ∧ wE zs = 0) := ⟨by rw [nE_ok (by omega) (by omega), he], wS_ok he, he⟩
    obtain ⟨S, hS⟩ : ∃ S, S = zs.sum := ⟨_, rfl⟩
    obtain ⟨n, hnz⟩ : ∃ n, n = zs.length := ⟨_, rfl⟩
    have HO : Hid (Unit → _) := fun (_ : Unit) => order_any rv zs w hr
    obtain ⟨ao, cap, hv, _⟩ := id hr
    subst hv
    have HC : Hid (0 < n → ∃ b off, ao = some ⟨b, off, none⟩ ∧ ∀ W, Fresh w W → ∀ i, i < n → W.cell? ⟨b, off + i, none⟩ = some (zV (zs.getD i 0))) := fun h0 => by
      obtain ⟨ao', cap', hv', _, hc, _⟩ := hr
      cases hv'
      obtain ⟨b, off, e, _, hb, hcell⟩ := hc (fun e => by rw [e] at hnz; simp at hnz; omega)
      exact ⟨b, off, e, fun W hF i hi => (hF.cell (p := ⟨b, off + i, none⟩) hb (fun e => e)).trans (hcell i (by omega))⟩
    have hw := HW.out ()
    rw [HE.out.2.1, HE.out.2.2, ← hS, ← hnz] at hw
    have HW' : Hid (Unit → _) := fun (_ : Unit) => hw
    rw [← hnz] at HO
    rw [HE.out.1, ← hnz]
    have HZ : Hid (∀ z ∈ zs, Wt z) := hz
    have HN : Hid (n = zs.length ∧ S = zs.sum) := ⟨hnz, hS⟩
    have hSp : 0 < S := by omega
    have hn' : n ≤ 4096 := by omega
    have hSb : S ≤ 4398046511104 := by
      have := (sum_bounds zs hz).2
      rw [← hS, ← hnz] at this
      have : (n : Int) * 1073741824 ≤ 4096 * 1073741824 := by omega
      omega
    clear hr hw HW hS hnz hz h0 hS0 hn he hb
    obtain ⟨Q, hQ⟩ : ∃ Q, T * S = Q := ⟨_, rfl⟩
    have hQ0 : 0 ≤ Q := by rw [← hQ]; exact Int.mul_nonneg (by omega) (by omega)
    have hQ1 : Q ≤ S * 65536 := by rw [← hQ, Int.mul_comm T S]; exact Int.mul_le_mul_of_nonneg_left (by omega) (by omega)
    have HQ : Hid (T * S = Q) := hQ
    go_enter Try.func13, Try.ntmps13
    go_wp2_with fail
    refine (HW'.out ()).mono ?_
    rintro e w1 ⟨rfl, hw1⟩
    have hw2 := hw1.symm
    subst hw2
    clear hw1 HW'
    go_wp2_with fail
    refine (HO.out ()).mono ?_
    rintro e w1 ⟨o, b, rfl, hO, hb, hA, hF⟩
    obtain ⟨co, hco⟩ : ∃ co, co = n := ⟨_, rfl⟩
    have hcn : n ≤ co := by omega
    have hrw : ∀ m, m ≤ n → w1.ownsRow w.heap.size 3 1 (.slice (some ⟨b, 0, none⟩) m co) m (((upI o).take m).map zV) := fun m hm => own_take hA hb (by rw [upI_length, hO.length]; exact hco.symm) (by omega) (by unfold maxLen; omega)
    have hcells : ∀ k, (h : k < o.length) → w1.cell? ⟨b, k, none⟩ = some (zV (o[k] : Nat)) := fun k h => by rw [hA.cell, upI_get, List.getElem?_eq_getElem h]; rfl
    rw [show (Value.slice (some ⟨b, 0, none⟩) n n) = .slice (some ⟨b, 0, none⟩) n co by rw [hco]]
    clear hA hb hco
    have HOr : Hid (IsOrd (fun i => zs.getD i 0) n o) := hO
    have HB : Hid (Fresh w w1) := hF
    have HRw : Hid (∀ m, m ≤ n → w1.ownsRow w.heap.size 3 1 (.slice (some ⟨b, 0, none⟩) m co) m (((upI o).take m).map zV)) := hrw
    have HLo : Hid ((upI o).length = n) := by show _ = _; rw [upI_length, hO.length]
    have HCo : Hid (∀ k, (h : k < o.length) → w1.cell? ⟨b, k, none⟩ = some (zV (o[k] : Nat))) := hcells
    clear hO hF hrw hcells HO
    go_wp2
    go_loopw [9, 10] (fun cv sv wr => ∃ k : Nat, k ≤ n ∧ cv = zV k ∧ sv = zV (oSum zs o k) ∧ Hid (∀ i, i < k → oSum zs o i * 65536 < Q) ∧ wr = w1) (fun cv _ _ => n - (RowKit.intOf cv).toNat)
    case atStart => exact ⟨0, Nat.zero_le _, rfl, rfl, (fun i hi => by omega : ∀ i, i < 0 → oSum zs o i * 65536 < Q), rfl⟩
    case round =>
      obtain ⟨k, hk, rfl, rfl, HK, hwr⟩ := hrel
      have hwr2 := hwr.symm
      subst hwr2
      clear hwr
      have hbd := oSum_bounds (by rw [← HN.out.1]; exact HOr.out) HZ.out k
      have hlt4 : ((o.take k).length : Int) * 1073741824 ≤ 4096 * 1073741824 := by
        have : (o.take k).length ≤ 4096 := by rw [List.length_take, HOr.out.length]; omega
        omega
      have HAll : Hid (oSum zs o n = S) := by
        have := oSum_all (zs := zs) (o := o) (by rw [← HN.out.1]; exact HOr.out)
        rw [← HN.out.1, ← HN.out.2] at this
        exact this
      by_cases ht : oSum zs o k * 65536 < Q
      · have hkn : k < n := by
          rcases Nat.lt_or_ge k n with e | e
          · exact e
          · have e2 : k = n := by omega
            rw [e2, HAll.out] at ht
            omega
        obtain ⟨lb, off, rfl, hcell⟩ := HC.out (by omega)
        have hko : k < o.length := by rw [HOr.out.length]; exact hkn
        have hp : o[k] < n := HOr.out.lt (List.getElem_mem hko)
        have c1 := HCo.out k hko
        have c2 := hcell _ HB.out o[k] hp
        have HS1 : Hid (oSum zs o (k + 1) = oSum zs o k + zs.getD o[k] 0) := oSum_succ zs o k hko
        have HK1 : Hid (∀ i, i < k + 1 → oSum zs o i * 65536 < Q) := fun i hi => by
          rcases Nat.lt_or_ge i k with e | e
          · exact HK.out i e
          · obtain rfl : i = k := by omega
            exact ht
        have hwt : Wt (zs.getD o[k] 0) := HZ.out _ (by rw [HN.out.1] at hp; rw [List.getD_eq_getElem?_getD, List.getElem?_eq_getElem hp]; exact List.getElem_mem hp)
        obtain ⟨x0, x1⟩ := hwt
        have hp' : ((o[k] : Nat) : Int) < (n : Int) := by omega
        have hk' : (k : Int) < (n : Int) := by omega
        clear hcell HK HAll
        generalize zs.getD o[k] 0 = x at *
        generalize o[k] = p at *
        generalize oSum zs o k = A at *
        generalize (o.take k).length = tl at *
        go_wp2
        go_roundw
        case rel => exact ⟨k + 1, hkn, by go_num, by rw [HS1.out], HK1.out, trivial⟩
        case measure => simp [RowKit.intOf]; omega
      · have HP : Hid (NuIs zs T ((upI o).take k) ∧ w1.ownsRow w.heap.size 3 1 (.slice (some ⟨b, 0, none⟩) k co) ((upI o).take k).length (((upI o).take k).map zV) ∧ Fresh w w1) := by
          refine ⟨.inr ⟨HE.out.1, o, k, by rw [← HN.out.1]; exact HOr.out, ?_, ?_, rfl⟩, (by rw [List.length_take, HLo.out, Nat.min_eq_left hk]; exact HRw.out k hk), HB.out⟩
          · rw [← HN.out.2, HQ.out]; exact HK.out
          · rw [← HN.out.2, HQ.out]; exact ht
        have hk' : (k : Int) ≤ (co : Int) := by omega
        clear HK HAll HRw HCo HOr
        generalize oSum zs o k = A at *
        generalize (o.take k).length = tl at *
        go_wp2
        go_ret2
        exact ⟨_, rfl, _, HP.out.1, HP.out.2.1, HP.out.2.2⟩
  · have HE : Hid (nE zs T = wE zs ∧ NuIs zs T [] ∧ wS zs = 0) := ⟨nE_ok (by omega) (by omega), .inl ⟨by rw [nE_ok (by omega) (by omega)]; exact he, rfl⟩, wS_bad he⟩
    obtain ⟨ao, cap, rfl, _⟩ := hr
    have he' : (wE zs == 0) = false := by simp [he]
    go_enter Try.func13, Try.ntmps13
    go_wp2_with fail
    refine (HW.out ()).mono ?_
    rintro e w1 ⟨rfl, rfl⟩
    go_wp2
    go_ret2
    exact ⟨_, by rw [HE.out.1]; rfl, [], HE.out.2.1, HEm.out _ _ rfl, Kept.refl _ _⟩
end Go.Proofs.Ytgemkmpepnaoiab
