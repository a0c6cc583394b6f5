/-
  Nucleus, the package's and the document's.
-/
import Derived.Test.YtgemkmpepnaoiabRkk
namespace Go.Proofs.Ytgemkmpepnaoiab
open Go.RowKit Go.Lib Go.Maps

/-- The first places' numbers, summed. -/
def oSum (zs : List Int) (o : List Nat) (k : Nat) : Int := ((o.take k).map (fun i => zs.getD i 0)).sum
theorem oSum_succ (zs : List Int) (o : List Nat) (k : Nat) (h : k < o.length) : oSum zs o (k + 1) = oSum zs o k + zs.getD o[k] 0 := by
  unfold oSum
  rw [List.take_succ_eq_append_getElem h, List.map_append, List.sum_append]
  simp
theorem map_range_getD : ∀ zs : List Int, (List.range zs.length).map (fun i => zs.getD i 0) = zs := fun zs => by
  apply List.ext_getElem
  · simp
  · intro i h1 h2
    simp at h1 ⊢
    rw [List.getElem?_eq_getElem h1]; rfl
theorem perm_sum {a b : List Int} (h : a.Perm b) : a.sum = b.sum := by
  induction h with
  | nil => rfl
  | cons x _ ih => rw [List.sum_cons, List.sum_cons, ih]
  | swap x y l => simp only [List.sum_cons]; omega
  | trans _ _ i1 i2 => rw [i1, i2]
theorem oSum_all {G : Nat → Int} {zs : List Int} {o : List Nat} (h : IsOrd G zs.length o) : oSum zs o zs.length = zs.sum := by
  unfold oSum
  rw [List.take_of_length_le (by rw [h.length]; exact Nat.le_refl _), perm_sum (h.1.map _), map_range_getD]
theorem oSum_bounds {G : Nat → Int} {zs : List Int} {o : List Nat} (h : IsOrd G zs.length o) (hz : ∀ z ∈ zs, Wt z) (k : Nat) : 0 ≤ oSum zs o k ∧ oSum zs o k ≤ (o.take k).length * 1073741824 := by
  have := sum_bounds ((o.take k).map (fun i => zs.getD i 0)) (fun z hz' => by
    obtain ⟨i, hi, rfl⟩ := List.mem_map.1 hz'
    have hl := h.lt (List.mem_of_mem_take hi)
    apply hz
    rw [List.getD_eq_getElem?_getD, List.getElem?_eq_getElem hl]
    exact List.getElem_mem hl)
  rw [List.length_map] at this
  exact this
/-- What Nucleus answers: the error. -/
def nE (zs : List Int) (T : Int) : Int := if T < 1 ∨ 65536 < T then 1 else wE zs
theorem nE_bad {zs : List Int} {T : Int} (h : T < 1 ∨ 65536 < T) : nE zs T = 1 := if_pos h
theorem nE_ok {zs : List Int} {T : Int} (h1 : 1 ≤ T) (h2 : T ≤ 65536) : nE zs T = wE zs := if_neg (by omega)
/-- And the places. -/
def NuIs (zs : List Int) (T : Int) (L : List Int) : Prop :=
  (nE zs T ≠ 0 ∧ L = []) ∨ (nE zs T = 0 ∧ ∃ o m, IsOrd (fun i => zs.getD i 0) zs.length o ∧ (∀ k, k < m → oSum zs o k * 65536 < T * zs.sum) ∧ ¬ oSum zs o m * 65536 < T * zs.sum ∧ L = (upI o).take m)
theorem NuIs.unique {zs : List Int} {T : Int} {L M : List Int} (h : NuIs zs T L) (k : NuIs zs T M) : L = M := by
  rcases h with ⟨h0, h⟩ | ⟨h0, o, m, h1, h2, h3, h4⟩
  · rcases k with ⟨_, k⟩ | ⟨k0, _⟩
    · rw [h, k]
    · exact absurd k0 h0
  · rcases k with ⟨k0, _⟩ | ⟨_, p, n, k1, k2, k3, k4⟩
    · exact absurd h0 k0
    · have e := h1.unique k1
      subst e
      have : m = n := by
        rcases Nat.lt_trichotomy m n with e | e | e
        · exact absurd (k2 m e) h3
        · exact e
        · exact absurd (h2 n e) k3
      rw [h4, k4, this]
theorem nu_len {zs : List Int} {T : Int} {L : List Int} (h : NuIs zs T L) (hl : zs.length ≤ 17592186044416) : L.length ≤ 17592186044416 := by
  rcases h with ⟨_, rfl⟩ | ⟨_, o, m, h1, _, _, rfl⟩
  · simp
  · have := h1.length
    rw [List.length_take, upI_length]; omega
theorem nu_i64 {zs : List Int} {T : Int} {L : List Int} (h : NuIs zs T L) (hl : zs.length ≤ 17592186044416) : ∀ z ∈ L, I64 z := by
  rcases h with ⟨_, rfl⟩ | ⟨_, o, m, h1, _, _, rfl⟩
  · simp
  · exact fun z hz => upI_i64 h1 hl z (List.mem_of_mem_take hz)

set_option maxHeartbeats 1000000 in
set_option maxRecDepth 100000 in
theorem nucleus_any (rv : Value) (zs : List Int) (T : Int) (w : World) (hr : Rw (fun b => b < w.heap.size) w rv zs) (_hT : I64 T) :
    Calls Try.prog 13 #[rv, zV T] w fun e w' => ∃ v, e = .returned (.tuple #[v, zV (nE zs T)]) ∧ ∃ L, NuIs zs T L ∧ Rw (fun b => w.heap.size ≤ b) w' v L ∧ Fresh w w' := by
  have HEm : Hid (∀ w : World, ∀ v, v = (.slice none 0 0) → Rw (fun b => w.heap.size ≤ b) w v []) := fun w v hv => by
    subst hv
    exact ⟨none, 0, rfl, by simp, fun h => absurd rfl h, by simp, fun _ => rfl⟩
  by_cases hb : T < 1 ∨ 65536 < T
  · have HE : Hid (nE zs T = 1 ∧ NuIs zs T []) := ⟨nE_bad hb, .inl ⟨by rw [nE_bad hb]; omega, rfl⟩⟩
    obtain ⟨ao, cap, rfl, _⟩ := hr
    by_cases h1 : T < 1
    · clear hb
      go_enter Try.func13, Try.ntmps13
      go_wp2
      go_ret2
      exact ⟨_, by rw [HE.out.1]; rfl, [], HE.out.2, HEm.out w _ rfl, Kept.refl _ _⟩
    · have h2 : 65536 < T := by omega
      clear hb
      go_enter Try.func13, Try.ntmps13
      go_wp2
      go_ret2
      exact ⟨_, by rw [HE.out.1]; rfl, [], HE.out.2, HEm.out w _ rfl, Kept.refl _ _⟩
  have h1 : ¬ T < 1 := by omega
  have h2 : ¬ 65536 < T := by omega
  have HW : Hid (Unit → _) := fun (_ : Unit) => weigh_any _ rv zs w hr
  by_cases he : wE zs = 0
  · obtain ⟨hn, hz, h0, hS0⟩ := wE_zero he
    have HE : Hid (nE zs T = 0 ∧ wS zs = zs.sum ∧ wE zs = 0) := ⟨by rw [nE_ok (by omega) (by omega), he], wS_ok he, he⟩
    obtain ⟨S, hS⟩ : ∃ S, S = zs.sum := ⟨_, rfl⟩
    obtain ⟨n, hnz⟩ : ∃ n, n = zs.length := ⟨_, rfl⟩
    have HO : Hid (Unit → _) := fun (_ : Unit) => order_any rv zs w hr
    obtain ⟨ao, cap, hv, _⟩ := id hr
    subst hv
    have HC : Hid (0 < n → ∃ b off, ao = some ⟨b, off, none⟩ ∧ ∀ W, Fresh w W → ∀ i, i < n → W.cell? ⟨b, off + i, none⟩ = some (zV (zs.getD i 0))) := fun h0 => by
      obtain ⟨ao', cap', hv', _, hc, _⟩ := hr
      cases hv'
      obtain ⟨b, off, e, _, hb, hcell⟩ := hc (fun e => by rw [e] at hnz; simp at hnz; omega)
      exact ⟨b, off, e, fun W hF i hi => (hF.cell (p := ⟨b, off + i, none⟩) hb (fun e => e)).trans (hcell i (by omega))⟩
    have hw := HW.out ()
    rw [HE.out.2.1, HE.out.2.2, ← hS, ← hnz] at hw
    have HW' : Hid (Unit → _) := fun (_ : Unit) => hw
    rw [← hnz] at HO
    rw [HE.out.1, ← hnz]
    have HZ : Hid (∀ z ∈ zs, Wt z) := hz
    have HN : Hid (n = zs.length ∧ S = zs.sum) := ⟨hnz, hS⟩
    have hSp : 0 < S := by omega
    have hn' : n ≤ 4096 := by omega
    have hSb : S ≤ 4398046511104 := by
      have := (sum_bounds zs hz).2
      rw [← hS, ← hnz] at this
      have : (n : Int) * 1073741824 ≤ 4096 * 1073741824 := by omega
      omega
    clear hr hw HW hS hnz hz h0 hS0 hn he hb
    obtain ⟨Q, hQ⟩ : ∃ Q, T * S = Q := ⟨_, rfl⟩
    have hQ0 : 0 ≤ Q := by rw [← hQ]; exact Int.mul_nonneg (by omega) (by omega)
    have hQ1 : Q ≤ S * 65536 := by rw [← hQ, Int.mul_comm T S]; exact Int.mul_le_mul_of_nonneg_left (by omega) (by omega)
    have HQ : Hid (T * S = Q) := hQ
    go_enter Try.func13, Try.ntmps13
    go_wp2_with fail
    refine (HW'.out ()).mono ?_
    rintro e w1 ⟨rfl, hw1⟩
    have hw2 := hw1.symm
    subst hw2
    clear hw1 HW'
    go_wp2_with fail
    refine (HO.out ()).mono ?_
    rintro e w1 ⟨o, b, rfl, hO, hb, hA, hF⟩
    obtain ⟨co, hco⟩ : ∃ co, co = n := ⟨_, rfl⟩
    have hcn : n ≤ co := by omega
    have hrw : Rw (fun b => w.heap.size ≤ b) w1 (.slice (some ⟨b, 0, none⟩) n co) (upI o) := by
      have h := rw_of_at hA co (by rw [upI_length, hO.length]; omega) (upI_i64 hO (by omega))
      rw [upI_length, hO.length] at h
      exact h.mono (fun k hk => by rw [hk]; exact hb)
    have hcells : ∀ k, (h : k < o.length) → w1.cell? ⟨b, k, none⟩ = some (zV (o[k] : Nat)) := fun k h => by rw [hA.cell, upI_get, List.getElem?_eq_getElem h]; rfl
    rw [show (Value.slice (some ⟨b, 0, none⟩) n n) = .slice (some ⟨b, 0, none⟩) n co by rw [hco]]
    clear hA hb hco
    have HOr : Hid (IsOrd (fun i => zs.getD i 0) n o) := hO
    have HB : Hid (Fresh w w1) := hF
    have HRw : Hid (∀ m, m ≤ n → Rw (fun b => w.heap.size ≤ b) w1 (.slice (some ⟨b, 0, none⟩) m co) ((upI o).take m)) := fun m hm => hrw.take m hm
    have HCo : Hid (∀ k, (h : k < o.length) → w1.cell? ⟨b, k, none⟩ = some (zV (o[k] : Nat))) := hcells
    clear hO hF hrw hcells HO
    go_wp2
    go_loopw [9, 10] (fun cv sv wr => ∃ k : Nat, k ≤ n ∧ cv = zV k ∧ sv = zV (oSum zs o k) ∧ Hid (∀ i, i < k → oSum zs o i * 65536 < Q) ∧ wr = w1) (fun cv _ _ => n - (RowKit.intOf cv).toNat)
    case atStart => exact ⟨0, Nat.zero_le _, rfl, rfl, (fun i hi => by omega : ∀ i, i < 0 → oSum zs o i * 65536 < Q), rfl⟩
    case round =>
      obtain ⟨k, hk, rfl, rfl, HK, hwr⟩ := hrel
      have hwr2 := hwr.symm
      subst hwr2
      clear hwr
      have hbd := oSum_bounds (by rw [← HN.out.1]; exact HOr.out) HZ.out k
      have hlt4 : ((o.take k).length : Int) * 1073741824 ≤ 4096 * 1073741824 := by
        have : (o.take k).length ≤ 4096 := by rw [List.length_take, HOr.out.length]; omega
        omega
      have HAll : Hid (oSum zs o n = S) := by
        have := oSum_all (zs := zs) (o := o) (by rw [← HN.out.1]; exact HOr.out)
        rw [← HN.out.1, ← HN.out.2] at this
        exact this
      by_cases ht : oSum zs o k * 65536 < Q
      · have hkn : k < n := by
          rcases Nat.lt_or_ge k n with e | e
          · exact e
          · have e2 : k = n := by omega
            rw [e2, HAll.out] at ht
            omega
        obtain ⟨lb, off, rfl, hcell⟩ := HC.out (by omega)
        have hko : k < o.length := by rw [HOr.out.length]; exact hkn
        have hp : o[k] < n := HOr.out.lt (List.getElem_mem hko)
        have c1 := HCo.out k hko
        have c2 := hcell _ HB.out o[k] hp
        have HS1 : Hid (oSum zs o (k + 1) = oSum zs o k + zs.getD o[k] 0) := oSum_succ zs o k hko
        have HK1 : Hid (∀ i, i < k + 1 → oSum zs o i * 65536 < Q) := fun i hi => by
          rcases Nat.lt_or_ge i k with e | e
          · exact HK.out i e
          · obtain rfl : i = k := by omega
            exact ht
        have hwt : Wt (zs.getD o[k] 0) := HZ.out _ (by rw [HN.out.1] at hp; rw [List.getD_eq_getElem?_getD, List.getElem?_eq_getElem hp]; exact List.getElem_mem hp)
        obtain ⟨x0, x1⟩ := hwt
        have hp' : ((o[k] : Nat) : Int) < (n : Int) := by omega
        have hk' : (k : Int) < (n : Int) := by omega
        clear hcell HK HAll
        generalize zs.getD o[k] 0 = x at *
        generalize o[k] = p at *
        generalize oSum zs o k = A at *
        generalize (o.take k).length = tl at *
        go_wp2
        go_roundw
        case rel => exact ⟨k + 1, hkn, by go_num, by rw [HS1.out], HK1.out, trivial⟩
        case measure => simp [RowKit.intOf]; omega
      · have HP : Hid (NuIs zs T ((upI o).take k) ∧ Rw (fun b => w.heap.size ≤ b) w1 (.slice (some ⟨b, 0, none⟩) k co) ((upI o).take k) ∧ Fresh w w1) := by
          refine ⟨.inr ⟨HE.out.1, o, k, by rw [← HN.out.1]; exact HOr.out, ?_, ?_, rfl⟩, HRw.out k hk, HB.out⟩
          · rw [← HN.out.2, HQ.out]; exact HK.out
          · rw [← HN.out.2, HQ.out]; exact ht
        have hk' : (k : Int) ≤ (co : Int) := by omega
        clear HK HAll HRw HCo HOr
        generalize oSum zs o k = A at *
        generalize (o.take k).length = tl at *
        go_wp2
        go_ret2
        exact ⟨_, rfl, _, HP.out.1, HP.out.2.1, HP.out.2.2⟩
  · have HE : Hid (nE zs T = wE zs ∧ NuIs zs T [] ∧ wS zs = 0) := ⟨nE_ok (by omega) (by omega), .inl ⟨by rw [nE_ok (by omega) (by omega)]; exact he, rfl⟩, wS_bad he⟩
    obtain ⟨ao, cap, rfl, _⟩ := hr
    have he' : (wE zs == 0) = false := by simp [he]
    go_enter Try.func13, Try.ntmps13
    go_wp2_with fail
    refine (HW.out ()).mono ?_
    rintro e w1 ⟨rfl, rfl⟩
    go_wp2
    go_ret2
    exact ⟨_, by rw [HE.out.1]; rfl, [], HE.out.2.1, HEm.out _ _ rfl, Kept.refl _ _⟩

set_option maxHeartbeats 1000000 in
set_option maxRecDepth 100000 in
theorem refNucleus_any (p : Nat → Prop) (rv : Value) (zs : List Int) (T : Int) (w : World) (hr : Rw p w rv zs) (_hT : I64 T) :
    Calls Try.prog 12 #[rv, zV T] w fun e w' => ∃ v, e = .returned (.tuple #[v, zV (nE zs T)]) ∧ ∃ L, NuIs zs T L ∧ Rw (fun b => w.heap.size ≤ b) w' v L ∧ Fresh w w' := by
  have HEm : Hid (∀ w : World, ∀ v, v = (.slice (some ⟨w.heap.size, 0, none⟩) 0 0) → Rw (fun b => w.heap.size ≤ b) (w.alloc (.cells #[] 3)) v []) := fun w v hv => by
    subst hv
    exact ⟨_, 0, rfl, by simp, fun h => absurd rfl h, by simp, fun e => by cases e⟩
  by_cases hb : T < 1 ∨ 65536 < T
  · have HE : Hid (nE zs T = 1 ∧ NuIs zs T []) := ⟨nE_bad hb, .inl ⟨by rw [nE_bad hb]; omega, rfl⟩⟩
    obtain ⟨ao, cap, rfl, _⟩ := hr
    by_cases h1 : T < 1
    · clear hb
      go_enter Try.func12, Try.ntmps12
      go_wp2
      go_ret2
      exact ⟨_, by rw [HE.out.1]; rfl, [], HE.out.2, HEm.out w _ rfl, (Kept.refl _ _).alloc _⟩
    · have h2 : 65536 < T := by omega
      clear hb
      go_enter Try.func12, Try.ntmps12
      go_wp2
      go_ret2
      exact ⟨_, by rw [HE.out.1]; rfl, [], HE.out.2, HEm.out w _ rfl, (Kept.refl _ _).alloc _⟩
  have h1 : ¬ T < 1 := by omega
  have h2 : ¬ 65536 < T := by omega
  have HW : Hid (Unit → _) := fun (_ : Unit) => refSum_any _ rv zs w hr
  by_cases he : wE zs = 0
  · obtain ⟨hn, hz, h0, hS0⟩ := wE_zero he
    have HE : Hid (nE zs T = 0 ∧ wS zs = zs.sum ∧ wE zs = 0) := ⟨by rw [nE_ok (by omega) (by omega), he], wS_ok he, he⟩
    obtain ⟨S, hS⟩ : ∃ S, S = zs.sum := ⟨_, rfl⟩
    obtain ⟨n, hnz⟩ : ∃ n, n = zs.length := ⟨_, rfl⟩
    have HO : Hid (Unit → _) := fun (_ : Unit) => refOrder_any _ rv zs w hr
    obtain ⟨ao, cap, hv, _⟩ := id hr
    subst hv
    have HC : Hid (0 < n → ∃ b off, ao = some ⟨b, off, none⟩ ∧ ∀ W, Fresh w W → ∀ i, i < n → W.cell? ⟨b, off + i, none⟩ = some (zV (zs.getD i 0))) := fun h0 => by
      obtain ⟨ao', cap', hv', _, hc, _⟩ := hr
      cases hv'
      obtain ⟨b, off, e, _, hb, hcell⟩ := hc (fun e => by rw [e] at hnz; simp at hnz; omega)
      exact ⟨b, off, e, fun W hF i hi => (hF.cell (p := ⟨b, off + i, none⟩) hb (fun e => e)).trans (hcell i (by omega))⟩
    have hw := HW.out ()
    rw [HE.out.2.1, HE.out.2.2, ← hS, ← hnz] at hw
    have HW' : Hid (Unit → _) := fun (_ : Unit) => hw
    rw [← hnz] at HO
    rw [HE.out.1, ← hnz]
    have HZ : Hid (∀ z ∈ zs, Wt z) := hz
    have HN : Hid (n = zs.length ∧ S = zs.sum) := ⟨hnz, hS⟩
    have hSp : 0 < S := by omega
    have hn' : n ≤ 4096 := by omega
    have hSb : S ≤ 4398046511104 := by
      have := (sum_bounds zs hz).2
      rw [← hS, ← hnz] at this
      have : (n : Int) * 1073741824 ≤ 4096 * 1073741824 := by omega
      omega
    clear hr hw HW hS hnz hz h0 hS0 hn he hb
    obtain ⟨Q, hQ⟩ : ∃ Q, T * S = Q := ⟨_, rfl⟩
    have hQ0 : 0 ≤ Q := by rw [← hQ]; exact Int.mul_nonneg (by omega) (by omega)
    have hQ1 : Q ≤ S * 65536 := by rw [← hQ, Int.mul_comm T S]; exact Int.mul_le_mul_of_nonneg_left (by omega) (by omega)
    have HQ : Hid (T * S = Q) := hQ
    go_enter Try.func12, Try.ntmps12
    go_wp2_with fail
    refine (HW'.out ()).mono ?_
    rintro e w1 ⟨rfl, hw1⟩
    have hw2 := hw1.symm
    subst hw2
    clear hw1 HW'
    go_wp2_with fail
    refine (HO.out ()).mono ?_
    rintro e w1 ⟨o, ov, rfl, hO, hA, hF⟩
    have hn0 : 0 < n := by
      rcases Nat.eq_zero_or_pos n with e | e
      · have h3 := HN.out.1
        rw [e] at h3
        have h4 : zs = [] := List.eq_nil_of_length_eq_zero h3.symm
        have h5 := HN.out.2
        rw [h4] at h5
        simp at h5
        omega
      · exact e
    obtain ⟨b, co, rfl, hb, hcn⟩ : ∃ b co, ov = .slice (some ⟨b, 0, none⟩) n co ∧ w.heap.size ≤ b ∧ n ≤ co := by
      rcases hA.2 with ⟨_, e⟩ | ⟨g', cap', cur, hv, hb, hh, hc, _⟩
      · omega
      · exact ⟨g', cap', hv, hb, hc⟩
    have hlu : (upI o).length = n := by rw [upI_length, hO.length]
    have hrw : Rw (fun b => w.heap.size ≤ b) w1 (.slice (some ⟨b, 0, none⟩) n co) (upI o) := by
      have h := rw_of_own (zs := upI o) (by rw [hlu]; exact hA) (by rw [hlu]; omega) (upI_i64 hO (by omega))
      exact h.mono (fun k hk => hk.1)
    have hcells : ∀ k, (h : k < o.length) → w1.cell? ⟨b, k, none⟩ = some (zV (o[k] : Nat)) := fun k h => by rw [hA.cellAt k (by rw [← hlu, upI_length]; omega), List.getElem?_map, upI_get, List.getElem?_eq_getElem h]; rfl
    clear hA hb hlu hn0
    have HOr : Hid (IsOrd (fun i => zs.getD i 0) n o) := hO
    have HB : Hid (Fresh w w1) := hF
    have HRw : Hid (∀ m, m ≤ n → Rw (fun b => w.heap.size ≤ b) w1 (.slice (some ⟨b, 0, none⟩) m co) ((upI o).take m)) := fun m hm => hrw.take m hm
    have HCo : Hid (∀ k, (h : k < o.length) → w1.cell? ⟨b, k, none⟩ = some (zV (o[k] : Nat))) := hcells
    clear hO hF hrw hcells HO
    go_wp2
    go_loopw [9, 10] (fun cv sv wr => ∃ k : Nat, k ≤ n ∧ cv = zV k ∧ sv = zV (oSum zs o k) ∧ Hid (∀ i, i < k → oSum zs o i * 65536 < Q) ∧ wr = w1) (fun cv _ _ => n - (RowKit.intOf cv).toNat)
    case atStart => exact ⟨0, Nat.zero_le _, rfl, rfl, (fun i hi => by omega : ∀ i, i < 0 → oSum zs o i * 65536 < Q), rfl⟩
    case round =>
      obtain ⟨k, hk, rfl, rfl, HK, hwr⟩ := hrel
      have hwr2 := hwr.symm
      subst hwr2
      clear hwr
      have hbd := oSum_bounds (by rw [← HN.out.1]; exact HOr.out) HZ.out k
      have hlt4 : ((o.take k).length : Int) * 1073741824 ≤ 4096 * 1073741824 := by
        have : (o.take k).length ≤ 4096 := by rw [List.length_take, HOr.out.length]; omega
        omega
      have HAll : Hid (oSum zs o n = S) := by
        have := oSum_all (zs := zs) (o := o) (by rw [← HN.out.1]; exact HOr.out)
        rw [← HN.out.1, ← HN.out.2] at this
        exact this
      by_cases ht : oSum zs o k * 65536 < Q
      · have hkn : k < n := by
          rcases Nat.lt_or_ge k n with e | e
          · exact e
          · have e2 : k = n := by omega
            rw [e2, HAll.out] at ht
            omega
        obtain ⟨lb, off, rfl, hcell⟩ := HC.out (by omega)
        have hko : k < o.length := by rw [HOr.out.length]; exact hkn
        have hp : o[k] < n := HOr.out.lt (List.getElem_mem hko)
        have c1 := HCo.out k hko
        have c2 := hcell _ HB.out o[k] hp
        have HS1 : Hid (oSum zs o (k + 1) = oSum zs o k + zs.getD o[k] 0) := oSum_succ zs o k hko
        have HK1 : Hid (∀ i, i < k + 1 → oSum zs o i * 65536 < Q) := fun i hi => by
          rcases Nat.lt_or_ge i k with e | e
          · exact HK.out i e
          · obtain rfl : i = k := by omega
            exact ht
        have hwt : Wt (zs.getD o[k] 0) := HZ.out _ (by rw [HN.out.1] at hp; rw [List.getD_eq_getElem?_getD, List.getElem?_eq_getElem hp]; exact List.getElem_mem hp)
        obtain ⟨x0, x1⟩ := hwt
        have hp' : ((o[k] : Nat) : Int) < (n : Int) := by omega
        have hk' : (k : Int) < (n : Int) := by omega
        clear hcell HK HAll
        generalize zs.getD o[k] 0 = x at *
        generalize o[k] = p at *
        generalize oSum zs o k = A at *
        generalize (o.take k).length = tl at *
        go_wp2
        go_roundw
        case rel => exact ⟨k + 1, hkn, by go_num, by rw [HS1.out], HK1.out, trivial⟩
        case measure => simp [RowKit.intOf]; omega
      · have HP : Hid (NuIs zs T ((upI o).take k) ∧ Rw (fun b => w.heap.size ≤ b) w1 (.slice (some ⟨b, 0, none⟩) k co) ((upI o).take k) ∧ Fresh w w1) := by
          refine ⟨.inr ⟨HE.out.1, o, k, by rw [← HN.out.1]; exact HOr.out, ?_, ?_, rfl⟩, HRw.out k hk, HB.out⟩
          · rw [← HN.out.2, HQ.out]; exact HK.out
          · rw [← HN.out.2, HQ.out]; exact ht
        have hk' : (k : Int) ≤ (co : Int) := by omega
        clear HK HAll HRw HCo HOr
        generalize oSum zs o k = A at *
        generalize (o.take k).length = tl at *
        go_wp2
        go_ret2
        exact ⟨_, rfl, _, HP.out.1, HP.out.2.1, HP.out.2.2⟩
  · have HE : Hid (nE zs T = wE zs ∧ NuIs zs T [] ∧ wS zs = 0) := ⟨nE_ok (by omega) (by omega), .inl ⟨by rw [nE_ok (by omega) (by omega)]; exact he, rfl⟩, wS_bad he⟩
    obtain ⟨ao, cap, rfl, _⟩ := hr
    have he' : (wE zs == 0) = false := by simp [he]
    go_enter Try.func12, Try.ntmps12
    go_wp2_with fail
    refine (HW.out ()).mono ?_
    rintro e w1 ⟨rfl, rfl⟩
    go_wp2
    go_ret2
    exact ⟨_, by rw [HE.out.1]; rfl, [], HE.out.2.1, HEm.out _ _ rfl, (Kept.refl _ _).alloc _⟩
end Go.Proofs.Ytgemkmpepnaoiab
