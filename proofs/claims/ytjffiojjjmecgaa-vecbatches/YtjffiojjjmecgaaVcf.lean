/-
  Row, the package's and the document's; the document's Times.
-/
import Derived.Test.YtjffiojjjmecgaaVce
import Derived.Lib.SliceRun
namespace Go.Proofs.Ytjffiojjjmecgaa
open Go.RowKit Go.Lib Go.Maps

set_option maxHeartbeats 1000000 in
set_option maxRecDepth 100000 in
theorem Clone8_any (p : Nat → Prop) (b off n cap : Nat) (zs : List Int) (w : World) (h : Rk .i8 p w (.slice (some ⟨b, off, none⟩) n cap) zs) :
    Calls Try.prog 40 #[.slice (some ⟨b, off, none⟩) n cap] w fun e w' => ∃ v, e = .returned v ∧ w'.ownsRow w.heap.size 49 1 v zs.length (zs.map (Value.int .i8)) ∧ Fresh w w' := by
  have hF : Fresh w (w.alloc (.cells #[] 49)) := (Kept.refl _ w).alloc _
  obtain ⟨t1, W1, h1, h2, h3⟩ := twin ty8 22 (w.alloc (.cells #[] 49)) w.heap.size _ [] (own_empty w _ (Nat.le_refl _) _) hF.size _ zs _ (h.fresh hF) (by have := h.len; simpa using this)
  have HO : Hid (W1.ownsRow w.heap.size 49 1 t1 zs.length (zs.map (Value.int .i8)) ∧ Fresh w W1) := by
    simp only [List.length_nil, Nat.zero_add, List.nil_append] at h2
    exact ⟨h2, hF.grown h3 (fun k hk e => by simp [Value.ownBlock] at e; omega)⟩
  have he : ∀ W : World, Sem.run Try.prog (binOp .eql 22 (.slice (some ⟨b, off, none⟩) n cap) (.slice none 0 0)) W = .ok (.bool false) W := fun W => Lib.run_eql_slice_nil W _ _ _ _ _ 0 0 Try.underlying22
  clear h2 h3 h hF
  go_enter Try.func40, Try.ntmps40
  go_wp2_with (at_builtin; refine Lib.wpList_append_run _ rfl _ _ _ _ rfl _ _ rfl rfl _ _ h1 ?_)
  go_ret
  exact ⟨_, rfl, HO.out.1, HO.out.2⟩

/-- What Row answers. -/
def rE (w : List Int) (c i : Int) : Int := if mE w c ≠ 0 then mE w c else if i < 0 ∨ (mR w c : Int) ≤ i then 1 else 0
def rL (w : List Int) (c i : Int) : List Int := if rE w c i = 0 then part w c.toNat i.toNat else []
theorem rE_bad {w : List Int} {c : Int} (i : Int) (h : mE w c ≠ 0) : rE w c i = mE w c := if_pos h
theorem rE_else {w : List Int} {c i : Int} (h : mE w c = 0) (hi : i < 0 ∨ (mR w c : Int) ≤ i) : rE w c i = 1 := by unfold rE; rw [if_neg (by rw [h]; simp), if_pos hi]
theorem rE_ok {w : List Int} {c i : Int} (h : mE w c = 0) (hi : ¬ (i < 0 ∨ (mR w c : Int) ≤ i)) : rE w c i = 0 := by unfold rE; rw [if_neg (by rw [h]; simp), if_neg hi]
theorem rL_bad {w : List Int} {c i : Int} (h : rE w c i ≠ 0) : rL w c i = [] := if_neg h
theorem rL_mem {w : List Int} {c i z : Int} (h : z ∈ rL w c i) : z ∈ w := by
  unfold rL at h
  split at h
  · exact part_mem h
  · cases h
theorem rL_len (w : List Int) (c i : Int) : (rL w c i).length ≤ w.length := by
  unfold rL
  split
  · unfold part; rw [List.length_take, List.length_drop]; omega
  · simp

set_option maxHeartbeats 2000000 in
set_option maxRecDepth 100000 in
theorem Row_any (p : Nat → Prop) (wv : Value) (zs : List Int) (c i : Int) (w : World) (hw : Rk .i8 p w wv zs) (hi : I64 i) :
    Calls Try.prog 21 #[wv, zV c, zV i] w fun e w' => Gives .i8 49 (rL zs c i) (rE zs c i) w e w' := by
  obtain ⟨ao, ac, hva, _⟩ := hw.shape
  subst hva
  have hrows := rowsOf_any ao ac zs c w
  have HG : Hid (∀ (E : Int), Gives .i8 49 [] E w (.returned (.tuple #[.slice none 0 0, zV E])) w) := fun E => Gives.none _ _ _ _
  by_cases h0 : mE zs c = 0
  · obtain ⟨hm, k, R, rfl, hk, hR⟩ := mE_zero h0
    have hmR := (mE_ok hm hk hR).2
    rw [h0, hmR] at hrows
    have HR : Hid (Unit → _) := fun (_ : Unit) => hrows
    by_cases hl : i < 0
    · have HE : Hid (rE zs k i = 1 ∧ rL zs k i = []) := ⟨rE_else h0 (.inl hl), rL_bad (by rw [rE_else h0 (.inl hl)]; omega)⟩
      rw [HE.out.1, HE.out.2]
      clear hrows hw hR h0 hmR
      go_enter Try.func21, Try.ntmps21
      go_wp2_with fail
      refine (HR.out ()).mono ?_
      rintro e w1 ⟨rfl, hw1⟩
      have hw2 := hw1.symm
      subst hw2
      clear hw1 HR
      go_wp2
      go_ret2
      exact HG.out _
    by_cases hl2 : (R : Int) ≤ i
    · have HE : Hid (rE zs k i = 1 ∧ rL zs k i = []) := ⟨rE_else h0 (.inr (by rw [hmR]; exact hl2)), rL_bad (by rw [rE_else h0 (.inr (by rw [hmR]; exact hl2))]; omega)⟩
      rw [HE.out.1, HE.out.2]
      have hl' : decide (i < 0) = false := by simp; omega
      clear hrows hw hR h0 hmR
      go_enter Try.func21, Try.ntmps21
      go_wp2_with fail
      refine (HR.out ()).mono ?_
      rintro e w1 ⟨rfl, hw1⟩
      have hw2 := hw1.symm
      subst hw2
      clear hw1 HR
      go_wp2
      go_ret2
      exact HG.out _
    · obtain ⟨r, rfl⟩ := Int.eq_ofNat_of_zero_le (show 0 ≤ i by omega)
      have hr : r < R := by omega
      have HE : Hid (rE zs k r = 0 ∧ rL zs k r = part zs k r ∧ (part zs k r).length = k) := by
        have e := rE_ok (i := (r : Int)) h0 (by rw [hmR]; omega)
        exact ⟨e, by unfold rL; rw [if_pos e]; rfl, part_length hR hr⟩
      have hrk : (r + 1) * k ≤ R * k := Nat.mul_le_mul_right k hr
      rw [Nat.add_mul, Nat.one_mul] at hrk
      obtain ⟨b, off, rfl, _⟩ := hw.cells.2.2.2 (by omega)
      have hcap := hw.cells.2.1
      have hcut := hw.cut (r * k) k (by omega)
      rw [drop_part] at hcut
      have HC : Hid (Unit → _) := fun (_ : Unit) => Clone8_any p _ _ _ _ _ w hcut
      obtain ⟨n, hn⟩ : ∃ n, zs.length = n := ⟨_, rfl⟩
      obtain ⟨m, hmm⟩ : ∃ m, r * k = m := ⟨_, rfl⟩
      have e1 : ((r : Int) * (k : Int)) = (m : Int) := by rw [← hmm, Int.natCast_mul]
      have e2 : (((r : Int) + 1) * (k : Int)) = (m : Int) + (k : Int) := by rw [Int.add_mul, Int.one_mul, e1]
      have hmn : m + k ≤ n := by omega
      have hnn : n ≤ 1048576 := by omega
      have hrm : r ≤ m := by rw [← hmm]; exact Nat.le_mul_of_pos_right _ hk
      have hnc : n ≤ ac := by omega
      rw [hmm] at HC
      rw [hn]
      rw [hn] at HR
      have hcm : ¬ ac = m := by omega
      have hmn' : (m : Int) + (k : Int) ≤ (ac : Int) := by omega
      clear hrows hw hR h0 hmR hcut hrk hcap hn hmm hm
      go_enter Try.func21, Try.ntmps21
      go_wp2_with fail
      refine (HR.out ()).mono ?_
      rintro e w1 ⟨rfl, hw1⟩
      have hw2 := hw1.symm
      subst hw2
      clear hw1 HR
      go_wp2_with fail
      refine (HC.out ()).mono ?_
      rintro e w2 ⟨v, rfl, ho, hF⟩
      have HX : Hid (Gives .i8 49 (rL zs k r) (rE zs k r) w (.returned (.tuple #[v, zV 0])) w2) := ⟨_, by rw [HE.out.1], by rw [HE.out.2.1]; exact ho, hF⟩
      clear ho hF HC
      go_wp2
      go_ret2
      exact HX.out
  · have HE : Hid (rE zs c i = mE zs c ∧ rL zs c i = []) := ⟨rE_bad _ h0, rL_bad (by rw [rE_bad _ h0]; exact h0)⟩
    rw [HE.out.1, HE.out.2]
    have HR : Hid (Unit → _) := fun (_ : Unit) => hrows
    have h0' : (mE zs c == 0) = false := by simp [h0]
    clear hrows hw
    go_enter Try.func21, Try.ntmps21
    go_wp2_with fail
    refine (HR.out ()).mono ?_
    rintro e w1 ⟨rfl, hw1⟩
    have hw2 := hw1.symm
    subst hw2
    clear hw1 HR
    go_wp2
    go_ret2
    exact HG.out _

set_option maxHeartbeats 2000000 in
set_option maxRecDepth 100000 in
theorem refRow_any (p : Nat → Prop) (wv : Value) (zs : List Int) (c i : Int) (w : World) (hw : Rk .i8 p w wv zs) (hi : I64 i) :
    Calls Try.prog 22 #[wv, zV c, zV i] w fun e w' => ∃ v, e = .returned (.tuple #[v, zV (rE zs c i)]) ∧ Rk .i8 p w v (rL zs c i) ∧ w' = w := by
  obtain ⟨ao, ac, hva, _⟩ := hw.shape
  subst hva
  have hrows := Matrix_any ao ac zs c w
  have HG : Hid (Rk .i8 p w (.slice none 0 0) []) := ⟨none, 0, rfl, by simp, fun e => absurd rfl e, by simp, fun _ => rfl, Nat.le_refl _⟩
  by_cases h0 : mE zs c = 0
  · obtain ⟨hm, k, R, rfl, hk, hR⟩ := mE_zero h0
    have hmR := (mE_ok hm hk hR).2
    rw [h0] at hrows
    have HR : Hid (Unit → _) := fun (_ : Unit) => hrows
    have h5 : ¬ (k : Int) = 0 := by omega
    have h7 : (zs.length : Int) / k = R := by rw [hR, Int.natCast_mul]; exact Int.mul_ediv_cancel _ h5
    have h8 : R ≤ zs.length := by rw [hR]; exact Nat.le_mul_of_pos_right _ hk
    by_cases hl : i < 0
    · have HE : Hid (rE zs k i = 1 ∧ rL zs k i = []) := ⟨rE_else h0 (.inl hl), rL_bad (by rw [rE_else h0 (.inl hl)]; omega)⟩
      rw [HE.out.1, HE.out.2]
      clear hrows hw hR h0 hmR
      go_enter Try.func22, Try.ntmps22
      go_wp2_with fail
      refine (HR.out ()).mono ?_
      rintro e w1 ⟨rfl, hw1⟩
      have hw2 := hw1.symm
      subst hw2
      clear hw1 HR
      go_wp2
      go_ret2
      exact ⟨_, rfl, HG.out, rfl⟩
    by_cases hl2 : (R : Int) ≤ i
    · have HE : Hid (rE zs k i = 1 ∧ rL zs k i = []) := ⟨rE_else h0 (.inr (by rw [hmR]; exact hl2)), rL_bad (by rw [rE_else h0 (.inr (by rw [hmR]; exact hl2))]; omega)⟩
      rw [HE.out.1, HE.out.2]
      have hl' : decide (i < 0) = false := by simp; omega
      clear hrows hw hR h0 hmR
      go_enter Try.func22, Try.ntmps22
      go_wp2_with fail
      refine (HR.out ()).mono ?_
      rintro e w1 ⟨rfl, hw1⟩
      have hw2 := hw1.symm
      subst hw2
      clear hw1 HR
      go_wp2
      go_ret2
      exact ⟨_, rfl, HG.out, rfl⟩
    · obtain ⟨r, rfl⟩ := Int.eq_ofNat_of_zero_le (show 0 ≤ i by omega)
      have hr : r < R := by omega
      have hrk : (r + 1) * k ≤ R * k := Nat.mul_le_mul_right k hr
      rw [Nat.add_mul, Nat.one_mul] at hrk
      obtain ⟨b, off, rfl, _⟩ := hw.cells.2.2.2 (by omega)
      have hcap := hw.cells.2.1
      have hcut := hw.cut (r * k) k (by omega)
      have HE : Hid (rE zs k r = 0 ∧ rL zs k r = part zs k r) := by
        have e := rE_ok (i := (r : Int)) h0 (by rw [hmR]; omega)
        exact ⟨e, by unfold rL; rw [if_pos e]; rfl⟩
      obtain ⟨n, hn⟩ : ∃ n, zs.length = n := ⟨_, rfl⟩
      obtain ⟨m, hmm⟩ : ∃ m, r * k = m := ⟨_, rfl⟩
      have e1 : ((r : Int) * (k : Int)) = (m : Int) := by rw [← hmm, Int.natCast_mul]
      have hmn : m + k ≤ n := by omega
      have hnn : n ≤ 1048576 := by omega
      have hrm : r ≤ m := by rw [← hmm]; exact Nat.le_mul_of_pos_right _ hk
      have hnc : n ≤ ac := by omega
      have HC : Hid (Rk .i8 p w (.slice (some ⟨b, off + m, none⟩) (m + k - m) (ac - m)) (part zs k r)) := by rw [Nat.add_sub_cancel_left, ← hmm]; exact hcut
      rw [hn]
      rw [hn] at HR h7 h8
      have hcm : ¬ ac = m := by omega
      have hmn' : (m : Int) + (k : Int) ≤ (ac : Int) := by omega
      rw [HE.out.1, HE.out.2]
      clear hrows hw hR h0 hmR hcut hrk hcap hn hmm hm
      go_enter Try.func22, Try.ntmps22
      go_wp2_with fail
      refine (HR.out ()).mono ?_
      rintro e w1 ⟨rfl, hw1⟩
      have hw2 := hw1.symm
      subst hw2
      clear hw1 HR
      go_wp2
      go_ret2
      exact ⟨_, rfl, HC.out, rfl⟩
  · have HE : Hid (rE zs c i = mE zs c ∧ rL zs c i = []) := ⟨rE_bad _ h0, rL_bad (by rw [rE_bad _ h0]; exact h0)⟩
    rw [HE.out.1, HE.out.2]
    have HR : Hid (Unit → _) := fun (_ : Unit) => hrows
    have h0' : (mE zs c == 0) = false := by simp [h0]
    clear hrows hw
    go_enter Try.func22, Try.ntmps22
    go_wp2_with fail
    refine (HR.out ()).mono ?_
    rintro e w1 ⟨rfl, hw1⟩
    have hw2 := hw1.symm
    subst hw2
    clear hw1 HR
    go_wp2
    go_ret2
    exact ⟨_, rfl, HG.out, rfl⟩
end Go.Proofs.Ytjffiojjjmecgaa
