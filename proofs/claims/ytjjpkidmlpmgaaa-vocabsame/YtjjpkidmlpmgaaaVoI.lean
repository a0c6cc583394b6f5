/-
  What stays true of a row on its way.
-/
import Derived.Test.YtjjpkidmlpmgaaaVoh
namespace Go.Proofs.Ytjjpkidmlpmgaaa
open Go.RowKit Go.Lib Go.Maps

/-- Merges of tokens other than the end. -/
def Mok (M : List Mg) : Prop := ∀ i, i < M.length → 1 ≤ (gM M i).l ∧ 1 ≤ (gM M i).r ∧ 1 ≤ (gM M i).o
theorem rkT_some {M : List Mg} : ∀ {k : Nat} {a b : Int} {i : Nat}, rkT M k a b = some i → (gM M i).l = a ∧ (gM M i).r = b
  | 0, _, _, _, h => by simp [rkT] at h
  | k + 1, a, b, i, h => by
    unfold rkT at h
    split at h
    · rename_i e; simp at h; subst h; exact e
    · exact rkT_some h
theorem gI_mem {L : List Int} {i : Nat} (h : i < L.length) : gI L i ∈ L := by rw [gI, getD_getElem h]; exact List.getElem_mem _
theorem gI_set {L : List Int} {i j : Nat} {x : Int} : gI (L.set i x) j = if i = j ∧ j < L.length then x else gI L j := by
  unfold gI
  rw [List.getD_eq_getElem?_getD, List.getElem?_set]
  split
  · rename_i e
    subst e
    split
    · rename_i h; rw [if_pos ⟨rfl, h⟩]; rfl
    · rename_i h; rw [if_neg (fun e => h e.2), List.getD_eq_getElem?_getD, List.getElem?_eq_none (by omega)]
  · rename_i e; rw [if_neg (fun h => e h.1), List.getD_eq_getElem?_getD]
theorem dnF_in : ∀ (m : Nat) (L : List Int) (i : Nat), ∀ x ∈ dnF m L i, x ∈ L
  | 0, _, _ => fun x h => h
  | m + 1, L, i => fun x h => by
    unfold dnF at h
    split at h
    · exact h
    · rename_i h0
      split at h
      · exact h
      · have e := dnF_in m _ _ x h
        have hg := chd_gt L i
        unfold swp at e
        rcases List.mem_or_eq_of_mem_set e with e | e
        · rcases List.mem_or_eq_of_mem_set e with e | e
          · exact e
          · rw [e]; exact gI_mem (by omega)
        · rw [e]; exact gI_mem (by omega)
theorem tkF_in {L : List Int} (x : Int) (h : x ∈ tkF L) : x ∈ L := by
  unfold tkF at h
  have e := dnF_in _ _ _ x h
  rcases Nat.eq_zero_or_pos L.length with h0 | h0
  · have : L = [] := List.eq_nil_of_length_eq_zero h0
    subst this
    simp at e
  · rcases List.mem_or_eq_of_mem_set (List.mem_of_mem_take e) with e | e
    · exact e
    · rw [e]; exact gI_mem (by omega)
theorem upF_in : ∀ (m : Nat) (L : List Int) (i : Nat), i < L.length → ∀ x ∈ upF m L i, x ∈ L
  | 0, _, _, _ => fun x h => h
  | m + 1, L, i, hi => fun x h => by
    unfold upF at h
    split at h
    · exact h
    · split at h
      · exact h
      · have e := upF_in m _ _ (by rw [swp_len]; omega) x h
        unfold swp at e
        rcases List.mem_or_eq_of_mem_set e with e | e
        · rcases List.mem_or_eq_of_mem_set e with e | e
          · exact e
          · rw [e]; exact gI_mem (by omega)
        · rw [e]; exact gI_mem (by omega)
theorem putF_in {L : List Int} {y x : Int} (h : x ∈ putF L y) : x ∈ L ∨ x = y := by
  unfold putF at h
  have := upF_in _ _ _ (by simp) x h
  simpa using this

/-- What stays true of a row on its way. -/
structure Iv (R : Ro) (n : Nat) : Prop where
  n2 : 2 ≤ n
  bt : R.t.length = n
  ba : R.a.length = n
  bn : R.n.length = n
  t0 : gI R.t 0 = 0
  tn : gI R.t (n - 1) = 0
  nx : ∀ p, p + 1 < n → (p : Int) < gI R.n p ∧ gI R.n p < (n : Int)
  ah : ∀ p, 1 ≤ p → p < n → 0 ≤ gI R.a p ∧ gI R.a p < (p : Int)
  hp : ∀ i, ∀ x ∈ gW R.w i, 1 ≤ x ∧ x + 1 < (n : Int)
theorem Iv.hok {R : Ro} {n : Nat} (h : Iv R n) : Hok R n := fun i x hx => by have := h.hp i x hx; omega
theorem Iv.nok {R : Ro} {n : Nat} (h : Iv R n) : Nok R n := fun p hp => by have := h.nx p hp; omega
theorem Iv.note {M : List Mg} {R : Ro} {n p : Nat} (h : Iv R n) (hM : Mok M) (hp : p + 1 < n) : Iv (nteF M R p) n := by
  obtain ⟨e1, e2, e3, _⟩ := nte_t M R p
  refine ⟨h.n2, by rw [e1]; exact h.bt, by rw [e2]; exact h.ba, by rw [e3]; exact h.bn, by rw [e1]; exact h.t0, by rw [e1]; exact h.tn, by rw [e3]; exact h.nx, by rw [e2]; exact h.ah, ?_⟩
  unfold nteF
  split
  · rename_i i hi
    intro j x hx
    have hx' : x ∈ gW (R.w.set i (putF (gW R.w i) (p : Int))) j := hx
    rw [gW_set] at hx'
    split at hx'
    · rcases putF_in hx' with e | e
      · exact h.hp i x e
      · have h1 := rkT_some hi
        have h2 := hM i (rkT_lt M _ _ _ _ hi)
        have : p ≠ 0 := fun e0 => by
          rw [e0, h.t0] at h1
          omega
        omega
    · exact h.hp j x hx'
  · exact h.hp
theorem fst_same (M : List Mg) (i : Nat) : ∀ (m : Nat) (R : Ro), (fstF M i m R).2.t = R.t ∧ (fstF M i m R).2.a = R.a ∧ (fstF M i m R).2.n = R.n ∧ (fstF M i m R).2.w.length = R.w.length
  | 0, R => ⟨rfl, rfl, rfl, rfl⟩
  | m + 1, R => by
    unfold fstF
    split
    · exact ⟨rfl, rfl, rfl, rfl⟩
    · split
      · exact ⟨rfl, rfl, rfl, by simp⟩
      · obtain ⟨e1, e2, e3, e4⟩ := fst_same M i m { R with w := R.w.set i (tkF (gW R.w i)) }
        exact ⟨e1, e2, e3, by rw [e4]; simp⟩
theorem fst_hp {M : List Mg} {i : Nat} {P : Int → Prop} : ∀ (m : Nat) (R : Ro), (∀ j, ∀ x ∈ gW R.w j, P x) → ∀ j, ∀ x ∈ gW (fstF M i m R).2.w j, P x
  | 0, R, h => h
  | m + 1, R, h => by
    have h' : ∀ j, ∀ x ∈ gW (R.w.set i (tkF (gW R.w i))) j, P x := fun j x hx => by
      rw [gW_set] at hx
      split at hx
      · exact h i x (tkF_in x hx)
      · exact h j x hx
    unfold fstF
    split
    · exact h
    · split
      · exact h'
      · exact fst_hp m _ h'
theorem Hle.first {M : List Mg} {i H : Nat} : ∀ (m : Nat) (R : Ro), Hle R H → Hle (fstF M i m R).2 H
  | 0, R, h => h
  | m + 1, R, h => by
    have h' : Hle { R with w := R.w.set i (tkF (gW R.w i)) } H := h.set (by rw [tkF_len]; have := h i; omega)
    unfold fstF
    split
    · exact h
    · split
      · exact h'
      · exact Hle.first m _ h'
theorem fst_some {M : List Mg} {i : Nat} : ∀ (m : Nat) (R : Ro) (p : Nat), (fstF M i m R).1 = some p → (p : Int) ∈ gW R.w i ∨ (∃ x ∈ gW R.w i, x.toNat = p)
  | 0, R, p, h => by simp [fstF] at h
  | m + 1, R, p, h => by
    unfold fstF at h
    split at h
    · simp at h
    · rename_i x l hL
      split at h
      · simp at h; exact .inr ⟨x, by rw [hL]; exact List.mem_cons_self, h⟩
      · have := fst_some m _ p h
        have hin : ∀ y, y ∈ gW (R.w.set i (tkF (gW R.w i))) i → y ∈ gW R.w i := fun y hy => by
          rw [gW_set] at hy
          split at hy
          · exact tkF_in y hy
          · exact hy
        rcases this with e | ⟨y, hy, e⟩
        · exact .inl (hin _ e)
        · exact .inr ⟨y, hin _ hy, e⟩
theorem fst_fits {M : List Mg} {i : Nat} : ∀ (m : Nat) (R : Ro) (p : Nat), (fstF M i m R).1 = some p → gI R.t p = (gM M i).l ∧ gI R.t (gI R.n p).toNat = (gM M i).r
  | 0, R, p, h => by simp [fstF] at h
  | m + 1, R, p, h => by
    unfold fstF at h
    split at h
    · simp at h
    · split at h
      · rename_i e; simp at h; subst h; exact e
      · exact fst_fits m { R with w := R.w.set i (tkF (gW R.w i)) } p h
theorem Iv.first {M : List Mg} {R : Ro} {n i : Nat} (h : Iv R n) (m : Nat) : Iv (fstF M i m R).2 n := by
  obtain ⟨e1, e2, e3, _⟩ := fst_same M i m R
  exact ⟨h.n2, by rw [e1]; exact h.bt, by rw [e2]; exact h.ba, by rw [e3]; exact h.bn, by rw [e1]; exact h.t0, by rw [e1]; exact h.tn, by rw [e3]; exact h.nx, by rw [e2]; exact h.ah, fst_hp m R h.hp⟩
/-- What is known of a place that first found. -/
structure Fd (M : List Mg) (R : Ro) (n i p q r u : Nat) : Prop where
  p1 : 1 ≤ p
  pn : p + 1 < n
  qe : gI R.n p = (q : Int)
  pq : p < q
  qn : q + 1 < n
  re : gI R.n q = (r : Int)
  qr : q < r
  rn : r < n
  ue : gI (R.a.set r (p : Int)) p = (u : Int)
  un : u + 1 < n
  tp : gI R.t p = (gM M i).l
  tq : gI R.t q = (gM M i).r
theorem Iv.found {M : List Mg} {R : Ro} {n i m p : Nat} (h : Iv R n) (hM : Mok M) (hi : i < M.length) (hf : (fstF M i m R).1 = some p) : Fd M (fstF M i m R).2 n i p (gI R.n p).toNat (gI R.n (gI R.n p).toNat).toNat (gI (R.a.set (gI R.n (gI R.n p).toNat).toNat (p : Int)) p).toNat := by
  obtain ⟨e1, e2, e3, _⟩ := fst_same M i m R
  obtain ⟨f1, f2⟩ := fst_fits m R p hf
  have hm := hM i hi
  have hp : 1 ≤ p ∧ p + 1 < n := by
    rcases fst_some m R p hf with e | ⟨x, hx, e⟩
    · have := h.hp i _ e; omega
    · have := h.hp i _ hx; omega
  obtain ⟨q, hq⟩ : ∃ q : Nat, gI R.n p = (q : Int) := ⟨(gI R.n p).toNat, by have := h.nx p hp.2; omega⟩
  have hq1 := h.nx p hp.2
  rw [hq] at hq1 f2
  rw [hq, Int.toNat_natCast]
  rw [Int.toNat_natCast] at f2
  have hqn : q + 1 < n := by
    rcases Nat.lt_or_ge (q + 1) n with e | e
    · exact e
    · have : q = n - 1 := by omega
      rw [this, h.tn] at f2
      omega
  obtain ⟨r, hr⟩ : ∃ r : Nat, gI R.n q = (r : Int) := ⟨(gI R.n q).toNat, by have := h.nx q hqn; omega⟩
  have hr1 := h.nx q hqn
  rw [hr] at hr1
  rw [hr, Int.toNat_natCast]
  have ha : gI (R.a.set r (p : Int)) p = gI R.a p := by rw [gI_set, if_neg (by omega)]
  have ha1 := h.ah p hp.1 (by omega)
  rw [ha]
  exact ⟨hp.1, hp.2, by rw [e3]; exact hq, by omega, hqn, by rw [e3]; exact hr, by omega, by omega, by rw [e2, ha]; omega, by omega, by rw [e1]; exact f1, by rw [e1]; exact f2⟩
theorem Iv.merged {M : List Mg} {R : Ro} {n i p q r u : Nat} (h : Iv R n) (f : Fd M R n i p q r u) : Iv (apR M R i p q r) n := by
  have hn := h.n2
  refine ⟨h.n2, by simp [apR, h.bt], by simp [apR, h.ba], by simp [apR, h.bn], ?_, ?_, ?_, ?_, h.hp⟩
  · show gI ((R.t.set p _).set q 0) 0 = 0
    rw [gI_set, if_neg (by have := f.pq; omega), gI_set, if_neg (by have := f.p1; omega)]
    exact h.t0
  · show gI ((R.t.set p _).set q 0) (n - 1) = 0
    rw [gI_set, if_neg (by have := f.qn; omega), gI_set, if_neg (by have := f.pn; omega)]
    exact h.tn
  · intro j hj
    show (j : Int) < gI (R.n.set p (r : Int)) j ∧ gI (R.n.set p (r : Int)) j < (n : Int)
    rw [gI_set]
    split
    · rename_i e
      have := f.pq
      have := f.qr
      have := f.rn
      omega
    · exact h.nx j hj
  · intro j h1 h2
    show 0 ≤ gI (R.a.set r (p : Int)) j ∧ gI (R.a.set r (p : Int)) j < (j : Int)
    rw [gI_set]
    split
    · rename_i e
      have := f.pq
      have := f.qr
      omega
    · exact h.ah j h1 h2
/-- How many tokens are left. -/
def nz (L : List Int) : Nat := L.countP (fun z => decide (z ≠ 0))
theorem nz_set {L : List Int} {i : Nat} {x : Int} (hi : i < L.length) : nz (L.set i x) + (if gI L i ≠ 0 then 1 else 0) = nz L + (if x ≠ 0 then 1 else 0) := by
  unfold nz
  rw [List.countP_set hi, gI, getD_getElem hi]
  have hpos : L[i] ≠ 0 → 0 < L.countP (fun z => decide (z ≠ 0)) := fun hne => List.countP_pos_iff.2 ⟨L[i], List.getElem_mem hi, by simpa using hne⟩
  generalize L.countP (fun z => decide (z ≠ 0)) = c at *
  by_cases h1 : L[i] = 0
  · by_cases h2 : x = 0 <;> simp [h1, h2]
  · have := hpos h1
    by_cases h2 : x = 0 <;> simp [h1, h2] <;> omega
theorem Fd.less {M : List Mg} {R : Ro} {n i p q r u : Nat} (f : Fd M R n i p q r u) (h : Iv R n) (hM : Mok M) (hi : i < M.length) : nz (apR M R i p q r).t + 1 = nz R.t := by
  obtain ⟨m1, m2, m3⟩ := hM i hi
  have hp := f.pn
  have hq := f.qn
  have hpq := f.pq
  have e1 := nz_set (L := R.t) (i := p) (x := (gM M i).o) (by rw [h.bt]; omega)
  have e2 := nz_set (L := R.t.set p (gM M i).o) (i := q) (x := 0) (by rw [List.length_set, h.bt]; omega)
  rw [f.tp, if_pos (show (gM M i).l ≠ 0 by omega), if_pos (show (gM M i).o ≠ 0 by omega)] at e1
  rw [show gI (R.t.set p (gM M i).o) q = gI R.t q by rw [gI_set, if_neg (by omega)], f.tq, if_pos (show (gM M i).r ≠ 0 by omega), if_neg (by simp)] at e2
  show nz ((R.t.set p (gM M i).o).set q 0) + 1 = nz R.t
  omega
/-- The merge of the least rank that can be applied, from a rank on. -/
def srcF (M : List Mg) : Nat → Nat → Ro → Option (Nat × Nat) × Ro
  | 0, _, R => (none, R)
  | k + 1, i, R => match fstF M i (gW R.w i).length R with
    | (some p, R') => (some (i, p), R')
    | (none, R') => srcF M k (i + 1) R'
/-- A row behind one merge. -/
def apF (M : List Mg) (R : Ro) (i p : Nat) : Ro :=
  let q := (gI R.n p).toNat
  let r := (gI R.n q).toNat
  let u := (gI (R.a.set r (p : Int)) p).toNat
  nteF M (nteF M (apR M R i p q r) u) p
/-- All merges. -/
def mrF (M : List Mg) : Nat → Ro → Ro
  | 0, R => R
  | f + 1, R => match srcF M M.length 0 R with
    | (some (i, p), R') => mrF M f (apF M R' i p)
    | (none, R') => R'
end Go.Proofs.Ytjjpkidmlpmgaaa
