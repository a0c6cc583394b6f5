/-
  The numbers of layer 7: rows joined, rows put in order by halves, the order of numbers.
-/
namespace Go.Proofs.YtbppahmcjifflaaDoor
/-- Two rows joined: asked whether y is ahead of x, R y x b says that b may be the answer; n counts the pairs of which the one of the second row passed that of the first. -/
def Mj {α : Type} (R : α → α → Bool → Prop) : List α → List α → List α → Nat → Prop
  | a, b, [], n => a = [] ∧ b = [] ∧ n = 0
  | a, b, z :: o, n => (a = [] ∧ b = z :: o ∧ n = 0) ∨ (b = [] ∧ a = z :: o ∧ n = 0) ∨
      (∃ x a' b' m, a = x :: a' ∧ b = z :: b' ∧ R z x true ∧ Mj R (x :: a') b' o m ∧ n = (a'.length + 1) + m) ∨
      (∃ y a' b', a = z :: a' ∧ b = y :: b' ∧ R y z false ∧ Mj R a' (y :: b') o n)
theorem Mj.nilL {α : Type} {R : α → α → Bool → Prop} (b : List α) : Mj R [] b b 0 := by
  cases b with
  | nil => exact ⟨rfl, rfl, rfl⟩
  | cons z o => exact .inl ⟨rfl, rfl, rfl⟩
theorem Mj.nilR {α : Type} {R : α → α → Bool → Prop} (a : List α) : Mj R a [] a 0 := by
  cases a with
  | nil => exact ⟨rfl, rfl, rfl⟩
  | cons z o => exact .inr (.inl ⟨rfl, rfl, rfl⟩)
theorem Mj.back {α : Type} {R : α → α → Bool → Prop} {x y : α} {a b o : List α} {n : Nat} (h : R y x true) (k : Mj R (x :: a) b o n) : Mj R (x :: a) (y :: b) (y :: o) ((a.length + 1) + n) :=
  .inr (.inr (.inl ⟨x, a, b, n, rfl, rfl, h, k, rfl⟩))
theorem Mj.front {α : Type} {R : α → α → Bool → Prop} {x y : α} {a b o : List α} {n : Nat} (h : R y x false) (k : Mj R a (y :: b) o n) : Mj R (x :: a) (y :: b) (x :: o) n :=
  .inr (.inr (.inr ⟨y, a, b, rfl, rfl, h, k⟩))
theorem Mj.elim {α : Type} {R : α → α → Bool → Prop} (M : List α → List α → List α → Nat → Prop) (h1 : ∀ b, M [] b b 0) (h2 : ∀ a, M a [] a 0)
    (h3 : ∀ x y a b o n, R y x true → Mj R (x :: a) b o n → M (x :: a) b o n → M (x :: a) (y :: b) (y :: o) ((a.length + 1) + n))
    (h4 : ∀ x y a b o n, R y x false → Mj R a (y :: b) o n → M a (y :: b) o n → M (x :: a) (y :: b) (x :: o) n) :
    ∀ (o a b : List α) (n : Nat), Mj R a b o n → M a b o n
  | [], a, b, n, h => by
    obtain ⟨rfl, rfl, rfl⟩ := h
    exact h1 []
  | z :: o, a, b, n, h => by
    rcases h with ⟨rfl, rfl, rfl⟩ | ⟨rfl, rfl, rfl⟩ | ⟨x, a', b', m, rfl, rfl, hr, hk, rfl⟩ | ⟨y, a', b', rfl, rfl, hr, hk⟩
    · exact h1 _
    · exact h2 _
    · exact h3 x z a' b' o m hr hk (Mj.elim M h1 h2 h3 h4 o _ _ m hk)
    · exact h4 z y a' b' o n hr hk (Mj.elim M h1 h2 h3 h4 o _ _ n hk)
/-- A row put in order by halves, so many times at most. -/
def ArK {α : Type} (R : α → α → Bool → Prop) : Nat → List α → List α → Nat → Prop
  | 0, l, o, n => l.length / 2 = 0 ∧ o = l ∧ n = 0
  | k + 1, l, o, n => (l.length / 2 = 0 ∧ o = l ∧ n = 0) ∨ (l.length / 2 ≠ 0 ∧ ∃ a b m n' p, ArK R k (l.take (l.length / 2)) a m ∧ ArK R k (l.drop (l.length / 2)) b n' ∧ Mj R a b o p ∧ n = m + n' + p)
theorem ArK.up {α : Type} {R : α → α → Bool → Prop} : ∀ (k : Nat) (l o : List α) (n : Nat), ArK R k l o n → ArK R (k + 1) l o n
  | 0, _, _, _, h => .inl h
  | k + 1, l, o, n, h => by
    rcases h with h | ⟨h0, a, b, m, n', p, h1, h2, h3, h4⟩
    · exact .inl h
    · exact .inr ⟨h0, a, b, m, n', p, ArK.up k _ _ _ h1, ArK.up k _ _ _ h2, h3, h4⟩
theorem ArK.mono {α : Type} {R : α → α → Bool → Prop} {k : Nat} {l o : List α} {n : Nat} (h : ArK R k l o n) : ∀ d, ArK R (k + d) l o n
  | 0 => h
  | d + 1 => ArK.up _ _ _ _ (h.mono d)
/-- A row put in order by halves. -/
def Ar {α : Type} (R : α → α → Bool → Prop) (l o : List α) (n : Nat) : Prop := ∃ k, ArK R k l o n
theorem Ar.small {α : Type} {R : α → α → Bool → Prop} (l : List α) (h : l.length / 2 = 0) : Ar R l l 0 := ⟨0, h, rfl, rfl⟩
theorem Ar.halves {α : Type} {R : α → α → Bool → Prop} {l a b o : List α} {m n p : Nat} (h0 : l.length / 2 ≠ 0) (h1 : Ar R (l.take (l.length / 2)) a m) (h2 : Ar R (l.drop (l.length / 2)) b n) (h3 : Mj R a b o p) : Ar R l o (m + n + p) := by
  obtain ⟨k, h1⟩ := h1
  obtain ⟨d, h2⟩ := h2
  refine ⟨k + d + 1, .inr ⟨h0, a, b, m, n, p, h1.mono d, ?_, h3, rfl⟩⟩
  rw [Nat.add_comm k d]
  exact h2.mono k
theorem Ar.elim {α : Type} {R : α → α → Bool → Prop} (M : List α → List α → Nat → Prop) (h1 : ∀ l : List α, l.length / 2 = 0 → M l l 0)
    (h2 : ∀ (l a b o : List α) (m n p : Nat), l.length / 2 ≠ 0 → Ar R (l.take (l.length / 2)) a m → Ar R (l.drop (l.length / 2)) b n → Mj R a b o p → M (l.take (l.length / 2)) a m → M (l.drop (l.length / 2)) b n → M l o (m + n + p)) {l o : List α} {n : Nat} (h : Ar R l o n) : M l o n := by
  obtain ⟨k, h⟩ := h
  induction k generalizing l o n with
  | zero =>
    obtain ⟨h, rfl, rfl⟩ := h
    exact h1 _ h
  | succ k ih =>
    rcases h with ⟨h, rfl, rfl⟩ | ⟨h0, a, b, m, n', p, ha, hb, h3, rfl⟩
    · exact h1 _ h
    · exact h2 l a b o m n' p h0 ⟨k, ha⟩ ⟨k, hb⟩ h3 (ih ha) (ih hb)

theorem Mj.perm {α : Type} {R : α → α → Bool → Prop} {a b o : List α} {n : Nat} (h : Mj R a b o n) : o.Perm (a ++ b) := by
  refine Mj.elim (fun a b o _ => o.Perm (a ++ b)) (fun b => by simp) (fun a => by simp) (fun x y a b o n _ _ ih => ?_) (fun x y a b o n _ _ ih => ih.cons _) _ _ _ _ h
  exact (ih.cons y).trans (List.perm_middle (a := y) (l₁ := x :: a) (l₂ := b)).symm
theorem Mj.length {α : Type} {R : α → α → Bool → Prop} {a b o : List α} {n : Nat} (h : Mj R a b o n) : o.length = a.length + b.length := by
  rw [h.perm.length_eq, List.length_append]
theorem Ar.perm {α : Type} {R : α → α → Bool → Prop} {l o : List α} {n : Nat} (h : Ar R l o n) : o.Perm l := by
  refine Ar.elim (fun l o _ => o.Perm l) (fun l _ => List.Perm.refl _) (fun l a b o m n p _ _ _ hj i1 i2 => ?_) h
  refine hj.perm.trans ((i1.append i2).trans ?_)
  rw [List.take_append_drop]
theorem Ar.length {α : Type} {R : α → α → Bool → Prop} {l o : List α} {n : Nat} (h : Ar R l o n) : o.length = l.length := h.perm.length_eq
/-- The place i stands ahead of j, by numbers g: the greater ahead, of equal ones the lesser place. -/
def Bf (g : Nat → Int) (i j : Nat) : Prop := g j < g i ∨ g i = g j ∧ i < j
theorem Bf.asymm {g : Nat → Int} {i j : Nat} (h : Bf g i j) (k : Bf g j i) : i = j := by
  unfold Bf at h k; omega
/-- The order of n numbers. -/
def IsOrd (g : Nat → Int) (n : Nat) (o : List Nat) : Prop := o.Perm (List.range n) ∧ o.Pairwise (Bf g)
theorem IsOrd.unique {g : Nat → Int} {n : Nat} {o p : List Nat} (h : IsOrd g n o) (k : IsOrd g n p) : o = p :=
  List.Perm.eq_of_pairwise (fun _ _ _ _ h k => h.asymm k) h.2 k.2 (h.1.trans k.1.symm)
theorem IsOrd.length {g : Nat → Int} {n : Nat} {o : List Nat} (h : IsOrd g n o) : o.length = n := by rw [h.1.length_eq, List.length_range]
theorem IsOrd.lt {g : Nat → Int} {n : Nat} {o : List Nat} (h : IsOrd g n o) {i : Nat} (hi : i ∈ o) : i < n := List.mem_range.1 (h.1.mem_iff.1 hi)
theorem IsOrd.nodup {g : Nat → Int} {n : Nat} {o : List Nat} (h : IsOrd g n o) : o.Nodup := h.1.nodup_iff.2 List.nodup_range
theorem IsOrd.mem {g : Nat → Int} {n : Nat} {o : List Nat} (h : IsOrd g n o) {i : Nat} (hi : i < n) : i ∈ o := h.1.mem_iff.2 (List.mem_range.2 hi)

theorem Mj.sorted {g : Nat → Int} {R : Nat → Nat → Bool → Prop} (hR : ∀ i j b, R i j b → b = decide (g j < g i)) {a b o : List Nat} {n : Nat} (h : Mj R a b o n) :
    a.Pairwise (Bf g) → b.Pairwise (Bf g) → (∀ x ∈ a, ∀ y ∈ b, x < y) → o.Pairwise (Bf g) := by
  refine Mj.elim (fun a b o _ => a.Pairwise (Bf g) → b.Pairwise (Bf g) → (∀ x ∈ a, ∀ y ∈ b, x < y) → o.Pairwise (Bf g)) (fun b _ h _ => h) (fun a h _ _ => h) (fun x y a b o n hr hj ih => ?_) (fun x y a b o n hr hj ih => ?_) _ _ _ _ h
  · intro ha hb hl
    have hxy : g x < g y := by have := hR _ _ _ hr; simpa using this.symm
    rw [List.pairwise_cons] at hb ⊢
    refine ⟨fun z hz => ?_, ih ha hb.2 (fun u hu v hv => hl u hu v (List.mem_cons_of_mem _ hv))⟩
    rcases List.mem_append.1 (hj.perm.mem_iff.1 hz) with hz | hz
    · rcases List.mem_cons.1 hz with rfl | hz
      · exact .inl hxy
      · have := (List.pairwise_cons.1 ha).1 z hz
        unfold Bf at this ⊢
        omega
    · exact hb.1 z hz
  · intro ha hb hl
    have hxy : ¬ g x < g y := by have := hR _ _ _ hr; simpa using this.symm
    have hlt := hl x List.mem_cons_self
    rw [List.pairwise_cons] at ha ⊢
    refine ⟨fun z hz => ?_, ih ha.2 hb (fun u hu v hv => hl u (List.mem_cons_of_mem _ hu) v hv)⟩
    rcases List.mem_append.1 (hj.perm.mem_iff.1 hz) with hz | hz
    · exact ha.1 z hz
    · have h2 := hlt z hz
      rcases List.mem_cons.1 hz with rfl | hz'
      · unfold Bf; omega
      · have := (List.pairwise_cons.1 hb).1 z hz'
        unfold Bf at this ⊢
        omega
theorem Ar.sorted {g : Nat → Int} {R : Nat → Nat → Bool → Prop} (hR : ∀ i j b, R i j b → b = decide (g j < g i)) {l o : List Nat} {n : Nat} (h : Ar R l o n) : l.Pairwise (· < ·) → o.Pairwise (Bf g) := by
  refine Ar.elim (fun l o _ => l.Pairwise (· < ·) → o.Pairwise (Bf g)) (fun l hs _ => ?_) (fun l a b o m n p _ ha hb hj i1 i2 => ?_) h
  · match l, hs with
    | [], _ => exact .nil
    | [x], _ => exact List.pairwise_singleton _ _
    | x :: y :: r, hs => simp only [List.length_cons] at hs; omega
  · intro hl
    obtain ⟨u, v, hu, hv, he⟩ : ∃ u v, u = l.take (l.length / 2) ∧ v = l.drop (l.length / 2) ∧ l = u ++ v := ⟨_, _, rfl, rfl, (List.take_append_drop _ _).symm⟩
    rw [← hu] at ha i1
    rw [← hv] at hb i2
    rw [he, List.pairwise_append] at hl
    exact hj.sorted hR (i1 hl.1) (i2 hl.2.1) (fun x hx y hy => hl.2.2 x (ha.perm.mem_iff.1 hx) y (hb.perm.mem_iff.1 hy))
theorem range_rises (n : Nat) : (List.range n).Pairwise (· < ·) := List.pairwise_lt_range
theorem Ar.isOrd {g : Nat → Int} {R : Nat → Nat → Bool → Prop} (hR : ∀ i j b, R i j b → b = decide (g j < g i)) {n m : Nat} {o : List Nat} (h : Ar R (List.range n) o m) : IsOrd g n o :=
  ⟨h.perm, h.sorted hR (range_rises n)⟩
end Go.Proofs.YtbppahmcjifflaaDoor
