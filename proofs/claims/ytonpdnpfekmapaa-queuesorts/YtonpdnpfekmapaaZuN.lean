/-
  A queue's elements as a sorted list, and as a list of runs: numbers only.
-/
import Derived.Test.YtonpdnpfekmapaaQuc
import Derived.Sort.Walk0
namespace Go.Proofs.Ytonpdnpfekmapaa.SI

abbrev KT := ByteArray
open Go.Op in
theorem bl_irr : ∀ x : List UInt8, bytesLess x x = false
  | [] => rfl
  | a :: x => by simp [bytesLess, bl_irr x]
open Go.Op in
theorem bl_trans : ∀ {x y z : List UInt8}, bytesLess x y = true → bytesLess y z = true → bytesLess x z = true
  | _, [], _, h, _ => by cases ‹List UInt8› <;> simp [bytesLess] at h
  | _, _ :: _, [], _, h => by simp [bytesLess] at h
  | [], _ :: _, _ :: _, _, _ => by simp [bytesLess]
  | a :: x, b :: y, c :: z, h1, h2 => by
    simp only [bytesLess, Bool.or_eq_true, decide_eq_true_eq, Bool.and_eq_true, beq_iff_eq] at h1 h2 ⊢
    rcases h1 with h1 | ⟨rfl, h1⟩
    · rcases h2 with h2 | ⟨rfl, _⟩
      · exact .inl (UInt8.lt_trans h1 h2)
      · exact .inl h1
    · rcases h2 with h2 | ⟨rfl, h2⟩
      · exact .inl h2
      · exact .inr ⟨rfl, bl_trans h1 h2⟩
open Go.Op in
theorem bl_tri : ∀ x y : List UInt8, bytesLess x y = true ∨ x = y ∨ bytesLess y x = true
  | [], [] => .inr (.inl rfl)
  | [], _ :: _ => .inl rfl
  | _ :: _, [] => .inr (.inr rfl)
  | a :: x, b :: y => by
    simp only [bytesLess, Bool.or_eq_true, decide_eq_true_eq, Bool.and_eq_true, beq_iff_eq]
    rcases Nat.lt_trichotomy a.toNat b.toNat with h | h | h
    · exact .inl (.inl h)
    · obtain rfl : a = b := UInt8.toNat_inj.1 h
      rcases bl_tri x y with h | rfl | h
      · exact .inl (.inr ⟨rfl, h⟩)
      · exact .inr (.inl rfl)
      · exact .inr (.inr (.inr ⟨rfl, h⟩))
    · exact .inr (.inr (.inl h))
open Go.Op in
theorem bl_asym {x y : List UInt8} (h : bytesLess x y = true) : bytesLess y x = false := by
  cases h2 : bytesLess y x with
  | false => rfl
  | true => have := bl_trans h h2; rw [bl_irr] at this; cases this
/-- How two keys stand. -/
def kc (a b : ByteArray) : Int := if Op.bytesLess a.toList b.toList = true then -1 else if Op.bytesLess b.toList a.toList = true then 1 else 0
theorem kc_self (a : ByteArray) : kc a a = 0 := by unfold kc; simp [bl_irr]
theorem bytes_inj {a b : ByteArray} (h : a.toList = b.toList) : a = b := by
  have h1 : a.data.toList = b.data.toList := by rw [ByteArray.toList_eq, ByteArray.toList_eq] at h; exact h
  have h2 : a.data = b.data := by simpa using h1
  cases a
  cases b
  simpa using h2
theorem kc_eq {a b : ByteArray} (h : kc a b = 0) : a = b := by
  unfold kc at h
  split at h
  · omega
  · split at h
    · omega
    · rename_i h1 h2
      rcases bl_tri a.toList b.toList with h3 | h3 | h3
      · exact absurd h3 h1
      · exact bytes_inj h3
      · exact absurd h3 h2
theorem kc_flip (a b : ByteArray) : kc b a = - kc a b := by
  unfold kc
  split
  · rename_i h
    rw [if_neg (by rw [bl_asym h]; simp)]
  · split <;> rfl
theorem kc_trans {a b c : ByteArray} (h1 : kc a b < 0) (h2 : kc b c < 0) : kc a c < 0 := by
  unfold kc at *
  split at h1
  · rename_i e1
    split at h2
    · rename_i e2
      rw [if_pos (bl_trans e1 e2)]
      omega
    · split at h2 <;> omega
  · split at h1 <;> omega
/-- How two counts stand. -/
def nc (a b : Nat) : Int := if a < b then -1 else if b < a then 1 else 0
theorem nc_self (a : Nat) : nc a a = 0 := by unfold nc; simp
theorem nc_flip (a b : Nat) : nc b a = - nc a b := by
  unfold nc
  split <;> split <;> (try split) <;> omega
theorem nc_neg {a b : Nat} : nc a b < 0 ↔ a < b := by
  unfold nc
  split
  · simp; omega
  · split <;> simp <;> omega

/-- An element: its block, key, value, ticket, arrival. -/
structure El where
  b : Nat
  k : KT
  v : Int
  t : Nat
  a : Nat
/-- How two elements stand. -/
def ord (x y : El) : Int := if kc x.k y.k ≠ 0 then kc x.k y.k else nc x.a y.a
theorem ord_self (x : El) : ord x x = 0 := by unfold ord; rw [kc_self]; simp [nc_self]
theorem ord_flip (x y : El) : ord y x = - ord x y := by
  unfold ord
  rw [kc_flip x.k y.k, nc_flip x.a y.a]
  split <;> split <;> omega
theorem ord_trans {x y z : El} (h1 : ord x y < 0) (h2 : ord y z < 0) : ord x z < 0 := by
  unfold ord at *
  by_cases e1 : kc x.k y.k = 0
  · rw [kc_eq e1]
    rw [if_neg (by simpa using e1)] at h1
    by_cases e2 : kc y.k z.k = 0
    · rw [if_neg (by simpa using e2)] at h2 ⊢
      exact nc_neg.2 (Nat.lt_trans (nc_neg.1 h1) (nc_neg.1 h2))
    · rw [if_pos e2] at h2 ⊢
      exact h2
  · by_cases e2 : kc y.k z.k = 0
    · rw [← kc_eq e2, if_pos e1]
      rw [if_pos e1] at h1
      exact h1
    · rw [if_pos e1] at h1
      rw [if_pos e2] at h2
      have := kc_trans h1 h2
      rw [if_pos (by omega)]
      exact this
/-- Rising, each one below the next. -/
def Sd (l : List El) : Prop := l.Pairwise fun x y => ord x y < 0
theorem Sd.nil : Sd [] := List.Pairwise.nil
theorem Sd.app {a b : List El} : Sd (a ++ b) ↔ Sd a ∧ Sd b ∧ ∀ x ∈ a, ∀ y ∈ b, ord x y < 0 := List.pairwise_append

/-- All of A are below e, none of B is. -/
def Sp (A B : List El) (e : El) : Prop := (∀ x ∈ A, ord x e < 0) ∧ ∀ x ∈ B, 0 ≤ ord x e
/-- Where a list parts at e. -/
def cut (l : List El) (e : El) : Nat := l.countP fun x => decide (ord x e < 0)
theorem cut_le (l : List El) (e : El) : cut l e ≤ l.length := List.countP_le_length
theorem cut_sp {l : List El} (h : Sd l) (e : El) : Sp (l.take (cut l e)) (l.drop (cut l e)) e := by
  induction l with
  | nil => exact ⟨fun x hx => by simp at hx, fun x hx => by simp at hx⟩
  | cons y t ih =>
    have hy := List.pairwise_cons.1 h
    have iht := ih hy.2
    by_cases hlt : ord y e < 0
    · have e1 : cut (y :: t) e = cut t e + 1 := by unfold cut; rw [List.countP_cons_of_pos (by simpa using hlt)]
      rw [e1, List.take_succ_cons, List.drop_succ_cons]
      refine ⟨fun x hx => ?_, iht.2⟩
      rcases List.mem_cons.1 hx with rfl | hx
      · exact hlt
      · exact iht.1 x hx
    · have e1 : cut (y :: t) e = 0 := by
        unfold cut
        rw [List.countP_eq_zero]
        intro x hx hxe
        have hxe' : ord x e < 0 := by simpa using hxe
        rcases List.mem_cons.1 hx with rfl | hx
        · exact hlt hxe'
        · exact hlt (ord_trans (hy.1 x hx) hxe')
      rw [e1]
      refine ⟨fun x hx => by simp at hx, fun x hx => ?_⟩
      simp only [List.drop_zero] at hx
      rcases List.mem_cons.1 hx with rfl | hx
      · omega
      · have h1 := hy.1 x hx
        rcases Int.lt_or_le (ord x e) 0 with h2 | h2
        · exact absurd (ord_trans h1 h2) hlt
        · exact h2
/-- The place where a list parts, place by place. -/
theorem cut_at {l : List El} (h : Sd l) (e : El) (i : Nat) (hi : i < l.length) : (i < cut l e → ord l[i] e < 0) ∧ (cut l e ≤ i → 0 ≤ ord l[i] e) := by
  have hs := cut_sp h e
  constructor
  · intro hl
    exact hs.1 _ (by rw [List.mem_take_iff_getElem]; exact ⟨i, by omega, rfl⟩)
  · intro hl
    exact hs.2 _ (by rw [List.mem_drop_iff_getElem]; exact ⟨i - cut l e, by omega, by simp [show cut l e + (i - cut l e) = i by omega]⟩)
/-- A sorted list parts at e in one way. -/
theorem sp_one {A B A' B' : List El} {e : El} (h : A ++ B = A' ++ B') (h1 : Sp A B e) (h2 : Sp A' B' e) : A = A' ∧ B = B' := by
  have key : ∀ {A B A' B' : List El}, A ++ B = A' ++ B' → Sp A B e → Sp A' B' e → A.length ≤ A'.length := by
    intro A B A' B' h h1 h2
    rcases Nat.lt_or_ge A'.length A.length with hl | hl
    · have hx : (A ++ B)[A'.length]? = some A[A'.length] := by rw [List.getElem?_append_left hl, List.getElem?_eq_getElem hl]
      rw [h, List.getElem?_append_right (Nat.le_refl _), Nat.sub_self] at hx
      have h3 := h2.2 _ (List.mem_of_getElem? hx)
      have h4 := h1.1 _ (List.getElem_mem hl)
      omega
    · exact hl
  exact List.append_inj h (Nat.le_antisymm (key h h1 h2) (key h.symm h2 h1))

/-- A new element, or one that is put anew, leaves the list sorted. -/
theorem Sd.put {A B : List El} {e : El} (h : Sd (A ++ B)) (hs : Sp A B e) (hn : ∀ x ∈ B, x.a ≠ e.a) : Sd (A ++ e :: B) := by
  obtain ⟨h1, h2, h3⟩ := Sd.app.1 h
  have hB : ∀ y ∈ B, ord e y < 0 := fun y hy => by
    have e1 := hs.2 y hy
    rw [ord_flip y e]
    have : ord y e ≠ 0 := fun e0 => by
      unfold ord at e0
      split at e0
      · omega
      · unfold nc at e0
        split at e0
        · omega
        · split at e0
          · omega
          · exact hn y hy (by omega)
    omega
  exact Sd.app.2 ⟨h1, List.pairwise_cons.2 ⟨hB, h2⟩, fun x hx y hy => by
    rcases List.mem_cons.1 hy with rfl | hy
    · exact hs.1 x hx
    · exact h3 x hx y hy⟩
theorem Sd.take {A B : List El} {e : El} (h : Sd (A ++ e :: B)) : Sd (A ++ B) := by
  obtain ⟨h1, h2, h3⟩ := Sd.app.1 h
  exact Sd.app.2 ⟨h1, (List.pairwise_cons.1 h2).2, fun x hx y hy => h3 x hx y (List.mem_cons_of_mem _ hy)⟩
theorem Sd.sp {A B : List El} {e : El} (h : Sd (A ++ e :: B)) : Sp A (e :: B) e := by
  obtain ⟨h1, h2, h3⟩ := Sd.app.1 h
  refine ⟨fun x hx => h3 x hx e List.mem_cons_self, fun x hx => ?_⟩
  rcases List.mem_cons.1 hx with rfl | hx
  · rw [ord_self]; exact Int.le_refl _
  · have := (List.pairwise_cons.1 h2).1 x hx
    rw [ord_flip e x]; omega

/-- Does a run end below e? -/
def lastB (e : El) (r : List El) : Bool := match r.getLast? with
  | some x => decide (ord x e < 0)
  | none => false
/-- The runs whose last element is below e. -/
def rcut (R : List (List El)) (e : El) : Nat := R.countP (lastB e)
theorem rcut_le (R : List (List El)) (e : El) : rcut R e ≤ R.length := List.countP_le_length
theorem lastB_of {e y : El} {r : List El} (h : r.getLast? = some y) : lastB e r = decide (ord y e < 0) := by unfold lastB; rw [h]
theorem rcut_at {R : List (List El)} (h : Sd R.flatten) (hne : ∀ r ∈ R, r ≠ []) (e : El) (i : Nat) (hi : i < R.length) (y : El) (hy : R[i].getLast? = some y) : (i < rcut R e → ord y e < 0) ∧ (rcut R e ≤ i → 0 ≤ ord y e) := by
  induction R generalizing i with
  | nil => simp at hi
  | cons r t ih =>
    rw [List.flatten_cons] at h
    obtain ⟨h1, h2, h3⟩ := Sd.app.1 h
    obtain ⟨z, hz⟩ : ∃ z, r.getLast? = some z := ⟨_, List.getLast?_eq_some_getLast (hne r List.mem_cons_self)⟩
    by_cases hlt : ord z e < 0
    · have e1 : rcut (r :: t) e = rcut t e + 1 := by unfold rcut; rw [List.countP_cons_of_pos (by rw [lastB_of hz]; simpa using hlt)]
      rw [e1]
      cases i with
      | zero =>
        simp only [List.getElem_cons_zero] at hy
        rw [hz] at hy
        obtain rfl := Option.some.inj hy
        exact ⟨fun _ => hlt, fun e2 => by omega⟩
      | succ j =>
        simp only [List.getElem_cons_succ] at hy
        have := ih h2 (fun r hr => hne r (List.mem_cons_of_mem _ hr)) j (by simpa using hi) hy
        exact ⟨fun e2 => this.1 (by omega), fun e2 => this.2 (by omega)⟩
    · have hall : ∀ s ∈ t, ∀ x ∈ s, 0 ≤ ord x e := fun s hs x hx => by
        rcases Int.lt_or_le (ord x e) 0 with h5 | h5
        · exact absurd (ord_trans (h3 z (List.mem_of_getLast? hz) x (List.mem_flatten.2 ⟨s, hs, hx⟩)) h5) hlt
        · exact h5
      have e3 : rcut (r :: t) e = 0 := by
        unfold rcut
        rw [List.countP_eq_zero]
        intro s hs hse
        rcases List.mem_cons.1 hs with rfl | hs
        · rw [lastB_of hz] at hse
          exact hlt (by simpa using hse)
        · obtain ⟨x, hx⟩ : ∃ x, s.getLast? = some x := ⟨_, List.getLast?_eq_some_getLast (hne s (List.mem_cons_of_mem _ hs))⟩
          rw [lastB_of hx] at hse
          have h6 : ord x e < 0 := by simpa using hse
          have := hall s hs x (List.mem_of_getLast? hx)
          omega
      rw [e3]
      refine ⟨fun e2 => absurd e2 (Nat.not_lt_zero _), fun _ => ?_⟩
      cases i with
      | zero =>
        simp only [List.getElem_cons_zero] at hy
        rw [hz] at hy
        obtain rfl := Option.some.inj hy
        omega
      | succ j =>
        simp only [List.getElem_cons_succ] at hy
        exact hall _ (List.getElem_mem (by simpa using hi)) y (List.mem_of_getLast? hy)
/-- Where an element is put: the runs ahead, its run, the runs behind. -/
theorem put_sp {R1 R2 : List (List El)} {r : List El} {e : El} (h : Sd (R1 ++ r :: R2).flatten) (hne : ∀ s ∈ R1 ++ r :: R2, s ≠ []) (hr : R1.length = min (rcut (R1 ++ r :: R2) e) ((R1 ++ r :: R2).length - 1)) :
    Sp (R1.flatten ++ r.take (cut r e)) (r.drop (cut r e) ++ R2.flatten) e := by
  have hfl : (R1 ++ r :: R2).flatten = R1.flatten ++ (r ++ R2.flatten) := by simp
  have h' := h
  rw [hfl] at h'
  obtain ⟨g1, g2, g3⟩ := Sd.app.1 h'
  obtain ⟨g4, g5, g6⟩ := Sd.app.1 g2
  have hs := cut_sp g4 e
  have hlen : (R1 ++ r :: R2).length = R1.length + R2.length + 1 := by simp; omega
  have hrc := rcut_le (R1 ++ r :: R2) e
  constructor
  · intro x hx
    rcases List.mem_append.1 hx with hx | hx
    · obtain ⟨s, hs1, hs2⟩ := List.mem_flatten.1 hx
      obtain ⟨j, hj, rfl⟩ := List.getElem_of_mem hs1
      obtain ⟨z, hz⟩ : ∃ z, R1[j].getLast? = some z := ⟨_, List.getLast?_eq_some_getLast (hne _ (List.mem_append_left _ (List.getElem_mem hj)))⟩
      have h7 := (rcut_at h hne e j (by omega) z (by rw [List.getElem_append_left hj]; exact hz)).1 (by omega)
      obtain ⟨pre, hpre⟩ := List.getLast?_eq_some_iff.1 hz
      have hsd : Sd R1[j] := by
        refine List.Pairwise.sublist ?_ g1
        exact List.sublist_flatten_of_mem (List.getElem_mem hj)
      rw [hpre] at hsd hs2
      rcases List.mem_append.1 hs2 with h8 | h8
      · exact ord_trans ((Sd.app.1 hsd).2.2 x h8 z (by simp)) h7
      · obtain rfl := List.mem_singleton.1 h8
        exact h7
    · exact hs.1 x hx
  · intro x hx
    rcases List.mem_append.1 hx with hx | hx
    · exact hs.2 x hx
    · obtain ⟨z, hz⟩ : ∃ z, r.getLast? = some z := ⟨_, List.getLast?_eq_some_getLast (hne r (by simp))⟩
      by_cases hrl : rcut (R1 ++ r :: R2) e ≤ R1.length
      · have h7 := (rcut_at h hne e R1.length (by omega) z (by rw [List.getElem_append_right (Nat.le_refl _)]; simpa using hz)).2 hrl
        have h8 := g6 z (List.mem_of_getLast? hz) x hx
        rcases Int.lt_or_le (ord x e) 0 with h5 | h5
        · have := ord_trans h8 h5
          omega
        · exact h5
      · have : R2 = [] := by
          apply List.eq_nil_of_length_eq_zero
          omega
        subst this
        simp at hx
/-- An element that is there: the run that it is in is the one that is found. -/
theorem take_at {R1 R2 : List (List El)} {a b : List El} {e : El} (h : Sd (R1 ++ (a ++ e :: b) :: R2).flatten) (hne : ∀ s ∈ R1 ++ (a ++ e :: b) :: R2, s ≠ []) :
    rcut (R1 ++ (a ++ e :: b) :: R2) e = R1.length ∧ cut (a ++ e :: b) e = a.length := by
  have hfl : (R1 ++ (a ++ e :: b) :: R2).flatten = R1.flatten ++ ((a ++ e :: b) ++ R2.flatten) := by simp
  have h' := h
  rw [hfl] at h'
  obtain ⟨g1, g2, g3⟩ := Sd.app.1 h'
  obtain ⟨g4, g5, g6⟩ := Sd.app.1 g2
  have hsp := Sd.sp g4
  constructor
  · have hlen : (R1 ++ (a ++ e :: b) :: R2).length = R1.length + R2.length + 1 := by simp; omega
    obtain ⟨z, hz⟩ : ∃ z, (a ++ e :: b).getLast? = some z := ⟨_, List.getLast?_eq_some_getLast (hne _ (by simp))⟩
    have hze : 0 ≤ ord z e := by
      have hm := List.mem_of_getLast? hz
      rcases List.mem_append.1 hm with hm | hm
      · have : ((a ++ e :: b).getLast?).isSome := by rw [hz]; rfl
        have hz2 : (e :: b).getLast? = some z := by
          rw [List.getLast?_append] at hz
          rw [List.getLast?_eq_some_getLast (l := e :: b) (by simp)] at hz ⊢
          simpa using hz
        exact hsp.2 z (List.mem_of_getLast? hz2)
      · exact hsp.2 z hm
    have h1 := rcut_at h hne e R1.length (by omega) z (by rw [List.getElem_append_right (Nat.le_refl _)]; simpa using hz)
    rcases Nat.lt_trichotomy (rcut (R1 ++ (a ++ e :: b) :: R2) e) R1.length with hlt | heq | hgt
    · exfalso
      obtain ⟨y, hy⟩ : ∃ y, (R1[rcut (R1 ++ (a ++ e :: b) :: R2) e]).getLast? = some y := ⟨_, List.getLast?_eq_some_getLast (hne _ (List.mem_append_left _ (List.getElem_mem hlt)))⟩
      have h2 := (rcut_at h hne e (rcut (R1 ++ (a ++ e :: b) :: R2) e) (by omega) y (by rw [List.getElem_append_left hlt]; exact hy)).2 (Nat.le_refl _)
      have h3 := g3 y (List.mem_flatten.2 ⟨_, List.getElem_mem hlt, List.mem_of_getLast? hy⟩) e (by simp)
      omega
    · exact heq
    · have := h1.1 hgt
      omega
  · have hs := cut_sp g4 e
    have := (sp_one (List.take_append_drop _ _) hs hsp).1
    have h2 := congrArg List.length this
    rw [List.length_take] at h2
    have := cut_le (a ++ e :: b) e
    omega
end Go.Proofs.Ytonpdnpfekmapaa.SI
