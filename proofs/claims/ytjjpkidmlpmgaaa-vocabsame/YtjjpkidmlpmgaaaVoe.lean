/-
  A row on its way in memory: its blocks, what they hold, what a store makes of them.
-/
import Derived.Test.YtjjpkidmlpmgaaaVod
namespace Go.Proofs.Ytjjpkidmlpmgaaa
open Go.RowKit Go.Lib Go.Maps

/-- A row of merges in a block that p allows. -/
def MgR (p : Nat → Prop) (W : World) (v : Value) (M : List Mg) : Prop :=
  ∃ ao cap, v = .slice ao M.length cap ∧ (ao = none → cap = 0) ∧ M.length ≤ cap ∧ (∀ i, i < M.length → I64 (gM M i).l ∧ I64 (gM M i).r ∧ I64 (gM M i).o) ∧
    (0 < M.length → ∃ b off, ao = some ⟨b, off, none⟩ ∧ p b ∧ b < W.heap.size ∧ ∀ i, i < M.length → W.cell? ⟨b, off + i * 3, none⟩ = some (zV (gM M i).l) ∧ W.cell? ⟨b, off + i * 3 + 1, none⟩ = some (zV (gM M i).r) ∧ W.cell? ⟨b, off + i * 3 + 2, none⟩ = some (zV (gM M i).o))
theorem MgR.kept {p : Nat → Prop} {S : Nat → Prop} {W W' : World} {v : Value} {M : List Mg} (h : MgR p W v M) (hk : Kept S W W') (hn : ∀ b, p b → ¬ S b) : MgR p W' v M := by
  obtain ⟨ao, cap, h1, h2, h3, h4, h5⟩ := h
  refine ⟨ao, cap, h1, h2, h3, h4, fun h0 => ?_⟩
  obtain ⟨b, off, ha, hp, hb, hc⟩ := h5 h0
  refine ⟨b, off, ha, hp, Nat.lt_of_lt_of_le hb hk.size, fun i hi => ?_⟩
  obtain ⟨c0, c1, c2⟩ := hc i hi
  exact ⟨(hk.cell (p := ⟨b, off + i * 3, none⟩) hb (hn b hp)).trans c0, (hk.cell (p := ⟨b, off + i * 3 + 1, none⟩) hb (hn b hp)).trans c1, (hk.cell (p := ⟨b, off + i * 3 + 2, none⟩) hb (hn b hp)).trans c2⟩
theorem MgR.shape {p : Nat → Prop} {W : World} {v : Value} {M : List Mg} (h : MgR p W v M) : ∃ ao cap, v = .slice ao M.length cap := by obtain ⟨ao, cap, h1, _⟩ := h; exact ⟨ao, cap, h1⟩

/-- What the map of ranks tells. -/
def lstV : Value → List Value
  | .agg c => c.toList
  | _ => []
def rkV (M : List Mg) (k : Nat) (v : Value) : Option Int := match lstV v with
  | [.int .i64 a, .int .i64 b] => (rkT M k a b).map Int.ofNat
  | _ => none
theorem rkV_pair (M : List Mg) (k : Nat) (a b : Int) : rkV M k (pV a b) = (rkT M k a b).map Int.ofNat := rfl
/-- The blocks of a row on its way. -/
structure Sc where
  cb : Nat
  rb : Nat
  tb : Nat
  ab : Nat
  nb : Nat
  wb : Nat
  mb : Nat
abbrev sl (b n : Nat) : Value := .slice (some ⟨b, 0, none⟩) n n
/-- A coder, told as a row of cells. -/
abbrev CO (s : Sc) (A : List Int) (mv : Value) (k : Nat) : Rr := ⟨82, sl s.cb 259, A.map zV ++ [mv, .map (some s.mb), sl s.wb k]⟩
abbrev RO (s : Sc) (n : Nat) : Rr := ⟨89, sl s.rb 4, [.pointer (some ⟨s.cb, 0, none⟩), sl s.tb n, sl s.ab n, sl s.nb n]⟩
abbrev hps (us : List Value) (W : List (List Int)) : List Rr := rws .i64 3 us (gW W)
abbrev all6 (s : Sc) (A : List Int) (mv : Value) (k n : Nat) (us : List Value) (R : Ro) (ex : List Rr) : List Rr := CO s A mv k :: RO s n :: RI (sl s.tb n) R.t :: RI (sl s.ab n) R.a :: RI (sl s.nb n) R.n :: RH s.wb k k us :: (hps us R.w ++ ex)
/-- A row on its way: all that lies in memory of its own, and the merges. -/
structure RwSt (B : Nat) (X : World) (s : Sc) (A : List Int) (M : List Mg) (mv : Value) (n : Nat) (us : List Value) (R : Ro) (ex : List Rr) : Prop where
  rs : Rs B X (all6 s A mv M.length n us R ex)
  km : KM 77 X s.mb M.length (rkV M M.length)
  mg : MgR (fun b => b < B) X mv M
  bA : A.length = 256
  bt : R.t.length = n
  ba : R.a.length = n
  bn : R.n.length = n
  bu : us.length = M.length
  bw : R.w.length = M.length
  le : B ≤ X.heap.size
  geM : B ≤ s.mb
  okT : ∀ z ∈ R.t, I64 z
theorem Rs.drop {B : Nat} {X : World} {l : List Rr} (h : Rs B X l) {m : List Rr} (hs : m.Sublist l) : Rs B X m := ⟨fun r hr => h.own r (hs.subset hr), h.nd.sublist hs⟩
section
variable {B : Nat} {X : World} {s : Sc} {A : List Int} {M : List Mg} {mv : Value} {n : Nat} {us : List Value} {R : Ro} {ex : List Rr}
theorem RwSt.coder (h : RwSt B X s A M mv n us R ex) : Rs B X [CO s A mv M.length] := h.rs.drop (by simp)
theorem RwSt.row (h : RwSt B X s A M mv n us R ex) : Rs B X [RO s n] := h.rs.drop (by simp)
theorem RwSt.tok (h : RwSt B X s A M mv n us R ex) : Rs B X [RI (sl s.tb n) R.t] := h.rs.drop (by simp)
theorem RwSt.ahd (h : RwSt B X s A M mv n us R ex) : Rs B X [RI (sl s.ab n) R.a] := h.rs.drop (by simp)
theorem RwSt.nxt (h : RwSt B X s A M mv n us R ex) : Rs B X [RI (sl s.nb n) R.n] := h.rs.drop (by simp)
theorem RwSt.wai (h : RwSt B X s A M mv n us R ex) : Rs B X [RH s.wb M.length M.length us] := h.rs.drop (by simp)
theorem RwSt.cR (h : RwSt B X s A M mv n us R ex) : X.cell? ⟨s.rb, 0, none⟩ = some (.pointer (some ⟨s.cb, 0, none⟩)) ∧ X.cell? ⟨s.rb, 1, none⟩ = some (sl s.tb n) ∧ X.cell? ⟨s.rb, 2, none⟩ = some (sl s.ab n) ∧ X.cell? ⟨s.rb, 3, none⟩ = some (sl s.nb n) := by
  have g := fun i hi => h.row.geV rfl i hi
  exact ⟨g 0 (by omega), g 1 (by omega), g 2 (by omega), g 3 (by omega)⟩
theorem co_get (h : A.length = 256) (x y z : Value) : (A.map zV ++ [x, y, z]).getD 256 nilV = x ∧ (A.map zV ++ [x, y, z]).getD 257 nilV = y ∧ (A.map zV ++ [x, y, z]).getD 258 nilV = z := by
  simp only [List.getD_eq_getElem?_getD]
  rw [List.getElem?_append_right (by simp [h]), List.getElem?_append_right (by simp [h]), List.getElem?_append_right (by simp [h])]
  simp [h]
theorem RwSt.cC (h : RwSt B X s A M mv n us R ex) : X.cell? ⟨s.cb, 256, none⟩ = some mv ∧ X.cell? ⟨s.cb, 257, none⟩ = some (.map (some s.mb)) ∧ X.cell? ⟨s.cb, 258, none⟩ = some (sl s.wb M.length) := by
  have hl : (A.map zV ++ [mv, .map (some s.mb), sl s.wb M.length]).length = 259 := by simp [h.bA]
  have g := fun i hi => h.coder.geV hl i hi
  obtain ⟨e1, e2, e3⟩ := co_get h.bA mv (.map (some s.mb)) (sl s.wb M.length)
  have g1 := g 256 (by omega)
  have g2 := g 257 (by omega)
  have g3 := g 258 (by omega)
  rw [e1] at g1
  rw [e2] at g2
  rw [e3] at g3
  exact ⟨g1, g2, g3⟩
theorem RwSt.cA (h : RwSt B X s A M mv n us R ex) {i : Nat} (hi : i < 256) : X.cell? ⟨s.cb, i, none⟩ = some (zV (gI A i)) := by
  have hl : (A.map zV ++ [mv, .map (some s.mb), sl s.wb M.length]).length = 259 := by simp [h.bA]
  have hiA : i < A.length := by rw [h.bA]; exact hi
  rw [h.coder.geV hl i (by omega), List.getD_eq_getElem?_getD, List.getElem?_append_left (by simpa using hiA), List.getElem?_map, List.getElem?_eq_getElem hiA]
  show some (zV A[i]) = some (zV (A.getD i 0))
  rw [getD_getElem hiA]
theorem RwSt.drewN (h : RwSt B X s A M mv n us R ex) (d : Nat) : RwSt B (X.drewN d) s A M mv n us R ex :=
  ⟨h.rs.drewN d, h.km.kept (kept_drewN (fun _ => False) X d) (fun e => e), h.mg.kept (kept_drewN (fun _ => False) X d) (fun _ _ e => e), h.bA, h.bt, h.ba, h.bn, h.bu, h.bw, h.le, h.geM, h.okT⟩
theorem RwSt.alloc (h : RwSt B X s A M mv n us R ex) (o : Obj) : RwSt B (X.alloc o) s A M mv n us R ex :=
  have hk : Fresh X (X.alloc o) := (Kept.refl _ X).alloc o
  ⟨h.rs.fresh hk, h.km.kept hk (fun e => e), h.mg.kept hk (fun _ _ e => e), h.bA, h.bt, h.ba, h.bn, h.bu, h.bw, Nat.le_trans h.le hk.size, h.geM, h.okT⟩
/-- A map lies in no block of cells. -/
theorem RwSt.mb_ne (h : RwSt B X s A M mv n us R ex) {r : Rr} (hr : r ∈ all6 s A mv M.length n us R ex) {k : Nat} (hk : r.v.ownBlock = some k) : k ≠ s.mb := fun e => by
  obtain ⟨es, clock, hm⟩ := h.km.isMap
  rcases (h.rs.own r hr).2 with ⟨e', _⟩ | ⟨g, cap, cur, hv, hb, hh, _⟩
  · rw [e'] at hk; simp [Value.ownBlock] at hk
  · rw [hv] at hk
    simp [Value.ownBlock] at hk
    rw [hk, e, hm] at hh
    cases hh
/-- Behind a turn of one of the rows. -/
theorem RwSt.turned {X' : World} {us' : List Value} {R' : Ro} (h : RwSt B X s A M mv n us R ex) {S : Nat → Prop} (hk : Kept S X X') (hS : ∀ k, S k → B ≤ k ∧ k ≠ s.mb) (hrs : Rs B X' (all6 s A mv M.length n us' R' ex)) (bt : R'.t.length = n) (ba : R'.a.length = n) (bn : R'.n.length = n) (bu : us'.length = M.length) (bw : R'.w.length = M.length) (ok : ∀ z ∈ R'.t, I64 z) : RwSt B X' s A M mv n us' R' ex :=
  ⟨hrs, h.km.kept hk (fun e => (hS _ e).2 rfl), h.mg.kept hk (fun b hb e => by have := (hS _ e).1; omega), h.bA, bt, ba, bn, bu, bw, Nat.le_trans h.le hk.size, h.geM, ok⟩
theorem perm3 {α : Type} (a b c : α) (l : List α) : (a :: b :: c :: l).Perm (c :: a :: b :: l) := ((List.Perm.swap c b l).cons a).trans (List.Perm.swap c a _)
theorem perm4 {α : Type} (a b c d : α) (l : List α) : (a :: b :: c :: d :: l).Perm (d :: a :: b :: c :: l) := ((perm3 b c d l).cons a).trans (List.Perm.swap d a _)
theorem perm5 {α : Type} (a b c d e : α) (l : List α) : (a :: b :: c :: d :: e :: l).Perm (e :: a :: b :: c :: d :: l) := ((perm4 b c d e l).cons a).trans (List.Perm.swap e a _)
theorem perm6 {α : Type} (a b c d e f : α) (l : List α) : (a :: b :: c :: d :: e :: f :: l).Perm (f :: a :: b :: c :: d :: e :: l) := ((perm5 b c d e f l).cons a).trans (List.Perm.swap f a _)
theorem mem_set_or {l : List Int} {i : Nat} {x : Int} {P : Int → Prop} (h : ∀ z ∈ l, P z) (hx : P x) : ∀ z ∈ l.set i x, P z := fun z hz => by
  rcases List.mem_or_eq_of_mem_set hz with e | e
  · exact h z e
  · rw [e]; exact hx
/-- A token is stored. -/
theorem RwSt.setT (h : RwSt B X s A M mv n us R ex) (i : Nat) (x : Int) (hx : I64 x) : RwSt B (X.setCell ⟨s.tb, i, none⟩ (zV x)) s A M mv n us { R with t := R.t.set i x } ex := by
  have h1 := (h.rs.perm (perm3 _ _ _ _)).seI h.bt i x
  have hne := h.mb_ne (r := RI (sl s.tb n) R.t) (by simp) (k := s.tb) rfl
  have hge := (h.tok.ge).1
  exact h.turned ((Kept.refl (fun k => k = s.tb) X).setCell (p := ⟨s.tb, i, none⟩) (fun _ => rfl) _) (fun k e => by rw [e]; exact ⟨hge, hne⟩) (h1.perm (perm3 _ _ _ _).symm) (by simpa using h.bt) h.ba h.bn h.bu h.bw (mem_set_or h.okT hx)
theorem RwSt.setA (h : RwSt B X s A M mv n us R ex) (i : Nat) (x : Int) : RwSt B (X.setCell ⟨s.ab, i, none⟩ (zV x)) s A M mv n us { R with a := R.a.set i x } ex := by
  have h1 := (h.rs.perm (perm4 _ _ _ _ _)).seI h.ba i x
  have hne := h.mb_ne (r := RI (sl s.ab n) R.a) (by simp) (k := s.ab) rfl
  have hge := (h.ahd.ge).1
  exact h.turned ((Kept.refl (fun k => k = s.ab) X).setCell (p := ⟨s.ab, i, none⟩) (fun _ => rfl) _) (fun k e => by rw [e]; exact ⟨hge, hne⟩) (h1.perm (perm4 _ _ _ _ _).symm) h.bt (by simpa using h.ba) h.bn h.bu h.bw h.okT
theorem RwSt.setN (h : RwSt B X s A M mv n us R ex) (i : Nat) (x : Int) : RwSt B (X.setCell ⟨s.nb, i, none⟩ (zV x)) s A M mv n us { R with n := R.n.set i x } ex := by
  have h1 := (h.rs.perm (perm5 _ _ _ _ _ _)).seI h.bn i x
  have hne := h.mb_ne (r := RI (sl s.nb n) R.n) (by simp) (k := s.nb) rfl
  have hge := (h.nxt.ge).1
  exact h.turned ((Kept.refl (fun k => k = s.nb) X).setCell (p := ⟨s.nb, i, none⟩) (fun _ => rfl) _) (fun k e => by rw [e]; exact ⟨hge, hne⟩) (h1.perm (perm5 _ _ _ _ _ _).symm) h.bt h.ba (by simpa using h.bn) h.bu h.bw h.okT
theorem rws_set2 {us : List Value} {W : List (List Int)} {p : Nat} (hp : p < us.length) (hw : W.length = us.length) (u : Value) (x : List Int) : (hps us W).set p (RI u x) = hps (us.set p u) (W.set p x) := by
  apply List.ext_getElem
  · simp [rws]
  · intro i h1 h2
    have hi : i < us.length := by simpa [rws] using h2
    rw [rws_get (by simpa using hi), List.getElem_set]
    split
    · rename_i e
      subst e
      simp only [List.getD_eq_getElem?_getD]
      rw [List.getElem?_set_self hp, List.getElem?_set_self (by omega)]
      rfl
    · rename_i e'
      rw [rws_get hi]
      simp only [List.getD_eq_getElem?_getD]
      rw [List.getElem?_set_ne e', List.getElem?_set_ne e']
/-- The waiting row and one of the heaps ahead; and back, whatever became of both. -/
theorem all6_front (p : Nat) (hp : p < us.length) (hw : R.w.length = us.length) (k : Nat) : ∃ l, (all6 s A mv k n us R ex).Perm (RH s.wb k k us :: RI (us.getD p nilV) (gW R.w p) :: l) ∧
    ∀ (u : Value) (x : List Int), (RH s.wb k k (us.set p u) :: RI u x :: l).Perm (all6 s A mv k n (us.set p u) { R with w := R.w.set p x } ex) := by
  have hl : p < (hps us R.w).length := by rw [rws_len]; exact hp
  have h1 := perm_at2 (hps us R.w) p hl
  rw [rws_get hp] at h1
  have hmid : ∀ (y : Rr) (l : List Rr), (CO s A mv k :: RO s n :: RI (sl s.tb n) R.t :: RI (sl s.ab n) R.a :: RI (sl s.nb n) R.n :: y :: l).Perm (y :: l ++ [CO s A mv k, RO s n, RI (sl s.tb n) R.t, RI (sl s.ab n) R.a, RI (sl s.nb n) R.n]) := fun y l =>
    List.perm_append_comm (l₁ := [CO s A mv k, RO s n, RI (sl s.tb n) R.t, RI (sl s.ab n) R.a, RI (sl s.nb n) R.n]) (l₂ := y :: l)
  refine ⟨((hps us R.w).eraseIdx p ++ ex) ++ [CO s A mv k, RO s n, RI (sl s.tb n) R.t, RI (sl s.ab n) R.a, RI (sl s.nb n) R.n], ?_, fun u x => ?_⟩
  · exact (hmid _ _).trans (List.Perm.cons _ ((h1.append_right _).append_right _))
  · have hl2 : p < ((hps us R.w).set p (RI u x)).length := by simpa using hl
    have h2 := perm_at2 ((hps us R.w).set p (RI u x)) p hl2
    rw [List.getElem_set_self, List.eraseIdx_set_eq, rws_set2 hp hw] at h2
    refine List.Perm.trans (List.Perm.cons _ ((h2.symm.append_right _).append_right _)) (hmid _ _).symm
/-- A new block of cells besides. -/
theorem RwSt.add (h : RwSt B X s A M mv n us R ex) (T : TypeId) (c : Array Value) (hc : c.size ≤ 1000) : RwSt B (X.alloc (.cells c T)) s A M mv n us R (⟨T, sl X.heap.size c.size, c.toList⟩ :: ex) := by
  have h' := h.alloc (.cells c T)
  have hr : Rr.At X.heap.size (X.alloc (.cells c T)) ⟨T, sl X.heap.size c.size, c.toList⟩ := by
    unfold Rr.At
    refine ⟨by simp, .inr ⟨X.heap.size, c.size, c, by simp, Nat.le_refl _, heap_alloc_new X _, by simp, by unfold maxLen; omega, by simp, by simp; exact List.take_of_length_le (by simp)⟩⟩
  have h1 := Rs.made h.rs ((Kept.refl _ X).alloc _) h.le hr
  refine ⟨h1.perm ?_, h'.km, h'.mg, h'.bA, h'.bt, h'.ba, h'.bn, h'.bu, h'.bw, h'.le, h'.geM, h'.okT⟩
  have := List.perm_middle (a := (⟨T, sl X.heap.size c.size, c.toList⟩ : Rr)) (l₁ := CO s A mv M.length :: RO s n :: RI (sl s.tb n) R.t :: RI (sl s.ab n) R.a :: RI (sl s.nb n) R.n :: RH s.wb M.length M.length us :: hps us R.w) (l₂ := ex)
  simp only [List.cons_append] at this
  exact this.symm
theorem RwSt.less {r : Rr} (h : RwSt B X s A M mv n us R (r :: ex)) : RwSt B X s A M mv n us R ex :=
  ⟨h.rs.drop (by simp), h.km, h.mg, h.bA, h.bt, h.ba, h.bn, h.bu, h.bw, h.le, h.geM, h.okT⟩
theorem RwSt.extra {r : Rr} (h : RwSt B X s A M mv n us R (r :: ex)) : Rs B X [r] := h.rs.drop (by simp)
end
end Go.Proofs.Ytjjpkidmlpmgaaa
