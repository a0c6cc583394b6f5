/-
  A text on its way: its row is made.
-/
import Derived.Test.YtjjpkidmlpmgaaaVoj
import Derived.Deep.DeepCutAuto
namespace Go.Proofs.Ytjjpkidmlpmgaaa
open Go.RowKit Go.Lib Go.Maps

/-- A list by a function of places. -/
def fl (n : Nat) (f : Nat → Int) : List Int := (List.range n).map f
theorem fl_len (n : Nat) (f : Nat → Int) : (fl n f).length = n := by simp [fl]
theorem fl_get {n : Nat} {f : Nat → Int} {p : Nat} (h : p < n) : gI (fl n f) p = f p := by
  rw [gI, getD_getElem (by rw [fl_len]; exact h)]; simp [fl]
theorem fl_set {n : Nat} {f g : Nat → Int} {j : Nat} (_hj : j < n) (h : ∀ p, p ≠ j → p < n → f p = g p) : (fl n f).set j (g j) = fl n g := by
  apply List.ext_getElem
  · simp [fl]
  · intro i h1 h2
    have hi : i < n := by simpa [fl] using h2
    rw [List.getElem_set]
    split
    · rename_i e; subst e; simp [fl]
    · rename_i e
      simp only [fl, List.getElem_map, List.getElem_range]
      exact h i (fun e2 => e e2.symm) hi
theorem fl_zero (n : Nat) : fl n (fun _ => 0) = List.replicate n 0 := by
  apply List.ext_getElem
  · simp [fl]
  · intro i h1 h2; simp [fl]
/-- A coder in memory: all that lies in memory of its own, and the merges. -/
structure CoSt (B : Nat) (X : World) (s : Sc) (A : List Int) (M : List Mg) (mv : Value) (us : List Value) (W : List (List Int)) : Prop where
  rs : Rs B X (CO s A mv M.length :: RH s.wb M.length M.length us :: hps us W)
  km : KM 77 X s.mb M.length (rkV M M.length)
  mg : MgR (fun b => b < B) X mv M
  bA : A.length = 256
  bu : us.length = M.length
  bw : W.length = M.length
  le : B ≤ X.heap.size
  geM : B ≤ s.mb
/-- Rows that were made behind a world. -/
theorem Rs.mk4 {B : Nat} {X : World} {l : List Rr} {Z Y : Obj} {r1 r2 r3 r4 : Rr} (h : Rs B X l) (hB : B ≤ X.heap.size)
    (h1 : r1.At X.heap.size (X.alloc Z)) (h2 : r2.At (X.heap.size + 1) ((X.alloc Z).alloc Z)) (h3 : r3.At (X.heap.size + 1 + 1) (((X.alloc Z).alloc Z).alloc Z)) (h4 : r4.At (X.heap.size + 1 + 1 + 1) ((((X.alloc Z).alloc Z).alloc Z).alloc Y)) :
    Rs B ((((X.alloc Z).alloc Z).alloc Z).alloc Y) (r4 :: r3 :: r2 :: r1 :: l) := by
  have e1 := h.made ((Kept.refl _ X).alloc Z) hB h1
  have s1 : (X.alloc Z).heap.size = X.heap.size + 1 := by rw [World.size_alloc]
  have e2 := e1.made ((Kept.refl _ _).alloc Z) (by omega) (by rw [s1]; exact h2)
  have s2 : ((X.alloc Z).alloc Z).heap.size = X.heap.size + 1 + 1 := by rw [World.size_alloc, s1]
  have e3 := e2.made ((Kept.refl _ _).alloc Z) (by omega) (by rw [s2]; exact h3)
  have s3 : (((X.alloc Z).alloc Z).alloc Z).heap.size = X.heap.size + 1 + 1 + 1 := by rw [World.size_alloc, s2]
  exact e3.made ((Kept.refl _ _).alloc Y) (by omega) (by rw [s3]; exact h4)
theorem RwSt.an {B : Nat} {X : World} {s : Sc} {A : List Int} {M : List Mg} {mv : Value} {n : Nat} {us : List Value} {R : Ro} {ex : List Rr} (h : RwSt B X s A M mv n us R ex) : Rs B X [RI (sl s.ab n) R.a, RI (sl s.nb n) R.n] :=
  h.rs.drop (List.Sublist.cons _ (List.Sublist.cons _ (List.Sublist.cons _ (List.Sublist.cons_cons _ (List.Sublist.cons_cons _ (List.nil_sublist _))))))
/-- The token of each byte. -/
def toF (A : List Int) (txt : List UInt8) (j p : Nat) : Int := if 1 ≤ p ∧ p ≤ j then gI A (txt.getD (p - 1) 0).toNat else 0
def ahF (j p : Nat) : Int := if p < j then (p : Int) - 1 else 0
def nxF (j p : Nat) : Int := if p < j then (p : Int) + 1 else 0
/-- A row ahead of all merges, of which nothing waits. -/
def roF (A : List Int) (txt : List UInt8) (n j i : Nat) (W : List (List Int)) : Ro := ⟨fl n (toF A txt j), fl n (ahF i), fl n (nxF i), W⟩
/-- What waits behind the first places. -/
def ntsF (M : List Mg) (R : Ro) : Nat → Ro
  | 0 => R
  | j + 1 => nteF M (ntsF M R j) (j + 1)
abbrev bgF (A : List Int) (txt : List UInt8) (M : List Mg) (W : List (List Int)) : Ro := ntsF M (roF A txt (txt.length + 2) txt.length (txt.length + 2) W) txt.length
theorem nts_iv {M : List Mg} {R : Ro} {n : Nat} (h : Iv R n) (hM : Mok M) : ∀ {j : Nat}, j + 1 < n → Iv (ntsF M R j) n
  | 0, _ => h
  | j + 1, hj => (nts_iv h hM (j := j) (by omega)).note hM hj
theorem nts_H {M : List Mg} {R : Ro} {H : Nat} (h : Hle R H) : ∀ j : Nat, Hle (ntsF M R j) (H + j)
  | 0 => h
  | j + 1 => nte_H (nts_H h j)
theorem nts_t {M : List Mg} {R : Ro} : ∀ j : Nat, (ntsF M R j).t = R.t
  | 0 => rfl
  | j + 1 => (nte_t M (ntsF M R j) (j + 1)).1.trans (nts_t j)
theorem ro_iv (A : List Int) (txt : List UInt8) (W : List (List Int)) (hW : ∀ i, gW W i = []) : Iv (roF A txt (txt.length + 2) txt.length (txt.length + 2) W) (txt.length + 2) := by
  refine ⟨by omega, fl_len _ _, fl_len _ _, fl_len _ _, ?_, ?_, fun p hp => ?_, fun p h1 h2 => ?_, fun i x hx => ?_⟩
  · show gI (fl _ _) 0 = 0
    rw [fl_get (by omega)]
    unfold toF
    rw [if_neg (by omega)]
  · show gI (fl _ _) _ = 0
    rw [fl_get (by omega)]
    unfold toF
    rw [if_neg (by omega)]
  · show (p : Int) < gI (fl _ _) p ∧ gI (fl _ _) p < _
    rw [fl_get (by omega)]
    unfold nxF
    rw [if_pos (by omega)]
    omega
  · show 0 ≤ gI (fl _ _) p ∧ gI (fl _ _) p < _
    rw [fl_get (by omega)]
    unfold ahF
    rw [if_pos (by omega)]
    omega
  · have hx' : x ∈ gW W i := hx
    rw [hW i] at hx'
    simp at hx'
set_option maxHeartbeats 2000000 in
set_option maxRecDepth 100000 in
theorem newRow_any {B : Nat} {X : World} {s : Sc} {A : List Int} {M : List Mg} {mv : Value} {us : List Value} {W : List (List Int)} (h : CoSt B X s A M mv us W) (txt : List UInt8) (hA : ∀ z ∈ A, I64 z) (hM : Mok M) (hW : ∀ i, gW W i = []) (hl : txt.length ≤ 1099511627776) :
    Calls Try.prog 33 #[.pointer (some ⟨s.cb, 0, none⟩), .string ⟨txt.toArray⟩] X fun e X' => ∃ (s' : Sc) (us' : List Value), e = .returned (.pointer (some ⟨s'.rb, 0, none⟩)) ∧ s'.cb = s.cb ∧ s'.wb = s.wb ∧ s'.mb = s.mb ∧ RwSt B X' s' A M mv (txt.length + 2) us' (bgF A txt M W) [] ∧ Up0 B X X' := by
  have hmk : ∀ V : World, (Instr.makeSlice 38 (.int .i64 ((txt.length : Int) + 2)) (.int .i64 ((txt.length : Int) + 2))).run Try.prog V = .ok (.slice (some ⟨V.heap.size, 0, none⟩) (txt.length + 2) (txt.length + 2)) (V.alloc (.cells ((List.replicate (txt.length + 2) (0 : Int)).map (Value.int .i64)).toArray 3)) := fun V => by
    have := run_mk tyI (txt.length + 2) (txt.length + 2) (Nat.le_refl _) (by simp [kb]; omega) V
    rw [show (((txt.length + 2 : Nat)) : Int) = (txt.length : Int) + 2 by omega] at this
    exact this
  have HC := show Hid _ from h
  have HA0 : Hid (∀ z ∈ A, I64 z) := hA
  have HM0 : Hid (Mok M) := hM
  have HW0 : Hid (∀ i, gW W i = []) := hW
  generalize hnn : txt.length + 2 = n at *
  have hZ : ∃ Z, (Obj.cells ((List.replicate n (0 : Int)).map (Value.int .i64)).toArray 3) = Z := ⟨_, rfl⟩
  obtain ⟨Z, hZ⟩ := hZ
  have HAt : Hid (∀ V : World, Rr.At V.heap.size (V.alloc Z) (RI (sl V.heap.size n) (List.replicate n 0))) := fun V => by
    rw [← hZ]
    have := own_made .i64 3 V V.heap.size (Nat.le_refl _) n n (Nat.le_refl _) (by omega)
    unfold Rr.At
    simpa using this
  rw [hZ] at hmk
  have HRow : Hid (∀ tb ab nb : Nat, [tb, ab, nb].Perm [X.heap.size, X.heap.size + 1, X.heap.size + 1 + 1] →
      RwSt B ((((X.alloc Z).alloc Z).alloc Z).alloc (.cells #[.pointer (some ⟨s.cb, 0, none⟩), sl tb n, sl ab n, sl nb n] 89)).drew ⟨s.cb, X.heap.size + 1 + 1 + 1, tb, ab, nb, s.wb, s.mb⟩ A M mv n us (roF A txt n 0 0 W) [] ∧
      Up0 B X ((((X.alloc Z).alloc Z).alloc Z).alloc (.cells #[.pointer (some ⟨s.cb, 0, none⟩), sl tb n, sl ab n, sl nb n] 89)).drew) := fun tb ab nb hp => by
    have s1 : (X.alloc Z).heap.size = X.heap.size + 1 := by rw [World.size_alloc]
    have s2 : ((X.alloc Z).alloc Z).heap.size = X.heap.size + 1 + 1 := by rw [World.size_alloc, s1]
    have s3 : (((X.alloc Z).alloc Z).alloc Z).heap.size = X.heap.size + 1 + 1 + 1 := by rw [World.size_alloc, s2]
    have k1 := HAt.out X
    have k2 := HAt.out (X.alloc Z)
    have k3 := HAt.out ((X.alloc Z).alloc Z)
    rw [s1] at k2
    rw [s2] at k3
    have k4 : Rr.At (X.heap.size + 1 + 1 + 1) ((((X.alloc Z).alloc Z).alloc Z).alloc (.cells #[.pointer (some ⟨s.cb, 0, none⟩), sl tb n, sl ab n, sl nb n] 89)) ⟨89, sl (X.heap.size + 1 + 1 + 1) 4, [.pointer (some ⟨s.cb, 0, none⟩), sl tb n, sl ab n, sl nb n]⟩ := by
      have hh := heap_alloc_new (((X.alloc Z).alloc Z).alloc Z) (.cells #[.pointer (some ⟨s.cb, 0, none⟩), sl tb n, sl ab n, sl nb n] 89)
      rw [s3] at hh
      exact ⟨rfl, .inr ⟨_, 4, _, rfl, Nat.le_refl _, hh, Nat.le_refl _, by unfold maxLen; omega, rfl, rfl⟩⟩
    have e := h.rs.mk4 h.le k1 k2 k3 k4
    have hk : Fresh X ((((X.alloc Z).alloc Z).alloc Z).alloc (.cells #[.pointer (some ⟨s.cb, 0, none⟩), sl tb n, sl ab n, sl nb n] 89)).drew := (((((Kept.refl _ X).alloc Z).alloc Z).alloc Z).alloc _).drew
    have hrev : [tb, ab, nb].Perm [X.heap.size + 1 + 1, X.heap.size + 1, X.heap.size] := hp.trans (List.reverse_perm [X.heap.size, X.heap.size + 1, X.heap.size + 1 + 1]).symm
    have hpm := hrev.map (fun q => RI (sl q n) (List.replicate n 0))
    have hz : fl n (toF A txt 0) = List.replicate n 0 := by
      rw [← fl_zero]; unfold fl; congr 1; funext p; unfold toF; rw [if_neg (by omega)]
    have ha : fl n (ahF 0) = List.replicate n 0 := by
      rw [← fl_zero]; unfold fl; congr 1
    have hn : fl n (nxF 0) = List.replicate n 0 := by
      rw [← fl_zero]; unfold fl; congr 1
    have hlr : (List.replicate n (0 : Int)).length = n := by simp
    refine ⟨⟨?_, h.km.kept hk (fun e => e), h.mg.kept hk (fun _ _ e => e), h.bA, by unfold roF; rw [hz]; exact hlr, by unfold roF; rw [ha]; exact hlr, by unfold roF; rw [hn]; exact hlr, h.bu, h.bw, Nat.le_trans h.le hk.size, h.geM, fun z hz2 => ?_⟩, ?_⟩
    · refine Rs.perm (l := _ :: _ :: _ :: _ :: (CO s A mv M.length :: RH s.wb M.length M.length us :: hps us W)) (e.fresh (kept_drewN _ _ 1)) ?_
      unfold all6 roF
      rw [hz, ha, hn, List.append_nil]
      have q1 : (RI (sl (X.heap.size + 1 + 1) n) (List.replicate n 0) :: RI (sl (X.heap.size + 1) n) (List.replicate n 0) :: RI (sl X.heap.size n) (List.replicate n 0) :: (CO s A mv M.length :: RH s.wb M.length M.length us :: hps us W)).Perm (RI (sl tb n) (List.replicate n 0) :: RI (sl ab n) (List.replicate n 0) :: RI (sl nb n) (List.replicate n 0) :: (CO s A mv M.length :: RH s.wb M.length M.length us :: hps us W)) := hpm.symm.append_right (CO s A mv M.length :: RH s.wb M.length M.length us :: hps us W)
      refine (q1.cons _).trans ?_
      exact (perm5 _ _ _ _ _ _)
    · unfold roF at hz2
      rw [hz] at hz2
      have := List.eq_of_mem_replicate hz2
      rw [this]
      constructor <;> omega
    · exact ⟨hk.mono (fun _ _ e => e.elim), fun i es cl e2 => hk.at e2 (fun e => e)⟩
  have hm0 := hmk X
  have hm1 := hmk (X.alloc Z)
  have hm2 := hmk ((X.alloc Z).alloc Z)
  clear h hA hM hW hZ
  go_enter Try.func33, Try.ntmps33
  go_upto_region 2 with fail
  go_cut [6] (fun rv w' => ∃ s' : Sc, rv = .pointer (some ⟨s'.rb, 0, none⟩) ∧ Hid (s'.cb = s.cb ∧ s'.wb = s.wb ∧ s'.mb = s.mb) ∧ Hid (RwSt B w' s' A M mv n us (roF A txt n 0 0 W) [] ∧ Up0 B X w'))
  case first =>
    go_region
    all_goals
      go_wp2
      go_meet
      case rel => first
        | exact ⟨⟨s.cb, X.heap.size + 1 + 1 + 1, _, _, _, s.wb, s.mb⟩, rfl, ⟨rfl, rfl, rfl⟩, HRow.out _ _ _ (List.Perm.refl _)⟩
        | exact ⟨⟨s.cb, X.heap.size + 1 + 1 + 1, _, _, _, s.wb, s.mb⟩, rfl, ⟨rfl, rfl, rfl⟩, HRow.out _ _ _ (List.Perm.swap _ _ _)⟩
        | exact ⟨⟨s.cb, X.heap.size + 1 + 1 + 1, _, _, _, s.wb, s.mb⟩, rfl, ⟨rfl, rfl, rfl⟩, HRow.out _ _ _ ((List.Perm.swap _ _ _).cons _)⟩
        | exact ⟨⟨s.cb, X.heap.size + 1 + 1 + 1, _, _, _, s.wb, s.mb⟩, rfl, ⟨rfl, rfl, rfl⟩, HRow.out _ _ _ (perm3 _ _ _ _)⟩
        | exact ⟨⟨s.cb, X.heap.size + 1 + 1 + 1, _, _, _, s.wb, s.mb⟩, rfl, ⟨rfl, rfl, rfl⟩, HRow.out _ _ _ (perm3 _ _ _ _).symm⟩
        | exact ⟨⟨s.cb, X.heap.size + 1 + 1 + 1, _, _, _, s.wb, s.mb⟩, rfl, ⟨rfl, rfl, rfl⟩, HRow.out _ _ _ ((List.Perm.swap _ _ _).trans (perm3 _ _ _ _))⟩
  case rest =>
    obtain ⟨s', rfl, HEq, HP⟩ := hcut
    clear HRow HAt hmk hm0 hm1 hm2 HC
    go_wp2
    go_loopw [24] (fun iv wr => ∃ j : Nat, j ≤ txt.length ∧ iv = zV j ∧ Hid (RwSt B wr s' A M mv n us (roF A txt n j 0 W) [] ∧ Up0 B X wr)) (fun iv _ => txt.length - (RowKit.intOf iv).toNat)
    case atStart => exact ⟨0, Nat.zero_le _, rfl, HP.out⟩
    case round =>
      obtain ⟨j, hj, rfl, HQ⟩ := hrel
      clear HP
      by_cases hlt : j < txt.length
      · have hlt' : (j : Int) < (txt.length : Int) := by omega
        obtain ⟨r0, r1, r2, r3⟩ := HQ.out.1.cR
        have hb : (txt.getD j 0).toNat < 256 := UInt8.toNat_lt _
        have a0 := HQ.out.1.cA hb
        rw [HEq.out.1] at a0
        have t0 := HQ.out.1.tok.geI HQ.out.1.bt (j + 1) (by omega)
        have f0 := HQ.out.1.tok.frozen (j + 1)
        have hg : gI A (txt.getD j 0).toNat = toF A txt (j + 1) (j + 1) := by unfold toF; rw [if_pos ⟨by omega, Nat.le_refl _⟩, Nat.add_sub_cancel]
        have HN : Hid (RwSt B (wr.setCell ⟨s'.tb, j + 1, none⟩ (zV (gI A (txt.getD j 0).toNat))) s' A M mv n us (roF A txt n (j + 1) 0 W) [] ∧ ∀ u, Up0 B X (wr.setCell ⟨s'.tb, j + 1, none⟩ u)) := by
          refine ⟨?_, fun u => HQ.out.2.setCell (p := ⟨s'.tb, j + 1, none⟩) HQ.out.1.tok.ge.1 u⟩
          have h1 := HQ.out.1.setT (j + 1) (gI A (txt.getD j 0).toNat) (HA0.out _ (gI_mem (by rw [HQ.out.1.bA]; exact hb)))
          have h2 : (fl n (toF A txt j)).set (j + 1) (gI A (txt.getD j 0).toNat) = fl n (toF A txt (j + 1)) := by
            rw [hg]
            refine fl_set (by omega) (fun p hp _ => ?_)
            unfold toF
            by_cases e : 1 ≤ p ∧ p ≤ j
            · rw [if_pos e, if_pos ⟨e.1, by omega⟩]
            · rw [if_neg e, if_neg (by omega)]
          unfold roF at h1 ⊢
          rw [← h2]
          exact h1
        have hx : ∀ hh : j < (ByteArray.mk txt.toArray).size, ((ByteArray.mk txt.toArray)[j]'hh).toNat = (txt.getD j 0).toNat := fun hh => by
          rw [List.getD_eq_getElem?_getD, List.getElem?_eq_getElem hlt]
          rfl
        have HX1 : Hid (∀ hh : j < (ByteArray.mk txt.toArray).size, ((ByteArray.mk txt.toArray)[j]'hh).toNat = (txt.getD j 0).toNat) := hx
        clear HQ hg
        generalize gI (roF A txt n j 0 W).t (j + 1) = y0 at *
        generalize gI A (txt.getD j 0).toNat = y1 at *
        generalize (txt.getD j 0).toNat = bb at *
        have hbI : (bb : Int) < 256 := by omega
        have hj1 : j + 1 < n := by omega
        go_wp2_with fail
        go_region
        go_wp2
        go_roundw
        case rel => exact ⟨j + 1, hlt, by go_num, HN.out.1.drewN 1, (HN.out.2 _).drewN 1⟩
        case measure => simp [RowKit.intOf]; omega
      · obtain rfl : j = txt.length := by omega
        go_wp2
        go_loopw [44] (fun iv w2 => ∃ i : Nat, i ≤ n ∧ iv = zV i ∧ Hid (RwSt B w2 s' A M mv n us (roF A txt n txt.length i W) [] ∧ Up0 B X w2)) (fun iv _ => n - (RowKit.intOf iv).toNat)
        case atStart => exact ⟨0, Nat.zero_le _, rfl, HQ.out⟩
        case round =>
          obtain ⟨i, hi, rfl, HQ2⟩ := hrel
          clear HQ
          by_cases hlt2 : i < n
          · have hlt' : (i : Int) < (n : Int) := by omega
            have hlt3 : (i : Int) < (txt.length : Int) + 2 := by omega
            obtain ⟨r0, r1, r2, r3⟩ := HQ2.out.1.cR
            have a0 := HQ2.out.1.ahd.geI HQ2.out.1.ba i hlt2
            have n0 := HQ2.out.1.nxt.geI HQ2.out.1.bn i hlt2
            have f0 := HQ2.out.1.ahd.frozen i
            have f1 := HQ2.out.1.nxt.frozen i
            have hne : s'.nb ≠ s'.ab := fun e => by
              have := HQ2.out.1.an.apart _ List.mem_cons_self s'.ab rfl
              exact this (by rw [e]; rfl)
            have hnl := HQ2.out.1.nxt.ge.2
            have n1 : ∀ u, (wr.setCell ⟨s'.ab, i, none⟩ u).cell? ⟨s'.nb, i, none⟩ = wr.cell? ⟨s'.nb, i, none⟩ := fun u => ((Kept.refl (fun k => k = s'.ab) wr).setCell (p := ⟨s'.ab, i, none⟩) (fun _ => rfl) u).cell (p := ⟨s'.nb, i, none⟩) hnl (fun e => hne e)
            have n2 : ∀ u, (wr.setCell ⟨s'.ab, i, none⟩ u).frozen? ⟨s'.nb, i, none⟩ = wr.frozen? ⟨s'.nb, i, none⟩ := fun u => ((Kept.refl (fun k => k = s'.ab) wr).setCell (p := ⟨s'.ab, i, none⟩) (fun _ => rfl) u).frozen (p := ⟨s'.nb, i, none⟩) hnl (fun e => hne e)
            have HN : Hid (RwSt B ((wr.setCell ⟨s'.ab, i, none⟩ (zV ((i : Int) - 1))).setCell ⟨s'.nb, i, none⟩ (zV ((i : Int) + 1))) s' A M mv n us (roF A txt n txt.length (i + 1) W) [] ∧ ∀ u u', Up0 B X ((wr.setCell ⟨s'.ab, i, none⟩ u).setCell ⟨s'.nb, i, none⟩ u')) := by
              refine ⟨?_, fun u u' => (HQ2.out.2.setCell (p := ⟨s'.ab, i, none⟩) HQ2.out.1.ahd.ge.1 u).setCell (p := ⟨s'.nb, i, none⟩) HQ2.out.1.nxt.ge.1 u'⟩
              have h1 := (HQ2.out.1.setA i ((i : Int) - 1)).setN i ((i : Int) + 1)
              have h2 : (fl n (ahF i)).set i ((i : Int) - 1) = fl n (ahF (i + 1)) := by
                have e : ahF (i + 1) i = (i : Int) - 1 := by unfold ahF; rw [if_pos (by omega)]
                rw [← e]
                refine fl_set hlt2 (fun p hp _ => ?_)
                unfold ahF
                by_cases e : p < i
                · rw [if_pos e, if_pos (by omega)]
                · rw [if_neg e, if_neg (by omega)]
              have h3 : (fl n (nxF i)).set i ((i : Int) + 1) = fl n (nxF (i + 1)) := by
                have e : nxF (i + 1) i = (i : Int) + 1 := by unfold nxF; rw [if_pos (by omega)]
                rw [← e]
                refine fl_set hlt2 (fun p hp _ => ?_)
                unfold nxF
                by_cases e : p < i
                · rw [if_pos e, if_pos (by omega)]
                · rw [if_neg e, if_neg (by omega)]
              unfold roF at h1 ⊢
              rw [← h2, ← h3]
              exact h1
            clear HQ2
            generalize gI (roF A txt n txt.length i W).a i = y0 at *
            generalize gI (roF A txt n txt.length i W).n i = y1 at *
            go_wp2_with fail
            go_region
            go_wp2
            go_roundw
            case rel => exact ⟨i + 1, hlt2, by go_num, HN.out.1.drewN 1, (HN.out.2 _ _).drewN 1⟩
            case measure => simp [RowKit.intOf]; omega
          · obtain rfl : i = n := by omega
            have hge : ¬ (i : Int) < (txt.length : Int) + 2 := by omega
            have HI0 : Hid (Iv (roF A txt i txt.length i W) i ∧ Hle (roF A txt i txt.length i W) 0) := by
              rw [← hnn]
              exact ⟨ro_iv A txt W HW0.out, fun q => by show (gW W q).length ≤ 0; rw [HW0.out q]; exact Nat.le_refl _⟩
            have HEnd : Hid (bgF A txt M W = ntsF M (roF A txt i txt.length i W) txt.length) := by show _ = _; unfold bgF; rw [hnn]
            generalize roF A txt i txt.length i W = R0 at *
            go_wp2
            go_loopw [66] (fun jv w3 => ∃ j : Nat, j ≤ txt.length ∧ jv = zV j ∧ Hid ((∃ us2, RwSt B w3 s' A M mv i us2 (ntsF M R0 j) []) ∧ Up0 B X w3)) (fun jv _ => txt.length - (RowKit.intOf jv).toNat)
            case atStart => exact ⟨0, Nat.zero_le _, rfl, ⟨us, HQ2.out.1⟩, HQ2.out.2⟩
            case round =>
              obtain ⟨j, hj, rfl, HQ3⟩ := hrel
              clear HQ2
              by_cases hlt3 : j < txt.length
              · have hlt' : (j : Int) < (txt.length : Int) := by omega
                obtain ⟨us2, hS⟩ := HQ3.out.1
                have hiv := nts_iv HI0.out.1 HM0.out (j := j) (by omega)
                have hnx := hiv.nx (j + 1) (by omega)
                have HCall : Hid (Calls Try.prog 37 #[.pointer (some ⟨s'.rb, 0, none⟩), .int .i64 ((j : Int) + 1)] wr fun e X' => e = .returned (.tuple #[]) ∧ (∃ us', RwSt B X' s' A M mv i us' (ntsF M R0 (j + 1)) []) ∧ Up0 B wr X') := by
                  have := note_any hS (j + 1) (0 + j) (by omega) (by omega) hnx.2 (nts_H HI0.out.2 j) (by omega)
                  rw [show ((j + 1 : Nat) : Int) = (j : Int) + 1 by omega] at this
                  exact this
                clear hS hiv hnx
                go_wp2_with fail
                refine Calls.mono HCall.out ?_
                rintro e W4 ⟨rfl, hS4, hK4⟩
                have HS4 : Hid ((∃ us2, RwSt B W4 s' A M mv i us2 (ntsF M R0 (j + 1)) []) ∧ Up0 B X W4) := ⟨hS4, HQ3.out.2.trans hK4⟩
                clear HCall HQ3 hS4 hK4
                go_wp2
                go_roundw
                case rel => exact ⟨j + 1, hlt3, by go_num, HS4.out⟩
                case measure => simp [RowKit.intOf]; omega
              · obtain rfl : j = txt.length := by omega
                go_wp2
                go_ret
                obtain ⟨us2, hS⟩ := HQ3.out.1
                exact ⟨s', us2, rfl, HEq.out.1, HEq.out.2.1, HEq.out.2.2, by rw [HEnd.out]; exact hS, HQ3.out.2⟩
end Go.Proofs.Ytjjpkidmlpmgaaa
