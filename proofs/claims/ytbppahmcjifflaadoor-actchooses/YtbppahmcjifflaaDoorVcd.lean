/-
  Rows held against one another; each row of a matrix times a row; Times, the package's and the document's.
-/
import Derived.Test.YtbppahmcjifflaaDoorVcc
namespace Go.Proofs.YtbppahmcjifflaaDoor
open Go.RowKit Go.Lib Go.Maps

/-- The beginning of a row. -/
theorem Rk.pre {k : IntKind} {p : Nat → Prop} {w : World} {b off n cap : Nat} {zs : List Int} (h : Rk k p w (.slice (some ⟨b, off, none⟩) n cap) zs) (m : Nat) (hm : m ≤ n) : Rk k p w (.slice (some ⟨b, off, none⟩) m cap) (zs.take m) := by
  have := h.cut 0 m (by omega)
  simpa using this
/-- What is left of a row. -/
theorem Rk.rest {k : IntKind} {p : Nat → Prop} {w : World} {b off n cap : Nat} {zs : List Int} (h : Rk k p w (.slice (some ⟨b, off, none⟩) n cap) zs) (m : Nat) (hm : m ≤ n) : Rk k p w (.slice (some ⟨b, off + m, none⟩) (n - m) (cap - m)) (zs.drop m) := by
  have := h.cut m (n - m) (by omega)
  rwa [List.take_of_length_le (by rw [List.length_drop, h.cells.1]; exact Nat.le_refl _)] at this

theorem Rk.none0 (k : IntKind) (p : Nat → Prop) (w : World) (a : Addr) (cap : Nat) : Rk k p w (.slice (some a) 0 cap) [] := ⟨_, _, rfl, by simp, fun e => absurd rfl e, by simp, fun e => (by cases e), Nat.zero_le _⟩
/-- Where the model lays what is left of a row. -/
def restAt (b off c cap : Nat) : Option Addr := if cap = c then some ⟨b, off, none⟩ else some ⟨b, off + c, none⟩
theorem Rk.left {k : IntKind} {p : Nat → Prop} {w : World} {b off n cap : Nat} {zs : List Int} (h : Rk k p w (.slice (some ⟨b, off, none⟩) n cap) zs) (m : Nat) (hm : m ≤ n) : Rk k p w (.slice (restAt b off m cap) (n - m) (cap - m)) (zs.drop m) := by
  unfold restAt
  split
  · have h1 := h.cells.1
    have h2 := h.cells.2.1
    rw [show n - m = 0 by omega, List.drop_eq_nil_of_le (by omega)]
    exact Rk.none0 _ _ _ _ _
  · exact h.rest m hm

set_option maxHeartbeats 1000000 in
set_option maxRecDepth 100000 in
theorem same64_any (p q : Nat → Prop) (a b : Value) (zs : List Int) (w : World) (ha : Rk .i64 p w a zs) (hb : Rk .i64 q w b zs) :
    Calls Tryd.prog 19 #[a, b] w fun e w' => e = .returned (.bool true) ∧ ∃ n, w' = w.drewN n := by
  obtain ⟨ao, ac, rfl, _⟩ := ha.shape
  obtain ⟨bo, bc, rfl, _⟩ := hb.shape
  obtain ⟨_, _, _, hca⟩ := ha.cells
  obtain ⟨_, _, _, hcb⟩ := hb.cells
  have hmany := ha.many
  obtain ⟨n, hn⟩ : ∃ n, zs.length = n := ⟨_, rfl⟩
  rw [hn] at hca hcb hmany ⊢
  clear ha hb hn
  go_enter Tryd.func19, Tryd.ntmps19
  go_wp2
  go_loopw [13] (fun i wr => ∃ j : Nat, j ≤ n ∧ i = zV j ∧ ∃ n, wr = w.drewN n) (fun i _ => n - (RowKit.intOf i).toNat)
  case atStart => exact ⟨0, Nat.zero_le _, rfl, 0, rfl⟩
  case round =>
    obtain ⟨j, hj, rfl, d, rfl⟩ := hrel
    by_cases hlt : j < n
    · obtain ⟨ab, aoff, rfl, _, _, h1⟩ := hca (by omega)
      obtain ⟨bb, boff, rfl, _, _, h2⟩ := hcb (by omega)
      have g1 := h1 j hlt
      have g2 := h2 j hlt
      have hlt' : (j : Int) < (n : Int) := by omega
      clear h1 h2 hca hcb
      generalize zs.getD j 0 = x at *
      go_wp2_with fail
      go_quiet (fail)
      go_wp2
      go_roundw
      case rel => exact ⟨j + 1, hlt, by go_num, d + nq, rfl⟩
      case measure => simp [RowKit.intOf]; omega
    · obtain rfl : j = n := by omega
      clear hca hcb
      go_wp2
      go_ret
      exact ⟨rfl, d, rfl⟩

/-- What Times answers. -/
def tE (w : List Int) (c : Int) (x : List Int) : Int := if mE w c ≠ 0 then mE w c else if (x.length : Int) ≠ c then 80 else 0
def tL (w : List Int) (c : Int) (x : List Int) : List Int := if tE w c x = 0 then timesN w c.toNat x else []
theorem tE_bad {w : List Int} {c : Int} (x : List Int) (h : mE w c ≠ 0) : tE w c x = mE w c := if_pos h
theorem tE_else {w : List Int} {c : Int} {x : List Int} (h : mE w c = 0) (hx : (x.length : Int) ≠ c) : tE w c x = 80 := by unfold tE; rw [if_neg (by rw [h]; simp), if_pos hx]
theorem tE_ok {w : List Int} {c : Int} {x : List Int} (h : mE w c = 0) (hx : (x.length : Int) = c) : tE w c x = 0 := by unfold tE; rw [if_neg (by rw [h]; simp), if_neg (by rw [hx]; simp)]
theorem tL_bad {w : List Int} {c : Int} {x : List Int} (h : tE w c x ≠ 0) : tL w c x = [] := if_neg h
theorem mE_zero {w : List Int} {c : Int} (h : mE w c = 0) : w.length ≤ 1048576 ∧ ∃ k R : Nat, c = k ∧ 1 ≤ k ∧ w.length = R * k := by
  rcases m_cases w c with h' | ⟨h', h1⟩ | ⟨h', k, rfl, h1, h2, h3⟩ | h'
  · rw [mE_many c h'] at h; cases h
  · rw [mE_low h' h1] at h; cases h
  · rw [mE_rest h' h2] at h; cases h
  · exact h'
theorem tE_zero {w : List Int} {c : Int} {x : List Int} (h : tE w c x = 0) : mE w c = 0 ∧ (x.length : Int) = c := by
  unfold tE at h
  split at h
  · contradiction
  · split at h
    · cases h
    · exact ⟨by omega, by omega⟩
theorem dot_i64 {a b : List Int} (ha : ∀ z ∈ a, C8 z) (hb : ∀ z ∈ b, C8 z) (hl : a.length ≤ 1048576) : I64 (dotN a b) := by
  have := dotN_bound a b ha hb
  exact ⟨by omega, by omega⟩
theorem tL_i64 {w x : List Int} (c : Int) (hw : ∀ z ∈ w, C8 z) (hx : ∀ z ∈ x, C8 z) : ∀ z ∈ tL w c x, I64 z := by
  intro z hz
  unfold tL at hz
  split at hz
  · rename_i h
    obtain ⟨h1, h2⟩ := tE_zero h
    obtain ⟨hl, k, R, rfl, hk, hR⟩ := mE_zero h1
    obtain ⟨r, hr, rfl⟩ := List.mem_map.1 hz
    refine dot_i64 (fun z h => hw z (part_mem h)) hx ?_
    rw [Int.toNat_natCast]
    have : (part w k r).length ≤ (w.drop (r * k)).length := by unfold part; rw [List.length_take]; omega
    rw [List.length_drop] at this
    omega
  · cases hz
theorem tL_len (w x : List Int) (c : Int) : (tL w c x).length ≤ 1048576 := by
  unfold tL
  split
  · rename_i h
    obtain ⟨h1, h2⟩ := tE_zero h
    obtain ⟨hl, k, R, rfl, hk, hR⟩ := mE_zero h1
    rw [timesN_length]
    have := Nat.div_le_self w.length (k : Int).toNat
    omega
  · simp
theorem drop_part (zs : List Int) (c r : Nat) : (zs.drop (r * c)).take c = part zs c r := rfl
theorem range_take (f : Nat → Int) {R r : Nat} (h : r < R) : ((List.range R).map f).take (r + 1) = ((List.range R).map f).take r ++ [f r] := by
  rw [List.take_succ_eq_append_getElem (by simpa using h)]
  simp

set_option maxHeartbeats 4000000 in
set_option maxRecDepth 100000 in
theorem appendTimes_any (B g c0 : Nat) (xs : List Int) (p q : Nat → Prop) (wv xv : Value) (zs ys : List Int) (c R : Nat) (w : World)
    (hown : w.ownsRow B 2 1 (.slice (some ⟨g, 0, none⟩) xs.length c0) xs.length (xs.map zV)) (hB : B ≤ w.heap.size)
    (hw : Rk .i8 p w wv zs) (hx : Rk .i8 q w xv ys) (hR : zs.length = R * c) (hc : ys.length = c) (hc1 : 1 ≤ c) (hm : zs.length ≤ 1048576) (hxs : xs.length ≤ 1099511627776) (hp : ∀ b, p b → b ≠ g) (hq : ∀ b, q b → b ≠ g) :
    Calls Tryd.prog 64 #[.slice (some ⟨g, 0, none⟩) xs.length c0, wv, xv] w fun e w' => ∃ g' c', e = .returned (.slice (some ⟨g', 0, none⟩) (xs.length + R) c') ∧
      w'.ownsRow B 2 1 (.slice (some ⟨g', 0, none⟩) (xs.length + R) c') (xs.length + R) ((xs ++ timesN zs c ys).map zV) ∧ Kept (fun k => k = g) w w' ∧ (g' = g ∨ w.heap.size ≤ g') := by
  obtain ⟨L, hL⟩ : ∃ L, L = xs.length := ⟨_, rfl⟩
  obtain ⟨ao, ac, hva, _⟩ := hw.shape
  obtain ⟨xo, xc, hvx, _⟩ := hx.shape
  subst hva
  subst hvx
  have hRz : R ≤ zs.length := by rw [hR]; exact Nat.le_mul_of_pos_right _ hc1
  have HDot : Hid (∀ (W : World) (r b off cap : Nat), r < R → Kept (fun k => k = g) w W → Rk .i8 p w (.slice (some ⟨b, off, none⟩) c cap) (part zs c r) → Calls Tryd.prog 76 #[.slice (some ⟨b, off, none⟩) c cap, .slice xo c xc] W fun e w' => e = .returned (zV (dotN (part zs c r) ys)) ∧ w' = W) := fun W r b off cap hr hk h1 => by
    have := dot_any p q _ _ _ _ W (h1.kept hk hp) (hx.kept hk hq) (by rw [part_length hR hr, hc]) (by rw [part_length hR hr]; have := Nat.le_mul_of_pos_left c (show 0 < R by omega); omega)
    rwa [hc] at this
  have HT : Hid (timesN zs c ys = (List.range R).map (fun r => dotN (part zs c r) ys)) := timesN_rows hR hc1 ys
  have HI : Hid (∀ r, r < R → I64 (dotN (part zs c r) ys)) := fun r hr => dot_i64 (fun z h => hw.all z (part_mem h)) hx.all (by rw [part_length hR hr]; have := Nat.le_mul_of_pos_left c (show 0 < R by omega); omega)
  have H0 : Hid (Rk .i8 p w (.slice ao (R * c) ac) (zs.drop 0)) := by show Rk _ _ _ _ _; rw [← hR]; exact hw
  have HO : Hid (w.ownsRow B 2 1 (.slice (some ⟨g, 0, none⟩) (L + 0) c0) (L + 0) ((xs ++ (timesN zs c ys).take 0).map zV)) := by
    show World.ownsRow _ _ _ _ _ _ _
    rw [hL, List.take_zero, List.append_nil, Nat.add_zero]; exact hown
  have hN : R * c ≤ 1048576 := by omega
  have HB : Hid (B ≤ w.heap.size ∧ g < w.heap.size) := ⟨hB, (own_block hown).2.1⟩
  have HXL : Hid (L = xs.length) := hL
  have HRL : Hid (zs.length = R * c) := hR
  rw [hR, hc, ← hL]
  rw [← hL] at hxs
  clear hown hw hx hp hq hR hc hL hB
  obtain ⟨N, hNN⟩ : ∃ N, N = R * c := ⟨_, rfl⟩
  rw [← hNN] at H0 hN ⊢
  have HNN : Hid (N = R * c) := hNN
  rw [← hNN] at HRL
  clear hNN
  go_enter Tryd.func64, Tryd.ntmps64
  go_wp2_with fail
  go_loopw [0, 1] (fun sv v wr => ∃ (r m g' c' cap' : Nat) (ao' : Option Addr), r ≤ R ∧ sv = .slice (some ⟨g', 0, none⟩) (L + r) c' ∧ v = .slice ao' m cap' ∧ m ≤ N ∧ Hid (m + r * c = R * c) ∧ Hid (wr.ownsRow B 2 1 (.slice (some ⟨g', 0, none⟩) (L + r) c') (L + r) ((xs ++ (timesN zs c ys).take r).map zV) ∧ Kept (fun k => k = g) w wr ∧ (g' = g ∨ w.heap.size ≤ g') ∧ Rk .i8 p w (.slice ao' m cap') (zs.drop (r * c)))) (fun _ v _ => match v with | .slice _ n _ => n | _ => 0)
  case atStart => exact ⟨0, N, g, c0, ac, ao, Nat.zero_le _, rfl, rfl, Nat.le_refl _, (by rw [Nat.zero_mul, Nat.add_zero]; exact HNN.out), ⟨HO.out, Kept.refl _ _, .inl rfl, by rw [Nat.zero_mul]; exact H0.out⟩⟩
  case round =>
    obtain ⟨r, m, g', c', cap', ao', hr, rfl, rfl, hmN, HM, HA⟩ := hrel
    clear HO H0
    by_cases h0 : 0 < m
    · have hrR : r < R := by
        rcases Nat.lt_or_ge r R with e | e
        · exact e
        · have := HM.out
          obtain rfl : r = R := by omega
          omega
      have hcm : c ≤ m := by
        have h1 := HM.out
        have h2 := Nat.mul_le_mul_right c (show r + 1 ≤ R from hrR)
        rw [Nat.add_mul, Nat.one_mul] at h2
        omega
      obtain ⟨b, off, rfl, _, _, _⟩ := HA.out.2.2.2.cells.2.2.2 h0
      have hcap := HA.out.2.2.2.cells.2.1
      have hpre := HA.out.2.2.2.pre c hcm
      rw [drop_part] at hpre
      have HD1 : Hid (Unit → _) := fun (_ : Unit) => HDot.out wr r b off cap' hrR HA.out.2.1 hpre
      have hrest := HA.out.2.2.2.left c hcm
      rw [List.drop_drop, show r * c + c = (r + 1) * c by rw [Nat.add_mul, Nat.one_mul]] at hrest
      have HRest : Hid (Rk .i8 p w (.slice (restAt b off c cap') (m - c) (cap' - c)) (zs.drop ((r + 1) * c))) := hrest
      have HM1 : Hid (m - c + (r + 1) * c = R * c) := by have := HM.out; show _ = _; rw [Nat.add_mul, Nat.one_mul]; omega
      obtain ⟨D, hD⟩ : ∃ D, D = dotN (part zs c r) ys := ⟨_, rfl⟩
      obtain ⟨ga, ca, Wa, hra, hoa, hga, hka⟩ := push ty64 wr B g' c' (L + r) (xs ++ (timesN zs c ys).take r) D HA.out.1 (by simp [kb]; omega) (Nat.le_trans HB.out.1 HA.out.2.1.size)
      have HN1 : Hid (Wa.ownsRow B 2 1 (.slice (some ⟨ga, 0, none⟩) (L + (r + 1)) ca) (L + (r + 1)) ((xs ++ (timesN zs c ys).take (r + 1)).map zV) ∧ Kept (fun k => k = g) w Wa ∧ (ga = g ∨ w.heap.size ≤ ga)) := by
        refine ⟨?_, HA.out.2.1.trans hka (fun i hi e => ?_), ?_⟩
        · rw [HT.out] at hoa ⊢
          rw [range_take _ hrR, ← hD, ← List.append_assoc]
          exact hoa
        · rcases HA.out.2.2.1 with e' | e'
          · omega
          · omega
        · have := HA.out.2.1.size
          rcases hga with e | e
          · rcases HA.out.2.2.1 with e' | e' <;> omega
          · right; omega
      rw [← hD] at HD1
      have hcm' : (c : Int) ≤ (m : Int) := by omega
      have hcp' : (c : Int) ≤ (cap' : Int) := by omega
      have hmc' : (m : Int) ≤ (cap' : Int) := by omega
      have h0' : (0 : Int) < (m : Int) := by omega
      clear hpre hrest hoa hga hka hD HA HM HDot HT HI HB
      go_wp2_with fail
      refine (HD1.out ()).mono ?_
      rintro e w1 ⟨rfl, hw1⟩
      have hw2 := hw1.symm
      subst hw2
      clear hw1 HD1
      go_wp2_with (at_builtin; refine Lib.wpList_append_run _ rfl _ _ _ _ rfl _ _ rfl rfl _ _ hra ?_)
      go_roundw
      case rel => exact ⟨r + 1, m - c, ga, ca, cap' - c, restAt b off c cap', hrR, rfl, by unfold restAt; by_cases e : cap' = c <;> simp [e], by omega, HM1.out, ⟨HN1.out.1, HN1.out.2.1, HN1.out.2.2, HRest.out⟩⟩
      case measure => simp; omega
    · have hrR : r = R := by
        have h1 := HM.out
        rcases Nat.lt_or_ge r R with e | e
        · have h2 := Nat.mul_le_mul_right c (show r + 1 ≤ R from e)
          rw [Nat.add_mul, Nat.one_mul] at h2
          omega
        · omega
      obtain rfl : m = 0 := by omega
      subst hrR
      have HF : Hid (wr.ownsRow B 2 1 (.slice (some ⟨g', 0, none⟩) (L + r) c') (L + r) ((xs ++ timesN zs c ys).map zV) ∧ Kept (fun k => k = g) w wr ∧ (g' = g ∨ w.heap.size ≤ g')) := by
        refine ⟨?_, HA.out.2.1, HA.out.2.2.1⟩
        have := HA.out.1
        rwa [List.take_of_length_le (by rw [HT.out]; simp)] at this
      clear HA HM HDot HT HI HB
      go_wp2
      go_ret
      exact ⟨_, _, rfl, HF.out.1, HF.out.2.1, HF.out.2.2⟩
end Go.Proofs.YtbppahmcjifflaaDoor
