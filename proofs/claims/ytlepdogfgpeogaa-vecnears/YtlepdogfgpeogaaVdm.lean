/-
  Pack, the package's.
-/
import Derived.Test.YtlepdogfgpeogaaVdl
import Derived.Test.YtlepdogfgpeogaaVdg
import Derived.Deep.DeepCutAuto
namespace Go.Proofs.Ytlepdogfgpeogaa
open Go.RowKit Go.Lib Go.Maps

/-- What Pack leaves: packed numbers, their two rows each in memory of its own, and an error. -/
def Packs (l : List Int) (g : Int) (w : World) (x : Ending) (w' : World) : Prop :=
  (paE l.length g ≠ 0 ∧ x = .returned (.tuple #[.agg #[zV 0, zV 0, .slice none 0 0, .slice none 0 0], zV (paE l.length g)]) ∧ Fresh w w') ∨
  (paE l.length g = 0 ∧ ∃ b1 b2 : Nat, x = .returned (.tuple #[.agg #[zV l.length, zV g, .slice (some ⟨b1, 0, none⟩) (pS l g.toNat).length (pS l g.toNat).length, .slice (some ⟨b2, 0, none⟩) (pH l g.toNat).length (pH l g.toNat).length], zV 0]) ∧ b1 ≠ b2 ∧
    w'.ownsRow w.heap.size 5 1 (.slice (some ⟨b1, 0, none⟩) (pS l g.toNat).length (pS l g.toNat).length) (pS l g.toNat).length ((pS l g.toNat).map (Value.int .u8)) ∧
    w'.ownsRow w.heap.size 5 1 (.slice (some ⟨b2, 0, none⟩) (pH l g.toNat).length (pH l g.toNat).length) (pH l g.toNat).length ((pH l g.toNat).map (Value.int .u8)) ∧ Fresh w w')

/-- Two rows being filled. -/
structure Two2 (w0 : World) (b1 b2 m k : Nat) (xs ys : List Int) (wr : World) : Prop where
  ne : b1 ≠ b2
  one : wr.ownsRow w0.heap.size 5 1 (.slice (some ⟨b1, 0, none⟩) m m) m (xs.map (Value.int .u8))
  two : wr.ownsRow w0.heap.size 5 1 (.slice (some ⟨b2, 0, none⟩) k k) k (ys.map (Value.int .u8))
  fresh : Fresh w0 wr
theorem Two2.drewN {w0 : World} {b1 b2 m k : Nat} {xs ys : List Int} {wr : World} (h : Two2 w0 b1 b2 m k xs ys wr) (d : Nat) : Two2 w0 b1 b2 m k xs ys (wr.drewN d) := ⟨h.ne, h.one, h.two, h.fresh.drewN d⟩
theorem Two2.drew {w0 : World} {b1 b2 m k : Nat} {xs ys : List Int} {wr : World} (h : Two2 w0 b1 b2 m k xs ys wr) : Two2 w0 b1 b2 m k xs ys wr.drew := ⟨h.ne, h.one, h.two, h.fresh.drew⟩
theorem Two2.set1 {w0 : World} {b1 b2 m k : Nat} {xs ys : List Int} {wr : World} (h : Two2 w0 b1 b2 m k xs ys wr) (i : Nat) (v : Int) : Two2 w0 b1 b2 m k (xs.set i v) ys (wr.setCell ⟨b1, i, none⟩ (.int .u8 v)) := by
  refine ⟨h.ne, ?_, ?_, h.fresh.setCell (fun e => by have := (own_block h.one).1; have : b1 < w0.heap.size := e; omega) _⟩
  · rw [List.map_set]; exact own_setB h.one
  · exact owns_kept h.two ((Kept.refl (fun b => b = b1) wr).setCell (p := ⟨b1, i, none⟩) (fun _ => rfl) _) (fun g e e2 => by simp [Value.ownBlock] at e; have := h.ne; omega)
theorem Two2.set2 {w0 : World} {b1 b2 m k : Nat} {xs ys : List Int} {wr : World} (h : Two2 w0 b1 b2 m k xs ys wr) (i : Nat) (v : Int) : Two2 w0 b1 b2 m k xs (ys.set i v) (wr.setCell ⟨b2, i, none⟩ (.int .u8 v)) := by
  refine ⟨h.ne, ?_, ?_, h.fresh.setCell (fun e => by have := (own_block h.two).1; have : b2 < w0.heap.size := e; omega) _⟩
  · exact owns_kept h.one ((Kept.refl (fun b => b = b2) wr).setCell (p := ⟨b2, i, none⟩) (fun _ => rfl) _) (fun g e e2 => by simp [Value.ownBlock] at e; have := h.ne; omega)
  · rw [List.map_set]; exact own_setB h.two
theorem zeros_at (w0 X : World) (hF : Fresh w0 X) (n : Nat) (hn : n ≤ 1048576) : (X.alloc (.cells ((List.replicate n (0 : Int)).map (Value.int .u8)).toArray 5)).ownsRow w0.heap.size 5 1 (.slice (some ⟨X.heap.size, 0, none⟩) n n) n ((List.replicate n (0 : Int)).map (Value.int .u8)) := own_made .u8 5 X w0.heap.size hF.size n n (Nat.le_refl _) (by omega)

set_option maxHeartbeats 4000000 in
set_option maxRecDepth 100000 in
theorem Pack_any (p : Nat → Prop) (lv : Value) (l : List Int) (g : Int) (w : World) (hl : Rk .i8 p w lv l) (hg : I64 g) :
    Calls Try.prog 17 #[lv, zV g] w fun e w' => Packs l g w e w' := by
  obtain ⟨ao, ac, hva, _⟩ := hl.shape
  subst hva
  obtain ⟨w0, hw0⟩ : ∃ w0, w0 = w.alloc (.cells #[zV 0, zV 0, .slice none 0 0, .slice none 0 0] 48) := ⟨_, rfl⟩
  have hF0 : Fresh w w0 := by rw [hw0]; exact (Kept.refl _ w).alloc _
  have HF0 : Hid (Fresh w w0) := hF0
  have p1 : w0.heap[w.heap.size]? = some (.cells #[zV 0, zV 0, .slice none 0 0, .slice none 0 0] 48 (0, 0)) := by rw [hw0]; exact heap_alloc_new w _
  have HRes : Hid (∀ W, Fresh w0 W → W.cell? ⟨w.heap.size, 0, none⟩ = some (zV 0) ∧ W.cell? ⟨w.heap.size, 1, none⟩ = some (zV 0) ∧ W.cell? ⟨w.heap.size, 2, none⟩ = some (.slice none 0 0) ∧ W.cell? ⟨w.heap.size, 3, none⟩ = some (.slice none 0 0) ∧ ∀ i, W.frozen? ⟨w.heap.size, i, none⟩ = false) := fun W hF => by
    have q1 := hF.at p1 (fun e => e)
    exact ⟨by rw [Lib.cell_of_heap q1]; rfl, by rw [Lib.cell_of_heap q1]; rfl, by rw [Lib.cell_of_heap q1]; rfl, by rw [Lib.cell_of_heap q1]; rfl, fun i => Lib.frozen_of_heap q1 i⟩
  have HB : Hid (Unit → _) := fun (_ : Unit) => bounded8_any ao l.length ac w0
  have hsz : w0.heap.size = w.heap.size + 1 := by rw [hw0]; simp
  by_cases h1 : 1048576 < l.length
  · have hE : paE l.length g = 81 := if_pos h1
    rw [bE_many h1] at HB
    obtain ⟨t0, t1, t2, t3, t4⟩ := HRes.out w0 (Kept.refl _ _)
    have t40 := t4 0
    have t41 := t4 1
    have t42 := t4 2
    have t43 := t4 3
    obtain ⟨r0, r1, r2, r3⟩ := four_set w0 w.heap.size (zV 0) (zV 0) (.slice none 0 0) (.slice none 0 0) t0 t1 t2 t3
    have HX : Hid (Packs l g w (.returned (.tuple #[.agg #[zV 0, zV 0, .slice none 0 0, .slice none 0 0], zV 81])) ((((w0.setCell ⟨w.heap.size, 0, none⟩ (zV 0)).setCell ⟨w.heap.size, 1, none⟩ (zV 0)).setCell ⟨w.heap.size, 2, none⟩ (.slice none 0 0)).setCell ⟨w.heap.size, 3, none⟩ (.slice none 0 0))) := .inl ⟨by rw [hE]; omega, by rw [hE], HF0.out.trans (four_kept w0 w.heap.size (zV 0) (zV 0) (.slice none 0 0) (.slice none 0 0)) (fun i hi e => by omega)⟩
    clear hl p1 hE t4
    go_enter Try.func17, Try.ntmps17
    go_wp2_with fail
    rw [← hw0]
    clear hw0 hsz
    refine (HB.out ()).mono ?_
    rintro e w1 ⟨rfl, hw1⟩
    have hw2 := hw1.symm
    subst hw2
    clear hw1 HB
    go_wp2
    exact bodyPost_ret (v := .tuple #[.agg #[zV 0, zV 0, .slice none 0 0, .slice none 0 0], zV 81]) (by simp [results, Try.results17, go_sem, r0, r1, r2, r3]) rfl HX.out
  rw [bE_ok (by omega)] at HB
  have HG : Hid (Unit → _) := fun (_ : Unit) => isGroup_any g w0
  by_cases h2 : 1 ≤ g ∧ g ≤ 256
  · obtain ⟨G, rfl⟩ : ∃ G : Nat, g = (G : Int) := ⟨g.toNat, by omega⟩
    have hG1 : 1 ≤ G := by omega
    have hG2 : G ≤ 256 := by omega
    have hE : paE l.length (G : Int) = 0 := by unfold paE; rw [if_neg h1, if_pos h2]
    rw [decide_eq_true h2] at HG
    have hgt : ((G : Int)).toNat = G := Int.toNat_natCast G
    obtain ⟨n, hn⟩ : ∃ n, l.length = n := ⟨_, rfl⟩
    obtain ⟨m, hm⟩ : ∃ m, (n + G - 1) / G = m := ⟨_, rfl⟩
    obtain ⟨k, hk⟩ : ∃ k, (n + 1) / 2 = k := ⟨_, rfl⟩
    have hmn : m ≤ n := by
      rw [← hm]
      rcases Nat.eq_zero_or_pos n with e | e
      · subst e; rw [Nat.div_eq_of_lt (by omega)]; omega
      · have : (n + G - 1) / G < n + 1 := by
          rw [Nat.div_lt_iff_lt_mul hG1]
          have := Nat.mul_le_mul_left (n + 1) hG1
          have h3 : n + G ≤ (n + 1) * G := by rw [Nat.add_mul, Nat.one_mul]; have := Nat.le_mul_of_pos_right n hG1; omega
          omega
        omega
    have hkn : k ≤ n := by omega
    have HP1 : Hid (∀ W, Calls Try.prog 41 #[zV n, zV G] W fun e w' => e = .returned (zV m) ∧ w' = W) := fun W => by
      have := parts_any (n : Int) (G : Int) W (by omega) (by omega) (by omega) (by omega)
      rwa [show ((n : Int) + (G : Int) - 1) / (G : Int) = (m : Int) by rw [← hm, Int.natCast_ediv]; congr 1; omega] at this
    have HP2 : Hid (∀ W, Calls Try.prog 41 #[zV n, zV 2] W fun e w' => e = .returned (zV k) ∧ w' = W) := fun W => by
      have := parts_any (n : Int) 2 W (by omega) (by omega) (by omega) (by omega)
      rwa [show ((n : Int) + 2 - 1) / 2 = (k : Int) by omega] at this
    have hm1 : ∀ W, (Instr.makeSlice 46 (.int .i64 (m : Int)) (.int .i64 (m : Int))).run Try.prog W = .ok (.slice (some ⟨W.heap.size, 0, none⟩) m m) (W.alloc (.cells ((List.replicate m (0 : Int)).map (Value.int .u8)).toArray 5)) := fun W => run_mk tyu8 m m (Nat.le_refl _) (by simp only [kb]; omega) W
    have hm2 : ∀ W, (Instr.makeSlice 46 (.int .i64 (k : Int)) (.int .i64 (k : Int))).run Try.prog W = .ok (.slice (some ⟨W.heap.size, 0, none⟩) k k) (W.alloc (.cells ((List.replicate k (0 : Int)).map (Value.int .u8)).toArray 5)) := fun W => run_mk tyu8 k k (Nat.le_refl _) (by simp only [kb]; omega) W
    have hA : ∀ q : Nat, ((List.replicate q (0 : Int)).map (Value.int .u8)).toArray = Array.replicate q (Value.int .u8 0) := fun q => by simp
    have HZ1 : Hid (Two2 w0 w0.heap.size (w0.heap.size + 1) m k (List.replicate m 0) (List.replicate k 0) ((w0.alloc (.cells (Array.replicate m (Value.int .u8 0)) 5)).alloc (.cells (Array.replicate k (Value.int .u8 0)) 5)).drew) := by
      show Two2 _ _ _ _ _ _ _ _
      rw [← hA, ← hA]
      have hF := Kept.refl (fun _ => False) w0
      refine ⟨by omega, owns_kept (zeros_at w0 w0 hF m (by omega)) ((Kept.refl (fun _ => False) _).alloc _).drew (fun _ _ e => e), ?_, ((hF.alloc _).alloc _).drew⟩
      have := zeros_at w0 _ (hF.alloc (.cells ((List.replicate m (0 : Int)).map (Value.int .u8)).toArray 5)) k (by omega)
      rw [World.size_alloc] at this
      exact owns_kept this (Kept.refl (fun _ => False) _).drew (fun _ _ e => e)
    have HZ2 : Hid (Two2 w0 (w0.heap.size + 1) w0.heap.size m k (List.replicate m 0) (List.replicate k 0) ((w0.alloc (.cells (Array.replicate k (Value.int .u8 0)) 5)).alloc (.cells (Array.replicate m (Value.int .u8 0)) 5)).drew) := by
      show Two2 _ _ _ _ _ _ _ _
      rw [← hA, ← hA]
      have hF := Kept.refl (fun _ => False) w0
      refine ⟨by omega, ?_, owns_kept (zeros_at w0 w0 hF k (by omega)) ((Kept.refl (fun _ => False) _).alloc _).drew (fun _ _ e => e), ((hF.alloc _).alloc _).drew⟩
      have := zeros_at w0 _ (hF.alloc (.cells ((List.replicate k (0 : Int)).map (Value.int .u8)).toArray 5)) m (by omega)
      rw [World.size_alloc] at this
      exact owns_kept this (Kept.refl (fun _ => False) _).drew (fun _ _ e => e)
    have hall := hl.all
    have HSz : Hid (w0.heap.size = w.heap.size + 1) := hsz
    have HNm : Hid (l.length = n ∧ (n + G - 1) / G = m ∧ (n + 1) / 2 = k ∧ (pS l G).length = m ∧ (pH l G).length = k) := ⟨hn, hm, hk, by rw [pS_length, hn, hm], by rw [pH_length, hn, hk]⟩
    have HSh : Hid (∀ j M, j < m → M = min G (n - j * G) → j * G + M ≤ n → ∃ b off, ao = some ⟨b, off, none⟩ ∧ ∀ W, Fresh w0 W → Calls Try.prog 42 #[.slice (some ⟨b, off + j * G, none⟩) M (ac - j * G)] W fun e w' => e = .returned (.int .u8 (shAt l G j : Int)) ∧ Drew W w') := fun j M hj hM hle => by
      have hlt := group_at (n := n) hG1 (by rw [hm]; exact hj)
      obtain ⟨b, off, e, _⟩ := hl.cells.2.2.2 (by omega)
      subst e
      refine ⟨b, off, rfl, fun W hF => ?_⟩
      have hc := (hl.fresh (HF0.out.trans hF (fun _ _ e => e))).cut (j * G) M (by omega)
      have := shiftOf_at _ _ _ W hc
      rw [take_short (by rw [hn]; exact hM)] at this
      exact this
    have HCl : Hid (0 < n → ∃ b off, ao = some ⟨b, off, none⟩ ∧ ∀ W, Fresh w0 W → ∀ i, i < n → W.cell? ⟨b, off + i, none⟩ = some (.int .i8 (l.getD i 0))) := fun hp => by
      obtain ⟨b, off, e, _, hb, hcell⟩ := hl.cells.2.2.2 (by omega)
      exact ⟨b, off, e, fun W hF i hi => ((HF0.out.trans hF (fun _ _ e => e)).cell (p := ⟨b, off + i, none⟩) hb (fun e => e)).trans (hcell i (by omega))⟩
    have HX8 : Hid (∀ i, C8 (l.getD i 0)) := fun i => hl.get i
    have hnac : n ≤ ac := by rw [← hn]; exact hl.cells.2.1
    have HPs : Hid (∀ j, j < m → (pS l G).getD j 0 = (shAt l G j : Int) ∧ shAt l G j ≤ 5 ∧ (pS l G).take (j + 1) = (pS l G).take j ++ [(shAt l G j : Int)]) := fun j hj => ⟨pS_get (by rw [hn, hm]; exact hj), shAt_le hall G j, pS_take (by rw [hn, hm]; exact hj)⟩
    have HGo : Hid (∀ i, i < n → i / G < m ∧ (i : Int).tdiv (G : Int) = ((i / G : Nat) : Int) ∧ -7 ≤ rdQ (l.getD i 0) (shAt l G (i / G) : Int) ∧ rdQ (l.getD i 0) (shAt l G (i / G) : Int) ≤ 7) := fun i hi => ⟨by rw [← hm]; exact group_of hG1 hi, by rw [Int.tdiv_eq_ediv_of_nonneg (by omega), Int.natCast_ediv], pF_room hall hG1 (by rw [hn]; exact hi)⟩
    have HH0 : Hid (hvL l G 0 = List.replicate k 0 ∧ hvL l G n = pH l G) := ⟨by rw [hvL_zero, hn, hk], by rw [← hn]; exact hvL_end l G⟩
    have HPk : Hid (∀ b1 b2 W, Two2 w0 b1 b2 m k (pS l G) (pH l G) W → ∀ W', Kept (fun x => x = w.heap.size) W W' → Packs l (G : Int) w (.returned (.tuple #[.agg #[zV n, zV G, .slice (some ⟨b1, 0, none⟩) m m, .slice (some ⟨b2, 0, none⟩) k k], zV 0])) W') := fun b1 b2 W hT W' hK => by
      have e1 := HNm.out.2.2.2.1
      have e2 := HNm.out.2.2.2.2
      have q1 := (own_block hT.one).1
      have q2 := (own_block hT.two).1
      refine .inr ⟨hE, b1, b2, ?_, hT.ne, ?_, ?_, ?_⟩
      · rw [hgt, e1, e2, hn]
      · rw [hgt, e1]; exact own_low (owns_kept hT.one hK (fun g e e2 => by simp [Value.ownBlock] at e; omega)) HF0.out.size
      · rw [hgt, e2]; exact own_low (owns_kept hT.two hK (fun g e e2 => by simp [Value.ownBlock] at e; omega)) HF0.out.size
      · exact (HF0.out.trans hT.fresh (fun _ _ e => e)).trans hK (fun i hi e => by omega)
    rw [hn] at HB ⊢
    have hnb : n ≤ 1048576 := by omega
    clear p1 hl hall hn hm hk hA hE hgt h1 h2 hg
    go_enter Try.func17, Try.ntmps17
    go_wp2_with fail
    rw [← hw0]
    clear hw0 hsz hF0
    refine (HB.out ()).mono ?_
    rintro e w1 ⟨rfl, hw1⟩
    have hw2 := hw1.symm
    subst hw2
    clear hw1 HB
    go_wp2_with fail
    refine (HG.out ()).mono ?_
    rintro e w1 ⟨rfl, hw1⟩
    have hw2 := hw1.symm
    subst hw2
    clear hw1 HG
    go_upto_region 6 with fail
    go_cut [7, 8] (fun a b w' => ∃ b1 b2, a = .slice (some ⟨b1, 0, none⟩) m m ∧ b = .slice (some ⟨b2, 0, none⟩) k k ∧ Hid (Two2 w0 b1 b2 m k (List.replicate m 0) (List.replicate k 0) w'))
    case first =>
      go_region_held3 (fun X => True) (trivial) (first | (go_at_call 41; (with_reducible refine (HP1.out _).mono ?_); rintro e w' ⟨rfl, rfl⟩) | (go_at_call 41; (with_reducible refine (HP2.out _).mono ?_); rintro e w' ⟨rfl, rfl⟩))
      all_goals
        go_wp2
        go_meet
        case rel => first | exact ⟨_, _, rfl, rfl, HZ1.out⟩ | exact ⟨_, _, rfl, rfl, HZ2.out⟩
    case rest =>
      obtain ⟨b1, b2, rfl, rfl, HT⟩ := hcut
      clear HZ1 HZ2 hm1 hm2 HP1 HP2
      have HT0 : Hid (Two2 w0 b1 b2 m k ((pS l G).take 0 ++ List.replicate (m - 0) 0) (List.replicate k 0) wc) := HT.out
      clear HT
      go_wp2
      go_loopw [34] (fun iv wr => ∃ j : Nat, j ≤ m ∧ iv = zV j ∧ Hid (Two2 w0 b1 b2 m k ((pS l G).take j ++ List.replicate (m - j) 0) (List.replicate k 0) wr)) (fun iv _ => m - (RowKit.intOf iv).toNat)
      case atStart => exact ⟨0, Nat.zero_le _, rfl, HT0.out⟩
      case round =>
        obtain ⟨j, hj, rfl, HA⟩ := hrel
        clear HT0
        by_cases hlt : j < m
        · have hlt' : (j : Int) < (m : Int) := by omega
          have hJn := group_at (n := n) hG1 (by rw [HNm.out.2.1]; exact hlt)
          obtain ⟨J, hJ⟩ : ∃ J, j * G = J := ⟨_, rfl⟩
          have e1 : ((j : Int) * (G : Int)) = (J : Int) := by rw [← hJ, Int.natCast_mul]
          have e2 : (((j : Int) + 1) * (G : Int)) = (J : Int) + (G : Int) := by rw [Int.add_mul, Int.one_mul, e1]
          rw [hJ] at hJn
          have hcm : ¬ ac = J := by omega
          obtain ⟨q1, q2, q3⟩ := HPs.out j hlt
          have HStep : Hid (∀ W, Two2 w0 b1 b2 m k ((pS l G).take j ++ List.replicate (m - j) 0) (List.replicate k 0) W → Two2 w0 b1 b2 m k ((pS l G).take (j + 1) ++ List.replicate (m - (j + 1)) 0) (List.replicate k 0) (W.setCell ⟨b1, j, none⟩ (.int .u8 (shAt l G j : Int))) ∧ W.frozen? ⟨b1, j, none⟩ = false ∧ ∃ old, W.cell? ⟨b1, j, none⟩ = some (.int .u8 old)) := fun W hW => by
            have h3 := hW.set1 j (shAt l G j : Int)
            rw [show m - j = (m - (j + 1)) + 1 by omega, set_at (by rw [List.length_take, HNm.out.2.2.2.1]; omega), ← q3] at h3
            exact ⟨h3, own_frozen hW.one j, _, own_get hW.one j hlt⟩
          have hs5 : (shAt l G j : Int) ≤ 5 := by omega
          by_cases hle : J + G ≤ n
          · obtain ⟨b, off, rfl, hcall⟩ := HSh.out j G hlt (by rw [hJ]; omega) (by rw [hJ]; exact hle)
            rw [hJ] at hcall
            have HCall : Hid (Unit → _) := fun (_ : Unit) => hcall wr HA.out.fresh
            have hle1 : (J : Int) + (G : Int) ≤ (n : Int) := by omega
            have hle2 : (J : Int) + (G : Int) ≤ (ac : Int) := by omega
            have hle3 : ¬ (n : Int) < (J : Int) + (G : Int) := by omega
            clear hcall hJ q1 q2 q3
            go_wp2_with fail
            refine (HCall.out ()).mono ?_
            rintro e w3 ⟨rfl, d3, hw3⟩
            obtain ⟨hX, f1, old, g1⟩ := HStep.out w3 (by rw [hw3]; exact HA.out.drewN d3)
            have HX : Hid _ := hX
            clear hw3 hX HA HCall HStep
            generalize shAt l G j = S at *
            go_wp2
            go_roundw
            case rel => exact ⟨j + 1, hlt, by go_num, HX.out⟩
            case measure => simp [RowKit.intOf]; omega
          · obtain ⟨b, off, rfl, hcall⟩ := HSh.out j (n - J) hlt (by rw [hJ]; omega) (by rw [hJ]; omega)
            rw [hJ] at hcall
            have HCall : Hid (Unit → _) := fun (_ : Unit) => hcall wr HA.out.fresh
            have hle1 : (n : Int) < (J : Int) + (G : Int) := by omega
            have hle2 : (n : Int) ≤ (ac : Int) := by omega
            clear hcall hJ q1 q2 q3
            go_wp2_with fail
            refine (HCall.out ()).mono ?_
            rintro e w3 ⟨rfl, d3, hw3⟩
            obtain ⟨hX, f1, old, g1⟩ := HStep.out w3 (by rw [hw3]; exact HA.out.drewN d3)
            have HX : Hid _ := hX
            clear hw3 hX HA HCall HStep
            generalize shAt l G j = S at *
            go_wp2
            go_roundw
            case rel => exact ⟨j + 1, hlt, by go_num, HX.out⟩
            case measure => simp [RowKit.intOf]; omega
        · obtain rfl : j = m := by omega
          have HT1 : Hid (Two2 w0 b1 b2 j k (pS l G) (hvL l G 0) wr) := by
            have := HA.out
            rw [Nat.sub_self, List.replicate_zero, List.append_nil, List.take_of_length_le (by rw [HNm.out.2.2.2.1]; exact Nat.le_refl _), ← HH0.out.1] at this
            exact this
          clear HA hlt hj HSh
          go_wp2
          go_loopw [56] (fun iv wr => ∃ i : Nat, i ≤ n ∧ iv = zV i ∧ Hid (Two2 w0 b1 b2 j k (pS l G) (hvL l G i) wr)) (fun iv _ => n - (RowKit.intOf iv).toNat)
          case atStart => exact ⟨0, Nat.zero_le _, rfl, HT1.out⟩
          case round =>
            obtain ⟨i, hi, rfl, HA⟩ := hrel
            clear HT1
            by_cases hlt : i < n
            · obtain ⟨b, off, rfl, hcell⟩ := HCl.out (by omega)
              have g1 := hcell wr HA.out.fresh i hlt
              have hlt' : (i : Int) < (n : Int) := by omega
              obtain ⟨hQ, hq, r0, r1⟩ := HGo.out i hlt
              obtain ⟨q1, q2, _⟩ := HPs.out (i / G) hQ
              have g2 := own_get HA.out.one (i / G) hQ
              rw [q1] at g2
              have hand := low4 ⟨r0, r1⟩
              have HPF : Hid (pF l G i = rdQ (l.getD i 0) (shAt l G (i / G) : Int) % 16 ∧ 0 ≤ pF l G i ∧ pF l G i ≤ 15) := ⟨pF_eq l G i, pF_bound l G i⟩
              have hf := HPF.out.1.symm
              clear hand
              obtain ⟨x0, x1⟩ := HX8.out i
              have HR : Hid (∀ W, _) := fun W => vround_any (l.getD i 0) (shAt l G (i / G) : Int) W ⟨by omega, by omega⟩
              obtain ⟨f0, f1⟩ := HPF.out.2
              have hs5 : (shAt l G (i / G) : Int) ≤ 5 := by omega
              have hs0 : (0 : Int) ≤ (shAt l G (i / G) : Int) := by omega
              have hQ' : ((i / G : Nat) : Int) < (j : Int) := by omega
              have hG0 : ¬ (G : Int) = 0 := by omega
              have HSet : Hid (∀ W, Two2 w0 b1 b2 j k (pS l G) (hvL l G i) W → ∃ c : Nat, c < k ∧ (W.frozen? ⟨b2, c, none⟩ = false ∧ W.cell? ⟨b2, c, none⟩ = some (.int .u8 (hvF l G i c))) ∧ ((i = 2 * c ∧ hvF l G i c = 0 ∧ Two2 w0 b1 b2 j k (pS l G) (hvL l G (i + 1)) (W.setCell ⟨b2, c, none⟩ (.int .u8 (pF l G i)))) ∨ (i = 2 * c + 1 ∧ (0 ≤ hvF l G i c ∧ hvF l G i c ≤ 15) ∧ Two2 w0 b1 b2 j k (pS l G) (hvL l G (i + 1)) (W.setCell ⟨b2, c, none⟩ (.int .u8 (hvF l G i c + 16 * pF l G i)))))) := fun W hW => by
                obtain ⟨n1, _, n3, _, _⟩ := HNm.out
                have hck : i / 2 < k := by omega
                refine ⟨i / 2, hck, ⟨own_frozen hW.two _, by rw [own_get hW.two _ hck, hvL_get (by rw [n1, n3]; exact hck)]⟩, ?_⟩
                rcases Nat.mod_two_eq_zero_or_one i with e | e
                · have hi2 : i = 2 * (i / 2) := by omega
                  obtain ⟨k1, k2⟩ := hvL_even (l := l) (g := G) (k := i / 2) (by omega)
                  rw [← hi2] at k1 k2
                  refine .inl ⟨hi2, k1, ?_⟩
                  rw [← k2]
                  exact hW.set2 _ _
                · have hi2 : i = 2 * (i / 2) + 1 := by omega
                  obtain ⟨k1, k2⟩ := hvL_odd (l := l) (g := G) (k := i / 2) (by omega)
                  rw [← hi2] at k1 k2
                  rw [show 2 * (i / 2) + 2 = i + 1 by omega] at k2
                  refine .inr ⟨hi2, by rw [k1]; exact pF_bound _ _ _, ?_⟩
                  rw [k1, ← k2]
                  exact hW.set2 _ _
              clear hcell q1 q2 HPF HCl HX8 r0 r1
              generalize hQe : i / G = Q at *
              clear hQe
              generalize l.getD i 0 = x at *
              generalize pF l G i = f at *
              generalize shAt l G Q = S at *
              generalize rdQ x (S : Int) = q at *
              go_wp2_with fail
              refine (HR.out _).mono ?_
              rintro e w3 ⟨rfl, d3, hw3⟩
              obtain ⟨c, hck, ⟨z1, z2⟩, hcase⟩ := HSet.out w3 (by rw [hw3]; exact HA.out.drewN d3)
              have hck' : (c : Int) < (k : Int) := by omega
              clear hw3 HA HR HSet g1 g2
              have HFq : Hid (q % 16 = f) := hf
              clear hf
              rcases hcase with ⟨hi2, hv0, hTn⟩ | ⟨hi2, ⟨a0, a1⟩, hTn⟩
              · rw [hv0] at z2
                have t1 : (i : Int).tdiv 2 = (c : Int) := by rw [Int.tdiv_eq_ediv_of_nonneg (by omega)]; omega
                have t2 : (i : Int).tmod 2 = 0 := by rw [Int.tmod_eq_emod_of_nonneg (by omega)]; omega
                have HX : Hid (Two2 w0 b1 b2 j k (pS l G) (hvL l G (i + 1)) ((w3.setCell ⟨b2, c, none⟩ (.int .u8 (bits .or .u8 0 (q % 16)))).drew)) := by
                  show Two2 _ _ _ _ _ _ _ _
                  rw [HFq.out, or_low ⟨f0, f1⟩]
                  exact hTn.drew
                clear hTn hi2 hv0
                go_wp2_with fail
                go_region
                go_wp2
                go_roundw
                case rel => exact ⟨i + 1, hlt, by go_num, HX.out⟩
                case measure => simp [RowKit.intOf]; omega
              · have t1 : (i : Int).tdiv 2 = (c : Int) := by rw [Int.tdiv_eq_ediv_of_nonneg (by omega)]; omega
                have t2 : (i : Int).tmod 2 = 1 := by rw [Int.tmod_eq_emod_of_nonneg (by omega)]; omega
                generalize hvF l G i c = a at *
                have HX : Hid (Two2 w0 b1 b2 j k (pS l G) (hvL l G (i + 1)) ((w3.setCell ⟨b2, c, none⟩ (.int .u8 (bits .or .u8 a (q % 16 * 16)))).drew)) := by
                  show Two2 _ _ _ _ _ _ _ _
                  rw [HFq.out, Int.mul_comm, or_high ⟨a0, a1⟩ ⟨f0, f1⟩]
                  exact hTn.drew
                clear hTn hi2
                go_wp2_with fail
                go_region
                go_wp2
                go_roundw
                case rel => exact ⟨i + 1, hlt, by go_num, HX.out⟩
                case measure => simp [RowKit.intOf]; omega
            · obtain rfl : i = n := by omega
              have hTE := HA.out
              rw [HH0.out.2] at hTE
              obtain ⟨t0, t1, t2, t3, t4⟩ := HRes.out wr hTE.fresh
              have t40 := t4 0
              have t41 := t4 1
              have t42 := t4 2
              have t43 := t4 3
              obtain ⟨r0, r1, r2, r3⟩ := four_set wr w.heap.size (zV i) (zV G) (.slice (some ⟨b1, 0, none⟩) j j) (.slice (some ⟨b2, 0, none⟩) k k) t0 t1 t2 t3
              have HX : Hid _ := HPk.out b1 b2 wr hTE _ (four_kept wr w.heap.size (zV i) (zV G) (.slice (some ⟨b1, 0, none⟩) j j) (.slice (some ⟨b2, 0, none⟩) k k))
              clear HA hTE t4 HPk HRes HGo HPs HCl HX8 hlt hi
              go_wp2
              exact bodyPost_ret (v := .tuple #[.agg #[zV i, zV G, .slice (some ⟨b1, 0, none⟩) j j, .slice (some ⟨b2, 0, none⟩) k k], zV 0]) (by simp [results, Try.results17, go_sem, r0, r1, r2, r3]) rfl HX.out
  · have hE : paE l.length g = 83 := by unfold paE; rw [if_neg h1, if_neg h2]
    rw [decide_eq_false h2] at HG
    obtain ⟨t0, t1, t2, t3, t4⟩ := HRes.out w0 (Kept.refl _ _)
    have t40 := t4 0
    have t41 := t4 1
    have t42 := t4 2
    have t43 := t4 3
    obtain ⟨r0, r1, r2, r3⟩ := four_set w0 w.heap.size (zV 0) (zV 0) (.slice none 0 0) (.slice none 0 0) t0 t1 t2 t3
    have HX : Hid (Packs l g w (.returned (.tuple #[.agg #[zV 0, zV 0, .slice none 0 0, .slice none 0 0], zV 83])) ((((w0.setCell ⟨w.heap.size, 0, none⟩ (zV 0)).setCell ⟨w.heap.size, 1, none⟩ (zV 0)).setCell ⟨w.heap.size, 2, none⟩ (.slice none 0 0)).setCell ⟨w.heap.size, 3, none⟩ (.slice none 0 0))) := .inl ⟨by rw [hE]; omega, by rw [hE], HF0.out.trans (four_kept w0 w.heap.size (zV 0) (zV 0) (.slice none 0 0) (.slice none 0 0)) (fun i hi e => by omega)⟩
    clear hl p1 hE t4 h2
    go_enter Try.func17, Try.ntmps17
    go_wp2_with fail
    rw [← hw0]
    clear hw0 hsz
    refine (HB.out ()).mono ?_
    rintro e w1 ⟨rfl, hw1⟩
    have hw2 := hw1.symm
    subst hw2
    clear hw1 HB
    go_wp2_with fail
    refine (HG.out ()).mono ?_
    rintro e w1 ⟨rfl, hw1⟩
    have hw2 := hw1.symm
    subst hw2
    clear hw1 HG
    go_wp2
    exact bodyPost_ret (v := .tuple #[.agg #[zV 0, zV 0, .slice none 0 0, .slice none 0 0], zV 83]) (by simp [results, Try.results17, go_sem, r0, r1, r2, r3]) rfl HX.out
end Go.Proofs.Ytlepdogfgpeogaa
