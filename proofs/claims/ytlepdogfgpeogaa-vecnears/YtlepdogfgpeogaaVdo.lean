/-
  Pack, the document's.
-/
import Derived.Test.YtlepdogfgpeogaaVdn
import Derived.Test.YtlepdogfgpeogaaVdm
import Derived.Deep.RegionLaw
namespace Go.Proofs.Ytlepdogfgpeogaa
open Go.RowKit Go.Lib Go.Maps

/-- What the document's Pack leaves. -/
def RPacks (l : List Int) (g : Int) (w : World) (x : Ending) (w' : World) : Prop :=
  (paE l.length g ≠ 0 ∧ x = .returned (.tuple #[.agg #[zV 0, zV 0, .slice none 0 0, .slice none 0 0], zV (paE l.length g)]) ∧ Fresh w w') ∨
  (paE l.length g = 0 ∧ ∃ sv hv : Value, x = .returned (.tuple #[.agg #[zV l.length, zV g, sv, hv], zV 0]) ∧ Rk .u8 (fun b => w.heap.size ≤ b ∧ b < w'.heap.size) w' sv (pS l g.toNat) ∧ Rk .u8 (fun b => w.heap.size ≤ b ∧ b < w'.heap.size) w' hv (pH l g.toNat) ∧ Fresh w w')
/-- The halves behind the first i numbers. -/
def rH (l : List Int) (g i : Nat) : List Int := (List.range ((i + 1) / 2)).map (hvF l g i)
theorem rH_length (l : List Int) (g i : Nat) : (rH l g i).length = (i + 1) / 2 := by simp [rH]
theorem rH_end (l : List Int) (g : Nat) : rH l g l.length = pH l g := hvL_end l g
theorem rH_even (l : List Int) (g c : Nat) : rH l g (2 * c) ++ [pF l g (2 * c)] = rH l g (2 * c + 1) := by
  unfold rH
  rw [show (2 * c + 1 + 1) / 2 = (2 * c + 1) / 2 + 1 by omega, List.range_succ, List.map_append]
  congr 1
  · apply List.map_congr_left
    intro k hk
    have : k < (2 * c + 1) / 2 := by simpa using hk
    unfold hvF
    rw [if_pos (by omega), if_pos (by omega), if_pos (by omega), if_pos (by omega)]
  · simp only [List.map_cons, List.map_nil]
    unfold hvF
    rw [show (2 * c + 1) / 2 = c by omega, if_pos (by omega), if_neg (by omega)]
    simp
theorem rH_odd (l : List Int) (g c : Nat) : (rH l g (2 * c + 1)).getD c 0 = pF l g (2 * c) ∧ (rH l g (2 * c + 1)).set c (pF l g (2 * c) + 16 * pF l g (2 * c + 1)) = rH l g (2 * c + 2) := by
  refine ⟨?_, ?_⟩
  · rw [List.getD_eq_getElem?_getD]
    simp only [rH, List.getElem?_map, List.getElem?_range (show c < (2 * c + 1 + 1) / 2 by omega), Option.map_some, Option.getD_some, hvF]
    rw [if_pos (by omega), if_neg (by omega)]
    omega
  · apply List.ext_getElem
    · simp only [List.length_set, rH_length]; omega
    · intro j h1 h2
      rw [List.getElem_set]
      split
      · rename_i e
        subst e
        simp only [rH, List.getElem_map, List.getElem_range, hvF]
        rw [if_pos (by omega), if_pos (by omega)]
      · rename_i e
        simp only [rH, List.getElem_map, List.getElem_range, hvF]
        have e1 : (2 * j < 2 * c + 1) = (2 * j < 2 * c + 2) := by apply propext; omega
        have e2 : (2 * j + 1 < 2 * c + 1) = (2 * j + 1 < 2 * c + 2) := by apply propext; omega
        simp only [e1, e2]
theorem group_le {g : Nat} (hg : 1 ≤ g) (n : Nat) : (n + g - 1) / g ≤ n := by
  rcases Nat.eq_zero_or_pos n with e | e
  · subst e; rw [Nat.div_eq_of_lt (by omega)]; omega
  · have : (n + g - 1) / g < n + 1 := by
      rw [Nat.div_lt_iff_lt_mul hg]
      have h3 : n + g ≤ (n + 1) * g := by rw [Nat.add_mul, Nat.one_mul]; have := Nat.le_mul_of_pos_right n hg; omega
      omega
    omega
theorem groups_end {n g j : Nat} (hg : 1 ≤ g) (h : n ≤ j * g) : (n + g - 1) / g ≤ j := by
  have : (n + g - 1) / g < j + 1 := by
    rw [Nat.div_lt_iff_lt_mul hg, Nat.add_mul, Nat.one_mul]
    omega
  omega
set_option maxHeartbeats 4000000 in
set_option maxRecDepth 100000 in
theorem refPack_any (p : Nat → Prop) (lv : Value) (l : List Int) (g : Int) (w : World) (hl : Rk .i8 p w lv l) (hg : I64 g) :
    Calls Try.prog 18 #[lv, zV g] w fun e w' => RPacks l g w e w' := by
  obtain ⟨ao, ac, hva, _⟩ := hl.shape
  subst hva
  obtain ⟨w0, hw0⟩ : ∃ w0, w0 = w.alloc (.cells #[zV 0, zV 0, .slice none 0 0, .slice none 0 0] 51) := ⟨_, rfl⟩
  have hF0 : Fresh w w0 := by rw [hw0]; exact (Kept.refl _ w).alloc _
  have HF0 : Hid (Fresh w w0) := hF0
  have p1 : w0.heap[w.heap.size]? = some (.cells #[zV 0, zV 0, .slice none 0 0, .slice none 0 0] 51 (0, 0)) := by rw [hw0]; exact heap_alloc_new w _
  have HRes : Hid (∀ W, Fresh w0 W → W.cell? ⟨w.heap.size, 0, none⟩ = some (zV 0) ∧ W.cell? ⟨w.heap.size, 1, none⟩ = some (zV 0) ∧ W.cell? ⟨w.heap.size, 2, none⟩ = some (.slice none 0 0) ∧ W.cell? ⟨w.heap.size, 3, none⟩ = some (.slice none 0 0) ∧ ∀ i, W.frozen? ⟨w.heap.size, i, none⟩ = false) := fun W hF => by
    have q1 := hF.at p1 (fun e => e)
    exact ⟨by rw [Lib.cell_of_heap q1]; rfl, by rw [Lib.cell_of_heap q1]; rfl, by rw [Lib.cell_of_heap q1]; rfl, by rw [Lib.cell_of_heap q1]; rfl, fun i => Lib.frozen_of_heap q1 i⟩
  have hsz : w0.heap.size = w.heap.size + 1 := by rw [hw0]; simp
  obtain ⟨t0, t1, t2, t3, t4⟩ := HRes.out w0 (Kept.refl _ _)
  have HBad : Hid (∀ E, E ≠ 0 → paE l.length g = E → RPacks l g w (.returned (.tuple #[.agg #[zV 0, zV 0, .slice none 0 0, .slice none 0 0], zV E])) w0) := fun E h0 hE => .inl ⟨by rw [hE]; exact h0, by rw [hE], HF0.out⟩
  by_cases h1 : 1048576 < l.length
  · have HX : Hid _ := HBad.out 81 (by omega) (if_pos h1)
    have h1' : (1048576 : Int) < (l.length : Int) := by omega
    clear hl p1 t4 HBad HRes
    go_enter Try.func18, Try.ntmps18
    go_wp2
    rw [← hw0]
    exact bodyPost_ret (v := .tuple #[.agg #[zV 0, zV 0, .slice none 0 0, .slice none 0 0], zV 81]) (by simp [results, Try.results18, go_sem, t0, t1, t2, t3]) rfl HX.out
  have h1' : ¬ (1048576 : Int) < (l.length : Int) := by omega
  by_cases h2 : g < 1
  · have HX : Hid _ := HBad.out 83 (by omega) (by unfold paE; rw [if_neg h1, if_neg (by omega)])
    clear hl p1 t4 HBad HRes
    go_enter Try.func18, Try.ntmps18
    go_wp2
    rw [← hw0]
    exact bodyPost_ret (v := .tuple #[.agg #[zV 0, zV 0, .slice none 0 0, .slice none 0 0], zV 83]) (by simp [results, Try.results18, go_sem, t0, t1, t2, t3]) rfl HX.out
  by_cases h3 : 256 < g
  · have HX : Hid _ := HBad.out 83 (by omega) (by unfold paE; rw [if_neg h1, if_neg (by omega)])
    clear hl p1 t4 HBad HRes
    go_enter Try.func18, Try.ntmps18
    go_wp2
    rw [← hw0]
    exact bodyPost_ret (v := .tuple #[.agg #[zV 0, zV 0, .slice none 0 0, .slice none 0 0], zV 83]) (by simp [results, Try.results18, go_sem, t0, t1, t2, t3]) rfl HX.out
  obtain ⟨G, rfl⟩ : ∃ G : Nat, g = (G : Int) := ⟨g.toNat, by omega⟩
  have hG1 : 1 ≤ G := by omega
  have hG2 : G ≤ 256 := by omega
  have hE : paE l.length (G : Int) = 0 := by unfold paE; rw [if_neg h1, if_pos (by omega)]
  have hgt : ((G : Int)).toNat = G := Int.toNat_natCast G
  obtain ⟨n, hn⟩ : ∃ n, l.length = n := ⟨_, rfl⟩
  obtain ⟨m, hm⟩ : ∃ m, (n + G - 1) / G = m := ⟨_, rfl⟩
  have hnb : n ≤ 1048576 := by omega
  have hall := hl.all
  have HNm : Hid (l.length = n ∧ (n + G - 1) / G = m ∧ (pS l G).length = m) := ⟨hn, hm, by rw [pS_length, hn, hm]⟩
  have HSh : Hid (∀ j M, j < m → M = min G (n - j * G) → j * G + M ≤ n → ∃ b off, ao = some ⟨b, off, none⟩ ∧ ∀ W, Fresh w0 W → Calls Try.prog 43 #[.slice (some ⟨b, off + j * G, none⟩) M (ac - j * G)] W fun e w' => e = .returned (zV (shAt l G j : Nat)) ∧ Drew W w') := fun j M hj hM hle => by
    have hlt := group_at (n := n) hG1 (by rw [hm]; exact hj)
    obtain ⟨b, off, e, _⟩ := hl.cells.2.2.2 (by omega)
    subst e
    refine ⟨b, off, rfl, fun W hF => ?_⟩
    have hc := (hl.fresh (HF0.out.trans hF (fun _ _ e => e))).cut (j * G) M (by omega)
    have := refShift_at _ _ _ W hc
    rw [take_short (by rw [hn]; exact hM)] at this
    exact this
  have HCl : Hid (0 < n → ∃ b off, ao = some ⟨b, off, none⟩ ∧ ∀ W, Fresh w0 W → ∀ i, i < n → W.cell? ⟨b, off + i, none⟩ = some (.int .i8 (l.getD i 0))) := fun hp => by
    obtain ⟨b, off, e, _, hb, hcell⟩ := hl.cells.2.2.2 (by omega)
    exact ⟨b, off, e, fun W hF i hi => ((HF0.out.trans hF (fun _ _ e => e)).cell (p := ⟨b, off + i, none⟩) hb (fun e => e)).trans (hcell i (by omega))⟩
  have HX8 : Hid (∀ i, C8 (l.getD i 0)) := fun i => hl.get i
  have hnac : n ≤ ac := by rw [← hn]; exact hl.cells.2.1
  have HPs : Hid (∀ j, j < m → (pS l G).getD j 0 = (shAt l G j : Int) ∧ shAt l G j ≤ 5 ∧ (pS l G).take (j + 1) = (pS l G).take j ++ [(shAt l G j : Int)]) := fun j hj => ⟨pS_get (by rw [hn, hm]; exact hj), shAt_le hall G j, pS_take (by rw [hn, hm]; exact hj)⟩
  have HGo : Hid (∀ i, i < n → i / G < m ∧ (i : Int).tdiv (G : Int) = ((i / G : Nat) : Int) ∧ -7 ≤ rdQ (l.getD i 0) (shAt l G (i / G) : Int) ∧ rdQ (l.getD i 0) (shAt l G (i / G) : Int) ≤ 7) := fun i hi => ⟨by rw [← hm]; exact group_of hG1 hi, by rw [Int.tdiv_eq_ediv_of_nonneg (by omega), Int.natCast_ediv], pF_room hall hG1 (by rw [hn]; exact hi)⟩
  obtain ⟨w1, hw1⟩ : ∃ w1, w1 = w0.alloc (.cells #[zV n, zV G, .slice none 0 0, .slice none 0 0] 51) := ⟨_, rfl⟩
  have HS0 : Hid (RS w0 w0.heap.size w1.heap.size n G (.slice none 0 0) (.slice none 0 0) ((pS l G).take 0) (rH l G 0) w1) := by
    show RS _ _ _ _ _ _ _ _ _ _
    have hF : Fresh w0 w1 := by rw [hw1]; exact (Kept.refl _ w0).alloc _
    have hs : w1.heap.size = w0.heap.size + 1 := by rw [hw1]; simp
    refine ⟨⟨fun r hr => ?_, by simp [Value.ownBlock]⟩, by rw [hw1]; exact heap_alloc_new w0 _, by omega, Nat.le_refl _, Nat.le_refl _, hF⟩
    simp only [List.mem_cons, List.not_mem_nil, or_false] at hr
    rcases hr with e | e
    · subst e; exact own_nil _ _ _
    · subst e; exact own_nil _ _ _
  obtain ⟨B, hB⟩ : ∃ B, w1.heap.size = B := ⟨_, rfl⟩
  have HSz : Hid (w0.heap.size = w.heap.size + 1) := hsz
  rw [hsz, hB] at HS0
  have HPk : Hid (∀ sv hv W, RS w0 (w.heap.size + 1) B n G sv hv (pS l G) (pH l G) W → ∀ W', Kept (fun x => x = w.heap.size) W W' → RPacks l (G : Int) w (.returned (.tuple #[.agg #[zV n, zV G, sv, hv], zV 0])) W') := fun sv hv W hT W' hK => by
    have hs1 := HF0.out.size
    have hs2 := hT.ge
    have hs3 := hT.lt
    have hW : Fresh w W' := (HF0.out.trans hT.fr (fun _ _ e => e)).trans hK (fun i hi e => by omega)
    have o1 := owns_kept hT.own1 hK (fun g e e2 => by have := own_ge hT.own1 e; omega)
    have o2 := owns_kept hT.own2 hK (fun g e e2 => by have := own_ge hT.own2 e; omega)
    refine .inr ⟨hE, sv, hv, by rw [hn], ?_, ?_, hW⟩
    · rw [hgt]
      exact (rk_of_own o1 (by rw [pS_length]; simp only [kb]; have := group_le hG1 l.length; omega) (fun z hz => pS_byte hall G z hz)).mono (fun b hb => ⟨by omega, hb.2⟩)
    · rw [hgt]
      exact (rk_of_own o2 (by rw [pH_length]; simp only [kb]; omega) (fun z hz => pH_byte l G z hz)).mono (fun b hb => ⟨by omega, hb.2⟩)
  rw [hn]
  rw [hn] at h1'
  clear p1 hl hall hn hm hE hgt h1 t4 HBad hF0
  go_enter Try.func18, Try.ntmps18
  go_wp2
  rw [← hw0, ← hw1]
  clear hw0 hw1 hsz hB t0 t1 t2 t3
  go_loopw [7] (fun iv wr => ∃ (J : Nat), J ≤ n + G ∧ iv = zV J ∧ Hid (∃ j a c, J = j * G ∧ j ≤ m ∧ RS w0 (w.heap.size + 1) B n G (.slice a j c) (.slice none 0 0) ((pS l G).take j) (rH l G 0) wr)) (fun iv _ => n - (RowKit.intOf iv).toNat)
  case atStart => exact ⟨0, Nat.zero_le _, rfl, 0, _, _, by simp, Nat.zero_le _, HS0.out⟩
  case round =>
    obtain ⟨J, hJb, rfl, HA⟩ := hrel
    clear HS0
    obtain ⟨j, a, c, hJ, hjm, hRS⟩ := HA.out
    clear HA
    by_cases hlt : J < n
    · have hlt' : (J : Int) < (n : Int) := by omega
      have hj : j < m := by
        rcases Nat.lt_or_ge j m with e | e
        · exact e
        · exfalso
          obtain rfl : j = m := by omega
          have h5 := Nat.div_add_mod (n + G - 1) G
          have h6 := Nat.mod_lt (n + G - 1) hG1
          rw [HNm.out.2.1, Nat.mul_comm, ← hJ] at h5
          omega
      obtain ⟨q1, q2, q3⟩ := HPs.out j hj
      have hjl : ((pS l G).take j).length = j := by rw [List.length_take, HNm.out.2.2]; omega
      have hwS : IntKind.u8.wrap (shAt l G j : Int) = (shAt l G j : Int) := by rw [IntKind.wrap_u8]; omega
      have HPu : Hid (∀ d, ∃ a' c' X', (Builtin.append_ #[46, 46] 46 #[.slice a j c, .slice (some ⟨(wr.drewN d).heap.size, 0, none⟩) 1 1]).run Try.prog ((wr.drewN d).alloc (.cells #[.int .u8 (IntKind.u8.wrap (shAt l G j : Int))] 5)) = .ok (.slice a' (j + 1) c') X' ∧ (X'.cell? ⟨w.heap.size + 1, 2, none⟩ = some (.slice a j c) ∧ X'.frozen? ⟨w.heap.size + 1, 2, none⟩ = false) ∧ RS w0 (w.heap.size + 1) B n G (.slice a' (j + 1) c') (.slice none 0 0) ((pS l G).take (j + 1)) (rH l G 0) (X'.setCell ⟨w.heap.size + 1, 2, none⟩ (.slice a' (j + 1) c'))) := fun d => by
        obtain ⟨a', c', X', k1, k2, k3⟩ := (hRS.fresh ((Kept.refl _ wr).drewN d)).push1 (shAt l G j : Int) (by rw [hjl]; have := group_le hG1 n; have := HNm.out.2.1; omega)
        rw [hjl] at k1 k3
        rw [← q3] at k3
        exact ⟨a', c', X', by rw [hwS]; exact k1, k2, k3⟩
      obtain ⟨_, _, c2, _, _⟩ := hRS.cells
      have c3 : ∀ (d : Nat) (ob : Obj), ((wr.drewN d).alloc ob).cell? ⟨w.heap.size + 1, 2, none⟩ = some (.slice a j c) := fun d ob => (hRS.fresh (((Kept.refl _ wr).drewN d).alloc ob)).cells.2.2.1
      have hPl : w.heap.size + 1 < wr.heap.size := lt_of_heap hRS.pc
      have HFr : Hid (Fresh w0 wr.drew) := hRS.fr.drew
      have hcm : ¬ ac = J := by omega
      have hs5 : (shAt l G j : Int) ≤ 5 := by omega
      obtain ⟨E, hE⟩ : ∃ E, J + G = E := ⟨_, rfl⟩
      have hEi : (J : Int) + (G : Int) = (E : Int) := by omega
      have HJ1 : Hid (E = (j + 1) * G ∧ j + 1 ≤ m ∧ E ≤ n + G ∧ J < E) := ⟨by rw [← hE, hJ, Nat.add_mul, Nat.one_mul], hj, by omega, by omega⟩
      have hJE : (J : Int) ≤ (E : Int) := by omega
      have hEb : (E : Int) ≤ 2097152 := by omega
      by_cases hle : E ≤ n
      · obtain ⟨b, off, rfl, hcall⟩ := HSh.out j (E - J) hj (by rw [← hJ]; omega) (by rw [← hJ]; omega)
        rw [← hJ] at hcall
        have HC : Hid (Unit → _) := fun (_ : Unit) => hcall wr.drew HFr.out
        have hle1 : ¬ (n : Int) < (E : Int) := by omega
        have hle2 : (E : Int) ≤ (ac : Int) := by omega
        clear hcall hJ q1 q2 q3 hRS hjl HSh hE hwS
        generalize shAt l G j = S at *
        go_wp2_with fail
        go_region_law (first
          | (obtain ⟨a', c', X', hra, ⟨z1, z2⟩, hRn⟩ := HPu.out (1 + d5); refine step_app rfl _ _ _ _ rfl _ _ (by rfl) (by rfl) _ _ hra ?_)
          | (go_simp; go_wp2_with (go_at_call 43; (with_reducible refine (HC.out ()).mono ?_); rintro q5 X5 ⟨rfl, d5, rfl⟩)))
        all_goals
          have HX := show Hid _ from hRn
          clear hRn hra HPu HC z1 z2
          go_wp2
          go_roundw
          case rel => exact ⟨E, HJ1.out.2.2.1, by go_num, j + 1, a', c', HJ1.out.1, HJ1.out.2.1, HX.out⟩
          case measure => simp [RowKit.intOf]; have := HJ1.out.2.2.2; omega
      · obtain ⟨b, off, rfl, hcall⟩ := HSh.out j (n - J) hj (by rw [← hJ]; omega) (by rw [← hJ]; omega)
        rw [← hJ] at hcall
        have HC : Hid (Unit → _) := fun (_ : Unit) => hcall wr.drew HFr.out
        have hle1 : (n : Int) < (E : Int) := by omega
        have hle2 : (n : Int) ≤ (ac : Int) := by omega
        have hJn : (J : Int) ≤ (n : Int) := by omega
        clear hcall hJ q1 q2 q3 hRS hjl HSh hE hwS
        generalize shAt l G j = S at *
        go_wp2_with fail
        go_region_law (first
          | (obtain ⟨a', c', X', hra, ⟨z1, z2⟩, hRn⟩ := HPu.out (1 + d5); refine step_app rfl _ _ _ _ rfl _ _ (by rfl) (by rfl) _ _ hra ?_)
          | (go_simp; go_wp2_with (go_at_call 43; (with_reducible refine (HC.out ()).mono ?_); rintro q5 X5 ⟨rfl, d5, rfl⟩)))
        all_goals
          have HX := show Hid _ from hRn
          clear hRn hra HPu HC z1 z2
          go_wp2
          go_roundw
          case rel => exact ⟨E, HJ1.out.2.2.1, by go_num, j + 1, a', c', HJ1.out.1, HJ1.out.2.1, HX.out⟩
          case measure => simp [RowKit.intOf]; have := HJ1.out.2.2.2; omega
    · have hj : j = m := by
        have h1 := groups_end hG1 (n := n) (j := j) (by rw [← hJ]; omega)
        have := HNm.out.2.1
        omega
      subst hj
      have HT1 : Hid (∃ a2 c2, RS w0 (w.heap.size + 1) B n G (.slice a j c) (.slice a2 ((0 + 1) / 2) c2) (pS l G) (rH l G 0) wr) := by
        refine ⟨none, 0, ?_⟩
        rw [List.take_of_length_le (by rw [HNm.out.2.2]; exact Nat.le_refl _)] at hRS
        exact hRS
      have hlt' : ¬ (J : Int) < (n : Int) := by omega
      clear hRS hJ hjm HSh
      go_wp2
      go_loopw [57] (fun iv wr => ∃ i : Nat, i ≤ n ∧ iv = zV i ∧ Hid (∃ a2 c2, RS w0 (w.heap.size + 1) B n G (.slice a j c) (.slice a2 ((i + 1) / 2) c2) (pS l G) (rH l G i) wr)) (fun iv _ => n - (RowKit.intOf iv).toNat)
      case atStart => exact ⟨0, Nat.zero_le _, rfl, HT1.out⟩
      case round =>
        obtain ⟨i, hi, rfl, HA⟩ := hrel
        clear HT1
        obtain ⟨a2, c2, hRS⟩ := HA.out
        clear HA
        by_cases hlt2 : i < n
        · obtain ⟨b, off, rfl, hcell⟩ := HCl.out (by omega)
          have g1 := hcell wr hRS.fr i hlt2
          have hlt2' : (i : Int) < (n : Int) := by omega
          obtain ⟨hQ, hq, y0, y1⟩ := HGo.out i hlt2
          obtain ⟨q1, q2, _⟩ := HPs.out (i / G) hQ
          have hl1 : (pS l G).length = j := HNm.out.2.2
          obtain ⟨gs, hgs⟩ : ∃ gs, a = some ⟨gs, 0, none⟩ := by
            have ho := hRS.own1
            rcases ho.2 with ⟨e, _⟩ | ⟨g', cap', cur, hv, _⟩
            · injection e with _ e2 _
              rw [e2] at hQ
              exact absurd hQ (Nat.not_lt_zero _)
            · injection hv with e1 _ _
              exact ⟨g', e1⟩
          subst hgs
          have ho1 := hRS.own1
          rw [hl1] at ho1
          have g2 := own_get ho1 (i / G) hQ
          rw [q1] at g2
          obtain ⟨_, _, c3, c4, c5⟩ := hRS.cells
          have HRd : Hid (∀ d, Calls Try.prog 14 #[zV (l.getD i 0), zV (shAt l G (i / G) : Nat)] (wr.drewN d) fun e w' => e = .returned (.tuple #[zV (rdQ (l.getD i 0) (shAt l G (i / G) : Int)), zV (rdE (shAt l G (i / G) : Int))]) ∧ ∃ n, w' = (wr.drewN d).drewN n) := fun d => refRound_any _ _ _ ⟨by have := (HX8.out i).1; omega, by have := (HX8.out i).2; omega⟩
          have HPF : Hid (pF l G i = rdQ (l.getD i 0) (shAt l G (i / G) : Int) % 16) := pF_eq l G i
          obtain ⟨x0, x1⟩ := HX8.out i
          have hs5 : (shAt l G (i / G) : Int) ≤ 5 := by omega
          have hs0 : (0 : Int) ≤ (shAt l G (i / G) : Int) := by omega
          have hQ' : ((i / G : Nat) : Int) < (j : Int) := by omega
          have hQ0 : (0 : Int) ≤ ((i / G : Nat) : Int) := Int.natCast_nonneg _
          have hG0 : ¬ (G : Int) = 0 := by omega
          have hG0n : ¬ G = 0 := by omega
          have hG0b : ((G : Int) == 0) = false := by simp; omega
          have hjb : (j : Int) ≤ 1048576 := by have h5 := group_le hG1 n; rw [HNm.out.2.1] at h5; omega
          have HEv : Hid (∀ (d : Nat) (f : Int), i % 2 = 0 → pF l G i = f → ∃ a' c' X', (Builtin.append_ #[46, 46] 46 #[.slice a2 ((i + 1) / 2) c2, .slice (some ⟨(wr.drewN d).heap.size, 0, none⟩) 1 1]).run Try.prog ((wr.drewN d).alloc (.cells #[.int .u8 f] 5)) = .ok (.slice a' ((i + 1 + 1) / 2) c') X' ∧ (X'.cell? ⟨w.heap.size + 1, 3, none⟩ = some (.slice a2 ((i + 1) / 2) c2) ∧ X'.frozen? ⟨w.heap.size + 1, 3, none⟩ = false) ∧ RS w0 (w.heap.size + 1) B n G (.slice (some ⟨gs, 0, none⟩) j c) (.slice a' ((i + 1 + 1) / 2) c') (pS l G) (rH l G (i + 1)) (X'.setCell ⟨w.heap.size + 1, 3, none⟩ (.slice a' ((i + 1 + 1) / 2) c'))) := fun d f he hf => by
            obtain ⟨a', c', X', k1, k2, k3⟩ := (hRS.fresh ((Kept.refl _ wr).drewN d)).push2 f (by rw [rH_length]; omega)
            have hi2 : i = 2 * (i / 2) := by omega
            rw [rH_length, show (i + 1) / 2 + 1 = (i + 1 + 1) / 2 by omega] at k1 k3
            have hev := rH_even l G (i / 2)
            rw [← hi2, hf] at hev
            rw [hev] at k3
            exact ⟨a', c', X', k1, k2, k3⟩
          have HOd : Hid (i % 2 = 1 → ∃ (g2 : Nat) (av : Int), a2 = some ⟨g2, 0, none⟩ ∧ i / 2 < (i + 1) / 2 ∧ (wr.cell? ⟨g2, i / 2, none⟩ = some (.int .u8 av) ∧ wr.frozen? ⟨g2, i / 2, none⟩ = false) ∧ (0 ≤ av ∧ av ≤ 15) ∧ (i + 1) / 2 = (i + 1 + 1) / 2 ∧ ∀ (d : Nat) (f : Int), pF l G i = f → RS w0 (w.heap.size + 1) B n G (.slice (some ⟨gs, 0, none⟩) j c) (.slice (some ⟨g2, 0, none⟩) ((i + 1 + 1) / 2) c2) (pS l G) (rH l G (i + 1)) ((wr.drewN d).setCell ⟨g2, i / 2, none⟩ (.int .u8 (av + 16 * f)))) := fun ho => by
            have hi2 : i = 2 * (i / 2) + 1 := by omega
            have hown := hRS.own2
            rw [rH_length] at hown
            have hk2 : i / 2 < (i + 1) / 2 := by omega
            obtain ⟨g2, hg2⟩ : ∃ g2, a2 = some ⟨g2, 0, none⟩ := by
              rcases hown.2 with ⟨e, _⟩ | ⟨g', cap', cur, hv, _⟩
              · injection e with _ e2 _
                omega
              · injection hv with e1 _ _
                exact ⟨g', e1⟩
            subst hg2
            obtain ⟨k1, k2⟩ := rH_odd l G (i / 2)
            rw [← hi2] at k1 k2
            rw [show 2 * (i / 2) + 2 = i + 1 by omega] at k2
            refine ⟨g2, pF l G (2 * (i / 2)), rfl, hk2, ⟨by rw [own_get hown _ hk2, k1], own_frozen hown _⟩, pF_bound _ _ _, by omega, fun d f hf => ?_⟩
            have h3 := hRS.fresh ((Kept.refl _ wr).drewN d)
            have hlen := rH_length l G i
            rw [← hlen] at h3
            have h4 := h3.set2 (i / 2) (pF l G (2 * (i / 2)) + 16 * f)
            rw [← hf, k2, hlen, show (i + 1) / 2 = (i + 1 + 1) / 2 by omega] at h4
            rw [← hf]
            exact h4
          have HRS : Hid _ := hRS
          clear hcell q1 q2 ho1 hRS HCl HX8
          generalize hQe : i / G = Q at *
          clear hQe
          generalize l.getD i 0 = x at *
          generalize shAt l G Q = S at *
          generalize rdQ x (S : Int) = q at *
          generalize rdE (S : Int) = re at *
          have hqw : IntKind.i64.wrap ((i : Int).tdiv (G : Int)) = (Q : Int) := by rw [hq, IntKind.wrap_i64]; omega
          have hxw : IntKind.i64.wrap x = x := by rw [IntKind.wrap_i64]; omega
          have hsw : IntKind.i64.wrap (S : Int) = (S : Int) := by rw [IntKind.wrap_i64]; omega
          go_wp2_with fail
          go_quiet ((go_at_call 14; exact Calls.quiet_of (HRd.out _)))
          have HFf : Hid (pF l G i = q % 16) := HPF.out
          have hPl : w.heap.size + 1 < wr.heap.size := lt_of_heap HRS.out.pc
          have c50 := c5 3
          clear HPF HRd HRS g1 g2 hq hqw hxw hsw c5 c3
          obtain ⟨k0, hk0⟩ : ∃ k0, (i + 1) / 2 = k0 := ⟨_, rfl⟩
          obtain ⟨k1, hk1⟩ : ∃ k1, (i + 1 + 1) / 2 = k1 := ⟨_, rfl⟩
          have HK : Hid ((i + 1) / 2 = k0 ∧ (i + 1 + 1) / 2 = k1) := ⟨hk0, hk1⟩
          rw [hk0, hk1] at HEv HOd
          rw [hk0] at c4
          have hk0b : (k0 : Int) ≤ 1048576 := by omega
          clear hk0 hk1
          by_cases hqn : q < 0
          · have HF2 : Hid (pF l G i = (q + 16)) := by show _ = _; rw [HFf.out]; omega
            by_cases hev : i % 2 = 0
            · obtain ⟨a', c', X', hra, ⟨z1, z2⟩, hRn⟩ := HEv.out nq (q + 16) hev HF2.out
              have HX : Hid _ := hRn
              have tm : (i : Int).tmod 2 = 0 := by rw [Int.tmod_eq_emod_of_nonneg (by omega)]; omega
              clear hRn HEv HOd HFf HF2 hev
              go_wp2_with (at_builtin; refine Lib.wpList_append_run _ rfl _ _ _ _ rfl _ _ rfl rfl _ _ hra ?_)
              go_roundw
              case rel => exact ⟨i + 1, hlt2, by go_num, a', c', by rw [HK.out.2]; exact HX.out⟩
              case measure => simp [RowKit.intOf]; omega
            · obtain ⟨g2, av, rfl, hic, ⟨z1, z2⟩, ⟨v0, v1⟩, hkk, hset⟩ := HOd.out (by omega)
              have HX : Hid _ := hset nq (q + 16) HF2.out
              have tm : (i : Int).tmod 2 = 1 := by rw [Int.tmod_eq_emod_of_nonneg (by omega)]; omega
              obtain ⟨cc, hcc⟩ : ∃ cc, i / 2 = cc := ⟨_, rfl⟩
              have td : (i : Int).tdiv 2 = (cc : Int) := by rw [Int.tdiv_eq_ediv_of_nonneg (by omega)]; omega
              rw [hcc] at hic z1 z2 HX
              have hic' : (cc : Int) < (k0 : Int) := by omega
              clear HEv HOd HFf HF2 hev hset hcc hkk
              go_wp2
              go_roundw
              case rel => exact ⟨i + 1, hlt2, by go_num, _, _, by rw [HK.out.2]; exact HX.out⟩
              case measure => simp [RowKit.intOf]; omega
          · have HF2 : Hid (pF l G i = q) := by show _ = _; rw [HFf.out]; omega
            by_cases hev : i % 2 = 0
            · obtain ⟨a', c', X', hra, ⟨z1, z2⟩, hRn⟩ := HEv.out nq q hev HF2.out
              have HX : Hid _ := hRn
              have tm : (i : Int).tmod 2 = 0 := by rw [Int.tmod_eq_emod_of_nonneg (by omega)]; omega
              clear hRn HEv HOd HFf HF2 hev
              go_wp2_with (at_builtin; refine Lib.wpList_append_run _ rfl _ _ _ _ rfl _ _ rfl rfl _ _ hra ?_)
              go_roundw
              case rel => exact ⟨i + 1, hlt2, by go_num, a', c', by rw [HK.out.2]; exact HX.out⟩
              case measure => simp [RowKit.intOf]; omega
            · obtain ⟨g2, av, rfl, hic, ⟨z1, z2⟩, ⟨v0, v1⟩, hkk, hset⟩ := HOd.out (by omega)
              have HX : Hid _ := hset nq q HF2.out
              have tm : (i : Int).tmod 2 = 1 := by rw [Int.tmod_eq_emod_of_nonneg (by omega)]; omega
              obtain ⟨cc, hcc⟩ : ∃ cc, i / 2 = cc := ⟨_, rfl⟩
              have td : (i : Int).tdiv 2 = (cc : Int) := by rw [Int.tdiv_eq_ediv_of_nonneg (by omega)]; omega
              rw [hcc] at hic z1 z2 HX
              have hic' : (cc : Int) < (k0 : Int) := by omega
              clear HEv HOd HFf HF2 hev hset hcc hkk
              go_wp2
              go_roundw
              case rel => exact ⟨i + 1, hlt2, by go_num, _, _, by rw [HK.out.2]; exact HX.out⟩
              case measure => simp [RowKit.intOf]; omega
        · obtain rfl : i = n := by omega
          have hTE := hRS
          have hpH : rH l G i = pH l G := by rw [← HNm.out.1]; exact rH_end l G
          rw [hpH] at hTE
          obtain ⟨t0, t1, t2, t3, t4⟩ := HRes.out wr hTE.fr
          have t40 := t4 0
          have t41 := t4 1
          have t42 := t4 2
          have t43 := t4 3
          obtain ⟨k0, k1, k2, k3, _⟩ := hTE.cells
          obtain ⟨r0, r1, r2, r3⟩ := four_set wr w.heap.size (zV i) (zV G) (.slice a j c) (.slice a2 ((i + 1) / 2) c2) t0 t1 t2 t3
          have HX : Hid _ := HPk.out _ _ wr hTE _ (four_kept wr w.heap.size (zV i) (zV G) (.slice a j c) (.slice a2 ((i + 1) / 2) c2))
          clear hTE t4 HPk HRes HGo HPs HCl HX8 hlt2 hi hRS hpH
          generalize (i + 1) / 2 = k at *
          go_wp2
          exact bodyPost_ret (v := .tuple #[.agg #[zV i, zV G, .slice a j c, .slice a2 k c2], zV 0]) (by simp [results, Try.results18, go_sem, r0, r1, r2, r3]) rfl HX.out
end Go.Proofs.Ytlepdogfgpeogaa
