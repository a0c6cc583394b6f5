/-
  For every list and every group the statement VecNears answers true: awake does; what is packed and unpacked lies within half of its group's power of two, small numbers stay, and packed again it is the same.
-/
import Derived.Test.YtlepdogfgpeogaaLPacks8
import Derived.Test.YtlepdogfgpeogaaVdp
namespace Go.Proofs.Ytlepdogfgpeogaa.Nears8
open Go.ChangeShapes Go.WideShapes Go.ChangeAt Go.RowKit Go.Lib Go.Maps

/-- Unpack of what Pack made. -/
theorem unpack_pack (p : Nat → Prop) (l : List Int) (G : Nat) (sv hv : Value) (w : World) (hl : ∀ y ∈ l, -128 ≤ y ∧ y ≤ 127) (hG1 : 1 ≤ G) (hG2 : G ≤ 256) (hn : l.length ≤ 1048576) (hS : Rk .u8 p w sv (pS l G)) (hH : Rk .u8 p w hv (pH l G)) :
    Calls Try.prog 21 #[.agg #[zV (l.length : Nat), zV (G : Nat), sv, hv]] w fun e w' => Gives .i8 38 (upL l G) 0 w e w' := by
  have h := Unpack_any p (l.length : Int) (G : Int) sv hv _ _ w hS hH ⟨by omega, by omega⟩ ⟨by omega, by omega⟩
  have hr := right_pack hl hG1 hG2 hn
  have e1 : uL (l.length : Int) (G : Int) (pS l G) (pH l G) = upL l G := by
    unfold uL
    rw [if_pos hr, Int.toNat_natCast, Int.toNat_natCast]
    exact uA_up hl hG1
  have e2 : uE (l.length : Int) (G : Int) (pS l G) (pH l G) = 0 := if_pos hr
  rwa [e1, e2] at h

set_option maxHeartbeats 8000000 in
set_option maxRecDepth 100000 in
theorem walk (lv : Value) (l : List Int) (g : Int) (w : World) (hl : Rk .i8 (fun b => b < w.heap.size) w lv l) (hg : I64 g) :
    Calls Try.prog 6 #[lv, zV g] w fun e w' => e = .returned (.bool true) ∧ Fresh w w' := by
  have HAW : Hid (∀ W : World, _) := fun (W : World) => awake_any W
  have HL : Hid (∀ W, Fresh w W → Rk .i8 (fun b => b < w.heap.size) W lv l) := fun W hF => hl.fresh hF
  have HG : Hid (I64 g ∧ ∀ y ∈ l, C8 y) := ⟨hg, hl.all⟩
  obtain ⟨g0, g1⟩ := hg
  have hmany := hl.many
  obtain ⟨ao, ac, rfl, _⟩ := hl.shape
  clear hl
  obtain ⟨n, hn⟩ : ∃ n, l.length = n := ⟨_, rfl⟩
  have HN : Hid (l.length = n) := hn
  rw [hn] at HL hmany ⊢
  clear hn
  by_cases h0 : paE n g = 0
  · have hok : n ≤ 1048576 ∧ 1 ≤ g ∧ g ≤ 256 := by
      unfold paE at h0
      split at h0
      · cases h0
      · split at h0
        · omega
        · cases h0
    obtain ⟨hnb, hg1, hg2⟩ := hok
    obtain ⟨G, rfl⟩ : ∃ G : Nat, g = (G : Int) := ⟨g.toNat, by omega⟩
    have hG1 : 1 ≤ G := by omega
    have hG2 : G ≤ 256 := by omega
    obtain ⟨m, hm⟩ : ∃ m, (n + G - 1) / G = m := ⟨_, rfl⟩
    have hmn : m ≤ n := by rw [← hm]; exact group_le hG1 n
    have HE : Hid (∀ u : List Int, u.length = n → paE u.length (G : Int) = 0 ∧ pkN u (G : Int) = (n : Int) ∧ pkG u (G : Int) = (G : Int) ∧ pkS u (G : Int) = pS u G ∧ pkH u (G : Int) = pH u G ∧ (pS u G).length = m) := fun u hu => by
      have h1 : paE u.length (G : Int) = 0 := by rw [hu]; exact h0
      exact ⟨h1, by unfold pkN; rw [if_pos h1, hu], if_pos h1, by unfold pkS; rw [if_pos h1, Int.toNat_natCast], by unfold pkH; rw [if_pos h1, Int.toNat_natCast], by rw [pS_length, hu, hm]⟩
    have htd : ((n : Int) + (G : Int) - 1).tdiv (G : Int) = (m : Int) := by
      rw [Int.tdiv_eq_ediv_of_nonneg (by omega), ← hm, Int.natCast_ediv]
      congr 1
      omega
    have hc1 : ¬ (G : Int) < 1 := by omega
    have hc2 : ¬ (256 : Int) < (G : Int) := by omega
    have hc3 : ¬ (1048576 : Int) < (n : Int) := by omega
    have hG0 : ¬ (G : Int) = 0 := by omega
    have hG0n : ¬ G = 0 := by omega
    have hG0b : ((G : Int) == 0) = false := by simp; omega
    go_enter Try.func6, Try.ntmps6
    go_wp2_with fail
    refine (HAW.out _).mono ?_
    rintro e w0 ⟨rfl, hF0⟩
    have HF0 : Hid (Fresh w w0) := hF0
    have H1 : Hid (Unit → _) := fun (_ : Unit) => Pack_any _ _ l (G : Int) w0 (HL.out w0 hF0) HG.out.1
    clear hF0 HAW
    go_wp2_with fail
    refine (H1.out ()).mono ?_
    rintro e w2 hP
    obtain ⟨a1, a2, rfl, o1, o2, _, hF2⟩ := hP.get
    obtain ⟨z1, z2, z3, z4, z5, z6⟩ := HE.out l HN.out
    rw [z4] at o1
    rw [z5] at o2
    rw [z1, z2, z3, z4, z5]
    obtain ⟨nh, hnh⟩ : ∃ nh, (pH l G).length = nh := ⟨_, rfl⟩
    rw [z6] at o1
    rw [hnh] at o2
    rw [z6, hnh]
    obtain ⟨w3, hw3⟩ : ∃ w3, w2.alloc (.cells #[zV (n : Int), zV (G : Int), .slice a1 m m, .slice a2 nh nh] 48) = w3 := ⟨_, rfl⟩
    have hF3 : Fresh w2 w3 := by rw [← hw3]; exact (Kept.refl _ w2).alloc _
    have p3 : w3.heap[w2.heap.size]? = some (.cells #[zV (n : Int), zV (G : Int), .slice a1 m m, .slice a2 nh nh] 48 (0, 0)) := by rw [← hw3]; exact heap_alloc_new w2 _
    have q1 := rk_of_own (owns_kept o1 hF3 (fun _ _ e => e)) (by rw [z6]; simp only [kb]; omega) (fun z hz => pS_byte HG.out.2 G z hz)
    have q2 := rk_of_own (owns_kept o2 hF3 (fun _ _ e => e)) (by rw [pH_length, HN.out]; simp only [kb]; omega) (fun z hz => pH_byte l G z hz)
    have hU := unpack_pack _ l G _ _ w3 HG.out.2 hG1 hG2 (by rw [HN.out]; exact hnb) q1 q2
    rw [HN.out] at hU
    have H3 : Hid (Unit → _) := fun (_ : Unit) => hU
    have HSt : Hid (∀ W, Fresh w3 W → (W.cell? ⟨w2.heap.size, 0, none⟩ = some (zV (n : Int)) ∧ W.cell? ⟨w2.heap.size, 1, none⟩ = some (zV (G : Int)) ∧ W.cell? ⟨w2.heap.size, 2, none⟩ = some (.slice a1 m m) ∧ W.cell? ⟨w2.heap.size, 3, none⟩ = some (.slice a2 nh nh)) ∧ Rk .u8 (fun b => w0.heap.size ≤ b ∧ b < w3.heap.size) W (.slice a1 m m) (pS l G)) := fun W hF => by
      have h := hF.at p3 (fun e => e)
      exact ⟨⟨by rw [Lib.cell_of_heap h]; rfl, by rw [Lib.cell_of_heap h]; rfl, by rw [Lib.cell_of_heap h]; rfl, by rw [Lib.cell_of_heap h]; rfl⟩, q1.fresh hF⟩
    have HF3 : Hid (Fresh w w3) := (HF0.out.trans hF2 (fun _ _ e => e)).trans hF3 (fun _ _ e => e)
    obtain ⟨⟨d0, d1, d2, d3⟩, _⟩ := HSt.out w3 (Kept.refl _ _)
    clear H1 hP o1 o2 hF2 z1 z2 z3 z4 z5 hnh hF3 p3 q1 q2 hU HF0
    go_wp2_with fail
    refine (H3.out ()).mono ?_
    rintro e w4 hGv
    have hup : (upL l G).length = n := by rw [upL_length, HN.out]
    obtain ⟨vk, rfl, hRk, hF4⟩ := hGv.row (by rw [hup]; simp only [kb]; omega) (fun z hz => upL_small l G z hz)
    obtain ⟨ko, kc, hvk, _⟩ := hRk.shape
    rw [hup] at hvk
    subst hvk
    have HRk : Hid (∀ W, Fresh w4 W → Rk .i8 (fun b => w3.heap.size ≤ b ∧ b < w4.heap.size) W (.slice ko n kc) (upL l G)) := fun W hF => hRk.fresh hF
    have HF4 : Hid (Fresh w3 w4 ∧ Fresh w w4) := ⟨hF4, HF3.out.trans hF4 (fun _ _ e => e)⟩
    clear H3 hGv hRk hF4 d0 d1 d2 d3 hw3
    obtain ⟨⟨d0, d1, d2, d3⟩, _⟩ := HSt.out w4 HF4.out.1
    have hsw : IntKind.i64.wrap ((n : Int) + (G : Int)) = (n : Int) + (G : Int) := by rw [IntKind.wrap_i64]; omega
    have hsw2 : IntKind.i64.wrap ((n : Int) + (G : Int) - 1) = (n : Int) + (G : Int) - 1 := by rw [IntKind.wrap_i64]; omega
    have hsw3 : IntKind.i64.wrap (((n : Int) + (G : Int) - 1).tdiv (G : Int)) = (m : Int) := by rw [htd, IntKind.wrap_i64]; omega
    clear hup z6 hm
    go_wp2_with fail
    go_quiet (fail)
    have HCl : Hid (0 < n → ∃ b off, ao = some ⟨b, off, none⟩ ∧ ∀ i, i < n → w4.cell? ⟨b, off + i, none⟩ = some (.int .i8 (l.getD i 0))) := fun hp => by
      obtain ⟨b, off, e, _, _, hcell⟩ := (HL.out w4 HF4.out.2).cells.2.2.2 hp
      exact ⟨b, off, e, hcell⟩
    have HCk : Hid (0 < n → ∃ b off, ko = some ⟨b, off, none⟩ ∧ ∀ i, i < n → w4.cell? ⟨b, off + i, none⟩ = some (.int .i8 ((upL l G).getD i 0))) := fun hp => by
      obtain ⟨b, off, e, _, _, hcell⟩ := (HRk.out w4 (Kept.refl _ _)).cells.2.2.2 hp
      exact ⟨b, off, e, hcell⟩
    have HCs : Hid (0 < m → ∃ b off, a1 = some ⟨b, off, none⟩ ∧ ∀ i, i < m → w4.cell? ⟨b, off + i, none⟩ = some (.int .u8 ((pS l G).getD i 0))) := fun hp => by
      obtain ⟨b, off, e, _, _, hcell⟩ := (HSt.out w4 HF4.out.1).2.cells.2.2.2 hp
      exact ⟨b, off, e, hcell⟩
    have HNum : Hid (∀ i, i < n → ∃ (Q S : Nat) (x y : Int), i / G = Q ∧ Q < m ∧ (i : Int).tdiv (G : Int) = (Q : Int) ∧ (pS l G).getD Q 0 = (S : Int) ∧ S ≤ 5 ∧ l.getD i 0 = x ∧ (upL l G).getD i 0 = y ∧ (-128 ≤ x ∧ x ≤ 127) ∧ (-128 ≤ y ∧ y ≤ 127) ∧ 2 * (x - y) ≤ 2 ^ S ∧ -(2 ^ S) ≤ 2 * (x - y) ∧ (S = 0 → x = y)) := fun i hi => by
      have hi' : i < l.length := by rw [HN.out]; exact hi
      have hQ := group_of hG1 hi'
      have hQm : i / G < m := by have := (HE.out l HN.out).2.2.2.2.2; rw [pS_length] at this; rw [← this]; exact hQ
      have hk := (kN_near (getD_rc8 HG.out.2 i) (shAt_le HG.out.2 G (i / G)) (fits_at HG.out.2 hG1 hi')).1
      exact ⟨i / G, shAt l G (i / G), _, _, rfl, hQm, by rw [Int.tdiv_eq_ediv_of_nonneg (by omega), Int.natCast_ediv], pS_get hQ, shAt_le HG.out.2 G _, rfl, upL_get hi', getD_rc8 HG.out.2 i, by have := kN_bound (l.getD i 0) (shAt l G (i / G)); unfold upF; omega, hk.1, hk.2.1, hk.2.2⟩
    clear hsw hsw2 hsw3 htd
    have HD0 : Hid (∃ d, w4.drewN nq = w4.drewN d) := ⟨nq, rfl⟩
    go_wp2
    go_loopw [74] (fun iv wr => ∃ i d : Nat, i ≤ n ∧ iv = zV i ∧ wr = w4.drewN d) (fun iv _ => n - (RowKit.intOf iv).toNat)
    case atStart => exact ⟨0, nq, Nat.zero_le _, rfl, rfl⟩
    case round =>
      obtain ⟨i, d, hi, rfl, rfl⟩ := hrel
      clear HD0
      by_cases hlt : i < n
      · obtain ⟨b, off, rfl, hcl⟩ := HCl.out (by omega)
        obtain ⟨b2, off2, rfl, hck⟩ := HCk.out (by omega)
        obtain ⟨Q, S, x, y, _, hQ, hq, hs, hS5, hx, hy, ⟨x0, x1⟩, ⟨y0, y1⟩, n1, n2, n3⟩ := HNum.out i hlt
        obtain ⟨b3, off3, rfl, hcs⟩ := HCs.out (by omega)
        have c1 := hcl i hlt
        have c2 := hck i hlt
        have c3 := hcs Q hQ
        rw [hx] at c1
        rw [hy] at c2
        rw [hs] at c3
        have hlt' : (i : Int) < (n : Int) := by omega
        have hQ' : (Q : Int) < (m : Int) := by omega
        have hQ0 : (0 : Int) ≤ (Q : Int) := by omega
        have hqw : IntKind.i64.wrap ((i : Int).tdiv (G : Int)) = (Q : Int) := by rw [hq, IntKind.wrap_i64]; omega
        clear hcl hck hcs HCl HCk HCs HNum hx hy hs
        have hcases : S = 0 ∨ S = 1 ∨ S = 2 ∨ S = 3 ∨ S = 4 ∨ S = 5 := by omega
        rcases hcases with rfl | rfl | rfl | rfl | rfl | rfl
        · have m1 : 2 * (x - y) ≤ 1 := n1
          have m2 : -1 ≤ 2 * (x - y) := n2
          obtain rfl : x = y := n3 rfl
          clear n1 n2 n3
          rw [show ((0 : Nat) : Int) = 0 from rfl] at c3
          go_wp2_with fail
          go_quiet (fail)
          go_wp2
          go_roundw
          case rel => exact ⟨i + 1, d + nq, hlt, by go_num, rfl⟩
          case measure => simp [RowKit.intOf]; omega
        · have m1 : 2 * (x - y) ≤ 2 := n1
          have m2 : -2 ≤ 2 * (x - y) := n2
          clear n1 n2 n3
          rw [show ((1 : Nat) : Int) = 1 from rfl] at c3
          go_wp2_with fail
          go_quiet (fail)
          go_wp2
          go_roundw
          case rel => exact ⟨i + 1, d + nq, hlt, by go_num, rfl⟩
          case measure => simp [RowKit.intOf]; omega
        · have m1 : 2 * (x - y) ≤ 4 := n1
          have m2 : -4 ≤ 2 * (x - y) := n2
          clear n1 n2 n3
          rw [show ((2 : Nat) : Int) = 2 from rfl] at c3
          go_wp2_with fail
          go_quiet (fail)
          go_wp2
          go_roundw
          case rel => exact ⟨i + 1, d + nq, hlt, by go_num, rfl⟩
          case measure => simp [RowKit.intOf]; omega
        · have m1 : 2 * (x - y) ≤ 8 := n1
          have m2 : -8 ≤ 2 * (x - y) := n2
          clear n1 n2 n3
          rw [show ((3 : Nat) : Int) = 3 from rfl] at c3
          go_wp2_with fail
          go_quiet (fail)
          go_wp2
          go_roundw
          case rel => exact ⟨i + 1, d + nq, hlt, by go_num, rfl⟩
          case measure => simp [RowKit.intOf]; omega
        · have m1 : 2 * (x - y) ≤ 16 := n1
          have m2 : -16 ≤ 2 * (x - y) := n2
          clear n1 n2 n3
          rw [show ((4 : Nat) : Int) = 4 from rfl] at c3
          go_wp2_with fail
          go_quiet (fail)
          go_wp2
          go_roundw
          case rel => exact ⟨i + 1, d + nq, hlt, by go_num, rfl⟩
          case measure => simp [RowKit.intOf]; omega
        · have m1 : 2 * (x - y) ≤ 32 := n1
          have m2 : -32 ≤ 2 * (x - y) := n2
          clear n1 n2 n3
          rw [show ((5 : Nat) : Int) = 5 from rfl] at c3
          go_wp2_with fail
          go_quiet (fail)
          go_wp2
          go_roundw
          case rel => exact ⟨i + 1, d + nq, hlt, by go_num, rfl⟩
          case measure => simp [RowKit.intOf]; omega
      · obtain rfl : i = n := by omega
        have hFd : Fresh w4 (w4.drewN d) := kept_drewN _ _ _
        have HFd : Hid (Fresh w (w4.drewN d)) := HF4.out.2.trans hFd (fun _ _ e => e)
        obtain ⟨W5, hW5⟩ : ∃ W5, w4.drewN d = W5 := ⟨_, rfl⟩
        rw [hW5] at hFd HFd
        have hlu : (upL l G).length = i := by rw [upL_length, HN.out]
        have hRu := HRk.out W5 hFd
        have H5 : Hid (Unit → _) := fun (_ : Unit) => Pack_any _ _ (upL l G) (G : Int) W5 hRu HG.out.1
        have HR5 : Hid (∀ W, Fresh W5 W → Rk .i8 (fun b => w3.heap.size ≤ b ∧ b < w4.heap.size) W (.slice ko i kc) (upL l G)) := fun W hF => hRu.fresh hF
        clear hRu HCl HCk HCs HNum hlt hi HRk HF4 HSt d0 d1 d2 d3
        rw [hW5]
        clear hW5 hFd
        go_wp2_with fail
        refine (H5.out ()).mono ?_
        rintro e w6 hP
        obtain ⟨b1, b2, rfl, o1, o2, _, hF6⟩ := hP.get
        obtain ⟨z1, z2, z3, z4, z5, z6⟩ := HE.out (upL l G) hlu
        rw [z4] at o1
        rw [z5] at o2
        rw [z1, z2, z3, z4, z5]
        obtain ⟨nh2, hnh⟩ : ∃ nh2, (pH (upL l G) G).length = nh2 := ⟨_, rfl⟩
        rw [z6] at o1
        rw [hnh] at o2
        rw [z6, hnh]
        obtain ⟨w7, hw7⟩ : ∃ w7, w6.alloc (.cells #[zV (i : Int), zV (G : Int), .slice b1 m m, .slice b2 nh2 nh2] 48) = w7 := ⟨_, rfl⟩
        have hF7 : Fresh w6 w7 := by rw [← hw7]; exact (Kept.refl _ w6).alloc _
        have p7 : w7.heap[w6.heap.size]? = some (.cells #[zV (i : Int), zV (G : Int), .slice b1 m m, .slice b2 nh2 nh2] 48 (0, 0)) := by rw [← hw7]; exact heap_alloc_new w6 _
        have q1 := rk_of_own (owns_kept o1 hF7 (fun _ _ e => e)) (by rw [z6]; simp only [kb]; omega) (fun z hz => pS_byte (upL_small l G) G z hz)
        have q2 := rk_of_own (owns_kept o2 hF7 (fun _ _ e => e)) (by rw [pH_length, hlu]; simp only [kb]; omega) (fun z hz => pH_byte (upL l G) G z hz)
        have hU := unpack_pack _ (upL l G) G _ _ w7 (upL_small l G) hG1 hG2 (by rw [hlu]; exact hnb) q1 q2
        rw [hlu, up_again HG.out.2 hG1] at hU
        have H7 : Hid (Unit → _) := fun (_ : Unit) => hU
        have d0 : w7.cell? ⟨w6.heap.size, 0, none⟩ = some (zV (i : Int)) := by rw [Lib.cell_of_heap p7]; rfl
        have d1 : w7.cell? ⟨w6.heap.size, 1, none⟩ = some (zV (G : Int)) := by rw [Lib.cell_of_heap p7]; rfl
        have d2 : w7.cell? ⟨w6.heap.size, 2, none⟩ = some (.slice b1 m m) := by rw [Lib.cell_of_heap p7]; rfl
        have d3 : w7.cell? ⟨w6.heap.size, 3, none⟩ = some (.slice b2 nh2 nh2) := by rw [Lib.cell_of_heap p7]; rfl
        have HF7 : Hid (Fresh W5 w7) := hF6.trans hF7 (fun _ _ e => e)
        clear H5 hP o1 o2 hF6 z1 z2 z3 z4 z5 z6 hnh hF7 p7 q1 q2 hU
        go_wp2_with fail
        refine (H7.out ()).mono ?_
        rintro e w8 hGv
        obtain ⟨v8, rfl, hR8, hF8⟩ := hGv.row (by rw [hlu]; simp only [kb]; omega) (fun z hz => upL_small l G z hz)
        have H8 : Hid (Unit → _) := fun (_ : Unit) => same8_any _ _ _ _ (upL l G) w8 hR8 (HR5.out w8 (HF7.out.trans hF8 (fun _ _ e => e)))
        obtain ⟨o8, c8, hv8, _⟩ := hR8.shape
        rw [hlu] at hv8
        subst hv8
        have HF8 : Hid (Fresh w w8) := HFd.out.trans (HF7.out.trans hF8 (fun _ _ e => e)) (fun _ _ e => e)
        clear H7 hGv hR8 hF8 HF7 HFd HR5 d0 d1 d2 d3 hw7 hlu
        go_wp2_with fail
        refine (H8.out ()).mono ?_
        rintro e w9 ⟨rfl, n9, hw9⟩
        have HF9 : Hid (Fresh w w9) := by show Fresh _ _; rw [hw9]; exact HF8.out.drewN n9
        clear hw9 H8 HF8
        go_wp2
        go_ret
        exact ⟨rfl, HF9.out⟩
  · have HE : Hid (paE n g ≠ 0 ∧ pkN l g = 0) := ⟨h0, if_neg (by rw [HN.out]; exact h0)⟩
    have hcase : g < 1 ∨ 256 < g ∨ 1048576 < n := by
      unfold paE at h0
      split at h0
      · omega
      · split at h0
        · exact absurd rfl h0
        · omega
    have h0' : (paE n g != 0) = true := bne_iff_ne.2 h0
    obtain ⟨E, hE⟩ : ∃ E, paE n g = E := ⟨_, rfl⟩
    have HEE : Hid (paE l.length g = E) := by show _ = _; rw [HN.out]; exact hE
    rw [hE] at h0'
    clear h0 hE
    have HP : Hid (∀ W, Fresh w W → Calls Try.prog 17 #[.slice ao n ac, zV g] W fun e w' => ∃ a1 k1 c1 a2 k2 c2, ∃ gg : Int, e = .returned (.tuple #[.agg #[zV 0, zV gg, .slice a1 k1 c1, .slice a2 k2 c2], zV E]) ∧ Fresh W w') := fun W hF => (Pack_any _ _ l g W (HL.out W hF) HG.out.1).mono fun e w' hP => by
      obtain ⟨a1, a2, he, _, _, _, hF2⟩ := hP.get
      exact ⟨_, _, _, _, _, _, _, by rw [he, HE.out.2, HEE.out], hF2⟩
    rcases hcase with hc | hc | hc
    · clear HL HE HEE
      go_enter Try.func6, Try.ntmps6
      go_wp2_with fail
      refine (HAW.out _).mono ?_
      rintro e w0 ⟨rfl, hF0⟩
      have H1 : Hid (Unit → _) := fun (_ : Unit) => HP.out w0 hF0
      have HF0 : Hid (Fresh w w0) := hF0
      clear hF0 HAW HP
      go_wp2_with fail
      refine (H1.out ()).mono ?_
      rintro e w2 ⟨a1, k1, c1, a2, k2, c2, gg, rfl, hF2⟩
      obtain ⟨w3, hw3⟩ : ∃ w3, w2.alloc (.cells #[zV 0, zV gg, .slice a1 k1 c1, .slice a2 k2 c2] 48) = w3 := ⟨_, rfl⟩
      have hF3 : Fresh w2 w3 := by rw [← hw3]; exact (Kept.refl _ w2).alloc _
      have d0 : w3.cell? ⟨w2.heap.size, 0, none⟩ = some (zV 0) := by rw [← hw3, Lib.cell_of_heap (heap_alloc_new w2 _)]; rfl
      have HF3 : Hid (Fresh w w3) := (HF0.out.trans hF2 (fun _ _ e => e)).trans hF3 (fun _ _ e => e)
      clear H1 hF2 hF3 HF0
      go_wp2
      go_ret
      exact ⟨rfl, HF3.out⟩
    · have hc2 : ¬ g < 1 := by omega
      clear HL HE HEE
      go_enter Try.func6, Try.ntmps6
      go_wp2_with fail
      refine (HAW.out _).mono ?_
      rintro e w0 ⟨rfl, hF0⟩
      have H1 : Hid (Unit → _) := fun (_ : Unit) => HP.out w0 hF0
      have HF0 : Hid (Fresh w w0) := hF0
      clear hF0 HAW HP
      go_wp2_with fail
      refine (H1.out ()).mono ?_
      rintro e w2 ⟨a1, k1, c1, a2, k2, c2, gg, rfl, hF2⟩
      obtain ⟨w3, hw3⟩ : ∃ w3, w2.alloc (.cells #[zV 0, zV gg, .slice a1 k1 c1, .slice a2 k2 c2] 48) = w3 := ⟨_, rfl⟩
      have hF3 : Fresh w2 w3 := by rw [← hw3]; exact (Kept.refl _ w2).alloc _
      have d0 : w3.cell? ⟨w2.heap.size, 0, none⟩ = some (zV 0) := by rw [← hw3, Lib.cell_of_heap (heap_alloc_new w2 _)]; rfl
      have HF3 : Hid (Fresh w w3) := (HF0.out.trans hF2 (fun _ _ e => e)).trans hF3 (fun _ _ e => e)
      clear H1 hF2 hF3 HF0
      go_wp2
      go_ret
      exact ⟨rfl, HF3.out⟩
    · have hc1 : (1048576 : Int) < (n : Int) := by omega
      by_cases hc2 : g < 1
      · clear HL HE HEE
        go_enter Try.func6, Try.ntmps6
        go_wp2_with fail
        refine (HAW.out _).mono ?_
        rintro e w0 ⟨rfl, hF0⟩
        have H1 : Hid (Unit → _) := fun (_ : Unit) => HP.out w0 hF0
        have HF0 : Hid (Fresh w w0) := hF0
        clear hF0 HAW HP
        go_wp2_with fail
        refine (H1.out ()).mono ?_
        rintro e w2 ⟨a1, k1, c1, a2, k2, c2, gg, rfl, hF2⟩
        obtain ⟨w3, hw3⟩ : ∃ w3, w2.alloc (.cells #[zV 0, zV gg, .slice a1 k1 c1, .slice a2 k2 c2] 48) = w3 := ⟨_, rfl⟩
        have hF3 : Fresh w2 w3 := by rw [← hw3]; exact (Kept.refl _ w2).alloc _
        have d0 : w3.cell? ⟨w2.heap.size, 0, none⟩ = some (zV 0) := by rw [← hw3, Lib.cell_of_heap (heap_alloc_new w2 _)]; rfl
        have HF3 : Hid (Fresh w w3) := (HF0.out.trans hF2 (fun _ _ e => e)).trans hF3 (fun _ _ e => e)
        clear H1 hF2 hF3 HF0
        go_wp2
        go_ret
        exact ⟨rfl, HF3.out⟩
      · by_cases hc3 : 256 < g
        · clear HL HE HEE
          go_enter Try.func6, Try.ntmps6
          go_wp2_with fail
          refine (HAW.out _).mono ?_
          rintro e w0 ⟨rfl, hF0⟩
          have H1 : Hid (Unit → _) := fun (_ : Unit) => HP.out w0 hF0
          have HF0 : Hid (Fresh w w0) := hF0
          clear hF0 HAW HP
          go_wp2_with fail
          refine (H1.out ()).mono ?_
          rintro e w2 ⟨a1, k1, c1, a2, k2, c2, gg, rfl, hF2⟩
          obtain ⟨w3, hw3⟩ : ∃ w3, w2.alloc (.cells #[zV 0, zV gg, .slice a1 k1 c1, .slice a2 k2 c2] 48) = w3 := ⟨_, rfl⟩
          have hF3 : Fresh w2 w3 := by rw [← hw3]; exact (Kept.refl _ w2).alloc _
          have d0 : w3.cell? ⟨w2.heap.size, 0, none⟩ = some (zV 0) := by rw [← hw3, Lib.cell_of_heap (heap_alloc_new w2 _)]; rfl
          have HF3 : Hid (Fresh w w3) := (HF0.out.trans hF2 (fun _ _ e => e)).trans hF3 (fun _ _ e => e)
          clear H1 hF2 hF3 HF0
          go_wp2
          go_ret
          exact ⟨rfl, HF3.out⟩
        · clear HL HE HEE
          go_enter Try.func6, Try.ntmps6
          go_wp2_with fail
          refine (HAW.out _).mono ?_
          rintro e w0 ⟨rfl, hF0⟩
          have H1 : Hid (Unit → _) := fun (_ : Unit) => HP.out w0 hF0
          have HF0 : Hid (Fresh w w0) := hF0
          clear hF0 HAW HP
          go_wp2_with fail
          refine (H1.out ()).mono ?_
          rintro e w2 ⟨a1, k1, c1, a2, k2, c2, gg, rfl, hF2⟩
          obtain ⟨w3, hw3⟩ : ∃ w3, w2.alloc (.cells #[zV 0, zV gg, .slice a1 k1 c1, .slice a2 k2 c2] 48) = w3 := ⟨_, rfl⟩
          have hF3 : Fresh w2 w3 := by rw [← hw3]; exact (Kept.refl _ w2).alloc _
          have d0 : w3.cell? ⟨w2.heap.size, 0, none⟩ = some (zV 0) := by rw [← hw3, Lib.cell_of_heap (heap_alloc_new w2 _)]; rfl
          have HF3 : Hid (Fresh w w3) := (HF0.out.trans hF2 (fun _ _ e => e)).trans hF3 (fun _ _ e => e)
          clear H1 hF2 hF3 HF0
          go_wp2
          go_ret
          exact ⟨rfl, HF3.out⟩

set_option maxRecDepth 100000 in
theorem contract (H : Type) (enc : TypeId × Value → H) (W : World) (base : Nat) (args : Array Value) (ds gs : List (DataW H)) (before : List MemPlace)
    (hval : ∀ (j : Nat) t v, Try.f6.params[j]? = some t → args[j]? = some v → Value.okWide Try.prog W .any base t v)
    (hW : DataW.Whole enc Try.prog Try.f6.params.toList Rows.vecNearsSpec.vars false W args.toList ds gs before) 
    (hsz : (DataW.weightsEach Try.prog (Try.f6.params.toList ++ []) (ds ++ gs)).all (· ≤ reachBytes) = true) (hL : laidMetH Try.prog Rows.vecNearsRow.laid W) :
    Calls Try.prog 6 args W fun e W' => ∃ v, e = .returned v ∧ Rows.vecNearsSpec.post enc Try.prog Try.f6 false true false false W args v W' := by
  have hW' := hW
  obtain ⟨p, q, hA0, hV, rfl, hfz, hnd⟩ := hW
  have hA : DataW.TrodAll enc Try.prog W 0 (fun _ => true) true Try.f6.params.toList args.toList ds p := hA0
  rw [Try.params6] at hA hval hsz
  obtain ⟨rfl, rfl⟩ := trodVars_none hV
  have _hL := hL
  obtain ⟨v0, v1, d0, d1, p0, p1, rfl, rfl, rfl, h0, h1⟩ := trodAll_two hA
  obtain ⟨zs, hz⟩ := arg8 (hval 0 22 v0 rfl rfl) h0 hsz (j := 0) rfl rfl
  obtain ⟨x1, rfl, rfl, rfl, w1⟩ := open_int Try.underlying3 (hval 1 3 v1 rfl rfl) h1
  refine (walk v0 zs x1 W hz (i64_of w1)).mono fun e W' ⟨he, hk⟩ => ?_
  subst he
  exact ⟨_, rfl, post_law rfl (by kernel_rfl) (by kernel_rfl) hW' rfl hk⟩

set_option maxRecDepth 100000 in
theorem laid_met (os : Os) : laidMet Try.prog Rows.vecNearsRow.laid ((layIn (World.holding Try.prog os ⟨#[], #[], []⟩)).forCall (fun _ _ => 0) ⟨#[], #[.slice none 0 0, .int .i64 0], []⟩).memory :=
  laidMet_of_run' 8 (by kernel_rfl) (by kernel_rfl)
set_option maxRecDepth 100000 in
theorem reads (os : Os) {H : Type} (enc : TypeId × Value → H) : ∃ places, DataW.whole enc Try.prog ((layIn (World.holding Try.prog os ⟨#[], #[], []⟩)).forCall (fun _ _ => 0) ⟨#[], #[.slice none 0 0, .int .i64 0], []⟩).memory Try.f6.params.toList Rows.vecNearsSpec.vars false (#[.slice none 0 0, .int .i64 0] : Array Value).toList 8 = some ([.nil, .lit (.int .i64 0)], [], places) :=
  ⟨[], by kernel_rfl⟩

set_option maxRecDepth 100000 in
theorem lifted (os : Os) (started : os.Started) (H : Type) (enc : TypeId × Value → H) (F : Stop.Interp) :
    ReturnsInHanded {} Try.checked os 6 .any ((OpenSpec.ofChange Rows.vecNearsSpec).preRow enc Try.prog Try.f6 Rows.vecNearsRow.domain false Rows.vecNearsRow.laid) (((OpenSpec.ofChange Rows.vecNearsSpec).at F).post enc Try.prog Try.f6 false true false false) := by
  obtain ⟨places, hx⟩ := reads os enc
  refine returnsInHanded_of_row (C := Try.checked) (s := OpenSpec.ofChange Rows.vecNearsSpec) Try.own started (by kernel_rfl) Try.func6
    (witness_row_at (enc := enc) (C := Try.checked) false (layIn (World.holding Try.prog os ⟨#[], #[], []⟩)) #[.slice none 0 0, .int .i64 0] rfl (by kernel_rfl) (by kernel_rfl) (by kernel_rfl)
      (OpenSpec.preRow_of_cond 8 hx (by kernel_rfl) (fun k hk => by cases hk) (by kernel_rfl) (laid_met os))) ?_
  intro W base args ds gs before hval hW _ hc hsz hL _ _
  exact contract H enc W base args ds gs before hval hW hsz hL

theorem said : Rows.VecNearsSaid :=
  OpenClaim.holds_of_cond 6 Try.f6 rfl rfl rfl rfl rfl rfl rfl ⟨rfl, rfl, rfl, rfl, rfl⟩ rfl rfl rfl rfl rfl (by kernel_rfl) Try.func6 (by kernel_rfl)
    (of_decide_eq_true (by kernel_rfl)) (by unfold Func.isWrapper; first | (rw [if_pos (by decide +kernel)]; kernel_rfl) | (rw [if_neg (by decide +kernel)]; exact ⟨rfl, rfl⟩))
    (fun os started H enc _ F => by rw [OpenClaim.pre_eq_preRow]; exact lifted os started H enc F)


end Go.Proofs.Ytlepdogfgpeogaa.Nears8
namespace Go.Proofs.Ytlepdogfgpeogaa
theorem vecNears_holds : Rows.VecNearsSaid := Nears8.said
end Go.Proofs.Ytlepdogfgpeogaa
