/-
  What is wrong with a matrix of words; the greatest size of some numbers; the greatest size that comes out of a matrix.
-/
import Derived.Test.YtakiimjldccgcabDoorShFToVcg
import Derived.Test.YtakiimjldccgcabDoorFilToShA
import Derived.Test.YtakiimjldccgcabDoorNumToFw
import Derived.Test.YtakiimjldccgcabDoorShDToShG
namespace Go.Proofs.YtakiimjldccgcabDoor
open Go.RowKit Go.Lib Go.Maps

/-- What is wrong with a matrix of words: its length, its shift. -/
def wwE (n : Nat) (size shift most : Int) : Int := if (n : Int) ≠ size then 161 else if wiB shift 0 most = true then 0 else 162
set_option maxHeartbeats 1000000 in
set_option maxRecDepth 100000 in
theorem wrongWords_any (ao : Option Addr) (n c : Nat) (size shift most : Int) (w : World) : Calls Tryd.prog 59 #[.slice ao n c, zV size, zV shift, zV most] w fun e w' => e = .returned (zV (wwE n size shift most)) ∧ Fresh w w' := by
  have hF1 : Fresh w (w.alloc (.cells #[.slice ao n c, zV size] 131)) := (Kept.refl _ w).alloc _
  have h0 : (w.alloc (.cells #[.slice ao n c, zV size] 131)).heap[w.heap.size]? = some (.cells #[.slice ao n c, zV size] 131 (0, 0)) := heap_alloc_new w _
  have HFT := show Hid _ from fit8_any w.heap.size 1 1 (fun _ => n) (fun _ => size) (w.alloc (.cells #[.slice ao n c, zV size] 131)) (by rw [World.size_alloc]; omega) (fun i hi => by
    obtain rfl : i = 0 := by omega
    exact ⟨⟨ao, c, by rw [Lib.cell_of_heap h0]; rfl⟩, by rw [Lib.cell_of_heap h0]; rfl⟩) (by omega)
  have HF1 := show Hid _ from hF1
  have HWI : Hid (∀ W, Calls Tryd.prog 24 #[zV shift, zV 0, zV most] W fun e w' => e = .returned (.bool (wiB shift 0 most)) ∧ w' = W) := fun W => within_any shift 0 most W
  have HB : Hid (fitF 1 (fun _ => n) (fun _ => size) = decide ((n : Int) = size)) := by
    show _ = _
    unfold fitF
    simp
  clear hF1 h0
  rw [HB.out] at HFT
  by_cases he : (n : Int) = size
  · have hE : wwE n size shift most = if wiB shift 0 most = true then 0 else 162 := if_neg (fun h => h he)
    rw [hE]
    rw [decide_eq_true he] at HFT
    clear hE he HB
    have HRS : Hid (∀ b, wiB shift 0 most = b → (if wiB shift 0 most = true then (0 : Int) else 162) = if b = true then 0 else 162) := fun b e => by rw [e]
    generalize (if wiB shift 0 most = true then (0 : Int) else 162) = R at *
    generalize wiB shift 0 most = B at *
    go_enter Tryd.func59, Tryd.ntmps59
    go_wp2_with fail
    refine Calls.mono HFT.out ?_
    rintro e X ⟨rfl, hf⟩
    have HX : Hid (Fresh w X) := HF1.out.trans hf (fun _ _ e => e)
    clear hf HFT HF1
    cases B with
    | true =>
      have HR0 : Hid (R = 0) := HRS.out true rfl
      clear HRS
      go_wp2_with fail
      refine Calls.mono (HWI.out _) ?_
      rintro e Y ⟨rfl, rfl⟩
      go_wp2
      go_ret
      exact ⟨by rw [HR0.out]; rfl, HX.out⟩
    | false =>
      have HR0 : Hid (R = 162) := HRS.out false rfl
      clear HRS
      go_wp2_with fail
      refine Calls.mono (HWI.out _) ?_
      rintro e Y ⟨rfl, rfl⟩
      go_wp2
      go_ret
      exact ⟨by rw [HR0.out]; rfl, HX.out⟩
  · have hE : wwE n size shift most = 161 := if_pos he
    rw [hE]
    rw [decide_eq_false he] at HFT
    clear hE he HB
    go_enter Tryd.func59, Tryd.ntmps59
    go_wp2_with fail
    refine Calls.mono HFT.out ?_
    rintro e X ⟨rfl, hf⟩
    have HX : Hid (Fresh w X) := HF1.out.trans hf (fun _ _ e => e)
    clear hf HFT HF1
    go_wp2
    go_ret
    exact ⟨rfl, HX.out⟩
/-- The greatest size of the first j numbers. -/
def gzF (zs : List Int) : Nat → Int
  | 0 => 0
  | j + 1 => max (gzF zs j) ((zs.getD j 0).natAbs : Int)
theorem gzF_range {zs : List Int} (hz : ∀ z ∈ zs, C8 z) : ∀ j, 0 ≤ gzF zs j ∧ gzF zs j ≤ 128
  | 0 => ⟨Int.le_refl _, by show (0 : Int) ≤ 128; decide⟩
  | j + 1 => by
    have h1 := gzF_range hz j
    have h2 : C8 (zs.getD j 0) := fit_get (k := .i8) hz j
    unfold C8 at h2
    show 0 ≤ max _ _ ∧ max _ _ ≤ 128
    omega
set_option maxHeartbeats 1000000 in
set_option maxRecDepth 100000 in
theorem greatestSize_any (p : Nat → Prop) (v : Value) (zs : List Int) (w : World) (hv : Rk .i8 p w v zs) : Calls Tryd.prog 62 #[v] w fun e w' => e = .returned (zV (gzF zs zs.length)) ∧ w' = w := by
  obtain ⟨ao, ac, rfl, _, _⟩ := hv.shape
  have HC : Hid (0 < zs.length → ∃ b off, ao = some ⟨b, off, none⟩ ∧ ∀ i, i < zs.length → w.cell? ⟨b, off + i, none⟩ = some (.int .i8 (zs.getD i 0))) := fun h0 => by
    obtain ⟨b, off, h1, _, _, h2⟩ := hv.cells.2.2.2 h0
    exact ⟨b, off, h1, h2⟩
  have HR : Hid (∀ j, 0 ≤ gzF zs j ∧ gzF zs j ≤ 128) := gzF_range hv.all
  have HS : Hid (∀ j, gzF zs (j + 1) = max (gzF zs j) ((zs.getD j 0).natAbs : Int)) := fun j => rfl
  have HZ : Hid (∀ j, C8 (zs.getD j 0)) := hv.get
  have HG0 : Hid (gzF zs 0 = 0) := rfl
  have hm := hv.many
  clear hv
  generalize gzF zs = G at *
  obtain ⟨n, hn⟩ : ∃ n, zs.length = n := ⟨_, rfl⟩
  rw [hn] at HC hm
  rw [hn]
  clear hn
  go_enter Tryd.func62, Tryd.ntmps62
  go_wp2
  go_loopw [3, 8] (fun gv iv wr => ∃ j : Nat, j ≤ n ∧ iv = zV j ∧ gv = zV (G j) ∧ wr = w) (fun _ iv _ => n - (RowKit.intOf iv).toNat)
  case atStart => exact ⟨0, Nat.zero_le _, rfl, by rw [HG0.out], rfl⟩
  case round =>
    obtain ⟨j, hj, rfl, rfl, rfl⟩ := hrel
    by_cases hlt : j < n
    · have hlt' : (j : Int) < (n : Int) := by omega
      have h0j : (0 : Int) ≤ (j : Int) := by omega
      obtain ⟨b, off, rfl, hc⟩ := HC.out (by omega)
      have hcj := hc j hlt
      have hsj := HS.out j
      obtain ⟨hz1, hz2⟩ := HZ.out j
      obtain ⟨hg1, hg2⟩ := HR.out j
      clear hc HC HS HZ HR HG0
      obtain ⟨x, hx⟩ : ∃ x, zs.getD j 0 = x := ⟨_, rfl⟩
      rw [hx] at hcj hsj hz1 hz2
      obtain ⟨y, hy⟩ : ∃ y, G j = y := ⟨_, rfl⟩
      rw [hy] at hsj hg1 hg2
      rw [hy]
      have HSJ : Hid (G (j + 1) = max y (x.natAbs : Int)) := hsj
      clear hsj hx hy
      go_wp2
      go_roundw
      case rel =>
        refine ⟨j + 1, hlt, by go_num, ?_, trivial⟩
        rw [HSJ.out]
        congr 1
        omega
      case measure => simp [RowKit.intOf]; omega
    · obtain rfl : j = n := by omega
      have hlt' : ¬ ((j : Int) < (j : Int)) := by omega
      go_wp2
      go_ret
      exact ⟨rfl, rfl⟩
/-- The greatest size that comes out of the rows' sizes L. -/
def moF (L : List Int) (s : Int) : Nat → Int
  | 0 => 0
  | j + 1 => max (moF L s j) (rdQ (127 * L.getD j 0) s)
set_option maxHeartbeats 1000000 in
set_option maxRecDepth 100000 in
theorem mostOut_any (p : Nat → Prop) (v : Value) (zs : List Int) (c s : Int) (w : World) (hv : Rk .i8 p w v zs) (hc : I64 c) : Calls Tryd.prog 63 #[v, zV c, zV s] w fun e w' => e = .returned (zV (moF (zL zs c) s (zL zs c).length)) ∧ Fresh w w' := by
  have HSZ := show Hid _ from Sizes_any p v zs c w hv hc
  have HB : Hid (∀ j, 0 ≤ (zL zs c).getD j 0 ∧ (zL zs c).getD j 0 ≤ 134217728) := fun j => by
    have h := zL_i64 c hv.all
    rcases Nat.lt_or_ge j (zL zs c).length with e | e
    · rw [List.getD_eq_getElem?_getD, List.getElem?_eq_getElem e]
      exact h _ (List.getElem_mem e)
    · rw [List.getD_eq_getElem?_getD, List.getElem?_eq_none e]
      exact ⟨Int.le_refl _, by decide⟩
  have hm := zL_len zs c
  obtain ⟨ao, ac, rfl, _, _⟩ := hv.shape
  clear hv hc
  unfold Gives at HSZ
  have HS : Hid (∀ j, moF (zL zs c) s (j + 1) = max (moF (zL zs c) s j) (rdQ (127 * (zL zs c).getD j 0) s)) := fun j => rfl
  have HG0 : Hid (moF (zL zs c) s 0 = 0) := rfl
  generalize moF (zL zs c) s = G at *
  generalize zL zs c = L at *
  generalize mE zs c = E at *
  obtain ⟨n, hn⟩ : ∃ n, L.length = n := ⟨_, rfl⟩
  rw [hn] at HSZ hm
  rw [hn]
  clear hn
  go_enter Tryd.func63, Tryd.ntmps63
  go_wp2_with fail
  refine Calls.mono HSZ.out ?_
  rintro e W1 ⟨sv, rfl, hown, hf1⟩
  have HF1 : Hid (Fresh w W1) := hf1
  obtain ⟨so, sc, hsv⟩ := ownsRow_shape hown
  subst hsv
  have HC : Hid (∀ X, Fresh W1 X → ∀ i, i < n → ∃ b, so = some ⟨b, 0, none⟩ ∧ X.cell? ⟨b, i, none⟩ = some (.int .i64 (L.getD i 0))) := fun X hX i hi => by
    have h := owns_kept hown hX (fun _ _ e => e)
    rcases h.2 with ⟨_, e⟩ | ⟨b, cap, cur, hv, _⟩
    · omega
    · injection hv with e1 e2 e3
      subst e1
      exact ⟨b, rfl, own_get h i hi⟩
  clear hown hf1 HSZ
  go_wp2
  go_loopw [9, 22] (fun gv iv wr => ∃ j : Nat, j ≤ n ∧ iv = zV j ∧ gv = zV (G j) ∧ Hid (Fresh W1 wr)) (fun _ iv _ => n - (RowKit.intOf iv).toNat)
  case atStart => exact ⟨0, Nat.zero_le _, rfl, by rw [HG0.out], Kept.refl _ _⟩
  case round =>
    obtain ⟨j, hj, rfl, rfl, HA⟩ := hrel
    by_cases hlt : j < n
    · have hlt' : (j : Int) < (n : Int) := by omega
      have h0j : (0 : Int) ≤ (j : Int) := by omega
      obtain ⟨b, rfl, hcj⟩ := HC.out wr HA.out j hlt
      obtain ⟨hb1, hb2⟩ := HB.out j
      have hsj := HS.out j
      obtain ⟨x, hx⟩ : ∃ x, L.getD j 0 = x := ⟨_, rfl⟩
      rw [hx] at hcj hb1 hb2 hsj
      have HRD := show Hid _ from fun X => round_any (127 * x) s X (by unfold I64; omega)
      have HSJ : Hid (G (j + 1) = max (G j) (rdQ (127 * x) s)) := hsj
      clear hsj hx HC HB HS HG0
      generalize rdQ (127 * x) s = z at *
      generalize rdE s = re at *
      obtain ⟨y, hy⟩ : ∃ y, G j = y := ⟨_, rfl⟩
      rw [hy] at HSJ
      rw [hy]
      clear hy
      go_wp2_with fail
      refine Calls.mono (HRD.out _) ?_
      rintro e X ⟨rfl, hdr⟩
      have HX : Hid (Fresh W1 X) := HA.out.trans hdr.fresh (fun _ _ e => e)
      clear hdr HRD HA
      go_wp2
      go_roundw
      case rel =>
        refine ⟨j + 1, hlt, by go_num, ?_, HX.out⟩
        rw [HSJ.out]
        congr 1
        omega
      case measure => simp [RowKit.intOf]; omega
    · obtain rfl : j = n := by omega
      have hlt' : ¬ ((j : Int) < (j : Int)) := by omega
      have HX : Hid (Fresh w wr) := HF1.out.trans HA.out (fun _ _ e => e)
      go_wp2
      go_ret
      exact ⟨rfl, HX.out⟩
end Go.Proofs.YtakiimjldccgcabDoor

/-
  A block's shifts; whether all its parts are as long as they should be.
-/
namespace Go.Proofs.YtakiimjldccgcabDoor
open Go.RowKit Go.Lib Go.Maps

theorem al2 (w : World) (a b : Obj) : ((w.alloc a).alloc b).heap[w.heap.size + 1]? = some b := by
  have := heap_alloc_new (w.alloc a) b
  rwa [World.size_alloc] at this
set_option maxHeartbeats 1000000 in
set_option maxRecDepth 100000 in
theorem shiftsOf_any (g1 q k v o g2 mg mu md : Option Addr) (n1 n2 n3 n4 n5 n6 n7 n8 n9 c1 c2 c3 c4 c5 c6 c7 c8 c9 : Nat) (qs ks vs os ss gs us ds : Int) (w : World) :
    Calls Tryd.prog 64 #[.agg (blkC (.slice g1 n1 c1) (.slice q n2 c2) (.slice k n3 c3) (.slice v n4 c4) (.slice o n5 c5) (.slice g2 n6 c6) qs ks vs os ss (.slice mg n7 c7) (.slice mu n8 c8) (.slice md n9 c9) gs us ds)] w fun e w' => e = .returned (.agg #[zV qs, zV ks, zV vs, zV os, zV ss, zV gs, zV us, zV ds]) ∧ Fresh w w' := by
  unfold blkC
  go_enter Tryd.func64, Tryd.ntmps64
  go_wp2
  exact ret_cell rfl (w.heap.size + 1) _ _ (0, 0) _ rfl (al2 w _ _) Tryd.underlying135 rfl (by kernel_rfl) rfl ⟨rfl, ((Kept.refl _ w).alloc _).alloc _⟩
/-- Are all parts of a block as long as they should be? -/
def bwB (n1 n2 n3 n4 n5 n6 n7 n8 n9 : Nat) (A B D : Nat) : Bool := fitF 9 (fun i => [n1, n6, n2, n3, n4, n5, n7, n8, n9].getD i 0) (fun i => (([D, D, A, A, A, A, B, B, B].getD i 0 : Nat) : Int))
set_option maxHeartbeats 2000000 in
set_option maxRecDepth 100000 in
theorem isWhole_any (g1 q k v o g2 mg mu md : Option Addr) (n1 n2 n3 n4 n5 n6 n7 n8 n9 c1 c2 c3 c4 c5 c6 c7 c8 c9 : Nat) (qs ks vs os ss gs us ds : Int) (a1 a2 : Int) (A B D : Nat) (w : World) :
    Calls Tryd.prog 75 #[.agg (blkC (.slice g1 n1 c1) (.slice q n2 c2) (.slice k n3 c3) (.slice v n4 c4) (.slice o n5 c5) (.slice g2 n6 c6) qs ks vs os ss (.slice mg n7 c7) (.slice mu n8 c8) (.slice md n9 c9) gs us ds), .agg #[zV a1, zV a2, zV (D : Int), zV (A : Int), zV (B : Int)]] w fun e w' => e = .returned (.bool (bwB n1 n2 n3 n4 n5 n6 n7 n8 n9 A B D)) ∧ Fresh w w' := by
  have HF : Hid (∀ X, Fresh w X → Calls Tryd.prog 60 #[.slice (some ⟨X.heap.size, 0, none⟩) 9 9] (X.alloc (.cells #[.slice g1 n1 c1, zV (D : Int), .slice g2 n6 c6, zV (D : Int), .slice q n2 c2, zV (A : Int), .slice k n3 c3, zV (A : Int), .slice v n4 c4, zV (A : Int), .slice o n5 c5, zV (A : Int), .slice mg n7 c7, zV (B : Int), .slice mu n8 c8, zV (B : Int), .slice md n9 c9, zV (B : Int)] 131)) fun e w' => e = .returned (.bool (bwB n1 n2 n3 n4 n5 n6 n7 n8 n9 A B D)) ∧ Fresh w w') := fun X hX => by
    have h0 := heap_alloc_new X (.cells #[.slice g1 n1 c1, zV (D : Int), .slice g2 n6 c6, zV (D : Int), .slice q n2 c2, zV (A : Int), .slice k n3 c3, zV (A : Int), .slice v n4 c4, zV (A : Int), .slice o n5 c5, zV (A : Int), .slice mg n7 c7, zV (B : Int), .slice mu n8 c8, zV (B : Int), .slice md n9 c9, zV (B : Int)] 131)
    refine (fit8_any X.heap.size 9 9 (fun i => [n1, n6, n2, n3, n4, n5, n7, n8, n9].getD i 0) (fun i => (([D, D, A, A, A, A, B, B, B].getD i 0 : Nat) : Int)) _ (by rw [World.size_alloc]; omega) (fun i hi => ?_) (by omega)).mono (fun e w' ⟨h1, h2⟩ => ⟨h1, (hX.alloc _).trans h2 (fun _ _ e => e)⟩)
    rcases (show i = 0 ∨ i = 1 ∨ i = 2 ∨ i = 3 ∨ i = 4 ∨ i = 5 ∨ i = 6 ∨ i = 7 ∨ i = 8 by omega) with rfl | rfl | rfl | rfl | rfl | rfl | rfl | rfl | rfl
    all_goals exact ⟨⟨_, _, by rw [Lib.cell_of_heap h0]; rfl⟩, by rw [Lib.cell_of_heap h0]; rfl⟩
  have hF2 : Fresh w ((w.alloc (.cells #[.slice g1 n1 c1, .slice q n2 c2, .slice k n3 c3, .slice v n4 c4, .slice o n5 c5, .slice g2 n6 c6, zV qs, zV ks, zV vs, zV os, zV ss, .slice mg n7 c7, .slice mu n8 c8, .slice md n9 c9, zV gs, zV us, zV ds] 72)).alloc (.cells #[zV a1, zV a2, zV (D : Int), zV (A : Int), zV (B : Int)] 81)) := ((Kept.refl _ w).alloc _).alloc _
  have HF3 := show Hid _ from HF.out _ hF2
  simp only [World.size_alloc] at HF3
  clear hF2 HF
  generalize bwB n1 n2 n3 n4 n5 n6 n7 n8 n9 A B D = R at *
  unfold blkC
  go_enter Tryd.func75, Tryd.ntmps75
  go_wp2_with fail
  refine Calls.mono HF3.out ?_
  rintro e X ⟨rfl, hf⟩
  have HX : Hid (Fresh w X) := hf
  clear hf HF3
  go_wp2
  go_ret
  exact ⟨rfl, HX.out⟩
end Go.Proofs.YtakiimjldccgcabDoor

/-
  Blocks in memory; which of them is wrong, and what is wrong with it.
-/
namespace Go.Proofs.YtakiimjldccgcabDoor
open Go.RowKit Go.Lib Go.Maps

/-- A block: its nine matrices and rows, its eight shifts. -/
structure Bk where
  g1 : List Int
  q : List Int
  k : List Int
  v : List Int
  o : List Int
  g2 : List Int
  qs : Int
  ks : Int
  vs : Int
  os : Int
  ss : Int
  mg : List Int
  mu : List Int
  md : List Int
  gs : Int
  us : Int
  ds : Int
  deriving Inhabited
/-- A block's shifts. -/
def Bk.sh (B : Bk) : List Int := [B.qs, B.ks, B.vs, B.os, B.ss, B.gs, B.us, B.ds]
/-- A block's cells, its rows laid where p allows. -/
def BkC (p : Nat → Prop) (W : World) (cs : Array Value) (B : Bk) : Prop :=
  ∃ g1 q k v o g2 mg mu md, cs = blkC g1 q k v o g2 B.qs B.ks B.vs B.os B.ss mg mu md B.gs B.us B.ds ∧
    Rk .i8 p W g1 B.g1 ∧ Rk .i8 p W q B.q ∧ Rk .i8 p W k B.k ∧ Rk .i8 p W v B.v ∧ Rk .i8 p W o B.o ∧ Rk .i8 p W g2 B.g2 ∧ Rk .i8 p W mg B.mg ∧ Rk .i8 p W mu B.mu ∧ Rk .i8 p W md B.md ∧ (∀ x ∈ B.sh, I64 x)
theorem BkC.kept {p : Nat → Prop} {S : Nat → Prop} {W W' : World} {cs : Array Value} {B : Bk} (h : BkC p W cs B) (hk : Kept S W W') (hn : ∀ b, p b → ¬ S b) : BkC p W' cs B := by
  obtain ⟨g1, q, k, v, o, g2, mg, mu, md, h0, h1, h2, h3, h4, h5, h6, h7, h8, h9, h10⟩ := h
  exact ⟨g1, q, k, v, o, g2, mg, mu, md, h0, h1.kept hk hn, h2.kept hk hn, h3.kept hk hn, h4.kept hk hn, h5.kept hk hn, h6.kept hk hn, h7.kept hk hn, h8.kept hk hn, h9.kept hk hn, h10⟩
/-- Block i of a list. -/
def gBk (L : List Bk) (i : Nat) : Bk := L.getD i default
/-- A row of blocks where p allows. -/
def BkR (p : Nat → Prop) (W : World) (v : Value) (L : List Bk) : Prop :=
  ∃ ao cap, v = .slice ao L.length cap ∧ (ao = none → cap = 0) ∧ L.length ≤ cap ∧ L.length * 280 ≤ 140737488351232 ∧
    (0 < L.length → ∃ b off, ao = some ⟨b, off, none⟩ ∧ p b ∧ b < W.heap.size ∧ ∀ i, i < L.length → ∃ cs, BkC p W cs (gBk L i) ∧ ∀ j, j < 17 → W.cell? ⟨b, off + i * 17 + j, none⟩ = cs[j]?)
theorem BkR.kept {p : Nat → Prop} {S : Nat → Prop} {W W' : World} {v : Value} {L : List Bk} (h : BkR p W v L) (hk : Kept S W W') (hn : ∀ b, p b → ¬ S b) : BkR p W' v L := by
  obtain ⟨ao, cap, h1, h2, h3, h4, h5⟩ := h
  refine ⟨ao, cap, h1, h2, h3, h4, fun h0 => ?_⟩
  obtain ⟨b, off, ha, hp, hb, hc⟩ := h5 h0
  refine ⟨b, off, ha, hp, Nat.lt_of_lt_of_le hb hk.size, fun i hi => ?_⟩
  obtain ⟨cs, c0, c1⟩ := hc i hi
  exact ⟨cs, c0.kept hk hn, fun j hj => (hk.cell (p := ⟨b, off + i * 17 + j, none⟩) hb (hn b hp)).trans (c1 j hj)⟩
theorem BkR.fresh {p : Nat → Prop} {W W' : World} {v : Value} {L : List Bk} (h : BkR p W v L) (hk : Fresh W W') : BkR p W' v L := h.kept hk (fun _ _ e => e)
theorem BkR.shape {p : Nat → Prop} {W : World} {v : Value} {L : List Bk} (h : BkR p W v L) : ∃ ao cap, v = .slice ao L.length cap := by
  obtain ⟨ao, cap, h1, _⟩ := h
  exact ⟨ao, cap, h1⟩
/-- Is a block whole? -/
def bkW (b : Bk) (A B D : Nat) : Bool := bwB b.g1.length b.q.length b.k.length b.v.length b.o.length b.g2.length b.mg.length b.mu.length b.md.length A B D
/-- Are a block's shifts right? -/
def bkS (b : Bk) : Bool := b.sh.all (fun x => wiB x 0 31)
/-- The first wrong block and what is wrong with it, from block i on. -/
def wbG (l : Int) (A B D : Nat) : Nat → List Bk → Int × Int
  | i, [] => if (i : Int) < l then ((i : Int), 161) else (0, 0)
  | i, b :: r => if (i : Int) = l ∨ bkW b A B D = false then ((i : Int), 161) else if bkS b = false then ((i : Int), 162) else wbG l A B D (i + 1) r
theorem drop_bk {L : List Bk} {i : Nat} (h : i < L.length) : L.drop i = gBk L i :: L.drop (i + 1) := by
  rw [List.drop_eq_getElem_cons h]
  congr 1
  unfold gBk
  simp [h]
theorem wbG_part {l : Int} {A B D : Nat} {L : List Bk} {i : Nat} (h : i < L.length) (hb : (i : Int) = l ∨ bkW (gBk L i) A B D = false) : wbG l A B D i (L.drop i) = ((i : Int), 161) := by
  rw [drop_bk h]
  exact if_pos hb
theorem wbG_shift {l : Int} {A B D : Nat} {L : List Bk} {i : Nat} (h : i < L.length) (h1 : (i : Int) ≠ l) (h2 : bkW (gBk L i) A B D = true) (h3 : bkS (gBk L i) = false) : wbG l A B D i (L.drop i) = ((i : Int), 162) := by
  rw [drop_bk h]
  have hn : ¬ ((i : Int) = l ∨ bkW (gBk L i) A B D = false) := by rw [h2]; simp [h1]
  exact (if_neg hn).trans (if_pos h3)
theorem wbG_next {l : Int} {A B D : Nat} {L : List Bk} {i : Nat} (h : i < L.length) (h1 : (i : Int) ≠ l) (h2 : bkW (gBk L i) A B D = true) (h3 : bkS (gBk L i) = true) : wbG l A B D i (L.drop i) = wbG l A B D (i + 1) (L.drop (i + 1)) := by
  rw [drop_bk h]
  have hn : ¬ ((i : Int) = l ∨ bkW (gBk L i) A B D = false) := by rw [h2]; simp [h1]
  exact (if_neg hn).trans (if_neg (by rw [h3]; simp))
theorem wbG_end {l : Int} {A B D : Nat} {L : List Bk} : wbG l A B D L.length (L.drop L.length) = if (L.length : Int) < l then ((L.length : Int), 161) else (0, 0) := by
  rw [List.drop_length]
  rfl
end Go.Proofs.YtakiimjldccgcabDoor
