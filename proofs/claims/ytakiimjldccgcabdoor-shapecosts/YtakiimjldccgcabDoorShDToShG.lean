/-
  The generator: its next number, its next n numbers; gains; doublings; the text of one byte.
-/
import Derived.Test.YtakiimjldccgcabDoorFilToShA
import Derived.Test.YtakiimjldccgcabDoorStRToVoN
import Derived.Test.YtakiimjldccgcabDoorVodToVomT
import Derived.Laws.IdiomStrings
import Derived.Test.YtakiimjldccgcabDoorShBToRgt
import Derived.Deep.RegionHeld3
namespace Go.Proofs.YtakiimjldccgcabDoor
open Go.RowKit Go.Lib Go.Maps

/-- The generator's next state, its number, its states. -/
def gS (s : Nat) : Nat := (s * 6364136223846793005 + 1442695040888963407) % 18446744073709551616
def gV (s : Nat) : Int := if s / 72057594037927936 < 128 then ((s / 72057594037927936 : Nat) : Int) else ((s / 72057594037927936 : Nat) : Int) - 256
def gN (s : Nat) : Nat → Nat
  | 0 => s
  | j + 1 => gS (gN s j)
def gL (s n : Nat) : List Int := mkL n (fun j => gV (gN s (j + 1)))
theorem gS_lt (s : Nat) : gS s < 18446744073709551616 := Nat.mod_lt _ (by decide)
theorem gN_lt {s : Nat} (h : s < 18446744073709551616) (j : Nat) : gN s j < 18446744073709551616 := by
  cases j with
  | zero => exact h
  | succ j => exact gS_lt _
theorem gN_add (s i j : Nat) : gN s (i + j) = gN (gN s i) j := by
  induction j with
  | zero => rfl
  | succ j ih => show gS (gN s (i + j)) = gS (gN (gN s i) j); rw [ih]
theorem gV_c8 {s : Nat} (h : s < 18446744073709551616) : C8 (gV s) := by
  have h1 : s / 72057594037927936 < 256 := Nat.div_lt_of_lt_mul (by omega)
  unfold gV C8
  split <;> omega
/-- A cell of its own for a state. -/
def GnAt (w : World) (g : Nat) (s : Nat) : Prop := w.cell? ⟨g, 0, none⟩ = some (.int .u64 (s : Int)) ∧ w.frozen? ⟨g, 0, none⟩ = false ∧ g < w.heap.size
theorem GnAt.fresh {w w' : World} {g s : Nat} (h : GnAt w g s) (hk : Fresh w w') : GnAt w' g s :=
  ⟨(hk.cell (p := ⟨g, 0, none⟩) h.2.2 (fun e => e)).trans h.1, (hk.frozen (p := ⟨g, 0, none⟩) h.2.2 (fun e => e)).trans h.2.1, Nat.lt_of_lt_of_le h.2.2 hk.size⟩
theorem GnAt.kept {S : Nat → Prop} {w w' : World} {g s : Nat} (h : GnAt w g s) (hk : Kept S w w') (hn : ¬ S g) : GnAt w' g s :=
  ⟨(hk.cell (p := ⟨g, 0, none⟩) h.2.2 hn).trans h.1, (hk.frozen (p := ⟨g, 0, none⟩) h.2.2 hn).trans h.2.1, Nat.lt_of_lt_of_le h.2.2 hk.size⟩
theorem GnAt.set {w : World} {g s : Nat} (h : GnAt w g s) (t : Nat) : GnAt (w.setCell ⟨g, 0, none⟩ (.int .u64 (t : Int))) g t :=
  ⟨World.cell?_setCell_same _ _ _ h.1, by simp [h.2.1], by simpa using h.2.2⟩
set_option maxHeartbeats 1000000 in
theorem next_any (g s : Nat) (w : World) (hg : GnAt w g s) : Calls Tryd.prog 69 #[.pointer (some ⟨g, 0, none⟩)] w fun e w' => e = .returned (.int .i8 (gV (gS s))) ∧ w' = w.setCell ⟨g, 0, none⟩ (.int .u64 (gS s : Int)) := by
  obtain ⟨h1, h2, h3⟩ := hg
  have hw : IntKind.u64.wrap (IntKind.u64.wrap ((s : Int) * 6364136223846793005) + 1442695040888963407) = ((gS s : Nat) : Int) := by
    unfold gS
    simp [IntKind.wrap, IntKind.bits, IntKind.signed]
  have hlt := gS_lt s
  have h4 : ((gS s : Nat) : Int) / 72057594037927936 = ((gS s / 72057594037927936 : Nat) : Int) := rfl
  have h8 : gS s / 72057594037927936 < 256 := Nat.div_lt_of_lt_mul (by omega)
  have hv : IntKind.i8.wrap ((gS s / 72057594037927936 : Nat) : Int) = gV (gS s) := by
    unfold gV
    split <;> (simp [IntKind.wrap, IntKind.bits, IntKind.signed]; omega)
  generalize gS s = t at *
  generalize gV t = z at *
  generalize t / 72057594037927936 = q at *
  go_enter Tryd.func69, Tryd.ntmps69
  go_wp2
  go_ret
  exact ⟨rfl, rfl⟩

/-- A row that the generator fills, and its state. -/
def NuI (w : World) (g s n j : Nat) (wr : World) : Prop :=
  wr.ownsRow w.heap.size 68 1 (.slice (some ⟨w.heap.size, 0, none⟩) n n) n ((mkL j (fun j => gV (gN s (j + 1))) ++ List.replicate (n - j) 0).map (Value.int .i8)) ∧ Kept (fun b => b = g) w wr ∧ GnAt wr g (gN s j)
theorem NuI.start {w : World} {g s n : Nat} (hg : GnAt w g s) (hn : n ≤ 140737488351232) : NuI w g s n 0 (w.alloc (.cells ((List.replicate n (0 : Int)).map (Value.int .i8)).toArray 68)) :=
  ⟨own_made .i8 68 w w.heap.size (Nat.le_refl _) n n (Nat.le_refl _) hn, (Kept.refl _ w).alloc _, hg.fresh ((Kept.refl _ w).alloc _)⟩
theorem NuI.next {w wr : World} {g s n j : Nat} (h : NuI w g s n j wr) (hg : g < w.heap.size) (hj : j < n) : NuI w g s n (j + 1) ((wr.setCell ⟨g, 0, none⟩ (.int .u64 (gS (gN s j) : Int))).setCell ⟨w.heap.size, j, none⟩ (.int .i8 (gV (gS (gN s j))))) := by
  obtain ⟨h1, h2, h3⟩ := h
  have hk1 : Kept (fun b => b = g) wr (wr.setCell ⟨g, 0, none⟩ (.int .u64 (gS (gN s j) : Int))) := (Kept.refl (fun b => b = g) wr).setCell (p := ⟨g, 0, none⟩) (fun _ => rfl) _
  have h4 := owns_kept h1 hk1 (fun q hq e => by
    simp only [Value.ownBlock, Option.some.injEq] at hq
    omega)
  refine ⟨?_, (h2.trans hk1 (fun _ _ e => e)).setCell (fun e => absurd e (Nat.lt_irrefl _)) _, ?_⟩
  · have := own_setB (i := j) (x := Value.int .i8 (gV (gS (gN s j)))) h4
    rw [← List.map_set, show n - j = (n - (j + 1)) + 1 by omega, set_at (mkL_len j (fun j => gV (gN s (j + 1))))] at this
    rw [mkL_succ]
    exact this
  · exact (h3.set _).kept ((Kept.refl (fun b => b = w.heap.size) _).setCell (p := ⟨w.heap.size, j, none⟩) (fun _ => rfl) _) (by omega)
set_option maxHeartbeats 1000000 in
theorem numbers_any (g s n : Nat) (w : World) (hg : GnAt w g s) (hn : n ≤ 1048576) : Calls Tryd.prog 49 #[.pointer (some ⟨g, 0, none⟩), zV (n : Int)] w fun e w' => ∃ q, e = .returned (.slice (some ⟨q, 0, none⟩) n n) ∧ w'.ownsRow w.heap.size 68 1 (.slice (some ⟨q, 0, none⟩) n n) n ((gL s n).map (Value.int .i8)) ∧ Kept (fun b => b = g) w w' ∧ GnAt w' g (gN s n) := by
  have hmk := run_mk ty8 n n (Nat.le_refl _) (by simp [kb]; omega) w
  have HN := show Hid _ from NuI.start (n := n) hg (by omega)
  have HG : Hid (g < w.heap.size) := hg.2.2
  clear hg
  go_enter Tryd.func49, Tryd.ntmps49
  generalize w.alloc (.cells ((List.replicate n (0 : Int)).map (Value.int .i8)).toArray 68) = W0 at *
  go_wp2
  clear hmk
  go_loopw [11] (fun iv wr => ∃ j : Nat, j ≤ n ∧ iv = zV j ∧ Hid (NuI w g s n j wr)) (fun iv _ => n - (RowKit.intOf iv).toNat)
  case atStart => exact ⟨0, Nat.zero_le _, rfl, HN.out⟩
  case round =>
    obtain ⟨j, hj, rfl, HA⟩ := hrel
    clear HN
    by_cases hlt : j < n
    · have hlt' : (j : Int) < (n : Int) := by omega
      have h0j : (0 : Int) ≤ (j : Int) := by omega
      have HC := show Hid _ from next_any g (gN s j) wr HA.out.2.2
      have HX := show Hid _ from HA.out.next HG.out hlt
      generalize gS (gN s j) = t at *
      generalize gV t = z at *
      have h5 := owns_kept HA.out.1 ((Kept.refl (fun b => b = g) wr).setCell (p := ⟨g, 0, none⟩) (fun _ => rfl) (.int .u64 (t : Int))) (fun q hq e => by
        simp only [Value.ownBlock, Option.some.injEq] at hq
        have := HG.out
        omega)
      have f3 := own_frozen h5 j
      have g3 := own_get h5 j hlt
      clear h5 HA
      go_wp2_with fail
      refine Calls.mono HC.out ?_
      rintro e X ⟨rfl, rfl⟩
      clear HC
      generalize wr.setCell ⟨g, 0, none⟩ (.int .u64 (t : Int)) = X at *
      go_wp2
      go_roundw
      case rel => exact ⟨j + 1, hlt, by go_num, HX.out⟩
      case measure => simp [RowKit.intOf]; omega
    · obtain rfl : j = n := by omega
      have hlt' : ¬ ((j : Int) < (j : Int)) := by omega
      have HX := show Hid _ from HA.out
      clear HA
      go_wp2
      go_ret
      obtain ⟨h1, h2, h3⟩ := HX.out
      rw [Nat.sub_self, List.replicate_zero, List.append_nil] at h1
      exact ⟨_, rfl, h1, h2, h3⟩
set_option maxHeartbeats 1000000 in
theorem gains_any (n : Nat) (w : World) (hn : n ≤ 1048576) : Calls Tryd.prog 45 #[zV (n : Int)] w fun e w' => ∃ q, e = .returned (.slice (some ⟨q, 0, none⟩) n n) ∧ w'.ownsRow w.heap.size 68 1 (.slice (some ⟨q, 0, none⟩) n n) n ((mkL n (fun _ => 64)).map (Value.int .i8)) ∧ Fresh w w' := by
  have hmk := run_mk ty8 n n (Nat.le_refl _) (by simp [kb]; omega) w
  have HN := show Hid _ from Fil.start (k := .i8) (e := 68) w n (fun _ => 64) (by omega)
  go_enter Tryd.func45, Tryd.ntmps45
  generalize w.alloc (.cells ((List.replicate n (0 : Int)).map (Value.int .i8)).toArray 68) = W0 at *
  go_wp2
  clear hmk
  go_loopw [9] (fun iv wr => ∃ j : Nat, j ≤ n ∧ iv = zV j ∧ Hid (Fil .i8 68 w n (fun _ => 64) j wr)) (fun iv _ => n - (RowKit.intOf iv).toNat)
  case atStart => exact ⟨0, Nat.zero_le _, rfl, HN.out⟩
  case round =>
    obtain ⟨j, hj, rfl, HA⟩ := hrel
    clear HN
    by_cases hlt : j < n
    · have hlt' : (j : Int) < (n : Int) := by omega
      have h0j : (0 : Int) ≤ (j : Int) := by omega
      have f3 := own_frozen HA.out.1 j
      have g3 := own_get HA.out.1 j hlt
      have HX := show Hid _ from HA.out.next hlt
      clear HA
      go_wp2
      go_roundw
      case rel => exact ⟨j + 1, hlt, by go_num, HX.out⟩
      case measure => simp [RowKit.intOf]; omega
    · obtain rfl : j = n := by omega
      have hlt' : ¬ ((j : Int) < (j : Int)) := by omega
      go_wp2
      go_ret
      obtain ⟨h1, h2⟩ := HA.out
      rw [Nat.sub_self, List.replicate_zero, List.append_nil] at h1
      exact ⟨_, rfl, h1, h2⟩
/-- How often the root of n doubles 1. -/
def dbF (n : Nat) : Nat := if n ≤ 1 then 0 else if n ≤ 4 then 1 else if n ≤ 16 then 2 else if n ≤ 64 then 3 else 4
theorem dbF_le (n : Nat) : dbF n ≤ 4 := by
  unfold dbF
  split
  · omega
  · split
    · omega
    · split
      · omega
      · split <;> omega
theorem dbF_spec {n : Nat} (hn : n ≤ 256) : (0 < dbF n ↔ 1 < n) ∧ (1 < dbF n ↔ 4 < n) ∧ (2 < dbF n ↔ 16 < n) ∧ (3 < dbF n ↔ 64 < n) := by
  unfold dbF
  split
  · omega
  · split
    · omega
    · split
      · omega
      · split <;> omega
set_option maxHeartbeats 1000000 in
theorem doublings_any (n : Nat) (w : World) (hn : n ≤ 256) : Calls Tryd.prog 46 #[zV (n : Int)] w fun e w' => e = .returned (zV (dbF n : Int)) ∧ w' = w := by
  have hd := dbF_le n
  have hs := dbF_spec hn
  generalize dbF n = m at *
  go_enter Tryd.func46, Tryd.ntmps46
  go_wp2
  go_loopw [3] (fun iv wr => ∃ j : Nat, j ≤ m ∧ iv = zV j ∧ wr = w) (fun iv _ => m - (RowKit.intOf iv).toNat)
  case atStart => exact ⟨0, Nat.zero_le _, rfl, rfl⟩
  case round =>
    obtain ⟨j, hj, rfl, rfl⟩ := hrel
    obtain ⟨a0, a1, a2, a3⟩ := hs
    by_cases hlt : j < m
    · rcases (show j = 0 ∨ j = 1 ∨ j = 2 ∨ j = 3 by omega) with rfl | rfl | rfl | rfl
      · have hc : (1 : Int) < (n : Int) := by omega
        go_wp2
        go_roundw
        case rel => exact ⟨1, by omega, rfl, by simp⟩
        case measure => simp [RowKit.intOf]; omega
      · have hc : (4 : Int) < (n : Int) := by omega
        go_wp2
        go_roundw
        case rel => exact ⟨2, by omega, rfl, by simp⟩
        case measure => simp [RowKit.intOf]; omega
      · have hc : (16 : Int) < (n : Int) := by omega
        go_wp2
        go_roundw
        case rel => exact ⟨3, by omega, rfl, by simp⟩
        case measure => simp [RowKit.intOf]; omega
      · have hc : (64 : Int) < (n : Int) := by omega
        go_wp2
        go_roundw
        case rel => exact ⟨4, by omega, rfl, by simp⟩
        case measure => simp [RowKit.intOf]; omega
    · obtain rfl : j = m := by omega
      rcases (show j = 0 ∨ j = 1 ∨ j = 2 ∨ j = 3 ∨ j = 4 by omega) with rfl | rfl | rfl | rfl | rfl
      · have hc : ¬ (1 : Int) < (n : Int) := by omega
        go_wp2
        go_ret
        exact ⟨rfl, rfl⟩
      · have hc : ¬ (4 : Int) < (n : Int) := by omega
        go_wp2
        go_ret
        exact ⟨rfl, rfl⟩
      · have hc : ¬ (16 : Int) < (n : Int) := by omega
        go_wp2
        go_ret
        exact ⟨rfl, rfl⟩
      · have hc : ¬ (64 : Int) < (n : Int) := by omega
        go_wp2
        go_ret
        exact ⟨rfl, rfl⟩
      · have hc : ¬ (256 : Int) < (n : Int) := by omega
        go_wp2
        go_ret
        exact ⟨rfl, rfl⟩
set_option maxHeartbeats 1000000 in
set_option maxRecDepth 100000 in
theorem text_any (v : Int) (b : UInt8) (w : World) (hv : v % 256 = (b.toNat : Int)) : Calls Tryd.prog 66 #[zV v] w fun e w' => e = .returned (sV [b]) ∧ Fresh w w' := by
  have hc : (convert 159 9 (.slice (some ⟨w.heap.size, 0, none⟩) 1 1)).run Tryd.prog (w.alloc (.cells #[.int .u8 (b.toNat : Int)] 5)) = .ok (sV [b]) (w.alloc (.cells #[.int .u8 (b.toNat : Int)] 5)) := by
    have := run_convert_bytes_back (P := Tryd.prog) (w.alloc (.cells #[.int .u8 (b.toNat : Int)] 5)) 159 9 5 ⟨w.heap.size, 0, none⟩ 1 [b] Tryd.underlying159 Tryd.underlying5 Tryd.underlying9 (fun j hj => by
      obtain rfl : j = 0 := by
        simp only [List.length_cons, List.length_nil] at hj
        omega
      rw [show (⟨w.heap.size, 0, none⟩ : Addr).add 0 = ⟨w.heap.size, 0, none⟩ from rfl, World.cell?_alloc_mark]
      rfl)
    exact this
  have HF : Hid (Fresh w (w.alloc (.cells #[.int .u8 (b.toNat : Int)] 5))) := (Kept.refl _ w).alloc _
  go_enter Tryd.func66, Tryd.ntmps66
  go_wp2
  go_ret
  exact ⟨rfl, HF.out⟩
end Go.Proofs.YtakiimjldccgcabDoor

/-
  A drawn region whose first operations make nothing but new memory (reads, calls, allocs), told by what each one's slot holds once it has come up; its last ones each wait for all ahead of them.
-/
namespace Go.Proofs.YtakiimjldccgcabDoor
open Go.RowKit

section
variable {P : Program} {l : List Oper} {k : Nat} {Q : Exit → Act → World → Prop}
theorem left_one {L : Array Bool} {i : Nat} (hi : i < L.size) (h : ¬ Up L i) : 1 ≤ left L := by
  unfold left Up at *
  rw [Array.getD_eq_getD_getElem?, Array.getElem?_eq_getElem hi] at h
  simp only [Option.getD_some, Bool.not_eq_true] at h
  exact List.count_pos_iff.2 (by rw [← h]; exact Array.mem_toList_iff.2 (Array.getElem_mem hi))
theorem left_tail : ∀ (l : List Bool) (k : Nat), (∀ i, k ≤ i → i < l.length → l[i]? = some false) → l.length - k ≤ l.count false
  | [], k, _ => by simp
  | b :: r, 0, h => by
    have h0 := h 0 (Nat.le_refl _) (by simp)
    simp only [List.getElem?_cons_zero, Option.some.injEq] at h0
    have := left_tail r 0 (fun i _ hi => by simpa using h (i + 1) (Nat.zero_le _) (by simpa using hi))
    subst h0
    simp only [List.length_cons, List.count_cons_self]
    omega
  | b :: r, k + 1, h => by
    have := left_tail r k (fun i hk hi => by simpa using h (i + 1) (by omega) (by simpa using hi))
    have h2 : r.count false ≤ (b :: r).count false := List.count_le_count_cons
    simp only [List.length_cons]
    omega
theorem wpAny_inv_tail (hT : tailB l k = true) (hk : k ≤ l.length) (I : Array Bool → Act → World → Prop)
    (hs : ∀ (L : Array Bool) (a : Act) (w : World), L.size = l.length → I L a w → ∀ (i : Nat) (o : Oper), l[i]? = some o → i < k → ¬ Up L i → (∀ e ∈ o.after, Region.binds .any e = true → Up L e.on) →
      ∀ K : Act → World → Prop, (∀ a' w', I (L.setIfInBounds i true) a' w' → K a' w') → if Region.wanted o (yielded l.toArray a.tmps) = true then Oper.wp P o a w K Q else K (a.put o.dst undef) w)
    (he : ∀ (L : Array Bool) (a : Act) (w : World), I L a w → (∀ i, i < k → Up L i) → wpTail P l.toArray Q (l.drop k) a w) :
    ∀ (fuel : Nat) (L : Array Bool) (a : Act) (w : World), L.size = l.length → (∀ i, k ≤ i → i < l.length → L[i]? = some false) → left L ≤ fuel → I L a w → wpAny P .any l.toArray Q fuel L a w := by
  have hlt : ∀ (L : Array Bool), L.size = l.length → (∀ i, k ≤ i → i < l.length → L[i]? = some false) → l.length - k ≤ left L := fun L hL hdn => by
    have := left_tail L.toList k (fun i h1 h2 => by
      have h2' : i < l.length := by simpa [hL] using h2
      have := hdn i h1 h2'
      simpa using this)
    unfold left
    simpa [hL] using this
  have hend : ∀ (fuel : Nat) (L : Array Bool) (a : Act) (w : World), L.size = l.length → (∀ i, k ≤ i → i < l.length → L[i]? = some false) → left L ≤ fuel → I L a w → (∀ i, i < k → Up L i) → wpAny P .any l.toArray Q fuel L a w := fun fuel L a w hL hdn hf hI hup => by
    refine wpAny_tail hT (l.drop k) k L fuel a w rfl (Nat.le_refl _) hL (fun i hi hil => ?_) hdn (by have := hlt L hL hdn; simp only [List.length_drop]; omega) (he L a w hI hup)
    have hu := hup i hi
    have hlt' : i < L.size := by omega
    unfold Up at hu
    rw [Array.getD_eq_getD_getElem?, Array.getElem?_eq_getElem hlt'] at hu
    rw [Array.getElem?_eq_getElem hlt']
    exact congrArg some hu
  intro fuel
  induction fuel with
  | zero =>
    intro L a w hL hdn hf hI
    refine hend 0 L a w hL hdn hf hI (fun i hi => ?_)
    by_cases hu : Up L i
    · exact hu
    · have := left_one (L := L) (i := i) (by omega) hu
      omega
  | succ fuel ih =>
    intro L a w hL hdn hf hI
    by_cases hall : ∀ i, i < k → Up L i
    · exact hend _ L a w hL hdn hf hI hall
    · refine ⟨fun hr => ?_, fun i hi => ?_⟩
      · exfalso
        refine hall (fun i hi => ?_)
        exact all_up (ops := l.toArray) (fun j o ho => tail_back hT j o (by simpa using ho)) (by simpa using hL) hr (i + 1) i (by omega) (by simp; omega)
      · obtain ⟨h1, o, ho, h2⟩ := mem_ready.1 hi
        have hil : i < l.length := by simpa using (Array.getElem?_eq_some_iff.1 ho).1
        have ho' : l[i]? = some o := by simpa using ho
        have hik : i < k := by
          rcases Nat.lt_or_ge i k with e | e
          · exact e
          · exfalso
            refine hall (fun j hj => ?_)
            obtain ⟨e', he', hb, hon⟩ := tail_waits hT i o ho' e j (by omega)
            have := h2 e' he' hb
            rw [hon] at this
            exact this
        have hn : ¬ Up L i := by
          intro e
          have hlt' : i < L.size := by omega
          unfold Up at e
          simp [Array.getD_eq_getD_getElem?, Array.getElem?_eq_getElem hlt'] at h1 e
          rw [h1] at e
          cases e
        refine wpOp_step ho (fun K hK => hs L a w hL hI i o ho' hik hn (fun e he hbd => h2 e he hbd) K (fun a' w' hI' => hK a' w' (ih _ a' w' (by simpa using hL) (fun j hj hjl => ?_) ?_ hI')))
        · rw [Array.getElem?_setIfInBounds, if_neg (by omega)]
          exact hdn j hj hjl
        · have := left_set h1
          omega
/-- The slots' values, one of them new. -/
def upd (vs : Nat → Value) (i : Nat) (v : Value) : Nat → Value := fun j => if j = i then v else vs j
/-- The whole region: st tells the frame by the slots' values, ψ what the i-th operation's slot holds once it has come up. -/
theorem region_psi {id : Nat} {a : Act} {W : World} (k : Nat) (hm : P.follows .mixedOrders = true) (hk : k ≤ l.length) (hT : tailB l k = true) (st : (Nat → Value) → Act) (ψ : Nat → Value → World → Prop)
    (hψ : ∀ i v w w', ψ i v w → Fresh w w' → ψ i v w') (vs0 : Nat → Value) (h0 : a = st vs0)
    (hs : ∀ (vs : Nat → Value) (w : World), Fresh W w → ∀ (i : Nat) (o : Oper), l[i]? = some o → i < k → (∀ e ∈ o.after, Region.binds .any e = true → ψ e.on (vs e.on) w) →
      ∀ K : Act → World → Prop, (∀ v w', Fresh w w' → ψ i v w' → K (st (upd vs i v)) w') → if Region.wanted o (yielded l.toArray (st vs).tmps) = true then Oper.wp P o (st vs) w K Q else K ((st vs).put o.dst undef) w)
    (he : ∀ (vs : Nat → Value) (w : World), Fresh W w → (∀ i, i < k → ψ i (vs i) w) → wpTail P l.toArray Q (l.drop k) (st vs) w) : (Code.region id l.toArray true).wp P Q a W := by
  refine wp_region_any hm ?_
  refine wpAny_inv_tail hT hk (fun L a w => ∃ vs, a = st vs ∧ Fresh W w ∧ ∀ i, i < k → Up L i → ψ i (vs i) w) ?_ ?_ _ _ _ _ (by simp) (fun i _ hi => by simp [hi]) (by rw [left_none]; exact Nat.le_refl _) ⟨vs0, h0, (Kept.refl _ _).drew, fun i _ hu => absurd hu (not_up0 _ _)⟩
  · rintro L a w hL ⟨vs, rfl, hF, hv⟩ i o ho hik hn hd K hK
    refine hs vs w hF i o ho hik (fun e he hb => hv e.on (by have := tail_back hT i o ho e he hb; omega) (hd e he hb)) K (fun v w' hf hp => hK _ _ ⟨upd vs i v, rfl, hF.trans hf (fun _ _ e => e), fun j hj hu => ?_⟩)
    unfold upd
    by_cases e : j = i
    · rw [if_pos e, e]; exact hp
    · rw [if_neg e]
      exact hψ j _ _ _ (hv j hj ((up_set_ne (fun e2 => e e2.symm)).1 hu)) hf
  · rintro L a w ⟨vs, rfl, hF, hv⟩ hall
    exact he vs w hF (fun i hi => hv i hi (hall i hi))
end
end Go.Proofs.YtakiimjldccgcabDoor

/-
  A sample's block.
-/
namespace Go.Proofs.YtakiimjldccgcabDoor
open Go.RowKit Go.Lib Go.Maps

abbrev nil8 : Value := .slice none 0 0
/-- The cells of a block. -/
def blkC (g1 q k v o g2 : Value) (qs ks vs os ss : Int) (mg mu md : Value) (gs us ds : Int) : Array Value := #[g1, q, k, v, o, g2, zV qs, zV ks, zV vs, zV os, zV ss, mg, mu, md, zV gs, zV us, zV ds]
theorem Rk.only {k : IntKind} {p : Nat → Prop} {w : World} {g off n c : Nat} {zs : List Int} (h : Rk k p w (.slice (some ⟨g, off, none⟩) n c) zs) : Rk k (fun b => b = g) w (.slice (some ⟨g, off, none⟩) n c) zs := by
  obtain ⟨ao, cap, hv, h1, h2, h3, h4, h5⟩ := h
  refine ⟨ao, cap, hv, h1, fun h0 => ?_, h3, h4, h5⟩
  obtain ⟨b, o, e, hp, hb, hc⟩ := h2 h0
  injection hv with e1
  subst e
  injection e1 with e1
  injection e1 with e1
  exact ⟨b, o, rfl, e1.symm, hb, hc⟩
theorem gL_row {X X' : World} {q s n : Nat} (ho : X'.ownsRow X.heap.size 68 1 (.slice (some ⟨q, 0, none⟩) n n) n ((gL s n).map (Value.int .i8))) (hs : s < 18446744073709551616) (hn : n ≤ 1048576) : Rk .i8 (fun b => b = q) X' (.slice (some ⟨q, 0, none⟩) n n) (gL s n) ∧ X.heap.size ≤ q :=
  ⟨(rk_of_own ho (by unfold gL; rw [mkL_len]; simp [kb]; omega) (fun z hz => by
      obtain ⟨j, _, e⟩ := mkL_mem hz
      rw [e]
      exact gV_c8 (gN_lt hs _))).only, (own_block ho).1⟩
theorem box3 (w : World) (c1 c2 c3 : Array Value) (t1 t2 t3 : TypeId) : ∀ X, Fresh (((w.alloc (.cells c1 t1)).alloc (.cells c2 t2)).alloc (.cells c3 t3)) X → Fresh w X ∧ X.heap[w.heap.size]? = some (.cells c1 t1 (0, 0)) ∧ X.heap[w.heap.size + 1]? = some (.cells c2 t2 (0, 0)) ∧ X.heap[w.heap.size + 2]? = some (.cells c3 t3 (0, 0)) := fun X hk => by
  have h0 : Fresh ((w.alloc (.cells c1 t1)).alloc (.cells c2 t2)) (((w.alloc (.cells c1 t1)).alloc (.cells c2 t2)).alloc (.cells c3 t3)) := (Kept.refl _ _).alloc _
  obtain ⟨h1, h2, h3⟩ := box2 w c1 c2 t1 t2 X (h0.trans hk (fun _ _ e => e))
  have h4 := heap_alloc_new ((w.alloc (.cells c1 t1)).alloc (.cells c2 t2)) (.cells c3 t3)
  rw [World.size_alloc, World.size_alloc] at h4
  exact ⟨h1, h2, h3, hk.at h4 (fun e => e)⟩
abbrev sl (q n : Nat) : Value := .slice (some ⟨q, 0, none⟩) n n
/-- The rows of a sample's block. -/
structure BkRows (st A B D : Nat) (p : Nat → Prop) (w : World) (g1 g2 q1 q2 q3 q4 q5 q6 q7 : Nat) : Prop where
  r1 : Rk .i8 p w (sl g1 D) (mkL D (fun _ => 64))
  r2 : Rk .i8 p w (sl g2 D) (mkL D (fun _ => 64))
  x1 : Rk .i8 p w (sl q1 A) (gL st A)
  x2 : Rk .i8 p w (sl q2 A) (gL (gN st A) A)
  x3 : Rk .i8 p w (sl q3 A) (gL (gN (gN st A) A) A)
  x4 : Rk .i8 p w (sl q4 A) (gL (gN (gN (gN st A) A) A) A)
  x5 : Rk .i8 p w (sl q5 B) (gL (gN (gN (gN (gN st A) A) A) A) B)
  x6 : Rk .i8 p w (sl q6 B) (gL (gN (gN (gN (gN (gN st A) A) A) A) B) B)
  x7 : Rk .i8 p w (sl q7 B) (gL (gN (gN (gN (gN (gN (gN st A) A) A) A) B) B) B)
/-- What the slots of block's second region hold. -/
def bkP (D B4 : Nat) (i7 i8 : Int) (W : World) (i : Nat) (v : Value) (w : World) : Prop := match i with
  | 0 => v = .pointer (some ⟨B4, 2, none⟩)
  | 1 => v = zV (D : Int)
  | 2 => ∃ g, v = .slice (some ⟨g, 0, none⟩) D D ∧ Rk .i8 (fun b => W.heap.size ≤ b) w v (mkL D (fun _ => 64))
  | 3 => v = .pointer (some ⟨B4, 2, none⟩)
  | 4 => v = zV (D : Int)
  | 5 => ∃ g, v = .slice (some ⟨g, 0, none⟩) D D ∧ Rk .i8 (fun b => W.heap.size ≤ b) w v (mkL D (fun _ => 64))
  | 6 => v = zV i7
  | 7 => v = zV i7
  | 8 => v = zV i7
  | 9 => v = zV i8
  | 10 => ∃ g1 g2, v = .agg (blkC (.slice (some ⟨g1, 0, none⟩) D D) nil8 nil8 nil8 nil8 (.slice (some ⟨g2, 0, none⟩) D D) i7 i7 i7 i8 3 nil8 nil8 nil8 0 0 0) ∧ Rk .i8 (fun b => W.heap.size ≤ b) w (.slice (some ⟨g1, 0, none⟩) D D) (mkL D (fun _ => 64)) ∧ Rk .i8 (fun b => W.heap.size ≤ b) w (.slice (some ⟨g2, 0, none⟩) D D) (mkL D (fun _ => 64))
  | 11 => ∃ b9, v = .pointer (some ⟨b9, 0, none⟩) ∧ W.heap.size ≤ b9 ∧ w.heap[b9]? = some (.cells (blkC nil8 nil8 nil8 nil8 nil8 nil8 0 0 0 0 0 nil8 nil8 nil8 0 0 0) 72 (0, 0))
  | _ => True
theorem bkP_fresh (D B4 : Nat) (i7 i8 : Int) (W : World) (i : Nat) (v : Value) (w w' : World) (h : bkP D B4 i7 i8 W i v w) (hk : Fresh w w') : bkP D B4 i7 i8 W i v w' := by
  unfold bkP at *
  split at h
  all_goals try exact h
  · obtain ⟨g, h1, h2⟩ := h
    exact ⟨g, h1, h2.fresh hk⟩
  · obtain ⟨g, h1, h2⟩ := h
    exact ⟨g, h1, h2.fresh hk⟩
  · obtain ⟨g1, g2, h1, h2, h3⟩ := h
    exact ⟨g1, g2, h1, h2.fresh hk, h3.fresh hk⟩
  · obtain ⟨b9, h1, h2, h3⟩ := h
    exact ⟨b9, h1, h2, hk.at h3 (fun e => e)⟩
set_option maxHeartbeats 4000000 in
set_option maxRecDepth 100000 in
theorem block_any (g st D N : Nat) (v c h l : Int) (a1 a2 : Int) (w : World) (hg : GnAt w g st) (hst : st < 18446744073709551616) (hD : 2 ≤ D ∧ D ≤ 64) (hN : 1 ≤ N ∧ N ≤ 256) :
    Calls Tryd.prog 50 #[.pointer (some ⟨g, 0, none⟩), .agg #[zV v, zV c, zV (D : Int), zV h, zV l, zV (N : Int)], .agg #[zV a1, zV a2, zV (D : Int), zV ((D * D : Nat) : Int), zV ((N * D : Nat) : Int)]] w fun e w' => ∃ g1 g2 q1 q2 q3 q4 q5 q6 q7 : Nat, e = .returned (.agg (blkC (sl g1 D) (sl q1 (D * D)) (sl q2 (D * D)) (sl q3 (D * D)) (sl q4 (D * D)) (sl g2 D) (7 + (dbF D : Int)) (7 + (dbF D : Int)) (7 + (dbF D : Int)) (4 + (dbF D : Int)) 3 (sl q5 (N * D)) (sl q6 (N * D)) (sl q7 (N * D)) (7 + (dbF D : Int)) (7 + (dbF D : Int)) (4 + (dbF N : Int)))) ∧
      BkRows st (D * D) (N * D) D (fun b => w.heap.size ≤ b) w' g1 g2 q1 q2 q3 q4 q5 q6 q7 ∧ Kept (fun b => b = g) w w' ∧ GnAt w' g (gN (gN (gN (gN (gN (gN (gN st (D * D)) (D * D)) (D * D)) (D * D)) (N * D)) (N * D)) (N * D)) := by
  have HB := show Hid _ from box3 w #[zV v, zV c, zV (D : Int), zV h, zV l, zV (N : Int)] #[zV a1, zV a2, zV (D : Int), zV ((D * D : Nat) : Int), zV ((N * D : Nat) : Int)] (blkC nil8 nil8 nil8 nil8 nil8 nil8 0 0 0 0 0 nil8 nil8 nil8 0 0 0) 23 81 72
  have HD : Hid (∀ W, Calls Tryd.prog 46 #[zV (D : Int)] W fun e w' => e = .returned (zV (dbF D : Int)) ∧ w' = W) := fun W => doublings_any D W (by omega)
  have hd4 := dbF_le D
  have HGA : Hid (∀ W, Calls Tryd.prog 45 #[zV (D : Int)] W fun e w' => ∃ q, e = .returned (.slice (some ⟨q, 0, none⟩) D D) ∧ w'.ownsRow W.heap.size 68 1 (.slice (some ⟨q, 0, none⟩) D D) D ((mkL D (fun _ => 64)).map (Value.int .i8)) ∧ Fresh W w') := fun W => gains_any D W (by omega)
  obtain ⟨d1, d2⟩ := hD
  obtain ⟨n1, n2⟩ := hN
  have hA3 : D * D ≤ 4096 := nat_mul_le d2 d2
  have hA4 : N * D ≤ 16384 := nat_mul_le n2 d2
  obtain ⟨dn, hdn⟩ : ∃ dn, dbF N = dn := ⟨_, rfl⟩
  have HDNE : Hid (dbF N = dn) := hdn
  rw [hdn]
  clear hdn
  generalize D * D = A3 at *
  generalize N * D = A4 at *
  obtain ⟨db, hdb⟩ : ∃ db, dbF D = db := ⟨_, rfl⟩
  rw [hdb] at HD hd4
  rw [hdb]
  clear hdb
  go_enter Tryd.func50, Tryd.ntmps50
  go_upto_region 1 with fail
  have HX : Hid (∀ X, Fresh (((w.alloc (.cells #[zV v, zV c, zV (D : Int), zV h, zV l, zV (N : Int)] 23)).alloc (.cells #[zV a1, zV a2, zV (D : Int), zV (A3 : Int), zV (A4 : Int)] 81)).alloc (.cells (blkC nil8 nil8 nil8 nil8 nil8 nil8 0 0 0 0 0 nil8 nil8 nil8 0 0 0) 72)) X → Fresh w X ∧ X.cell? ⟨w.heap.size, 2, none⟩ = some (zV (D : Int)) ∧ X.cell? ⟨w.heap.size, 5, none⟩ = some (zV (N : Int)) ∧ X.cell? ⟨w.heap.size + 1, 3, none⟩ = some (zV (A3 : Int)) ∧ X.cell? ⟨w.heap.size + 1, 4, none⟩ = some (zV (A4 : Int)) ∧ X.heap[w.heap.size + 2]? = some (.cells (blkC nil8 nil8 nil8 nil8 nil8 nil8 0 0 0 0 0 nil8 nil8 nil8 0 0 0) 72 (0, 0))) := fun X hX => by
    obtain ⟨h1, h2, h3, h4⟩ := HB.out X hX
    exact ⟨h1, by rw [Lib.cell_of_heap h2]; rfl, by rw [Lib.cell_of_heap h2]; rfl, by rw [Lib.cell_of_heap h3]; rfl, by rw [Lib.cell_of_heap h3]; rfl, h4⟩
  clear HB
  unfold blkC at HX
  generalize ((w.alloc (.cells #[zV v, zV c, zV (D : Int), zV h, zV l, zV (N : Int)] 23)).alloc (.cells #[zV a1, zV a2, zV (D : Int), zV (A3 : Int), zV (A4 : Int)] 81)).alloc (.cells #[nil8, nil8, nil8, nil8, nil8, nil8, zV 0, zV 0, zV 0, zV 0, zV 0, nil8, nil8, nil8, zV 0, zV 0, zV 0] 72) = W0 at *
  have K1 : Hid (∀ d : Nw W0, Calls Tryd.prog 46 #[zV (D : Int)] d.w fun e w' => e = .returned (zV (db : Int)) ∧ Fresh d.w w') := fun d => (HD.out d.w).mono (fun e w' ⟨h1, h2⟩ => ⟨h1, by rw [h2]; exact Kept.refl _ _⟩)
  have u0 : ∀ d : Nw W0, d.w.cell? ⟨w.heap.size, 2, none⟩ = some (zV (D : Int)) := fun d => (HX.out d.w d.f).2.1
  have w1 : IntKind.i64.wrap (7 + (db : Int)) = 7 + (db : Int) := by rw [IntKind.wrap_i64]; omega
  have w2 : IntKind.i64.wrap (4 + (db : Int)) = 4 + (db : Int) := by rw [IntKind.wrap_i64]; omega
  haveI : Nonempty (Nw W0) := nw_some W0
  refine wp_region_new (by kernel_rfl) (by kernel_rfl) ?_
  repeat (go_big_quiet_step (with_reducible exact Calls.new_of (K1.out _)))
  refine wpQuiet_nil ?_
  intro _ hw'
  obtain ⟨d0, hw''⟩ := hw'
  subst hw''
  obtain ⟨W1, hW1⟩ : ∃ W1, d0.w = W1 := ⟨_, rfl⟩
  have HF1 : Hid (Fresh W0 W1) := hW1 ▸ d0.f
  rw [hW1]
  clear hW1 u0 K1
  go_upto_region 2 with fail
  refine region_psi 12 (by kernel_rfl) (by simp) (by kernel_rfl) (fun vs => { tmps := #[.pointer (some ⟨g, 0, none⟩), .agg #[zV v, zV c, zV (D : Int), zV h, zV l, zV (N : Int)], .agg #[zV a1, zV a2, zV (D : Int), zV (A3 : Int), zV (A4 : Int)], undef, .pointer (some ⟨w.heap.size, 0, none⟩), .pointer (some ⟨w.heap.size + 1, 0, none⟩), .pointer (some ⟨w.heap.size + 2, 0, none⟩), zV (7 + (db : Int)), zV (4 + (db : Int)), vs 11, .pointer (some ⟨w.heap.size, 2, none⟩), zV (D : Int), zV (db : Int), zV (7 + (db : Int)), .pointer (some ⟨w.heap.size, 2, none⟩), zV (D : Int), zV (db : Int), zV (4 + (db : Int)), vs 0, vs 1, vs 2, vs 3, vs 4, vs 5, vs 6, vs 7, vs 8, vs 9, vs 10, undef, undef, undef, undef, undef, undef, undef, undef, undef, undef, undef, undef, undef, undef, undef, undef, undef, undef, undef, undef, undef, undef, undef, undef, undef, undef, undef, undef, undef, undef, undef, undef, undef, undef, undef, undef, undef, undef, undef, undef, undef, undef, undef, undef, undef, undef, undef], defers := [] }) (bkP D w.heap.size (7 + (db : Int)) (4 + (db : Int)) W1) (bkP_fresh D w.heap.size _ _ W1) (fun _ => undef) rfl ?_ ?_
  · intro vs X hX i o ho hik hd K hK
    obtain ⟨_, x2, _, _, _, _⟩ := HX.out X (HF1.out.trans hX (fun _ _ e => e))
    rcases (show i = 0 ∨ i = 1 ∨ i = 2 ∨ i = 3 ∨ i = 4 ∨ i = 5 ∨ i = 6 ∨ i = 7 ∨ i = 8 ∨ i = 9 ∨ i = 10 ∨ i = 11 by omega) with rfl | rfl | rfl | rfl | rfl | rfl | rfl | rfl | rfl | rfl | rfl | rfl
    all_goals
      simp only [List.getElem?_cons_succ, List.getElem?_cons_zero, Option.some.injEq] at ho
      subst ho
    · go_simp
      exact hK _ X (Kept.refl _ _) rfl
    · simp only [Array.mem_def, List.mem_cons, List.not_mem_nil, or_false, forall_eq] at hd
      have e0 : vs 0 = .pointer (some ⟨w.heap.size, 2, none⟩) := hd rfl
      simp only [e0]
      go_simp
      have h := hK (zV (D : Int)) X (Kept.refl _ _) rfl
      simp [upd, e0] at h
      exact h
    · simp only [Array.mem_def, List.mem_cons, List.not_mem_nil, or_false, forall_eq] at hd
      have e1 : vs 1 = zV (D : Int) := hd rfl
      simp only [e1]
      go_simp
      refine Calls.mono (HGA.out X) ?_
      rintro e Y ⟨q, rfl, ho, hf⟩
      have h := hK (.slice (some ⟨q, 0, none⟩) D D) Y hf ⟨q, rfl, (rk_of_own ho (by rw [mkL_len]; simp [kb]; omega) (fun z hz => by obtain ⟨_, _, e⟩ := mkL_mem hz; rw [e]; simp [Fit, C8])).mono (fun b hb => Nat.le_trans hX.size hb.1)⟩
      simp [upd, e1] at h
      exact h
    · go_simp
      exact hK _ X (Kept.refl _ _) rfl
    · simp only [Array.mem_def, List.mem_cons, List.not_mem_nil, or_false, forall_eq] at hd
      have e3 : vs 3 = .pointer (some ⟨w.heap.size, 2, none⟩) := hd rfl
      simp only [e3]
      go_simp
      have h := hK (zV (D : Int)) X (Kept.refl _ _) rfl
      simp [upd, e3] at h
      exact h
    · simp only [Array.mem_def, List.mem_cons, List.not_mem_nil, or_false, forall_eq_or_imp, forall_eq] at hd
      have e4 : vs 4 = zV (D : Int) := hd.1 rfl
      simp only [e4]
      go_simp
      refine Calls.mono (HGA.out X) ?_
      rintro e Y ⟨q, rfl, ho, hf⟩
      have h := hK (.slice (some ⟨q, 0, none⟩) D D) Y hf ⟨q, rfl, (rk_of_own ho (by rw [mkL_len]; simp [kb]; omega) (fun z hz => by obtain ⟨_, _, e⟩ := mkL_mem hz; rw [e]; simp [Fit, C8])).mono (fun b hb => Nat.le_trans hX.size hb.1)⟩
      simp [upd, e4] at h
      exact h
    · go_simp
      exact hK _ X (Kept.refl _ _) rfl
    · go_simp
      exact hK _ X (Kept.refl _ _) rfl
    · go_simp
      exact hK _ X (Kept.refl _ _) rfl
    · go_simp
      exact hK _ X (Kept.refl _ _) rfl
    · simp only [Array.mem_def, List.mem_cons, List.not_mem_nil, or_false, forall_eq_or_imp, forall_eq] at hd
      obtain ⟨h2, h5, h6, h7, h8, h9⟩ := hd
      obtain ⟨g1, e2, r1⟩ : bkP D w.heap.size (7 + (db : Int)) (4 + (db : Int)) W1 2 (vs 2) X := h2 rfl
      obtain ⟨g2, e5, r2⟩ : bkP D w.heap.size (7 + (db : Int)) (4 + (db : Int)) W1 5 (vs 5) X := h5 rfl
      have e6 : vs 6 = zV (7 + (db : Int)) := h6 rfl
      have e7 : vs 7 = zV (7 + (db : Int)) := h7 rfl
      have e8 : vs 8 = zV (7 + (db : Int)) := h8 rfl
      have e9 : vs 9 = zV (4 + (db : Int)) := h9 rfl
      rw [e2] at r1
      rw [e5] at r2
      simp only [e2, e5, e6, e7, e8, e9]
      go_simp
      have h := hK (.agg (blkC (.slice (some ⟨g1, 0, none⟩) D D) nil8 nil8 nil8 nil8 (.slice (some ⟨g2, 0, none⟩) D D) (7 + (db : Int)) (7 + (db : Int)) (7 + (db : Int)) (4 + (db : Int)) 3 nil8 nil8 nil8 0 0 0)) X (Kept.refl _ _) ⟨g1, g2, rfl, r1, r2⟩
      simp [upd, e2, e5, e6, e7, e8, e9, blkC] at h
      exact h
    · go_simp
      exact hK (.pointer (some ⟨X.heap.size, 0, none⟩)) _ ((Kept.refl _ X).alloc _) ⟨_, rfl, hX.size, heap_alloc_new X _⟩
  · intro vs X hX hall
    obtain ⟨g1, g2, e10, r1, r2⟩ : bkP D w.heap.size (7 + (db : Int)) (4 + (db : Int)) W1 10 (vs 10) X := hall 10 (by decide)
    obtain ⟨b9, e11, hb9, hbk⟩ : bkP D w.heap.size (7 + (db : Int)) (4 + (db : Int)) W1 11 (vs 11) X := hall 11 (by decide)
    have e0 : vs 0 = .pointer (some ⟨w.heap.size, 2, none⟩) := hall 0 (by decide)
    have e1 : vs 1 = zV (D : Int) := hall 1 (by decide)
    have e3 : vs 3 = .pointer (some ⟨w.heap.size, 2, none⟩) := hall 3 (by decide)
    have e4 : vs 4 = zV (D : Int) := hall 4 (by decide)
    have e6 : vs 6 = zV (7 + (db : Int)) := hall 6 (by decide)
    have e7 : vs 7 = zV (7 + (db : Int)) := hall 7 (by decide)
    have e8 : vs 8 = zV (7 + (db : Int)) := hall 8 (by decide)
    have e9 : vs 9 = zV (4 + (db : Int)) := hall 9 (by decide)
    simp only [e0, e1, e3, e4, e6, e7, e8, e9, e10, e11]
    obtain ⟨v2, hv2⟩ : ∃ v2, vs 2 = v2 := ⟨_, rfl⟩
    obtain ⟨v5, hv5⟩ : ∃ v5, vs 5 = v5 := ⟨_, rfl⟩
    simp only [hv2, hv5]
    clear hall e0 e1 e3 e4 e6 e7 e8 e9 e10 e11 hv2 hv5
    simp only [List.drop_succ_cons, List.drop_zero]
    refine tail_store rfl 72 _ _ rfl b9 _ _ 72 rfl rfl hbk rfl (by kernel_rfl) (by simp [Value.oneCell', blkC]) ?_
    intro Y hY hk
    refine tail_nil ?_
    have hgl := hg.2.2
    have hne : ∀ g' c, Rk .i8 (fun b => W1.heap.size ≤ b) X (.slice (some ⟨g', 0, none⟩) D c) (mkL D (fun _ => 64)) → g' ≠ b9 ∧ W1.heap.size ≤ g' := fun g' c hr => by
      obtain ⟨b', off', e, hp, _, hc⟩ := hr.cells.2.2.2 (by omega)
      injection e with e
      injection e with e1 e2
      subst e1
      subst e2
      refine ⟨fun e => ?_, hp⟩
      have h1 := hc 0 (by omega)
      rw [e, Lib.cell_of_heap hbk] at h1
      simp [blkC] at h1
    obtain ⟨n1', n1s⟩ := hne g1 _ r1
    obtain ⟨n2', n2s⟩ := hne g2 _ r2
    have HR1 : Hid (Rk .i8 (fun b => b = g1) Y (.slice (some ⟨g1, 0, none⟩) D D) (mkL D (fun _ => 64))) := r1.only.kept hk (fun b hb e => by
      have e' : b = b9 := e
      omega)
    have HR2 : Hid (Rk .i8 (fun b => b = g2) Y (.slice (some ⟨g2, 0, none⟩) D D) (mkL D (fun _ => 64))) := r2.only.kept hk (fun b hb e => by
      have e' : b = b9 := e
      omega)
    have hWs := (HX.out W1 HF1.out).1.size
    have hbs : w.heap.size + 2 < W1.heap.size := (Array.getElem?_eq_some_iff.1 (HX.out W1 HF1.out).2.2.2.2.2).1
    have hFX := HX.out X (HF1.out.trans hX (fun _ _ e => e))
    have hG0 : GnAt Y g st := (hg.fresh hFX.1).kept hk (fun e => by
      have e' : g = b9 := e
      omega)
    have HS : Hid (∀ Z, Kept (fun b => b = g ∨ b = b9) Y Z → Z.cell? ⟨w.heap.size, 5, none⟩ = some (zV (N : Int)) ∧ Z.cell? ⟨w.heap.size + 1, 3, none⟩ = some (zV (A3 : Int)) ∧ Z.cell? ⟨w.heap.size + 1, 4, none⟩ = some (zV (A4 : Int))) := fun Z hZ => by
      have hkz : Kept (fun b => b = g ∨ b = b9) X Z := (hk.mono (S' := fun b => b = g ∨ b = b9) (fun _ _ e => .inr e)).trans hZ (fun _ _ e => e)
      have hxs := hX.size
      refine ⟨(hkz.cell (p := ⟨w.heap.size, 5, none⟩) (by show w.heap.size < X.heap.size; omega) (fun e => ?_)).trans hFX.2.2.1, (hkz.cell (p := ⟨w.heap.size + 1, 3, none⟩) (by show w.heap.size + 1 < X.heap.size; omega) (fun e => ?_)).trans hFX.2.2.2.1, (hkz.cell (p := ⟨w.heap.size + 1, 4, none⟩) (by show w.heap.size + 1 < X.heap.size; omega) (fun e => ?_)).trans hFX.2.2.2.2.1⟩
      all_goals
        rcases e with e | e
        · have e' := e
          simp only at e'
          omega
        · have e' := e
          simp only at e'
          omega
    have hn3 : A3 ≤ 1048576 := by omega
    obtain ⟨y5, y3, y4⟩ := HS.out Y (Kept.refl _ Y)
    have HNU : Hid (∀ s' Z, GnAt Z g s' → Calls Tryd.prog 49 #[.pointer (some ⟨g, 0, none⟩), zV (A3 : Int)] Z fun e w' => ∃ q, e = .returned (.slice (some ⟨q, 0, none⟩) A3 A3) ∧ w'.ownsRow Z.heap.size 68 1 (.slice (some ⟨q, 0, none⟩) A3 A3) A3 ((gL s' A3).map (Value.int .i8)) ∧ Kept (fun b => b = g) Z w' ∧ GnAt w' g (gN s' A3)) := fun s' Z hZ => numbers_any g s' A3 Z hZ hn3
    have HS2 : Hid (∀ Z, Kept (fun b => b = g ∨ b = b9) Y Z → (Z.cell? ⟨w.heap.size, 5, none⟩ = some (zV (N : Int)) ∧ Z.cell? ⟨w.heap.size + 1, 3, none⟩ = some (zV (A3 : Int)) ∧ Z.cell? ⟨w.heap.size + 1, 4, none⟩ = some (zV (A4 : Int))) ∧ Kept (fun b => b = g ∨ b = b9) Y Z) := fun Z hZ => ⟨HS.out Z hZ, hZ⟩
    have HKW : Hid (Kept (fun b => b = g) w Y) := (hFX.1.mono (S' := fun b => b = g) (fun _ _ e => e.elim)).trans hk (fun b hb e => by
      have e' : b = b9 := e
      omega)
    have HRS : Hid (∀ Z, Kept (fun b => b = g ∨ b = b9) Y Z → Z.heap[w.heap.size + 2]? = some (.cells #[nil8, nil8, nil8, nil8, nil8, nil8, zV 0, zV 0, zV 0, zV 0, zV 0, nil8, nil8, nil8, zV 0, zV 0, zV 0] 72 (0, 0))) := fun Z hZ =>
      hZ.at (hk.at hFX.2.2.2.2.2 (fun e => by
        have e' : w.heap.size + 2 = b9 := e
        omega)) (fun e => by
        rcases e with e | e
        · have e' : w.heap.size + 2 = g := e
          omega
        · have e' : w.heap.size + 2 = b9 := e
          omega)
    have HWB : Hid (w.heap.size ≤ g1 ∧ w.heap.size ≤ g2 ∧ w.heap.size ≤ b9 ∧ w.heap.size + 2 < b9 ∧ w.heap.size + 2 < g1 ∧ w.heap.size + 2 < g2 ∧ w.heap.size + 2 < Y.heap.size) := ⟨by omega, by omega, by omega, by omega, by omega, by omega, by
      have h1 := hk.size
      have h2 := hX.size
      omega⟩
    have hb0d : Y.drew.heap[b9]? = _ := hY
    have hbg : ¬ b9 = g := by omega
    have hG0d : GnAt Y.drew g st := hG0
    have hSd := HS2.out Y.drew ((Kept.refl (fun b => b = g ∨ b = b9) Y).drew)
    clear hbk hk hX hWs hFX r1 r2 hne hg HX HF1 HGA HD
    go_upto_region 3 with fail
    go_region_held3 (fun Z => (Z.cell? ⟨w.heap.size, 5, none⟩ = some (zV (N : Int)) ∧ Z.cell? ⟨w.heap.size + 1, 3, none⟩ = some (zV (A3 : Int)) ∧ Z.cell? ⟨w.heap.size + 1, 4, none⟩ = some (zV (A4 : Int))) ∧ Kept (fun b => b = g ∨ b = b9) Y Z) (first | exact hSd | exact hS' | (have hSy : _ ∧ Kept (fun b => b = g ∨ b = b9) Y _ := (by assumption); exact HS2.out _ (hSy.2.setCell (p := ⟨b9, _, none⟩) (fun _ => .inr rfl) _)) | assumption) (first | (go_at_call 49; have hSx : _ ∧ Kept (fun b => b = g ∨ b = b9) Y _ := (by assumption); (with_reducible refine (HNU.out _ _ hG0d).mono ?_); rintro r1 X1 ⟨q1, rfl, ho1, hk1, hG1⟩; have hb1 := hk1.at hb0d hbg; have hS' := HS2.out X1 (hSx.2.trans (hk1.mono (S' := fun b => b = g ∨ b = b9) (fun _ _ e => .inl e)) (fun _ _ e => e)); have z1 : X1.cell? ⟨b9, 1, none⟩ = some nil8 := (by rw [Lib.cell_of_heap hb1]; rfl); have z2 : X1.cell? ⟨b9, 2, none⟩ = some nil8 := (by rw [Lib.cell_of_heap hb1]; rfl); have z3 : X1.cell? ⟨b9, 3, none⟩ = some nil8 := (by rw [Lib.cell_of_heap hb1]; rfl); have z4 : X1.cell? ⟨b9, 4, none⟩ = some nil8 := (by rw [Lib.cell_of_heap hb1]; rfl); have zf : ∀ q, X1.frozen? ⟨b9, q, none⟩ = false := fun q => Lib.frozen_of_heap hb1 q) | (go_at_call 49; have hSx : _ ∧ Kept (fun b => b = g ∨ b = b9) Y _ := (by assumption); (with_reducible refine (HNU.out _ _ hG1).mono ?_); rintro r2 X2 ⟨q2, rfl, ho2, hk2, hG2⟩; have hb2 := hk2.at hb1 hbg; have hS' := HS2.out X2 (hSx.2.trans (hk2.mono (S' := fun b => b = g ∨ b = b9) (fun _ _ e => .inl e)) (fun _ _ e => e)); have z1 : X2.cell? ⟨b9, 1, none⟩ = some nil8 := (by rw [Lib.cell_of_heap hb2]; rfl); have z2 : X2.cell? ⟨b9, 2, none⟩ = some nil8 := (by rw [Lib.cell_of_heap hb2]; rfl); have z3 : X2.cell? ⟨b9, 3, none⟩ = some nil8 := (by rw [Lib.cell_of_heap hb2]; rfl); have z4 : X2.cell? ⟨b9, 4, none⟩ = some nil8 := (by rw [Lib.cell_of_heap hb2]; rfl); have zf : ∀ q, X2.frozen? ⟨b9, q, none⟩ = false := fun q => Lib.frozen_of_heap hb2 q) | (go_at_call 49; have hSx : _ ∧ Kept (fun b => b = g ∨ b = b9) Y _ := (by assumption); (with_reducible refine (HNU.out _ _ hG2).mono ?_); rintro r3 X3 ⟨q3, rfl, ho3, hk3, hG3⟩; have hb3 := hk3.at hb2 hbg; have hS' := HS2.out X3 (hSx.2.trans (hk3.mono (S' := fun b => b = g ∨ b = b9) (fun _ _ e => .inl e)) (fun _ _ e => e)); have z1 : X3.cell? ⟨b9, 1, none⟩ = some nil8 := (by rw [Lib.cell_of_heap hb3]; rfl); have z2 : X3.cell? ⟨b9, 2, none⟩ = some nil8 := (by rw [Lib.cell_of_heap hb3]; rfl); have z3 : X3.cell? ⟨b9, 3, none⟩ = some nil8 := (by rw [Lib.cell_of_heap hb3]; rfl); have z4 : X3.cell? ⟨b9, 4, none⟩ = some nil8 := (by rw [Lib.cell_of_heap hb3]; rfl); have zf : ∀ q, X3.frozen? ⟨b9, q, none⟩ = false := fun q => Lib.frozen_of_heap hb3 q) | (go_at_call 49; have hSx : _ ∧ Kept (fun b => b = g ∨ b = b9) Y _ := (by assumption); (with_reducible refine (HNU.out _ _ hG3).mono ?_); rintro r4 X4 ⟨q4, rfl, ho4, hk4, hG4⟩; have hb4 := hk4.at hb3 hbg; have hS' := HS2.out X4 (hSx.2.trans (hk4.mono (S' := fun b => b = g ∨ b = b9) (fun _ _ e => .inl e)) (fun _ _ e => e)); have z1 : X4.cell? ⟨b9, 1, none⟩ = some nil8 := (by rw [Lib.cell_of_heap hb4]; rfl); have z2 : X4.cell? ⟨b9, 2, none⟩ = some nil8 := (by rw [Lib.cell_of_heap hb4]; rfl); have z3 : X4.cell? ⟨b9, 3, none⟩ = some nil8 := (by rw [Lib.cell_of_heap hb4]; rfl); have z4 : X4.cell? ⟨b9, 4, none⟩ = some nil8 := (by rw [Lib.cell_of_heap hb4]; rfl); have zf : ∀ q, X4.frozen? ⟨b9, q, none⟩ = false := fun q => Lib.frozen_of_heap hb4 q))
    have hb5 := Go.Lib.heap_setCell_same (i := 4) (Go.Lib.heap_setCell_same (i := 3) (Go.Lib.heap_setCell_same (i := 2) (Go.Lib.heap_setCell_same (i := 1) hb4 (.slice (some ⟨q1, 0, none⟩) A3 A3)) (.slice (some ⟨q2, 0, none⟩) A3 A3)) (.slice (some ⟨q3, 0, none⟩) A3 A3)) (.slice (some ⟨q4, 0, none⟩) A3 A3)
    simp only [blkC, List.setIfInBounds_toArray, List.set_cons_succ, List.set_cons_zero] at hb5
    have hk5 : Kept (fun b => b = b9) X4 ((((X4.setCell ⟨b9, 1, none⟩ (.slice (some ⟨q1, 0, none⟩) A3 A3)).setCell ⟨b9, 2, none⟩ (.slice (some ⟨q2, 0, none⟩) A3 A3)).setCell ⟨b9, 3, none⟩ (.slice (some ⟨q3, 0, none⟩) A3 A3)).setCell ⟨b9, 4, none⟩ (.slice (some ⟨q4, 0, none⟩) A3 A3)) := ((((Kept.refl (fun b => b = b9) X4).setCell (p := ⟨b9, 1, none⟩) (fun _ => rfl) _).setCell (p := ⟨b9, 2, none⟩) (fun _ => rfl) _).setCell (p := ⟨b9, 3, none⟩) (fun _ => rfl) _).setCell (p := ⟨b9, 4, none⟩) (fun _ => rfl) _
    generalize ((((X4.setCell ⟨b9, 1, none⟩ (.slice (some ⟨q1, 0, none⟩) A3 A3)).setCell ⟨b9, 2, none⟩ (.slice (some ⟨q2, 0, none⟩) A3 A3)).setCell ⟨b9, 3, none⟩ (.slice (some ⟨q3, 0, none⟩) A3 A3)).setCell ⟨b9, 4, none⟩ (.slice (some ⟨q4, 0, none⟩) A3 A3)) = W4 at *
    obtain ⟨r1, p1⟩ := gL_row ho1 hst hn3
    obtain ⟨r2, p2⟩ := gL_row ho2 (gN_lt hst _) hn3
    obtain ⟨r3, p3⟩ := gL_row ho3 (gN_lt (gN_lt hst _) _) hn3
    obtain ⟨r4, p4⟩ := gL_row ho4 (gN_lt (gN_lt (gN_lt hst _) _) _) hn3
    have hk4' : Kept (fun b => b = g ∨ b = b9) X4 W4 := hk5.mono (fun _ _ e => .inr e)
    have hk3' : Kept (fun b => b = g ∨ b = b9) X3 W4 := (hk4.mono (S' := fun b => b = g ∨ b = b9) (fun _ _ e => .inl e)).trans hk4' (fun _ _ e => e)
    have hk2' : Kept (fun b => b = g ∨ b = b9) X2 W4 := (hk3.mono (S' := fun b => b = g ∨ b = b9) (fun _ _ e => .inl e)).trans hk3' (fun _ _ e => e)
    have hk1' : Kept (fun b => b = g ∨ b = b9) X1 W4 := (hk2.mono (S' := fun b => b = g ∨ b = b9) (fun _ _ e => .inl e)).trans hk2' (fun _ _ e => e)
    have hk0' : Kept (fun b => b = g ∨ b = b9) Y W4 := ((Kept.refl (fun b => b = g ∨ b = b9) Y).drew.trans (hk1.mono (S' := fun b => b = g ∨ b = b9) (fun _ _ e => .inl e)) (fun _ _ e => e)).trans hk1' (fun _ _ e => e)
    have hys : b9 < Y.heap.size ∧ g < Y.heap.size := ⟨(Array.getElem?_eq_some_iff.1 hY).1, hG0.2.2⟩
    have hz1 : Y.heap.size ≤ X1.heap.size := hk1.size
    have hz2 := hk2.size
    have hz3 := hk3.size
    have hz0 : Y.heap.size ≤ q1 := p1
    have HR3 : Hid (Rk .i8 (fun b => b = g1) W4 (.slice (some ⟨g1, 0, none⟩) D D) (mkL D (fun _ => 64)) ∧ Rk .i8 (fun b => b = g2) W4 (.slice (some ⟨g2, 0, none⟩) D D) (mkL D (fun _ => 64))) := ⟨HR1.out.kept hk0' (fun b hb e => by rcases e with e | e <;> omega), HR2.out.kept hk0' (fun b hb e => by rcases e with e | e <;> omega)⟩
    have HR4 : Hid (Rk .i8 (fun b => b = q1) W4 (.slice (some ⟨q1, 0, none⟩) A3 A3) (gL st A3) ∧ Rk .i8 (fun b => b = q2) W4 (.slice (some ⟨q2, 0, none⟩) A3 A3) (gL (gN st A3) A3) ∧ Rk .i8 (fun b => b = q3) W4 (.slice (some ⟨q3, 0, none⟩) A3 A3) (gL (gN (gN st A3) A3) A3) ∧ Rk .i8 (fun b => b = q4) W4 (.slice (some ⟨q4, 0, none⟩) A3 A3) (gL (gN (gN (gN st A3) A3) A3) A3)) :=
      ⟨r1.kept hk1' (fun b hb e => by rcases e with e | e <;> omega), r2.kept hk2' (fun b hb e => by rcases e with e | e <;> omega), r3.kept hk3' (fun b hb e => by rcases e with e | e <;> omega), r4.kept hk4' (fun b hb e => by rcases e with e | e <;> omega)⟩
    have HRR : Hid (∀ Z, Kept (fun b => b = g ∨ b = b9) W4 Z → (Rk .i8 (fun b => b = g1) Z (sl g1 D) (mkL D (fun _ => 64)) ∧ Rk .i8 (fun b => b = g2) Z (sl g2 D) (mkL D (fun _ => 64))) ∧ Rk .i8 (fun b => b = q1) Z (sl q1 A3) (gL st A3) ∧ Rk .i8 (fun b => b = q2) Z (sl q2 A3) (gL (gN st A3) A3) ∧ Rk .i8 (fun b => b = q3) Z (sl q3 A3) (gL (gN (gN st A3) A3) A3) ∧ Rk .i8 (fun b => b = q4) Z (sl q4 A3) (gL (gN (gN (gN st A3) A3) A3) A3)) := fun Z hZ =>
      ⟨⟨HR3.out.1.kept hZ (fun b hb e => by rcases e with e | e <;> omega), HR3.out.2.kept hZ (fun b hb e => by rcases e with e | e <;> omega)⟩, HR4.out.1.kept hZ (fun b hb e => by rcases e with e | e <;> omega), HR4.out.2.1.kept hZ (fun b hb e => by rcases e with e | e <;> omega), HR4.out.2.2.1.kept hZ (fun b hb e => by rcases e with e | e <;> omega), HR4.out.2.2.2.kept hZ (fun b hb e => by rcases e with e | e <;> omega)⟩
    have HQB : Hid (Y.heap.size ≤ q1 ∧ Y.heap.size ≤ q2 ∧ Y.heap.size ≤ q3 ∧ Y.heap.size ≤ q4) := ⟨by omega, by omega, by omega, by omega⟩
    have hG5 : GnAt W4 g (gN (gN (gN (gN st A3) A3) A3) A3) := hG4.kept hk5 (fun e => by have e' : g = b9 := e; omega)
    have HK4 : Hid (Kept (fun b => b = g ∨ b = b9) Y W4) := hk0'
    have hys4 : Y.heap.size ≤ W4.heap.size := hk0'.size
    clear ho1 ho2 ho3 ho4 hk1 hk2 hk3 hk4 hk5 hk1' hk2' hk3' hk4' hk0' r1 r2 r3 r4 z1 z2 z3 z4 zf hb1 hb2 hb3 hb4 hG1 hG2 hG3 hG4 HR1 HR2 HNU hS' hSx hG0d hSd hb0d hz1 hz2 hz3 HR3 HR4
    obtain ⟨y5, y3, y4⟩ := HS.out W4 HK4.out
    have c11 : W4.cell? ⟨b9, 11, none⟩ = some nil8 := by rw [Lib.cell_of_heap hb5]; rfl
    have c12 : W4.cell? ⟨b9, 12, none⟩ = some nil8 := by rw [Lib.cell_of_heap hb5]; rfl
    have c13 : W4.cell? ⟨b9, 13, none⟩ = some nil8 := by rw [Lib.cell_of_heap hb5]; rfl
    have c14 : W4.cell? ⟨b9, 14, none⟩ = some (zV 0) := by rw [Lib.cell_of_heap hb5]; rfl
    have c15 : W4.cell? ⟨b9, 15, none⟩ = some (zV 0) := by rw [Lib.cell_of_heap hb5]; rfl
    have c16 : W4.cell? ⟨b9, 16, none⟩ = some (zV 0) := by rw [Lib.cell_of_heap hb5]; rfl
    have zf : ∀ q, W4.frozen? ⟨b9, q, none⟩ = false := fun q => Lib.frozen_of_heap hb5 q
    have HDN : Hid (∀ W, Calls Tryd.prog 46 #[zV (N : Int)] W fun e w' => e = .returned (zV (dbF N : Int)) ∧ w' = W) := fun W => doublings_any N W (by omega)
    have hn4 := dbF_le N
    rw [HDNE.out] at HDN hn4
    have w3 : IntKind.i64.wrap (4 + (dn : Int)) = 4 + (dn : Int) := by rw [IntKind.wrap_i64]; omega
    go_wp2_with fail
    refine Calls.mono (HDN.out _) ?_
    rintro e Z ⟨rfl, rfl⟩
    clear HDN
    go_upto_region 5 with fail
    have hb14 := (Go.Lib.heap_setCell_same (i := 16) (Go.Lib.heap_setCell_same (i := 15) (Go.Lib.heap_setCell_same (i := 14) (Go.Lib.heap_setCell_same (i := 13) (Go.Lib.heap_setCell_same (i := 12) (Go.Lib.heap_setCell_same (i := 11) hb5 nil8) nil8) nil8) (zV (7 + (db : Int)))) (zV (7 + (db : Int)))) (zV (4 + (dn : Int))))
    simp only [List.setIfInBounds_toArray, List.set_cons_succ, List.set_cons_zero] at hb14
    have hkz : Kept (fun b => b = b9) Z ((((((Z.setCell ⟨b9, 11, none⟩ nil8).setCell ⟨b9, 12, none⟩ nil8).setCell ⟨b9, 13, none⟩ nil8).setCell ⟨b9, 14, none⟩ (zV (7 + (db : Int)))).setCell ⟨b9, 15, none⟩ (zV (7 + (db : Int)))).setCell ⟨b9, 16, none⟩ (zV (4 + (dn : Int)))) := (Kept.setCell (Kept.setCell (Kept.setCell (Kept.setCell (Kept.setCell (Kept.setCell (Kept.refl (fun b => b = b9) Z) (p := ⟨b9, 11, none⟩) (fun _ => rfl) nil8) (p := ⟨b9, 12, none⟩) (fun _ => rfl) nil8) (p := ⟨b9, 13, none⟩) (fun _ => rfl) nil8) (p := ⟨b9, 14, none⟩) (fun _ => rfl) (zV (7 + (db : Int)))) (p := ⟨b9, 15, none⟩) (fun _ => rfl) (zV (7 + (db : Int)))) (p := ⟨b9, 16, none⟩) (fun _ => rfl) (zV (4 + (dn : Int))))
    generalize ((((((Z.setCell ⟨b9, 11, none⟩ nil8).setCell ⟨b9, 12, none⟩ nil8).setCell ⟨b9, 13, none⟩ nil8).setCell ⟨b9, 14, none⟩ (zV (7 + (db : Int)))).setCell ⟨b9, 15, none⟩ (zV (7 + (db : Int)))).setCell ⟨b9, 16, none⟩ (zV (4 + (dn : Int)))) = W5 at *
    have hkz' : Kept (fun b => b = g ∨ b = b9) Z W5 := hkz.mono (fun _ _ e => .inr e)
    have hG14e : GnAt W5 g (gN (gN (gN (gN st A3) A3) A3) A3) := hG5.kept hkz (fun e => by have e' : g = b9 := e; omega)
    have hG14 : GnAt W5.drew g (gN (gN (gN (gN st A3) A3) A3) A3) := hG14e
    have hK5 : Kept (fun b => b = g ∨ b = b9) Y W5 := HK4.out.trans hkz' (fun _ _ e => e)
    have HZ5 : Hid (Kept (fun b => b = g ∨ b = b9) Z W5) := hkz'
    have hSd := HS2.out W5.drew hK5.drew
    have HNU : Hid (∀ s' X, GnAt X g s' → Calls Tryd.prog 49 #[.pointer (some ⟨g, 0, none⟩), zV (A4 : Int)] X fun e w' => ∃ q, e = .returned (.slice (some ⟨q, 0, none⟩) A4 A4) ∧ w'.ownsRow X.heap.size 68 1 (.slice (some ⟨q, 0, none⟩) A4 A4) A4 ((gL s' A4).map (Value.int .i8)) ∧ Kept (fun b => b = g) X w' ∧ GnAt w' g (gN s' A4)) := fun s' X hX => numbers_any g s' A4 X hX (by omega)
    have hst4 : gN (gN (gN (gN st A3) A3) A3) A3 < 18446744073709551616 := gN_lt (gN_lt (gN_lt (gN_lt hst _) _) _) _
    clear hb5 hG5 hkz c11 c12 c13 c14 c15 c16 zf y5 y3 y4
    clear hkz'
    go_region_held3 (fun Z => (Z.cell? ⟨w.heap.size, 5, none⟩ = some (zV (N : Int)) ∧ Z.cell? ⟨w.heap.size + 1, 3, none⟩ = some (zV (A3 : Int)) ∧ Z.cell? ⟨w.heap.size + 1, 4, none⟩ = some (zV (A4 : Int))) ∧ Kept (fun b => b = g ∨ b = b9) Y Z) (first | exact hSd | exact hS' | (have hSy : _ ∧ Kept (fun b => b = g ∨ b = b9) Y _ := (by assumption); exact HS2.out _ (hSy.2.setCell (p := ⟨b9, _, none⟩) (fun _ => .inr rfl) _)) | assumption) (first | (go_at_call 49; have hSx : _ ∧ Kept (fun b => b = g ∨ b = b9) Y _ := (by assumption); (with_reducible refine (HNU.out _ _ hG14).mono ?_); rintro r15 X15 ⟨q5, rfl, ho15, hk15, hG15⟩; have hb15 := hk15.at hb14 hbg; have hS' := HS2.out X15 (hSx.2.trans (hk15.mono (S' := fun b => b = g ∨ b = b9) (fun _ _ e => .inl e)) (fun _ _ e => e)); have z1 : X15.cell? ⟨b9, 11, none⟩ = some nil8 := (by rw [Lib.cell_of_heap hb15]; rfl); have z2 : X15.cell? ⟨b9, 12, none⟩ = some nil8 := (by rw [Lib.cell_of_heap hb15]; rfl); have z3 : X15.cell? ⟨b9, 13, none⟩ = some nil8 := (by rw [Lib.cell_of_heap hb15]; rfl); have zf : ∀ q, X15.frozen? ⟨b9, q, none⟩ = false := fun q => Lib.frozen_of_heap hb15 q) | (go_at_call 49; have hSx : _ ∧ Kept (fun b => b = g ∨ b = b9) Y _ := (by assumption); (with_reducible refine (HNU.out _ _ hG15).mono ?_); rintro r16 X16 ⟨q6, rfl, ho16, hk16, hG16⟩; have hb16 := hk16.at hb15 hbg; have hS' := HS2.out X16 (hSx.2.trans (hk16.mono (S' := fun b => b = g ∨ b = b9) (fun _ _ e => .inl e)) (fun _ _ e => e)); have z1 : X16.cell? ⟨b9, 11, none⟩ = some nil8 := (by rw [Lib.cell_of_heap hb16]; rfl); have z2 : X16.cell? ⟨b9, 12, none⟩ = some nil8 := (by rw [Lib.cell_of_heap hb16]; rfl); have z3 : X16.cell? ⟨b9, 13, none⟩ = some nil8 := (by rw [Lib.cell_of_heap hb16]; rfl); have zf : ∀ q, X16.frozen? ⟨b9, q, none⟩ = false := fun q => Lib.frozen_of_heap hb16 q) | (go_at_call 49; have hSx : _ ∧ Kept (fun b => b = g ∨ b = b9) Y _ := (by assumption); (with_reducible refine (HNU.out _ _ hG16).mono ?_); rintro r17 X17 ⟨q7, rfl, ho17, hk17, hG17⟩; have hb17 := hk17.at hb16 hbg; have hS' := HS2.out X17 (hSx.2.trans (hk17.mono (S' := fun b => b = g ∨ b = b9) (fun _ _ e => .inl e)) (fun _ _ e => e)); have z1 : X17.cell? ⟨b9, 11, none⟩ = some nil8 := (by rw [Lib.cell_of_heap hb17]; rfl); have z2 : X17.cell? ⟨b9, 12, none⟩ = some nil8 := (by rw [Lib.cell_of_heap hb17]; rfl); have z3 : X17.cell? ⟨b9, 13, none⟩ = some nil8 := (by rw [Lib.cell_of_heap hb17]; rfl); have zf : ∀ q, X17.frozen? ⟨b9, q, none⟩ = false := fun q => Lib.frozen_of_heap hb17 q))
    have hb18 := (Go.Lib.heap_setCell_same (i := 13) (Go.Lib.heap_setCell_same (i := 12) (Go.Lib.heap_setCell_same (i := 11) hb17 (sl q5 A4)) (sl q6 A4)) (sl q7 A4))
    simp only [List.setIfInBounds_toArray, List.set_cons_succ, List.set_cons_zero] at hb18
    have hk18 : Kept (fun b => b = b9) X17 (((X17.setCell ⟨b9, 11, none⟩ (sl q5 A4)).setCell ⟨b9, 12, none⟩ (sl q6 A4)).setCell ⟨b9, 13, none⟩ (sl q7 A4)) := (Kept.setCell (Kept.setCell (Kept.setCell (Kept.refl (fun b => b = b9) X17) (p := ⟨b9, 11, none⟩) (fun _ => rfl) (sl q5 A4)) (p := ⟨b9, 12, none⟩) (fun _ => rfl) (sl q6 A4)) (p := ⟨b9, 13, none⟩) (fun _ => rfl) (sl q7 A4))
    generalize (((X17.setCell ⟨b9, 11, none⟩ (sl q5 A4)).setCell ⟨b9, 12, none⟩ (sl q6 A4)).setCell ⟨b9, 13, none⟩ (sl q7 A4)) = W6 at *
    obtain ⟨r5, p5⟩ := gL_row ho15 hst4 (by omega)
    obtain ⟨r6, p6⟩ := gL_row ho16 (gN_lt hst4 _) (by omega)
    obtain ⟨r7, p7⟩ := gL_row ho17 (gN_lt (gN_lt hst4 _) _) (by omega)
    have k7 : Kept (fun b => b = g ∨ b = b9) X17 W6 := hk18.mono (fun _ _ e => .inr e)
    have k6 : Kept (fun b => b = g ∨ b = b9) X16 W6 := (hk17.mono (S' := fun b => b = g ∨ b = b9) (fun _ _ e => .inl e)).trans k7 (fun _ _ e => e)
    have k5 : Kept (fun b => b = g ∨ b = b9) X15 W6 := (hk16.mono (S' := fun b => b = g ∨ b = b9) (fun _ _ e => .inl e)).trans k6 (fun _ _ e => e)
    have k4 : Kept (fun b => b = g ∨ b = b9) W5 W6 := ((Kept.refl (fun b => b = g ∨ b = b9) W5).drew.trans (hk15.mono (S' := fun b => b = g ∨ b = b9) (fun _ _ e => .inl e)) (fun _ _ e => e)).trans k5 (fun _ _ e => e)
    have hY5 := hK5.size
    have s5 : W5.heap.size ≤ q5 := p5
    have s15 : W5.heap.size ≤ X15.heap.size := hk15.size
    have s16 := hk16.size
    have HQ5 : Hid (Y.heap.size ≤ q5 ∧ Y.heap.size ≤ q6 ∧ Y.heap.size ≤ q7) := ⟨by omega, by omega, by omega⟩
    have hR := HRR.out W6 (HZ5.out.trans k4 (fun _ _ e => e))
    have x5 := r5.kept k5 (fun b hb e => by rcases e with e | e <;> omega)
    have x6 := r6.kept k6 (fun b hb e => by rcases e with e | e <;> omega)
    have x7 := r7.kept k7 (fun b hb e => by rcases e with e | e <;> omega)
    have hKY : Kept (fun b => b = g ∨ b = b9) Y W6 := hK5.trans k4 (fun _ _ e => e)
    have hres := HRS.out W6 hKY
    have hG18 : GnAt W6 g (gN (gN (gN (gN (gN (gN (gN st A3) A3) A3) A3) A4) A4) A4) := hG17.kept hk18 (fun e => by have e' : g = b9 := e; omega)
    have HE : Hid (∀ V, V.heap[w.heap.size + 2]? = some (.cells (blkC (sl g1 D) (sl q1 A3) (sl q2 A3) (sl q3 A3) (sl q4 A3) (sl g2 D) (7 + (db : Int)) (7 + (db : Int)) (7 + (db : Int)) (4 + (db : Int)) 3 (sl q5 A4) (sl q6 A4) (sl q7 A4) (7 + (db : Int)) (7 + (db : Int)) (4 + (dn : Int))) 72 (0, 0)) → Kept (fun z => z = w.heap.size + 2) W6 V →
        BkRows st A3 A4 D (fun b => w.heap.size ≤ b) V g1 g2 q1 q2 q3 q4 q5 q6 q7 ∧ Kept (fun b => b = g) w V ∧ GnAt V g (gN (gN (gN (gN (gN (gN (gN st A3) A3) A3) A3) A4) A4) A4)) := fun V _ hV => by
      obtain ⟨b1, b2, b3, b4, b5, b6, b7⟩ := HWB.out
      obtain ⟨c1, c2, c3, c4⟩ := HQB.out
      obtain ⟨c5, c6, c7⟩ := HQ5.out
      have kv : ∀ {q n : Nat} {zs : List Int}, w.heap.size + 2 < q → Rk .i8 (fun b => b = q) W6 (sl q n) zs → Rk .i8 (fun b => w.heap.size ≤ b) V (sl q n) zs := fun {q n zs} hq hr => (hr.kept hV (fun b hb e => by
        have e' : b = w.heap.size + 2 := e
        omega)).mono (fun b hb => by omega)
      refine ⟨⟨kv b5 hR.1.1, kv b6 hR.1.2, kv (by omega) hR.2.1, kv (by omega) hR.2.2.1, kv (by omega) hR.2.2.2.1, kv (by omega) hR.2.2.2.2, kv (by omega) x5, kv (by omega) x6, kv (by omega) x7⟩, ?_, hG18.kept hV (fun e => by
        have e' : g = w.heap.size + 2 := e
        omega)⟩
      exact (HKW.out.trans hKY (fun i hi e => by
        rcases e with e | e
        · exact e
        · omega)).trans hV (fun i hi e => by
        have e' : i = w.heap.size + 2 := e
        omega)
    clear ho15 ho16 ho17 hk15 hk16 hk17 hk18 k7 k6 k5 k4 r5 r6 r7 z1 z2 z3 zf hb14 hb15 hb16 hb17 hG14 hG15 hG16 hG17 hG18 HNU hS' hSx hSd hR x5 x6 x7
    go_upto_region 6 with fail
    refine wp_region_list ?_
    refine wpList_load_row rfl 72 _ rfl b9 rfl 72 _ _ _ hb18 Tryd.underlying72 rfl (by kernel_rfl) ?_
    refine list_store rfl 72 _ _ rfl (w.heap.size + 2) _ _ 72 rfl rfl hres rfl (by kernel_rfl) (by simp [Value.oneCell']) ?_
    intro V hV hkV
    refine wpList_nil ?_
    have HEV : Hid _ := HE.out V hV hkV
    clear HE hkV hres
    go_wp2
    exact ret_cell rfl (w.heap.size + 2) _ _ _ _ rfl hV Tryd.underlying72 rfl (by kernel_rfl) rfl ⟨g1, g2, q1, q2, q3, q4, q5, q6, q7, rfl, HEV.out.1, HEV.out.2⟩
end Go.Proofs.YtakiimjldccgcabDoor
