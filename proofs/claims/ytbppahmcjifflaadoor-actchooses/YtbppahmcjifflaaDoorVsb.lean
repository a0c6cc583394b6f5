/-
  Widen and Scale, the package's.
-/
import Derived.Test.YtbppahmcjifflaaDoorVcs
namespace Go.Proofs.YtbppahmcjifflaaDoor
open Go.RowKit Go.Lib Go.Maps


set_option maxHeartbeats 4000000 in
set_option maxRecDepth 100000 in
theorem sh66_any (p : Nat → Prop) (F bs : Nat) (f : Int → Int) (lv : Value) (l : List Int) (s most : Int) (w : World) (hl : Rk .i64 p w lv l) (_hs : I64 s) (_hm : 0 ≤ most ∧ most ≤ 62)
    (hE : ∀ (args : Array Value) (X : World), (callFunc F args).run Tryd.prog X = .ok (.enter F args) X)
    (hf : sE l.length s most = 0 → ∀ (W : World) (x : Int), Fresh w W → x ∈ l → Calls Tryd.prog F #[.int .i64 x, .pointer (some ⟨bs, 0, none⟩)] W fun e w' => e = .returned (.int .i64 (f x)) ∧ Drew W w') :
    Calls Tryd.prog 68 #[lv, zV s, zV most, .func (.func F) #[] #[.pointer (some ⟨bs, 0, none⟩)]] w fun e w' => Gives .i64 2 (sL l s most f) (sE l.length s most) w e w' := by
  obtain ⟨ao, ac, hva, _⟩ := hl.shape
  subst hva
  have hB := bounded64_any ao l.length ac w
  have HG : Hid (∀ (E : Int), Gives .i64 2 [] E w (.returned (.tuple #[.slice none 0 0, zV E])) w) := fun E => Gives.none _ _ _ _
  by_cases h1 : 1048576 < l.length
  · rw [bE_many h1] at hB
    have HB : Hid (Unit → _) := fun (_ : Unit) => hB
    rw [sL_bad (by rw [sE_many _ _ h1]; omega), sE_many _ _ h1]
    clear hB hl hf
    go_enter Tryd.func68, Tryd.ntmps68
    go_wp2_with fail
    refine (HB.out ()).mono ?_
    rintro e w1 ⟨rfl, hw1⟩
    have hw2 := hw1.symm
    subst hw2
    clear hw1 HB
    go_wp2
    go_ret2
    exact HG.out _
  rw [bE_ok (by omega)] at hB
  have HB : Hid (Unit → _) := fun (_ : Unit) => hB
  by_cases h2 : s < 0
  · rw [sL_bad (by rw [sE_else h1 (.inl h2)]; omega), sE_else h1 (.inl h2)]
    clear hB hl hf
    go_enter Tryd.func68, Tryd.ntmps68
    go_wp2_with fail
    refine (HB.out ()).mono ?_
    rintro e w1 ⟨rfl, hw1⟩
    have hw2 := hw1.symm
    subst hw2
    clear hw1 HB
    go_wp2
    go_ret2
    exact HG.out _
  by_cases h3 : most < s
  · have h2' : decide (s < 0) = false := by simp; omega
    rw [sL_bad (by rw [sE_else h1 (.inr h3)]; omega), sE_else h1 (.inr h3)]
    clear hB hl hf
    go_enter Tryd.func68, Tryd.ntmps68
    go_wp2_with fail
    refine (HB.out ()).mono ?_
    rintro e w1 ⟨rfl, hw1⟩
    have hw2 := hw1.symm
    subst hw2
    clear hw1 HB
    go_wp2
    go_ret2
    exact HG.out _
  have e0 : sE l.length s most = 0 := sE_ok h1 (by omega)
  have HE : Hid (sL l s most f = l.map f) := if_pos e0
  have HF := show Hid _ from hf e0
  have h2' : decide (s < 0) = false := by simp; omega
  have h3' : decide (most < s) = false := by simp; omega
  obtain ⟨n, hn⟩ : ∃ n, l.length = n := ⟨_, rfl⟩
  have HN : Hid (l.length = n) := hn
  have hmk := run_mk ty64 n n (Nat.le_refl _) (by simp [kb]; omega) w
  have hO := own_made .i64 2 w w.heap.size (Nat.le_refl _) n n (Nat.le_refl _) (by omega)
  have hF0 : Fresh w (w.alloc (.cells ((List.replicate n (0 : Int)).map (Value.int .i64)).toArray 2)) := (Kept.refl _ w).alloc _
  generalize w.alloc (.cells ((List.replicate n (0 : Int)).map (Value.int .i64)).toArray 2) = W0 at *
  have HO : Hid (W0.ownsRow w.heap.size 2 1 (.slice (some ⟨w.heap.size, 0, none⟩) n n) n (((l.map f).take 0 ++ List.replicate (n - 0) 0).map (Value.int .i64)) ∧ Fresh w W0) := ⟨hO, hF0⟩
  rw [e0]
  rw [hn] at HB hl h1 ⊢
  have HC : Hid (0 < n → ∃ b off, ao = some ⟨b, off, none⟩ ∧ ∀ W, Fresh w W → ∀ i, i < n → W.cell? ⟨b, off + i, none⟩ = some (.int .i64 (l.getD i 0))) := fun hp => by
    obtain ⟨b, off, e, _, hb, hcell⟩ := hl.cells.2.2.2 hp
    exact ⟨b, off, e, fun W hF i hi => (hF.cell (p := ⟨b, off + i, none⟩) hb (fun e => e)).trans (hcell i hi)⟩
  clear hB hl hf hO hF0 e0 hn
  go_enter Tryd.func68, Tryd.ntmps68
  go_wp2_with fail
  refine (HB.out ()).mono ?_
  rintro e w1 ⟨rfl, hw1⟩
  have hw2 := hw1.symm
  subst hw2
  clear hw1 HB
  go_wp2
  clear hmk
  go_loopw [31] (fun iv wr => ∃ j : Nat, j ≤ n ∧ iv = zV j ∧ Hid (wr.ownsRow w.heap.size 2 1 (.slice (some ⟨w.heap.size, 0, none⟩) n n) n (((l.map f).take j ++ List.replicate (n - j) 0).map (Value.int .i64)) ∧ Fresh w wr)) (fun iv _ => n - (RowKit.intOf iv).toNat)
  case atStart => exact ⟨0, Nat.zero_le _, rfl, HO.out⟩
  case round =>
    obtain ⟨j, hj, rfl, HA⟩ := hrel
    clear HO
    by_cases hlt : j < n
    · obtain ⟨b, off, rfl, hcell⟩ := HC.out (by omega)
      have g1 := hcell wr HA.out.2 j hlt
      have hlt' : (j : Int) < (n : Int) := by omega
      have hjl : j < l.length := by rw [HN.out]; exact hlt
      have HCall : Hid (Unit → _) := fun (_ : Unit) => HF.out wr (l.getD j 0) HA.out.2 (by rw [getD_getElem hjl]; exact List.getElem_mem hjl)
      have hpl : ((l.map f).take j).length = j := by rw [List.length_take, List.length_map]; omega
      have HSt : Hid ((l.map f).take (j + 1) = (l.map f).take j ++ [f (l.getD j 0)]) := map_snoc l f hjl
      clear hcell hjl
      generalize l.getD j 0 = x at *
      go_wp2_with fail
      refine (HCall.out ()).mono ?_
      rintro e w3 ⟨rfl, d3, hw3⟩
      have hO3 : w3.ownsRow w.heap.size 2 1 (.slice (some ⟨w.heap.size, 0, none⟩) n n) n (((l.map f).take j ++ List.replicate (n - j) 0).map (Value.int .i64)) ∧ Fresh w w3 := by rw [hw3]; exact ⟨HA.out.1, HA.out.2.drewN d3⟩
      have f3 := own_frozen hO3.1 j
      have g3 := own_get hO3.1 j hlt
      have HX : Hid ((w3.setCell ⟨w.heap.size, j, none⟩ (.int .i64 (f x))).ownsRow w.heap.size 2 1 (.slice (some ⟨w.heap.size, 0, none⟩) n n) n (((l.map f).take (j + 1) ++ List.replicate (n - (j + 1)) 0).map (Value.int .i64)) ∧ Fresh w (w3.setCell ⟨w.heap.size, j, none⟩ (.int .i64 (f x)))) := by
        refine ⟨?_, hO3.2.setCell (fun e => absurd e (Nat.lt_irrefl _)) _⟩
        have := own_setB (i := j) (x := Value.int .i64 (f x)) hO3.1
        rw [← List.map_set, show n - j = (n - (j + 1)) + 1 by omega, set_at hpl] at this
        rw [HSt.out]
        exact this
      clear hO3 HA HCall hw3 hpl HSt
      go_wp2
      go_roundw
      case rel => exact ⟨j + 1, hlt, by go_num, HX.out⟩
      case measure => simp [RowKit.intOf]; omega
    · obtain rfl : j = n := by omega
      have HX : Hid (Gives .i64 2 (sL l s most f) 0 w (.returned (.tuple #[.slice (some ⟨w.heap.size, 0, none⟩) j j, zV 0])) wr) := by
        refine ⟨_, rfl, ?_, HA.out.2⟩
        have := HA.out.1
        rw [Nat.sub_self, List.replicate_zero, List.append_nil, List.take_of_length_le (by rw [List.length_map, HN.out]; exact Nat.le_refl _)] at this
        rw [HE.out, List.length_map, HN.out]
        exact this
      clear HA HC
      go_wp2
      go_ret2
      exact HX.out

theorem scale1_any (x s : Int) (b : Nat) (w : World) (hx : I64 x) (hs : w.cell? ⟨b, 0, none⟩ = some (zV s)) : Calls Tryd.prog 69 #[zV x, .pointer (some ⟨b, 0, none⟩)] w fun e w' => e = .returned (zV (rdQ x s)) ∧ Drew w w' := by
  have HR : Hid (Unit → _) := fun (_ : Unit) => vround_any x s w hx
  go_enter Tryd.func69, Tryd.ntmps69
  go_wp2_with fail
  refine (HR.out ()).mono ?_
  rintro e w1 ⟨rfl, hd⟩
  have HD : Hid (Drew w w1) := hd
  clear hd HR
  go_wp2
  go_ret
  exact ⟨rfl, HD.out⟩


set_option maxHeartbeats 1000000 in
set_option maxRecDepth 100000 in
theorem Scale_any (p : Nat → Prop) (lv : Value) (l : List Int) (s : Int) (w : World) (hl : Rk .i64 p w lv l) (hs : I64 s) :
    Calls Tryd.prog 49 #[lv, zV s] w fun e w' => Gives .i64 2 (sL l s 62 (fun x => rdQ x s)) (sE l.length s 62) w e w' := by
  obtain ⟨W0, hW0⟩ : ∃ W0, W0 = w.alloc (.cells #[zV s] 3) := ⟨_, rfl⟩
  have hF0 : Fresh w W0 := by rw [hW0]; exact (Kept.refl _ w).alloc _
  have p1 : W0.heap[w.heap.size]? = some (.cells #[zV s] 3 (0, 0)) := by rw [hW0]; exact heap_alloc_new w _
  have c0 : W0.cell? ⟨w.heap.size, 0, none⟩ = some (zV s) := by rw [Lib.cell_of_heap p1]; rfl
  have hS := sh66_any p 69 w.heap.size (fun x => rdQ x s) lv l s 62 W0 (hl.fresh hF0) hs ⟨by omega, by omega⟩ (fun args X => by simp [go_sem]) (fun e0 W x hF hx => by
    have q1 := hF.at p1 (fun e => e)
    have c1 : W.cell? ⟨w.heap.size, 0, none⟩ = some (zV s) := by rw [Lib.cell_of_heap q1]; rfl
    exact scale1_any x s _ W (hl.all x hx) c1)
  have HS : Hid (Unit → _) := fun (_ : Unit) => hS
  have HF0 : Hid (Fresh w W0) := hF0
  obtain ⟨ao, ac, hva, _⟩ := hl.shape
  subst hva
  generalize sE l.length s 62 = E at *
  generalize sL l s 62 (fun x => rdQ x s) = L at *
  clear hl hS hF0 p1
  go_enter Tryd.func49, Tryd.ntmps49
  go_wp2_with fail
  rw [← hW0]
  refine (HS.out ()).mono ?_
  rintro e w2 ⟨v, rfl, ho, hF⟩
  have HX : Hid (Gives .i64 2 L E w (.returned (.tuple #[v, zV E])) w2) := ⟨_, rfl, own_low ho HF0.out.size, HF0.out.trans hF (fun _ _ e => e)⟩
  clear ho hF HS hW0 c0
  go_wp2
  go_ret2
  exact HX.out


end Go.Proofs.YtbppahmcjifflaaDoor
