/-
  From one format to another: the program's calls.
-/
import Derived.Test.YtagbjlkpmjbfnacDoorFoN
import Derived.Test.YtagbjlkpmjbfnacDoorPa
namespace Go.Proofs.YtagbjlkpmjbfnacDoor
open Go.RowKit Ieee

/-- A variable of two ints. -/
abbrev TwoAt (g : Nat) (a b : Int) (w : World) : Prop := w.cell? ⟨g, 0, none⟩ = some (.int .i64 a) ∧ w.cell? ⟨g, 1, none⟩ = some (.int .i64 b)
theorem TwoAt.fresh {g : Nat} {a b : Int} {w w' : World} (h : TwoAt g a b w) (hk : Fresh w w') : TwoAt g a b w' := by
  have h0 := World.block_lt_of_cell? w _ h.1
  have e : ∀ i, w'.cell? ⟨g, i, none⟩ = w.cell? ⟨g, i, none⟩ := fun i => hk.cell (p := ⟨g, i, none⟩) h0 (fun e => e)
  exact ⟨(e 0).trans h.1, (e 1).trans h.2⟩
abbrev Halv (w : World) : Prop := TwoAt 0 5 10 w
abbrev Brai (w : World) : Prop := TwoAt 2 8 7 w
theorem or_u32_word (s z : Nat) (h : z < 2 ^ s) (hs : s < 32) : bits .or .u32 ((2 ^ s : Nat) : Int) (z : Int) = ((2 ^ s : Nat) : Int) + (z : Int) := or_top_u32 s z h hs

set_option maxHeartbeats 1000000 in
theorem of_single (p : Pt) (w : World) (hk : p.kind = 0 ∨ p.kind = 1 ∨ p.kind = 2) (hm : p.mant < 4294967296) :
    Calls Tryd.prog 21 #[fmtV 8 23, p.val] w fun r w' => r = .returned (.int .u32 (ofPt single p : Nat)) ∧ Fresh w w' := by
  obtain ⟨K, N, M, E⟩ := p
  unfold Pt.val
  dsimp only at hk hm ⊢
  have hF := ((Kept.refl (fun _ => False) w).alloc (.cells #[.int .i64 8, .int .i64 23] 42)).alloc (.cells #[.int .i64 K, .bool N, .int .i64 (M : Int), .int .i64 E] 45)
  have hB : BoxAt w.heap.size 8 23 w ((w.alloc (.cells #[.int .i64 8, .int .i64 23] 42)).alloc (.cells #[.int .i64 K, .bool N, .int .i64 (M : Int), .int .i64 E] 45)) := BoxAt.fresh (BoxAt.new w 8 23 42) ((Kept.refl _ _).alloc _)
  rcases hk with rfl | rfl | rfl
  · have hv : ofPt single ⟨0, N, M, E⟩ = single.nearest N M E := by
      unfold ofPt; dsimp only; rw [if_neg (by decide), if_neg (by decide)]
    rw [hv]
    clear hB hv
    have HN := show Hid _ from fun X => nearA_single N M E X (by omega)
    generalize single.nearest N M E = V at *
    go_enter Tryd.func21, Tryd.ntmps21
    go_wp2_with fail
    refine (HN.out _).mono ?_
    rintro r Z ⟨rfl, hZ⟩
    go_wp2
    go_ret
    exact ⟨rfl, hF.trans hZ (fun _ _ e => e)⟩
  · have hv : ofPt single ⟨1, N, M, E⟩ = single.word N 2139095040 := by
      have c : single.infRung = 2139095040 := by decide
      unfold ofPt; dsimp only; rw [if_neg (by decide), if_pos rfl, c]
    rw [hv]
    clear hv
    cases N
    · have hv : single.word false 2139095040 = 2139095040 := by unfold Format.word; rw [if_neg (by decide)]
      rw [hv]
      clear hB hv
      go_enter Tryd.func21, Tryd.ntmps21
      go_wp2_with fail
      refine (infinite_single _).mono ?_
      rintro r Z ⟨rfl, hZ⟩
      go_wp2
      go_ret
      exact ⟨rfl, hF.trans hZ (fun _ _ e => e)⟩
    · have hv : ((single.word true 2139095040 : Nat) : Int) = 4286578688 := by
        have c : single.signWeight = 2147483648 := by decide
        have h : single.word true 2139095040 = 4286578688 := by unfold Format.word; rw [if_pos rfl, c]
        rw [h]; rfl
      have a1 : bits .or .u32 2147483648 2139095040 = 4286578688 := by decide +kernel
      rw [hv]
      clear hv
      go_enter Tryd.func21, Tryd.ntmps21
      go_wp2_with fail
      generalize (w.alloc (.cells #[.int .i64 8, .int .i64 23] 42)).alloc (.cells #[.int .i64 1, .bool true, .int .i64 (M : Int), .int .i64 E] 45) = W at *
      go_region_held3 (fun X => (X.cell? ⟨w.heap.size, 0, none⟩ = some (.int .i64 8) ∧ X.cell? ⟨w.heap.size, 1, none⟩ = some (.int .i64 23)) ∧ Fresh w X) (first | exact BoxAt.drew hB | exact hS' | assumption) (first | (go_at_call 36; refine (sign_single _).mono ?_; rintro r X ⟨rfl, hX⟩; have hS' : BoxAt w.heap.size 8 23 w X := BoxAt.fresh (by assumption) hX) | (go_at_call 37; refine (infinite_single _).mono ?_; rintro r X ⟨rfl, hX⟩; have hS' : BoxAt w.heap.size 8 23 w X := BoxAt.fresh (by assumption) hX))
      all_goals
        go_wp2
        go_ret
        exact ⟨rfl, hS'.2⟩
  · have hv : ofPt single ⟨2, N, M, E⟩ = 2143289344 := by
      have c : single.infRung = 2139095040 := by decide
      have d : single.binade = 8388608 := by decide
      unfold ofPt; dsimp only; rw [if_pos rfl]; unfold noneOf; rw [c, d]
    rw [hv]
    clear hB hv
    go_enter Tryd.func21, Tryd.ntmps21
    go_wp2_with fail
    refine (none_single _).mono ?_
    rintro r Z ⟨rfl, hZ⟩
    go_wp2
    go_ret
    exact ⟨rfl, hF.trans hZ (fun _ _ e => e)⟩

set_option maxHeartbeats 1000000 in
theorem of_half (p : Pt) (w : World) (hk : p.kind = 0 ∨ p.kind = 1 ∨ p.kind = 2) (hm : p.mant < 4294967296) :
    Calls Tryd.prog 21 #[fmtV 5 10, p.val] w fun r w' => r = .returned (.int .u32 (ofPt half p : Nat)) ∧ Fresh w w' := by
  obtain ⟨K, N, M, E⟩ := p
  unfold Pt.val
  dsimp only at hk hm ⊢
  have hF := ((Kept.refl (fun _ => False) w).alloc (.cells #[.int .i64 5, .int .i64 10] 42)).alloc (.cells #[.int .i64 K, .bool N, .int .i64 (M : Int), .int .i64 E] 45)
  have hB : BoxAt w.heap.size 5 10 w ((w.alloc (.cells #[.int .i64 5, .int .i64 10] 42)).alloc (.cells #[.int .i64 K, .bool N, .int .i64 (M : Int), .int .i64 E] 45)) := BoxAt.fresh (BoxAt.new w 5 10 42) ((Kept.refl _ _).alloc _)
  rcases hk with rfl | rfl | rfl
  · have hv : ofPt half ⟨0, N, M, E⟩ = half.nearest N M E := by
      unfold ofPt; dsimp only; rw [if_neg (by decide), if_neg (by decide)]
    rw [hv]
    clear hB hv
    have HN := show Hid _ from fun X => nearA_half N M E X (by omega)
    generalize half.nearest N M E = V at *
    go_enter Tryd.func21, Tryd.ntmps21
    go_wp2_with fail
    refine (HN.out _).mono ?_
    rintro r Z ⟨rfl, hZ⟩
    go_wp2
    go_ret
    exact ⟨rfl, hF.trans hZ (fun _ _ e => e)⟩
  · have hv : ofPt half ⟨1, N, M, E⟩ = half.word N 31744 := by
      have c : half.infRung = 31744 := by decide
      unfold ofPt; dsimp only; rw [if_neg (by decide), if_pos rfl, c]
    rw [hv]
    clear hv
    cases N
    · have hv : half.word false 31744 = 31744 := by unfold Format.word; rw [if_neg (by decide)]
      rw [hv]
      clear hB hv
      go_enter Tryd.func21, Tryd.ntmps21
      go_wp2_with fail
      refine (infinite_half _).mono ?_
      rintro r Z ⟨rfl, hZ⟩
      go_wp2
      go_ret
      exact ⟨rfl, hF.trans hZ (fun _ _ e => e)⟩
    · have hv : ((half.word true 31744 : Nat) : Int) = 64512 := by
        have c : half.signWeight = 32768 := by decide
        have h : half.word true 31744 = 64512 := by unfold Format.word; rw [if_pos rfl, c]
        rw [h]; rfl
      have a1 : bits .or .u32 32768 31744 = 64512 := by decide +kernel
      rw [hv]
      clear hv
      go_enter Tryd.func21, Tryd.ntmps21
      go_wp2_with fail
      generalize (w.alloc (.cells #[.int .i64 5, .int .i64 10] 42)).alloc (.cells #[.int .i64 1, .bool true, .int .i64 (M : Int), .int .i64 E] 45) = W at *
      go_region_held3 (fun X => (X.cell? ⟨w.heap.size, 0, none⟩ = some (.int .i64 5) ∧ X.cell? ⟨w.heap.size, 1, none⟩ = some (.int .i64 10)) ∧ Fresh w X) (first | exact BoxAt.drew hB | exact hS' | assumption) (first | (go_at_call 36; refine (sign_half _).mono ?_; rintro r X ⟨rfl, hX⟩; have hS' : BoxAt w.heap.size 5 10 w X := BoxAt.fresh (by assumption) hX) | (go_at_call 37; refine (infinite_half _).mono ?_; rintro r X ⟨rfl, hX⟩; have hS' : BoxAt w.heap.size 5 10 w X := BoxAt.fresh (by assumption) hX))
      all_goals
        go_wp2
        go_ret
        exact ⟨rfl, hS'.2⟩
  · have hv : ofPt half ⟨2, N, M, E⟩ = 32256 := by
      have c : half.infRung = 31744 := by decide
      have d : half.binade = 1024 := by decide
      unfold ofPt; dsimp only; rw [if_pos rfl]; unfold noneOf; rw [c, d]
    rw [hv]
    clear hB hv
    go_enter Tryd.func21, Tryd.ntmps21
    go_wp2_with fail
    refine (none_half _).mono ?_
    rintro r Z ⟨rfl, hZ⟩
    go_wp2
    go_ret
    exact ⟨rfl, hF.trans hZ (fun _ _ e => e)⟩

set_option maxHeartbeats 1000000 in
theorem of_brain (p : Pt) (w : World) (hk : p.kind = 0 ∨ p.kind = 1 ∨ p.kind = 2) (hm : p.mant < 4294967296) :
    Calls Tryd.prog 21 #[fmtV 8 7, p.val] w fun r w' => r = .returned (.int .u32 (ofPt brain p : Nat)) ∧ Fresh w w' := by
  obtain ⟨K, N, M, E⟩ := p
  unfold Pt.val
  dsimp only at hk hm ⊢
  have hF := ((Kept.refl (fun _ => False) w).alloc (.cells #[.int .i64 8, .int .i64 7] 42)).alloc (.cells #[.int .i64 K, .bool N, .int .i64 (M : Int), .int .i64 E] 45)
  have hB : BoxAt w.heap.size 8 7 w ((w.alloc (.cells #[.int .i64 8, .int .i64 7] 42)).alloc (.cells #[.int .i64 K, .bool N, .int .i64 (M : Int), .int .i64 E] 45)) := BoxAt.fresh (BoxAt.new w 8 7 42) ((Kept.refl _ _).alloc _)
  rcases hk with rfl | rfl | rfl
  · have hv : ofPt brain ⟨0, N, M, E⟩ = brain.nearest N M E := by
      unfold ofPt; dsimp only; rw [if_neg (by decide), if_neg (by decide)]
    rw [hv]
    clear hB hv
    have HN := show Hid _ from fun X => nearA_brain N M E X (by omega)
    generalize brain.nearest N M E = V at *
    go_enter Tryd.func21, Tryd.ntmps21
    go_wp2_with fail
    refine (HN.out _).mono ?_
    rintro r Z ⟨rfl, hZ⟩
    go_wp2
    go_ret
    exact ⟨rfl, hF.trans hZ (fun _ _ e => e)⟩
  · have hv : ofPt brain ⟨1, N, M, E⟩ = brain.word N 32640 := by
      have c : brain.infRung = 32640 := by decide
      unfold ofPt; dsimp only; rw [if_neg (by decide), if_pos rfl, c]
    rw [hv]
    clear hv
    cases N
    · have hv : brain.word false 32640 = 32640 := by unfold Format.word; rw [if_neg (by decide)]
      rw [hv]
      clear hB hv
      go_enter Tryd.func21, Tryd.ntmps21
      go_wp2_with fail
      refine (infinite_brain _).mono ?_
      rintro r Z ⟨rfl, hZ⟩
      go_wp2
      go_ret
      exact ⟨rfl, hF.trans hZ (fun _ _ e => e)⟩
    · have hv : ((brain.word true 32640 : Nat) : Int) = 65408 := by
        have c : brain.signWeight = 32768 := by decide
        have h : brain.word true 32640 = 65408 := by unfold Format.word; rw [if_pos rfl, c]
        rw [h]; rfl
      have a1 : bits .or .u32 32768 32640 = 65408 := by decide +kernel
      rw [hv]
      clear hv
      go_enter Tryd.func21, Tryd.ntmps21
      go_wp2_with fail
      generalize (w.alloc (.cells #[.int .i64 8, .int .i64 7] 42)).alloc (.cells #[.int .i64 1, .bool true, .int .i64 (M : Int), .int .i64 E] 45) = W at *
      go_region_held3 (fun X => (X.cell? ⟨w.heap.size, 0, none⟩ = some (.int .i64 8) ∧ X.cell? ⟨w.heap.size, 1, none⟩ = some (.int .i64 7)) ∧ Fresh w X) (first | exact BoxAt.drew hB | exact hS' | assumption) (first | (go_at_call 36; refine (sign_brain _).mono ?_; rintro r X ⟨rfl, hX⟩; have hS' : BoxAt w.heap.size 8 7 w X := BoxAt.fresh (by assumption) hX) | (go_at_call 37; refine (infinite_brain _).mono ?_; rintro r X ⟨rfl, hX⟩; have hS' : BoxAt w.heap.size 8 7 w X := BoxAt.fresh (by assumption) hX))
      all_goals
        go_wp2
        go_ret
        exact ⟨rfl, hS'.2⟩
  · have hv : ofPt brain ⟨2, N, M, E⟩ = 32704 := by
      have c : brain.infRung = 32640 := by decide
      have d : brain.binade = 128 := by decide
      unfold ofPt; dsimp only; rw [if_pos rfl]; unfold noneOf; rw [c, d]
    rw [hv]
    clear hB hv
    go_enter Tryd.func21, Tryd.ntmps21
    go_wp2_with fail
    refine (none_brain _).mono ?_
    rintro r Z ⟨rfl, hZ⟩
    go_wp2
    go_ret
    exact ⟨rfl, hF.trans hZ (fun _ _ e => e)⟩

theorem pt_kind (d : Datum) : (ptOf d).kind = 0 ∨ (ptOf d).kind = 1 ∨ (ptOf d).kind = 2 := by
  cases d with
  | nan s t => exact .inr (.inr rfl)
  | infinity s => exact .inr (.inl rfl)
  | number s m e => unfold ptOf; dsimp only; split <;> exact .inl rfl
theorem pt_mant (d : Datum) (h : ∀ s m e, d = .number s m e → m < 4294967296) : (ptOf d).mant < 4294967296 := by
  cases d with
  | nan s t => exact (by decide : 0 < 4294967296)
  | infinity s => exact (by decide : 0 < 4294967296)
  | number s m e =>
    have hm := h s m e rfl
    unfold ptOf
    dsimp only
    split
    · exact (by decide : 0 < 4294967296)
    · exact Nat.lt_of_le_of_lt (Nat.div_le_self _ _) hm
theorem read_small (f : Format) (hf : f.binade ≤ 8388608) (b : Nat) : ∀ s m e, f.read b = .number s m e → m < 4294967296 := by
  intro s m e h
  have hb : 0 < f.binade := Nat.two_pow_pos _
  rw [read_rung] at h
  split at h
  · rename_i h1; cases h; omega
  · split at h
    · cases h
      have := Nat.mod_lt (b % f.signWeight) hb
      omega
    · split at h <;> cases h

end Go.Proofs.YtagbjlkpmjbfnacDoor
