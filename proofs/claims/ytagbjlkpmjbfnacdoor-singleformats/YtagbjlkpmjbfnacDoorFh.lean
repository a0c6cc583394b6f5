/-
  Halves and brains, and back: the program's calls.
-/
import Derived.Test.YtagbjlkpmjbfnacDoorFo
import Derived.Laws.FloatBits
namespace Go.Proofs.YtagbjlkpmjbfnacDoor
open Go.RowKit Ieee

theorem conv_lt16 (f : Format) (hw : f.width = 16) (hn : noneOf f < 65536) (d : Datum) : conv f d < 65536 := by
  have h16 : 2 ^ f.width = 65536 := by rw [hw]
  cases d with
  | nan s t => exact hn
  | infinity s => rw [← h16]; exact f.word_lt s f.infRung_lt
  | number s m e => rw [← h16]; exact f.nearest_lt s m e

set_option maxHeartbeats 1000000 in
theorem Half_any (a : Nat) (w : World) (hS : Sing w) (hT : Tab w) (hH : TwoAt 0 5 10 w) (ha : a < 4294967296) :
    Calls Tryd.prog 7 #[.int .u32 a] w fun r w' => r = .returned (.int .u16 (conv half (single.read a) : Nat)) ∧ Fresh w w' := by
  have hrs := read_small single (by decide) a
  have HP := show Hid _ from fun X (hX : Fresh w X) => Parts_any a X (hS.fresh hX) (hT.fresh hX) ha
  have HO := show Hid _ from fun X => of_half (ptOf (single.read a)) X (pt_kind _) (pt_mant _ hrs)
  rw [ofPt_conv half _ hrs] at HO
  have hlt := conv_lt16 half (by decide) (by decide) (single.read a)
  generalize conv half (single.read a) = V at *
  generalize (ptOf (single.read a)).val = P at *
  have hw : IntKind.u16.wrap (V : Int) = (V : Int) := by
    have : IntKind.u16.wrap (V : Int) = (V : Int) % 65536 := by simp [IntKind.wrap, IntKind.signed, IntKind.bits]
    rw [this]; omega
  have hB : BoxAt 0 5 10 w w := ⟨⟨hH.1, hH.2⟩, Kept.refl _ _⟩
  clear hrs hH
  go_enter Tryd.func7, Tryd.ntmps7
  go_wp2_with fail
  go_region_held3 (fun X => (X.cell? ⟨0, 0, none⟩ = some (.int .i64 5) ∧ X.cell? ⟨0, 1, none⟩ = some (.int .i64 10)) ∧ Fresh w X) (first | exact BoxAt.drew hB | exact hS' | assumption) (first | (go_at_call 22; have hFw : BoxAt 0 5 10 w _ := (by assumption); refine (HP.out _ hFw.2).mono ?_; rintro r X ⟨rfl, hX⟩; have hS' : BoxAt 0 5 10 w X := BoxAt.fresh hFw hX) | (go_at_call 21; refine (HO.out _).mono ?_; rintro r X ⟨rfl, hX⟩; have hS' : BoxAt 0 5 10 w X := BoxAt.fresh (by assumption) hX))
  all_goals
    go_wp2
    go_ret
    exact ⟨rfl, hS'.2⟩

set_option maxHeartbeats 1000000 in
theorem Brain_any (a : Nat) (w : World) (hS : Sing w) (hT : Tab w) (hH : TwoAt 2 8 7 w) (ha : a < 4294967296) :
    Calls Tryd.prog 11 #[.int .u32 a] w fun r w' => r = .returned (.int .u16 (conv brain (single.read a) : Nat)) ∧ Fresh w w' := by
  have hrs := read_small single (by decide) a
  have HP := show Hid _ from fun X (hX : Fresh w X) => Parts_any a X (hS.fresh hX) (hT.fresh hX) ha
  have HO := show Hid _ from fun X => of_brain (ptOf (single.read a)) X (pt_kind _) (pt_mant _ hrs)
  rw [ofPt_conv brain _ hrs] at HO
  have hlt := conv_lt16 brain (by decide) (by decide) (single.read a)
  generalize conv brain (single.read a) = V at *
  generalize (ptOf (single.read a)).val = P at *
  have hw : IntKind.u16.wrap (V : Int) = (V : Int) := by
    have : IntKind.u16.wrap (V : Int) = (V : Int) % 65536 := by simp [IntKind.wrap, IntKind.signed, IntKind.bits]
    rw [this]; omega
  have hB : BoxAt 2 8 7 w w := ⟨⟨hH.1, hH.2⟩, Kept.refl _ _⟩
  clear hrs hH
  go_enter Tryd.func11, Tryd.ntmps11
  go_wp2_with fail
  go_region_held3 (fun X => (X.cell? ⟨2, 0, none⟩ = some (.int .i64 8) ∧ X.cell? ⟨2, 1, none⟩ = some (.int .i64 7)) ∧ Fresh w X) (first | exact BoxAt.drew hB | exact hS' | assumption) (first | (go_at_call 22; have hFw : BoxAt 2 8 7 w _ := (by assumption); refine (HP.out _ hFw.2).mono ?_; rintro r X ⟨rfl, hX⟩; have hS' : BoxAt 2 8 7 w X := BoxAt.fresh hFw hX) | (go_at_call 21; refine (HO.out _).mono ?_; rintro r X ⟨rfl, hX⟩; have hS' : BoxAt 2 8 7 w X := BoxAt.fresh (by assumption) hX))
  all_goals
    go_wp2
    go_ret
    exact ⟨rfl, hS'.2⟩

set_option maxHeartbeats 1000000 in
theorem FromHalf_any (h : Nat) (w : World) (hS : Sing w) (hT : Tab w) (hH : TwoAt 0 5 10 w) (hh : h < 65536) :
    Calls Tryd.prog 9 #[.int .u16 h] w fun r w' => r = .returned (.int .u32 (conv single (half.read h) : Nat)) ∧ Fresh w w' := by
  have hrs := read_small half (by decide) h
  have HP := show Hid _ from fun X (hX : Fresh w X) => parts_half h X (hT.fresh hX) hh
  have HO := show Hid _ from fun X => of_single (ptOf (half.read h)) X (pt_kind _) (pt_mant _ hrs)
  rw [ofPt_conv single _ hrs] at HO
  generalize conv single (half.read h) = V at *
  generalize (ptOf (half.read h)).val = P at *
  obtain ⟨s0, s1⟩ := id hS
  obtain ⟨g0, g1⟩ := id hH
  clear hrs
  have hw : IntKind.u32.wrap (h : Int) = (h : Int) := by
    have : IntKind.u32.wrap (h : Int) = (h : Int) % 4294967296 := by simp [IntKind.wrap, IntKind.signed, IntKind.bits]
    rw [this]; omega
  go_enter Tryd.func9, Tryd.ntmps9
  go_wp2_with fail
  go_region_held3 (fun X => ((X.cell? ⟨0, 0, none⟩ = some (.int .i64 5) ∧ X.cell? ⟨0, 1, none⟩ = some (.int .i64 10)) ∧ (X.cell? ⟨1, 0, none⟩ = some (.int .i64 8) ∧ X.cell? ⟨1, 1, none⟩ = some (.int .i64 23))) ∧ Fresh w X) (first | exact ⟨⟨⟨g0, g1⟩, s0, s1⟩, (Kept.refl _ _).drew⟩ | exact hS' | assumption) (first | (go_at_call 25; have hFw : (TwoAt 0 5 10 _ ∧ TwoAt 1 8 23 _) ∧ Fresh w _ := (by assumption); refine (HP.out _ hFw.2).mono ?_; rintro r X ⟨rfl, hX⟩; have hS' : (TwoAt 0 5 10 X ∧ TwoAt 1 8 23 X) ∧ Fresh w X := ⟨⟨hFw.1.1.fresh hX, hFw.1.2.fresh hX⟩, hFw.2.trans hX (fun _ _ e => e)⟩) | (go_at_call 21; have hFw : (TwoAt 0 5 10 _ ∧ TwoAt 1 8 23 _) ∧ Fresh w _ := (by assumption); refine (HO.out _).mono ?_; rintro r X ⟨rfl, hX⟩; have hS' : (TwoAt 0 5 10 X ∧ TwoAt 1 8 23 X) ∧ Fresh w X := ⟨⟨hFw.1.1.fresh hX, hFw.1.2.fresh hX⟩, hFw.2.trans hX (fun _ _ e => e)⟩))
  all_goals
    go_wp2
    go_ret
    exact ⟨rfl, hS'.2⟩

set_option maxHeartbeats 1000000 in
theorem FromBrain_any (h : Nat) (w : World) (hS : Sing w) (hT : Tab w) (hH : TwoAt 2 8 7 w) (hh : h < 65536) :
    Calls Tryd.prog 13 #[.int .u16 h] w fun r w' => r = .returned (.int .u32 (conv single (brain.read h) : Nat)) ∧ Fresh w w' := by
  have hrs := read_small brain (by decide) h
  have HP := show Hid _ from fun X (hX : Fresh w X) => parts_brain h X (hT.fresh hX) hh
  have HO := show Hid _ from fun X => of_single (ptOf (brain.read h)) X (pt_kind _) (pt_mant _ hrs)
  rw [ofPt_conv single _ hrs] at HO
  generalize conv single (brain.read h) = V at *
  generalize (ptOf (brain.read h)).val = P at *
  obtain ⟨s0, s1⟩ := id hS
  obtain ⟨g0, g1⟩ := id hH
  clear hrs
  have hw : IntKind.u32.wrap (h : Int) = (h : Int) := by
    have : IntKind.u32.wrap (h : Int) = (h : Int) % 4294967296 := by simp [IntKind.wrap, IntKind.signed, IntKind.bits]
    rw [this]; omega
  go_enter Tryd.func13, Tryd.ntmps13
  go_wp2_with fail
  go_region_held3 (fun X => ((X.cell? ⟨2, 0, none⟩ = some (.int .i64 8) ∧ X.cell? ⟨2, 1, none⟩ = some (.int .i64 7)) ∧ (X.cell? ⟨1, 0, none⟩ = some (.int .i64 8) ∧ X.cell? ⟨1, 1, none⟩ = some (.int .i64 23))) ∧ Fresh w X) (first | exact ⟨⟨⟨g0, g1⟩, s0, s1⟩, (Kept.refl _ _).drew⟩ | exact hS' | assumption) (first | (go_at_call 25; have hFw : (TwoAt 2 8 7 _ ∧ TwoAt 1 8 23 _) ∧ Fresh w _ := (by assumption); refine (HP.out _ hFw.2).mono ?_; rintro r X ⟨rfl, hX⟩; have hS' : (TwoAt 2 8 7 X ∧ TwoAt 1 8 23 X) ∧ Fresh w X := ⟨⟨hFw.1.1.fresh hX, hFw.1.2.fresh hX⟩, hFw.2.trans hX (fun _ _ e => e)⟩) | (go_at_call 21; have hFw : (TwoAt 2 8 7 _ ∧ TwoAt 1 8 23 _) ∧ Fresh w _ := (by assumption); refine (HO.out _).mono ?_; rintro r X ⟨rfl, hX⟩; have hS' : (TwoAt 2 8 7 X ∧ TwoAt 1 8 23 X) ∧ Fresh w X := ⟨⟨hFw.1.1.fresh hX, hFw.1.2.fresh hX⟩, hFw.2.trans hX (fun _ _ e => e)⟩))
  all_goals
    go_wp2
    go_ret
    exact ⟨rfl, hS'.2⟩

end Go.Proofs.YtagbjlkpmjbfnacDoor
