/-
  Which merges fit.
-/
import Derived.Test.YtdponkpgokncdaaVop
namespace Go.Proofs.Ytdponkpgokncdaa
open Go.RowKit Go.Lib Go.Maps

/-- Is it a token other than the end? -/
def tkB (n : Nat) (z : Int) : Bool := decide (1 ≤ z) && decide (z < (n : Int))
/-- Does a merge fit texts? -/
def fiB (T : List (List UInt8)) (m : Mg) : Bool := tkB T.length m.l && tkB T.length m.r && tkB T.length m.o && (gT T m.o.toNat == gT T m.l.toNat ++ gT T m.r.toNat)
def mgV (m : Mg) : Value := .agg #[zV m.l, zV m.r, zV m.o]
def pk (m : Mg) (j : Nat) : Int := if j = 0 then m.l else if j = 1 then m.r else m.o
theorem bA_app (a b : List UInt8) : ByteArray.mk a.toArray ++ ByteArray.mk b.toArray = ByteArray.mk (a ++ b).toArray := by
  apply ByteArray.ext
  apply Array.ext'
  simp
theorem ix30 (a b c : Int) (w : World) : (Instr.index 110 (.agg #[zV a, zV b, zV c]) (.int .i64 0)).run Try.prog w = .ok (zV a) w := by kernel_rfl
theorem ix31 (a b c : Int) (w : World) : (Instr.index 110 (.agg #[zV a, zV b, zV c]) (.int .i64 1)).run Try.prog w = .ok (zV b) w := by kernel_rfl
theorem ix32 (a b c : Int) (w : World) : (Instr.index 110 (.agg #[zV a, zV b, zV c]) (.int .i64 2)).run Try.prog w = .ok (zV c) w := by kernel_rfl
set_option maxHeartbeats 2000000 in
set_option maxRecDepth 100000 in
theorem fits_any {p : Nat → Prop} (X : World) (tv : Value) (T : List (List UInt8)) (m : Mg) (hT : TxR p X tv T) (h64 : ∀ i, i < T.length → (gT T i).length ≤ 64) :
    Calls Try.prog 51 #[tv, .agg #[zV m.l, zV m.r, zV m.o]] X fun e X' => e = .returned (.bool (fiB T m)) ∧ Fresh X X' := by
  have HT : Hid (TxR (fun b => b < X.heap.size) X tv T) := hT.low
  obtain ⟨ta, tc, htv⟩ := hT.shape
  have h16 := hT.len16
  subst htv
  clear hT
  have H64 := show Hid _ from h64
  have HRet : Hid (∀ j, j < 3 → tkB T.length (pk m j) = false → fiB T m = false) := fun j hj h => by
    unfold fiB
    have : j = 0 ∨ j = 1 ∨ j = 2 := by omega
    rcases this with rfl | rfl | rfl
    · rw [show tkB T.length m.l = false from h]; rfl
    · rw [show tkB T.length m.r = false from h]; simp
    · rw [show tkB T.length m.o = false from h]; simp
  have HEnd : Hid ((∀ j, j < 3 → tkB T.length (pk m j) = true) → fiB T m = (gT T m.o.toNat == gT T m.l.toNat ++ gT T m.r.toNat)) := fun h => by
    unfold fiB
    rw [show tkB T.length m.l = true from h 0 (by omega), show tkB T.length m.r = true from h 1 (by omega), show tkB T.length m.o = true from h 2 (by omega)]
    rfl
  have HF0 : Hid (Fresh X (X.alloc (.cells #[zV m.l, zV m.r, zV m.o] 82))) := (Kept.refl _ X).alloc _
  have hc0 : (X.alloc (.cells #[zV m.l, zV m.r, zV m.o] 82)).cell? ⟨X.heap.size, 0, none⟩ = some (zV m.l) := by rw [World.cell?_alloc_new]; rfl
  have hc1 : (X.alloc (.cells #[zV m.l, zV m.r, zV m.o] 82)).cell? ⟨X.heap.size, 1, none⟩ = some (zV m.r) := by rw [World.cell?_alloc_new]; rfl
  have hc2 : (X.alloc (.cells #[zV m.l, zV m.r, zV m.o] 82)).cell? ⟨X.heap.size, 2, none⟩ = some (zV m.o) := by rw [World.cell?_alloc_new]; rfl
  clear h64
  generalize hFB : fiB T m = FB at *
  clear hFB
  generalize htt : T.length = tn at *
  have hpk0 : pk m 0 = m.l := rfl
  have hpk1 : pk m 1 = m.r := rfl
  have hpk2 : pk m 2 = m.o := rfl
  have HPK : Hid (pk m 0 = m.l ∧ pk m 1 = m.r ∧ pk m 2 = m.o) := ⟨rfl, rfl, rfl⟩
  clear hpk0 hpk1 hpk2
  generalize hml : m.l = ml at *
  generalize hmr : m.r = mr at *
  generalize hmo : m.o = mo at *
  clear hml hmr hmo
  go_enter Try.func51, Try.ntmps51
  go_wp2
  have hX1 : ∃ X1, X.alloc (.cells #[zV ml, zV mr, zV mo] 82) = X1 := ⟨_, rfl⟩
  obtain ⟨X1, hX1⟩ := hX1
  rw [hX1] at hc0 hc1 hc2 HF0 ⊢
  clear hX1
  go_loopw [14] (fun iv wr => ∃ j : Nat, j ≤ 3 ∧ iv = zV j ∧ wr = X1 ∧ Hid (∀ i, i < j → tkB tn (pk m i) = true)) (fun iv _ => 3 - (RowKit.intOf iv).toNat)
  case atStart => exact ⟨0, Nat.zero_le _, rfl, rfl, fun i hi => absurd hi (Nat.not_lt_zero _)⟩
  case round =>
    obtain ⟨j, hj, rfl, rfl, HB⟩ := hrel
    by_cases hlt : j < 3
    · have hj3 : j = 0 ∨ j = 1 ∨ j = 2 := by omega
      rcases hj3 with rfl | rfl | rfl
      · have hp := HPK.out.1
        have hix := ix30 ml mr mo wr
        by_cases h1 : 1 ≤ ml
        · by_cases h2 : ml < (tn : Int)
          · have HB2 : Hid (∀ i, i < 0 + 1 → tkB tn (pk m i) = true) := fun i hi => by
              by_cases e : i = 0
              · rw [e, hp]; unfold tkB; simp [h1, h2]
              · exact HB.out i (by omega)
            have h1' : ¬ ml < 1 := by omega
            clear hp HB HRet HEnd
            go_wp2
            go_roundw
            case rel => exact ⟨0 + 1, by omega, by go_num, trivial, HB2.out⟩
            case measure => simp [RowKit.intOf]
          · have HE := show Hid _ from HRet.out 0 (by omega) (by rw [hp]; unfold tkB; simp [h2])
            have h1' : ¬ ml < 1 := by omega
            clear hp HB HRet HEnd
            go_wp2
            go_ret
            exact ⟨by rw [HE.out]; rfl, HF0.out⟩
        · have HE := show Hid _ from HRet.out 0 (by omega) (by rw [hp]; unfold tkB; simp [h1])
          have h1' : ml < 1 := by omega
          clear hp HB HRet HEnd
          go_wp2
          go_ret
          exact ⟨by rw [HE.out]; rfl, HF0.out⟩
      · have hp := HPK.out.2.1
        have hix := ix31 ml mr mo wr
        by_cases h1 : 1 ≤ mr
        · by_cases h2 : mr < (tn : Int)
          · have HB2 : Hid (∀ i, i < 1 + 1 → tkB tn (pk m i) = true) := fun i hi => by
              by_cases e : i = 1
              · rw [e, hp]; unfold tkB; simp [h1, h2]
              · exact HB.out i (by omega)
            have h1' : ¬ mr < 1 := by omega
            clear hp HB HRet HEnd
            go_wp2
            go_roundw
            case rel => exact ⟨1 + 1, by omega, by go_num, trivial, HB2.out⟩
            case measure => simp [RowKit.intOf]
          · have HE := show Hid _ from HRet.out 1 (by omega) (by rw [hp]; unfold tkB; simp [h2])
            have h1' : ¬ mr < 1 := by omega
            clear hp HB HRet HEnd
            go_wp2
            go_ret
            exact ⟨by rw [HE.out]; rfl, HF0.out⟩
        · have HE := show Hid _ from HRet.out 1 (by omega) (by rw [hp]; unfold tkB; simp [h1])
          have h1' : mr < 1 := by omega
          clear hp HB HRet HEnd
          go_wp2
          go_ret
          exact ⟨by rw [HE.out]; rfl, HF0.out⟩
      · have hp := HPK.out.2.2
        have hix := ix32 ml mr mo wr
        by_cases h1 : 1 ≤ mo
        · by_cases h2 : mo < (tn : Int)
          · have HB2 : Hid (∀ i, i < 2 + 1 → tkB tn (pk m i) = true) := fun i hi => by
              by_cases e : i = 2
              · rw [e, hp]; unfold tkB; simp [h1, h2]
              · exact HB.out i (by omega)
            have h1' : ¬ mo < 1 := by omega
            clear hp HB HRet HEnd
            go_wp2
            go_roundw
            case rel => exact ⟨2 + 1, by omega, by go_num, trivial, HB2.out⟩
            case measure => simp [RowKit.intOf]
          · have HE := show Hid _ from HRet.out 2 (by omega) (by rw [hp]; unfold tkB; simp [h2])
            have h1' : ¬ mo < 1 := by omega
            clear hp HB HRet HEnd
            go_wp2
            go_ret
            exact ⟨by rw [HE.out]; rfl, HF0.out⟩
        · have HE := show Hid _ from HRet.out 2 (by omega) (by rw [hp]; unfold tkB; simp [h1])
          have h1' : mo < 1 := by omega
          clear hp HB HRet HEnd
          go_wp2
          go_ret
          exact ⟨by rw [HE.out]; rfl, HF0.out⟩
    · obtain rfl : j = 3 := by omega
      have HE := show Hid _ from HEnd.out HB.out
      have q0 := HB.out 0 (by omega)
      have q1 := HB.out 1 (by omega)
      have q2 := HB.out 2 (by omega)
      rw [HPK.out.1] at q0
      rw [HPK.out.2.1] at q1
      rw [HPK.out.2.2] at q2
      unfold tkB at q0 q1 q2
      simp only [Bool.and_eq_true, decide_eq_true_eq] at q0 q1 q2
      obtain ⟨nl, rfl⟩ : ∃ n : Nat, ml = (n : Int) := ⟨ml.toNat, by omega⟩
      obtain ⟨nr, rfl⟩ : ∃ n : Nat, mr = (n : Int) := ⟨mr.toNat, by omega⟩
      obtain ⟨no, rfl⟩ : ∃ n : Nat, mo = (n : Int) := ⟨mo.toNat, by omega⟩
      rw [Int.toNat_natCast, Int.toNat_natCast, Int.toNat_natCast] at HE
      have k0 : nl < tn := by omega
      have k1 : nr < tn := by omega
      have k2 : no < tn := by omega
      obtain ⟨b, off, rfl, _, _, hcell⟩ := (HT.out.fresh HF0.out).cells.2.2 (by omega)
      have t0 : wr.cell? ⟨b, off + nl, none⟩ = some (.string (ByteArray.mk (gT T nl).toArray)) := hcell nl k0
      have t1 : wr.cell? ⟨b, off + nr, none⟩ = some (.string (ByteArray.mk (gT T nr).toArray)) := hcell nr k1
      have t2 : wr.cell? ⟨b, off + no, none⟩ = some (.string (ByteArray.mk (gT T no).toArray)) := hcell no k2
      have l0 := H64.out nl k0
      have l1 := H64.out nr k1
      rw [← bA_size] at l0 l1
      have HEq : Hid (((ByteArray.mk (gT T no).toArray).toList == (ByteArray.mk (gT T nl).toArray ++ ByteArray.mk (gT T nr).toArray).toList) = (gT T no == gT T nl ++ gT T nr)) := by
        show _ = _
        rw [bA_app, ByteArray.toList_eq, ByteArray.toList_eq]
      clear HRet HEnd HB q0 q1 q2 hcell H64
      generalize ByteArray.mk (gT T nl).toArray = sa at *
      generalize ByteArray.mk (gT T nr).toArray = sb at *
      generalize ByteArray.mk (gT T no).toArray = sc at *
      go_wp2_with fail
      go_quiet (fail)
      go_wp2
      go_ret
      refine ⟨?_, HF0.out.drewN _⟩
      rw [HE.out, ← HEq.out]
      rfl
end Go.Proofs.Ytdponkpgokncdaa
