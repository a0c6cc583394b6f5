/-
  firstStop, beginsStop, heldBack.
-/
import Derived.Test.YtomeoklhjdgaoaaDoorStb
import Derived.Test.YtomeoklhjdgaoaaDoorStx
import Derived.Deep.QuietTactic
import Derived.BigQuiet
namespace Go.Proofs.YtomeoklhjdgaoaaDoor
open Go.RowKit Go.Lib Go.Maps

theorem take_data (l : List UInt8) (e : Nat) : (⟨(l.take e).toArray⟩ : ByteArray).data.toList = l.take e := rfl
set_option maxHeartbeats 4000000 in
set_option maxRecDepth 100000 in
theorem firstStop_any {p : Nat → Prop} (T : List (List UInt8)) (l : List UInt8) (v : Value) (w : World) (hl : l.length ≤ 16777216) (hR : TxR p w v T) (hT : ∀ j, j < T.length → tX T j ≠ []) (hm : TbM w) :
    Calls Tryd.prog 43 #[v, sV l] w fun e w' => (∃ fr : Nat, e = .returned (.tuple #[zV (cuM T l), zV fr]) ∧ fr ≤ l.length ∧ (cuM T l = -1 → NoCut T l) ∧ (cuM T l ≠ -1 → l.take fr = cuS T l)) ∧ Fresh w w' := by
  obtain ⟨ao, cap, rfl⟩ := hR.shape
  obtain ⟨_, m, hm2⟩ := hm
  have HR : Hid (TxR p w (.slice ao T.length cap) T) := hR
  have HT : Hid (∀ j, j < T.length → tX T j ≠ []) := hT
  have HEnd : Hid (∀ pl fr e, FsI T l T.length pl fr e → pl = cuM T l ∧ (pl = -1 → NoCut T l) ∧ (pl ≠ -1 → l.take fr = cuS T l ∧ cuN T l = some e) ∧ fr ≤ l.length) := fun pl fr e h => fsI_end hT h
  have h20 := hR.len
  have HE : Hid (∀ i, i < T.length → (tX T i).length ≤ 1048576) := hR.each
  clear hR hT
  generalize hn : T.length = n at *
  have hsz : (⟨l.toArray⟩ : ByteArray).size = l.length := len_l l
  have HI0 : Hid (FsI T l 0 (-1) l.length l.length) := fsI_start T l
  generalize cuM T l = M at *
  go_enter Tryd.func43, Tryd.ntmps43
  have hlb : l.length ≤ 16777216 := hl
  have HL : Hid (∀ e, e ≤ l.length → (l.take e).length = e) := fun e h => by rw [List.length_take]; omega
  have ht0 : Hid (l = l.take l.length) := List.take_length.symm
  generalize hln : l.length = ln at *
  go_wp2
  go_loopw [1, 6, 7, 16] (fun tv pv fv iv wr => ∃ (i fr e : Nat) (pl : Int), i ≤ n ∧ e ≤ ln ∧ fr ≤ e ∧ iv = zV i ∧ pv = zV pl ∧ fv = zV fr ∧ tv = sV (l.take e) ∧ Hid (Fresh w wr) ∧ Hid (FsI T l i pl fr e)) (fun _ _ _ iv _ => n - (RowKit.intOf iv).toNat)
  case atStart => exact ⟨0, ln, ln, -1, Nat.zero_le _, Nat.le_refl _, Nat.le_refl _, rfl, rfl, rfl, congrArg sV ht0.out, Kept.refl _ _, HI0⟩
  case round =>
    obtain ⟨i, fr, e, pl, hi, he, hfr, rfl, rfl, rfl, rfl, HF, HI⟩ := hrel
    clear ht0 HI0
    by_cases hlt : i < n
    · have hlt' : (i : Int) < (n : Int) := by omega
      obtain ⟨b, off, rfl, _, hbl, hcell⟩ := (HR.out.fresh HF.out).cells.2.2 (by omega)
      have c0 := hcell i hlt
      clear hcell
      have hm3 : wr.cell? ⟨2, 0, none⟩ = some (.int .i64 m) := (HF.out.cell (p := ⟨_, 0, none⟩) (cell_lt hm2) (fun e => e)).trans hm2
      have hx := HT.out i hlt
      have hxl := HE.out i hlt
      have hle := HL.out e he
      have HC := show Hid _ from Tryd.strings_Index ⟨(l.take e).toArray⟩ ⟨(tX T i).toArray⟩ m wr (by rw [len_l]; omega) hm3
      rw [data_l, data_l] at HC
      have HX : Hid (tX T i ≠ []) := hx
      have hxp := List.length_pos_iff.2 hx
      have hsx : (⟨(tX T i).toArray⟩ : ByteArray).size = (tX T i).length := len_l _
      have hst : (⟨(l.take e).toArray⟩ : ByteArray).size = e := by rw [len_l]; exact hle
      rcases index_en (t := l.take e) hx with ⟨h1, h2⟩ | ⟨k, h1, h2, h3, h4⟩
      · rw [h1] at HC
        have HI2 : Hid (FsI T l (i + 1) pl fr e) := fsI_skip HI.out hx h2
        clear h1 h2 hx HI
        generalize tX T i = x at *
        generalize hxx : x.length = xn at *
        go_wp2_with fail
        refine Calls.mono HC.out ?_
        rintro e' W1 ⟨rfl, hW⟩
        have hW' := hW.symm
        subst hW'
        clear hW HC
        go_wp2
        go_roundw
        case rel => exact ⟨i + 1, fr, e, pl, by omega, he, hfr, by go_num, rfl, rfl, rfl, HF, HI2⟩
        case measure => simp [RowKit.intOf]; omega
      · rw [h1] at HC
        rw [hle] at h2
        have HN : Hid (k + (tX T i).length < e ∨ k < fr → FsI T l (i + 1) i k (k + (tX T i).length)) := fun hb => fsI_new HI.out h2 h3 h4 hb
        have HO : Hid (¬ (k + (tX T i).length < e ∨ k < fr) → FsI T l (i + 1) pl fr e) := fun hb => fsI_old HI.out h2 h4 hb hx
        have HTk : Hid ((⟨(l.take e).toArray⟩ : ByteArray).extract 0 (k + (tX T i).length) = ⟨(l.take (k + (tX T i).length)).toArray⟩) := by
          show _ = _
          rw [ext_l, List.drop_zero, List.take_take, Nat.min_eq_left h2]
        clear h1 h3 h4 hx HI HX
        generalize tX T i = x at *
        generalize hxx : x.length = xn at *
        have hSE : ∀ w, (Instr.slice 9 (.string ⟨(l.take e).toArray⟩) none (some (.int .i64 ((k : Int) + (xn : Int)))) none).run Tryd.prog w = .ok (sV (l.take (k + xn))) w := fun w => by
          rw [run_slice_string_h (ht := Tryd.underlying9) (kh := .i64) (h := (k : Int) + (xn : Int)) (h0 := by omega) (h2 := by rw [hst]; omega), show ((k : Int) + (xn : Int)).toNat = k + xn by omega, HTk.out]
        clear HTk
        by_cases c1 : k + xn < e
        · have hd1 : decide ((k : Int) + (xn : Int) < (e : Int)) = true := decide_eq_true (by omega)
          have HI2 := show Hid _ from HN.out (.inl c1)
          clear HN HO
          go_wp2_with fail
          refine Calls.mono HC.out ?_
          rintro e' W1 ⟨rfl, hW⟩
          have hW' := hW.symm
          subst hW'
          clear hW HC
          go_wp2
          go_quiet (fail)
          go_wp2
          go_roundw
          case rel => exact ⟨i + 1, k, k + xn, i, by omega, by omega, by omega, by go_num, rfl, rfl, rfl, HF.out.drewN _, HI2⟩
          case measure => simp [RowKit.intOf]; omega
        · have hd1 : decide ((k : Int) + (xn : Int) < (e : Int)) = false := decide_eq_false (by omega)
          by_cases c2 : k < fr
          · have hd2 : decide ((k : Int) < (fr : Int)) = true := decide_eq_true (by omega)
            have HI2 := show Hid _ from HN.out (.inr c2)
            clear HN HO
            go_wp2_with fail
            refine Calls.mono HC.out ?_
            rintro e' W1 ⟨rfl, hW⟩
            have hW' := hW.symm
            subst hW'
            clear hW HC
            go_wp2
            go_quiet (fail)
            go_wp2
            go_roundw
            case rel => exact ⟨i + 1, k, k + xn, i, by omega, by omega, by omega, by go_num, rfl, rfl, rfl, HF.out.drewN _, HI2⟩
            case measure => simp [RowKit.intOf]; omega
          · have hd2 : decide ((k : Int) < (fr : Int)) = false := decide_eq_false (by omega)
            have HI2 := show Hid _ from HO.out (fun h => h.elim c1 c2)
            clear HN HO
            go_wp2_with fail
            refine Calls.mono HC.out ?_
            rintro e' W1 ⟨rfl, hW⟩
            have hW' := hW.symm
            subst hW'
            clear hW HC
            go_wp2
            go_roundw
            case rel => exact ⟨i + 1, fr, e, pl, by omega, he, hfr, by go_num, rfl, rfl, rfl, HF, HI2⟩
            case measure => simp [RowKit.intOf]; omega
    · have hlt' : ¬ (i : Int) < (n : Int) := by omega
      have hin : i = n := by omega
      subst hin
      obtain ⟨r1, r2, r3, r4⟩ := HEnd.out pl fr e HI.out
      have HFin : Hid (pl = M ∧ (pl = -1 → NoCut T l) ∧ (pl ≠ -1 → l.take fr = cuS T l) ∧ fr ≤ ln) := ⟨r1, r2, fun h => (r3 h).1, r4⟩
      clear HEnd r1 r2 r3 r4 HI
      go_wp2
      go_ret2
      obtain ⟨r1, r2, r3, r4⟩ := HFin.out
      exact ⟨⟨fr, by rw [← r1]; rfl, r4, fun h => r2 (by rw [r1]; exact h), fun h => r3 (by rw [r1]; exact h)⟩, HF.out⟩
end Go.Proofs.YtomeoklhjdgaoaaDoor
