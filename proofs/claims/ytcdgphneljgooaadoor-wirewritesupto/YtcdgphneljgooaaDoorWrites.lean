/-
  For every script of Ops (of bulk at most 1048576) the statement WireWrites answers true: every call on a writer, in every order, does as the document's; its card, tied to the program's text.
-/
import Derived.Test.YtcdgphneljgooaaDoorSiz
import Derived.Test.YtcdgphneljgooaaDoorBulk
namespace Go.Proofs.YtcdgphneljgooaaDoor.Writes
open Go.ChangeShapes Go.WideShapes Go.ChangeAt Go.RowKit

theorem add_toArray (a b : List UInt8) : (⟨a.toArray⟩ : ByteArray) ++ ⟨b.toArray⟩ = ⟨(a ++ b).toArray⟩ := by
  apply ByteArray.ext
  simp
theorem size_toArray (a : List UInt8) : (⟨a.toArray⟩ : ByteArray).size = a.length := by simp [ByteArray.size]

theorem fresh_wset {w W W' : World} {u : Value} (h : Fresh w W) (hk : Kept (wset w.heap.size u) W W') (hub : ∀ g, u.ownBlock = some g → w.heap.size ≤ g) : Fresh w W' :=
  h.trans hk (fun i hi e => by
    rcases e with e | e
    · omega
    · have := hub i e; omega)
theorem moved_ub {B : Nat} {W : World} {u u' : Value} (hub : ∀ g, u.ownBlock = some g → B ≤ g) (hm : RowMoved W u u') (hB : B ≤ W.heap.size) : ∀ g, u'.ownBlock = some g → B ≤ g := fun g hg => by
  rcases hm with e | ⟨g', e, h'⟩
  · exact hub g (e ▸ hg)
  · rw [e] at hg; simp at hg; omega

/-- What holds between two rounds. -/
def Rel (l : List OpD) (w : World) (all i : Value) (wr : World) : Prop :=
  ∃ j : Nat, j ≤ l.length ∧ i = .int .i64 j ∧ ∃ bs u, all = .string ⟨bs.toArray⟩ ∧ WrAt wr w.heap.size u bs ∧ (∀ g, u.ownBlock = some g → w.heap.size ≤ g) ∧ bs.length ≤ room (l.take j) ∧ Fresh w wr

set_option maxHeartbeats 1000000 in
set_option maxRecDepth 100000 in
theorem walk (v : Value) (l : List OpD) (w : World) (hz : Siz w) (hs : ScriptIs w.heap.size w v l) (hroom : room l ≤ 100000000) :
    Calls Tryd.prog 5 #[v] w fun e w' => e = .returned (.bool true) ∧ Fresh w w' := by
  obtain ⟨ao, cap, rfl, hlen, hcell, hfits⟩ := hs
  go_enter Tryd.func5, Tryd.ntmps5
  go_wp2_with fail
  refine (newWriter_any _).mono ?_
  rintro e w1 ⟨rfl, hw1, hk1⟩
  have hs1 : Siz w1 := hz.kept hk1 (fun e => e)
  go_wp2_with fail
  refine (awake_any _ hs1).mono ?_
  rintro e w2 ⟨rfl, hk2⟩
  have hw2 : WrAt w2 w.heap.size (.slice none 0 0) [] := hw1.kept hk2 (fun e => e) (fun _ _ e => e)
  have hf2 : Fresh w w2 := hk1.trans hk2 (fun _ _ e => e)
  go_wp2
  go_loopw [4, 5] (fun all i wr => Rel l w all i wr) (fun _ i _ => l.length - (intOf i).toNat)
  case atStart => exact ⟨0, Nat.zero_le _, rfl, [], _, rfl, hw2, by simp [Value.ownBlock], by simp, hf2⟩
  case round =>
    obtain ⟨j, hj, rfl, bs, u, rfl, hwr, hub, hbl, hfr⟩ := hrel
    by_cases hlt : j < l.length
    · obtain ⟨ob, off, rfl, hob, hob2, hcl⟩ := hcell (fun e => by rw [e] at hlt; simp at hlt)
      have hfit := hfits l[j] (List.getElem_mem hlt)
      obtain ⟨c0, c1, c2, c3, c4⟩ := hcl j hlt
      have hrt := room_take_succ l j hlt
      have hrl := room_take_le l (j + 1)
      have HI : Hid (∃ o, o = l[j]) := ⟨_, rfl⟩
      generalize l[j] = o at *
      obtain ⟨ok, on, obt, rv, zs, s⟩ := o
      obtain ⟨hn, hbt, hrow, hss⟩ := hfit
      have hrow' := hrow
      obtain ⟨rao, rcap, hrv, hzl, _⟩ := hrow'
      simp only at hrv hzl hn hbt hrow hss c0 c1 c2 c3 c4 hrt
      subst hrv
      have e : ∀ i, wr.cell? ⟨ob, i, none⟩ = w.cell? ⟨ob, i, none⟩ := fun i => hfr.cell (p := ⟨ob, i, none⟩) hob2 (fun e => e)
      rw [← e] at c0 c1 c2 c3 c4
      clear e hcl hcell hfits
      have hzr : Siz wr := hz.kept hfr (fun e => e)
      have hog := heap_alloc_new wr (.cells #[.int .i64 ok, .int .i64 on, .int .i64 obt, .slice rao zs.length rcap, .string s] 33)
      generalize hob0 : wr.alloc (.cells #[.int .i64 ok, .int .i64 on, .int .i64 obt, .slice rao zs.length rcap, .string s] 33) = W0 at *
      have hf0 : Fresh wr W0 := by rw [← hob0]; exact (Kept.refl _ _).alloc _
      have hz0 : Siz W0 := hzr.kept hf0 (fun e => e)
      have hw0 : WrAt W0 w.heap.size u bs := hwr.kept hf0 (fun e => e) (fun _ _ e => e)
      have hrow0 : RowIs (fun k => k < w.heap.size) W0 (.slice rao zs.length rcap) zs := (hrow.kept hfr (fun _ _ e => e)).kept hf0 (fun _ _ e => e)
      have hbog : w.heap.size ≤ wr.heap.size := hfr.size
      have hogw : w.heap.size ≠ wr.heap.size := by have := lt_of_heap hwr.1; omega
      have hogu : ∀ g, u.ownBlock = some g → g ≠ wr.heap.size := fun g hg => by have := owns_lt hwr.2 hg; omega
      subst hob0
      go_wp2_with fail
      refine (kind_any _ _).mono ?_
      rintro e w3 ⟨rfl, rfl⟩
      have hBW : w.heap.size ≤ (wr.alloc (.cells #[.int .i64 ok, .int .i64 on, .int .i64 obt, .slice rao zs.length rcap, .string s] 33)).heap.size := Nat.le_trans hbog hf0.size
      have hfw := hfr.trans hf0 (fun _ _ e => e)
      rcases kd_cases ok with hkd | hkd | hkd | hkd
      · rw [hkd]
        obtain ⟨g0, g1, g2, g3, g4⟩ := cells5 hog
        by_cases hz8 : isSz obt = true
        · by_cases hnr : on < 0 ∨ 256 ^ obt.toNat ≤ on
          · go_wp2_with fail
            refine (refNumber_wide on obt _ hz8 hn.2 hnr).mono ?_
            rintro e w4 ⟨rfl, rfl⟩
            go_wp2_with fail
            refine (wnumber_wide _ on obt _ hz0 hz8 hnr).mono ?_
            rintro e w5 ⟨rfl, rfl⟩
            have hadd : (⟨bs.toArray⟩ : ByteArray) ++ ⟨#[]⟩ = ⟨bs.toArray⟩ := by have := add_toArray bs []; simpa using this
            have hsz1 := size_toArray bs
            go_wp2_with fail
            refine (wlen_any _ _ _ _ hw0).mono ?_
            rintro e w8 ⟨rfl, rfl⟩
            go_wp2_with fail
            refine (wbytes_any _ _ _ _ hw0).mono ?_
            rintro e w9 ⟨rfl, rfl⟩
            go_wp2
            go_roundw
            case rel => exact ⟨j + 1, by omega, by go_num, bs, u, rfl, hw0, hub, by simp only [OpD.room] at hrt; omega, hfw⟩
            case measure => simp [intOf]; omega
          · go_wp2_with fail
            refine (refNumber_ok on obt _ hz8 (by omega) hn.2 (by omega)).mono ?_
            rintro e w4 ⟨rfl, hk4⟩
            obtain ⟨g0, g1, g2, g3, g4⟩ := cells5 (hk4.at hog (fun e => e))
            have hw4 : WrAt w4 w.heap.size u bs := hw0.kept hk4 (fun e => e) (fun _ _ e => e)
            go_wp2_with fail
            refine (wnumber_ok _ u bs on obt _ (hz0.kept hk4 (fun e => e)) hw4 (by omega) hz8 (by omega) hn.2 (by omega)).mono ?_
            rintro e w5 ⟨rfl, u5, hw5, hk5, hm5⟩
            have hadd := add_toArray bs (le on.toNat obt.toNat)
            have hsz1 := size_toArray bs
            have hsz3 := size_toArray (le on.toNat obt.toNat)
            have hle := le_length on.toNat obt.toNat
            have hob8 : obt.toNat ≤ 8 := by have := isSz_cases hz8; omega
            have hll : (bs ++ le on.toNat obt.toNat).length = bs.length + obt.toNat := by rw [List.length_append, le_length]
            have hsz2 := size_toArray (bs ++ le on.toNat obt.toNat)
            generalize bs ++ le on.toNat obt.toNat = bs5 at *
            generalize le on.toNat obt.toNat = ln at *
            go_wp2_with fail
            refine (wlen_any _ _ _ _ hw5).mono ?_
            rintro e w8 ⟨rfl, rfl⟩
            go_wp2_with fail
            refine (wbytes_any _ _ _ _ hw5).mono ?_
            rintro e w9 ⟨rfl, rfl⟩
            go_wp2
            go_roundw
            case rel => exact ⟨j + 1, by omega, by go_num, bs5, u5, rfl, hw5, moved_ub hub hm5 (Nat.le_trans hBW hk4.size), by simp only [OpD.room] at hrt; omega, fresh_wset (hfw.trans hk4 (fun _ _ e => e)) hk5 hub⟩
            case measure => simp [intOf]; omega
        · have hz8' : isSz obt = false := by simpa using hz8
          go_wp2_with fail
          refine (refNumber_arg on obt _ hz8').mono ?_
          rintro e w4 ⟨rfl, rfl⟩
          go_wp2_with fail
          refine (wnumber_arg _ on obt _ hz0 hz8').mono ?_
          rintro e w5 ⟨rfl, rfl⟩
          have hadd : (⟨bs.toArray⟩ : ByteArray) ++ ⟨#[]⟩ = ⟨bs.toArray⟩ := by have := add_toArray bs []; simpa using this
          have hsz1 := size_toArray bs
          go_wp2_with fail
          refine (wlen_any _ _ _ _ hw0).mono ?_
          rintro e w8 ⟨rfl, rfl⟩
          go_wp2_with fail
          refine (wbytes_any _ _ _ _ hw0).mono ?_
          rintro e w9 ⟨rfl, rfl⟩
          go_wp2
          go_roundw
          case rel => exact ⟨j + 1, by omega, by go_num, bs, u, rfl, hw0, hub, by simp only [OpD.room] at hrt; omega, hfw⟩
          case measure => simp [intOf]; omega
      · rw [hkd]
        obtain ⟨g0, g1, g2, g3, g4⟩ := cells5 hog
        have hs0 : (wr.alloc (.cells #[.int .i64 ok, .int .i64 on, .int .i64 obt, .slice rao zs.length rcap, .string s] 33)).heap.size = wr.heap.size + 1 := by simp
        have hown8 := own8_empty (wr.alloc (.cells #[.int .i64 ok, .int .i64 on, .int .i64 obt, .slice rao zs.length rcap, .string s] 33))
        rw [hs0] at hown8
        obtain ⟨tv, W1, hrun, hrow1, hgrow⟩ := twin_run 31 _ (wr.heap.size + 1) _ hown8 (by simp) _ zs _ (hrow0.kept ((Kept.refl (fun _ => False) _).alloc _) (fun _ _ e => e))
        have hk1 : Fresh (wr.alloc (.cells #[.int .i64 ok, .int .i64 on, .int .i64 obt, .slice rao zs.length rcap, .string s] 33)) W1 := ((Kept.refl _ _).alloc _).grown hgrow (fun k hk e => by simp [Value.ownBlock] at e; simp at hk; omega)
        have hog1 := hk1.at hog (fun e => e)
        have hw1' : WrAt W1 w.heap.size u bs := hw0.kept hk1 (fun e => e) (fun _ _ e => e)
        have hrowA : RowIs (fun k => k < w.heap.size) W1 (.slice rao zs.length rcap) zs := hrow0.kept hk1 (fun _ _ e => e)
        obtain ⟨q0, q1, q2, q3, q4⟩ := cells5 hog1
        have htv := hrow1
        obtain ⟨tao, tcap, htv', _⟩ := htv
        subst htv'
        clear hrow hown8 hgrow
        go_wp2_with (at_builtin; refine Lib.wpList_append_run _ rfl _ _ _ _ rfl _ _ rfl rfl _ _ hrun ?_)
        refine (wrow_any _ u bs _ zs _ _ hw1' hrowA (fun k hk e => by rcases e with e | e; omega; have := hub k e; omega) (by simp only [OpD.room] at hrt; omega)).mono ?_
        rintro e w4 ⟨rfl, u4, hw4, hk4, hm4⟩
        have hog4 := hk4.at hog1 (fun e => by rcases e with e | e; exact hogw e.symm; exact hogu _ e rfl)
        obtain ⟨g0, g1, g2, g3, g4⟩ := cells5 hog4
        have hrowB : RowIs (fun k => k < w.heap.size) w4 (.slice rao zs.length rcap) zs := hrowA.kept hk4 (fun k hk e => by rcases e with e | e; omega; have := hub k e; omega)
        have hrowT : RowIs (fun k => wr.heap.size + 1 ≤ k) w4 (.slice tao zs.length tcap) zs := hrow1.kept hk4 (fun k hk e => by rcases e with e | e; omega; have := owns_lt hwr.2 e; omega)
        go_wp2_with fail
        refine (rows_any _ _ _ _ zs zs _ hrowB hrowT).mono ?_
        rintro e w5 ⟨rfl, n5, hw5e⟩
        have hk5 : Fresh w4 w5 := by rw [hw5e]; exact (Kept.refl _ _).drewN n5
        clear hw5e
        rw [show decide (zs = zs) = true from by simp]
        go_wp2_with fail
        refine (refRow_any _ _ zs _ (hrowT.kept hk5 (fun _ _ e => e))).mono ?_
        rintro e w6 ⟨rfl, hk6⟩
        have hk46 := hk5.trans hk6 (fun _ _ e => e)
        have hw6 : WrAt w6 w.heap.size u4 (bs ++ zs.map b8) := hw4.kept hk46 (fun e => e) (fun _ _ e => e)
        have hadd := add_toArray bs (zs.map b8)
        have hsz1 := size_toArray bs
        have hsz3 := size_toArray (zs.map b8)
        have hl3 : (zs.map b8).length = zs.length := List.length_map _
        have hll : (bs ++ zs.map b8).length = bs.length + zs.length := by rw [List.length_append, List.length_map]
        have hsz2 := size_toArray (bs ++ zs.map b8)
        generalize bs ++ zs.map b8 = bs5 at *
        generalize zs.map b8 = tx at *
        go_wp2_with fail
        refine (wlen_any _ _ _ _ hw6).mono ?_
        rintro e w8 ⟨rfl, rfl⟩
        go_wp2_with fail
        refine (wbytes_any _ _ _ _ hw6).mono ?_
        rintro e w9 ⟨rfl, rfl⟩
        go_wp2
        go_roundw
        case rel => exact ⟨j + 1, by omega, by go_num, bs5, u4, rfl, hw6, moved_ub hub hm4 (Nat.le_trans hBW hk1.size), by simp only [OpD.room] at hrt; omega, (fresh_wset (hfw.trans hk1 (fun _ _ e => e)) hk4 hub).trans hk46 (fun _ _ e => e)⟩
        case measure => simp [intOf]; omega
      · rw [hkd]
        obtain ⟨g0, g1, g2, g3, g4⟩ := cells5 hog
        go_wp2_with fail
        refine (wraw_any _ u bs s _ hw0 (by simp only [OpD.room] at hrt; omega)).mono ?_
        rintro e w4 ⟨rfl, u4, hw4, hk4, hm4⟩
        obtain ⟨g0, g1, g2, g3, g4⟩ := cells5 (hk4.at hog (fun e => by rcases e with e | e; exact hogw e.symm; exact hogu _ e rfl))
        have hadd : (⟨bs.toArray⟩ : ByteArray) ++ s = ⟨(bs ++ s.data.toList).toArray⟩ := add_toArray bs s.data.toList
        have hsz1 := size_toArray bs
        have hll : (bs ++ s.data.toList).length = bs.length + s.size := by rw [List.length_append, ← Lib.size_eq]
        have hsz2 := size_toArray (bs ++ s.data.toList)
        generalize bs ++ s.data.toList = bs4 at *
        go_wp2_with fail
        refine (wlen_any _ _ _ _ hw4).mono ?_
        rintro e w8 ⟨rfl, rfl⟩
        go_wp2_with fail
        refine (wbytes_any _ _ _ _ hw4).mono ?_
        rintro e w9 ⟨rfl, rfl⟩
        go_wp2
        go_roundw
        case rel => exact ⟨j + 1, by omega, by go_num, bs4, u4, rfl, hw4, moved_ub hub hm4 hBW, by simp only [OpD.room] at hrt; omega, fresh_wset hfw hk4 hub⟩
        case measure => simp [intOf]; omega
      · rw [hkd]
        obtain ⟨g0, g1, g2, g3, g4⟩ := cells5 hog
        go_wp2_with fail
        refine (wtext_ok _ u bs s _ hw0 (by omega) (by simp only [OpD.room] at hrt; omega)).mono ?_
        rintro e w4 ⟨rfl, u4, hw4, hk4, hm4⟩
        have hog4 := hk4.at hog (fun e => by rcases e with e | e; exact hogw e.symm; exact hogu _ e rfl)
        obtain ⟨g0, g1, g2, g3, g4⟩ := cells5 hog4
        go_wp2_with fail
        refine (refText_any s _ (by omega)).mono ?_
        rintro e w5 ⟨rfl, hk5⟩
        have hw5 : WrAt w5 w.heap.size u4 (bs ++ (le s.size 4 ++ s.data.toList)) := hw4.kept hk5 (fun e => e) (fun _ _ e => e)
        have hadd := add_toArray bs (le s.size 4 ++ s.data.toList)
        have hsz1 := size_toArray bs
        have hsz3 := size_toArray (le s.size 4 ++ s.data.toList)
        have hl3 : (le s.size 4 ++ s.data.toList).length = 4 + s.size := by rw [List.length_append, le_length, ← Lib.size_eq]
        have hll : (bs ++ (le s.size 4 ++ s.data.toList)).length = bs.length + (4 + s.size) := by rw [List.length_append, hl3]
        have hsz2 := size_toArray (bs ++ (le s.size 4 ++ s.data.toList))
        generalize bs ++ (le s.size 4 ++ s.data.toList) = bs5 at *
        generalize le s.size 4 ++ s.data.toList = tx at *
        go_wp2_with fail
        refine (wlen_any _ _ _ _ hw5).mono ?_
        rintro e w8 ⟨rfl, rfl⟩
        go_wp2_with fail
        refine (wbytes_any _ _ _ _ hw5).mono ?_
        rintro e w9 ⟨rfl, rfl⟩
        go_wp2
        go_roundw
        case rel => exact ⟨j + 1, by omega, by go_num, bs5, u4, rfl, hw5, moved_ub hub hm4 hBW, by simp only [OpD.room] at hrt; omega, (fresh_wset hfw hk4 hub).trans hk5 (fun _ _ e => e)⟩
        case measure => simp [intOf]; omega
    · go_wp2
      go_ret
      exact ⟨rfl, hfr⟩

theorem contract (H : Type) (enc : TypeId × Value → H) (W : World) (base : Nat) (args : Array Value) (ds gs : List (DataW H)) (before : List MemPlace)
    (hval : ∀ (j : Nat) t v, Tryd.f5.params[j]? = some t → args[j]? = some v → Value.okWide Tryd.prog W .any base t v)
    (hW : DataW.Whole enc Tryd.prog Tryd.f5.params.toList Rows.wireWritesSpec.vars false W args.toList ds gs before) (hbk : Rows.uptoSmall H (ds ++ gs) = true)
    (hsz : (DataW.weightsEach Tryd.prog (Tryd.f5.params.toList ++ []) (ds ++ gs)).all (· ≤ reachBytes) = true) (hL : laidMetH Tryd.prog Rows.wireWritesRow.laid W) :
    Calls Tryd.prog 5 args W fun e W' => ∃ v, e = .returned v ∧ Rows.wireWritesSpec.post enc Tryd.prog Tryd.f5 false true false false W args v W' := by
  have hW' := hW
  obtain ⟨p, q, hA0, hV, rfl, hfz, hnd⟩ := hW
  have hA : DataW.TrodAll enc Tryd.prog W 0 (fun _ => true) true Tryd.f5.params.toList args.toList ds p := hA0
  rw [Tryd.params5] at hA hval hsz
  obtain ⟨rfl, rfl⟩ := trodVars_none hV
  obtain ⟨v0, d0, rfl, rfl, h0⟩ := trodAll_one hA
  obtain ⟨ao, ln, cap, rfl⟩ := okWide_slice Tryd.underlying28 (hval 0 28 v0 rfl rfl)
  obtain ⟨fuel, hf⟩ := h0
  have hbd := bulk_le hbk
  simp only [List.append_nil, Rows.uptoBulkAll] at hbd
  obtain ⟨l, hs, hrm⟩ := script_of hf (by show Rows.uptoBulk d0 ≤ _; omega)
  refine (walk _ l W (siz_of_laid hL) hs (by have : room l ≤ 16 * Rows.uptoBulk d0 := hrm; omega)).mono fun e W' ⟨he, hk⟩ => ?_
  subst he
  exact ⟨_, rfl, post_law rfl (by kernel_rfl) (by kernel_rfl) hW' rfl hk⟩

theorem laid_met (os : Os) : laidMet Tryd.prog Rows.wireWritesUptoRow.laid ((layIn (World.holding Tryd.prog os ⟨#[], #[], []⟩)).forCall (fun _ _ => 0) ⟨#[], #[.slice none 0 0], []⟩).memory :=
  laidMet_of_run' 8 (by kernel_rfl) (by kernel_rfl)
theorem reads (os : Os) {H : Type} (enc : TypeId × Value → H) : ∃ places, DataW.whole enc Tryd.prog ((layIn (World.holding Tryd.prog os ⟨#[], #[], []⟩)).forCall (fun _ _ => 0) ⟨#[], #[.slice none 0 0], []⟩).memory Tryd.f5.params.toList Rows.wireWritesSpec.vars false (#[.slice none 0 0] : Array Value).toList 8 = some ([.nil], [], places) :=
  ⟨[], by kernel_rfl⟩

set_option maxRecDepth 100000 in
theorem lifted (os : Os) (started : os.Started) (H : Type) (enc : TypeId × Value → H) (F : Stop.Interp) :
    ReturnsInHanded {} Tryd.checked os 5 .any ((Rows.OpenSpec.upto Rows.wireWritesSpec).preRow enc Tryd.prog Tryd.f5 Rows.wireWritesUptoRow.domain false Rows.wireWritesUptoRow.laid) (((Rows.OpenSpec.upto Rows.wireWritesSpec).at F).post enc Tryd.prog Tryd.f5 false true false false) := by
  obtain ⟨places, hx⟩ := reads os enc
  refine returnsInHanded_of_row (C := Tryd.checked) (s := Rows.OpenSpec.upto Rows.wireWritesSpec) Tryd.own started (by kernel_rfl) Tryd.func5
    (witness_row_at (enc := enc) (C := Tryd.checked) false (layIn (World.holding Tryd.prog os ⟨#[], #[], []⟩)) #[.slice none 0 0] rfl (by kernel_rfl) (by kernel_rfl) (by kernel_rfl)
      (OpenSpec.preRow_of_cond 8 hx (by kernel_rfl) (fun k hk => by cases hk; kernel_rfl) (by kernel_rfl) (laid_met os))) ?_
  intro W base args ds gs before hval hW _ hc hsz hL _ _
  exact contract H enc W base args ds gs before hval hW (hc _ rfl) hsz hL

theorem said : Rows.WireWritesUptoSaid :=
  OpenClaim.holds_of_cond 5 Tryd.f5 rfl rfl rfl rfl rfl rfl rfl ⟨rfl, rfl, rfl, rfl, rfl⟩ rfl rfl rfl rfl rfl (by kernel_rfl) Tryd.func5 (by kernel_rfl)
    (of_decide_eq_true (by kernel_rfl)) (by unfold Func.isWrapper; first | (rw [if_pos (by decide +kernel)]; kernel_rfl) | (rw [if_neg (by decide +kernel)]; exact ⟨rfl, rfl⟩))
    (fun os started H enc _ F => by rw [OpenClaim.pre_eq_preRow]; exact lifted os started H enc F)

theorem plain (f : FuncId) (fn : Func) (hf : Tryd.pinned.checked.prog.funcNamed Rows.wireWritesUptoRow.func = some f) (hfn : Tryd.pinned.checked.prog.funcs[f]? = some fn) :
    false = Tryd.pinned.checked.prog.looks [] ∧ ∀ (j : Nat) t, fn.params[j]? = some t → Tryd.pinned.checked.prog.wantsStandIn t = false := by
  obtain rfl : f = 5 := Option.some.inj ((show Tryd.prog.funcNamed Rows.wireWritesUptoRow.func = some 5 by kernel_rfl).symm.trans hf) |>.symm
  obtain rfl : fn = Tryd.f5 := (Option.some.inj (Tryd.func5.symm.trans hfn)).symm
  refine ⟨by kernel_rfl, fun j t ht => ?_⟩
  have hall : (Tryd.f5.params.toList.all fun u => !Tryd.prog.wantsStandIn u) = true := by kernel_rfl
  exact (show Tryd.prog.wantsStandIn t = false by simpa using List.all_eq_true.1 hall t (Array.mem_toList_iff.2 (Array.mem_of_getElem? ht)))

theorem card : Rows.WireWritesUptoCardSaid :=
  Claim7.holds_tied_plain_at .later [] _ _ _ _ said (fun _ h => by cases h) (by kernel_rfl) (fun _ h => by cases h) wireWritesUpto_row_tie rfl ⟨rfl, rfl⟩ (by kernel_rfl) rfl plain (by kernel_rfl)

end Go.Proofs.YtcdgphneljgooaaDoor.Writes
namespace Go.Proofs.YtcdgphneljgooaaDoor
theorem wireWrites_card : Rows.WireWritesUptoCardSaid := Writes.card
end Go.Proofs.YtcdgphneljgooaaDoor
