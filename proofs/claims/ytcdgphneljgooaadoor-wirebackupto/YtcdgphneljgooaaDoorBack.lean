/-
  For every script of Ops and every text behind it (of bulk together at most 1048576) the statement WireBack answers true: what was written is read back by the same calls; its card, tied to the program's text.
-/
import Derived.Test.YtcdgphneljgooaaDoorSiz
import Derived.Test.YtcdgphneljgooaaDoorRe
import Derived.Test.YtcdgphneljgooaaDoorBulk
namespace Go.Proofs.YtcdgphneljgooaaDoor.Back
open Go.ChangeShapes Go.WideShapes Go.ChangeAt Go.RowKit

/-- Whether a number is written. -/
def numOk (n b : Int) : Bool := isSz b && decide (0 ≤ n) && decide (n < 256 ^ b.toNat)
/-- Whether an Op writes. -/
def flag (o : OpD) : Bool := if kd o.k = 0 then numOk o.n o.b else true
/-- What an Op writes. -/
def enc (o : OpD) : List UInt8 :=
  if kd o.k = 0 then (if numOk o.n o.b = true then le o.n.toNat o.b.toNat else [])
  else if kd o.k = 1 then o.zs.map b8
  else if kd o.k = 2 then o.s.data.toList
  else le o.s.size 4 ++ o.s.data.toList
def encs (l : List OpD) : List UInt8 := l.flatMap enc

theorem encs_succ (l : List OpD) (j : Nat) (h : j < l.length) : encs (l.take (j + 1)) = encs (l.take j) ++ enc l[j] := by
  unfold encs
  rw [List.take_succ_eq_append_getElem h, List.flatMap_append]
  simp
theorem flags_succ (l : List OpD) (j : Nat) (h : j < l.length) : (l.take (j + 1)).map flag = (l.take j).map flag ++ [flag l[j]] := by
  rw [List.take_succ_eq_append_getElem h, List.map_append]
  rfl

theorem enc_room (o : OpD) : (enc o).length ≤ o.room := by
  unfold enc OpD.room
  split
  · split
    · rename_i h
      rw [le_length]
      have h8 : isSz o.b = true := by simp [numOk] at h; exact h.1.1
      have := isSz_cases h8
      omega
    · simp
  · split
    · rw [List.length_map]; omega
    · split
      · rw [← Lib.size_eq]; omega
      · rw [List.length_append, le_length, ← Lib.size_eq]; omega
theorem encs_room : ∀ l : List OpD, (encs l).length ≤ room l
  | [] => by simp [encs, room]
  | o :: l => by
    have h1 := encs_room l
    have h2 := enc_room o
    unfold encs room at *
    simp only [List.flatMap_cons, List.length_append, List.map_cons, List.sum_cons]
    omega

theorem unle_le (n : Nat) : ∀ k, unle (le n k) = n % 256 ^ k
  | 0 => by simp [le, unle, Nat.mod_one]
  | k + 1 => by
    rw [le_succ, unle_snoc, unle_le n k, le_length, byteOf_toNat, Nat.pow_succ, Nat.mod_mul, Nat.mul_comm]
theorem s8_b8 (z : Int) (h1 : -128 ≤ z) (h2 : z ≤ 127) : s8 (b8 z) = z := by
  have e := b8_wrap z
  rw [IntKind.wrap_u8] at e
  unfold s8
  rw [wrap_i8, ← e]
  omega
theorem map_s8_b8 : ∀ zs : List Int, (∀ z ∈ zs, -128 ≤ z ∧ z ≤ 127) → (zs.map b8).map s8 = zs
  | [], _ => rfl
  | z :: zs, h => by
    have hz := h z (by simp)
    simp only [List.map_cons]
    rw [s8_b8 z hz.1 hz.2, map_s8_b8 zs (fun y hy => h y (by simp [hy]))]

/-- A part of a text. -/
theorem sub_mid (t : ByteArray) (a x r : List UInt8) (h : t.data.toList = a ++ (x ++ r)) : sub t a.length x.length = x := by
  unfold sub
  rw [h, List.drop_left, List.take_left]

theorem num_back (t : ByteArray) (a r : List UInt8) (n b : Int) (hok : numOk n b = true) (hx : n ≤ 9223372036854775807) (h : t.data.toList = a ++ (le n.toNat b.toNat ++ r)) : numR t a.length b = (n, 0, a.length + b.toNat) := by
  simp only [numOk, Bool.and_eq_true, decide_eq_true_eq] at hok
  obtain ⟨⟨hz, h0⟩, h1⟩ := hok
  have hc := isSz_cases hz
  have hsub := sub_mid t a _ r h
  rw [le_length] at hsub
  have hl : t.size = a.length + (b.toNat + r.length) := by rw [Lib.size_eq, h, List.length_append, List.length_append, le_length]
  have hu : unle (sub t a.length b.toNat) = n.toNat := by
    rw [hsub, unle_le]
    apply Nat.mod_eq_of_lt
    have e : ((256 ^ b.toNat : Nat) : Int) = 256 ^ b.toNat := by simp
    omega
  unfold numR
  rw [if_neg (by simp [hz]), if_neg (by omega), hu, if_neg (by omega)]
  rw [show ((n.toNat : Nat) : Int) = n from by omega]

theorem raw_back (t : ByteArray) (a x r : List UInt8) (n : Int) (hn : n = x.length) (h : t.data.toList = a ++ (x ++ r)) : rawR t a.length n = (x, 0, a.length + x.length) := by
  subst hn
  have hsub := sub_mid t a x r h
  have hl : t.size = a.length + (x.length + r.length) := by rw [Lib.size_eq, h, List.length_append, List.length_append]
  unfold rawR
  rw [if_neg (by omega), if_neg (by omega), Int.toNat_natCast, hsub]

theorem text_back (t : ByteArray) (a r : List UInt8) (s : ByteArray) (hs : s.size < 4294967296) (h : t.data.toList = a ++ ((le s.size 4 ++ s.data.toList) ++ r)) : textR t a.length s.size = (s.data.toList, 0, a.length + (4 + s.size)) := by
  have hsub := sub_mid t a (le s.size 4) (s.data.toList ++ r) (by rw [h, List.append_assoc])
  rw [le_length] at hsub
  have hsub2 := sub_mid t (a ++ le s.size 4) s.data.toList r (by rw [h, List.append_assoc, List.append_assoc])
  rw [List.length_append, le_length, ← Lib.size_eq] at hsub2
  have hl : t.size = a.length + ((4 + s.size) + r.length) := by rw [Lib.size_eq, h, List.length_append, List.length_append, List.length_append, le_length, ← Lib.size_eq]
  have hu : unle (sub t a.length 4) = s.size := by rw [hsub, unle_le]; exact Nat.mod_eq_of_lt (by omega)
  unfold textR
  rw [if_neg (by omega), if_neg (by omega), hu, if_neg (by omega), if_neg (by omega), hsub2]
  simp only [Nat.add_assoc]

theorem Tryd.infoBo : (Tryd.prog.info? 4).map (fun i => (i.zero, i.size, i.bytes)) = some (some (.bool false), 1, 1) := by kernel_rfl

/-- Rows of unlike elements lie apart. -/
theorem rows_apart {w : World} {B1 B2 n1 n2 s1 s2 : Nat} {t1 t2 : TypeId} {v1 v2 : Value} {x1 x2 : List Value} (h1 : w.ownsRow B1 t1 s1 v1 n1 x1) (h2 : w.ownsRow B2 t2 s2 v2 n2 x2) (ht : t1 ≠ t2) : ∀ g, v1.ownBlock = some g → v2.ownBlock ≠ some g := fun g e1 e2 => by
  rcases h1.2 with ⟨rfl, _⟩ | ⟨g1, c1, u1, rfl, _, hg1, _⟩
  · simp [Value.ownBlock] at e1
  · rcases h2.2 with ⟨rfl, _⟩ | ⟨g2, c2, u2, rfl, _, hg2, _⟩
    · simp [Value.ownBlock] at e2
    · simp only [Value.ownBlock, Option.some.injEq] at e1 e2
      subst e1
      subst e2
      rw [hg1] at hg2
      simp at hg2
      exact ht hg2.2
theorem row_writer {w : World} {b B n s : Nat} {u v : Value} {bs : List UInt8} {t : TypeId} {xs : List Value} (hw : WrAt w b u bs) (h : w.ownsRow B t s v n xs) (ht : t ≠ 68) : v.ownBlock ≠ some b := fun e => by
  rcases h.2 with ⟨rfl, _⟩ | ⟨g, c, cur, rfl, _, hg, _⟩
  · simp [Value.ownBlock] at e
  · simp only [Value.ownBlock, Option.some.injEq] at e
    subst e
    rw [hw.1] at hg
    simp at hg
    exact ht hg.2.symm

theorem encs_mid (l : List OpD) (j : Nat) (h : j < l.length) : encs l = encs (l.take j) ++ (enc l[j] ++ encs (l.drop (j + 1))) := by
  unfold encs
  conv => lhs; rw [← List.take_append_drop j l, List.flatMap_append, List.drop_eq_getElem_cons h, List.flatMap_cons]

/-- What holds between two rounds of writing. -/
def RelW (l : List OpD) (w : World) (v c : Value) (wr : World) : Prop :=
  ∃ j : Nat, j ≤ l.length ∧ c = .int .i64 j ∧ ∃ bs u, bs = encs (l.take j) ∧ ∃ fl, fl = (l.take j).map flag ∧ fl.length = j ∧ WrAt wr w.heap.size u bs ∧ (∀ g, u.ownBlock = some g → w.heap.size ≤ g) ∧ wr.ownsRow w.heap.size 4 1 v j (fl.map Value.bool) ∧ Fresh w wr

theorem ownBo_empty (w w0 : World) (h : w0.heap.size ≤ w.heap.size) : (w.alloc (.cells #[] 4)).ownsRow w0.heap.size 4 1 (.slice (some ⟨w.heap.size, 0, none⟩) 0 0) 0 [] :=
  ⟨rfl, .inr ⟨w.heap.size, 0, #[], rfl, h, heap_alloc_new w _, Nat.le_refl _, Nat.zero_le _, rfl, rfl⟩⟩

theorem fresh_wset {w W W' : World} {u : Value} (h : Fresh w W) (hk : Kept (wset w.heap.size u) W W') (hub : ∀ g, u.ownBlock = some g → w.heap.size ≤ g) : Fresh w W' :=
  h.trans hk (fun i hi e => by
    rcases e with e | e
    · omega
    · have := hub i e; omega)
theorem moved_ub {B : Nat} {W : World} {u u' : Value} (hub : ∀ g, u.ownBlock = some g → B ≤ g) (hm : RowMoved W u u') (hB : B ≤ W.heap.size) : ∀ g, u'.ownBlock = some g → B ≤ g := fun g hg => by
  rcases hm with e | ⟨g', e, h'⟩
  · exact hub g (e ▸ hg)
  · rw [e] at hg; simp at hg; omega

set_option maxHeartbeats 2000000 in
set_option maxRecDepth 100000 in
theorem walk (v : Value) (l : List OpD) (bh : ByteArray) (w : World) (hz : Siz w) (hs : ScriptIs w.heap.size w v l) (hroom : room l ≤ 100000000) (hbh : bh.size ≤ 100000000) :
    Calls Tryd.prog 7 #[v, .string bh] w fun e w' => e = .returned (.bool true) ∧ Fresh w w' := by
  obtain ⟨ao, cap, rfl, hlen, hcell, hfits⟩ := hs
  obtain ⟨i0, hi, hz0, hz1, hz2⟩ := info_parts Tryd.infoBo
  go_enter Tryd.func7, Tryd.ntmps7
  go_wp2_with fail
  refine (newWriter_any _).mono ?_
  rintro e w1 ⟨rfl, hw1, hk1⟩
  have hs1 : Siz w1 := hz.kept hk1 (fun e => e)
  go_wp2_with fail
  refine (awake_any _ hs1).mono ?_
  rintro e w2 ⟨rfl, hk2⟩
  have hw2 : WrAt w2 w.heap.size (.slice none 0 0) [] := hw1.kept hk2 (fun e => e) (fun _ _ e => e)
  have hf2 : Fresh w w2 := hk1.trans hk2 (fun _ _ e => e)
  go_wp2
  go_loopw [6, 7] (fun v c wr => RelW l w v c wr) (fun _ c _ => l.length - (intOf c).toNat)
  case atStart => exact ⟨0, Nat.zero_le _, rfl, [], _, rfl, [], rfl, rfl, hw2.kept ((Kept.refl (fun _ => False) w2).alloc _) (fun e => e) (fun _ _ e => e), by simp [Value.ownBlock], ownBo_empty w2 w hf2.size, hf2.alloc _⟩
  case round =>
    obtain ⟨j, hj, rfl, bs, u, hbs, fl, hfle, hflen, hwr, hub, hown, hfr⟩ := hrel
    by_cases hlt : j < l.length
    · obtain ⟨ob, off, rfl, hob, hob2, hcl⟩ := hcell (fun e => by rw [e] at hlt; simp at hlt)
      have hfit := hfits l[j] (List.getElem_mem hlt)
      obtain ⟨c0, c1, c2, c3, c4⟩ := hcl j hlt
      have hbl : bs.length ≤ 100000000 := by
        have h1 := encs_room (l.take j)
        have h2 := room_take_le l j
        rw [← hbs] at h1
        omega
      have hbsn := encs_succ l j hlt
      rw [← hbs] at hbsn
      have hfln := flags_succ l j hlt
      rw [← hfle] at hfln
      obtain ⟨bs', hb'⟩ : ∃ x, x = bs ++ enc l[j] := ⟨_, rfl⟩
      obtain ⟨fl', hf'⟩ : ∃ x, x = fl ++ [flag l[j]] := ⟨_, rfl⟩
      have HB : Hid (bs' = encs (l.take (j + 1))) := hb'.trans hbsn.symm
      have HFL : Hid (fl' = (l.take (j + 1)).map flag) := hf'.trans hfln.symm
      have HBE : Hid (bs' = bs ++ enc l[j]) := hb'
      have HF : Hid (fl' = fl ++ [flag l[j]]) := hf'
      have hrm := enc_room l[j]
      have hrl : l[j].room ≤ room l := by
        have := room_take_succ l j hlt
        have := room_take_le l (j + 1)
        omega
      clear hbs hfle hbsn hfln hb' hf'
      generalize l[j] = o at *
      obtain ⟨ok, on, obt, rv, zs, s⟩ := o
      obtain ⟨hn, hbt, hrow, hss⟩ := hfit
      have hrow' := hrow
      obtain ⟨rao, rcap, hrv, hzl, _⟩ := hrow'
      simp only at hrv hzl hn hbt hrow hss c0 c1 c2 c3 c4
      subst hrv
      have e : ∀ i, wr.cell? ⟨ob, i, none⟩ = w.cell? ⟨ob, i, none⟩ := fun i => hfr.cell (p := ⟨ob, i, none⟩) hob2 (fun e => e)
      rw [← e] at c0 c1 c2 c3 c4
      clear e hcl hcell hfits
      have hzr : Siz wr := hz.kept hfr (fun e => e)
      have hog := heap_alloc_new wr (.cells #[.int .i64 ok, .int .i64 on, .int .i64 obt, .slice rao zs.length rcap, .string s] 33)
      have hf0 : Fresh wr (wr.alloc (.cells #[.int .i64 ok, .int .i64 on, .int .i64 obt, .slice rao zs.length rcap, .string s] 33)) := (Kept.refl _ _).alloc _
      have hz0' : Siz (wr.alloc (.cells #[.int .i64 ok, .int .i64 on, .int .i64 obt, .slice rao zs.length rcap, .string s] 33)) := hzr.kept hf0 (fun e => e)
      have hw0 : WrAt (wr.alloc (.cells #[.int .i64 ok, .int .i64 on, .int .i64 obt, .slice rao zs.length rcap, .string s] 33)) w.heap.size u bs := hwr.kept hf0 (fun e => e) (fun _ _ e => e)
      have hrow0 : RowIs (fun k => k < w.heap.size) (wr.alloc (.cells #[.int .i64 ok, .int .i64 on, .int .i64 obt, .slice rao zs.length rcap, .string s] 33)) (.slice rao zs.length rcap) zs := (hrow.kept hfr (fun _ _ e => e)).kept hf0 (fun _ _ e => e)
      have hown0 : (wr.alloc (.cells #[.int .i64 ok, .int .i64 on, .int .i64 obt, .slice rao zs.length rcap, .string s] 33)).ownsRow w.heap.size 4 1 u6 j (fl.map Value.bool) := owns_kept hown hf0 (fun _ _ e => e)
      have hbog : w.heap.size ≤ wr.heap.size := hfr.size
      have hogw : w.heap.size ≠ wr.heap.size := by have := lt_of_heap hwr.1; omega
      have hogu : ∀ g, u.ownBlock = some g → g ≠ wr.heap.size := fun g hg => by have := owns_lt hwr.2 hg; omega
      have hap6 := row_writer hwr hown (by decide)
      have hap6u := rows_apart hown hwr.2 (by decide)
      have hk6 : ∀ g, u6.ownBlock = some g → ¬ wset w.heap.size u g := fun g hg e => by
        rcases e with e | e
        · exact hap6 (e ▸ hg)
        · exact hap6u g hg e
      have hBW : w.heap.size ≤ (wr.alloc (.cells #[.int .i64 ok, .int .i64 on, .int .i64 obt, .slice rao zs.length rcap, .string s] 33)).heap.size := Nat.le_trans hbog hf0.size
      have hfw := hfr.trans hf0 (fun _ _ e => e)
      have hrr : 16 + zs.length + s.size ≤ 100000000 := by simp only [OpD.room] at hrl; omega
      clear hwr hown hrow hrm hrl
      go_wp2_with fail
      refine (kind_any _ _).mono ?_
      rintro e w3 ⟨rfl, rfl⟩
      obtain ⟨g0, g1, g2, g3, g4⟩ := cells5 hog
      rcases kd_cases ok with hkd | hkd | hkd | hkd
      · rw [hkd]
        by_cases hok : numOk on obt = true
        · have hok' := hok
          simp only [numOk, Bool.and_eq_true, decide_eq_true_eq] at hok'
          obtain ⟨⟨hz8, hn0⟩, hn1⟩ := hok'
          have hob8 : obt.toNat ≤ 8 := by have := isSz_cases hz8; omega
          go_wp2_with fail
          refine (wnumber_ok _ u bs on obt _ hz0' hw0 (by omega) hz8 hn0 hn.2 hn1).mono ?_
          rintro e w5 ⟨rfl, u5, hw5, hk5, hm5⟩
          have hown5 := owns_kept hown0 hk5 hk6
          have hf5 := fresh_wset hfw hk5 hub
          have hfl : fl ++ [true] = fl' := by rw [HF.out]; simp [flag, hkd, hok]
          have hbx : bs ++ le on.toNat obt.toNat = bs' := by rw [HBE.out]; simp [enc, hkd, hok]
          have hwb := hw5
          rw [hbx] at hwb
          have hapX := row_writer hwb hown5 (by decide)
          have hXs := hf5.size
          go_wp2_with (at_builtin; refine wpList_append_lies _ rfl _ _ _ rfl w.heap.size 4 i0 _ 1 1 Tryd.underlying56 hi hz0 hz1 hz2 rfl (by omega) _ _ _ rfl (hown5.alloc _) ⟨w5.heap.size, 0, none⟩ 1 1 [.bool true] rfl rfl (World.news_of_block (cs := #[.bool true]) (t := 4) (fr := (0, 0)) (heap_alloc_new w5 _)) (by simp [Value.oneCell']) (by omega) (by unfold maxLen; omega) (by omega) (by simp; omega) (w5.heap.size + 1) (by simp) ?_; intro g cap w9 hown9 hgrow9 hat9 hlt9)
          have r1 : w9.ownsRow w.heap.size 4 1 (.slice (some ⟨g, 0, none⟩) (j + 1) cap) (j + 1) (fl'.map Value.bool) := by
            rw [← hfl, List.map_append]
            exact hown9
          have k9 : Kept (fun k => u6.ownBlock = some k) w5 w9 := ((Kept.refl (fun k => u6.ownBlock = some k) w5).alloc _).grown hgrow9 (fun k _ e => e)
          have r2 := hwb.kept k9 hapX (fun g hg e => rows_apart hwb.2 hown5 (by decide) g hg e)
          have r3 : Fresh w w9 := hf5.trans k9 (fun k hk e => by
            rcases hown5.2 with ⟨e6, _⟩ | ⟨g', c', cur, e6, hb, _⟩ <;> rw [e6] at e
            · simp [Value.ownBlock] at e
            · simp [Value.ownBlock] at e; omega)
          have r4 : fl'.length = j + 1 := by rw [← hfl, List.length_append, hflen]; rfl
          clear hown9 hgrow9 hat9 hlt9 k9 hfl hbx hwb
          go_wp2
          go_roundw
          case rel => exact ⟨j + 1, by omega, by go_num, bs', _, HB.out, fl', HFL.out, r4, r2, moved_ub hub hm5 hBW, r1, r3⟩
          case measure => simp [intOf]; omega
        · have hok0 : numOk on obt = false := by simpa using hok
          by_cases hz8 : isSz obt = true
          · have hnr : on < 0 ∨ 256 ^ obt.toNat ≤ on := by
              simp only [numOk, Bool.and_eq_true, decide_eq_true_eq] at hok
              by_cases h0 : on < 0
              · exact .inl h0
              · by_cases h1 : 256 ^ obt.toNat ≤ on
                · exact .inr h1
                · exact absurd ⟨⟨hz8, by omega⟩, Int.not_le.1 h1⟩ hok
            go_wp2_with fail
            refine (wnumber_wide _ on obt _ hz0' hz8 hnr).mono ?_
            rintro e w5 ⟨rfl, hw5e⟩
            have hw5 : WrAt w5 w.heap.size u bs := by rw [hw5e]; exact hw0
            have hown5 : w5.ownsRow w.heap.size 4 1 u6 j (fl.map Value.bool) := by rw [hw5e]; exact hown0
            have hf5 : Fresh w w5 := by rw [hw5e]; exact hfw
            clear hw5e
            have hfl : fl ++ [false] = fl' := by rw [HF.out]; simp [flag, hkd, hok0]
            have hbx : bs = bs' := by rw [HBE.out]; simp [enc, hkd, hok0]
            have hwb := hw5
            rw [hbx] at hwb
            have hapX := row_writer hwb hown5 (by decide)
            have hXs := hf5.size
            go_wp2_with (at_builtin; refine wpList_append_lies _ rfl _ _ _ rfl w.heap.size 4 i0 _ 1 1 Tryd.underlying56 hi hz0 hz1 hz2 rfl (by omega) _ _ _ rfl (hown5.alloc _) ⟨w5.heap.size, 0, none⟩ 1 1 [.bool false] rfl rfl (World.news_of_block (cs := #[.bool false]) (t := 4) (fr := (0, 0)) (heap_alloc_new w5 _)) (by simp [Value.oneCell']) (by omega) (by unfold maxLen; omega) (by omega) (by simp; omega) (w5.heap.size + 1) (by simp) ?_; intro g cap w9 hown9 hgrow9 hat9 hlt9)
            have r1 : w9.ownsRow w.heap.size 4 1 (.slice (some ⟨g, 0, none⟩) (j + 1) cap) (j + 1) (fl'.map Value.bool) := by
              rw [← hfl, List.map_append]
              exact hown9
            have k9 : Kept (fun k => u6.ownBlock = some k) w5 w9 := ((Kept.refl (fun k => u6.ownBlock = some k) w5).alloc _).grown hgrow9 (fun k _ e => e)
            have r2 := hwb.kept k9 hapX (fun g hg e => rows_apart hwb.2 hown5 (by decide) g hg e)
            have r3 : Fresh w w9 := hf5.trans k9 (fun k hk e => by
              rcases hown5.2 with ⟨e6, _⟩ | ⟨g', c', cur, e6, hb, _⟩ <;> rw [e6] at e
              · simp [Value.ownBlock] at e
              · simp [Value.ownBlock] at e; omega)
            have r4 : fl'.length = j + 1 := by rw [← hfl, List.length_append, hflen]; rfl
            clear hown9 hgrow9 hat9 hlt9 k9 hfl hbx hwb
            go_wp2
            go_roundw
            case rel => exact ⟨j + 1, by omega, by go_num, bs', _, HB.out, fl', HFL.out, r4, r2, hub, r1, r3⟩
            case measure => simp [intOf]; omega
          · have hz8' : isSz obt = false := by simpa using hz8
            go_wp2_with fail
            refine (wnumber_arg _ on obt _ hz0' hz8').mono ?_
            rintro e w5 ⟨rfl, hw5e⟩
            have hw5 : WrAt w5 w.heap.size u bs := by rw [hw5e]; exact hw0
            have hown5 : w5.ownsRow w.heap.size 4 1 u6 j (fl.map Value.bool) := by rw [hw5e]; exact hown0
            have hf5 : Fresh w w5 := by rw [hw5e]; exact hfw
            clear hw5e
            have hfl : fl ++ [false] = fl' := by rw [HF.out]; simp [flag, hkd, hok0]
            have hbx : bs = bs' := by rw [HBE.out]; simp [enc, hkd, hok0]
            have hwb := hw5
            rw [hbx] at hwb
            have hapX := row_writer hwb hown5 (by decide)
            have hXs := hf5.size
            go_wp2_with (at_builtin; refine wpList_append_lies _ rfl _ _ _ rfl w.heap.size 4 i0 _ 1 1 Tryd.underlying56 hi hz0 hz1 hz2 rfl (by omega) _ _ _ rfl (hown5.alloc _) ⟨w5.heap.size, 0, none⟩ 1 1 [.bool false] rfl rfl (World.news_of_block (cs := #[.bool false]) (t := 4) (fr := (0, 0)) (heap_alloc_new w5 _)) (by simp [Value.oneCell']) (by omega) (by unfold maxLen; omega) (by omega) (by simp; omega) (w5.heap.size + 1) (by simp) ?_; intro g cap w9 hown9 hgrow9 hat9 hlt9)
            have r1 : w9.ownsRow w.heap.size 4 1 (.slice (some ⟨g, 0, none⟩) (j + 1) cap) (j + 1) (fl'.map Value.bool) := by
              rw [← hfl, List.map_append]
              exact hown9
            have k9 : Kept (fun k => u6.ownBlock = some k) w5 w9 := ((Kept.refl (fun k => u6.ownBlock = some k) w5).alloc _).grown hgrow9 (fun k _ e => e)
            have r2 := hwb.kept k9 hapX (fun g hg e => rows_apart hwb.2 hown5 (by decide) g hg e)
            have r3 : Fresh w w9 := hf5.trans k9 (fun k hk e => by
              rcases hown5.2 with ⟨e6, _⟩ | ⟨g', c', cur, e6, hb, _⟩ <;> rw [e6] at e
              · simp [Value.ownBlock] at e
              · simp [Value.ownBlock] at e; omega)
            have r4 : fl'.length = j + 1 := by rw [← hfl, List.length_append, hflen]; rfl
            clear hown9 hgrow9 hat9 hlt9 k9 hfl hbx hwb
            go_wp2
            go_roundw
            case rel => exact ⟨j + 1, by omega, by go_num, bs', _, HB.out, fl', HFL.out, r4, r2, hub, r1, r3⟩
            case measure => simp [intOf]; omega
      · rw [hkd]
        go_wp2_with fail
        refine (wrow_any _ u bs _ zs _ _ hw0 hrow0 (fun k hk e => by rcases e with e | e; omega; have := hub k e; omega) (by omega)).mono ?_
        rintro e w5 ⟨rfl, u5, hw5, hk5, hm5⟩
        have hown5 := owns_kept hown0 hk5 hk6
        have hf5 := fresh_wset hfw hk5 hub
        have hfl : fl ++ [true] = fl' := by rw [HF.out]; simp [flag, hkd]
        have hbx : bs ++ zs.map b8 = bs' := by rw [HBE.out]; simp [enc, hkd]
        have hwb := hw5
        rw [hbx] at hwb
        have hapX := row_writer hwb hown5 (by decide)
        have hXs := hf5.size
        go_wp2_with (at_builtin; refine wpList_append_lies _ rfl _ _ _ rfl w.heap.size 4 i0 _ 1 1 Tryd.underlying56 hi hz0 hz1 hz2 rfl (by omega) _ _ _ rfl (hown5.alloc _) ⟨w5.heap.size, 0, none⟩ 1 1 [.bool true] rfl rfl (World.news_of_block (cs := #[.bool true]) (t := 4) (fr := (0, 0)) (heap_alloc_new w5 _)) (by simp [Value.oneCell']) (by omega) (by unfold maxLen; omega) (by omega) (by simp; omega) (w5.heap.size + 1) (by simp) ?_; intro g cap w9 hown9 hgrow9 hat9 hlt9)
        have r1 : w9.ownsRow w.heap.size 4 1 (.slice (some ⟨g, 0, none⟩) (j + 1) cap) (j + 1) (fl'.map Value.bool) := by
          rw [← hfl, List.map_append]
          exact hown9
        have k9 : Kept (fun k => u6.ownBlock = some k) w5 w9 := ((Kept.refl (fun k => u6.ownBlock = some k) w5).alloc _).grown hgrow9 (fun k _ e => e)
        have r2 := hwb.kept k9 hapX (fun g hg e => rows_apart hwb.2 hown5 (by decide) g hg e)
        have r3 : Fresh w w9 := hf5.trans k9 (fun k hk e => by
          rcases hown5.2 with ⟨e6, _⟩ | ⟨g', c', cur, e6, hb, _⟩ <;> rw [e6] at e
          · simp [Value.ownBlock] at e
          · simp [Value.ownBlock] at e; omega)
        have r4 : fl'.length = j + 1 := by rw [← hfl, List.length_append, hflen]; rfl
        clear hown9 hgrow9 hat9 hlt9 k9 hfl hbx hwb
        go_wp2
        go_roundw
        case rel => exact ⟨j + 1, by omega, by go_num, bs', _, HB.out, fl', HFL.out, r4, r2, moved_ub hub hm5 hBW, r1, r3⟩
        case measure => simp [intOf]; omega
      · rw [hkd]
        go_wp2_with fail
        refine (wraw_any _ u bs s _ hw0 (by omega)).mono ?_
        rintro e w5 ⟨rfl, u5, hw5, hk5, hm5⟩
        have hown5 := owns_kept hown0 hk5 hk6
        have hf5 := fresh_wset hfw hk5 hub
        have hfl : fl ++ [true] = fl' := by rw [HF.out]; simp [flag, hkd]
        have hbx : bs ++ s.data.toList = bs' := by rw [HBE.out]; simp [enc, hkd]
        have hwb := hw5
        rw [hbx] at hwb
        have hapX := row_writer hwb hown5 (by decide)
        have hXs := hf5.size
        go_wp2_with (at_builtin; refine wpList_append_lies _ rfl _ _ _ rfl w.heap.size 4 i0 _ 1 1 Tryd.underlying56 hi hz0 hz1 hz2 rfl (by omega) _ _ _ rfl (hown5.alloc _) ⟨w5.heap.size, 0, none⟩ 1 1 [.bool true] rfl rfl (World.news_of_block (cs := #[.bool true]) (t := 4) (fr := (0, 0)) (heap_alloc_new w5 _)) (by simp [Value.oneCell']) (by omega) (by unfold maxLen; omega) (by omega) (by simp; omega) (w5.heap.size + 1) (by simp) ?_; intro g cap w9 hown9 hgrow9 hat9 hlt9)
        have r1 : w9.ownsRow w.heap.size 4 1 (.slice (some ⟨g, 0, none⟩) (j + 1) cap) (j + 1) (fl'.map Value.bool) := by
          rw [← hfl, List.map_append]
          exact hown9
        have k9 : Kept (fun k => u6.ownBlock = some k) w5 w9 := ((Kept.refl (fun k => u6.ownBlock = some k) w5).alloc _).grown hgrow9 (fun k _ e => e)
        have r2 := hwb.kept k9 hapX (fun g hg e => rows_apart hwb.2 hown5 (by decide) g hg e)
        have r3 : Fresh w w9 := hf5.trans k9 (fun k hk e => by
          rcases hown5.2 with ⟨e6, _⟩ | ⟨g', c', cur, e6, hb, _⟩ <;> rw [e6] at e
          · simp [Value.ownBlock] at e
          · simp [Value.ownBlock] at e; omega)
        have r4 : fl'.length = j + 1 := by rw [← hfl, List.length_append, hflen]; rfl
        clear hown9 hgrow9 hat9 hlt9 k9 hfl hbx hwb
        go_wp2
        go_roundw
        case rel => exact ⟨j + 1, by omega, by go_num, bs', _, HB.out, fl', HFL.out, r4, r2, moved_ub hub hm5 hBW, r1, r3⟩
        case measure => simp [intOf]; omega
      · rw [hkd]
        go_wp2_with fail
        refine (wtext_ok _ u bs s _ hw0 (by omega) (by omega)).mono ?_
        rintro e w5 ⟨rfl, u5, hw5, hk5, hm5⟩
        have hown5 := owns_kept hown0 hk5 hk6
        have hf5 := fresh_wset hfw hk5 hub
        have hfl : fl ++ [true] = fl' := by rw [HF.out]; simp [flag, hkd]
        have hbx : bs ++ (le s.size 4 ++ s.data.toList) = bs' := by rw [HBE.out]; simp [enc, hkd]
        have hwb := hw5
        rw [hbx] at hwb
        have hapX := row_writer hwb hown5 (by decide)
        have hXs := hf5.size
        go_wp2_with (at_builtin; refine wpList_append_lies _ rfl _ _ _ rfl w.heap.size 4 i0 _ 1 1 Tryd.underlying56 hi hz0 hz1 hz2 rfl (by omega) _ _ _ rfl (hown5.alloc _) ⟨w5.heap.size, 0, none⟩ 1 1 [.bool true] rfl rfl (World.news_of_block (cs := #[.bool true]) (t := 4) (fr := (0, 0)) (heap_alloc_new w5 _)) (by simp [Value.oneCell']) (by omega) (by unfold maxLen; omega) (by omega) (by simp; omega) (w5.heap.size + 1) (by simp) ?_; intro g cap w9 hown9 hgrow9 hat9 hlt9)
        have r1 : w9.ownsRow w.heap.size 4 1 (.slice (some ⟨g, 0, none⟩) (j + 1) cap) (j + 1) (fl'.map Value.bool) := by
          rw [← hfl, List.map_append]
          exact hown9
        have k9 : Kept (fun k => u6.ownBlock = some k) w5 w9 := ((Kept.refl (fun k => u6.ownBlock = some k) w5).alloc _).grown hgrow9 (fun k _ e => e)
        have r2 := hwb.kept k9 hapX (fun g hg e => rows_apart hwb.2 hown5 (by decide) g hg e)
        have r3 : Fresh w w9 := hf5.trans k9 (fun k hk e => by
          rcases hown5.2 with ⟨e6, _⟩ | ⟨g', c', cur, e6, hb, _⟩ <;> rw [e6] at e
          · simp [Value.ownBlock] at e
          · simp [Value.ownBlock] at e; omega)
        have r4 : fl'.length = j + 1 := by rw [← hfl, List.length_append, hflen]; rfl
        clear hown9 hgrow9 hat9 hlt9 k9 hfl hbx hwb
        go_wp2
        go_roundw
        case rel => exact ⟨j + 1, by omega, by go_num, bs', _, HB.out, fl', HFL.out, r4, r2, moved_ub hub hm5 hBW, r1, r3⟩
        case measure => simp [intOf]; omega
    · obtain rfl : j = l.length := by omega
      rw [List.take_length] at hbs hfle
      have hbl : bs.length ≤ 100000000 := by
        have h1 := encs_room l
        rw [← hbs] at h1
        omega
      go_wp2_with fail
      refine (wbytes_any _ _ _ _ hwr).mono ?_
      rintro e w3 ⟨rfl, rfl⟩
      obtain ⟨tx, htx⟩ : ∃ tx : ByteArray, tx = ⟨(bs ++ bh.data.toList).toArray⟩ := ⟨_, rfl⟩
      have hadd : (⟨bs.toArray⟩ : ByteArray) ++ bh = tx := by
        rw [htx]; apply ByteArray.ext; simp
      have htl : tx.data.toList = bs ++ bh.data.toList := by rw [htx]
      have hts : tx.size = bs.length + bh.size := by rw [Lib.size_eq, htl, List.length_append, ← Lib.size_eq]
      have hsz1 : (⟨bs.toArray⟩ : ByteArray).size = bs.length := by simp [ByteArray.size]
      have HTL : Hid (tx.data.toList = encs l ++ bh.data.toList) := by show _ = _; rw [htl, hbs]
      have hts1 : tx.size ≤ 200000000 := by omega
      have HTS : Hid (tx.size = (encs l).length + bh.size) := by show _ = _; rw [hts, hbs]
      clear htx htl hts hbs
      go_wp2_with fail
      refine (newReader_any tx _ (by omega)).mono ?_
      rintro e w4 ⟨rb, rfl, hrb, hr4, hk4⟩
      have hf4 : Fresh w w4 := hfr.trans hk4 (fun _ _ e => e)
      have hown4 := owns_kept hown hk4 (fun _ _ e => e)
      have hrbW : w.heap.size ≤ rb := Nat.le_trans hfr.size hrb
      have hrbn : u6.ownBlock ≠ some rb := fun e => by have := owns_lt hown e; omega
      obtain ⟨u6a, u6c, hu6⟩ := ownsRow_shape hown
      clear hwr hown hfr hw2 hf2 hk4 hadd hsz1
      go_wp2
      go_loopw [11] (fun c wr => ∃ j : Nat, j ≤ l.length ∧ c = .int .i64 j ∧ RdAt wr rb tx (encs (l.take j)).length ∧ Kept (only rb) w4 wr) (fun c _ => l.length - (intOf c).toNat)
      case atStart => exact ⟨0, Nat.zero_le _, rfl, hr4, Kept.refl _ _⟩
      case round =>
        obtain ⟨j, hj, rfl, hr, hk⟩ := hrel
        have hfr : Fresh w wr := hf4.trans hk (fun k hk e => by have e' : k = rb := e; omega)
        by_cases hlt : j < l.length
        · obtain ⟨ob, off, rfl, hob, hob2, hcl⟩ := hcell (fun e => by rw [e] at hlt; simp at hlt)
          have hfit := hfits l[j] (List.getElem_mem hlt)
          obtain ⟨c0, c1, c2, c3, c4⟩ := hcl j hlt
          obtain ⟨g6, cp6, cur6, hu6', hg6⟩ : ∃ g cp cur, u6 = .slice (some ⟨g, 0, none⟩) l.length cp ∧ w4.heap[g]? = some (.cells cur 4 (0, 0)) := by
            rcases hown4.2 with ⟨_, h0⟩ | ⟨g, cp, cur, h1, _, h2, _⟩
            · omega
            · exact ⟨g, cp, cur, h1, h2⟩
          subst hu6'
          have hc6 : wr.cell? ⟨g6, j, none⟩ = some (.bool (flag l[j])) := by
            rw [hk.cell (p := ⟨g6, j, none⟩) (lt_of_heap hg6) (fun e => hrbn (by have e' : g6 = rb := e; rw [← e']; rfl)), hown4.cellAt j (by omega), hfle, List.getElem?_map, List.getElem?_map, List.getElem?_eq_getElem hlt]
            rfl
          have hmid := encs_mid l j hlt
          have HTX : Hid (tx.data.toList = encs (l.take j) ++ (enc l[j] ++ (encs (l.drop (j + 1)) ++ bh.data.toList))) := by
            show _ = _; rw [HTL.out, hmid, List.append_assoc, List.append_assoc]
          have HL1 : Hid ((encs (l.take (j + 1))).length = (encs (l.take j)).length + (enc l[j]).length) := by
            show _ = _; rw [encs_succ l j hlt, List.length_append]
          have hal : (encs (l.take j)).length ≤ tx.size := hr.2.1
          clear hmid
          generalize encs (l.take j) = a at *
          generalize encs (l.drop (j + 1)) ++ bh.data.toList = rest at *
          generalize l[j] = o at *
          obtain ⟨ok, on, obt, rv, zs, s⟩ := o
          obtain ⟨hn, hbt, hrow, hss⟩ := hfit
          have hrow' := hrow
          obtain ⟨rao, rcap, hrv, hzl, _, hzr0, _⟩ := hrow'
          simp only at hrv hzl hn hbt hrow hss c0 c1 c2 c3 c4
          subst hrv
          have e : ∀ i, wr.cell? ⟨ob, i, none⟩ = w.cell? ⟨ob, i, none⟩ := fun i => hfr.cell (p := ⟨ob, i, none⟩) hob2 (fun e => e)
          rw [← e] at c0 c1 c2 c3 c4
          clear e hcl hcell hfits HTL
          have hf0 : Fresh wr (wr.alloc (.cells #[.int .i64 ok, .int .i64 on, .int .i64 obt, .slice rao zs.length rcap, .string s] 33)) := (Kept.refl _ _).alloc _
          have hog := heap_alloc_new wr (.cells #[.int .i64 ok, .int .i64 on, .int .i64 obt, .slice rao zs.length rcap, .string s] 33)
          have hr0 := hr.kept hf0 (fun e => e)
          have hz0' : Siz (wr.alloc (.cells #[.int .i64 ok, .int .i64 on, .int .i64 obt, .slice rao zs.length rcap, .string s] 33)) := (hz.kept hfr (fun e => e)).kept hf0 (fun e => e)
          have hrow0 : RowIs (fun k => k < w.heap.size) (wr.alloc (.cells #[.int .i64 ok, .int .i64 on, .int .i64 obt, .slice rao zs.length rcap, .string s] 33)) (.slice rao zs.length rcap) zs := (hrow.kept hfr (fun _ _ e => e)).kept hf0 (fun _ _ e => e)
          have hk0 : Kept (only rb) w4 (wr.alloc (.cells #[.int .i64 ok, .int .i64 on, .int .i64 obt, .slice rao zs.length rcap, .string s] 33)) := hk.trans hf0 (fun _ _ e => e.elim)
          have hrbw : rb < wr.heap.size := lt_of_heap hr.1
          have hogr : wr.heap.size ≠ rb := by omega
          have hg6w : g6 < wr.heap.size := Nat.lt_of_lt_of_le (lt_of_heap hg6) hk.size
          have hg6r : g6 ≠ rb := fun e => hrbn (by rw [← e]; rfl)
          have hj0 : (0 : Int) ≤ (j : Int) := by omega
          have hj1 : (j : Int) < (l.length : Int) := by omega
          obtain ⟨g0, g1, g2, g3, g4⟩ := cells5 hog
          go_wp2_with fail
          refine (kind_any _ _).mono ?_
          rintro e w5 ⟨rfl, rfl⟩
          rcases kd_cases ok with hkd | hkd | hkd | hkd
          · rw [hkd]
            by_cases hok : numOk on obt = true
            · have hok' := hok
              simp only [numOk, Bool.and_eq_true, decide_eq_true_eq] at hok'
              obtain ⟨⟨hz8, hn0⟩, hn1⟩ := hok'
              have hback := num_back tx a rest on obt hok hn.2 (by rw [HTX.out]; simp [enc, hkd, hok])
              have hL : (enc ⟨ok, on, obt, .slice rao zs.length rcap, zs, s⟩).length = obt.toNat := by simp [enc, hkd, hok, le_length]
              have hfl : flag ⟨ok, on, obt, .slice rao zs.length rcap, zs, s⟩ = true := by simp [flag, hkd, hok]
              rw [hfl] at hc6
              go_wp2_with fail
              refine (refNumber_ok on obt _ hz8 hn0 hn.2 hn1).mono ?_
              rintro e w5 ⟨rfl, hk5⟩
              have hog5 := hk5.at hog (fun e => e)
              obtain ⟨g0, g1, g2, g3, g4⟩ := cells5 hog5
              have hc65 : w5.cell? ⟨g6, j, none⟩ = some (.bool true) := (hk5.cell (p := ⟨g6, j, none⟩) (Nat.lt_of_lt_of_le hg6w hf0.size) (fun e => e)).trans ((hf0.cell (p := ⟨g6, j, none⟩) hg6w (fun e => e)).trans hc6)
              have hr5 := hr0.kept hk5 (fun e => e)
              have hz5 := hz0'.kept hk5 (fun e => e)
              go_wp2_with fail
              refine (rnumber_any rb tx a.length obt _ hz5 hr5).mono ?_
              rw [hback]
              rintro e w6 ⟨rfl, hr6, hk6⟩
              obtain ⟨g0, g1, g2, g3, g4⟩ := cells5 (hk6.at hog5 hogr)
              have hkk := (hk0.trans hk5 (fun _ _ e => e.elim)).trans hk6 (fun _ _ e => e)
              clear hback
              go_wp2
              go_roundw
              case rel => exact ⟨j + 1, by omega, by go_num, by rw [HL1.out]; exact (by rw [hL]; exact hr6), hkk⟩
              case measure => simp [intOf]; omega
            · have hok0 : numOk on obt = false := by simpa using hok
              have hL : (enc ⟨ok, on, obt, .slice rao zs.length rcap, zs, s⟩).length = 0 := by simp [enc, hkd, hok0]
              have hfl : flag ⟨ok, on, obt, .slice rao zs.length rcap, zs, s⟩ = false := by simp [flag, hkd, hok0]
              rw [hfl] at hc6
              have hc60 : (wr.alloc (.cells #[.int .i64 ok, .int .i64 on, .int .i64 obt, .slice rao zs.length rcap, .string s] 33)).cell? ⟨g6, j, none⟩ = some (.bool false) := (hf0.cell (p := ⟨g6, j, none⟩) hg6w (fun e => e)).trans hc6
              by_cases hz8 : isSz obt = true
              · have hnr : on < 0 ∨ 256 ^ obt.toNat ≤ on := by
                  simp only [numOk, Bool.and_eq_true, decide_eq_true_eq] at hok
                  by_cases h0 : on < 0
                  · exact .inl h0
                  · by_cases h1 : 256 ^ obt.toNat ≤ on
                    · exact .inr h1
                    · exact absurd ⟨⟨hz8, by omega⟩, Int.not_le.1 h1⟩ hok
                go_wp2_with fail
                refine (refNumber_wide on obt _ hz8 hn.2 hnr).mono ?_
                rintro e w5 ⟨rfl, rfl⟩
                go_wp2
                go_roundw
                case rel => exact ⟨j + 1, by omega, by go_num, by rw [HL1.out]; exact (by rw [hL]; exact hr0), hk0⟩
                case measure => simp [intOf]; omega
              · have hz8' : isSz obt = false := by simpa using hz8
                go_wp2_with fail
                refine (refNumber_arg on obt _ hz8').mono ?_
                rintro e w5 ⟨rfl, rfl⟩
                go_wp2
                go_roundw
                case rel => exact ⟨j + 1, by omega, by go_num, by rw [HL1.out]; exact (by rw [hL]; exact hr0), hk0⟩
                case measure => simp [intOf]; omega
          · rw [hkd]
            have hzz : (zs.map b8).map s8 = zs := map_s8_b8 zs hzr0
            have hback := raw_back tx a (zs.map b8) rest (zs.length : Int) (by rw [List.length_map]) (by rw [HTX.out]; simp [enc, hkd])
            have hL : (enc ⟨ok, on, obt, .slice rao zs.length rcap, zs, s⟩).length = (zs.map b8).length := by simp [enc, hkd]
            go_wp2_with fail
            refine (rrow_any rb tx a.length (zs.length : Int) _ hr0 (by omega)).mono ?_
            rw [hback, hzz]
            rintro e w6 ⟨rv6, rfl, hrow6, hr6, hk6⟩
            have hog6 := hk6.at hog hogr
            obtain ⟨g0, g1, g2, g3, g4⟩ := cells5 hog6
            have hrow6' := hrow0.kept hk6 (fun k hk e => by have e' : k = rb := e; omega)
            have hkk := hk0.trans hk6 (fun _ _ e => e)
            obtain ⟨vao, vcp, hv6, _⟩ := id hrow6
            subst hv6
            clear hback
            go_wp2_with fail
            refine (rows_any _ _ _ _ zs zs _ hrow6 hrow6').mono ?_
            rintro e w7 ⟨rfl, n7, hw7⟩
            have hr7 : RdAt w7 rb tx (a.length + (zs.map b8).length) := by rw [hw7]; exact hr6.drewN n7
            have hk7 : Kept (only rb) w4 w7 := by rw [hw7]; exact hkk.drewN n7
            clear hw7
            rw [show decide (zs = zs) = true from by simp]
            go_wp2
            go_roundw
            case rel => exact ⟨j + 1, by omega, by go_num, by rw [HL1.out]; exact (by rw [hL]; exact hr7), hk7⟩
            case measure => simp [intOf]; omega
          · rw [hkd]
            have hback := raw_back tx a s.data.toList rest (s.size : Int) (by rw [← Lib.size_eq]) (by rw [HTX.out]; simp [enc, hkd])
            have hL : (enc ⟨ok, on, obt, .slice rao zs.length rcap, zs, s⟩).length = s.data.toList.length := by simp [enc, hkd]
            go_wp2_with fail
            refine (rraw_any rb tx a.length (s.size : Int) _ hr0).mono ?_
            rw [hback]
            rintro e w6 ⟨rfl, hr6, hk6⟩
            obtain ⟨g0, g1, g2, g3, g4⟩ := cells5 (hk6.at hog hogr)
            have hcs : (⟨s.data.toList.toArray⟩ : ByteArray) = s := by apply ByteArray.ext; simp
            have hkk := hk0.trans hk6 (fun _ _ e => e)
            rw [hcs]
            clear hback
            go_wp2
            go_roundw
            case rel => exact ⟨j + 1, by omega, by go_num, by rw [HL1.out]; exact (by rw [hL]; exact hr6), hkk⟩
            case measure => simp [intOf]; omega
          · rw [hkd]
            have hback := text_back tx a rest s (by omega) (by rw [HTX.out]; simp [enc, hkd])
            have hL : (enc ⟨ok, on, obt, .slice rao zs.length rcap, zs, s⟩).length = 4 + s.size := by simp [enc, hkd, le_length]
            have hfl : flag ⟨ok, on, obt, .slice rao zs.length rcap, zs, s⟩ = true := by simp [flag, hkd]
            rw [hfl] at hc6
            go_wp2_with fail
            refine (rtext_any rb tx a.length (s.size : Int) _ hr0).mono ?_
            rw [hback]
            rintro e w6 ⟨rfl, hr6, hk6⟩
            obtain ⟨g0, g1, g2, g3, g4⟩ := cells5 (hk6.at hog hogr)
            have hc66 : w6.cell? ⟨g6, j, none⟩ = some (.bool true) := (hk6.cell (p := ⟨g6, j, none⟩) (Nat.lt_of_lt_of_le hg6w hf0.size) hg6r).trans ((hf0.cell (p := ⟨g6, j, none⟩) hg6w (fun e => e)).trans hc6)
            have hcs : (⟨s.data.toList.toArray⟩ : ByteArray) = s := by apply ByteArray.ext; simp
            have hkk := hk0.trans hk6 (fun _ _ e => e)
            rw [hcs]
            clear hback
            go_wp2
            go_roundw
            case rel => exact ⟨j + 1, by omega, by go_num, by rw [HL1.out]; exact (by rw [hL]; exact hr6), hkk⟩
            case measure => simp [intOf]; omega
        · obtain rfl : j = l.length := by omega
          rw [List.take_length] at hr
          have hL : tx.size - (encs l).length = bh.size := by have := HTS.out; omega
          go_wp2_with fail
          refine (rleft_any rb tx _ _ hr).mono ?_
          rintro e w5 ⟨rfl, n5, hw5⟩
          have hf5 : Fresh w w5 := by rw [hw5]; exact hfr.drewN n5
          clear hw5
          rw [hL]
          go_wp2
          go_ret
          exact ⟨rfl, hf5⟩

end Go.Proofs.YtcdgphneljgooaaDoor.Back
