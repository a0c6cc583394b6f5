/-
  The program's text of a number.
-/
import Derived.Test.YtdmjfmipalifpaaGreatDoorTx
import Derived.ArgAppend
namespace Go.Proofs.YtdmjfmipalifpaaGreatDoor
open Go.RowKit Go.Shelf Go.Sort

set_option maxHeartbeats 400000 in
theorem formatUint_any (u : Nat) (hu : u < 18446744073709551616) (w : World) (hT : Pw w) :
    Calls Tryz.prog 64 #[.int .u64 u, .int .i64 10] w fun e w' => e = .returned (.string (sB (Lib.decDigits u))) ∧ Fresh w w' := by
  have h := intFormatUint_any u hu w hT
  go_enter Tryz.func64, Tryz.ntmps64
  go_wp2_with fail
  refine h.mono ?_
  rintro e w1 ⟨rfl, hF⟩
  go_wp2
  go_ret
  exact ⟨rfl, hF⟩

theorem repeat_zeros (k : Nat) : Lib.repeatL [48] k = List.replicate k 48 := by
  induction k with
  | zero => rfl
  | succ k ih => rw [Lib.repeatL, ih]; rfl

set_option maxHeartbeats 400000 in
theorem padded_any (u : Nat) (w : World) (hu : u < 10000000000000000000) :
    Calls Tryz.prog 63 #[.string (sB (Lib.decDigits u)), .int .i64 19] w fun e w' => e = .returned (.string (sB (pd 19 u))) ∧ Fresh w w' := by
  obtain ⟨h1, h2⟩ := pd_pad 19 (u := u) (by omega) (by simpa using hu)
  have hr := fun W => Tryz.strings_Repeat ⟨#[48]⟩ (19 - Lib.nDigits u) W (by omega) (by show 1 * _ ≤ _; omega)
  have hl : (sB (Lib.decDigits u)).size = Lib.nDigits u := by show (Lib.decDigits u).toArray.size = _; rw [List.size_toArray, Lib.decDigits_length]
  have hcat : (⟨(Lib.repeatL (⟨#[48]⟩ : ByteArray).data.toList (19 - Lib.nDigits u)).toArray⟩ : ByteArray) ++ sB (Lib.decDigits u) = sB (pd 19 u) := by
    rw [h2]
    show (⟨(Lib.repeatL [48] (19 - Lib.nDigits u)).toArray⟩ : ByteArray) ++ sB (Lib.decDigits u) = _
    rw [repeat_zeros]
    apply ByteArray.ext
    simp [sB]
  have hsz : ((⟨(Lib.repeatL (⟨#[48]⟩ : ByteArray).data.toList (19 - Lib.nDigits u)).toArray⟩ : ByteArray) ++ sB (Lib.decDigits u)).size ≤ 281474976710656 := by
    rw [hcat]
    show (pd 19 u).toArray.size ≤ _
    rw [List.size_toArray, pd_length]
    omega
  have e19 : ((19 - Lib.nDigits u : Nat) : Int) = 19 - (Lib.nDigits u : Int) := by omega
  rw [e19] at hr
  generalize sB (pd 19 u) = R at *
  generalize sB (Lib.decDigits u) = D at *
  generalize (⟨(Lib.repeatL (⟨#[48]⟩ : ByteArray).data.toList (19 - Lib.nDigits u)).toArray⟩ : ByteArray) = Z at *
  rw [ByteArray.size_append] at hsz
  clear h2
  go_enter Tryz.func63, Tryz.ntmps63
  go_wp2_with fail
  refine (hr _).mono ?_
  rintro e w1 ⟨rfl, hB⟩
  have hF : Fresh w w1 := Kept.ofBelow hB (fun i h1 h2 => by omega)
  clear hB
  go_wp2
  go_ret
  exact ⟨by simp [Array.getD], hF⟩

/-- The groups of a text, in a row of strings of the call's own. -/
abbrev enS (gs : List (List UInt8)) : List Value := gs.map (fun g => Value.string (sB g))
theorem Tryz.infoS : (Tryz.prog.info? 9).map (fun i => (i.zero, i.size, i.bytes)) = some (some (.string ⟨#[]⟩), 1, 16) := by kernel_rfl

theorem join_len (gs : List (List UInt8)) (h : ∀ g ∈ gs, g.length = 19) : (Lib.join gs []).length = 19 * gs.length := by
  rw [join_nil]
  induction gs with
  | nil => rfl
  | cons a r ih =>
    rw [List.flatten_cons, List.length_append, ih (fun g hg => h g (List.mem_cons_of_mem _ hg)), h a (List.mem_cons_self), List.length_cons]
    omega
theorem bl_drop {n : Nat} (h : n ≠ 0) : bl (n / 10000000000000000000) + 1 ≤ bl n := by
  rw [bl_half h]
  have := bl_mono (show n / 10000000000000000000 ≤ n / 2 by omega)
  omega
def lenOf : Value → Nat | .slice _ n _ => n | _ => 0
theorem trim_zeros {L : List Nat} {n : Nat} {w : World} {b : Nat} {S : List Value} (h : Ow 71 .u64 w b [] L S) : ∃ S', Ow 71 .u64 w b [] (L.take n) S' :=
  ⟨(L.drop n).map (fun d : Nat => Value.int .u64 (d : Int)) ++ S, by have := Ow.split h 0 n; simpa using this⟩

/-- The loop of a text: what is left of the number, and the groups told. -/
structure TxR (w : World) (N b cap : Nat) (xv gv : Value) (wr : World) (L : List Nat) (S : List Value) (gs : List (List UInt8)) : Prop where
  xv : xv = .slice (some ⟨b, 0, none⟩) L.length cap ∨ L = [] ∧ xv = .slice none 0 0
  ow : Ow 71 .u64 wr b [] L S
  dg : Dg 18446744073709551616 L
  can : Can L
  len : L.length ≤ 17179869185 ∧ L.length ≤ cap
  grp : Grp N (val 18446744073709551616 L) gs
  all : ∀ g ∈ gs, g.length = 19
  own : wr.ownsRow w.heap.size 9 1 gv gs.length (enS gs)
  off : gv.ownBlock ≠ some b
  cnt : gs.length + bl (val 18446744073709551616 L) ≤ bl N
  fr : Fresh w wr

set_option maxHeartbeats 2000000 in
set_option maxRecDepth 100000 in
theorem text_pos (xv : Value) (N : Nat) (w : World) (hx : Nm w xv N) (hN : N ≠ 0) (hb : bl N ≤ 1099511627776) (hT : Pw w) :
    Calls Tryz.prog 42 #[xv] w fun e w' => e = .returned (.string (sB (Lib.decDigits N))) ∧ Fresh w w' := by
  obtain ⟨i0, hi, hz0, hz1, hz2⟩ := info_parts Tryz.infoS
  obtain ⟨X, hX, hcX, hvX, _⟩ := hx
  have hlX := nm_len hX.dg hcX
  rw [hvX] at hlX
  have hXl : X.length ≤ 17179869185 := by omega
  have hdX := hX.dg
  have hX0 : X ≠ [] := fun e => hN (by rw [← hvX, e]; rfl)
  have hXp : 0 < X.length := List.length_pos_iff.2 hX0
  have hcl := clone_any _ xv X w hX (by omega)
  obtain ⟨xa, xc, rfl⟩ := hX.shape
  have HT := show Hid _ from hT
  clear hX hlX hT
  go_enter Tryz.func42, Tryz.ntmps42
  go_wp2_with fail
  refine hcl.mono ?_
  rintro e w1 ⟨v1, rfl, hown, hF1⟩
  obtain ⟨b, cap, rfl⟩ : ∃ b cap, v1 = .slice (some ⟨b, 0, none⟩) X.length cap := by
    rcases hown.2 with ⟨h, h0⟩ | ⟨g, cap, cur, h, _⟩
    · omega
    · exact ⟨g, cap, h⟩
  obtain ⟨S, hO1, hbB, hcap, hcapm, _⟩ := ow_of_own hown
  have hR0 : TxR w N b cap (.slice (some ⟨b, 0, none⟩) X.length cap) (.slice none 0 0) w1 X S [] := ⟨.inl rfl, hO1, hdX, hcX, ⟨hXl, hcap⟩, by rw [hvX]; exact grp_nil hN, by simp, World.ownsRow_nil _ _ _ _, by simp [Value.ownBlock], by rw [hvX]; simp, hF1⟩
  have HR0 := show Hid _ from hR0
  clear hcl hown hR0 hO1 hF1
  go_wp2_with fail
  go_loopw [0, 3] (fun xv gv wr => ∃ L S gs, Hid (TxR w N b cap xv gv wr L S gs)) (fun _ gv _ => bl N + 1 - lenOf gv)
  case atStart => exact ⟨X, S, [], HR0⟩
  case round =>
    clear HR0
    obtain ⟨L, S, gs, HR⟩ := hrel
    obtain ⟨hxv, hO, hdL, hcL, hlL, hgr, hall, hown, hoff, hcnt, hF⟩ := HR.out
    clear HR
    obtain ⟨ga, gc, rfl⟩ : ∃ a c, u3 = .slice a gs.length c := by
      rcases hown.2 with ⟨h, h0⟩ | ⟨g, cap, cur, h, _⟩
      · exact ⟨none, 0, by rw [h, h0]⟩
      · exact ⟨_, cap, h⟩
    by_cases hL : L = []
    · subst hL
      obtain ⟨a0, c0, rfl⟩ : ∃ a c, u0 = .slice a 0 c := by
        rcases hxv with h | ⟨_, h⟩
        · exact ⟨_, _, h⟩
        · exact ⟨_, _, h⟩
      have hend := grp_end hgr hN
      have hgs0 : gs ≠ [] := fun e => by
        rw [e] at hend
        exact decDigits_ne N hend.symm
      have hgp : 0 < gs.length := List.length_pos_iff.2 hgs0
      obtain ⟨gb, rfl⟩ : ∃ gb, ga = some ⟨gb, 0, none⟩ := by
        rcases hown.2 with ⟨_, h0⟩ | ⟨g, cap, cur, h, _⟩
        · omega
        · simp only [Value.slice.injEq] at h
          exact ⟨g, h.1⟩
      have hgB := World.ownsRow.lt hown gb rfl
      have hgcap : gs.length ≤ gc := by
        rcases hown.2 with ⟨h, _⟩ | ⟨g, cap, cur, h, _, _, hc, _⟩
        · cases h
        · simp only [Value.slice.injEq] at h
          omega
      have hH : Holds (fun g : List UInt8 => Value.string (sB g)) wr gb 0 gs.toArray := fun j hj => by
        have hj' : j < gs.length := by simpa using hj
        refine ⟨?_, World.ownsRow.frozenAt hown (0 + j)⟩
        rw [Nat.zero_add, World.ownsRow.cellAt hown j (by omega), List.getElem?_map, List.getElem?_eq_getElem hj', getElem!_pos _ j hj]
        simp
      have hbl : gs.length ≤ 1099511627776 := by omega
      have hrev := Tryz.slices_Reverse (fun g : List UInt8 => Value.string (sB g)) (fun _ => rfl) gb 0 gc gs wr hH (by omega)
      have hjoin := fun n => Tryz.strings_Join gb 0 gc (gs.reverse.map sB) ⟨#[]⟩ (putRow (fun g : List UInt8 => Value.string (sB g)) (Sort.ahead wr n) gb 0 gs.reverse.toArray)
        (fun j x hx => by
          have hj : j < gs.reverse.length := by have := (List.getElem?_eq_some_iff.1 hx).1; simpa using this
          rw [cell?_putRow (fun g : List UInt8 => Value.string (sB g)) (Sort.ahead wr n) gb 0 gs.toArray gs.reverse.toArray hH (by simp) j (by simpa using hj)]
          rw [List.getElem?_map, List.getElem?_eq_getElem hj] at hx
          simp only [Option.map_some, Option.some.injEq] at hx
          rw [← hx, getElem!_pos _ j (by simpa using hj)]
          simp) (by rw [size_putRow]; exact hgB.2) (by simp; omega) (by simpa using hgcap)
        (by
          rw [List.map_map]
          show (Lib.join (gs.reverse.map id) []).length ≤ _
          rw [List.map_id, join_len _ (fun g hg => hall g (List.mem_reverse.1 hg)), List.length_reverse]
          omega)
      rw [List.length_map, List.length_reverse] at hjoin
      have hjs : Lib.join ((gs.reverse.map sB).map (·.data.toList)) (⟨#[]⟩ : ByteArray).data.toList = Lib.join gs.reverse [] := by
        rw [List.map_map]
        show Lib.join (gs.reverse.map id) [] = _
        rw [List.map_id]
      rw [hjs] at hjoin
      have htr := fun W => Tryz.strings_TrimLeft_one ⟨(Lib.join gs.reverse []).toArray⟩ 48 (by decide) W
      rw [show (⟨(Lib.join gs.reverse []).toArray⟩ : ByteArray).data.toList = Lib.join gs.reverse [] from rfl, hend] at htr
      have hFp : ∀ n, Fresh w (putRow (fun g : List UInt8 => Value.string (sB g)) (Sort.ahead wr n) gb 0 gs.reverse.toArray) := fun n => by
        refine ⟨hF.os, hF.tape, hF.output, by rw [size_putRow]; exact hF.size, fun i hi hn => ?_⟩
        simp only [putRow, mapBlock, Array.getElem?_modify]
        rw [if_neg (by omega)]
        exact hF.block i hi hn
      have HFP := show Hid _ from hFp
      clear hH hown hO hgr hall hF hFp hend hjs
      generalize (⟨(Lib.join gs.reverse []).toArray⟩ : ByteArray) = J at *
      go_wp2_with fail
      refine hrev.mono ?_
      rintro e w2 ⟨rfl, n2, rfl⟩
      have hF2 := HFP.out n2
      have hjn := hjoin n2
      generalize putRow (fun g : List UInt8 => Value.string (sB g)) (Sort.ahead wr n2) gb 0 gs.reverse.toArray = W2 at *
      go_wp2_with fail
      refine hjn.mono ?_
      rintro e w3 ⟨rfl, hB3⟩
      have hF3 : Fresh w w3 := hF2.trans (Kept.ofBelow (S := fun _ => False) hB3 (fun i h1 h2 => by omega)) (fun _ _ e => e)
      go_wp2_with fail
      refine (htr _).mono ?_
      rintro e w4 ⟨rfl, rfl⟩
      have HF3 := show Hid _ from hF3
      clear hF3 hB3 hF2 htr hjn hjoin hrev
      go_wp2
      go_ret
      exact ⟨rfl, HF3.out⟩
    · obtain rfl : u0 = .slice (some ⟨b, 0, none⟩) L.length cap := hxv.resolve_right (fun h => hL h.1)
      have hLp : 0 < L.length := List.length_pos_iff.2 hL
      have hsp := split_any b cap [] S L 10000000000000000000 wr hO hdL (by omega) (by omega) (by omega)
      rw [List.length_nil] at hsp
      have hbl : gs.length ≤ 1099511627776 := by omega
      have hvL := val_pos (B := 18446744073709551616) (by omega) hcL hL
      have hdrop := bl_drop (n := val 18446744073709551616 L) (by omega)
      have HG := show Hid _ from grp_snoc hgr (by omega)
      have HC := show Hid _ from hcnt
      clear hxv hcL hgr hcnt
      go_wp2_with fail
      refine hsp.mono ?_
      rintro e w2 ⟨l, rfl, Q, hQl, hdQ, hvQ, hld, hO2, hk2⟩
      have hF2 : Fresh w w2 := hF.trans hk2 (fun i hi e => by have e' : i = b := e; omega)
      have hown2 := owns_kept hown hk2 (fun g e h => hoff (by have h' : g = b := h; rw [← h']; exact e))
      have hfm := formatUint_any l (by omega) w2 (Pw.fresh HT.out hF2)
      clear hsp hown hk2
      go_wp2_with fail
      refine hfm.mono ?_
      rintro e w3 ⟨rfl, hF3⟩
      have hpa := padded_any l w3 hld
      have hown3 := owns_kept hown2 hF3 (fun _ _ e => e)
      clear hfm hown2
      go_wp2_with fail
      refine hpa.mono ?_
      rintro e w4 ⟨rfl, hF4⟩
      have hown4 := owns_kept hown3 hF4 (fun _ _ e => e)
      have hF4' : Fresh w w4 := (hF2.trans hF3 (fun _ _ e => e)).trans hF4 (fun _ _ e => e)
      have hO4 : Ow 71 .u64 w4 b [] Q S := (hO2.kept hF3 (fun e => e)).kept hF4 (fun e => e)
      have hb4 := hO4.lt
      have hW4 := hF4'.size
      have hbg : ∀ k, (Value.slice ga gs.length gc).ownBlock = some k → w.heap.size ≤ k ∧ k < w4.heap.size := fun k e => World.ownsRow.lt hown4 k e
      clear hpa hown3 hO2 hF3 hF4 hF2 hF
      generalize hPD : sB (pd 19 l) = PD at *
      go_wp2_with (at_builtin; refine wpList_append_lies _ rfl _ _ _ rfl w.heap.size 9 i0 _ 1 16 Tryz.underlying86 hi hz0 hz1 hz2 rfl (by omega) (.slice ga gs.length gc) _ _ rfl (hown4.alloc _) ⟨w4.heap.size, 0, none⟩ 1 1 [.string PD] rfl rfl (World.news_of_block (cs := #[.string PD]) (t := 9) (fr := (0, 0)) (heap_alloc_new w4 _)) (by simp [Value.oneCell']) (by omega) (by unfold maxLen; omega) (by omega) (by simp; omega) (w4.heap.size + 1) (by simp) ?_; intro g1 cap1 w5 hown5 hgrow hat hlt5)
      have hk5 : Kept (fun k => (Value.slice ga gs.length gc).ownBlock = some k) w4 w5 := ((Kept.refl _ w4).alloc _).grown hgrow (fun k _ e => e)
      have hF5 : Fresh w w5 := hF4'.trans hk5 (fun i hi e => by have := (hbg i e).1; omega)
      have hO5 : Ow 71 .u64 w5 b [] Q S := hO4.kept hk5 hoff
      have hg1 : g1 ≠ b := by
        rcases hat with h | h
        · intro e; subst e; exact hoff h
        · omega
      have hD := Ow.dw (B := 18446744073709551616) (cap := cap) hO5 hdQ (by rw [hQl]; exact hlL.2) (by omega) hcapm
      rw [hQl, List.length_nil] at hD
      have ht := trim_any _ _ _ _ hD
      have hvQ1 : val 18446744073709551616 L / 10000000000000000000 = val 18446744073709551616 Q := by rw [hvQ, Nat.mul_add_div (by omega), Nat.div_eq_of_lt hld, Nat.add_zero]
      have hvQ2 : val 18446744073709551616 L % 10000000000000000000 = l := by rw [hvQ, Nat.mul_add_mod, Nat.mod_eq_of_lt hld]
      have hG := HG.out
      rw [hvQ1, hvQ2] at hG
      rw [hvQ1] at hdrop
      have hC := HC.out
      have HN : Hid (∀ v' n, Trm 18446744073709551616 Q n → (n = 0 → v' = .slice none 0 0) → (n ≠ 0 → ∀ ao cp, (Value.slice (some ⟨b, 0, none⟩) L.length cap) = .slice ao Q.length cp → v' = .slice ao n cp) → ∃ L S gs', Hid (TxR w N b cap v' (.slice (some ⟨g1, 0, none⟩) (gs.length + 1) cap1) w5 L S gs')) := by
        intro v' n hTm hn0 hn1
        obtain ⟨S', hO6⟩ := trim_zeros (n := n) hO5
        have hle := hTm.le
        refine ⟨Q.take n, S', gs ++ [pd 19 l], ?_, hO6, hdQ.take n, hTm.can, ⟨by rw [List.length_take]; omega, by rw [List.length_take]; have := hlL.2; omega⟩, by rw [hTm.val]; exact hG, fun g hg => ?_, ?_, by simpa [Value.ownBlock] using hg1, ?_, hF5⟩
        · rcases Nat.eq_zero_or_pos n with e | e
          · right
            subst e
            exact ⟨by simp, hn0 rfl⟩
          · left
            rw [hn1 (by omega) _ _ (by rw [hQl]), List.length_take, Nat.min_eq_left hle]
        · rcases List.mem_append.1 hg with h | h
          · exact hall g h
          · rw [List.mem_singleton] at h
            rw [h, pd_length]
        · rw [List.length_append, List.length_singleton, show enS (gs ++ [pd 19 l]) = enS gs ++ [.string PD] by simp [enS, ← hPD]]
          exact hown5
        · rw [hTm.val, List.length_append, List.length_singleton]
          omega
      clear hown5 hown4 hgrow hat hlt5 hk5 hO5 hO4 hD hG HG hPD hvQ hvQ1 hvQ2 hF5 hF4' hdrop
      go_wp2_with fail
      refine ht.mono ?_
      rintro e w6 ⟨v', rfl, ⟨n, hTm, hW, hn0, hn1⟩, rfl⟩
      have HRR := show Hid _ from HN.out v' n hTm hn0 hn1
      clear hTm hW hn0 hn1 HN ht
      go_wp2
      go_roundw
      case rel => exact HRR.out
      case measure => simp only [lenOf]; omega
end Go.Proofs.YtdmjfmipalifpaaGreatDoor
