/-
  The tables of utf8; which bytes are a whole character's beginning: FullRuneInString, isHalf.
-/
import Derived.Test.YtomeoklhjdgaoaaDoorStG
import Derived.Test.YtomeoklhjdgaoaaDoorBase
import Derived.Shelf.Unicode.DecodeAny
import Derived.Test.YtomeoklhjdgaoaaDoorChecked
import Derived.Deep.QuietTactic
import Derived.BigQuiet
namespace Go.Proofs.YtomeoklhjdgaoaaDoor
open Go.RowKit Go.Lib Go.Maps

abbrev sV (t : List UInt8) : Value := .string ⟨t.toArray⟩
abbrev zV (z : Int) : Value := .int .i64 z
theorem fresh_below {w w' : World} (h : Below w.heap.size w w') : Fresh w w' := ⟨h.os, h.tape, h.output, h.size, fun k hk _ => h.block k hk⟩
theorem Kept.drewN {S : Nat → Prop} {a w : World} (h : Kept S a w) : ∀ q, Kept S a (w.drewN q)
  | 0 => h
  | q + 1 => (h.drewN q).drew
theorem cat_l (a b : List UInt8) : (⟨a.toArray⟩ : ByteArray) ++ ⟨b.toArray⟩ = ⟨(a ++ b).toArray⟩ := by
  apply ByteArray.ext
  rw [ByteArray.data_append]
  simp
theorem ext_l (l : List UInt8) (i j : Nat) : (⟨l.toArray⟩ : ByteArray).extract i j = ⟨((l.take j).drop i).toArray⟩ := by
  apply ByteArray.ext
  rw [ByteArray.data_extract]
  apply Array.toList_inj.1
  rw [Array.toList_extract, List.extract_eq_take_drop, List.drop_take]
theorem data_l (l : List UInt8) : (⟨l.toArray⟩ : ByteArray).data.toList = l := rfl
theorem len_l (l : List UInt8) : (⟨l.toArray⟩ : ByteArray).size = l.length := sizB l
theorem get_l (l : List UInt8) (k : Nat) (h : k < (⟨l.toArray⟩ : ByteArray).size) : ((⟨l.toArray⟩ : ByteArray)[k]'h).toNat = bN l k := by
  rw [← Utf8W.get!_of_lt, getB]
theorem emp_l : (⟨([] : List UInt8).toArray⟩ : ByteArray) = ByteArray.empty := rfl

/-- What lies in the listed variables: the tables of utf8, and some int in internal/bytealg.MaxLen. -/
def TbM (w : World) : Prop := Lib.Utf8Tabs 0 1 w ∧ ∃ m, w.cell? ⟨2, 0, none⟩ = some (.int .i64 m)
theorem cell_lt {w : World} {b o : Nat} {v : Value} (h : w.cell? ⟨b, o, none⟩ = some v) : b < w.heap.size := by
  by_cases hb : b < w.heap.size
  · exact hb
  · exfalso
    have : w.heap[b]? = none := Array.getElem?_eq_none (by omega)
    simp [World.cell?, this] at h
theorem TbM.kept {S : Nat → Prop} {w w' : World} (h : TbM w) (hk : Kept S w w') (hn : ∀ b, b < 3 → ¬ S b) : TbM w' := by
  obtain ⟨⟨h1, h2⟩, m, h3⟩ := h
  exact ⟨⟨fun c hc => (hk.cell (p := ⟨_, c, none⟩) (cell_lt (h1 c hc)) (hn 0 (by decide))).trans (h1 c hc),
    fun i hi => ⟨(hk.cell (p := ⟨_, 2 * i, none⟩) (cell_lt (h2 i hi).1) (hn 1 (by decide))).trans (h2 i hi).1, (hk.cell (p := ⟨_, 2 * i + 1, none⟩) (cell_lt (h2 i hi).2) (hn 1 (by decide))).trans (h2 i hi).2⟩⟩,
    m, (hk.cell (p := ⟨_, 0, none⟩) (cell_lt h3) (hn 2 (by decide))).trans h3⟩
theorem TbM.fresh {w w' : World} (h : TbM w) (hk : Fresh w w') : TbM w' := h.kept hk (fun _ _ e => e)
theorem TbM.size {w : World} (h : TbM w) : 3 ≤ w.heap.size := by
  obtain ⟨_, m, h3⟩ := h
  have := cell_lt h3
  omega

theorem shr4 : ∀ x : Nat, ((x : Nat) : Int) / 16 = ((x / 16 : Nat) : Int) := fun x => by omega
/-- What the table says of a byte. -/
theorem first_all : ∀ b : Fin 256, (firstT b.val = 240 ∧ b.val < 128) ∨ (firstT b.val = 241 ∧ szN b.val = 0) ∨ (firstT b.val = 2 ∧ szN b.val = 2 ∧ loN b.val 1 = 128 ∧ hiN b.val 1 = 191) ∨ (firstT b.val = 19 ∧ szN b.val = 3 ∧ loN b.val 1 = 160 ∧ hiN b.val 1 = 191) ∨ (firstT b.val = 3 ∧ szN b.val = 3 ∧ loN b.val 1 = 128 ∧ hiN b.val 1 = 191) ∨ (firstT b.val = 35 ∧ szN b.val = 3 ∧ loN b.val 1 = 128 ∧ hiN b.val 1 = 159) ∨ (firstT b.val = 52 ∧ szN b.val = 4 ∧ loN b.val 1 = 144 ∧ hiN b.val 1 = 191) ∨ (firstT b.val = 4 ∧ szN b.val = 4 ∧ loN b.val 1 = 128 ∧ hiN b.val 1 = 191) ∨ (firstT b.val = 68 ∧ szN b.val = 4 ∧ loN b.val 1 = 128 ∧ hiN b.val 1 = 143) := by decide +kernel
theorem first_of (b : Nat) (hb : b < 256) : (firstT b = 240 ∧ b < 128) ∨ (firstT b = 241 ∧ szN b = 0) ∨ (firstT b = 2 ∧ szN b = 2 ∧ loN b 1 = 128 ∧ hiN b 1 = 191) ∨ (firstT b = 19 ∧ szN b = 3 ∧ loN b 1 = 160 ∧ hiN b 1 = 191) ∨ (firstT b = 3 ∧ szN b = 3 ∧ loN b 1 = 128 ∧ hiN b 1 = 191) ∨ (firstT b = 35 ∧ szN b = 3 ∧ loN b 1 = 128 ∧ hiN b 1 = 159) ∨ (firstT b = 52 ∧ szN b = 4 ∧ loN b 1 = 144 ∧ hiN b 1 = 191) ∨ (firstT b = 4 ∧ szN b = 4 ∧ loN b 1 = 128 ∧ hiN b 1 = 191) ∨ (firstT b = 68 ∧ szN b = 4 ∧ loN b 1 = 128 ∧ hiN b 1 = 143) := first_all ⟨b, hb⟩
theorem hf_big {l : List UInt8} (h : szN (bN l 0) ≤ l.length) : hfL l = false := by
  cases e : hfL l with
  | false => rfl
  | true => exact absurd (hfL_iff.1 e).2.1 (by omega)
theorem hf_byte {l : List UInt8} {k : Nat} (hk : k = 1 ∨ k = 2) (hl : k < l.length) (h : ¬ LaN (bN l 0) k (bN l k)) : hfL l = false := by
  cases e : hfL l with
  | false => rfl
  | true =>
    have h2 := (hfL_iff.1 e).2.2
    rcases hk with rfl | rfl
    · exact absurd (h2.1 hl) h
    · exact absurd (h2.2.1 hl) h
theorem hf_yes {l : List UInt8} (h0 : 0 < l.length) (h : l.length < szN (bN l 0)) (h1 : 1 < l.length → LaN (bN l 0) 1 (bN l 1)) (h2 : 2 < l.length → LaN (bN l 0) 2 (bN l 2)) : hfL l = true :=
  hfL_iff.2 ⟨h0, h, h1, h2, fun e => absurd e (by have := szN_le (bN l 0); omega)⟩
set_option maxHeartbeats 4000000 in
set_option maxRecDepth 100000 in
theorem fullRune_any (l : List UInt8) (w : World) (hl : l.length ≤ maxLen) (h0 : l ≠ []) (hT : TbM w) :
    Calls Tryd.prog 65 #[sV l] w fun e w' => e = .returned (.bool (!hfL l)) ∧ Fresh w w' := by
  have hn0 := List.length_pos_iff.2 h0
  unfold maxLen at hl
  obtain ⟨⟨hT1, hT2⟩, _⟩ := hT
  obtain ⟨S, hS⟩ : ∃ S : ByteArray, S = ⟨l.toArray⟩ := ⟨_, rfl⟩
  have hsz : S.size = l.length := by rw [hS]; exact len_l l
  have hb := bN_lt l 0
  have hc0 := hT1 (bN l 0) hb
  have hg : ∀ (k : Nat) (h : k < S.size), (S[k]'h).toNat = bN l k := by subst hS; exact fun k h => get_l l k h
  have hS0 : 0 < S.size := by omega
  have hz0 : (0 : Int) < (S.size : Int) := by omega
  have e0 : (((S[0]'hS0).toNat : Nat) : Int) = (bN l 0 : Int) := by rw [hg]
  have hne : ¬ ((S.size : Nat) : Int) = 0 := by omega
  have hSl : S.size ≤ 2 ^ 63 - 1 := by omega
  rcases first_of (bN l 0) hb with ⟨hx, hs⟩ | ⟨hx, hs⟩ | ⟨hx, hs, hlo, hhi⟩ | ⟨hx, hs, hlo, hhi⟩ | ⟨hx, hs, hlo, hhi⟩ | ⟨hx, hs, hlo, hhi⟩ | ⟨hx, hs, hlo, hhi⟩ | ⟨hx, hs, hlo, hhi⟩ | ⟨hx, hs, hlo, hhi⟩
  · have hA : hfL l = false := hf_big (by unfold szN; rw [if_pos hs]; omega)
    rw [hx] at hc0
    rw [hA]
    show Calls Tryd.prog _ #[.string ⟨l.toArray⟩] _ _
    rw [← hS]
    clear hT1 hT2 hx hs hA hS
    go_enter Tryd.func65, Tryd.ntmps65
    go_wp2
    go_ret
    exact ⟨rfl, Kept.refl _ _⟩
  · have hA : hfL l = false := hf_big (by rw [hs]; omega)
    rw [hx] at hc0
    rw [hA]
    show Calls Tryd.prog _ #[.string ⟨l.toArray⟩] _ _
    rw [← hS]
    clear hT1 hT2 hx hs hA hS
    have h1 : (1 : Int) ≤ (S.size : Int) := by omega
    go_enter Tryd.func65, Tryd.ntmps65
    go_wp2
    go_ret
    exact ⟨rfl, Kept.refl _ _⟩
  · have ha0 := (hT2 0 (by decide)).1
    have ha1 := (hT2 0 (by decide)).2
    simp only [accLo, accHi, Nat.reduceMul, Nat.reduceAdd, Nat.reduceEqDiff, if_true, if_false] at ha0 ha1
    rw [hx] at hc0
    clear hT1 hT2 hx
    by_cases hk : 2 ≤ S.size
    · have hA : hfL l = false := hf_big (by rw [hs]; omega)
      rw [hA]
      show Calls Tryd.prog _ #[.string ⟨l.toArray⟩] _ _
      rw [← hS]
      have hk' : (2 : Int) ≤ (S.size : Int) := by omega
      clear hs hA hS hlo hhi
      go_enter Tryd.func65, Tryd.ntmps65
      go_wp2
      go_ret
      exact ⟨rfl, Kept.refl _ _⟩
    have hk' : ¬ (2 : Int) ≤ (S.size : Int) := by omega
    have hF : Fresh w (w.alloc (.cells #[.int .u8 128, .int .u8 191] 96)) := (Kept.refl _ w).alloc _
    have hA : hfL l = true := hf_yes hn0 (by rw [hs]; omega) (fun e => absurd e (by omega)) (fun e => absurd e (by omega))
    have hd1 : decide ((1 : Int) < (S.size : Int)) = false := decide_eq_false (by omega)
    have hd2 : decide ((2 : Int) < (S.size : Int)) = false := decide_eq_false (by omega)
    rw [hA]
    show Calls Tryd.prog _ #[.string ⟨l.toArray⟩] _ _
    rw [← hS]
    clear hs hA hS hlo hhi hg hk hsz hl h0 hn0
    (try clear hx1)
    (try clear hx2)
    go_enter Tryd.func65, Tryd.ntmps65
    go_wp2
    go_quiet (fail)
    go_wp2
    go_ret
    exact ⟨rfl, hF.drewN _⟩
  · have ha0 := (hT2 1 (by decide)).1
    have ha1 := (hT2 1 (by decide)).2
    simp only [accLo, accHi, Nat.reduceMul, Nat.reduceAdd, Nat.reduceEqDiff, if_true, if_false] at ha0 ha1
    rw [hx] at hc0
    clear hT1 hT2 hx
    by_cases hk : 3 ≤ S.size
    · have hA : hfL l = false := hf_big (by rw [hs]; omega)
      rw [hA]
      show Calls Tryd.prog _ #[.string ⟨l.toArray⟩] _ _
      rw [← hS]
      have hk' : (3 : Int) ≤ (S.size : Int) := by omega
      clear hs hA hS hlo hhi
      go_enter Tryd.func65, Tryd.ntmps65
      go_wp2
      go_ret
      exact ⟨rfl, Kept.refl _ _⟩
    have hk' : ¬ (3 : Int) ≤ (S.size : Int) := by omega
    have hF : Fresh w (w.alloc (.cells #[.int .u8 160, .int .u8 191] 96)) := (Kept.refl _ w).alloc _
    by_cases h1 : 1 < S.size
    · have hd1 : decide ((1 : Int) < (S.size : Int)) = true := decide_eq_true (by omega)
      obtain ⟨x1, hs1⟩ : ∃ x1, S[1]'h1 = x1 := ⟨_, rfl⟩
      have hx1 : x1.toNat = bN l 1 := by rw [← hs1]; exact hg 1 h1
      have h1z : (1 : Int) < (S.size : Int) := by omega
      by_cases c1 : x1.toNat < 160
      · have hA : hfL l = false := hf_byte (k := 1) (.inl rfl) (by omega) (fun e => by have := e.1; rw [hlo] at this; omega)
        have hd3 : decide (((x1.toNat : Nat) : Int) < 160) = true := decide_eq_true (by omega)
        rw [hA]
        show Calls Tryd.prog _ #[.string ⟨l.toArray⟩] _ _
        rw [← hS]
        clear hs hA hS hlo hhi hg hk hsz hl h0 hn0
        (try clear hx1)
        (try clear hx2)
        go_enter Tryd.func65, Tryd.ntmps65
        go_wp2
        go_quiet (fail)
        go_wp2
        go_ret
        exact ⟨rfl, hF.drewN _⟩
      have hd3 : decide (((x1.toNat : Nat) : Int) < 160) = false := decide_eq_false (by omega)
      by_cases c2 : 191 < x1.toNat
      · have hA : hfL l = false := hf_byte (k := 1) (.inl rfl) (by omega) (fun e => by have := e.2; rw [hhi] at this; omega)
        have hd4 : decide ((191 : Int) < ((x1.toNat : Nat) : Int)) = true := decide_eq_true (by omega)
        rw [hA]
        show Calls Tryd.prog _ #[.string ⟨l.toArray⟩] _ _
        rw [← hS]
        clear hs hA hS hlo hhi hg hk hsz hl h0 hn0
        (try clear hx1)
        (try clear hx2)
        go_enter Tryd.func65, Tryd.ntmps65
        go_wp2
        go_quiet (fail)
        go_wp2
        go_ret
        exact ⟨rfl, hF.drewN _⟩
      have hd4 : decide ((191 : Int) < ((x1.toNat : Nat) : Int)) = false := decide_eq_false (by omega)
      have hLa : LaN (bN l 0) 1 (bN l 1) := ⟨by rw [hlo]; omega, by rw [hhi]; omega⟩
      have hA : hfL l = true := hf_yes hn0 (by rw [hs]; omega) (fun _ => hLa) (fun e => absurd e (by omega))
      have hd2 : decide ((2 : Int) < (S.size : Int)) = false := decide_eq_false (by omega)
      rw [hA]
      show Calls Tryd.prog _ #[.string ⟨l.toArray⟩] _ _
      rw [← hS]
      clear hs hA hS hlo hhi hg hk hsz hl h0 hn0
      (try clear hx1)
      (try clear hx2)
      go_enter Tryd.func65, Tryd.ntmps65
      go_wp2
      go_quiet (fail)
      go_wp2
      go_ret
      exact ⟨rfl, hF.drewN _⟩
    · have hd1 : decide ((1 : Int) < (S.size : Int)) = false := decide_eq_false (by omega)
      have hd2 : decide ((2 : Int) < (S.size : Int)) = false := decide_eq_false (by omega)
      have hA : hfL l = true := hf_yes hn0 (by rw [hs]; omega) (fun e => absurd e (by omega)) (fun e => absurd e (by omega))
      rw [hA]
      show Calls Tryd.prog _ #[.string ⟨l.toArray⟩] _ _
      rw [← hS]
      clear hs hA hS hlo hhi hg hk hsz hl h0 hn0
      (try clear hx1)
      (try clear hx2)
      go_enter Tryd.func65, Tryd.ntmps65
      go_wp2
      go_quiet (fail)
      go_wp2
      go_ret
      exact ⟨rfl, hF.drewN _⟩
  · have ha0 := (hT2 0 (by decide)).1
    have ha1 := (hT2 0 (by decide)).2
    simp only [accLo, accHi, Nat.reduceMul, Nat.reduceAdd, Nat.reduceEqDiff, if_true, if_false] at ha0 ha1
    rw [hx] at hc0
    clear hT1 hT2 hx
    by_cases hk : 3 ≤ S.size
    · have hA : hfL l = false := hf_big (by rw [hs]; omega)
      rw [hA]
      show Calls Tryd.prog _ #[.string ⟨l.toArray⟩] _ _
      rw [← hS]
      have hk' : (3 : Int) ≤ (S.size : Int) := by omega
      clear hs hA hS hlo hhi
      go_enter Tryd.func65, Tryd.ntmps65
      go_wp2
      go_ret
      exact ⟨rfl, Kept.refl _ _⟩
    have hk' : ¬ (3 : Int) ≤ (S.size : Int) := by omega
    have hF : Fresh w (w.alloc (.cells #[.int .u8 128, .int .u8 191] 96)) := (Kept.refl _ w).alloc _
    by_cases h1 : 1 < S.size
    · have hd1 : decide ((1 : Int) < (S.size : Int)) = true := decide_eq_true (by omega)
      obtain ⟨x1, hs1⟩ : ∃ x1, S[1]'h1 = x1 := ⟨_, rfl⟩
      have hx1 : x1.toNat = bN l 1 := by rw [← hs1]; exact hg 1 h1
      have h1z : (1 : Int) < (S.size : Int) := by omega
      by_cases c1 : x1.toNat < 128
      · have hA : hfL l = false := hf_byte (k := 1) (.inl rfl) (by omega) (fun e => by have := e.1; rw [hlo] at this; omega)
        have hd3 : decide (((x1.toNat : Nat) : Int) < 128) = true := decide_eq_true (by omega)
        rw [hA]
        show Calls Tryd.prog _ #[.string ⟨l.toArray⟩] _ _
        rw [← hS]
        clear hs hA hS hlo hhi hg hk hsz hl h0 hn0
        (try clear hx1)
        (try clear hx2)
        go_enter Tryd.func65, Tryd.ntmps65
        go_wp2
        go_quiet (fail)
        go_wp2
        go_ret
        exact ⟨rfl, hF.drewN _⟩
      have hd3 : decide (((x1.toNat : Nat) : Int) < 128) = false := decide_eq_false (by omega)
      by_cases c2 : 191 < x1.toNat
      · have hA : hfL l = false := hf_byte (k := 1) (.inl rfl) (by omega) (fun e => by have := e.2; rw [hhi] at this; omega)
        have hd4 : decide ((191 : Int) < ((x1.toNat : Nat) : Int)) = true := decide_eq_true (by omega)
        rw [hA]
        show Calls Tryd.prog _ #[.string ⟨l.toArray⟩] _ _
        rw [← hS]
        clear hs hA hS hlo hhi hg hk hsz hl h0 hn0
        (try clear hx1)
        (try clear hx2)
        go_enter Tryd.func65, Tryd.ntmps65
        go_wp2
        go_quiet (fail)
        go_wp2
        go_ret
        exact ⟨rfl, hF.drewN _⟩
      have hd4 : decide ((191 : Int) < ((x1.toNat : Nat) : Int)) = false := decide_eq_false (by omega)
      have hLa : LaN (bN l 0) 1 (bN l 1) := ⟨by rw [hlo]; omega, by rw [hhi]; omega⟩
      have hA : hfL l = true := hf_yes hn0 (by rw [hs]; omega) (fun _ => hLa) (fun e => absurd e (by omega))
      have hd2 : decide ((2 : Int) < (S.size : Int)) = false := decide_eq_false (by omega)
      rw [hA]
      show Calls Tryd.prog _ #[.string ⟨l.toArray⟩] _ _
      rw [← hS]
      clear hs hA hS hlo hhi hg hk hsz hl h0 hn0
      (try clear hx1)
      (try clear hx2)
      go_enter Tryd.func65, Tryd.ntmps65
      go_wp2
      go_quiet (fail)
      go_wp2
      go_ret
      exact ⟨rfl, hF.drewN _⟩
    · have hd1 : decide ((1 : Int) < (S.size : Int)) = false := decide_eq_false (by omega)
      have hd2 : decide ((2 : Int) < (S.size : Int)) = false := decide_eq_false (by omega)
      have hA : hfL l = true := hf_yes hn0 (by rw [hs]; omega) (fun e => absurd e (by omega)) (fun e => absurd e (by omega))
      rw [hA]
      show Calls Tryd.prog _ #[.string ⟨l.toArray⟩] _ _
      rw [← hS]
      clear hs hA hS hlo hhi hg hk hsz hl h0 hn0
      (try clear hx1)
      (try clear hx2)
      go_enter Tryd.func65, Tryd.ntmps65
      go_wp2
      go_quiet (fail)
      go_wp2
      go_ret
      exact ⟨rfl, hF.drewN _⟩
  · have ha0 := (hT2 2 (by decide)).1
    have ha1 := (hT2 2 (by decide)).2
    simp only [accLo, accHi, Nat.reduceMul, Nat.reduceAdd, Nat.reduceEqDiff, if_true, if_false] at ha0 ha1
    rw [hx] at hc0
    clear hT1 hT2 hx
    by_cases hk : 3 ≤ S.size
    · have hA : hfL l = false := hf_big (by rw [hs]; omega)
      rw [hA]
      show Calls Tryd.prog _ #[.string ⟨l.toArray⟩] _ _
      rw [← hS]
      have hk' : (3 : Int) ≤ (S.size : Int) := by omega
      clear hs hA hS hlo hhi
      go_enter Tryd.func65, Tryd.ntmps65
      go_wp2
      go_ret
      exact ⟨rfl, Kept.refl _ _⟩
    have hk' : ¬ (3 : Int) ≤ (S.size : Int) := by omega
    have hF : Fresh w (w.alloc (.cells #[.int .u8 128, .int .u8 159] 96)) := (Kept.refl _ w).alloc _
    by_cases h1 : 1 < S.size
    · have hd1 : decide ((1 : Int) < (S.size : Int)) = true := decide_eq_true (by omega)
      obtain ⟨x1, hs1⟩ : ∃ x1, S[1]'h1 = x1 := ⟨_, rfl⟩
      have hx1 : x1.toNat = bN l 1 := by rw [← hs1]; exact hg 1 h1
      have h1z : (1 : Int) < (S.size : Int) := by omega
      by_cases c1 : x1.toNat < 128
      · have hA : hfL l = false := hf_byte (k := 1) (.inl rfl) (by omega) (fun e => by have := e.1; rw [hlo] at this; omega)
        have hd3 : decide (((x1.toNat : Nat) : Int) < 128) = true := decide_eq_true (by omega)
        rw [hA]
        show Calls Tryd.prog _ #[.string ⟨l.toArray⟩] _ _
        rw [← hS]
        clear hs hA hS hlo hhi hg hk hsz hl h0 hn0
        (try clear hx1)
        (try clear hx2)
        go_enter Tryd.func65, Tryd.ntmps65
        go_wp2
        go_quiet (fail)
        go_wp2
        go_ret
        exact ⟨rfl, hF.drewN _⟩
      have hd3 : decide (((x1.toNat : Nat) : Int) < 128) = false := decide_eq_false (by omega)
      by_cases c2 : 159 < x1.toNat
      · have hA : hfL l = false := hf_byte (k := 1) (.inl rfl) (by omega) (fun e => by have := e.2; rw [hhi] at this; omega)
        have hd4 : decide ((159 : Int) < ((x1.toNat : Nat) : Int)) = true := decide_eq_true (by omega)
        rw [hA]
        show Calls Tryd.prog _ #[.string ⟨l.toArray⟩] _ _
        rw [← hS]
        clear hs hA hS hlo hhi hg hk hsz hl h0 hn0
        (try clear hx1)
        (try clear hx2)
        go_enter Tryd.func65, Tryd.ntmps65
        go_wp2
        go_quiet (fail)
        go_wp2
        go_ret
        exact ⟨rfl, hF.drewN _⟩
      have hd4 : decide ((159 : Int) < ((x1.toNat : Nat) : Int)) = false := decide_eq_false (by omega)
      have hLa : LaN (bN l 0) 1 (bN l 1) := ⟨by rw [hlo]; omega, by rw [hhi]; omega⟩
      have hA : hfL l = true := hf_yes hn0 (by rw [hs]; omega) (fun _ => hLa) (fun e => absurd e (by omega))
      have hd2 : decide ((2 : Int) < (S.size : Int)) = false := decide_eq_false (by omega)
      rw [hA]
      show Calls Tryd.prog _ #[.string ⟨l.toArray⟩] _ _
      rw [← hS]
      clear hs hA hS hlo hhi hg hk hsz hl h0 hn0
      (try clear hx1)
      (try clear hx2)
      go_enter Tryd.func65, Tryd.ntmps65
      go_wp2
      go_quiet (fail)
      go_wp2
      go_ret
      exact ⟨rfl, hF.drewN _⟩
    · have hd1 : decide ((1 : Int) < (S.size : Int)) = false := decide_eq_false (by omega)
      have hd2 : decide ((2 : Int) < (S.size : Int)) = false := decide_eq_false (by omega)
      have hA : hfL l = true := hf_yes hn0 (by rw [hs]; omega) (fun e => absurd e (by omega)) (fun e => absurd e (by omega))
      rw [hA]
      show Calls Tryd.prog _ #[.string ⟨l.toArray⟩] _ _
      rw [← hS]
      clear hs hA hS hlo hhi hg hk hsz hl h0 hn0
      (try clear hx1)
      (try clear hx2)
      go_enter Tryd.func65, Tryd.ntmps65
      go_wp2
      go_quiet (fail)
      go_wp2
      go_ret
      exact ⟨rfl, hF.drewN _⟩
  · have ha0 := (hT2 3 (by decide)).1
    have ha1 := (hT2 3 (by decide)).2
    simp only [accLo, accHi, Nat.reduceMul, Nat.reduceAdd, Nat.reduceEqDiff, if_true, if_false] at ha0 ha1
    rw [hx] at hc0
    clear hT1 hT2 hx
    by_cases hk : 4 ≤ S.size
    · have hA : hfL l = false := hf_big (by rw [hs]; omega)
      rw [hA]
      show Calls Tryd.prog _ #[.string ⟨l.toArray⟩] _ _
      rw [← hS]
      have hk' : (4 : Int) ≤ (S.size : Int) := by omega
      clear hs hA hS hlo hhi
      go_enter Tryd.func65, Tryd.ntmps65
      go_wp2
      go_ret
      exact ⟨rfl, Kept.refl _ _⟩
    have hk' : ¬ (4 : Int) ≤ (S.size : Int) := by omega
    have hF : Fresh w (w.alloc (.cells #[.int .u8 144, .int .u8 191] 96)) := (Kept.refl _ w).alloc _
    by_cases h1 : 1 < S.size
    · have hd1 : decide ((1 : Int) < (S.size : Int)) = true := decide_eq_true (by omega)
      obtain ⟨x1, hs1⟩ : ∃ x1, S[1]'h1 = x1 := ⟨_, rfl⟩
      have hx1 : x1.toNat = bN l 1 := by rw [← hs1]; exact hg 1 h1
      have h1z : (1 : Int) < (S.size : Int) := by omega
      by_cases c1 : x1.toNat < 144
      · have hA : hfL l = false := hf_byte (k := 1) (.inl rfl) (by omega) (fun e => by have := e.1; rw [hlo] at this; omega)
        have hd3 : decide (((x1.toNat : Nat) : Int) < 144) = true := decide_eq_true (by omega)
        rw [hA]
        show Calls Tryd.prog _ #[.string ⟨l.toArray⟩] _ _
        rw [← hS]
        clear hs hA hS hlo hhi hg hk hsz hl h0 hn0
        (try clear hx1)
        (try clear hx2)
        go_enter Tryd.func65, Tryd.ntmps65
        go_wp2
        go_quiet (fail)
        go_wp2
        go_ret
        exact ⟨rfl, hF.drewN _⟩
      have hd3 : decide (((x1.toNat : Nat) : Int) < 144) = false := decide_eq_false (by omega)
      by_cases c2 : 191 < x1.toNat
      · have hA : hfL l = false := hf_byte (k := 1) (.inl rfl) (by omega) (fun e => by have := e.2; rw [hhi] at this; omega)
        have hd4 : decide ((191 : Int) < ((x1.toNat : Nat) : Int)) = true := decide_eq_true (by omega)
        rw [hA]
        show Calls Tryd.prog _ #[.string ⟨l.toArray⟩] _ _
        rw [← hS]
        clear hs hA hS hlo hhi hg hk hsz hl h0 hn0
        (try clear hx1)
        (try clear hx2)
        go_enter Tryd.func65, Tryd.ntmps65
        go_wp2
        go_quiet (fail)
        go_wp2
        go_ret
        exact ⟨rfl, hF.drewN _⟩
      have hd4 : decide ((191 : Int) < ((x1.toNat : Nat) : Int)) = false := decide_eq_false (by omega)
      have hLa : LaN (bN l 0) 1 (bN l 1) := ⟨by rw [hlo]; omega, by rw [hhi]; omega⟩
      by_cases h2 : 2 < S.size
      · have hd2 : decide ((2 : Int) < (S.size : Int)) = true := decide_eq_true (by omega)
        obtain ⟨x2, hs2⟩ : ∃ x2, S[2]'h2 = x2 := ⟨_, rfl⟩
        have hx2 : x2.toNat = bN l 2 := by rw [← hs2]; exact hg 2 h2
        have h2z : (2 : Int) < (S.size : Int) := by omega
        by_cases c3 : x2.toNat < 128
        · have hA : hfL l = false := hf_byte (k := 2) (.inr rfl) (by omega) (fun e => by have := laN_bd e; omega)
          have hd5 : decide (((x2.toNat : Nat) : Int) < 128) = true := decide_eq_true (by omega)
          rw [hA]
          show Calls Tryd.prog _ #[.string ⟨l.toArray⟩] _ _
          rw [← hS]
          clear hs hA hS hlo hhi hg hk hsz hl h0 hn0
          (try clear hx1)
          (try clear hx2)
          go_enter Tryd.func65, Tryd.ntmps65
          go_wp2
          go_quiet (fail)
          go_wp2
          go_ret
          exact ⟨rfl, hF.drewN _⟩
        have hd5 : decide (((x2.toNat : Nat) : Int) < 128) = false := decide_eq_false (by omega)
        by_cases c4 : 191 < x2.toNat
        · have hA : hfL l = false := hf_byte (k := 2) (.inr rfl) (by omega) (fun e => by have := laN_bd e; omega)
          have hd6 : decide ((191 : Int) < ((x2.toNat : Nat) : Int)) = true := decide_eq_true (by omega)
          rw [hA]
          show Calls Tryd.prog _ #[.string ⟨l.toArray⟩] _ _
          rw [← hS]
          clear hs hA hS hlo hhi hg hk hsz hl h0 hn0
          (try clear hx1)
          (try clear hx2)
          go_enter Tryd.func65, Tryd.ntmps65
          go_wp2
          go_quiet (fail)
          go_wp2
          go_ret
          exact ⟨rfl, hF.drewN _⟩
        have hd6 : decide ((191 : Int) < ((x2.toNat : Nat) : Int)) = false := decide_eq_false (by omega)
        have hA : hfL l = true := hf_yes hn0 (by rw [hs]; omega) (fun _ => hLa) (fun _ => (laN_rest (by decide)).2 (by omega))
        rw [hA]
        show Calls Tryd.prog _ #[.string ⟨l.toArray⟩] _ _
        rw [← hS]
        clear hs hA hS hlo hhi hg hk hsz hl h0 hn0
        (try clear hx1)
        (try clear hx2)
        go_enter Tryd.func65, Tryd.ntmps65
        go_wp2
        go_quiet (fail)
        go_wp2
        go_ret
        exact ⟨rfl, hF.drewN _⟩
      · have hd2 : decide ((2 : Int) < (S.size : Int)) = false := decide_eq_false (by omega)
        have hA : hfL l = true := hf_yes hn0 (by rw [hs]; omega) (fun _ => hLa) (fun e => absurd e (by omega))
        rw [hA]
        show Calls Tryd.prog _ #[.string ⟨l.toArray⟩] _ _
        rw [← hS]
        clear hs hA hS hlo hhi hg hk hsz hl h0 hn0
        (try clear hx1)
        (try clear hx2)
        go_enter Tryd.func65, Tryd.ntmps65
        go_wp2
        go_quiet (fail)
        go_wp2
        go_ret
        exact ⟨rfl, hF.drewN _⟩
    · have hd1 : decide ((1 : Int) < (S.size : Int)) = false := decide_eq_false (by omega)
      have hd2 : decide ((2 : Int) < (S.size : Int)) = false := decide_eq_false (by omega)
      have hA : hfL l = true := hf_yes hn0 (by rw [hs]; omega) (fun e => absurd e (by omega)) (fun e => absurd e (by omega))
      rw [hA]
      show Calls Tryd.prog _ #[.string ⟨l.toArray⟩] _ _
      rw [← hS]
      clear hs hA hS hlo hhi hg hk hsz hl h0 hn0
      (try clear hx1)
      (try clear hx2)
      go_enter Tryd.func65, Tryd.ntmps65
      go_wp2
      go_quiet (fail)
      go_wp2
      go_ret
      exact ⟨rfl, hF.drewN _⟩
  · have ha0 := (hT2 0 (by decide)).1
    have ha1 := (hT2 0 (by decide)).2
    simp only [accLo, accHi, Nat.reduceMul, Nat.reduceAdd, Nat.reduceEqDiff, if_true, if_false] at ha0 ha1
    rw [hx] at hc0
    clear hT1 hT2 hx
    by_cases hk : 4 ≤ S.size
    · have hA : hfL l = false := hf_big (by rw [hs]; omega)
      rw [hA]
      show Calls Tryd.prog _ #[.string ⟨l.toArray⟩] _ _
      rw [← hS]
      have hk' : (4 : Int) ≤ (S.size : Int) := by omega
      clear hs hA hS hlo hhi
      go_enter Tryd.func65, Tryd.ntmps65
      go_wp2
      go_ret
      exact ⟨rfl, Kept.refl _ _⟩
    have hk' : ¬ (4 : Int) ≤ (S.size : Int) := by omega
    have hF : Fresh w (w.alloc (.cells #[.int .u8 128, .int .u8 191] 96)) := (Kept.refl _ w).alloc _
    by_cases h1 : 1 < S.size
    · have hd1 : decide ((1 : Int) < (S.size : Int)) = true := decide_eq_true (by omega)
      obtain ⟨x1, hs1⟩ : ∃ x1, S[1]'h1 = x1 := ⟨_, rfl⟩
      have hx1 : x1.toNat = bN l 1 := by rw [← hs1]; exact hg 1 h1
      have h1z : (1 : Int) < (S.size : Int) := by omega
      by_cases c1 : x1.toNat < 128
      · have hA : hfL l = false := hf_byte (k := 1) (.inl rfl) (by omega) (fun e => by have := e.1; rw [hlo] at this; omega)
        have hd3 : decide (((x1.toNat : Nat) : Int) < 128) = true := decide_eq_true (by omega)
        rw [hA]
        show Calls Tryd.prog _ #[.string ⟨l.toArray⟩] _ _
        rw [← hS]
        clear hs hA hS hlo hhi hg hk hsz hl h0 hn0
        (try clear hx1)
        (try clear hx2)
        go_enter Tryd.func65, Tryd.ntmps65
        go_wp2
        go_quiet (fail)
        go_wp2
        go_ret
        exact ⟨rfl, hF.drewN _⟩
      have hd3 : decide (((x1.toNat : Nat) : Int) < 128) = false := decide_eq_false (by omega)
      by_cases c2 : 191 < x1.toNat
      · have hA : hfL l = false := hf_byte (k := 1) (.inl rfl) (by omega) (fun e => by have := e.2; rw [hhi] at this; omega)
        have hd4 : decide ((191 : Int) < ((x1.toNat : Nat) : Int)) = true := decide_eq_true (by omega)
        rw [hA]
        show Calls Tryd.prog _ #[.string ⟨l.toArray⟩] _ _
        rw [← hS]
        clear hs hA hS hlo hhi hg hk hsz hl h0 hn0
        (try clear hx1)
        (try clear hx2)
        go_enter Tryd.func65, Tryd.ntmps65
        go_wp2
        go_quiet (fail)
        go_wp2
        go_ret
        exact ⟨rfl, hF.drewN _⟩
      have hd4 : decide ((191 : Int) < ((x1.toNat : Nat) : Int)) = false := decide_eq_false (by omega)
      have hLa : LaN (bN l 0) 1 (bN l 1) := ⟨by rw [hlo]; omega, by rw [hhi]; omega⟩
      by_cases h2 : 2 < S.size
      · have hd2 : decide ((2 : Int) < (S.size : Int)) = true := decide_eq_true (by omega)
        obtain ⟨x2, hs2⟩ : ∃ x2, S[2]'h2 = x2 := ⟨_, rfl⟩
        have hx2 : x2.toNat = bN l 2 := by rw [← hs2]; exact hg 2 h2
        have h2z : (2 : Int) < (S.size : Int) := by omega
        by_cases c3 : x2.toNat < 128
        · have hA : hfL l = false := hf_byte (k := 2) (.inr rfl) (by omega) (fun e => by have := laN_bd e; omega)
          have hd5 : decide (((x2.toNat : Nat) : Int) < 128) = true := decide_eq_true (by omega)
          rw [hA]
          show Calls Tryd.prog _ #[.string ⟨l.toArray⟩] _ _
          rw [← hS]
          clear hs hA hS hlo hhi hg hk hsz hl h0 hn0
          (try clear hx1)
          (try clear hx2)
          go_enter Tryd.func65, Tryd.ntmps65
          go_wp2
          go_quiet (fail)
          go_wp2
          go_ret
          exact ⟨rfl, hF.drewN _⟩
        have hd5 : decide (((x2.toNat : Nat) : Int) < 128) = false := decide_eq_false (by omega)
        by_cases c4 : 191 < x2.toNat
        · have hA : hfL l = false := hf_byte (k := 2) (.inr rfl) (by omega) (fun e => by have := laN_bd e; omega)
          have hd6 : decide ((191 : Int) < ((x2.toNat : Nat) : Int)) = true := decide_eq_true (by omega)
          rw [hA]
          show Calls Tryd.prog _ #[.string ⟨l.toArray⟩] _ _
          rw [← hS]
          clear hs hA hS hlo hhi hg hk hsz hl h0 hn0
          (try clear hx1)
          (try clear hx2)
          go_enter Tryd.func65, Tryd.ntmps65
          go_wp2
          go_quiet (fail)
          go_wp2
          go_ret
          exact ⟨rfl, hF.drewN _⟩
        have hd6 : decide ((191 : Int) < ((x2.toNat : Nat) : Int)) = false := decide_eq_false (by omega)
        have hA : hfL l = true := hf_yes hn0 (by rw [hs]; omega) (fun _ => hLa) (fun _ => (laN_rest (by decide)).2 (by omega))
        rw [hA]
        show Calls Tryd.prog _ #[.string ⟨l.toArray⟩] _ _
        rw [← hS]
        clear hs hA hS hlo hhi hg hk hsz hl h0 hn0
        (try clear hx1)
        (try clear hx2)
        go_enter Tryd.func65, Tryd.ntmps65
        go_wp2
        go_quiet (fail)
        go_wp2
        go_ret
        exact ⟨rfl, hF.drewN _⟩
      · have hd2 : decide ((2 : Int) < (S.size : Int)) = false := decide_eq_false (by omega)
        have hA : hfL l = true := hf_yes hn0 (by rw [hs]; omega) (fun _ => hLa) (fun e => absurd e (by omega))
        rw [hA]
        show Calls Tryd.prog _ #[.string ⟨l.toArray⟩] _ _
        rw [← hS]
        clear hs hA hS hlo hhi hg hk hsz hl h0 hn0
        (try clear hx1)
        (try clear hx2)
        go_enter Tryd.func65, Tryd.ntmps65
        go_wp2
        go_quiet (fail)
        go_wp2
        go_ret
        exact ⟨rfl, hF.drewN _⟩
    · have hd1 : decide ((1 : Int) < (S.size : Int)) = false := decide_eq_false (by omega)
      have hd2 : decide ((2 : Int) < (S.size : Int)) = false := decide_eq_false (by omega)
      have hA : hfL l = true := hf_yes hn0 (by rw [hs]; omega) (fun e => absurd e (by omega)) (fun e => absurd e (by omega))
      rw [hA]
      show Calls Tryd.prog _ #[.string ⟨l.toArray⟩] _ _
      rw [← hS]
      clear hs hA hS hlo hhi hg hk hsz hl h0 hn0
      (try clear hx1)
      (try clear hx2)
      go_enter Tryd.func65, Tryd.ntmps65
      go_wp2
      go_quiet (fail)
      go_wp2
      go_ret
      exact ⟨rfl, hF.drewN _⟩
  · have ha0 := (hT2 4 (by decide)).1
    have ha1 := (hT2 4 (by decide)).2
    simp only [accLo, accHi, Nat.reduceMul, Nat.reduceAdd, Nat.reduceEqDiff, if_true, if_false] at ha0 ha1
    rw [hx] at hc0
    clear hT1 hT2 hx
    by_cases hk : 4 ≤ S.size
    · have hA : hfL l = false := hf_big (by rw [hs]; omega)
      rw [hA]
      show Calls Tryd.prog _ #[.string ⟨l.toArray⟩] _ _
      rw [← hS]
      have hk' : (4 : Int) ≤ (S.size : Int) := by omega
      clear hs hA hS hlo hhi
      go_enter Tryd.func65, Tryd.ntmps65
      go_wp2
      go_ret
      exact ⟨rfl, Kept.refl _ _⟩
    have hk' : ¬ (4 : Int) ≤ (S.size : Int) := by omega
    have hF : Fresh w (w.alloc (.cells #[.int .u8 128, .int .u8 143] 96)) := (Kept.refl _ w).alloc _
    by_cases h1 : 1 < S.size
    · have hd1 : decide ((1 : Int) < (S.size : Int)) = true := decide_eq_true (by omega)
      obtain ⟨x1, hs1⟩ : ∃ x1, S[1]'h1 = x1 := ⟨_, rfl⟩
      have hx1 : x1.toNat = bN l 1 := by rw [← hs1]; exact hg 1 h1
      have h1z : (1 : Int) < (S.size : Int) := by omega
      by_cases c1 : x1.toNat < 128
      · have hA : hfL l = false := hf_byte (k := 1) (.inl rfl) (by omega) (fun e => by have := e.1; rw [hlo] at this; omega)
        have hd3 : decide (((x1.toNat : Nat) : Int) < 128) = true := decide_eq_true (by omega)
        rw [hA]
        show Calls Tryd.prog _ #[.string ⟨l.toArray⟩] _ _
        rw [← hS]
        clear hs hA hS hlo hhi hg hk hsz hl h0 hn0
        (try clear hx1)
        (try clear hx2)
        go_enter Tryd.func65, Tryd.ntmps65
        go_wp2
        go_quiet (fail)
        go_wp2
        go_ret
        exact ⟨rfl, hF.drewN _⟩
      have hd3 : decide (((x1.toNat : Nat) : Int) < 128) = false := decide_eq_false (by omega)
      by_cases c2 : 143 < x1.toNat
      · have hA : hfL l = false := hf_byte (k := 1) (.inl rfl) (by omega) (fun e => by have := e.2; rw [hhi] at this; omega)
        have hd4 : decide ((143 : Int) < ((x1.toNat : Nat) : Int)) = true := decide_eq_true (by omega)
        rw [hA]
        show Calls Tryd.prog _ #[.string ⟨l.toArray⟩] _ _
        rw [← hS]
        clear hs hA hS hlo hhi hg hk hsz hl h0 hn0
        (try clear hx1)
        (try clear hx2)
        go_enter Tryd.func65, Tryd.ntmps65
        go_wp2
        go_quiet (fail)
        go_wp2
        go_ret
        exact ⟨rfl, hF.drewN _⟩
      have hd4 : decide ((143 : Int) < ((x1.toNat : Nat) : Int)) = false := decide_eq_false (by omega)
      have hLa : LaN (bN l 0) 1 (bN l 1) := ⟨by rw [hlo]; omega, by rw [hhi]; omega⟩
      by_cases h2 : 2 < S.size
      · have hd2 : decide ((2 : Int) < (S.size : Int)) = true := decide_eq_true (by omega)
        obtain ⟨x2, hs2⟩ : ∃ x2, S[2]'h2 = x2 := ⟨_, rfl⟩
        have hx2 : x2.toNat = bN l 2 := by rw [← hs2]; exact hg 2 h2
        have h2z : (2 : Int) < (S.size : Int) := by omega
        by_cases c3 : x2.toNat < 128
        · have hA : hfL l = false := hf_byte (k := 2) (.inr rfl) (by omega) (fun e => by have := laN_bd e; omega)
          have hd5 : decide (((x2.toNat : Nat) : Int) < 128) = true := decide_eq_true (by omega)
          rw [hA]
          show Calls Tryd.prog _ #[.string ⟨l.toArray⟩] _ _
          rw [← hS]
          clear hs hA hS hlo hhi hg hk hsz hl h0 hn0
          (try clear hx1)
          (try clear hx2)
          go_enter Tryd.func65, Tryd.ntmps65
          go_wp2
          go_quiet (fail)
          go_wp2
          go_ret
          exact ⟨rfl, hF.drewN _⟩
        have hd5 : decide (((x2.toNat : Nat) : Int) < 128) = false := decide_eq_false (by omega)
        by_cases c4 : 191 < x2.toNat
        · have hA : hfL l = false := hf_byte (k := 2) (.inr rfl) (by omega) (fun e => by have := laN_bd e; omega)
          have hd6 : decide ((191 : Int) < ((x2.toNat : Nat) : Int)) = true := decide_eq_true (by omega)
          rw [hA]
          show Calls Tryd.prog _ #[.string ⟨l.toArray⟩] _ _
          rw [← hS]
          clear hs hA hS hlo hhi hg hk hsz hl h0 hn0
          (try clear hx1)
          (try clear hx2)
          go_enter Tryd.func65, Tryd.ntmps65
          go_wp2
          go_quiet (fail)
          go_wp2
          go_ret
          exact ⟨rfl, hF.drewN _⟩
        have hd6 : decide ((191 : Int) < ((x2.toNat : Nat) : Int)) = false := decide_eq_false (by omega)
        have hA : hfL l = true := hf_yes hn0 (by rw [hs]; omega) (fun _ => hLa) (fun _ => (laN_rest (by decide)).2 (by omega))
        rw [hA]
        show Calls Tryd.prog _ #[.string ⟨l.toArray⟩] _ _
        rw [← hS]
        clear hs hA hS hlo hhi hg hk hsz hl h0 hn0
        (try clear hx1)
        (try clear hx2)
        go_enter Tryd.func65, Tryd.ntmps65
        go_wp2
        go_quiet (fail)
        go_wp2
        go_ret
        exact ⟨rfl, hF.drewN _⟩
      · have hd2 : decide ((2 : Int) < (S.size : Int)) = false := decide_eq_false (by omega)
        have hA : hfL l = true := hf_yes hn0 (by rw [hs]; omega) (fun _ => hLa) (fun e => absurd e (by omega))
        rw [hA]
        show Calls Tryd.prog _ #[.string ⟨l.toArray⟩] _ _
        rw [← hS]
        clear hs hA hS hlo hhi hg hk hsz hl h0 hn0
        (try clear hx1)
        (try clear hx2)
        go_enter Tryd.func65, Tryd.ntmps65
        go_wp2
        go_quiet (fail)
        go_wp2
        go_ret
        exact ⟨rfl, hF.drewN _⟩
    · have hd1 : decide ((1 : Int) < (S.size : Int)) = false := decide_eq_false (by omega)
      have hd2 : decide ((2 : Int) < (S.size : Int)) = false := decide_eq_false (by omega)
      have hA : hfL l = true := hf_yes hn0 (by rw [hs]; omega) (fun e => absurd e (by omega)) (fun e => absurd e (by omega))
      rw [hA]
      show Calls Tryd.prog _ #[.string ⟨l.toArray⟩] _ _
      rw [← hS]
      clear hs hA hS hlo hhi hg hk hsz hl h0 hn0
      (try clear hx1)
      (try clear hx2)
      go_enter Tryd.func65, Tryd.ntmps65
      go_wp2
      go_quiet (fail)
      go_wp2
      go_ret
      exact ⟨rfl, hF.drewN _⟩
end Go.Proofs.YtomeoklhjdgaoaaDoor
