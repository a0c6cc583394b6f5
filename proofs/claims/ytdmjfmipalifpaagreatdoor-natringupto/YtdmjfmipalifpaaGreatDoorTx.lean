/-
  Decimal texts of the program: FormatUint, padded.
-/
import Derived.Test.YtdmjfmipalifpaaGreatDoorTxN
import Derived.Test.YtdmjfmipalifpaaGreatDoorWv
import Derived.Shelf.Strconv.Itoa3
namespace Go.Proofs.YtdmjfmipalifpaaGreatDoor
open Go.RowKit Go.Shelf Go.Sort

/-- The library's table of powers of ten holds them. -/
def Pw (w : World) : Prop := Lib.TabIs Tryz.prog w "internal/strconv.uint64pow10" .u64 Lib.pow10Tab
theorem Pw.fresh {w w' : World} (h : Pw w) (hk : Fresh w w') : Pw w' := by
  unfold Pw Lib.TabIs World.var? at *
  have hg : Tryz.prog.globalNamed "internal/strconv.uint64pow10" = some 4 := by kernel_rfl
  rw [hg] at h ⊢
  simp only [Option.bind_some] at h ⊢
  rcases Nat.lt_or_ge 4 w.heap.size with hl | hl
  · rw [hk.block _ hl (fun e => e)]; exact h
  · rw [Array.getElem?_eq_none hl] at h; simp at h

/-- A text. -/
abbrev sB (l : List UInt8) : ByteArray := ⟨l.toArray⟩

/-- A row put into a new block turns nothing else. -/
theorem fresh_put {w : World} {α : Type} [Inhabited α] (enc : α → Value) (o : Obj) (off : Nat) (d : Array α) (k : Nat) : Fresh w ((putRow enc (w.alloc o) w.heap.size off d).drewN k) := by
  refine ⟨rfl, rfl, rfl, ?_, fun i hi _ => ?_⟩
  · show w.heap.size ≤ (putRow enc (w.alloc o) w.heap.size off d).heap.size
    rw [size_putRow]; simp
  · show (putRow enc (w.alloc o) w.heap.size off d).heap[i]? = _
    simp only [putRow, mapBlock, Array.getElem?_modify]
    rw [if_neg (by omega)]
    exact Below.heap_alloc _ _ _ hi

set_option maxHeartbeats 400000 in
set_option maxRecDepth 100000 in
theorem intFormatUint_any (u : Nat) (hu : u < 18446744073709551616) (w : World) (hT : Pw w) :
    Calls Tryz.prog 82 #[.int .u64 u, .int .i64 10] w fun e w' => e = .returned (.string (sB (Lib.decDigits u))) ∧ Fresh w w' := by
  by_cases hs : u < 100
  · have hsm := fun W => Tryz.internal_strconv_small u hs W
    go_enter Tryz.func82, Tryz.ntmps82
    go_wp2_with fail
    refine (hsm _).mono ?_
    rintro e w1 ⟨rfl, rfl⟩
    go_wp2
    go_ret
    exact ⟨rfl, Kept.refl _ _⟩
  · have hnd20 : Lib.nDigits u ≤ 20 := by have := Lib.numDigits_eq u (by omega) hu; split at this <;> omega
    have hal : Tryz.prog.arrayLen 128 = 24 := by kernel_rfl
    have hH0 : Holds (fun (b : UInt8) => Value.int .u8 (b.toNat : Int)) (w.alloc (.cells Lib.zeros24 128)) w.heap.size 0 (Array.replicate (Lib.nDigits u) (0 : UInt8)) := fun j hj => by
      have hj' : j < Lib.nDigits u := by simpa using hj
      refine ⟨?_, World.frozen?_alloc_new _ _ _ _⟩
      rw [World.cell?_alloc_new, Lib.zeros24_at _ (by omega), getElem!_pos _ j hj]
      simp
    have hfmt := Tryz.internal_strconv_formatBase10 w.heap.size 0 24 u (Array.replicate (Lib.nDigits u) 0) (w.alloc (.cells Lib.zeros24 128)) hH0 (by rw [Array.size_replicate]; exact Lib.lt_pow_nDigits u) hu (by rw [Array.size_replicate]; omega)
    rw [Array.size_replicate] at hfmt
    have hnum := Tryz.internal_strconv_numDigits u (by omega) hu (w.alloc (.cells Lib.zeros24 128)) (Lib.tabIs_alloc hT _)
    have HH0 := show Hid _ from hH0
    have hsl : ∀ W, (Instr.sliceAt 128 (.pointer (some ⟨w.heap.size, 0, none⟩)) none (some (.int .i64 (Lib.nDigits u : Int))) none).run Tryz.prog W = .ok (.slice (some ⟨w.heap.size, 0, none⟩) (Lib.nDigits u) 24) W := fun W => by
      rw [run_sliceAt_array_h W 128 ⟨w.heap.size, 0, none⟩ (by simp [Program.arrayLen, Program.elem, Tryz.underlying128]) .i64 (Lib.nDigits u : Int) (by omega) (by rw [hal]; omega)]
      go_simp
    clear hH0 hal
    go_enter Tryz.func82, Tryz.ntmps82
    go_wp2_with (go_at_call 104; refine hnum.mono ?_; rintro e w' ⟨rfl, rfl⟩)
    refine hfmt.mono ?_
    rintro e w' ⟨rfl, k, v', dk, rfl, hF⟩
    have hcv : (convert 73 9 (.slice (some ⟨w.heap.size, 0, none⟩) (Lib.nDigits u) 24)).run Tryz.prog ((putRow (fun (b : UInt8) => Value.int .u8 (b.toNat : Int)) (w.alloc (.cells Lib.zeros24 128)) w.heap.size 0 dk).drewN k) = .ok (.string ⟨(Lib.decDigits u).toArray⟩) ((putRow (fun (b : UInt8) => Value.int .u8 (b.toNat : Int)) (w.alloc (.cells Lib.zeros24 128)) w.heap.size 0 dk).drewN k) := by
      have h := run_convert_bytes_back (P := Tryz.prog) ((putRow (fun (b : UInt8) => Value.int .u8 (b.toNat : Int)) (w.alloc (.cells Lib.zeros24 128)) w.heap.size 0 dk).drewN k) 73 9 5 ⟨w.heap.size, 0, none⟩ 24 (Lib.decDigits u) Tryz.underlying73 Tryz.underlying5 Tryz.underlying9 (fun j hj => by
        rw [Lib.row_is_numeral hF j hj, Lib.add_plain, World.cell?_drewN]
        exact cell?_putRow (fun (b : UInt8) => Value.int .u8 (b.toNat : Int)) _ w.heap.size 0 _ dk HH0.out (by rw [hF.size, Array.size_replicate]) j (by rw [hF.size]; rw [Lib.decDigits_length] at hj; exact hj))
      rw [Lib.decDigits_length] at h
      exact h
    have hfr : Fresh w ((putRow (fun (b : UInt8) => Value.int .u8 (b.toNat : Int)) (w.alloc (.cells Lib.zeros24 128)) w.heap.size 0 dk).drewN k) := fresh_put _ _ _ _ _
    have HFR := show Hid _ from hfr
    generalize (putRow (fun (b : UInt8) => Value.int .u8 (b.toNat : Int)) (w.alloc (.cells Lib.zeros24 128)) w.heap.size 0 dk).drewN k = W3 at *
    clear hfr HH0 hF hfmt hnum
    go_wp2
    go_ret
    exact ⟨rfl, HFR.out⟩
end Go.Proofs.YtdmjfmipalifpaaGreatDoor
