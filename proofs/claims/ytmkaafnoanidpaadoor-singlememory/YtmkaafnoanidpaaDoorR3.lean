/-
  Rows of singles: read, copied, compared (layer 3).
-/
import Derived.Test.YtmkaafnoanidpaaDoorQr
import Derived.Deep.AppendSrc
import Derived.Lib.AppendZeros
namespace Go.Proofs.YtmkaafnoanidpaaDoor.R3
open Go.ChangeShapes Go.WideShapes Go.ChangeAt Go.RowKit

theorem Tryd.info32 : (Tryd.prog.info? 22).map (fun i => (i.zero, i.size, i.bytes)) = some (some (.int .u32 0), 1, 4) := by kernel_rfl

def v32 (bs : List Nat) : List Value := bs.map fun b => .int .u32 (b : Nat)
theorem own32_empty (w : World) : (w.alloc (.cells #[] 22)).ownsRow w.heap.size 22 1 (.slice (some ⟨w.heap.size, 0, none⟩) 0 0) 0 [] :=
  ⟨rfl, .inr ⟨w.heap.size, 0, #[], rfl, Nat.le_refl _, heap_alloc_new w _, Nat.le_refl _, Nat.zero_le _, rfl, rfl⟩⟩
theorem r32_of_own {B : Nat} {w : World} {v : Value} {bs : List Nat} (h : w.ownsRow B 22 1 v bs.length (v32 bs)) (hl : bs.length ≤ 35184372088832) (hz : ∀ z ∈ bs, z < 4294967296) : R32 (fun k => B ≤ k) w v bs := by
  rcases h.2 with ⟨rfl, h0⟩ | ⟨g, cap, cur, rfl, hb, hg, _⟩
  · have e : bs = [] := List.eq_nil_of_length_eq_zero h0
    subst e
    exact ⟨none, 0, rfl, by simp, fun h => absurd rfl h, by simp, fun _ => rfl⟩
  · refine ⟨_, cap, rfl, hl, fun _ => ⟨g, 0, rfl, hb, lt_of_heap hg, fun i hi => ?_⟩, hz, fun e => by cases e⟩
    rw [Nat.zero_add, h.cellAt i (by omega)]
    unfold v32
    rw [List.getElem?_map, List.getD_eq_getElem?_getD, List.getElem?_eq_getElem hi]
    rfl

/-- append([]uint32{}, row...). -/
theorem twin32 (ty : TypeId) (W : World) (B : Nat) (v0 : Value) (hown : W.ownsRow B 22 1 v0 0 []) (hB : B ≤ W.heap.size) (rv : Value) (zs : List Nat) (p : Nat → Prop) (hr : R32 p W rv zs) :
    ∃ tv W', (Builtin.append_ #[27, 27] ty #[v0, rv]).run Tryd.prog W = .ok tv W' ∧ W'.ownsRow B 22 1 tv zs.length (v32 zs) ∧ W.grownBy W' v0.ownBlock := by
  obtain ⟨i0, hi, hz0, hz1, hz2⟩ := info_parts Tryd.info32
  obtain ⟨ao, cap, rfl, hzl, hcell, _, hn⟩ := hr
  cases ao with
  | none =>
    have e : zs = [] := by
      rcases zs with _ | ⟨z, r⟩
      · rfl
      · obtain ⟨b, off, h, _⟩ := hcell (by simp)
        cases h
    subst e
    rw [hn rfl]
    exact ⟨v0, W, run_append_owned_none (P := Tryd.prog) W B _ _ _ i0 1 Tryd.underlying27 hi v0 0 [] hown, by simpa [v32] using hown, ⟨rfl, rfl, rfl, Nat.le_refl _, fun _ _ _ => rfl⟩⟩
  | some a =>
    obtain ⟨v', w', h1, h2, h3, _⟩ := run_append_own (P := Tryd.prog) W B 27 ty 22 i0 (.int .u32 0) 1 4 Tryd.underlying27 hi hz0 hz1 hz2 rfl (by omega) v0 0 [] hown a zs.length cap (v32 zs) (by simp [v32])
      (fun j u hj => by
        have hj' : j < zs.length := by have := (List.getElem?_eq_some_iff.1 hj).1; simpa [v32] using this
        obtain ⟨b, off, h, _, _, hc⟩ := hcell (fun e => by rw [e] at hj'; simp at hj')
        simp only [Option.some.injEq] at h
        subst h
        unfold v32 at hj; rw [List.getElem?_map, List.getElem?_eq_getElem hj'] at hj
        simp only [Option.map_some, Option.some.injEq] at hj
        have := hc j hj'
        rw [List.getD_eq_getElem?_getD, List.getElem?_eq_getElem hj'] at this
        rw [← hj, Addr.add_lit]
        exact this)
      (fun u hu => by unfold v32 at hu; obtain ⟨_, _, rfl⟩ := List.mem_map.1 hu; rfl) (by unfold maxLen; omega) (by omega) hB
    rw [Nat.zero_add, List.nil_append] at h2
    exact ⟨v', w', h1, h2, h3⟩

theorem u32_of {x : Int} (h : (Lit.int .u32 x).wf = true) : 0 ≤ x ∧ x ≤ 4294967295 := by
  simp [Lit.wf, IntKind.min, IntKind.max, IntKind.signed, IntKind.bits] at h
  omega
theorem Tryd.c32 : Tryd.prog.cellsOf 22 = 1 := by kernel_rfl
theorem Tryd.b32 : Tryd.prog.bytesOf 22 = 4 := by kernel_rfl
/-- A slice of uint32, out of its reading. -/
theorem r32_of {H : Type} {enc : TypeId × Value → H} {W : World} {fuel : Nat} {v : Value} {x : DataW H × List MemPlace} (h : DataW.trod enc Tryd.prog W 0 (fun _ => true) true fuel 27 [v] = some x)
    (hsz : ∀ es sp, x.1 = .slice es sp → es.length ≤ 35184372088832) : ∃ bs : List Nat, R32 (fun b => b < W.heap.size) W v bs := by
  rcases open_ints Tryd.underlying27 Tryd.underlying22 Tryd.c32 h with ⟨hcs, hx⟩ | ⟨a, len, cap, zs, hcs, _, hl, hm, hz, hx, hcell, hwz⟩
  · exact ⟨[], none, 0, by simpa using hcs, by simp, fun h0 => absurd rfl h0, by simp, fun _ => rfl⟩
  · simp only [if_true] at hz
    have htl : ((zs.take len).map Int.toNat).length = len := by rw [List.length_map, List.length_take]; omega
    refine ⟨(zs.take len).map Int.toNat, some a, cap, ?_, ?_, fun h0 => ?_, ?_, fun e => by cases e⟩
    · rw [htl]; simpa using hcs
    · have := hsz _ _ (by rw [hx])
      simpa [lits] using this
    · have hpos : 0 < len := by
        rcases Nat.eq_zero_or_pos len with e | e
        · subst e; simp at h0
        · exact e
      obtain ⟨b, off, rfl, hc⟩ := ints_at hcell (by omega)
      refine ⟨b, off, rfl, ?_, ?_, fun i hi => ?_⟩
      · have := World.block_lt_of_cell? W _ (hc 0 (by omega)); simpa using this
      · have := World.block_lt_of_cell? W _ (hc 0 (by omega)); simpa using this
      · rw [htl] at hi
        have hw := u32_of (hwz (zs[i]'(by omega)) (List.getElem_mem _))
        rw [hc i (by omega), List.getD_eq_getElem?_getD, List.getD_eq_getElem?_getD, List.getElem?_map, List.getElem?_take_of_lt hi, List.getElem?_eq_getElem (by omega)]
        simp only [Option.map_some, Option.getD_some]
        rw [Int.toNat_of_nonneg hw.1]
    · intro z hzm
      obtain ⟨y, hy, rfl⟩ := List.mem_map.1 hzm
      have := u32_of (hwz y (List.mem_of_mem_take hy))
      omega

set_option maxHeartbeats 800000 in
theorem bits_any (p q : Nat → Prop) (ra rb : Value) (za zb : List Nat) (w : World) (ha : R32 p w ra za) (hb : R32 q w rb zb) :
    Calls Tryd.prog 15 #[ra, rb] w fun e w' => e = .returned (.bool (decide (za = zb))) ∧ ∃ n, w' = w.drewN n := by
  obtain ⟨ao, capa, rfl, hla, hca, _⟩ := ha
  obtain ⟨bo, capb, rfl, hlb, hcb, _⟩ := hb
  by_cases hl : za.length = zb.length
  · have hl' : ((za.length : Int) == (zb.length : Int)) = true := by simp [hl]
    go_enter Tryd.func15, Tryd.ntmps15
    rw [hl]
    go_wp2
    go_loopw [5] (fun i wr => ∃ j : Nat, j ≤ zb.length ∧ i = .int .i64 j ∧ za.take j = zb.take j ∧ ∃ n, wr = w.drewN n) (fun i _ => zb.length - (intOf i).toNat)
    case atStart => exact ⟨0, by omega, rfl, by simp, 0, rfl⟩
    case round =>
      obtain ⟨j, hj, rfl, heq, n, hwr⟩ := hrel
      by_cases hlt : j < zb.length
      · obtain ⟨b1, o1, rfl, _, _, hc1⟩ := hca (fun e => by rw [e] at hl; simp at hl; omega)
        obtain ⟨b2, o2, rfl, _, _, hc2⟩ := hcb (fun e => by rw [e] at hlt; simp at hlt)
        have g1 : wr.cell? ⟨b1, o1 + j, none⟩ = some (.int .u32 (za.getD j 0 : Nat)) := by rw [hwr]; exact hc1 j (by omega)
        have g2 : wr.cell? ⟨b2, o2 + j, none⟩ = some (.int .u32 (zb.getD j 0 : Nat)) := by rw [hwr]; exact hc2 j hlt
        have hwn : ∀ m, ∃ n', wr.drewN m = w.drewN n' := fun m => ⟨n + m, by rw [hwr]; simp [World.drewN, Nat.add_assoc]⟩
        have hsn : za.getD j 0 = zb.getD j 0 → za.take (j + 1) = zb.take (j + 1) := fun e => by
          rw [List.getD_eq_getElem?_getD, List.getD_eq_getElem?_getD, List.getElem?_eq_getElem (by omega), List.getElem?_eq_getElem hlt] at e
          have e' : za[j]'(by omega) = zb[j] := e
          rw [List.take_succ_eq_append_getElem (by omega), List.take_succ_eq_append_getElem hlt, heq, e']
        have hne : za.getD j 0 ≠ zb.getD j 0 → decide (za = zb) = false := fun e => by
          rw [decide_eq_false_iff_not]; rintro rfl; exact e rfl
        have HS := show Hid _ from hsn
        have HN := show Hid _ from hne
        have HW := show Hid _ from hwn
        have HE := show Hid _ from heq
        clear hc1 hc2 hsn hne hwn hwr heq hca hcb
        have hj0 : (0 : Int) ≤ (j : Int) := by omega
        have hj1 : (j : Int) < (zb.length : Int) := by omega
        generalize za.getD j 0 = x at *
        generalize zb.getD j 0 = y at *
        by_cases hxy : x = y
        · subst hxy
          go_wp2_with fail
          go_quiet (fail)
          go_wp2
          go_roundw
          case rel => exact ⟨j + 1, by omega, by go_num, HS.out (by trivial), HW.out _⟩
          case measure => simp [intOf]; omega
        · have hb1 : ((x : Int) != (y : Int)) = true := by simp; omega
          go_wp2_with fail
          go_quiet (fail)
          go_wp2
          go_ret
          exact ⟨ret_bool (HN.out hxy).symm, HW.out _⟩
      · obtain rfl : j = zb.length := by omega
        have he : za = zb := by
          rw [List.take_length, ← hl, List.take_length] at heq
          exact heq
        have HD : Hid (decide (za = zb) = true) := by show decide _ = true; simp [he]
        have HW : Hid (∃ n, wr = w.drewN n) := ⟨n, hwr⟩
        clear hwr he heq
        go_wp2
        go_ret
        exact ⟨ret_bool HD.out.symm, HW.out⟩
  · have hl' : ((za.length : Int) != (zb.length : Int)) = true := by simp; omega
    have HD : Hid (decide (za = zb) = false) := by show decide _ = false; rw [decide_eq_false_iff_not]; rintro rfl; exact hl rfl
    go_enter Tryd.func15, Tryd.ntmps15
    go_wp2
    go_ret
    exact ⟨ret_bool HD.out.symm, 0, rfl⟩

end Go.Proofs.YtmkaafnoanidpaaDoor.R3
