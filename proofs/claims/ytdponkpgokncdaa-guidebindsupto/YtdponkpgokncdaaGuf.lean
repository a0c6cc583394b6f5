/-
  lay: the walk.
-/
import Derived.Test.YtdponkpgokncdaaGue
import Derived.BigQuiet
namespace Go.Proofs.Ytdponkpgokncdaa
open Go.RowKit Go.Lib Go.Maps

/-- An edge as a value. -/
abbrev eV (e : Ed) : Value := .agg #[zV e.f, .int .u8 (e.lo : Int), .int .u8 (e.hi : Int), zV e.t]
theorem wrap_i16' {x : Int} (h1 : -32768 ≤ x) (h2 : x ≤ 32767) : IntKind.i16.wrap x = x := by
  simp only [IntKind.wrap, IntKind.bits, IntKind.signed]
  simp
  omega
theorem run_cutA {g s el E m q : Nat} (hE : E = el + m) (hm : 0 < m) (h256 : E ≤ 256) (hq : q = 256 - el) (W : World) : (Instr.sliceAt 101 (.pointer (some ⟨g, s * 256, none⟩)) (some (.int .u8 (el : Int))) (some (.int .i64 (E : Int))) none).run Try.prog W = .ok (.slice (some ⟨g, s * 256 + el, none⟩) m q) W := by
  have hz : (sizeOf 100).run Try.prog W = .ok 1 W := by kernel_rfl
  unfold Instr.sliceAt
  rw [Sem.run_bind, run_underlying Try.underlying101 W]
  have e1 : (0 : Int) ≤ (E : Int) ∧ (E : Int) ≤ ((256 : Nat) : Int) := by omega
  have e2 : (0 : Int) ≤ (el : Int) ∧ (el : Int) ≤ (E : Int) := by omega
  simp only [Result.andThen, Sem.run_bind, Instr.sureAddr, Sem.run_pure, Instr.sliceBounds, Instr.sliceBound, asIntOf, e1, e2, and_self, if_true, Int.toNat_natCast, hz, Option.isSome_none]
  rw [if_neg (by omega), Addr.add_lit]
  subst hE hq
  rw [show el + m - el = m by omega, Nat.mul_one]
structure EdOk (e : Ed) : Prop where
  f : I64 e.f
  lo : e.lo < 256
  hi : e.hi < 256
  t : I64 e.t
set_option maxHeartbeats 1000000 in
set_option maxRecDepth 100000 in
theorem lay_any {B : Nat} {w : World} {b : Nat} {av sv : Value} {A : List Bool} {n : Nat} {f : Nat → Nat → Int} (h : MaAt B w b av sv A n f) (hB : B ≤ w.heap.size) (e : Ed) (he : EdOk e) :
    Calls Try.prog 43 #[.pointer (some ⟨b, 0, none⟩), eV e] w fun r w' => r = .returned (.bool (lyB f n e)) ∧ Kept (fun q => B ≤ q) w w' ∧ (lyB f n e = true → MaAt B w' b av sv A n (lyF f e)) := by
  have hlo := he.lo
  have hhi := he.hi
  have hk0 : Fresh w (w.alloc (.cells #[zV e.f, .int .u8 (e.lo : Int), .int .u8 (e.hi : Int), zV e.t] 69)) := (Kept.refl _ w).alloc _
  have hbx : (w.alloc (.cells #[zV e.f, .int .u8 (e.lo : Int), .int .u8 (e.hi : Int), zV e.t] 69)).heap[w.heap.size]? = some (.cells #[zV e.f, .int .u8 (e.lo : Int), .int .u8 (e.hi : Int), zV e.t] 69 (0, 0)) := heap_alloc_new _ _
  generalize hW1 : w.alloc (.cells #[zV e.f, .int .u8 (e.lo : Int), .int .u8 (e.hi : Int), zV e.t] 69) = W1 at *
  have m1 := h.fresh hk0
  have HS : Hid (∀ s : Int, Calls Try.prog 33 #[.pointer (some ⟨b, 0, none⟩), zV s] W1 fun e w' => e = .returned (.bool (decide (0 ≤ s) && decide (s < (n : Int)))) ∧ w' = W1) := fun s => has_any m1 s
  have HK0 : Hid (Kept (fun q => B ≤ q) w W1) := hk0.mono (fun _ _ (e : False) => e.elim)
  have b0 : W1.cell? ⟨w.heap.size, 0, none⟩ = some (zV e.f) := by rw [Lib.cell_of_heap hbx]; rfl
  have b1 : W1.cell? ⟨w.heap.size, 1, none⟩ = some (.int .u8 (e.lo : Int)) := by rw [Lib.cell_of_heap hbx]; rfl
  have b2 : W1.cell? ⟨w.heap.size, 2, none⟩ = some (.int .u8 (e.hi : Int)) := by rw [Lib.cell_of_heap hbx]; rfl
  have b3 : W1.cell? ⟨w.heap.size, 3, none⟩ = some (zV e.t) := by rw [Lib.cell_of_heap hbx]; rfl
  have hsz : w.heap.size < W1.heap.size := lt_of_heap hbx
  have HM : Hid (MaAt B W1 b av sv A n f) := m1
  have HBX := show Hid _ from hbx
  have HB : Hid (B ≤ w.heap.size) := hB
  clear m1 hk0 h hbx hB
  generalize hR : lyB f n e = R
  generalize hZ : lyF f e = Z
  have HRR : Hid (lyB f n e = R) := hR
  have HZZ : Hid (lyF f e = Z) := hZ
  clear hR hZ
  go_enter Try.func43, Try.ntmps43
  go_upto_region 1 with fail
  clear hW1
  by_cases hf0 : 0 ≤ e.f ∧ e.f < (n : Int)
  · have d0 : (decide (0 ≤ e.f) && decide (e.f < (n : Int))) = true := by rw [decide_eq_true hf0.1, decide_eq_true hf0.2]; rfl
    have C0 := show Hid _ from HS.out e.f
    rw [d0] at C0
    by_cases ht0 : 0 ≤ e.t ∧ e.t < (n : Int)
    · have d1 : (decide (0 ≤ e.t) && decide (e.t < (n : Int))) = true := by rw [decide_eq_true ht0.1, decide_eq_true ht0.2]; rfl
      have C1 := show Hid _ from HS.out e.t
      rw [d1] at C1
      by_cases hle : e.lo ≤ e.hi
      · have hle' : ¬ ((e.hi : Int) < (e.lo : Int)) := by omega
        have hs1 : e.f.toNat < n := by omega
        have hfs : e.f = (e.f.toNat : Int) := by omega
        have HL : Hid (lyB f n e = frB (f e.f.toNat) e.lo (e.hi + 1 - e.lo)) := by
          show _ = _
          unfold lyB
          rw [fitB_iff.2 ⟨hf0.1, hf0.2, ht0.1, ht0.2, hle⟩]
          rfl
        have HA : Hid (ptS f e.f.toNat e.lo e.t (e.hi + 1 - e.lo) = lyF f e) := ptS_all f e hf0.1 hle
        rw [HRR.out] at HL
        rw [HZZ.out] at HA
        clear d0 d1 HS HRR HZZ
        obtain ⟨⟨ao, ac, rfl⟩, so, sc, rfl, ⟨q0, q1⟩, hr⟩ := HM.out.cells
        obtain ⟨g, rfl, hrr⟩ := hr (by omega)
        clear hrr
        have hsm := HM.out.sm
        clear hr q0
        generalize hs : e.f.toNat = s at *
        rw [hfs] at b0 C0 HBX
        clear hfs
        generalize e.f = ef at *
        clear hf0 hs
        obtain ⟨m, hm⟩ : ∃ m, m = e.hi + 1 - e.lo := ⟨_, rfl⟩
        rw [← hm] at HL HA
        have hm1 : (e.hi : Int) + 1 = ((e.lo + m : Nat) : Int) := by omega
        have hm0 : 0 < m := by omega
        have hm2 : e.lo + m ≤ 256 := by omega
        have w1 : IntKind.i64.wrap (e.hi : Int) = (e.hi : Int) := by rw [IntKind.wrap_i64]; omega
        obtain ⟨E, hE⟩ : ∃ E, E = e.lo + m := ⟨_, rfl⟩
        have w2 : IntKind.i64.wrap ((e.hi : Int) + 1) = (E : Int) := by rw [IntKind.wrap_i64]; omega
        have hm2' : E ≤ 256 := by omega
        have u3 : e.lo + m ≤ 256 := hm2
        have HE : Hid (E = e.lo + m) := hE
        obtain ⟨q, hq⟩ : ∃ q, q = 256 - e.lo := ⟨_, rfl⟩
        have hcut := fun W => run_cutA (g := g) (s := s) hE hm0 hm2' hq W
        have dd : decide (e.hi < e.lo) = false := decide_eq_false (by omega)
        clear hm hhi hlo hle hle' hm1 hE hm2 hm2' hq
        generalize e.t = et at *
        generalize e.lo = el at *
        generalize e.hi = eh at *
        go_wp2_with fail
        refine Calls.mono C0.out ?_
        rintro x1 x2 ⟨rfl, rfl⟩
        go_wp2_with fail
        refine Calls.mono C1.out ?_
        rintro x1 x2 ⟨rfl, rfl⟩
        go_wp2
        go_quiet (fail)
        go_wp2
        have HMq : Hid (MaAt B (x2.drewN nq) b (.slice ao n ac) (.slice (some ⟨g, 0, none⟩) n sc) A n (ptS f s el et 0)) := by
          show MaAt _ _ _ _ _ _ _ _
          rw [ptS_zero]
          exact HM.out.fresh ((Kept.refl _ x2).drewN nq)
        have HKq : Hid (Kept (fun q => B ≤ q) w (x2.drewN nq)) := HK0.out.drewN nq
        have HBq : Hid ((x2.drewN nq).heap[w.heap.size]? = some (.cells #[zV (s : Int), .int .u8 (el : Int), .int .u8 (eh : Int), zV et] 69 (0, 0))) := HBX.out
        clear HM HK0 HBX b0 b1 b2 b3 q1 hcut dd w1 w2 C0 C1 hsz
        generalize x2.drewN nq = W2 at *
        clear x2
        go_loopw [42] (fun iv wr => ∃ j : Nat, j ≤ m ∧ iv = zV j ∧ Hid (MaAt B wr b (.slice ao n ac) (.slice (some ⟨g, 0, none⟩) n sc) A n (ptS f s el et j)) ∧ Hid (frB (f s) el j = true) ∧ Hid (Kept (fun q => B ≤ q) w wr) ∧ Hid (wr.heap[w.heap.size]? = some (.cells #[zV (s : Int), .int .u8 (el : Int), .int .u8 (eh : Int), zV et] 69 (0, 0)))) (fun iv _ => m - (RowKit.intOf iv).toNat)
        case atStart => exact ⟨0, Nat.zero_le _, rfl, HMq, rfl, HKq, HBq⟩
        case round =>
          obtain ⟨j, hj, rfl, HMj, HFj, HKj, HBj⟩ := hrel
          clear HMq HKq HBq
          by_cases hlt : j < m
          · have hlt' : (j : Int) < (m : Int) := by omega
            have c0 : wr.cell? ⟨g, s * 256 + el + j, none⟩ = some (.int .i16 (f s (el + j))) := by
              have := HMj.out.stc (s := s) (c := el + j) hs1 (by omega)
              rw [ptS_row] at this
              rw [Nat.add_assoc]
              exact this
            have f0 : wr.frozen? ⟨g, s * 256 + el + j, none⟩ = false := HMj.out.froz _
            have b3 : wr.cell? ⟨w.heap.size, 3, none⟩ = some (zV et) := by rw [Lib.cell_of_heap HBj.out]; rfl
            have w3 : IntKind.i16.wrap et = et := wrap_i16' (by omega) (by omega)
            have HX : Hid (∀ X, X = wr.setCell ⟨g, s * 256 + el + j, none⟩ (.int .i16 et) → MaAt B X b (.slice ao n ac) (.slice (some ⟨g, 0, none⟩) n sc) A n (ptS f s el et (j + 1)) ∧ Kept (fun q => B ≤ q) w X ∧ X.heap[w.heap.size]? = some (.cells #[zV (s : Int), .int .u8 (el : Int), .int .u8 (eh : Int), zV et] 69 (0, 0))) := fun X hX => by
              obtain ⟨m1, m2⟩ := HMj.out.set (s := s) (c := el + j) hs1 (by omega) ht0
              have hk4 : Kept (fun q => q = g) wr X := by rw [hX]; exact (Kept.refl (fun q => q = g) wr).setCell (p := ⟨g, s * 256 + el + j, none⟩) (fun _ => rfl) _
              rw [ptS_next, ← Nat.add_assoc, ← hX] at m1
              exact ⟨m1, HKj.out.trans hk4 (fun i _ e => by have e' : i = g := e; omega), hk4.at HBj.out (HMj.out.ne HBj.out (by decide))⟩
            by_cases hx : f s (el + j) = -1
            · have HF1 : Hid (frB (f s) el (j + 1) = true) := by
                show (frB (f s) el j && decide (f s (el + j) = -1)) = true
                rw [HFj.out, hx]
                rfl
              rw [hx] at c0
              clear hx HMj HKj HBj HFj HL HA
              go_wp2
              go_roundw
              case rel =>
                obtain ⟨a1, a2, a3⟩ := HX.out _ rfl
                exact ⟨j + 1, hlt, by go_num, a1, HF1, a2, a3⟩
              case measure => simp [RowKit.intOf]; omega
            · have HR : Hid (R = false) := HL.out.trans (frB_stop hlt hx)
              have dx : (f s (el + j) == -1) = false := beq_eq_false_iff_ne.2 hx
              clear hx HX HL HA HFj
              generalize f s (el + j) = x at *
              go_wp2
              go_ret
              exact ⟨by rw [HR.out]; rfl, HKj.out, fun e' => by rw [HR.out] at e'; cases e'⟩
          · obtain rfl : j = m := by omega
            have HR : Hid (R = true) := HL.out.trans HFj.out
            have hlt' : ¬ ((j : Int) < (j : Int)) := by omega
            have HMZ : Hid (MaAt B wr b (.slice ao n ac) (.slice (some ⟨g, 0, none⟩) n sc) A n Z) := by
              have := HMj.out
              rw [HA.out] at this
              exact this
            clear HMj HL HA HFj HBj
            go_wp2
            go_ret
            exact ⟨by rw [HR.out]; rfl, HKj.out, fun _ => HMZ.out⟩
      · have HF : Hid (lyB f n e = false) := by
          show _ = _
          unfold lyB fitB
          rw [decide_eq_false hle]
          simp
        have hle' : ((e.hi : Int) < (e.lo : Int)) := by omega
        clear HS d0 d1 hle
        rw [HRR.out] at HF
        generalize e.f = ef at *
        generalize e.t = et at *
        generalize e.lo = el at *
        generalize e.hi = eh at *
        go_wp2_with fail
        refine Calls.mono C0.out ?_
        rintro x1 x2 ⟨rfl, rfl⟩
        go_wp2_with fail
        refine Calls.mono C1.out ?_
        rintro x1 x2 ⟨rfl, rfl⟩
        go_wp2
        go_ret
        exact ⟨by rw [HF.out]; rfl, HK0.out, fun e' => by rw [HF.out] at e'; cases e'⟩
    · have d1 : (decide (0 ≤ e.t) && decide (e.t < (n : Int))) = false := by
        by_cases e1 : 0 ≤ e.t
        · rw [decide_eq_true e1, decide_eq_false (fun e2 => ht0 ⟨e1, e2⟩)]; rfl
        · rw [decide_eq_false e1]; rfl
      have C1 := show Hid _ from HS.out e.t
      rw [d1] at C1
      have HF : Hid (lyB f n e = false) := by
        show _ = _
        unfold lyB fitB
        have d1' := d1
        rw [Bool.and_assoc, Bool.and_assoc, Bool.and_assoc, Bool.and_assoc]
        rw [← Bool.and_assoc (decide (0 ≤ e.t)), d1']
        simp
      clear HS d0 d1
      rw [HRR.out] at HF
      generalize e.f = ef at *
      generalize e.t = et at *
      go_wp2_with fail
      refine Calls.mono C0.out ?_
      rintro x1 x2 ⟨rfl, rfl⟩
      go_wp2_with fail
      refine Calls.mono C1.out ?_
      rintro x1 x2 ⟨rfl, rfl⟩
      go_wp2
      go_ret
      exact ⟨by rw [HF.out]; rfl, HK0.out, fun e' => by rw [HF.out] at e'; cases e'⟩
  · have d0 : (decide (0 ≤ e.f) && decide (e.f < (n : Int))) = false := by
      by_cases e1 : 0 ≤ e.f
      · rw [decide_eq_true e1, decide_eq_false (fun e2 => hf0 ⟨e1, e2⟩)]; rfl
      · rw [decide_eq_false e1]; rfl
    have C0 := show Hid _ from HS.out e.f
    rw [d0] at C0
    have HF : Hid (lyB f n e = false) := by
      show _ = _
      unfold lyB fitB
      rw [d0]
      rfl
    clear HS d0
    rw [HRR.out] at HF
    generalize e.f = ef at *
    generalize e.t = et at *
    go_wp2_with fail
    refine Calls.mono C0.out ?_
    rintro x1 x2 ⟨rfl, rfl⟩
    go_wp2
    go_ret
    exact ⟨by rw [HF.out]; rfl, HK0.out, fun e' => by rw [HF.out] at e'; cases e'⟩
end Go.Proofs.Ytdponkpgokncdaa
