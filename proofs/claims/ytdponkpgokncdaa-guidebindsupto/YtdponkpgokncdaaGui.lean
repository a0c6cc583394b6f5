/-
  sources: the walk.
-/
import Derived.Test.YtdponkpgokncdaaGuh
namespace Go.Proofs.Ytdponkpgokncdaa
open Go.RowKit Go.Lib Go.Maps

/-- What sources has made so far. -/
structure SrW (w wr : World) (n : Nat) (f : Nat → Nat → Int) (us : List Value) (F : Nat → List Int) (k c : Nat) : Prop where
  ln : us.length = n
  mm : MemK .i64 3 58 w.heap.size wr (.slice (some ⟨w.heap.size, 0, none⟩) n n) us F []
  sr : SrI f n F k c
  fr : Fresh w wr
theorem memk_nils' {w : World} (n : Nat) (hn : n ≤ 64) : MemK .i64 3 58 w.heap.size (w.alloc (.cells (Array.replicate n nilV) 58)) (.slice (some ⟨w.heap.size, 0, none⟩) n n) (List.replicate n nilV) (fun _ => []) [] := by
  have := memk_nils (w := w) n hn
  rwa [List.toArray_replicate] at this
theorem SrW.cell {w wr : World} {n : Nat} {f : Nat → Nat → Int} {us : List Value} {F : Nat → List Int} {k c : Nat} (h : SrW w wr n f us F k c) {t : Nat} (ht : t < n) : ∃ ao cp, us.getD t nilV = .slice ao (F t).length cp ∧ wr.cell? ⟨w.heap.size, t, none⟩ = some (.slice ao (F t).length cp) ∧ (0 < (F t).length → ∃ g, ao = some ⟨g, 0, none⟩ ∧ ∀ i, i < (F t).length → wr.cell? ⟨g, i, none⟩ = some (zV ((F t).getD i 0))) := by
  have hp : t < us.length := by rw [h.ln]; exact ht
  obtain ⟨g, cc, e1, e2⟩ := h.mm.cell hp
  injection e1 with e3
  injection e3 with e3
  injection e3 with e3
  subst e3
  have hr := h.mm.row hp
  obtain ⟨ao, cp, e4⟩ := ownsRow_shape hr
  rw [e4] at e2
  refine ⟨ao, cp, e4, e2, fun h0 => ?_⟩
  rcases hr.2 with ⟨_, e⟩ | ⟨g', cap', cur, hv, _⟩
  · omega
  · rw [e4] at hv hr
    injection hv with e5 _ e6
    subst e5
    refine ⟨g', rfl, fun i hi => ?_⟩
    rw [hr.cellAt i (by omega), List.getElem?_map, List.getD_eq_getElem?_getD, List.getElem?_eq_getElem hi]
    rfl
set_option maxHeartbeats 2000000 in
set_option maxRecDepth 100000 in
theorem sources_any {B : Nat} {w : World} {b : Nat} {av sv : Value} {A : List Bool} {n : Nat} {f : Nat → Nat → Int} (h : MaAt B w b av sv A n f) :
    Calls Try.prog 44 #[.pointer (some ⟨b, 0, none⟩)] w fun e w' => ∃ us F, e = .returned (.slice (some ⟨w.heap.size, 0, none⟩) n n) ∧ SrW w w' n f us F n 0 := by
  have hsm := h.sm
  have HM : Hid (∀ W, Fresh w W → MaAt B W b av sv A n f) := fun W hk => h.fresh hk
  obtain ⟨⟨ao, ac, rfl⟩, so, sc, rfl, ⟨q0, q1⟩, hr0⟩ := h.cells
  have HRG : Hid (∀ s c, f s c = -1 ∨ (0 ≤ f s c ∧ f s c < (n : Int))) := h.rg
  have HG : Hid (∃ g, so = some ⟨g, 0, none⟩ ∨ n = 0) := by
    rcases Nat.eq_zero_or_pos n with e | e
    · exact ⟨0, .inr e⟩
    · obtain ⟨g, e1, _⟩ := hr0 e
      exact ⟨g, .inl e1⟩
  have HMK : Hid (∀ W, W = w.alloc (.cells (Array.replicate n (Value.slice none 0 0)) 58) → SrW w W n f (List.replicate n nilV) (fun _ => []) 0 0) := fun W e => by
    subst e
    exact ⟨List.length_replicate, memk_nils' n hsm, SrI.zero f n, (Kept.refl _ w).alloc _⟩
  have hmk := run_mkL tyLg n (by omega) w
  have hn0 : (0 : Int) ≤ (n : Int) := by omega
  have x1 : (w.alloc (.cells (Array.replicate n (Value.slice none 0 0)) 58)).cell? ⟨b, 1, none⟩ = some (.slice so n sc) := (((Kept.refl (fun _ => False) w).alloc _).cell (p := ⟨b, 1, none⟩) (lt_of_heap h.hb) (fun e => e)).trans q1
  clear h hr0
  go_enter Try.func44, Try.ntmps44
  go_wp2
  generalize hW1 : w.alloc (.cells (Array.replicate n (Value.slice none 0 0)) 58) = W1 at *
  have HW := show Hid _ from HMK.out W1 rfl
  clear hmk HMK hW1 q0 q1 x1
  go_loopw [19] (fun iv wr => ∃ (k : Nat) (us : List Value) (F : Nat → List Int), k ≤ n ∧ iv = zV k ∧ Hid (SrW w wr n f us F k 0)) (fun iv _ => n - (RowKit.intOf iv).toNat)
  case atStart => exact ⟨0, _, _, Nat.zero_le _, rfl, HW.out⟩
  case round =>
    obtain ⟨k, us, F, hk, rfl, HS⟩ := hrel
    clear HW
    by_cases hlt : k < n
    · have hlt' : (k : Int) < (n : Int) := by omega
      obtain ⟨g, hg⟩ := HG.out
      obtain rfl := hg.resolve_right (by omega)
      clear hg
      have mW := HM.out wr HS.out.fr
      have c1 : wr.cell? ⟨b, 1, none⟩ = some (.slice (some ⟨g, 0, none⟩) n sc) := by rw [Lib.cell_of_heap mW.hb]; rfl
      obtain ⟨C, hC⟩ : ∃ C, C = (rowS f k).toArray := ⟨_, rfl⟩
      have hCs : C.size = 256 := by rw [hC]; simp [rowS_len]
      have hld : (loadVar 101 ⟨g, k * 256, none⟩).run Try.prog wr = .ok (.agg C) wr := run_load101 wr g (k * 256) C hCs (fun j v hj => by
        rw [hC] at hj
        have hj' : j < 256 := by have := (List.getElem?_eq_some_iff.1 hj).1; rw [rowS_len] at this; exact this
        have e := rowS_get f k hj'
        rw [List.getElem?_toArray] at e
        rw [e] at hj
        rw [mW.stc hlt hj']
        exact hj)
      have HCg : Hid (∀ c, c < 256 → C[c]? = some (.int .i16 (f k c))) := fun c hc => by rw [hC]; exact rowS_get f k hc
      have HLD := show Hid _ from hld
      clear hC mW hld
      go_wp2_with (refine wpList_load101 rfl _ rfl g (k * 256) rfl C HLD.out ?_)
      clear HLD c1
      go_loopw [29] (fun iv wx => ∃ (c : Nat) (us : List Value) (F : Nat → List Int), c ≤ 256 ∧ iv = zV c ∧ Hid (SrW w wx n f us F k c)) (fun iv _ => 256 - (RowKit.intOf iv).toNat)
      case atStart => exact ⟨0, us, F, Nat.zero_le _, rfl, HS⟩
      case round =>
        clear HS
        obtain ⟨c, us, F, hc, rfl, HS⟩ := hrel
        by_cases hlc : c < 256
        · have hlc' : (c : Int) < 256 := by omega
          have hcc := HCg.out c hlc
          rcases HRG.out k c with hx | ⟨hx0, hx1⟩
          · have HN : Hid (SrW w wr n f us F k (c + 1)) := ⟨HS.out.ln, HS.out.mm, HS.out.sr.skip (fun t _ e => by rw [hx] at e; omega), HS.out.fr⟩
            rw [hx] at hcc
            have hix := run_index101 hlc hcc
            clear hcc hx HRG HM HCg HS
            go_wp2
            go_roundw
            case rel => exact ⟨c + 1, us, F, hlc, by go_num, HN.out⟩
            case measure => simp [RowKit.intOf]; omega
          · obtain ⟨t, ht⟩ : ∃ t : Nat, f k c = (t : Int) := ⟨(f k c).toNat, by omega⟩
            have htn : t < n := by omega
            obtain ⟨ro, cp, hu, k1, hrow⟩ := HS.out.cell htn
            have HXX : Hid (f k c = (t : Int)) := ht
            have HLN : Hid ((F t).length ≤ 16640) := by have := HS.out.sr.len t; show _ ≤ _; omega
            rw [ht] at hcc
            have hix := run_index101 hlc hcc
            clear hcc
            clear hx0 hx1 ht
            have dt : ((t : Int) == -1) = false := beq_eq_false_iff_ne.2 (by omega)
            have tn' : (t : Int) < (n : Int) := by omega
            obtain ⟨g2, c2, X1, r1, ⟨u0, y0⟩, yf, hm2, hk2⟩ := HS.out.mm.put HS.out.ln htn (k : Int) HS.out.fr.size (by have := HLN.out; omega)
            rw [hu] at r1
            have HNa : Hid (SrW w (X1.setCell ⟨w.heap.size, t, none⟩ (.slice (some ⟨g2, 0, none⟩) ((F t).length + 1) c2)) n f (us.set t (.slice (some ⟨g2, 0, none⟩) ((F t).length + 1) c2)) (fun q => if q = t then F t ++ [(k : Int)] else F q) k (c + 1)) :=
              ⟨by rw [List.length_set]; exact HS.out.ln, hm2, HS.out.sr.add hlt hlc HXX.out, HS.out.fr.trans hk2 (fun i hi e => by have e' : w.heap.size ≤ i := e; omega)⟩
            clear hm2 hk2 hu
            have hwt : IntKind.i64.wrap (t : Int) = (t : Int) := by rw [IntKind.wrap_i64]; omega
            rcases Nat.eq_zero_or_pos (F t).length with e0 | e0
            · rw [e0] at r1 HNa k1
              clear hrow HLN HRG HM HCg HS HXX e0
              go_wp2_with (at_builtin; refine Lib.wpList_append_run _ rfl _ _ _ _ rfl _ _ rfl rfl _ _ r1 ?_)
              go_roundw
              case rel => exact ⟨c + 1, _, _, hlc, by go_num, HNa.out⟩
              case measure => simp [RowKit.intOf]; omega
            · obtain ⟨m, hm⟩ : ∃ m, (F t).length = m + 1 := ⟨(F t).length - 1, by omega⟩
              obtain ⟨g3, rfl, hrw⟩ := hrow e0
              have k2 := hrw m (by omega)
              clear hrow
              have HLM : Hid ((F t).getD ((F t).length - 1) 0 = (F t).getD m 0) := by
                show _ = _
                rw [hm]
                rfl
              by_cases hx : (F t).getD m 0 = (k : Int)
              · have HN : Hid (SrW w wr n f us F k (c + 1)) := ⟨HS.out.ln, HS.out.mm, HS.out.sr.skip (fun t' ht' e => by
                  rw [HXX.out] at e
                  have e2 : t' = t := by omega
                  rw [e2]
                  exact last_mem e0 (HLM.out.trans hx)), HS.out.fr⟩
                rw [hx] at k2
                rw [hm] at k1
                have hm16 : m ≤ 16640 := by have := HLN.out; omega
                clear hrw HLN HRG HM HCg HS HXX e0 hx HLM HNa r1 y0 yf
                clear hm
                have dk : ((k : Int) == (k : Int)) = true := beq_self_eq_true _
                have hw1 : IntKind.i64.wrap (((m + 1 : Nat) : Int) - 1) = (m : Int) := by rw [IntKind.wrap_i64]; omega
                have hm0 : (((m + 1 : Nat) : Int) == 0) = false := beq_eq_false_iff_ne.2 (by omega)
                go_wp2
                go_roundw
                case rel => exact ⟨c + 1, us, F, hlc, by go_num, HN.out⟩
                case measure => simp [RowKit.intOf]; omega
              · rw [hm] at k1 r1 HNa
                have hm16 : m ≤ 16640 := by have := HLN.out; omega
                clear hrw HLN HRG HM HCg HS HXX e0 HLM
                clear hm
                generalize (F t).getD m 0 = x at *
                have dk : (x != (k : Int)) = true := bne_iff_ne.2 hx
                clear hx
                have hw1 : IntKind.i64.wrap (((m + 1 : Nat) : Int) - 1) = (m : Int) := by rw [IntKind.wrap_i64]; omega
                have hm0 : (((m + 1 : Nat) : Int) == 0) = false := beq_eq_false_iff_ne.2 (by omega)
                go_wp2_with (at_builtin; refine Lib.wpList_append_run _ rfl _ _ _ _ rfl _ _ rfl rfl _ _ r1 ?_)
                go_roundw
                case rel => exact ⟨c + 1, _, _, hlc, by go_num, HNa.out⟩
                case measure => simp [RowKit.intOf]; omega
        · obtain rfl : c = 256 := by omega
          have hlc' : ¬ ((256 : Int) < 256) := by omega
          have HN : Hid (SrW w wr n f us F (k + 1) 0) := ⟨HS.out.ln, HS.out.mm, HS.out.sr.row, HS.out.fr⟩
          clear HRG HM HCg HS hCs
          go_wp2
          go_roundw
          case rel => exact ⟨k + 1, us, F, hlt, by go_num, HN.out⟩
          case measure => simp [RowKit.intOf]; omega
    · obtain rfl : k = n := by omega
      have hlt' : ¬ ((k : Int) < (k : Int)) := by omega
      go_wp2
      go_ret
      exact ⟨rfl, us, F, HS.out⟩
end Go.Proofs.Ytdponkpgokncdaa
