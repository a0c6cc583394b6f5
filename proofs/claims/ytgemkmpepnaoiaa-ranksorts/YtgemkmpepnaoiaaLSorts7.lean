/-
  For every list of int64 the statement RankSorts answers true: awake does, and Order tells each place once, the greater ahead, of equal ones the lesser place.
-/
import Derived.Test.YtgemkmpepnaoiaaRkm
namespace Go.Proofs.Ytgemkmpepnaoiaa.Sorts7
open Go.ChangeShapes Go.WideShapes Go.ChangeAt Go.RowKit Go.Maps

set_option maxHeartbeats 4000000 in
set_option maxRecDepth 100000 in
theorem walk (rv : Value) (zs : List Int) (w : World) (hr : Rw (fun b => b < w.heap.size) w rv zs) :
    Calls Try.prog 4 #[rv] w fun e w' => e = .returned (.bool true) ∧ Fresh w w' := by
  have hmm := @run_makeMap Try.prog
  have hnot : ∀ (x : Bool) (w : World), (Op.unary .not (.bool x)).run Try.prog w = .ok (.bool (!x)) w := fun _ _ => rfl
  have hln := hr.len
  have HO : Hid (Unit → _) := fun (_ : Unit) => order_any rv zs w hr
  obtain ⟨ao, cap, hv, _⟩ := id hr
  obtain ⟨n, hn⟩ : ∃ n, n = zs.length := ⟨_, rfl⟩
  obtain ⟨G, hG⟩ : ∃ G : Nat → Int, G = fun i => zs.getD i 0 := ⟨_, rfl⟩
  subst hv
  have HC : Hid (0 < n → ∃ b off, ao = some ⟨b, off, none⟩ ∧ ∀ W, Fresh w W → ∀ i, i < n → W.cell? ⟨b, off + i, none⟩ = some (zV (G i))) := fun h0 => by
    obtain ⟨ao', cap', hv', _, hc, _⟩ := hr
    cases hv'
    obtain ⟨b, off, e, _, hb, hcell⟩ := hc (fun e => by rw [e] at hn; simp at hn; omega)
    refine ⟨b, off, e, fun W hF i hi => ?_⟩
    rw [hG]
    exact (hF.cell (p := ⟨b, off + i, none⟩) hb (fun e => e)).trans (hcell i (by omega))
  rw [← hG, ← hn] at HO
  rw [← hn] at hln ⊢
  clear hr hG hn
  go_enter Try.func4, Try.ntmps4
  go_wp2_with fail
  refine (HO.out ()).mono ?_
  rintro e w1 ⟨o, b, rfl, hO, hb, hA, hF⟩
  have HAW : Hid (Unit → _) := fun (_ : Unit) => awake_any w1
  have HOr : Hid (IsOrd G n o) := hO
  have HAt : Hid (At w1 b (upI o) ∧ Fresh w w1) := ⟨hA, hF⟩
  have hb1 : b < w1.heap.size := lt_of_heap hA
  clear hO hA hF HO
  go_wp2_with fail
  refine (HAW.out ()).mono ?_
  rintro e w2 ⟨rfl, hF2⟩
  have hbm : b < w2.heap.size := Nat.lt_of_lt_of_le hb1 hF2.size
  have HS0 : Hid (SeenAt (w2.alloc (.map #[] 0)) w2.heap.size [] ∧ At (w2.alloc (.map #[] 0)) b (upI o) ∧ Fresh w (w2.alloc (.map #[] 0))) :=
    ⟨SeenAt.made w2, (HAt.out.1.kept hF2 (fun e => e)).kept ((Kept.refl (fun _ => False) w2).alloc _) (fun e => e), (HAt.out.2.trans hF2 (fun _ _ e => e)).alloc _⟩
  have hwM : w.heap.size ≤ w2.heap.size := (HAt.out.2.trans hF2 (fun _ _ e => e)).size
  clear HAW HAt hF2 hb1
  go_wp2
  generalize w2.heap.size = M at *
  go_loopw [5] (fun iv wr => ∃ j : Nat, j ≤ n ∧ iv = zV j ∧ Hid (SeenAt wr M ((upI o).take j) ∧ At wr b (upI o) ∧ Fresh w wr)) (fun iv _ => n - (RowKit.intOf iv).toNat)
  case atStart => exact ⟨0, Nat.zero_le _, rfl, HS0.out⟩
  case round =>
    obtain ⟨j, hj, rfl, HS⟩ := hrel
    clear HS0
    by_cases hlt : j < n
    · obtain ⟨lb, off, rfl, hcell⟩ := HC.out (by omega)
      have hol := HOr.out.length
      have hjo : j < o.length := by omega
      have hp : o[j] < n := HOr.out.lt (List.getElem_mem hjo)
      have hni : ((o[j] : Nat) : Int) ∉ (upI o).take j := fun e => by
        obtain ⟨t, ht, e1⟩ := List.getElem_of_mem e
        rw [List.length_take, upI_length] at ht
        rw [List.getElem_take] at e1
        have e2 : (upI o)[t]'(by rw [upI_length]; omega) = ((o[t]'(by omega) : Nat) : Int) := by simp [upI]
        rw [e2] at e1
        have e3 : o[t]'(by omega) = o[j] := by omega
        exact List.pairwise_iff_getElem.1 HOr.out.nodup t j (by omega) hjo (by omega) e3
      have htk : (upI o).take (j + 1) = (upI o).take j ++ [((o[j] : Nat) : Int)] := by
        rw [List.take_succ_eq_append_getElem (by rw [upI_length]; exact hjo)]
        simp [upI]
      have hi64 : I64 ((o[j] : Nat) : Int) := ⟨by omega, by omega⟩
      have hlk := HS.out.1.look hi64 hni
      obtain ⟨w3, hst, hS3, hg3⟩ := HS.out.1.store (by rw [List.length_take, upI_length]; unfold maxLen; omega) hi64 hni
      have hk3 : Kept (fun k => k = M) wr w3 := (Kept.refl _ wr).grown hg3 (fun k _ e => by simp at e; exact e.symm)
      have hF3 : Fresh w w3 := HS.out.2.2.trans hk3 (fun k hk e => by omega)
      have hA3 := HS.out.2.1.kept hk3 (by omega)
      rw [← htk] at hS3
      have HN : Hid (SeenAt w3 M ((upI o).take (j + 1)) ∧ At w3 b (upI o) ∧ Fresh w w3) := ⟨hS3, hA3, hF3⟩
      have c1 : wr.cell? ⟨b, j, none⟩ = some (zV (o[j] : Nat)) := by rw [HS.out.2.1.cell, upI_get, List.getElem?_eq_getElem hjo]; rfl
      have d1 : w3.cell? ⟨b, j, none⟩ = some (zV (o[j] : Nat)) := by rw [hA3.cell, upI_get, List.getElem?_eq_getElem hjo]; rfl
      have d2 := hcell w3 hF3 o[j] hp
      have hp' : ((o[j] : Nat) : Int) < (n : Int) := by omega
      have hlt' : (j : Int) < (n : Int) := by omega
      by_cases hj0 : j = 0
      · subst hj0
        generalize o[0] = q at *
        clear hS3 hA3 hF3 hk3 hg3 hcell HS htk hni hi64 hjo
        rw [show ((0 : Nat) : Int) = 0 from rfl] at hlt' ⊢
        go_wp2_with fail
        go_quiet (fail)
        have HN2 : Hid (SeenAt (w3.drewN nq) M ((upI o).take (0 + 1)) ∧ At (w3.drewN nq) b (upI o) ∧ Fresh w (w3.drewN nq)) := ⟨HN.out.1.kept (kept_drewN (fun _ => False) _ _) (fun e => e), HN.out.2.1, HN.out.2.2.drewN _⟩
        go_wp2
        go_roundw
        case rel => exact ⟨0 + 1, hlt, by go_num, HN2.out⟩
        case measure => simp [RowKit.intOf]; omega
      · obtain ⟨m, rfl⟩ : ∃ m, j = m + 1 := ⟨j - 1, by omega⟩
        have hmo : m < o.length := by omega
        have hpm : o[m] < n := HOr.out.lt (List.getElem_mem hmo)
        have d3 : w3.cell? ⟨b, m, none⟩ = some (zV (o[m] : Nat)) := by rw [hA3.cell, upI_get, List.getElem?_eq_getElem hmo]; rfl
        have d4 := hcell w3 hF3 o[m] hpm
        have hbf : Bf G o[m] o[m + 1] := List.pairwise_iff_getElem.1 HOr.out.2 m (m + 1) hmo hjo (by omega)
        have hpm' : ((o[m] : Nat) : Int) < (n : Int) := by omega
        have hm' : (m : Int) < (n : Int) := by omega
        have q4 : IntKind.i64.wrap (m : Int) = (m : Int) := by rw [IntKind.wrap_i64]; omega
        unfold Bf at hbf
        have hGG : ¬ G o[m] < G o[m + 1] := by omega
        rw [show ((m + 1 : Nat) : Int) = (m : Int) + 1 from rfl] at hlt' ⊢
        generalize o[m + 1] = q at *
        generalize o[m] = r at *
        clear hS3 hA3 hF3 hk3 hg3 hcell HS htk hni hi64 hjo hmo
        by_cases he : G r = G q
        · have hrq : ¬ (q : Int) < (r : Int) := by omega
          have he1 : (G r == G q) = true := by simp [he]
          clear hbf hGG he
          generalize G q = gq at *
          generalize G r = gr at *
          have he2 : gr = gq := by simpa using he1
          subst he2
          go_wp2_with fail
          go_quiet (fail)
          have HN2 : Hid (SeenAt (w3.drewN nq) M ((upI o).take (m + 1 + 1)) ∧ At (w3.drewN nq) b (upI o) ∧ Fresh w (w3.drewN nq)) := ⟨HN.out.1.kept (kept_drewN (fun _ => False) _ _) (fun e => e), HN.out.2.1, HN.out.2.2.drewN _⟩
          go_wp2
          go_roundw
          case rel => exact ⟨m + 1 + 1, hlt, by go_num, HN2.out⟩
          case measure => simp [RowKit.intOf]; omega
        · clear hbf
          generalize G q = gq at *
          generalize G r = gr at *
          have he1 : (gr == gq) = false := by simp [he]
          have hg1 : decide (gr < gq) = false := by simp; omega
          clear he hGG
          go_wp2_with fail
          go_quiet (fail)
          have HN2 : Hid (SeenAt (w3.drewN nq) M ((upI o).take (m + 1 + 1)) ∧ At (w3.drewN nq) b (upI o) ∧ Fresh w (w3.drewN nq)) := ⟨HN.out.1.kept (kept_drewN (fun _ => False) _ _) (fun e => e), HN.out.2.1, HN.out.2.2.drewN _⟩
          go_wp2
          go_roundw
          case rel => exact ⟨m + 1 + 1, hlt, by go_num, HN2.out⟩
          case measure => simp [RowKit.intOf]; omega
    · obtain rfl : j = n := by omega
      have hlen : ((upI o).take j).length = j := by rw [List.length_take, upI_length, HOr.out.length]; omega
      have hl := HS.out.1.len
      rw [hlen] at hl
      have HF : Hid (Fresh w wr) := HS.out.2.2
      clear HS hlen HC HOr
      go_wp2
      go_ret
      exact ⟨by simp, HF.out⟩

set_option maxRecDepth 100000 in
theorem contract (H : Type) (enc : TypeId × Value → H) (W : World) (base : Nat) (args : Array Value) (ds gs : List (DataW H)) (before : List MemPlace)
    (hval : ∀ (j : Nat) t v, Try.f4.params[j]? = some t → args[j]? = some v → Value.okWide Try.prog W .any base t v)
    (hW : DataW.Whole enc Try.prog Try.f4.params.toList Rows.rankSortsSpec.vars false W args.toList ds gs before) 
    (hsz : (DataW.weightsEach Try.prog (Try.f4.params.toList ++ []) (ds ++ gs)).all (· ≤ reachBytes) = true) (hL : laidMetH Try.prog Rows.rankSortsRow.laid W) :
    Calls Try.prog 4 args W fun e W' => ∃ v, e = .returned v ∧ Rows.rankSortsSpec.post enc Try.prog Try.f4 false true false false W args v W' := by
  have hW' := hW
  obtain ⟨p, q, hA0, hV, rfl, hfz, hnd⟩ := hW
  have hA : DataW.TrodAll enc Try.prog W 0 (fun _ => true) true Try.f4.params.toList args.toList ds p := hA0
  rw [Try.params4] at hA hval hsz
  obtain ⟨rfl, rfl⟩ := trodVars_none hV
  have _hL := hL
  obtain ⟨v0, d0, rfl, rfl, h0⟩ := trodAll_one hA
  obtain ⟨ao, ln, cap, rfl⟩ := okWide_slice Try.underlying22 (hval 0 22 v0 rfl rfl)
  obtain ⟨fuel, hf⟩ := h0
  obtain ⟨zs, hr, _⟩ := rw_of (x := (d0, _)) hf (fun es sp e => by
    have e' : d0 = .slice es sp := e
    subst e'
    have := sized_slice hsz (j := 0) (t := 22) (e := 2) rfl rfl Try.underlying22
    rw [Try.b64] at this
    simp only [reachBytes] at this
    omega)
  refine (walk _ zs W hr).mono fun e W' ⟨he, hk⟩ => ?_
  subst he
  exact ⟨_, rfl, post_law rfl (by kernel_rfl) (by kernel_rfl) hW' rfl hk⟩

set_option maxRecDepth 100000 in
theorem laid_met (os : Os) : laidMet Try.prog Rows.rankSortsRow.laid ((layIn (World.holding Try.prog os ⟨#[], #[], []⟩)).forCall (fun _ _ => 0) ⟨#[], #[.slice none 0 0], []⟩).memory :=
  laidMet_of_run' 8 (by kernel_rfl) (by kernel_rfl)
set_option maxRecDepth 100000 in
theorem reads (os : Os) {H : Type} (enc : TypeId × Value → H) : ∃ places, DataW.whole enc Try.prog ((layIn (World.holding Try.prog os ⟨#[], #[], []⟩)).forCall (fun _ _ => 0) ⟨#[], #[.slice none 0 0], []⟩).memory Try.f4.params.toList Rows.rankSortsSpec.vars false (#[.slice none 0 0] : Array Value).toList 8 = some ([.nil], [], places) :=
  ⟨[], by kernel_rfl⟩

set_option maxRecDepth 100000 in
theorem lifted (os : Os) (started : os.Started) (H : Type) (enc : TypeId × Value → H) (F : Stop.Interp) :
    ReturnsInHanded {} Try.checked os 4 .any ((OpenSpec.ofChange Rows.rankSortsSpec).preRow enc Try.prog Try.f4 Rows.rankSortsRow.domain false Rows.rankSortsRow.laid) (((OpenSpec.ofChange Rows.rankSortsSpec).at F).post enc Try.prog Try.f4 false true false false) := by
  obtain ⟨places, hx⟩ := reads os enc
  refine returnsInHanded_of_row (C := Try.checked) (s := OpenSpec.ofChange Rows.rankSortsSpec) Try.own started (by kernel_rfl) Try.func4
    (witness_row_at (enc := enc) (C := Try.checked) false (layIn (World.holding Try.prog os ⟨#[], #[], []⟩)) #[.slice none 0 0] rfl (by kernel_rfl) (by kernel_rfl) (by kernel_rfl)
      (OpenSpec.preRow_of_cond 8 hx (by kernel_rfl) (fun k hk => by cases hk) (by kernel_rfl) (laid_met os))) ?_
  intro W base args ds gs before hval hW _ hc hsz hL _ _
  exact contract H enc W base args ds gs before hval hW hsz hL

theorem said : Rows.RankSortsSaid :=
  OpenClaim.holds_of_cond 4 Try.f4 rfl rfl rfl rfl rfl rfl rfl ⟨rfl, rfl, rfl, rfl, rfl⟩ rfl rfl rfl rfl rfl (by kernel_rfl) Try.func4 (by kernel_rfl)
    (of_decide_eq_true (by kernel_rfl)) (by unfold Func.isWrapper; first | (rw [if_pos (by decide +kernel)]; kernel_rfl) | (rw [if_neg (by decide +kernel)]; exact ⟨rfl, rfl⟩))
    (fun os started H enc _ F => by rw [OpenClaim.pre_eq_preRow]; exact lifted os started H enc F)


end Go.Proofs.Ytgemkmpepnaoiaa.Sorts7
namespace Go.Proofs.Ytgemkmpepnaoiaa
theorem rankSorts_holds : Rows.RankSortsSaid := Sorts7.said
end Go.Proofs.Ytgemkmpepnaoiaa
