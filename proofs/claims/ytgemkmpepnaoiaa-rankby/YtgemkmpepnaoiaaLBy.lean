/-
  For every list of things, rising or falling, the statement RankBy answers true: awake does; By puts them in the order that is handed in, equal ones by their places, a nil order in none; what is handed in stays.
-/
import Derived.Test.YtgemkmpepnaoiaaRku
import Derived.Laws.StructEq
namespace Go.Proofs.Ytgemkmpepnaoiaa.LBy
open Go.ChangeShapes Go.WideShapes Go.ChangeAt Go.RowKit Go.Maps

/-- The key by which things are ordered. -/
def key (d : Bool) (t : Th) : Int := if d then t.k / 2 else -(t.k / 2)
theorem th_same (t : Th) (w : World) : (binOp .neq 34 (.agg #[.int .i64 t.k, .string t.m]) (.agg #[.int .i64 t.k, .string t.m])).run Try.prog w = .ok (.bool false) w := by
  simp [go_sem, Try.underlying34, Try.underlying3, Try.underlying9]
theorem no_guard : Try.prog.eqGuardType Try.prog.depth 34 = false := by kernel_rfl
theorem Try.infoT : (Try.prog.info? 34).map (fun i => (i.zero, i.size, i.bytes)) = some (some (.agg #[.int .i64 0, .string ⟨#[]⟩]), 2, 24) := by kernel_rfl

set_option maxHeartbeats 1000000 in
set_option maxRecDepth 100000 in
theorem ask (bd n0 : Nat) (d : Bool) (hb : bd < n0) : AskT 17 #[.pointer (some ⟨bd, 0, none⟩)] (fun a b c => c = decide (key d b < key d a)) (fun _ => False) n0 (fun X => X.cell? ⟨bd, 0, none⟩ = some (.bool d) ∧ bd < X.heap.size) where
  enters := fun args X => by simp [go_sem]
  ahead := fun _ h => h.elim
  kept := fun X X' h hk => ⟨(hk.cell (p := ⟨bd, 0, none⟩) h.2 (by simp; omega)).trans h.1, Nat.lt_of_lt_of_le h.2 hk.size⟩
  asks := fun X a b h => by
    obtain ⟨h1, h2⟩ := h
    have HJ : Hid (∀ o1 o2, ((X.alloc o1).alloc o2).cell? ⟨bd, 0, none⟩ = some (.bool d) ∧ bd < ((X.alloc o1).alloc o2).heap.size) := fun o1 o2 =>
      ⟨((((Kept.refl (fun _ => False) X).alloc o1).alloc o2).cell (p := ⟨bd, 0, none⟩) h2 (fun e => e)).trans h1, by simp; omega⟩
    have hc : ∀ o1 o2, ((X.alloc o1).alloc o2).cell? ⟨bd, 0, none⟩ = some (.bool d) := fun o1 o2 => (HJ.out o1 o2).1
    show Calls Try.prog 17 #[.agg #[.int .i64 a.k, .string a.m], .agg #[.int .i64 b.k, .string b.m], .pointer (some ⟨bd, 0, none⟩)] X _
    obtain ⟨ak, am⟩ := a
    obtain ⟨bk, bm⟩ := b
    cases d with
    | true =>
      have HK : Hid (∀ c, c = decide (bk / 2 < ak / 2) → c = decide (key true ⟨bk, bm⟩ < key true ⟨ak, am⟩)) := fun c h => h
      go_enter Try.func17, Try.ntmps17
      go_wp2
      go_ret
      exact ⟨_, rfl, HK.out _ rfl, HJ.out _ _, ((Kept.refl _ X).alloc _).alloc _⟩
    | false =>
      have HK : Hid (∀ c, c = decide (ak / 2 < bk / 2) → c = decide (key false ⟨bk, bm⟩ < key false ⟨ak, am⟩)) := fun c h => by
        rw [h]
        unfold key
        simp
      go_enter Try.func17, Try.ntmps17
      go_wp2
      go_ret
      exact ⟨_, rfl, HK.out _ rfl, HJ.out _ _, ((Kept.refl _ X).alloc _).alloc _⟩

/-- The cells of things. -/
def thC (l : List Th) : List Value := l.flatMap (fun t => [Value.int .i64 t.k, .string t.m])
theorem thC_length : ∀ l : List Th, (thC l).length = l.length * 2
  | [] => rfl
  | t :: r => by
    have := thC_length r
    unfold thC at this ⊢
    rw [List.flatMap_cons, List.length_append, this, List.length_cons]
    simp only [List.length_cons, List.length_nil]
    omega
theorem thC_at : ∀ (l : List Th) (i : Nat) (h : i < l.length), (thC l)[i * 2]? = some (.int .i64 l[i].k) ∧ (thC l)[i * 2 + 1]? = some (.string l[i].m)
  | t :: r, 0, _ => ⟨rfl, rfl⟩
  | t :: r, i + 1, h => by
    have := thC_at r i (by simpa using h)
    unfold thC at this ⊢
    rw [List.flatMap_cons, show (i + 1) * 2 = i * 2 + 2 by omega]
    simpa using this
theorem thC_one (l : List Th) : ∀ u ∈ thC l, u.oneCell' = true := fun u hu => by
  obtain ⟨x, _, hx⟩ := List.mem_flatMap.1 hu
  simp only [List.mem_cons, List.not_mem_nil, or_false] at hx
  rcases hx with rfl | rfl <;> rfl
/-- append([]Thing{}, row...). -/
theorem twinT (ty : TypeId) (W : World) (B : Nat) (v0 : Value) (hown : W.ownsRow B 34 2 v0 0 []) (hB : B ≤ W.heap.size) (rv : Value) (l : List Th) (p : Nat → Prop) (hr : ThAt p W rv l) (hl : l.length * 24 ≤ 140737488355328) (hnil : ∀ c, rv = .slice none 0 c → c = 0) :
    ∃ tv W', (Builtin.append_ #[32, 32] ty #[v0, rv]).run Try.prog W = .ok tv W' ∧ W'.ownsRow B 34 2 tv l.length (thC l) ∧ W.grownBy W' v0.ownBlock := by
  obtain ⟨i0, hi, hz0, hz1, hz2⟩ := info_parts Try.infoT
  obtain ⟨ao, cap, rfl, hll, _, hc⟩ := hr
  cases ao with
  | none =>
    have e : l = [] := by
      rcases l with _ | ⟨z, r⟩
      · rfl
      · obtain ⟨b, off, h, _⟩ := hc (by simp)
        cases h
    subst e
    have := hnil cap rfl
    subst this
    exact ⟨v0, W, run_append_owned_none (P := Try.prog) W B _ _ _ i0 2 Try.underlying32 hi v0 0 [] hown, by simpa [thC] using hown, ⟨rfl, rfl, rfl, Nat.le_refl _, fun _ _ _ => rfl⟩⟩
  | some a =>
    obtain ⟨v', w', h1, h2, h3, _⟩ := run_append_own_at (P := Try.prog) W B 32 ty 34 i0 _ 2 24 Try.underlying32 hi hz0 hz1 hz2 rfl (by omega) v0 0 [] hown a l.length cap (thC l) (thC_length l)
      (fun j u hj => by
        have hj' : j < l.length * 2 := by have := (List.getElem?_eq_some_iff.1 hj).1; rwa [thC_length] at this
        obtain ⟨b, off, h, _, _, hcell⟩ := hc (fun e => by rw [e] at hj'; simp at hj')
        simp only [Option.some.injEq] at h
        subst h
        rw [Addr.add_lit]
        have hd : j / 2 < l.length := by omega
        obtain ⟨q0, q1⟩ := thC_at l (j / 2) hd
        obtain ⟨d0, d1⟩ := hcell (j / 2) hd
        rcases Nat.mod_two_eq_zero_or_one j with e | e
        · have e1 : j = j / 2 * 2 := by omega
          rw [e1] at hj
          rw [hj] at q0
          rw [q0]
          have e2 : off + j = off + j / 2 * 2 := by omega
          rw [e2]
          exact d0
        · have e1 : j = j / 2 * 2 + 1 := by omega
          rw [e1] at hj
          rw [hj] at q1
          rw [q1]
          have e2 : off + j = off + j / 2 * 2 + 1 := by omega
          rw [e2]
          exact d1)
      (thC_one l) (by unfold maxLen; omega) (by omega) hB
    rw [Nat.zero_add, List.nil_append] at h2
    exact ⟨v', w', h1, h2, h3⟩
theorem thAt_of_own {B : Nat} {w : World} {v : Value} {l : List Th} (h : w.ownsRow B 34 2 v l.length (thC l)) (hl : l.length ≤ 17592186044416) (hz : ∀ t ∈ l, I64 t.k) : ThAt (fun b => B ≤ b) w v l := by
  rcases h.2 with ⟨rfl, h0⟩ | ⟨g, cap, cur, rfl, hb, hg, hnc, _, hsz, htk⟩
  · have e : l = [] := List.eq_nil_of_length_eq_zero h0
    subst e
    exact ⟨none, 0, rfl, by simp, by simp, fun h => absurd rfl h⟩
  · refine ⟨_, cap, rfl, hl, hz, fun _ => ⟨g, 0, rfl, hb, lt_of_heap hg, fun i hi => ?_⟩⟩
    have hcur : ∀ j, j < l.length * 2 → w.cell? ⟨g, j, none⟩ = (thC l)[j]? := fun j hj => by
      rw [Lib.cell_of_heap hg, ← htk, List.getElem?_take_of_lt hj, Array.getElem?_toList]
    obtain ⟨q0, q1⟩ := thC_at l i hi
    rw [Nat.zero_add, hcur _ (by omega), hcur _ (by omega)]
    exact ⟨q0, q1⟩

set_option maxHeartbeats 4000000 in
set_option maxRecDepth 100000 in
theorem walk (rv : Value) (l : List Th) (d : Bool) (w : World) (hr : ThAt (fun b => b < w.heap.size) w rv l) (hl : l.length * 24 ≤ 140737488355328) (hnil : ∀ c, rv = .slice none 0 c → c = 0) :
    Calls Try.prog 5 #[rv, .bool d] w fun e w' => e = .returned (.bool true) ∧ Fresh w w' := by
  have hmf : ∀ (fn : Fn) (first cap : Array Value) (w : World), (Instr.makeFunc fn first cap).run Try.prog w = .ok (.func fn first cap) w := fun _ _ _ _ => rfl
  have hnot : ∀ (x : Bool) (w : World), (Op.unary .not (.bool x)).run Try.prog w = .ok (.bool (!x)) w := fun _ _ => rfl
  obtain ⟨n, hn⟩ : ∃ n, l.length = n := ⟨_, rfl⟩
  have hl44 : n ≤ 17592186044416 := by rw [← hn]; exact hr.len
  have HI : Hid (∀ t ∈ l, I64 t.k) := by obtain ⟨_, _, _, _, h, _⟩ := id hr; exact h
  have hF0 : Fresh w ((w.alloc (.cells #[.bool d] 4)).alloc (.cells #[] 34)) := ((Kept.refl _ w).alloc _).alloc _
  have hE0 : ((w.alloc (.cells #[.bool d] 4)).alloc (.cells #[] 34)).ownsRow (w.heap.size + 1) 34 2 (.slice (some ⟨w.heap.size + 1, 0, none⟩) 0 0) 0 [] := by
    have h := heap_alloc_new (w.alloc (.cells #[.bool d] 4)) (.cells #[] 34)
    rw [World.size_alloc] at h
    exact ⟨rfl, .inr ⟨_, 0, #[], rfl, Nat.le_refl _, h, Nat.le_refl _, Nat.zero_le _, rfl, rfl⟩⟩
  obtain ⟨tv, W1, hrun, hown1, hgrow⟩ := twinT 32 _ (w.heap.size + 1) _ hE0 (by simp) rv l _ (hr.fresh hF0) hl hnil
  have hF1 : Fresh w W1 := hF0.grown hgrow (fun k hk e => by simp [Value.ownBlock] at e; omega)
  have hd1 : W1.cell? ⟨w.heap.size, 0, none⟩ = some (.bool d) := by
    have h1 : ((w.alloc (.cells #[.bool d] 4)).alloc (.cells #[] 34)).cell? ⟨w.heap.size, 0, none⟩ = some (.bool d) := by simp [go_sem]
    rw [hgrow.cell_far ⟨w.heap.size, 0, none⟩ (by simp; omega) (by simp [Value.ownBlock])]
    exact h1
  have hs1 : w.heap.size + 2 ≤ W1.heap.size := Nat.le_trans (by simp) hgrow.size
  have hT1 := thAt_of_own hown1 (by rw [hn]; exact hl44) HI.out
  obtain ⟨ao, cap, hv⟩ : ∃ ao cap, rv = .slice ao n cap := by obtain ⟨ao, cap, h, _⟩ := id hr; rw [hn] at h; exact ⟨ao, cap, h⟩
  obtain ⟨tao, tcap, htv⟩ : ∃ ao cap, tv = .slice ao n cap := by have := ownsRow_shape hown1; rw [hn] at this; exact this
  subst hv
  subst htv
  have HR : Hid (∀ W, Fresh w W → ThAt (fun b => b < w.heap.size) W (.slice ao n cap) l) := fun W hF => hr.fresh hF
  have HT : Hid (∀ W, Fresh W1 W → ThAt (fun b => w.heap.size + 1 ≤ b) W (.slice tao n tcap) l) := fun W hF => hT1.fresh hF
  have HF1 : Hid (Fresh w W1) := hF1
  have HD : Hid (∀ W, Fresh W1 W → W.cell? ⟨w.heap.size, 0, none⟩ = some (.bool d)) := fun W hF => (hF.cell (p := ⟨w.heap.size, 0, none⟩) (by simp; omega) (fun e => e)).trans hd1
  have HN : Hid (l.length = n) := hn
  have HO0 : Hid ((W1.alloc (.cells #[] 2)).ownsRow W1.heap.size 2 1 (.slice (some ⟨W1.heap.size, 0, none⟩) 0 0) 0 [] ∧ Fresh W1 (W1.alloc (.cells #[] 2))) := ⟨own64_empty W1, (Kept.refl _ W1).alloc _⟩
  have HAW : Hid (∀ W : World, _) := fun (W : World) => awake_any W
  clear hr hF0 hE0 hown1 hgrow hF1 hd1 hT1 hn hnil hl
  go_enter Try.func5, Try.ntmps5
  go_wp2_with (at_builtin; refine Lib.wpList_append_run _ rfl _ _ _ _ rfl _ _ rfl rfl _ _ hrun ?_)
  clear hrun
  go_loopw [6, 7] (fun kv iv wr => ∃ j g c : Nat, j ≤ n ∧ iv = zV j ∧ kv = .slice (some ⟨g, 0, none⟩) j c ∧ Hid (wr.ownsRow W1.heap.size 2 1 (.slice (some ⟨g, 0, none⟩) j c) j (((l.take j).map (key d)).map zV) ∧ Fresh W1 wr)) (fun _ iv _ => n - (RowKit.intOf iv).toNat)
  case atStart => exact ⟨0, W1.heap.size, 0, Nat.zero_le _, rfl, rfl, HO0.out⟩
  case round =>
    obtain ⟨j, g, c, hj, rfl, rfl, HA⟩ := hrel
    clear HO0
    by_cases hlt : j < n
    · have hjl : j < l.length := by rw [HN.out]; exact hlt
      obtain ⟨b, off, hao, hcell⟩ : ∃ b off, ao = some ⟨b, off, none⟩ ∧ wr.cell? ⟨b, off + j * 2, none⟩ = some (.int .i64 l[j].k) := by
        obtain ⟨ao', cap', hv', _, _, hc⟩ := HR.out wr (HF1.out.trans HA.out.2 (fun _ _ e => e))
        cases hv'
        obtain ⟨b, off, e, _, _, hcl⟩ := hc (fun e => by rw [e] at hjl; simp at hjl)
        exact ⟨b, off, e, (hcl j hjl).1⟩
      subst hao
      have hdd := HD.out wr HA.out.2
      have hi64 : I64 l[j].k := HI.out _ (List.getElem_mem hjl)
      obtain ⟨z0, z1⟩ := hi64
      have HTk : Hid ((l.take (j + 1)).map (key d) = (l.take j).map (key d) ++ [key d l[j]]) := by
        show _ = _
        rw [List.take_succ_eq_append_getElem hjl, List.map_append]; rfl
      obtain ⟨ga, ca, Wa, hra, hoa, hga, hka⟩ := push64 wr W1.heap.size g c j ((l.take j).map (key d)) (key d l[j]) HA.out.1 (by omega) HA.out.2.size
      have hgb : W1.heap.size ≤ g := by
        rcases HA.out.1.2 with ⟨e, _⟩ | ⟨g', cap', cur, hv, hb, _⟩
        · cases e
        · cases hv; exact hb
      have HN1 : Hid (Wa.ownsRow W1.heap.size 2 1 (.slice (some ⟨ga, 0, none⟩) (j + 1) ca) (j + 1) (((l.take (j + 1)).map (key d)).map zV) ∧ Fresh W1 Wa) := ⟨by rw [HTk.out]; exact hoa, HA.out.2.trans hka (fun i hi e => by omega)⟩
      have hlt' : (j : Int) < (n : Int) := by omega
      have hkt : d = true → key d l[j] = l[j].k / 2 := fun h => by rw [h]; rfl
      have hkf : d = false → key d l[j] = -(l[j].k / 2) := fun h => by rw [h]; rfl
      clear hoa hga hka HA HTk hgb
      generalize key d l[j] = q at *
      generalize l[j].k = x at *
      cases d with
      | true =>
        have e := hkt rfl
        subst e
        clear hkt hkf
        go_wp2_with (at_builtin; refine Lib.wpList_append_run _ rfl _ _ _ _ rfl _ _ rfl rfl _ _ hra ?_)
        go_roundw
        case rel => exact ⟨j + 1, ga, ca, hlt, by go_num, rfl, HN1.out⟩
        case measure => simp [RowKit.intOf]; omega
      | false =>
        have e := hkf rfl
        subst e
        clear hkt hkf
        go_wp2_with (at_builtin; refine Lib.wpList_append_run _ rfl _ _ _ _ rfl _ _ rfl rfl _ _ hra ?_)
        go_roundw
        case rel => exact ⟨j + 1, ga, ca, hlt, by go_num, rfl, HN1.out⟩
        case measure => simp [RowKit.intOf]; omega
    · obtain rfl : j = n := by omega
      have hkl : (l.map (key d)).length = j := by rw [List.length_map, HN.out]
      have hOk : wr.ownsRow W1.heap.size 2 1 (.slice (some ⟨g, 0, none⟩) j c) j ((l.map (key d)).map zV) := by have := HA.out.1; rwa [List.take_of_length_le (by rw [HN.out]; exact Nat.le_refl _)] at this
      have hFk := HA.out.2
      have HK : Hid (∀ W, Fresh wr W → Rw (fun b => True) W (.slice (some ⟨g, 0, none⟩) j c) (l.map (key d))) := fun W hF => by
        have h := rw_of_own (zs := l.map (key d)) (v := .slice (some ⟨g, 0, none⟩) j c) (by rw [hkl]; exact owns_kept hOk hF (fun _ _ e => e)) (by rw [hkl]; exact hl44) (fun z hz => by
          obtain ⟨t, ht, rfl⟩ := List.mem_map.1 hz
          have := HI.out t ht
          obtain ⟨q0, q1⟩ := this
          unfold key
          split <;> exact ⟨by omega, by omega⟩)
        exact h.mono (fun _ _ => trivial)
      have HFk : Hid (Fresh W1 wr) := hFk
      have hask := ask w.heap.size wr.heap.size d (by have := hFk.size; omega)
      have hby := byT_any (.slice ao j cap) l wr hask ⟨HD.out wr hFk, by have := hFk.size; omega⟩ ((HR.out wr (HF1.out.trans hFk (fun _ _ e => e))).mono (fun b hb => ⟨by have := hFk.size; omega, fun e => e⟩))
      rw [HN.out] at hby
      have HB : Hid (Unit → _) := fun (_ : Unit) => hby
      clear hby hask HA hOk hFk
      go_wp2_with fail
      refine (HB.out ()).mono ?_
      rintro e W2 ⟨o, b, rfl, ⟨cc, hAr⟩, hb, hAt, hJ, hK⟩
      have hO : IsOrd (fun i => (l.map (key d)).getD i 0) j o := hAr.isOrd (fun i k cb h => by
        obtain ⟨x, y, hx, hy, hc⟩ := h
        rw [hc, List.getD_eq_getElem?_getD, List.getD_eq_getElem?_getD, List.getElem?_map, List.getElem?_map, hx, hy]
        rfl)
      have HOr : Hid (IsOrd (fun i => (l.map (key d)).getD i 0) j o) := hO
      have HF2 : Hid (Fresh wr W2) := hK
      have hRo := rw_of_at hAt j (by rw [upI_length, hO.length]; exact hl44) (upI_i64 hO hl44)
      rw [upI_length, hO.length] at hRo
      have HRo : Hid (Rw (fun k => k = b) W2 (.slice (some ⟨b, 0, none⟩) j j) (upI o)) := hRo
      clear hO hAr hAt hJ hK hRo HB hb
      have hng := no_guard
      go_wp2
      go_loopw [10] (fun iv wx => ∃ i : Nat, i ≤ j ∧ iv = zV i ∧ ∃ d, wx = W2.drewN d) (fun iv _ => j - (RowKit.intOf iv).toNat)
      case atStart => exact ⟨0, Nat.zero_le _, rfl, 0, rfl⟩
      case round =>
        obtain ⟨i, hi, rfl, d2, rfl⟩ := hrel
        have hF12 : Fresh W1 W2 := HFk.out.trans HF2.out (fun _ _ e => e)
        by_cases hil : i < j
        · have hin : i < l.length := by rw [HN.out]; exact hil
          obtain ⟨lb, off, hao, c1, c2⟩ : ∃ b off, ao = some ⟨b, off, none⟩ ∧ W2.cell? ⟨b, off + i * 2, none⟩ = some (.int .i64 l[i].k) ∧ W2.cell? ⟨b, off + i * 2 + 1, none⟩ = some (.string l[i].m) := by
            obtain ⟨ao', cap', hv', _, _, hc⟩ := HR.out W2 (HF1.out.trans hF12 (fun _ _ e => e))
            cases hv'
            obtain ⟨b, off, e, _, _, hcl⟩ := hc (fun e => by rw [e] at hin; simp at hin)
            exact ⟨b, off, e, hcl i hin⟩
          obtain ⟨tb, toff, htao, c3, c4⟩ : ∃ b off, tao = some ⟨b, off, none⟩ ∧ W2.cell? ⟨b, off + i * 2, none⟩ = some (.int .i64 l[i].k) ∧ W2.cell? ⟨b, off + i * 2 + 1, none⟩ = some (.string l[i].m) := by
            obtain ⟨ao', cap', hv', _, _, hc⟩ := HT.out W2 hF12
            cases hv'
            obtain ⟨b, off, e, _, _, hcl⟩ := hc (fun e => by rw [e] at hin; simp at hin)
            exact ⟨b, off, e, hcl i hin⟩
          subst hao
          subst htao
          have hsm := fun w => th_same l[i] w
          have hil' : (i : Int) < (j : Int) := by omega
          generalize l[i] = t at *
          clear hin
          go_wp2_with fail
          go_quiet (fail)
          go_wp2
          go_roundw
          case rel => exact ⟨i + 1, hil, by go_num, d2 + nq, rfl⟩
          case measure => simp [RowKit.intOf]; omega
        · obtain rfl : i = j := by omega
          have hbn := byT_nil _ (.slice ao i cap) l (W2.drewN d2) (HR.out _ (HF1.out.trans (hF12.drewN d2) (fun _ _ e => e)))
          rw [HN.out] at hbn
          have HB2 : Hid (Unit → _) := fun (_ : Unit) => hbn
          clear hbn hF12 hil
          go_wp2_with fail
          refine (HB2.out ()).mono ?_
          rintro e W3 ⟨b3, rfl, hb3, hAt3, hF3⟩
          have HAt3 : Hid (At W3 b3 (upI (List.range i))) := hAt3
          have HF3 : Hid (Fresh W2 W3) := (kept_drewN _ W2 d2).trans hF3 (fun _ _ e => e)
          clear hAt3 hF3 hb3 HB2
          go_wp2
          go_loopw [12] (fun iv wx => ∃ k : Nat, k ≤ i ∧ iv = zV k ∧ wx = W3) (fun iv _ => i - (RowKit.intOf iv).toNat)
          case atStart => exact ⟨0, Nat.zero_le _, rfl, rfl⟩
          case round =>
            obtain ⟨k, hk, rfl, hwx⟩ := hrel
            have hwx2 := hwx.symm
            subst hwx2
            clear hwx
            by_cases hki : k < i
            · have c1 : W3.cell? ⟨b3, k, none⟩ = some (zV k) := by rw [HAt3.out.cell, upI_get, List.getElem?_range hki]; rfl
              have hki' : (k : Int) < (i : Int) := by omega
              go_wp2
              go_roundw
              case rel => exact ⟨k + 1, hki, by go_num, trivial⟩
              case measure => simp [RowKit.intOf]; omega
            · obtain rfl : k = i := by omega
              have HAW3 : Hid (Unit → _) := fun (_ : Unit) => HAW.out W3
              clear hki
              go_wp2_with fail
              refine (HAW3.out ()).mono ?_
              rintro e W4 ⟨rfl, hF4⟩
              have hF24 : Fresh W2 W4 := HF3.out.trans hF4 (fun _ _ e => e)
              have hro := refOrder_any _ _ _ W4 (HK.out W4 (HF2.out.trans hF24 (fun _ _ e => e)))
              rw [List.length_map, HN.out] at hro
              have HRo2 : Hid (Unit → _) := fun (_ : Unit) => hro
              have HF24 : Hid (Fresh W2 W4) := hF24
              clear hF4 hF24 hro HAW3
              go_wp2_with fail
              refine (HRo2.out ()).mono ?_
              rintro e W5 ⟨o5, v5, rfl, hO5, hown5, hF5⟩
              have eo := hO5.unique HOr.out
              subst eo
              have hlu : (upI o5).length = k := by rw [upI_length, hO5.length]
              have hR5 := rw_of_own (zs := upI o5) (by rw [hlu]; exact hown5) (by rw [hlu]; exact hl44) (upI_i64 hO5 hl44)
              have hRo5 := HRo.out.fresh (HF24.out.trans hF5 (fun _ _ e => e))
              have hFe : Fresh w W5 := ((HF1.out.trans HFk.out (fun _ _ e => e)).trans HF2.out (fun _ _ e => e)).trans (HF24.out.trans hF5 (fun _ _ e => e)) (fun _ _ e => e)
              have HFe : Hid (∀ d, Fresh w (W5.drewN d)) := fun d => hFe.drewN d
              clear hown5 hO5 hF5 hFe HRo2 hlu
              go_wp2_with fail
              refine (ints_any _ _ _ _ _ _ hRo5 hR5).mono ?_
              rintro e W6 ⟨rfl, n6, rfl⟩
              have HFz := HFe.out n6
              have HFz' : Hid (Fresh w (W5.drewN n6)) := HFz
              clear HFz HFe hR5 hRo5
              go_wp2
              go_ret
              exact ⟨by simp, HFz'.out⟩

set_option maxRecDepth 100000 in
theorem contract (H : Type) (enc : TypeId × Value → H) (W : World) (base : Nat) (args : Array Value) (ds gs : List (DataW H)) (before : List MemPlace)
    (hval : ∀ (j : Nat) t v, Try.f5.params[j]? = some t → args[j]? = some v → Value.okWide Try.prog W .any base t v)
    (hW : DataW.Whole enc Try.prog Try.f5.params.toList Rows.rankBySpec.vars false W args.toList ds gs before) 
    (hsz : (DataW.weightsEach Try.prog (Try.f5.params.toList ++ []) (ds ++ gs)).all (· ≤ reachBytes) = true) (hL : laidMetH Try.prog Rows.rankByRow.laid W) :
    Calls Try.prog 5 args W fun e W' => ∃ v, e = .returned v ∧ Rows.rankBySpec.post enc Try.prog Try.f5 false true false false W args v W' := by
  have hW' := hW
  obtain ⟨p, q, hA0, hV, rfl, hfz, hnd⟩ := hW
  have hA : DataW.TrodAll enc Try.prog W 0 (fun _ => true) true Try.f5.params.toList args.toList ds p := hA0
  rw [Try.params5] at hA hval hsz
  obtain ⟨rfl, rfl⟩ := trodVars_none hV
  have _hL := hL
  obtain ⟨v0, v1, d0, d1, p0, p1, rfl, rfl, rfl, h0, h1⟩ := trodAll_two hA
  obtain ⟨ao, ln, cap, rfl⟩ := okWide_slice Try.underlying32 (hval 0 32 v0 rfl rfl)
  obtain ⟨x1, rfl, rfl, rfl⟩ := open_bool Try.underlying4 (hval 1 4 v1 rfl rfl) h1
  obtain ⟨fuel, hf⟩ := h0
  have hb24 : ∀ es sp, d0 = .slice es sp → es.length * 24 ≤ 140737488351232 := fun es sp e' => by
    subst e'
    have := sized_slice hsz (j := 0) (t := 32) (e := 34) rfl rfl Try.underlying32
    rw [Try.bTh] at this
    simp only [reachBytes] at this
    omega
  obtain ⟨l, hr, hnil, hlen⟩ := things_at (x := (d0, _)) hf (fun es sp e => hb24 es sp e)
  refine (walk _ l x1 W hr (by omega) hnil).mono fun e W' ⟨he, hk⟩ => ?_
  subst he
  exact ⟨_, rfl, post_law rfl (by kernel_rfl) (by kernel_rfl) hW' rfl hk⟩

set_option maxRecDepth 100000 in
theorem laid_met (os : Os) : laidMet Try.prog Rows.rankByRow.laid ((layIn (World.holding Try.prog os ⟨#[], #[], []⟩)).forCall (fun _ _ => 0) ⟨#[], #[.slice none 0 0, .bool false], []⟩).memory :=
  laidMet_of_run' 8 (by kernel_rfl) (by kernel_rfl)
set_option maxRecDepth 100000 in
theorem reads (os : Os) {H : Type} (enc : TypeId × Value → H) : ∃ places, DataW.whole enc Try.prog ((layIn (World.holding Try.prog os ⟨#[], #[], []⟩)).forCall (fun _ _ => 0) ⟨#[], #[.slice none 0 0, .bool false], []⟩).memory Try.f5.params.toList Rows.rankBySpec.vars false (#[.slice none 0 0, .bool false] : Array Value).toList 8 = some ([.nil, .lit (.bool false)], [], places) :=
  ⟨[], by kernel_rfl⟩

set_option maxRecDepth 100000 in
theorem lifted (os : Os) (started : os.Started) (H : Type) (enc : TypeId × Value → H) (F : Stop.Interp) :
    ReturnsInHanded {} Try.checked os 5 .any ((OpenSpec.ofChange Rows.rankBySpec).preRow enc Try.prog Try.f5 Rows.rankByRow.domain false Rows.rankByRow.laid) (((OpenSpec.ofChange Rows.rankBySpec).at F).post enc Try.prog Try.f5 false true false false) := by
  obtain ⟨places, hx⟩ := reads os enc
  refine returnsInHanded_of_row (C := Try.checked) (s := OpenSpec.ofChange Rows.rankBySpec) Try.own started (by kernel_rfl) Try.func5
    (witness_row_at (enc := enc) (C := Try.checked) false (layIn (World.holding Try.prog os ⟨#[], #[], []⟩)) #[.slice none 0 0, .bool false] rfl (by kernel_rfl) (by kernel_rfl) (by kernel_rfl)
      (OpenSpec.preRow_of_cond 8 hx (by kernel_rfl) (fun k hk => by cases hk) (by kernel_rfl) (laid_met os))) ?_
  intro W base args ds gs before hval hW _ hc hsz hL _ _
  exact contract H enc W base args ds gs before hval hW hsz hL

theorem said : Rows.RankBySaid :=
  OpenClaim.holds_of_cond 5 Try.f5 rfl rfl rfl rfl rfl rfl rfl ⟨rfl, rfl, rfl, rfl, rfl⟩ rfl rfl rfl rfl rfl (by kernel_rfl) Try.func5 (by kernel_rfl)
    (of_decide_eq_true (by kernel_rfl)) (by unfold Func.isWrapper; first | (rw [if_pos (by decide +kernel)]; kernel_rfl) | (rw [if_neg (by decide +kernel)]; exact ⟨rfl, rfl⟩))
    (fun os started H enc _ F => by rw [OpenClaim.pre_eq_preRow]; exact lifted os started H enc F)


end Go.Proofs.Ytgemkmpepnaoiaa.LBy
namespace Go.Proofs.Ytgemkmpepnaoiaa
theorem rankBy_holds : Rows.RankBySaid := LBy.said
end Go.Proofs.Ytgemkmpepnaoiaa
