/-
  For every list of int64, every part and every whole the statement RankMemory answers true: lists that came out are the caller's own.
-/
import Derived.Test.YtgemkmpepnaoiabRmn
namespace Go.Proofs.Ytgemkmpepnaoiab.LMemory
open Go.ChangeShapes Go.WideShapes Go.ChangeAt Go.RowKit

theorem infoRI : (Try.prog.info? 32).map (fun i => (i.zero, i.size, i.bytes)) = some (some (.slice none 0 0), 1, 24) := by kernel_rfl
theorem infoRL : (Try.prog.info? 22).map (fun i => (i.zero, i.size, i.bytes)) = some (some (.slice none 0 0), 1, 24) := by kernel_rfl
theorem six {d c b a o s : Rr} (O S : List Rr) : (d :: c :: b :: a :: o :: s :: (O ++ S)).Perm (o :: s :: ((O ++ [a, c, d]) ++ (S ++ [b]))) := by
  have h1 : [d, c, b, a, o, s].Perm [o, s, a, c, d, b] := by
    have : [0, 1, 2, 3, 4, 5].Perm [4, 5, 3, 1, 0, 2] := by decide
    exact this.map (fun n => [d, c, b, a, o, s].getD n d)
  have h2 : ([d, c, b, a, o, s] ++ (O ++ S)).Perm ([o, s, a, c, d, b] ++ (O ++ S)) := h1.append_right _
  refine h2.trans ?_
  show (o :: s :: ([a, c, d] ++ (b :: (O ++ S)))).Perm _
  refine (List.Perm.cons o (List.Perm.cons s ?_))
  have h3 : (b :: (O ++ S)).Perm (O ++ b :: S) := List.perm_middle.symm
  have h4 : ([a, c, d] ++ (O ++ b :: S)).Perm ((O ++ [a, c, d]) ++ (S ++ [b])) := by
    rw [← List.append_assoc]
    exact (List.perm_append_comm (l₁ := [a, c, d]) (l₂ := O)).append (List.perm_append_comm (l₁ := [b]) (l₂ := S))
  exact (h3.append_left _).trans h4

theorem nu_le {zs : List Int} {T : Int} {L : List Int} (h : NuIs zs T L) : L.length ≤ zs.length := by
  rcases h with ⟨_, rfl⟩ | ⟨_, o, m, h1, _, _, rfl⟩
  · simp
  · have := h1.length
    rw [List.length_take, upI_length]; omega
theorem sh_le {zs : List Int} {T : Int} {L : List Int} (h : ShIs zs T L) : L.length ≤ zs.length := by
  rcases h with ⟨_, rfl⟩ | ⟨_, o, _, rfl⟩
  · simp
  · rw [bump_length, flL_length]; exact Nat.le_refl _
open Go.Lib Go.Maps in
/-- An append to the first of the rows. -/
theorem _root_.Go.Proofs.Ytgemkmpepnaoiab.Rs.app {B : Nat} {X : World} {r : Rr} {l : List Rr} {news : List Value} {z : Value} {bytes : Nat} {t ty : TypeId} {i0 : TypeInfo} (h : Rs B X (r :: l)) (hB : B ≤ X.heap.size) (ht : Try.prog.underlying t = some (.slice r.T)) (hi : Try.prog.info? r.T = some i0) (hz0 : i0.zero = some z) (hz1 : i0.size = 1) (hz2 : i0.bytes = bytes) (hzc : z.cells.size = 1)
    (n m : Nat) (hn : r.xs.length = n) (hm : news.length = m) (hu : ∀ u ∈ news, u.oneCell' = true) (hm0 : 0 < m) (hm1 : n + m ≤ maxLen) (hm2 : (n + m) * bytes ≤ 140737488355328) :
    ∃ g c X', (Builtin.append_ #[t, t] ty #[r.v, .slice (some ⟨X.heap.size, 0, none⟩) m m]).run Try.prog (X.alloc (.cells news.toArray r.T)) = .ok (.slice (some ⟨g, 0, none⟩) (n + m) c) X' ∧ Rs B X' (⟨r.T, .slice (some ⟨g, 0, none⟩) (n + m) c, r.xs ++ news⟩ :: l) ∧ Kept (fun k => r.v.ownBlock = some k) X X' := by
  obtain ⟨v', X', hrun, hown', hgrow, _, hbl⟩ := run_append_own_at (P := Try.prog) (X.alloc (.cells news.toArray r.T)) B t ty r.T i0 z 1 bytes ht hi hz0 hz1 hz2 hzc (by omega) r.v n r.xs (owns_kept (by rw [← hn]; exact h.head) ((Kept.refl (fun _ => False) X).alloc _) (fun _ _ e => e)) ⟨X.heap.size, 0, none⟩ m m news (by omega) (fun j u hj => by
    rw [Addr.add_lit, Nat.zero_add, Lib.cell_of_heap (heap_alloc_new X (.cells news.toArray r.T))]
    simpa using hj) hu hm1 hm2 (by simp; omega)
  have hk : Kept (fun k => r.v.ownBlock = some k) X X' := ((Kept.refl (fun k => r.v.ownBlock = some k) X).alloc _).grown hgrow (fun k _ e => e)
  have hR : Rs B X' (⟨r.T, v', r.xs ++ news⟩ :: l) := by
    refine h.turn hk ?_ (fun k e => ?_)
    · unfold Rr.At
      rw [List.length_append, hm, hn]
      exact hown'
    · rcases hbl with e2 | e2
      · exact .inl (by rw [← e2]; exact e)
      · right
        have e3 : v'.ownBlock = some k := e
        rw [e2] at e3
        simp at e3
        omega
  rcases hown'.2 with ⟨_, e⟩ | ⟨g, c, cur, hv, _⟩
  · simp at e; omega
  · subst hv
    exact ⟨g, c, X', hrun, hR, hk⟩

set_option maxHeartbeats 4000000 in
set_option maxRecDepth 100000 in
theorem walk (rv : Value) (zs : List Int) (P T : Int) (w : World) (hr : Rw (fun b => b < w.heap.size) w rv zs) (hs : zs.length ≤ 17592186043904) (hP : I64 P) (hT : I64 T) :
    Calls Try.prog 5 #[rv, zV P, zV T] w fun e w' => e = .returned (.bool true) ∧ Fresh w w' := by
  have hnot : ∀ (x : Bool) (w : World), (Op.unary .not (.bool x)).run Try.prog w = .ok (.bool (!x)) w := fun _ _ => rfl
  have HP' : Hid (I64 P) := hP
  have HT' : Hid (I64 T) := hT
  have hln := hr.len
  have HI : Hid (∀ z ∈ zs, I64 z) := hr.all
  obtain ⟨ao, cap, hv, _⟩ := id hr
  subst hv
  obtain ⟨n, hn⟩ : ∃ n, zs.length = n := ⟨_, rfl⟩
  have HN : Hid (zs.length = n) := hn
  have HR : Hid (∀ W S, Kept S w W → (∀ k, k < w.heap.size → ¬ S k) → Rw (fun b => b < W.heap.size) W (.slice ao n cap) zs) := fun W S hF hS => by rw [← hn]; exact (hr.kept hF hS).mono (fun b hb => Nat.lt_of_lt_of_le hb hF.size)
  obtain ⟨tv, Wa, hrun, hown1, hgrow⟩ := twin64 22 _ w.heap.size _ (own64_empty w) (by simp) _ zs _ (hr.fresh ((Kept.refl (fun _ => False) w).alloc (.cells #[] 2)))
  have hFa : Fresh w Wa := ((Kept.refl _ w).alloc _).grown hgrow (fun k hk e => by simp [Value.ownBlock] at e; omega)
  have htw := rw_of_own hown1 hr.len hr.all
  obtain ⟨tao, tcap, htv⟩ := ownsRow_shape hown1
  subst htv
  rw [hn] at hrun htw hln hs ⊢
  have HRN : Hid (Unit → _) := fun (_ : Unit) => refNucleus_any _ _ zs P Wa htw HP'.out
  have HFa : Hid (Fresh w Wa) := hFa
  clear hr hown1 hgrow htw hn hP hT hFa
  go_enter Try.func5, Try.ntmps5
  go_wp2_with (at_builtin; refine Lib.wpList_append_run _ rfl _ _ _ _ rfl _ _ rfl rfl _ _ hrun ?_)
  clear hrun
  refine (HRN.out ()).mono ?_
  rintro e Wb ⟨v7, rfl, Ln, hLn, hR7, hFb⟩
  have hFwb : Fresh w Wb := HFa.out.trans hFb (fun _ _ e => e)
  have hrb := HR.out Wb _ hFwb (fun _ _ e => e)
  obtain ⟨tv2, Wc, hrun, hown2, hgrow⟩ := twin64 22 _ Wb.heap.size _ (own64_empty Wb) (by simp) _ zs _ (hrb.fresh ((Kept.refl (fun _ => False) Wb).alloc (.cells #[] 2)))
  have hFc : Fresh Wb Wc := ((Kept.refl _ Wb).alloc _).grown hgrow (fun k hk e => by simp [Value.ownBlock] at e; omega)
  have htw := rw_of_own hown2 (by rw [HN.out]; exact hln) HI.out
  obtain ⟨tao2, tcap2, htv2⟩ := ownsRow_shape hown2
  subst htv2
  rw [HN.out] at hrun htw
  have HRS : Hid (Unit → _) := fun (_ : Unit) => refShare_any _ _ zs T Wc htw HT'.out
  have HLn : Hid (NuIs zs P Ln) := hLn
  have HFc : Hid (Fresh w Wc ∧ Rw (fun b => Wa.heap.size ≤ b) Wc v7 Ln) := ⟨hFwb.trans hFc (fun _ _ e => e), hR7.fresh hFc⟩
  clear hLn hR7 hFb hFwb hrb hown2 hgrow hFc htw HRN
  obtain ⟨a7, c7, hv7⟩ : ∃ ao cap, v7 = .slice ao Ln.length cap := by obtain ⟨_, _, h, _⟩ := HFc.out.2; exact ⟨_, _, h⟩
  subst hv7
  go_wp2_with (at_builtin; refine Lib.wpList_append_run _ rfl _ _ _ _ rfl _ _ rfl rfl _ _ hrun ?_)
  clear hrun
  refine (HRS.out ()).mono ?_
  rintro e W1 ⟨v9, rfl, Ls, hLs, hown9, hF1⟩
  have hlL : Ls.length ≤ 17592186044416 := sh_len hLs (by rw [HN.out]; exact hln)
  have hR9 := rw_of_own hown9 hlL (sh_i64 hLs HT'.out)
  obtain ⟨a9, c9, hv9⟩ := ownsRow_shape hown9
  subst hv9
  have HLs : Hid (ShIs zs T Ls) := hLs
  have HF1 : Hid (Fresh w W1) := HFc.out.1.trans hF1 (fun _ _ e => e)
  have HR7 : Hid (Rw (fun b => b < W1.heap.size) W1 (.slice a7 Ln.length c7) Ln) := by
    obtain ⟨ao', cap', hv', h1, h2, h3⟩ := HFc.out.2.fresh hF1
    exact ⟨ao', cap', hv', h1, fun h0 => let ⟨b, off, ha, _, hb, hc⟩ := h2 h0; ⟨b, off, ha, hb, hb, hc⟩, h3⟩
  have HR9 : Hid (Rw (fun b => b < W1.heap.size) W1 (.slice a9 Ls.length c9) Ls) := hR9.mono (fun b hb => hb.2)
  clear hLs hown9 hF1 hR9 HFc HRS
  have HS0 : Hid (Rs W1.heap.size ((W1.alloc (.cells #[] 32)).alloc (.cells #[] 22)) (rO (.slice (some ⟨W1.heap.size, 0, none⟩) 0 0) [] :: rS (.slice (some ⟨W1.heap.size + 1, 0, none⟩) 0 0) [] :: ([] ++ []))) := by
    have h1 := heap_alloc_new W1 (.cells #[] 32)
    have h2 := heap_alloc_new (W1.alloc (.cells #[] 32)) (.cells #[] 22)
    rw [World.size_alloc] at h2
    have h3 : ((W1.alloc (.cells #[] 32)).alloc (.cells #[] 22)).heap[W1.heap.size]? = some (.cells #[] 32) := (Below.heap_alloc _ _ _ (by simp)).trans h1
    refine ⟨fun r hr => ?_, ?_⟩
    · simp only [List.append_nil, List.mem_cons, List.not_mem_nil, or_false] at hr
      rcases hr with rfl | rfl
      · exact ⟨rfl, .inr ⟨_, 0, #[], rfl, Nat.le_refl _, h3, Nat.le_refl _, Nat.zero_le _, rfl, rfl⟩⟩
      · exact ⟨rfl, .inr ⟨_, 0, #[], rfl, by omega, h2, Nat.le_refl _, Nat.zero_le _, rfl, rfl⟩⟩
    · simp [Value.ownBlock]
  have HK0 : Hid (Kept (fun k => W1.heap.size ≤ k) W1 ((W1.alloc (.cells #[] 32)).alloc (.cells #[] 22))) := ((Kept.refl _ W1).alloc _).alloc _
  go_wp2
  go_loopw [11, 12, 13] (fun ov sv iv wr => ∃ (i og oc sg sc : Nat) (O S : List Rr), i ≤ 3 ∧ iv = zV i ∧ ov = .slice (some ⟨og, 0, none⟩) (3 * i) oc ∧ sv = .slice (some ⟨sg, 0, none⟩) i sc ∧ O.length = 3 * i ∧ S.length = i ∧ Hid ((∀ r ∈ O, r.T = 3 ∧ r.xs.length ≤ 17592186043904) ∧ (∀ r ∈ S, r.T = 2 ∧ r.xs.length ≤ 17592186043904) ∧ Rs W1.heap.size wr (rO (.slice (some ⟨og, 0, none⟩) (3 * i) oc) O :: rS (.slice (some ⟨sg, 0, none⟩) i sc) S :: (O ++ S)) ∧ Kept (fun k => W1.heap.size ≤ k) W1 wr)) (fun _ _ iv _ => 3 - (RowKit.intOf iv).toNat)
  case atStart => exact ⟨0, _, 0, _, 0, [], [], by omega, rfl, rfl, rfl, rfl, rfl, (⟨fun _ h => by simp at h, fun _ h => by simp at h, HS0.out, HK0.out⟩ : (∀ r ∈ ([] : List Rr), r.T = 3 ∧ r.xs.length ≤ 17592186043904) ∧ (∀ r ∈ ([] : List Rr), r.T = 2 ∧ r.xs.length ≤ 17592186043904) ∧ Rs W1.heap.size _ (rO (.slice (some ⟨W1.heap.size, 0, none⟩) (3 * 0) 0) [] :: rS (.slice (some ⟨W1.heap.size + 1, 0, none⟩) 0 0) [] :: ([] ++ [])) ∧ Kept (fun k => W1.heap.size ≤ k) W1 _)⟩
  case round =>
    obtain ⟨i, og, oc, sg, sc, O, S, hi, rfl, rfl, rfl, hOl, hSl, HA⟩ := hrel
    clear HS0 HK0
    by_cases hlt : i < 3
    · have hKw := HA.out.2.2.2
      have HKB : Hid (∀ X, Fresh wr X → Rw (fun b => b < X.heap.size) X (.slice ao n cap) zs ∧ Rw (fun b => b < W1.heap.size) X (.slice a7 Ln.length c7) Ln ∧ Rw (fun b => b < W1.heap.size) X (.slice a9 Ls.length c9) Ls) := fun X hX => by
        have hk : Kept (fun k => W1.heap.size ≤ k) W1 X := hKw.trans hX (fun _ _ e => e.elim)
        exact ⟨HR.out X (fun k => W1.heap.size ≤ k) ((HF1.out.mono (fun _ _ e => e.elim)).trans hk (fun _ _ e => e)) (fun k hk2 => by have := HF1.out.size; omega), HR7.out.kept hk (fun b hb => by omega), HR9.out.kept hk (fun b hb => by omega)⟩
      have HSz : Hid (W1.heap.size ≤ wr.heap.size) := hKw.size
      have HNu : Hid (Unit → _) := fun (_ : Unit) => nucleus_own _ zs P wr (HKB.out wr (Kept.refl _ _)).1 HP'.out
      have hlt' : (i : Int) < 3 := by omega
      clear hKw
      go_wp2_with fail
      refine (HNu.out ()).mono ?_
      rintro e Wn ⟨va, rfl, La, hLa, howna, hFn⟩
      have ea := hLa.unique HLn.out
      subst ea
      have HRs1 : Hid (Rs W1.heap.size Wn (rI va La :: (rO (.slice (some ⟨og, 0, none⟩) (3 * i) oc) O :: rS (.slice (some ⟨sg, 0, none⟩) i sc) S :: (O ++ S)))) := HA.out.2.2.1.made hFn HSz.out (by show Wn.ownsRow _ _ _ _ _ _; rw [List.length_map]; exact howna)
      obtain ⟨aa, ca, hva⟩ := ownsRow_shape howna
      subst hva
      have hRa := rw_of_own howna (nu_len hLa (by rw [HN.out]; exact hln)) (nu_i64 hLa (by rw [HN.out]; exact hln))
      have HRa : Hid (Rw (fun k => wr.heap.size ≤ k ∧ k < Wn.heap.size) Wn (.slice aa La.length ca) La) := hRa
      have HFn : Hid (Fresh wr Wn) := hFn
      have HSh : Hid (Unit → _) := fun (_ : Unit) => share_any _ zs T Wn (HKB.out Wn hFn).1 HT'.out
      clear hLa howna hFn hRa HNu
      go_wp2_with fail
      refine (HSh.out ()).mono ?_
      rintro e Wh ⟨vb, rfl, Lb, hLb, hownb, hFh⟩
      have eb := hLb.unique HLs.out
      subst eb
      have hFnh : Fresh wr Wh := HFn.out.trans hFh (fun _ _ e => e)
      have HRs2 : Hid (Rs W1.heap.size Wh (rL vb Lb :: rI (.slice aa La.length ca) La :: (rO (.slice (some ⟨og, 0, none⟩) (3 * i) oc) O :: rS (.slice (some ⟨sg, 0, none⟩) i sc) S :: (O ++ S)))) := HRs1.out.made hFh (by have := HSz.out; have := HFn.out.size; omega) (by show Wh.ownsRow _ _ _ _ _ _; rw [List.length_map]; exact hownb)
      obtain ⟨ab, cb, hvb⟩ := ownsRow_shape hownb
      subst hvb
      have HRb : Hid (Rw (fun k => Wn.heap.size ≤ k ∧ k < Wh.heap.size) Wh (.slice ab Lb.length cb) Lb ∧ Rw (fun k => wr.heap.size ≤ k ∧ k < Wn.heap.size) Wh (.slice aa La.length ca) La) := ⟨rw_of_own hownb (sh_len hLb (by rw [HN.out]; exact hln)) (sh_i64 hLb HT'.out), HRa.out.fresh hFh⟩
      have HFh : Hid (Fresh wr Wh) := hFnh
      have HOr : Hid (Unit → _) := fun (_ : Unit) => order_own _ zs Wh (HKB.out Wh hFnh).1
      clear hLb hownb hFh hFnh HSh HRs1 HRa HFn
      go_wp2_with fail
      refine (HOr.out ()).mono ?_
      rintro e Wo ⟨vc, rfl, o, hO, hownc, hFo⟩
      have hol := hO.length
      have htl : ((upI o).take zs.length).length = zs.length := by rw [List.length_take, upI_length, hol]; omega
      have hFho : Fresh wr Wo := HFh.out.trans hFo (fun _ _ e => e)
      have HRs3 : Hid (Rs W1.heap.size Wo (rI vc ((upI o).take zs.length) :: rL (.slice ab Lb.length cb) Lb :: rI (.slice aa La.length ca) La :: (rO (.slice (some ⟨og, 0, none⟩) (3 * i) oc) O :: rS (.slice (some ⟨sg, 0, none⟩) i sc) S :: (O ++ S)))) := HRs2.out.made hFo (by have := HSz.out; have := HFh.out.size; omega) (by show Wo.ownsRow _ _ _ _ _ _; rw [List.length_map, htl]; exact hownc)
      have hRc := rw_of_own (zs := (upI o).take zs.length) (by rw [htl]; exact hownc) (by rw [htl, HN.out]; exact hln) (fun z hz => upI_i64 hO (by rw [HN.out]; exact hln) z (List.mem_of_mem_take hz))
      obtain ⟨ac, cc, hvc⟩ := ownsRow_shape hownc
      subst hvc
      have hO0 := hO
      rw [HN.out] at hRc HRs3 hO htl
      have HRc : Hid (Rw (fun k => Wh.heap.size ≤ k ∧ k < Wo.heap.size) Wo (.slice ac n cc) ((upI o).take n) ∧ Rw (fun k => Wn.heap.size ≤ k ∧ k < Wh.heap.size) Wo (.slice ab Lb.length cb) Lb ∧ Rw (fun k => wr.heap.size ≤ k ∧ k < Wn.heap.size) Wo (.slice aa La.length ca) La) :=
        ⟨hRc, HRb.out.1.fresh hFo, HRb.out.2.fresh hFo⟩
      have HOo : Hid (IsOrd (fun i => zs.getD i 0) zs.length o) := hO0
      have HFo : Hid (Fresh wr Wo) := hFho
      have HTp : Hid (Unit → _) := fun (_ : Unit) => top_own _ zs 2 Wo (HKB.out Wo hFho).1 ⟨by decide, by decide⟩
      rw [HN.out]
      clear hO hO0 hol htl hownc hFo hFho hRc HRs2 HRb HFh HOr
      go_wp2_with fail
      refine (HTp.out ()).mono ?_
      rintro e Wt ⟨vd, rfl, o2, hO2, hownd, hFt⟩
      have e2 := hO2.unique HOo.out
      subst e2
      obtain ⟨m, hm⟩ : ∃ m, topN 2 zs.length = m := ⟨_, rfl⟩
      have HM : Hid (topN 2 zs.length = m) := hm
      have hmn : m ≤ n := by
        rw [← hm, ← HN.out]
        unfold topN
        split <;> omega
      have htl : ((upI o2).take m).length = m := by rw [List.length_take, upI_length, HOo.out.length, HN.out]; omega
      rw [hm] at hownd
      have hFwt : Fresh wr Wt := HFo.out.trans hFt (fun _ _ e => e)
      have HRs4 : Hid (Rs W1.heap.size Wt (rI vd ((upI o2).take m) :: rI (.slice ac n cc) ((upI o2).take n) :: rL (.slice ab Lb.length cb) Lb :: rI (.slice aa La.length ca) La :: (rO (.slice (some ⟨og, 0, none⟩) (3 * i) oc) O :: rS (.slice (some ⟨sg, 0, none⟩) i sc) S :: (O ++ S)))) := HRs3.out.made hFt (by have := HSz.out; have := HFo.out.size; omega) (by show Wt.ownsRow _ _ _ _ _ _; rw [List.length_map, htl]; exact hownd)
      have hRd := rw_of_own (zs := (upI o2).take m) (by rw [htl]; exact hownd) (by rw [htl]; omega) (fun z hz => upI_i64 HOo.out (by rw [HN.out]; exact hln) z (List.mem_of_mem_take hz))
      obtain ⟨ad, cd, hvd⟩ := ownsRow_shape hownd
      subst hvd
      have HRd : Hid (Rw (fun k => Wo.heap.size ≤ k ∧ k < Wt.heap.size) Wt (.slice ad m cd) ((upI o2).take m) ∧ Rw (fun k => Wh.heap.size ≤ k ∧ k < Wo.heap.size) Wt (.slice ac n cc) ((upI o2).take n)) := ⟨hRd, HRc.out.1.fresh hFt⟩
      have HIa : Hid (Unit → _) := fun (_ : Unit) => ints_any _ _ _ _ La Wt (HRc.out.2.2.fresh hFt) (HKB.out Wt hFwt).2.1
      have HLb : Hid (∀ q, Unit → _) := fun q (_ : Unit) => longs_any _ _ _ _ Lb (Wt.drewN q) ((HRc.out.2.1.fresh hFt).fresh ((Kept.refl (fun _ => False) Wt).drewN q)) (HKB.out (Wt.drewN q) (hFwt.drewN q)).2.2
      have HFt : Hid (Fresh wr Wt) := hFwt
      clear htl hRd hownd hFt hFwt hO2 HRc HRs3 HFo HTp
      go_wp2_with fail
      refine (HIa.out ()).mono ?_
      rintro e Wx ⟨rfl, q1, rfl⟩
      clear HIa
      go_wp2_with fail
      refine (HLb.out q1 ()).mono ?_
      rintro e Wx ⟨rfl, q2, rfl⟩
      clear HLb
      have HFx : Hid (∀ q, Fresh wr (Wt.drewN q)) := fun q => HFt.out.drewN q
      have HRo : Hid (Unit → _) := fun (_ : Unit) => refOrder_at _ _ zs (Wt.drewN (q1 + q2)) (HKB.out _ (HFx.out (q1 + q2))).1
      go_wp2_with fail
      refine (HRo.out ()).mono ?_
      rintro e Wy ⟨v4, rfl, o4, hO4, hR4, hF4⟩
      have e4 := hO4.unique HOo.out
      subst e4
      have hFwy : Fresh wr Wy := (HFx.out (q1 + q2)).trans hF4 (fun _ _ e => e)
      have hFty : Fresh Wt Wy := ((Kept.refl (fun _ => False) Wt).drewN (q1 + q2)).trans hF4 (fun _ _ e => e)
      have HRd2 : Hid (Rw (fun k => Wo.heap.size ≤ k ∧ k < Wt.heap.size) Wy (.slice ad m cd) ((upI o4).take m)) := HRd.out.1.fresh hFty
      rw [HN.out] at hR4
      have HIc : Hid (Unit → _) := fun (_ : Unit) => ints_any _ _ _ _ ((upI o4).take n) Wy (HRd.out.2.fresh hFty) hR4
      have HRs5 : Hid (Rs W1.heap.size Wy (rI (.slice ad m cd) ((upI o4).take m) :: rI (.slice ac n cc) ((upI o4).take n) :: rL (.slice ab Lb.length cb) Lb :: rI (.slice aa La.length ca) La :: (rO (.slice (some ⟨og, 0, none⟩) (3 * i) oc) O :: rS (.slice (some ⟨sg, 0, none⟩) i sc) S :: (O ++ S)))) := HRs4.out.fresh hFty
      have HFy : Hid (Fresh wr Wy) := hFwy
      clear hO4 hR4 hF4 hFwy hFty HRd HRs4 HFt HFx HRo
      go_wp2_with fail
      refine (HIc.out ()).mono ?_
      rintro e Wx ⟨rfl, q3, rfl⟩
      clear HIc
      have HRt : Hid (Unit → _) := fun (_ : Unit) => refTop_at _ _ zs 2 (Wy.drewN q3) (HKB.out _ (HFy.out.drewN q3)).1 ⟨by decide, by decide⟩
      go_wp2_with fail
      refine (HRt.out ()).mono ?_
      rintro e Wz ⟨v5, rfl, o5, hO5, hR5, hF5⟩
      have e5 := hO5.unique HOo.out
      subst e5
      have hFwz : Fresh wr Wz := (HFy.out.drewN q3).trans hF5 (fun _ _ e => e)
      have hFyz : Fresh Wy Wz := ((Kept.refl (fun _ => False) Wy).drewN q3).trans hF5 (fun _ _ e => e)
      rw [HM.out] at hR5
      have HId : Hid (Unit → _) := fun (_ : Unit) => ints_any _ _ _ _ ((upI o5).take m) Wz (HRd2.out.fresh hFyz) hR5
      have HRs6 : Hid (∀ q, Rs W1.heap.size (Wz.drewN q) (rI (.slice ad m cd) ((upI o5).take m) :: rI (.slice ac n cc) ((upI o5).take n) :: rL (.slice ab Lb.length cb) Lb :: rI (.slice aa La.length ca) La :: (rO (.slice (some ⟨og, 0, none⟩) (3 * i) oc) O :: rS (.slice (some ⟨sg, 0, none⟩) i sc) S :: (O ++ S)))) := fun q => HRs5.out.fresh (hFyz.drewN q)
      have HFz : Hid (∀ q, Fresh wr (Wz.drewN q)) := fun q => hFwz.drewN q
      clear hO5 hR5 hF5 hFwz hFyz HRd2 HRs5 HFy HRt
      go_wp2_with fail
      refine (HId.out ()).mono ?_
      rintro e Wx ⟨rfl, q4, rfl⟩
      clear HId
      obtain ⟨W2, hW2⟩ : ∃ W2, W2 = Wz.drewN q4 := ⟨_, rfl⟩
      have hRs7 := HRs6.out q4
      have hF7 := HFz.out q4
      rw [← hW2] at hRs7 hF7 ⊢
      clear hW2 HRs6 HFz
      have hlo : W1.heap.size ≤ og ∧ W1.heap.size ≤ sg := ⟨((hRs7.own (rO (.slice (some ⟨og, 0, none⟩) (3 * i) oc) O) (by simp)).lt (by simp [Value.ownBlock])).1, ((hRs7.own (rS (.slice (some ⟨sg, 0, none⟩) i sc) S) (by simp)).lt (by simp [Value.ownBlock])).1⟩
      have hS2 : W1.heap.size ≤ W2.heap.size := by have := HSz.out; have := hF7.size; omega
      obtain ⟨i1, hi1, hx1, hy1, hz1⟩ := info_parts infoRI
      obtain ⟨i2, hi2, hx2, hy2, hz2⟩ := info_parts infoRL
      obtain ⟨og', oc', W3, hrun1, hRs8, hK8⟩ := Rs.app (t := 35) (ty := 35) (news := [.slice aa La.length ca, .slice ac n cc, .slice ad m cd]) (hRs7.perm (six O S)) hS2 Try.underlying35 hi1 hx1 hy1 hz1 rfl (3 * i) 3 (by show (O.map Rr.v).length = _; rw [List.length_map, hOl]) rfl (by intro u hu; simp only [List.mem_cons, List.not_mem_nil, or_false] at hu; rcases hu with rfl | rfl | rfl <;> rfl) (by omega) (by unfold maxLen; omega) (by omega)
      have hS3 : W1.heap.size ≤ W3.heap.size := Nat.le_trans hS2 hK8.size
      obtain ⟨sg', sc', W4, hrun2, hRs9, hK9⟩ := Rs.app (t := 36) (ty := 36) (news := [.slice ab Lb.length cb]) (hRs8.perm (List.Perm.swap _ _ _)) hS3 Try.underlying36 hi2 hx2 hy2 hz2 rfl i 1 (by show (S.map Rr.v).length = _; rw [List.length_map, hSl]) rfl (by intro u hu; simp only [List.mem_cons, List.not_mem_nil, or_false] at hu; subst hu; rfl) (by omega) (by unfold maxLen; omega) (by omega)
      have hK4 : Kept (fun k => W1.heap.size ≤ k) W1 W4 := ((HA.out.2.2.2.trans hF7 (fun _ _ e => e.elim)).trans hK8 (fun k _ e => by simp [Value.ownBlock] at e; omega)).trans hK9 (fun k _ e => by simp [Value.ownBlock] at e; omega)
      have hRsA := hRs9.perm (List.Perm.swap _ _ _)
      have hnl : La.length ≤ 17592186043904 := Nat.le_trans (nu_le HLn.out) (by rw [HN.out]; exact hs)
      have hsl : Lb.length ≤ 17592186043904 := Nat.le_trans (sh_le HLs.out) (by rw [HN.out]; exact hs)
      have HRsB : Hid (Rs W1.heap.size W4 (rO (.slice (some ⟨og', 0, none⟩) (3 * (i + 1)) oc') (O ++ [rI (.slice aa La.length ca) La, rI (.slice ac n cc) ((upI o5).take n), rI (.slice ad m cd) ((upI o5).take m)]) :: rS (.slice (some ⟨sg', 0, none⟩) (i + 1) sc') (S ++ [rL (.slice ab Lb.length cb) Lb]) :: ((O ++ [rI (.slice aa La.length ca) La, rI (.slice ac n cc) ((upI o5).take n), rI (.slice ad m cd) ((upI o5).take m)]) ++ (S ++ [rL (.slice ab Lb.length cb) Lb])))) := by
        unfold rO rS
        rw [List.map_append, List.map_append]
        exact hRsA
      have HO3 : Hid (∀ r ∈ O ++ [rI (.slice aa La.length ca) La, rI (.slice ac n cc) ((upI o5).take n), rI (.slice ad m cd) ((upI o5).take m)], r.T = 3 ∧ r.xs.length ≤ 17592186043904) := by
        intro r hr
        rcases List.mem_append.1 hr with h | h
        · exact HA.out.1 r h
        · simp only [List.mem_cons, List.not_mem_nil, or_false] at h
          rcases h with rfl | rfl | rfl
          · exact ⟨rfl, by show (List.map _ _).length ≤ _; rw [List.length_map]; exact hnl⟩
          · exact ⟨rfl, by show (List.map _ _).length ≤ _; rw [List.length_map, List.length_take]; omega⟩
          · exact ⟨rfl, by show (List.map _ _).length ≤ _; rw [List.length_map, List.length_take]; omega⟩
      have HS3 : Hid (∀ r ∈ S ++ [rL (.slice ab Lb.length cb) Lb], r.T = 2 ∧ r.xs.length ≤ 17592186043904) := by
        intro r hr
        rcases List.mem_append.1 hr with h | h
        · exact HA.out.2.1 r h
        · simp only [List.mem_cons, List.not_mem_nil, or_false] at h
          subst h
          exact ⟨rfl, by show (List.map _ _).length ≤ _; rw [List.length_map]; exact hsl⟩
      have HKK : Hid (Kept (fun k => W1.heap.size ≤ k) W1 W4) := hK4
      clear hRs7 hF7 hlo hS2 hRs8 hK8 hS3 hRs9 hK9 hK4 hRsA hi1 hx1 hy1 hz1 hi2 hx2 hy2 hz2 hnl hsl HA
      go_wp2_with (at_builtin; first | refine Lib.wpList_append_run _ rfl _ _ _ _ rfl _ _ rfl rfl _ _ hrun1 ?_ | refine Lib.wpList_append_run _ rfl _ _ _ _ rfl _ _ rfl rfl _ _ hrun2 ?_)
      go_roundw
      case rel => exact ⟨i + 1, og', oc', sg', sc', _, _, by omega, by go_num, rfl, rfl, by simp [hOl]; omega, by simp [hSl], ⟨HO3.out, HS3.out, HRsB.out, HKK.out⟩⟩
      case measure => simp [RowKit.intOf]; omega
    · obtain rfl : i = 3 := by omega
      have HM : Hid (Ms W1.heap.size W1 wr (.slice (some ⟨og, 0, none⟩) 9 oc) (.slice (some ⟨sg, 0, none⟩) 3 sc) O S) := HA.out
      have HOL : Hid (O.length = 9) := hOl
      have HSL : Hid (S.length = 3) := hSl
      clear HA hOl hSl hlt hi
      rw [show 3 * 3 = 9 from rfl]
      have HKX : Hid (∀ X, Kept (fun k => W1.heap.size ≤ k) W1 X → Rw (fun b => b < X.heap.size) X (.slice ao n cap) zs ∧ Rw (fun b => b < W1.heap.size) X (.slice a7 Ln.length c7) Ln ∧ Rw (fun b => b < W1.heap.size) X (.slice a9 Ls.length c9) Ls) := fun X hk =>
        ⟨HR.out X (fun k => W1.heap.size ≤ k) ((HF1.out.mono (fun _ _ e => e.elim)).trans hk (fun _ _ e => e)) (fun k hk2 => by have := HF1.out.size; omega), HR7.out.kept hk (fun b hb => by omega), HR9.out.kept hk (fun b hb => by omega)⟩
      go_wp2
      go_loopw [20] (fun iv wr => ∃ (i : Nat) (O : List Rr), i ≤ 9 ∧ iv = zV i ∧ Hid (O.length = 9 ∧ Ms W1.heap.size W1 wr (.slice (some ⟨og, 0, none⟩) 9 oc) (.slice (some ⟨sg, 0, none⟩) 3 sc) O S ∧ Dn O i 0)) (fun iv _ => 9 - (RowKit.intOf iv).toNat)
      case atStart => exact ⟨0, O, by omega, rfl, ⟨HOL.out, HM.out, Dn.zero O⟩⟩
      case round =>
        obtain ⟨i, O, hi, rfl, HA⟩ := hrel
        clear HM HOL
        by_cases hlt : i < 9
        · obtain ⟨r, hr⟩ : ∃ r, O[i]? = some r := ⟨_, List.getElem?_eq_getElem (by rw [HA.out.1]; exact hlt)⟩
          obtain ⟨av, cv, hv, hsh⟩ := (HA.out.2.1.rowO hr).row
          obtain ⟨ln, hln⟩ : ∃ ln, r.xs.length = ln := ⟨_, rfl⟩
          rw [hln] at hv hsh
          have h44 : ln ≤ 17592186043904 := by rw [← hln]; exact (HA.out.2.1.1 r (List.mem_of_getElem? hr)).2
          have HB0 : Hid (O.length = 9 ∧ (∃ r, O[i]? = some r ∧ r.v = .slice av ln cv ∧ r.xs.length = ln) ∧ Ms W1.heap.size W1 wr (.slice (some ⟨og, 0, none⟩) 9 oc) (.slice (some ⟨sg, 0, none⟩) 3 sc) O S ∧ Dn O i 0) := ⟨HA.out.1, ⟨r, hr, hv, hln⟩, HA.out.2⟩
          have hlt' : (i : Int) < 9 := by omega
          clear hr hv hln HA
          go_wp2
          go_loopw [21] (fun jv wr => ∃ (j : Nat) (O : List Rr), j ≤ ln ∧ jv = zV j ∧ Hid (O.length = 9 ∧ (∃ r, O[i]? = some r ∧ r.v = .slice av ln cv ∧ r.xs.length = ln) ∧ Ms W1.heap.size W1 wr (.slice (some ⟨og, 0, none⟩) 9 oc) (.slice (some ⟨sg, 0, none⟩) 3 sc) O S ∧ Dn O i j)) (fun jv _ => ln - (RowKit.intOf jv).toNat)
          case atStart => exact ⟨0, O, by omega, rfl, HB0.out⟩
          case round =>
            obtain ⟨j, O, hj, rfl, HB⟩ := hrel
            clear HB0
            obtain ⟨r, hr, hv, hln⟩ := HB.out.2.1
            have c0 : wr.cell? ⟨og, i, none⟩ = some (.slice av ln cv) := by rw [← hv]; exact HB.out.2.2.1.cellO HB.out.1 hr
            by_cases hjl : j < ln
            · obtain ⟨g, rfl⟩ := hsh.resolve_left (by omega)
              have c1 : wr.cell? ⟨g, j, none⟩ = r.xs[j]? := (HB.out.2.2.1.rowO hr).cell hv hln hjl
              obtain ⟨u, hu⟩ : ∃ u, r.xs[j]? = some u := ⟨_, List.getElem?_eq_getElem (by omega)⟩
              rw [hu] at c1
              have c2 : wr.frozen? ⟨g, j, none⟩ = false := (HB.out.2.2.1.rowO hr).cold hv hln j
              have HB2 : Hid (∃ O, O.length = 9 ∧ (∃ r, O[i]? = some r ∧ r.v = .slice (some ⟨g, 0, none⟩) ln cv ∧ r.xs.length = ln) ∧ Ms W1.heap.size W1 (wr.setCell ⟨g, j, none⟩ (zV (-1 - (i : Int)))) (.slice (some ⟨og, 0, none⟩) 9 oc) (.slice (some ⟨sg, 0, none⟩) 3 sc) O S ∧ Dn O i (j + 1)) := ⟨O.set i ⟨r.T, r.v, r.xs.set j (zV (-1 - (i : Int)))⟩, by rw [List.length_set]; exact HB.out.1, ⟨_, List.getElem?_set_self (List.getElem?_eq_some_iff.1 hr).1, hv, by show (r.xs.set j _).length = _; rw [List.length_set]; exact hln⟩, HB.out.2.2.1.storeO hr hv hln _, HB.out.2.2.2.step hr⟩
              have hjl' : (j : Int) < ln := by omega
              clear hr hv hln HB hu
              go_wp2
              go_roundw
              case rel => exact ⟨j + 1, HB2.out.choose, by omega, by go_num, HB2.out.choose_spec⟩
              case measure => simp [RowKit.intOf]; omega
            · obtain rfl : j = ln := by omega
              have HB3 : Hid (O.length = 9 ∧ Ms W1.heap.size W1 wr (.slice (some ⟨og, 0, none⟩) 9 oc) (.slice (some ⟨sg, 0, none⟩) 3 sc) O S ∧ Dn O (i + 1) 0) := ⟨HB.out.1, HB.out.2.2.1, HB.out.2.2.2.next hr (by omega)⟩
              clear hr hv HB hln
              go_wp2
              go_roundw
              case rel => exact ⟨i + 1, O, by omega, by go_num, HB3.out⟩
              case measure => simp [RowKit.intOf]; omega
        · obtain rfl : i = 9 := by omega
          have HOD : Hid (Dn O 9 0) := HA.out.2.2
          have HOL : Hid (O.length = 9) := HA.out.1
          have HM : Hid (Ms W1.heap.size W1 wr (.slice (some ⟨og, 0, none⟩) 9 oc) (.slice (some ⟨sg, 0, none⟩) 3 sc) O S) := HA.out.2.1
          clear HA hlt hi
          go_wp2
          go_loopw [22] (fun iv wr => ∃ (i : Nat) (S : List Rr), i ≤ 3 ∧ iv = zV i ∧ Hid (S.length = 3 ∧ Ms W1.heap.size W1 wr (.slice (some ⟨og, 0, none⟩) 9 oc) (.slice (some ⟨sg, 0, none⟩) 3 sc) O S ∧ Dn S i 0)) (fun iv _ => 3 - (RowKit.intOf iv).toNat)
          case atStart => exact ⟨0, S, by omega, rfl, ⟨HSL.out, HM.out, Dn.zero S⟩⟩
          case round =>
            obtain ⟨i, S, hi, rfl, HA⟩ := hrel
            clear HM HSL
            by_cases hlt : i < 3
            · obtain ⟨r, hr⟩ : ∃ r, S[i]? = some r := ⟨_, List.getElem?_eq_getElem (by rw [HA.out.1]; exact hlt)⟩
              obtain ⟨av, cv, hv, hsh⟩ := (HA.out.2.1.rowS hr).row
              obtain ⟨ln, hln⟩ : ∃ ln, r.xs.length = ln := ⟨_, rfl⟩
              rw [hln] at hv hsh
              have h44 : ln ≤ 17592186043904 := by rw [← hln]; exact (HA.out.2.1.2.1 r (List.mem_of_getElem? hr)).2
              have HB0 : Hid (S.length = 3 ∧ (∃ r, S[i]? = some r ∧ r.v = .slice av ln cv ∧ r.xs.length = ln) ∧ Ms W1.heap.size W1 wr (.slice (some ⟨og, 0, none⟩) 9 oc) (.slice (some ⟨sg, 0, none⟩) 3 sc) O S ∧ Dn S i 0) := ⟨HA.out.1, ⟨r, hr, hv, hln⟩, HA.out.2⟩
              have hlt' : (i : Int) < 3 := by omega
              clear hr hv hln HA
              go_wp2
              go_loopw [23] (fun jv wr => ∃ (j : Nat) (S : List Rr), j ≤ ln ∧ jv = zV j ∧ Hid (S.length = 3 ∧ (∃ r, S[i]? = some r ∧ r.v = .slice av ln cv ∧ r.xs.length = ln) ∧ Ms W1.heap.size W1 wr (.slice (some ⟨og, 0, none⟩) 9 oc) (.slice (some ⟨sg, 0, none⟩) 3 sc) O S ∧ Dn S i j)) (fun jv _ => ln - (RowKit.intOf jv).toNat)
              case atStart => exact ⟨0, S, by omega, rfl, HB0.out⟩
              case round =>
                obtain ⟨j, S, hj, rfl, HB⟩ := hrel
                clear HB0
                obtain ⟨r, hr, hv, hln⟩ := HB.out.2.1
                have c0 : wr.cell? ⟨sg, i, none⟩ = some (.slice av ln cv) := by rw [← hv]; exact HB.out.2.2.1.cellS HB.out.1 hr
                by_cases hjl : j < ln
                · obtain ⟨g, rfl⟩ := hsh.resolve_left (by omega)
                  have c1 : wr.cell? ⟨g, j, none⟩ = r.xs[j]? := (HB.out.2.2.1.rowS hr).cell hv hln hjl
                  obtain ⟨u, hu⟩ : ∃ u, r.xs[j]? = some u := ⟨_, List.getElem?_eq_getElem (by omega)⟩
                  rw [hu] at c1
                  have c2 : wr.frozen? ⟨g, j, none⟩ = false := (HB.out.2.2.1.rowS hr).cold hv hln j
                  have HB2 : Hid (∃ S, S.length = 3 ∧ (∃ r, S[i]? = some r ∧ r.v = .slice (some ⟨g, 0, none⟩) ln cv ∧ r.xs.length = ln) ∧ Ms W1.heap.size W1 (wr.setCell ⟨g, j, none⟩ (zV (-1 - (i : Int)))) (.slice (some ⟨og, 0, none⟩) 9 oc) (.slice (some ⟨sg, 0, none⟩) 3 sc) O S ∧ Dn S i (j + 1)) := ⟨S.set i ⟨r.T, r.v, r.xs.set j (zV (-1 - (i : Int)))⟩, by rw [List.length_set]; exact HB.out.1, ⟨_, List.getElem?_set_self (List.getElem?_eq_some_iff.1 hr).1, hv, by show (r.xs.set j _).length = _; rw [List.length_set]; exact hln⟩, HB.out.2.2.1.storeS hr hv hln _, HB.out.2.2.2.step hr⟩
                  have hjl' : (j : Int) < ln := by omega
                  clear hr hv hln HB hu
                  go_wp2
                  go_roundw
                  case rel => exact ⟨j + 1, HB2.out.choose, by omega, by go_num, HB2.out.choose_spec⟩
                  case measure => simp [RowKit.intOf]; omega
                · obtain rfl : j = ln := by omega
                  have HB3 : Hid (S.length = 3 ∧ Ms W1.heap.size W1 wr (.slice (some ⟨og, 0, none⟩) 9 oc) (.slice (some ⟨sg, 0, none⟩) 3 sc) O S ∧ Dn S (i + 1) 0) := ⟨HB.out.1, HB.out.2.2.1, HB.out.2.2.2.next hr (by omega)⟩
                  clear hr hv HB hln
                  go_wp2
                  go_roundw
                  case rel => exact ⟨i + 1, S, by omega, by go_num, HB3.out⟩
                  case measure => simp [RowKit.intOf]; omega
            · obtain rfl : i = 3 := by omega
              have HSD : Hid (Dn S 3 0) := HA.out.2.2
              have HSL : Hid (S.length = 3) := HA.out.1
              have HM : Hid (Ms W1.heap.size W1 wr (.slice (some ⟨og, 0, none⟩) 9 oc) (.slice (some ⟨sg, 0, none⟩) 3 sc) O S) := HA.out.2.1
              clear HA hlt hi
              go_wp2
              go_loopw [24] (fun iv wr => ∃ (i : Nat), i ≤ 9 ∧ iv = zV i ∧ Hid (Ms W1.heap.size W1 wr (.slice (some ⟨og, 0, none⟩) 9 oc) (.slice (some ⟨sg, 0, none⟩) 3 sc) O S)) (fun iv _ => 9 - (RowKit.intOf iv).toNat)
              case atStart => exact ⟨0, by omega, rfl, HM.out⟩
              case round =>
                obtain ⟨i, hi, rfl, HA⟩ := hrel
                clear HM
                by_cases hlt : i < 9
                · obtain ⟨r, hr⟩ : ∃ r, O[i]? = some r := ⟨_, List.getElem?_eq_getElem (by rw [HOL.out]; exact hlt)⟩
                  obtain ⟨av, cv, hv, hsh⟩ := (HA.out.rowO hr).row
                  have hT := (HA.out.1 r (List.mem_of_getElem? hr)).1
                  obtain ⟨ln, hln⟩ : ∃ ln, r.xs.length = ln := ⟨_, rfl⟩
                  rw [hln] at hv hsh
                  have h44 : ln ≤ 17592186043904 := by rw [← hln]; exact (HA.out.1 r (List.mem_of_getElem? hr)).2
                  have c0 : wr.cell? ⟨og, i, none⟩ = some (.slice av ln cv) := by rw [← hv]; exact HA.out.cellO HOL.out hr
                  obtain ⟨T0, v0, xs⟩ := r
                  have hT' : T0 = 3 := hT
                  have hv' : v0 = .slice av ln cv := hv
                  have hln' : xs.length = ln := hln
                  subst hT' hv'
                  have HW : Hid (∀ X', Rs W1.heap.size X' (⟨3, .slice av ln cv, xs⟩ :: (rO (.slice (some ⟨og, 0, none⟩) 9 oc) O :: rS (.slice (some ⟨sg, 0, none⟩) 3 sc) S :: (O ++ S)).eraseIdx (i + 2)) → Kept (fun k => W1.heap.size ≤ k) W1 X' → Ms W1.heap.size W1 X' (.slice (some ⟨og, 0, none⟩) 9 oc) (.slice (some ⟨sg, 0, none⟩) 3 sc) O S) := fun X' h1 h2 => HA.out.backO hr h1 h2
                  have HB0 : Hid (Bes W1.heap.size wr ⟨3, .slice av ln cv, xs⟩ ((rO (.slice (some ⟨og, 0, none⟩) 9 oc) O :: rS (.slice (some ⟨sg, 0, none⟩) 3 sc) S :: (O ++ S)).eraseIdx (i + 2)) (.slice av (ln + 0) cv) (ln + 0) ∧ Kept (fun k => W1.heap.size ≤ k) W1 wr) := ⟨by have h := Bes.start (HA.out.outO hr); rw [show (Rr.xs ⟨3, .slice av ln cv, xs⟩).length = ln from hln'] at h; exact h, HA.out.2.2.2⟩
                  have hlt' : (i : Int) < 9 := by omega
                  clear hr hv hln HA hT hsh hln'
                  go_wp2
                  go_loopw [25, 26] (fun gv jv wr => ∃ (j : Nat) (ga : Option Addr) (gc : Nat), j ≤ 20 ∧ jv = zV j ∧ gv = .slice ga (ln + j) gc ∧ Hid (Bes W1.heap.size wr ⟨3, .slice av ln cv, xs⟩ ((rO (.slice (some ⟨og, 0, none⟩) 9 oc) O :: rS (.slice (some ⟨sg, 0, none⟩) 3 sc) S :: (O ++ S)).eraseIdx (i + 2)) (.slice ga (ln + j) gc) (ln + j) ∧ Kept (fun k => W1.heap.size ≤ k) W1 wr)) (fun _ jv _ => 20 - (RowKit.intOf jv).toNat)
                  case atStart => exact ⟨0, av, cv, by omega, rfl, rfl, HB0.out⟩
                  case round =>
                    obtain ⟨j, ga, gc, hj, rfl, rfl, HB⟩ := hrel
                    clear HB0
                    by_cases hjl : j < 20
                    · obtain ⟨i0, hi0, hz0, hz1, hz2⟩ := info_parts Try.infoI
                      obtain ⟨gv', X', hrun, hB', hblk, hos, htape, hout, hsz⟩ := HB.out.1.push (t := 32) (ty := 32) (u := zV 77) HB.out.2.size Try.underlying32 hi0 hz0 hz1 hz2 rfl rfl (by unfold maxLen; omega) (by omega)
                      obtain ⟨ga', gc', hgv⟩ : ∃ a c, gv' = .slice a (ln + j + 1) c := by obtain ⟨_, ys, _, ho, _⟩ := hB'; exact ownsRow_shape ho
                      subst hgv
                      have HB2 : Hid (Bes W1.heap.size X' ⟨3, .slice av ln cv, xs⟩ ((rO (.slice (some ⟨og, 0, none⟩) 9 oc) O :: rS (.slice (some ⟨sg, 0, none⟩) 3 sc) S :: (O ++ S)).eraseIdx (i + 2)) (.slice ga' (ln + (j + 1)) gc') (ln + (j + 1)) ∧ Kept (fun k => W1.heap.size ≤ k) W1 X') := ⟨hB', ⟨hos.trans HB.out.2.os, htape.trans HB.out.2.tape, hout.trans HB.out.2.output, Nat.le_trans HB.out.2.size hsz, fun k hk hn => (hblk k hk).trans (HB.out.2.block k hk hn)⟩⟩
                      have hjl' : (j : Int) < 20 := by omega
                      clear hB' hblk hos htape hout hsz hi0 hz0 hz1 hz2 HB
                      go_wp2_with (at_builtin; refine Lib.wpList_append_run _ rfl _ _ _ _ rfl _ _ rfl rfl _ _ hrun ?_)
                      go_roundw
                      case rel => exact ⟨j + 1, by omega, by go_num, ga', gc', ⟨rfl, by omega, rfl⟩, HB2.out⟩
                      case measure => simp [RowKit.intOf]; omega
                    · obtain rfl : j = 20 := by omega
                      have HB3 : Hid (Ms W1.heap.size W1 wr (.slice (some ⟨og, 0, none⟩) 9 oc) (.slice (some ⟨sg, 0, none⟩) 3 sc) O S) := HW.out wr HB.out.1.1 HB.out.2
                      clear HB HW
                      go_wp2
                      go_roundw
                      case rel => exact ⟨i + 1, by omega, by go_num, HB3.out⟩
                      case measure => simp [RowKit.intOf]; omega
                · obtain rfl : i = 9 := by omega
                  have HM : Hid (Ms W1.heap.size W1 wr (.slice (some ⟨og, 0, none⟩) 9 oc) (.slice (some ⟨sg, 0, none⟩) 3 sc) O S) := HA.out
                  clear HA hlt hi
                  go_wp2
                  go_loopw [27] (fun iv wr => ∃ (i : Nat), i ≤ 3 ∧ iv = zV i ∧ Hid (Ms W1.heap.size W1 wr (.slice (some ⟨og, 0, none⟩) 9 oc) (.slice (some ⟨sg, 0, none⟩) 3 sc) O S)) (fun iv _ => 3 - (RowKit.intOf iv).toNat)
                  case atStart => exact ⟨0, by omega, rfl, HM.out⟩
                  case round =>
                    obtain ⟨i, hi, rfl, HA⟩ := hrel
                    clear HM
                    by_cases hlt : i < 3
                    · obtain ⟨r, hr⟩ : ∃ r, S[i]? = some r := ⟨_, List.getElem?_eq_getElem (by rw [HSL.out]; exact hlt)⟩
                      obtain ⟨av, cv, hv, hsh⟩ := (HA.out.rowS hr).row
                      have hT := (HA.out.2.1 r (List.mem_of_getElem? hr)).1
                      obtain ⟨ln, hln⟩ : ∃ ln, r.xs.length = ln := ⟨_, rfl⟩
                      rw [hln] at hv hsh
                      have h44 : ln ≤ 17592186043904 := by rw [← hln]; exact (HA.out.2.1 r (List.mem_of_getElem? hr)).2
                      have c0 : wr.cell? ⟨sg, i, none⟩ = some (.slice av ln cv) := by rw [← hv]; exact HA.out.cellS HSL.out hr
                      obtain ⟨T0, v0, xs⟩ := r
                      have hT' : T0 = 2 := hT
                      have hv' : v0 = .slice av ln cv := hv
                      have hln' : xs.length = ln := hln
                      subst hT' hv'
                      have HW : Hid (∀ X', Rs W1.heap.size X' (⟨2, .slice av ln cv, xs⟩ :: (rO (.slice (some ⟨og, 0, none⟩) 9 oc) O :: rS (.slice (some ⟨sg, 0, none⟩) 3 sc) S :: (O ++ S)).eraseIdx (O.length + i + 2)) → Kept (fun k => W1.heap.size ≤ k) W1 X' → Ms W1.heap.size W1 X' (.slice (some ⟨og, 0, none⟩) 9 oc) (.slice (some ⟨sg, 0, none⟩) 3 sc) O S) := fun X' h1 h2 => HA.out.backS hr h1 h2
                      have HB0 : Hid (Bes W1.heap.size wr ⟨2, .slice av ln cv, xs⟩ ((rO (.slice (some ⟨og, 0, none⟩) 9 oc) O :: rS (.slice (some ⟨sg, 0, none⟩) 3 sc) S :: (O ++ S)).eraseIdx (O.length + i + 2)) (.slice av (ln + 0) cv) (ln + 0) ∧ Kept (fun k => W1.heap.size ≤ k) W1 wr) := ⟨by have h := Bes.start (HA.out.outS hr); rw [show (Rr.xs ⟨2, .slice av ln cv, xs⟩).length = ln from hln'] at h; exact h, HA.out.2.2.2⟩
                      have hlt' : (i : Int) < 3 := by omega
                      clear hr hv hln HA hT hsh hln'
                      go_wp2
                      go_loopw [28, 29] (fun gv jv wr => ∃ (j : Nat) (ga : Option Addr) (gc : Nat), j ≤ 20 ∧ jv = zV j ∧ gv = .slice ga (ln + j) gc ∧ Hid (Bes W1.heap.size wr ⟨2, .slice av ln cv, xs⟩ ((rO (.slice (some ⟨og, 0, none⟩) 9 oc) O :: rS (.slice (some ⟨sg, 0, none⟩) 3 sc) S :: (O ++ S)).eraseIdx (O.length + i + 2)) (.slice ga (ln + j) gc) (ln + j) ∧ Kept (fun k => W1.heap.size ≤ k) W1 wr)) (fun _ jv _ => 20 - (RowKit.intOf jv).toNat)
                      case atStart => exact ⟨0, av, cv, by omega, rfl, rfl, HB0.out⟩
                      case round =>
                        obtain ⟨j, ga, gc, hj, rfl, rfl, HB⟩ := hrel
                        clear HB0
                        by_cases hjl : j < 20
                        · obtain ⟨i0, hi0, hz0, hz1, hz2⟩ := info_parts Try.info64
                          obtain ⟨gv', X', hrun, hB', hblk, hos, htape, hout, hsz⟩ := HB.out.1.push (t := 22) (ty := 22) (u := zV 77) HB.out.2.size Try.underlying22 hi0 hz0 hz1 hz2 rfl rfl (by unfold maxLen; omega) (by omega)
                          obtain ⟨ga', gc', hgv⟩ : ∃ a c, gv' = .slice a (ln + j + 1) c := by obtain ⟨_, ys, _, ho, _⟩ := hB'; exact ownsRow_shape ho
                          subst hgv
                          have HB2 : Hid (Bes W1.heap.size X' ⟨2, .slice av ln cv, xs⟩ ((rO (.slice (some ⟨og, 0, none⟩) 9 oc) O :: rS (.slice (some ⟨sg, 0, none⟩) 3 sc) S :: (O ++ S)).eraseIdx (O.length + i + 2)) (.slice ga' (ln + (j + 1)) gc') (ln + (j + 1)) ∧ Kept (fun k => W1.heap.size ≤ k) W1 X') := ⟨hB', ⟨hos.trans HB.out.2.os, htape.trans HB.out.2.tape, hout.trans HB.out.2.output, Nat.le_trans HB.out.2.size hsz, fun k hk hn => (hblk k hk).trans (HB.out.2.block k hk hn)⟩⟩
                          have hjl' : (j : Int) < 20 := by omega
                          clear hB' hblk hos htape hout hsz hi0 hz0 hz1 hz2 HB
                          go_wp2_with (at_builtin; refine Lib.wpList_append_run _ rfl _ _ _ _ rfl _ _ rfl rfl _ _ hrun ?_)
                          go_roundw
                          case rel => exact ⟨j + 1, by omega, by go_num, ga', gc', ⟨rfl, by omega, rfl⟩, HB2.out⟩
                          case measure => simp [RowKit.intOf]; omega
                        · obtain rfl : j = 20 := by omega
                          have HB3 : Hid (Ms W1.heap.size W1 wr (.slice (some ⟨og, 0, none⟩) 9 oc) (.slice (some ⟨sg, 0, none⟩) 3 sc) O S) := HW.out wr HB.out.1.1 HB.out.2
                          clear HB HW
                          go_wp2
                          go_roundw
                          case rel => exact ⟨i + 1, by omega, by go_num, HB3.out⟩
                          case measure => simp [RowKit.intOf]; omega
                    · obtain rfl : i = 3 := by omega
                      have HM : Hid (Ms W1.heap.size W1 wr (.slice (some ⟨og, 0, none⟩) 9 oc) (.slice (some ⟨sg, 0, none⟩) 3 sc) O S) := HA.out
                      clear HA hlt hi
                      go_wp2
                      go_loopw [30] (fun iv wr => ∃ (i : Nat), i ≤ 9 ∧ iv = zV i ∧ Hid (Ms W1.heap.size W1 wr (.slice (some ⟨og, 0, none⟩) 9 oc) (.slice (some ⟨sg, 0, none⟩) 3 sc) O S)) (fun iv _ => 9 - (RowKit.intOf iv).toNat)
                      case atStart => exact ⟨0, by omega, rfl, HM.out⟩
                      case round =>
                        obtain ⟨i, hi, rfl, HA⟩ := hrel
                        clear HM
                        by_cases hlt : i < 9
                        · obtain ⟨r, hr⟩ : ∃ r, O[i]? = some r := ⟨_, List.getElem?_eq_getElem (by rw [HOL.out]; exact hlt)⟩
                          obtain ⟨av, cv, hv, hsh⟩ := (HA.out.rowO hr).row
                          obtain ⟨ln, hln⟩ : ∃ ln, r.xs.length = ln := ⟨_, rfl⟩
                          rw [hln] at hv hsh
                          have h44 : ln ≤ 17592186043904 := by rw [← hln]; exact (HA.out.1 r (List.mem_of_getElem? hr)).2
                          have HRW : Hid (O[i]? = some r ∧ r.v = .slice av ln cv ∧ r.xs.length = ln) := ⟨hr, hv, hln⟩
                          have hlt' : (i : Int) < 9 := by omega
                          clear hr hv hln
                          go_wp2
                          go_loopw [31] (fun jv wr => ∃ (j : Nat), j ≤ ln ∧ jv = zV j ∧ Hid (Ms W1.heap.size W1 wr (.slice (some ⟨og, 0, none⟩) 9 oc) (.slice (some ⟨sg, 0, none⟩) 3 sc) O S)) (fun jv _ => ln - (RowKit.intOf jv).toNat)
                          case atStart => exact ⟨0, by omega, rfl, HA.out⟩
                          case round =>
                            obtain ⟨j, hj, rfl, HB⟩ := hrel
                            clear HA
                            obtain ⟨hr, hv, hln⟩ := HRW.out
                            have c0 : wr.cell? ⟨og, i, none⟩ = some (.slice av ln cv) := by rw [← hv]; exact HB.out.cellO HOL.out hr
                            by_cases hjl : j < ln
                            · obtain ⟨g, rfl⟩ := hsh.resolve_left (by omega)
                              have c1 : wr.cell? ⟨g, j, none⟩ = some (zV (-1 - (i : Int))) := ((HB.out.rowO hr).cell hv hln hjl).trans (HOD.out i r hr j (by omega) (by omega))
                              have hjl' : (j : Int) < ln := by omega
                              clear hr hv hln
                              go_wp2
                              go_roundw
                              case rel => exact ⟨j + 1, by omega, by go_num, HB.out⟩
                              case measure => simp [RowKit.intOf]; omega
                            · obtain rfl : j = ln := by omega
                              clear hr hv hln
                              go_wp2
                              go_roundw
                              case rel => exact ⟨i + 1, by omega, by go_num, HB.out⟩
                              case measure => simp [RowKit.intOf]; omega
                        · obtain rfl : i = 9 := by omega
                          have HM : Hid (Ms W1.heap.size W1 wr (.slice (some ⟨og, 0, none⟩) 9 oc) (.slice (some ⟨sg, 0, none⟩) 3 sc) O S) := HA.out
                          clear HA hlt hi
                          go_wp2
                          go_loopw [32] (fun iv wr => ∃ (i : Nat), i ≤ 3 ∧ iv = zV i ∧ Hid (Ms W1.heap.size W1 wr (.slice (some ⟨og, 0, none⟩) 9 oc) (.slice (some ⟨sg, 0, none⟩) 3 sc) O S)) (fun iv _ => 3 - (RowKit.intOf iv).toNat)
                          case atStart => exact ⟨0, by omega, rfl, HM.out⟩
                          case round =>
                            obtain ⟨i, hi, rfl, HA⟩ := hrel
                            clear HM
                            by_cases hlt : i < 3
                            · obtain ⟨r, hr⟩ : ∃ r, S[i]? = some r := ⟨_, List.getElem?_eq_getElem (by rw [HSL.out]; exact hlt)⟩
                              obtain ⟨av, cv, hv, hsh⟩ := (HA.out.rowS hr).row
                              obtain ⟨ln, hln⟩ : ∃ ln, r.xs.length = ln := ⟨_, rfl⟩
                              rw [hln] at hv hsh
                              have h44 : ln ≤ 17592186043904 := by rw [← hln]; exact (HA.out.2.1 r (List.mem_of_getElem? hr)).2
                              have HRW : Hid (S[i]? = some r ∧ r.v = .slice av ln cv ∧ r.xs.length = ln) := ⟨hr, hv, hln⟩
                              have hlt' : (i : Int) < 3 := by omega
                              clear hr hv hln
                              go_wp2
                              go_loopw [33] (fun jv wr => ∃ (j : Nat), j ≤ ln ∧ jv = zV j ∧ Hid (Ms W1.heap.size W1 wr (.slice (some ⟨og, 0, none⟩) 9 oc) (.slice (some ⟨sg, 0, none⟩) 3 sc) O S)) (fun jv _ => ln - (RowKit.intOf jv).toNat)
                              case atStart => exact ⟨0, by omega, rfl, HA.out⟩
                              case round =>
                                obtain ⟨j, hj, rfl, HB⟩ := hrel
                                clear HA
                                obtain ⟨hr, hv, hln⟩ := HRW.out
                                have c0 : wr.cell? ⟨sg, i, none⟩ = some (.slice av ln cv) := by rw [← hv]; exact HB.out.cellS HSL.out hr
                                by_cases hjl : j < ln
                                · obtain ⟨g, rfl⟩ := hsh.resolve_left (by omega)
                                  have c1 : wr.cell? ⟨g, j, none⟩ = some (zV (-1 - (i : Int))) := ((HB.out.rowS hr).cell hv hln hjl).trans (HSD.out i r hr j (by omega) (by omega))
                                  have hjl' : (j : Int) < ln := by omega
                                  clear hr hv hln
                                  go_wp2
                                  go_roundw
                                  case rel => exact ⟨j + 1, by omega, by go_num, HB.out⟩
                                  case measure => simp [RowKit.intOf]; omega
                                · obtain rfl : j = ln := by omega
                                  clear hr hv hln
                                  go_wp2
                                  go_roundw
                                  case rel => exact ⟨i + 1, by omega, by go_num, HB.out⟩
                                  case measure => simp [RowKit.intOf]; omega
                            · obtain rfl : i = 3 := by omega
                              have HM : Hid (Ms W1.heap.size W1 wr (.slice (some ⟨og, 0, none⟩) 9 oc) (.slice (some ⟨sg, 0, none⟩) 3 sc) O S) := HA.out
                              clear HA hlt hi
                              have HNu : Hid (Unit → _) := fun (_ : Unit) => nucleus_own _ zs P wr (HKX.out wr HM.out.2.2.2).1 HP'.out
                              clear HOL HSL HOD HSD
                              go_wp2_with fail
                              refine (HNu.out ()).mono ?_
                              rintro e Wn ⟨va, rfl, La, hLa, howna, hFn⟩
                              have ea := hLa.unique HLn.out
                              subst ea
                              obtain ⟨aa, ca, hva⟩ := ownsRow_shape howna
                              subst hva
                              have HKn : Hid (Kept (fun k => W1.heap.size ≤ k) W1 Wn) := HM.out.2.2.2.trans hFn (fun _ _ e => e.elim)
                              have HRa : Hid (∀ X, Fresh Wn X → Rw (fun k => wr.heap.size ≤ k ∧ k < Wn.heap.size) X (.slice aa La.length ca) La) := fun X hX => (rw_of_own howna (nu_len hLa (by rw [HN.out]; exact hln)) (nu_i64 hLa (by rw [HN.out]; exact hln))).fresh hX
                              have HSh : Hid (Unit → _) := fun (_ : Unit) => share_any _ zs T Wn (HKX.out Wn HKn.out).1 HT'.out
                              clear hLa howna hFn HNu HM
                              go_wp2_with fail
                              refine (HSh.out ()).mono ?_
                              rintro e Wh ⟨vb, rfl, Lb, hLb, hownb, hFh⟩
                              have eb := hLb.unique HLs.out
                              subst eb
                              obtain ⟨ab, cb, hvb⟩ := ownsRow_shape hownb
                              subst hvb
                              have HKh : Hid (∀ X, Fresh Wh X → Kept (fun k => W1.heap.size ≤ k) W1 X) := fun X hX => (HKn.out.trans hFh (fun _ _ e => e.elim)).trans hX (fun _ _ e => e.elim)
                              have HRb : Hid (∀ X, Fresh Wh X → Rw (fun k => Wn.heap.size ≤ k ∧ k < Wh.heap.size) X (.slice ab Lb.length cb) Lb ∧ Rw (fun k => wr.heap.size ≤ k ∧ k < Wn.heap.size) X (.slice aa La.length ca) La) := fun X hX => ⟨(rw_of_own hownb (sh_len hLb (by rw [HN.out]; exact hln)) (sh_i64 hLb HT'.out)).fresh hX, HRa.out X (hFh.trans hX (fun _ _ e => e))⟩
                              clear hLb hownb hFh HSh HRa HKn
                              go_wp2_with fail
                              refine (awake_any _).mono ?_
                              rintro e Wk ⟨rfl, hFk⟩
                              have HIa : Hid (Unit → _) := fun (_ : Unit) => ints_any _ _ _ _ La Wk (HRb.out Wk hFk).2 (HKX.out Wk (HKh.out Wk hFk)).2.1
                              have HFk : Hid (Fresh Wh Wk) := hFk
                              clear hFk
                              go_wp2_with fail
                              refine (HIa.out ()).mono ?_
                              rintro e Wx ⟨rfl, q1, rfl⟩
                              clear HIa
                              have HLb : Hid (Unit → _) := fun (_ : Unit) => longs_any _ _ _ _ Lb (Wk.drewN q1) (HRb.out _ (HFk.out.drewN q1)).1 (HKX.out _ (HKh.out _ (HFk.out.drewN q1))).2.2
                              go_wp2_with fail
                              refine (HLb.out ()).mono ?_
                              rintro e Wx ⟨rfl, q2, rfl⟩
                              have HE : Hid (Fresh w (Wk.drewN (q1 + q2))) := HF1.out.trans (HKh.out _ (HFk.out.drewN (q1 + q2))) (fun k hk e => by have := HF1.out.size; omega)
                              clear HLb HRb HKh HKX HFk
                              go_wp2
                              go_ret
                              exact ⟨rfl, HE.out⟩

set_option maxRecDepth 100000 in
theorem contract (H : Type) (enc : TypeId × Value → H) (W : World) (base : Nat) (args : Array Value) (ds gs : List (DataW H)) (before : List MemPlace)
    (hval : ∀ (j : Nat) t v, Try.f5.params[j]? = some t → args[j]? = some v → Value.okWide Try.prog W .any base t v)
    (hW : DataW.Whole enc Try.prog Try.f5.params.toList Rows.rankMemorySpec.vars false W args.toList ds gs before) 
    (hsz : (DataW.weightsEach Try.prog (Try.f5.params.toList ++ []) (ds ++ gs)).all (· ≤ reachBytes) = true) (hL : laidMetH Try.prog Rows.rankMemoryRow.laid W) :
    Calls Try.prog 5 args W fun e W' => ∃ v, e = .returned v ∧ Rows.rankMemorySpec.post enc Try.prog Try.f5 false true false false W args v W' := by
  have hW' := hW
  obtain ⟨p, q, hA0, hV, rfl, hfz, hnd⟩ := hW
  have hA : DataW.TrodAll enc Try.prog W 0 (fun _ => true) true Try.f5.params.toList args.toList ds p := hA0
  rw [Try.params5] at hA hval hsz
  obtain ⟨rfl, rfl⟩ := trodVars_none hV
  have _hL := hL
  obtain ⟨v0, v1, v2, d0, d1, d2, p0, p1, p2, rfl, rfl, rfl, h0, h1, h2⟩ := trodAll_three hA
  obtain ⟨ao, ln, cap, rfl⟩ := okWide_slice Try.underlying22 (hval 0 22 v0 rfl rfl)
  obtain ⟨x1, rfl, rfl, rfl, w1⟩ := open_int Try.underlying3 (hval 1 3 v1 rfl rfl) h1
  obtain ⟨x2, rfl, rfl, rfl, w2⟩ := open_int Try.underlying2 (hval 2 2 v2 rfl rfl) h2
  obtain ⟨fuel, hf⟩ := h0
  have hsl : ∀ es sp, d0 = .slice es sp → es.length ≤ 17592186043904 := fun es sp e' => by
    subst e'
    have := sized_slice hsz (j := 0) (t := 22) (e := 2) rfl rfl Try.underlying22
    rw [Try.b64] at this
    simp only [reachBytes] at this
    omega
  obtain ⟨zs, hr, hcs⟩ := rw_of (x := (d0, _)) hf (fun es sp e => Nat.le_trans (hsl es sp e) (by omega))
  have hs : zs.length ≤ 17592186043904 := by
    rcases hcs with ⟨_, rfl⟩ | ⟨sp, e⟩
    · simp
    · have h3 := hsl _ sp e
      rw [show (lits .i64 zs).length = zs.length by simp [lits]] at h3
      exact h3
  refine (walk _ zs x1 x2 W hr hs (i64_of w1) (i64_of w2)).mono fun e W' ⟨he, hk⟩ => ?_
  subst he
  exact ⟨_, rfl, post_law rfl (by kernel_rfl) (by kernel_rfl) hW' rfl hk⟩

set_option maxRecDepth 100000 in
theorem laid_met (os : Os) : laidMet Try.prog Rows.rankMemoryRow.laid ((layIn (World.holding Try.prog os ⟨#[], #[], []⟩)).forCall (fun _ _ => 0) ⟨#[], #[.slice none 0 0, .int .i64 0, .int .i64 0], []⟩).memory :=
  laidMet_of_run' 8 (by kernel_rfl) (by kernel_rfl)
set_option maxRecDepth 100000 in
theorem reads (os : Os) {H : Type} (enc : TypeId × Value → H) : ∃ places, DataW.whole enc Try.prog ((layIn (World.holding Try.prog os ⟨#[], #[], []⟩)).forCall (fun _ _ => 0) ⟨#[], #[.slice none 0 0, .int .i64 0, .int .i64 0], []⟩).memory Try.f5.params.toList Rows.rankMemorySpec.vars false (#[.slice none 0 0, .int .i64 0, .int .i64 0] : Array Value).toList 8 = some ([.nil, .lit (.int .i64 0), .lit (.int .i64 0)], [], places) :=
  ⟨[], by kernel_rfl⟩

set_option maxRecDepth 100000 in
theorem lifted (os : Os) (started : os.Started) (H : Type) (enc : TypeId × Value → H) (F : Stop.Interp) :
    ReturnsInHanded {} Try.checked os 5 .any ((OpenSpec.ofChange Rows.rankMemorySpec).preRow enc Try.prog Try.f5 Rows.rankMemoryRow.domain false Rows.rankMemoryRow.laid) (((OpenSpec.ofChange Rows.rankMemorySpec).at F).post enc Try.prog Try.f5 false true false false) := by
  obtain ⟨places, hx⟩ := reads os enc
  refine returnsInHanded_of_row (C := Try.checked) (s := OpenSpec.ofChange Rows.rankMemorySpec) Try.own started (by kernel_rfl) Try.func5
    (witness_row_at (enc := enc) (C := Try.checked) false (layIn (World.holding Try.prog os ⟨#[], #[], []⟩)) #[.slice none 0 0, .int .i64 0, .int .i64 0] rfl (by kernel_rfl) (by kernel_rfl) (by kernel_rfl)
      (OpenSpec.preRow_of_cond 8 hx (by kernel_rfl) (fun k hk => by cases hk) (by kernel_rfl) (laid_met os))) ?_
  intro W base args ds gs before hval hW _ hc hsz hL _ _
  exact contract H enc W base args ds gs before hval hW hsz hL

theorem said : Rows.RankMemorySaid :=
  OpenClaim.holds_of_cond 5 Try.f5 rfl rfl rfl rfl rfl rfl rfl ⟨rfl, rfl, rfl, rfl, rfl⟩ rfl rfl rfl rfl rfl (by kernel_rfl) Try.func5 (by kernel_rfl)
    (of_decide_eq_true (by kernel_rfl)) (by unfold Func.isWrapper; first | (rw [if_pos (by decide +kernel)]; kernel_rfl) | (rw [if_neg (by decide +kernel)]; exact ⟨rfl, rfl⟩))
    (fun os started H enc _ F => by rw [OpenClaim.pre_eq_preRow]; exact lifted os started H enc F)


end Go.Proofs.Ytgemkmpepnaoiab.LMemory
namespace Go.Proofs.Ytgemkmpepnaoiab
theorem rankMemory_holds : Rows.RankMemorySaid := LMemory.said
end Go.Proofs.Ytgemkmpepnaoiab
