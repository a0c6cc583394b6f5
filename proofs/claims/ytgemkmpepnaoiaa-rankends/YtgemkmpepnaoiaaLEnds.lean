/-
  For every list of things and every row of answers the statement RankEnds answers true: awake does; By ends, and tells each place once, whatever is handed in as an order.
-/
import Derived.Test.YtgemkmpepnaoiaaRxb
namespace Go.Proofs.Ytgemkmpepnaoiaa.LEnds
open Go.ChangeShapes Go.WideShapes Go.ChangeAt Go.RowKit Go.Maps

/-- v is a row of these bools, in a block that p allows. -/
def BAt (p : Nat → Prop) (W : World) (v : Value) (l : List Bool) : Prop :=
  ∃ ao cap, v = .slice ao l.length cap ∧ l.length ≤ 140737488355328 ∧
    (l ≠ [] → ∃ b off, ao = some ⟨b, off, none⟩ ∧ p b ∧ b < W.heap.size ∧ ∀ i (hi : i < l.length), W.cell? ⟨b, off + i, none⟩ = some (.bool l[i]))
theorem BAt.kept {p : Nat → Prop} {S : Nat → Prop} {W W' : World} {v : Value} {l : List Bool} (h : BAt p W v l) (hk : Kept S W W') (hn : ∀ b, p b → ¬ S b) : BAt p W' v l := by
  obtain ⟨ao, cap, hv, hl, hc⟩ := h
  refine ⟨ao, cap, hv, hl, fun h0 => ?_⟩
  obtain ⟨b, off, ha, hp, hb, hcell⟩ := hc h0
  exact ⟨b, off, ha, hp, Nat.lt_of_lt_of_le hb hk.size, fun i hi => (hk.cell (p := ⟨b, off + i, none⟩) hb (hn b hp)).trans (hcell i hi)⟩
theorem BAt.mono {p q : Nat → Prop} {W : World} {v : Value} {l : List Bool} (h : BAt p W v l) (hpq : ∀ b, p b → q b) : BAt q W v l := by
  obtain ⟨ao, cap, hv, hl, hc⟩ := h
  exact ⟨ao, cap, hv, hl, fun h0 => let ⟨b, off, ha, hp, r⟩ := hc h0; ⟨b, off, ha, hpq b hp, r⟩⟩
theorem cB : Try.prog.cellsOf 4 = 1 := by kernel_rfl
theorem bB : Try.prog.bytesOf 4 = 1 := by kernel_rfl
theorem bools_at {H : Type} {enc : TypeId × Value → H} {W : World} {fuel : Nat} {v : Value} {x : DataW H × List MemPlace} (h : DataW.trod enc Try.prog W 0 (fun _ => true) true fuel 39 [v] = some x) (hsz : ∀ es sp, x.1 = .slice es sp → es.length ≤ 140737488355328) :
    ∃ l : List Bool, BAt (fun b => b < W.heap.size) W v l := by
  rcases Go.Deep.open_slice Try.underlying39 h with ⟨hcs, hx⟩ | ⟨a, len, cap, m, n, D, Pl, hcs, _, hl, hmx, hm, hx, hel⟩
  · exact ⟨[], none, 0, by simpa using hcs, by simp, fun e => absurd rfl e⟩
  · simp only [if_true] at hm
    subst hm
    rw [cB] at hel
    have hlen : len ≤ 140737488355328 := by
      have := hsz _ _ (by rw [hx])
      rw [List.length_map, List.length_range] at this
      exact this
    have build : ∀ k, k ≤ len → ∃ l : List Bool, l.length = k ∧ ∀ i (hi : i < l.length), W.cells? 0 (a.add (i * 1)) 1 = some [.bool l[i]] := by
      intro k
      induction k with
      | zero => intro _; exact ⟨[], rfl, fun i hi => by simp at hi⟩
      | succ k ih =>
        intro hk
        obtain ⟨l, hlk, hcl⟩ := ih (by omega)
        obtain ⟨cs', hc, ht⟩ := hel k (by omega)
        obtain ⟨o, hcs', _⟩ := DataW.trod_bool Try.underlying4 ht
        refine ⟨l ++ [o], by simp [hlk], fun i hi => ?_⟩
        by_cases hik : i < l.length
        · rw [List.getElem_append_left hik]
          exact hcl i hik
        · have hie : i = l.length := by simp at hi; omega
          subst hie
          rw [List.getElem_concat_length rfl]
          rw [hlk, hc, hcs']
    obtain ⟨l, hll, hcl⟩ := build len (Nat.le_refl _)
    refine ⟨l, some a, m, by rw [hll]; simpa using hcs, by omega, fun hne => ?_⟩
    have hpos : 0 < l.length := List.length_pos_iff.2 hne
    obtain ⟨b, off, spot⟩ := a
    have h0 := (World.cells?_some (hcl 0 hpos)).2.2 0 (by omega)
    have hspot : spot = none := by simpa [Addr.add] using World.cell?_spot h0
    subst hspot
    have hb0 := World.block_lt_of_cell? W _ h0
    refine ⟨b, off, rfl, by simpa [Addr.add] using hb0, by simpa [Addr.add] using hb0, fun i hi => ?_⟩
    have hc := (World.cells?_some (hcl i hi)).2.2
    have c0 := hc 0 (by omega)
    simp only [Addr.add_lit, Nat.mul_one] at c0
    exact c0

def JE (bn ba : Nat) (av : Value) (bs : List Bool) (c : Nat) (X : World) : Prop :=
  (∃ z : Int, X.cell? ⟨bn, 0, none⟩ = some (zV z) ∧ 0 ≤ z ∧ z + c ≤ 9223372036854775807) ∧ X.frozen? ⟨bn, 0, none⟩ = false ∧ X.cell? ⟨ba, 0, none⟩ = some av ∧ BAt (fun k => k < ba) X av bs ∧ bn < X.heap.size ∧ ba < X.heap.size

set_option maxHeartbeats 2000000 in
set_option maxRecDepth 100000 in
theorem ask (ba n0 : Nat) (av : Value) (bs : List Bool) (hb : ba + 1 < n0) : AskTB 18 #[.pointer (some ⟨ba + 1, 0, none⟩), .pointer (some ⟨ba, 0, none⟩)] (fun _ _ _ => True) (fun k => k = ba + 1) n0 (JE (ba + 1) ba av bs) where
  enters := fun args X => by simp [go_sem]
  ahead := fun k h => by omega
  less := fun c d X hcd h => by
    obtain ⟨⟨z, h1, h2, h3⟩, h⟩ := h
    exact ⟨⟨z, h1, h2, by omega⟩, h⟩
  kept := fun c X X' h hk => by
    obtain ⟨⟨z, h1, h2, h3⟩, h4, h5, h6, h7, h8⟩ := h
    exact ⟨⟨z, (hk.cell (p := ⟨ba + 1, 0, none⟩) h7 (by simp; omega)).trans h1, h2, h3⟩, (hk.frozen (p := ⟨ba + 1, 0, none⟩) h7 (by simp; omega)).trans h4, (hk.cell (p := ⟨ba, 0, none⟩) h8 (by simp; omega)).trans h5, h6.kept hk (fun b hb e => by omega), Nat.lt_of_lt_of_le h7 hk.size, Nat.lt_of_lt_of_le h8 hk.size⟩
  asks := fun c X a b h => by
    obtain ⟨⟨z, h1, h2, h3⟩, h4, h5, h6, h7, h8⟩ := h
    obtain ⟨ak, am⟩ := a
    obtain ⟨bk, bm⟩ := b
    show Calls Try.prog 18 #[.agg #[.int .i64 ak, .string am], .agg #[.int .i64 bk, .string bm], .pointer (some ⟨ba + 1, 0, none⟩), .pointer (some ⟨ba, 0, none⟩)] X _
    have hFY : ∀ o1 o2, Fresh X ((X.alloc o1).alloc o2) := fun o1 o2 => ((Kept.refl _ X).alloc o1).alloc o2
    have d1 : ∀ o1 o2, ((X.alloc o1).alloc o2).cell? ⟨ba + 1, 0, none⟩ = some (zV z) := fun o1 o2 => ((hFY o1 o2).cell (p := ⟨ba + 1, 0, none⟩) h7 (fun e => e)).trans h1
    have d4 : ∀ o1 o2, ((X.alloc o1).alloc o2).frozen? ⟨ba + 1, 0, none⟩ = false := fun o1 o2 => ((hFY o1 o2).frozen (p := ⟨ba + 1, 0, none⟩) h7 (fun e => e)).trans h4
    have d5 : ∀ o1 o2, ((X.alloc o1).alloc o2).cell? ⟨ba, 0, none⟩ = some av := fun o1 o2 => ((hFY o1 o2).cell (p := ⟨ba, 0, none⟩) h8 (fun e => e)).trans h5
    obtain ⟨Z, hZ⟩ : ∃ Z, Z = (((X.setCell ⟨ba + 1, 0, none⟩ (.int .i64 (z + 1))).alloc (.cells #[.int .i64 ak, .string am] 34)).alloc (.cells #[.int .i64 bk, .string bm] 34)) := ⟨_, rfl⟩
    have hKs : Kept (fun k => k = ba + 1) X (X.setCell ⟨ba + 1, 0, none⟩ (.int .i64 (z + 1))) := (Kept.refl (fun k => k = ba + 1) X).setCell (p := ⟨ba + 1, 0, none⟩) (fun _ => rfl) _
    have hKZ : Kept (fun k => k = ba + 1) X Z := by rw [hZ]; exact (hKs.alloc _).alloc _
    have hFs : Fresh (X.setCell ⟨ba + 1, 0, none⟩ (.int .i64 (z + 1))) Z := by rw [hZ]; exact ((Kept.refl _ _).alloc _).alloc _
    have h7s : ba + 1 < (X.setCell ⟨ba + 1, 0, none⟩ (.int .i64 (z + 1))).heap.size := Nat.lt_of_lt_of_le h7 hKs.size
    have z1 : Z.cell? ⟨ba + 1, 0, none⟩ = some (zV (z + 1)) := (hFs.cell (p := ⟨ba + 1, 0, none⟩) h7s (fun e => e)).trans (World.cell?_setCell_same _ _ _ h1)
    have z5 : Z.cell? ⟨ba, 0, none⟩ = some av := (hKZ.cell (p := ⟨ba, 0, none⟩) h8 (by simp)).trans h5
    have z4 : Z.frozen? ⟨ba + 1, 0, none⟩ = false := (hFs.frozen (p := ⟨ba + 1, 0, none⟩) h7s (fun e => e)).trans (by rw [World.frozen?_setCell]; exact h4)
    have z6 := h6.kept hKZ (fun b hb => by omega)
    have HJ : Hid (∀ n, JE (ba + 1) ba av bs c (Z.drewN n) ∧ Kept (fun k => k = ba + 1) X (Z.drewN n)) := fun n =>
      ⟨⟨⟨z + 1, z1, by omega, by omega⟩, z4, z5, z6.kept (kept_drewN (fun _ => False) Z n) (fun _ _ e => e), Nat.lt_of_lt_of_le h7 hKZ.size, Nat.lt_of_lt_of_le h8 hKZ.size⟩, hKZ.drewN n⟩
    have z3 : z ≤ 9223372036854775806 := by omega
    obtain ⟨ao, cap, hv, hbl, hc⟩ := z6
    subst hv
    have hbab : ¬ ba = ba + 1 := by omega
    clear h1 h4 h5 h6 hFY hKZ hKs hFs h7s
    go_enter Try.func18, Try.ntmps18
    go_upto_region 2 with fail
    rw [← hZ]
    clear hZ d1 d4 d5
    by_cases hbs : bs = []
    · subst hbs
      rw [List.length_nil] at z5 HJ
      go_quiet (fail)
      have HJ' := HJ.out nq
      have HJ2 : Hid (JE (ba + 1) ba (.slice ao 0 cap) [] c (Z.drewN nq) ∧ Kept (fun k => k = ba + 1) X (Z.drewN nq)) := HJ'
      clear HJ' HJ
      go_wp2
      go_ret
      first | exact ⟨Or.inl rfl, HJ2.out.1, HJ2.out.2⟩ | exact ⟨Or.inr rfl, HJ2.out.1, HJ2.out.2⟩ | (refine ⟨?_, HJ2.out.1, HJ2.out.2⟩; simp)
    · obtain ⟨bb, off, rfl, _, _, hcell⟩ := hc hbs
      have hpos : 0 < bs.length := List.length_pos_iff.2 hbs
      obtain ⟨r, hr⟩ : ∃ r : Nat, (z + 1) % (bs.length : Int) = (r : Int) := ⟨((z + 1) % (bs.length : Int)).toNat, by have := Int.emod_nonneg (z + 1) (show (bs.length : Int) ≠ 0 by omega); omega⟩
      have hrl : r < bs.length := by have := Int.emod_lt_of_pos (z + 1) (show (0 : Int) < (bs.length : Int) by omega); omega
      have htm : (z + 1).tmod (bs.length : Int) = (r : Int) := by rw [Int.tmod_eq_emod_of_nonneg (by omega)]; exact hr
      have c1 := hcell r hrl
      have hpos' : (0 : Int) < (bs.length : Int) := by omega
      have hne' : ¬ (bs.length : Int) = 0 := by omega
      have hrl' : (r : Int) < (bs.length : Int) := by omega
      clear hcell hc hr
      generalize bs[r] = q at *
      obtain ⟨m, hm⟩ : ∃ m, bs.length = m := ⟨_, rfl⟩
      have HM : Hid (bs.length = m) := hm
      rw [hm] at z5 HJ hpos hrl htm hpos' hne' hrl' hbl
      clear hm
      go_quiet (fail)
      have HJ' := HJ.out nq
      have HJ2 : Hid (JE (ba + 1) ba (.slice (some ⟨bb, off, none⟩) m cap) bs c (Z.drewN nq) ∧ Kept (fun k => k = ba + 1) X (Z.drewN nq)) := HJ'
      clear HJ' HJ
      go_wp2
      go_ret
      exact ⟨_, rfl, trivial, by rw [HM.out]; exact HJ2.out.1, HJ2.out.2⟩

set_option maxHeartbeats 2000000 in
set_option maxRecDepth 100000 in
theorem walk (rv av : Value) (l : List Th) (bs : List Bool) (w : World) (hr : ThAt (fun b => b < w.heap.size) w rv l) (ha : BAt (fun b => b < w.heap.size) w av bs) (hl : l.length * 24 ≤ 140737488355328) :
    Calls Try.prog 6 #[rv, av] w fun e w' => e = .returned (.bool true) ∧ Fresh w w' := by
  have hmf : ∀ (fn : Fn) (first cap : Array Value) (w : World), (Instr.makeFunc fn first cap).run Try.prog w = .ok (.func fn first cap) w := fun _ _ _ _ => rfl
  have hmm := @run_makeMap Try.prog
  obtain ⟨n, hn⟩ : ∃ n, l.length = n := ⟨_, rfl⟩
  have hl44 : n ≤ 17592186044416 := by rw [← hn]; exact hr.len
  obtain ⟨W1, hW1⟩ : ∃ W1, W1 = ((w.alloc (.cells #[av] 39)).alloc (.cells #[.int .i64 0] 3)) := ⟨_, rfl⟩
  have hs1 : W1.heap.size = w.heap.size + 2 := by rw [hW1]; simp
  have hF1 : Fresh w W1 := by rw [hW1]; exact ((Kept.refl _ w).alloc _).alloc _
  have hb : W1.cell? ⟨w.heap.size + 1, 0, none⟩ = some (zV 0) := by rw [hW1]; simp [go_sem]
  have hfz : W1.frozen? ⟨w.heap.size + 1, 0, none⟩ = false := by rw [hW1]; simp [go_sem]
  have hac : W1.cell? ⟨w.heap.size, 0, none⟩ = some av := by rw [hW1]; simp [go_sem]
  have hJ : JE (w.heap.size + 1) w.heap.size av bs (l.length * 44) W1 := ⟨⟨0, hb, by omega, by omega⟩, hfz, hac, ha.kept hF1 (fun _ _ e => e), by omega, by omega⟩
  have hby := byTB_any rv l W1 (ask w.heap.size W1.heap.size av bs (by omega)) hJ ((hr.kept hF1 (fun _ _ e => e)).mono (fun b hb => ⟨by omega, by omega⟩))
  rw [hn] at hby
  have HB : Hid (Unit → _) := fun (_ : Unit) => hby
  have HF1 : Hid (Fresh w W1 ∧ W1.heap.size = w.heap.size + 2) := ⟨hF1, hs1⟩
  obtain ⟨ao, cap, hv⟩ : ∃ ao cap, rv = .slice ao n cap := by obtain ⟨ao, cap, h, _⟩ := id hr; rw [hn] at h; exact ⟨ao, cap, h⟩
  subst hv
  obtain ⟨bo, bc, hva, _⟩ := id ha
  subst hva
  clear hr ha hl hn hs1 hF1 hb hfz hac hJ hby
  go_enter Try.func6, Try.ntmps6
  go_upto_region 2 with fail
  rw [← hW1]
  clear hW1
  go_wp2_with fail
  refine (HB.out ()).mono ?_
  rintro e W2 ⟨o, b, rfl, ⟨cc, hAr⟩, hb, hAt, _, hK⟩
  have hP := hAr.perm
  have HP : Hid (o.Perm (List.range n)) := hP
  have HAW : Hid (∀ W : World, _) := fun (W : World) => awake_any W
  have hF2 : Fresh w W2 := HF1.out.1.trans hK (fun k hk e => by omega)
  have hbm : b < W2.heap.size := lt_of_heap hAt
  have HS0 : Hid (SeenAt (W2.alloc (.map #[] 0)) W2.heap.size [] ∧ At (W2.alloc (.map #[] 0)) b (upI o) ∧ Fresh w (W2.alloc (.map #[] 0))) :=
    ⟨SeenAt.made W2, hAt.kept ((Kept.refl (fun _ => False) W2).alloc _) (fun e => e), hF2.alloc _⟩
  have hwM : w.heap.size ≤ W2.heap.size := hF2.size
  clear HB hAr hAt hK hP hF2 hb
  go_wp2
  generalize W2.heap.size = M at *
  go_loopw [8] (fun iv wr => ∃ j : Nat, j ≤ n ∧ iv = zV j ∧ Hid (SeenAt wr M ((upI o).take j) ∧ At wr b (upI o) ∧ Fresh w wr)) (fun iv _ => n - (RowKit.intOf iv).toNat)
  case atStart => exact ⟨0, Nat.zero_le _, rfl, HS0.out⟩
  case round =>
    obtain ⟨j, hj, rfl, HS⟩ := hrel
    clear HS0
    by_cases hlt : j < n
    · have hol : o.length = n := by rw [HP.out.length_eq, List.length_range]
      have hjo : j < o.length := by omega
      have hp : o[j] < n := List.mem_range.1 (HP.out.mem_iff.1 (List.getElem_mem hjo))
      have hnd : o.Nodup := HP.out.nodup_iff.2 List.nodup_range
      have hni : ((o[j] : Nat) : Int) ∉ (upI o).take j := fun e => by
        obtain ⟨t, ht, e1⟩ := List.getElem_of_mem e
        rw [List.length_take, upI_length] at ht
        rw [List.getElem_take] at e1
        have e2 : (upI o)[t]'(by rw [upI_length]; omega) = ((o[t]'(by omega) : Nat) : Int) := by simp [upI]
        rw [e2] at e1
        have e3 : o[t]'(by omega) = o[j] := by omega
        exact List.pairwise_iff_getElem.1 hnd t j (by omega) hjo (by omega) e3
      have htk : (upI o).take (j + 1) = (upI o).take j ++ [((o[j] : Nat) : Int)] := by
        rw [List.take_succ_eq_append_getElem (by rw [upI_length]; exact hjo)]
        simp [upI]
      have hi64 : I64 ((o[j] : Nat) : Int) := ⟨by omega, by omega⟩
      have hlk := HS.out.1.look hi64 hni
      obtain ⟨w3, hst, hS3, hg3⟩ := HS.out.1.store (by rw [List.length_take, upI_length]; unfold maxLen; omega) hi64 hni
      have hk3 : Kept (fun k => k = M) wr w3 := (Kept.refl _ wr).grown hg3 (fun k _ e => by simp at e; exact e.symm)
      have hF3 : Fresh w w3 := HS.out.2.2.trans hk3 (fun k hk e => by omega)
      have hA3 := HS.out.2.1.kept hk3 (by omega)
      rw [← htk] at hS3
      have HN : Hid (SeenAt w3 M ((upI o).take (j + 1)) ∧ At w3 b (upI o) ∧ Fresh w w3) := ⟨hS3, hA3, hF3⟩
      have c1 : wr.cell? ⟨b, j, none⟩ = some (zV (o[j] : Nat)) := by rw [HS.out.2.1.cell, upI_get, List.getElem?_eq_getElem hjo]; rfl
      have hp' : ((o[j] : Nat) : Int) < (n : Int) := by omega
      have hlt' : (j : Int) < (n : Int) := by omega
      generalize o[j] = q at *
      clear hS3 hA3 hF3 hk3 hg3 HS htk hni hi64 hjo hnd hol
      go_wp2
      go_roundw
      case rel => exact ⟨j + 1, hlt, by go_num, HN.out⟩
      case measure => simp [RowKit.intOf]; omega
    · obtain rfl : j = n := by omega
      have hlen : ((upI o).take j).length = j := by rw [List.length_take, upI_length, HP.out.length_eq, List.length_range]; omega
      have HSn : Hid (SeenAt wr M ((upI o).take j) ∧ Fresh w wr ∧ ((upI o).take j).length = j) := ⟨HS.out.1, HS.out.2.2, hlen⟩
      have HAW3 : Hid (Unit → _) := fun (_ : Unit) => HAW.out wr
      clear HS hlen
      go_wp2_with fail
      refine (HAW3.out ()).mono ?_
      rintro e W4 ⟨rfl, hF4⟩
      have hl4 := (HSn.out.1.kept hF4 (fun e => e)).len
      rw [HSn.out.2.2] at hl4
      have HF4 : Hid (Fresh w W4) := HSn.out.2.1.trans hF4 (fun _ _ e => e)
      clear hF4 HSn HAW3 HAW
      go_wp2
      go_ret
      exact ⟨by simp, HF4.out⟩

set_option maxRecDepth 100000 in
theorem contract (H : Type) (enc : TypeId × Value → H) (W : World) (base : Nat) (args : Array Value) (ds gs : List (DataW H)) (before : List MemPlace)
    (hval : ∀ (j : Nat) t v, Try.f6.params[j]? = some t → args[j]? = some v → Value.okWide Try.prog W .any base t v)
    (hW : DataW.Whole enc Try.prog Try.f6.params.toList Rows.rankEndsSpec.vars false W args.toList ds gs before) 
    (hsz : (DataW.weightsEach Try.prog (Try.f6.params.toList ++ []) (ds ++ gs)).all (· ≤ reachBytes) = true) (hL : laidMetH Try.prog Rows.rankEndsRow.laid W) :
    Calls Try.prog 6 args W fun e W' => ∃ v, e = .returned v ∧ Rows.rankEndsSpec.post enc Try.prog Try.f6 false true false false W args v W' := by
  have hW' := hW
  obtain ⟨p, q, hA0, hV, rfl, hfz, hnd⟩ := hW
  have hA : DataW.TrodAll enc Try.prog W 0 (fun _ => true) true Try.f6.params.toList args.toList ds p := hA0
  rw [Try.params6] at hA hval hsz
  obtain ⟨rfl, rfl⟩ := trodVars_none hV
  have _hL := hL
  obtain ⟨v0, v1, d0, d1, p0, p1, rfl, rfl, rfl, h0, h1⟩ := trodAll_two hA
  obtain ⟨ao, ln, cap, rfl⟩ := okWide_slice Try.underlying32 (hval 0 32 v0 rfl rfl)
  obtain ⟨bo, bln, bcap, rfl⟩ := okWide_slice Try.underlying39 (hval 1 39 v1 rfl rfl)
  obtain ⟨fuel, hf⟩ := h0
  obtain ⟨fuel1, hf1⟩ := h1
  have hb24 : ∀ es sp, d0 = .slice es sp → es.length * 24 ≤ 140737488351232 := fun es sp e' => by
    subst e'
    have := sized_slice hsz (j := 0) (t := 32) (e := 34) rfl rfl Try.underlying32
    rw [Try.bTh] at this
    simp only [reachBytes] at this
    omega
  have hb1 : ∀ es sp, d1 = .slice es sp → es.length ≤ 140737488355328 := fun es sp e' => by
    subst e'
    have := sized_slice hsz (j := 1) (t := 39) (e := 4) rfl rfl Try.underlying39
    rw [bB] at this
    simp only [reachBytes] at this
    omega
  obtain ⟨l, hr, _, hlen⟩ := things_at (x := (d0, _)) hf (fun es sp e => hb24 es sp e)
  obtain ⟨bs, hbs⟩ := bools_at (x := (d1, _)) hf1 (fun es sp e => hb1 es sp e)
  refine (walk _ _ l bs W hr hbs (by omega)).mono fun e W' ⟨he, hk⟩ => ?_
  subst he
  exact ⟨_, rfl, post_law rfl (by kernel_rfl) (by kernel_rfl) hW' rfl hk⟩

set_option maxRecDepth 100000 in
theorem laid_met (os : Os) : laidMet Try.prog Rows.rankEndsRow.laid ((layIn (World.holding Try.prog os ⟨#[], #[], []⟩)).forCall (fun _ _ => 0) ⟨#[], #[.slice none 0 0, .slice none 0 0], []⟩).memory :=
  laidMet_of_run' 8 (by kernel_rfl) (by kernel_rfl)
set_option maxRecDepth 100000 in
theorem reads (os : Os) {H : Type} (enc : TypeId × Value → H) : ∃ places, DataW.whole enc Try.prog ((layIn (World.holding Try.prog os ⟨#[], #[], []⟩)).forCall (fun _ _ => 0) ⟨#[], #[.slice none 0 0, .slice none 0 0], []⟩).memory Try.f6.params.toList Rows.rankEndsSpec.vars false (#[.slice none 0 0, .slice none 0 0] : Array Value).toList 8 = some ([.nil, .nil], [], places) :=
  ⟨[], by kernel_rfl⟩

set_option maxRecDepth 100000 in
theorem lifted (os : Os) (started : os.Started) (H : Type) (enc : TypeId × Value → H) (F : Stop.Interp) :
    ReturnsInHanded {} Try.checked os 6 .any ((OpenSpec.ofChange Rows.rankEndsSpec).preRow enc Try.prog Try.f6 Rows.rankEndsRow.domain false Rows.rankEndsRow.laid) (((OpenSpec.ofChange Rows.rankEndsSpec).at F).post enc Try.prog Try.f6 false true false false) := by
  obtain ⟨places, hx⟩ := reads os enc
  refine returnsInHanded_of_row (C := Try.checked) (s := OpenSpec.ofChange Rows.rankEndsSpec) Try.own started (by kernel_rfl) Try.func6
    (witness_row_at (enc := enc) (C := Try.checked) false (layIn (World.holding Try.prog os ⟨#[], #[], []⟩)) #[.slice none 0 0, .slice none 0 0] rfl (by kernel_rfl) (by kernel_rfl) (by kernel_rfl)
      (OpenSpec.preRow_of_cond 8 hx (by kernel_rfl) (fun k hk => by cases hk) (by kernel_rfl) (laid_met os))) ?_
  intro W base args ds gs before hval hW _ hc hsz hL _ _
  exact contract H enc W base args ds gs before hval hW hsz hL

theorem said : Rows.RankEndsSaid :=
  OpenClaim.holds_of_cond 6 Try.f6 rfl rfl rfl rfl rfl rfl rfl ⟨rfl, rfl, rfl, rfl, rfl⟩ rfl rfl rfl rfl rfl (by kernel_rfl) Try.func6 (by kernel_rfl)
    (of_decide_eq_true (by kernel_rfl)) (by unfold Func.isWrapper; first | (rw [if_pos (by decide +kernel)]; kernel_rfl) | (rw [if_neg (by decide +kernel)]; exact ⟨rfl, rfl⟩))
    (fun os started H enc _ F => by rw [OpenClaim.pre_eq_preRow]; exact lifted os started H enc F)


end Go.Proofs.Ytgemkmpepnaoiaa.LEnds
namespace Go.Proofs.Ytgemkmpepnaoiaa
theorem rankEnds_holds : Rows.RankEndsSaid := LEnds.said
end Go.Proofs.Ytgemkmpepnaoiaa
