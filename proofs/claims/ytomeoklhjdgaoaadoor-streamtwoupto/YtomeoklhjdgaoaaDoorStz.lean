/-
  Marks: numbers; rows of ints apart from a stream; texts handed in, with their bytes in all.
-/
import Derived.Test.YtomeoklhjdgaoaaDoorSty
import Derived.Test.YtomeoklhjdgaoaaDoorStr
import Derived.Lib.AppendZeros
namespace Go.Proofs.YtomeoklhjdgaoaaDoor
open Go.ChangeShapes Go.WideShapes Go.ChangeAt Go.RowKit Go.Lib Go.Maps

/-- The first i texts, one behind the other. -/
def caF (T : List (List UInt8)) : Nat → List UInt8
  | 0 => []
  | i + 1 => caF T i ++ tX T i
theorem caF_mono (T : List (List UInt8)) : ∀ (k i : Nat), (caF T i).length ≤ (caF T (i + k)).length
  | 0, _ => Nat.le_refl _
  | k + 1, i => by
    have h1 := caF_mono T k i
    have h2 : (caF T (i + (k + 1))).length = (caF T (i + k)).length + (tX T (i + k)).length := by
      show (caF T (i + k) ++ tX T (i + k)).length = _
      rw [List.length_append]
    omega
theorem caF_le {T : List (List UInt8)} {i n : Nat} (h : i ≤ n) : (caF T i).length ≤ (caF T n).length := by
  have := caF_mono T (n - i) i
  rwa [show i + (n - i) = n by omega] at this
/-- How much is out behind i texts. -/
def mkN (T : List (List UInt8)) (i : Nat) : Nat := (clL (goF [] (caF T i))).length
def mk0 (T : List (List UInt8)) : Nat → List Int
  | 0 => []
  | i + 1 => mk0 T i ++ [(mkN T (i + 1) : Int)]
theorem mk0_len (T : List (List UInt8)) : ∀ i, (mk0 T i).length = i
  | 0 => rfl
  | i + 1 => by show (mk0 T i ++ [_]).length = _; rw [List.length_append, mk0_len T i]; rfl
theorem mk0_get (T : List (List UInt8)) : ∀ (i j : Nat), j < i → gI (mk0 T i) j = (mkN T (j + 1) : Int)
  | i + 1, j, h => by
    show gI (mk0 T i ++ [_]) j = _
    by_cases e : j < i
    · rw [gI, List.getD_eq_getElem?_getD, List.getElem?_append_left (by rw [mk0_len]; exact e), ← List.getD_eq_getElem?_getD]
      exact mk0_get T i j e
    · have hj : j = i := by omega
      subst hj
      rw [gI, List.getD_eq_getElem?_getD, List.getElem?_append_right (by rw [mk0_len]; exact Nat.le_refl _), mk0_len, Nat.sub_self]
      rfl
def mkL (T : List (List UInt8)) : List Int := mk0 T T.length ++ [((clL (caF T T.length)).length : Int)]
theorem gdT_nil : GdT [] := fun _ hj => absurd hj (Nat.not_lt_zero _)
theorem cuM_nil (l : List UInt8) : cuM [] l = -1 := by
  unfold cuM
  rw [(cuN_none (fun _ hj => absurd hj (Nat.not_lt_zero _))).2 (fun _ => rfl)]
theorem mk_step (T : List (List UInt8)) (i : Nat) : clL (goF [] (caF T i)) ++ clL (goF [] (hldF [] (caF T i) ++ tX T i)) = clL (goF [] (caF T (i + 1))) := (cl_next gdT_nil (caF T i) (tX T i)).symm
theorem hold_step (T : List (List UInt8)) (i : Nat) : hldF [] (hldF [] (caF T i) ++ tX T i) = hldF [] (caF T (i + 1)) := (hold_shift (caF T i) (tX T i)).symm
theorem mk_rise (T : List (List UInt8)) (i : Nat) : mkN T i ≤ mkN T (i + 1) := by
  unfold mkN
  rw [← mk_step, List.length_append]
  omega
theorem mk_last (T : List (List UInt8)) (i : Nat) : mkN T i ≤ (clL (caF T i)).length := by
  unfold mkN
  rw [cl_end gdT_nil (caF T i), List.length_append]
  omega
theorem mkL_len (T : List (List UInt8)) : (mkL T).length = T.length + 1 := by unfold mkL; rw [List.length_append, mk0_len]; rfl
theorem mkL_last (T : List (List UInt8)) : gI (mkL T) T.length = ((clL (caF T T.length)).length : Int) := by
  unfold mkL
  rw [gI, List.getD_eq_getElem?_getD, List.getElem?_append_right (by rw [mk0_len]; exact Nat.le_refl _), mk0_len, Nat.sub_self]
  rfl
theorem mkL_get (T : List (List UInt8)) (j : Nat) (h : j < T.length) : gI (mkL T) j = (mkN T (j + 1) : Int) := by
  unfold mkL
  rw [gI, List.getD_eq_getElem?_getD, List.getElem?_append_left (by rw [mk0_len]; exact h), ← List.getD_eq_getElem?_getD]
  exact mk0_get T _ j h
theorem mkL_rise (T : List (List UInt8)) (j : Nat) (h : j < T.length) : gI (mkL T) j ≤ gI (mkL T) (j + 1) := by
  rw [mkL_get T j h]
  by_cases e : j + 1 < T.length
  · rw [mkL_get T _ e]
    have := mk_rise T (j + 1)
    omega
  · have e2 : j + 1 = T.length := by omega
    rw [e2, mkL_last]
    have := mk_last T T.length
    omega
theorem mkL_bd (T : List (List UInt8)) (hb : (caF T T.length).length ≤ 1048576) (j : Nat) (h : j < T.length + 1) : 0 ≤ gI (mkL T) j ∧ gI (mkL T) j ≤ 3145728 := by
  by_cases e : j < T.length
  · rw [mkL_get T j e]
    have h1 := mk_last T (j + 1)
    have h2 := clL_le (caF T (j + 1))
    have h3 := caF_le (T := T) (i := j + 1) (n := T.length) (by omega)
    omega
  · have e2 : j = T.length := by omega
    rw [e2, mkL_last]
    have h2 := clL_le (caF T T.length)
    omega
/-- A stream without stop texts lies apart from every row of ints. -/
theorem StM.min {F : Nat → Prop} {w : World} {b : Nat} {out held : List UInt8} {en mt : Bool} {met : Int} (h : StM F w b [] out held en mt met) :
    ∃ F0 : Nat → Prop, StM F0 w b [] out held en mt met ∧ (∀ q, F0 q → F q) ∧ ∀ (B : Nat) (v : Value) (n : Nat) (xs : List Value), w.ownsRow B 3 1 v n xs → ∀ q, F0 q → v.ownBlock ≠ some q := by
  obtain ⟨sv, ov, h⟩ := h
  refine ⟨fun q => q = b ∨ ov.ownBlock = some q, ⟨sv, ov, h.blk, ?_, h.own, .inl rfl, fun g hg => ⟨.inr hg, (h.fo g hg).2⟩, fun g hg => ?_⟩, fun q hq => ?_, fun B v n xs hv q hq e => ?_⟩
  · obtain ⟨ao, cap, e1, e2, e3, e4, e5, _⟩ := h.txr
    exact ⟨ao, cap, e1, e2, e3, e4, e5, fun e => absurd e (Nat.lt_irrefl _)⟩
  · rcases hg with rfl | hg
    · exact h.f3 _ h.fb
    · exact h.f3 g (h.fo g hg).1
  · rcases hq with rfl | hq
    · exact h.fb
    · exact (h.fo q hq).1
  · rcases hv.2 with ⟨rfl, _⟩ | ⟨g, cap, cur, rfl, _, hg, _⟩
    · simp [Value.ownBlock] at e
    · have hgq : g = q := by simpa [Value.ownBlock] using e
      subst hgq
      rcases hq with rfl | hq
      · rw [h.blk] at hg
        simp [stC] at hg
      · rcases h.own.2 with ⟨e2, _⟩ | ⟨g2, cap2, cur2, e2, _, hg2, _⟩
        · rw [e2] at hq; simp [Value.ownBlock] at hq
        · rw [e2] at hq
          have : g2 = g := by simpa [Value.ownBlock] using hq
          subst this
          rw [hg2] at hg
          simp at hg
theorem made_ints (c : Nat) : (List.replicate c (Value.int .i64 0)).toArray = ((List.replicate c (0 : Int)).map zV).toArray := by rw [List.map_replicate]
theorem own_madeI (W : World) (B : Nat) (hB : B ≤ W.heap.size) (c : Nat) (hc : c ≤ 140737488351232) (o : Obj) (ho : o = .cells ((List.replicate c (0 : Int)).map zV).toArray 3 (0, 0)) :
    (W.alloc o).ownsRow B 3 1 (.slice (some ⟨W.heap.size, 0, none⟩) 0 c) 0 [] := by
  rw [ho]
  exact ⟨rfl, .inr ⟨W.heap.size, c, _, rfl, hB, heap_alloc_new W _, Nat.zero_le _, by unfold maxLen; omega, by simp, by simp⟩⟩
set_option maxRecDepth 100000 in
/-- A row of texts that is handed in, with their bytes in all. -/
theorem txs_of {H : Type} {enc : TypeId × Value → H} {W : World} {r : Reach} {b0 : Nat} {v : Value} {d : DataW H} {p : List MemPlace} (hv : Value.okWide Tryd.prog W r b0 26 v) (h : DataW.Trod enc Tryd.prog W 0 (fun _ => true) true 26 v d p) (hb : Rows.uptoBulk d ≤ 1048576) :
    ∃ T : List (List UInt8), TxR (fun b => b < W.heap.size) W v T ∧ (caF T T.length).length ≤ 1048576 := by
  obtain ⟨T, hT⟩ := txr_of hv h hb
  refine ⟨T, hT, ?_⟩
  obtain ⟨ao, cap, hvv, hn, hcap, _, _, hcell⟩ := hT
  subst hvv
  obtain ⟨fuel, hf⟩ := h
  rcases Go.Deep.open_slice Tryd.underlying26 hf with ⟨hcs, hx⟩ | ⟨a, len, cap', m, n, D, Pl, hcs, _, hl, hmx, hm, hx, hel⟩
  · have h0 : T.length = 0 := by have : ao = none ∧ T.length = 0 ∧ cap = 0 := by simpa [Value.cells] using hcs
                                 exact this.2.1
    have : T = [] := List.length_eq_zero_iff.1 h0
    subst this
    simp [caF]
  · simp only [if_true] at hm
    subst hm
    rw [Tryd.cS] at hel
    have hcs2 : ao = some a ∧ T.length = len ∧ cap = m := by simpa [Value.cells] using hcs
    obtain ⟨hao, hlen, _⟩ := hcs2
    have e' : d = .slice ((List.range len).map D) _ := (Prod.ext_iff.1 hx).1
    rw [e'] at hb
    simp only [Rows.uptoBulk] at hb
    have hsum : ∀ k, k ≤ len → (caF T k).length ≤ Rows.uptoBulkAll ((List.range k).map D) := by
      intro k
      induction k with
      | zero => intro _; exact Nat.zero_le _
      | succ k ih =>
        intro hk
        have := ih (by omega)
        obtain ⟨cs', hc, ht⟩ := hel k (by omega)
        obtain ⟨s, e2, e3, _⟩ := DataW.trod_string Tryd.underlying9 ht
        have hD : D k = .lit (.string s.data.toList) := by first | exact (Prod.ext_iff.1 e3).1 | exact e3.1 | exact e3
        obtain ⟨b, off, hab, _, _, hcc⟩ := hcell (by omega)
        have hce := hcc k (by omega)
        rw [hao] at hab
        injection hab with hab
        subst hab
        rw [e2] at hc
        have hc0 := (World.cells?_some hc).2.2 0 (by omega)
        have hst : sV (tX T k) = .string s := by
          have h3 : W.cell? ⟨b, off + k, none⟩ = some (.string s) := by
            simpa [Addr.add_lit] using hc0
          rw [hce] at h3
          injection h3
        have hlk : (tX T k).length = s.data.toList.length := by
          injection hst with hst
          rw [← hst]
        rw [List.range_succ, List.map_append, bulk_append]
        simp only [List.map_cons, List.map_nil, Rows.uptoBulkAll, hD, Rows.uptoBulk]
        show (caF T k ++ tX T k).length ≤ _
        rw [List.length_append, hlk]
        omega
    have := hsum len (Nat.le_refl _)
    rw [hlen]
    omega
end Go.Proofs.YtomeoklhjdgaoaaDoor
