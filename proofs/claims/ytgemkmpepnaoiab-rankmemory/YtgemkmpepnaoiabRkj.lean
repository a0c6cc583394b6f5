/-
  The beginnings of an order, the package's and the document's.
-/
import Derived.Test.YtgemkmpepnaoiabRki
namespace Go.Proofs.Ytgemkmpepnaoiab
open Go.RowKit Go.Lib Go.Maps

theorem Rw.take {p : Nat → Prop} {w : World} {ao : Option Addr} {n cap : Nat} {zs : List Int} (h : Rw p w (.slice ao n cap) zs) (m : Nat) (hm : m ≤ n) : Rw p w (.slice ao m cap) (zs.take m) := by
  obtain ⟨ao', cap', hv, hl, hc, hz, hn⟩ := h
  cases hv
  have hlen : (zs.take m).length = m := by rw [List.length_take]; omega
  refine ⟨ao, cap, by rw [hlen], by omega, fun h0 => ?_, fun z hz' => hz z (List.mem_of_mem_take hz'), hn⟩
  obtain ⟨b, off, ha, hp, hb, hcell⟩ := hc (fun e => h0 (by rw [e]; simp))
  refine ⟨b, off, ha, hp, hb, fun i hi => ?_⟩
  rw [hlen] at hi
  rw [hcell i (by omega), List.getD_eq_getElem?_getD, List.getD_eq_getElem?_getD, List.getElem?_take_of_lt hi]
theorem upI_i64 {G : Nat → Int} {n : Nat} {o : List Nat} (h : IsOrd G n o) (hn : n ≤ 17592186044416) : ∀ z ∈ upI o, I64 z := fun z hz => by
  obtain ⟨i, hi, rfl⟩ := List.mem_map.1 hz
  have := h.lt hi
  exact ⟨by omega, by omega⟩
/-- How many places a beginning has. -/
def topN (k : Int) (n : Nat) : Nat := if k < 1 ∨ (n : Int) < k then n else k.toNat
theorem topN_all {k : Int} {n : Nat} (h : k < 1 ∨ (n : Int) ≤ k) : topN k n = n := by
  unfold topN
  split
  · rfl
  · omega
theorem topN_some {k : Nat} {n : Nat} (h1 : 1 ≤ k) (h2 : k ≤ n) : topN (k : Int) n = k := by
  unfold topN
  rw [if_neg (by omega)]
  rfl

/-- An order told in a row, in new memory. -/
def OrdAt (zs : List Int) (m : Nat) (w w' : World) (v : Value) : Prop := ∃ o, IsOrd (fun i => zs.getD i 0) zs.length o ∧ Rw (fun b => w.heap.size ≤ b) w' v ((upI o).take m) ∧ Fresh w w'
theorem order_at (rv : Value) (zs : List Int) (w : World) (hr : Rw (fun b => b < w.heap.size) w rv zs) :
    Calls Try.prog 14 #[rv] w fun e w' => ∃ v, e = .returned v ∧ OrdAt zs zs.length w w' v := by
  refine (order_any rv zs w hr).mono ?_
  rintro e w' ⟨o, b, rfl, hO, hb, hA, hF⟩
  have hl := hO.length
  have h1 := rw_of_at hA zs.length (by rw [upI_length, hl]; exact hr.len) (upI_i64 hO hr.len)
  rw [upI_length, hl] at h1
  refine ⟨_, rfl, o, hO, ?_, hF⟩
  rw [List.take_of_length_le (by rw [upI_length, hl]; exact Nat.le_refl _)]
  exact h1.mono (fun k hk => by rw [hk]; exact hb)
theorem refOrder_at (p : Nat → Prop) (rv : Value) (zs : List Int) (w : World) (hr : Rw p w rv zs) :
    Calls Try.prog 17 #[rv] w fun e w' => ∃ v, e = .returned v ∧ OrdAt zs zs.length w w' v := by
  refine (refOrder_any p rv zs w hr).mono ?_
  rintro e w' ⟨o, v, rfl, hO, hA, hF⟩
  have hl := hO.length
  have hlu : (upI o).length = zs.length := by rw [upI_length, hl]
  rw [← hlu] at hA
  have h1 := rw_of_own hA (by rw [hlu]; exact hr.len) (upI_i64 hO hr.len)
  refine ⟨_, rfl, o, hO, ?_, hF⟩
  rw [List.take_of_length_le (by rw [hlu]; exact Nat.le_refl _)]
  exact h1.mono (fun k hk => hk.1)

theorem OrdAt.of {zs : List Int} {w w' : World} {ao : Option Addr} {n cap m : Nat} {o : List Nat} (hO : IsOrd (fun i => zs.getD i 0) zs.length o) (_hn : zs.length = n) (hR : Rw (fun b => w.heap.size ≤ b) w' (.slice ao n cap) (upI o)) (hF : Fresh w w') (hm : m ≤ n) : OrdAt zs m w w' (.slice ao m cap) :=
  ⟨o, hO, hR.take m hm, hF⟩

set_option maxHeartbeats 1000000 in
set_option maxRecDepth 100000 in
theorem top_at (rv : Value) (zs : List Int) (k : Int) (w : World) (hr : Rw (fun b => b < w.heap.size) w rv zs) (hk : I64 k) :
    Calls Try.prog 15 #[rv, zV k] w fun e w' => ∃ v, e = .returned v ∧ OrdAt zs (topN k zs.length) w w' v := by
  have HO : Hid (Unit → _) := fun (_ : Unit) => order_any rv zs w hr
  have hln := hr.len
  obtain ⟨lo, hi⟩ := hk
  obtain ⟨n, hn⟩ : ∃ n, zs.length = n := ⟨_, rfl⟩
  have HN : Hid (zs.length = n) := hn
  rw [hn] at HO hln ⊢
  clear hn hr
  go_enter Try.func15, Try.ntmps15
  go_wp2_with fail
  refine (HO.out ()).mono ?_
  rintro e w1 ⟨o, b, rfl, hO, hb, hA, hF⟩
  have h1 := rw_of_at hA n (by rw [upI_length, hO.length]; exact hln) (upI_i64 hO hln)
  rw [upI_length, hO.length] at h1
  rw [← HN.out] at hO
  have HP : Hid (∀ m, m ≤ n → OrdAt zs m w w1 (.slice (some ⟨b, 0, none⟩) m n)) := fun m hm => OrdAt.of hO HN.out (h1.mono (fun k hk => by rw [hk]; exact hb)) hF hm
  clear h1 hO hA hF hb HO HN
  by_cases h1 : k < 1
  · have HT : Hid (topN k n = n) := topN_all (.inl h1)
    go_wp2
    go_ret
    exact ⟨_, rfl, by rw [HT.out]; exact HP.out n (Nat.le_refl _)⟩
  · obtain ⟨m, rfl⟩ : ∃ m : Nat, k = (m : Int) := ⟨k.toNat, by omega⟩
    by_cases h2 : (n : Int) < (m : Int)
    · have HT : Hid (topN (m : Int) n = n) := topN_all (.inr (by omega))
      go_wp2
      go_ret
      exact ⟨_, rfl, by rw [HT.out]; exact HP.out n (Nat.le_refl _)⟩
    · have HT : Hid (topN (m : Int) n = m) := topN_some (by omega) (by omega)
      have h3 : (m : Int) ≤ (n : Int) := by omega
      have h4 : ¬ (m : Int) < 1 := by omega
      go_wp2
      go_ret
      exact ⟨_, rfl, by rw [HT.out]; exact HP.out m (by omega)⟩

set_option maxHeartbeats 1000000 in
set_option maxRecDepth 100000 in
theorem refTop_at (p : Nat → Prop) (rv : Value) (zs : List Int) (k : Int) (w : World) (hr : Rw p w rv zs) (hk : I64 k) :
    Calls Try.prog 18 #[rv, zV k] w fun e w' => ∃ v, e = .returned v ∧ OrdAt zs (topN k zs.length) w w' v := by
  have HO : Hid (Unit → _) := fun (_ : Unit) => refOrder_any p rv zs w hr
  have hln := hr.len
  obtain ⟨lo, hi⟩ := hk
  obtain ⟨n, hn⟩ : ∃ n, zs.length = n := ⟨_, rfl⟩
  have HN : Hid (zs.length = n) := hn
  rw [hn] at HO hln ⊢
  clear hn hr
  go_enter Try.func18, Try.ntmps18
  go_wp2_with fail
  refine (HO.out ()).mono ?_
  rintro e w1 ⟨o, v, rfl, hO, hA, hF⟩
  have hlu : (upI o).length = n := by rw [upI_length, hO.length]
  have h1 := rw_of_own (zs := upI o) (by rw [hlu]; exact hA) (by rw [hlu]; exact hln) (upI_i64 hO hln)
  obtain ⟨ao, cap, rfl, hcap⟩ : ∃ ao cap, v = .slice ao n cap ∧ n ≤ cap := by
    rcases hA.2 with ⟨h, h0⟩ | ⟨g, cap, cur, h, _, _, hc, _⟩
    · exact ⟨none, 0, by rw [h, h0], by omega⟩
    · exact ⟨_, cap, h, hc⟩
  rw [← HN.out] at hO
  have HP : Hid (∀ m, m ≤ n → OrdAt zs m w w1 (.slice ao m cap)) := fun m hm => OrdAt.of hO HN.out (h1.mono (fun k hk => hk.1)) hF hm
  clear h1 hO hA hF hlu HO HN
  by_cases h1 : 0 < k
  · obtain ⟨m, rfl⟩ : ∃ m : Nat, k = (m : Int) := ⟨k.toNat, by omega⟩
    by_cases h2 : (m : Int) < (n : Int)
    · have HT : Hid (topN (m : Int) n = m) := topN_some (by omega) (by omega)
      have h3 : (m : Int) ≤ (cap : Int) := by omega
      go_wp2
      go_ret
      exact ⟨_, rfl, by rw [HT.out]; exact HP.out m (by omega)⟩
    · have HT : Hid (topN (m : Int) n = n) := topN_all (.inr (by omega))
      go_wp2
      go_ret
      exact ⟨_, rfl, by rw [HT.out]; exact HP.out n (Nat.le_refl _)⟩
  · have HT : Hid (topN k n = n) := topN_all (.inl (by omega))
    go_wp2
    go_ret
    exact ⟨_, rfl, by rw [HT.out]; exact HP.out n (Nat.le_refl _)⟩
end Go.Proofs.Ytgemkmpepnaoiab
