/-
  For every list and every group the statement VecPacks answers true: awake does; Pack is the document's; what is handed in stays; what came out is the caller's own: what is stored into it shows in nothing else.
-/
import Derived.Test.YtlepdogfgpeogaaVdo
import Derived.Test.YtlepdogfgpeogaaNof
import Derived.Test.YtlepdogfgpeogaaVde
namespace Go.Proofs.Ytlepdogfgpeogaa
open Go.RowKit Go.Lib Go.Maps
def pkN (l : List Int) (g : Int) : Int := if paE l.length g = 0 then (l.length : Int) else 0
def pkG (l : List Int) (g : Int) : Int := if paE l.length g = 0 then g else 0
def pkS (l : List Int) (g : Int) : List Int := if paE l.length g = 0 then pS l g.toNat else []
def pkH (l : List Int) (g : Int) : List Int := if paE l.length g = 0 then pH l g.toNat else []
theorem own_someU {B : Nat} {e : TypeId} {w : World} {v : Value} {n : Nat} {xs : List Value} (h : w.ownsRow B e 1 v n xs) (hn : 0 < n) : ∃ g c, v = .slice (some ⟨g, 0, none⟩) n c ∧ B ≤ g := by
  rcases h.2 with ⟨_, e⟩ | ⟨g', cap', cur, hv, hb, _⟩
  · omega
  · exact ⟨g', cap', hv, hb⟩
theorem Packs.get {l : List Int} {g : Int} {w w' : World} {x : Ending} (h : Packs l g w x w') : ∃ a1 a2 : Option Addr, x = .returned (.tuple #[.agg #[zV (pkN l g), zV (pkG l g), .slice a1 (pkS l g).length (pkS l g).length, .slice a2 (pkH l g).length (pkH l g).length], zV (paE l.length g)]) ∧
    (w'.ownsRow w.heap.size 5 1 (.slice a1 (pkS l g).length (pkS l g).length) (pkS l g).length ((pkS l g).map (Value.int .u8)) ∧
    w'.ownsRow w.heap.size 5 1 (.slice a2 (pkH l g).length (pkH l g).length) (pkH l g).length ((pkH l g).map (Value.int .u8)) ∧ (∀ k, (Value.slice a1 (pkS l g).length (pkS l g).length).ownBlock = some k → (Value.slice a2 (pkH l g).length (pkH l g).length).ownBlock ≠ some k) ∧ Fresh w w') := by
  rcases h with ⟨h0, h1, h2⟩ | ⟨h0, b1, b2, h1, h2, h3, h4, h5⟩
  · have e1 : pkN l g = 0 := if_neg h0
    have e2 : pkG l g = 0 := if_neg h0
    have e3 : pkS l g = [] := if_neg h0
    have e4 : pkH l g = [] := if_neg h0
    rw [e1, e2, e3, e4]
    exact ⟨none, none, h1, own_nil _ _ _, own_nil _ _ _, fun k e => by simp [Value.ownBlock] at e, h2⟩
  · have e1 : pkN l g = (l.length : Int) := if_pos h0
    have e2 : pkG l g = g := if_pos h0
    have e3 : pkS l g = pS l g.toNat := if_pos h0
    have e4 : pkH l g = pH l g.toNat := if_pos h0
    rw [e1, e2, e3, e4]
    exact ⟨_, _, by rw [h0]; exact h1, h3, h4, fun k e e' => by simp [Value.ownBlock] at e e'; omega, h5⟩
theorem RPacks.get {l : List Int} {g : Int} {w w' : World} {x : Ending} (h : RPacks l g w x w') : ∃ sv hv : Value, x = .returned (.tuple #[.agg #[zV (pkN l g), zV (pkG l g), sv, hv], zV (paE l.length g)]) ∧
    (Rk .u8 (fun b => w.heap.size ≤ b ∧ b < w'.heap.size) w' sv (pkS l g) ∧ Rk .u8 (fun b => w.heap.size ≤ b ∧ b < w'.heap.size) w' hv (pkH l g) ∧ Fresh w w') := by
  rcases h with ⟨h0, h1, h2⟩ | ⟨h0, sv, hv, h1, h3, h4, h5⟩
  · have e1 : pkN l g = 0 := if_neg h0
    have e2 : pkG l g = 0 := if_neg h0
    have e3 : pkS l g = [] := if_neg h0
    have e4 : pkH l g = [] := if_neg h0
    rw [e1, e2, e3, e4]
    exact ⟨_, _, h1, ⟨none, 0, rfl, by simp, fun h => absurd rfl h, by simp, fun _ => rfl, by simp⟩, ⟨none, 0, rfl, by simp, fun h => absurd rfl h, by simp, fun _ => rfl, by simp⟩, h2⟩
  · have e1 : pkN l g = (l.length : Int) := if_pos h0
    have e2 : pkG l g = g := if_pos h0
    have e3 : pkS l g = pS l g.toNat := if_pos h0
    have e4 : pkH l g = pH l g.toNat := if_pos h0
    rw [e1, e2, e3, e4]
    exact ⟨sv, hv, by rw [h0]; exact h1, h3, h4, h5⟩
theorem pk_small (l : List Int) (g : Int) (hl : ∀ y ∈ l, C8 y) : ((pkS l g).length ≤ 1048576 ∧ (pkH l g).length ≤ 1048576) ∧ (∀ z ∈ pkS l g, Fit .u8 z) ∧ ∀ z ∈ pkH l g, Fit .u8 z := by
  by_cases h0 : paE l.length g = 0
  · have e3 : pkS l g = pS l g.toNat := if_pos h0
    have e4 : pkH l g = pH l g.toNat := if_pos h0
    have hn : l.length ≤ 1048576 ∧ 1 ≤ g.toNat := by
      unfold paE at h0
      split at h0
      · cases h0
      · split at h0
        · omega
        · cases h0
    rw [e3, e4, pS_length, pH_length]
    exact ⟨⟨by have := group_le hn.2 l.length; omega, by omega⟩, fun z hz => pS_byte hl _ z hz, fun z hz => pH_byte l _ z hz⟩
  · have e3 : pkS l g = [] := if_neg h0
    have e4 : pkH l g = [] := if_neg h0
    rw [e3, e4]
    exact ⟨⟨by simp, by simp⟩, ⟨fun z hz => (nomatch hz), fun z hz => (nomatch hz)⟩⟩
/-- Two rows that are written to. -/
def Wri (S : Nat → Prop) (B : Nat) (v1 v2 : Value) (n1 n2 : Nat) (wX wr : World) : Prop :=
  (∃ xs : List Int, wr.ownsRow B 5 1 v1 n1 (xs.map (Value.int .u8))) ∧ (∃ ys : List Int, wr.ownsRow B 5 1 v2 n2 (ys.map (Value.int .u8))) ∧ Kept S wX wr
theorem Wri.set2 {S : Nat → Prop} {B g n1 n2 c : Nat} {v1 : Value} {wX wr : World} (h : Wri S B v1 (.slice (some ⟨g, 0, none⟩) n2 c) n1 n2 wX wr) (hap : ∀ k, v1.ownBlock = some k → k ≠ g) (hS : S g) (i : Nat) (x : Int) : Wri S B v1 (.slice (some ⟨g, 0, none⟩) n2 c) n1 n2 wX (wr.setCell ⟨g, i, none⟩ (.int .u8 x)) := by
  obtain ⟨⟨xs, h1⟩, ⟨ys, h2⟩, h3⟩ := h
  refine ⟨⟨xs, owns_kept h1 ((Kept.refl (fun b => b = g) wr).setCell (p := ⟨g, i, none⟩) (fun _ => rfl) _) (fun k e e2 => hap k e e2)⟩, ⟨ys.set i x, ?_⟩, h3.setCell (fun _ => hS) _⟩
  rw [List.map_set]
  exact own_setB h2
theorem Wri.fresh {S : Nat → Prop} {B n1 n2 : Nat} {v1 v2 : Value} {wX wr X : World} (h : Wri S B v1 v2 n1 n2 wX wr) (hF : Fresh wr X) : Wri S B v1 v2 n1 n2 wX X := by
  obtain ⟨⟨xs, h1⟩, ⟨ys, h2⟩, h3⟩ := h
  exact ⟨⟨xs, owns_kept h1 hF (fun _ _ e => e)⟩, ⟨ys, owns_kept h2 hF (fun _ _ e => e)⟩, h3.trans hF (fun _ _ e => e.elim)⟩
theorem Wri.swap {S : Nat → Prop} {B n1 n2 : Nat} {v1 v2 : Value} {wX wr : World} (h : Wri S B v1 v2 n1 n2 wX wr) : Wri S B v2 v1 n2 n1 wX wr := ⟨h.2.1, h.1, h.2.2⟩
end Go.Proofs.Ytlepdogfgpeogaa
namespace Go.Proofs.Ytlepdogfgpeogaa.Packs8
open Go.ChangeShapes Go.WideShapes Go.ChangeAt Go.RowKit Go.Lib Go.Maps

set_option maxHeartbeats 8000000 in
set_option maxRecDepth 100000 in
theorem walk (lv : Value) (l : List Int) (g : Int) (w : World) (hl : Rk .i8 (fun b => b < w.heap.size) w lv l) (hg : I64 g) :
    Calls Try.prog 4 #[lv, zV g] w fun e w' => e = .returned (.bool true) ∧ Fresh w w' := by
  have HAW : Hid (∀ W : World, _) := fun (W : World) => awake_any W
  have HL : Hid (∀ W, Fresh w W → Rk .i8 (fun b => b < w.heap.size) W lv l) := fun W hF => hl.fresh hF
  have HG : Hid (I64 g ∧ ∀ y ∈ l, C8 y) := ⟨hg, hl.all⟩
  obtain ⟨ao, ac, rfl, _⟩ := hl.shape
  clear hl hg
  go_enter Try.func4, Try.ntmps4
  go_wp2_with fail
  refine (HAW.out _).mono ?_
  rintro e w0 ⟨rfl, hF0⟩
  obtain ⟨t, W1, hr1, hF1, hR1⟩ := copy_of ty8 (HL.out w0 hF0)
  have HF1 : Hid (Fresh w W1 ∧ W1.heap.size ≤ W1.heap.size ∧ w.heap.size ≤ w0.heap.size) := ⟨hF0.trans hF1 (fun _ _ e => e), Nat.le_refl _, hF0.size⟩
  have HR1 : Hid (Rk .i8 (fun b => w0.heap.size ≤ b ∧ b < W1.heap.size) W1 t l) := hR1
  have H1 : Hid (Unit → _) := fun (_ : Unit) => Pack_any _ _ l g W1 hR1 HG.out.1
  obtain ⟨bo, bc, rfl, _⟩ := hR1.shape
  clear hF0 hF1 hR1 HAW
  go_wp2_with (at_builtin; refine Lib.wpList_append_run _ rfl _ _ _ _ rfl _ _ rfl rfl _ _ hr1 ?_)
  refine (H1.out ()).mono ?_
  rintro e w2 hP
  obtain ⟨a1, a2, rfl, o1, o2, hap, hF2⟩ := hP.get
  obtain ⟨ns, hns⟩ : ∃ ns, (pkS l g).length = ns := ⟨_, rfl⟩
  obtain ⟨nh, hnh⟩ : ∃ nh, (pkH l g).length = nh := ⟨_, rfl⟩
  have HLen : Hid ((pkS l g).length = ns ∧ (pkH l g).length = nh) := ⟨hns, hnh⟩
  have hsm := (pk_small l g HG.out.2).1
  rw [hns, hnh] at hsm
  obtain ⟨hs1, hs2⟩ := hsm
  rw [hns] at o1
  rw [hnh] at o2
  rw [hns, hnh] at hap
  rw [hns, hnh]
  obtain ⟨w3, hw3⟩ : ∃ w3, w2.alloc (.cells #[zV (pkN l g), zV (pkG l g), .slice a1 ns ns, .slice a2 nh nh] 48) = w3 := ⟨_, rfl⟩
  have hF3 : Fresh w2 w3 := by rw [← hw3]; exact (Kept.refl _ w2).alloc _
  have p3 : w3.heap[w2.heap.size]? = some (.cells #[zV (pkN l g), zV (pkG l g), .slice a1 ns ns, .slice a2 nh nh] 48 (0, 0)) := by rw [← hw3]; exact heap_alloc_new w2 _
  have HP3 : Hid (w3.heap[w2.heap.size]? = some (.cells #[zV (pkN l g), zV (pkG l g), .slice a1 ns ns, .slice a2 nh nh] 48 (0, 0))) := p3
  have HO : Hid (w2.ownsRow W1.heap.size 5 1 (.slice a1 ns ns) ns ((pkS l g).map (Value.int .u8)) ∧ w2.ownsRow W1.heap.size 5 1 (.slice a2 nh nh) nh ((pkH l g).map (Value.int .u8)) ∧ (∀ k, (Value.slice a1 ns ns).ownBlock = some k → (Value.slice a2 nh nh).ownBlock ≠ some k)) := ⟨o1, o2, hap⟩
  have HF3 : Hid (Fresh W1 w2 ∧ Fresh w2 w3 ∧ Fresh w w3) := ⟨hF2, hF3, (HF1.out.1.trans hF2 (fun _ _ e => e)).trans hF3 (fun _ _ e => e)⟩
  have H3 : Hid (Unit → _) := fun (_ : Unit) => refPack_any _ _ l g w3 (HL.out w3 HF3.out.2.2) HG.out.1
  clear o1 o2 hap hF2 hP H1 hF3 p3 hns hnh hr1
  go_wp2_with fail
  refine (H3.out ()).mono ?_
  rintro e w4 hQ
  obtain ⟨sv, hv, rfl, k1, k2, hF4⟩ := hQ.get
  obtain ⟨s1, sc, hsv, _⟩ := k1.shape
  obtain ⟨u1, uc, huv, _⟩ := k2.shape
  rw [HLen.out.1] at hsv
  rw [HLen.out.2] at huv
  subst hsv
  subst huv
  obtain ⟨w5, hw5⟩ : ∃ w5, w4.alloc (.cells #[zV (pkN l g), zV (pkG l g), .slice s1 ns sc, .slice u1 nh uc] 51) = w5 := ⟨_, rfl⟩
  have hF5 : Fresh w4 w5 := by rw [← hw5]; exact (Kept.refl _ w4).alloc _
  have p5 : w5.heap[w4.heap.size]? = some (.cells #[zV (pkN l g), zV (pkG l g), .slice s1 ns sc, .slice u1 nh uc] 51 (0, 0)) := by rw [← hw5]; exact heap_alloc_new w4 _
  have hF35 : Fresh w3 w5 := hF4.trans hF5 (fun _ _ e => e)
  have HAll : Hid (∀ (S : Nat → Prop) (W : World), (∀ b, S b → W1.heap.size ≤ b ∧ b < w2.heap.size) → Kept S w5 W → (W.heap[w2.heap.size]? = some (.cells #[zV (pkN l g), zV (pkG l g), .slice a1 ns ns, .slice a2 nh nh] 48 (0, 0)) ∧ W.heap[w4.heap.size]? = some (.cells #[zV (pkN l g), zV (pkG l g), .slice s1 ns sc, .slice u1 nh uc] 51 (0, 0))) ∧ (Rk .u8 (fun _ => True) W (.slice s1 ns sc) (pkS l g) ∧ Rk .u8 (fun _ => True) W (.slice u1 nh uc) (pkH l g)) ∧ (Rk .i8 (fun b => b < w.heap.size) W (.slice ao l.length ac) l ∧ Rk .i8 (fun b => w0.heap.size ≤ b ∧ b < W1.heap.size) W (.slice bo l.length bc) l) ∧ Fresh w W) := fun S W hS hK => by
    have z1 := HF3.out.1.size
    have z2 := HF3.out.2.1.size
    have z3 := hF4.size
    have z4 := HF1.out.1.size
    have z5 := HF1.out.2.2
    have hFw5 : Fresh w w5 := HF3.out.2.2.trans hF35 (fun _ _ e => e)
    refine ⟨⟨hK.at (hF35.at HP3.out (fun e => e)) (fun e => by have := hS _ e; omega), hK.at p5 (fun e => by have := hS _ e; have := lt_of_heap HP3.out; omega)⟩, ⟨((k1.fresh hF5).kept hK (fun b hb e => by have := hS _ e; omega)).mono (fun _ _ => trivial), ((k2.fresh hF5).kept hK (fun b hb e => by have := hS _ e; omega)).mono (fun _ _ => trivial)⟩, ⟨(HL.out w5 hFw5).kept hK (fun b hb e => by have := hS _ e; omega), (((HR1.out.fresh HF3.out.1).fresh HF3.out.2.1).fresh hF35).kept hK (fun b hb e => by have := hS _ e; omega)⟩, hFw5.trans hK (fun i hi e => by have := hS _ e; omega)⟩
  have hO5 := HO.out
  have ho1 := owns_kept (owns_kept hO5.1 HF3.out.2.1 (fun _ _ e => e)) hF35 (fun _ _ e => e)
  have ho2 := owns_kept (owns_kept hO5.2.1 HF3.out.2.1 (fun _ _ e => e)) hF35 (fun _ _ e => e)
  have HW0 : Hid (Wri (fun b => W1.heap.size ≤ b ∧ b < w2.heap.size) W1.heap.size (.slice a1 ns ns) (.slice a2 nh nh) ns nh w5 w5) := ⟨⟨_, ho1⟩, ⟨_, ho2⟩, Kept.refl _ _⟩
  have HBl : Hid (∀ k, ((Value.slice a1 ns ns).ownBlock = some k ∨ (Value.slice a2 nh nh).ownBlock = some k) → W1.heap.size ≤ k ∧ k < w2.heap.size) := fun k hk => by
    rcases hk with e | e
    · exact ⟨own_ge hO5.1 e, owns_lt hO5.1 e⟩
    · exact ⟨own_ge hO5.2.1 e, owns_lt hO5.2.1 e⟩
  have hfit := (pk_small l g HG.out.2).2
  have hq1 := rk_of_own ho1 (by rw [HLen.out.1]; simp only [kb]; omega) hfit.1
  have hq2 := rk_of_own ho2 (by rw [HLen.out.2]; simp only [kb]; omega) hfit.2
  obtain ⟨⟨h61, h81⟩, ⟨hT1, hU1⟩, ⟨hin1, hin2⟩, hFin⟩ := HAll.out (fun _ => False) w5 (fun _ e => e.elim) (Kept.refl _ _)
  have H5 : Hid (∀ W, Fresh w5 W → _) := fun W hF => packed_any (fun _ => True) (fun _ => True) (pkN l g) (pkG l g) _ _ _ _ (pkS l g) (pkH l g) W ((hq1.fresh hF).mono (fun _ _ => trivial)) ((hq2.fresh hF).mono (fun _ _ => trivial)) (hT1.fresh hF) (hU1.fresh hF)
  have HSm : Hid (∀ W, Fresh w5 W → _) := fun W hF => same8_any _ _ _ _ l W (hin2.fresh hF) (hin1.fresh hF)
  have d0 : w5.cell? ⟨w2.heap.size, 0, none⟩ = some (zV (pkN l g)) := by rw [Lib.cell_of_heap h61]; rfl
  have d1 : w5.cell? ⟨w2.heap.size, 1, none⟩ = some (zV (pkG l g)) := by rw [Lib.cell_of_heap h61]; rfl
  have d2 : w5.cell? ⟨w2.heap.size, 2, none⟩ = some (.slice a1 ns ns) := by rw [Lib.cell_of_heap h61]; rfl
  have d3 : w5.cell? ⟨w2.heap.size, 3, none⟩ = some (.slice a2 nh nh) := by rw [Lib.cell_of_heap h61]; rfl
  have e0 : w5.cell? ⟨w4.heap.size, 0, none⟩ = some (zV (pkN l g)) := by rw [Lib.cell_of_heap h81]; rfl
  have e1 : w5.cell? ⟨w4.heap.size, 1, none⟩ = some (zV (pkG l g)) := by rw [Lib.cell_of_heap h81]; rfl
  have e2 : w5.cell? ⟨w4.heap.size, 2, none⟩ = some (.slice s1 ns sc) := by rw [Lib.cell_of_heap h81]; rfl
  have e3 : w5.cell? ⟨w4.heap.size, 3, none⟩ = some (.slice u1 nh uc) := by rw [Lib.cell_of_heap h81]; rfl
  have H50 : Hid (Unit → _) := fun (_ : Unit) => H5.out w5 (Kept.refl _ _)
  clear H3 hQ k1 k2 hF4 p5 hF35 hF5 hO5 ho1 ho2 hq1 hq2 h61 h81 hT1 hU1 hin1 hin2 hFin hfit hw3 H5
  go_wp2_with fail
  refine (H50.out ()).mono ?_
  rintro e w6 ⟨rfl, hF6⟩
  have H6 : Hid (Unit → _) := fun (_ : Unit) => HSm.out w6 hF6
  have HF6 : Hid (Fresh w5 w6) := hF6
  clear H50 hF6 HSm d0 d1 d2 d3 e0 e1 e2 e3 hw5
  obtain ⟨E, hE⟩ : ∃ E, paE l.length g = E := ⟨_, rfl⟩
  have HEE : Hid (paE l.length g = E) := hE
  rw [hE]
  clear hE
  go_wp2_with fail
  refine (H6.out ()).mono ?_
  rintro e w7 ⟨rfl, n7, hw7⟩
  have hF7 : Fresh w5 w7 := by rw [hw7]; exact HF6.out.drewN n7
  have HW7 : Hid (Wri (fun b => W1.heap.size ≤ b ∧ b < w2.heap.size) W1.heap.size (.slice a1 ns ns) (.slice a2 nh nh) ns nh w5 w7) := HW0.out.fresh hF7
  have HC : Hid (∀ W, Wri (fun b => W1.heap.size ≤ b ∧ b < w2.heap.size) W1.heap.size (.slice a1 ns ns) (.slice a2 nh nh) ns nh w5 W → W.cell? ⟨w2.heap.size, 2, none⟩ = some (.slice a1 ns ns) ∧ W.cell? ⟨w2.heap.size, 3, none⟩ = some (.slice a2 nh nh)) := fun W hW => by
    have h61 := (HAll.out _ W (fun _ e => e) hW.2.2).1.1
    exact ⟨by rw [Lib.cell_of_heap h61]; rfl, by rw [Lib.cell_of_heap h61]; rfl⟩
  obtain ⟨d2, d3⟩ := HC.out w7 HW7.out
  clear H6 hw7 hF7 HF6 HW0
  go_wp2
  clear d2 d3
  go_loopw [49] (fun iv wr => ∃ i : Nat, i ≤ nh ∧ iv = zV i ∧ Hid (Wri (fun b => W1.heap.size ≤ b ∧ b < w2.heap.size) W1.heap.size (.slice a1 ns ns) (.slice a2 nh nh) ns nh w5 wr)) (fun iv _ => nh - (RowKit.intOf iv).toNat)
  case atStart => exact ⟨0, Nat.zero_le _, rfl, HW7.out⟩
  case round =>
    obtain ⟨i, hi, rfl, HA⟩ := hrel
    clear HW7
    obtain ⟨d2, d3⟩ := HC.out wr HA.out
    by_cases hlt : i < nh
    · have hlt' : (i : Int) < (nh : Int) := by omega
      obtain ⟨ys, hown⟩ := HA.out.2.1
      obtain ⟨g2, cc, hg2, _⟩ := own_someU hown (by omega)
      injection hg2 with hg2 _ _
      subst hg2
      have f1 := own_frozen hown i
      have g1 := own_get hown i hlt
      have HX : Hid (Wri (fun b => W1.heap.size ≤ b ∧ b < w2.heap.size) W1.heap.size (.slice a1 ns ns) (.slice (some ⟨g2, 0, none⟩) nh nh) ns nh w5 (wr.setCell ⟨g2, i, none⟩ (.int .u8 99))) := HA.out.set2 (fun k e e2 => HO.out.2.2 k e (by rw [e2]; simp [Value.ownBlock])) (HBl.out g2 (.inr (by simp [Value.ownBlock]))) i 99
      clear HA hown d2
      generalize ys.getD i 0 = old at *
      go_wp2
      go_roundw
      case rel => exact ⟨i + 1, hlt, by go_num, HX.out⟩
      case measure => simp [RowKit.intOf]; omega
    · obtain rfl : i = nh := by omega
      have HW8 : Hid _ := HA.out
      clear HA hlt hi
      go_wp2
      clear d2 d3
      go_loopw [60] (fun iv wr => ∃ q : Nat, q ≤ ns ∧ iv = zV q ∧ Hid (Wri (fun b => W1.heap.size ≤ b ∧ b < w2.heap.size) W1.heap.size (.slice a1 ns ns) (.slice a2 i i) ns i w5 wr)) (fun iv _ => ns - (RowKit.intOf iv).toNat)
      case atStart => exact ⟨0, Nat.zero_le _, rfl, HW8.out⟩
      case round =>
        obtain ⟨q, hq, rfl, HA⟩ := hrel
        clear HW8
        obtain ⟨d2, d3⟩ := HC.out wr HA.out
        by_cases hlt : q < ns
        · have hlt' : (q : Int) < (ns : Int) := by omega
          obtain ⟨xs, hown⟩ := HA.out.1
          obtain ⟨g1, cc, hg1, _⟩ := own_someU hown (by omega)
          injection hg1 with hg1 _ _
          subst hg1
          have f1 := own_frozen hown q
          have z1 := own_get hown q hlt
          have HX : Hid (Wri (fun b => W1.heap.size ≤ b ∧ b < w2.heap.size) W1.heap.size (.slice (some ⟨g1, 0, none⟩) ns ns) (.slice a2 i i) ns i w5 (wr.setCell ⟨g1, q, none⟩ (.int .u8 98))) := (HA.out.swap.set2 (fun k e e2 => HO.out.2.2 g1 (by simp [Value.ownBlock]) (by rw [← e2]; exact e)) (HBl.out g1 (.inl (by simp [Value.ownBlock]))) q 98).swap
          clear HA hown d3
          generalize xs.getD q 0 = old at *
          go_wp2
          go_roundw
          case rel => exact ⟨q + 1, hlt, by go_num, HX.out⟩
          case measure => simp [RowKit.intOf]; omega
        · obtain rfl : q = ns := by omega
          obtain ⟨⟨_, h81⟩, ⟨hT1, hU1⟩, ⟨_, hin2⟩, hFin⟩ := HAll.out _ wr (fun _ e => e) HA.out.2.2
          have H8 : Hid (Unit → _) := fun (_ : Unit) => Pack_any _ _ l g wr hin2 HG.out.1
          have HFin : Hid (Fresh w wr) := hFin
          have HTU : Hid (∀ W, Fresh wr W → (Rk .u8 (fun _ => True) W (.slice s1 q sc) (pkS l g) ∧ Rk .u8 (fun _ => True) W (.slice u1 i uc) (pkH l g)) ∧ W.heap[w4.heap.size]? = some (.cells #[zV (pkN l g), zV (pkG l g), .slice s1 q sc, .slice u1 i uc] 51 (0, 0))) := fun W hF => ⟨⟨hT1.fresh hF, hU1.fresh hF⟩, hF.at h81 (fun e => e)⟩
          clear h81 hT1 hU1 hin2 hFin HAll HA HC HO HBl d2 d3 hlt hq
          go_wp2_with fail
          refine (H8.out ()).mono ?_
          rintro e w8 hP
          obtain ⟨b1, b2, rfl, o1, o2, _, hF8⟩ := hP.get
          rw [HLen.out.1] at o1
          rw [HLen.out.2] at o2
          rw [HLen.out.1, HLen.out.2, HEE.out]
          obtain ⟨w9, hw9⟩ : ∃ w9, w8.alloc (.cells #[zV (pkN l g), zV (pkG l g), .slice b1 q q, .slice b2 i i] 48) = w9 := ⟨_, rfl⟩
          have hF9 : Fresh w8 w9 := by rw [← hw9]; exact (Kept.refl _ w8).alloc _
          have p9 : w9.heap[w8.heap.size]? = some (.cells #[zV (pkN l g), zV (pkG l g), .slice b1 q q, .slice b2 i i] 48 (0, 0)) := by rw [← hw9]; exact heap_alloc_new w8 _
          have hfit := (pk_small l g HG.out.2).2
          have q1 := rk_of_own (owns_kept o1 hF9 (fun _ _ e => e)) (by rw [HLen.out.1]; simp only [kb]; omega) hfit.1
          have q2 := rk_of_own (owns_kept o2 hF9 (fun _ _ e => e)) (by rw [HLen.out.2]; simp only [kb]; omega) hfit.2
          obtain ⟨⟨hT1, hU1⟩, h81⟩ := HTU.out w9 (hF8.trans hF9 (fun _ _ e => e))
          have H9 : Hid (Unit → _) := fun (_ : Unit) => packed_any (fun _ => True) (fun _ => True) (pkN l g) (pkG l g) _ _ _ _ (pkS l g) (pkH l g) w9 (q1.mono (fun _ _ => trivial)) (q2.mono (fun _ _ => trivial)) hT1 hU1
          have HFe : Hid (Fresh w w9) := (HFin.out.trans hF8 (fun _ _ e => e)).trans hF9 (fun _ _ e => e)
          have d0 : w9.cell? ⟨w8.heap.size, 0, none⟩ = some (zV (pkN l g)) := by rw [Lib.cell_of_heap p9]; rfl
          have d1 : w9.cell? ⟨w8.heap.size, 1, none⟩ = some (zV (pkG l g)) := by rw [Lib.cell_of_heap p9]; rfl
          have d2 : w9.cell? ⟨w8.heap.size, 2, none⟩ = some (.slice b1 q q) := by rw [Lib.cell_of_heap p9]; rfl
          have d3 : w9.cell? ⟨w8.heap.size, 3, none⟩ = some (.slice b2 i i) := by rw [Lib.cell_of_heap p9]; rfl
          have e0 : w9.cell? ⟨w4.heap.size, 0, none⟩ = some (zV (pkN l g)) := by rw [Lib.cell_of_heap h81]; rfl
          have e1 : w9.cell? ⟨w4.heap.size, 1, none⟩ = some (zV (pkG l g)) := by rw [Lib.cell_of_heap h81]; rfl
          have e2 : w9.cell? ⟨w4.heap.size, 2, none⟩ = some (.slice s1 q sc) := by rw [Lib.cell_of_heap h81]; rfl
          have e3 : w9.cell? ⟨w4.heap.size, 3, none⟩ = some (.slice u1 i uc) := by rw [Lib.cell_of_heap h81]; rfl
          clear hP o1 o2 hF8 hF9 p9 hfit q1 q2 hT1 hU1 h81 HTU HFin H8
          go_wp2_with fail
          refine (H9.out ()).mono ?_
          rintro e w10 ⟨rfl, hF10⟩
          have HF10 : Hid (Fresh w w10) := HFe.out.trans hF10 (fun _ _ e => e)
          clear hF10 H9 HFe d0 d1 d2 d3 e0 e1 e2 e3 hw9
          go_wp2
          go_ret
          exact ⟨rfl, HF10.out⟩

set_option maxRecDepth 100000 in
theorem contract (H : Type) (enc : TypeId × Value → H) (W : World) (base : Nat) (args : Array Value) (ds gs : List (DataW H)) (before : List MemPlace)
    (hval : ∀ (j : Nat) t v, Try.f4.params[j]? = some t → args[j]? = some v → Value.okWide Try.prog W .any base t v)
    (hW : DataW.Whole enc Try.prog Try.f4.params.toList Rows.vecPacksSpec.vars false W args.toList ds gs before) 
    (hsz : (DataW.weightsEach Try.prog (Try.f4.params.toList ++ []) (ds ++ gs)).all (· ≤ reachBytes) = true) (hL : laidMetH Try.prog Rows.vecPacksRow.laid W) :
    Calls Try.prog 4 args W fun e W' => ∃ v, e = .returned v ∧ Rows.vecPacksSpec.post enc Try.prog Try.f4 false true false false W args v W' := by
  have hW' := hW
  obtain ⟨p, q, hA0, hV, rfl, hfz, hnd⟩ := hW
  have hA : DataW.TrodAll enc Try.prog W 0 (fun _ => true) true Try.f4.params.toList args.toList ds p := hA0
  rw [Try.params4] at hA hval hsz
  obtain ⟨rfl, rfl⟩ := trodVars_none hV
  have _hL := hL
  obtain ⟨v0, v1, d0, d1, p0, p1, rfl, rfl, rfl, h0, h1⟩ := trodAll_two hA
  obtain ⟨zs, hz⟩ := arg8 (hval 0 22 v0 rfl rfl) h0 hsz (j := 0) rfl rfl
  obtain ⟨x1, rfl, rfl, rfl, w1⟩ := open_int Try.underlying3 (hval 1 3 v1 rfl rfl) h1
  refine (walk v0 zs x1 W hz (i64_of w1)).mono fun e W' ⟨he, hk⟩ => ?_
  subst he
  exact ⟨_, rfl, post_law rfl (by kernel_rfl) (by kernel_rfl) hW' rfl hk⟩

set_option maxRecDepth 100000 in
theorem laid_met (os : Os) : laidMet Try.prog Rows.vecPacksRow.laid ((layIn (World.holding Try.prog os ⟨#[], #[], []⟩)).forCall (fun _ _ => 0) ⟨#[], #[.slice none 0 0, .int .i64 0], []⟩).memory :=
  laidMet_of_run' 8 (by kernel_rfl) (by kernel_rfl)
set_option maxRecDepth 100000 in
theorem reads (os : Os) {H : Type} (enc : TypeId × Value → H) : ∃ places, DataW.whole enc Try.prog ((layIn (World.holding Try.prog os ⟨#[], #[], []⟩)).forCall (fun _ _ => 0) ⟨#[], #[.slice none 0 0, .int .i64 0], []⟩).memory Try.f4.params.toList Rows.vecPacksSpec.vars false (#[.slice none 0 0, .int .i64 0] : Array Value).toList 8 = some ([.nil, .lit (.int .i64 0)], [], places) :=
  ⟨[], by kernel_rfl⟩

set_option maxRecDepth 100000 in
theorem lifted (os : Os) (started : os.Started) (H : Type) (enc : TypeId × Value → H) (F : Stop.Interp) :
    ReturnsInHanded {} Try.checked os 4 .any ((OpenSpec.ofChange Rows.vecPacksSpec).preRow enc Try.prog Try.f4 Rows.vecPacksRow.domain false Rows.vecPacksRow.laid) (((OpenSpec.ofChange Rows.vecPacksSpec).at F).post enc Try.prog Try.f4 false true false false) := by
  obtain ⟨places, hx⟩ := reads os enc
  refine returnsInHanded_of_row (C := Try.checked) (s := OpenSpec.ofChange Rows.vecPacksSpec) Try.own started (by kernel_rfl) Try.func4
    (witness_row_at (enc := enc) (C := Try.checked) false (layIn (World.holding Try.prog os ⟨#[], #[], []⟩)) #[.slice none 0 0, .int .i64 0] rfl (by kernel_rfl) (by kernel_rfl) (by kernel_rfl)
      (OpenSpec.preRow_of_cond 8 hx (by kernel_rfl) (fun k hk => by cases hk) (by kernel_rfl) (laid_met os))) ?_
  intro W base args ds gs before hval hW _ hc hsz hL _ _
  exact contract H enc W base args ds gs before hval hW hsz hL

theorem said : Rows.VecPacksSaid :=
  OpenClaim.holds_of_cond 4 Try.f4 rfl rfl rfl rfl rfl rfl rfl ⟨rfl, rfl, rfl, rfl, rfl⟩ rfl rfl rfl rfl rfl (by kernel_rfl) Try.func4 (by kernel_rfl)
    (of_decide_eq_true (by kernel_rfl)) (by unfold Func.isWrapper; first | (rw [if_pos (by decide +kernel)]; kernel_rfl) | (rw [if_neg (by decide +kernel)]; exact ⟨rfl, rfl⟩))
    (fun os started H enc _ F => by rw [OpenClaim.pre_eq_preRow]; exact lifted os started H enc F)


end Go.Proofs.Ytlepdogfgpeogaa.Packs8
namespace Go.Proofs.Ytlepdogfgpeogaa
theorem vecPacks_holds : Rows.VecPacksSaid := Packs8.said
end Go.Proofs.Ytlepdogfgpeogaa
