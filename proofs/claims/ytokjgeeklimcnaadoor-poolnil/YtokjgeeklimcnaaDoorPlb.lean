/-
  What the calls do that change a pool.
-/
import Derived.Test.YtokjgeeklimcnaaDoorPla
import Derived.Test.YtokjgeeklimcnaaDoorShU
import Derived.Lib.Hide
namespace Go.Proofs.YtokjgeeklimcnaaDoor
open Go.RowKit

theorem Tryd.infoU : (Tryd.prog.info? 96).map (fun i => (i.zero, i.size, i.bytes)) = some (some (.int .u64 0), 1, 8) := by kernel_rfl
theorem Tryd.infoI : (Tryd.prog.info? 3).map (fun i => (i.zero, i.size, i.bytes)) = some (some (.int .i64 0), 1, 8) := by kernel_rfl

theorem ne_type {X : World} {a b : Nat} {c d : Array Value} {t t' : TypeId} {f f' : Nat × Nat} (h1 : X.heap[a]? = some (.cells c t f)) (h2 : X.heap[b]? = some (.cells d t' f')) (ht : t ≠ t') : a ≠ b := fun e => by
  subst e
  rw [h1] at h2
  simp at h2
  exact ht h2.2.1
theorem row_ne {X : World} {B n sz b : Nat} {t t' : TypeId} {v : Value} {xs : List Value} {d : Array Value} {f : Nat × Nat} (h : X.ownsRow B t sz v n xs) (h2 : X.heap[b]? = some (.cells d t' f)) (ht : t ≠ t') : v.ownBlock ≠ some b := fun e => by
  rcases h.2 with ⟨rfl, _⟩ | ⟨g, c, cur, rfl, _, hg, _⟩
  · simp [Value.ownBlock] at e
  · simp only [Value.ownBlock, Option.some.injEq] at e
    exact ne_type hg h2 ht e
theorem row_row {X : World} {B B' n n' sz sz' : Nat} {t t' : TypeId} {v v' : Value} {xs xs' : List Value} (h : X.ownsRow B t sz v n xs) (h2 : X.ownsRow B' t' sz' v' n' xs') (ht : t ≠ t') {g : Nat} (hg : v.ownBlock = some g) : v'.ownBlock ≠ some g := fun e => by
  rcases h.2 with ⟨rfl, _⟩ | ⟨g', c, cur, rfl, _, hh, _⟩
  · simp [Value.ownBlock] at hg
  · simp only [Value.ownBlock, Option.some.injEq] at hg
    subst hg
    exact row_ne h2 hh (fun e => ht e.symm) e

theorem kept_set (w : World) (b i : Nat) (u : Value) : Kept (only b) w (w.setCell ⟨b, i, none⟩ u) := (Kept.refl (only b) w).setCell (p := ⟨b, i, none⟩) (fun _ => rfl) u

section
variable {w : World} {b N : Nat} {vt vw : Value} {xs : List Int} {ws : List Nat} {c f : Nat}

theorem PlM.ne_t (h : PlM w b N vt vw xs ws c f) : vt.ownBlock ≠ some b := row_ne h.th h.blk (by decide)
theorem PlM.ne_w (h : PlM w b N vt vw xs ws c f) : vw.ownBlock ≠ some b := row_ne h.wd h.blk (by decide)

theorem PlM.setF (h : PlM w b N vt vw xs ws c f) (f' : Nat) : PlM (w.setCell ⟨b, 4, none⟩ (.int .i64 (f' : Int))) b N vt vw xs ws c f' :=
  ⟨by rw [Lib.heap_setCell_same h.blk]; rfl, owns_kept h.th (kept_set w b 4 _) (fun g hg (e : g = b) => h.ne_t (by rw [hg, e])), owns_kept h.wd (kept_set w b 4 _) (fun g hg (e : g = b) => h.ne_w (by rw [hg, e]))⟩
theorem PlM.setC (h : PlM w b N vt vw xs ws c f) (c' : Nat) : PlM (w.setCell ⟨b, 3, none⟩ (.int .i64 (c' : Int))) b N vt vw xs ws c' f :=
  ⟨by rw [Lib.heap_setCell_same h.blk]; rfl, owns_kept h.th (kept_set w b 3 _) (fun g hg (e : g = b) => h.ne_t (by rw [hg, e])), owns_kept h.wd (kept_set w b 3 _) (fun g hg (e : g = b) => h.ne_w (by rw [hg, e]))⟩
theorem PlM.setWord {g cap : Nat} (h : PlM w b N vt (.slice (some ⟨g, 0, none⟩) ws.length cap) xs ws c f) (j x : Nat) : PlM (w.setCell ⟨g, j, none⟩ (.int .u64 (x : Int))) b N vt (.slice (some ⟨g, 0, none⟩) ws.length cap) xs (ws.set j x) c f := by
  have h1 := (h.wd.stored j (.int .u64 (x : Int))).1
  have hgb : g ≠ b := fun e => h.ne_w (by rw [e]; rfl)
  refine ⟨(kept_set w g j _).at h.blk (fun e => hgb e.symm), owns_kept h.th (kept_set w g j _) (fun g' hg (e : g' = g) => ?_), ?_⟩
  · exact row_row h.th h.wd (by decide) hg (by rw [e]; rfl)
  · rw [List.length_set]
    have e : uV (ws.set j x) = (uV ws).set j (.int .u64 (x : Int)) := by simp [uV, List.map_set]
    rw [e]
    exact h1
theorem PlM.setThing {g cap : Nat} (h : PlM w b N (.slice (some ⟨g, 0, none⟩) xs.length cap) vw xs ws c f) (j : Nat) (x : Int) : PlM (w.setCell ⟨g, j, none⟩ (.int .i64 x)) b N (.slice (some ⟨g, 0, none⟩) xs.length cap) vw (xs.set j x) ws c f := by
  have h1 := (h.th.stored j (.int .i64 x)).1
  have hgb : g ≠ b := fun e => h.ne_t (by rw [e]; rfl)
  refine ⟨(kept_set w g j _).at h.blk (fun e => hgb e.symm), ?_, owns_kept h.wd (kept_set w g j _) (fun g' hg (e : g' = g) => ?_)⟩
  · rw [List.length_set]
    have e : iV (xs.set j x) = (iV xs).set j (.int .i64 x) := by simp [iV, List.map_set]
    rw [e]
    exact h1
  · exact row_row h.wd h.th (by decide) hg (by rw [e]; rfl)

/-- The blocks of the marks. -/
abbrev mfoot (b : Nat) (vw : Value) : Nat → Prop := fun k => k = b ∨ vw.ownBlock = some k

/-- A row lies where it lay, or in a new block. -/
def RowMoved (w : World) (v v' : Value) : Prop := v'.ownBlock = v.ownBlock ∨ ∃ g, v'.ownBlock = some g ∧ w.heap.size ≤ g
theorem RowMoved.trans {w w' : World} {v v' v'' : Value} (h : RowMoved w v v') (k : RowMoved w' v' v'') (hs : w.heap.size ≤ w'.heap.size) : RowMoved w v v'' := by
  rcases k with k | ⟨g, k, hg⟩
  · rcases h with h | ⟨g, h, hg⟩
    · exact .inl (k.trans h)
    · exact .inr ⟨g, k.trans h, hg⟩
  · exact .inr ⟨g, k, by omega⟩
theorem RowMoved.old {w : World} {v v' : Value} (h : RowMoved w v v') {k : Nat} (hk : k < w.heap.size) (e : v'.ownBlock = some k) : v.ownBlock = some k := by
  rcases h with h | ⟨g, h, hg⟩
  · rw [← h]; exact e
  · rw [h] at e; simp at e; omega

/-- The marks' row grew. -/
theorem PlM.growW {w0 w1 : World} {g n cap : Nat} {us : List Nat} (h : PlM w b N vt vw xs ws c f) (h0 : Fresh w w0) (hg : w0.grownBy w1 vw.ownBlock)
    (hown : w1.ownsRow 0 96 1 (.slice (some ⟨g, 0, none⟩) n cap) n (uV us)) (hn : n = us.length) (hat : vw.ownBlock = some g ∨ w.heap.size ≤ g) :
    PlM (w1.setCell ⟨b, 2, none⟩ (.slice (some ⟨g, 0, none⟩) n cap)) b N vt (.slice (some ⟨g, 0, none⟩) n cap) xs us c f ∧
      Kept (mfoot b vw) w (w1.setCell ⟨b, 2, none⟩ (.slice (some ⟨g, 0, none⟩) n cap)) ∧ RowMoved w vw (.slice (some ⟨g, 0, none⟩) n cap) := by
  subst hn
  have hb := lt_of_heap h.blk
  have hgb : g ≠ b := by
    rcases hat with e | e
    · intro e'; subst e'; exact h.ne_w e
    · omega
  have k1 : Kept (mfoot b vw) w w1 := (h0.mono (S' := mfoot b vw) (fun _ _ e => e.elim)).grown hg (fun k _ e => .inr e)
  have k2 : Kept (fun k => vw.ownBlock = some k) w w1 := (h0.mono (S' := fun k => vw.ownBlock = some k) (fun _ _ e => e.elim)).grown hg (fun k _ e => e)
  refine ⟨⟨?_, ?_, ?_⟩, k1.setCell (fun _ => .inl rfl) _, ?_⟩
  · rw [Lib.heap_setCell_same (k2.at h.blk h.ne_w)]; rfl
  · exact owns_kept (owns_kept h.th k2 (fun g' hg' e => row_row h.th h.wd (by decide) hg' e)) (kept_set w1 b 2 _) (fun g' hg' (e : g' = b) => h.ne_t (by rw [hg', e]))
  · exact owns_kept hown (kept_set w1 b 2 _) (fun g' hg' (e : g' = b) => by simp only [Value.ownBlock, Option.some.injEq] at hg'; omega)
  · rcases hat with e | e
    · exact .inl e.symm
    · exact .inr ⟨g, rfl, e⟩
/-- The things' row grew. -/
theorem PlM.growT {w0 w1 : World} {g n cap : Nat} {ys : List Int} (h : PlM w b N vt vw xs ws c f) (h0 : Fresh w w0) (hg : w0.grownBy w1 vt.ownBlock)
    (hown : w1.ownsRow 0 3 1 (.slice (some ⟨g, 0, none⟩) n cap) n (iV ys)) (hn : n = ys.length) (hat : vt.ownBlock = some g ∨ w.heap.size ≤ g) :
    PlM (w1.setCell ⟨b, 1, none⟩ (.slice (some ⟨g, 0, none⟩) n cap)) b N (.slice (some ⟨g, 0, none⟩) n cap) vw ys ws c f ∧
      Kept (fun k => k = b ∨ vt.ownBlock = some k) w (w1.setCell ⟨b, 1, none⟩ (.slice (some ⟨g, 0, none⟩) n cap)) ∧ RowMoved w vt (.slice (some ⟨g, 0, none⟩) n cap) := by
  subst hn
  have hb := lt_of_heap h.blk
  have hgb : g ≠ b := by
    rcases hat with e | e
    · intro e'; subst e'; exact h.ne_t e
    · omega
  have k1 : Kept (fun k => k = b ∨ vt.ownBlock = some k) w w1 := (h0.mono (S' := fun k => k = b ∨ vt.ownBlock = some k) (fun _ _ e => e.elim)).grown hg (fun k _ e => .inr e)
  have k2 : Kept (fun k => vt.ownBlock = some k) w w1 := (h0.mono (S' := fun k => vt.ownBlock = some k) (fun _ _ e => e.elim)).grown hg (fun k _ e => e)
  refine ⟨⟨?_, ?_, ?_⟩, k1.setCell (fun _ => .inl rfl) _, ?_⟩
  · rw [Lib.heap_setCell_same (k2.at h.blk h.ne_t)]; rfl
  · exact owns_kept hown (kept_set w1 b 1 _) (fun g' hg' (e : g' = b) => by simp only [Value.ownBlock, Option.some.injEq] at hg'; omega)
  · exact owns_kept (owns_kept h.wd k2 (fun g' hg' e => row_row h.wd h.th (by decide) hg' e)) (kept_set w1 b 1 _) (fun g' hg' (e : g' = b) => h.ne_w (by rw [hg', e]))
  · rcases hat with e | e
    · exact .inl e.symm
    · exact .inr ⟨g, rfl, e⟩
end

/-- How many words lie in the row of a pool's marks. -/
def lenAt (w : World) (b : Nat) : Nat := match w.cell? ⟨b, 2, none⟩ with
  | some (.slice _ n _) => n
  | _ => 0
theorem PlM.lenAt {w : World} {b N : Nat} {vt vw : Value} {xs : List Int} {ws : List Nat} {c f : Nat} (h : PlM w b N vt vw xs ws c f) : lenAt w b = ws.length := by
  obtain ⟨ao, cap, rfl⟩ := slice_shape h.wd
  simp [YtokjgeeklimcnaaDoor.lenAt, h.cells.2.2.1]
/-- The first word, as the pool keeps it. -/
def fstAt (w : World) (b : Nat) : Nat := match w.cell? ⟨b, 4, none⟩ with
  | some (.int _ n) => n.toNat
  | _ => 0
theorem PlM.fstAt {w : World} {b N : Nat} {vt vw : Value} {xs : List Int} {ws : List Nat} {c f : Nat} (h : PlM w b N vt vw xs ws c f) : fstAt w b = f := by
  simp [YtokjgeeklimcnaaDoor.fstAt, h.cells.2.2.2.2]

theorem or_shift (x k : Nat) (hx : x < 18446744073709551616) (hk : k < 64) : bits .or .u64 (x : Int) (IntKind.u64.wrap (2 ^ k)) = ((x ||| 2 ^ k : Nat) : Int) := by
  have hp : 2 ^ k < 18446744073709551616 := Nat.pow_lt_pow_right (a := 2) (n := 64) (by omega) hk
  have e : IntKind.u64.wrap (2 ^ k) = ((2 ^ k : Nat) : Int) := by
    rw [IntKind.wrap_u64]
    have e2 : ((2 : Int) ^ k) = ((2 ^ k : Nat) : Int) := by simp
    rw [e2]
    generalize 2 ^ k = y at *
    omega
  rw [e, bits_or_u64_nat _ _ hx hp]

set_option maxHeartbeats 1000000 in
set_option maxRecDepth 100000 in
theorem put_any (b N : Nat) (vt vw : Value) (xs : List Int) (ws : List Nat) (c f p : Nat) (w : World) (h : PlM w b N vt vw xs ws c f) (hlt : ∀ x ∈ ws, x < 18446744073709551616) (hp : p < 65536) (hl : ws.length ≤ 1024) (hc : c ≤ 65536) :
    Calls Tryd.prog 36 #[.pointer (some ⟨b, 2, none⟩), .int .i64 (p : Int)] w fun e w' => e = .returned (.tuple #[]) ∧ ∃ vw' k, p / 64 < ws.length + k ∧ ws.length + k ≤ 1024 ∧
      PlM w' b N vt vw' xs ((ws ++ List.replicate k 0).set (p / 64) ((ws ++ List.replicate k 0).getD (p / 64) 0 ||| 2 ^ (p % 64))) (c + 1) (min f (p / 64)) ∧ Kept (mfoot b vw) w w' ∧ RowMoved w vw vw' := by
  obtain ⟨i0, hi, hz0, hz1, hz2⟩ := info_parts Tryd.infoU
  go_enter Tryd.func36, Tryd.ntmps36
  go_wp2
  go_loopw [7] (fun _ wr => ∃ vw' k, (k = 0 ∨ ws.length + k ≤ p / 64 + 1) ∧ PlM wr b N vt vw' xs (ws ++ List.replicate k 0) c f ∧ Kept (mfoot b vw) w wr ∧ RowMoved w vw vw') (fun _ wr => p / 64 + 1 - lenAt wr b)
  case atStart => exact ⟨vw, 0, .inl rfl, by simpa using h, Kept.refl _ _, .inl rfl⟩
  case round =>
    obtain ⟨v1, k, hk, hM, hK, hR⟩ := hrel
    obtain ⟨c0, c1, c2, c3, c4⟩ := hM.cells
    have hf2 := hM.frozen 2
    have hlen : (ws ++ List.replicate k 0).length = ws.length + k := by simp
    have hll := hM.lenAt
    have hltk : ∀ x ∈ ws ++ List.replicate k 0, x < 18446744073709551616 := by
      intro x hx
      rcases List.mem_append.1 hx with e | e
      · exact hlt x e
      · rw [(List.mem_replicate.1 e).2]; omega
    by_cases hlt1 : ws.length + k ≤ p / 64
    · have hown := hM.wd
      have hbl := lt_of_heap hM.blk
      have hap := hM.ne_w
      have hap2 : v1.ownBlock ≠ some b := hap
      obtain ⟨ao, cap1, hv1⟩ := slice_shape hM.wd
      have e1 : ws ++ List.replicate (k + 1) 0 = (ws ++ List.replicate k 0) ++ [0] := by rw [List.replicate_succ', List.append_assoc]
      have HE : Hid (ws ++ List.replicate (k + 1) 0 = (ws ++ List.replicate k 0) ++ [0]) := e1
      have HL : Hid ((ws ++ List.replicate k 0).length = ws.length + k) := hlen
      have HM : Hid (PlM wr b N vt v1 xs (ws ++ List.replicate k 0) c f) := hM
      clear e1 hltk hM
      rw [hlen] at hown hll hv1
      generalize ws ++ List.replicate k 0 = us at *
      have hc2 : wr.cell? ⟨b, 2, none⟩ = some (.slice ao (ws.length + k) cap1) := by rw [← hv1]; exact c2
      have hfr : ∀ o, (wr.alloc o).frozen? ⟨b, 2, none⟩ = false := fun o => by rw [World.frozen?_of_block (Below.heap_alloc wr o b hbl)]; exact hf2
      subst hv1
      go_wp2_with (at_builtin; refine wpList_append_lies _ rfl _ _ _ rfl 0 96 i0 _ 1 8 Tryd.underlying78 hi hz0 hz1 hz2 rfl (by omega) _ _ _ rfl (hown.alloc _) ⟨wr.heap.size, 0, none⟩ 1 1 [.int .u64 0] rfl rfl (World.news_of_block (cs := #[.int .u64 0]) (t := 96) (fr := (0, 0)) (heap_alloc_new wr _)) (by simp [Value.oneCell']) (by omega) (by unfold maxLen; omega) (by omega) (by omega) (wr.heap.size + 1) (by simp) ?_; intro g cap w1 hown1 hgrow hat hlt2; have hc1 := (grown_cell (w := wr) (i := 2) hgrow rfl hbl hap).trans c2; have hf1 := (grown_frozen (w := wr) (i := 2) hgrow rfl hbl hap).trans hf2)
      have hM := HM.out
      obtain ⟨r1, r2, r3⟩ := hM.growW (us := us ++ [0]) (h0 := (Kept.refl _ wr).alloc _) hgrow (by rw [show uV (us ++ [0]) = uV us ++ [.int .u64 0] by simp [uV]]; exact hown1) (by rw [List.length_append, HL.out]; rfl) (by rcases hat with e | e; exact .inl e; exact .inr (by omega))
      go_roundw
      case rel =>
        refine ⟨_, k + 1, .inr (by omega), by rw [HE.out]; exact r1, hK.trans r2 (fun i hi e => ?_), hR.trans r3 hK.size⟩
        rcases e with e | e
        · exact .inl e
        · exact .inr (hR.old hi e)
      case measure =>
        have := r1.lenAt
        rw [List.length_append, HL.out] at this
        rw [this, hll]
        simp
        omega
    · obtain ⟨g, cap, rfl, hcw⟩ := hM.word (p / 64) (by omega)
      have hfg : wr.frozen? ⟨g, p / 64, none⟩ = false := hM.wd.frozenAt _
      have hx := getD_lt hltk (p / 64)
      have hor := or_shift _ (p % 64) hx (by omega)
      have hW := hM.setWord (p / 64) ((ws ++ List.replicate k 0).getD (p / 64) 0 ||| 2 ^ (p % 64))
      have hD : ∀ f' : Nat, PlM (((wr.setCell ⟨g, p / 64, none⟩ (.int .u64 (((ws ++ List.replicate k 0).getD (p / 64) 0 ||| 2 ^ (p % 64) : Nat) : Int))).setCell ⟨b, 4, none⟩ (.int .i64 (f' : Int))).setCell ⟨b, 3, none⟩ (.int .i64 ((c : Int) + 1))).drew b N vt (.slice (some ⟨g, 0, none⟩) (ws ++ List.replicate k 0).length cap) xs ((ws ++ List.replicate k 0).set (p / 64) ((ws ++ List.replicate k 0).getD (p / 64) 0 ||| 2 ^ (p % 64))) (c + 1) f' :=
        fun f' => have h' := (hW.setF f').setC (c + 1); ⟨h'.blk, h'.th, h'.wd⟩
      have hKD : ∀ (f' : Int) (u : Value), Kept (mfoot b vw) w (((wr.setCell ⟨g, p / 64, none⟩ u).setCell ⟨b, 4, none⟩ (.int .i64 f')).setCell ⟨b, 3, none⟩ (.int .i64 ((c : Int) + 1))).drew := by
        intro f' u
        refine (((hK.setCell (p := ⟨g, p / 64, none⟩) (fun h' => .inr ?_) _).setCell (p := ⟨b, 4, none⟩) (fun _ => .inl rfl) _).setCell (p := ⟨b, 3, none⟩) (fun _ => .inl rfl) _).drew
        exact hR.old h' rfl
      clear hW h hltk hlt
      have hgb : g ≠ b := fun e => hM.ne_w (by rw [e]; rfl)
      have hf3 := hM.frozen 3
      have hf4 := hM.frozen 4
      have hbl := lt_of_heap hM.blk
      have eb : ∀ u i, (wr.setCell ⟨g, p / 64, none⟩ u).cell? ⟨b, i, none⟩ = wr.cell? ⟨b, i, none⟩ := fun u i => (kept_set wr g (p / 64) u).cell (p := ⟨b, i, none⟩) hbl (fun e => hgb e.symm)
      have ef : ∀ u i, (wr.setCell ⟨g, p / 64, none⟩ u).frozen? ⟨b, i, none⟩ = wr.frozen? ⟨b, i, none⟩ := fun u i => (kept_set wr g (p / 64) u).frozen (p := ⟨b, i, none⟩) hbl (fun e => hgb e.symm)
      have HD := show Hid _ from hD
      have HK := show Hid _ from hKD
      have HR := show Hid _ from (fun (_ : Unit) => hR)
      clear hD hKD hM hK hll hR
      have HC : Hid ((ws ++ List.replicate k 0).getD (p / 64) 0 ||| 2 ^ (p % 64) = (ws ++ List.replicate k 0).getD (p / 64) 0 ||| 2 ^ (p % 64)) := rfl
      have hwk : p / 64 < ws.length + k ∧ ws.length + k ≤ 1024 := by omega
      have hls : (ws ++ List.replicate k 0).length = ws.length + k := hlen
      rw [hls] at *
      generalize hX : (ws ++ List.replicate k 0).getD (p / 64) 0 = x at *
      generalize hY : x ||| 2 ^ (p % 64) = y at *
      have HX : Hid ((ws ++ List.replicate k 0).getD (p / 64) 0 = x) := hX
      have HY : Hid (x ||| 2 ^ (p % 64) = y) := hY
      clear hX hY hlen hls HC
      go_wp2_with fail
      go_region
      all_goals go_wp2
      all_goals go_end0
      all_goals refine ⟨rfl, _, k, hwk.1, hwk.2, ?_, HK.out _ _, HR.out ()⟩
      all_goals rw [← List.getD_eq_getElem?_getD, HX.out, HY.out]
      · rw [show min f (p / 64) = p / 64 by omega]; exact HD.out (p / 64)
      · rw [show min f (p / 64) = f by omega]; exact HD.out f

set_option maxHeartbeats 400000 in
theorem set_any (F : Nat → Prop) (b : Nat) (l : List (Option Int)) (p v : Int) (w : World) (h : PoolAt w F b l) :
    Calls Tryd.prog 27 #[.pointer (some ⟨b, 0, none⟩), .int .i64 p, .int .i64 v] w fun e w' => e = .returned (.int .i64 (if (gt l p).isSome then 0 else 51)) ∧
      ∃ F', PoolAt w' F' b (if (gt l p).isSome then l.set p.toNat (some v) else l) ∧ Kept F w w' ∧ ∀ k, k < w.heap.size → F' k → F k := by
  have ht := fun (_ : Unit) => taken_any F b l p w h
  have HT := show Hid _ from ht
  clear ht
  have HP := show Hid _ from (fun (_ : Unit) => h)
  obtain ⟨vt, vw, xs, ws, c, f, h1, h2, h3, h4⟩ := h
  have hgt : gt l p = if 0 ≤ p ∧ p < (xs.length : Int) ∧ bt ws p.toNat = false then some (xs.getD p.toNat 0) else none := by rw [← h2, gt_pl h1.le p]
  rw [hgt] at HT ⊢
  clear hgt
  by_cases hg : 0 ≤ p ∧ p < (xs.length : Int) ∧ bt ws p.toNat = false
  · rw [if_pos hg] at HT ⊢
    obtain ⟨e1, e2, e3⟩ := hg
    obtain ⟨k, rfl⟩ := Int.eq_ofNat_of_zero_le e1
    have hk : k < xs.length := by omega
    simp only [Int.toNat_natCast, Option.isSome_some, if_true] at HT e3 ⊢
    obtain ⟨g, cap, rfl, hc⟩ := h1.thing k hk
    obtain ⟨c0, c1, c2, c3, c4⟩ := h1.cells
    have hfg : w.frozen? ⟨g, k, none⟩ = false := h1.th.frozenAt _
    have hM := h1.toPlM.setThing k v
    have hN : PoolAt (w.setCell ⟨g, k, none⟩ (.int .i64 v)) F b (l.set k (some v)) := by
      refine ⟨.slice (some ⟨g, 0, none⟩) xs.length cap, vw, xs.set k v, ws, c, f, ⟨?_, ?_, ?_, ?_, ?_, h1.wl⟩, ?_, h3.trans ?_, h4⟩
      · rw [show (l.set k (some v)).length = l.length from List.length_set]
        exact hM
      · rw [List.length_set]; exact h1.inv
      · rw [List.length_set, List.length_set]; exact h1.le
      · rw [List.length_set]; exact h1.lo
      · rw [List.length_set]; exact h1.hi
      · rw [List.length_set, pl_set v rfl h1.le hk e3, h2]
      · rfl
    have hK : Kept F w (w.setCell ⟨g, k, none⟩ (.int .i64 v)) := (kept_set w g k _).mono (fun i _ (e : i = g) => by rw [h3, e]; exact .inr (.inl rfl))
    have HN := show Hid _ from (fun (_ : Unit) => hN)
    have HK := show Hid _ from (fun (_ : Unit) => hK)
    clear hN hK hM h2 h1 h3 h4 HP
    go_enter Tryd.func27, Tryd.ntmps27
    go_wp2_with fail
    refine (HT.out ()).mono ?_
    rintro e w' ⟨rfl, rfl⟩
    go_wp2
    go_ret
    exact ⟨rfl, F, HN.out (), HK.out (), fun _ _ e => e⟩
  · rw [if_neg hg] at HT ⊢
    simp only [Option.isSome_none] at HT ⊢
    clear h1 h2 h3 h4 hg
    go_enter Tryd.func27, Tryd.ntmps27
    go_wp2_with fail
    refine (HT.out ()).mono ?_
    rintro e w' ⟨rfl, rfl⟩
    go_wp2
    go_ret
    exact ⟨rfl, F, HP.out (), Kept.refl _ _, fun _ _ e => e⟩

set_option maxHeartbeats 400000 in
theorem give_any (F : Nat → Prop) (b : Nat) (l : List (Option Int)) (p : Int) (w : World) (h : PoolAt w F b l) :
    Calls Tryd.prog 16 #[.pointer (some ⟨b, 0, none⟩), .int .i64 p] w fun e w' => e = .returned (.tuple #[.int .i64 ((gt l p).getD 0), .int .i64 (if (gt l p).isSome then 0 else 51)]) ∧
      ∃ F', PoolAt w' F' b (if (gt l p).isSome then l.set p.toNat none else l) ∧ Kept F w w' ∧ ∀ k, k < w.heap.size → F' k → F k := by
  have ht := fun (_ : Unit) => taken_any F b l p w h
  have HT := show Hid _ from ht
  clear ht
  have HP := show Hid _ from (fun (_ : Unit) => h)
  obtain ⟨vt, vw, xs, ws, c, f, h1, h2, h3, h4⟩ := h
  have hgt : gt l p = if 0 ≤ p ∧ p < (xs.length : Int) ∧ bt ws p.toNat = false then some (xs.getD p.toNat 0) else none := by rw [← h2, gt_pl h1.le p]
  rw [hgt] at HT ⊢
  clear hgt
  by_cases hg : 0 ≤ p ∧ p < (xs.length : Int) ∧ bt ws p.toNat = false
  · rw [if_pos hg] at HT ⊢
    obtain ⟨e1, e2, e3⟩ := hg
    obtain ⟨k, rfl⟩ := Int.eq_ofNat_of_zero_le e1
    have hk : k < xs.length := by omega
    simp only [Int.toNat_natCast, Option.isSome_some, if_true, Option.getD_some] at HT e3 ⊢
    obtain ⟨g, cap, rfl, hc⟩ := h1.thing k hk
    obtain ⟨c0, c1, c2, c3, c4⟩ := h1.cells
    have hfg : w.frozen? ⟨g, k, none⟩ = false := h1.th.frozenAt _
    have hM := h1.toPlM.setThing k 0
    have hle := h1.le
    have hhi := h1.hi
    have hcl := h1.inv.cle
    have hput := fun (_ : Unit) => put_any b _ _ vw _ ws c f k (w.setCell ⟨g, k, none⟩ (.int .i64 0)) hM h1.inv.lt (by omega) h1.wl (by omega)
    have HPut := show Hid _ from hput
    have hK : Kept F w (w.setCell ⟨g, k, none⟩ (.int .i64 0)) := (kept_set w g k _).mono (fun i _ (e : i = g) => by rw [h3, e]; exact .inr (.inl rfl))
    have hsz : (w.setCell ⟨g, k, none⟩ (.int .i64 0)).heap.size = w.heap.size := by simp [World.setCell]
    have HF : Hid (∀ (w' : World) (vw' : Value) (n : Nat), k / 64 < ws.length + n → ws.length + n ≤ 1024 →
        PlM w' b l.length (.slice (some ⟨g, 0, none⟩) xs.length cap) vw' (xs.set k 0) ((ws ++ List.replicate n 0).set (k / 64) ((ws ++ List.replicate n 0).getD (k / 64) 0 ||| 2 ^ (k % 64))) (c + 1) (min f (k / 64)) →
        Kept (mfoot b vw) (w.setCell ⟨g, k, none⟩ (.int .i64 0)) w' → RowMoved (w.setCell ⟨g, k, none⟩ (.int .i64 0)) vw vw' →
        ∃ F', PoolAt w' F' b (l.set k none) ∧ Kept F w w' ∧ ∀ k, k < w.heap.size → F' k → F k) := by
      intro w' vw' n q1 q2 q3 q4 q5
      obtain ⟨i1, i2⟩ := h1.inv.put k n hk e3 q1
      have hFF : ∀ j, j < w.heap.size → foot b (.slice (some ⟨g, 0, none⟩) xs.length cap) vw' j → F j := by
        intro j hj hf
        rw [h3]
        rcases hf with e | e | e
        · exact .inl e
        · exact .inr (.inl e)
        · exact .inr (.inr (q5.old (by omega) e))
      refine ⟨foot b (.slice (some ⟨g, 0, none⟩) xs.length cap) vw', ⟨.slice (some ⟨g, 0, none⟩) xs.length cap, vw', xs.set k 0, (ws ++ List.replicate n 0).set (k / 64) ((ws ++ List.replicate n 0).getD (k / 64) 0 ||| 2 ^ (k % 64)), c + 1, min f (k / 64), ⟨?_, ?_, ?_, ?_, ?_, ?_⟩, ?_, rfl, ?_⟩, hK.trans q4 ?_, hFF⟩
      · rw [show (l.set k none).length = l.length from List.length_set]; exact q3
      · rw [List.length_set]; exact i1
      · rw [List.length_set, List.length_set]; exact hle
      · rw [List.length_set]; exact h1.lo
      · rw [List.length_set]; exact h1.hi
      · rw [List.length_set]; simp; exact q2
      · rw [List.length_set, pl_give rfl hle hk i2, h2]
      · intro j hj
        by_cases hjw : j < w.heap.size
        · exact h4 j (hFF j hjw hj)
        · have := lt_of_heap h1.blk; omega
      · intro i _ e
        rw [h3]
        rcases e with e | e
        · exact .inl e
        · exact .inr (.inr e)
    clear hput hK hM h2 h1 h3 h4 HP
    generalize xs.getD k 0 = v at *
    go_enter Tryd.func16, Tryd.ntmps16
    go_wp2_with fail
    refine (HT.out ()).mono ?_
    rintro e w' ⟨rfl, rfl⟩
    go_wp2_with fail
    refine (HPut.out ()).mono ?_
    rintro e w2 ⟨rfl, vw', n, q1, q2, q3, q4, q5⟩
    have HQ := show Hid _ from HF.out w2 vw' n q1 q2 q3 q4 q5
    clear q1 q2 q3 q4 q5
    go_wp2
    go_ret2
    exact ⟨rfl, HQ.out⟩
  · rw [if_neg hg] at HT ⊢
    simp only [Option.isSome_none, Option.getD_none] at HT ⊢
    clear h1 h2 h3 h4 hg
    go_enter Tryd.func16, Tryd.ntmps16
    go_wp2_with fail
    refine (HT.out ()).mono ?_
    rintro e w' ⟨rfl, rfl⟩
    go_wp2
    go_ret2
    exact ⟨rfl, F, HP.out (), Kept.refl _ _, fun _ _ e => e⟩

end Go.Proofs.YtokjgeeklimcnaaDoor
