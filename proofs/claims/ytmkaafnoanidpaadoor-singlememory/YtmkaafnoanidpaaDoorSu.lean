/-
  Sums and products of the program: float32's own, between the bits and back.
-/
import Derived.Test.YtmkaafnoanidpaaDoorFm
import Derived.Test.YtmkaafnoanidpaaDoorNr
import Derived.Test.YtmkaafnoanidpaaDoorSa
import Derived.Laws.Externs
import Derived.Laws.FloatArith
namespace Go.Proofs.YtmkaafnoanidpaaDoor
open Go.RowKit Ieee

theorem run_from32 (b : Nat) (w : World) : (callFunc 45 #[.int .u32 b]).run Tryd.prog w = .ok (.value (.float .f32 b)) w := by
  rw [run_callFunc_extern (e := Extern.MathFloatBits.float32frombits) Tryd.func45 (by kernel_rfl) (by kernel_rfl) (by kernel_rfl) (by kernel_rfl)]
  rfl
theorem run_to32 (b : Nat) (w : World) : (callFunc 52 #[.float .f32 b]).run Tryd.prog w = .ok (.value (.int .u32 b)) w := by
  rw [run_callFunc_extern (e := Extern.MathFloatBits.float32bits) Tryd.func52 (by kernel_rfl) (by kernel_rfl) (by kernel_rfl) (by kernel_rfl)]
  rfl

set_option maxHeartbeats 400000 in
theorem number_any (b : Nat) (w : World) :
    Calls Tryd.prog 26 #[.int .u32 b] w fun e w' => e = .returned (.float .f32 b) ∧ w' = w := by
  have h1 := run_from32 b w
  go_enter Tryd.func26, Tryd.ntmps26
  go_wp2
  go_ret
  exact ⟨rfl, rfl⟩

/-- The bits of a number, or of an infinite one. -/
def NotNan (r : Nat) : Prop := r < 4294967296 ∧ ¬ (bE r = 255 ∧ bF r ≠ 0)
theorem notNan_word (neg : Bool) {k : Nat} (h : k ≤ 2139095040) : NotNan (single.word neg k) := by
  rw [single_word]
  refine ⟨by split <;> omega, ?_⟩
  have e : ((if neg = true then 2147483648 else 0) + k) % 2147483648 = k := by
    split <;> omega
  have h1 := low_eq ((if neg = true then 2147483648 else 0) + k)
  rw [e] at h1
  rintro ⟨h2, h3⟩
  rw [h2] at h1
  omega
theorem notNan_write {d : Datum} (h : d.isNaN = false) : NotNan (single.write d) := by
  cases d with
  | number s m e =>
    show NotNan (single.nearest s m e)
    rw [nearest_rung]
    have := rung_le single m e
    rw [single_inf] at this
    exact notNan_word s this
  | infinity s =>
    show NotNan (single.word s single.infRung)
    rw [single_inf]
    exact notNan_word s (Nat.le_refl _)
  | nan s t => simp [Datum.isNaN] at h
theorem sum_notNan (x y : Datum) {d : Datum} (h : x.sum y = some d) : d.isNaN = false := by
  cases x <;> cases y <;> simp only [Datum.sum] at h
  all_goals first | (cases h; rfl) | (split at h <;> first | (cases h; rfl) | cases h) | cases h
theorem product_notNan (x y : Datum) {d : Datum} (h : x.product y = some d) : d.isNaN = false := by
  cases x <;> cases y <;> simp only [Datum.product] at h
  all_goals first | (cases h; rfl) | (split at h <;> first | (cases h; rfl) | cases h) | cases h
theorem notNan_map {o : Option Datum} (ho : ∀ d, o = some d → d.isNaN = false) {r : Nat} (h : o.map single.write = some r) : NotNan r := by
  cases o with
  | none => cases h
  | some d => cases h; exact notNan_write (ho d rfl)

theorem NotNan.order {r : Nat} (h : NotNan r) : single.order r r = some .eq := by
  rw [order_vl r r h.1 h.1 h.2 h.2, compare_int, if_neg (by omega), if_pos rfl]
theorem nan_order {r : Nat} (hr : r < 4294967296) (h : bE r = 255 ∧ bF r ≠ 0) (s : Nat) : single.order r s = none := by
  unfold Format.order
  rw [read_nan r hr h.1 h.2]
  cases single.read s <;> rfl
theorem nan_order' {r : Nat} (hr : r < 4294967296) (h : bE r = 255 ∧ bF r ≠ 0) (s : Nat) : single.order s r = none := by
  unfold Format.order
  rw [read_nan r hr h.1 h.2]
  cases single.read s <;> rfl

/-- The variable of the format of singles holds its two numbers. -/
def Sing (w : World) : Prop := w.cell? ⟨0, 0, none⟩ = some (.int .i64 8) ∧ w.cell? ⟨0, 1, none⟩ = some (.int .i64 23)
theorem Sing.kept {S : Nat → Prop} {w w' : World} (h : Sing w) (hk : Kept S w w') (hn : ¬ S 0) : Sing w' := by
  have h0 := World.block_lt_of_cell? w _ h.1
  have e : ∀ i, w'.cell? ⟨0, i, none⟩ = w.cell? ⟨0, i, none⟩ := fun i => hk.cell (p := ⟨0, i, none⟩) h0 hn
  exact ⟨(e 0).trans h.1, (e 1).trans h.2⟩
theorem Sing.fresh {w w' : World} (h : Sing w) (hk : Fresh w w') : Sing w' := h.kept hk (fun e => e)
theorem Sing.drew {w : World} (h : Sing w) : Sing w.drew := h

set_option maxHeartbeats 400000 in
theorem told_num (r : Nat) (w : World) (h : NotNan r) :
    Calls Tryd.prog 39 #[.float .f32 r] w fun e w' => e = .returned (.int .u32 r) ∧ Fresh w w' := by
  have h1 := run_to32 r w
  have h2 : FloatKind.f32.format.order r r = some .eq := h.order
  go_enter Tryd.func39, Tryd.ntmps39
  go_wp2
  go_ret
  exact ⟨rfl, Kept.refl _ _⟩
set_option maxHeartbeats 400000 in
theorem told_nan (r : Nat) (w : World) (hS : Sing w) (hr : r < 4294967296) (h : bE r = 255 ∧ bF r ≠ 0) :
    Calls Tryd.prog 39 #[.float .f32 r] w fun e w' => e = .returned (.int .u32 2143289344) ∧ Fresh w w' := by
  have h2 : FloatKind.f32.format.order r r = none := nan_order hr h r
  obtain ⟨s0, s1⟩ := hS
  go_enter Tryd.func39, Tryd.ntmps39
  go_wp2_with fail
  refine (none_single _).mono ?_
  rintro e w1 ⟨rfl, h1⟩
  go_wp2
  go_ret
  exact ⟨rfl, h1⟩

/-- What a reckoned none has for bits: some none's. -/
theorem cut_nan (x y t : Nat) : ∃ n, Question.cut (.nanBits .f32 x y) t = n ∧ n < 4294967296 ∧ bE n = 255 ∧ bF n ≠ 0 := by
  refine ⟨_, rfl, ?_⟩
  show (t % 2) * 2 ^ 31 + 0x7f800000 + 1 + (t / 2) % (2 ^ 23 - 1) < 4294967296 ∧ _
  have h1 : (t / 2) % (2 ^ 23 - 1) < 2 ^ 23 - 1 := Nat.mod_lt _ (by decide)
  have h2 : t % 2 < 2 := Nat.mod_lt _ (by decide)
  unfold bE bF
  show _ ∧ ((t % 2) * 2 ^ 31 + 0x7f800000 + 1 + (t / 2) % (2 ^ 23 - 1)) / 8388608 % 256 = 255 ∧ ((t % 2) * 2 ^ 31 + 0x7f800000 + 1 + (t / 2) % (2 ^ 23 - 1)) % 8388608 ≠ 0
  generalize (t / 2) % (2 ^ 23 - 1) = a at *
  generalize t % 2 = c at *
  omega

/-- What is told of a sum or a product that may be none. -/
def toldOf (o : Option Nat) : Nat := o.getD 2143289344

theorem run_nan (op : BinOp) (hop : op = .add ∨ op = .mul ∨ op = .quo) (t : TypeId) (x y : Nat) (h : floatBits op .f32 x y = none) (w : World) :
    ∃ n, n < 4294967296 ∧ (bE n = 255 ∧ bF n ≠ 0) ∧ (binOp op t (.float .f32 x) (.float .f32 y)).run Tryd.prog w = .ok (.float .f32 n) w.drew := by
  obtain ⟨n, hn, h1, h2, h3⟩ := cut_nan x y (w.tape w.drawn (.nanBits .f32 x y))
  refine ⟨n, h1, ⟨h2, h3⟩, ?_⟩
  have hf : Question.forced (.nanBits .f32 x y) = false := rfl
  unfold floatBits at h
  rcases hop with rfl | rfl | rfl <;> simp only at h <;> simp [binOp, Op.floatArith, h, hf, hn]

set_option maxHeartbeats 800000 in
theorem add_any (a b : Nat) (w : World) (hS : Sing w) :
    Calls Tryd.prog 29 #[.int .u32 a, .int .u32 b] w fun e w' => e = .returned (.int .u32 (toldOf (single.add a b) : Nat)) ∧ Fresh w w' := by
  cases ho : single.add a b with
  | some r =>
    have h1 := run_float_arith (P := Tryd.prog) w .add 50 .f32 a b r ho
    have h2 := notNan_map (fun d h => sum_notNan _ _ h) ho
    go_enter Tryd.func29, Tryd.ntmps29
    go_wp2_with (first | (go_at_call 26; refine (number_any _ _).mono ?_; rintro e w' ⟨rfl, rfl⟩) | (go_at_call 39; refine (told_num r _ h2).mono ?_; rintro e w1 ⟨rfl, hw1⟩))
    go_ret
    exact ⟨rfl, hw1⟩
  | none =>
    obtain ⟨n, hn, hn2, h1⟩ := run_nan .add (.inl rfl) 50 a b ho w
    go_enter Tryd.func29, Tryd.ntmps29
    go_wp2_with (first | (go_at_call 26; refine (number_any _ _).mono ?_; rintro e w' ⟨rfl, rfl⟩) | (go_at_call 39; refine (told_nan n _ hS.drew hn hn2).mono ?_; rintro e w1 ⟨rfl, hw1⟩))
    go_ret
    exact ⟨rfl, hw1.undrew⟩

end Go.Proofs.YtmkaafnoanidpaaDoor
