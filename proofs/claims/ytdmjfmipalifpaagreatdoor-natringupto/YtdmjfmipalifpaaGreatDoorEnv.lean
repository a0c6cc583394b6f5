/-
  Numbers in boxes; squares are powers.
-/
import Derived.Test.YtdmjfmipalifpaaGreatDoorGvc
import Derived.Test.YtdmjfmipalifpaaGreatDoorPwa
namespace Go.Proofs.YtdmjfmipalifpaaGreatDoor
open Go.RowKit

/-- A number of the program, in a box. -/
structure Bn (W : World) (b : Nat) (v : Value) (M : Nat) : Prop where
  hb : W.heap[b]? = some (.cells #[v] 26 (0, 0))
  nm : Nm W v M
theorem Bn.c {W : World} {b : Nat} {v : Value} {M : Nat} (h : Bn W b v M) : W.cell? ⟨b, 0, none⟩ = some v := by rw [Lib.cell_of_heap h.hb]; rfl
/-- Several numbers in boxes. -/
structure Env (W : World) (l : List (Nat × Value × Nat)) : Prop where
  all : ∀ t ∈ l, Bn W t.1 t.2.1 t.2.2
theorem Env.nil (W : World) : Env W [] := ⟨fun _ h => by cases h⟩
theorem Env.g {W : World} {l : List (Nat × Value × Nat)} (h : Env W l) {b : Nat} {v : Value} {M : Nat} (hm : (b, v, M) ∈ l) : Bn W b v M := h.all _ hm
theorem Env.next {W W' : World} {l : List (Nat × Value × Nat)} (h : Env W l) (hF : Fresh W W') : Env W' l :=
  ⟨fun t ht => ⟨hF.at (h.all t ht).hb (fun e => e), (h.all t ht).nm.fresh hF⟩⟩
theorem Env.made {W : World} {l : List (Nat × Value × Nat)} (h : Env W l) {v : Value} {M : Nat} (hn : Nm W v M) : Env (W.alloc (.cells #[v] 26)) ((W.heap.size, v, M) :: l) := by
  have a1 : Fresh W (W.alloc (.cells #[v] 26)) := (Kept.refl _ _).alloc _
  refine ⟨fun t ht => ?_⟩
  rcases List.mem_cons.1 ht with rfl | ht
  · exact ⟨heap_alloc_new W _, hn.fresh a1⟩
  · exact (h.next a1).all t ht

theorem sq_pw (X : Nat) : pwN X 2 = fitN (X * X) ∧ pwE X 2 = fitE (X * X) := by
  by_cases h1 : bl X ≤ 1
  · have h2 : X < 2 := by have := (bl_le_iff X 1).1 h1; omega
    have hp := pw_one (M := X) (n := 2) h1
    obtain rfl | rfl : X = 0 ∨ X = 1 := by omega
    · exact ⟨hp.1.trans (fit_in (N := 0 * 0) (by decide)).1.symm, hp.2.trans (fit_in (N := 0 * 0) (by decide)).2.symm⟩
    · exact ⟨hp.1.trans (fit_in (N := 1 * 1) (by decide)).1.symm, hp.2.trans (fit_in (N := 1 * 1) (by decide)).2.symm⟩
  · by_cases h2 : 65536 ≤ (bl X - 1) * 2
    · have hp := pw_big (M := X) (n := 2) h1 (.inr h2)
      have hX : X ≠ 0 := fun e => h1 (by rw [e]; decide)
      have hq := (bl_pos hX).1
      have hf : 65536 < bl (X * X) := by
        refine Nat.lt_of_not_le fun hle => ?_
        have h3 := (bl_le_iff (X * X) ((bl X - 1) * 2)).1 (Nat.le_trans hle h2)
        rw [Nat.pow_mul, Nat.pow_two] at h3
        have := Nat.mul_le_mul hq hq
        omega
      exact ⟨hp.1.trans (fit_out hf).1.symm, hp.2.trans (fit_out hf).2.symm⟩
    · have hp := pw_fit (M := X) (n := 2) h1 (fun h => h.elim (fun e => absurd e (by decide)) h2)
      rw [Nat.pow_two] at hp
      exact hp
theorem fit_cases (N : Nat) : (fitE N = 0 ∧ fitN N = N ∧ bl N ≤ 65536) ∨ (fitE N = 41 ∧ fitN N = 0) := by
  rcases Nat.lt_or_ge 65536 (bl N) with h | h
  · exact .inr ⟨(fit_out h).2, (fit_out h).1⟩
  · exact .inl ⟨(fit_in h).2, (fit_in h).1, h⟩
end Go.Proofs.YtdmjfmipalifpaaGreatDoor
