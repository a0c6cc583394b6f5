/-
  Products: the program's and the document's.
-/
import Derived.Test.YtagbjlkpmjbfnaaDoorKn
namespace Go.Proofs.YtagbjlkpmjbfnaaDoor
open Go.RowKit Ieee

set_option maxHeartbeats 800000 in
theorem mul_any (a b : Nat) (w : World) (hS : Sing w) :
    Calls Tryd.prog 18 #[.int .u32 a, .int .u32 b] w fun e w' => e = .returned (.int .u32 (toldOf (single.mul a b) : Nat)) ∧ Fresh w w' := by
  cases ho : single.mul a b with
  | some r =>
    have h1 := run_float_arith (P := Tryd.prog) w .mul 43 .f32 a b r ho
    have h2 := notNan_map (fun d h => product_notNan _ _ h) ho
    go_enter Tryd.func18, Tryd.ntmps18
    go_wp2_with (first | (go_at_call 26; refine (number_any _ _).mono ?_; rintro e w' ⟨rfl, rfl⟩) | (go_at_call 28; refine (told_num r _ h2).mono ?_; rintro e w1 ⟨rfl, hw1⟩))
    go_ret
    exact ⟨rfl, hw1⟩
  | none =>
    obtain ⟨n, hn, hn2, h1⟩ := run_nan .mul (.inr (.inl rfl)) 43 a b ho w
    go_enter Tryd.func18, Tryd.ntmps18
    go_wp2_with (first | (go_at_call 26; refine (number_any _ _).mono ?_; rintro e w' ⟨rfl, rfl⟩) | (go_at_call 28; refine (told_nan n _ hS.drew hn hn2).mono ?_; rintro e w1 ⟨rfl, hw1⟩))
    go_ret
    exact ⟨rfl, hw1.undrew⟩

theorem product_comm (x y : Datum) : x.product y = y.product x := by
  cases x <;> cases y <;> simp only [Datum.product]
  all_goals first | rfl | (rw [Bool.xor_comm]) | skip
  all_goals first | (rw [Bool.xor_comm, Nat.mul_comm, Int.add_comm]) | skip
theorem mul_comm' (a b : Nat) : single.mul a b = single.mul b a := by unfold Format.mul; rw [product_comm]


set_option maxHeartbeats 2000000 in
set_option maxRecDepth 100000 in
theorem refMul_any (a b : Nat) (w : World) (ha : a < 4294967296) (hb : b < 4294967296) :
    Calls Tryd.prog 19 #[.int .u32 a, .int .u32 b] w fun e w' => e = .returned (.int .u32 (toldOf (single.mul a b) : Nat)) ∧ w' = w := by
  rcases kinds a with ka | ka | ka
  · rcases kinds b with kb | kb | kb
    · have HA := show Hid _ from raw_none a ha ka
      have HB := show Hid _ from raw_none b hb kb
      have hv : toldOf (single.mul a b) = 2143289344 := by
        unfold Format.mul
        rw [read_nan a ha ka.1 ka.2]
        cases single.read b <;> rfl
      rw [hv]
      clear hv ka kb
      go_enter Tryd.func19, Tryd.ntmps19
      go_wp2_with fail
      refine (HA.out _).mono ?_
      rintro r X ⟨rfl, rfl⟩
      go_wp2_with fail
      refine (HB.out _).mono ?_
      rintro r X ⟨rfl, rfl⟩
      go_wp2
      go_ret
      exact ⟨rfl, rfl⟩
    · have HA := show Hid _ from raw_none a ha ka
      have HB := show Hid _ from raw_inf b hb kb
      have hv : toldOf (single.mul a b) = 2143289344 := by
        unfold Format.mul
        rw [read_nan a ha ka.1 ka.2]
        cases single.read b <;> rfl
      rw [hv]
      clear hv ka kb
      generalize bN b = N at *
      go_enter Tryd.func19, Tryd.ntmps19
      go_wp2_with fail
      refine (HA.out _).mono ?_
      rintro r X ⟨rfl, rfl⟩
      go_wp2_with fail
      refine (HB.out _).mono ?_
      rintro r X ⟨rfl, rfl⟩
      go_wp2
      go_ret
      exact ⟨rfl, rfl⟩
    · have HA := show Hid _ from raw_none a ha ka
      have HB := show Hid _ from raw_fin b hb kb
      have hv : toldOf (single.mul a b) = 2143289344 := by
        unfold Format.mul
        rw [read_nan a ha ka.1 ka.2]
        cases single.read b <;> rfl
      rw [hv]
      clear hv ka kb
      generalize bN b = N at *
      generalize ex b = E at *
      generalize mt b = M at *
      by_cases h0 : M = 0
      · subst h0
        go_enter Tryd.func19, Tryd.ntmps19
        go_wp2_with fail
        refine (HA.out _).mono ?_
        rintro r X ⟨rfl, rfl⟩
        go_wp2_with fail
        refine (HB.out _).mono ?_
        rintro r X ⟨rfl, rfl⟩
        go_wp2
        go_ret
        exact ⟨rfl, rfl⟩
      · have h0' : ((M : Int) == 0) = false := by simp; omega
        go_enter Tryd.func19, Tryd.ntmps19
        go_wp2_with fail
        refine (HA.out _).mono ?_
        rintro r X ⟨rfl, rfl⟩
        go_wp2_with fail
        refine (HB.out _).mono ?_
        rintro r X ⟨rfl, rfl⟩
        go_wp2
        go_ret
        exact ⟨rfl, rfl⟩
  · rcases kinds b with kb | kb | kb
    · have HA := show Hid _ from raw_inf a ha ka
      have HB := show Hid _ from raw_none b hb kb
      have hv : toldOf (single.mul a b) = 2143289344 := by
        unfold Format.mul
        rw [read_nan b hb kb.1 kb.2]
        cases single.read a <;> rfl
      rw [hv]
      clear hv ka kb
      generalize bN a = N at *
      go_enter Tryd.func19, Tryd.ntmps19
      go_wp2_with fail
      refine (HA.out _).mono ?_
      rintro r X ⟨rfl, rfl⟩
      go_wp2_with fail
      refine (HB.out _).mono ?_
      rintro r X ⟨rfl, rfl⟩
      go_wp2
      go_ret
      exact ⟨rfl, rfl⟩
    · have HA := show Hid _ from raw_inf a ha ka
      have HB := show Hid _ from raw_inf b hb kb
      have hv : toldOf (single.mul a b) = single.word (bN a ^^ bN b) 2139095040 := by
        unfold Format.mul
        rw [read_inf a ha ka.1 ka.2, read_inf b hb kb.1 kb.2, ← single_inf]
        rfl
      rw [hv, single_word]
      clear hv ka kb
      generalize bN a = N at *
      generalize bN b = N' at *
      cases N <;> cases N'
      · go_enter Tryd.func19, Tryd.ntmps19
        go_wp2_with fail
        refine (HA.out _).mono ?_
        rintro r X ⟨rfl, rfl⟩
        go_wp2_with fail
        refine (HB.out _).mono ?_
        rintro r X ⟨rfl, rfl⟩
        go_wp2
        go_ret
        exact ⟨rfl, rfl⟩
      · go_enter Tryd.func19, Tryd.ntmps19
        go_wp2_with fail
        refine (HA.out _).mono ?_
        rintro r X ⟨rfl, rfl⟩
        go_wp2_with fail
        refine (HB.out _).mono ?_
        rintro r X ⟨rfl, rfl⟩
        go_wp2
        go_ret
        exact ⟨rfl, rfl⟩
      · go_enter Tryd.func19, Tryd.ntmps19
        go_wp2_with fail
        refine (HA.out _).mono ?_
        rintro r X ⟨rfl, rfl⟩
        go_wp2_with fail
        refine (HB.out _).mono ?_
        rintro r X ⟨rfl, rfl⟩
        go_wp2
        go_ret
        exact ⟨rfl, rfl⟩
      · go_enter Tryd.func19, Tryd.ntmps19
        go_wp2_with fail
        refine (HA.out _).mono ?_
        rintro r X ⟨rfl, rfl⟩
        go_wp2_with fail
        refine (HB.out _).mono ?_
        rintro r X ⟨rfl, rfl⟩
        go_wp2
        go_ret
        exact ⟨rfl, rfl⟩
    · have HA := show Hid _ from raw_inf a ha ka
      have HB := show Hid _ from raw_fin b hb kb
      by_cases h0 : mt b = 0
      · have hv : toldOf (single.mul a b) = 2143289344 := by
          unfold Format.mul
          rw [read_inf a ha ka.1 ka.2, read_fin b hb kb, h0]
          rfl
        rw [hv]
        rw [h0] at HB
        clear hv ka kb h0
        generalize bN a = N at *
        generalize bN b = N' at *
        generalize ex b = E at *
        go_enter Tryd.func19, Tryd.ntmps19
        go_wp2_with fail
        refine (HA.out _).mono ?_
        rintro r X ⟨rfl, rfl⟩
        go_wp2_with fail
        refine (HB.out _).mono ?_
        rintro r X ⟨rfl, rfl⟩
        go_wp2
        go_ret
        exact ⟨rfl, rfl⟩
      · have hv : toldOf (single.mul a b) = single.word (bN a ^^ bN b) 2139095040 := by
          unfold Format.mul
          rw [read_inf a ha ka.1 ka.2, read_fin b hb kb, ← single_inf]
          simp only [Datum.product, if_neg h0, Option.map_some, Format.write]
          first | rfl | (rw [Bool.xor_comm]; rfl)
        have h0' : ((mt b : Int) == 0) = false := by simp; omega
        rw [hv, single_word]
        clear hv ka kb h0
        generalize bN a = N at *
        generalize bN b = N' at *
        generalize ex b = E at *
        generalize mt b = M at *
        cases N <;> cases N'
        · go_enter Tryd.func19, Tryd.ntmps19
          go_wp2_with fail
          refine (HA.out _).mono ?_
          rintro r X ⟨rfl, rfl⟩
          go_wp2_with fail
          refine (HB.out _).mono ?_
          rintro r X ⟨rfl, rfl⟩
          go_wp2
          go_ret
          exact ⟨rfl, rfl⟩
        · go_enter Tryd.func19, Tryd.ntmps19
          go_wp2_with fail
          refine (HA.out _).mono ?_
          rintro r X ⟨rfl, rfl⟩
          go_wp2_with fail
          refine (HB.out _).mono ?_
          rintro r X ⟨rfl, rfl⟩
          go_wp2
          go_ret
          exact ⟨rfl, rfl⟩
        · go_enter Tryd.func19, Tryd.ntmps19
          go_wp2_with fail
          refine (HA.out _).mono ?_
          rintro r X ⟨rfl, rfl⟩
          go_wp2_with fail
          refine (HB.out _).mono ?_
          rintro r X ⟨rfl, rfl⟩
          go_wp2
          go_ret
          exact ⟨rfl, rfl⟩
        · go_enter Tryd.func19, Tryd.ntmps19
          go_wp2_with fail
          refine (HA.out _).mono ?_
          rintro r X ⟨rfl, rfl⟩
          go_wp2_with fail
          refine (HB.out _).mono ?_
          rintro r X ⟨rfl, rfl⟩
          go_wp2
          go_ret
          exact ⟨rfl, rfl⟩
  · rcases kinds b with kb | kb | kb
    · have HA := show Hid _ from raw_fin a ha ka
      have HB := show Hid _ from raw_none b hb kb
      have hv : toldOf (single.mul a b) = 2143289344 := by
        unfold Format.mul
        rw [read_nan b hb kb.1 kb.2]
        cases single.read a <;> rfl
      rw [hv]
      clear hv ka kb
      generalize bN a = N at *
      generalize ex a = E at *
      generalize mt a = M at *
      by_cases h0 : M = 0
      · subst h0
        go_enter Tryd.func19, Tryd.ntmps19
        go_wp2_with fail
        refine (HA.out _).mono ?_
        rintro r X ⟨rfl, rfl⟩
        go_wp2_with fail
        refine (HB.out _).mono ?_
        rintro r X ⟨rfl, rfl⟩
        go_wp2
        go_ret
        exact ⟨rfl, rfl⟩
      · have h0' : ((M : Int) == 0) = false := by simp; omega
        go_enter Tryd.func19, Tryd.ntmps19
        go_wp2_with fail
        refine (HA.out _).mono ?_
        rintro r X ⟨rfl, rfl⟩
        go_wp2_with fail
        refine (HB.out _).mono ?_
        rintro r X ⟨rfl, rfl⟩
        go_wp2
        go_ret
        exact ⟨rfl, rfl⟩
    · have HA := show Hid _ from raw_fin a ha ka
      have HB := show Hid _ from raw_inf b hb kb
      by_cases h0 : mt a = 0
      · have hv : toldOf (single.mul a b) = 2143289344 := by
          unfold Format.mul
          rw [read_fin a ha ka, read_inf b hb kb.1 kb.2, h0]
          rfl
        rw [hv]
        rw [h0] at HA
        clear hv ka kb h0
        generalize bN a = N at *
        generalize bN b = N' at *
        generalize ex a = E at *
        go_enter Tryd.func19, Tryd.ntmps19
        go_wp2_with fail
        refine (HA.out _).mono ?_
        rintro r X ⟨rfl, rfl⟩
        go_wp2_with fail
        refine (HB.out _).mono ?_
        rintro r X ⟨rfl, rfl⟩
        go_wp2
        go_ret
        exact ⟨rfl, rfl⟩
      · have hv : toldOf (single.mul a b) = single.word (bN a ^^ bN b) 2139095040 := by
          unfold Format.mul
          rw [read_fin a ha ka, read_inf b hb kb.1 kb.2, ← single_inf]
          simp only [Datum.product, if_neg h0, Option.map_some, Format.write]
          first | rfl | (rw [Bool.xor_comm]; rfl)
        have h0' : ((mt a : Int) == 0) = false := by simp; omega
        rw [hv, single_word]
        clear hv ka kb h0
        generalize bN a = N at *
        generalize bN b = N' at *
        generalize ex a = E at *
        generalize mt a = M at *
        cases N <;> cases N'
        · go_enter Tryd.func19, Tryd.ntmps19
          go_wp2_with fail
          refine (HA.out _).mono ?_
          rintro r X ⟨rfl, rfl⟩
          go_wp2_with fail
          refine (HB.out _).mono ?_
          rintro r X ⟨rfl, rfl⟩
          go_wp2
          go_ret
          exact ⟨rfl, rfl⟩
        · go_enter Tryd.func19, Tryd.ntmps19
          go_wp2_with fail
          refine (HA.out _).mono ?_
          rintro r X ⟨rfl, rfl⟩
          go_wp2_with fail
          refine (HB.out _).mono ?_
          rintro r X ⟨rfl, rfl⟩
          go_wp2
          go_ret
          exact ⟨rfl, rfl⟩
        · go_enter Tryd.func19, Tryd.ntmps19
          go_wp2_with fail
          refine (HA.out _).mono ?_
          rintro r X ⟨rfl, rfl⟩
          go_wp2_with fail
          refine (HB.out _).mono ?_
          rintro r X ⟨rfl, rfl⟩
          go_wp2
          go_ret
          exact ⟨rfl, rfl⟩
        · go_enter Tryd.func19, Tryd.ntmps19
          go_wp2_with fail
          refine (HA.out _).mono ?_
          rintro r X ⟨rfl, rfl⟩
          go_wp2_with fail
          refine (HB.out _).mono ?_
          rintro r X ⟨rfl, rfl⟩
          go_wp2
          go_ret
          exact ⟨rfl, rfl⟩
    · have HA := show Hid _ from raw_fin a ha ka
      have HB := show Hid _ from raw_fin b hb kb
      have hv : toldOf (single.mul a b) = single.nearest (bN a ^^ bN b) (mt a * mt b) (ex a + ex b) := by
        unfold Format.mul
        rw [read_fin a ha ka, read_fin b hb kb]
        rfl
      rw [hv]
      have l1 := mt_lt a
      have l2 := mt_lt b
      obtain ⟨e1, e2⟩ := ex_bounds a
      obtain ⟨e3, e4⟩ := ex_bounds b
      have hx : (bN a ^^ bN b) = (bN a != bN b) := by cases bN a <;> cases bN b <;> rfl
      rw [hx]
      clear hv ka kb hx
      generalize bN a = N at *
      generalize bN b = N' at *
      generalize ex a = E at *
      generalize ex b = E' at *
      generalize mt a = M at *
      generalize mt b = M' at *
      have hp : M * M' < 18446744073709551616 := Nat.lt_of_le_of_lt (Nat.mul_le_mul (Nat.le_of_lt l1) (Nat.le_of_lt l2)) (by decide)
      obtain ⟨P, hP⟩ : ∃ P, P = M * M' := ⟨_, rfl⟩
      rw [← hP] at hp ⊢
      have a1 : (M : Int) * (M' : Int) = (P : Int) := by rw [hP]; simp
      have HN := show Hid _ from refnear_all (N != N') P (E + E') hp
      by_cases h0 : M = 0
      · subst h0
        obtain rfl : P = 0 := by rw [hP]; simp
        rw [show ((0 : Nat) : Int) = 0 from rfl] at HN
        clear hP a1
        go_enter Tryd.func19, Tryd.ntmps19
        go_wp2_with fail
        refine (HA.out _).mono ?_
        rintro r X ⟨rfl, rfl⟩
        go_wp2_with fail
        refine (HB.out _).mono ?_
        rintro r X ⟨rfl, rfl⟩
        go_wp2_with fail
        refine (HN.out _).mono ?_
        rintro r X ⟨rfl, rfl⟩
        go_wp2
        go_ret
        exact ⟨rfl, rfl⟩
      · have h0' : ((M : Int) == 0) = false := by simp; omega
        by_cases h1 : M' = 0
        · subst h1
          obtain rfl : P = 0 := by rw [hP]; simp
          rw [show ((0 : Nat) : Int) = 0 from rfl] at HN
          clear hP a1
          go_enter Tryd.func19, Tryd.ntmps19
          go_wp2_with fail
          refine (HA.out _).mono ?_
          rintro r X ⟨rfl, rfl⟩
          go_wp2_with fail
          refine (HB.out _).mono ?_
          rintro r X ⟨rfl, rfl⟩
          go_wp2_with fail
          refine (HN.out _).mono ?_
          rintro r X ⟨rfl, rfl⟩
          go_wp2
          go_ret
          exact ⟨rfl, rfl⟩
        · have h1' : ((M' : Int) == 0) = false := by simp; omega
          clear hP
          go_enter Tryd.func19, Tryd.ntmps19
          go_wp2_with fail
          refine (HA.out _).mono ?_
          rintro r X ⟨rfl, rfl⟩
          go_wp2_with fail
          refine (HB.out _).mono ?_
          rintro r X ⟨rfl, rfl⟩
          go_wp2_with fail
          refine (HN.out _).mono ?_
          rintro r X ⟨rfl, rfl⟩
          go_wp2
          go_ret
          exact ⟨rfl, rfl⟩

end Go.Proofs.YtagbjlkpmjbfnaaDoor
