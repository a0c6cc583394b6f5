/-
  Sums of the document, of any bits.
-/
import Derived.Test.YtagbjlkpmjbfnaaDoorAd
namespace Go.Proofs.YtagbjlkpmjbfnaaDoor
open Go.RowKit Ieee

set_option maxHeartbeats 2000000 in
set_option maxRecDepth 100000 in
theorem refAdd_any (a b : Nat) (w : World) (ha : a < 4294967296) (hb : b < 4294967296) :
    Calls Tryd.prog 17 #[.int .u32 a, .int .u32 b] w fun e w' => e = .returned (.int .u32 (toldOf (single.add a b) : Nat)) ∧ w' = w := by
  rcases kinds a with ka | ka | ka
  · rcases kinds b with kb | kb | kb
    · have HA := show Hid _ from raw_none a ha ka
      have HB := show Hid _ from raw_none b hb kb
      have hv : toldOf (single.add a b) = 2143289344 := by
        unfold Format.add
        rw [read_nan a ha ka.1 ka.2]
        cases single.read b <;> rfl
      rw [hv]
      clear hv ka kb
      
      go_enter Tryd.func17, Tryd.ntmps17
      go_wp2_with fail
      refine (HA.out _).mono ?_
      rintro r X ⟨rfl, rfl⟩
      go_wp2_with fail
      refine (HB.out _).mono ?_
      rintro r X ⟨rfl, rfl⟩
      go_wp2
      go_ret
      exact ⟨rfl, rfl⟩
    · have HA := show Hid _ from raw_none a ha ka
      have HB := show Hid _ from raw_inf b hb kb
      have hv : toldOf (single.add a b) = 2143289344 := by
        unfold Format.add
        rw [read_nan a ha ka.1 ka.2]
        cases single.read b <;> rfl
      rw [hv]
      clear hv ka kb
      generalize bN b = N' at *
      go_enter Tryd.func17, Tryd.ntmps17
      go_wp2_with fail
      refine (HA.out _).mono ?_
      rintro r X ⟨rfl, rfl⟩
      go_wp2_with fail
      refine (HB.out _).mono ?_
      rintro r X ⟨rfl, rfl⟩
      go_wp2
      go_ret
      exact ⟨rfl, rfl⟩
    · have HA := show Hid _ from raw_none a ha ka
      have HB := show Hid _ from raw_fin b hb kb
      have hv : toldOf (single.add a b) = 2143289344 := by
        unfold Format.add
        rw [read_nan a ha ka.1 ka.2]
        cases single.read b <;> rfl
      rw [hv]
      clear hv ka kb
      generalize bN b = N' at *
      generalize ex b = E' at *
      generalize mt b = M' at *
      go_enter Tryd.func17, Tryd.ntmps17
      go_wp2_with fail
      refine (HA.out _).mono ?_
      rintro r X ⟨rfl, rfl⟩
      go_wp2_with fail
      refine (HB.out _).mono ?_
      rintro r X ⟨rfl, rfl⟩
      go_wp2
      go_ret
      exact ⟨rfl, rfl⟩
  · rcases kinds b with kb | kb | kb
    · have HA := show Hid _ from raw_inf a ha ka
      have HB := show Hid _ from raw_none b hb kb
      have hv : toldOf (single.add a b) = 2143289344 := by
        unfold Format.add
        rw [read_nan b hb kb.1 kb.2]
        cases single.read a <;> rfl
      rw [hv]
      clear hv ka kb
      generalize bN a = N at *
      go_enter Tryd.func17, Tryd.ntmps17
      go_wp2_with fail
      refine (HA.out _).mono ?_
      rintro r X ⟨rfl, rfl⟩
      go_wp2_with fail
      refine (HB.out _).mono ?_
      rintro r X ⟨rfl, rfl⟩
      go_wp2
      go_ret
      exact ⟨rfl, rfl⟩
    · have HA := show Hid _ from raw_inf a ha ka
      have HB := show Hid _ from raw_inf b hb kb
      by_cases hs : bN a = bN b
      · have hv : toldOf (single.add a b) = a := by
          unfold Format.add
          rw [read_inf a ha ka.1 ka.2, read_inf b hb kb.1 kb.2]
          simp only [Datum.sum, if_pos hs, Option.map_some, Format.write, single_inf]
          exact inf_bits a ha ka.1 ka.2
        rw [hv]
        rw [hs] at HA
        clear hv ka kb hs
        generalize bN b = N' at *
        go_enter Tryd.func17, Tryd.ntmps17
        go_wp2_with fail
        refine (HA.out _).mono ?_
        rintro r X ⟨rfl, rfl⟩
        go_wp2_with fail
        refine (HB.out _).mono ?_
        rintro r X ⟨rfl, rfl⟩
        go_wp2
        go_ret
        exact ⟨rfl, rfl⟩
      · have hv : toldOf (single.add a b) = 2143289344 := by
          unfold Format.add
          rw [read_inf a ha ka.1 ka.2, read_inf b hb kb.1 kb.2]
          simp only [Datum.sum, if_neg hs]
          rfl
        have hs2 : bN b = !(bN a) := by revert hs; cases bN a <;> cases bN b <;> simp
        rw [hv]
        rw [hs2] at HB
        clear hv ka kb hs hs2
        generalize bN a = N at *
        cases N
        · go_enter Tryd.func17, Tryd.ntmps17
          go_wp2_with fail
          refine (HA.out _).mono ?_
          rintro r X ⟨rfl, rfl⟩
          go_wp2_with fail
          refine (HB.out _).mono ?_
          rintro r X ⟨rfl, rfl⟩
          go_wp2
          go_ret
          exact ⟨rfl, rfl⟩
        · go_enter Tryd.func17, Tryd.ntmps17
          go_wp2_with fail
          refine (HA.out _).mono ?_
          rintro r X ⟨rfl, rfl⟩
          go_wp2_with fail
          refine (HB.out _).mono ?_
          rintro r X ⟨rfl, rfl⟩
          go_wp2
          go_ret
          exact ⟨rfl, rfl⟩
    · have HA := show Hid _ from raw_inf a ha ka
      have HB := show Hid _ from raw_fin b hb kb
      have hv : toldOf (single.add a b) = a := by
        unfold Format.add
        rw [read_inf a ha ka.1 ka.2, read_fin b hb kb]
        simp only [Datum.sum, Option.map_some, Format.write, single_inf]
        exact inf_bits a ha ka.1 ka.2
      rw [hv]
      clear hv ka kb
      generalize bN a = N at *
      generalize bN b = N' at *
      generalize ex b = E' at *
      generalize mt b = M' at *
      go_enter Tryd.func17, Tryd.ntmps17
      go_wp2_with fail
      refine (HA.out _).mono ?_
      rintro r X ⟨rfl, rfl⟩
      go_wp2_with fail
      refine (HB.out _).mono ?_
      rintro r X ⟨rfl, rfl⟩
      go_wp2
      go_ret
      exact ⟨rfl, rfl⟩
  · rcases kinds b with kb | kb | kb
    · have HA := show Hid _ from raw_fin a ha ka
      have HB := show Hid _ from raw_none b hb kb
      have hv : toldOf (single.add a b) = 2143289344 := by
        unfold Format.add
        rw [read_nan b hb kb.1 kb.2]
        cases single.read a <;> rfl
      rw [hv]
      clear hv ka kb
      generalize bN a = N at *
      generalize ex a = E at *
      generalize mt a = M at *
      go_enter Tryd.func17, Tryd.ntmps17
      go_wp2_with fail
      refine (HA.out _).mono ?_
      rintro r X ⟨rfl, rfl⟩
      go_wp2_with fail
      refine (HB.out _).mono ?_
      rintro r X ⟨rfl, rfl⟩
      go_wp2
      go_ret
      exact ⟨rfl, rfl⟩
    · have HA := show Hid _ from raw_fin a ha ka
      have HB := show Hid _ from raw_inf b hb kb
      have hv : toldOf (single.add a b) = b := by
        unfold Format.add
        rw [read_fin a ha ka, read_inf b hb kb.1 kb.2]
        simp only [Datum.sum, Option.map_some, Format.write, single_inf]
        exact inf_bits b hb kb.1 kb.2
      rw [hv]
      clear hv ka kb
      generalize bN a = N at *
      generalize bN b = N' at *
      generalize ex a = E at *
      generalize mt a = M at *
      go_enter Tryd.func17, Tryd.ntmps17
      go_wp2_with fail
      refine (HA.out _).mono ?_
      rintro r X ⟨rfl, rfl⟩
      go_wp2_with fail
      refine (HB.out _).mono ?_
      rintro r X ⟨rfl, rfl⟩
      go_wp2
      go_ret
      exact ⟨rfl, rfl⟩
    · have HA := show Hid _ from raw_fin a ha ka
      have HB := show Hid _ from raw_fin b hb kb
      by_cases za : mt a = 0
      · by_cases zb : mt b = 0
        · have hv : toldOf (single.add a b) = single.word (bN a && bN b) 0 := by
            unfold Format.add
            rw [read_fin a ha ka, read_fin b hb kb, za, zb, sum_zeros]
            rfl
          rw [hv, single_word]
          rw [za] at HA
          rw [zb] at HB
          clear hv ka kb za zb
          generalize bN a = N at *
          generalize bN b = N' at *
          generalize ex a = E at *
          generalize ex b = E' at *
          cases N <;> cases N'
          · go_enter Tryd.func17, Tryd.ntmps17
            go_wp2_with fail
            refine (HA.out _).mono ?_
            rintro r X ⟨rfl, rfl⟩
            go_wp2_with fail
            refine (HB.out _).mono ?_
            rintro r X ⟨rfl, rfl⟩
            go_wp2
            go_ret
            exact ⟨rfl, rfl⟩
          · go_enter Tryd.func17, Tryd.ntmps17
            go_wp2_with fail
            refine (HA.out _).mono ?_
            rintro r X ⟨rfl, rfl⟩
            go_wp2_with fail
            refine (HB.out _).mono ?_
            rintro r X ⟨rfl, rfl⟩
            go_wp2
            go_ret
            exact ⟨rfl, rfl⟩
          · go_enter Tryd.func17, Tryd.ntmps17
            go_wp2_with fail
            refine (HA.out _).mono ?_
            rintro r X ⟨rfl, rfl⟩
            go_wp2_with fail
            refine (HB.out _).mono ?_
            rintro r X ⟨rfl, rfl⟩
            go_wp2
            go_ret
            exact ⟨rfl, rfl⟩
          · go_enter Tryd.func17, Tryd.ntmps17
            go_wp2_with fail
            refine (HA.out _).mono ?_
            rintro r X ⟨rfl, rfl⟩
            go_wp2_with fail
            refine (HB.out _).mono ?_
            rintro r X ⟨rfl, rfl⟩
            go_wp2
            go_ret
            exact ⟨rfl, rfl⟩
        · have hv : toldOf (single.add a b) = b := by
            unfold Format.add
            rw [read_fin a ha ka, read_fin b hb kb, za, zero_ex a za ka, sum_zero_left _ _ _ _ zb (ex_bounds b).1]
            exact nearest_back b hb kb
          have zb' : ((mt b : Int) == 0) = false := by simp; omega
          rw [hv]
          rw [za] at HA
          clear hv ka kb za zb
          generalize bN a = N at *
          generalize bN b = N' at *
          generalize ex a = E at *
          generalize ex b = E' at *
          generalize mt b = M' at *
          go_enter Tryd.func17, Tryd.ntmps17
          go_wp2_with fail
          refine (HA.out _).mono ?_
          rintro r X ⟨rfl, rfl⟩
          go_wp2_with fail
          refine (HB.out _).mono ?_
          rintro r X ⟨rfl, rfl⟩
          go_wp2
          go_ret
          exact ⟨rfl, rfl⟩
      · by_cases zb : mt b = 0
        · have hv : toldOf (single.add a b) = a := by
            rw [add_comm']
            unfold Format.add
            rw [read_fin a ha ka, read_fin b hb kb, zb, zero_ex b zb kb, sum_zero_left _ _ _ _ za (ex_bounds a).1]
            exact nearest_back a ha ka
          have za' : ((mt a : Int) == 0) = false := by simp; omega
          rw [hv]
          rw [zb] at HB
          clear hv ka kb za zb
          generalize bN a = N at *
          generalize bN b = N' at *
          generalize ex a = E at *
          generalize mt a = M at *
          generalize ex b = E' at *
          go_enter Tryd.func17, Tryd.ntmps17
          go_wp2_with fail
          refine (HA.out _).mono ?_
          rintro r X ⟨rfl, rfl⟩
          go_wp2_with fail
          refine (HB.out _).mono ?_
          rintro r X ⟨rfl, rfl⟩
          go_wp2
          go_ret
          exact ⟨rfl, rfl⟩
        · exact refAdd_fin a b w ha hb ka kb za zb

end Go.Proofs.YtagbjlkpmjbfnaaDoor
