/-
  A stream somewhere within a text: what each call tells, wherever the text was cut.
-/
import Derived.Test.YtomeoklhjdgaoaaDoorStp
namespace Go.Proofs.YtomeoklhjdgaoaaDoor
open Go.RowKit Go.Lib Go.Maps

theorem cut_prefix {T : List (List UInt8)} {a b : List UInt8} (hT : ∀ j, j < T.length → tX T j ≠ []) (h : cuM T a ≠ -1) : cuM T (a ++ b) = cuM T a ∧ cuS T (a ++ b) = cuS T a := by
  cases hc : cuN T a with
  | none => exact absurd (by unfold cuM; rw [hc]) h
  | some e =>
    obtain ⟨h1, h2, h3⟩ := f1st_some hc
    obtain ⟨p, hp⟩ := Option.isSome_iff_exists.1 h2
    have hlt : ∀ n, n < e → bst T a n T.length = none := fun n hn => by simpa using h3 n hn
    obtain ⟨_, a2, a3⟩ := cuN_of hT hp hlt
    have hb : ∀ n, n ≤ a.length → bst T (a ++ b) n T.length = bst T a n T.length := fun n hn => bst_cong (fun _ _ => en_left hn)
    obtain ⟨_, b2, b3⟩ := cuN_of (t := a ++ b) hT (by rw [hb e (by omega)]; exact hp) (fun n hn => by rw [hb n (by omega)]; exact hlt n hn)
    refine ⟨by rw [a2, b2], ?_⟩
    rw [a3, b3, List.take_append_of_le_length (by omega)]
/-- Behind fed, of s, with o out. -/
def CuI (T : List (List UInt8)) (s : List UInt8) (F : Nat → Prop) (W : World) (b : Nat) (fed o : List UInt8) : Prop :=
  (NoCut T fed ∧ o = clL (goF T fed) ∧ StM F W b T o (hldF T fed) false false 0) ∨ (cuM T s ≠ -1 ∧ o = clL (cuS T s) ∧ StM F W b T o [] true true (cuM T s))
variable {F : Nat → Prop} {W W' : World} {b : Nat} {T : List (List UInt8)} {s fed r o : List UInt8}
theorem CuI.fresh (h : CuI T s F W b fed o) (hk : Fresh W W') : CuI T s F W' b fed o :=
  h.imp (fun ⟨h1, h2, h3⟩ => ⟨h1, h2, h3.fresh hk⟩) (fun ⟨h1, h2, h3⟩ => ⟨h1, h2, h3.fresh hk⟩)
theorem Feed_cu {n : Nat} (h : CuI T s F W b fed o) (hs : s = fed ++ r) (hT : GdT T) (hm : TbM W) (hl : s.length ≤ 1048576) :
    Calls Tryd.prog 20 #[.pointer (some ⟨b, 0, none⟩), sV (r.take n)] W fun e W' => ∃ pc F', e = .returned (sV pc) ∧ CuI T s F' W' b (fed ++ r.take n) (o ++ pc) ∧ Mvd F W F' W' ∧ clL pc = pc ∧ pc.length ≤ 50331648 := by
  rcases h with ⟨h1, h2, h3⟩ | ⟨h1, h2, h3⟩
  · have hfl : fed.length + r.length = s.length := by rw [hs, List.length_append]
    have hh := hldF_le T fed
    have htl : (r.take n).length ≤ r.length := by rw [List.length_take]; omega
    have hg : (goF T fed).length ≤ fed.length := by unfold goF; rw [List.length_take]; omega
    have hcl := clL_le (goF T fed)
    refine (Feed_live (r.take n) h3 (by rw [List.length_append]; omega) (by rw [h2]; omega) hT hm).mono ?_
    rintro e W' ⟨hy, hn⟩
    obtain ⟨c1, c2, c3⟩ := cut_shift (b := r.take n) hT h1
    by_cases hM : cuM T (hldF T fed ++ r.take n) = -1
    · obtain ⟨rfl, F', g1, g2⟩ := hn hM
      have hgo : (goF T (hldF T fed ++ r.take n)).length ≤ (hldF T fed ++ r.take n).length := by unfold goF; rw [List.length_take]; omega
      have hcl2 := clL_le (goF T (hldF T fed ++ r.take n))
      rw [List.length_append] at hgo
      refine ⟨_, F', rfl, .inl ⟨c2 (by rw [c1]; exact hM), by rw [h2]; exact (cl_next hT fed _).symm, ?_⟩, g2, clL_idem _, by omega⟩
      rw [hold_shift]
      exact g1
    · obtain ⟨rfl, F', g1, g2⟩ := hy hM
      obtain ⟨k, d1, d2⟩ := c3 (by rw [c1]; exact hM)
      have hst : s = (fed ++ r.take n) ++ r.drop n := by rw [List.append_assoc, List.take_append_drop]; exact hs
      obtain ⟨p1, p2⟩ := cut_prefix (a := fed ++ r.take n) (b := r.drop n) hT.ne (by rw [c1]; exact hM)
      rw [← hst] at p1 p2
      have hco : o ++ clL (cuS T (hldF T fed ++ r.take n)) = clL (cuS T s) := by rw [p2, d1, d2, cl_go hT, h2]
      have hms : cuM T s = cuM T (hldF T fed ++ r.take n) := by rw [p1, c1]
      have hcs := cuS_le T (hldF T fed ++ r.take n)
      have hcl2 := clL_le (cuS T (hldF T fed ++ r.take n))
      rw [List.length_append] at hcs
      refine ⟨_, F', rfl, .inr ⟨by rw [hms]; exact hM, hco, ?_⟩, g2, clL_idem _, by omega⟩
      rw [hms]
      exact g1
  · refine (Feed_ended (r.take n) h3).mono ?_
    rintro e W' ⟨rfl, rfl⟩
    exact ⟨[], F, rfl, .inr ⟨h1, by rw [List.append_nil]; exact h2, by rw [List.append_nil]; exact h3⟩, Mvd.refl _ _, rfl, by simp⟩
theorem Held_cu (h : CuI T s F W b fed o) (hT : GdT T) :
    Calls Tryd.prog 21 #[.pointer (some ⟨b, 0, none⟩)] W fun e W' => (∃ hd, e = .returned (sV hd) ∧ hd.length ≤ 63 ∧ (NoCut T fed ∨ hd = [])) ∧ W' = W := by
  rcases h with ⟨h1, h2, h3⟩ | ⟨h1, h2, h3⟩
  · exact (Held_any h3).mono (fun e W' ⟨he, hw⟩ => ⟨⟨_, he, hldF_63 hT fed, .inl h1⟩, hw⟩)
  · exact (Held_any h3).mono (fun e W' ⟨he, hw⟩ => ⟨⟨_, he, by simp, .inr rfl⟩, hw⟩)
theorem Text_cu (h : CuI T s F W b fed o) : Calls Tryd.prog 15 #[.pointer (some ⟨b, 0, none⟩)] W fun e W' => e = .returned (sV o) ∧ W' = W := by
  rcases h with ⟨_, _, h3⟩ | ⟨_, _, h3⟩
  · exact Text_any h3
  · exact Text_any h3
/-- Whether a stop text was met, as Stopped tells. -/
theorem Stopped_cu (h : CuI T s F W b fed o) : Calls Tryd.prog 22 #[.pointer (some ⟨b, 0, none⟩)] W fun e W' => (∃ pl mt, e = .returned (.tuple #[zV pl, .bool mt]) ∧ (mt = true → StM F W b T o [] true true pl)) ∧ Fresh W W' := by
  rcases h with ⟨_, _, h3⟩ | ⟨_, _, h3⟩
  · exact (Stopped_any h3).mono (fun e W' ⟨he, hw⟩ => ⟨⟨_, _, he, fun e => by cases e⟩, hw⟩)
  · exact (Stopped_any h3).mono (fun e W' ⟨he, hw⟩ => ⟨⟨_, _, he, fun _ => h3⟩, hw⟩)
/-- At the end of s: what comes out in all, and which stop text was met. -/
theorem End_cu (h : CuI T s F W b s o) (hT : GdT T) (hl : s.length ≤ 1048576) :
    Calls Tryd.prog 23 #[.pointer (some ⟨b, 0, none⟩)] W fun e W' => ∃ pc F' mt met, e = .returned (sV pc) ∧ o ++ pc = clL (cuS T s) ∧ StM F' W' b T (clL (cuS T s)) [] true mt met ∧ Mvd F W F' W' ∧ clL pc = pc ∧ pc.length ≤ 50331648 ∧
      ((mt = true ∧ met = cuM T s ∧ 0 ≤ cuM T s) ∨ (mt = false ∧ met = 0 ∧ cuM T s = -1)) := by
  rcases h with ⟨h1, h2, h3⟩ | ⟨h1, h2, h3⟩
  · have hM : cuM T s = -1 := by unfold cuM; rw [(cuN_none hT.ne).2 h1]
    have hh := hldF_63 hT s
    have hg : (goF T s).length ≤ s.length := by unfold goF; rw [List.length_take]; omega
    have hcl := clL_le (goF T s)
    have hcl2 := clL_le (hldF T s)
    refine (End_live h3 (by omega) (by rw [h2]; omega)).mono ?_
    rintro e W' ⟨rfl, F', g1, g2⟩
    have hco : o ++ clL (hldF T s) = clL (cuS T s) := by rw [h2, cuM_none hM, cl_end hT s]
    rw [hco] at g1
    exact ⟨_, F', false, 0, rfl, hco, g1, g2, clL_idem _, by omega, .inr ⟨rfl, rfl, hM⟩⟩
  · refine (End_ended h3).mono ?_
    rintro e W' ⟨rfl, rfl⟩
    have := cuM_ge T s
    refine ⟨[], F, true, cuM T s, rfl, by rw [List.append_nil]; exact h2, ?_, Mvd.refl _ _, rfl, by simp, .inl ⟨rfl, rfl, by omega⟩⟩
    rw [← h2]
    exact h3
end Go.Proofs.YtomeoklhjdgaoaaDoor
