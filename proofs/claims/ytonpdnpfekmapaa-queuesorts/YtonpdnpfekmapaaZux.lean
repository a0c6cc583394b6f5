/-
  First, Last and PopLast of a queue.
-/
import Derived.Test.YtonpdnpfekmapaaZuu
namespace Go.Proofs.Ytonpdnpfekmapaa.SI
open Go.RowKit Go.Lib Go.Maps

set_option maxHeartbeats 1000000 in
theorem line_last (qb N : Nat) (lv : Value) (M tk ar : Nat) (R : List Run) (w : World) (hq : QB w qb N lv M tk ar) (h : LnM w lv R) (hl : (flat R).length ≤ 65536) (x : El) (hx : (flat R).getLast? = some x) :
    Calls Try.prog 86 #[.pointer (some ⟨qb, 1, none⟩)] w fun q w' => q = .returned (pV x) ∧ ∃ n, w' = w.drewN n := by
  rcases List.eq_nil_or_concat R with rfl | ⟨R1, r, hR⟩
  · cases hx
  rw [List.concat_eq_append] at hR
  subst hR
  have hrm : r ∈ R1 ++ [r] := by simp
  have hrne := h.ne r hrm
  have hx2 : r.els.getLast? = some x := by
    simp only [flat, List.map_append, List.map_cons, List.map_nil, List.flatten_append, List.flatten_cons, List.flatten_nil, List.append_nil] at hx
    rw [List.getLast?_append] at hx
    rw [List.getLast?_eq_some_getLast hrne] at hx ⊢
    simpa using hx
  have HE : Hid (∀ m, _) := fun m => end_any r (w.drewN m) lv (R1 ++ [r]) (h.drewN m) hrm x hx2 (Nat.le_trans (flat_len hrm) (by omega))
  have hrl := runs_len h.ne
  obtain ⟨g, cap, hlv, h1, h2, h3⟩ := h.outer (i := R1.length) (by simp)
  rw [show (R1 ++ [r])[R1.length]'(by simp) = r by simp] at h3
  obtain ⟨_, c1, _, _, _⟩ := hq.cells
  rw [hlv] at c1
  have hlen : (R1 ++ [r]).length = R1.length + 1 := by simp
  rw [hlen] at c1 h1 hrl
  have c1' : ∀ m, (w.drewN m).cell? ⟨qb, 1, none⟩ = some (.slice (some ⟨g, 0, none⟩) (R1.length + 1) cap) := fun _ => c1
  have h3' : ∀ m, (w.drewN m).cell? ⟨g, R1.length, none⟩ = some r.v := fun _ => h3
  have hk6 : R1.length ≤ 65536 := by omega
  clear hq h hx hx2 hrne hlv c1 h3 hrm hlen hrl hl
  generalize r.v = rv at *
  generalize R1.length = k at *
  go_enter Try.func86, Try.ntmps86
  go_wp2_with fail
  go_quiet ((go_at_call 118; exact Calls.quiet_of_same (HE.out _)))
  go_wp2
  go_ret
  exact ⟨rfl, _, rfl⟩
theorem last_any (F : Nat → Prop) (qb N : Nat) (L : List El) (tk ar : Nat) (w : World) (h : QAt w F qb N L tk ar) :
    Calls Try.prog 54 #[qV qb] w fun q w' => q = .returned (oV L.getLast?) ∧ ∃ n, w' = w.drewN n := by
  have HL : Hid (Unit → _) := fun (_ : Unit) => len_any F qb N L tk ar w h
  obtain ⟨lv, M, R, h1, rfl, rfl⟩ := h
  cases hh : (flat R).getLast? with
  | none =>
    have h0 : (flat R).length = 0 := by rw [List.getLast?_eq_none_iff.1 hh]; rfl
    rw [h0] at HL
    clear h1 h0 hh
    go_enter Try.func54, Try.ntmps54
    go_wp2_with fail
    refine (HL.out ()).mono ?_
    rintro q w1 ⟨rfl, rfl⟩
    clear HL
    go_wp2
    go_ret
    exact ⟨rfl, 0, rfl⟩
  | some x =>
    have h0 : (flat R).length ≠ 0 := fun e => by rw [List.eq_nil_of_length_eq_zero e] at hh; cases hh
    have HF : Hid (Unit → _) := fun (_ : Unit) => line_last qb N lv M tk ar R w h1.blk h1.ln h1.le x hh
    clear h1 hh
    generalize (flat R).length = n at *
    have hn : ¬ ((n : Int) = 0) := by omega
    go_enter Try.func54, Try.ntmps54
    go_wp2_with fail
    refine (HL.out ()).mono ?_
    rintro q w1 ⟨rfl, rfl⟩
    clear HL
    go_wp2_with fail
    refine (HF.out ()).mono ?_
    rintro q w1 ⟨rfl, k, rfl⟩
    clear HF
    go_wp2
    go_ret
    exact ⟨rfl, k, rfl⟩

set_option maxHeartbeats 1000000 in
theorem popLast_any (F : Nat → Prop) (qb N : Nat) (A : List El) (e : El) (tk ar : Nat) (w : World) (h : QAt w F qb N (A ++ [e]) tk ar) (htk : tk ≤ 9223372036854775807) :
    Calls Try.prog 17 #[qV qb] w fun q w' => q = .returned (toldV (some e)) ∧ QNow w F qb N A tk ar w' := by
  have HF : Hid (Unit → _) := fun (_ : Unit) => last_any F qb N (A ++ [e]) tk ar w h
  rw [toldV_eq]
  have HO : Hid (∀ m, _) := fun m => out_some F qb N A [] tk ar e (w.drewN m) (h.drewN m) htk
  have HT : Hid (∀ W, ElAt W e → _) := fun W hW => told_any (some e) W (fun x e1 => by cases e1; exact hW)
  simp only [toldV_eq] at HT
  have HD : Hid (∀ m w', QNow (w.drewN m) F qb N A tk ar w' → QNow w F qb N A tk ar w') := fun m w' hq => by
    obtain ⟨F', a1, a2, a3⟩ := hq
    exact ⟨F', a1, Kept.trans ((Kept.refl F w).drewN m) a2 (fun _ _ e => e), a3⟩
  clear h
  rw [List.getLast?_append] at HF
  simp only [List.getLast?_singleton, Option.some_or, List.append_nil] at HF HO
  generalize oV (some e) = ov at *
  generalize tK (some e) = a1 at *
  generalize tS (some e) = a2 at *
  generalize tT (some e) = a3 at *
  generalize (some e).isSome = a4 at *
  go_enter Try.func17, Try.ntmps17
  go_wp2_with fail
  refine (HF.out ()).mono ?_
  rintro q w1 ⟨rfl, m, rfl⟩
  have HOm : Hid (Unit → _) := fun (_ : Unit) => HO.out m
  clear HF HO
  go_wp2_with fail
  refine (HOm.out ()).mono ?_
  rintro q w2 ⟨rfl, hQ, hE⟩
  have HQ : Hid (QNow w F qb N A tk ar w2) := HD.out m w2 hQ
  have HTw : Hid (Unit → _) := fun (_ : Unit) => HT.out w2 hE
  clear HOm HT hQ hE HD
  go_wp2_with fail
  refine (HTw.out ()).mono ?_
  rintro q w3 ⟨rfl, n, rfl⟩
  have HQ2 : Hid (QNow w F qb N A tk ar (w2.drewN n)) := QNow.drewN HQ.out n
  clear HTw HQ
  go_wp2
  exact bodyPost_ret (v := .tuple #[kV a1, .int .i64 a2, nV a3, .bool a4]) (by simp [results, Try.results17, go_sem]) rfl ⟨rfl, HQ2.out⟩

theorem First_any (F : Nat → Prop) (qb N : Nat) (L : List El) (tk ar : Nat) (w : World) (h : QAt w F qb N L tk ar) :
    Calls Try.prog 16 #[qV qb] w fun q w' => q = .returned (toldV L.head?) ∧ ∃ n, w' = w.drewN n := by
  have HF : Hid (Unit → _) := fun (_ : Unit) => first_any F qb N L tk ar w h
  have HT : Hid (Unit → _) := fun (_ : Unit) => told_any L.head? w (fun x e => h.elem (List.mem_of_mem_head? e))
  rw [toldV_eq] at HT ⊢
  clear h
  generalize oV L.head? = ov at *
  generalize tK L.head? = a1 at *
  generalize tS L.head? = a2 at *
  generalize tT L.head? = a3 at *
  generalize L.head?.isSome = a4 at *
  go_enter Try.func16, Try.ntmps16
  go_wp2_with fail
  refine (HF.out ()).mono ?_
  rintro q w1 ⟨rfl, rfl⟩
  go_wp2_with fail
  refine (HT.out ()).mono ?_
  rintro q w1 ⟨rfl, n, rfl⟩
  clear HF HT
  go_wp2
  exact bodyPost_ret (v := .tuple #[kV a1, .int .i64 a2, nV a3, .bool a4]) (by simp [results, Try.results16, go_sem]) rfl ⟨rfl, n, rfl⟩
end Go.Proofs.Ytonpdnpfekmapaa.SI
