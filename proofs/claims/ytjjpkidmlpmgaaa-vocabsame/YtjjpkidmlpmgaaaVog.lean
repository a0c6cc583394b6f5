/-
  The first place at which a rank's merge can be applied.
-/
import Derived.Test.YtjjpkidmlpmgaaaVof
namespace Go.Proofs.Ytjjpkidmlpmgaaa
open Go.RowKit Go.Lib Go.Maps

/-- The places that wait are places of the row; what is next is one. -/
def Hok (R : Ro) (n : Nat) : Prop := ∀ i, ∀ x ∈ gW R.w i, 0 ≤ x ∧ x + 1 < (n : Int)
def Nok (R : Ro) (n : Nat) : Prop := ∀ p, p + 1 < n → 0 ≤ gI R.n p ∧ gI R.n p < (n : Int)
/-- What is left waits too. -/
theorem dnF_mem : ∀ (m : Nat) (L : List Int) (i : Nat), ∀ x ∈ dnF m L i, x ∈ L ∨ x = 0
  | 0, _, _ => fun x h => .inl h
  | m + 1, L, i => fun x h => by
    unfold dnF at h
    split at h
    · exact .inl h
    · split at h
      · exact .inl h
      · rcases dnF_mem m _ _ x h with e | e
        · unfold swp at e
          rcases List.mem_or_eq_of_mem_set e with e | e
          · rcases List.mem_or_eq_of_mem_set e with e | e
            · exact .inl e
            · rw [e]
              unfold gI
              rw [List.getD_eq_getElem?_getD]
              cases he : L[chd L i]? with
              | none => exact .inr rfl
              | some y => exact .inl (List.mem_of_getElem? he)
          · rw [e]
            unfold gI
            rw [List.getD_eq_getElem?_getD]
            cases he : L[i]? with
            | none => exact .inr rfl
            | some y => exact .inl (List.mem_of_getElem? he)
        · exact .inr e
theorem tkF_mem {L : List Int} (x : Int) (h : x ∈ tkF L) : x ∈ L ∨ x = 0 := by
  unfold tkF at h
  rcases dnF_mem _ _ _ x h with e | e
  · rcases List.mem_or_eq_of_mem_set (List.mem_of_mem_take e) with e | e
    · exact .inl e
    · rw [e]
      unfold gI
      rw [List.getD_eq_getElem?_getD]
      cases he : L[L.length - 1]? with
      | none => exact .inr rfl
      | some y => exact .inl (List.mem_of_getElem? he)
  · exact .inr e
theorem gW_set {W : List (List Int)} {i j : Nat} {x : List Int} : gW (W.set i x) j = if i = j ∧ j < W.length then x else gW W j := by
  unfold gW
  rw [List.getD_eq_getElem?_getD, List.getElem?_set]
  split
  · rename_i e
    subst e
    split
    · rename_i h; rw [if_pos ⟨rfl, h⟩]; rfl
    · rename_i h; rw [if_neg (fun e => h e.2), List.getD_eq_getElem?_getD, List.getElem?_eq_none (by omega)]
  · rename_i e; rw [if_neg (fun h => e h.1), List.getD_eq_getElem?_getD]
theorem Hok.take {R : Ro} {n i : Nat} (h : Hok R n) (hn : 1 < n) : Hok { R with w := R.w.set i (tkF (gW R.w i)) } n := fun j x hx => by
  have hx' : x ∈ gW (R.w.set i (tkF (gW R.w i))) j := hx
  rw [gW_set] at hx'
  split at hx'
  · rcases tkF_mem x hx' with e | e
    · exact h i x e
    · rw [e]; omega
  · exact h j x hx'
/-- A heap that is not empty. -/
theorem RwSt.heap {B : Nat} {X : World} {s : Sc} {A : List Int} {M : List Mg} {mv : Value} {n : Nat} {us : List Value} {R : Ro} {ex : List Rr} (h : RwSt B X s A M mv n us R ex) {i : Nat} (hi : i < M.length) : ∃ ao cp, us.getD i nilV = .slice ao (gW R.w i).length cp ∧ (0 < (gW R.w i).length → ∃ g, ao = some ⟨g, 0, none⟩) := by
  obtain ⟨l, hP, _⟩ := all6_front (s := s) (A := A) (mv := mv) (n := n) (us := us) (R := R) (ex := ex) i (by rw [h.bu]; exact hi) (h.bw.trans h.bu.symm) M.length
  have h1 := (h.rs.perm hP).swap2.head
  have h2 : X.ownsRow B 3 1 (us.getD i nilV) (gW R.w i).length ((gW R.w i).map (Value.int .i64)) := by unfold Rr.At at h1; simpa using h1
  rcases h2.2 with ⟨e, e0⟩ | ⟨g, cap, cur, hv, _⟩
  · exact ⟨none, 0, by rw [e, e0], fun e1 => by omega⟩
  · exact ⟨_, cap, hv, fun _ => ⟨g, rfl⟩⟩
/-- The least is taken out of a heap. -/
theorem take_st {B : Nat} {X : World} {s : Sc} {A : List Int} {M : List Mg} {mv : Value} {n : Nat} {us : List Value} {R : Ro} {ex : List Rr} (h : RwSt B X s A M mv n us R ex) {i H : Nat} (hi : i < M.length) (hp : 0 < (gW R.w i).length) (hH : Hle R H) (hHb : H ≤ 8796093022208) :
    Calls Try.prog 42 #[.pointer (some ⟨s.wb, i, none⟩)] X fun e X' => e = .returned (zV (gI (gW R.w i) 0)) ∧ (∃ us', RwSt B X' s A M mv n us' { R with w := R.w.set i (tkF (gW R.w i)) } ex) ∧ Up0 B X X' := by
  obtain ⟨ao, cp, hu, hg⟩ := h.heap hi
  obtain ⟨g, rfl⟩ := hg hp
  obtain ⟨l, hP, hB⟩ := all6_front (s := s) (A := A) (mv := mv) (n := n) (us := us) (R := R) (ex := ex) i (by rw [h.bu]; exact hi) (h.bw.trans h.bu.symm) M.length
  have h1 := h.rs.perm hP
  rw [hu] at h1
  refine (take_any B s.wb M.length M.length i g (gW R.w i).length cp X us (gW R.w i) l h1 h.bu hi hu rfl hp (by have := hH i; omega)).mono ?_
  rintro e X' ⟨rfl, hR', hK'⟩
  have hkm : KM 77 X' s.mb M.length (rkV M M.length) := by
    obtain ⟨D, ⟨es, clock, hb, hh⟩, ht⟩ := h.km
    exact ⟨D, ⟨es, clock, hK'.map hb, hh⟩, ht⟩
  have hmg := h.mg.kept hK'.1 (fun b hb e => by omega)
  exact ⟨rfl, ⟨_, ⟨hR'.perm (hB _ _), hkm, hmg, h.bA, h.bt, h.ba, h.bn, by rw [List.length_set]; exact h.bu, by show (R.w.set _ _).length = _; rw [List.length_set]; exact h.bw, Nat.le_trans h.le hK'.1.size, h.geM, h.okT⟩⟩, hK'⟩

theorem fstF_nil {M : List Mg} {i m : Nat} {R : Ro} (h : (gW R.w i).length = 0) : fstF M i m R = (none, R) := by
  cases m with
  | zero => rfl
  | succ m => unfold fstF; rw [List.eq_nil_of_length_eq_zero h]
theorem fstF_cons {M : List Mg} {i m : Nat} {R : Ro} (h : 0 < (gW R.w i).length) (p : Nat) (hp : gI (gW R.w i) 0 = (p : Int)) : fstF M i (m + 1) R = if gI R.t p = (gM M i).l ∧ gI R.t (gI R.n p).toNat = (gM M i).r then (some p, { R with w := R.w.set i (tkF (gW R.w i)) }) else fstF M i m { R with w := R.w.set i (tkF (gW R.w i)) } := by
  conv => lhs; unfold fstF
  cases hL : gW R.w i with
  | nil => rw [hL] at h; simp at h
  | cons x l =>
    rw [hL] at hp
    have : x = (p : Int) := hp
    subst this
    simp only [Int.toNat_natCast]
/-- How long a heap is, as memory tells it. -/
def hlenAt (w : World) (b i : Nat) : Nat := match w.cell? ⟨b, i, none⟩ with
  | some (.slice _ n _) => n
  | _ => 0
/-- What first answers. -/
def fsV (o : Option Nat) : Value := match o with
  | some p => .tuple #[zV p, .bool true]
  | none => .tuple #[zV 0, .bool false]
set_option maxHeartbeats 1000000 in
set_option maxRecDepth 100000 in
theorem first_any {B : Nat} {X : World} {s : Sc} {A : List Int} {M : List Mg} {mv : Value} {n : Nat} {us : List Value} {R : Ro} (h : RwSt B X s A M mv n us R []) (i H : Nat) (hi : i < M.length) (hH : Hle R H) (hHb : H ≤ 8796093022208) (hok : Hok R n) (hnk : Nok R n) (hn : 1 < n) :
    Calls Try.prog 38 #[.pointer (some ⟨s.rb, 0, none⟩), zV i] X fun e X' => e = .returned (fsV (fstF M i (gW R.w i).length R).1) ∧ (∃ us', RwSt B X' s A M mv n us' (fstF M i (gW R.w i).length R).2 []) ∧ Up0 B X X' := by
  obtain ⟨r0, r1, _, r3⟩ := h.cR
  obtain ⟨c0, c1, c2⟩ := h.cC
  obtain ⟨ao, cap, hmv, _, hcap, hm64, hmc⟩ := h.mg
  obtain ⟨b, off, rfl, hb, hbX, hcells⟩ := hmc (by omega)
  obtain ⟨m0, m1, m2⟩ := hcells i hi
  subst hmv
  have hSt := h.add 52 #[zV (gM M i).l, zV (gM M i).r, zV (gM M i).o] (by simp)
  have HSt := show Hid _ from hSt
  have HOK : Hid (Hle R H ∧ Hok R n ∧ Nok R n) := ⟨hH, hok, hnk⟩
  clear hSt h hok hnk hH hcells hmc hm64
  generalize hF : fstF M i (gW R.w i).length R = F
  have HF : Hid (fstF M i (gW R.w i).length R = F) := hF
  clear hF
  generalize hml : (gM M i).l = ml at *
  generalize hmr : (gM M i).r = mr at *
  generalize hmo : (gM M i).o = mo at *
  have HM : Hid ((gM M i).l = ml ∧ (gM M i).r = mr) := ⟨hml, hmr⟩
  clear hml hmr hmo
  generalize hkk : M.length = k at *
  go_enter Try.func38, Try.ntmps38
  go_wp2_with fail
  have HUp : Hid (Up0 B X (X.alloc (.cells #[zV ml, zV mr, zV mo] 52))) := (Up0.refl B X).alloc _
  generalize hW : X.alloc (.cells #[zV ml, zV mr, zV mo] 52) = W at *
  generalize hZ : X.heap.size = z at *
  clear hW r0 r1 r3 c0 c1 c2 m0 m1 m2
  go_loopw [7] (fun _ wr => ∃ (R' : Ro) (us' : List Value) (m : Nat), Hid (RwSt B wr s A M (.slice (some ⟨b, off, none⟩) k cap) n us' R' [⟨52, sl z 3, [zV ml, zV mr, zV mo]⟩]) ∧ Hid (fstF M i m R' = F) ∧ (gW R'.w i).length ≤ m ∧ Hid (Hle R' H ∧ Hok R' n ∧ Nok R' n) ∧ Hid (Up0 B X wr)) (fun _ wr => hlenAt wr s.wb i)
  case atStart => exact ⟨R, us, _, HSt.out, HF.out, Nat.le_refl _, HOK.out, HUp.out⟩
  case round =>
    obtain ⟨R', us', m, HS, HF', hm, HO, HU⟩ := hrel
    clear HSt HF HOK HUp
    obtain ⟨r0, r1, _, r3⟩ := HS.out.cR
    obtain ⟨_, _, c2⟩ := HS.out.cC
    rw [hkk] at c2
    obtain ⟨ao, cp, hu, hg⟩ := HS.out.heap (i := i) (by omega)
    have w0 := HS.out.wai.geV HS.out.bu i (by omega)
    rw [hu] at w0
    have x0 := HS.out.extra.geV rfl 0 (by omega)
    have x1 := HS.out.extra.geV rfl 1 (by omega)
    have hL0 : hlenAt wr s.wb i = (gW R'.w i).length := by unfold hlenAt; rw [w0]
    by_cases h0 : (gW R'.w i).length = 0
    · have HE : Hid (F = (none, R')) := by show _ = _; rw [← HF'.out]; exact fstF_nil h0
      have HG : Hid (∃ us', RwSt B wr s A M (.slice (some ⟨b, off, none⟩) k cap) n us' R' []) := ⟨us', HS.out.less⟩
      rw [h0] at w0
      clear HS HF' HO hL0 x0 x1 hu hg
      go_wp2
      go_ret2
      rw [HE.out]
      exact ⟨rfl, HG.out, HU.out⟩
    · obtain ⟨m, rfl⟩ : ∃ q, m = q + 1 := ⟨m - 1, by omega⟩
      have hpos : 0 < (gW R'.w i).length := by omega
      have hx := HO.out.2.1 i (gI (gW R'.w i) 0) (by rw [gI, getD_getElem hpos]; exact List.getElem_mem _)
      obtain ⟨p, hp⟩ : ∃ p : Nat, gI (gW R'.w i) 0 = (p : Int) := ⟨(gI (gW R'.w i) 0).toNat, by omega⟩
      rw [hp] at hx
      have hpn : p + 1 < n := by omega
      have hq := HO.out.2.2 p hpn
      obtain ⟨q, hqe⟩ : ∃ q : Nat, gI R'.n p = (q : Int) := ⟨(gI R'.n p).toNat, by omega⟩
      rw [hqe] at hq
      have hstep := HF'.out
      rw [fstF_cons hpos p hp, hqe, Int.toNat_natCast, HM.out.1, HM.out.2] at hstep
      have HTk : Hid (Calls Try.prog 42 #[.pointer (some ⟨s.wb, i, none⟩)] wr fun e X' => e = .returned (zV p) ∧ (∃ us', RwSt B X' s A M (.slice (some ⟨b, off, none⟩) k cap) n us' { R' with w := R'.w.set i (tkF (gW R'.w i)) } [⟨52, sl z 3, [zV ml, zV mr, zV mo]⟩]) ∧ Up0 B wr X') := by
        show Calls _ _ _ _ _
        have := take_st HS.out (i := i) (H := H) (by omega) hpos HO.out.1 hHb
        rw [hp] at this
        exact this
      have hR2 : ∀ (us2 : List Value) (W2 : World), RwSt B W2 s A M (.slice (some ⟨b, off, none⟩) k cap) n us2 { R' with w := R'.w.set i (tkF (gW R'.w i)) } [⟨52, sl z 3, [zV ml, zV mr, zV mo]⟩] →
          W2.cell? ⟨s.tb, p, none⟩ = some (zV (gI R'.t p)) ∧ W2.cell? ⟨s.tb, q, none⟩ = some (zV (gI R'.t q)) ∧ W2.cell? ⟨s.nb, p, none⟩ = some (zV (q : Int)) := fun us2 W2 h2 => by
        have e1 := h2.tok.geI h2.bt p (by omega)
        have e2 := h2.tok.geI h2.bt q (by omega)
        have e3 := h2.nxt.geI h2.bn p (by omega)
        exact ⟨e1, e2, by rw [e3]; show some (zV (gI R'.n p)) = _; rw [hqe]⟩
      have hO2 : Hle { R' with w := R'.w.set i (tkF (gW R'.w i)) } H ∧ Hok { R' with w := R'.w.set i (tkF (gW R'.w i)) } n ∧ Nok { R' with w := R'.w.set i (tkF (gW R'.w i)) } n := ⟨HO.out.1.set (by rw [tkF_len]; have := HO.out.1 i; omega), HO.out.2.1.take (by omega), HO.out.2.2⟩
      have hlen2 : (gW (R'.w.set i (tkF (gW R'.w i))) i).length ≤ m := by
        rw [gW_set]
        split
        · rw [tkF_len]; omega
        · rename_i e; exact absurd ⟨rfl, by rw [HS.out.bw]; omega⟩ e
      have hlen3 : (gW (R'.w.set i (tkF (gW R'.w i))) i).length < (gW R'.w i).length := by
        rw [gW_set]
        split
        · rw [tkF_len]; omega
        · rename_i e; exact absurd ⟨rfl, by rw [HS.out.bw]; omega⟩ e
      have HR2 := show Hid _ from hR2
      have HO2 := show Hid _ from hO2
      have HSt := show Hid _ from hstep
      have HL3 := show Hid _ from hlen3
      have HL0 := show Hid _ from hL0
      clear hR2 hO2 hstep HS HF' HO hu hg hL0 hlen3
      generalize hRR : ({ R' with w := R'.w.set i (tkF (gW R'.w i)) } : Ro) = R2 at *
      have hRw : R'.w.set i (tkF (gW R'.w i)) = R2.w := by rw [← hRR]
      rw [hRw] at hlen2 HL3
      generalize gI R'.t p = y0 at *
      generalize gI R'.t q = y1 at *
      generalize hLL : (gW R'.w i).length = L at *
      clear hRR hRw hLL
      have hp1 : p < n := by omega
      have hq1 : q < n := by omega
      have hL1 : decide ((L : Int) > 0) = true := by simp; omega
      have hL2 : (0 : Int) < (L : Int) := by omega
      go_wp2_with fail
      refine HTk.out.mono ?_
      rintro e W2 ⟨rfl, ⟨us2, hS2⟩, hK2⟩
      have HS2 := show Hid _ from hS2
      have HU2 : Hid (Up0 B X W2) := HU.out.trans hK2
      obtain ⟨k1, k2, k3⟩ := HR2.out us2 W2 hS2
      obtain ⟨r0, r1, _, r3⟩ := hS2.cR
      have x0 := hS2.extra.geV rfl 0 (by omega)
      have x1 := hS2.extra.geV rfl 1 (by omega)
      clear HTk HR2 hS2 HU hK2
      have z0 : ([zV ml, zV mr, zV mo] : List Value).getD 0 nilV = zV ml := rfl
      have z1 : ([zV ml, zV mr, zV mo] : List Value).getD 1 nilV = zV mr := rfl
      rw [z0] at x0
      rw [z1] at x1
      clear z0 z1
      by_cases hA : y0 = ml
      · have dA : (y0 == ml) = true := by simpa using hA
        by_cases hB : y1 = mr
        · have dB : (y1 == mr) = true := by simpa using hB
          have HE : Hid (F = (some p, R2)) := by show _ = _; rw [← HSt.out, if_pos ⟨hA, hB⟩]
          clear HSt hA hB
          go_wp2_with fail
          go_quiet (fail)
          go_wp2
          go_ret2
          rw [HE.out]
          exact ⟨rfl, ⟨us2, (HS2.out.less).drewN _⟩, HU2.out.drewN _⟩
        · have dB : (y1 == mr) = false := by simpa using hB
          have HE : Hid (fstF M i m R2 = F) := by show _ = _; rw [← HSt.out, if_neg (fun e => hB e.2)]
          clear HSt hA hB
          go_wp2_with fail
          go_quiet (fail)
          go_wp2
          go_roundw
          case rel => exact ⟨R2, us2, m, HS2.out.drewN _, HE.out, hlen2, HO2.out, HU2.out.drewN _⟩
          case measure =>
            obtain ⟨ao2, cp2, hu2, _⟩ := HS2.out.heap (i := i) (by omega)
            have w2 := HS2.out.wai.geV HS2.out.bu i (by omega)
            rw [hu2] at w2
            have hL4 : hlenAt W2 s.wb i = (gW R2.w i).length := by unfold hlenAt; rw [w2]
            rw [HL0.out]
            exact Nat.lt_of_le_of_lt (Nat.le_of_eq hL4) HL3.out
      · have dA : (y0 == ml) = false := by simpa using hA
        have HE : Hid (fstF M i m R2 = F) := by show _ = _; rw [← HSt.out, if_neg (fun e => hA e.1)]
        clear HSt hA
        go_wp2_with fail
        go_quiet (fail)
        go_wp2
        go_roundw
        case rel => exact ⟨R2, us2, m, HS2.out.drewN _, HE.out, hlen2, HO2.out, HU2.out.drewN _⟩
        case measure =>
          obtain ⟨ao2, cp2, hu2, _⟩ := HS2.out.heap (i := i) (by omega)
          have w2 := HS2.out.wai.geV HS2.out.bu i (by omega)
          rw [hu2] at w2
          have hL4 : hlenAt W2 s.wb i = (gW R2.w i).length := by unfold hlenAt; rw [w2]
          rw [HL0.out]
          exact Nat.lt_of_le_of_lt (Nat.le_of_eq hL4) HL3.out
end Go.Proofs.Ytjjpkidmlpmgaaa
