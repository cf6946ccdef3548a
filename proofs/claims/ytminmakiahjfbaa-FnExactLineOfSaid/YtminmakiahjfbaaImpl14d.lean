/-
  Chapter 14's program: lines, and the nearest one of both.
-/
import Derived.Test.YtminmakiahjfbaaImpl14a
namespace Go.Proofs.Ytminmakiahjfbaa
open Go.RowKit
set_option linter.unusedVariables false
theorem hasVersion_any (x : Option Addr) (n cap : Nat) (m : Int) (w : World) : Calls Try.prog 53 #[.slice x n cap, .int .i64 m] w fun e w' => e = .returned (.bool (in3 m 0 ((n : Int) - 1))) ∧ w = w' := by
  by_cases h0 : 0 ≤ m
  · by_cases h1 : m < (n : Int)
    · have HF := Lib.hid (show in3 m 0 ((n : Int) - 1) = true from in3_yes h0 (by omega))
      go_enter Try.func53, Try.ntmps53
      go_wp2
      go_ret
      exact ⟨ret_bool HF.out.symm, rfl⟩
    · have HF := Lib.hid (show in3 m 0 ((n : Int) - 1) = false from in3_hi (by omega))
      go_enter Try.func53, Try.ntmps53
      go_wp2
      go_ret
      exact ⟨ret_bool HF.out.symm, rfl⟩
  · have HF := Lib.hid (show in3 m 0 ((n : Int) - 1) = false from in3_lo h0)
    go_enter Try.func53, Try.ntmps53
    go_wp2
    go_ret
    exact ⟨ret_bool HF.out.symm, rfl⟩
set_option maxHeartbeats 1000000 in
theorem implLineOf_any (x : Option Addr) (n cap : Nat) (l : List Ver) (m : Int) (B : Nat) (w : World) (h : Vers w B x n cap l) (hB : B ≤ w.heap.size) (hz : ∀ k, (nthV l k).2.2.size ≤ maxLen) :
    Calls Try.prog 21 #[.slice x n cap, .int .i64 m] w (NewI (lineB l m) w) := by
  have HL := Lib.hid h.len
  have hmx := h.max
  have hle := h.le
  unfold maxLen at hmx
  have HV := Lib.hid (implVersionsValid_any x n cap l B w h hB hz)
  have HW0 := Lib.hid h
  clear h hz
  cases hv : versB l
  · have HF := Lib.hid (lineB_no (l := l) (n := m) (.inl hv))
    go_enter Try.func21, Try.ntmps21
    go_wp2_with (go_at_call 14; refine HV.out.mono ?_; rintro e w1 ⟨rfl, hb⟩; have HB := Lib.hid hb; clear hb; rw [hv])
    go_ret
    exact ⟨_, rfl, by rw [HF.out]; exact OwnI.nil _ _, HB.out⟩
  have HVB := Lib.hid hv
  clear hv
  cases hi : in3 m 0 ((n : Int) - 1)
  · have HF := Lib.hid (lineB_no (l := l) (n := m) (.inr (by rw [HL.out]; exact hi)))
    have HI := Lib.hid hi
    clear hi
    go_enter Try.func21, Try.ntmps21
    go_wp2_with (first
      | (go_at_call 14; refine HV.out.mono ?_; rintro e w1 ⟨rfl, hb⟩; have HB := Lib.hid hb; clear hb; rw [HVB.out])
      | (go_at_call 53; refine (hasVersion_any _ _ _ _ _).mono ?_; rintro e w' ⟨rfl, hw⟩; subst hw; rw [HI.out]))
    go_ret
    exact ⟨_, rfl, by rw [HF.out]; exact OwnI.nil _ _, HB.out⟩
  have HI := Lib.hid hi
  have hbd : 0 ≤ m ∧ m ≤ (n : Int) - 1 := by unfold in3 at hi; exact of_decide_eq_true hi
  obtain ⟨m0, rfl⟩ : ∃ k : Nat, m = (k : Int) := ⟨m.toNat, by omega⟩
  have HF := Lib.hid (lineB_yes (l := l) (n := m0) HVB.out (by have := HL.out; omega))
  have hlen12 := lineB_len l m0
  rw [HF.out] at hlen12
  have H12 := Lib.hid hlen12
  clear hi hlen12
  go_enter Try.func21, Try.ntmps21
  go_wp2_with (first
    | (go_at_call 14; refine HV.out.mono ?_; rintro e w1 ⟨rfl, hb⟩; have HB0 := Lib.hid hb; clear hb; rw [HVB.out])
    | (go_at_call 53; refine (hasVersion_any _ _ _ _ _).mono ?_; rintro e w' ⟨rfl, hw⟩; subst hw; rw [HI.out]))
  go_loopw [1, 5] (fun nv ov wr => ∃ (v : Int) (pre : List Int), nv = .int .i64 v ∧ -1 ≤ v ∧ v < (n : Int) ∧ OwnI wr w.heap.size ov pre ∧ pre ++ lineI l v = lineI l m0 ∧ Below w.heap.size w wr) (fun nv _ _ => (intOf nv + 1).toNat)
  case atStart => exact ⟨m0, [], rfl, by omega, by omega, OwnI.nil _ _, rfl, HB0.out⟩
  case round =>
    obtain ⟨v, pre, rfl, hv0, hvn, ho, hp, hb⟩ := hrel
    have HO := Lib.hid ho; have HP := Lib.hid hp; have HB := Lib.hid hb
    have hsz := hb.size
    clear ho hp hb
    by_cases hneg : v = -1
    · have HE := Lib.hid (show pre = lineI l m0 by have := HP.out; rw [lineI_neg (by omega), List.append_nil] at this; exact this)
      subst hneg
      go_wp2
      go_ret
      exact ⟨_, rfl, by rw [HF.out, ← HE.out]; exact HO.out, HB.out⟩
    · obtain ⟨k, rfl⟩ : ∃ k : Nat, v = (k : Int) := ⟨v.toNat, by omega⟩
      have hkn : k < n := by omega
      have hkl : k < l.length := by have := HL.out; omega
      have HST := Lib.hid (lineI_step HVB.out hkl)
      have hok := okV_at ((versB_at HVB.out).2 k hkl)
      have hpre : pre.length ≤ 2000000 := by
        have h1 := congrArg List.length HP.out
        rw [List.length_append] at h1
        have := H12.out
        omega
      have hd : ((k : Int) == -1) = false := by simp <;> omega
      have hd2 : ((k : Int) != -1) = true := by simp <;> omega
      obtain ⟨b, off, rfl, hbb, hc0, hc1, hc2⟩ := (HW0.out.below HB.out hB).atV hkn
      obtain ⟨u, hu⟩ : ∃ u, (nthV l k).2.1 = u := ⟨_, rfl⟩
      rw [hu] at HST hok
      have HU := Lib.hid hu
      clear hu hc0 hc1 hc2 hneg
      go_wp2_with (at_builtin; refine wpList_app1I (k : Int) HO.out hpre hsz rfl _ _ rfl rfl rfl ?_; intro v' w' hown hgrow; have HW := Lib.hid hown; have HBN := Lib.hid (HB.out.grown hgrow hsz HO.out.at); obtain ⟨b', off', e', _, d0, d1, d2⟩ := (HW0.out.below HBN.out hB).atV hkn; simp only [Option.some.injEq, Addr.mk.injEq, and_true] at e'; obtain ⟨rfl, rfl⟩ := e'; rw [HU.out] at d1; clear hown hgrow d0 d2)
      go_roundw
      case rel => exact ⟨u, pre ++ [(k : Int)], rfl, by omega, by omega, HW.out, by rw [← HP.out, HST.out, List.append_assoc]; rfl, HBN.out⟩
      case measure => simp [intOf]; omega
/-! ### the nearest one -/
theorem find_same {p q : Int → Bool} : ∀ {xs : List Int}, (∀ z ∈ xs, p z = q z) → xs.find? p = xs.find? q
  | [], _ => rfl
  | x :: xs, h => by rw [List.find?_cons, List.find?_cons, h x (List.mem_cons_self ..), find_same fun z hz => h z (List.mem_cons_of_mem _ hz)]
/-- The nearest one, from two places on. -/
def nearI (l : List Ver) (u v : Int) : Int := ((lineI l u).find? fun z => decide (z ∈ lineI l v)).getD (-1)
theorem nearB_start {l : List Ver} (h : versB l = true) {a b : Nat} (ha : a < l.length) (hb : b < l.length) : nearB l a b = nearI l a b := by
  unfold nearB nearI
  rw [lineB_yes h ha, lineB_yes h hb]
theorem nearB_no {l : List Ver} {a b : Int} (h : lineB l a = [] ∨ lineB l b = []) : nearB l a b = -1 := by
  unfold nearB
  rcases h with h | h
  · rw [h]; rfl
  · rw [h, List.find?_eq_none.2 (by simp)]; rfl
theorem lineI_le {l : List Ver} (h : versB l = true) {u z : Int} (hu : u < (l.length : Int)) (hz : z ∈ lineI l u) : z ≤ u := by
  by_cases hn : u < 0
  · rw [lineI_neg hn] at hz; cases hz
  · obtain ⟨k, rfl⟩ : ∃ k : Nat, u = (k : Int) := ⟨u.toNat, by omega⟩
    exact (lineI_mem h k (by omega) z hz).2
theorem nearI_same {l : List Ver} (h : versB l = true) {u : Int} (h0 : -1 ≤ u) (hu : u < (l.length : Int)) : nearI l u u = u := by
  unfold nearI
  by_cases hn : u < 0
  · rw [lineI_neg hn]; show (-1 : Int) = u; omega
  · obtain ⟨k, rfl⟩ : ∃ k : Nat, u = (k : Int) := ⟨u.toNat, by omega⟩
    have hs := lineI_self h (n := k) (by omega)
    rw [show (lineI l k).find? (fun z => decide (z ∈ lineI l k)) = some (k : Int) by
      conv => lhs; rw [lineI_step h (n := k) (by omega)]
      rw [List.find?_cons_of_pos (by rw [← lineI_step h (n := k) (by omega)]; exact decide_eq_true hs)]]
    rfl
theorem nearI_left {l : List Ver} (h : versB l = true) {k : Nat} (hk : k < l.length) {v : Int} (hv : v < (k : Int)) : nearI l k v = nearI l (nthV l k).2.1 v := by
  unfold nearI
  rw [lineI_step h hk, List.find?_cons_of_neg (by
    rw [decide_eq_true_eq]
    intro hz
    have := lineI_le h (by omega) hz
    omega)]
theorem nearI_right {l : List Ver} (h : versB l = true) {k : Nat} (hk : k < l.length) {u : Int} (hu : u < (k : Int)) : nearI l u k = nearI l u (nthV l k).2.1 := by
  unfold nearI
  rw [find_same (q := fun z => decide (z ∈ lineI l (nthV l k).2.1)) fun z hz => by
    have := lineI_le h (by omega) hz
    rw [lineI_step h hk]
    simp only [List.mem_cons, decide_eq_decide]
    exact ⟨fun e => by rcases e with e | e; omega; exact e, .inr⟩]
set_option maxHeartbeats 1000000 in
theorem implNearestBoth_any (x : Option Addr) (n cap : Nat) (l : List Ver) (p q : Int) (B : Nat) (w : World) (h : Vers w B x n cap l) (hB : B ≤ w.heap.size) (hz : ∀ k, (nthV l k).2.2.size ≤ maxLen) :
    Calls Try.prog 26 #[.slice x n cap, .int .i64 p, .int .i64 q] w (BelowI (nearB l p q) w) := by
  have HL := Lib.hid h.len
  have hmx := h.max
  have hle := h.le
  unfold maxLen at hmx
  have HV := Lib.hid (implVersionsValid_any x n cap l B w h hB hz)
  have HW0 := Lib.hid h
  clear h hz
  cases hv : versB l
  · have HF := Lib.hid (nearB_no (l := l) (a := p) (b := q) (.inl (lineB_no (.inl hv))))
    go_enter Try.func26, Try.ntmps26
    go_wp2_with (go_at_call 14; refine HV.out.mono ?_; rintro e w1 ⟨rfl, hb⟩; have HB := Lib.hid hb; clear hb; rw [hv])
    go_ret
    exact ⟨ret_int HF.out.symm, HB.out⟩
  have HVB := Lib.hid hv
  clear hv
  cases hi : in3 p 0 ((n : Int) - 1)
  · have HF := Lib.hid (nearB_no (l := l) (a := p) (b := q) (.inl (lineB_no (.inr (by rw [HL.out]; exact hi)))))
    have HI := Lib.hid hi
    clear hi
    go_enter Try.func26, Try.ntmps26
    go_wp2_with (first
      | (go_at_call 14; refine HV.out.mono ?_; rintro e w1 ⟨rfl, hb⟩; have HB := Lib.hid hb; clear hb; rw [HVB.out])
      | (go_at_call 53; refine (hasVersion_any _ _ _ _ _).mono ?_; rintro e w' ⟨rfl, hw⟩; subst hw; rw [HI.out]))
    go_ret
    exact ⟨ret_int HF.out.symm, HB.out⟩
  have HI := Lib.hid hi
  have hbp : 0 ≤ p ∧ p ≤ (n : Int) - 1 := by unfold in3 at hi; exact of_decide_eq_true hi
  clear hi
  cases hj : in3 q 0 ((n : Int) - 1)
  · have HF := Lib.hid (nearB_no (l := l) (a := p) (b := q) (.inr (lineB_no (.inr (by rw [HL.out]; exact hj)))))
    have HJ := Lib.hid hj
    clear hj
    go_enter Try.func26, Try.ntmps26
    go_wp2_with (first
      | (go_at_call 14; refine HV.out.mono ?_; rintro e w1 ⟨rfl, hb⟩; have HB := Lib.hid hb; clear hb; rw [HVB.out])
      | (go_at_call 53; refine (hasVersion_any _ _ _ _ _).mono ?_; rintro e w' ⟨rfl, hw⟩; subst hw; first | rw [HI.out] | rw [HJ.out]))
    go_ret
    exact ⟨ret_int HF.out.symm, HB.out⟩
  have HJ := Lib.hid hj
  have hbq : 0 ≤ q ∧ q ≤ (n : Int) - 1 := by unfold in3 at hj; exact of_decide_eq_true hj
  clear hj
  have HS := Lib.hid (show nearI l p q = nearB l p q by
    obtain ⟨a, rfl⟩ : ∃ k : Nat, p = (k : Int) := ⟨p.toNat, by omega⟩
    obtain ⟨b, rfl⟩ : ∃ k : Nat, q = (k : Int) := ⟨q.toNat, by omega⟩
    have := HL.out
    exact (nearB_start HVB.out (by omega) (by omega)).symm)
  go_enter Try.func26, Try.ntmps26
  go_wp2_with (first
    | (go_at_call 14; refine HV.out.mono ?_; rintro e w1 ⟨rfl, hb⟩; have HB := Lib.hid hb; clear hb; rw [HVB.out])
    | (go_at_call 53; refine (hasVersion_any _ _ _ _ _).mono ?_; rintro e w' ⟨rfl, hw⟩; subst hw; first | rw [HI.out] | rw [HJ.out]))
  go_loopw [1, 2] (fun av bv wr => ∃ u v : Int, av = .int .i64 u ∧ bv = .int .i64 v ∧ -1 ≤ u ∧ u < (n : Int) ∧ -1 ≤ v ∧ v < (n : Int) ∧ nearI l u v = nearB l p q ∧ wr = w1) (fun av bv _ => (intOf av + 1).toNat + (intOf bv + 1).toNat)
  case atStart => exact ⟨p, q, rfl, rfl, by omega, by omega, by omega, by omega, HS.out, rfl⟩
  case round =>
    obtain ⟨u, v, rfl, rfl, hu0, hun, hv0, hvn, hs, rfl⟩ := hrel
    have HN := Lib.hid hs
    clear hs
    by_cases he : u = v
    · subst he
      have HF := Lib.hid ((nearI_same HVB.out hu0 (by have := HL.out; omega)).symm.trans HN.out)
      go_wp2
      go_ret
      exact ⟨ret_int HF.out, HB.out⟩
    have hd : (u == v) = false := by simpa using he
    have hd2 : (u != v) = true := by simpa using he
    by_cases hlt : v < u
    · obtain ⟨k, rfl⟩ : ∃ k : Nat, u = (k : Int) := ⟨u.toNat, by omega⟩
      have hkn : k < n := by omega
      have hkl : k < l.length := by have := HL.out; omega
      have HR := Lib.hid ((nearI_left HVB.out hkl hlt).symm.trans HN.out)
      have hok := okV_at ((versB_at HVB.out).2 k hkl)
      obtain ⟨b, off, rfl, hbb, hc0, hc1, hc2⟩ := (HW0.out.below HB.out hB).atV hkn
      obtain ⟨z, hz⟩ : ∃ z, (nthV l k).2.1 = z := ⟨_, rfl⟩
      rw [hz] at HR hok hc1
      clear hz hc0 hc2 he
      go_wp2
      go_roundw
      case rel => exact ⟨z, v, rfl, rfl, by omega, by omega, by omega, by omega, HR.out, by first | rfl | trivial⟩
      case measure => simp [intOf]; omega
    · obtain ⟨k, rfl⟩ : ∃ k : Nat, v = (k : Int) := ⟨v.toNat, by omega⟩
      have hkn : k < n := by omega
      have hkl : k < l.length := by have := HL.out; omega
      have HR := Lib.hid ((nearI_right HVB.out hkl (by omega)).symm.trans HN.out)
      have hok := okV_at ((versB_at HVB.out).2 k hkl)
      obtain ⟨b, off, rfl, hbb, hc0, hc1, hc2⟩ := (HW0.out.below HB.out hB).atV hkn
      obtain ⟨z, hz⟩ : ∃ z, (nthV l k).2.1 = z := ⟨_, rfl⟩
      rw [hz] at HR hok hc1
      clear hz hc0 hc2 he
      go_wp2
      go_roundw
      case rel => exact ⟨u, z, rfl, rfl, by omega, by omega, by omega, by omega, HR.out, by first | rfl | trivial⟩
      case measure => simp [intOf]; omega
end Go.Proofs.Ytminmakiahjfbaa
