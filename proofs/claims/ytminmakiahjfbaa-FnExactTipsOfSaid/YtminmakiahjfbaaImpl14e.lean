/-
  Chapter 14's program: tips.
-/
import Derived.Test.YtminmakiahjfbaaImpl14a
namespace Go.Proofs.Ytminmakiahjfbaa
open Go.RowKit
set_option linter.unusedVariables false
theorem named_yes {l : List Ver} {k j : Nat} (hj : j < l.length) (h : (nthV l j).2.1 = (k : Int)) : namedV l k = true := by
  unfold namedV
  exact List.any_eq_true.2 ⟨l[j], List.getElem_mem _, by rw [← nthV_get hj]; exact decide_eq_true h⟩
theorem named_no {l : List Ver} {k : Nat} (h : ∀ j, j < l.length → (nthV l j).2.1 ≠ (k : Int)) : namedV l k = false := by
  cases hn : namedV l k
  · rfl
  · obtain ⟨j, hj, e⟩ := named_at hn
    exact absurd e (h j hj)
theorem isBeforeAny_any (x : Option Addr) (n cap : Nat) (l : List Ver) (k : Nat) (B : Nat) (w : World) (h : Vers w B x n cap l) (hB : B ≤ w.heap.size) :
    Calls Try.prog 54 #[.slice x n cap, .int .i64 k] w (BelowB (namedV l k) w) := by
  have HL := Lib.hid h.len
  have HH := Lib.hid h
  have hmx := h.max
  have hle := h.le
  clear h
  unfold maxLen at hmx
  go_enter Try.func54, Try.ntmps54
  go_wp2
  go_loopw [6, 9] (fun _ i wr => ∃ j : Nat, j ≤ n ∧ i = .int .i64 j ∧ (∀ i, i < j → (nthV l i).2.1 ≠ (k : Int)) ∧ Below w.heap.size w wr) (fun _ i _ => n - (intOf i).toNat)
  case atStart => exact ⟨0, by omega, rfl, fun j hj => by omega, Below.refl _ _⟩
  case round =>
    obtain ⟨j, hj, rfl, ha, hb⟩ := hrel
    have HA := Lib.hid ha; have HB := Lib.hid hb; clear ha hb
    have hsz := HB.out.size
    by_cases hlt : j < n
    · have hjl : j < l.length := by have := HL.out; omega
      obtain ⟨b0, off, rfl, hb0, hc0, hc1, hc2⟩ := (HH.out.below HB.out hB).atV hlt
      have HBW := Lib.hid (HB.out.alloc hsz (.cells #[.int .i64 (nthV l j).1, .int .i64 (nthV l j).2.1, .string (nthV l j).2.2] 27))
      obtain ⟨p0, p1, p2⟩ := three_at (heap_alloc_new wr (.cells #[.int .i64 (nthV l j).1, .int .i64 (nthV l j).2.1, .string (nthV l j).2.2] 27))
      by_cases he : (nthV l j).2.1 = (k : Int)
      · have hd : ((nthV l j).2.1 == (k : Int)) = true := by simpa using he
        have HF := Lib.hid (named_yes hjl he)
        clear he
        go_wp2
        go_ret
        exact ⟨ret_bool HF.out.symm, HBW.out⟩
      · have hd : ((nthV l j).2.1 == (k : Int)) = false := by simpa using he
        have HE := Lib.hid he
        clear he
        go_wp2
        go_roundw
        case rel => exact ⟨j + 1, by omega, by go_num, fun i hi => by rcases Nat.lt_succ_iff_lt_or_eq.1 hi with h | rfl; exact HA.out i h; exact HE.out, HBW.out⟩
        case measure => simp [intOf]; omega
    · have HF := Lib.hid (named_no (l := l) (k := k) fun i hi => HA.out i (by have := HL.out; omega))
      go_wp2
      go_ret
      exact ⟨ret_bool HF.out.symm, HB.out⟩
theorem implTipsOf_any (x : Option Addr) (n cap : Nat) (l : List Ver) (B : Nat) (w : World) (h : Vers w B x n cap l) (hB : B ≤ w.heap.size) (hz : ∀ k, (nthV l k).2.2.size ≤ maxLen) :
    Calls Try.prog 30 #[.slice x n cap] w (NewI (tipsB l) w) := by
  have HL := Lib.hid h.len
  have hmx := h.max
  have hle := h.le
  unfold maxLen at hmx
  have HV := Lib.hid (implVersionsValid_any x n cap l B w h hB hz)
  have HH := Lib.hid h
  have HNO := Lib.hid (show versB l = false → tipsB l = [] from fun e => by unfold tipsB; rw [if_neg (by rw [e]; simp)])
  have HYE := Lib.hid (show versB l = true → tipsB l = tipsK l n from fun e => by unfold tipsB; rw [if_pos e, ← HL.out]; rfl)
  have HFE := Lib.hid (show versB l = true → n ≤ 12 from fun e => by have := (versB_at e).1; rw [HL.out] at this; exact this)
  clear h hz
  cases hv : versB l
  · have HF := Lib.hid (HNO.out hv)
    go_enter Try.func30, Try.ntmps30
    go_wp2_with (go_at_call 14; refine HV.out.mono ?_; rintro e w1 ⟨rfl, hb⟩; have HB := Lib.hid hb; clear hb; rw [hv])
    go_ret
    exact ⟨_, rfl, by rw [HF.out]; exact OwnI.nil _ _, HB.out⟩
  have HVB := Lib.hid hv
  have HF := Lib.hid (HYE.out hv)
  have hn12 := HFE.out hv
  clear hv
  go_enter Try.func30, Try.ntmps30
  go_wp2_with (go_at_call 14; refine HV.out.mono ?_; rintro e w1 ⟨rfl, hb⟩; have HB0 := Lib.hid hb; clear hb; rw [HVB.out])
  go_loopw [3, 4, 10] (fun v _ i wr => ∃ k : Nat, k ≤ n ∧ i = .int .i64 k ∧ OwnI wr w.heap.size v (tipsK l k) ∧ Below w.heap.size w wr) (fun _ _ i _ => n - (intOf i).toNat)
  case atStart => exact ⟨0, by omega, rfl, OwnI.nil _ _, HB0.out⟩
  case round =>
    obtain ⟨k, hk, rfl, ho, hb⟩ := hrel
    have HO := Lib.hid ho; have HB := Lib.hid hb
    have hsz := hb.size
    clear ho hb
    by_cases hlt : k < n
    · have htl : (tipsK l k).length ≤ 2000000 := by have := tipsK_len l k; omega
      have HB1 := Lib.hid (isBeforeAny_any x n cap l k B wr (HH.out.below HB.out hB) (Nat.le_trans hB hsz))
      cases hm : namedV l k
      · have HE := Lib.hid (tipsK_yes hm); have HM := Lib.hid hm
        clear hm
        go_wp2_with (first
          | (go_at_call 54; refine HB1.out.mono ?_; rintro e w2 ⟨rfl, hb⟩; have HO2 := Lib.hid (OwnI.below HO.out hb); have HB2 := Lib.hid (HB.out.trans (hb.mono hsz)); have hsz2 := HB2.out.size; clear hb; rw [HM.out])
          | (at_builtin; refine wpList_app1I (k : Int) HO2.out htl hsz2 rfl _ _ rfl rfl rfl ?_; intro v' w' hown hgrow; have HW := Lib.hid hown; have HBN := Lib.hid (HB2.out.grown hgrow hsz2 HO2.out.at); clear hown hgrow))
        go_roundw
        case rel => exact ⟨k + 1, by omega, by go_num, by rw [HE.out]; exact HW.out, HBN.out⟩
        case measure => simp [intOf]; omega
      · have HE := Lib.hid (tipsK_no hm); have HM := Lib.hid hm
        clear hm
        go_wp2_with (go_at_call 54; refine HB1.out.mono ?_; rintro e w2 ⟨rfl, hb⟩; have HO2 := Lib.hid (OwnI.below HO.out hb); have HB2 := Lib.hid (HB.out.trans (hb.mono hsz)); have hsz2 := HB2.out.size; clear hb; rw [HM.out])
        go_roundw
        case rel => exact ⟨k + 1, by omega, by go_num, by rw [HE.out]; exact HO2.out, HB2.out⟩
        case measure => simp [intOf]; omega
    · obtain rfl : k = n := by omega
      go_wp2
      go_ret
      exact ⟨_, rfl, by rw [HF.out]; exact HO.out, HB.out⟩
end Go.Proofs.Ytminmakiahjfbaa
