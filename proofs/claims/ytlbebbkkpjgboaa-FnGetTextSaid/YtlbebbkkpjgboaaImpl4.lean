/-
  Contracts of chapter 4's program: where a print stands in a store.
-/
import Derived.Test.YtlbebbkkpjgboaaStores3
import Derived.Test.YtlbebbkkpjgboaaChunks2
namespace Go.Proofs.Ytlbebbkkpjgboaa
open Go.RowKit
set_option linter.unusedVariables false
def cmpB (x y : Int) : Int := if x < y then -1 else if y < x then 1 else 0
theorem isNaN_any (x : Int) (w : World) : Calls Try.prog 79 #[.int .i64 x] w fun e w' => e = .returned (.bool false) ∧ w = w' := by
  have h : (x != x) = false := by simp
  go_enter Try.func79, Try.ntmps79
  go_wp2
  go_ret
  exact ⟨rfl, rfl⟩
theorem compare_any (x y : Int) (w : World) : Calls Try.prog 70 #[.int .i64 x, .int .i64 y] w fun e w' => e = .returned (.int .i64 (cmpB x y)) ∧ w = w' := by
  by_cases h1 : x < y
  · have HF := Lib.hid (show cmpB x y = -1 by unfold cmpB; rw [if_pos h1])
    go_enter Try.func70, Try.ntmps70
    go_wp2_with (go_at_call 79; refine (isNaN_any _ _).mono ?_; rintro e w' ⟨rfl, rfl⟩)
    go_ret
    exact ⟨ret_int HF.out.symm, rfl⟩
  · by_cases h2 : y < x
    · have HF := Lib.hid (show cmpB x y = 1 by unfold cmpB; rw [if_neg h1, if_pos h2])
      have h3 : x > y := h2
      go_enter Try.func70, Try.ntmps70
      go_wp2_with (go_at_call 79; refine (isNaN_any _ _).mono ?_; rintro e w' ⟨rfl, rfl⟩)
      go_ret
      exact ⟨ret_int HF.out.symm, rfl⟩
    · have HF := Lib.hid (show cmpB x y = 0 by unfold cmpB; rw [if_neg h1, if_neg h2])
      go_enter Try.func70, Try.ntmps70
      go_wp2_with (go_at_call 79; refine (isNaN_any _ _).mono ?_; rintro e w' ⟨rfl, rfl⟩)
      go_ret
      exact ⟨ret_int HF.out.symm, rfl⟩
theorem comparePrint_any (p : Pc) (y : Int) (w : World) : Calls Try.prog 55 #[.agg #[.int .i64 p.1, .string p.2], .int .i64 y] w (BelowI (cmpB p.1 y) w) := by
  go_enter Try.func55, Try.ntmps55
  go_wp2_with (go_at_call 70; refine (compare_any _ _ _).mono ?_; rintro e w' ⟨rfl, rfl⟩)
  go_ret
  exact ⟨rfl, (Below.refl _ _).alloc (Nat.le_refl _) _⟩
/-- Prints ascend. -/
def AscP (l : List Pc) : Prop := ∀ i j, i < j → j < l.length → (nthP l i).1 < (nthP l j).1
theorem store_asc {l : List Pc} (h : storeB l = true) : AscP l := fun i j hij hj => by
  rw [nthP_get (by omega), nthP_get hj]
  exact List.pairwise_iff_getElem.1 (storeB_iff.1 h).2.2 i j (by omega) hj hij
theorem cmpB_lt {x y : Int} : (cmpB x y < 0) ↔ x < y := by unfold cmpB; (repeat' split) <;> omega
theorem cmpB_eq {x y : Int} : (cmpB x y = 0) ↔ x = y := by unfold cmpB; (repeat' split) <;> omega
set_option maxHeartbeats 1000000 in
theorem search_any (x : Option Addr) (n cap : Nat) (l : List Pc) (t : Int) (B : Nat) (w : World) (h : Pcs w B x n cap l) (hB : B ≤ w.heap.size) (hs : AscP l) (hn : n ≤ 1000000) :
    Calls Try.prog 54 #[.slice x n cap, .int .i64 t, .func (.func 55) #[] #[]] w fun e w' => e = .returned (.tuple #[.int .i64 (atP t l : Nat), .bool (hereP t l)]) ∧ Below w.heap.size w w' := by
  have HL := Lib.hid h.len
  have HH := Lib.hid h
  have HS := Lib.hid hs
  have hmx := h.max
  have hle := h.le
  clear h hs
  unfold maxLen at hmx
  go_enter Try.func54, Try.ntmps54
  go_wp2
  go_loopw [9, 10, 11] (fun i j _ wr => ∃ a b : Nat, a ≤ b ∧ b ≤ n ∧ i = .int .i64 a ∧ j = .int .i64 b ∧ (∀ k, k < a → (nthP l k).1 < t) ∧ (∀ k, b ≤ k → k < n → t ≤ (nthP l k).1) ∧ Below w.heap.size w wr) (fun i j _ _ => (intOf j).toNat - (intOf i).toNat)
  case atStart => exact ⟨0, n, by omega, Nat.le_refl _, rfl, rfl, fun k hk => by omega, fun k hk hk' => by omega, Below.refl _ _⟩
  case round =>
    obtain ⟨a, b, hab, hbn, rfl, rfl, hlo, hhi, hb⟩ := hrel
    have HLO := Lib.hid hlo; have HHI := Lib.hid hhi; have HB := Lib.hid hb; clear hlo hhi hb
    by_cases hlt : a < b
    · have hmb : (a + b) / 2 < n := by omega
      obtain ⟨b0, off, rfl, hb0, hc0, hc1⟩ := (HH.out.below HB.out hB).atP hmb
      obtain ⟨q, hq⟩ : ∃ q, q = nthP l ((a + b) / 2) := ⟨_, rfl⟩
      rw [← hq] at hc0 hc1
      by_cases hx : q.1 < t
      · have hc : cmpB q.1 t < 0 := cmpB_lt.2 hx
        have HX := Lib.hid (show ∀ k, k < (a + b) / 2 + 1 → (nthP l k).1 < t from fun k hk => by
          rcases Nat.lt_succ_iff_lt_or_eq.1 hk with h | rfl
          · have := HS.out k _ h (by have := HL.out; omega); rw [← hq] at this; omega
          · rw [← hq]; exact hx)
        clear hq
        go_wp2_with (go_at_call 55; refine (comparePrint_any q _ _).mono ?_; rintro e w2 ⟨rfl, hb⟩; have HB2 := Lib.hid (HB.out.trans (hb.mono HB.out.size)); clear hb)
        go_roundw
        case rel => exact ⟨(a + b) / 2 + 1, b, by omega, hbn, by go_num, rfl, HX.out, HHI.out, HB2.out⟩
        case measure => simp [intOf]; omega
      · have hc : ¬ cmpB q.1 t < 0 := fun h => hx (cmpB_lt.1 h)
        have HX := Lib.hid (show ∀ k, (a + b) / 2 ≤ k → k < n → t ≤ (nthP l k).1 from fun k hk hkn => by
          rcases Nat.lt_or_eq_of_le hk with h | rfl
          · have := HS.out _ k h (by have := HL.out; omega); rw [← hq] at this; omega
          · rw [← hq]; omega)
        clear hq
        go_wp2_with (go_at_call 55; refine (comparePrint_any q _ _).mono ?_; rintro e w2 ⟨rfl, hb⟩; have HB2 := Lib.hid (HB.out.trans (hb.mono HB.out.size)); clear hb)
        go_roundw
        case rel => exact ⟨a, (a + b) / 2, by omega, by omega, rfl, by go_num, HLO.out, HX.out, HB2.out⟩
        case measure => simp [intOf]; omega
    · obtain rfl : a = b := by omega
      have HA := Lib.hid (atP_eq (p := t) (l := l) (k := a) (by have := HL.out; omega) HLO.out (by
        rcases Nat.lt_or_ge a n with h | h
        · exact .inr (by have := HHI.out a (Nat.le_refl _) h; omega)
        · left; have := HL.out; omega))
      by_cases hlt2 : a < n
      · obtain ⟨b0, off, rfl, hb0, hc0, hc1⟩ := (HH.out.below HB.out hB).atP hlt2
        obtain ⟨q, hq⟩ : ∃ q, q = nthP l a := ⟨_, rfl⟩
        rw [← hq] at hc0 hc1
        have hd : ((a : Int) < (n : Int)) := by omega
        by_cases hx : q.1 = t
        · have hc : (cmpB q.1 t == 0) = true := by simpa using cmpB_eq.2 hx
          have HX := Lib.hid (hereP_yes HA.out (by have := HL.out; omega) (by rw [← hq]; exact hx))
          clear hq hx
          go_wp2_with (go_at_call 55; refine (comparePrint_any q _ _).mono ?_; rintro e w2 ⟨rfl, hb⟩; have HB2 := Lib.hid (HB.out.trans (hb.mono HB.out.size)); clear hb)
          go_ret2
          exact ⟨by rw [HA.out, HX.out]; rfl, HB2.out⟩
        · have hc : (cmpB q.1 t == 0) = false := by simpa using fun h => hx (cmpB_eq.1 h)
          have HX := Lib.hid (hereP_no2 HA.out (by rw [← hq]; exact hx))
          clear hq hx
          go_wp2_with (go_at_call 55; refine (comparePrint_any q _ _).mono ?_; rintro e w2 ⟨rfl, hb⟩; have HB2 := Lib.hid (HB.out.trans (hb.mono HB.out.size)); clear hb)
          go_ret2
          exact ⟨by rw [HA.out, HX.out]; rfl, HB2.out⟩
      · have hd : ¬ ((a : Int) < (n : Int)) := by omega
        have HX := Lib.hid (hereP_no1 HA.out (by have := HL.out; omega))
        go_wp2
        go_ret2
        exact ⟨by rw [HA.out, HX.out]; rfl, HB.out⟩
theorem placeOf_any (x : Option Addr) (n cap : Nat) (l : List Pc) (t : Int) (B : Nat) (w : World) (h : Pcs w B x n cap l) (hB : B ≤ w.heap.size) (hs : AscP l) (hn : n ≤ 1000000) :
    Calls Try.prog 34 #[.slice x n cap, .int .i64 t] w fun e w' => e = .returned (.tuple #[.int .i64 (atP t l : Nat), .bool (hereP t l)]) ∧ Below w.heap.size w w' := by
  have HH := Lib.hid h
  clear h
  go_enter Try.func34, Try.ntmps34
  go_wp2_with (go_at_call 54; refine (search_any _ _ _ _ _ _ _ HH.out hB hs hn).mono ?_; rintro e w' ⟨rfl, hb⟩)
  go_ret2
  exact ⟨rfl, hb⟩
theorem two_at {w : World} {r : Nat} {u v : Value} {t : TypeId} (h : w.heap[r]? = some (.cells #[u, v] t (0, 0))) :
    w.cell? ⟨r, 0, none⟩ = some u ∧ w.cell? ⟨r, 1, none⟩ = some v ∧ w.frozen? ⟨r, 0, none⟩ = false ∧ w.frozen? ⟨r, 1, none⟩ = false := by
  refine ⟨?_, ?_, ?_, ?_⟩ <;> simp [World.cell?, World.frozen?, h]
end Go.Proofs.Ytlbebbkkpjgboaa
