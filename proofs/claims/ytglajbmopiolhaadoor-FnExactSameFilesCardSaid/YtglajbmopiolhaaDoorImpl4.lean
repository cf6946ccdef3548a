/-
  Contracts of chapter 4's program: where a print stands in a store.
-/
import Derived.Test.YtglajbmopiolhaaDoorStores2
import Derived.Test.YtglajbmopiolhaaDoorChunks
import Derived.Test.YtglajbmopiolhaaDoorMem
import Derived.Test.YtglajbmopiolhaaDoorArgs
import Derived.Laws.Externs
import Derived.Shelf.RegionOpenPlain
import Derived.Test.YtglajbmopiolhaaDoorStores
namespace Go.Proofs.YtglajbmopiolhaaDoor
open Go.RowKit
set_option linter.unusedVariables false
def cmpB (x y : Int) : Int := if x < y then -1 else if y < x then 1 else 0
theorem isNaN_any (x : Int) (w : World) : Calls Tryd.prog 82 #[.int .i64 x] w fun e w' => e = .returned (.bool false) ∧ w = w' := by
  have h : (x != x) = false := by simp
  go_enter Tryd.func82, Tryd.ntmps82
  go_wp2
  go_ret
  exact ⟨rfl, rfl⟩
theorem compare_any (x y : Int) (w : World) : Calls Tryd.prog 70 #[.int .i64 x, .int .i64 y] w fun e w' => e = .returned (.int .i64 (cmpB x y)) ∧ w = w' := by
  by_cases h1 : x < y
  · have HF := Lib.hid (show cmpB x y = -1 by unfold cmpB; rw [if_pos h1])
    go_enter Tryd.func70, Tryd.ntmps70
    go_wp2_with (go_at_call 82; refine (isNaN_any _ _).mono ?_; rintro e w' ⟨rfl, rfl⟩)
    go_ret
    exact ⟨ret_int HF.out.symm, rfl⟩
  · by_cases h2 : y < x
    · have HF := Lib.hid (show cmpB x y = 1 by unfold cmpB; rw [if_neg h1, if_pos h2])
      have h3 : x > y := h2
      go_enter Tryd.func70, Tryd.ntmps70
      go_wp2_with (go_at_call 82; refine (isNaN_any _ _).mono ?_; rintro e w' ⟨rfl, rfl⟩)
      go_ret
      exact ⟨ret_int HF.out.symm, rfl⟩
    · have HF := Lib.hid (show cmpB x y = 0 by unfold cmpB; rw [if_neg h1, if_neg h2])
      go_enter Tryd.func70, Tryd.ntmps70
      go_wp2_with (go_at_call 82; refine (isNaN_any _ _).mono ?_; rintro e w' ⟨rfl, rfl⟩)
      go_ret
      exact ⟨ret_int HF.out.symm, rfl⟩
theorem comparePrint_any (p : Pc) (y : Int) (w : World) : Calls Tryd.prog 61 #[.agg #[.int .i64 p.1, .string p.2], .int .i64 y] w (BelowI (cmpB p.1 y) w) := by
  go_enter Tryd.func61, Tryd.ntmps61
  go_wp2_with (go_at_call 70; refine (compare_any _ _ _).mono ?_; rintro e w' ⟨rfl, rfl⟩)
  go_ret
  exact ⟨rfl, (Below.refl _ _).alloc (Nat.le_refl _) _⟩
/-- Prints ascend. -/
def AscP (l : List Pc) : Prop := ∀ i j, i < j → j < l.length → (nthP l i).1 < (nthP l j).1
theorem store_asc {l : List Pc} (h : storeB l = true) : AscP l := fun i j hij hj => by
  rw [nthP_get (by omega), nthP_get hj]
  exact List.pairwise_iff_getElem.1 (storeB_iff.1 h).2.2 i j (by omega) hj hij
theorem cmpB_lt {x y : Int} : (cmpB x y < 0) ↔ x < y := by unfold cmpB; (repeat' split) <;> omega
theorem cmpB_eq {x y : Int} : (cmpB x y = 0) ↔ x = y := by unfold cmpB; (repeat' split) <;> omega
set_option maxHeartbeats 1000000 in
theorem search_any (x : Option Addr) (n cap : Nat) (l : List Pc) (t : Int) (B : Nat) (w : World) (h : Pcs w B x n cap l) (hB : B ≤ w.heap.size) (hs : AscP l) (hn : n ≤ 1000000) :
    Calls Tryd.prog 60 #[.slice x n cap, .int .i64 t, .func (.func 61) #[] #[]] w fun e w' => e = .returned (.tuple #[.int .i64 (atP t l : Nat), .bool (hereP t l)]) ∧ Below w.heap.size w w' := by
  have HL := Lib.hid h.len
  have HH := Lib.hid h
  have HS := Lib.hid hs
  have hmx := h.max
  have hle := h.le
  clear h hs
  unfold maxLen at hmx
  go_enter Tryd.func60, Tryd.ntmps60
  go_wp2
  go_loopw [9, 10, 11] (fun i j _ wr => ∃ a b : Nat, a ≤ b ∧ b ≤ n ∧ i = .int .i64 a ∧ j = .int .i64 b ∧ (∀ k, k < a → (nthP l k).1 < t) ∧ (∀ k, b ≤ k → k < n → t ≤ (nthP l k).1) ∧ Below w.heap.size w wr) (fun i j _ _ => (intOf j).toNat - (intOf i).toNat)
  case atStart => exact ⟨0, n, by omega, Nat.le_refl _, rfl, rfl, fun k hk => by omega, fun k hk hk' => by omega, Below.refl _ _⟩
  case round =>
    obtain ⟨a, b, hab, hbn, rfl, rfl, hlo, hhi, hb⟩ := hrel
    have HLO := Lib.hid hlo; have HHI := Lib.hid hhi; have HB := Lib.hid hb; clear hlo hhi hb
    by_cases hlt : a < b
    · have hmb : (a + b) / 2 < n := by omega
      obtain ⟨b0, off, rfl, hb0, hc0, hc1⟩ := (HH.out.below HB.out hB).atP hmb
      obtain ⟨q, hq⟩ : ∃ q, q = nthP l ((a + b) / 2) := ⟨_, rfl⟩
      rw [← hq] at hc0 hc1
      by_cases hx : q.1 < t
      · have hc : cmpB q.1 t < 0 := cmpB_lt.2 hx
        have HX := Lib.hid (show ∀ k, k < (a + b) / 2 + 1 → (nthP l k).1 < t from fun k hk => by
          rcases Nat.lt_succ_iff_lt_or_eq.1 hk with h | rfl
          · have := HS.out k _ h (by have := HL.out; omega); rw [← hq] at this; omega
          · rw [← hq]; exact hx)
        clear hq
        go_wp2_with (go_at_call 61; refine (comparePrint_any q _ _).mono ?_; rintro e w2 ⟨rfl, hb⟩; have HB2 := Lib.hid (HB.out.trans (hb.mono HB.out.size)); clear hb)
        go_roundw
        case rel => exact ⟨(a + b) / 2 + 1, b, by omega, hbn, by go_num, rfl, HX.out, HHI.out, HB2.out⟩
        case measure => simp [intOf]; omega
      · have hc : ¬ cmpB q.1 t < 0 := fun h => hx (cmpB_lt.1 h)
        have HX := Lib.hid (show ∀ k, (a + b) / 2 ≤ k → k < n → t ≤ (nthP l k).1 from fun k hk hkn => by
          rcases Nat.lt_or_eq_of_le hk with h | rfl
          · have := HS.out _ k h (by have := HL.out; omega); rw [← hq] at this; omega
          · rw [← hq]; omega)
        clear hq
        go_wp2_with (go_at_call 61; refine (comparePrint_any q _ _).mono ?_; rintro e w2 ⟨rfl, hb⟩; have HB2 := Lib.hid (HB.out.trans (hb.mono HB.out.size)); clear hb)
        go_roundw
        case rel => exact ⟨a, (a + b) / 2, by omega, by omega, rfl, by go_num, HLO.out, HX.out, HB2.out⟩
        case measure => simp [intOf]; omega
    · obtain rfl : a = b := by omega
      have HA := Lib.hid (atP_eq (p := t) (l := l) (k := a) (by have := HL.out; omega) HLO.out (by
        rcases Nat.lt_or_ge a n with h | h
        · exact .inr (by have := HHI.out a (Nat.le_refl _) h; omega)
        · left; have := HL.out; omega))
      by_cases hlt2 : a < n
      · obtain ⟨b0, off, rfl, hb0, hc0, hc1⟩ := (HH.out.below HB.out hB).atP hlt2
        obtain ⟨q, hq⟩ : ∃ q, q = nthP l a := ⟨_, rfl⟩
        rw [← hq] at hc0 hc1
        have hd : ((a : Int) < (n : Int)) := by omega
        by_cases hx : q.1 = t
        · have hc : (cmpB q.1 t == 0) = true := by simpa using cmpB_eq.2 hx
          have HX := Lib.hid (hereP_yes HA.out (by have := HL.out; omega) (by rw [← hq]; exact hx))
          clear hq hx
          go_wp2_with (go_at_call 61; refine (comparePrint_any q _ _).mono ?_; rintro e w2 ⟨rfl, hb⟩; have HB2 := Lib.hid (HB.out.trans (hb.mono HB.out.size)); clear hb)
          go_ret2
          exact ⟨by rw [HA.out, HX.out]; rfl, HB2.out⟩
        · have hc : (cmpB q.1 t == 0) = false := by simpa using fun h => hx (cmpB_eq.1 h)
          have HX := Lib.hid (hereP_no2 HA.out (by rw [← hq]; exact hx))
          clear hq hx
          go_wp2_with (go_at_call 61; refine (comparePrint_any q _ _).mono ?_; rintro e w2 ⟨rfl, hb⟩; have HB2 := Lib.hid (HB.out.trans (hb.mono HB.out.size)); clear hb)
          go_ret2
          exact ⟨by rw [HA.out, HX.out]; rfl, HB2.out⟩
      · have hd : ¬ ((a : Int) < (n : Int)) := by omega
        have HX := Lib.hid (hereP_no1 HA.out (by have := HL.out; omega))
        go_wp2
        go_ret2
        exact ⟨by rw [HA.out, HX.out]; rfl, HB.out⟩
theorem placeOf_any (x : Option Addr) (n cap : Nat) (l : List Pc) (t : Int) (B : Nat) (w : World) (h : Pcs w B x n cap l) (hB : B ≤ w.heap.size) (hs : AscP l) (hn : n ≤ 1000000) :
    Calls Tryd.prog 49 #[.slice x n cap, .int .i64 t] w fun e w' => e = .returned (.tuple #[.int .i64 (atP t l : Nat), .bool (hereP t l)]) ∧ Below w.heap.size w w' := by
  have HH := Lib.hid h
  clear h
  go_enter Tryd.func49, Tryd.ntmps49
  go_wp2_with (go_at_call 60; refine (search_any _ _ _ _ _ _ _ HH.out hB hs hn).mono ?_; rintro e w' ⟨rfl, hb⟩)
  go_ret2
  exact ⟨rfl, hb⟩
theorem two_at {w : World} {r : Nat} {u v : Value} {t : TypeId} (h : w.heap[r]? = some (.cells #[u, v] t (0, 0))) :
    w.cell? ⟨r, 0, none⟩ = some u ∧ w.cell? ⟨r, 1, none⟩ = some v ∧ w.frozen? ⟨r, 0, none⟩ = false ∧ w.frozen? ⟨r, 1, none⟩ = false := by
  refine ⟨?_, ?_, ?_, ?_⟩ <;> simp [World.cell?, World.frozen?, h]
end Go.Proofs.YtglajbmopiolhaaDoor
/-
  Contracts of chapter 4's program: copies of stores; valid stores.
-/
namespace Go.Proofs.YtglajbmopiolhaaDoor
open Go.RowKit
set_option linter.unusedVariables false
theorem implStoreValid_any (x : Option Addr) (n cap : Nat) (l : List Pc) (B : Nat) (w : World) (h : Pcs w B x n cap l) (hB : B ≤ w.heap.size) (hz : ∀ k, (nthP l k).2.size ≤ maxLen) : Calls Tryd.prog 14 #[.slice x n cap] w (BelowB (storeB l) w) := by
  have HL := Lib.hid h.len
  have HH := Lib.hid h
  have HZ := Lib.hid hz
  have hmx := h.max
  have hle := h.le
  clear h hz
  unfold maxLen at hmx
  by_cases hbig : 40 < n
  · have HF := Lib.hid (show storeB l = false by unfold storeB; rw [decide_eq_false (by have := HL.out; omega)]; rfl)
    go_enter Tryd.func14, Tryd.ntmps14
    go_wp2
    go_ret
    exact ⟨ret_bool HF.out.symm, Below.refl _ _⟩
  go_enter Tryd.func14, Tryd.ntmps14
  go_wp2
  go_loopw [3, 4, 10] (fun _ _ i wr => ∃ k : Nat, k ≤ n ∧ i = .int .i64 k ∧ (∀ j, j < k → okAt l j = true) ∧ Below w.heap.size w wr) (fun _ _ i _ => n - (intOf i).toNat)
  case atStart => exact ⟨0, by omega, rfl, fun j hj => by omega, Below.refl _ _⟩
  case round =>
    obtain ⟨k, hk, rfl, ha, hb⟩ := hrel
    have HA := Lib.hid ha; have HB := Lib.hid hb; clear ha hb
    have hsz := HB.out.size
    by_cases hlt : k < n
    · have hkl : k < l.length := by have := HL.out; omega
      obtain ⟨b0, off, rfl, hb0, hc0, hc1⟩ := (HH.out.below HB.out hB).atP hlt
      have hzk := HZ.out k
      obtain ⟨W, hW⟩ : ∃ W, wr.alloc (.cells #[.int .i64 (nthP l k).1, .string (nthP l k).2] 37) = W := ⟨_, rfl⟩
      have HV := Lib.hid hW
      have hBW := HB.out.alloc hsz (.cells #[.int .i64 (nthP l k).1, .string (nthP l k).2] 37)
      have hnew := heap_alloc_new wr (.cells #[.int .i64 (nthP l k).1, .string (nthP l k).2] 37)
      rw [hW] at hBW hnew
      obtain ⟨p0, p1, p2, p3⟩ := two_at hnew
      have HBW := Lib.hid hBW
      have HHW := Lib.hid (HH.out.below hBW hB)
      clear hW hnew hBW p2 p3
      cases ht : textB (nthP l k).2
      · have HF := Lib.hid (storeB_bad hkl (okAt_no1 ht))
        go_wp2
        rw [HV.out]
        go_quiet (first | (go_at_call 25; refine Calls.quiet_of_same ((textValid_any _ _ hzk).mono fun _ _ h => ⟨h.1, h.2.symm⟩)) | (go_at_call 26; refine Calls.quiet_of_same ((printOf_any _ _ hzk).mono fun _ _ h => ⟨h.1, h.2.symm⟩)))
        go_wp2
        go_ret
        exact ⟨ret_bool HF.out.symm, below_drewN HBW.out _⟩
      · by_cases he : (nthP l k).1 = printB (nthP l k).2
        · have hd : ((nthP l k).1 != printB (nthP l k).2) = false := by simpa using he
          by_cases h0 : k = 0
          · have HR := Lib.hid (okAt_yes ht he.symm (.inl h0))
            have hd0 : (decide (0 < k)) = false := by simp; omega
            clear he h0
            go_wp2
            rw [HV.out]
            go_quiet (first | (go_at_call 25; refine Calls.quiet_of_same ((textValid_any _ _ hzk).mono fun _ _ h => ⟨h.1, h.2.symm⟩)) | (go_at_call 26; refine Calls.quiet_of_same ((printOf_any _ _ hzk).mono fun _ _ h => ⟨h.1, h.2.symm⟩)))
            go_wp2
            go_quiet (fail)
            go_wp2
            go_roundw
            case rel => exact ⟨k + 1, by omega, by go_num, fun j hj => by rcases Nat.lt_succ_iff_lt_or_eq.1 hj with h | rfl; exact HA.out j h; exact HR.out, below_drewN HBW.out _⟩
            case measure => simp [intOf]; omega
          · have hd0 : (decide (0 < k)) = true := by simp; omega
            have hcp := Lst.atPrev HHW.out hlt (by omega)
            have hk1 : 1 ≤ k := by omega
            by_cases h3 : (nthP l (k - 1)).1 < (nthP l k).1
            · have HR := Lib.hid (okAt_yes ht he.symm (.inr h3))
              clear he h0
              go_wp2
              rw [HV.out]
              go_quiet (first | (go_at_call 25; refine Calls.quiet_of_same ((textValid_any _ _ hzk).mono fun _ _ h => ⟨h.1, h.2.symm⟩)) | (go_at_call 26; refine Calls.quiet_of_same ((printOf_any _ _ hzk).mono fun _ _ h => ⟨h.1, h.2.symm⟩)))
              go_wp2
              go_quiet (fail)
              go_wp2
              go_roundw
              case rel => exact ⟨k + 1, by omega, by go_num, fun j hj => by rcases Nat.lt_succ_iff_lt_or_eq.1 hj with h | rfl; exact HA.out j h; exact HR.out, below_drewN HBW.out _⟩
              case measure => simp [intOf]; omega
            · have HF := Lib.hid (storeB_bad hkl (okAt_no3 h0 h3))
              clear he h0
              go_wp2
              rw [HV.out]
              go_quiet (first | (go_at_call 25; refine Calls.quiet_of_same ((textValid_any _ _ hzk).mono fun _ _ h => ⟨h.1, h.2.symm⟩)) | (go_at_call 26; refine Calls.quiet_of_same ((printOf_any _ _ hzk).mono fun _ _ h => ⟨h.1, h.2.symm⟩)))
              go_wp2
              go_quiet (fail)
              go_wp2
              go_ret
              exact ⟨ret_bool HF.out.symm, below_drewN (below_drewN HBW.out _) _⟩
        · have HF := Lib.hid (storeB_bad hkl (okAt_no2 fun h => he h.symm))
          have hd : ((nthP l k).1 != printB (nthP l k).2) = true := by simpa using he
          clear he
          go_wp2
          rw [HV.out]
          go_quiet (first | (go_at_call 25; refine Calls.quiet_of_same ((textValid_any _ _ hzk).mono fun _ _ h => ⟨h.1, h.2.symm⟩)) | (go_at_call 26; refine Calls.quiet_of_same ((printOf_any _ _ hzk).mono fun _ _ h => ⟨h.1, h.2.symm⟩)))
          go_wp2
          go_ret
          exact ⟨ret_bool HF.out.symm, below_drewN HBW.out _⟩
    · have HF := Lib.hid (storeB_end (l := l) (fun j hj => HA.out j (by have := HL.out; omega)))
      go_wp2
      go_ret
      exact ⟨ret_bool (by rw [HF.out, HL.out]; simp; omega), HB.out⟩
end Go.Proofs.YtglajbmopiolhaaDoor
/-
  Contracts of chapter 4's program: a piece is put in its place.
-/
namespace Go.Proofs.YtglajbmopiolhaaDoor
open Go.RowKit
set_option linter.unusedVariables false
end Go.Proofs.YtglajbmopiolhaaDoor
/-
  Contracts of chapter 4's program: putting, getting and joining.
-/
namespace Go.Proofs.YtglajbmopiolhaaDoor
open Go.RowKit
set_option linter.unusedVariables false
end Go.Proofs.YtglajbmopiolhaaDoor
/-
  Contracts of chapter 4's program: PutText, GetText, JoinStores.
-/
namespace Go.Proofs.YtglajbmopiolhaaDoor
open Go.RowKit
set_option linter.unusedVariables false
/-- A text and a bool; what lay there lies there still. -/
def BelowSB (s : ByteArray) (b : Bool) (w : World) (e : Ending) (w' : World) : Prop := e = .returned (.tuple #[.string s, .bool b]) ∧ Below w.heap.size w w'
theorem belowSB_of {s t : ByteArray} {b c : Bool} {w w' : World} (h : s = t) (h' : b = c) (hq : Below w.heap.size w w') : BelowSB s b w (.returned (.tuple #[.string t, .bool c])) w' := by subst h; subst h'; exact ⟨rfl, hq⟩
theorem implGetText_any (x : Option Addr) (n cap : Nat) (l : List Pc) (p : Int) (B : Nat) (w : World) (h : Pcs w B x n cap l) (hB : B ≤ w.heap.size) (hz : ∀ k, (nthP l k).2.size ≤ maxLen) :
    Calls Tryd.prog 41 #[.slice x n cap, .int .i64 p] w (BelowSB (gotT l p) (gotO l p) w) := by
  have HH := Lib.hid h
  cases hs : storeB l
  · have HF := Lib.hid (got_no p hs)
    go_enter Tryd.func41, Tryd.ntmps41
    go_wp2_with (go_at_call 14; refine (implStoreValid_any _ _ _ _ _ _ HH.out hB hz).mono ?_; rintro e w2 ⟨rfl, hb2⟩; rw [hs]; have HB2 := Lib.hid hb2; clear hb2)
    go_ret2
    exact belowSB_of HF.out.1 HF.out.2 HB2.out
  have hn40 : n ≤ 40 := by have := (storeB_at hs).1; have := h.len; omega
  have HAS := Lib.hid (store_asc hs)
  have HLL := Lib.hid h.len
  have hsh := short_nth (store_short hs)
  clear h
  cases hh : hereP p l
  · have HF := Lib.hid (show gotT l p = ByteArray.empty ∧ gotO l p = false by
      have e := getB_gone (storeB_iff.1 hs).2.2 hh
      rw [(got_yes p hs).1, (got_yes p hs).2]; unfold getT getO; rw [e]; exact ⟨rfl, rfl⟩)
    go_enter Tryd.func41, Tryd.ntmps41
    go_wp2_with (first
      | (go_at_call 14; refine (implStoreValid_any _ _ _ _ _ _ HH.out hB hz).mono ?_; rintro e w2 ⟨rfl, hb2⟩; rw [hs]; have HH2 := Lib.hid (HH.out.below hb2 hB); have HB2 := Lib.hid hb2; clear hb2)
      | (go_at_call 49; refine (placeOf_any _ _ _ _ _ _ _ HH2.out (Nat.le_trans hB HB2.out.size) HAS.out (by omega)).mono ?_; rintro e w3 ⟨rfl, hb3⟩; rw [hh]; have HB3 := Lib.hid (HB2.out.trans (hb3.mono HB2.out.size)); clear hb3))
    go_ret2
    exact belowSB_of HF.out.1 HF.out.2 HB3.out
  · have hlt : atP p l < n := by have := (hereP_iff.1 hh).1; have := HLL.out; omega
    have HF := Lib.hid (show gotT l p = (nthP l (atP p l)).2 ∧ gotO l p = true by
      have e := getB_here hh
      rw [(got_yes p hs).1, (got_yes p hs).2]; unfold getT getO; rw [e]; exact ⟨rfl, rfl⟩)
    generalize hk : atP p l = k at *
    have hzk : (nthP l k).2.size ≤ 1000000 := Nat.le_trans (hsh k) (by decide)
    go_enter Tryd.func41, Tryd.ntmps41
    go_wp2_with (first
      | (go_at_call 14; refine (implStoreValid_any _ _ _ _ _ _ HH.out hB hz).mono ?_; rintro e w2 ⟨rfl, hb2⟩; rw [hs]; have HH2 := Lib.hid (HH.out.below hb2 hB); have HB2 := Lib.hid hb2; clear hb2)
      | (go_at_call 49; refine (placeOf_any _ _ _ _ _ _ _ HH2.out (Nat.le_trans hB HB2.out.size) HAS.out (by omega)).mono ?_; rintro e w3 ⟨rfl, hb3⟩; rw [hh, hk]; obtain ⟨b0, off, rfl, hb0, c0, c1⟩ := (HH2.out.below hb3 (Nat.le_trans hB HB2.out.size)).atP hlt; have HB3 := Lib.hid (HB2.out.trans (hb3.mono HB2.out.size)); clear hb3)
      | (go_at_call 50; refine (clone_any _ _ hzk).mono ?_; rintro e w4 ⟨rfl, hb4⟩; have HB4 := Lib.hid (HB3.out.trans (hb4.mono HB3.out.size)); clear hb4))
    go_ret2
    exact belowSB_of HF.out.1 HF.out.2 HB4.out
end Go.Proofs.YtglajbmopiolhaaDoor
/-
  Contract of chapter 4's program: JoinStores.
-/
namespace Go.Proofs.YtglajbmopiolhaaDoor
open Go.RowKit
set_option linter.unusedVariables false
end Go.Proofs.YtglajbmopiolhaaDoor
/-
  Chapter 4, plain: what stands in a store; a text put again.
-/
namespace Go.Proofs.YtglajbmopiolhaaDoor
open Go.RowKit
set_option linter.unusedVariables false
end Go.Proofs.YtglajbmopiolhaaDoor
/-
  Chapter 4, plain: what joined stores hold.
-/
namespace Go.Proofs.YtglajbmopiolhaaDoor
open Go.RowKit
set_option linter.unusedVariables false
end Go.Proofs.YtglajbmopiolhaaDoor
