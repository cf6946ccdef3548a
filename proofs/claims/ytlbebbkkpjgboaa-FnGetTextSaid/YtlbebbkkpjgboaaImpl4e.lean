/-
  Contracts of chapter 4's program: PutText, GetText, JoinStores.
-/
import Derived.Test.YtlbebbkkpjgboaaImpl4d
import Derived.Test.YtlbebbkkpjgboaaStores2
namespace Go.Proofs.Ytlbebbkkpjgboaa
open Go.RowKit
set_option linter.unusedVariables false
theorem printB_ge {s : ByteArray} (h : textB s = true) : 0 ≤ printB s := by unfold printB; rw [if_pos h]; exact (sumB_bd _).1
theorem newPut_put {l : List Pc} {t : ByteArray} {base : Nat} {w w' : World} {v : Value} {p : Int} {b : Bool} (h : putB l t = ((putP l (printB t, t)).1, p, b)) (ho : OwnP w' w.heap.size v (putP l (printB t, t)).1) (hb : Below w.heap.size w w') : NewPut (putB l t).1 (putB l t).2.1 (putB l t).2.2 w (.returned (.tuple #[v, .int .i64 p, .bool b])) w' := by
  rw [h]; exact ⟨v, rfl, ho, hb⟩
/-- A text and a bool; what lay there lies there still. -/
def BelowSB (s : ByteArray) (b : Bool) (w : World) (e : Ending) (w' : World) : Prop := e = .returned (.tuple #[.string s, .bool b]) ∧ Below w.heap.size w w'
theorem belowSB_of {s t : ByteArray} {b c : Bool} {w w' : World} (h : s = t) (h' : b = c) (hq : Below w.heap.size w w') : BelowSB s b w (.returned (.tuple #[.string t, .bool c])) w' := by subst h; subst h'; exact ⟨rfl, hq⟩
theorem implGetText_any (x : Option Addr) (n cap : Nat) (l : List Pc) (p : Int) (B : Nat) (w : World) (h : Pcs w B x n cap l) (hB : B ≤ w.heap.size) (hz : ∀ k, (nthP l k).2.size ≤ maxLen) :
    Calls Try.prog 11 #[.slice x n cap, .int .i64 p] w (BelowSB (gotT l p) (gotO l p) w) := by
  have HH := Lib.hid h
  cases hs : storeB l
  · have HF := Lib.hid (got_no p hs)
    go_enter Try.func11, Try.ntmps11
    go_wp2_with (go_at_call 33; refine (implStoreValid_any _ _ _ _ _ _ HH.out hB hz).mono ?_; rintro e w2 ⟨rfl, hb2⟩; rw [hs]; have HB2 := Lib.hid hb2; clear hb2)
    go_ret2
    exact belowSB_of HF.out.1 HF.out.2 HB2.out
  have hn40 : n ≤ 40 := by have := (storeB_at hs).1; have := h.len; omega
  have HAS := Lib.hid (store_asc hs)
  have HLL := Lib.hid h.len
  have hsh := short_nth (store_short hs)
  clear h
  cases hh : hereP p l
  · have HF := Lib.hid (show gotT l p = ByteArray.empty ∧ gotO l p = false by
      have e := getB_gone (storeB_iff.1 hs).2.2 hh
      rw [(got_yes p hs).1, (got_yes p hs).2]; unfold getT getO; rw [e]; exact ⟨rfl, rfl⟩)
    go_enter Try.func11, Try.ntmps11
    go_wp2_with (first
      | (go_at_call 33; refine (implStoreValid_any _ _ _ _ _ _ HH.out hB hz).mono ?_; rintro e w2 ⟨rfl, hb2⟩; rw [hs]; have HH2 := Lib.hid (HH.out.below hb2 hB); have HB2 := Lib.hid hb2; clear hb2)
      | (go_at_call 34; refine (placeOf_any _ _ _ _ _ _ _ HH2.out (Nat.le_trans hB HB2.out.size) HAS.out (by omega)).mono ?_; rintro e w3 ⟨rfl, hb3⟩; rw [hh]; have HB3 := Lib.hid (HB2.out.trans (hb3.mono HB2.out.size)); clear hb3))
    go_ret2
    exact belowSB_of HF.out.1 HF.out.2 HB3.out
  · have hlt : atP p l < n := by have := (hereP_iff.1 hh).1; have := HLL.out; omega
    have HF := Lib.hid (show gotT l p = (nthP l (atP p l)).2 ∧ gotO l p = true by
      have e := getB_here hh
      rw [(got_yes p hs).1, (got_yes p hs).2]; unfold getT getO; rw [e]; exact ⟨rfl, rfl⟩)
    generalize hk : atP p l = k at *
    have hzk : (nthP l k).2.size ≤ 1000000 := Nat.le_trans (hsh k) (by decide)
    go_enter Try.func11, Try.ntmps11
    go_wp2_with (first
      | (go_at_call 33; refine (implStoreValid_any _ _ _ _ _ _ HH.out hB hz).mono ?_; rintro e w2 ⟨rfl, hb2⟩; rw [hs]; have HH2 := Lib.hid (HH.out.below hb2 hB); have HB2 := Lib.hid hb2; clear hb2)
      | (go_at_call 34; refine (placeOf_any _ _ _ _ _ _ _ HH2.out (Nat.le_trans hB HB2.out.size) HAS.out (by omega)).mono ?_; rintro e w3 ⟨rfl, hb3⟩; rw [hh, hk]; obtain ⟨b0, off, rfl, hb0, c0, c1⟩ := (HH2.out.below hb3 (Nat.le_trans hB HB2.out.size)).atP hlt; have HB3 := Lib.hid (HB2.out.trans (hb3.mono HB2.out.size)); clear hb3)
      | (go_at_call 35; refine (clone_any _ _ hzk).mono ?_; rintro e w4 ⟨rfl, hb4⟩; have HB4 := Lib.hid (HB3.out.trans (hb4.mono HB3.out.size)); clear hb4))
    go_ret2
    exact belowSB_of HF.out.1 HF.out.2 HB4.out
end Go.Proofs.Ytlbebbkkpjgboaa
