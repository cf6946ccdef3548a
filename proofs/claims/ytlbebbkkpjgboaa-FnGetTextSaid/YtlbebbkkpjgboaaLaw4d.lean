/-
  The walk of FnGetText.
-/
import Derived.Test.YtlbebbkkpjgboaaDraw9
import Derived.Test.YtlbebbkkpjgboaaPlain4c
import Derived.Test.YtlbebbkkpjgboaaImpl4e
import Derived.Test.YtlbebbkkpjgboaaStores2
namespace Go.Proofs.Ytlbebbkkpjgboaa
open Go.RowKit
set_option linter.unusedVariables false
theorem got_none {l : List Pc} {p : Int} (h : gotO l p = false) : gotT l p = ByteArray.empty := by
  cases hs : storeB l
  · exact (got_no p hs).1
  · obtain ⟨e1, e2⟩ := got_yes p hs
    rw [e2] at h
    rw [e1]
    unfold getO at h
    unfold getT
    cases hg : getB l p with
    | none => rfl
    | some t => rw [hg] at h; cases h
theorem got_print {l : List Pc} {p : Int} (h : gotO l p = true) : printB (gotT l p) = p := by
  obtain ⟨hs, hm⟩ := got_in h
  have := (okPc_iff.1 ((storeB_iff.1 hs).2.1 _ hm))
  exact this.2
theorem got_size {l : List Pc} {p : Int} (h : gotO l p = true) (hsh : Short 60 l) : (gotT l p).size ≤ 60 := hsh _ (got_in h).2
theorem fnGetText_any (x : Option Addr) (n cap : Nat) (w : World) (h : Bytes w.heap.size w x n) (hn : n ≤ cap) (hc : cap ≤ maxLen) :
    Calls Try.prog 3 #[.slice x n cap] w fun e w' => e = .returned (.bool true) ∧ Below w.heap.size w w' := by
  by_cases hlong : 1048576 < (n : Int)
  · go_enter Try.func3, Try.ntmps3
    go_wp2
    go_ret
    exact ⟨rfl, Below.refl _ _⟩
  · have HB0 := Lib.hid h
    have HC := Lib.hid hc
    have HLE := Lib.hid hn
    clear h hc hn
    go_enter Try.func3, Try.ntmps3
    go_wp2_with fail
    refine (drawGetText_any x n cap w HB0.out HLE.out HC.out).mono ?_
    rintro e w1 ⟨y, m, c, l, p, rfl, hl, hf, hb⟩
    have HB := Lib.hid hb; have HF := Lib.hid hf; have HL := Lib.hid hl; clear hb hf hl HB0 HC HLE
    have HZ := Lib.hid (show ∀ k, (nthP l k).2.size ≤ maxLen from fun k => Nat.le_trans (short_nth HF.out.2.2 k) (by unfold maxLen; omega))
    go_wp2_with fail
    refine (implGetText_any _ _ _ l p _ _ HL.out (Nat.le_refl _) HZ.out).mono ?_
    rintro e w2 ⟨rfl, hb⟩
    have HB2 := Lib.hid (HB.out.trans (hb.mono HB.out.size)); have HL2 := Lib.hid ((HL.out.below hb (Nat.le_refl _)).more hb.size); clear hb
    go_wp2_with fail
    refine (specGetText_any _ _ _ l p _ _ HL2.out HZ.out).mono ?_
    rintro e w3 ⟨rfl, q3, rfl⟩
    have HB3 := Lib.hid (below_drewN HB2.out q3)
    cases ho : gotO l p
    · have HT := Lib.hid (got_none ho)
      rw [HT.out]
      go_wp2_with (go_at_call 13; refine (alive_any _).mono ?_; rintro e w' ⟨rfl, rfl⟩)
      go_ret
      exact ⟨rfl, HB3.out⟩
    · have HP := Lib.hid (got_print ho)
      have hz := got_size ho HF.out.2.2
      have hzm : (gotT l p).size ≤ maxLen := by unfold maxLen; omega
      clear hz
      go_wp2_with (go_at_call 14; refine (printOf_any _ _ hzm).mono ?_; rintro e w' ⟨rfl, rfl⟩)
      go_ret
      exact ⟨ret_bool (by simpa using HP.out), HB3.out⟩
end Go.Proofs.Ytlbebbkkpjgboaa
