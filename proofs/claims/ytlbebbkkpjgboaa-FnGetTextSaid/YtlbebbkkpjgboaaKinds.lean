/-
  Chapter 7's model: kinds of texts.
-/
import Derived.Test.YtlbebbkkpjgboaaFiles
import Derived.Test.YtlbebbkkpjgboaaFolders2
namespace Go.Proofs.Ytlbebbkkpjgboaa
open Go.RowKit
set_option linter.unusedVariables false
def kindB (s : ByteArray) : Int := if isFile s = true then 1 else if isFold s = true then 2 else 0
theorem specTextKind_any (s : ByteArray) (w : World) (hs : s.size ≤ 1048576) : Calls Try.prog 85 #[.string s] w (BelowI (kindB s) w) := by
  have hm : s.size ≤ maxLen := by unfold maxLen; omega
  cases hf : isFile s
  · cases hd : isFold s
    · have HF := Lib.hid (show kindB s = 0 by unfold kindB; rw [hf, hd]; rfl)
      go_enter Try.func85, Try.ntmps85
      go_wp2_with (first
        | (go_at_call 87; refine (specReadFile_any _ _ hm).mono ?_; rintro e w' ⟨rfl, rfl⟩; rw [hf])
        | (go_at_call 82; refine (specReadFolder_any _ _ hs).mono ?_; rintro e w2 ⟨v, rfl, ho, hb⟩; rw [hd]; have HB := Lib.hid hb; clear ho hb))
      go_ret
      exact ⟨ret_int HF.out.symm, HB.out⟩
    · have HF := Lib.hid (show kindB s = 2 by unfold kindB; rw [hf, hd]; rfl)
      go_enter Try.func85, Try.ntmps85
      go_wp2_with (first
        | (go_at_call 87; refine (specReadFile_any _ _ hm).mono ?_; rintro e w' ⟨rfl, rfl⟩; rw [hf])
        | (go_at_call 82; refine (specReadFolder_any _ _ hs).mono ?_; rintro e w2 ⟨v, rfl, ho, hb⟩; rw [hd]; have HB := Lib.hid hb; clear ho hb))
      go_ret
      exact ⟨ret_int HF.out.symm, HB.out⟩
  · have HF := Lib.hid (show kindB s = 1 by unfold kindB; rw [hf]; rfl)
    go_enter Try.func85, Try.ntmps85
    go_wp2_with (first
      | (go_at_call 87; refine (specReadFile_any _ _ hm).mono ?_; rintro e w' ⟨rfl, rfl⟩; rw [hf])
      | (go_at_call 82; refine (specReadFolder_any _ _ hs).mono ?_; rintro e w2 ⟨v, rfl, ho, hb⟩; have HB := Lib.hid hb; clear ho hb))
    go_ret
    exact ⟨ret_int HF.out.symm, HB.out⟩
end Go.Proofs.Ytlbebbkkpjgboaa
