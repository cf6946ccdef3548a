/-
  Plain functions of chapter 3 (chunks), and their laws; nothing of the program is imported.
-/
import Derived.Test.YtglajbmopiolhaaWords
import Derived.Test.YtglajbmopiolhaaMem
import Derived.Test.YtglajbmopiolhaaHelp
import Derived.Test.YtglajbmopiolhaaPrints
namespace Go.Proofs.Ytglajbmopiolhaa
set_option linter.unusedVariables false
/-! ### where chunks lie -/
/-- The ends l ascend, from a on, to at most b. -/
def Asc (a b : Int) : List Int → Prop
  | [] => a ≤ b
  | e :: r => a < e ∧ Asc e b r
theorem Asc.le {a b : Int} {l : List Int} (h : Asc a b l) : a ≤ b := by
  induction l generalizing a with
  | nil => exact h
  | cons e r ih => have := ih h.2; have := h.1; omega
theorem Asc.length {a b : Int} {l : List Int} (h : Asc a b l) : (l.length : Int) ≤ b - a := by
  induction l generalizing a with
  | nil => have : a ≤ b := h; simp; omega
  | cons e r ih => have := ih h.2; have := h.1; simp; omega
/-! ### joined -/
def joinB (l : List ByteArray) : ByteArray := l.foldl (· ++ ·) ByteArray.empty
theorem joinB_snoc (l : List ByteArray) (t : ByteArray) : joinB (l ++ [t]) = joinB l ++ t := by unfold joinB; rw [List.foldl_append]; rfl
theorem join_from (l : List ByteArray) : ∀ a : ByteArray, l.foldl (· ++ ·) a = a ++ joinB l := by
  induction l with
  | nil => intro a; simp [joinB]
  | cons b l ih =>
    intro a
    have h : joinB (b :: l) = l.foldl (· ++ ·) (ByteArray.empty ++ b) := rfl
    rw [List.foldl_cons, ih, h, ih, ByteArray.append_assoc]
    simp
theorem joinB_cons (b : ByteArray) (l : List ByteArray) : joinB (b :: l) = b ++ joinB l := by
  have h : joinB (b :: l) = l.foldl (· ++ ·) (ByteArray.empty ++ b) := rfl
  rw [h, join_from]; simp
end Go.Proofs.Ytglajbmopiolhaa
/-
  Contracts of chapter 3: chunks.
-/
namespace Go.Proofs.Ytglajbmopiolhaa
open Go.RowKit
set_option linter.unusedVariables false
end Go.Proofs.Ytglajbmopiolhaa
/-
  Contracts of chapter 3: the chunks themselves, and their prints.
-/
namespace Go.Proofs.Ytglajbmopiolhaa
open Go.RowKit
set_option linter.unusedVariables false
end Go.Proofs.Ytglajbmopiolhaa
