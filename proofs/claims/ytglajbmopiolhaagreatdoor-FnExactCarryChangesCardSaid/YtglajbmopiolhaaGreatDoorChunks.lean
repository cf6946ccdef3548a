/-
  Plain functions of chapter 3 (chunks), and their laws; nothing of the program is imported.
-/
import Derived.Test.YtglajbmopiolhaaGreatDoorWords
import Derived.Test.YtglajbmopiolhaaGreatDoorMem
import Derived.Test.YtglajbmopiolhaaGreatDoorHelp
import Derived.Test.YtglajbmopiolhaaGreatDoorPrints
import Derived.Test.YtglajbmopiolhaaGreatDoorShelf
namespace Go.Proofs.YtglajbmopiolhaaGreatDoor
set_option linter.unusedVariables false
/-! ### where chunks lie -/
/-- The ends l ascend, from a on, to at most b. -/
def Asc (a b : Int) : List Int → Prop
  | [] => a ≤ b
  | e :: r => a < e ∧ Asc e b r
theorem Asc.le {a b : Int} {l : List Int} (h : Asc a b l) : a ≤ b := by
  induction l generalizing a with
  | nil => exact h
  | cons e r ih => have := ih h.2; have := h.1; omega
theorem Asc.length {a b : Int} {l : List Int} (h : Asc a b l) : (l.length : Int) ≤ b - a := by
  induction l generalizing a with
  | nil => have : a ≤ b := h; simp; omega
  | cons e r ih => have := ih h.2; have := h.1; simp; omega
/-! ### joined -/
def joinB (l : List ByteArray) : ByteArray := l.foldl (· ++ ·) ByteArray.empty
theorem joinB_snoc (l : List ByteArray) (t : ByteArray) : joinB (l ++ [t]) = joinB l ++ t := by unfold joinB; rw [List.foldl_append]; rfl
theorem join_from (l : List ByteArray) : ∀ a : ByteArray, l.foldl (· ++ ·) a = a ++ joinB l := by
  induction l with
  | nil => intro a; simp [joinB]
  | cons b l ih =>
    intro a
    have h : joinB (b :: l) = l.foldl (· ++ ·) (ByteArray.empty ++ b) := rfl
    rw [List.foldl_cons, ih, h, ih, ByteArray.append_assoc]
    simp
theorem joinB_cons (b : ByteArray) (l : List ByteArray) : joinB (b :: l) = b ++ joinB l := by
  have h : joinB (b :: l) = l.foldl (· ++ ·) (ByteArray.empty ++ b) := rfl
  rw [h, join_from]; simp
end Go.Proofs.YtglajbmopiolhaaGreatDoor
/-
  Contracts of chapter 3: chunks.
-/
namespace Go.Proofs.YtglajbmopiolhaaGreatDoor
open Go.RowKit
set_option linter.unusedVariables false
end Go.Proofs.YtglajbmopiolhaaGreatDoor
/-
  Contracts of chapter 3: the chunks themselves, and their prints.
-/
namespace Go.Proofs.YtglajbmopiolhaaGreatDoor
open Go.RowKit
set_option linter.unusedVariables false
theorem clone_any (s : ByteArray) (w : World) (hs : s.size ≤ 1000000) : Calls Tryz.prog 97 #[.string s] w fun e w' => e = .returned (.string s) ∧ Below w.heap.size w w' := by
  go_enter Tryz.func97, Tryz.ntmps97
  go_wp2_with (go_at_call 120; refine (Tryz.stringslite_Clone s _ (by omega)).mono ?_; rintro e w' ⟨rfl, hb⟩; have HB := Lib.hid hb; clear hb)
  go_ret
  exact ⟨rfl, HB.out⟩
end Go.Proofs.YtglajbmopiolhaaGreatDoor
