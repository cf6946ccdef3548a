/-
  Contracts of chapter 6's program: valid entries; putting and dropping one; the text of a folder.
-/
import Derived.Test.YtiniadlpgomgjaaFold
namespace Go.Proofs.Ytiniadlpgomgjaa
open Go.RowKit
set_option linter.unusedVariables false
/-! ### putting -/
theorem set_at {A R : List Value} {k : Nat} (a b c : Value) (hA : A.length = k * 2) : (A ++ a :: b :: R).set (k * 2 + 1) c = A ++ a :: c :: R := by
  rw [List.set_append, if_neg (by omega), show k * 2 + 1 - A.length = 1 by omega]; rfl
theorem setPrint_cells {l : List Ent} {k : Nat} {p : Ent} (hk : k < l.length) (hn : (nthE l k).1 = p.1) : (l.flatMap enG).set (k * 2 + 1) (.int .i64 p.2) = (l.take k ++ p :: l.drop (k + 1)).flatMap enG := by
  have e : l = l.take k ++ nthE l k :: l.drop (k + 1) := by rw [nthE_get hk, ← List.drop_eq_getElem_cons hk, List.take_append_drop]
  have hA : ((l.take k).flatMap enG).length = k * 2 := by rw [encEn.length, List.length_take]; omega
  have e2 : l.flatMap enG = (l.take k).flatMap enG ++ (.string (nthE l k).1) :: (.int .i64 (nthE l k).2) :: (l.drop (k + 1)).flatMap enG := by
    conv => lhs; rw [e]
    rw [List.flatMap_append, List.flatMap_cons]; rfl
  rw [e2, set_at _ _ _ hA, hn, List.flatMap_append, List.flatMap_cons]; rfl
end Go.Proofs.Ytiniadlpgomgjaa
