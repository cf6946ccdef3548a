/-
  Contracts of chapter 4's program: a piece is put in its place.
-/
import Derived.Test.YtlbebbkkpjgboaaImpl4b
import Derived.Test.YtlbebbkkpjgboaaCopy
import Derived.Test.YtlbebbkkpjgboaaPieces2
import Derived.Laws.Externs
import Derived.Shelf.RegionOpenPlain
namespace Go.Proofs.Ytlbebbkkpjgboaa
open Go.RowKit
set_option linter.unusedVariables false
/-- What putting an element in leaves. -/
def PutIn (l : List Pc) (base : Nat) (w : World) (e : Ending) (w' : World) : Prop := ∃ v', e = .returned v' ∧ OwnP w' base v' l ∧ Below base w w'
theorem own_parts {w : World} {base n cap : Nat} {x : Option Addr} {l : List Pc} (h : OwnP w base (.slice x n cap) l) (hn : 0 < n) : ∃ g cur, x = some ⟨g, 0, none⟩ ∧ base ≤ g ∧ RowIs w g 51 cur ∧ l.length = n ∧ n ≤ cap ∧ cap ≤ maxLen ∧ cur.length = cap * 2 ∧ cur.take (n * 2) = l.flatMap pcG := by
  obtain ⟨hl, h2⟩ := h
  rcases h2 with ⟨e, e'⟩ | ⟨g, cap', cur, e, hb, hg, hle, hm, hs, ht⟩
  · simp only [Value.slice.injEq] at e; omega
  · simp only [Value.slice.injEq] at e
    obtain ⟨rfl, rfl, rfl⟩ := e
    exact ⟨g, cur.toList, rfl, hb, by unfold RowIs; rw [Array.toArray_toList]; exact hg, rfl, hle, hm, by rw [Array.length_toList]; exact hs, ht⟩
end Go.Proofs.Ytlbebbkkpjgboaa
