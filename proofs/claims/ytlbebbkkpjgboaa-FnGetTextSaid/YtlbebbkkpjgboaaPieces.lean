/-
  Pieces in memory, and the contracts of the laws' helpers on lists of pieces.
-/
import Derived.Test.YtlbebbkkpjgboaaMarksS
import Derived.Deep.Strs
namespace Go.Proofs.Ytlbebbkkpjgboaa
open Go.RowKit
set_option linter.unusedVariables false
/-- A print and a text. -/
abbrev Pc := Int × ByteArray
def pcG (p : Pc) : List Value := [.int .i64 p.1, .string p.2]
theorem encPc : Enc pcG 2 := ⟨fun _ => rfl, fun p u hu => by
  simp only [pcG, List.mem_cons, List.not_mem_nil, or_false] at hu
  rcases hu with rfl | rfl <;> rfl, by decide⟩
def nthP (l : List Pc) (k : Nat) : Pc := l.getD k (0, ByteArray.empty)
theorem nthP_get {l : List Pc} {k : Nat} (h : k < l.length) : nthP l k = l[k] := by unfold nthP; rw [List.getD_eq_getElem?_getD, List.getElem?_eq_getElem h]; rfl
theorem take_snocP {l : List Pc} {k : Nat} (h : k < l.length) : l.take (k + 1) = l.take k ++ [nthP l k] := by
  rw [List.take_succ_eq_append_getElem h, nthP_get h]
abbrev Pcs (w : World) (B : Nat) (x : Option Addr) (n cap : Nat) (l : List Pc) : Prop := Lst pcG w B x n cap l
theorem Lst.atP {w : World} {B : Nat} {x : Option Addr} {n cap : Nat} {l : List Pc} (h : Pcs w B x n cap l) {k : Nat} (hk : k < n) :
    ∃ b off, x = some ⟨b, off, none⟩ ∧ b < B ∧ w.cell? ⟨b, off + k * 2, none⟩ = some (.int .i64 (nthP l k).1) ∧ w.cell? ⟨b, off + k * 2 + 1, none⟩ = some (.string (nthP l k).2) := by
  obtain ⟨b, off, rfl, hb, h0⟩ := Lst.at encPc h (k := k) (j := 0) (v := .int .i64 (nthP l k).1) (0, ByteArray.empty) hk (by decide) rfl
  obtain ⟨b', off', e, _, h1⟩ := Lst.at encPc h (k := k) (j := 1) (v := .string (nthP l k).2) (0, ByteArray.empty) hk (by decide) rfl
  simp only [Option.some.injEq, Addr.mk.injEq, and_true] at e
  obtain ⟨rfl, rfl⟩ := e
  exact ⟨b, off, rfl, hb, h0, h1⟩
def sumP (l : List Pc) : Nat := (l.map fun p => p.2.size).sum
theorem sumP_snoc (l : List Pc) (t : Pc) : sumP (l ++ [t]) = sumP l + t.2.size := by unfold sumP; simp
theorem sumP_split (l : List Pc) (k : Nat) : sumP l = sumP (l.take k) + sumP (l.drop k) := by
  have h : sumP l = sumP (l.take k ++ l.drop k) := by rw [List.take_append_drop]
  rw [h]; unfold sumP; rw [List.map_append, List.sum_append]
/-- What is left behind a list; -1 if it is too much. -/
def leftP (l : List Pc) (left : Int) : Int := if (l.length + sumP l : Int) ≤ left then left - l.length - sumP l else -1
/-! ### copies -/
abbrev OwnP (w : World) (base : Nat) (v : Value) (l : List Pc) : Prop := OwnL pcG 51 2 w base v l
theorem Try.infoPc : (Try.prog.info? 51).map (fun i => (i.zero, i.size, i.bytes)) = some (some (.agg #[.int .i64 0, .string ByteArray.empty]), 2, 24) := by kernel_rfl
theorem eltPc : Elt 23 51 2 (.agg #[.int .i64 0, .string ByteArray.empty]) := elt_of Try.underlying23 Try.infoPc (by decide) rfl (by decide)
/-- A new row of pieces is handed back. -/
def NewP (l : List Pc) (w : World) (e : Ending) (w' : World) : Prop := ∃ v, e = .returned v ∧ OwnP w' w.heap.size v l ∧ Below w.heap.size w w'
/-- Two lists of pieces are compared. -/
theorem take_eq_stepP {l l' : List Pc} {k : Nat} (h : k < l.length) (h' : k < l'.length) (he : l.take k = l'.take k) (hx : nthP l k = nthP l' k) : l.take (k + 1) = l'.take (k + 1) := by
  rw [take_snocP h, take_snocP h', he, hx]
theorem ne_atP {l l' : List Pc} {k : Nat} (hx : nthP l k ≠ nthP l' k) : l ≠ l' := fun h => hx (by rw [h])
theorem ne_pc {p q : Pc} (h : p ≠ q) : p.1 ≠ q.1 ∨ (p.1 = q.1 ∧ p.2 ≠ q.2) := by
  by_cases h1 : p.1 = q.1
  · exact .inr ⟨h1, fun h2 => h (Prod.ext h1 h2)⟩
  · exact .inl h1
end Go.Proofs.Ytlbebbkkpjgboaa
