/-
  Draws of chapters 7 and 8: contents, files' texts, kinds, paths.
-/
import Derived.Test.YtigegjgkjahhaaaGreatDoorDraw12
import Derived.Test.YtigegjgkjahhaaaGreatDoorDraw5
namespace Go.Proofs.YtigegjgkjahhaaaGreatDoor
open Go.RowKit
set_option linter.unusedVariables false
/-! ### a file's text: what its operations yield, in whatever order they run -/
def pres : List ByteArray := [⟨#[]⟩, ⟨#[102]⟩, ⟨#[]⟩]
theorem texts_size : ∀ s ∈ texts1 ++ texts2, s.size ≤ 61 := by decide +kernel
theorem pres_size : ∀ p ∈ pres, p.size ≤ 1 := by decide
def RfF (r : Nat) : Nat → Value → World → Prop
  | 0, v, w => ∃ kb, v = .slice (some ⟨kb, 0, none⟩) 3 3 ∧ kb ≠ r ∧ ∀ j, j < 3 → w.cell? ⟨kb, j, none⟩ = some (.string (nthS pres j))
  | 1, v, _ => v = .pointer (some ⟨r, 0, none⟩)
  | 2, v, _ => ∃ j : Nat, j < 3 ∧ v = .int .i64 j
  | 3, v, w => ∃ kb j, j < 3 ∧ v = .pointer (some ⟨kb, j, none⟩) ∧ kb ≠ r ∧ w.cell? ⟨kb, j, none⟩ = some (.string (nthS pres j))
  | 4, v, _ => ∃ p ∈ pres, v = .string p
  | 5, v, _ => v = .pointer (some ⟨r, 0, none⟩)
  | 6, v, _ => ∃ t ∈ texts1 ++ texts2, v = .string t
  | _, v, _ => ∃ p ∈ pres, ∃ t ∈ texts1 ++ texts2, v = .string (p ++ t)
theorem rfF_mono {r : Nat} : ∀ (k : Nat) (v : Value) (w w' : World), w.grownBy w' (some r) → RfF r k v w → RfF r k v w'
  | 0, v, w, w', hg, h => by
    obtain ⟨kb, h1, h2, h3⟩ := h
    exact ⟨kb, h1, h2, fun j hj => hg.cell (a := ⟨kb, j, none⟩) (h3 j hj) (by simp; exact h2)⟩
  | 1, v, w, w', hg, h => h
  | 2, v, w, w', hg, h => h
  | 3, v, w, w', hg, h => by
    obtain ⟨kb, j, hj, h1, h2, h3⟩ := h
    exact ⟨kb, j, hj, h1, h2, hg.cell (a := ⟨kb, j, none⟩) h3 (by simp; exact h2)⟩
  | 4, v, w, w', hg, h => h
  | 5, v, w, w', hg, h => h
  | 6, v, w, w', hg, h => h
  | _ + 7, v, w, w', hg, h => h
def RfG (B r : Nat) (w0 : World) (L : Nat → Bool) (w : World) : Prop := w0.grownBy w (some r) ∧ Rd B w r ((if L 2 = true then 1 else 0) + (if L 6 = true then 2 else 0))
theorem rfG_same {B r k : Nat} {w0 w : World} {L : Nat → Bool} (h : RfG B r w0 L w) (h2 : k ≠ 2 := by decide) (h6 : k ≠ 6 := by decide) : RfG B r w0 (fun j => j == k || L j) w := by
  refine ⟨h.1, ?_⟩
  have e2 : ((2 == k) || L 2) = L 2 := by simp [Ne.symm h2]
  have e6 : ((6 == k) || L 6) = L 6 := by simp [Ne.symm h6]
  show Rd B w r ((if ((2 == k) || L 2) = true then 1 else 0) + (if ((6 == k) || L 6) = true then 2 else 0))
  rw [e2, e6]; exact h.2
theorem nthS_mem' {l : List ByteArray} {j : Nat} (h : j < l.length) : nthS l j ∈ l := by rw [nthS_get h]; exact List.getElem_mem _
/-- What a kind is drawn of. -/
def kindTexts (s f t : ByteArray) : List ByteArray := [s, f, t, ⟨#[100, 97, 61, 55, 59, 98]⟩]
theorem contents_size : ∀ s ∈ contents4, (fileB s).size ≤ 61 := by decide +kernel
theorem contents_small : ∀ s ∈ contents4, s.size ≤ 61 := by decide +kernel
/-! ### paths -/
/-- Drawn words. -/
def WordsOut (w : World) (e : Ending) (w' : World) : Prop := ∃ (x : Option Addr) (n c : Nat) (l : List ByteArray), e = .returned (.slice x n c) ∧ l.length ≤ 4 ∧ (∀ s ∈ l, s.size ≤ 9) ∧ Strs w' w'.heap.size x n c l ∧ Below w.heap.size w w'
def WdRel (B r c base : Nat) (w0 wr : World) (m : Nat) (v : Value) : Prop := ∃ l : List ByteArray, l.length + m ≤ 4 ∧ (∀ s ∈ l, s.size ≤ 9) ∧ OwnS wr base v l ∧ Rd B wr r (c + 8 - 2 * m) ∧ w0.grownBy wr (some r)
def TwoPaths (w : World) (e : Ending) (w' : World) : Prop := ∃ s t : ByteArray, e = .returned (.tuple #[.string s, .string t]) ∧ s ∈ paths1 ++ paths2 ∧ t ∈ paths1 ++ paths2 ∧ Below w.heap.size w w'
end Go.Proofs.YtigegjgkjahhaaaGreatDoor
