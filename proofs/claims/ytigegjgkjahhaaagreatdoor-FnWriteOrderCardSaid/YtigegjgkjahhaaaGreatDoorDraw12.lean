/-
  Draws of chapter 6: entries, folders' texts.
-/
import Derived.Test.YtigegjgkjahhaaaGreatDoorFold3
import Derived.Test.YtigegjgkjahhaaaGreatDoorPrints
import Derived.Test.YtigegjgkjahhaaaGreatDoorDraw0
import Derived.Test.YtigegjgkjahhaaaGreatDoorChunks3
namespace Go.Proofs.YtigegjgkjahhaaaGreatDoor
open Go.RowKit
set_option linter.unusedVariables false
theorem words_size : ∀ s ∈ words1 ++ words2, s.size ≤ 9 := by decide +kernel
/-- Names of at most nine bytes. -/
def Nines (l : List Ent) : Prop := ∀ k, (nthE l k).1.size ≤ 9
theorem nines_nil : Nines [] := fun k => by simp [nthE]
theorem nines_put {l : List Ent} {p : Ent} (h : Nines l) (hp : p.1.size ≤ 9) : Nines (putE l p).1 := by
  cases hs : entsB l
  · rw [putE_bad hs]; exact nines_nil
  · cases h' : entsB (putInE l p)
    · rw [putE_no hs h']; exact h
    · rw [putE_yes hs h']; exact put_sizes rfl h hp
theorem nines_snoc {l : List Ent} {p : Ent} (h : Nines l) (hp : p.1.size ≤ 9) : Nines (l ++ [p]) :=
  nthE_all.2 fun q hq => by
    rcases List.mem_append.1 hq with h1 | h1
    · exact nthE_all.1 h q h1
    · rw [List.mem_singleton] at h1; subst h1; exact hp
def wrongE : List Ent := [(⟨#[]⟩, 0), (⟨#[65]⟩, 0), (⟨#[122]⟩, -1), (⟨#[122]⟩, 16777213)]
theorem wrongE_size : ∀ j, j < 4 → (nthE wrongE j).1.size ≤ 9 := by decide +kernel
theorem wrongE_at0 : ∀ j, j < 4 → (wrongE.flatMap enG).toArray[j * 2]? = some (.string (nthE wrongE j).1)
  | 0, _ => rfl
  | 1, _ => rfl
  | 2, _ => rfl
  | 3, _ => rfl
  | j + 4, h => by omega
theorem wrongE_at1 : ∀ j, j < 4 → (wrongE.flatMap enG).toArray[j * 2 + 1]? = some (.int .i64 (nthE wrongE j).2)
  | 0, _ => rfl
  | 1, _ => rfl
  | 2, _ => rfl
  | 3, _ => rfl
  | j + 4, h => by omega
/-- Drawn entries: a row of the call's own; the reader behind it. -/
def EntsR (base B r c : Nat) (w : World) (e : Ending) (w' : World) : Prop := ∃ (v : Value) (l : List Ent), e = .returned v ∧ l.length ≤ 4 ∧ Nines l ∧ OwnE w' base v l ∧ Rd B w' r c ∧ w.grownBy w' (some r)
def EnRel (B r c : Nat) (w0 wr : World) (m : Nat) (v : Value) : Prop := ∃ l : List Ent, l.length ≤ 3 ∧ Nines l ∧ OwnE wr w0.heap.size v l ∧ Rd B wr r (c + 24 - 6 * m) ∧ w0.grownBy wr (some r)
/-! ### what is drawn, at the laws -/
def EntsOut (w : World) (e : Ending) (w' : World) : Prop := ∃ (x : Option Addr) (n c : Nat) (l : List Ent), e = .returned (.slice x n c) ∧ l.length ≤ 4 ∧ Nines l ∧ Ents w' w'.heap.size x n c l ∧ Below w.heap.size w w'
theorem nines_max {l : List Ent} (h : Nines l) : ∀ k, (nthE l k).1.size ≤ maxLen := fun k => Nat.le_trans (h k) (by unfold maxLen; omega)
theorem text_size6 {s : ByteArray} (h : textB s = true) : s.size ≤ 60 := by
  unfold textB textV at h
  rw [Bool.and_eq_true, decide_eq_true_eq] at h
  have := h.1
  rwa [len_eq] at this
theorem folder_size (l : List Ent) : (folderB l).size ≤ 60 := by
  cases h : entsB l
  · rw [folderB_no h]; simp
  · rw [folderB_yes h]; exact text_size6 (textE_text h)
def foldTexts (s : ByteArray) : List ByteArray := [⟨#[]⟩, ⟨#[102]⟩, ⟨#[100, 97]⟩, ⟨#[100, 97, 61, 55]⟩, ⟨#[100, 97, 61, 59]⟩, ⟨#[100, 61, 55, 59]⟩, ⟨#[100, 98, 61, 55, 59, 97, 61, 55, 59]⟩, ⟨#[100, 97, 61, 55, 59, 97, 61, 56, 59]⟩, ⟨#[100, 97, 61, 48, 55, 59]⟩, ⟨#[100, 65, 61, 55, 59]⟩, s ++ ⟨#[59]⟩, s ++ ⟨#[122]⟩]
theorem foldTexts_size {s : ByteArray} (h : s.size ≤ 60) : ∀ t ∈ foldTexts s, t.size ≤ 61 := by
  intro t ht
  unfold foldTexts at ht
  simp only [List.mem_cons, List.not_mem_nil, or_false] at ht
  rcases ht with rfl | rfl | rfl | rfl | rfl | rfl | rfl | rfl | rfl | rfl | rfl | rfl
  all_goals first | decide | (rw [ByteArray.size_append]; show s.size + 1 ≤ 61; omega)
def TextOut (m : Nat) (w : World) (e : Ending) (w' : World) : Prop := ∃ s : ByteArray, e = .returned (.string s) ∧ s.size ≤ m ∧ Below w.heap.size w w'
def EntsNameOut (w : World) (e : Ending) (w' : World) : Prop := ∃ (x : Option Addr) (n c : Nat) (l : List Ent) (s : ByteArray), e = .returned (.tuple #[.slice x n c, .string s]) ∧ l.length ≤ 4 ∧ Nines l ∧ s.size ≤ 9 ∧ Ents w' w'.heap.size x n c l ∧ Below w.heap.size w w'
theorem grown_set6 (w : World) (a : Addr) (u : Value) : w.grownBy (w.setCell a u) (some a.block) :=
  ⟨rfl, rfl, rfl, by simp [World.setCell], fun k hk hne => Below.heap_setCell _ _ _ _ (by intro e; exact hne (by rw [e]))⟩
def EntsEntOut (w : World) (e : Ending) (w' : World) : Prop := ∃ (x : Option Addr) (n c : Nat) (l : List Ent) (p : Ent), e = .returned (.tuple #[.slice x n c, .agg #[.string p.1, .int .i64 p.2]]) ∧ l.length ≤ 4 ∧ Nines l ∧ p.1.size ≤ 9 ∧ Ents w' w'.heap.size x n c l ∧ Below w.heap.size w w'
end Go.Proofs.YtigegjgkjahhaaaGreatDoor
