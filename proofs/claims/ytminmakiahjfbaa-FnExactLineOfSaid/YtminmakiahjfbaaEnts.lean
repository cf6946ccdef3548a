/-
  Entries in memory; chapter 6's model: valid entries.
-/
import Derived.Test.YtminmakiahjfbaaPrints
import Derived.Test.YtminmakiahjfbaaMem
import Derived.Test.YtminmakiahjfbaaHelp
import Derived.Test.YtminmakiahjfbaaWords
import Derived.Test.YtminmakiahjfbaaArgs
import Derived.Laws.Cover1
import Derived.Test.YtminmakiahjfbaaChunks
import Derived.WalkSpells
import Derived.RegionTactic
import Derived.BigRegion
import Derived.Test.YtminmakiahjfbaaStores
import Derived.Deep.RegionLaw
namespace Go.Proofs.Ytminmakiahjfbaa
open Go.RowKit
set_option linter.unusedVariables false
/-- A name and a print. -/
abbrev Ent := ByteArray × Int
def enG (p : Ent) : List Value := [.string p.1, .int .i64 p.2]
def nthE (l : List Ent) (k : Nat) : Ent := l.getD k (ByteArray.empty, 0)
theorem nthE_get {l : List Ent} {k : Nat} (h : k < l.length) : nthE l k = l[k] := by unfold nthE; rw [List.getD_eq_getElem?_getD, List.getElem?_eq_getElem h]; rfl
abbrev Ents (w : World) (B : Nat) (x : Option Addr) (n cap : Nat) (l : List Ent) : Prop := Lst enG w B x n cap l
/-! ### valid entries -/
/-- a is not behind b. -/
def leB (a b : ByteArray) : Bool := Op.bytesLess a.toList b.toList || a.toList == b.toList
def okE (l : List Ent) (k : Nat) : Bool := wordB (nthE l k).1 && isPr (nthE l k).2 && (decide (k = 0) || !leB (nthE l k).1 (nthE l (k - 1)).1)
def entsB (l : List Ent) : Bool := decide (l.length ≤ 3) && (List.range l.length).all (okE l)
theorem okE_yes {l : List Ent} {k : Nat} (h1 : wordB (nthE l k).1 = true) (h2 : isPr (nthE l k).2 = true) (h3 : k = 0 ∨ leB (nthE l k).1 (nthE l (k - 1)).1 = false) : okE l k = true := by
  unfold okE; rw [h1, h2]; rcases h3 with h | h
  · simp [h]
  · rw [h]; simp
theorem entsB_end {l : List Ent} (h : ∀ j, j < l.length → okE l j = true) : entsB l = decide (l.length ≤ 3) := by
  unfold entsB
  have : (List.range l.length).all (okE l) = true := List.all_eq_true.2 fun j hj => h j (List.mem_range.1 hj)
  rw [this, Bool.and_true]
theorem entsB_at {l : List Ent} (h : entsB l = true) : l.length ≤ 3 ∧ ∀ j, j < l.length → okE l j = true := by
  unfold entsB at h
  simp only [Bool.and_eq_true, decide_eq_true_eq, List.all_eq_true, List.mem_range] at h
  exact h
end Go.Proofs.Ytminmakiahjfbaa
/-
  Chapter 8's model: paths.
-/
namespace Go.Proofs.Ytminmakiahjfbaa
open Go.RowKit
set_option linter.unusedVariables false
def slashB (p : ByteArray) : ByteArray := ⟨#[47]⟩ ++ p
def slashed (l : List ByteArray) : ByteArray := joinB (l.map slashB)
/-- The path of words. -/
def pathB (l : List ByteArray) : ByteArray := if l = [] then ⟨#[47]⟩ else if (l.all wordB && decide (l.length ≤ 3)) = true then slashed l else ByteArray.empty
theorem word_size {s : ByteArray} (h : wordB s = true) : s.size ≤ 8 := by
  rcases Nat.lt_or_ge 8 s.size with h1 | h1
  · have := wordV_long s h1
    unfold wordB at h; rw [this] at h; cases h
  · exact h1
end Go.Proofs.Ytminmakiahjfbaa
/-
  Chapter 6's model: the text of a folder.
-/
namespace Go.Proofs.Ytminmakiahjfbaa
open Go.RowKit
set_option linter.unusedVariables false
/-- A text goes on with an entry. -/
def addE (t : ByteArray) (p : Ent) : ByteArray := t ++ p.1 ++ ⟨#[61]⟩ ++ hexB p.2 ++ ⟨#[59]⟩
def textE (l : List Ent) : ByteArray := l.foldl addE ⟨#[100]⟩
def folderB (l : List Ent) : ByteArray := if entsB l = true then textE l else ByteArray.empty
theorem okE_word {l : List Ent} {k : Nat} (h : okE l k = true) : wordB (nthE l k).1 = true ∧ isPr (nthE l k).2 = true := by
  unfold okE at h; simp only [Bool.and_eq_true] at h; exact h.1
/-! ### reading -/
/-- The first place from k on at which c stands, or the end. -/
def seekGo (c : UInt8) : List UInt8 → Nat
  | [] => 0
  | x :: r => if x = c then 0 else seekGo c r + 1
def seekB (c : UInt8) (s : ByteArray) (k : Nat) : Nat := k + seekGo c (s.data.toList.drop k)
/-- The entries of a text from a place on, behind those that were read. -/
def readEs (s : ByteArray) : Nat → Nat → List Ent → Option (List Ent)
  | 0, _, _ => none
  | f + 1, k, out =>
    if k < s.size then
      if seekB 59 s (seekB 61 s k) = s.size then none
      else readEs s f (seekB 59 s (seekB 61 s k) + 1) (out ++ [(s.extract k (seekB 61 s k), readB (s.extract (seekB 61 s k + 1) (seekB 59 s (seekB 61 s k))))])
    else some out
/-- The entries of a text. -/
def entsOf (s : ByteArray) : Option (List Ent) := readEs s (s.size + 1) 1 []
def isFold (s : ByteArray) : Bool := match entsOf s with
  | none => false
  | some l => decide (folderB l = s) && decide (0 < s.size)
def foldL (s : ByteArray) : List Ent := if isFold s = true then (entsOf s).getD [] else []
end Go.Proofs.Ytminmakiahjfbaa
/-
  Chapter 7's model: files.
-/
namespace Go.Proofs.Ytminmakiahjfbaa
open Go.RowKit
set_option linter.unusedVariables false
end Go.Proofs.Ytminmakiahjfbaa
/-
  Chapter 6's model: the folder of a text.
-/
namespace Go.Proofs.Ytminmakiahjfbaa
open Go.RowKit
set_option linter.unusedVariables false
end Go.Proofs.Ytminmakiahjfbaa
/-
  Chapter 7's model: kinds of texts.
-/
namespace Go.Proofs.Ytminmakiahjfbaa
open Go.RowKit
set_option linter.unusedVariables false
end Go.Proofs.Ytminmakiahjfbaa
/-
  Chapter 8's model: the parts of a path.
-/
namespace Go.Proofs.Ytminmakiahjfbaa
open Go.RowKit
set_option linter.unusedVariables false
/-- Parts so far, and the rest of the path. -/
def splitGo : List ByteArray → List UInt8 → List ByteArray
  | out, [] => out
  | out, c :: r => if c = 47 then splitGo (out ++ [ByteArray.empty]) r else if out = [] then splitGo out r else splitGo (out.set (out.length - 1) (nthS out (out.length - 1) ++ ⟨#[c]⟩)) r
def splitB (s : ByteArray) : List ByteArray := splitGo [] s.data.toList
def isPath (s : ByteArray) : Bool := decide (s = ⟨#[47]⟩) || (decide (0 < s.size) && decide (pathB (splitB s) = s))
def partsB (s : ByteArray) : List ByteArray := if s = ⟨#[47]⟩ then [] else if isPath s = true then splitB s else []
end Go.Proofs.Ytminmakiahjfbaa
/-
  Chapter 6's model: an entry is dropped.
-/
namespace Go.Proofs.Ytminmakiahjfbaa
open Go.RowKit
set_option linter.unusedVariables false
def otherE (nm : ByteArray) (p : Ent) : Bool := !(p.1.toList == nm.toList)
/-- The entries without a name. -/
def lessE (l : List Ent) (nm : ByteArray) : List Ent := l.filter (otherE nm)
def dropE (l : List Ent) (nm : ByteArray) : List Ent × Bool := if entsB l = true then (lessE l nm, decide ((lessE l nm).length < l.length)) else ([], false)
theorem dropE_ok {l : List Ent} {nm : ByteArray} (h : entsB l = true) : dropE l nm = (lessE l nm, decide ((lessE l nm).length < l.length)) := by unfold dropE; rw [if_pos h]
end Go.Proofs.Ytminmakiahjfbaa
/-
  Chapter 9's model: walking along names.
-/
namespace Go.Proofs.Ytminmakiahjfbaa
open Go.RowKit
set_option linter.unusedVariables false
end Go.Proofs.Ytminmakiahjfbaa
