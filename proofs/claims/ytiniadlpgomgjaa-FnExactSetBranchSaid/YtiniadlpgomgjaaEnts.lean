/-
  Entries in memory; chapter 6's model: valid entries.
-/
import Derived.Test.YtiniadlpgomgjaaPrints
import Derived.Test.YtiniadlpgomgjaaMem
import Derived.Test.YtiniadlpgomgjaaHelp
import Derived.Test.YtiniadlpgomgjaaWords
import Derived.Test.YtiniadlpgomgjaaArgs
import Derived.Laws.Cover1
import Derived.Test.YtiniadlpgomgjaaChunks
import Derived.WalkSpells
import Derived.RegionTactic
import Derived.BigRegion
import Derived.Test.YtiniadlpgomgjaaStores2
import Derived.Test.YtiniadlpgomgjaaStores
namespace Go.Proofs.Ytiniadlpgomgjaa
open Go.RowKit
set_option linter.unusedVariables false
/-- A name and a print. -/
abbrev Ent := ByteArray × Int
def enG (p : Ent) : List Value := [.string p.1, .int .i64 p.2]
theorem encEn : Enc enG 2 := ⟨fun _ => rfl, fun p u hu => by
  simp only [enG, List.mem_cons, List.not_mem_nil, or_false] at hu
  rcases hu with rfl | rfl <;> rfl, by decide⟩
def nthE (l : List Ent) (k : Nat) : Ent := l.getD k (ByteArray.empty, 0)
theorem nthE_get {l : List Ent} {k : Nat} (h : k < l.length) : nthE l k = l[k] := by unfold nthE; rw [List.getD_eq_getElem?_getD, List.getElem?_eq_getElem h]; rfl
theorem take_snocE {l : List Ent} {k : Nat} (h : k < l.length) : l.take (k + 1) = l.take k ++ [nthE l k] := by
  rw [List.take_succ_eq_append_getElem h, nthE_get h]
abbrev Ents (w : World) (B : Nat) (x : Option Addr) (n cap : Nat) (l : List Ent) : Prop := Lst enG w B x n cap l
theorem Lst.atE {w : World} {B : Nat} {x : Option Addr} {n cap : Nat} {l : List Ent} (h : Ents w B x n cap l) {k : Nat} (hk : k < n) :
    ∃ b off, x = some ⟨b, off, none⟩ ∧ b < B ∧ w.cell? ⟨b, off + k * 2, none⟩ = some (.string (nthE l k).1) ∧ w.cell? ⟨b, off + k * 2 + 1, none⟩ = some (.int .i64 (nthE l k).2) := by
  obtain ⟨b, off, rfl, hb, h0⟩ := Lst.at encEn h (k := k) (j := 0) (v := .string (nthE l k).1) (ByteArray.empty, 0) hk (by decide) rfl
  obtain ⟨b', off', e, _, h1⟩ := Lst.at encEn h (k := k) (j := 1) (v := .int .i64 (nthE l k).2) (ByteArray.empty, 0) hk (by decide) rfl
  simp only [Option.some.injEq, Addr.mk.injEq, and_true] at e
  obtain ⟨rfl, rfl⟩ := e
  exact ⟨b, off, rfl, hb, h0, h1⟩
theorem Lst.atPrevE {w : World} {B : Nat} {b off n cap : Nat} {l : List Ent} (h : Ents w B (some ⟨b, off, none⟩) n cap l) {k : Nat} (hk : k < n) (h0 : 0 < k) :
    w.cell? ⟨b, off + (k - 1) * 2, none⟩ = some (.string (nthE l (k - 1)).1) := by
  obtain ⟨b', off', e, _, h1, _⟩ := h.atE (k := k - 1) (by omega)
  simp only [Option.some.injEq, Addr.mk.injEq, and_true] at e
  obtain ⟨rfl, rfl⟩ := e
  exact h1
/-! ### valid entries -/
/-- a is not behind b. -/
def leB (a b : ByteArray) : Bool := Op.bytesLess a.toList b.toList || a.toList == b.toList
def okE (l : List Ent) (k : Nat) : Bool := wordB (nthE l k).1 && isPr (nthE l k).2 && (decide (k = 0) || !leB (nthE l k).1 (nthE l (k - 1)).1)
def entsB (l : List Ent) : Bool := decide (l.length ≤ 3) && (List.range l.length).all (okE l)
theorem okE_yes {l : List Ent} {k : Nat} (h1 : wordB (nthE l k).1 = true) (h2 : isPr (nthE l k).2 = true) (h3 : k = 0 ∨ leB (nthE l k).1 (nthE l (k - 1)).1 = false) : okE l k = true := by
  unfold okE; rw [h1, h2]; rcases h3 with h | h
  · simp [h]
  · rw [h]; simp
theorem entsB_end {l : List Ent} (h : ∀ j, j < l.length → okE l j = true) : entsB l = decide (l.length ≤ 3) := by
  unfold entsB
  have : (List.range l.length).all (okE l) = true := List.all_eq_true.2 fun j hj => h j (List.mem_range.1 hj)
  rw [this, Bool.and_true]
theorem entsB_at {l : List Ent} (h : entsB l = true) : l.length ≤ 3 ∧ ∀ j, j < l.length → okE l j = true := by
  unfold entsB at h
  simp only [Bool.and_eq_true, decide_eq_true_eq, List.all_eq_true, List.mem_range] at h
  exact h
end Go.Proofs.Ytiniadlpgomgjaa
/-
  Chapter 8's model: paths.
-/
namespace Go.Proofs.Ytiniadlpgomgjaa
open Go.RowKit
set_option linter.unusedVariables false
theorem word_size {s : ByteArray} (h : wordB s = true) : s.size ≤ 8 := by
  rcases Nat.lt_or_ge 8 s.size with h1 | h1
  · have := wordV_long s h1
    unfold wordB at h; rw [this] at h; cases h
  · exact h1
end Go.Proofs.Ytiniadlpgomgjaa
/-
  Chapter 6's model: the text of a folder.
-/
namespace Go.Proofs.Ytiniadlpgomgjaa
open Go.RowKit
set_option linter.unusedVariables false
/-- A text goes on with an entry. -/
def addE (t : ByteArray) (p : Ent) : ByteArray := t ++ p.1 ++ ⟨#[61]⟩ ++ hexB p.2 ++ ⟨#[59]⟩
def textE (l : List Ent) : ByteArray := l.foldl addE ⟨#[100]⟩
def folderB (l : List Ent) : ByteArray := if entsB l = true then textE l else ByteArray.empty
theorem okE_word {l : List Ent} {k : Nat} (h : okE l k = true) : wordB (nthE l k).1 = true ∧ isPr (nthE l k).2 = true := by
  unfold okE at h; simp only [Bool.and_eq_true] at h; exact h.1
/-! ### reading -/
/-- The first place from k on at which c stands, or the end. -/
def seekGo (c : UInt8) : List UInt8 → Nat
  | [] => 0
  | x :: r => if x = c then 0 else seekGo c r + 1
def seekB (c : UInt8) (s : ByteArray) (k : Nat) : Nat := k + seekGo c (s.data.toList.drop k)
/-- The entries of a text from a place on, behind those that were read. -/
def readEs (s : ByteArray) : Nat → Nat → List Ent → Option (List Ent)
  | 0, _, _ => none
  | f + 1, k, out =>
    if k < s.size then
      if seekB 59 s (seekB 61 s k) = s.size then none
      else readEs s f (seekB 59 s (seekB 61 s k) + 1) (out ++ [(s.extract k (seekB 61 s k), readB (s.extract (seekB 61 s k + 1) (seekB 59 s (seekB 61 s k))))])
    else some out
/-- The entries of a text. -/
def entsOf (s : ByteArray) : Option (List Ent) := readEs s (s.size + 1) 1 []
def isFold (s : ByteArray) : Bool := match entsOf s with
  | none => false
  | some l => decide (folderB l = s) && decide (0 < s.size)
def foldL (s : ByteArray) : List Ent := if isFold s = true then (entsOf s).getD [] else []
end Go.Proofs.Ytiniadlpgomgjaa
/-
  Chapter 7's model: files.
-/
namespace Go.Proofs.Ytiniadlpgomgjaa
open Go.RowKit
set_option linter.unusedVariables false
end Go.Proofs.Ytiniadlpgomgjaa
/-
  Chapter 6's model: the folder of a text.
-/
namespace Go.Proofs.Ytiniadlpgomgjaa
open Go.RowKit
set_option linter.unusedVariables false
end Go.Proofs.Ytiniadlpgomgjaa
/-
  Chapter 7's model: kinds of texts.
-/
namespace Go.Proofs.Ytiniadlpgomgjaa
open Go.RowKit
set_option linter.unusedVariables false
end Go.Proofs.Ytiniadlpgomgjaa
/-
  Chapter 8's model: the parts of a path.
-/
namespace Go.Proofs.Ytiniadlpgomgjaa
open Go.RowKit
set_option linter.unusedVariables false
end Go.Proofs.Ytiniadlpgomgjaa
/-
  Chapter 6's model: an entry is dropped.
-/
namespace Go.Proofs.Ytiniadlpgomgjaa
open Go.RowKit
set_option linter.unusedVariables false
def otherE (nm : ByteArray) (p : Ent) : Bool := !(p.1.toList == nm.toList)
/-- The entries without a name. -/
def lessE (l : List Ent) (nm : ByteArray) : List Ent := l.filter (otherE nm)
def dropE (l : List Ent) (nm : ByteArray) : List Ent × Bool := if entsB l = true then (lessE l nm, decide ((lessE l nm).length < l.length)) else ([], false)
theorem dropE_ok {l : List Ent} {nm : ByteArray} (h : entsB l = true) : dropE l nm = (lessE l nm, decide ((lessE l nm).length < l.length)) := by unfold dropE; rw [if_pos h]
theorem lessE_yes {l : List Ent} {nm : ByteArray} {k : Nat} (h : k < l.length) (hn : ((nthE l k).1.toList == nm.toList) = false) : lessE (l.take (k + 1)) nm = lessE (l.take k) nm ++ [nthE l k] := by
  unfold lessE; rw [take_snocE h, List.filter_append]
  have : otherE nm (nthE l k) = true := by unfold otherE; rw [hn]; rfl
  simp [this]
theorem lessE_no {l : List Ent} {nm : ByteArray} {k : Nat} (h : k < l.length) (hn : ((nthE l k).1.toList == nm.toList) = true) : lessE (l.take (k + 1)) nm = lessE (l.take k) nm := by
  unfold lessE; rw [take_snocE h, List.filter_append]
  have : otherE nm (nthE l k) = false := by unfold otherE; rw [hn]; rfl
  simp [this]
theorem lessE_len (l : List Ent) (nm : ByteArray) : (lessE l nm).length ≤ l.length := List.length_filter_le _ _
end Go.Proofs.Ytiniadlpgomgjaa
/-
  Chapter 9's model: walking along names.
-/
namespace Go.Proofs.Ytiniadlpgomgjaa
open Go.RowKit
set_option linter.unusedVariables false
/-- The print of a name in a folder. -/
def findE : List Ent → ByteArray → Option Int
  | [], _ => none
  | q :: r, nm => if (q.1.toList == nm.toList) = true then some q.2 else findE r nm
theorem findE_step {l : List Ent} {nm : ByteArray} {j : Nat} (h : j < l.length) (hn : ((nthE l j).1.toList == nm.toList) = false) : findE (l.drop j) nm = findE (l.drop (j + 1)) nm := by
  rw [List.drop_eq_getElem_cons h, findE, ← nthE_get h, if_neg (by rw [hn]; simp)]
theorem findE_stop {l : List Ent} {nm : ByteArray} {j : Nat} (h : j < l.length) (hn : ((nthE l j).1.toList == nm.toList) = true) : findE (l.drop j) nm = some (nthE l j).2 := by
  rw [List.drop_eq_getElem_cons h, findE, ← nthE_get h, if_pos hn]
theorem findE_end {l : List Ent} {nm : ByteArray} {j : Nat} (h : l.length ≤ j) : findE (l.drop j) nm = none := by rw [List.drop_of_length_le h]; rfl
end Go.Proofs.Ytiniadlpgomgjaa
