/-
  Chapter 10's model: a print is set at names.
-/
import Derived.Test.YtigegjgkjahhaaaEnts
import Derived.Test.YtigegjgkjahhaaaEntries2
import Derived.Deep.CutRange
namespace Go.Proofs.Ytigegjgkjahhaaa
open Go.RowKit
set_option linter.unusedVariables false
/-- The print of the last entry with a name, or what there was. -/
def lastE (nm : ByteArray) : Int → List Ent → Int
  | c, [] => c
  | c, q :: r => lastE nm (if (q.1.toList == nm.toList) = true then q.2 else c) r
theorem lastE_yes {l : List Ent} {nm : ByteArray} {c : Int} {j : Nat} (h : j < l.length) (hn : ((nthE l j).1.toList == nm.toList) = true) : lastE nm c (l.drop j) = lastE nm (nthE l j).2 (l.drop (j + 1)) := by
  rw [List.drop_eq_getElem_cons h, lastE, ← nthE_get h, if_pos hn]
theorem lastE_no {l : List Ent} {nm : ByteArray} {c : Int} {j : Nat} (h : j < l.length) (hn : ((nthE l j).1.toList == nm.toList) = false) : lastE nm c (l.drop j) = lastE nm c (l.drop (j + 1)) := by
  rw [List.drop_eq_getElem_cons h, lastE, ← nthE_get h, if_neg (by rw [hn]; simp)]
theorem lastE_end {l : List Ent} {nm : ByteArray} {c : Int} {j : Nat} (h : l.length ≤ j) : lastE nm c (l.drop j) = c := by rw [List.drop_of_length_le h]; rfl
/-- The entries of the folder of a print; none of a print below 0. -/
def entsAt (l : List Pc) (p : Int) : List Ent := if 0 ≤ p then foldL (getT l p) else []
def setB (leaf : Int) : List Pc → Int → List ByteArray → List Pc × Int × Bool
  | l, p, [] => (l, leaf, true)
  | l, p, nm :: r =>
    if (decide (0 ≤ p) && !isFold (getT l p)) = true then (l, -1, false)
    else if (decide (r = []) && decide (0 ≤ lastE nm (-1) (entsAt l p)) && (!getO l (lastE nm (-1) (entsAt l p)) || !decide (kindB (getT l (lastE nm (-1) (entsAt l p))) = 1))) = true then (l, -1, false)
    else if (setB leaf l (lastE nm (-1) (entsAt l p)) r).2.2 = false then ((setB leaf l (lastE nm (-1) (entsAt l p)) r).1, -1, false)
    else if (putE (entsAt l p) (nm, (setB leaf l (lastE nm (-1) (entsAt l p)) r).2.1)).2 = false then ((setB leaf l (lastE nm (-1) (entsAt l p)) r).1, -1, false)
    else putB (setB leaf l (lastE nm (-1) (entsAt l p)) r).1 (folderB (putE (entsAt l p) (nm, (setB leaf l (lastE nm (-1) (entsAt l p)) r).2.1)).1)
/-- A store that can be read, a print and a bool. -/
def RdPut (t : List Pc × Int × Bool) (w : World) (e : Ending) (w' : World) : Prop := ∃ x n c, e = .returned (.tuple #[.slice x n c, .int .i64 t.2.1, .bool t.2.2]) ∧ Pcs w' w'.heap.size x n c t.1 ∧ Below w.heap.size w w'
theorem rdPut_of {t : List Pc × Int × Bool} {l : List Pc} {p : Int} {b : Bool} {w w' : World} {x : Option Addr} {n c : Nat} (h : t = (l, p, b)) (hr : Pcs w' w'.heap.size x n c l) (hb : Below w.heap.size w w') : RdPut t w (.returned (.tuple #[.slice x n c, .int .i64 p, .bool b])) w' := by rw [h]; exact ⟨x, n, c, rfl, hr, hb⟩
theorem fold_ents {s : ByteArray} : entsB (foldL s) = true := by
  unfold foldL
  split
  · rename_i h
    unfold isFold at h
    cases he : entsOf s with
    | none => rw [he] at h; cases h
    | some l =>
      rw [he] at h
      simp only [Bool.and_eq_true, decide_eq_true_eq] at h
      cases hv : entsB l
      · rw [folderB_no hv] at h
        have : s.size = 0 := by rw [← h.1]; rfl
        omega
      · exact hv
  · rfl
theorem entsAt_ok (l : List Pc) (p : Int) : entsB (entsAt l p) = true := by
  unfold entsAt; split
  · exact fold_ents
  · rfl
theorem ents_sizes {l : List Ent} (h : entsB l = true) (k : Nat) : (nthE l k).1.size ≤ 8 := by
  by_cases hk : k < l.length
  · exact word_size (okE_word ((entsB_at h).2 k hk)).1
  · unfold nthE; rw [List.getD_eq_getElem?_getD, List.getElem?_eq_none (by omega)]; simp
theorem textE_size {l : List Ent} (h : entsB l = true) : (textE l).size ≤ 49 := by
  have key : ∀ k, k ≤ l.length → (textE (l.take k)).size ≤ 1 + 16 * k := by
    intro k
    induction k with
    | zero => intro _; rw [List.take_zero]; decide
    | succ k ih =>
      intro hk
      rw [textE_snoc (by omega)]
      unfold addE
      have h1 := ih (by omega)
      have h2 := ents_sizes h k
      have h3 := hexB_size (nthE l k).2
      rw [ByteArray.size_append, ByteArray.size_append, ByteArray.size_append, ByteArray.size_append]
      have e1 : (ByteArray.mk #[61]).size = 1 := rfl
      have e2 : (ByteArray.mk #[59]).size = 1 := rfl
      omega
  have h1 := key l.length (Nat.le_refl _)
  rw [List.take_length] at h1
  have := (entsB_at h).1
  omega
theorem folderB_size (l : List Ent) : (folderB l).size ≤ 49 := by
  cases h : entsB l
  · rw [folderB_no h]; decide
  · rw [folderB_yes h]; exact textE_size h
theorem set_short {leaf : Int} {m : Nat} (hm : 49 ≤ m) : ∀ {ps : List ByteArray} {l : List Pc} {p : Int}, Short m l → Short m (setB leaf l p ps).1
  | [], l, p, h => h
  | nm :: r, l, p, h => by
    have ih := set_short (leaf := leaf) hm (ps := r) (p := lastE nm (-1) (entsAt l p)) h
    rw [setB]
    split
    · exact h
    split
    · exact h
    split
    · exact ih
    split
    · exact ih
    · exact put_short ih (Nat.le_trans (folderB_size _) hm)
theorem put_names {l : List Ent} {p : Ent} {m : Nat} (hz : ∀ k, (nthE l k).1.size ≤ m) (hp : p.1.size ≤ m) : ∀ k, (nthE (putE l p).1 k).1.size ≤ m := by
  unfold putE
  split
  · intro k; simp [nthE]
  · split
    · exact put_sizes rfl hz hp
    · exact hz
def setTest (l : List Pc) (r : List ByteArray) (c : Int) : Bool := decide (r = []) && decide (0 ≤ c) && (!getO l c || !decide (kindB (getT l c) = 1))
end Go.Proofs.Ytigegjgkjahhaaa
