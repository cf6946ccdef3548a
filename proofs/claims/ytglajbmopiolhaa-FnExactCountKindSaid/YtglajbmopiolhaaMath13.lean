/-
  Chapter 13, plain: roots that writes and drops made.
-/
import Derived.Test.YtglajbmopiolhaaMath10b
import Derived.Test.YtglajbmopiolhaaMath10c
import Derived.Test.YtglajbmopiolhaaFiles11
import Derived.Test.YtglajbmopiolhaaDraw14
namespace Go.Proofs.Ytglajbmopiolhaa
open Go.RowKit
set_option linter.unusedVariables false
/-- A folder whose entries all are files in the store, or such folders that are not empty; at most d names deep. -/
def Good (l : List Pc) : Nat → Int → Prop
  | 0, _ => False
  | d + 1, p => isFold (getT l p) = true ∧ ∀ q ∈ foldL (getT l p), isFile (getT l q.2) = true ∨ (foldL (getT l q.2) ≠ [] ∧ Good l d q.2)
theorem Good.fold {l : List Pc} : ∀ {d : Nat} {p : Int}, Good l d p → isFold (getT l p) = true
  | 0, _, h => h.elim
  | _ + 1, _, h => h.1
/-- The content of the file to which names lead. -/
def fileO (l : List Pc) : Int → List ByteArray → Option ByteArray
  | p, [] => if isFile (getT l p) = true then some (fileT (getT l p)) else none
  | p, nm :: r => match findE (foldL (getT l p)) nm with
    | none => none
    | some c => fileO l c r
theorem fileO_no {l : List Pc} {p : Int} {nm : ByteArray} {r : List ByteArray} (h : findE (foldL (getT l p)) nm = none) : fileO l p (nm :: r) = none := by rw [fileO, h]
theorem fileO_go {l : List Pc} {p c : Int} {nm : ByteArray} {r : List ByteArray} (h : findE (foldL (getT l p)) nm = some c) : fileO l p (nm :: r) = fileO l c r := by rw [fileO, h]
theorem fileO_nil {l : List Pc} {p : Int} (h : isFile (getT l p) = true) : fileO l p [] = some (fileT (getT l p)) := by rw [fileO, if_pos h]
theorem fileO_fold {l : List Pc} {p : Int} (h : isFile (getT l p) = false) : fileO l p [] = none := by rw [fileO, if_neg (by rw [h]; simp)]
theorem fold_not {s : ByteArray} (h : isFold s = true) : isFile s = false := by
  cases hf : isFile s
  · rfl
  · rw [not_fold hf] at h; cases h
theorem fileO_file {l : List Pc} {p : Int} {r : List ByteArray} (h : isFile (getT l p) = true) : fileO l p r = if r = [] then some (fileT (getT l p)) else none := by
  cases r with
  | nil => rw [fileO_nil h, if_pos rfl]
  | cons nm r => rw [fileO_no (by rw [foldL_no (not_fold h)]; rfl), if_neg (by simp)]
theorem file_get {l : List Pc} {p : Int} (h : isFile (getT l p) = true) : getB l p = some (getT l p) := by
  have := file_has h
  unfold getO at this
  cases hg : getB l p with
  | none => rw [hg] at this; cases this
  | some t => rw [getT_some hg]
theorem has_same {l x : List Pc} {p : Int} (g : Grows l x) (h : isFile (getT l p) = true ∨ isFold (getT l p) = true) : getT x p = getT l p := by
  rcases h with h | h
  · exact getT_some (g.get (file_get h))
  · exact getT_some (g.get (fold_get h))
theorem fileO_grows {l x : List Pc} (g : Grows l x) : ∀ {ps : List ByteArray} {d : Nat} {p : Int}, Good l d p → fileO x p ps = fileO l p ps
  | _, 0, _, h => h.elim
  | [], d + 1, p, h => by rw [fileO, fileO, has_same g (.inr h.1)]
  | nm :: r, d + 1, p, h => by
    have e := has_same g (.inr h.1)
    cases hf : findE (foldL (getT l p)) nm with
    | none => rw [fileO_no hf, fileO_no (by rw [e]; exact hf)]
    | some c =>
      rw [fileO_go hf, fileO_go (c := c) (by rw [e]; exact hf)]
      rcases h.2 _ (findE_mem hf) with h1 | ⟨_, h1⟩
      · rw [fileO_file h1, fileO_file (by rw [has_same g (.inl h1)]; exact h1), has_same g (.inl h1)]
      · exact fileO_grows g h1
theorem good_grows {l x : List Pc} (g : Grows l x) : ∀ {d : Nat} {p : Int}, Good l d p → Good x d p
  | 0, _, h => h
  | d + 1, p, h => by
    have e := has_same g (.inr h.1)
    refine ⟨by rw [e]; exact h.1, fun q hq => ?_⟩
    rw [e] at hq
    rcases h.2 q hq with h1 | ⟨h0, h1⟩
    · left; rw [has_same g (.inl h1)]; exact h1
    · right; rw [has_same g (.inr h1.fold)]; exact ⟨h0, good_grows g h1⟩
theorem find_asc {l : List Pc} {p : Int} {q : Ent} (h : q ∈ foldL (getT l p)) : findE (foldL (getT l p)) q.1 = some q.2 := findE_in (ascN_of fold_ents) h
/-! ### what is read -/
theorem walk_file {l : List Pc} : ∀ {ps : List ByteArray} {p : Int}, fileO l p ps = if (walkB l p ps).2 = true then (if isFile (getT l (walkB l p ps).1) = true then some (fileT (getT l (walkB l p ps).1)) else none) else none
  | [], p => by
    rw [fileO, walkB]
    cases hg : getO l p
    · rw [if_neg (show ¬ isFile (getT l p) = true by rw [(empty_none hg).1]; simp)]; rfl
    · rw [if_pos rfl]; rfl
  | nm :: r, p => by
    rw [walkB, childB]
    cases hf : findE (foldL (getT l p)) nm with
    | none => rw [fileO_no hf]; rfl
    | some c => rw [fileO_go hf]; exact walk_file
theorem rd_file {l : List Pc} {root : Int} {path : ByteArray} (hs : storeB l = true) (hp : isPath path = true) : rdB l root path = ((fileO l root (partsB path)).getD ByteArray.empty, (fileO l root (partsB path)).isSome) := by
  unfold rdB
  rw [wtB_yes hp hs, walk_file, (got_yes _ hs).1]
  cases hw : (walkB l root (partsB path)).2
  · rfl
  · cases hf : isFile (getT l (walkB l root (partsB path)).1)
    · rw [if_pos rfl, if_pos rfl, if_neg (by simp), fileT_no hf]; rfl
    · rfl
theorem rd_none {l : List Pc} {root : Int} {path : ByteArray} (hp : isPath path = false) : rdB l root path = (ByteArray.empty, false) := by
  unfold rdB; rw [wtB_no (.inl hp)]; rfl
end Go.Proofs.Ytglajbmopiolhaa
