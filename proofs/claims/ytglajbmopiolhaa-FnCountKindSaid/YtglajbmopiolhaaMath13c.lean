/-
  Chapter 13, plain: what happened between two roots, and what carrying it leads to.
-/
import Derived.Test.YtglajbmopiolhaaMath13b
namespace Go.Proofs.Ytglajbmopiolhaa
open Go.RowKit
set_option linter.unusedVariables false
theorem path_eq {a b : ByteArray} (ha : isPath a = true) (hb : isPath b = true) (h : partsB a = partsB b) : a = b := by rw [← path_back ha, ← path_back hb, h]
theorem write_leaf {l : List Pc} {root : Int} {path content : ByteArray} (h : (writeB l root path content).2.2 = true) : LeafOk l root (partsB path) := by
  unfold writeB at h
  split at h
  · cases h
  split at h
  · cases h
  split at h
  · cases h
  rename_i h3
  rw [Bool.not_eq_false] at h3
  exact set_leaf h3
/-- A write to a good root: a good one, at which the same is read but at the path. -/
theorem write_goodR {l : List Pc} {root : Int} {path content : ByteArray} (h : (writeB l root path content).2.2 = true) (hg : Good l 3 root) :
    Good (writeB l root path content).1 3 (writeB l root path content).2.1 ∧ ∀ q, rdB (writeB l root path content).1 (writeB l root path content).2.1 q = if q = path then (content, true) else rdB l root q := by
  obtain ⟨hs, hp, hne, hc, _, hP, g, hM, hget, _⟩ := write_made h
  have hl : isFile (getT (writeB l root path content).1 (printB (fileB content))) = true := by rw [getT_some hget]; exact (file_folds hc).1
  have ht : fileT (getT (writeB l root path content).1 (printB (fileB content))) = content := by rw [getT_some hget]; exact (file_folds hc).2.2
  obtain ⟨g1, _, g3⟩ := made_good hs g hl hne parts_small.1 hM (write_leaf h) (.inr hg)
  rw [hP]
  refine ⟨g1, fun q => ?_⟩
  cases hq : isPath q
  · rw [rd_none hq, rd_none hq, if_neg (fun e => by rw [e, hp] at hq; cases hq)]
  · rw [rd_file g.1 hq, rd_file hs hq, g3]
    by_cases e : q = path
    · subst e; rw [if_pos rfl, if_pos rfl, ht]; rfl
    · rw [if_neg e, if_neg fun e2 => e (path_eq hq hp e2)]
theorem drop_root {l : List Pc} {root : Int} {path : ByteArray} (h : (dropAtB l root path).2.2 = true) :
    ((dropAtB l root path).2.1 = (dropB l root (partsB path)).2.1 ∧ 0 ≤ (dropB l root (partsB path)).2.1) ∨ ((dropB l root (partsB path)).2.1 < 0 ∧ getB (dropAtB l root path).1 (dropAtB l root path).2.1 = some (folderB [])) := by
  unfold dropAtB at h ⊢
  split at h
  · cases h
  rename_i h1
  rw [if_neg h1]
  split at h
  · cases h
  rename_i h2
  rw [if_neg h2]
  split at h
  · rename_i h3
    rw [if_pos h3]
    rw [Bool.and_eq_true, decide_eq_true_eq] at h3
    split at h
    · cases h
    rename_i h4
    rw [if_neg h4]
    rw [Bool.not_eq_false] at h4
    obtain ⟨_, g2, g3, _⟩ := put_grown h4
    refine .inr ⟨h3.2, ?_⟩
    show getB _ (putB (dropB l root (partsB path)).1 (folderB [])).2.1 = _
    rw [g2]; exact g3
  · rename_i h3
    rw [if_neg h3]
    split at h
    · cases h
    rename_i h4
    rw [if_neg h4]
    rw [Bool.not_eq_false] at h4
    rw [h4, Bool.true_and, decide_eq_true_eq] at h3
    exact .inl ⟨rfl, by omega⟩
theorem dropAt_goodR {l : List Pc} {root : Int} {path : ByteArray} (h : (dropAtB l root path).2.2 = true) (hg : Good l 3 root) :
    Good (dropAtB l root path).1 3 (dropAtB l root path).2.1 ∧ ∀ q, isPath q = true → rdB (dropAtB l root path).1 (dropAtB l root path).2.1 q = if preW (partsB path) (partsB q) = true then (ByteArray.empty, false) else rdB l root q := by
  obtain ⟨hs, hp, hne, hw, h3, g, _, _⟩ := drop_made h
  have hst := g.1
  rcases drop_goodR hs hg h3 g with ⟨a1, a2⟩ | ⟨a1, a2, a3, a4⟩
  · rcases drop_root h with ⟨b1, b2⟩ | ⟨b1, b2⟩
    · omega
    · have ht := getT_some b2
      have hf := fold_text (l := []) rfl
      rw [← folderB_yes (l := []) rfl] at hf
      have hfold : isFold (getT (dropAtB l root path).1 (dropAtB l root path).2.1) = true := by rw [ht]; exact hf.2
      have hE : foldL (getT (dropAtB l root path).1 (dropAtB l root path).2.1) = [] := by rw [ht]; exact hf.1
      have hno : ∀ qs, fileO (dropAtB l root path).1 (dropAtB l root path).2.1 qs = none := fun qs => by
        cases qs with
        | nil => exact fileO_fold (fold_not hfold)
        | cons nm r => exact fileO_no (by rw [hE]; rfl)
      refine ⟨good_of hfold (fun q hq => by rw [hE] at hq; cases hq), fun q hq => ?_⟩
      rw [rd_file hst hq, rd_file hs hq, hno]
      split
      · rfl
      · rename_i h5
        rcases a2 (partsB q) with h4 | h4
        · rw [h4]
        · exact absurd h4 h5
  · rcases drop_root h with ⟨b1, _⟩ | ⟨b1, _⟩
    · rw [b1]
      refine ⟨a2, fun q hq => ?_⟩
      rw [rd_file hst hq, rd_file hs hq, a4]
      split
      · rfl
      · rfl
    · omega
theorem write_grows {l : List Pc} {root : Int} {path content : ByteArray} (h : (writeB l root path content).2.2 = true) : Grows l (writeB l root path content).1 := (write_made h).2.2.2.2.2.2.1
theorem dropAt_grows {l : List Pc} {root : Int} {path : ByteArray} (h : (dropAtB l root path).2.2 = true) : Grows l (dropAtB l root path).1 := by
  obtain ⟨hs, _, _, _, h3, g, _⟩ := drop_made h
  exact (drop_ok hs h3).1.trans g
/-- The folder without entries is good. -/
theorem empty_goodR {l : List Pc} (h : (putB l (folderB [])).2.2 = true) : Good (putB l (folderB [])).1 3 (putB l (folderB [])).2.1 := by
  obtain ⟨_, g2, g3, _⟩ := put_grown h
  have hf := fold_text (l := []) rfl
  rw [← folderB_yes (l := []) rfl] at hf
  have ht := getT_some g3
  rw [g2]
  exact good_of (by rw [ht]; exact hf.2) (fun q hq => by rw [ht, hf.1] at hq; cases hq)
/-! ### changes -/
def goneC (l : List Pc) (a b : Int) : List Ent := ((allB l a).filter fun s => !(rdB l b s).2).map fun s => (s, 2)
def newT (l : List Pc) (a b : Int) (s : ByteArray) : Bool := !(rdB l a s).2 || !decide ((rdB l a s).1 = (rdB l b s).1)
def newK (l : List Pc) (a : Int) (s : ByteArray) : Int := if (rdB l a s).2 = true then 1 else 0
def newC (l : List Pc) (a b : Int) : List Ent := ((allB l b).filter (newT l a b)).map fun s => (s, newK l a s)
def chgB (l : List Pc) (a b : Int) : List Ent := goneC l a b ++ newC l a b
end Go.Proofs.Ytglajbmopiolhaa
