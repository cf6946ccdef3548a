/-
  Chapter 11's program, plain: the paths below a print, and the last name of a path.
-/
import Derived.Test.YtglajbmopiolhaaGreatDoorModel11
import Derived.Test.YtglajbmopiolhaaGreatDoorImpl9
import Derived.Lib.LastIndexByte
namespace Go.Proofs.YtglajbmopiolhaaGreatDoor
open Go.RowKit
set_option linter.unusedVariables false
/-- The paths of all files below a print, each behind the path above it, at most d names deep. -/
def underP (l : List Pc) : Nat → Int → ByteArray → List ByteArray
  | 0, _, _ => []
  | d + 1, p, a => (foldL (gotT l p)).flatMap fun q => if isFile (gotT l q.2) = true then [a ++ ⟨#[47]⟩ ++ q.1] else underP l d q.2 (a ++ ⟨#[47]⟩ ++ q.1)
/-- What one entry gives. -/
def entP (l : List Pc) (d : Nat) (a : ByteArray) (q : Ent) : List ByteArray := if isFile (gotT l q.2) = true then [a ++ ⟨#[47]⟩ ++ q.1] else underP l d q.2 (a ++ ⟨#[47]⟩ ++ q.1)
theorem underP_succ (l : List Pc) (d : Nat) (p : Int) (a : ByteArray) : underP l (d + 1) p a = (foldL (gotT l p)).flatMap (entP l d a) := rfl
theorem entP_file {l : List Pc} {d : Nat} {a : ByteArray} {q : Ent} (h : isFile (gotT l q.2) = true) : entP l d a q = [a ++ ⟨#[47]⟩ ++ q.1] := by unfold entP; rw [if_pos h]
theorem entP_fold {l : List Pc} {d : Nat} {a : ByteArray} {q : Ent} (h : isFile (gotT l q.2) = false) : entP l d a q = underP l d q.2 (a ++ ⟨#[47]⟩ ++ q.1) := by unfold entP; rw [if_neg (by rw [h]; simp)]
theorem entP_step {l : List Pc} {d : Nat} {a : ByteArray} {E : List Ent} {k : Nat} (h : k < E.length) : (E.take (k + 1)).flatMap (entP l d a) = (E.take k).flatMap (entP l d a) ++ entP l d a (nthE E k) := by
  rw [take_snocE h, List.flatMap_append]; simp
theorem underP_len {l : List Pc} : ∀ (d : Nat) (p : Int) (a : ByteArray), (underP l d p a).length ≤ 3 ^ d
  | 0, p, a => by rw [underP]; simp
  | d + 1, p, a => by
    have key : ∀ L : List Ent, (L.flatMap (entP l d a)).length ≤ L.length * 3 ^ d := by
      intro L
      induction L with
      | nil => simp
      | cons q L ih =>
        rw [List.flatMap_cons, List.length_append, List.length_cons, Nat.succ_mul]
        have : (entP l d a q).length ≤ 3 ^ d := by
          unfold entP
          split
          · have := Nat.pow_pos (n := d) (show 0 < 3 by decide); simp; omega
          · exact underP_len d _ _
        omega
    have h3 : (foldL (gotT l p)).length * 3 ^ d ≤ 3 * 3 ^ d := Nat.mul_le_mul_right _ (foldL_len _)
    rw [underP_succ]
    have := key (foldL (gotT l p))
    rw [Nat.pow_succ]; omega
theorem underP_many {l : List Pc} {d : Nat} {p : Int} {a : ByteArray} (h : d ≤ 3) : (underP l d p a).length ≤ 27 :=
  Nat.le_trans (underP_len d p a) (Nat.pow_le_pow_right (by decide) h)
theorem entP_many {l : List Pc} {d : Nat} {a : ByteArray} {q : Ent} (h : d ≤ 3) : (entP l d a q).length ≤ 27 := by
  unfold entP
  split
  · simp
  · exact underP_many h
theorem slashed_add1 (ps : List ByteArray) (nm : ByteArray) : slashed (ps ++ [nm]) = slashed ps ++ ⟨#[47]⟩ ++ nm := by
  apply data_inj
  rw [slashed_add, slashed_one]
  simp
theorem words_snoc {ps : List ByteArray} {nm : ByteArray} (h : ∀ s ∈ ps, wordB s = true) (hn : wordB nm = true) : ∀ s ∈ ps ++ [nm], wordB s = true := by
  intro s hs
  rcases List.mem_append.1 hs with h1 | h1
  · exact h s h1
  · rw [List.mem_singleton.1 h1]; exact hn
theorem path_of_words {ps : List ByteArray} (h0 : ps ≠ []) (h : ∀ s ∈ ps, wordB s = true) (h3 : ps.length ≤ 3) : pathB ps = slashed ps :=
  path_ok h0 (by unfold okW; rw [List.all_eq_true.2 h, decide_eq_true h3]; rfl)
theorem flatMap_same {f g : Ent → List ByteArray} : ∀ {L : List Ent}, (∀ q ∈ L, f q = g q) → L.flatMap f = L.flatMap g
  | [], _ => rfl
  | q :: L, h => by rw [List.flatMap_cons, List.flatMap_cons, h q (List.mem_cons_self ..), flatMap_same fun r hr => h r (List.mem_cons_of_mem _ hr)]
/-- In a valid store the model's files below names are the program's. -/
theorem files_below {l : List Pc} (hs : storeB l = true) : ∀ (d : Nat) (p : Int) (ps : List ByteArray), (∀ s ∈ ps, wordB s = true) → ps.length + d = 3 → filesB l d p ps = if (isFile (getT l p) && decide (0 < ps.length)) = true then [pathB ps] else underP l d p (slashed ps)
  | 0, p, ps, hw, h3 => by rw [filesB, underP]
  | d + 1, p, ps, hw, h3 => by
    rw [filesB, underP_succ, (got_yes p hs).1]
    congr 1
    refine flatMap_same fun q hq => ?_
    have hq1 := (ents_ok (fold_ents (s := getT l p)) q hq).1
    have hw' := words_snoc hw hq1
    have hl : (ps ++ [q.1]).length = ps.length + 1 := by simp
    rw [files_below hs d q.2 (ps ++ [q.1]) hw' (by omega), decide_eq_true (by omega), Bool.and_true, path_of_words (by simp) hw' (by omega), slashed_add1]
    unfold entP
    rw [(got_yes q.2 hs).1]
theorem all_below (l : List Pc) (root : Int) : allB l root = underP l 3 root ByteArray.empty := by
  unfold allB
  cases hs : storeB l
  · rw [if_neg (by simp), underP_succ, gotT_out hs, foldL_no empty_fold]; rfl
  · rw [if_pos rfl, files_below hs 3 root [] (fun s hs => by cases hs) rfl, if_neg (by simp)]; rfl
/-! ### the last name of a path -/
end Go.Proofs.YtglajbmopiolhaaGreatDoor
