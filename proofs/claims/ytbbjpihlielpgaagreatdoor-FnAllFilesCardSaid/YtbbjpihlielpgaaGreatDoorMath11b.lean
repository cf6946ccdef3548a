/-
  Chapter 11's program, plain: the paths below a print, and the last name of a path.
-/
import Derived.Test.YtbbjpihlielpgaaGreatDoorModel11
import Derived.Test.YtbbjpihlielpgaaGreatDoorImpl9
import Derived.Lib.LastIndexByte
namespace Go.Proofs.YtbbjpihlielpgaaGreatDoor
open Go.RowKit
set_option linter.unusedVariables false
/-- The paths of all files below a print, each behind the path above it, at most d names deep. -/
def underP (l : List Pc) : Nat → Int → ByteArray → List ByteArray
  | 0, _, _ => []
  | d + 1, p, a => (foldL (gotT l p)).flatMap fun q => if isFile (gotT l q.2) = true then [a ++ ⟨#[47]⟩ ++ q.1] else underP l d q.2 (a ++ ⟨#[47]⟩ ++ q.1)
/-- What one entry gives. -/
def entP (l : List Pc) (d : Nat) (a : ByteArray) (q : Ent) : List ByteArray := if isFile (gotT l q.2) = true then [a ++ ⟨#[47]⟩ ++ q.1] else underP l d q.2 (a ++ ⟨#[47]⟩ ++ q.1)
theorem underP_succ (l : List Pc) (d : Nat) (p : Int) (a : ByteArray) : underP l (d + 1) p a = (foldL (gotT l p)).flatMap (entP l d a) := rfl
theorem entP_file {l : List Pc} {d : Nat} {a : ByteArray} {q : Ent} (h : isFile (gotT l q.2) = true) : entP l d a q = [a ++ ⟨#[47]⟩ ++ q.1] := by unfold entP; rw [if_pos h]
theorem entP_fold {l : List Pc} {d : Nat} {a : ByteArray} {q : Ent} (h : isFile (gotT l q.2) = false) : entP l d a q = underP l d q.2 (a ++ ⟨#[47]⟩ ++ q.1) := by unfold entP; rw [if_neg (by rw [h]; simp)]
theorem entP_step {l : List Pc} {d : Nat} {a : ByteArray} {E : List Ent} {k : Nat} (h : k < E.length) : (E.take (k + 1)).flatMap (entP l d a) = (E.take k).flatMap (entP l d a) ++ entP l d a (nthE E k) := by
  rw [take_snocE h, List.flatMap_append]; simp
theorem underP_len {l : List Pc} : ∀ (d : Nat) (p : Int) (a : ByteArray), (underP l d p a).length ≤ 3 ^ d
  | 0, p, a => by rw [underP]; simp
  | d + 1, p, a => by
    have key : ∀ L : List Ent, (L.flatMap (entP l d a)).length ≤ L.length * 3 ^ d := by
      intro L
      induction L with
      | nil => simp
      | cons q L ih =>
        rw [List.flatMap_cons, List.length_append, List.length_cons, Nat.succ_mul]
        have : (entP l d a q).length ≤ 3 ^ d := by
          unfold entP
          split
          · have := Nat.pow_pos (n := d) (show 0 < 3 by decide); simp; omega
          · exact underP_len d _ _
        omega
    have h3 : (foldL (gotT l p)).length * 3 ^ d ≤ 3 * 3 ^ d := Nat.mul_le_mul_right _ (foldL_len _)
    rw [underP_succ]
    have := key (foldL (gotT l p))
    rw [Nat.pow_succ]; omega
theorem underP_many {l : List Pc} {d : Nat} {p : Int} {a : ByteArray} (h : d ≤ 3) : (underP l d p a).length ≤ 27 :=
  Nat.le_trans (underP_len d p a) (Nat.pow_le_pow_right (by decide) h)
theorem entP_many {l : List Pc} {d : Nat} {a : ByteArray} {q : Ent} (h : d ≤ 3) : (entP l d a q).length ≤ 27 := by
  unfold entP
  split
  · simp
  · exact underP_many h
theorem slashed_add1 (ps : List ByteArray) (nm : ByteArray) : slashed (ps ++ [nm]) = slashed ps ++ ⟨#[47]⟩ ++ nm := by
  apply data_inj
  rw [slashed_add, slashed_one]
  simp
theorem words_snoc {ps : List ByteArray} {nm : ByteArray} (h : ∀ s ∈ ps, wordB s = true) (hn : wordB nm = true) : ∀ s ∈ ps ++ [nm], wordB s = true := by
  intro s hs
  rcases List.mem_append.1 hs with h1 | h1
  · exact h s h1
  · rw [List.mem_singleton.1 h1]; exact hn
theorem path_of_words {ps : List ByteArray} (h0 : ps ≠ []) (h : ∀ s ∈ ps, wordB s = true) (h3 : ps.length ≤ 3) : pathB ps = slashed ps :=
  path_ok h0 (by unfold okW; rw [List.all_eq_true.2 h, decide_eq_true h3]; rfl)
theorem flatMap_same {f g : Ent → List ByteArray} : ∀ {L : List Ent}, (∀ q ∈ L, f q = g q) → L.flatMap f = L.flatMap g
  | [], _ => rfl
  | q :: L, h => by rw [List.flatMap_cons, List.flatMap_cons, h q (List.mem_cons_self ..), flatMap_same fun r hr => h r (List.mem_cons_of_mem _ hr)]
/-- In a valid store the model's files below names are the program's. -/
theorem files_below {l : List Pc} (hs : storeB l = true) : ∀ (d : Nat) (p : Int) (ps : List ByteArray), (∀ s ∈ ps, wordB s = true) → ps.length + d = 3 → filesB l d p ps = if (isFile (getT l p) && decide (0 < ps.length)) = true then [pathB ps] else underP l d p (slashed ps)
  | 0, p, ps, hw, h3 => by rw [filesB, underP]
  | d + 1, p, ps, hw, h3 => by
    rw [filesB, underP_succ, (got_yes p hs).1]
    congr 1
    refine flatMap_same fun q hq => ?_
    have hq1 := (ents_ok (fold_ents (s := getT l p)) q hq).1
    have hw' := words_snoc hw hq1
    have hl : (ps ++ [q.1]).length = ps.length + 1 := by simp
    rw [files_below hs d q.2 (ps ++ [q.1]) hw' (by omega), decide_eq_true (by omega), Bool.and_true, path_of_words (by simp) hw' (by omega), slashed_add1]
    unfold entP
    rw [(got_yes q.2 hs).1]
theorem all_below (l : List Pc) (root : Int) : allB l root = underP l 3 root ByteArray.empty := by
  unfold allB
  cases hs : storeB l
  · rw [if_neg (by simp), underP_succ, gotT_out hs, foldL_no empty_fold]; rfl
  · rw [if_pos rfl, files_below hs 3 root [] (fun s hs => by cases hs) rfl, if_neg (by simp)]; rfl
/-! ### the last name of a path -/
/-- What stands behind the last sign. -/
def lastS (s : ByteArray) : ByteArray := s.extract (Lib.lastIndexByte s 47 + 1).toNat s.size
theorem bang_at {s : ByteArray} {j : Nat} (h : j < s.size) : s.data[j]! = s.data.toList[j]'(by rw [len_eq]; exact h) := by
  have : j < s.data.size := h
  rw [getElem!_pos s.data j this]; simp
theorem last_place {a nm : ByteArray} (h : wordB nm = true) : Lib.lastIndexByte (a ++ ⟨#[47]⟩ ++ nm) 47 = (a.size : Int) := by
  have hd : (a ++ ⟨#[47]⟩ ++ nm).data.toList = a.data.toList ++ 47 :: nm.data.toList := by simp
  have hl : (a ++ ⟨#[47]⟩ ++ nm).size = a.size + 1 + nm.size := by
    rw [← len_eq, hd, List.length_append, List.length_cons, len_eq, len_eq]; omega
  have at0 : (((a ++ ⟨#[47]⟩ ++ nm).data[a.size]!).toNat : Int) = 47 := by
    rw [bang_at (by omega)]
    have : (a ++ ⟨#[47]⟩ ++ nm).data.toList[a.size]'(by rw [len_eq]; omega) = 47 := by
      have e := List.getElem_of_eq hd (by rw [len_eq, hl]; omega : a.size < (a ++ ⟨#[47]⟩ ++ nm).data.toList.length)
      rw [e, List.getElem_append_right (by rw [len_eq]; omega)]
      simp
    rw [this]; rfl
  have behind : ∀ j, a.size < j → j < (a ++ ⟨#[47]⟩ ++ nm).size → (((a ++ ⟨#[47]⟩ ++ nm).data[j]!).toNat : Int) ≠ 47 := by
    intro j h1 h2 e
    rw [bang_at h2] at e
    have e2 := List.getElem_of_eq hd (by rw [len_eq]; exact h2 : j < (a ++ ⟨#[47]⟩ ++ nm).data.toList.length)
    obtain ⟨i, rfl⟩ : ∃ i, j = a.size + (i + 1) := ⟨j - a.size - 1, by omega⟩
    have e3 : (a ++ ⟨#[47]⟩ ++ nm).data.toList[a.size + (i + 1)]'(by rw [len_eq]; exact h2) = nm.data.toList[i]'(by rw [len_eq]; omega) := by
      rw [e2, List.getElem_append_right (by rw [len_eq]; omega)]
      simp
    rw [e3] at e
    exact word47 h _ (List.getElem_mem (by rw [len_eq]; omega : i < nm.data.toList.length)) (UInt8.toNat_inj.1 (by simpa using Int.ofNat.inj e))
  rcases Lib.lastIndexByte_spec (a ++ ⟨#[47]⟩ ++ nm) 47 with ⟨_, hn⟩ | ⟨i, hi, e, hc, hn⟩
  · exact absurd at0 (hn a.size (by omega))
  · rw [e]
    rcases Nat.lt_trichotomy i a.size with h1 | h1 | h1
    · exact absurd at0 (hn a.size h1 (by omega))
    · rw [h1]
    · exact absurd hc (behind i h1 hi)
theorem lastS_of {a nm : ByteArray} (h : wordB nm = true) : lastS (a ++ ⟨#[47]⟩ ++ nm) = nm := by
  unfold lastS
  rw [last_place h]
  apply data_inj
  have h1 : ((a.size : Int) + 1).toNat = (a ++ ⟨#[47]⟩).size := by rw [ByteArray.size_append]; have : (ByteArray.mk #[47]).size = 1 := rfl; omega
  rw [h1, ByteArray.data_extract, ByteArray.data_append]
  have h2 : (a ++ ⟨#[47]⟩ : ByteArray).size = (a ++ ⟨#[47]⟩ : ByteArray).data.size := rfl
  have h3 : (a ++ ⟨#[47]⟩ ++ nm).size = (a ++ ⟨#[47]⟩ : ByteArray).data.size + nm.data.size := by rw [ByteArray.size_append]; rfl
  rw [h2, h3]
  simp
  rw [List.drop_of_length_le (by simp), List.take_nil, List.nil_append, List.take_of_length_le (by rw [len_eq]; exact Nat.le_refl _)]
theorem last_is {l : List Pc} {root : Int} {s word : ByteArray} (h : s ∈ allB l root) : lastIs s word = decide (lastS s = word) := by
  unfold allB at h
  split at h
  · obtain ⟨r, h1, h2, h3, h4, _⟩ := (files_iff 3 root [] s).1 h
    rw [List.nil_append] at h2 h3
    have hw := walk_words h4
    obtain ⟨e1, _⟩ := path_words hw h1
    rw [← h3] at e1
    rw [path_of_words h2 hw h1] at h3
    obtain ⟨r', nm, rfl⟩ : ∃ r' nm, r = r' ++ [nm] := ⟨r.dropLast, r.getLast h2, (List.dropLast_concat_getLast h2).symm⟩
    unfold lastIs
    rw [e1, nthS_last, h3, slashed_add1, lastS_of (hw nm (by simp)), decide_eq_true (by simp), Bool.true_and]
  · cases h
theorem named_last (l : List Pc) (root : Int) (word : ByteArray) : namedB l root word = (allB l root).filter fun s => decide (lastS s = word) := by
  unfold namedB
  exact List.filter_congr fun s hs => last_is hs
theorem lastN_yes {xs : List ByteArray} {word : ByteArray} {k : Nat} (h : k < xs.length) (hl : decide (lastS (nthS xs k) = word) = true) : (xs.take (k + 1)).filter (fun s => decide (lastS s = word)) = (xs.take k).filter (fun s => decide (lastS s = word)) ++ [nthS xs k] := by
  rw [take_snocS h, List.filter_append, List.filter_cons, if_pos hl]; rfl
theorem lastN_no {xs : List ByteArray} {word : ByteArray} {k : Nat} (h : k < xs.length) (hl : decide (lastS (nthS xs k) = word) = false) : (xs.take (k + 1)).filter (fun s => decide (lastS s = word)) = (xs.take k).filter (fun s => decide (lastS s = word)) := by
  rw [take_snocS h, List.filter_append, List.filter_cons, if_neg (by rw [hl]; simp)]; simp
end Go.Proofs.YtbbjpihlielpgaaGreatDoor
