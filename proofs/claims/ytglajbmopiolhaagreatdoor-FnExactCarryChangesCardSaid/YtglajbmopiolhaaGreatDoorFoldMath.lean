/-
  Texts of folders: reading what was written, and only that.
-/
import Derived.Test.YtglajbmopiolhaaGreatDoorEntries2
namespace Go.Proofs.YtglajbmopiolhaaGreatDoor
open Go.RowKit
set_option linter.unusedVariables false
/-- The bytes of an entry in the text of a folder. -/
def entL (p : Ent) : List UInt8 := p.1.data.toList ++ 61 :: ((hexB p.2).data.toList ++ [59])
/-- Bytes, cut at the first =. -/
def cutL : List UInt8 → List UInt8 × List UInt8
  | [] => ([], [])
  | x :: r => if x = 61 then ([], r) else (x :: (cutL r).1, (cutL r).2)
def bytesOf (a : List UInt8) : ByteArray := ⟨a.toArray⟩
theorem bytesOf_list (s : ByteArray) : bytesOf s.data.toList = s := by unfold bytesOf; rw [Array.toArray_toList]
theorem bytesOf_to (a : List UInt8) : (bytesOf a).data.toList = a := by unfold bytesOf; simp
theorem data_inj {a b : ByteArray} (h : a.data.toList = b.data.toList) : a = b := by rw [← bytesOf_list a, h, bytesOf_list]
def entOf (a : List UInt8) : Ent := (bytesOf (cutL a).1, readB (bytesOf (cutL a).2))
/-- The entries of bytes, each behind its semicolon. -/
def pE : List UInt8 → List UInt8 → Option (List Ent)
  | acc, [] => if acc = [] then some [] else none
  | acc, x :: r => if x = 59 then (pE [] r).map (entOf acc :: ·) else pE (acc ++ [x]) r
theorem pE_nil : pE [] [] = some [] := rfl
theorem pE_step : ∀ (a acc b : List UInt8), (∀ x ∈ a, x ≠ 59) → pE acc (a ++ 59 :: b) = (pE [] b).map (entOf (acc ++ a) :: ·)
  | [], acc, b, _ => by rw [List.nil_append, pE, if_pos rfl, List.append_nil]
  | x :: a, acc, b, h => by
    rw [List.cons_append, pE, if_neg (h x (by simp)), pE_step a (acc ++ [x]) b (fun y hy => h y (by simp [hy])), List.append_assoc]; rfl
theorem pE_stop : ∀ (a acc : List UInt8), (∀ x ∈ a, x ≠ 59) → acc ++ a ≠ [] → pE acc a = none
  | [], acc, _, h => by rw [List.append_nil] at h; rw [pE, if_neg h]
  | x :: a, acc, h, h' => by
    rw [pE, if_neg (h x (by simp)), pE_stop a (acc ++ [x]) (fun y hy => h y (by simp [hy])) (by simp)]
theorem cutL_at : ∀ (a b : List UInt8), (∀ x ∈ a, x ≠ 61) → cutL (a ++ 61 :: b) = (a, b)
  | [], b, _ => by rw [List.nil_append, cutL, if_pos rfl]
  | x :: a, b, h => by
    rw [List.cons_append, cutL, if_neg (h x (by simp)), cutL_at a b (fun y hy => h y (by simp [hy]))]
theorem cutL_no : ∀ (a : List UInt8), (∀ x ∈ a, x ≠ 61) → cutL a = (a, [])
  | [], _ => rfl
  | x :: a, h => by rw [cutL, if_neg (h x (by simp)), cutL_no a (fun y hy => h y (by simp [hy]))]
theorem cutL_join : ∀ (a : List UInt8), (cutL a).2 ≠ [] → a = (cutL a).1 ++ 61 :: (cutL a).2
  | [], h => absurd rfl h
  | x :: a, h => by
    rw [cutL] at h ⊢
    split
    · rename_i hx; rw [hx]; rfl
    · rename_i hx; rw [if_neg hx] at h; rw [List.cons_append, ← cutL_join a h]
theorem hexOk_no {c : UInt8} (h : hexOk c = true) : ((48 ≤ (c.toNat : Int) ∧ (c.toNat : Int) ≤ 57) ∨ (97 ≤ (c.toNat : Int) ∧ (c.toNat : Int) ≤ 102)) := by
  by_cases h1 : (48 ≤ (c.toNat : Int) ∧ (c.toNat : Int) ≤ 57)
  · exact .inl h1
  by_cases h2 : (97 ≤ (c.toNat : Int) ∧ (c.toNat : Int) ≤ 102)
  · exact .inr h2
  have := digV_none c h1 h2
  unfold hexOk at h
  rw [decide_eq_true_eq] at h
  omega
theorem wtail_of {c : UInt8} (h : wtail c = true) : ((48 ≤ (c.toNat : Int) ∧ (c.toNat : Int) ≤ 57) ∨ (97 ≤ (c.toNat : Int) ∧ (c.toNat : Int) ≤ 122)) := by
  unfold wtail low dgt at h
  simp only [Bool.or_eq_true, decide_eq_true_eq] at h
  omega
theorem isPr_in {n : Int} (h : isPr n = true) : 0 ≤ n ∧ n ≤ 16777212 := by
  unfold isPr at h
  simpa using h
theorem word_all {s : ByteArray} (h : wordB s = true) {c : UInt8} (hc : c ∈ s.data.toList) : wtail c = true := by
  unfold wordB wordV at h
  simp only [Bool.and_eq_true] at h
  exact List.all_eq_true.1 h.2 c hc
theorem hex_all {n : Int} (h : isPr n = true) {c : UInt8} (hc : c ∈ (hexB n).data.toList) : hexOk c = true :=
  List.all_eq_true.1 (hexB_val (isPr_in h).1 (isPr_in h).2).1 c hc
theorem not59 {c : UInt8} (h : (48 ≤ (c.toNat : Int) ∧ (c.toNat : Int) ≤ 57) ∨ (97 ≤ (c.toNat : Int) ∧ (c.toNat : Int) ≤ 122)) : c ≠ 59 ∧ c ≠ 61 ∧ txt c = true := by
  refine ⟨fun e => ?_, fun e => ?_, txt_yes (by omega) (by omega)⟩
  · subst e; simp at h
  · subst e; simp at h
def okP (p : Ent) : Prop := wordB p.1 = true ∧ isPr p.2 = true
theorem okP_name {p : Ent} (h : okP p) : ∀ x ∈ p.1.data.toList, x ≠ 59 ∧ x ≠ 61 ∧ txt x = true := fun x hx => not59 (wtail_of (word_all h.1 hx))
theorem okP_hex {p : Ent} (h : okP p) : ∀ x ∈ (hexB p.2).data.toList, x ≠ 59 ∧ x ≠ 61 ∧ txt x = true := fun x hx => not59 (by have := hexOk_no (hex_all h.2 hx); omega)
theorem ents_ok {l : List Ent} (h : entsB l = true) : ∀ p ∈ l, okP p := by
  intro p hp
  obtain ⟨k, hk, rfl⟩ := List.mem_iff_getElem.1 hp
  have := okE_word ((entsB_at h).2 k hk)
  rw [nthE_get hk] at this
  exact this
theorem entOf_ent {p : Ent} (h : okP p) : entOf (p.1.data.toList ++ 61 :: (hexB p.2).data.toList) = p := by
  unfold entOf
  rw [cutL_at _ _ (fun x hx => (okP_name h x hx).2.1), bytesOf_list, bytesOf_list, readB_hexB (isPr_in h.2).1 (isPr_in h.2).2]
theorem entL_app (p : Ent) (b : List UInt8) : entL p ++ b = (p.1.data.toList ++ 61 :: (hexB p.2).data.toList) ++ 59 :: b := by unfold entL; simp
theorem pE_text : ∀ l : List Ent, (∀ p ∈ l, okP p) → pE [] (l.flatMap entL) = some l
  | [], _ => rfl
  | p :: l, h => by
    have hp := h p (by simp)
    rw [List.flatMap_cons, entL_app, pE_step _ _ _ (fun x hx => ?_), pE_text l (fun q hq => h q (by simp [hq])), List.nil_append, entOf_ent hp]
    · rfl
    · rcases List.mem_append.1 hx with h1 | h1
      · exact (okP_name hp x h1).1
      · rcases List.mem_cons.1 h1 with rfl | h1
        · decide
        · exact (okP_hex hp x h1).1
theorem readB_nil : readB (bytesOf []) = -1 := readB_empty _ (by decide)
theorem entL_entOf {a : List UInt8} (h : isPr (entOf a).2 = true) : entL (entOf a) = a ++ [59] := by
  have h1 : readB (bytesOf (cutL a).2) ≠ -1 := fun e => by
    have := (isPr_in h).1
    unfold entOf at this
    rw [show ((bytesOf (cutL a).1, readB (bytesOf (cutL a).2)) : Ent).2 = readB (bytesOf (cutL a).2) from rfl, e] at this
    omega
  have h2 : (cutL a).2 ≠ [] := fun e => h1 (by rw [e]; exact readB_nil)
  unfold entL entOf
  rw [show ((bytesOf (cutL a).1, readB (bytesOf (cutL a).2)) : Ent).1 = bytesOf (cutL a).1 from rfl, show ((bytesOf (cutL a).1, readB (bytesOf (cutL a).2)) : Ent).2 = readB (bytesOf (cutL a).2) from rfl, (readB_some h1).2.2, bytesOf_to, bytesOf_to]
  conv => rhs; rw [cutL_join a h2]
  simp
theorem pE_only : ∀ (r acc : List UInt8) (l : List Ent), pE acc r = some l → (∀ p ∈ l, okP p) → acc ++ r = l.flatMap entL
  | [], acc, l, h, _ => by
    rw [pE] at h
    split at h
    · rename_i h1; cases h; rw [h1]; rfl
    · cases h
  | x :: r, acc, l, h, hl => by
    rw [pE] at h
    split at h
    · rename_i h1
      cases h2 : pE [] r with
      | none => rw [h2] at h; cases h
      | some l' =>
        rw [h2] at h
        cases h
        have h3 := pE_only r [] l' h2 (fun p hp => hl p (by simp [hp]))
        rw [List.nil_append] at h3
        rw [List.flatMap_cons, entL_entOf (hl _ (by simp)).2, ← h3, h1, List.append_assoc]; rfl
    · have h3 := pE_only r _ l h hl
      rw [List.append_assoc] at h3; exact h3
theorem addE_list (t : ByteArray) (p : Ent) : (addE t p).data.toList = t.data.toList ++ entL p := by
  unfold addE entL
  simp only [ByteArray.data_append, Array.toList_append, List.append_assoc]
  rfl
theorem foldE_list : ∀ (l : List Ent) (t : ByteArray), (l.foldl addE t).data.toList = t.data.toList ++ l.flatMap entL
  | [], t => by simp
  | p :: l, t => by rw [List.foldl_cons, foldE_list l, addE_list, List.flatMap_cons, List.append_assoc]
theorem textE_list (l : List Ent) : (textE l).data.toList = 100 :: l.flatMap entL := by unfold textE; rw [foldE_list]; rfl
theorem textE_of {s : ByteArray} {l : List Ent} {r : List UInt8} (h : s.data.toList = 100 :: r) (h' : r = l.flatMap entL) : textE l = s := data_inj (by rw [textE_list, h, h'])
/-! ### the model reads what was written -/
theorem seekGo_at (c : UInt8) : ∀ (a b : List UInt8), (∀ x ∈ a, x ≠ c) → seekGo c (a ++ c :: b) = a.length
  | [], b, _ => by rw [List.nil_append, seekGo, if_pos rfl]; rfl
  | x :: a, b, h => by rw [List.cons_append, seekGo, if_neg (h x (by simp)), seekGo_at c a b (fun y hy => h y (by simp [hy]))]; rfl
theorem extract_list (s : ByteArray) (i j : Nat) : (s.extract i j).data.toList = (s.data.toList.drop i).take (j - i) := by
  rw [ByteArray.data_extract, Array.toList_extract, List.extract_eq_take_drop]
theorem readEs_text (s : ByteArray) : ∀ (l : List Ent) (k f : Nat) (out : List Ent), (∀ p ∈ l, okP p) → k ≤ s.size → s.data.toList.drop k = l.flatMap entL → s.size - k < f → readEs s f k out = some (out ++ l)
  | [], k, f, out, _, hk, h, hf => by
    have h1 := congrArg List.length h
    rw [List.length_drop, len_eq, List.flatMap_nil, List.length_nil] at h1
    rw [entsOf_end (by omega) f (by omega), List.append_nil]
  | p :: l, k, f, out, hl, hk, h, hf => by
    have hp := hl p (by simp)
    have h1 := congrArg List.length h
    rw [List.length_drop, len_eq, List.flatMap_cons, List.length_append] at h1
    have h2 : (entL p).length = p.1.data.toList.length + (hexB p.2).data.toList.length + 2 := by unfold entL; simp; omega
    obtain ⟨a, ha⟩ : ∃ a, p.1.data.toList = a := ⟨_, rfl⟩
    obtain ⟨x, hx⟩ : ∃ x, (hexB p.2).data.toList = x := ⟨_, rfl⟩
    have hna : ∀ y ∈ a, y ≠ 61 := fun y hy => (okP_name hp y (by rw [ha]; exact hy)).2.1
    have hnx : ∀ y ∈ x, y ≠ 59 := fun y hy => (okP_hex hp y (by rw [hx]; exact hy)).1
    rw [ha, hx] at h2
    have h0 : s.data.toList.drop k = a ++ 61 :: (x ++ 59 :: l.flatMap entL) := by rw [h, List.flatMap_cons]; unfold entL; rw [ha, hx]; simp
    have hs1 : seekB 61 s k = k + a.length := by unfold seekB; rw [h0, seekGo_at 61 _ _ hna]
    have h3 : s.data.toList.drop (k + a.length) = (61 :: x) ++ 59 :: l.flatMap entL := by rw [← List.drop_drop, h0, List.drop_left' rfl]; rfl
    have hs2 : seekB 59 s (k + a.length) = k + a.length + (x.length + 1) := by
      unfold seekB; rw [h3, seekGo_at 59 _ _ (fun y hy => ?_)]
      · rfl
      · rcases List.mem_cons.1 hy with rfl | hy
        · decide
        · exact hnx y hy
    have h4 : s.data.toList.drop (k + a.length + 1) = x ++ 59 :: l.flatMap entL := by rw [← List.drop_drop, h3]; rfl
    have h5 : s.data.toList.drop (k + a.length + (x.length + 1) + 1) = l.flatMap entL := by
      rw [show k + a.length + (x.length + 1) + 1 = (k + a.length) + ((61 :: x).length + 1) by simp; omega, ← List.drop_drop, h3, ← List.drop_drop, List.drop_left' rfl]; rfl
    have e1 : s.extract k (k + a.length) = p.1 := data_inj (by rw [extract_list, h0, show k + a.length - k = a.length by omega, List.take_left' rfl, ha])
    have e2 : s.extract (k + a.length + 1) (k + a.length + (x.length + 1)) = hexB p.2 := data_inj (by rw [extract_list, h4, show k + a.length + (x.length + 1) - (k + a.length + 1) = x.length by omega, List.take_left' rfl, hx])
    rw [entsOf_step (by omega) (by rw [hs1, hs2]; omega) f hf, hs1, hs2, e1, e2, readB_hexB (isPr_in hp.2).1 (isPr_in hp.2).2,
      readEs_text s l _ f _ (fun q hq => hl q (by simp [hq])) (by omega) h5 (by omega), List.append_assoc]; rfl
theorem fold_text {l : List Ent} (h : entsB l = true) : foldL (textE l) = l ∧ isFold (textE l) = true := by
  have hs : 0 < (textE l).size := by rw [← len_eq, textE_list]; simp
  refine fold_yes (l := l) ?_ (folderB_yes h) hs
  unfold entsOf
  rw [readEs_text (textE l) l 1 _ [] (ents_ok h) hs (by rw [textE_list]; rfl) (by omega)]; rfl
theorem fold_is {s : ByteArray} (h : isFold s = true) : entsB (foldL s) = true ∧ textE (foldL s) = s := by
  have h0 := h
  unfold isFold at h
  cases h1 : entsOf s with
  | none => rw [h1] at h; cases h
  | some l =>
    rw [h1] at h
    simp only [Bool.and_eq_true, decide_eq_true_eq] at h
    have e : foldL s = l := by unfold foldL; rw [h0, h1]; rfl
    rw [e]
    cases h2 : entsB l with
    | true => rw [folderB_yes h2] at h; exact ⟨rfl, h.1⟩
    | false => rw [folderB_no h2] at h; rw [← h.1] at h; exact absurd h.2 (by decide)
theorem foldL_no {s : ByteArray} (h : isFold s = false) : foldL s = [] := by unfold foldL; rw [h]; rfl
theorem fold_pE {s : ByteArray} (h : isFold s = true) : ∃ r, s.data.toList = 100 :: r ∧ pE [] r = some (foldL s) ∧ entsB (foldL s) = true := by
  obtain ⟨h1, h2⟩ := fold_is h
  refine ⟨(foldL s).flatMap entL, ?_, pE_text _ (ents_ok h1), h1⟩
  rw [← textE_list, h2]
/-! ### the program's reading is the model's -/
theorem read_yes {s : ByteArray} {r : List UInt8} {l : List Ent} (h : s.data.toList = 100 :: r) (hp : pE [] r = some l) (he : entsB l = true) : foldL s = l ∧ isFold s = true := by
  rw [← textE_of h (pE_only r [] l hp (ents_ok he))]
  exact fold_text he
theorem read_no {s : ByteArray} {r : List UInt8} (h : s.data.toList = 100 :: r) (hp : ∀ l, pE [] r = some l → entsB l = false) : foldL s = [] ∧ isFold s = false := by
  cases hf : isFold s with
  | false => exact ⟨foldL_no hf, rfl⟩
  | true =>
    obtain ⟨r', h1, h2, h3⟩ := fold_pE hf
    rw [h] at h1
    cases h1
    rw [hp _ h2] at h3; cases h3
theorem read_none {s : ByteArray} (h : ∀ r, s.data.toList ≠ 100 :: r) : foldL s = [] ∧ isFold s = false := by
  cases hf : isFold s with
  | false => exact ⟨foldL_no hf, rfl⟩
  | true => obtain ⟨r', h1, _⟩ := fold_pE hf; exact absurd h1 (h r')
theorem foldL_len (s : ByteArray) : (foldL s).length ≤ 3 := by
  cases h : isFold s
  · rw [foldL_no h]; simp
  · exact (entsB_at (fold_is h).1).1
end Go.Proofs.YtglajbmopiolhaaGreatDoor
