/-
  Chapter 6's model: the text of a folder.
-/
import Derived.Test.YtlbebbkkpjgboaaEnts
import Derived.Test.YtlbebbkkpjgboaaPaths
namespace Go.Proofs.Ytlbebbkkpjgboaa
open Go.RowKit
set_option linter.unusedVariables false
/-- A text goes on with an entry. -/
def addE (t : ByteArray) (p : Ent) : ByteArray := t ++ p.1 ++ ⟨#[61]⟩ ++ hexB p.2 ++ ⟨#[59]⟩
def textE (l : List Ent) : ByteArray := l.foldl addE ⟨#[100]⟩
def folderB (l : List Ent) : ByteArray := if entsB l = true then textE l else ByteArray.empty
theorem folderB_no {l : List Ent} (h : entsB l = false) : folderB l = ByteArray.empty := by unfold folderB; rw [h]; rfl
theorem folderB_yes {l : List Ent} (h : entsB l = true) : folderB l = textE l := by unfold folderB; rw [h]; rfl
theorem textE_snoc {l : List Ent} {k : Nat} (h : k < l.length) : textE (l.take (k + 1)) = addE (textE (l.take k)) (nthE l k) := by
  unfold textE; rw [take_snocE h, List.foldl_append]; rfl
theorem okE_word {l : List Ent} {k : Nat} (h : okE l k = true) : wordB (nthE l k).1 = true ∧ isPr (nthE l k).2 = true := by
  unfold okE at h; simp only [Bool.and_eq_true] at h; exact h.1
theorem specFolderText_any (x : Option Addr) (n cap : Nat) (l : List Ent) (B : Nat) (w : World) (h : Ents w B x n cap l) (hz : ∀ k, (nthE l k).1.size ≤ maxLen) : Calls Try.prog 65 #[.slice x n cap] w fun e w' => e = .returned (.string (folderB l)) ∧ ∃ q, w' = w.drewN q := by
  have HL := Lib.hid h.len
  have HH := Lib.hid h
  have hmx := h.max
  have hle := h.le
  unfold maxLen at hmx
  cases hv : entsB l
  · have HF := Lib.hid (folderB_no hv)
    go_enter Try.func65, Try.ntmps65
    go_wp2_with (go_at_call 71; refine (specEntriesValid_any _ _ _ _ _ _ h hz).mono ?_; rintro e w1 ⟨rfl, q, rfl⟩; rw [hv])
    go_ret
    exact ⟨ret_str HF.out.symm, _, rfl⟩
  · have HF := Lib.hid (folderB_yes hv)
    have HA := Lib.hid (entsB_at hv)
    have hn3 : n ≤ 3 := by have := HA.out.1; have := HL.out; omega
    go_enter Try.func65, Try.ntmps65
    go_wp2_with (go_at_call 71; refine (specEntriesValid_any _ _ _ _ _ _ h hz).mono ?_; rintro e w1 ⟨rfl, q, hq⟩; have HQ := Lib.hid hq; clear hq; rw [hv])
    clear h hz
    go_loopw [3, 4] (fun t i wr => ∃ k : Nat, k ≤ n ∧ i = .int .i64 k ∧ t = .string (textE (l.take k)) ∧ (textE (l.take k)).size ≤ 1 + 16 * k ∧ ∃ q, wr = w.drewN q) (fun _ i _ => n - (intOf i).toNat)
    case atStart => exact ⟨0, by omega, rfl, rfl, by rw [List.take_zero]; decide, q, HQ.out⟩
    case round =>
      obtain ⟨k, hk, rfl, rfl, hs, hp⟩ := hrel
      have HP := Lib.hid hp; clear hp
      by_cases hlt : k < n
      · have hkl : k < l.length := by have := HL.out; omega
        obtain ⟨b, off, rfl, hb, hc0, hc1⟩ := (HH.out.keep (w' := wr) (by obtain ⟨p, rfl⟩ := HP.out; intro _ _; rfl)).atE hlt
        obtain ⟨hw1, hw2⟩ := okE_word (HA.out.2 k hkl)
        have hw8 := word_size hw1
        have hx6 := hexB_size (nthE l k).2
        have HT := Lib.hid (textE_snoc hkl)
        obtain ⟨T, hT⟩ : ∃ T, T = textE (l.take k) := ⟨_, rfl⟩
        obtain ⟨q, hq⟩ : ∃ q, q = nthE l k := ⟨_, rfl⟩
        rw [← hT, ← hq] at HT
        rw [← hT] at hs ⊢
        rw [← hq] at hc0 hc1 hw8 hx6
        have b1 : (T ++ q.1).size ≤ 1 + 16 * k + 8 := by rw [ByteArray.size_append]; omega
        have b2 : (T ++ q.1 ++ ⟨#[61]⟩).size ≤ 1 + 16 * k + 9 := by rw [ByteArray.size_append]; show _ + 1 ≤ _; omega
        have b3 : (T ++ q.1 ++ ⟨#[61]⟩ ++ hexB q.2).size ≤ 1 + 16 * k + 15 := by rw [ByteArray.size_append]; omega
        have HS := Lib.hid (show (textE (l.take (k + 1))).size ≤ 1 + 16 * (k + 1) by rw [HT.out]; unfold addE; rw [ByteArray.size_append]; show _ + 1 ≤ _; omega)
        clear hT hq hw1 hw2
        go_wp2
        go_quiet (first | (go_at_call 72; refine Calls.quiet_of_same ((specHexText_any _ _).mono fun _ _ h => ⟨h.1, h.2.symm⟩)))
        go_wp2
        go_roundw
        case rel => exact ⟨k + 1, by omega, by go_num, by rw [HT.out]; rfl, HS.out, by obtain ⟨p, rfl⟩ := HP.out; exact ⟨_, by rw [World.drewN_drewN]⟩⟩
        case measure => simp [intOf]; omega
      · have e : l.take k = l := List.take_of_length_le (by have := HL.out; omega)
        have HE := Lib.hid e
        clear e
        go_wp2
        go_ret
        exact ⟨ret_str (by rw [HF.out, HE.out]), HP.out⟩
/-! ### reading -/
/-- The first place from k on at which c stands, or the end. -/
def seekGo (c : UInt8) : List UInt8 → Nat
  | [] => 0
  | x :: r => if x = c then 0 else seekGo c r + 1
def seekB (c : UInt8) (s : ByteArray) (k : Nat) : Nat := k + seekGo c (s.data.toList.drop k)
theorem seekB_stop {c : UInt8} {s : ByteArray} {k : Nat} (h : k < s.size) (hc : s[k] = c) : seekB c s k = k := by
  unfold seekB
  rw [List.drop_eq_getElem_cons (by simpa using h), seekGo, if_pos (by exact hc)]; rfl
theorem seekB_on {c : UInt8} {s : ByteArray} {k : Nat} (h : k < s.size) (hc : s[k] ≠ c) : seekB c s k = seekB c s (k + 1) := by
  unfold seekB
  rw [List.drop_eq_getElem_cons (by simpa using h), seekGo, if_neg (by exact hc)]; omega
theorem seekB_end (c : UInt8) (s : ByteArray) : seekB c s s.size = s.size := by
  unfold seekB
  rw [List.drop_of_length_le (by simp)]; rfl
theorem seekGo_le (c : UInt8) : ∀ l : List UInt8, seekGo c l ≤ l.length
  | [] => Nat.le_refl _
  | x :: r => by rw [seekGo]; have := seekGo_le c r; split <;> simp <;> omega
theorem seekB_bd (c : UInt8) {s : ByteArray} {k : Nat} (h : k ≤ s.size) : k ≤ seekB c s k ∧ seekB c s k ≤ s.size := by
  have := seekGo_le c (s.data.toList.drop k)
  unfold seekB
  rw [List.length_drop, len_eq] at this
  omega
theorem seekB_at (c : UInt8) {s : ByteArray} {k : Nat} (h : seekB c s k < s.size) : s[seekB c s k] = c := by
  have key : ∀ l : List UInt8, (h : seekGo c l < l.length) → l[seekGo c l] = c := by
    intro l
    induction l with
    | nil => intro h; simp [seekGo] at h
    | cons x r ih =>
      intro h
      by_cases hx : x = c
      · simp [seekGo, hx]
      · have h2 : seekGo c (x :: r) = seekGo c r + 1 := by rw [seekGo, if_neg hx]
        simp only [h2, List.getElem_cons_succ]
        exact ih (by rw [h2] at h; simpa using h)
  have h1 : seekGo c (s.data.toList.drop k) < (s.data.toList.drop k).length := by rw [List.length_drop, len_eq]; unfold seekB at h; omega
  have h2 := key _ h1
  rw [List.getElem_drop] at h2
  exact h2
/-- The entries of a text from a place on, behind those that were read. -/
def readEs (s : ByteArray) : Nat → Nat → List Ent → Option (List Ent)
  | 0, _, _ => none
  | f + 1, k, out =>
    if k < s.size then
      if seekB 59 s (seekB 61 s k) = s.size then none
      else readEs s f (seekB 59 s (seekB 61 s k) + 1) (out ++ [(s.extract k (seekB 61 s k), readB (s.extract (seekB 61 s k + 1) (seekB 59 s (seekB 61 s k))))])
    else some out
/-- What is left to do does not hang on the fuel. -/
theorem readEs_fuel (s : ByteArray) : ∀ (f g k : Nat) (out : List Ent), s.size - k < f → s.size - k < g → readEs s f k out = readEs s g k out
  | 0, _, k, out, h, h' => by omega
  | _, 0, k, out, h, h' => by omega
  | f + 1, g + 1, k, out, h, h' => by
    rw [readEs, readEs]
    split
    · rename_i hk
      have h1 := (seekB_bd 61 (Nat.le_of_lt hk)); have h2 := seekB_bd 59 h1.2
      split
      · rfl
      · exact readEs_fuel s f g _ _ (by omega) (by omega)
    · rfl
/-- The entries of a text. -/
def entsOf (s : ByteArray) : Option (List Ent) := readEs s (s.size + 1) 1 []
def isFold (s : ByteArray) : Bool := match entsOf s with
  | none => false
  | some l => decide (folderB l = s) && decide (0 < s.size)
def foldL (s : ByteArray) : List Ent := if isFold s = true then (entsOf s).getD [] else []
theorem fold_none {s : ByteArray} (h : entsOf s = none) : foldL s = [] ∧ isFold s = false := by
  have : isFold s = false := by unfold isFold; rw [h]
  unfold foldL; rw [this]; exact ⟨rfl, rfl⟩
theorem fold_no {s : ByteArray} {l : List Ent} (h : entsOf s = some l) (h' : folderB l ≠ s ∨ s.size = 0) : foldL s = [] ∧ isFold s = false := by
  have : isFold s = false := by
    unfold isFold; rw [h]
    show (decide (folderB l = s) && decide (0 < s.size)) = false
    rcases h' with h' | h'
    · rw [decide_eq_false h']; rfl
    · rw [show decide (0 < s.size) = false from decide_eq_false (by omega), Bool.and_false]
  unfold foldL; rw [this]; exact ⟨rfl, rfl⟩
theorem fold_yes {s : ByteArray} {l : List Ent} (h : entsOf s = some l) (h1 : folderB l = s) (h2 : 0 < s.size) : foldL s = l ∧ isFold s = true := by
  have : isFold s = true := by unfold isFold; rw [h]; simp [h1, h2]
  unfold foldL; rw [this, h]; exact ⟨rfl, rfl⟩
theorem entsOf_step {s : ByteArray} {k : Nat} {out : List Ent} (hk : k < s.size) (he : seekB 59 s (seekB 61 s k) ≠ s.size) (f : Nat) (hf : s.size - k < f) :
    readEs s f k out = readEs s f (seekB 59 s (seekB 61 s k) + 1) (out ++ [(s.extract k (seekB 61 s k), readB (s.extract (seekB 61 s k + 1) (seekB 59 s (seekB 61 s k))))]) := by
  obtain ⟨f, rfl⟩ : ∃ f', f = f' + 1 := ⟨f - 1, by omega⟩
  have h1 := (seekB_bd 61 (Nat.le_of_lt hk)); have h2 := seekB_bd 59 h1.2
  rw [readEs, if_pos hk, if_neg he]
  exact readEs_fuel s _ _ _ _ (by omega) (by omega)
theorem entsOf_stop {s : ByteArray} {k : Nat} {out : List Ent} (hk : k < s.size) (he : seekB 59 s (seekB 61 s k) = s.size) (f : Nat) (hf : 0 < f) : readEs s f k out = none := by
  obtain ⟨f, rfl⟩ : ∃ f', f = f' + 1 := ⟨f - 1, by omega⟩
  rw [readEs, if_pos hk, if_pos he]
theorem entsOf_end {s : ByteArray} {k : Nat} {out : List Ent} (hk : ¬ k < s.size) (f : Nat) (hf : 0 < f) : readEs s f k out = some out := by
  obtain ⟨f, rfl⟩ : ∃ f', f = f' + 1 := ⟨f - 1, by omega⟩
  rw [readEs, if_neg hk]
end Go.Proofs.Ytlbebbkkpjgboaa
