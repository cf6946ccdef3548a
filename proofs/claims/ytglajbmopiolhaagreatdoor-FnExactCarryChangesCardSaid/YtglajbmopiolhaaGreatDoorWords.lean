/-
  Plain functions of chapter 1 (words, texts, hexadecimal numbers), and their laws; nothing of the program is imported.
-/
import Derived.WalkKit
import Derived.Lib.Bytealg
import Derived.Test.YtglajbmopiolhaaGreatDoorRows
import Derived.Lib.Hide
import Derived.WalkSpells
import Derived.Test.YtglajbmopiolhaaGreatDoorShelf
namespace Go.Proofs.YtglajbmopiolhaaGreatDoor
def low (n : Int) : Bool := decide (97 ≤ n ∧ n ≤ 122)
def dgt (n : Int) : Bool := decide (48 ≤ n ∧ n ≤ 57)
def wtail (c : UInt8) : Bool := low (c.toNat : Int) || dgt (c.toNat : Int)
def whead (l : List UInt8) : Bool := match l with | [] => false | c :: _ => low (c.toNat : Int)
/-- A word. -/
def wordV (l : List UInt8) : Bool := decide (l.length ≤ 8) && whead l && l.all wtail
def txt (c : UInt8) : Bool := decide (32 ≤ (c.toNat : Int) ∧ (c.toNat : Int) ≤ 126)
/-- A text. -/
def textV (l : List UInt8) : Bool := decide (l.length ≤ 60) && l.all txt
/-- n in lo..hi. -/
def in3 (n lo hi : Int) : Bool := decide (lo ≤ n ∧ n ≤ hi)
theorem in3_yes {n lo hi : Int} (h : lo ≤ n) (h' : n ≤ hi) : in3 n lo hi = true := by unfold in3; simp [h, h']
theorem in3_lo {n lo hi : Int} (h : ¬ lo ≤ n) : in3 n lo hi = false := by unfold in3; simp; omega
theorem in3_hi {n lo hi : Int} (h : ¬ n ≤ hi) : in3 n lo hi = false := by unfold in3; simp; omega
def wordB (s : ByteArray) : Bool := wordV s.data.toList
def textB (s : ByteArray) : Bool := textV s.data.toList
theorem ret_bool {a b : Bool} (h : a = b) : Ending.returned (.bool a) = .returned (.bool b) := by rw [h]
theorem ret_int {k : IntKind} {a b : Int} (h : a = b) : Ending.returned (.int k a) = .returned (.int k b) := by rw [h]
theorem ret_str {a b : ByteArray} (h : a = b) : Ending.returned (.string a) = .returned (.string b) := by rw [h]
theorem toList_inj' {a b : ByteArray} (h : a.toList = b.toList) : a = b := by
  rw [ByteArray.toList_eq, ByteArray.toList_eq] at h
  cases a; cases b; congr 1; exact Array.toList_inj.1 h
theorem str_beq (a b : ByteArray) : (a.toList == b.toList) = decide (a = b) := by
  by_cases h : a = b
  · subst h; simp
  · have : a.toList ≠ b.toList := fun h' => h (toList_inj' h')
    simp [h, this]
theorem str_eq {a b : ByteArray} (h : (a.toList == b.toList) = true) : a = b := by rw [str_beq] at h; simpa using h
theorem str_ne {a b : ByteArray} (h : (a.toList == b.toList) = false) : a ≠ b := by rw [str_beq] at h; simpa using h
theorem take_snoc (s : ByteArray) (k : Nat) (h : k < s.size) : s.data.toList.take (k + 1) = s.data.toList.take k ++ [s[k]] := by
  rw [List.take_succ_eq_append_getElem (by simpa using h)]; rfl
theorem all_snoc (s : ByteArray) (p : UInt8 → Bool) (k : Nat) (h : k < s.size) : (s.data.toList.take (k + 1)).all p = ((s.data.toList.take k).all p && p s[k]) := by
  rw [take_snoc s k h, List.all_append]; simp
theorem all_false_of (s : ByteArray) (p : UInt8 → Bool) (k : Nat) (h : k < s.size) (hp : p s[k] = false) : s.data.toList.all p = false := by
  rw [List.all_eq_false]
  exact ⟨s[k], Array.mem_toList_iff.2 (Array.getElem_mem (xs := s.data) h), by simp [hp]⟩
theorem all_end (s : ByteArray) (k : Nat) (h : ¬ k < s.size) : s.data.toList.take k = s.data.toList :=
  List.take_of_length_le (by simp; omega)
theorem len_eq (s : ByteArray) : s.data.toList.length = s.size := by simp
theorem wordV_nil (s : ByteArray) (h : s.size < 1) : wordV s.data.toList = false := by
  have h0 : s.data.toList = [] := List.length_eq_zero_iff.1 (by rw [len_eq]; omega)
  rw [h0]; rfl
theorem wordV_long (s : ByteArray) (h : 8 < s.size) : wordV s.data.toList = false := by
  have : ¬ s.data.toList.length ≤ 8 := by simp; omega
  unfold wordV; simp only [this]; rfl
theorem whead_eq (s : ByteArray) (h : 0 < s.size) : whead s.data.toList = low ((s[0]).toNat : Int) := by
  have e : s.data.toList = s[0] :: s.data.toList.tail := by
    have h1 : s.data.toList ≠ [] := by intro h2; rw [← len_eq, h2] at h; simp at h
    obtain ⟨c, r, hc⟩ := List.exists_cons_of_ne_nil h1
    have : s[0] = c := by
      have h2 : s.data.toList[0]'(by rw [hc]; simp) = c := by simp [hc]
      rw [← h2]; rfl
    rw [this, hc]; rfl
  rw [e]; rfl
theorem wordV_head (s : ByteArray) (h : 0 < s.size) (h1 : low ((s[0]).toNat : Int) = false) : wordV s.data.toList = false := by
  unfold wordV; rw [whead_eq s h, h1]; simp
theorem wordV_of (s : ByteArray) (h : 0 < s.size) (h8 : s.size ≤ 8) (h1 : low ((s[0]).toNat : Int) = true) : wordV s.data.toList = s.data.toList.all wtail := by
  unfold wordV; rw [whead_eq s h, h1]
  have : s.data.toList.length ≤ 8 := by simpa using h8
  simp only [this]; simp
theorem wtail_low {c : UInt8} (h : low (c.toNat : Int) = true) : wtail c = true := by unfold wtail; rw [h]; rfl
theorem wtail_dgt {c : UInt8} (h : dgt (c.toNat : Int) = true) : wtail c = true := by unfold wtail; rw [h]; simp
theorem wtail_no {c : UInt8} (h : low (c.toNat : Int) = false) (h' : dgt (c.toNat : Int) = false) : wtail c = false := by unfold wtail; rw [h, h']; rfl
theorem all_one (s : ByteArray) (p : UInt8 → Bool) (h : 0 < s.size) : (s.data.toList.take 1).all p = p s[0] := by
  rw [all_snoc s p 0 h]; simp
theorem wordV_first (s : ByteArray) (h : 0 < s.size) (h1 : low ((s[0]).toNat : Int) = false) : wordB s = false := wordV_head s h h1
theorem wordV_at (s : ByteArray) (k : Nat) (h : k < s.size) (h1 : low ((s[k]).toNat : Int) = false) (h2 : dgt ((s[k]).toNat : Int) = false) : wordB s = false := by
  unfold wordB wordV; rw [all_false_of s wtail k h (wtail_no h1 h2)]; simp
theorem wordV_end (s : ByteArray) (k : Nat) (hk : ¬ k < s.size) (h : (s.data.toList.take k).all wtail = true) (h0 : 0 < k → k ≤ s.size → whead s.data.toList = true) (hk' : k ≤ s.size) :
    wordB s = in3 s.size 1 8 := by
  rw [all_end s k hk] at h
  unfold wordB in3
  by_cases h1 : s.size < 1
  · rw [wordV_nil s h1]; symm; simp; omega
  by_cases h8 : 8 < s.size
  · rw [wordV_long s h8]; symm; simp; omega
  · unfold wordV; rw [h, h0 (by omega) hk', len_eq]; rw [Bool.eq_iff_iff]; simp; omega
theorem textV_long (s : ByteArray) (h : 60 < s.size) : textB s = false := by
  have : ¬ s.data.toList.length ≤ 60 := by rw [len_eq]; omega
  unfold textB textV; simp only [this]; rfl
theorem txt_no {c : UInt8} (h : (c.toNat : Int) < 32 ∨ 126 < (c.toNat : Int)) : txt c = false := by unfold txt; simp; omega
theorem txt_yes {c : UInt8} (h : ¬ (c.toNat : Int) < 32) (h' : ¬ 126 < (c.toNat : Int)) : txt c = true := by unfold txt; simp; omega
theorem textV_at (s : ByteArray) (k : Nat) (h : k < s.size) (h1 : txt s[k] = false) : textB s = false := by
  unfold textB textV; rw [all_false_of s txt k h h1]; simp
theorem textV_end (s : ByteArray) (k : Nat) (hk : ¬ k < s.size) (h : (s.data.toList.take k).all txt = true) : textB s = decide ((s.size : Int) ≤ 60) := by
  rw [all_end s k hk] at h
  unfold textB textV; rw [h, len_eq]; simp; omega
theorem low_yes {n : Int} (h : 97 ≤ n) (h' : n ≤ 122) : low n = true := by unfold low; simp [h, h']
theorem low_no {n : Int} (h : ¬ (97 ≤ n ∧ n ≤ 122)) : low n = false := by unfold low; simp; omega
theorem dgt_yes {n : Int} (h : ¬ n < 48) (h' : ¬ 57 < n) : dgt n = true := by unfold dgt; simp; omega
theorem dgt_no {n : Int} (h : n < 48 ∨ 57 < n) : dgt n = false := by unfold dgt; simp; omega
/-! ### hexadecimal numbers -/
def hexDigits : ByteArray := ⟨#[48, 49, 50, 51, 52, 53, 54, 55, 56, 57, 97, 98, 99, 100, 101, 102]⟩
def digB (m : Nat) : ByteArray := hexDigits.extract (m % 16) (m % 16 + 1)
def hexGo : Nat → Nat → ByteArray → ByteArray
  | 0, _, t => t
  | f + 1, m, t => if 16 ≤ m then hexGo f (m / 16) (digB (m / 16) ++ t) else t
/-- The number as a text. -/
def hexB (n : Int) : ByteArray := if 0 ≤ n ∧ n ≤ 16777212 then hexGo 7 n.toNat (digB n.toNat) else ByteArray.empty
theorem digB_size (m : Nat) : (digB m).size = 1 := by
  unfold digB; rw [ByteArray.size_extract]
  have : hexDigits.size = 16 := rfl
  omega
theorem hexB_no {n : Int} (h : n < 0 ∨ 16777212 < n) : hexB n = ByteArray.empty := by unfold hexB; rw [if_neg (by omega)]
/-- What holds of the number that is left and of the text so far. -/
def HexRel (n : Int) (m : Nat) (t : ByteArray) : Prop := ∃ f, hexGo (f + 1) m t = hexB n ∧ m < 16 ^ f ∧ t.size + f = 7 ∧ m ≤ 16777212
theorem hexRel_start {n : Int} (h : 0 ≤ n) (h' : n ≤ 16777212) : HexRel n n.toNat (digB n.toNat) :=
  ⟨6, by unfold hexB; rw [if_pos ⟨h, h'⟩], by omega, by rw [digB_size], by omega⟩
theorem hexRel_step {n : Int} {m : Nat} {t : ByteArray} (h : HexRel n m t) (hm : 16 ≤ m) : HexRel n (m / 16) (digB (m / 16) ++ t) := by
  obtain ⟨f, h1, h2, h3, h4⟩ := h
  cases f with
  | zero => omega
  | succ f =>
    refine ⟨f, ?_, ?_, ?_, ?_⟩
    · rw [← h1, hexGo.eq_def (f + 1 + 1)]; simp only [if_pos hm]
    · rw [Nat.pow_succ] at h2; omega
    · rw [ByteArray.size_append, digB_size]; omega
    · omega
theorem hexRel_end {n : Int} {m : Nat} {t : ByteArray} (h : HexRel n m t) (hm : ¬ 16 ≤ m) : t = hexB n := by
  obtain ⟨f, h1, _⟩ := h
  rw [← h1, hexGo, if_neg hm]
theorem hexRel_size {n : Int} {m : Nat} {t : ByteArray} (h : HexRel n m t) : t.size ≤ 7 ∧ m ≤ 16777212 := by
  obtain ⟨f, _, _, h3, h4⟩ := h
  exact ⟨by omega, h4⟩
/-- A digit's value; -1 for another byte. -/
def digV (c : UInt8) : Int := Lib.indexByte hexDigits.data.toList c
def valFrom (a : Int) (l : List UInt8) : Int := l.foldl (fun n c => 16 * n + digV c) a
def valL (l : List UInt8) : Int := valFrom 0 l
theorem valL_snoc (l : List UInt8) (c : UInt8) : valL (l ++ [c]) = 16 * valL l + digV c := by unfold valL valFrom; rw [List.foldl_append]; rfl
theorem valFrom_eq (l : List UInt8) : ∀ a, valFrom a l = a * 16 ^ l.length + valL l := by
  induction l with
  | nil => intro a; simp [valFrom, valL]
  | cons c l ih =>
    intro a
    have h1 : valFrom a (c :: l) = valFrom (16 * a + digV c) l := rfl
    have h2 : valL (c :: l) = valFrom (16 * 0 + digV c) l := rfl
    rw [h1, h2, ih, ih (16 * 0 + digV c), List.length_cons, Int.pow_succ]
    simp only [Int.mul_zero, Int.zero_add, Int.add_mul]
    rw [Int.add_assoc]
    congr 1
    rw [Int.mul_comm 16 a, Int.mul_assoc, Int.mul_comm 16]
theorem valL_cons (c : UInt8) (l : List UInt8) : valL (c :: l) = digV c * 16 ^ l.length + valL l := by
  have h2 : valL (c :: l) = valFrom (16 * 0 + digV c) l := rfl
  rw [h2, valFrom_eq]; simp
def hexOk (c : UInt8) : Bool := decide (0 ≤ digV c)
theorem digB_list (m : Nat) : ∃ c, (digB m).data.toList = [c] ∧ digV c = (m % 16 : Nat) ∧ hexOk c = true := by
  have h : ∀ k : Fin 16, ∃ c, (digB k).data.toList = [c] ∧ digV c = (k : Nat) ∧ hexOk c = true := by
    intro k
    refine ⟨hexDigits.data.toList.getD k 0, ?_, ?_, ?_⟩ <;> revert k <;> decide +kernel
  have h2 := h ⟨m % 16, Nat.mod_lt _ (by omega)⟩
  have h3 : digB (m % 16) = digB m := by unfold digB; rw [Nat.mod_mod]
  simpa [h3] using h2
theorem hexGo_val : ∀ (f m : Nat) (t : ByteArray), m < 16 ^ f → t.data.toList.all hexOk = true →
    (hexGo f m t).data.toList.all hexOk = true ∧ valL (hexGo f m t).data.toList = ((m / 16 : Nat) : Int) * 16 ^ t.size + valL t.data.toList := by
  intro f
  induction f with
  | zero => intro m t hm ha; have : m / 16 = 0 := by omega
            exact ⟨ha, by rw [this]; simp [hexGo]⟩
  | succ f ih =>
    intro m t hm ha
    rw [hexGo]
    by_cases h16 : 16 ≤ m
    · rw [if_pos h16]
      obtain ⟨c, hc, hv, ho⟩ := digB_list (m / 16)
      have hl : (digB (m / 16) ++ t).data.toList = c :: t.data.toList := by
        rw [ByteArray.data_append, Array.toList_append, hc]; rfl
      have h2 := ih (m / 16) (digB (m / 16) ++ t) (by rw [Nat.pow_succ] at hm; omega) (by rw [hl]; simp [ho]; simpa using ha)
      refine ⟨h2.1, ?_⟩
      rw [h2.2, hl, valL_cons, hv, ByteArray.size_append, digB_size]
      have hsz : t.data.toList.length = t.size := by simp
      rw [hsz, Nat.add_comm 1, Int.pow_succ]
      have hq : ((m / 16 : Nat) : Int) = ((m / 16 / 16 : Nat) : Int) * 16 + ((m / 16 % 16 : Nat) : Int) := by omega
      generalize (16 : Int) ^ t.size = P
      rw [hq]
      generalize ((m / 16 / 16 : Nat) : Int) = A
      generalize ((m / 16 % 16 : Nat) : Int) = B
      generalize valL t.data.toList = V
      rw [Int.add_mul, Int.mul_assoc, Int.mul_comm 16 P, Int.add_assoc]
    · rw [if_neg h16]
      have : m / 16 = 0 := by omega
      exact ⟨ha, by rw [this]; simp⟩
theorem hexB_val {n : Int} (h0 : 0 ≤ n) (h1 : n ≤ 16777212) : (hexB n).data.toList.all hexOk = true ∧ valL (hexB n).data.toList = n := by
  obtain ⟨c, hc, hv, ho⟩ := digB_list n.toNat
  have h := hexGo_val 7 n.toNat (digB n.toNat) (by omega) (by rw [hc]; simp [ho])
  unfold hexB
  rw [if_pos ⟨h0, h1⟩]
  refine ⟨h.1, ?_⟩
  rw [h.2, hc, digB_size, valL_cons, hv]
  simp [valL, valFrom]
  omega
theorem hexGo_size : ∀ (f m : Nat) (t : ByteArray), m < 16 ^ f → 1 ≤ f → (hexGo (f + 1) m t).size ≤ t.size + f - 1 := by
  intro f
  induction f with
  | zero => intro m t _ h; omega
  | succ f ih =>
    intro m t hm _
    rw [hexGo]
    by_cases h16 : 16 ≤ m
    · rw [if_pos h16]
      cases f with
      | zero => omega
      | succ f =>
        have := ih (m / 16) (digB (m / 16) ++ t) (by rw [Nat.pow_succ] at hm; omega) (by omega)
        rw [ByteArray.size_append, digB_size] at this
        omega
    · rw [if_neg h16]; omega
theorem hexB_size (n : Int) : (hexB n).size ≤ 6 := by
  unfold hexB
  by_cases h : 0 ≤ n ∧ n ≤ 16777212
  · rw [if_pos h]
    have := hexGo_size 6 n.toNat (digB n.toNat) (by omega) (by omega)
    rw [digB_size] at this; omega
  · rw [if_neg h]; simp
/-- The number whose text it is; -1 if there is none. -/
def readB (s : ByteArray) : Int :=
  if s.data.toList.all hexOk = true ∧ 0 ≤ valL s.data.toList ∧ valL s.data.toList ≤ 16777212 ∧ hexB (valL s.data.toList) = s then valL s.data.toList else -1
theorem readB_hexB {n : Int} (h0 : 0 ≤ n) (h1 : n ≤ 16777212) : readB (hexB n) = n := by
  obtain ⟨ha, hv⟩ := hexB_val h0 h1
  unfold readB
  rw [hv, if_pos ⟨ha, h0, h1, rfl⟩]
theorem readB_some {s : ByteArray} (h : readB s ≠ -1) : 0 ≤ readB s ∧ readB s ≤ 16777212 ∧ hexB (readB s) = s := by
  unfold readB at h ⊢
  split
  · rename_i h'; exact ⟨h'.2.1, h'.2.2.1, h'.2.2.2⟩
  · rename_i h'; rw [if_neg h'] at h; exact absurd rfl h
theorem readB_bad (s : ByteArray) (k : Nat) (h : k < s.size) (h1 : digV s[k] < 0) : readB s = -1 := by
  unfold readB
  rw [if_neg]
  rintro ⟨ha, _⟩
  have := all_false_of s hexOk k h (by unfold hexOk; simp; omega)
  rw [this] at ha; cases ha
theorem valFrom_ge (l : List UInt8) : ∀ a : Int, l.all hexOk = true → 0 ≤ a → a ≤ valFrom a l := by
  induction l with
  | nil => intro a _ _; simp [valFrom]
  | cons c l ih =>
    intro a ha h0
    simp only [List.all_cons, Bool.and_eq_true] at ha
    have hd : 0 ≤ digV c := by simpa [hexOk] using ha.1
    have : valFrom a (c :: l) = valFrom (16 * a + digV c) l := rfl
    rw [this]
    have := ih (16 * a + digV c) ha.2 (by omega)
    omega
theorem readB_big (s : ByteArray) (k : Nat) (_ : k ≤ s.size) (h1 : 16777212 < valL (s.data.toList.take k)) : readB s = -1 := by
  unfold readB
  rw [if_neg]
  rintro ⟨ha, _, hm, _⟩
  have e : s.data.toList = s.data.toList.take k ++ s.data.toList.drop k := (List.take_append_drop k _).symm
  rw [e] at ha hm
  rw [List.all_append, Bool.and_eq_true] at ha
  have h2 : valL (s.data.toList.take k ++ s.data.toList.drop k) = valFrom (valL (s.data.toList.take k)) (s.data.toList.drop k) := by
    unfold valL valFrom; rw [List.foldl_append]
  rw [h2] at hm
  have := valFrom_ge _ (valL (s.data.toList.take k)) ha.2 (by omega)
  omega
theorem readB_end (s : ByteArray) (k : Nat) (hk : ¬ k < s.size) (ha : (s.data.toList.take k).all hexOk = true) (h0 : 0 ≤ valL (s.data.toList.take k)) (h1 : valL (s.data.toList.take k) ≤ 16777212) :
    readB s = if hexB (valL (s.data.toList.take k)) = s then valL (s.data.toList.take k) else -1 := by
  rw [all_end s k hk] at *
  unfold readB
  by_cases h : hexB (valL s.data.toList) = s
  · rw [if_pos ⟨ha, h0, h1, h⟩, if_pos h]
  · rw [if_neg (fun h' => h h'.2.2.2), if_neg h]
theorem digV_le (c : UInt8) : digV c ≤ 15 := by
  have h : ∀ n : Fin 256, digV (UInt8.ofNat n) ≤ 15 := by decide +kernel
  have := h ⟨c.toNat, c.toNat_lt⟩
  simpa using this
theorem digV_num (c : UInt8) (h : 48 ≤ (c.toNat : Int)) (h' : (c.toNat : Int) ≤ 57) : digV c = (c.toNat : Int) - 48 := by
  have h0 : ∀ n : Fin 256, 48 ≤ (n.val : Int) → (n.val : Int) ≤ 57 → digV (UInt8.ofNat n) = (n.val : Int) - 48 := by decide +kernel
  have := h0 ⟨c.toNat, c.toNat_lt⟩ h h'
  simpa using this
theorem digV_let (c : UInt8) (h : 97 ≤ (c.toNat : Int)) (h' : (c.toNat : Int) ≤ 102) : digV c = (c.toNat : Int) - 97 + 10 := by
  have h0 : ∀ n : Fin 256, 97 ≤ (n.val : Int) → (n.val : Int) ≤ 102 → digV (UInt8.ofNat n) = (n.val : Int) - 97 + 10 := by decide +kernel
  have := h0 ⟨c.toNat, c.toNat_lt⟩ h h'
  simpa using this
theorem digV_none (c : UInt8) (h : ¬ (48 ≤ (c.toNat : Int) ∧ (c.toNat : Int) ≤ 57)) (h' : ¬ (97 ≤ (c.toNat : Int) ∧ (c.toNat : Int) ≤ 102)) : digV c < 0 := by
  have h0 : ∀ n : Fin 256, ¬ (48 ≤ (n.val : Int) ∧ (n.val : Int) ≤ 57) → ¬ (97 ≤ (n.val : Int) ∧ (n.val : Int) ≤ 102) → digV (UInt8.ofNat n) < 0 := by decide +kernel
  have := h0 ⟨c.toNat, c.toNat_lt⟩ h h'
  simpa using this
theorem valL_bd (l : List UInt8) (ha : l.all hexOk = true) : 0 ≤ valL l ∧ valL l < 16 ^ l.length := by
  induction l with
  | nil => simp [valL, valFrom]
  | cons c l ih =>
    simp only [List.all_cons, Bool.and_eq_true] at ha
    have hd : 0 ≤ digV c := by simpa [hexOk] using ha.1
    have hd' := digV_le c
    obtain ⟨i1, i2⟩ := ih ha.2
    rw [valL_cons, List.length_cons, Int.pow_succ]
    have hp : (0 : Int) ≤ 16 ^ l.length := by omega
    have h1 : 0 ≤ digV c * 16 ^ l.length := Int.mul_nonneg hd hp
    have h2 : digV c * 16 ^ l.length ≤ 15 * 16 ^ l.length := Int.mul_le_mul_of_nonneg_right hd' hp
    omega
theorem valL_take (s : ByteArray) (k : Nat) (hk : k ≤ 7) (ha : (s.data.toList.take k).all hexOk = true) : 0 ≤ valL (s.data.toList.take k) ∧ valL (s.data.toList.take k) ≤ 268435455 := by
  obtain ⟨h1, h2⟩ := valL_bd _ ha
  have h3 : (s.data.toList.take k).length ≤ 7 := by rw [List.length_take]; omega
  have h4 : (16 : Int) ^ (s.data.toList.take k).length ≤ 16 ^ 7 := by
    have := Nat.pow_le_pow_right (n := 16) (by omega) h3
    exact_mod_cast this
  have h5 : (16 : Int) ^ 7 = 268435456 := by decide
  omega
theorem readB_big2 (s : ByteArray) (k : Nat) (hk : ¬ k < s.size) (h1 : 16777212 < valL (s.data.toList.take k)) : readB s = -1 := by
  rcases Nat.lt_or_ge s.size k with h | h
  · have e : s.data.toList.take k = s.data.toList.take s.size := by rw [all_end s k hk, all_end s s.size (by omega)]
    rw [e] at h1; exact readB_big s s.size (Nat.le_refl _) h1
  · exact readB_big s k h h1
theorem readB_empty (s : ByteArray) (h : ¬ 0 < s.size) : readB s = -1 := by
  have hs : s = ByteArray.empty := by cases s with | mk d => simp [ByteArray.size] at h; subst h; rfl
  subst hs; decide +kernel
theorem readB_last (s : ByteArray) (k : Nat) (hk : ¬ k < s.size) (ha : (s.data.toList.take k).all hexOk = true) (h0 : 0 ≤ valL (s.data.toList.take k)) (hne : 0 < s.size) :
    readB s = if hexB (valL (s.data.toList.take k)) = s then valL (s.data.toList.take k) else -1 := by
  by_cases h1 : valL (s.data.toList.take k) ≤ 16777212
  · exact readB_end s k hk ha h0 h1
  · rw [readB_big2 s k hk (by omega), if_neg]
    intro h; rw [hexB_no (.inr (by omega))] at h; subst h; simp at hne
theorem readB_long (s : ByteArray) (h : 7 ≤ s.size) : readB s = -1 := by
  unfold readB
  rw [if_neg]
  rintro ⟨_, _, _, he⟩
  have := hexB_size (valL s.data.toList)
  rw [he] at this; omega
end Go.Proofs.YtglajbmopiolhaaGreatDoor
/-
  Contracts of chapter 1.
-/
namespace Go.Proofs.YtglajbmopiolhaaGreatDoor
open Go.RowKit
theorem low_any (n : Int) (w : World) : Calls Tryz.prog 72 #[.int .u8 n] w fun e w' => e = .returned (.bool (low n)) ∧ w = w' := by
  by_cases h1 : 97 ≤ n
  · by_cases h2 : n ≤ 122
    all_goals
      first | (have : low n = true := by unfold low; simp [h1, h2]) | (have : low n = false := by unfold low; simp [h1, h2])
      rw [this]; clear this
      go_enter Tryz.func72, Tryz.ntmps72
      go_wp2
      go_ret
      exact ⟨rfl, rfl⟩
  · have : low n = false := by unfold low; simp [h1]
    rw [this]; clear this
    go_enter Tryz.func72, Tryz.ntmps72
    go_wp2
    go_ret
    exact ⟨rfl, rfl⟩
theorem dgt_any (n : Int) (w : World) : Calls Tryz.prog 73 #[.int .u8 n] w fun e w' => e = .returned (.bool (dgt n)) ∧ w = w' := by
  by_cases h1 : 48 ≤ n
  · by_cases h2 : n ≤ 57
    all_goals
      first | (have : dgt n = true := by unfold dgt; simp [h1, h2]) | (have : dgt n = false := by unfold dgt; simp [h1, h2])
      rw [this]; clear this
      go_enter Tryz.func73, Tryz.ntmps73
      go_wp2
      go_ret
      exact ⟨rfl, rfl⟩
  · have : dgt n = false := by unfold dgt; simp [h1]
    rw [this]; clear this
    go_enter Tryz.func73, Tryz.ntmps73
    go_wp2
    go_ret
    exact ⟨rfl, rfl⟩
theorem wordValid_any (s : ByteArray) (w : World) (hs : s.size ≤ maxLen) : Calls Tryz.prog 43 #[.string s] w fun e w' => e = .returned (.bool (wordB s)) ∧ w = w' := by
  unfold maxLen at hs
  by_cases h1 : s.size < 1
  · have HF := Lib.hid (wordV_nil s h1)
    go_enter Tryz.func43, Tryz.ntmps43
    go_wp2
    go_ret
    exact ⟨ret_bool HF.out.symm, rfl⟩
  by_cases h8 : 8 < s.size
  · have HF := Lib.hid (wordV_long s h8)
    go_enter Tryz.func43, Tryz.ntmps43
    go_wp2
    go_ret
    exact ⟨ret_bool HF.out.symm, rfl⟩
  have h0 : 0 < s.size := by omega
  cases hl : low ((s[0]).toNat : Int)
  · have HF := Lib.hid (wordV_head s h0 hl)
    go_enter Tryz.func43, Tryz.ntmps43
    go_wp2_with (first | (go_at_call 72; refine (low_any _ _).mono ?_; rintro e w' ⟨rfl, rfl⟩))
    go_ret
    exact ⟨ret_bool HF.out.symm, rfl⟩
  have HW := Lib.hid (wordV_of s h0 (by omega) hl)
  go_enter Tryz.func43, Tryz.ntmps43
  go_wp2_with (first | (go_at_call 72; refine (low_any _ _).mono ?_; rintro e w' ⟨rfl, rfl⟩))
  go_loop [3] (fun i => ∃ k : Nat, k ≤ s.size ∧ i = .int .i64 k ∧ (s.data.toList.take k).all wtail = true) (fun i => s.size - (intOf i).toNat)
  case atStart => exact ⟨1, by omega, rfl, by rw [all_one s wtail h0]; exact wtail_low hl⟩
  case round =>
    obtain ⟨k, hk, rfl, ha⟩ := hrel
    have HA := Lib.hid ha; clear ha
    by_cases hlt : k < s.size
    · cases h3 : low ((s[k]).toNat : Int)
      · cases h4 : dgt ((s[k]).toNat : Int)
        · have HF := Lib.hid (all_false_of s wtail k hlt (wtail_no h3 h4))
          go_wp2_with (first | (go_at_call 72; refine (low_any _ _).mono ?_; rintro e w' ⟨rfl, rfl⟩) | (go_at_call 73; refine (dgt_any _ _).mono ?_; rintro e w' ⟨rfl, rfl⟩))
          go_ret
          exact ⟨ret_bool (by unfold wordB; rw [HW.out, HF.out]), rfl⟩
        · have HF := Lib.hid (wtail_dgt h4)
          go_wp2_with (first | (go_at_call 72; refine (low_any _ _).mono ?_; rintro e w' ⟨rfl, rfl⟩) | (go_at_call 73; refine (dgt_any _ _).mono ?_; rintro e w' ⟨rfl, rfl⟩))
          go_round
          case rel => exact ⟨k + 1, by omega, by go_num, by rw [all_snoc s wtail k hlt, HA.out, HF.out]; rfl⟩
          case measure => simp [intOf]; omega
      · have HF := Lib.hid (wtail_low h3)
        go_wp2_with (first | (go_at_call 72; refine (low_any _ _).mono ?_; rintro e w' ⟨rfl, rfl⟩))
        go_round
        case rel => exact ⟨k + 1, by omega, by go_num, by rw [all_snoc s wtail k hlt, HA.out, HF.out]; rfl⟩
        case measure => simp [intOf]; omega
    · have HE := Lib.hid (all_end s k hlt)
      go_wp2
      go_ret
      exact ⟨ret_bool (by unfold wordB; rw [HW.out, ← HE.out, HA.out]), rfl⟩
theorem l1In_any (n lo hi : Int) (w : World) : Calls Tryz.prog 53 #[.int .i64 n, .int .i64 lo, .int .i64 hi] w fun e w' => e = .returned (.bool (in3 n lo hi)) ∧ w = w' := by
  by_cases h1 : lo ≤ n
  · by_cases h2 : n ≤ hi
    · go_enter Tryz.func53, Tryz.ntmps53
      go_wp2
      go_ret
      exact ⟨ret_bool (in3_yes h1 h2).symm, rfl⟩
    · go_enter Tryz.func53, Tryz.ntmps53
      go_wp2
      go_ret
      exact ⟨ret_bool (in3_hi (by omega)).symm, rfl⟩
  · go_enter Tryz.func53, Tryz.ntmps53
    go_wp2
    go_ret
    exact ⟨ret_bool (in3_lo (by omega)).symm, rfl⟩
theorem textValid_any (s : ByteArray) (w : World) (hs : s.size ≤ maxLen) : Calls Tryz.prog 41 #[.string s] w fun e w' => e = .returned (.bool (textB s)) ∧ w = w' := by
  unfold maxLen at hs
  by_cases h8 : 60 < s.size
  · have HF := Lib.hid (textV_long s h8)
    go_enter Tryz.func41, Tryz.ntmps41
    go_wp2
    go_ret
    exact ⟨ret_bool HF.out.symm, rfl⟩
  go_enter Tryz.func41, Tryz.ntmps41
  go_wp2
  go_loop [3] (fun i => ∃ k : Nat, k ≤ s.size ∧ i = .int .i64 k ∧ (s.data.toList.take k).all txt = true) (fun i => s.size - (intOf i).toNat)
  case atStart => exact ⟨0, by omega, rfl, by simp⟩
  case round =>
    obtain ⟨k, hk, rfl, ha⟩ := hrel
    have HA := Lib.hid ha; clear ha
    by_cases hlt : k < s.size
    · by_cases h3 : ((s[k]).toNat : Int) < 32
      · have HF := Lib.hid (textV_at s k hlt (txt_no (.inl h3)))
        go_wp2
        go_ret
        exact ⟨ret_bool HF.out.symm, rfl⟩
      · by_cases h4 : 126 < ((s[k]).toNat : Int)
        · have HF := Lib.hid (textV_at s k hlt (txt_no (.inr h4)))
          go_wp2
          go_ret
          exact ⟨ret_bool HF.out.symm, rfl⟩
        · have HF := Lib.hid (txt_yes h3 h4)
          go_wp2
          go_round
          case rel => exact ⟨k + 1, by omega, by go_num, by rw [all_snoc s txt k hlt, HA.out, HF.out]; rfl⟩
          case measure => simp [intOf]; omega
    · have HE := Lib.hid (textV_end s k hlt HA.out)
      go_wp2
      go_ret
      exact ⟨ret_bool (by rw [HE.out]; simp; omega), rfl⟩
theorem specTextValid_any (s : ByteArray) (w : World) (hs : s.size ≤ maxLen) : Calls Tryz.prog 67 #[.string s] w fun e w' => e = .returned (.bool (textB s)) ∧ w = w' := by
  unfold maxLen at hs
  go_enter Tryz.func67, Tryz.ntmps67
  go_wp2
  go_loop [3] (fun i => ∃ k : Nat, k ≤ s.size ∧ i = .int .i64 k ∧ (s.data.toList.take k).all txt = true) (fun i => s.size - (intOf i).toNat)
  case atStart => exact ⟨0, by omega, rfl, by simp⟩
  case round =>
    obtain ⟨k, hk, rfl, ha⟩ := hrel
    have HA := Lib.hid ha; clear ha
    by_cases hlt : k < s.size
    · by_cases h3 : ((s[k]).toNat : Int) < 32
      · have HF := Lib.hid (textV_at s k hlt (txt_no (.inl h3)))
        go_wp2
        go_ret
        exact ⟨ret_bool HF.out.symm, rfl⟩
      · by_cases h4 : 126 < ((s[k]).toNat : Int)
        · have HF := Lib.hid (textV_at s k hlt (txt_no (.inr h4)))
          go_wp2
          go_ret
          exact ⟨ret_bool HF.out.symm, rfl⟩
        · have HF := Lib.hid (txt_yes h3 h4)
          go_wp2
          go_round
          case rel => exact ⟨k + 1, by omega, by go_num, by rw [all_snoc s txt k hlt, HA.out, HF.out]; rfl⟩
          case measure => simp [intOf]; omega
    · have HE := Lib.hid (textV_end s k hlt HA.out)
      go_wp2
      go_ret
      exact ⟨ret_bool HE.out.symm, rfl⟩
theorem specWordValid_any (s : ByteArray) (w : World) (hs : s.size ≤ maxLen) : Calls Tryz.prog 117 #[.string s] w fun e w' => e = .returned (.bool (wordB s)) ∧ w = w' := by
  unfold maxLen at hs
  go_enter Tryz.func117, Tryz.ntmps117
  go_wp2
  go_loop [3, 4] (fun i _ => ∃ k : Nat, k ≤ s.size ∧ i = .int .i64 k ∧ (s.data.toList.take k).all wtail = true ∧ (0 < k → k ≤ s.size → whead s.data.toList = true)) (fun i _ => s.size - (intOf i).toNat)
  case atStart => exact ⟨0, by omega, rfl, by simp, fun h => by omega⟩
  case round =>
    obtain ⟨k, hk, rfl, ha, hh⟩ := hrel
    have HA := Lib.hid ha; clear ha
    have HH := Lib.hid hh; clear hh
    by_cases hlt : k < s.size
    · have go : ∀ (hw : wtail s[k] = true) (hz : k = 0 → whead s.data.toList = true), ∃ k' : Nat, k' ≤ s.size ∧ (Value.int .i64 (↑k + 1) = .int .i64 ↑k') ∧ (s.data.toList.take k').all wtail = true ∧ (0 < k' → k' ≤ s.size → whead s.data.toList = true) := fun hw hz =>
        ⟨k + 1, by omega, by go_num, by rw [all_snoc s wtail k hlt, HA.out, hw]; rfl, fun _ _ => by rcases Nat.eq_zero_or_pos k with h | h; exact hz h; exact HH.out h hk⟩
      have hhd : k = 0 → whead s.data.toList = low ((s[k]).toNat : Int) := fun h => by subst h; exact whead_eq s hlt
      by_cases h3 : 97 ≤ ((s[k]).toNat : Int) ∧ ((s[k]).toNat : Int) ≤ 122
      · have HG := Lib.hid (go (wtail_low (low_yes h3.1 h3.2)) (fun h => by rw [hhd h]; exact low_yes h3.1 h3.2))
        clear go hhd
        obtain ⟨h3, h4⟩ := h3
        go_wp2
        go_round
        case rel => exact HG.out
        case measure => simp [intOf]; omega
      · have HN := Lib.hid (low_no h3)
        by_cases hk0 : k = 0
        · subst hk0
          have HF := Lib.hid (wordV_first s hlt HN.out)
          clear go hhd
          by_cases h4 : 97 ≤ ((s[0]).toNat : Int)
          · have h5 : ¬ ((s[0]).toNat : Int) ≤ 122 := fun h => h3 ⟨h4, h⟩
            clear h3
            go_wp2
            go_ret
            exact ⟨ret_bool HF.out.symm, rfl⟩
          · clear h3
            go_wp2
            go_ret
            exact ⟨ret_bool HF.out.symm, rfl⟩
        · have hk1 : 0 < k := by omega
          have hk2 : ((k : Int) == 0) = false := by simp; omega
          by_cases h5 : ((s[k]).toNat : Int) < 48
          · have HF := Lib.hid (wordV_at s k hlt HN.out (dgt_no (.inl h5)))
            clear go hhd h3 hk0
            go_wp2
            go_ret
            exact ⟨ret_bool HF.out.symm, rfl⟩
          · by_cases h6 : 57 < ((s[k]).toNat : Int)
            · have HF := Lib.hid (wordV_at s k hlt HN.out (dgt_no (.inr h6)))
              clear go hhd hk0
              by_cases h4 : 97 ≤ ((s[k]).toNat : Int)
              · have h5' : ¬ ((s[k]).toNat : Int) ≤ 122 := fun h => h3 ⟨h4, h⟩
                clear h3
                go_wp2
                go_ret
                exact ⟨ret_bool HF.out.symm, rfl⟩
              · clear h3
                go_wp2
                go_ret
                exact ⟨ret_bool HF.out.symm, rfl⟩
            · have HG := Lib.hid (go (wtail_dgt (dgt_yes h5 h6)) (fun h => by omega))
              clear go hhd h3 hk0
              go_wp2
              go_round
              case rel => exact HG.out
              case measure => simp [intOf]; omega
    · have HE := Lib.hid (wordV_end s k hlt HA.out HH.out hk)
      go_wp2_with (go_at_call 53; refine (l1In_any _ _ _ _).mono ?_; rintro e w' ⟨rfl, rfl⟩)
      go_ret
      exact ⟨ret_bool HE.out.symm, rfl⟩
end Go.Proofs.YtglajbmopiolhaaGreatDoor
/-
  Contracts of chapter 1: hexadecimal numbers.
-/
namespace Go.Proofs.YtglajbmopiolhaaGreatDoor
open Go.RowKit
set_option linter.unusedVariables false
theorem hexText_any (n : Int) (w : World) : Calls Tryz.prog 128 #[.int .i64 n] w fun e w' => e = .returned (.string (hexB n)) ∧ w = w' := by
  by_cases h1 : n < 0
  · go_enter Tryz.func128, Tryz.ntmps128
    go_wp2
    go_ret
    exact ⟨ret_str (hexB_no (.inl h1)).symm, rfl⟩
  by_cases h2 : 16777212 < n
  · go_enter Tryz.func128, Tryz.ntmps128
    go_wp2
    go_ret
    exact ⟨ret_str (hexB_no (.inr h2)).symm, rfl⟩
  have HS := Lib.hid (hexRel_start (n := n) (by omega) (by omega))
  obtain ⟨k, rfl⟩ : ∃ k : Nat, n = k := ⟨n.toNat, by omega⟩
  go_enter Tryz.func128, Tryz.ntmps128
  go_wp2
  go_loop [0, 3] (fun n' t => ∃ (m : Nat) (s : ByteArray), n' = .int .i64 m ∧ t = .string s ∧ HexRel k m s) (fun n' _ => (intOf n').toNat)
  case atStart => exact ⟨_, _, rfl, rfl, HS.out⟩
  case round =>
    obtain ⟨m, s, rfl, rfl, hr⟩ := hrel
    have HR := Lib.hid hr; clear hr
    have hb := hexRel_size HR.out
    obtain ⟨hb1, hb2⟩ := hb
    by_cases hlt : m < 16
    · have HE := Lib.hid (hexRel_end HR.out (by omega))
      go_wp2
      go_ret
      exact ⟨ret_str HE.out, rfl⟩
    · have HE := Lib.hid (hexRel_step HR.out (by omega))
      go_wp2
      go_round
      case rel => exact ⟨m / 16, _, by go_num, rfl, HE.out⟩
      case measure => simp [intOf]; omega
theorem specHexText_any (n : Int) (w : World) : Calls Tryz.prog 130 #[.int .i64 n] w fun e w' => e = .returned (.string (hexB n)) ∧ w = w' := by
  cases h1 : in3 n 0 16777212
  · have HF := Lib.hid (hexB_no (n := n) (by unfold in3 at h1; simp at h1; omega))
    go_enter Tryz.func130, Tryz.ntmps130
    go_wp2_with (go_at_call 53; refine (l1In_any _ _ _ _).mono ?_; rintro e w' ⟨rfl, rfl⟩)
    go_ret
    exact ⟨ret_str HF.out.symm, rfl⟩
  have hn : 0 ≤ n ∧ n ≤ 16777212 := by unfold in3 at h1; simpa using h1
  obtain ⟨h0, h2⟩ := hn
  have HS := Lib.hid (hexRel_start h0 h2)
  obtain ⟨k, rfl⟩ : ∃ k : Nat, n = k := ⟨n.toNat, by omega⟩
  go_enter Tryz.func130, Tryz.ntmps130
  go_wp2_with (go_at_call 53; refine (l1In_any _ _ _ _).mono ?_; rintro e w' ⟨rfl, rfl⟩)
  go_loop [0, 4] (fun n' t => ∃ (m : Nat) (s : ByteArray), n' = .int .i64 m ∧ t = .string s ∧ HexRel k m s) (fun n' _ => (intOf n').toNat)
  case atStart => exact ⟨_, _, rfl, rfl, HS.out⟩
  case round =>
    obtain ⟨m, s, rfl, rfl, hr⟩ := hrel
    have HR := Lib.hid hr; clear hr
    have hb := hexRel_size HR.out
    obtain ⟨hb1, hb2⟩ := hb
    by_cases hlt : m < 16
    · have HE := Lib.hid (hexRel_end HR.out (by omega))
      go_wp2
      go_ret
      exact ⟨ret_str HE.out, rfl⟩
    · have HE := Lib.hid (hexRel_step HR.out (by omega))
      go_wp2
      go_round
      case rel => exact ⟨m / 16, _, by go_num, rfl, HE.out⟩
      case measure => simp [intOf]; omega
end Go.Proofs.YtglajbmopiolhaaGreatDoor
/-
  Contracts of chapter 1: reading hexadecimal numbers.
-/
namespace Go.Proofs.YtglajbmopiolhaaGreatDoor
open Go.RowKit
set_option linter.unusedVariables false
theorem idx_any (c : UInt8) (w : World) : Calls Tryz.prog 159 #[.string { data := #[48, 49, 50, 51, 52, 53, 54, 55, 56, 57, 97, 98, 99, 100, 101, 102] }, .int .u8 (c.toNat : Int)] w fun e w' => e = .returned (.int .i64 (digV c)) ∧ w = w' := by
  refine (Tryz.strings_IndexByte _ _ _).mono ?_
  rintro e w' ⟨rfl, rfl⟩
  refine ⟨ret_int ?_, rfl⟩
  have : ((c.toNat : Int)).toNat.toUInt8 = c := by simp
  rw [this]; rfl
theorem readHex_any (s : ByteArray) (w : World) (hs : s.size ≤ maxLen) : Calls Tryz.prog 149 #[.string s] w fun e w' => e = .returned (.int .i64 (readB s)) ∧ w = w' := by
  unfold maxLen at hs
  go_enter Tryz.func149, Tryz.ntmps149
  go_wp2
  go_loop [3, 4, 5] (fun n i _ => ∃ k : Nat, k ≤ s.size ∧ i = .int .i64 k ∧ n = .int .i64 (valL (s.data.toList.take k)) ∧ (s.data.toList.take k).all hexOk = true ∧ valL (s.data.toList.take k) ≤ 16777212) (fun _ i _ => s.size - (intOf i).toNat)
  case atStart => exact ⟨0, by omega, rfl, rfl, rfl, by simp [valL, valFrom]⟩
  case round =>
    obtain ⟨k, hk, rfl, rfl, ha, hm⟩ := hrel
    have hp := (valL_bd _ ha).1
    have HA := Lib.hid ha; clear ha
    by_cases hlt : k < s.size
    · have hv : valL (s.data.toList.take (k + 1)) = 16 * valL (s.data.toList.take k) + digV s[k] := by rw [take_snoc s k hlt, valL_snoc]
      have HV := Lib.hid hv; clear hv
      have hd := digV_le s[k]
      by_cases hn : digV s[k] < 0
      · have HF := Lib.hid (readB_bad s k hlt hn)
        go_wp2_with (go_at_call 159; refine (idx_any _ _).mono ?_; rintro e w' ⟨rfl, rfl⟩)
        go_ret
        exact ⟨ret_int HF.out.symm, rfl⟩
      · by_cases hb : 16777212 < 16 * valL (s.data.toList.take k) + digV s[k]
        · have HF := Lib.hid (readB_big s (k + 1) hlt (by rw [HV.out]; exact hb))
          go_wp2_with (go_at_call 159; refine (idx_any _ _).mono ?_; rintro e w' ⟨rfl, rfl⟩)
          go_ret
          exact ⟨ret_int HF.out.symm, rfl⟩
        · have HO := Lib.hid (show hexOk s[k] = true by unfold hexOk; simp; omega)
          go_wp2_with (go_at_call 159; refine (idx_any _ _).mono ?_; rintro e w' ⟨rfl, rfl⟩)
          go_round
          case rel => exact ⟨k + 1, by omega, by go_num, by rw [HV.out], by rw [all_snoc s hexOk k hlt, HA.out, HO.out]; rfl, by rw [HV.out]; omega⟩
          case measure => simp [intOf]; omega
    · have HE := Lib.hid (readB_end s k hlt HA.out hp hm)
      cases he : ((hexB (valL (s.data.toList.take k))).toList == s.toList)
      · have HN := Lib.hid (str_ne he)
        go_wp2_with (go_at_call 128; refine (hexText_any _ _).mono ?_; rintro e w' ⟨rfl, rfl⟩)
        go_ret
        exact ⟨ret_int (by rw [HE.out, if_neg HN.out]), rfl⟩
      · have HN := Lib.hid (str_eq he)
        go_wp2_with (go_at_call 128; refine (hexText_any _ _).mono ?_; rintro e w' ⟨rfl, rfl⟩)
        go_ret
        exact ⟨ret_int (by rw [HE.out, if_pos HN.out]), rfl⟩
theorem specReadHex_any (s : ByteArray) (w : World) (hs : s.size ≤ maxLen) : Calls Tryz.prog 118 #[.string s] w fun e w' => e = .returned (.int .i64 (readB s)) ∧ w = w' := by
  unfold maxLen at hs
  go_enter Tryz.func118, Tryz.ntmps118
  go_wp2
  go_loop [3, 4] (fun n i => ∃ k : Nat, k ≤ s.size ∧ k ≤ 7 ∧ i = .int .i64 k ∧ n = .int .i64 (valL (s.data.toList.take k)) ∧ (s.data.toList.take k).all hexOk = true) (fun _ i => s.size - (intOf i).toNat)
  case atStart => exact ⟨0, by omega, by omega, rfl, rfl, rfl⟩
  case round =>
    obtain ⟨k, hk, h7, rfl, rfl, ha⟩ := hrel
    have hp := valL_take s k h7 ha
    obtain ⟨hp, hp'⟩ := hp
    have HA := Lib.hid ha; clear ha
    by_cases hlt : k < s.size
    · by_cases hl7 : k < 7
      · have hv : valL (s.data.toList.take (k + 1)) = 16 * valL (s.data.toList.take k) + digV s[k] := by rw [take_snoc s k hlt, valL_snoc]
        have HV := Lib.hid hv; clear hv
        have h6 : valL (s.data.toList.take k) ≤ 16777215 := by
          have h := (valL_bd _ HA.out).2
          have h3 : (s.data.toList.take k).length ≤ 6 := by rw [List.length_take]; omega
          have h4 : (16 : Int) ^ (s.data.toList.take k).length ≤ 16 ^ 6 := by
            have := Nat.pow_le_pow_right (n := 16) (by omega) h3
            exact_mod_cast this
          have h5 : (16 : Int) ^ 6 = 16777216 := by decide
          omega
        by_cases hd : 48 ≤ ((s[k]).toNat : Int) ∧ ((s[k]).toNat : Int) ≤ 57
        · have HD := Lib.hid (digV_num s[k] hd.1 hd.2)
          have HO := Lib.hid (show hexOk s[k] = true by unfold hexOk; rw [HD.out]; simp; omega)
          obtain ⟨hd1, hd2⟩ := hd
          go_wp2
          go_round
          case rel => exact ⟨k + 1, by omega, by omega, by go_num, by rw [HV.out, HD.out], by rw [all_snoc s hexOk k hlt, HA.out, HO.out]; rfl⟩
          case measure => simp [intOf]; omega
        · by_cases hl : 97 ≤ ((s[k]).toNat : Int) ∧ ((s[k]).toNat : Int) ≤ 102
          · have HD := Lib.hid (digV_let s[k] hl.1 hl.2)
            have HO := Lib.hid (show hexOk s[k] = true by unfold hexOk; rw [HD.out]; simp; omega)
            obtain ⟨hl1, hl2⟩ := hl
            clear hd
            go_wp2
            go_round
            case rel => exact ⟨k + 1, by omega, by omega, by go_num, by rw [HV.out, HD.out, ← Int.add_assoc], by rw [all_snoc s hexOk k hlt, HA.out, HO.out]; rfl⟩
            case measure => simp [intOf]; omega
          · have HF := Lib.hid (readB_bad s k hlt (digV_none s[k] hd hl))
            by_cases h48 : 48 ≤ ((s[k]).toNat : Int)
            · have h57 : 57 < ((s[k]).toNat : Int) := by omega
              by_cases h97 : 97 ≤ ((s[k]).toNat : Int)
              · have h102 : 102 < ((s[k]).toNat : Int) := by omega
                clear hd hl
                go_wp2
                go_ret
                exact ⟨ret_int HF.out.symm, rfl⟩
              · clear hd hl
                go_wp2
                go_ret
                exact ⟨ret_int HF.out.symm, rfl⟩
            · have h97 : ¬ 97 ≤ ((s[k]).toNat : Int) := by omega
              clear hd hl
              go_wp2
              go_ret
              exact ⟨ret_int HF.out.symm, rfl⟩
      · have HF := Lib.hid (readB_long s (by omega))
        have HN := Lib.hid (show ((hexB (valL (s.data.toList.take k))).toList == s.toList) = false by
          rw [str_beq]
          have : (hexB (valL (s.data.toList.take k))) ≠ s := by intro h; have := hexB_size (valL (s.data.toList.take k)); rw [h] at this; omega
          simp [this])
        have hne : s.toList.isEmpty = false := by rw [ByteArray.toList_eq, List.isEmpty_eq_false_iff, ← List.length_pos_iff, len_eq]; omega
        have he := HN.out
        go_wp2_with (go_at_call 130; refine (specHexText_any _ _).mono ?_; rintro e w' ⟨rfl, rfl⟩)
        go_ret
        exact ⟨ret_int HF.out.symm, rfl⟩
    · by_cases h0 : 0 < s.size
      · have HE := Lib.hid (readB_last s k hlt HA.out hp h0)
        have hne : s.toList.isEmpty = false := by rw [ByteArray.toList_eq, List.isEmpty_eq_false_iff, ← List.length_pos_iff, len_eq]; omega
        cases he : ((hexB (valL (s.data.toList.take k))).toList == s.toList)
        · have HN := Lib.hid (str_ne he)
          go_wp2_with (go_at_call 130; refine (specHexText_any _ _).mono ?_; rintro e w' ⟨rfl, rfl⟩)
          go_ret
          exact ⟨ret_int (by rw [HE.out, if_neg HN.out]), rfl⟩
        · have HN := Lib.hid (str_eq he)
          go_wp2_with (go_at_call 130; refine (specHexText_any _ _).mono ?_; rintro e w' ⟨rfl, rfl⟩)
          go_ret
          exact ⟨ret_int (by rw [HE.out, if_pos HN.out]), rfl⟩
      · have HF := Lib.hid (readB_empty s h0)
        have hne : s.toList.isEmpty = true := by rw [ByteArray.toList_eq, List.isEmpty_iff, ← List.length_eq_zero_iff, len_eq]; omega
        have hk0 : ¬ k < s.size := hlt
        go_wp2
        go_ret
        exact ⟨ret_int HF.out.symm, rfl⟩
end Go.Proofs.YtglajbmopiolhaaGreatDoor
