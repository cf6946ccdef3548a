/-
  Contracts of chapter 6's program: entries are copied, sought, put in and taken out.
-/
import Derived.Test.YtiniadlpgomgjaaEntries2
import Derived.Test.YtiniadlpgomgjaaImpl4
namespace Go.Proofs.Ytiniadlpgomgjaa
open Go.RowKit
set_option linter.unusedVariables false
theorem cloneN_any (s : ByteArray) (w : World) (hs : s.size ≤ 2000000) : Calls Try.prog 54 #[.string s] w fun e w' => e = .returned (.string s) ∧ Below w.heap.size w w' := by
  go_enter Try.func54, Try.ntmps54
  go_wp2_with (go_at_call 57; refine (Try.stringslite_Clone s _ (by omega)).mono ?_; rintro e w' ⟨rfl, hb⟩; have HB := Lib.hid hb; clear hb)
  go_ret
  exact ⟨rfl, HB.out⟩
/-! ### the order of names -/
theorem less_trans : ∀ {a b c : List UInt8}, Op.bytesLess a b = true → Op.bytesLess b c = true → Op.bytesLess a c = true
  | _, [], _, h, _ => by simp [Op.bytesLess] at h
  | _, _ :: _, [], _, h => by simp [Op.bytesLess] at h
  | [], _ :: _, _ :: _, _, _ => by simp [Op.bytesLess]
  | x :: a, y :: b, z :: c, h, h' => by
    simp only [Op.bytesLess, Bool.or_eq_true, decide_eq_true_eq, Bool.and_eq_true, beq_iff_eq] at h h' ⊢
    rcases h with h | ⟨rfl, h⟩
    · rcases h' with h' | ⟨rfl, h'⟩
      · exact .inl (UInt8.lt_trans h h')
      · exact .inl h
    · rcases h' with h' | ⟨rfl, h'⟩
      · exact .inl h'
      · exact .inr ⟨rfl, less_trans h h'⟩
theorem less_irrefl : ∀ a : List UInt8, Op.bytesLess a a = false
  | [] => rfl
  | x :: a => by simp [Op.bytesLess, less_irrefl a]
theorem less_conn : ∀ {a b : List UInt8}, Op.bytesLess a b = false → Op.bytesLess b a = false → a = b
  | [], [], _, _ => rfl
  | [], _ :: _, h, _ => by simp [Op.bytesLess] at h
  | _ :: _, [], _, h => by simp [Op.bytesLess] at h
  | x :: a, y :: b, h, h' => by
    simp only [Op.bytesLess, Bool.or_eq_false_iff, decide_eq_false_iff_not, Bool.and_eq_false_iff, beq_eq_false_iff_ne] at h h'
    have e : x = y := UInt8.le_antisymm (UInt8.not_lt.1 h'.1) (UInt8.not_lt.1 h.1)
    subst e
    rw [less_conn (h.2.resolve_left fun k => k rfl) (h'.2.resolve_left fun k => k rfl)]
theorem ltN_trans {a b c : ByteArray} (h : ltN a b = true) (h' : ltN b c = true) : ltN a c = true := less_trans h h'
theorem ltN_irrefl (a : ByteArray) : ltN a a = false := less_irrefl _
theorem ltN_conn {a b : ByteArray} (h : ltN a b = false) (h' : ltN b a = false) : a = b := toList_inj' (less_conn h h')
theorem ltN_asymm {a b : ByteArray} (h : ltN a b = true) : ltN b a = false := by
  cases h' : ltN b a
  · rfl
  · have := ltN_trans h h'; rw [ltN_irrefl] at this; cases this
/-- -1, 0, 1 as a name stands before, is, stands behind another. -/
def cmpS (x y : ByteArray) : Int := if ltN x y = true then -1 else if ltN y x = true then 1 else 0
theorem cmpS_lt {x y : ByteArray} : (cmpS x y < 0) ↔ ltN x y = true := by unfold cmpS; (repeat' split) <;> simp_all
theorem cmpS_eq {x y : ByteArray} : (cmpS x y = 0) ↔ x = y := by
  unfold cmpS
  constructor
  · intro h
    split at h
    · omega
    · split at h
      · omega
      · rename_i h1 h2; exact ltN_conn (by simpa using h1) (by simpa using h2)
  · rintro rfl; simp [ltN_irrefl]
theorem isNaNS_any (x : ByteArray) (w : World) : Calls Try.prog 58 #[.string x] w fun e w' => e = .returned (.bool false) ∧ w = w' := by
  have h : (x.toList == x.toList) = true := by simp
  go_enter Try.func58, Try.ntmps58
  go_wp2
  go_ret
  exact ⟨rfl, rfl⟩
theorem compareS_any (x y : ByteArray) (w : World) : Calls Try.prog 55 #[.string x, .string y] w fun e w' => e = .returned (.int .i64 (cmpS x y)) ∧ w = w' := by
  cases h1 : Op.bytesLess x.toList y.toList
  · cases h2 : Op.bytesLess y.toList x.toList
    · have HF := Lib.hid (show cmpS x y = 0 by unfold cmpS ltN; rw [h1, h2]; rfl)
      have h3 : (x.toList == y.toList) = true := by rw [less_conn h1 h2]; simp
      go_enter Try.func55, Try.ntmps55
      go_wp2_with (go_at_call 58; refine (isNaNS_any _ _).mono ?_; rintro e w' ⟨rfl, rfl⟩)
      go_ret
      exact ⟨ret_int HF.out.symm, rfl⟩
    · have HF := Lib.hid (show cmpS x y = 1 by unfold cmpS ltN; rw [h1, h2]; rfl)
      have h3 : (x.toList == y.toList) = false := by
        cases h : (x.toList == y.toList)
        · rfl
        · rw [eq_of_beq h, less_irrefl] at h2; cases h2
      go_enter Try.func55, Try.ntmps55
      go_wp2_with (go_at_call 58; refine (isNaNS_any _ _).mono ?_; rintro e w' ⟨rfl, rfl⟩)
      go_ret
      exact ⟨ret_int HF.out.symm, rfl⟩
  · have HF := Lib.hid (show cmpS x y = -1 by unfold cmpS ltN; rw [h1]; rfl)
    go_enter Try.func55, Try.ntmps55
    go_wp2_with (go_at_call 58; refine (isNaNS_any _ _).mono ?_; rintro e w' ⟨rfl, rfl⟩)
    go_ret
    exact ⟨ret_int HF.out.symm, rfl⟩
/-- Names ascend. -/
def AscE (l : List Ent) : Prop := ∀ i j, i < j → j < l.length → ltN (nthE l i).1 (nthE l j).1 = true
theorem leB_no {a b : ByteArray} (h : leB a b = false) : ltN b a = true := by
  unfold leB at h
  rw [Bool.or_eq_false_iff] at h
  cases h' : ltN b a
  · have := less_conn h.1 h'
    rw [this] at h; simp at h
  · rfl
theorem leB_of {a b : ByteArray} (h : ltN b a = true) : leB a b = false := by
  unfold leB
  have h1 : Op.bytesLess a.toList b.toList = false := ltN_asymm h
  rw [h1, Bool.false_or]
  cases h2 : (a.toList == b.toList)
  · rfl
  · unfold ltN at h; rw [eq_of_beq h2, less_irrefl] at h; cases h
theorem ents_asc {l : List Ent} (h : entsB l = true) : AscE l := by
  have h2 := (entsB_at h).2
  intro i j hij
  induction j with
  | zero => omega
  | succ j ih =>
    intro hj
    have h3 := h2 (j + 1) hj
    unfold okE at h3
    simp only [Bool.and_eq_true, Bool.or_eq_true, decide_eq_true_eq, Nat.add_eq_zero_iff, Nat.one_ne_zero, and_false, false_or, Bool.not_eq_true', Nat.add_sub_cancel] at h3
    have h4 := leB_no h3.2
    rcases Nat.lt_or_eq_of_le (Nat.le_of_lt_succ hij) with h5 | rfl
    · exact ltN_trans (ih h5 (by omega)) h4
    · exact h4
/-- Is a name there? -/
def hereE (p : ByteArray) (l : List Ent) : Bool := decide (atE p l < l.length) && decide ((nthE l (atE p l)).1 = p)
theorem hereE_yes {p : ByteArray} {l : List Ent} {k : Nat} (h : atE p l = k) (hk : k < l.length) (he : (nthE l k).1 = p) : hereE p l = true := by unfold hereE; rw [h, decide_eq_true hk, decide_eq_true he]; rfl
theorem hereE_no1 {p : ByteArray} {l : List Ent} {k : Nat} (h : atE p l = k) (hk : ¬ k < l.length) : hereE p l = false := by unfold hereE; rw [h, decide_eq_false hk]; rfl
theorem hereE_no2 {p : ByteArray} {l : List Ent} {k : Nat} (h : atE p l = k) (he : (nthE l k).1 ≠ p) : hereE p l = false := by unfold hereE; rw [h, decide_eq_false he, Bool.and_false]
/-! ### rows -/
theorem setCells_row {w : World} {g off : Nat} {te : TypeId} {cur cs : List Value} (hg : RowIs w g te cur) (hfit : off + cs.length ≤ cur.length) (h1 : ∀ v ∈ cs, v.oneCell' = true) : RowIs (w.setCells g off cs) g te (laid cur off cs) ∧ w.grownBy (w.setCells g off cs) (some g) := by
  have hst := run_storeCells_at Try.prog g off te cs 0 cur.toArray w hg (by simpa using hfit) h1
  have hst2 := run_storeCells_cells (P := Try.prog) g off cs 0 w (fun j hj => by
    rw [Nat.add_zero, RowIs.cell hg (List.getElem?_eq_getElem (by omega))]; rfl) (fun j hj => by simp [World.frozen?, show w.heap[g]? = _ from hg]) h1
  rw [hst] at hst2
  have e : w.setRow g (cur.toArray.toList.take (off + 0) ++ cs ++ cur.toArray.toList.drop (off + 0 + cs.length)).toArray = w.setCells g off cs := by
    simpa using hst2
  rw [← e]
  exact ⟨setRow_heap w g _ _ te (0, 0) hg, rfl, rfl, rfl, by simp [World.setRow], fun k hk hr => setRow_other w g k _ (fun h => hr (by rw [h]))⟩
end Go.Proofs.Ytiniadlpgomgjaa
/-
  Contracts of chapter 6's program: an entry is taken out.
-/
namespace Go.Proofs.Ytiniadlpgomgjaa
open Go.RowKit
set_option linter.unusedVariables false
end Go.Proofs.Ytiniadlpgomgjaa
