/-
  Contracts of chapter 6's program: entries are copied, sought, put in and taken out.
-/
import Derived.Test.YtglajbmopiolhaaDoorEntries2
import Derived.Test.YtglajbmopiolhaaDoorImpl4
namespace Go.Proofs.YtglajbmopiolhaaDoor
open Go.RowKit
set_option linter.unusedVariables false
theorem cloneN_any (s : ByteArray) (w : World) (hs : s.size ≤ 2000000) : Calls Tryd.prog 50 #[.string s] w fun e w' => e = .returned (.string s) ∧ Below w.heap.size w w' := by
  go_enter Tryd.func50, Tryd.ntmps50
  go_wp2_with (go_at_call 62; refine (Tryd.stringslite_Clone s _ (by omega)).mono ?_; rintro e w' ⟨rfl, hb⟩; have HB := Lib.hid hb; clear hb)
  go_ret
  exact ⟨rfl, HB.out⟩
/-! ### the order of names -/
theorem less_trans : ∀ {a b c : List UInt8}, Op.bytesLess a b = true → Op.bytesLess b c = true → Op.bytesLess a c = true
  | _, [], _, h, _ => by simp [Op.bytesLess] at h
  | _, _ :: _, [], _, h => by simp [Op.bytesLess] at h
  | [], _ :: _, _ :: _, _, _ => by simp [Op.bytesLess]
  | x :: a, y :: b, z :: c, h, h' => by
    simp only [Op.bytesLess, Bool.or_eq_true, decide_eq_true_eq, Bool.and_eq_true, beq_iff_eq] at h h' ⊢
    rcases h with h | ⟨rfl, h⟩
    · rcases h' with h' | ⟨rfl, h'⟩
      · exact .inl (UInt8.lt_trans h h')
      · exact .inl h
    · rcases h' with h' | ⟨rfl, h'⟩
      · exact .inl h'
      · exact .inr ⟨rfl, less_trans h h'⟩
theorem less_irrefl : ∀ a : List UInt8, Op.bytesLess a a = false
  | [] => rfl
  | x :: a => by simp [Op.bytesLess, less_irrefl a]
theorem less_conn : ∀ {a b : List UInt8}, Op.bytesLess a b = false → Op.bytesLess b a = false → a = b
  | [], [], _, _ => rfl
  | [], _ :: _, h, _ => by simp [Op.bytesLess] at h
  | _ :: _, [], _, h => by simp [Op.bytesLess] at h
  | x :: a, y :: b, h, h' => by
    simp only [Op.bytesLess, Bool.or_eq_false_iff, decide_eq_false_iff_not, Bool.and_eq_false_iff, beq_eq_false_iff_ne] at h h'
    have e : x = y := UInt8.le_antisymm (UInt8.not_lt.1 h'.1) (UInt8.not_lt.1 h.1)
    subst e
    rw [less_conn (h.2.resolve_left fun k => k rfl) (h'.2.resolve_left fun k => k rfl)]
theorem ltN_trans {a b c : ByteArray} (h : ltN a b = true) (h' : ltN b c = true) : ltN a c = true := less_trans h h'
theorem ltN_irrefl (a : ByteArray) : ltN a a = false := less_irrefl _
theorem ltN_conn {a b : ByteArray} (h : ltN a b = false) (h' : ltN b a = false) : a = b := toList_inj' (less_conn h h')
theorem ltN_asymm {a b : ByteArray} (h : ltN a b = true) : ltN b a = false := by
  cases h' : ltN b a
  · rfl
  · have := ltN_trans h h'; rw [ltN_irrefl] at this; cases this
/-- -1, 0, 1 as a name stands before, is, stands behind another. -/
def cmpS (x y : ByteArray) : Int := if ltN x y = true then -1 else if ltN y x = true then 1 else 0
theorem cmpS_lt {x y : ByteArray} : (cmpS x y < 0) ↔ ltN x y = true := by unfold cmpS; (repeat' split) <;> simp_all
theorem cmpS_eq {x y : ByteArray} : (cmpS x y = 0) ↔ x = y := by
  unfold cmpS
  constructor
  · intro h
    split at h
    · omega
    · split at h
      · omega
      · rename_i h1 h2; exact ltN_conn (by simpa using h1) (by simpa using h2)
  · rintro rfl; simp [ltN_irrefl]
theorem isNaNS_any (x : ByteArray) (w : World) : Calls Tryd.prog 94 #[.string x] w fun e w' => e = .returned (.bool false) ∧ w = w' := by
  have h : (x.toList == x.toList) = true := by simp
  go_enter Tryd.func94, Tryd.ntmps94
  go_wp2
  go_ret
  exact ⟨rfl, rfl⟩
theorem compareS_any (x y : ByteArray) (w : World) : Calls Tryd.prog 90 #[.string x, .string y] w fun e w' => e = .returned (.int .i64 (cmpS x y)) ∧ w = w' := by
  cases h1 : Op.bytesLess x.toList y.toList
  · cases h2 : Op.bytesLess y.toList x.toList
    · have HF := Lib.hid (show cmpS x y = 0 by unfold cmpS ltN; rw [h1, h2]; rfl)
      have h3 : (x.toList == y.toList) = true := by rw [less_conn h1 h2]; simp
      go_enter Tryd.func90, Tryd.ntmps90
      go_wp2_with (go_at_call 94; refine (isNaNS_any _ _).mono ?_; rintro e w' ⟨rfl, rfl⟩)
      go_ret
      exact ⟨ret_int HF.out.symm, rfl⟩
    · have HF := Lib.hid (show cmpS x y = 1 by unfold cmpS ltN; rw [h1, h2]; rfl)
      have h3 : (x.toList == y.toList) = false := by
        cases h : (x.toList == y.toList)
        · rfl
        · rw [eq_of_beq h, less_irrefl] at h2; cases h2
      go_enter Tryd.func90, Tryd.ntmps90
      go_wp2_with (go_at_call 94; refine (isNaNS_any _ _).mono ?_; rintro e w' ⟨rfl, rfl⟩)
      go_ret
      exact ⟨ret_int HF.out.symm, rfl⟩
  · have HF := Lib.hid (show cmpS x y = -1 by unfold cmpS ltN; rw [h1]; rfl)
    go_enter Tryd.func90, Tryd.ntmps90
    go_wp2_with (go_at_call 94; refine (isNaNS_any _ _).mono ?_; rintro e w' ⟨rfl, rfl⟩)
    go_ret
    exact ⟨ret_int HF.out.symm, rfl⟩
theorem compareName_any (p : Ent) (y : ByteArray) (w : World) : Calls Tryd.prog 81 #[.agg #[.string p.1, .int .i64 p.2], .string y] w (BelowI (cmpS p.1 y) w) := by
  go_enter Tryd.func81, Tryd.ntmps81
  go_wp2_with (go_at_call 90; refine (compareS_any _ _ _).mono ?_; rintro e w' ⟨rfl, rfl⟩)
  go_ret
  exact ⟨rfl, (Below.refl _ _).alloc (Nat.le_refl _) _⟩
/-- Names ascend. -/
def AscE (l : List Ent) : Prop := ∀ i j, i < j → j < l.length → ltN (nthE l i).1 (nthE l j).1 = true
theorem leB_no {a b : ByteArray} (h : leB a b = false) : ltN b a = true := by
  unfold leB at h
  rw [Bool.or_eq_false_iff] at h
  cases h' : ltN b a
  · have := less_conn h.1 h'
    rw [this] at h; simp at h
  · rfl
theorem leB_of {a b : ByteArray} (h : ltN b a = true) : leB a b = false := by
  unfold leB
  have h1 : Op.bytesLess a.toList b.toList = false := ltN_asymm h
  rw [h1, Bool.false_or]
  cases h2 : (a.toList == b.toList)
  · rfl
  · unfold ltN at h; rw [eq_of_beq h2, less_irrefl] at h; cases h
theorem ents_asc {l : List Ent} (h : entsB l = true) : AscE l := by
  have h2 := (entsB_at h).2
  intro i j hij
  induction j with
  | zero => omega
  | succ j ih =>
    intro hj
    have h3 := h2 (j + 1) hj
    unfold okE at h3
    simp only [Bool.and_eq_true, Bool.or_eq_true, decide_eq_true_eq, Nat.add_eq_zero_iff, Nat.one_ne_zero, and_false, false_or, Bool.not_eq_true', Nat.add_sub_cancel] at h3
    have h4 := leB_no h3.2
    rcases Nat.lt_or_eq_of_le (Nat.le_of_lt_succ hij) with h5 | rfl
    · exact ltN_trans (ih h5 (by omega)) h4
    · exact h4
/-- Is a name there? -/
def hereE (p : ByteArray) (l : List Ent) : Bool := decide (atE p l < l.length) && decide ((nthE l (atE p l)).1 = p)
theorem hereE_yes {p : ByteArray} {l : List Ent} {k : Nat} (h : atE p l = k) (hk : k < l.length) (he : (nthE l k).1 = p) : hereE p l = true := by unfold hereE; rw [h, decide_eq_true hk, decide_eq_true he]; rfl
theorem hereE_no1 {p : ByteArray} {l : List Ent} {k : Nat} (h : atE p l = k) (hk : ¬ k < l.length) : hereE p l = false := by unfold hereE; rw [h, decide_eq_false hk]; rfl
theorem hereE_no2 {p : ByteArray} {l : List Ent} {k : Nat} (h : atE p l = k) (he : (nthE l k).1 ≠ p) : hereE p l = false := by unfold hereE; rw [h, decide_eq_false he, Bool.and_false]
set_option maxHeartbeats 1000000 in
theorem searchE_any (x : Option Addr) (n cap : Nat) (l : List Ent) (t : ByteArray) (B : Nat) (w : World) (h : Ents w B x n cap l) (hB : B ≤ w.heap.size) (hs : AscE l) (hn : n ≤ 1000000) :
    Calls Tryd.prog 80 #[.slice x n cap, .string t, .func (.func 81) #[] #[]] w fun e w' => e = .returned (.tuple #[.int .i64 (atE t l : Nat), .bool (hereE t l)]) ∧ Below w.heap.size w w' := by
  have HL := Lib.hid h.len
  have HH := Lib.hid h
  have HS := Lib.hid hs
  have hmx := h.max
  have hle := h.le
  clear h hs
  unfold maxLen at hmx
  go_enter Tryd.func80, Tryd.ntmps80
  go_wp2
  go_loopw [9, 10, 11] (fun i j _ wr => ∃ a b : Nat, a ≤ b ∧ b ≤ n ∧ i = .int .i64 a ∧ j = .int .i64 b ∧ (∀ k, k < a → ltN (nthE l k).1 t = true) ∧ (∀ k, b ≤ k → k < n → ltN (nthE l k).1 t = false) ∧ Below w.heap.size w wr) (fun i j _ _ => (intOf j).toNat - (intOf i).toNat)
  case atStart => exact ⟨0, n, by omega, Nat.le_refl _, rfl, rfl, fun k hk => by omega, fun k hk hk' => by omega, Below.refl _ _⟩
  case round =>
    obtain ⟨a, b, hab, hbn, rfl, rfl, hlo, hhi, hb⟩ := hrel
    have HLO := Lib.hid hlo; have HHI := Lib.hid hhi; have HB := Lib.hid hb; clear hlo hhi hb
    by_cases hlt : a < b
    · have hmb : (a + b) / 2 < n := by omega
      obtain ⟨b0, off, rfl, hb0, hc0, hc1⟩ := (HH.out.below HB.out hB).atE hmb
      obtain ⟨q, hq⟩ : ∃ q, q = nthE l ((a + b) / 2) := ⟨_, rfl⟩
      rw [← hq] at hc0 hc1
      cases hx : ltN q.1 t
      · have hc : ¬ cmpS q.1 t < 0 := fun h => by rw [cmpS_lt, hx] at h; cases h
        have HX := Lib.hid (show ∀ k, (a + b) / 2 ≤ k → k < n → ltN (nthE l k).1 t = false from fun k hk hkn => by
          rcases Nat.lt_or_eq_of_le hk with h | rfl
          · have h1 := HS.out _ k h (by have := HL.out; omega); rw [← hq] at h1
            cases h2 : ltN (nthE l k).1 t
            · rfl
            · rw [ltN_trans h1 h2] at hx; cases hx
          · rw [← hq]; exact hx)
        clear hq hx
        go_wp2_with (go_at_call 81; refine (compareName_any q _ _).mono ?_; rintro e w2 ⟨rfl, hb⟩; have HB2 := Lib.hid (HB.out.trans (hb.mono HB.out.size)); clear hb)
        go_roundw
        case rel => exact ⟨a, (a + b) / 2, by omega, by omega, rfl, by go_num, HLO.out, HX.out, HB2.out⟩
        case measure => simp [intOf]; omega
      · have hc : cmpS q.1 t < 0 := cmpS_lt.2 hx
        have HX := Lib.hid (show ∀ k, k < (a + b) / 2 + 1 → ltN (nthE l k).1 t = true from fun k hk => by
          rcases Nat.lt_succ_iff_lt_or_eq.1 hk with h | rfl
          · have h1 := HS.out k _ h (by have := HL.out; omega); rw [← hq] at h1; exact ltN_trans h1 hx
          · rw [← hq]; exact hx)
        clear hq hx
        go_wp2_with (go_at_call 81; refine (compareName_any q _ _).mono ?_; rintro e w2 ⟨rfl, hb⟩; have HB2 := Lib.hid (HB.out.trans (hb.mono HB.out.size)); clear hb)
        go_roundw
        case rel => exact ⟨(a + b) / 2 + 1, b, by omega, hbn, by go_num, rfl, HX.out, HHI.out, HB2.out⟩
        case measure => simp [intOf]; omega
    · obtain rfl : a = b := by omega
      have HA := Lib.hid (atE_eq (p := t) (l := l) (k := a) (by have := HL.out; omega) HLO.out (by
        rcases Nat.lt_or_ge a n with h | h
        · exact .inr (HHI.out a (Nat.le_refl _) h)
        · left; have := HL.out; omega))
      by_cases hlt2 : a < n
      · obtain ⟨b0, off, rfl, hb0, hc0, hc1⟩ := (HH.out.below HB.out hB).atE hlt2
        obtain ⟨q, hq⟩ : ∃ q, q = nthE l a := ⟨_, rfl⟩
        rw [← hq] at hc0 hc1
        have hd : ((a : Int) < (n : Int)) := by omega
        by_cases hx : q.1 = t
        · have hc : (cmpS q.1 t == 0) = true := by simpa using cmpS_eq.2 hx
          have HX := Lib.hid (hereE_yes HA.out (by have := HL.out; omega) (by rw [← hq]; exact hx))
          clear hq hx
          go_wp2_with (go_at_call 81; refine (compareName_any q _ _).mono ?_; rintro e w2 ⟨rfl, hb⟩; have HB2 := Lib.hid (HB.out.trans (hb.mono HB.out.size)); clear hb)
          go_ret2
          exact ⟨by rw [HA.out, HX.out]; rfl, HB2.out⟩
        · have hc : (cmpS q.1 t == 0) = false := by simpa using fun h => hx (cmpS_eq.1 h)
          have HX := Lib.hid (hereE_no2 HA.out (by rw [← hq]; exact hx))
          clear hq hx
          go_wp2_with (go_at_call 81; refine (compareName_any q _ _).mono ?_; rintro e w2 ⟨rfl, hb⟩; have HB2 := Lib.hid (HB.out.trans (hb.mono HB.out.size)); clear hb)
          go_ret2
          exact ⟨by rw [HA.out, HX.out]; rfl, HB2.out⟩
      · have hd : ¬ ((a : Int) < (n : Int)) := by omega
        have HX := Lib.hid (hereE_no1 HA.out (by have := HL.out; omega))
        go_wp2
        go_ret2
        exact ⟨by rw [HA.out, HX.out]; rfl, HB.out⟩
theorem placeOfName_any (x : Option Addr) (n cap : Nat) (l : List Ent) (t : ByteArray) (B : Nat) (w : World) (h : Ents w B x n cap l) (hB : B ≤ w.heap.size) (hs : AscE l) (hn : n ≤ 1000000) :
    Calls Tryd.prog 69 #[.slice x n cap, .string t] w fun e w' => e = .returned (.tuple #[.int .i64 (atE t l : Nat), .bool (hereE t l)]) ∧ Below w.heap.size w w' := by
  have HH := Lib.hid h
  clear h
  go_enter Tryd.func69, Tryd.ntmps69
  go_wp2_with (go_at_call 80; refine (searchE_any _ _ _ _ _ _ _ HH.out hB hs hn).mono ?_; rintro e w' ⟨rfl, hb⟩)
  go_ret2
  exact ⟨rfl, hb⟩
/-! ### rows -/
end Go.Proofs.YtglajbmopiolhaaDoor
/-
  Contracts of chapter 6's program: an entry is taken out.
-/
namespace Go.Proofs.YtglajbmopiolhaaDoor
open Go.RowKit
set_option linter.unusedVariables false
end Go.Proofs.YtglajbmopiolhaaDoor
