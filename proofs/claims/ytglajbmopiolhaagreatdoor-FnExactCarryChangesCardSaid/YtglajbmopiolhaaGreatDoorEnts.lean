/-
  Entries in memory; chapter 6's model: valid entries.
-/
import Derived.Test.YtglajbmopiolhaaGreatDoorPrints
import Derived.Test.YtglajbmopiolhaaGreatDoorMem
import Derived.Test.YtglajbmopiolhaaGreatDoorHelp
import Derived.Test.YtglajbmopiolhaaGreatDoorWords
import Derived.Test.YtglajbmopiolhaaGreatDoorArgs
import Derived.Laws.Cover1
import Derived.Test.YtglajbmopiolhaaGreatDoorChunks
import Derived.WalkSpells
import Derived.RegionTactic
import Derived.BigRegion
import Derived.Test.YtglajbmopiolhaaGreatDoorStores2
import Derived.Test.YtglajbmopiolhaaGreatDoorStores
namespace Go.Proofs.YtglajbmopiolhaaGreatDoor
open Go.RowKit
set_option linter.unusedVariables false
/-- A name and a print. -/
abbrev Ent := ByteArray × Int
def enG (p : Ent) : List Value := [.string p.1, .int .i64 p.2]
theorem encEn : Enc enG 2 := ⟨fun _ => rfl, fun p u hu => by
  simp only [enG, List.mem_cons, List.not_mem_nil, or_false] at hu
  rcases hu with rfl | rfl <;> rfl, by decide⟩
def nthE (l : List Ent) (k : Nat) : Ent := l.getD k (ByteArray.empty, 0)
theorem nthE_get {l : List Ent} {k : Nat} (h : k < l.length) : nthE l k = l[k] := by unfold nthE; rw [List.getD_eq_getElem?_getD, List.getElem?_eq_getElem h]; rfl
theorem take_snocE {l : List Ent} {k : Nat} (h : k < l.length) : l.take (k + 1) = l.take k ++ [nthE l k] := by
  rw [List.take_succ_eq_append_getElem h, nthE_get h]
abbrev Ents (w : World) (B : Nat) (x : Option Addr) (n cap : Nat) (l : List Ent) : Prop := Lst enG w B x n cap l
theorem Lst.atE {w : World} {B : Nat} {x : Option Addr} {n cap : Nat} {l : List Ent} (h : Ents w B x n cap l) {k : Nat} (hk : k < n) :
    ∃ b off, x = some ⟨b, off, none⟩ ∧ b < B ∧ w.cell? ⟨b, off + k * 2, none⟩ = some (.string (nthE l k).1) ∧ w.cell? ⟨b, off + k * 2 + 1, none⟩ = some (.int .i64 (nthE l k).2) := by
  obtain ⟨b, off, rfl, hb, h0⟩ := Lst.at encEn h (k := k) (j := 0) (v := .string (nthE l k).1) (ByteArray.empty, 0) hk (by decide) rfl
  obtain ⟨b', off', e, _, h1⟩ := Lst.at encEn h (k := k) (j := 1) (v := .int .i64 (nthE l k).2) (ByteArray.empty, 0) hk (by decide) rfl
  simp only [Option.some.injEq, Addr.mk.injEq, and_true] at e
  obtain ⟨rfl, rfl⟩ := e
  exact ⟨b, off, rfl, hb, h0, h1⟩
theorem Lst.atPrevE {w : World} {B : Nat} {b off n cap : Nat} {l : List Ent} (h : Ents w B (some ⟨b, off, none⟩) n cap l) {k : Nat} (hk : k < n) (h0 : 0 < k) :
    w.cell? ⟨b, off + (k - 1) * 2, none⟩ = some (.string (nthE l (k - 1)).1) := by
  obtain ⟨b', off', e, _, h1, _⟩ := h.atE (k := k - 1) (by omega)
  simp only [Option.some.injEq, Addr.mk.injEq, and_true] at e
  obtain ⟨rfl, rfl⟩ := e
  exact h1
abbrev OwnE (w : World) (base : Nat) (v : Value) (l : List Ent) : Prop := OwnL enG 108 2 w base v l
theorem Tryz.infoEn : (Tryz.prog.info? 108).map (fun i => (i.zero, i.size, i.bytes)) = some (some (.agg #[.string ByteArray.empty, .int .i64 0]), 2, 24) := by kernel_rfl
theorem eltEn : Elt 104 108 2 (.agg #[.string ByteArray.empty, .int .i64 0]) := elt_of Tryz.underlying104 Tryz.infoEn (by decide) rfl (by decide)
/-! ### valid entries -/
/-- a is not behind b. -/
def leB (a b : ByteArray) : Bool := Op.bytesLess a.toList b.toList || a.toList == b.toList
def okE (l : List Ent) (k : Nat) : Bool := wordB (nthE l k).1 && isPr (nthE l k).2 && (decide (k = 0) || !leB (nthE l k).1 (nthE l (k - 1)).1)
def entsB (l : List Ent) : Bool := decide (l.length ≤ 3) && (List.range l.length).all (okE l)
theorem okE_no1 {l : List Ent} {k : Nat} (h : wordB (nthE l k).1 = false) : okE l k = false := by unfold okE; rw [h]; rfl
theorem okE_no2 {l : List Ent} {k : Nat} (h : isPr (nthE l k).2 = false) : okE l k = false := by unfold okE; rw [h]; simp
theorem okE_no3 {l : List Ent} {k : Nat} (h0 : k ≠ 0) (h : leB (nthE l k).1 (nthE l (k - 1)).1 = true) : okE l k = false := by unfold okE; rw [h]; simp [h0]
theorem okE_yes {l : List Ent} {k : Nat} (h1 : wordB (nthE l k).1 = true) (h2 : isPr (nthE l k).2 = true) (h3 : k = 0 ∨ leB (nthE l k).1 (nthE l (k - 1)).1 = false) : okE l k = true := by
  unfold okE; rw [h1, h2]; rcases h3 with h | h
  · simp [h]
  · rw [h]; simp
theorem entsB_bad {l : List Ent} {k : Nat} (hk : k < l.length) (h : okE l k = false) : entsB l = false := by
  unfold entsB
  have : (List.range l.length).all (okE l) = false := List.all_eq_false.2 ⟨k, List.mem_range.2 hk, by rw [h]; simp⟩
  rw [this, Bool.and_false]
theorem entsB_end {l : List Ent} (h : ∀ j, j < l.length → okE l j = true) : entsB l = decide (l.length ≤ 3) := by
  unfold entsB
  have : (List.range l.length).all (okE l) = true := List.all_eq_true.2 fun j hj => h j (List.mem_range.1 hj)
  rw [this, Bool.and_true]
theorem entsB_at {l : List Ent} (h : entsB l = true) : l.length ≤ 3 ∧ ∀ j, j < l.length → okE l j = true := by
  unfold entsB at h
  simp only [Bool.and_eq_true, decide_eq_true_eq, List.all_eq_true, List.mem_range] at h
  exact h
theorem specEntriesValid_any (x : Option Addr) (n cap : Nat) (l : List Ent) (B : Nat) (w : World) (h : Ents w B x n cap l) (hz : ∀ k, (nthE l k).1.size ≤ maxLen) : Calls Tryz.prog 129 #[.slice x n cap] w (QuietB (entsB l) w) := by
  have HL := Lib.hid h.len
  have HH := Lib.hid h
  have HZ := Lib.hid hz
  have hmx := h.max
  have hle := h.le
  clear h hz
  unfold maxLen at hmx
  go_enter Tryz.func129, Tryz.ntmps129
  go_wp2
  go_loopw [3] (fun i wr => ∃ k : Nat, k ≤ n ∧ i = .int .i64 k ∧ (∀ j, j < k → okE l j = true) ∧ ∃ q, wr = w.drewN q) (fun i _ => n - (intOf i).toNat)
  case atStart => exact ⟨0, by omega, rfl, fun j hj => by omega, 0, rfl⟩
  case round =>
    obtain ⟨k, hk, rfl, ha, hp⟩ := hrel
    have HA := Lib.hid ha; have HP := Lib.hid hp; clear ha hp
    have fin : ∀ (b : Bool) (q : Nat), entsB l = b → QuietB (entsB l) w (.returned (.bool b)) (wr.drewN q) := fun b q hb => by
      obtain ⟨p, rfl⟩ := HP.out
      exact ⟨ret_bool hb.symm, _, by rw [World.drewN_drewN]⟩
    by_cases hlt : k < n
    · have hkl : k < l.length := by have := HL.out; omega
      obtain ⟨b, off, rfl, hb, hc0, hc1⟩ := (HH.out.keep (w' := wr) (by obtain ⟨p, rfl⟩ := HP.out; intro _ _; rfl)).atE hlt
      have hzk := HZ.out k
      cases hw : wordB (nthE l k).1
      · have HF := Lib.hid (entsB_bad hkl (okE_no1 hw))
        have HFI := Lib.hid fin
        clear fin
        go_wp2
        go_quiet (first | (go_at_call 117; refine Calls.quiet_of_same ((specWordValid_any _ _ hzk).mono fun _ _ h => ⟨h.1, h.2.symm⟩)) | (go_at_call 53; refine Calls.quiet_of_same ((l1In_any _ _ _ _).mono fun _ _ h => ⟨h.1, h.2.symm⟩)))
        go_wp2
        go_ret
        exact HFI.out _ _ HF.out
      cases hpr : isPr (nthE l k).2
      · have HF := Lib.hid (entsB_bad hkl (okE_no2 hpr))
        have hpi : in3 (nthE l k).2 0 16777212 = false := hpr
        have HFI := Lib.hid fin
        clear fin
        go_wp2
        go_quiet (first | (go_at_call 117; refine Calls.quiet_of_same ((specWordValid_any _ _ hzk).mono fun _ _ h => ⟨h.1, h.2.symm⟩)) | (go_at_call 53; refine Calls.quiet_of_same ((l1In_any _ _ _ _).mono fun _ _ h => ⟨h.1, h.2.symm⟩)))
        go_wp2
        go_ret
        exact HFI.out _ _ HF.out
      have hpi : in3 (nthE l k).2 0 16777212 = true := hpr
      by_cases h0 : k = 0
      · have HR := Lib.hid (okE_yes hw hpr (.inl h0))
        have hd0 : (decide (0 < k)) = false := by simp; omega
        clear h0 fin
        go_wp2
        go_quiet (first | (go_at_call 117; refine Calls.quiet_of_same ((specWordValid_any _ _ hzk).mono fun _ _ h => ⟨h.1, h.2.symm⟩)) | (go_at_call 53; refine Calls.quiet_of_same ((l1In_any _ _ _ _).mono fun _ _ h => ⟨h.1, h.2.symm⟩)))
        go_wp2
        go_roundw
        case rel => exact ⟨k + 1, by omega, by go_num, fun j hj => by rcases Nat.lt_succ_iff_lt_or_eq.1 hj with h | rfl; exact HA.out j h; exact HR.out, by obtain ⟨p, rfl⟩ := HP.out; exact ⟨_, by rw [World.drewN_drewN]⟩⟩
        case measure => simp [intOf]; omega
      have hd0 : (decide (0 < k)) = true := by simp; omega
      have hcp := Lst.atPrevE (HH.out.keep (w' := wr) (by obtain ⟨p, rfl⟩ := HP.out; intro _ _; rfl)) hlt (by omega)
      have hk1 : 1 ≤ k := by omega
      have hwk : IntKind.i64.wrap ((k : Int) - 1) = (k : Int) - 1 := by rw [IntKind.wrap_i64]; omega
      have htk : ((k : Int) - 1).toNat = k - 1 := by omega
      have hbk : (0 : Int) ≤ (k : Int) - 1 := by omega
      have hbn : (k : Int) - 1 < (n : Int) := by omega
      cases hle3 : leB (nthE l k).1 (nthE l (k - 1)).1
      · have HR := Lib.hid (okE_yes hw hpr (.inr hle3))
        unfold leB at hle3
        rw [Bool.or_eq_false_iff] at hle3
        obtain ⟨hx1, hx2⟩ := hle3
        clear h0 fin
        go_wp2
        go_quiet (first | (go_at_call 117; refine Calls.quiet_of_same ((specWordValid_any _ _ hzk).mono fun _ _ h => ⟨h.1, h.2.symm⟩)) | (go_at_call 53; refine Calls.quiet_of_same ((l1In_any _ _ _ _).mono fun _ _ h => ⟨h.1, h.2.symm⟩)))
        go_wp2
        go_roundw
        case rel => exact ⟨k + 1, by omega, by go_num, fun j hj => by rcases Nat.lt_succ_iff_lt_or_eq.1 hj with h | rfl; exact HA.out j h; exact HR.out, by obtain ⟨p, rfl⟩ := HP.out; exact ⟨_, by rw [World.drewN_drewN]⟩⟩
        case measure => simp [intOf]; omega
      · have HF := Lib.hid (entsB_bad hkl (okE_no3 h0 hle3))
        unfold leB at hle3
        have HFI := Lib.hid fin
        clear fin h0
        go_wp2
        go_quiet (first | (go_at_call 117; refine Calls.quiet_of_same ((specWordValid_any _ _ hzk).mono fun _ _ h => ⟨h.1, h.2.symm⟩)) | (go_at_call 53; refine Calls.quiet_of_same ((l1In_any _ _ _ _).mono fun _ _ h => ⟨h.1, h.2.symm⟩)))
        go_wp2
        go_ret
        exact HFI.out _ _ HF.out
    · have HF := Lib.hid (entsB_end (l := l) (fun j hj => HA.out j (by have := HL.out; omega)))
      go_wp2
      go_ret
      obtain ⟨p, rfl⟩ := HP.out
      exact ⟨ret_bool (by rw [HF.out, HL.out]; simp; omega), p, rfl⟩
end Go.Proofs.YtglajbmopiolhaaGreatDoor
/-
  Chapter 8's model: paths.
-/
namespace Go.Proofs.YtglajbmopiolhaaGreatDoor
open Go.RowKit
set_option linter.unusedVariables false
def slashB (p : ByteArray) : ByteArray := ⟨#[47]⟩ ++ p
def slashed (l : List ByteArray) : ByteArray := joinB (l.map slashB)
/-- The path of words. -/
def pathB (l : List ByteArray) : ByteArray := if l = [] then ⟨#[47]⟩ else if (l.all wordB && decide (l.length ≤ 3)) = true then slashed l else ByteArray.empty
theorem slashed_snoc {l : List ByteArray} {k : Nat} (h : k < l.length) : slashed (l.take (k + 1)) = slashed (l.take k) ++ ⟨#[47]⟩ ++ nthS l k := by
  unfold slashed; rw [take_snocS h, List.map_append]
  show joinB (_ ++ [slashB (nthS l k)]) = _
  rw [joinB_snoc, slashB, ByteArray.append_assoc]
theorem pathB_bad {l : List ByteArray} {k : Nat} (hk : k < l.length) (h : wordB (nthS l k) = false) : pathB l = ByteArray.empty := by
  unfold pathB
  have h0 : l ≠ [] := by intro e; subst e; simp at hk
  have : l.all wordB = false := List.all_eq_false.2 ⟨nthS l k, by rw [nthS_get hk]; exact List.getElem_mem _, by rw [h]; simp⟩
  rw [if_neg h0, this]; rfl
theorem pathB_long {l : List ByteArray} (h : 3 < l.length) : pathB l = ByteArray.empty := by
  unfold pathB
  have h0 : l ≠ [] := by intro e; subst e; simp at h
  rw [if_neg h0, show decide (l.length ≤ 3) = false by simp; omega, Bool.and_false]; rfl
theorem pathB_end {l : List ByteArray} (h0 : l ≠ []) (h : ∀ k, k < l.length → wordB (nthS l k) = true) (h3 : l.length ≤ 3) : pathB l = slashed l := by
  unfold pathB
  have : l.all wordB = true := List.all_eq_true.2 fun x hx => by
    obtain ⟨k, hk, rfl⟩ := List.mem_iff_getElem.1 hx
    have := h k hk; rwa [nthS_get hk] at this
  rw [if_neg h0, this, show decide (l.length ≤ 3) = true by simpa using h3]; rfl
theorem word_size {s : ByteArray} (h : wordB s = true) : s.size ≤ 8 := by
  rcases Nat.lt_or_ge 8 s.size with h1 | h1
  · have := wordV_long s h1
    unfold wordB at h; rw [this] at h; cases h
  · exact h1
theorem slashed_pos {l : List ByteArray} {k : Nat} (h : k < l.length) : 0 < (slashed (l.take (k + 1))).size := by
  rw [slashed_snoc h, ByteArray.size_append, ByteArray.size_append]
  have : (ByteArray.mk #[47]).size = 1 := rfl
  omega
theorem specJoinPath_any (x : Option Addr) (n cap : Nat) (l : List ByteArray) (B : Nat) (w : World) (h : Strs w B x n cap l) (hz : ∀ k, (nthS l k).size ≤ maxLen) :
    Calls Tryz.prog 93 #[.slice x n cap] w fun e w' => e = .returned (.string (pathB l)) ∧ w = w' := by
  have HL := Lib.hid h.len
  have HH := Lib.hid h
  have HZ := Lib.hid hz
  have hmx := h.max
  have hle := h.le
  clear h hz
  unfold maxLen at hmx
  go_enter Tryz.func93, Tryz.ntmps93
  go_wp2
  go_loop [3, 4] (fun t i => ∃ k : Nat, k ≤ n ∧ i = .int .i64 k ∧ t = .string (slashed (l.take k)) ∧ (∀ j, j < k → wordB (nthS l j) = true) ∧ (0 < k → n ≤ 3) ∧ (slashed (l.take k)).size ≤ 9 * k) (fun _ i => n - (intOf i).toNat)
  case atStart => exact ⟨0, by omega, rfl, rfl, fun j hj => by omega, by omega, by simp [slashed, joinB]⟩
  case round =>
    obtain ⟨k, hk, rfl, rfl, ha, h3, hs⟩ := hrel
    have HA := Lib.hid ha; clear ha
    by_cases hlt : k < n
    · have hkl : k < l.length := by have := HL.out; omega
      obtain ⟨b, off, rfl, hb, hcell⟩ := HH.out.atS hlt
      have hzk := HZ.out k
      cases hw : wordB (nthS l k)
      · have HF := Lib.hid (pathB_bad hkl hw)
        go_wp2_with (go_at_call 117; refine (specWordValid_any _ _ hzk).mono ?_; rintro e w' ⟨rfl, rfl⟩)
        go_ret
        exact ⟨ret_str HF.out.symm, rfl⟩
      · by_cases hn3 : 3 < n
        · have HF := Lib.hid (pathB_long (l := l) (by have := HL.out; omega))
          go_wp2_with (go_at_call 117; refine (specWordValid_any _ _ hzk).mono ?_; rintro e w' ⟨rfl, rfl⟩)
          go_ret
          exact ⟨ret_str HF.out.symm, rfl⟩
        · have hw8 := word_size hw
          have HT := Lib.hid (slashed_snoc hkl)
          have HW := Lib.hid hw
          have h1 : (slashed (l.take k) ++ ⟨#[47]⟩ : ByteArray).size = (slashed (l.take k)).size + 1 := by rw [ByteArray.size_append]; rfl
          have HS := Lib.hid (show (slashed (l.take (k + 1))).size ≤ 9 * (k + 1) by rw [HT.out, ByteArray.size_append, h1]; omega)
          have H1 := Lib.hid h1
          have hb1 : (slashed (l.take k) ++ ⟨#[47]⟩ : ByteArray).size ≤ 9 * k + 1 := by omega
          clear h1
          go_wp2_with (go_at_call 117; refine (specWordValid_any _ _ hzk).mono ?_; rintro e w' ⟨rfl, rfl⟩)
          go_round
          case rel => exact ⟨k + 1, by omega, by go_num, by rw [HT.out], fun j hj => by rcases Nat.lt_succ_iff_lt_or_eq.1 hj with h | rfl; exact HA.out j h; exact HW.out, by omega, HS.out⟩
          case measure => simp [intOf]; omega
    · have e : l.take k = l := List.take_of_length_le (by have := HL.out; omega)
      by_cases h0 : k = 0
      · have hl : l = [] := List.eq_nil_of_length_eq_zero (by have := HL.out; omega)
        have HF := Lib.hid (show pathB l = ⟨#[47]⟩ by rw [hl]; rfl)
        have he : (slashed (l.take k)).toList.isEmpty = true := by rw [hl, List.take_nil, ByteArray.toList_eq]; rfl
        clear e hl h0
        go_wp2
        go_ret
        exact ⟨ret_str HF.out.symm, rfl⟩
      · have HF := Lib.hid (pathB_end (l := l) (by intro e; have := HL.out; rw [e] at this; simp at this; omega) (fun j hj => HA.out j (by have := HL.out; omega)) (by have := HL.out; omega))
        have hp := slashed_pos (l := l) (k := k - 1) (by have := HL.out; omega)
        rw [show k - 1 + 1 = k by omega] at hp
        have he : (slashed (l.take k)).toList.isEmpty = false := by rw [ByteArray.toList_eq, List.isEmpty_eq_false_iff, ← List.length_pos_iff, len_eq]; exact hp
        have HE := Lib.hid e
        clear e
        go_wp2
        go_ret
        exact ⟨ret_str (by rw [HF.out, HE.out]), rfl⟩
end Go.Proofs.YtglajbmopiolhaaGreatDoor
/-
  Chapter 6's model: the text of a folder.
-/
namespace Go.Proofs.YtglajbmopiolhaaGreatDoor
open Go.RowKit
set_option linter.unusedVariables false
/-- A text goes on with an entry. -/
def addE (t : ByteArray) (p : Ent) : ByteArray := t ++ p.1 ++ ⟨#[61]⟩ ++ hexB p.2 ++ ⟨#[59]⟩
def textE (l : List Ent) : ByteArray := l.foldl addE ⟨#[100]⟩
def folderB (l : List Ent) : ByteArray := if entsB l = true then textE l else ByteArray.empty
theorem folderB_no {l : List Ent} (h : entsB l = false) : folderB l = ByteArray.empty := by unfold folderB; rw [h]; rfl
theorem folderB_yes {l : List Ent} (h : entsB l = true) : folderB l = textE l := by unfold folderB; rw [h]; rfl
theorem textE_snoc {l : List Ent} {k : Nat} (h : k < l.length) : textE (l.take (k + 1)) = addE (textE (l.take k)) (nthE l k) := by
  unfold textE; rw [take_snocE h, List.foldl_append]; rfl
theorem okE_word {l : List Ent} {k : Nat} (h : okE l k = true) : wordB (nthE l k).1 = true ∧ isPr (nthE l k).2 = true := by
  unfold okE at h; simp only [Bool.and_eq_true] at h; exact h.1
theorem specFolderText_any (x : Option Addr) (n cap : Nat) (l : List Ent) (B : Nat) (w : World) (h : Ents w B x n cap l) (hz : ∀ k, (nthE l k).1.size ≤ maxLen) : Calls Tryz.prog 108 #[.slice x n cap] w fun e w' => e = .returned (.string (folderB l)) ∧ ∃ q, w' = w.drewN q := by
  have HL := Lib.hid h.len
  have HH := Lib.hid h
  have hmx := h.max
  have hle := h.le
  unfold maxLen at hmx
  cases hv : entsB l
  · have HF := Lib.hid (folderB_no hv)
    go_enter Tryz.func108, Tryz.ntmps108
    go_wp2_with (go_at_call 129; refine (specEntriesValid_any _ _ _ _ _ _ h hz).mono ?_; rintro e w1 ⟨rfl, q, rfl⟩; rw [hv])
    go_ret
    exact ⟨ret_str HF.out.symm, _, rfl⟩
  · have HF := Lib.hid (folderB_yes hv)
    have HA := Lib.hid (entsB_at hv)
    have hn3 : n ≤ 3 := by have := HA.out.1; have := HL.out; omega
    go_enter Tryz.func108, Tryz.ntmps108
    go_wp2_with (go_at_call 129; refine (specEntriesValid_any _ _ _ _ _ _ h hz).mono ?_; rintro e w1 ⟨rfl, q, hq⟩; have HQ := Lib.hid hq; clear hq; rw [hv])
    clear h hz
    go_loopw [3, 4] (fun t i wr => ∃ k : Nat, k ≤ n ∧ i = .int .i64 k ∧ t = .string (textE (l.take k)) ∧ (textE (l.take k)).size ≤ 1 + 16 * k ∧ ∃ q, wr = w.drewN q) (fun _ i _ => n - (intOf i).toNat)
    case atStart => exact ⟨0, by omega, rfl, rfl, by rw [List.take_zero]; decide, q, HQ.out⟩
    case round =>
      obtain ⟨k, hk, rfl, rfl, hs, hp⟩ := hrel
      have HP := Lib.hid hp; clear hp
      by_cases hlt : k < n
      · have hkl : k < l.length := by have := HL.out; omega
        obtain ⟨b, off, rfl, hb, hc0, hc1⟩ := (HH.out.keep (w' := wr) (by obtain ⟨p, rfl⟩ := HP.out; intro _ _; rfl)).atE hlt
        obtain ⟨hw1, hw2⟩ := okE_word (HA.out.2 k hkl)
        have hw8 := word_size hw1
        have hx6 := hexB_size (nthE l k).2
        have HT := Lib.hid (textE_snoc hkl)
        obtain ⟨T, hT⟩ : ∃ T, T = textE (l.take k) := ⟨_, rfl⟩
        obtain ⟨q, hq⟩ : ∃ q, q = nthE l k := ⟨_, rfl⟩
        rw [← hT, ← hq] at HT
        rw [← hT] at hs ⊢
        rw [← hq] at hc0 hc1 hw8 hx6
        have b1 : (T ++ q.1).size ≤ 1 + 16 * k + 8 := by rw [ByteArray.size_append]; omega
        have b2 : (T ++ q.1 ++ ⟨#[61]⟩).size ≤ 1 + 16 * k + 9 := by rw [ByteArray.size_append]; show _ + 1 ≤ _; omega
        have b3 : (T ++ q.1 ++ ⟨#[61]⟩ ++ hexB q.2).size ≤ 1 + 16 * k + 15 := by rw [ByteArray.size_append]; omega
        have HS := Lib.hid (show (textE (l.take (k + 1))).size ≤ 1 + 16 * (k + 1) by rw [HT.out]; unfold addE; rw [ByteArray.size_append]; show _ + 1 ≤ _; omega)
        clear hT hq hw1 hw2
        go_wp2
        go_quiet (first | (go_at_call 130; refine Calls.quiet_of_same ((specHexText_any _ _).mono fun _ _ h => ⟨h.1, h.2.symm⟩)))
        go_wp2
        go_roundw
        case rel => exact ⟨k + 1, by omega, by go_num, by rw [HT.out]; rfl, HS.out, by obtain ⟨p, rfl⟩ := HP.out; exact ⟨_, by rw [World.drewN_drewN]⟩⟩
        case measure => simp [intOf]; omega
      · have e : l.take k = l := List.take_of_length_le (by have := HL.out; omega)
        have HE := Lib.hid e
        clear e
        go_wp2
        go_ret
        exact ⟨ret_str (by rw [HF.out, HE.out]), HP.out⟩
/-! ### reading -/
/-- The first place from k on at which c stands, or the end. -/
def seekGo (c : UInt8) : List UInt8 → Nat
  | [] => 0
  | x :: r => if x = c then 0 else seekGo c r + 1
def seekB (c : UInt8) (s : ByteArray) (k : Nat) : Nat := k + seekGo c (s.data.toList.drop k)
theorem seekB_stop {c : UInt8} {s : ByteArray} {k : Nat} (h : k < s.size) (hc : s[k] = c) : seekB c s k = k := by
  unfold seekB
  rw [List.drop_eq_getElem_cons (by simpa using h), seekGo, if_pos (by exact hc)]; rfl
theorem seekB_on {c : UInt8} {s : ByteArray} {k : Nat} (h : k < s.size) (hc : s[k] ≠ c) : seekB c s k = seekB c s (k + 1) := by
  unfold seekB
  rw [List.drop_eq_getElem_cons (by simpa using h), seekGo, if_neg (by exact hc)]; omega
theorem seekB_end (c : UInt8) (s : ByteArray) : seekB c s s.size = s.size := by
  unfold seekB
  rw [List.drop_of_length_le (by simp)]; rfl
theorem seekGo_le (c : UInt8) : ∀ l : List UInt8, seekGo c l ≤ l.length
  | [] => Nat.le_refl _
  | x :: r => by rw [seekGo]; have := seekGo_le c r; split <;> simp <;> omega
theorem seekB_bd (c : UInt8) {s : ByteArray} {k : Nat} (h : k ≤ s.size) : k ≤ seekB c s k ∧ seekB c s k ≤ s.size := by
  have := seekGo_le c (s.data.toList.drop k)
  unfold seekB
  rw [List.length_drop, len_eq] at this
  omega
theorem seekB_at (c : UInt8) {s : ByteArray} {k : Nat} (h : seekB c s k < s.size) : s[seekB c s k] = c := by
  have key : ∀ l : List UInt8, (h : seekGo c l < l.length) → l[seekGo c l] = c := by
    intro l
    induction l with
    | nil => intro h; simp [seekGo] at h
    | cons x r ih =>
      intro h
      by_cases hx : x = c
      · simp [seekGo, hx]
      · have h2 : seekGo c (x :: r) = seekGo c r + 1 := by rw [seekGo, if_neg hx]
        simp only [h2, List.getElem_cons_succ]
        exact ih (by rw [h2] at h; simpa using h)
  have h1 : seekGo c (s.data.toList.drop k) < (s.data.toList.drop k).length := by rw [List.length_drop, len_eq]; unfold seekB at h; omega
  have h2 := key _ h1
  rw [List.getElem_drop] at h2
  exact h2
/-- The entries of a text from a place on, behind those that were read. -/
def readEs (s : ByteArray) : Nat → Nat → List Ent → Option (List Ent)
  | 0, _, _ => none
  | f + 1, k, out =>
    if k < s.size then
      if seekB 59 s (seekB 61 s k) = s.size then none
      else readEs s f (seekB 59 s (seekB 61 s k) + 1) (out ++ [(s.extract k (seekB 61 s k), readB (s.extract (seekB 61 s k + 1) (seekB 59 s (seekB 61 s k))))])
    else some out
/-- What is left to do does not hang on the fuel. -/
theorem readEs_fuel (s : ByteArray) : ∀ (f g k : Nat) (out : List Ent), s.size - k < f → s.size - k < g → readEs s f k out = readEs s g k out
  | 0, _, k, out, h, h' => by omega
  | _, 0, k, out, h, h' => by omega
  | f + 1, g + 1, k, out, h, h' => by
    rw [readEs, readEs]
    split
    · rename_i hk
      have h1 := (seekB_bd 61 (Nat.le_of_lt hk)); have h2 := seekB_bd 59 h1.2
      split
      · rfl
      · exact readEs_fuel s f g _ _ (by omega) (by omega)
    · rfl
/-- The entries of a text. -/
def entsOf (s : ByteArray) : Option (List Ent) := readEs s (s.size + 1) 1 []
def isFold (s : ByteArray) : Bool := match entsOf s with
  | none => false
  | some l => decide (folderB l = s) && decide (0 < s.size)
def foldL (s : ByteArray) : List Ent := if isFold s = true then (entsOf s).getD [] else []
theorem fold_none {s : ByteArray} (h : entsOf s = none) : foldL s = [] ∧ isFold s = false := by
  have : isFold s = false := by unfold isFold; rw [h]
  unfold foldL; rw [this]; exact ⟨rfl, rfl⟩
theorem fold_no {s : ByteArray} {l : List Ent} (h : entsOf s = some l) (h' : folderB l ≠ s ∨ s.size = 0) : foldL s = [] ∧ isFold s = false := by
  have : isFold s = false := by
    unfold isFold; rw [h]
    show (decide (folderB l = s) && decide (0 < s.size)) = false
    rcases h' with h' | h'
    · rw [decide_eq_false h']; rfl
    · rw [show decide (0 < s.size) = false from decide_eq_false (by omega), Bool.and_false]
  unfold foldL; rw [this]; exact ⟨rfl, rfl⟩
theorem fold_yes {s : ByteArray} {l : List Ent} (h : entsOf s = some l) (h1 : folderB l = s) (h2 : 0 < s.size) : foldL s = l ∧ isFold s = true := by
  have : isFold s = true := by unfold isFold; rw [h]; simp [h1, h2]
  unfold foldL; rw [this, h]; exact ⟨rfl, rfl⟩
theorem entsOf_step {s : ByteArray} {k : Nat} {out : List Ent} (hk : k < s.size) (he : seekB 59 s (seekB 61 s k) ≠ s.size) (f : Nat) (hf : s.size - k < f) :
    readEs s f k out = readEs s f (seekB 59 s (seekB 61 s k) + 1) (out ++ [(s.extract k (seekB 61 s k), readB (s.extract (seekB 61 s k + 1) (seekB 59 s (seekB 61 s k))))]) := by
  obtain ⟨f, rfl⟩ : ∃ f', f = f' + 1 := ⟨f - 1, by omega⟩
  have h1 := (seekB_bd 61 (Nat.le_of_lt hk)); have h2 := seekB_bd 59 h1.2
  rw [readEs, if_pos hk, if_neg he]
  exact readEs_fuel s _ _ _ _ (by omega) (by omega)
theorem entsOf_stop {s : ByteArray} {k : Nat} {out : List Ent} (hk : k < s.size) (he : seekB 59 s (seekB 61 s k) = s.size) (f : Nat) (hf : 0 < f) : readEs s f k out = none := by
  obtain ⟨f, rfl⟩ : ∃ f', f = f' + 1 := ⟨f - 1, by omega⟩
  rw [readEs, if_pos hk, if_pos he]
theorem entsOf_end {s : ByteArray} {k : Nat} {out : List Ent} (hk : ¬ k < s.size) (f : Nat) (hf : 0 < f) : readEs s f k out = some out := by
  obtain ⟨f, rfl⟩ : ∃ f', f = f' + 1 := ⟨f - 1, by omega⟩
  rw [readEs, if_neg hk]
end Go.Proofs.YtglajbmopiolhaaGreatDoor
/-
  Chapter 7's model: files.
-/
namespace Go.Proofs.YtglajbmopiolhaaGreatDoor
open Go.RowKit
set_option linter.unusedVariables false
def contentB (s : ByteArray) : Bool := textB s && decide (s.size ≤ 40)
theorem contentB_no {s : ByteArray} (h : textB s = false) : contentB s = false := by unfold contentB; rw [h]; rfl
theorem contentB_yes {s : ByteArray} (h : textB s = true) : contentB s = decide (s.size ≤ 40) := by unfold contentB; rw [h]; rfl
def fileB (s : ByteArray) : ByteArray := if contentB s = true then ⟨#[102]⟩ ++ s else ByteArray.empty
theorem fileB_no {s : ByteArray} (h : contentB s = false) : fileB s = ByteArray.empty := by unfold fileB; rw [h]; rfl
theorem fileB_yes {s : ByteArray} (h : contentB s = true) : fileB s = ⟨#[102]⟩ ++ s := by unfold fileB; rw [h]; rfl
/-- A text of a file. -/
def isFile (s : ByteArray) : Bool := (s.data.toList.head? == some 102) && contentB (s.extract 1 s.size)
def fileT (s : ByteArray) : ByteArray := if isFile s = true then s.extract 1 s.size else ByteArray.empty
theorem isFile_nil {s : ByteArray} (h : s.size = 0) : isFile s = false := by
  have : s.data.toList = [] := List.length_eq_zero_iff.1 (by rw [len_eq]; exact h)
  unfold isFile; rw [this]; rfl
theorem head_at (s : ByteArray) (h : 0 < s.size) : s.data.toList.head? = some s[0] := by
  rw [List.head?_eq_getElem?, List.getElem?_eq_getElem (by simpa using h)]; rfl
theorem isFile_other {s : ByteArray} (h : 0 < s.size) (h1 : ((s[0]).toNat : Int) ≠ 102) : isFile s = false := by
  unfold isFile
  rw [head_at s h]
  have : s[0] ≠ 102 := fun e => h1 (by rw [e]; rfl)
  simp [this]
theorem isFile_is {s : ByteArray} (h : 0 < s.size) (h1 : ((s[0]).toNat : Int) = 102) : isFile s = contentB (s.extract 1 s.size) := by
  unfold isFile
  rw [head_at s h]
  have : s[0] = 102 := by apply UInt8.toNat_inj.1; show (s[0]).toNat = 102; omega
  rw [this]; rfl
theorem fileT_no {s : ByteArray} (h : isFile s = false) : fileT s = ByteArray.empty := by unfold fileT; rw [h]; rfl
theorem fileT_yes {s : ByteArray} (h : isFile s = true) : fileT s = s.extract 1 s.size := by unfold fileT; rw [h]; rfl
theorem specContentValid_any (s : ByteArray) (w : World) (hs : s.size ≤ maxLen) : Calls Tryz.prog 82 #[.string s] w fun e w' => e = .returned (.bool (contentB s)) ∧ w = w' := by
  have hs' := hs
  unfold maxLen at hs'
  cases ht : textB s
  · have HF := Lib.hid (contentB_no ht)
    go_enter Tryz.func82, Tryz.ntmps82
    go_wp2_with (go_at_call 67; refine (specTextValid_any _ _ hs).mono ?_; rintro e w' ⟨rfl, rfl⟩)
    go_ret
    exact ⟨ret_bool HF.out.symm, rfl⟩
  · have HF := Lib.hid (contentB_yes ht)
    go_enter Tryz.func82, Tryz.ntmps82
    go_wp2_with (go_at_call 67; refine (specTextValid_any _ _ hs).mono ?_; rintro e w' ⟨rfl, rfl⟩)
    go_ret
    exact ⟨ret_bool (by rw [HF.out]; simp; omega), rfl⟩
theorem specFileText_any (s : ByteArray) (w : World) (hs : s.size ≤ 1048576) : Calls Tryz.prog 85 #[.string s] w fun e w' => e = .returned (.string (fileB s)) ∧ w = w' := by
  have hm : s.size ≤ maxLen := by unfold maxLen; omega
  cases hc : contentB s
  · have HF := Lib.hid (fileB_no hc)
    go_enter Tryz.func85, Tryz.ntmps85
    go_wp2_with (go_at_call 82; refine (specContentValid_any _ _ hm).mono ?_; rintro e w' ⟨rfl, rfl⟩)
    go_ret
    exact ⟨ret_str HF.out.symm, rfl⟩
  · have HF := Lib.hid (fileB_yes hc)
    go_enter Tryz.func85, Tryz.ntmps85
    go_wp2_with (go_at_call 82; refine (specContentValid_any _ _ hm).mono ?_; rintro e w' ⟨rfl, rfl⟩)
    go_ret
    exact ⟨ret_str HF.out.symm, rfl⟩
theorem specReadFile_any (s : ByteArray) (w : World) (hs : s.size ≤ maxLen) : Calls Tryz.prog 71 #[.string s] w fun e w' => e = .returned (.tuple #[.string (fileT s), .bool (isFile s)]) ∧ w = w' := by
  have hs' := hs
  unfold maxLen at hs'
  by_cases h0 : 0 < s.size
  · have hx : (s.extract 1 s.size).size ≤ maxLen := by rw [ByteArray.size_extract]; unfold maxLen; omega
    have he : s.toList.isEmpty = false := by rw [ByteArray.toList_eq, List.isEmpty_eq_false_iff, ← List.length_pos_iff, len_eq]; exact h0
    by_cases hf : ((s[0]).toNat : Int) = 102
    · have hd : (((s[0]).toNat : Int) != 102) = false := by simpa using hf
      cases hc : contentB (s.extract 1 s.size)
      · have hi : isFile s = false := by rw [isFile_is h0 hf, hc]
        have HI := Lib.hid hi
        have HF := Lib.hid (fileT_no hi)
        clear hf hi
        go_enter Tryz.func71, Tryz.ntmps71
        go_wp2_with (go_at_call 82; refine (specContentValid_any _ _ hx).mono ?_; rintro e w' ⟨rfl, rfl⟩)
        go_ret2
        exact ⟨by rw [HF.out, HI.out]; rfl, rfl⟩
      · have hi : isFile s = true := by rw [isFile_is h0 hf, hc]
        have HI := Lib.hid hi
        have HF := Lib.hid (fileT_yes hi)
        clear hf hi
        go_enter Tryz.func71, Tryz.ntmps71
        go_wp2_with (go_at_call 82; refine (specContentValid_any _ _ hx).mono ?_; rintro e w' ⟨rfl, rfl⟩)
        go_ret2
        exact ⟨by rw [HF.out, HI.out]; rfl, rfl⟩
    · have HI := Lib.hid (isFile_other h0 hf)
      have HF := Lib.hid (fileT_no HI.out)
      have hd : (((s[0]).toNat : Int) != 102) = true := by simpa using hf
      clear hf
      go_enter Tryz.func71, Tryz.ntmps71
      go_wp2
      go_ret2
      exact ⟨by rw [HF.out, HI.out]; rfl, rfl⟩
  · have HI := Lib.hid (isFile_nil (s := s) (by omega))
    have HF := Lib.hid (fileT_no HI.out)
    have he : s.toList.isEmpty = true := by rw [ByteArray.toList_eq, List.isEmpty_iff, ← List.length_eq_zero_iff, len_eq]; omega
    go_enter Tryz.func71, Tryz.ntmps71
    go_wp2
    go_ret2
    exact ⟨by rw [HF.out, HI.out]; rfl, rfl⟩
end Go.Proofs.YtglajbmopiolhaaGreatDoor
/-
  Chapter 6's model: the folder of a text.
-/
namespace Go.Proofs.YtglajbmopiolhaaGreatDoor
open Go.RowKit
set_option linter.unusedVariables false
/-- New entries and a bool. -/
def NewEB (l : List Ent) (b : Bool) (w : World) (e : Ending) (w' : World) : Prop := ∃ v, e = .returned (.tuple #[v, .bool b]) ∧ OwnE w' w.heap.size v l ∧ Below w.heap.size w w'
theorem newEB_of {l l' : List Ent} {b b' : Bool} {w w' : World} {e : Ending} (h : l = l' ∧ b = b') (hx : NewEB l' b' w e w') : NewEB l b w e w' := by rw [h.1, h.2]; exact hx
theorem seek_cases (c : UInt8) (n : Int) (hn : (c.toNat : Int) = n) (s : ByteArray) (j : Nat) :
    (∃ h : j < s.size, ((((s[j]).toNat : Int) != n) = true) ∧ seekB c s j = seekB c s (j + 1)) ∨ ((∃ h : j < s.size, (((s[j]).toNat : Int) != n) = false) ∨ ¬ j < s.size) ∧ (j ≤ s.size → seekB c s j = j) := by
  by_cases h : j < s.size
  · by_cases hc : ((s[j]).toNat : Int) = n
    · refine .inr ⟨.inl ⟨h, by simpa using hc⟩, fun _ => seekB_stop h ?_⟩
      apply UInt8.toNat_inj.1; omega
    · refine .inl ⟨h, by simpa using hc, seekB_on h ?_⟩
      intro e; exact hc (by rw [e]; exact hn)
  · refine .inr ⟨.inr h, fun h' => ?_⟩
    obtain rfl : j = s.size := by omega
    exact seekB_end c s
theorem seek_is {c : UInt8} {s : ByteArray} {k i : Nat} (h : i < s.size) (e : seekB c s k = i) : s[i] = c := by subst e; exact seekB_at c h
theorem sign_lt {s : ByteArray} {k j m : Nat} (hj : seekB 61 s k = j) (hm : seekB 59 s j = m) (hjm : j ≤ m) (h : m < s.size) : j + 1 ≤ m := by
  rcases Nat.lt_or_eq_of_le hjm with h1 | rfl
  · exact h1
  · have h1 := seek_is h hj
    have h2 := seek_is h hm
    rw [h1] at h2
    exact absurd h2 (by decide)
theorem nthE_snoc_size {l : List Ent} {q : Ent} {n : Nat} (h : ∀ j, (nthE l j).1.size ≤ n) (hq : q.1.size ≤ n) (j : Nat) : (nthE (l ++ [q]) j).1.size ≤ n := by
  by_cases hj : j < l.length
  · have := h j
    unfold nthE at this ⊢
    rwa [List.getD_eq_getElem?_getD, List.getElem?_append_left hj, ← List.getD_eq_getElem?_getD]
  · unfold nthE
    rw [List.getD_eq_getElem?_getD, List.getElem?_append_right (by omega)]
    cases hk : j - l.length with
    | zero => exact hq
    | succ k => simp
set_option maxHeartbeats 2000000 in
set_option maxRecDepth 100000 in
theorem specReadFolder_any (s : ByteArray) (w : World) (hs : s.size ≤ 1048576) : Calls Tryz.prog 94 #[.string s] w (NewEB (foldL s) (isFold s) w) := by
  have HN := Lib.hid (OwnL.new enG 108 (size := 2) w)
  have HB := Lib.hid ((Below.refl w.heap.size w).alloc (Nat.le_refl _) (.cells #[] 108))
  go_enter Tryz.func94, Tryz.ntmps94
  go_wp2_with fail
  go_loopw [4, 5, 6, 7] (fun v a _ _ wr => ∃ (k : Nat) (out : List Ent), 1 ≤ k ∧ k ≤ s.size + 1 ∧ a = .int .i64 k ∧ readEs s (s.size + 1) 1 [] = readEs s (s.size + 1) k out ∧ out.length ≤ k ∧ (∀ j, (nthE out j).1.size ≤ s.size) ∧ OwnE wr w.heap.size v out ∧ Below w.heap.size w wr) (fun _ a _ _ _ => s.size + 1 - (intOf a).toNat)
  case atStart => exact ⟨1, [], by omega, by omega, rfl, rfl, by simp, fun j => by simp [nthE], HN.out, HB.out⟩
  case round =>
    obtain ⟨k, out, hk1, hk, rfl, hg, hl, hz, ho, hb⟩ := hrel
    have HG := Lib.hid hg; have HZ := Lib.hid hz; have HO := Lib.hid ho; have HBW := Lib.hid hb
    clear hg hz ho hb
    have hwr := HBW.out.size
    by_cases hlt : k < s.size
    · go_wp2
      go_loop [6] (fun sg => ∃ j : Nat, k ≤ j ∧ j ≤ s.size ∧ sg = .int .i64 j ∧ seekB 61 s k = seekB 61 s j) (fun sg => s.size - (intOf sg).toNat)
      case atStart => exact ⟨k, by omega, by omega, rfl, rfl⟩
      case round =>
        obtain ⟨j, hkj, hj, rfl, hsk⟩ := hrel
        have HSK := Lib.hid hsk; clear hsk
        rcases seek_cases 61 61 rfl s j with ⟨hjs, hd, hon⟩ | ⟨hst, hse⟩
        · have HON := Lib.hid hon; clear hon
          go_wp2
          go_round
          case rel => exact ⟨j + 1, by omega, by omega, by go_num, by rw [HSK.out, HON.out]⟩
          case measure => simp [intOf]; omega
        · have HJ := Lib.hid (HSK.out.trans (hse hj)); clear hse
          rcases hst with ⟨hjs, hd⟩ | hjs
          all_goals
            go_wp2
            go_loop [7] (fun en => ∃ m : Nat, j ≤ m ∧ m ≤ s.size ∧ en = .int .i64 m ∧ seekB 59 s j = seekB 59 s m) (fun en => s.size - (intOf en).toNat)
            case atStart => exact ⟨j, by omega, by omega, rfl, rfl⟩
            case round =>
              obtain ⟨m, hjm, hm, rfl, hsm⟩ := hrel
              have HSM := Lib.hid hsm; clear hsm
              rcases seek_cases 59 59 rfl s m with ⟨hms, hdm, hon⟩ | ⟨hst, hse⟩
              · have HON := Lib.hid hon; clear hon
                go_wp2
                go_round
                case rel => exact ⟨m + 1, by omega, by omega, by go_num, by rw [HSM.out, HON.out]⟩
                case measure => simp [intOf]; omega
              · have HM := Lib.hid (HSM.out.trans (hse hm)); clear hse
                rcases hst with ⟨hms, hdm⟩ | hms
                · have hdm2 : ((m : Int) == (s.size : Int)) = false := by simp; omega
                  by_cases hq : j < s.size
                  rotate_left
                  · exfalso; omega
                  have hol : out.length ≤ 2000000 := by omega
                  have hx1 : (s.extract (j + 1) m).size ≤ maxLen := by rw [ByteArray.size_extract]; unfold maxLen; omega
                  have hjm2 : j + 1 ≤ m := sign_lt HJ.out HM.out hjm hms
                  have HST := Lib.hid (show readEs s (s.size + 1) k out = readEs s (s.size + 1) (m + 1) (out ++ [(s.extract k j, readB (s.extract (j + 1) m))]) by
                    have h := entsOf_step (out := out) hlt (by rw [HJ.out, HM.out]; omega) (s.size + 1) (by omega)
                    rw [HJ.out, HM.out] at h; exact h)
                  have hw1 : IntKind.i64.wrap ((j : Int) + 1) = (j : Int) + 1 := by rw [IntKind.wrap_i64]; omega
                  have htn : ((j : Int) + 1).toNat = j + 1 := by omega
                  have hbb : (j : Int) + 1 ≤ (m : Int) := by omega
                  have hb0 : (0 : Int) ≤ (j : Int) + 1 := by omega
                  go_wp2
                  go_region_law (first
                    | (refine step_call1 (f := 118) (enters_of Tryz.func118 (by kernel_rfl) rfl) rfl _ 9 rfl (.string (s.extract (j + 1) m)) (by simp [Act.eval, Act.put]) (specReadHex_any _ _ hx1) ?_; rintro e w' ⟨rfl, rfl⟩; refine ⟨_, rfl, ?_⟩)
                    | (refine step_appL eltEn encEn (l := out) (l' := [(s.extract k j, readB (s.extract (j + 1) m))]) (OwnL.alloc (OwnL.drew HO.out) _) (OneAt.lst (OneAt.new enG 108 rfl _ _ rfl)) hol (by decide) (le_alloc (le_drew hwr) _) rfl _ _ rfl (by simp [Act.eval]) (by simp [Act.eval]) ?_; intro v' w' hown hgrow hat; have HOWN := Lib.hid hown; have HGR := Lib.hid hgrow; clear hown hgrow hat))
                  all_goals
                    go_wp2
                    go_roundw
                    case rel => exact ⟨m + 1, _, by omega, by omega, by go_num, HG.out.trans HST.out, by rw [List.length_append, List.length_singleton]; omega, nthE_snoc_size HZ.out (by rw [ByteArray.size_extract]; omega), HOWN.out, ((show Below w.heap.size w wr.drew from below_drewN HBW.out 1).alloc hwr _).grown HGR.out (le_alloc (le_drew hwr) _) (fun q e => HO.out.at q e)⟩
                    case measure => simp [intOf]; omega
                · have HF := Lib.hid (fold_none (s := s) (HG.out.trans (entsOf_stop hlt (by rw [HJ.out, HM.out]; omega) (s.size + 1) (by omega))))
                  have hmz : ((m : Int) == (s.size : Int)) = true := by simp; omega
                  go_wp2
                  go_ret2
                  exact newEB_of HF.out ⟨_, rfl, OwnL.newAt _ _ rfl hwr, HBW.out.alloc hwr _⟩
    · have HS := Lib.hid (show entsOf s = some out from HG.out.trans (entsOf_end hlt (s.size + 1) (by omega)))
      obtain ⟨x, n, c, rfl, hlo⟩ := HO.out.lst
      have HLO := Lib.hid hlo
      clear hlo
      by_cases hf : folderB out = s
      · have hd : ((folderB out).toList == s.toList) = true := by rw [hf]; simp
        by_cases h0 : s.size = 0
        · have HF := Lib.hid (fold_no HS.out (.inr h0))
          have he : s.toList.isEmpty = true := by rw [ByteArray.toList_eq, List.isEmpty_iff, ← List.length_eq_zero_iff, len_eq]; exact h0
          clear hf h0
          go_wp2_with (go_at_call 108; refine (specFolderText_any _ _ _ _ _ _ HLO.out (fun j => by have := HZ.out j; unfold maxLen; omega)).mono ?_; rintro e w2 ⟨rfl, hq⟩; have HQ := Lib.hid hq; clear hq)
          go_ret2
          exact newEB_of HF.out ⟨_, rfl, OwnL.newAt _ _ rfl (by rw [size_quiet HQ.out]; exact hwr), (below_quiet HBW.out HQ.out).alloc (by rw [size_quiet HQ.out]; exact hwr) _⟩
        · have HF := Lib.hid (fold_yes HS.out hf (by omega))
          have he : s.toList.isEmpty = false := by rw [ByteArray.toList_eq, List.isEmpty_eq_false_iff, ← List.length_pos_iff, len_eq]; omega
          clear hf h0
          go_wp2_with (go_at_call 108; refine (specFolderText_any _ _ _ _ _ _ HLO.out (fun j => by have := HZ.out j; unfold maxLen; omega)).mono ?_; rintro e w2 ⟨rfl, hq⟩; have HQ := Lib.hid hq; clear hq)
          go_ret2
          exact newEB_of HF.out ⟨_, rfl, HO.out.quiet HQ.out, below_quiet HBW.out HQ.out⟩
      · have hd : ((folderB out).toList == s.toList) = false := by rw [str_beq]; simpa using hf
        have HF := Lib.hid (fold_no HS.out (.inl hf))
        clear hf
        go_wp2_with (go_at_call 108; refine (specFolderText_any _ _ _ _ _ _ HLO.out (fun j => by have := HZ.out j; unfold maxLen; omega)).mono ?_; rintro e w2 ⟨rfl, hq⟩; have HQ := Lib.hid hq; clear hq)
        go_ret2
        exact newEB_of HF.out ⟨_, rfl, OwnL.newAt _ _ rfl (by rw [size_quiet HQ.out]; exact hwr), (below_quiet HBW.out HQ.out).alloc (by rw [size_quiet HQ.out]; exact hwr) _⟩
end Go.Proofs.YtglajbmopiolhaaGreatDoor
/-
  Chapter 7's model: kinds of texts.
-/
namespace Go.Proofs.YtglajbmopiolhaaGreatDoor
open Go.RowKit
set_option linter.unusedVariables false
def kindB (s : ByteArray) : Int := if isFile s = true then 1 else if isFold s = true then 2 else 0
theorem specTextKind_any (s : ByteArray) (w : World) (hs : s.size ≤ 1048576) : Calls Tryz.prog 109 #[.string s] w (BelowI (kindB s) w) := by
  have hm : s.size ≤ maxLen := by unfold maxLen; omega
  cases hf : isFile s
  · cases hd : isFold s
    · have HF := Lib.hid (show kindB s = 0 by unfold kindB; rw [hf, hd]; rfl)
      go_enter Tryz.func109, Tryz.ntmps109
      go_wp2_with (first
        | (go_at_call 71; refine (specReadFile_any _ _ hm).mono ?_; rintro e w' ⟨rfl, rfl⟩; rw [hf])
        | (go_at_call 94; refine (specReadFolder_any _ _ hs).mono ?_; rintro e w2 ⟨v, rfl, ho, hb⟩; rw [hd]; have HB := Lib.hid hb; clear ho hb))
      go_ret
      exact ⟨ret_int HF.out.symm, HB.out⟩
    · have HF := Lib.hid (show kindB s = 2 by unfold kindB; rw [hf, hd]; rfl)
      go_enter Tryz.func109, Tryz.ntmps109
      go_wp2_with (first
        | (go_at_call 71; refine (specReadFile_any _ _ hm).mono ?_; rintro e w' ⟨rfl, rfl⟩; rw [hf])
        | (go_at_call 94; refine (specReadFolder_any _ _ hs).mono ?_; rintro e w2 ⟨v, rfl, ho, hb⟩; rw [hd]; have HB := Lib.hid hb; clear ho hb))
      go_ret
      exact ⟨ret_int HF.out.symm, HB.out⟩
  · have HF := Lib.hid (show kindB s = 1 by unfold kindB; rw [hf]; rfl)
    go_enter Tryz.func109, Tryz.ntmps109
    go_wp2_with (first
      | (go_at_call 71; refine (specReadFile_any _ _ hm).mono ?_; rintro e w' ⟨rfl, rfl⟩; rw [hf])
      | (go_at_call 94; refine (specReadFolder_any _ _ hs).mono ?_; rintro e w2 ⟨v, rfl, ho, hb⟩; have HB := Lib.hid hb; clear ho hb))
    go_ret
    exact ⟨ret_int HF.out.symm, HB.out⟩
end Go.Proofs.YtglajbmopiolhaaGreatDoor
/-
  Chapter 8's model: the parts of a path.
-/
namespace Go.Proofs.YtglajbmopiolhaaGreatDoor
open Go.RowKit
set_option linter.unusedVariables false
/-- Parts so far, and the rest of the path. -/
def splitGo : List ByteArray → List UInt8 → List ByteArray
  | out, [] => out
  | out, c :: r => if c = 47 then splitGo (out ++ [ByteArray.empty]) r else if out = [] then splitGo out r else splitGo (out.set (out.length - 1) (nthS out (out.length - 1) ++ ⟨#[c]⟩)) r
def splitB (s : ByteArray) : List ByteArray := splitGo [] s.data.toList
def isPath (s : ByteArray) : Bool := decide (s = ⟨#[47]⟩) || (decide (0 < s.size) && decide (pathB (splitB s) = s))
def partsB (s : ByteArray) : List ByteArray := if s = ⟨#[47]⟩ then [] else if isPath s = true then splitB s else []
theorem drop_consB (s : ByteArray) (k : Nat) (h : k < s.size) : s.data.toList.drop k = s[k] :: s.data.toList.drop (k + 1) := by
  rw [List.drop_eq_getElem_cons (by simpa using h)]; rfl
theorem splitGo_slash {s : ByteArray} {k : Nat} (h : k < s.size) (hc : ((s[k]).toNat : Int) = 47) (out : List ByteArray) : splitGo out (s.data.toList.drop k) = splitGo (out ++ [ByteArray.empty]) (s.data.toList.drop (k + 1)) := by
  rw [drop_consB s k h, splitGo, if_pos]
  apply UInt8.toNat_inj.1; show (s[k]).toNat = 47; omega
theorem splitGo_skip {s : ByteArray} {k : Nat} (h : k < s.size) (hc : ((s[k]).toNat : Int) ≠ 47) : splitGo [] (s.data.toList.drop k) = splitGo [] (s.data.toList.drop (k + 1)) := by
  rw [drop_consB s k h, splitGo, if_neg, if_pos rfl]
  intro e; exact hc (by rw [e]; rfl)
theorem splitGo_add {s : ByteArray} {k : Nat} (h : k < s.size) (hc : ((s[k]).toNat : Int) ≠ 47) {out : List ByteArray} (ho : out ≠ []) : splitGo out (s.data.toList.drop k) = splitGo (out.set (out.length - 1) (nthS out (out.length - 1) ++ s.extract k (k + 1))) (s.data.toList.drop (k + 1)) := by
  rw [drop_consB s k h, splitGo, if_neg, if_neg ho]
  · congr 2
    congr 1
    apply ByteArray.ext
    rw [ByteArray.data_extract]
    apply Array.toList_inj.1
    rw [Array.toList_extract, List.extract_eq_take_drop]
    rw [show k + 1 - k = 1 by omega, drop_consB s k h]
    rfl
  · intro e; exact hc (by rw [e]; rfl)
/-- New texts and a bool. -/
def NewSB (l : List ByteArray) (b : Bool) (w : World) (e : Ending) (w' : World) : Prop := ∃ v, e = .returned (.tuple #[v, .bool b]) ∧ OwnS w' w.heap.size v l ∧ Below w.heap.size w w'
theorem newSB_of {l l' : List ByteArray} {b b' : Bool} {w w' : World} {e : Ending} (h : l = l') (h' : b = b') (hx : NewSB l' b' w e w') : NewSB l b w e w' := by rw [h, h']; exact hx
theorem parts_root : partsB ⟨#[47]⟩ = [] ∧ isPath ⟨#[47]⟩ = true := ⟨rfl, rfl⟩
theorem parts_yes {s : ByteArray} (h : s ≠ ⟨#[47]⟩) (h0 : 0 < s.size) (h1 : pathB (splitB s) = s) : partsB s = splitB s ∧ isPath s = true := by
  have : isPath s = true := by unfold isPath; simp [h, h0, h1]
  unfold partsB; rw [if_neg h, if_pos this]; exact ⟨rfl, this⟩
theorem parts_no {s : ByteArray} (h : s ≠ ⟨#[47]⟩) (h1 : s.size = 0 ∨ pathB (splitB s) ≠ s) : partsB s = [] ∧ isPath s = false := by
  have : isPath s = false := by unfold isPath; simp [h]; intro h0; rcases h1 with h1 | h1; omega; exact h1
  unfold partsB; rw [if_neg h, if_neg (by rw [this]; simp)]; exact ⟨rfl, this⟩
theorem nthS_set_size {l : List ByteArray} {q : ByteArray} {k i : Nat} (h : ∀ j, (nthS l j).size ≤ k) (hq : q.size ≤ k + 1) (j : Nat) : (nthS (l.set i q) j).size ≤ k + 1 := by
  have := h j
  unfold nthS at this ⊢
  rw [List.getD_eq_getElem?_getD] at this ⊢
  rw [List.getElem?_set]
  split
  · split
    · exact hq
    · simp
  · omega
theorem nthS_snoc_size {l : List ByteArray} {q : ByteArray} {k : Nat} (h : ∀ j, (nthS l j).size ≤ k) (hq : q.size ≤ k + 1) (j : Nat) : (nthS (l ++ [q]) j).size ≤ k + 1 := by
  by_cases hj : j < l.length
  · have := h j
    unfold nthS at this ⊢
    rw [List.getD_eq_getElem?_getD, List.getElem?_append_left hj, ← List.getD_eq_getElem?_getD]
    omega
  · unfold nthS
    rw [List.getD_eq_getElem?_getD, List.getElem?_append_right (by omega)]
    cases hk : j - l.length with
    | zero => exact hq
    | succ k => simp
set_option maxHeartbeats 1000000 in
theorem specPathParts_any (s : ByteArray) (w : World) (hs : s.size ≤ 1048576) : Calls Tryz.prog 78 #[.string s] w (NewSB (partsB s) (isPath s) w) := by
  have HN := Lib.hid (OwnL.new strG 9 (size := 1) w)
  have HB := Lib.hid ((Below.refl w.heap.size w).alloc (Nat.le_refl _) (.cells #[] 9))
  by_cases hr : s = ⟨#[47]⟩
  · have HF := Lib.hid parts_root
    subst hr
    go_enter Tryz.func78, Tryz.ntmps78
    go_wp2
    go_ret2
    exact newSB_of HF.out.1 HF.out.2 ⟨_, rfl, HN.out, HB.out⟩
  have hd : (s.toList == [47]) = false := by
    rw [ByteArray.toList_eq]
    simp only [beq_eq_false_iff_ne, ne_eq]
    intro e; exact hr (by cases s; congr 1; exact Array.toList_inj.1 e)
  have HRR := Lib.hid hr
  clear hr
  go_enter Tryz.func78, Tryz.ntmps78
  go_wp2_with fail
  go_loopw [4, 5] (fun v i wr => ∃ (k : Nat) (out : List ByteArray), k ≤ s.size ∧ i = .int .i64 k ∧ splitB s = splitGo out (s.data.toList.drop k) ∧ out.length ≤ k ∧ (∀ j, (nthS out j).size ≤ k) ∧ OwnS wr w.heap.size v out ∧ Below w.heap.size w wr) (fun _ i _ => s.size - (intOf i).toNat)
  case atStart => exact ⟨0, [], by omega, rfl, rfl, by simp, fun j => by simp [nthS], HN.out, HB.out⟩
  case round =>
    obtain ⟨k, out, hk, rfl, hg, hl, hz, ho, hb⟩ := hrel
    have HG := Lib.hid hg; have HZ := Lib.hid hz; have HO := Lib.hid ho; have HBW := Lib.hid hb
    clear hg hz ho hb
    have hwr := HBW.out.size
    by_cases hlt : k < s.size
    · by_cases hc : ((s[k]).toNat : Int) = 47
      · have HS := Lib.hid (HG.out.trans (splitGo_slash hlt hc out))
        have hdc : (((s[k]).toNat : Int) == 47) = true := by simpa using hc
        clear hc
        go_wp2_with (first
          | (at_builtin; refine wpList_app1L eltStr encStr ByteArray.empty _ rfl HO.out (by omega) hwr rfl _ _ rfl rfl rfl ?_; intro v' w' hown hgrow; have HW := Lib.hid hown; have HGR := Lib.hid hgrow; clear hown hgrow))
        go_roundw
        case rel => exact ⟨k + 1, _, by omega, by go_num, HS.out, by simp; omega, fun j => nthS_snoc_size HZ.out (by simp) j, HW.out, HBW.out.grown HGR.out hwr HO.out.at⟩
        case measure => simp [intOf]; omega
      · have hdc : (((s[k]).toNat : Int) == 47) = false := by simpa using hc
        by_cases h0 : out = []
        · subst h0
          have HS := Lib.hid (HG.out.trans (splitGo_skip hlt hc))
          clear hc
          obtain ⟨x, n, c, e, hlst⟩ := HO.out.lst
          subst e
          have hn0 : n = 0 := by have := hlst.len; simp at this; omega
          subst hn0
          clear hlst
          go_wp2_with fail
          go_roundw
          case rel => exact ⟨k + 1, _, by omega, by go_num, HS.out, by simp, fun j => by have := HZ.out j; omega, HO.out, HBW.out⟩
          case measure => simp [intOf]; omega
        · have hpos : 0 < out.length := List.length_pos_iff.2 h0
          have HS := Lib.hid (HG.out.trans (splitGo_add hlt hc h0))
          clear hc h0
          obtain ⟨g, c, rfl, hgb, hgl⟩ := World.ownsRow.form HO.out hpos
          have hcl := (HO.out.lst').atS (k := out.length - 1) (by omega)
          obtain ⟨b1, o1, e1, _, hcell⟩ := hcl
          simp only [Option.some.injEq, Addr.mk.injEq, and_true] at e1
          obtain ⟨rfl, rfl⟩ := e1
          rw [Nat.zero_add] at hcell
          have hfro := HO.out.frozenAt (out.length - 1)
          have HST := Lib.hid (HO.out.stored (out.length - 1) (.string (nthS out (out.length - 1) ++ s.extract k (k + 1))))
          have hsz1 := HZ.out (out.length - 1)
          have hsx : (s.extract k (k + 1)).size = 1 := by rw [ByteArray.size_extract]; omega
          have hlz : out.length ≤ s.size := by omega
          obtain ⟨L, hL⟩ : ∃ L, out.length = L := ⟨_, rfl⟩
          have HLL := Lib.hid hL
          rw [hL] at hcell hfro HST hsz1 HS hpos hl hlz
          rw [hL] at HO
          rw [hL]
          obtain ⟨q, hq⟩ : ∃ q, q = nthS out (L - 1) := ⟨_, rfl⟩
          have HQQ := Lib.hid hq
          rw [← hq] at hcell HST hsz1 HS
          clear hq hL
          have hw1 : IntKind.i64.wrap ((L : Int) - 1) = (L : Int) - 1 := by rw [IntKind.wrap_i64]; omega
          have ht1 : ((L : Int) - 1).toNat = L - 1 := by omega
          have hi1 : 1 ≤ L := hpos
          have hi0 : (0 : Int) ≤ (L : Int) - 1 := by omega
          have hi2 : (L : Int) - 1 < (L : Int) := by omega
          have hk1 : (k : Int) + 1 ≤ (s.size : Int) := by omega
          have hk2 : (k : Int) ≤ (k : Int) + 1 := by omega
          go_wp2_with fail
          go_region
          all_goals
            go_wp2
            go_roundw
            case rel =>
              refine ⟨k + 1, _, by omega, by go_num, HS.out, by rw [List.length_set, HLL.out]; omega, fun j => nthS_set_size HZ.out (by rw [ByteArray.size_append, hsx]; omega) j, ?_, ?_⟩
              · have h1 := HST.out.1
                show World.ownsRow _ _ _ _ _ _ _
                rw [List.length_set, HLL.out, strG_map, List.map_set, ← strG_map]
                exact h1
              · exact (HBW.out.setCell (p := ⟨g, L - 1, none⟩) hgb _).drew
            case measure => simp [intOf]; omega
    · have hkz : s.data.toList.drop k = [] := List.drop_of_length_le (by rw [len_eq]; omega)
      have HSP := Lib.hid (show splitB s = out by rw [HG.out, hkz]; rfl)
      obtain ⟨x, n, c, rfl, hlo⟩ := HO.out.lst
      have HLO := Lib.hid hlo
      clear hlo hkz
      have hzm : ∀ j, (nthS out j).size ≤ maxLen := fun j => by have := HZ.out j; unfold maxLen; omega
      by_cases h0 : s.size = 0
      · have HF := Lib.hid (parts_no HRR.out (.inl h0))
        have he : s.toList.isEmpty = true := by rw [ByteArray.toList_eq, List.isEmpty_iff, ← List.length_eq_zero_iff, len_eq]; exact h0
        clear h0
        go_wp2_with fail
        go_ret2
        exact newSB_of HF.out.1 HF.out.2 ⟨_, rfl, OwnL.newAt _ _ rfl hwr, HBW.out.alloc hwr _⟩
      · have he : s.toList.isEmpty = false := by rw [ByteArray.toList_eq, List.isEmpty_eq_false_iff, ← List.length_pos_iff, len_eq]; omega
        by_cases hp : pathB out = s
        · have HF := Lib.hid (parts_yes HRR.out (by omega) (by rw [HSP.out]; exact hp))
          have hdp : ((pathB out).toList == s.toList) = true := by rw [hp]; simp
          clear hp h0
          go_wp2_with (go_at_call 93; refine (specJoinPath_any _ _ _ _ _ _ HLO.out hzm).mono ?_; rintro e w2 ⟨rfl, rfl⟩)
          go_ret2
          exact newSB_of (HF.out.1.trans HSP.out) HF.out.2 ⟨_, rfl, HO.out, HBW.out⟩
        · have HF := Lib.hid (parts_no HRR.out (.inr (by rw [HSP.out]; exact hp)))
          have hdp : ((pathB out).toList == s.toList) = false := by rw [str_beq]; simpa using hp
          clear hp h0
          go_wp2_with (go_at_call 93; refine (specJoinPath_any _ _ _ _ _ _ HLO.out hzm).mono ?_; rintro e w2 ⟨rfl, rfl⟩)
          go_ret2
          exact newSB_of HF.out.1 HF.out.2 ⟨_, rfl, OwnL.newAt _ _ rfl hwr, HBW.out.alloc hwr _⟩
end Go.Proofs.YtglajbmopiolhaaGreatDoor
/-
  Chapter 6's model: an entry is dropped.
-/
namespace Go.Proofs.YtglajbmopiolhaaGreatDoor
open Go.RowKit
set_option linter.unusedVariables false
def otherE (nm : ByteArray) (p : Ent) : Bool := !(p.1.toList == nm.toList)
/-- The entries without a name. -/
def lessE (l : List Ent) (nm : ByteArray) : List Ent := l.filter (otherE nm)
def dropE (l : List Ent) (nm : ByteArray) : List Ent × Bool := if entsB l = true then (lessE l nm, decide ((lessE l nm).length < l.length)) else ([], false)
theorem dropE_bad {l : List Ent} {nm : ByteArray} (h : entsB l = false) : dropE l nm = ([], false) := by unfold dropE; rw [if_neg (by rw [h]; simp)]
theorem dropE_ok {l : List Ent} {nm : ByteArray} (h : entsB l = true) : dropE l nm = (lessE l nm, decide ((lessE l nm).length < l.length)) := by unfold dropE; rw [if_pos h]
theorem lessE_yes {l : List Ent} {nm : ByteArray} {k : Nat} (h : k < l.length) (hn : ((nthE l k).1.toList == nm.toList) = false) : lessE (l.take (k + 1)) nm = lessE (l.take k) nm ++ [nthE l k] := by
  unfold lessE; rw [take_snocE h, List.filter_append]
  have : otherE nm (nthE l k) = true := by unfold otherE; rw [hn]; rfl
  simp [this]
theorem lessE_no {l : List Ent} {nm : ByteArray} {k : Nat} (h : k < l.length) (hn : ((nthE l k).1.toList == nm.toList) = true) : lessE (l.take (k + 1)) nm = lessE (l.take k) nm := by
  unfold lessE; rw [take_snocE h, List.filter_append]
  have : otherE nm (nthE l k) = false := by unfold otherE; rw [hn]; rfl
  simp [this]
theorem lessE_len (l : List Ent) (nm : ByteArray) : (lessE l nm).length ≤ l.length := List.length_filter_le _ _
set_option maxHeartbeats 1000000 in
theorem specDropEntry_any (x : Option Addr) (n cap : Nat) (l : List Ent) (nm : ByteArray) (B : Nat) (w : World) (h : Ents w B x n cap l) (hB : B ≤ w.heap.size) (hz : ∀ k, (nthE l k).1.size ≤ maxLen) (hp : nm.size ≤ maxLen) :
    Calls Tryz.prog 106 #[.slice x n cap, .string nm] w (NewEB (dropE l nm).1 (dropE l nm).2 w) := by
  have HL := Lib.hid h.len
  have hle := h.le
  have hmx := h.max
  unfold maxLen at hmx
  have HH := Lib.hid h
  have HZ := Lib.hid hz
  have HN := Lib.hid (OwnL.new enG 108 (size := 2) w)
  have HB0 := Lib.hid ((Below.refl w.heap.size w).alloc (Nat.le_refl _) (.cells #[] 108))
  clear h hz
  cases hv : entsB l
  · have HF := Lib.hid (dropE_bad (nm := nm) hv)
    go_enter Tryz.func106, Tryz.ntmps106
    go_wp2_with fail
    go_loopw [6, 7] (fun v i wr => i = .int .i64 0 ∧ OwnE wr w.heap.size v [] ∧ Below w.heap.size w wr) (fun _ i _ => (intOf i).toNat)
    case atStart => exact ⟨rfl, HN.out, HB0.out⟩
    case round =>
      obtain ⟨rfl, ho, hb⟩ := hrel
      have HO := Lib.hid ho; have HBW := Lib.hid hb
      clear ho hb
      by_cases hn0 : 0 < n
      · go_wp2_with (first | (go_at_call 129; ((with_reducible refine (specEntriesValid_any x n cap l B wr (HH.out.below HBW.out hB) HZ.out).mono ?_); rintro e w2 ⟨rfl, hq⟩; rw [hv]; have HQ := Lib.hid hq; have HB2 := Lib.hid (below_quiet HBW.out hq); clear hq)) | (go_at_call 129; ((with_reducible refine (specEntriesValid_any x n cap l B w2 (HH.out.below HB2.out hB) HZ.out).mono ?_); rintro e w3 ⟨rfl, hq⟩; rw [hv]; have HQ3 := Lib.hid hq; have HB3 := Lib.hid (below_quiet HB2.out hq); clear hq)))
        go_ret2
        exact newEB_of (by rw [HF.out]; exact ⟨rfl, rfl⟩) ⟨_, rfl, (HO.out.quiet HQ.out).quiet HQ3.out, HB3.out⟩
      · have hd : ¬ ((0 : Int) < (n : Int)) := by omega
        clear hn0
        go_wp2_with (first | (go_at_call 129; ((with_reducible refine (specEntriesValid_any x n cap l B wr (HH.out.below HBW.out hB) HZ.out).mono ?_); rintro e w2 ⟨rfl, hq⟩; rw [hv]; have HQ := Lib.hid hq; have HB2 := Lib.hid (below_quiet HBW.out hq); clear hq)))
        go_ret2
        exact newEB_of (by rw [HF.out]; exact ⟨rfl, rfl⟩) ⟨_, rfl, HO.out.quiet HQ.out, HB2.out⟩
  · have HF := Lib.hid (dropE_ok (nm := nm) hv)
    have hn3 : n ≤ 3 := by have := (entsB_at hv).1; have := HL.out; omega
    go_enter Tryz.func106, Tryz.ntmps106
    go_wp2_with fail
    go_loopw [6, 7] (fun v i wr => ∃ k : Nat, k ≤ n ∧ i = .int .i64 k ∧ OwnE wr w.heap.size v (lessE (l.take k) nm) ∧ Below w.heap.size w wr) (fun _ i _ => n - (intOf i).toNat)
    case atStart => exact ⟨0, by omega, rfl, HN.out, HB0.out⟩
    case round =>
      obtain ⟨k, hk, rfl, ho, hb⟩ := hrel
      have HO := Lib.hid ho; have HBW := Lib.hid hb
      clear ho hb
      have hwr := HBW.out.size
      have hll : (lessE (l.take k) nm).length ≤ 2000000 := by have := lessE_len (l.take k) nm; rw [List.length_take] at this; omega
      by_cases hlt : k < n
      · have hkl : k < l.length := by have := HL.out; omega
        have hq0 := HH.out.below HBW.out hB
        cases hm : ((nthE l k).1.toList == nm.toList)
        · have HST := Lib.hid (lessE_yes hkl hm)
          go_wp2_with (first
            | (go_at_call 129; refine (specEntriesValid_any x n cap l B _ hq0 HZ.out).mono ?_; rintro e w2 ⟨rfl, hq⟩; rw [hv]; obtain ⟨b, off, rfl, hbb, hc0, hc1⟩ := (HH.out.below (below_quiet HBW.out hq) hB).atE hlt; have HQ := Lib.hid hq; have HB2 := Lib.hid (below_quiet HBW.out hq); have HO2 := Lib.hid (HO.out.quiet hq); have hw2 : w.heap.size ≤ w2.heap.size := HB2.out.size; clear hq)
            | (at_builtin; refine wpList_app1L eltEn encEn (nthE l k) _ rfl HO2.out hll hw2 rfl _ _ rfl rfl rfl ?_; intro v' w' hown hgrow; have HW := Lib.hid hown; have HG := Lib.hid hgrow; clear hown hgrow))
          go_roundw
          case rel => exact ⟨k + 1, by omega, by go_num, by rw [HST.out]; exact HW.out, HB2.out.grown HG.out hw2 HO2.out.at⟩
          case measure => simp [intOf]; omega
        · have HST := Lib.hid (lessE_no hkl hm)
          go_wp2_with (first
            | (go_at_call 129; refine (specEntriesValid_any x n cap l B _ hq0 HZ.out).mono ?_; rintro e w2 ⟨rfl, hq⟩; rw [hv]; obtain ⟨b, off, rfl, hbb, hc0, hc1⟩ := (HH.out.below (below_quiet HBW.out hq) hB).atE hlt; have HQ := Lib.hid hq; have HB2 := Lib.hid (below_quiet HBW.out hq); have HO2 := Lib.hid (HO.out.quiet hq); clear hq))
          go_roundw
          case rel => exact ⟨k + 1, by omega, by go_num, by rw [HST.out]; exact HO2.out, HB2.out⟩
          case measure => simp [intOf]; omega
      · have HX := Lib.hid (show l.take k = l from List.take_of_length_le (by have := HL.out; omega))
        obtain ⟨xo, no, co, rfl, hlo⟩ := HO.out.lst
        have HLO := Lib.hid (show (lessE l nm).length = no by have := hlo.len; rw [HX.out] at this; exact this)
        clear hlo
        go_wp2_with (first | (go_at_call 129; ((with_reducible refine (specEntriesValid_any x n cap l B wr (HH.out.below HBW.out hB) HZ.out).mono ?_); rintro e w2 ⟨rfl, hq⟩; rw [hv]; have HQ := Lib.hid hq; have HB2 := Lib.hid (below_quiet HBW.out hq); clear hq)))
        go_ret2
        exact newEB_of (by rw [HF.out]; exact ⟨rfl, show decide _ = _ by rw [HLO.out, HL.out]⟩) ⟨_, rfl, by rw [← HX.out]; exact HO.out.quiet HQ.out, HB2.out⟩
end Go.Proofs.YtglajbmopiolhaaGreatDoor
/-
  Chapter 9's model: walking along names.
-/
namespace Go.Proofs.YtglajbmopiolhaaGreatDoor
open Go.RowKit
set_option linter.unusedVariables false
/-- The print of a name in a folder. -/
def findE : List Ent → ByteArray → Option Int
  | [], _ => none
  | q :: r, nm => if (q.1.toList == nm.toList) = true then some q.2 else findE r nm
theorem findE_step {l : List Ent} {nm : ByteArray} {j : Nat} (h : j < l.length) (hn : ((nthE l j).1.toList == nm.toList) = false) : findE (l.drop j) nm = findE (l.drop (j + 1)) nm := by
  rw [List.drop_eq_getElem_cons h, findE, ← nthE_get h, if_neg (by rw [hn]; simp)]
theorem findE_stop {l : List Ent} {nm : ByteArray} {j : Nat} (h : j < l.length) (hn : ((nthE l j).1.toList == nm.toList) = true) : findE (l.drop j) nm = some (nthE l j).2 := by
  rw [List.drop_eq_getElem_cons h, findE, ← nthE_get h, if_pos hn]
theorem findE_end {l : List Ent} {nm : ByteArray} {j : Nat} (h : l.length ≤ j) : findE (l.drop j) nm = none := by rw [List.drop_of_length_le h]; rfl
/-- The print of a name in the folder of a print. -/
def childB (l : List Pc) (p : Int) (nm : ByteArray) : Option Int := findE (foldL (getT l p)) nm
def walkB (l : List Pc) : Int → List ByteArray → Int × Bool
  | p, [] => if getO l p = true then (p, true) else (-1, false)
  | p, nm :: r => match childB l p nm with
    | none => (-1, false)
    | some c => walkB l c r
theorem walkB_none {l : List Pc} {p : Int} {ps : List ByteArray} {k : Nat} (h : k < ps.length) (hc : childB l p (nthS ps k) = none) : walkB l p (ps.drop k) = (-1, false) := by
  rw [List.drop_eq_getElem_cons h, walkB, ← nthS_get h, hc]
theorem walkB_some {l : List Pc} {p c : Int} {ps : List ByteArray} {k : Nat} (h : k < ps.length) (hc : childB l p (nthS ps k) = some c) : walkB l p (ps.drop k) = walkB l c (ps.drop (k + 1)) := by
  rw [List.drop_eq_getElem_cons h, walkB, ← nthS_get h, hc]
theorem walkB_yes {l : List Pc} {p : Int} {ps : List ByteArray} {k : Nat} (h : ps.length ≤ k) (hc : getO l p = true) : walkB l p (ps.drop k) = (p, true) := by
  rw [List.drop_of_length_le h, walkB, if_pos hc]
theorem walkB_no {l : List Pc} {p : Int} {ps : List ByteArray} {k : Nat} (h : ps.length ≤ k) (hc : getO l p = false) : walkB l p (ps.drop k) = (-1, false) := by
  rw [List.drop_of_length_le h, walkB, if_neg (by rw [hc]; simp)]
theorem getT_size {l : List Pc} {p : Int} {m : Nat} (h : ∀ k, (nthP l k).2.size ≤ m) : (getT l p).size ≤ m := by
  unfold getT getB
  cases hf : l.find? fun q => decide (q.1 = p) with
  | none => simp
  | some q =>
    have hq := List.mem_of_find?_eq_some hf
    obtain ⟨k, hk, rfl⟩ := List.mem_iff_getElem.1 hq
    have := h k
    rw [nthP_get hk] at this
    exact this
def BelowIB (p : Int × Bool) (w : World) (e : Ending) (w' : World) : Prop := e = .returned (.tuple #[.int .i64 p.1, .bool p.2]) ∧ Below w.heap.size w w'
theorem belowIB_of {p : Int × Bool} {n : Int} {b : Bool} {w w' : World} (h : p = (n, b)) (hb : Below w.heap.size w w') : BelowIB p w (.returned (.tuple #[.int .i64 n, .bool b])) w' := by rw [h]; exact ⟨rfl, hb⟩
set_option maxHeartbeats 2000000 in
theorem specWalk_any (x y : Option Addr) (n cap m d : Nat) (l : List Pc) (ps : List ByteArray) (p : Int) (B B1 : Nat) (w : World) (h : Pcs w B x n cap l) (h1 : Strs w B1 y m d ps) (hB : B ≤ w.heap.size) (hB1 : B1 ≤ w.heap.size) (hz : ∀ k, (nthP l k).2.size ≤ 1048576) :
    Calls Tryz.prog 79 #[.slice x n cap, .int .i64 p, .slice y m d] w (BelowIB (walkB l p ps) w) := by
  have HL1 := Lib.hid h1.len
  have hle1 := h1.le
  have hmx1 := h1.max
  unfold maxLen at hmx1
  have HH := Lib.hid h
  have HH1 := Lib.hid h1
  have HZ := Lib.hid hz
  clear h h1 hz
  go_enter Tryz.func79, Tryz.ntmps79
  go_wp2_with fail
  go_loopw [1, 8, 9, 10, 11, 12, 13, 14] (fun pr i _ _ _ _ _ _ wr => ∃ (k : Nat) (c : Int), k ≤ m ∧ i = .int .i64 k ∧ pr = .int .i64 c ∧ walkB l p ps = walkB l c (ps.drop k) ∧ Below w.heap.size w wr) (fun _ i _ _ _ _ _ _ _ => m - (intOf i).toNat)
  case atStart => exact ⟨0, p, by omega, rfl, rfl, by rw [List.drop_zero], Below.refl _ _⟩
  case round =>
    obtain ⟨k, c, hk, rfl, rfl, hg, hb⟩ := hrel
    have HG := Lib.hid hg; have HBW := Lib.hid hb
    clear hg hb
    have hwr := HBW.out.size
    have HLS := Lib.hid (HH.out.below HBW.out hB)
    by_cases hlt : k < m
    · have hkl : k < ps.length := by have := HL1.out; omega
      have hgz := getT_size (p := c) HZ.out
      cases hok : isFold (getT l c)
      · have hz0 : (foldL (getT l c)).length = 0 := by unfold foldL; rw [hok]; rfl
        go_wp2_with (first
          | (go_at_call 83; refine (specL4Get_any x n cap l c B _ HLS.out).mono ?_; rintro e w' ⟨rfl, rfl⟩)
          | (go_at_call 94; refine (specReadFolder_any _ _ hgz).mono ?_; rintro e w2 ⟨v, rfl, ho, hb2⟩; rw [hok]; obtain ⟨xo, no, co, rfl, hlo⟩ := ho.lst; have HLO := Lib.hid hlo; have hlol := hlo.len; have hloc := hlo.le; have hlom := hlo.max; unfold maxLen at hlom; have HB2 := Lib.hid (HBW.out.trans (hb2.mono hwr)); clear ho hb2 hlo))
        obtain ⟨b1, o1, rfl, hb1, hc1⟩ := (HH1.out.below HB2.out hB1).atS hlt
        go_loopw [1, 13, 14] (fun pr f jv wq => ∃ j : Nat, j ≤ no ∧ jv = .int .i64 j ∧ pr = .int .i64 c ∧ f = .bool false ∧ childB l c (nthS ps k) = findE ((foldL (getT l c)).drop j) (nthS ps k) ∧ ∃ q, wq = w2.drewN q) (fun _ _ jv _ => no - (intOf jv).toNat)
        case atStart => exact ⟨0, by omega, rfl, rfl, rfl, by rw [List.drop_zero]; rfl, 0, rfl⟩
        case round =>
          obtain ⟨j, hj, rfl, rfl, rfl, hf, hq⟩ := hrel
          have HF := Lib.hid hf; have HQ := Lib.hid hq; clear hf hq
          have hjl : ¬ j < no := by omega
          have HST := Lib.hid (HG.out.trans (walkB_none hkl (HF.out.trans (findE_end (by omega)))))
          go_wp2
          go_ret2
          exact belowIB_of HST.out (by obtain ⟨q, rfl⟩ := HQ.out; exact below_drewN HB2.out _)
      · go_wp2_with (first
          | (go_at_call 83; refine (specL4Get_any x n cap l c B _ HLS.out).mono ?_; rintro e w' ⟨rfl, rfl⟩)
          | (go_at_call 94; refine (specReadFolder_any _ _ hgz).mono ?_; rintro e w2 ⟨v, rfl, ho, hb2⟩; rw [hok]; obtain ⟨xo, no, co, rfl, hlo⟩ := ho.lst; have HLO := Lib.hid hlo; have hlol := hlo.len; have hloc := hlo.le; have hlom := hlo.max; unfold maxLen at hlom; have HB2 := Lib.hid (HBW.out.trans (hb2.mono hwr)); clear ho hb2 hlo))
        obtain ⟨b1, o1, rfl, hb1, hc1⟩ := (HH1.out.below HB2.out hB1).atS hlt
        go_loopw [1, 13, 14] (fun pr f jv wq => ∃ j : Nat, j ≤ no ∧ jv = .int .i64 j ∧ pr = .int .i64 c ∧ f = .bool false ∧ childB l c (nthS ps k) = findE ((foldL (getT l c)).drop j) (nthS ps k) ∧ ∃ q, wq = w2.drewN q) (fun _ _ jv _ => no - (intOf jv).toNat)
        case atStart => exact ⟨0, by omega, rfl, rfl, rfl, by rw [List.drop_zero]; rfl, 0, rfl⟩
        case round =>
          obtain ⟨j, hj, rfl, rfl, rfl, hf, hq⟩ := hrel
          have HF := Lib.hid hf; have HQ := Lib.hid hq; clear hf hq
          by_cases hjl : j < no
          · have hjl2 : j < (foldL (getT l c)).length := by omega
            obtain ⟨b, off, rfl, hb, hc0, hcp⟩ := (HLO.out.keep (w' := wr) (by obtain ⟨q, rfl⟩ := HQ.out; intro _ _; rfl)).atE hjl
            have hcw : wr.cell? ⟨b1, o1 + k, none⟩ = some (.string (nthS ps k)) := by obtain ⟨q, rfl⟩ := HQ.out; exact hc1
            have hbw2 : w.heap.size ≤ w2.heap.size := HB2.out.size
            cases hm : ((nthE (foldL (getT l c)) j).1.toList == (nthS ps k).toList)
            · have HST := Lib.hid (HF.out.trans (findE_step hjl2 hm))
              go_wp2
              go_quiet (fail)
              go_wp2
              go_roundw
              case rel => exact ⟨j + 1, by omega, by go_num, rfl, rfl, HST.out, by obtain ⟨q, rfl⟩ := HQ.out; exact ⟨_, by rw [World.drewN_drewN]⟩⟩
              case measure => simp [intOf]; omega
            · have HST := Lib.hid (HG.out.trans (walkB_some hkl (HF.out.trans (findE_stop hjl2 hm))))
              go_wp2
              go_quiet (fail)
              go_wp2
              go_roundw
              case rel => exact ⟨k + 1, _, by omega, by go_num, rfl, HST.out, by obtain ⟨q, rfl⟩ := HQ.out; exact below_drewN (below_drewN HB2.out _) _⟩
              case measure => simp [intOf]; omega
          · have HST := Lib.hid (HG.out.trans (walkB_none hkl (HF.out.trans (findE_end (by omega)))))
            go_wp2
            go_ret2
            exact belowIB_of HST.out (by obtain ⟨q, rfl⟩ := HQ.out; exact below_drewN HB2.out _)
    · have hle : ps.length ≤ k := by have := HL1.out; omega
      cases ho : getO l c
      · have HF := Lib.hid (HG.out.trans (walkB_no hle ho))
        go_wp2_with (first
          | (go_at_call 83; refine (specL4Get_any x n cap l c B _ HLS.out).mono ?_; rintro e w' ⟨rfl, rfl⟩; rw [ho]))
        go_ret2
        exact belowIB_of HF.out HBW.out
      · have HF := Lib.hid (HG.out.trans (walkB_yes hle ho))
        go_wp2_with (first
          | (go_at_call 83; refine (specL4Get_any x n cap l c B _ HLS.out).mono ?_; rintro e w' ⟨rfl, rfl⟩; rw [ho]))
        go_ret2
        exact belowIB_of HF.out HBW.out
end Go.Proofs.YtglajbmopiolhaaGreatDoor
