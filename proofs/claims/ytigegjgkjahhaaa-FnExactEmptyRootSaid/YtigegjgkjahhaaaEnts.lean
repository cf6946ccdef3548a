/-
  Entries in memory; chapter 6's model: valid entries.
-/
import Derived.Test.YtigegjgkjahhaaaPrints
import Derived.Test.YtigegjgkjahhaaaMem
import Derived.Test.YtigegjgkjahhaaaHelp
import Derived.Test.YtigegjgkjahhaaaWords
import Derived.Test.YtigegjgkjahhaaaArgs
import Derived.Laws.Cover1
import Derived.Test.YtigegjgkjahhaaaChunks
import Derived.WalkSpells
import Derived.RegionTactic
import Derived.BigRegion
import Derived.Test.YtigegjgkjahhaaaStores2
import Derived.Test.YtigegjgkjahhaaaStores
namespace Go.Proofs.Ytigegjgkjahhaaa
open Go.RowKit
set_option linter.unusedVariables false
/-- A name and a print. -/
abbrev Ent := ByteArray × Int
def enG (p : Ent) : List Value := [.string p.1, .int .i64 p.2]
theorem encEn : Enc enG 2 := ⟨fun _ => rfl, fun p u hu => by
  simp only [enG, List.mem_cons, List.not_mem_nil, or_false] at hu
  rcases hu with rfl | rfl <;> rfl, by decide⟩
def nthE (l : List Ent) (k : Nat) : Ent := l.getD k (ByteArray.empty, 0)
theorem nthE_get {l : List Ent} {k : Nat} (h : k < l.length) : nthE l k = l[k] := by unfold nthE; rw [List.getD_eq_getElem?_getD, List.getElem?_eq_getElem h]; rfl
theorem take_snocE {l : List Ent} {k : Nat} (h : k < l.length) : l.take (k + 1) = l.take k ++ [nthE l k] := by
  rw [List.take_succ_eq_append_getElem h, nthE_get h]
abbrev Ents (w : World) (B : Nat) (x : Option Addr) (n cap : Nat) (l : List Ent) : Prop := Lst enG w B x n cap l
theorem Lst.atE {w : World} {B : Nat} {x : Option Addr} {n cap : Nat} {l : List Ent} (h : Ents w B x n cap l) {k : Nat} (hk : k < n) :
    ∃ b off, x = some ⟨b, off, none⟩ ∧ b < B ∧ w.cell? ⟨b, off + k * 2, none⟩ = some (.string (nthE l k).1) ∧ w.cell? ⟨b, off + k * 2 + 1, none⟩ = some (.int .i64 (nthE l k).2) := by
  obtain ⟨b, off, rfl, hb, h0⟩ := Lst.at encEn h (k := k) (j := 0) (v := .string (nthE l k).1) (ByteArray.empty, 0) hk (by decide) rfl
  obtain ⟨b', off', e, _, h1⟩ := Lst.at encEn h (k := k) (j := 1) (v := .int .i64 (nthE l k).2) (ByteArray.empty, 0) hk (by decide) rfl
  simp only [Option.some.injEq, Addr.mk.injEq, and_true] at e
  obtain ⟨rfl, rfl⟩ := e
  exact ⟨b, off, rfl, hb, h0, h1⟩
theorem Lst.atPrevE {w : World} {B : Nat} {b off n cap : Nat} {l : List Ent} (h : Ents w B (some ⟨b, off, none⟩) n cap l) {k : Nat} (hk : k < n) (h0 : 0 < k) :
    w.cell? ⟨b, off + (k - 1) * 2, none⟩ = some (.string (nthE l (k - 1)).1) := by
  obtain ⟨b', off', e, _, h1, _⟩ := h.atE (k := k - 1) (by omega)
  simp only [Option.some.injEq, Addr.mk.injEq, and_true] at e
  obtain ⟨rfl, rfl⟩ := e
  exact h1
abbrev OwnE (w : World) (base : Nat) (v : Value) (l : List Ent) : Prop := OwnL enG 45 2 w base v l
/-! ### valid entries -/
/-- a is not behind b. -/
def leB (a b : ByteArray) : Bool := Op.bytesLess a.toList b.toList || a.toList == b.toList
def okE (l : List Ent) (k : Nat) : Bool := wordB (nthE l k).1 && isPr (nthE l k).2 && (decide (k = 0) || !leB (nthE l k).1 (nthE l (k - 1)).1)
def entsB (l : List Ent) : Bool := decide (l.length ≤ 3) && (List.range l.length).all (okE l)
theorem okE_no1 {l : List Ent} {k : Nat} (h : wordB (nthE l k).1 = false) : okE l k = false := by unfold okE; rw [h]; rfl
theorem okE_no2 {l : List Ent} {k : Nat} (h : isPr (nthE l k).2 = false) : okE l k = false := by unfold okE; rw [h]; simp
theorem okE_no3 {l : List Ent} {k : Nat} (h0 : k ≠ 0) (h : leB (nthE l k).1 (nthE l (k - 1)).1 = true) : okE l k = false := by unfold okE; rw [h]; simp [h0]
theorem okE_yes {l : List Ent} {k : Nat} (h1 : wordB (nthE l k).1 = true) (h2 : isPr (nthE l k).2 = true) (h3 : k = 0 ∨ leB (nthE l k).1 (nthE l (k - 1)).1 = false) : okE l k = true := by
  unfold okE; rw [h1, h2]; rcases h3 with h | h
  · simp [h]
  · rw [h]; simp
theorem entsB_bad {l : List Ent} {k : Nat} (hk : k < l.length) (h : okE l k = false) : entsB l = false := by
  unfold entsB
  have : (List.range l.length).all (okE l) = false := List.all_eq_false.2 ⟨k, List.mem_range.2 hk, by rw [h]; simp⟩
  rw [this, Bool.and_false]
theorem entsB_end {l : List Ent} (h : ∀ j, j < l.length → okE l j = true) : entsB l = decide (l.length ≤ 3) := by
  unfold entsB
  have : (List.range l.length).all (okE l) = true := List.all_eq_true.2 fun j hj => h j (List.mem_range.1 hj)
  rw [this, Bool.and_true]
theorem entsB_at {l : List Ent} (h : entsB l = true) : l.length ≤ 3 ∧ ∀ j, j < l.length → okE l j = true := by
  unfold entsB at h
  simp only [Bool.and_eq_true, decide_eq_true_eq, List.all_eq_true, List.mem_range] at h
  exact h
theorem specEntriesValid_any (x : Option Addr) (n cap : Nat) (l : List Ent) (B : Nat) (w : World) (h : Ents w B x n cap l) (hz : ∀ k, (nthE l k).1.size ≤ maxLen) : Calls Try.prog 21 #[.slice x n cap] w (QuietB (entsB l) w) := by
  have HL := Lib.hid h.len
  have HH := Lib.hid h
  have HZ := Lib.hid hz
  have hmx := h.max
  have hle := h.le
  clear h hz
  unfold maxLen at hmx
  go_enter Try.func21, Try.ntmps21
  go_wp2
  go_loopw [3] (fun i wr => ∃ k : Nat, k ≤ n ∧ i = .int .i64 k ∧ (∀ j, j < k → okE l j = true) ∧ ∃ q, wr = w.drewN q) (fun i _ => n - (intOf i).toNat)
  case atStart => exact ⟨0, by omega, rfl, fun j hj => by omega, 0, rfl⟩
  case round =>
    obtain ⟨k, hk, rfl, ha, hp⟩ := hrel
    have HA := Lib.hid ha; have HP := Lib.hid hp; clear ha hp
    have fin : ∀ (b : Bool) (q : Nat), entsB l = b → QuietB (entsB l) w (.returned (.bool b)) (wr.drewN q) := fun b q hb => by
      obtain ⟨p, rfl⟩ := HP.out
      exact ⟨ret_bool hb.symm, _, by rw [World.drewN_drewN]⟩
    by_cases hlt : k < n
    · have hkl : k < l.length := by have := HL.out; omega
      obtain ⟨b, off, rfl, hb, hc0, hc1⟩ := (HH.out.keep (w' := wr) (by obtain ⟨p, rfl⟩ := HP.out; intro _ _; rfl)).atE hlt
      have hzk := HZ.out k
      cases hw : wordB (nthE l k).1
      · have HF := Lib.hid (entsB_bad hkl (okE_no1 hw))
        have HFI := Lib.hid fin
        clear fin
        go_wp2
        go_quiet (first | (go_at_call 31; refine Calls.quiet_of_same ((specWordValid_any _ _ hzk).mono fun _ _ h => ⟨h.1, h.2.symm⟩)) | (go_at_call 32; refine Calls.quiet_of_same ((l1In_any _ _ _ _).mono fun _ _ h => ⟨h.1, h.2.symm⟩)))
        go_wp2
        go_ret
        exact HFI.out _ _ HF.out
      cases hpr : isPr (nthE l k).2
      · have HF := Lib.hid (entsB_bad hkl (okE_no2 hpr))
        have hpi : in3 (nthE l k).2 0 16777212 = false := hpr
        have HFI := Lib.hid fin
        clear fin
        go_wp2
        go_quiet (first | (go_at_call 31; refine Calls.quiet_of_same ((specWordValid_any _ _ hzk).mono fun _ _ h => ⟨h.1, h.2.symm⟩)) | (go_at_call 32; refine Calls.quiet_of_same ((l1In_any _ _ _ _).mono fun _ _ h => ⟨h.1, h.2.symm⟩)))
        go_wp2
        go_ret
        exact HFI.out _ _ HF.out
      have hpi : in3 (nthE l k).2 0 16777212 = true := hpr
      by_cases h0 : k = 0
      · have HR := Lib.hid (okE_yes hw hpr (.inl h0))
        have hd0 : (decide (0 < k)) = false := by simp; omega
        clear h0 fin
        go_wp2
        go_quiet (first | (go_at_call 31; refine Calls.quiet_of_same ((specWordValid_any _ _ hzk).mono fun _ _ h => ⟨h.1, h.2.symm⟩)) | (go_at_call 32; refine Calls.quiet_of_same ((l1In_any _ _ _ _).mono fun _ _ h => ⟨h.1, h.2.symm⟩)))
        go_wp2
        go_roundw
        case rel => exact ⟨k + 1, by omega, by go_num, fun j hj => by rcases Nat.lt_succ_iff_lt_or_eq.1 hj with h | rfl; exact HA.out j h; exact HR.out, by obtain ⟨p, rfl⟩ := HP.out; exact ⟨_, by rw [World.drewN_drewN]⟩⟩
        case measure => simp [intOf]; omega
      have hd0 : (decide (0 < k)) = true := by simp; omega
      have hcp := Lst.atPrevE (HH.out.keep (w' := wr) (by obtain ⟨p, rfl⟩ := HP.out; intro _ _; rfl)) hlt (by omega)
      have hk1 : 1 ≤ k := by omega
      have hwk : IntKind.i64.wrap ((k : Int) - 1) = (k : Int) - 1 := by rw [IntKind.wrap_i64]; omega
      have htk : ((k : Int) - 1).toNat = k - 1 := by omega
      have hbk : (0 : Int) ≤ (k : Int) - 1 := by omega
      have hbn : (k : Int) - 1 < (n : Int) := by omega
      cases hle3 : leB (nthE l k).1 (nthE l (k - 1)).1
      · have HR := Lib.hid (okE_yes hw hpr (.inr hle3))
        unfold leB at hle3
        rw [Bool.or_eq_false_iff] at hle3
        obtain ⟨hx1, hx2⟩ := hle3
        clear h0 fin
        go_wp2
        go_quiet (first | (go_at_call 31; refine Calls.quiet_of_same ((specWordValid_any _ _ hzk).mono fun _ _ h => ⟨h.1, h.2.symm⟩)) | (go_at_call 32; refine Calls.quiet_of_same ((l1In_any _ _ _ _).mono fun _ _ h => ⟨h.1, h.2.symm⟩)))
        go_wp2
        go_roundw
        case rel => exact ⟨k + 1, by omega, by go_num, fun j hj => by rcases Nat.lt_succ_iff_lt_or_eq.1 hj with h | rfl; exact HA.out j h; exact HR.out, by obtain ⟨p, rfl⟩ := HP.out; exact ⟨_, by rw [World.drewN_drewN]⟩⟩
        case measure => simp [intOf]; omega
      · have HF := Lib.hid (entsB_bad hkl (okE_no3 h0 hle3))
        unfold leB at hle3
        have HFI := Lib.hid fin
        clear fin h0
        go_wp2
        go_quiet (first | (go_at_call 31; refine Calls.quiet_of_same ((specWordValid_any _ _ hzk).mono fun _ _ h => ⟨h.1, h.2.symm⟩)) | (go_at_call 32; refine Calls.quiet_of_same ((l1In_any _ _ _ _).mono fun _ _ h => ⟨h.1, h.2.symm⟩)))
        go_wp2
        go_ret
        exact HFI.out _ _ HF.out
    · have HF := Lib.hid (entsB_end (l := l) (fun j hj => HA.out j (by have := HL.out; omega)))
      go_wp2
      go_ret
      obtain ⟨p, rfl⟩ := HP.out
      exact ⟨ret_bool (by rw [HF.out, HL.out]; simp; omega), p, rfl⟩
end Go.Proofs.Ytigegjgkjahhaaa
/-
  Chapter 8's model: paths.
-/
namespace Go.Proofs.Ytigegjgkjahhaaa
open Go.RowKit
set_option linter.unusedVariables false
theorem word_size {s : ByteArray} (h : wordB s = true) : s.size ≤ 8 := by
  rcases Nat.lt_or_ge 8 s.size with h1 | h1
  · have := wordV_long s h1
    unfold wordB at h; rw [this] at h; cases h
  · exact h1
end Go.Proofs.Ytigegjgkjahhaaa
/-
  Chapter 6's model: the text of a folder.
-/
namespace Go.Proofs.Ytigegjgkjahhaaa
open Go.RowKit
set_option linter.unusedVariables false
/-- A text goes on with an entry. -/
def addE (t : ByteArray) (p : Ent) : ByteArray := t ++ p.1 ++ ⟨#[61]⟩ ++ hexB p.2 ++ ⟨#[59]⟩
def textE (l : List Ent) : ByteArray := l.foldl addE ⟨#[100]⟩
def folderB (l : List Ent) : ByteArray := if entsB l = true then textE l else ByteArray.empty
theorem folderB_no {l : List Ent} (h : entsB l = false) : folderB l = ByteArray.empty := by unfold folderB; rw [h]; rfl
theorem folderB_yes {l : List Ent} (h : entsB l = true) : folderB l = textE l := by unfold folderB; rw [h]; rfl
theorem textE_snoc {l : List Ent} {k : Nat} (h : k < l.length) : textE (l.take (k + 1)) = addE (textE (l.take k)) (nthE l k) := by
  unfold textE; rw [take_snocE h, List.foldl_append]; rfl
theorem okE_word {l : List Ent} {k : Nat} (h : okE l k = true) : wordB (nthE l k).1 = true ∧ isPr (nthE l k).2 = true := by
  unfold okE at h; simp only [Bool.and_eq_true] at h; exact h.1
theorem specFolderText_any (x : Option Addr) (n cap : Nat) (l : List Ent) (B : Nat) (w : World) (h : Ents w B x n cap l) (hz : ∀ k, (nthE l k).1.size ≤ maxLen) : Calls Try.prog 13 #[.slice x n cap] w fun e w' => e = .returned (.string (folderB l)) ∧ ∃ q, w' = w.drewN q := by
  have HL := Lib.hid h.len
  have HH := Lib.hid h
  have hmx := h.max
  have hle := h.le
  unfold maxLen at hmx
  cases hv : entsB l
  · have HF := Lib.hid (folderB_no hv)
    go_enter Try.func13, Try.ntmps13
    go_wp2_with (go_at_call 21; refine (specEntriesValid_any _ _ _ _ _ _ h hz).mono ?_; rintro e w1 ⟨rfl, q, rfl⟩; rw [hv])
    go_ret
    exact ⟨ret_str HF.out.symm, _, rfl⟩
  · have HF := Lib.hid (folderB_yes hv)
    have HA := Lib.hid (entsB_at hv)
    have hn3 : n ≤ 3 := by have := HA.out.1; have := HL.out; omega
    go_enter Try.func13, Try.ntmps13
    go_wp2_with (go_at_call 21; refine (specEntriesValid_any _ _ _ _ _ _ h hz).mono ?_; rintro e w1 ⟨rfl, q, hq⟩; have HQ := Lib.hid hq; clear hq; rw [hv])
    clear h hz
    go_loopw [3, 4] (fun t i wr => ∃ k : Nat, k ≤ n ∧ i = .int .i64 k ∧ t = .string (textE (l.take k)) ∧ (textE (l.take k)).size ≤ 1 + 16 * k ∧ ∃ q, wr = w.drewN q) (fun _ i _ => n - (intOf i).toNat)
    case atStart => exact ⟨0, by omega, rfl, rfl, by rw [List.take_zero]; decide, q, HQ.out⟩
    case round =>
      obtain ⟨k, hk, rfl, rfl, hs, hp⟩ := hrel
      have HP := Lib.hid hp; clear hp
      by_cases hlt : k < n
      · have hkl : k < l.length := by have := HL.out; omega
        obtain ⟨b, off, rfl, hb, hc0, hc1⟩ := (HH.out.keep (w' := wr) (by obtain ⟨p, rfl⟩ := HP.out; intro _ _; rfl)).atE hlt
        obtain ⟨hw1, hw2⟩ := okE_word (HA.out.2 k hkl)
        have hw8 := word_size hw1
        have hx6 := hexB_size (nthE l k).2
        have HT := Lib.hid (textE_snoc hkl)
        obtain ⟨T, hT⟩ : ∃ T, T = textE (l.take k) := ⟨_, rfl⟩
        obtain ⟨q, hq⟩ : ∃ q, q = nthE l k := ⟨_, rfl⟩
        rw [← hT, ← hq] at HT
        rw [← hT] at hs ⊢
        rw [← hq] at hc0 hc1 hw8 hx6
        have b1 : (T ++ q.1).size ≤ 1 + 16 * k + 8 := by rw [ByteArray.size_append]; omega
        have b2 : (T ++ q.1 ++ ⟨#[61]⟩).size ≤ 1 + 16 * k + 9 := by rw [ByteArray.size_append]; show _ + 1 ≤ _; omega
        have b3 : (T ++ q.1 ++ ⟨#[61]⟩ ++ hexB q.2).size ≤ 1 + 16 * k + 15 := by rw [ByteArray.size_append]; omega
        have HS := Lib.hid (show (textE (l.take (k + 1))).size ≤ 1 + 16 * (k + 1) by rw [HT.out]; unfold addE; rw [ByteArray.size_append]; show _ + 1 ≤ _; omega)
        clear hT hq hw1 hw2
        go_wp2
        go_quiet (first | (go_at_call 22; refine Calls.quiet_of_same ((specHexText_any _ _).mono fun _ _ h => ⟨h.1, h.2.symm⟩)))
        go_wp2
        go_roundw
        case rel => exact ⟨k + 1, by omega, by go_num, by rw [HT.out]; rfl, HS.out, by obtain ⟨p, rfl⟩ := HP.out; exact ⟨_, by rw [World.drewN_drewN]⟩⟩
        case measure => simp [intOf]; omega
      · have e : l.take k = l := List.take_of_length_le (by have := HL.out; omega)
        have HE := Lib.hid e
        clear e
        go_wp2
        go_ret
        exact ⟨ret_str (by rw [HF.out, HE.out]), HP.out⟩
/-! ### reading -/
end Go.Proofs.Ytigegjgkjahhaaa
/-
  Chapter 7's model: files.
-/
namespace Go.Proofs.Ytigegjgkjahhaaa
open Go.RowKit
set_option linter.unusedVariables false
end Go.Proofs.Ytigegjgkjahhaaa
/-
  Chapter 6's model: the folder of a text.
-/
namespace Go.Proofs.Ytigegjgkjahhaaa
open Go.RowKit
set_option linter.unusedVariables false
end Go.Proofs.Ytigegjgkjahhaaa
/-
  Chapter 7's model: kinds of texts.
-/
namespace Go.Proofs.Ytigegjgkjahhaaa
open Go.RowKit
set_option linter.unusedVariables false
end Go.Proofs.Ytigegjgkjahhaaa
/-
  Chapter 8's model: the parts of a path.
-/
namespace Go.Proofs.Ytigegjgkjahhaaa
open Go.RowKit
set_option linter.unusedVariables false
end Go.Proofs.Ytigegjgkjahhaaa
/-
  Chapter 6's model: an entry is dropped.
-/
namespace Go.Proofs.Ytigegjgkjahhaaa
open Go.RowKit
set_option linter.unusedVariables false
def otherE (nm : ByteArray) (p : Ent) : Bool := !(p.1.toList == nm.toList)
/-- The entries without a name. -/
def lessE (l : List Ent) (nm : ByteArray) : List Ent := l.filter (otherE nm)
def dropE (l : List Ent) (nm : ByteArray) : List Ent × Bool := if entsB l = true then (lessE l nm, decide ((lessE l nm).length < l.length)) else ([], false)
theorem dropE_ok {l : List Ent} {nm : ByteArray} (h : entsB l = true) : dropE l nm = (lessE l nm, decide ((lessE l nm).length < l.length)) := by unfold dropE; rw [if_pos h]
end Go.Proofs.Ytigegjgkjahhaaa
/-
  Chapter 9's model: walking along names.
-/
namespace Go.Proofs.Ytigegjgkjahhaaa
open Go.RowKit
set_option linter.unusedVariables false
end Go.Proofs.Ytigegjgkjahhaaa
