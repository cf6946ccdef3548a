/-
  Entries in memory; chapter 6's model: valid entries.
-/
import Derived.Test.YtlbebbkkpjgboaaPrints
import Derived.Test.YtlbebbkkpjgboaaLst
import Derived.Test.YtlbebbkkpjgboaaHelp
import Derived.Test.YtlbebbkkpjgboaaHex
import Derived.Test.YtlbebbkkpjgboaaPieces2
import Derived.Laws.Cover1
namespace Go.Proofs.Ytlbebbkkpjgboaa
open Go.RowKit
set_option linter.unusedVariables false
/-- A name and a print. -/
abbrev Ent := ByteArray × Int
def enG (p : Ent) : List Value := [.string p.1, .int .i64 p.2]
theorem encEn : Enc enG 2 := ⟨fun _ => rfl, fun p u hu => by
  simp only [enG, List.mem_cons, List.not_mem_nil, or_false] at hu
  rcases hu with rfl | rfl <;> rfl, by decide⟩
def nthE (l : List Ent) (k : Nat) : Ent := l.getD k (ByteArray.empty, 0)
theorem nthE_get {l : List Ent} {k : Nat} (h : k < l.length) : nthE l k = l[k] := by unfold nthE; rw [List.getD_eq_getElem?_getD, List.getElem?_eq_getElem h]; rfl
theorem take_snocE {l : List Ent} {k : Nat} (h : k < l.length) : l.take (k + 1) = l.take k ++ [nthE l k] := by
  rw [List.take_succ_eq_append_getElem h, nthE_get h]
abbrev Ents (w : World) (B : Nat) (x : Option Addr) (n cap : Nat) (l : List Ent) : Prop := Lst enG w B x n cap l
theorem Lst.atE {w : World} {B : Nat} {x : Option Addr} {n cap : Nat} {l : List Ent} (h : Ents w B x n cap l) {k : Nat} (hk : k < n) :
    ∃ b off, x = some ⟨b, off, none⟩ ∧ b < B ∧ w.cell? ⟨b, off + k * 2, none⟩ = some (.string (nthE l k).1) ∧ w.cell? ⟨b, off + k * 2 + 1, none⟩ = some (.int .i64 (nthE l k).2) := by
  obtain ⟨b, off, rfl, hb, h0⟩ := Lst.at encEn h (k := k) (j := 0) (v := .string (nthE l k).1) (ByteArray.empty, 0) hk (by decide) rfl
  obtain ⟨b', off', e, _, h1⟩ := Lst.at encEn h (k := k) (j := 1) (v := .int .i64 (nthE l k).2) (ByteArray.empty, 0) hk (by decide) rfl
  simp only [Option.some.injEq, Addr.mk.injEq, and_true] at e
  obtain ⟨rfl, rfl⟩ := e
  exact ⟨b, off, rfl, hb, h0, h1⟩
theorem Lst.atPrevE {w : World} {B : Nat} {b off n cap : Nat} {l : List Ent} (h : Ents w B (some ⟨b, off, none⟩) n cap l) {k : Nat} (hk : k < n) (h0 : 0 < k) :
    w.cell? ⟨b, off + (k - 1) * 2, none⟩ = some (.string (nthE l (k - 1)).1) := by
  obtain ⟨b', off', e, _, h1, _⟩ := h.atE (k := k - 1) (by omega)
  simp only [Option.some.injEq, Addr.mk.injEq, and_true] at e
  obtain ⟨rfl, rfl⟩ := e
  exact h1
abbrev OwnE (w : World) (base : Nat) (v : Value) (l : List Ent) : Prop := OwnL enG 84 2 w base v l
theorem Try.infoEn : (Try.prog.info? 84).map (fun i => (i.zero, i.size, i.bytes)) = some (some (.agg #[.string ByteArray.empty, .int .i64 0]), 2, 24) := by kernel_rfl
theorem eltEn : Elt 75 84 2 (.agg #[.string ByteArray.empty, .int .i64 0]) := elt_of Try.underlying75 Try.infoEn (by decide) rfl (by decide)
/-! ### valid entries -/
/-- a is not behind b. -/
def leB (a b : ByteArray) : Bool := Op.bytesLess a.toList b.toList || a.toList == b.toList
def okE (l : List Ent) (k : Nat) : Bool := wordB (nthE l k).1 && isPr (nthE l k).2 && (decide (k = 0) || !leB (nthE l k).1 (nthE l (k - 1)).1)
def entsB (l : List Ent) : Bool := decide (l.length ≤ 3) && (List.range l.length).all (okE l)
theorem okE_no1 {l : List Ent} {k : Nat} (h : wordB (nthE l k).1 = false) : okE l k = false := by unfold okE; rw [h]; rfl
theorem okE_no2 {l : List Ent} {k : Nat} (h : isPr (nthE l k).2 = false) : okE l k = false := by unfold okE; rw [h]; simp
theorem okE_no3 {l : List Ent} {k : Nat} (h0 : k ≠ 0) (h : leB (nthE l k).1 (nthE l (k - 1)).1 = true) : okE l k = false := by unfold okE; rw [h]; simp [h0]
theorem okE_yes {l : List Ent} {k : Nat} (h1 : wordB (nthE l k).1 = true) (h2 : isPr (nthE l k).2 = true) (h3 : k = 0 ∨ leB (nthE l k).1 (nthE l (k - 1)).1 = false) : okE l k = true := by
  unfold okE; rw [h1, h2]; rcases h3 with h | h
  · simp [h]
  · rw [h]; simp
theorem entsB_bad {l : List Ent} {k : Nat} (hk : k < l.length) (h : okE l k = false) : entsB l = false := by
  unfold entsB
  have : (List.range l.length).all (okE l) = false := List.all_eq_false.2 ⟨k, List.mem_range.2 hk, by rw [h]; simp⟩
  rw [this, Bool.and_false]
theorem entsB_end {l : List Ent} (h : ∀ j, j < l.length → okE l j = true) : entsB l = decide (l.length ≤ 3) := by
  unfold entsB
  have : (List.range l.length).all (okE l) = true := List.all_eq_true.2 fun j hj => h j (List.mem_range.1 hj)
  rw [this, Bool.and_true]
theorem entsB_at {l : List Ent} (h : entsB l = true) : l.length ≤ 3 ∧ ∀ j, j < l.length → okE l j = true := by
  unfold entsB at h
  simp only [Bool.and_eq_true, decide_eq_true_eq, List.all_eq_true, List.mem_range] at h
  exact h
theorem specEntriesValid_any (x : Option Addr) (n cap : Nat) (l : List Ent) (B : Nat) (w : World) (h : Ents w B x n cap l) (hz : ∀ k, (nthE l k).1.size ≤ maxLen) : Calls Try.prog 71 #[.slice x n cap] w (QuietB (entsB l) w) := by
  have HL := Lib.hid h.len
  have HH := Lib.hid h
  have HZ := Lib.hid hz
  have hmx := h.max
  have hle := h.le
  clear h hz
  unfold maxLen at hmx
  go_enter Try.func71, Try.ntmps71
  go_wp2
  go_loopw [3] (fun i wr => ∃ k : Nat, k ≤ n ∧ i = .int .i64 k ∧ (∀ j, j < k → okE l j = true) ∧ ∃ q, wr = w.drewN q) (fun i _ => n - (intOf i).toNat)
  case atStart => exact ⟨0, by omega, rfl, fun j hj => by omega, 0, rfl⟩
  case round =>
    obtain ⟨k, hk, rfl, ha, hp⟩ := hrel
    have HA := Lib.hid ha; have HP := Lib.hid hp; clear ha hp
    have fin : ∀ (b : Bool) (q : Nat), entsB l = b → QuietB (entsB l) w (.returned (.bool b)) (wr.drewN q) := fun b q hb => by
      obtain ⟨p, rfl⟩ := HP.out
      exact ⟨ret_bool hb.symm, _, by rw [World.drewN_drewN]⟩
    by_cases hlt : k < n
    · have hkl : k < l.length := by have := HL.out; omega
      obtain ⟨b, off, rfl, hb, hc0, hc1⟩ := (HH.out.keep (w' := wr) (by obtain ⟨p, rfl⟩ := HP.out; intro _ _; rfl)).atE hlt
      have hzk := HZ.out k
      cases hw : wordB (nthE l k).1
      · have HF := Lib.hid (entsB_bad hkl (okE_no1 hw))
        have HFI := Lib.hid fin
        clear fin
        go_wp2
        go_quiet (first | (go_at_call 80; refine Calls.quiet_of_same ((specWordValid_any _ _ hzk).mono fun _ _ h => ⟨h.1, h.2.symm⟩)) | (go_at_call 46; refine Calls.quiet_of_same ((l1In_any _ _ _ _).mono fun _ _ h => ⟨h.1, h.2.symm⟩)))
        go_wp2
        go_ret
        exact HFI.out _ _ HF.out
      cases hpr : isPr (nthE l k).2
      · have HF := Lib.hid (entsB_bad hkl (okE_no2 hpr))
        have hpi : in3 (nthE l k).2 0 16777212 = false := hpr
        have HFI := Lib.hid fin
        clear fin
        go_wp2
        go_quiet (first | (go_at_call 80; refine Calls.quiet_of_same ((specWordValid_any _ _ hzk).mono fun _ _ h => ⟨h.1, h.2.symm⟩)) | (go_at_call 46; refine Calls.quiet_of_same ((l1In_any _ _ _ _).mono fun _ _ h => ⟨h.1, h.2.symm⟩)))
        go_wp2
        go_ret
        exact HFI.out _ _ HF.out
      have hpi : in3 (nthE l k).2 0 16777212 = true := hpr
      by_cases h0 : k = 0
      · have HR := Lib.hid (okE_yes hw hpr (.inl h0))
        have hd0 : (decide (0 < k)) = false := by simp; omega
        clear h0 fin
        go_wp2
        go_quiet (first | (go_at_call 80; refine Calls.quiet_of_same ((specWordValid_any _ _ hzk).mono fun _ _ h => ⟨h.1, h.2.symm⟩)) | (go_at_call 46; refine Calls.quiet_of_same ((l1In_any _ _ _ _).mono fun _ _ h => ⟨h.1, h.2.symm⟩)))
        go_wp2
        go_roundw
        case rel => exact ⟨k + 1, by omega, by go_num, fun j hj => by rcases Nat.lt_succ_iff_lt_or_eq.1 hj with h | rfl; exact HA.out j h; exact HR.out, by obtain ⟨p, rfl⟩ := HP.out; exact ⟨_, by rw [World.drewN_drewN]⟩⟩
        case measure => simp [intOf]; omega
      have hd0 : (decide (0 < k)) = true := by simp; omega
      have hcp := Lst.atPrevE (HH.out.keep (w' := wr) (by obtain ⟨p, rfl⟩ := HP.out; intro _ _; rfl)) hlt (by omega)
      have hk1 : 1 ≤ k := by omega
      have hwk : IntKind.i64.wrap ((k : Int) - 1) = (k : Int) - 1 := by rw [IntKind.wrap_i64]; omega
      have htk : ((k : Int) - 1).toNat = k - 1 := by omega
      have hbk : (0 : Int) ≤ (k : Int) - 1 := by omega
      have hbn : (k : Int) - 1 < (n : Int) := by omega
      cases hle3 : leB (nthE l k).1 (nthE l (k - 1)).1
      · have HR := Lib.hid (okE_yes hw hpr (.inr hle3))
        unfold leB at hle3
        rw [Bool.or_eq_false_iff] at hle3
        obtain ⟨hx1, hx2⟩ := hle3
        clear h0 fin
        go_wp2
        go_quiet (first | (go_at_call 80; refine Calls.quiet_of_same ((specWordValid_any _ _ hzk).mono fun _ _ h => ⟨h.1, h.2.symm⟩)) | (go_at_call 46; refine Calls.quiet_of_same ((l1In_any _ _ _ _).mono fun _ _ h => ⟨h.1, h.2.symm⟩)))
        go_wp2
        go_roundw
        case rel => exact ⟨k + 1, by omega, by go_num, fun j hj => by rcases Nat.lt_succ_iff_lt_or_eq.1 hj with h | rfl; exact HA.out j h; exact HR.out, by obtain ⟨p, rfl⟩ := HP.out; exact ⟨_, by rw [World.drewN_drewN]⟩⟩
        case measure => simp [intOf]; omega
      · have HF := Lib.hid (entsB_bad hkl (okE_no3 h0 hle3))
        unfold leB at hle3
        have HFI := Lib.hid fin
        clear fin h0
        go_wp2
        go_quiet (first | (go_at_call 80; refine Calls.quiet_of_same ((specWordValid_any _ _ hzk).mono fun _ _ h => ⟨h.1, h.2.symm⟩)) | (go_at_call 46; refine Calls.quiet_of_same ((l1In_any _ _ _ _).mono fun _ _ h => ⟨h.1, h.2.symm⟩)))
        go_wp2
        go_ret
        exact HFI.out _ _ HF.out
    · have HF := Lib.hid (entsB_end (l := l) (fun j hj => HA.out j (by have := HL.out; omega)))
      go_wp2
      go_ret
      obtain ⟨p, rfl⟩ := HP.out
      exact ⟨ret_bool (by rw [HF.out, HL.out]; simp; omega), p, rfl⟩
end Go.Proofs.Ytlbebbkkpjgboaa
