/-
  Plain functions of chapter 4 (stores), and their laws.
-/
import Derived.Test.YtglajbmopiolhaaGreatDoorArgs
import Derived.Test.YtglajbmopiolhaaGreatDoorPrints
namespace Go.Proofs.YtglajbmopiolhaaGreatDoor
open Go.RowKit
set_option linter.unusedVariables false
def okPc (p : Pc) : Bool := textB p.2 && decide (printB p.2 = p.1)
/-- The piece k stands right. -/
def okAt (l : List Pc) (k : Nat) : Bool := okPc (nthP l k) && (decide (k = 0) || decide ((nthP l (k - 1)).1 < (nthP l k).1))
def storeB (l : List Pc) : Bool := decide (l.length ≤ 40) && (List.range l.length).all (okAt l)
theorem okAt_no1 {l : List Pc} {k : Nat} (h : textB (nthP l k).2 = false) : okAt l k = false := by unfold okAt okPc; rw [h]; rfl
theorem okAt_no2 {l : List Pc} {k : Nat} (h : printB (nthP l k).2 ≠ (nthP l k).1) : okAt l k = false := by unfold okAt okPc; simp [h]
theorem okAt_no3 {l : List Pc} {k : Nat} (h0 : k ≠ 0) (h : ¬ (nthP l (k - 1)).1 < (nthP l k).1) : okAt l k = false := by unfold okAt; simp [h0]; intro _; omega
theorem okAt_yes {l : List Pc} {k : Nat} (h1 : textB (nthP l k).2 = true) (h2 : printB (nthP l k).2 = (nthP l k).1) (h3 : k = 0 ∨ (nthP l (k - 1)).1 < (nthP l k).1) : okAt l k = true := by
  unfold okAt okPc; simp only [h1, h2, decide_true, Bool.and_self, Bool.true_and, Bool.or_eq_true, decide_eq_true_eq]; exact h3
theorem storeB_bad {l : List Pc} {k : Nat} (hk : k < l.length) (h : okAt l k = false) : storeB l = false := by
  unfold storeB
  have : (List.range l.length).all (okAt l) = false := List.all_eq_false.2 ⟨k, List.mem_range.2 hk, by rw [h]; simp⟩
  rw [this, Bool.and_false]
theorem storeB_end {l : List Pc} (h : ∀ j, j < l.length → okAt l j = true) : storeB l = decide (l.length ≤ 40) := by
  unfold storeB
  have : (List.range l.length).all (okAt l) = true := List.all_eq_true.2 fun j hj => h j (List.mem_range.1 hj)
  rw [this, Bool.and_true]
theorem storeB_at {l : List Pc} (h : storeB l = true) : l.length ≤ 40 ∧ ∀ j, j < l.length → okAt l j = true := by
  unfold storeB at h
  simp only [Bool.and_eq_true, decide_eq_true_eq, List.all_eq_true, List.mem_range] at h
  exact h
theorem okPc_iff {p : Pc} : okPc p = true ↔ textB p.2 = true ∧ printB p.2 = p.1 := by unfold okPc; simp
theorem nthP_mem {l : List Pc} {k : Nat} (h : k < l.length) : nthP l k ∈ l := by rw [nthP_get h]; exact List.getElem_mem _
theorem storeB_iff {l : List Pc} : storeB l = true ↔ l.length ≤ 40 ∧ (∀ p ∈ l, okPc p = true) ∧ l.Pairwise (fun a b => a.1 < b.1) := by
  constructor
  · intro h
    obtain ⟨h1, h2⟩ := storeB_at h
    refine ⟨h1, fun p hp => ?_, List.pairwise_iff_getElem.2 fun i j hi hj hij => ?_⟩
    · obtain ⟨k, hk, rfl⟩ := List.mem_iff_getElem.1 hp
      have := h2 k hk
      unfold okAt at this
      rw [Bool.and_eq_true] at this
      rw [← nthP_get hk]; exact this.1
    · rw [← nthP_get hi, ← nthP_get hj]
      have step : ∀ j, j < l.length → j ≠ 0 → (nthP l (j - 1)).1 < (nthP l j).1 := fun j hj h0 => by
        have := h2 j hj
        unfold okAt at this
        simp only [Bool.and_eq_true, Bool.or_eq_true, decide_eq_true_eq] at this
        rcases this.2 with h | h
        · exact absurd h h0
        · exact h
      have all : ∀ d, ∀ j, j < l.length → j = i + 1 + d → (nthP l i).1 < (nthP l j).1 := by
        intro d
        induction d with
        | zero => intro j hj e; have := step j hj (by omega); rwa [show j - 1 = i by omega] at this
        | succ d ih => intro j hj e; have h1 := ih (j - 1) (by omega) (by omega); have h2 := step j hj (by omega); omega
      exact all (j - i - 1) j hj (by omega)
  · rintro ⟨h1, h2, h3⟩
    rw [storeB_end, decide_eq_true_eq]
    · exact h1
    · intro j hj
      have hp := okPc_iff.1 (h2 _ (nthP_mem hj))
      refine okAt_yes hp.1 hp.2 ?_
      by_cases h0 : j = 0
      · exact .inl h0
      · right
        rw [nthP_get (show j - 1 < l.length by omega), nthP_get hj]
        exact List.pairwise_iff_getElem.1 h3 (j - 1) j (by omega) hj (by omega)
/-! ### looking a print up -/
def getB (l : List Pc) (p : Int) : Option ByteArray := (l.find? fun q => decide (q.1 = p)).map (·.2)
theorem getB_none {l : List Pc} {p : Int} (h : ∀ j, j < l.length → (nthP l j).1 ≠ p) : getB l p = none := by
  unfold getB
  rw [List.find?_eq_none.2 (fun q hq => ?_)]
  · rfl
  · obtain ⟨k, hk, rfl⟩ := List.mem_iff_getElem.1 hq
    have := h k hk
    rw [nthP_get hk] at this
    simpa using this
theorem getB_some {l : List Pc} {p : Int} {k : Nat} (hk : k < l.length) (h : ∀ j, j < k → (nthP l j).1 ≠ p) (he : (nthP l k).1 = p) : getB l p = some (nthP l k).2 := by
  have e : l = l.take k ++ nthP l k :: l.drop (k + 1) := by rw [nthP_get hk, ← List.drop_eq_getElem_cons hk, List.take_append_drop]
  have hn : (l.take k).find? (fun q => decide (q.1 = p)) = none := List.find?_eq_none.2 fun q hq => by
    obtain ⟨j, hj, rfl⟩ := List.mem_iff_getElem.1 hq
    have hjk : j < k := by rw [List.length_take] at hj; omega
    have := h j hjk
    rw [nthP_get (by omega)] at this
    rw [List.getElem_take]
    simpa using this
  have : l.find? (fun q => decide (q.1 = p)) = some (nthP l k) := by
    rw [e, List.find?_append, hn, Option.none_or, ← e, List.find?_cons_of_pos]
    simpa using he
  unfold getB
  rw [this]; rfl
def getT (l : List Pc) (p : Int) : ByteArray := (getB l p).getD ByteArray.empty
def getO (l : List Pc) (p : Int) : Bool := (getB l p).isSome
/-! ### putting a text -/
/-- How many prints lie ahead of p. -/
def atP (p : Int) : List Pc → Nat
  | [] => 0
  | q :: r => if q.1 < p then atP p r + 1 else 0
theorem atP_eq {p : Int} : ∀ {l : List Pc} {k : Nat}, k ≤ l.length → (∀ j, j < k → (nthP l j).1 < p) → (k = l.length ∨ ¬ (nthP l k).1 < p) → atP p l = k
  | [], k, hk, h, h' => by simp at hk; subst hk; rfl
  | q :: r, 0, hk, h, h' => by
    rcases h' with h' | h'
    · simp at h'
    · have h1 : ¬ q.1 < p := h'
      rw [atP, if_neg h1]
  | q :: r, k + 1, hk, h, h' => by
    have h0 : q.1 < p := h 0 (by omega)
    rw [atP, if_pos h0, atP_eq (k := k) (by simpa using hk) (fun j hj => h (j + 1) (by omega)) (h'.imp (fun e => by simpa using e) (fun e => e))]
theorem atP_le (p : Int) : ∀ l : List Pc, atP p l ≤ l.length
  | [] => Nat.le_refl _
  | q :: r => by
    rw [atP]; have := atP_le p r
    split
    · simpa using this
    · omega
def hereP (p : Int) (l : List Pc) : Bool := decide (atP p l < l.length) && decide ((nthP l (atP p l)).1 = p)
def putL (l : List Pc) (t : ByteArray) : List Pc := l.take (atP (printB t) l) ++ (printB t, t) :: l.drop (atP (printB t) l)
/-- What putting a text makes: the store, the print, whether it is in. -/
def putB (l : List Pc) (t : ByteArray) : List Pc × Int × Bool :=
  if storeB l = false then ([], -1, false)
  else if printB t < 0 then (l, -1, false)
  else if hereP (printB t) l = true then (if (nthP l (atP (printB t) l)).2 = t then (l, printB t, true) else (l, -1, false))
  else if l.length = 40 then (l, -1, false)
  else (putL l t, printB t, true)
theorem putB_bad {l : List Pc} {t : ByteArray} (h : storeB l = false) : putB l t = ([], -1, false) := by unfold putB; rw [if_pos h]
theorem putB_text {l : List Pc} {t : ByteArray} (h : storeB l = true) (h1 : printB t < 0) : putB l t = (l, -1, false) := by unfold putB; rw [if_neg (by rw [h]; simp), if_pos h1]
theorem hereP_yes {p : Int} {l : List Pc} {k : Nat} (ha : atP p l = k) (hk : k < l.length) (h : (nthP l k).1 = p) : hereP p l = true := by unfold hereP; rw [ha]; simp [hk, h]
theorem hereP_no1 {p : Int} {l : List Pc} {k : Nat} (ha : atP p l = k) (hk : ¬ k < l.length) : hereP p l = false := by unfold hereP; rw [ha]; simp [hk]
theorem hereP_no2 {p : Int} {l : List Pc} {k : Nat} (ha : atP p l = k) (h : (nthP l k).1 ≠ p) : hereP p l = false := by unfold hereP; rw [ha]; simp [h]
theorem putB_other {l : List Pc} {t : ByteArray} {k : Nat} (h : storeB l = true) (h1 : ¬ printB t < 0) (ha : atP (printB t) l = k) (h2 : hereP (printB t) l = true) (h3 : (nthP l k).2 ≠ t) : putB l t = (l, -1, false) := by
  unfold putB; rw [if_neg (by rw [h]; simp), if_neg h1, if_pos h2, ha, if_neg h3]
theorem putB_there {l : List Pc} {t : ByteArray} {k : Nat} (h : storeB l = true) (h1 : ¬ printB t < 0) (ha : atP (printB t) l = k) (h2 : hereP (printB t) l = true) (h3 : (nthP l k).2 = t) : putB l t = (l, printB t, true) := by
  unfold putB; rw [if_neg (by rw [h]; simp), if_neg h1, if_pos h2, ha, if_pos h3]
theorem putB_full {l : List Pc} {t : ByteArray} (h : storeB l = true) (h1 : ¬ printB t < 0) (h2 : hereP (printB t) l = false) (h3 : l.length = 40) : putB l t = (l, -1, false) := by
  unfold putB; rw [if_neg (by rw [h]; simp), if_neg h1, if_neg (by rw [h2]; simp), if_pos h3]
theorem putB_new {l : List Pc} {t : ByteArray} {k : Nat} (h : storeB l = true) (h1 : ¬ printB t < 0) (ha : atP (printB t) l = k) (h2 : hereP (printB t) l = false) (h3 : l.length ≠ 40) : putB l t = (l.take k ++ (printB t, t) :: l.drop k, printB t, true) := by
  unfold putB putL; rw [if_neg (by rw [h]; simp), if_neg h1, if_neg (by rw [h2]; simp), if_neg h3, ha]
end Go.Proofs.YtglajbmopiolhaaGreatDoor
/-
  Contracts of chapter 4's model: stores.
-/
namespace Go.Proofs.YtglajbmopiolhaaGreatDoor
open Go.RowKit
set_option linter.unusedVariables false
theorem printB_none {s : ByteArray} (h : textB s = false) : printB s = -1 := by unfold printB; rw [h]; rfl
/-- The number of a piece before. -/
theorem Lst.atPrev {w : World} {B : Nat} {b off n cap : Nat} {l : List Pc} (h : Pcs w B (some ⟨b, off, none⟩) n cap l) {k : Nat} (hk : k < n) (h0 : 0 < k) :
    w.cell? ⟨b, off + (k - 1) * 2, none⟩ = some (.int .i64 (nthP l (k - 1)).1) := by
  obtain ⟨b', off', e, _, h1, _⟩ := h.atP (k := k - 1) (by omega)
  simp only [Option.some.injEq, Addr.mk.injEq, and_true] at e
  obtain ⟨rfl, rfl⟩ := e
  exact h1
theorem specL4Get_any (x : Option Addr) (n cap : Nat) (l : List Pc) (p : Int) (B : Nat) (w : World) (h : Pcs w B x n cap l) : Calls Tryz.prog 83 #[.slice x n cap, .int .i64 p] w fun e w' => e = .returned (.tuple #[.string (getT l p), .bool (getO l p)]) ∧ w = w' := by
  have HL := Lib.hid h.len
  have HH := Lib.hid h
  have hmx := h.max
  have hle := h.le
  clear h
  unfold maxLen at hmx
  go_enter Tryz.func83, Tryz.ntmps83
  go_wp2
  go_loop [6] (fun i => ∃ k : Nat, k ≤ n ∧ i = .int .i64 k ∧ ∀ j, j < k → (nthP l j).1 ≠ p) (fun i => n - (intOf i).toNat)
  case atStart => exact ⟨0, by omega, rfl, fun j hj => by omega⟩
  case round =>
    obtain ⟨k, hk, rfl, hn⟩ := hrel
    have HN := Lib.hid hn; clear hn
    by_cases hlt : k < n
    · obtain ⟨b, off, rfl, hb, hc0, hc1⟩ := HH.out.atP hlt
      by_cases he : (nthP l k).1 = p
      · have HF := Lib.hid (getB_some (by have := HL.out; omega) HN.out he)
        have hd : ((nthP l k).1 == p) = true := by simpa using he
        clear he
        go_wp2
        go_ret2
        exact ⟨by unfold getT getO; rw [HF.out]; rfl, rfl⟩
      · have hd : ((nthP l k).1 == p) = false := by simpa using he
        have HX := Lib.hid he
        clear he
        go_wp2
        go_round
        case rel => exact ⟨k + 1, by omega, by go_num, fun j hj => by rcases Nat.lt_succ_iff_lt_or_eq.1 hj with h | rfl; exact HN.out j h; exact HX.out⟩
        case measure => simp [intOf]; omega
    · have HF := Lib.hid (getB_none (l := l) (p := p) (fun j hj => HN.out j (by have := HL.out; omega)))
      go_wp2
      go_ret2
      exact ⟨by unfold getT getO; rw [HF.out]; rfl, rfl⟩
theorem specStoreValid_any (x : Option Addr) (n cap : Nat) (l : List Pc) (B : Nat) (w : World) (h : Pcs w B x n cap l) (hz : ∀ k, (nthP l k).2.size ≤ maxLen) : Calls Tryz.prog 39 #[.slice x n cap] w (QuietB (storeB l) w) := by
  have HL := Lib.hid h.len
  have HH := Lib.hid h
  have HZ := Lib.hid hz
  have hmx := h.max
  have hle := h.le
  clear h hz
  unfold maxLen at hmx
  go_enter Tryz.func39, Tryz.ntmps39
  go_wp2
  go_loopw [3] (fun i wr => ∃ k : Nat, k ≤ n ∧ i = .int .i64 k ∧ (∀ j, j < k → okAt l j = true) ∧ ∃ q, wr = w.drewN q) (fun i _ => n - (intOf i).toNat)
  case atStart => exact ⟨0, by omega, rfl, fun j hj => by omega, 0, rfl⟩
  case round =>
    obtain ⟨k, hk, rfl, ha, hp⟩ := hrel
    have HA := Lib.hid ha; have HP := Lib.hid hp; clear ha hp
    have fin : ∀ (b : Bool) (q : Nat), storeB l = b → QuietB (storeB l) w (.returned (.bool b)) (wr.drewN q) := fun b q hb => by
      obtain ⟨p, rfl⟩ := HP.out
      exact ⟨ret_bool hb.symm, _, by rw [World.drewN_drewN]⟩
    by_cases hlt : k < n
    · have hkl : k < l.length := by have := HL.out; omega
      obtain ⟨b, off, rfl, hb, hc0, hc1⟩ := (HH.out.keep (w' := wr) (by obtain ⟨p, rfl⟩ := HP.out; intro _ _; rfl)).atP hlt
      have hzk := HZ.out k
      cases ht : textB (nthP l k).2
      · have HF := Lib.hid (storeB_bad hkl (okAt_no1 ht))
        have HFI := Lib.hid fin
        clear fin
        go_wp2
        go_quiet (first | (go_at_call 67; refine Calls.quiet_of_same ((specTextValid_any _ _ hzk).mono fun _ _ h => ⟨h.1, h.2.symm⟩)) | (go_at_call 68; refine Calls.quiet_of_same ((specPrintOf_any _ _ hzk).mono fun _ _ h => ⟨h.1, h.2.symm⟩)))
        go_wp2
        go_ret
        exact HFI.out _ _ HF.out
      · by_cases he : printB (nthP l k).2 = (nthP l k).1
        · have hd : (printB (nthP l k).2 != (nthP l k).1) = false := by simpa using he
          by_cases h0 : k = 0
          · have HR := Lib.hid (okAt_yes ht he (.inl h0))
            have hd0 : (decide (0 < k)) = false := by simp; omega
            clear he h0
            clear fin
            go_wp2
            go_quiet (first | (go_at_call 67; refine Calls.quiet_of_same ((specTextValid_any _ _ hzk).mono fun _ _ h => ⟨h.1, h.2.symm⟩)) | (go_at_call 68; refine Calls.quiet_of_same ((specPrintOf_any _ _ hzk).mono fun _ _ h => ⟨h.1, h.2.symm⟩)))
            go_wp2
            go_roundw
            case rel => exact ⟨k + 1, by omega, by go_num, fun j hj => by rcases Nat.lt_succ_iff_lt_or_eq.1 hj with h | rfl; exact HA.out j h; exact HR.out, by obtain ⟨p, rfl⟩ := HP.out; exact ⟨_, by rw [World.drewN_drewN]⟩⟩
            case measure => simp [intOf]; omega
          · have hd0 : (decide (0 < k)) = true := by simp; omega
            have hcp := Lst.atPrev (HH.out.keep (w' := wr) (by obtain ⟨p, rfl⟩ := HP.out; intro _ _; rfl)) hlt (by omega)
            have hk1 : 1 ≤ k := by omega
            by_cases h3 : (nthP l (k - 1)).1 < (nthP l k).1
            · have HR := Lib.hid (okAt_yes ht he (.inr h3))
              clear he h0
              clear fin
              go_wp2
              go_quiet (first | (go_at_call 67; refine Calls.quiet_of_same ((specTextValid_any _ _ hzk).mono fun _ _ h => ⟨h.1, h.2.symm⟩)) | (go_at_call 68; refine Calls.quiet_of_same ((specPrintOf_any _ _ hzk).mono fun _ _ h => ⟨h.1, h.2.symm⟩)))
              go_wp2
              go_roundw
              case rel => exact ⟨k + 1, by omega, by go_num, fun j hj => by rcases Nat.lt_succ_iff_lt_or_eq.1 hj with h | rfl; exact HA.out j h; exact HR.out, by obtain ⟨p, rfl⟩ := HP.out; exact ⟨_, by rw [World.drewN_drewN]⟩⟩
              case measure => simp [intOf]; omega
            · have HF := Lib.hid (storeB_bad hkl (okAt_no3 h0 h3))
              clear he h0
              have HFI := Lib.hid fin
              clear fin
              go_wp2
              go_quiet (first | (go_at_call 67; refine Calls.quiet_of_same ((specTextValid_any _ _ hzk).mono fun _ _ h => ⟨h.1, h.2.symm⟩)) | (go_at_call 68; refine Calls.quiet_of_same ((specPrintOf_any _ _ hzk).mono fun _ _ h => ⟨h.1, h.2.symm⟩)))
              go_wp2
              go_ret
              exact HFI.out _ _ HF.out
        · have HF := Lib.hid (storeB_bad hkl (okAt_no2 he))
          have hd : (printB (nthP l k).2 != (nthP l k).1) = true := by simpa using he
          clear he
          have HFI := Lib.hid fin
          clear fin
          go_wp2
          go_quiet (first | (go_at_call 67; refine Calls.quiet_of_same ((specTextValid_any _ _ hzk).mono fun _ _ h => ⟨h.1, h.2.symm⟩)) | (go_at_call 68; refine Calls.quiet_of_same ((specPrintOf_any _ _ hzk).mono fun _ _ h => ⟨h.1, h.2.symm⟩)))
          go_wp2
          go_ret
          exact HFI.out _ _ HF.out
    · have HF := Lib.hid (storeB_end (l := l) (fun j hj => HA.out j (by have := HL.out; omega)))
      go_wp2
      go_ret
      obtain ⟨p, rfl⟩ := HP.out
      exact ⟨ret_bool (by rw [HF.out, HL.out]; simp; omega), p, rfl⟩
end Go.Proofs.YtglajbmopiolhaaGreatDoor
/-
  Laws of stores: places, putting, getting, joining.
-/
namespace Go.Proofs.YtglajbmopiolhaaGreatDoor
open Go.RowKit
set_option linter.unusedVariables false
theorem atP_lt {p : Int} : ∀ {l : List Pc} {j : Nat}, j < atP p l → (nthP l j).1 < p
  | [], j, h => by simp [atP] at h
  | q :: r, j, h => by
    rw [atP] at h
    split at h
    · rename_i hq
      cases j with
      | zero => exact hq
      | succ j => exact atP_lt (l := r) (j := j) (by omega)
    · omega
theorem atP_ge {p : Int} : ∀ {l : List Pc}, atP p l < l.length → p ≤ (nthP l (atP p l)).1
  | [], h => by simp at h
  | q :: r, h => by
    rw [atP] at h ⊢
    by_cases hq : q.1 < p
    · rw [if_pos hq] at h ⊢
      exact atP_ge (l := r) (by simpa using h)
    · rw [if_neg hq]
      show p ≤ q.1
      omega
theorem hereP_iff {p : Int} {l : List Pc} : hereP p l = true ↔ atP p l < l.length ∧ (nthP l (atP p l)).1 = p := by unfold hereP; simp
theorem take_lt {p : Int} {l : List Pc} {q : Pc} (h : q ∈ l.take (atP p l)) : q.1 < p := by
  obtain ⟨j, hj, rfl⟩ := List.mem_iff_getElem.1 h
  rw [List.length_take] at hj
  rw [List.getElem_take, ← nthP_get (by omega)]
  exact atP_lt (by omega)
theorem drop_gt {p : Int} {l : List Pc} (hs : l.Pairwise fun a b => a.1 < b.1) (hh : hereP p l = false) {q : Pc} (h : q ∈ l.drop (atP p l)) : p < q.1 := by
  have hne : ∀ (h : atP p l < l.length), (nthP l (atP p l)).1 ≠ p := fun h he => by rw [hereP_iff.2 ⟨h, he⟩] at hh; cases hh
  obtain ⟨j, hj, rfl⟩ := List.mem_iff_getElem.1 h
  rw [List.length_drop] at hj
  rw [List.getElem_drop]
  have h1 := atP_ge (p := p) (l := l) (by omega)
  have h2 := hne (by omega)
  rw [nthP_get (by omega)] at h1 h2
  rcases Nat.eq_zero_or_pos j with rfl | h0
  · simp only [Nat.add_zero]; omega
  · have := List.pairwise_iff_getElem.1 hs (atP p l) (atP p l + j) (by omega) (by omega) (by omega)
    omega
/-- A piece that is right and not there, put in its place, leaves a store. -/
theorem store_in {l : List Pc} {p : Pc} (h : storeB l = true) (hp : okPc p = true) (hh : hereP p.1 l = false) (hl : l.length ≠ 40) : storeB (l.take (atP p.1 l) ++ p :: l.drop (atP p.1 l)) = true := by
  obtain ⟨h1, h2, h3⟩ := storeB_iff.1 h
  have hat := atP_le p.1 l
  refine storeB_iff.2 ⟨by simp; omega, fun q hq => ?_, ?_⟩
  · rcases List.mem_append.1 hq with h | h
    · exact h2 q (List.mem_of_mem_take h)
    · rcases List.mem_cons.1 h with rfl | h
      · exact hp
      · exact h2 q (List.mem_of_mem_drop h)
  · refine List.pairwise_append.2 ⟨h3.sublist (List.take_sublist _ _), List.pairwise_cons.2 ⟨fun q hq => drop_gt h3 hh hq, h3.sublist (List.drop_sublist _ _)⟩, fun a ha b hb => ?_⟩
    have h4 := take_lt ha
    rcases List.mem_cons.1 hb with rfl | hb
    · exact h4
    · have := drop_gt h3 hh hb; omega
theorem put_store {l : List Pc} {t : ByteArray} (h : storeB l = true) (ht : textB t = true) : storeB (putB l t).1 = true := by
  unfold putB
  rw [if_neg (by rw [h]; simp)]
  split
  · exact h
  split
  · split <;> exact h
  split
  · exact h
  · rename_i h1 h2 h3
    exact store_in (p := (printB t, t)) h (okPc_iff.2 ⟨ht, rfl⟩) (by simpa using h2) h3
/-! ### getting -/
theorem getB_here {l : List Pc} {p : Int} (h : hereP p l = true) : getB l p = some (nthP l (atP p l)).2 := by
  obtain ⟨h1, h2⟩ := hereP_iff.1 h
  exact getB_some h1 (fun j hj => by have := atP_lt hj; omega) h2
theorem getB_gone {l : List Pc} {p : Int} (hs : l.Pairwise fun a b => a.1 < b.1) (h : hereP p l = false) : getB l p = none := by
  refine getB_none fun j hj => ?_
  rcases Nat.lt_or_ge j (atP p l) with h1 | h1
  · have := atP_lt h1; omega
  · have := drop_gt hs h (q := nthP l j) (by
      rw [nthP_get hj]
      exact List.mem_iff_getElem.2 ⟨j - atP p l, by rw [List.length_drop]; omega, by rw [List.getElem_drop]; congr 1; omega⟩)
    omega
/-! ### putting a piece -/
/-- A piece is put into a store: what there is then, and whether it is in. -/
def putP (l : List Pc) (p : Pc) : List Pc × Bool :=
  if hereP p.1 l = true then (l, decide ((nthP l (atP p.1 l)).2 = p.2)) else if l.length = 40 then (l, false) else (l.take (atP p.1 l) ++ p :: l.drop (atP p.1 l), true)
theorem putP_here {l : List Pc} {p : Pc} (h : hereP p.1 l = true) : putP l p = (l, decide ((nthP l (atP p.1 l)).2 = p.2)) := by unfold putP; rw [if_pos h]
theorem putP_full {l : List Pc} {p : Pc} (h : hereP p.1 l = false) (h' : l.length = 40) : putP l p = (l, false) := by unfold putP; rw [if_neg (by rw [h]; simp), if_pos h']
theorem putP_new {l : List Pc} {p : Pc} (h : hereP p.1 l = false) (h' : l.length ≠ 40) : putP l p = (l.take (atP p.1 l) ++ p :: l.drop (atP p.1 l), true) := by unfold putP; rw [if_neg (by rw [h]; simp), if_neg h']
theorem putB_of {l : List Pc} {t : ByteArray} (h : storeB l = true) (h1 : 0 ≤ printB t) : putB l t = ((putP l (printB t, t)).1, (if (putP l (printB t, t)).2 = true then printB t else -1), (putP l (printB t, t)).2) := by
  cases hh : hereP (printB t) l
  · by_cases h4 : l.length = 40
    · rw [putP_full (p := (printB t, t)) hh h4, putB_full h (by omega) hh h4]; rfl
    · rw [putP_new (p := (printB t, t)) hh h4, putB_new h (by omega) rfl hh h4]; rfl
  · rw [putP_here (p := (printB t, t)) hh]
    by_cases h5 : (nthP l (atP (printB t) l)).2 = t
    · rw [putB_there h (by omega) rfl hh h5]; simp [h5]
    · rw [putB_other h (by omega) rfl hh h5]; simp [h5]
end Go.Proofs.YtglajbmopiolhaaGreatDoor
