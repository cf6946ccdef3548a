/-
  Contracts of chapter 10's program: the empty root, writes and drops along paths.
-/
import Derived.Test.YtigegjgkjahhaaaFols
import Derived.Test.YtigegjgkjahhaaaImpl9
import Derived.Test.YtigegjgkjahhaaaImpl7
import Derived.Test.YtigegjgkjahhaaaFold4
import Derived.Deep.CutRange
import Derived.Deep.CutBlock
namespace Go.Proofs.Ytigegjgkjahhaaa
open Go.RowKit
set_option linter.unusedVariables false
theorem newPut_at {T : List Pc × Int × Bool} {L : List Pc} {p : Int} {b : Bool} {w w' : World} {v : Value} (h : T = (L, p, b)) (ho : OwnP w' w.heap.size v L) (hb : Below w.heap.size w w') : NewPut T.1 T.2.1 T.2.2 w (.returned (.tuple #[v, .int .i64 p, .bool b])) w' := by
  rw [h]; exact ⟨v, rfl, ho, hb⟩
theorem newPut_up {T U : List Pc × Int × Bool} {w w' : World} {v : Value} (h : T = U) (ho : OwnP w' w.heap.size v U.1) (hb : Below w.heap.size w w') : NewPut T.1 T.2.1 T.2.2 w (.returned (.tuple #[v, .int .i64 U.2.1, .bool U.2.2])) w' := by
  subst h; exact ⟨v, rfl, ho, hb⟩
theorem implEmptyRoot_any (x : Option Addr) (n cap : Nat) (l : List Pc) (B : Nat) (w : World) (h : Pcs w B x n cap l) (hB : B ≤ w.heap.size) (hz : ∀ k, (nthP l k).2.size ≤ 1048576) :
    Calls Try.prog 7 #[.slice x n cap] w (NewPut (putB l (folderB [])).1 (putB l (folderB [])).2.1 (putB l (folderB [])).2.2 w) := by
  have HH := Lib.hid h; have HZ := Lib.hid hz
  have hft : (folderB []).size ≤ maxLen := Nat.le_trans (folderB_size _) (by unfold maxLen; omega)
  clear h hz
  go_enter Try.func7, Try.ntmps7
  go_wp2_with fail
  refine (implFolderText_any _ _ _ [] 0 _ (Lst.empty _ _ _ _ _ (by decide)) (Nat.zero_le _) (fun k => by simp [nthE])).mono ?_
  rintro e w1 ⟨rfl, hb⟩
  have HB := Lib.hid hb; have HL := Lib.hid (HH.out.below hb hB)
  have hs1 := hb.size
  clear hb
  go_wp2_with fail
  refine (implPutText_any x n cap l _ B _ HL.out (Nat.le_trans hB hs1) (mil_max HZ.out) hft).mono ?_
  rintro e w2 ⟨v, rfl, ho, hb⟩
  have HO := Lib.hid (ho.mono hs1); have HB2 := Lib.hid (HB.out.trans (hb.mono hs1))
  clear ho hb
  go_wp2_with fail
  go_ret3
  exact ⟨v, rfl, HO.out, HB2.out⟩
theorem below_ofDrew {w w' : World} (h : Below w.drew.heap.size w.drew w') : Below w.heap.size w w' := ⟨h.os, h.tape, h.output, h.size, h.block⟩
theorem copyB_any (x : Option Addr) (n cap : Nat) (l : List Pc) (B : Nat) (w : World) (h : Pcs w B x n cap l) (hB : B ≤ w.heap.size) (hs : storeB l = true) : Calls Try.prog 24 #[.slice x n cap] w (NewP l w) :=
  copyPieces_any x n cap l B w h hB (fun k => Nat.le_trans (short_nth (store_short hs) k) (by decide)) (by have := (storeB_at hs).1; have := h.len; omega)
/-- The names of a path that is written or dropped, and whether it may be. -/
def namesB (l : List Pc) (path : ByteArray) : List ByteArray × Bool := if (storeB l && isPath path && !decide (partsB path = [])) = true then (partsB path, true) else ([], false)
theorem namesB_no {l : List Pc} {path : ByteArray} (h : storeB l = false ∨ isPath path = false ∨ partsB path = []) : namesB l path = ([], false) := by
  unfold namesB
  rcases h with h | h | h
  · rw [h]; simp
  · rw [h]; simp
  · rw [h]; simp
theorem namesB_yes {l : List Pc} {path : ByteArray} (h1 : storeB l = true) (h2 : isPath path = true) (h3 : partsB path ≠ []) : namesB l path = (partsB path, true) := by
  unfold namesB; rw [h1, h2, decide_eq_false h3]; rfl
/-- A row of slices and a bool. -/
def NewF (Es : List (List Ent)) (b : Bool) (w : World) (e : Ending) (w' : World) : Prop := ∃ v, e = .returned (.tuple #[v, .bool b]) ∧ (b = true → OwnF w' w.heap.size v Es) ∧ Below w.heap.size w w'
theorem newF_no {Es : List (List Ent)} {b : Bool} {w w' : World} {v : Value} (h : b = false) (hb : Below w.heap.size w w') : NewF Es b w (.returned (.tuple #[v, .bool false])) w' := by subst h; exact ⟨v, rfl, fun h => (by cases h), hb⟩
theorem newF_of {Es Fs : List (List Ent)} {b c : Bool} {w w' : World} {v : Value} (h : b = c) (h' : Es = Fs) (ho : OwnF w' w.heap.size v Fs) (hb : Below w.heap.size w w') : NewF Es b w (.returned (.tuple #[v, .bool c])) w' := by subst h; subst h'; exact ⟨v, rfl, fun _ => ho, hb⟩
theorem writeB_bad {l : List Pc} {root : Int} {path content : ByteArray} (h : (namesB l path).2 = false ∨ contentB content = false) : writeB l root path content = ([], -1, false) := by
  unfold writeB
  rw [if_pos]
  rcases h with h | h
  · unfold namesB at h
    split at h
    · cases h
    · rename_i h1
      rw [Bool.not_eq_true] at h1
      rw [h1]; rfl
  · rw [h, Bool.and_false]
theorem namesB_true {l : List Pc} {path : ByteArray} (h : (namesB l path).2 = true) : (namesB l path).1 = partsB path ∧ (storeB l && isPath path && !decide (partsB path = [])) = true := by
  unfold namesB at h ⊢
  split at h
  · rename_i h1; rw [if_pos h1]; exact ⟨rfl, h1⟩
  · cases h
theorem cond_facts {l : List Pc} {path : ByteArray} (h : (storeB l && isPath path && !decide (partsB path = [])) = true) : storeB l = true ∧ isPath path = true ∧ partsB path ≠ [] := by
  simp only [Bool.and_eq_true, Bool.not_eq_true', decide_eq_false_iff_not] at h
  exact ⟨h.1.1, h.1.2, h.2⟩
end Go.Proofs.Ytigegjgkjahhaaa
