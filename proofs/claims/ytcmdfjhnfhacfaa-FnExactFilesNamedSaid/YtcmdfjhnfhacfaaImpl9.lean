/-
  Contracts of chapter 9's program: walking along a path, reading a file, the names of a folder.
-/
import Derived.Test.YtcmdfjhnfhacfaaWalks9
import Derived.Test.YtcmdfjhnfhacfaaFold4
import Derived.Test.YtcmdfjhnfhacfaaImpl8
namespace Go.Proofs.Ytcmdfjhnfhacfaa
open Go.RowKit
set_option linter.unusedVariables false
/-! ### a name's print -/
theorem gotT_out {l : List Pc} {p : Int} (h : storeB l = false) : gotT l p = ByteArray.empty := by unfold gotT; rw [h]; rfl
theorem empty_fold : isFold ByteArray.empty = false := by rfl
theorem got_out {l : List Pc} {p : Int} (h : gotO l p = false) : gotT l p = ByteArray.empty := by
  unfold gotO at h; unfold gotT
  cases hs : storeB l
  · rfl
  · rw [hs, Bool.true_and] at h
    unfold getO at h; unfold getT
    cases hg : getB l p with
    | none => rfl
    | some s => rw [hg] at h; cases h
/-! ### the folder and the file of a print -/
theorem getFolder_any (x : Option Addr) (n cap : Nat) (l : List Pc) (p : Int) (B : Nat) (w : World) (h : Pcs w B x n cap l) (hB : B ≤ w.heap.size) (hz : ∀ k, (nthP l k).2.size ≤ 1048576) :
    Calls Try.prog 31 #[.slice x n cap, .int .i64 p] w (NewEB (foldL (gotT l p)) (isFold (gotT l p)) w) := by
  have HH := Lib.hid h; have HZ := Lib.hid hz
  have hgz := gotT_size (p := p) hz
  have HE := Lib.hid (show gotO l p = false → foldL (gotT l p) = [] ∧ isFold (gotT l p) = false from fun e => by rw [got_out e]; exact ⟨foldL_no empty_fold, empty_fold⟩)
  clear h hz
  go_enter Try.func31, Try.ntmps31
  go_wp2_with fail
  refine (implGetText_any x n cap l p B _ HH.out hB (mil_max HZ.out)).mono ?_
  rintro e w1 ⟨rfl, hb⟩
  have HB := Lib.hid hb
  have hs1 := hb.size
  clear hb
  cases hg : gotO l p
  · have HF := Lib.hid (HE.out hg)
    clear hg HE
    go_wp2_with fail
    go_ret2
    exact newEB_of HF.out ⟨_, rfl, OwnL.nil _ _ _ _ _, HB.out⟩
  · clear HE
    go_wp2_with fail
    refine (implReadFolder_any _ _ hgz).mono ?_
    rintro e w2 ⟨v, rfl, ho, hb⟩
    have HO := Lib.hid (ho.mono hs1); have HB2 := Lib.hid (HB.out.trans (hb.mono hs1))
    clear ho hb
    go_wp2_with fail
    go_ret2
    exact ⟨_, rfl, HO.out, HB2.out⟩
theorem getFile_any (x : Option Addr) (n cap : Nat) (l : List Pc) (p : Int) (B : Nat) (w : World) (h : Pcs w B x n cap l) (hB : B ≤ w.heap.size) (hz : ∀ k, (nthP l k).2.size ≤ 1048576) :
    Calls Try.prog 32 #[.slice x n cap, .int .i64 p] w (BelowTB (fileT (gotT l p), isFile (gotT l p)) w) := by
  have HH := Lib.hid h; have HZ := Lib.hid hz
  have hgz := gotT_size (p := p) hz
  have HE := Lib.hid (show gotO l p = false → (fileT (gotT l p), isFile (gotT l p)) = (ByteArray.empty, false) from fun e => by rw [got_out e, fileT_no (s := ByteArray.empty) rfl]; rfl)
  clear h hz
  go_enter Try.func32, Try.ntmps32
  go_wp2_with fail
  refine (implGetText_any x n cap l p B _ HH.out hB (mil_max HZ.out)).mono ?_
  rintro e w1 ⟨rfl, hb⟩
  have HB := Lib.hid hb
  have hs1 := hb.size
  clear hb
  cases hg : gotO l p
  · have HF := Lib.hid (HE.out hg)
    clear hg HE
    go_wp2_with fail
    go_ret2
    exact belowTB_of HF.out HB.out
  · clear HE
    go_wp2_with fail
    refine (implReadFile_any _ _ hgz).mono ?_
    rintro e w2 ⟨rfl, hb⟩
    have HB2 := Lib.hid (HB.out.trans (hb.mono hs1))
    clear hb
    go_wp2_with fail
    go_ret2
    exact belowTB_of rfl HB2.out
/-! ### the chapter's functions -/
end Go.Proofs.Ytcmdfjhnfhacfaa
