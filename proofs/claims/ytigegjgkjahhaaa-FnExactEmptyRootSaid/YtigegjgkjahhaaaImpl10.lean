/-
  Contracts of chapter 10's program: the empty root, writes and drops along paths.
-/
import Derived.Test.YtigegjgkjahhaaaFols
import Derived.Test.YtigegjgkjahhaaaWalks9
import Derived.Test.YtigegjgkjahhaaaFold3
import Derived.Lib.IndexLaws
import Derived.Test.YtigegjgkjahhaaaDrop
import Derived.Test.YtigegjgkjahhaaaFoldMath
import Derived.Test.YtigegjgkjahhaaaShelf
import Derived.Shelf.Strings.SplitCore
import Derived.Lib.SplitLaws
import Derived.Lib.Join
import Derived.Deep.CutRange
import Derived.Deep.CutBlock
namespace Go.Proofs.Ytigegjgkjahhaaa
open Go.RowKit
set_option linter.unusedVariables false
theorem implEmptyRoot_any (x : Option Addr) (n cap : Nat) (l : List Pc) (B : Nat) (w : World) (h : Pcs w B x n cap l) (hB : B ≤ w.heap.size) (hz : ∀ k, (nthP l k).2.size ≤ 1048576) :
    Calls Try.prog 7 #[.slice x n cap] w (NewPut (putB l (folderB [])).1 (putB l (folderB [])).2.1 (putB l (folderB [])).2.2 w) := by
  have HH := Lib.hid h; have HZ := Lib.hid hz
  have hft : (folderB []).size ≤ maxLen := Nat.le_trans (folderB_size _) (by unfold maxLen; omega)
  clear h hz
  go_enter Try.func7, Try.ntmps7
  go_wp2_with fail
  refine (implFolderText_any _ _ _ [] 0 _ (Lst.empty _ _ _ _ _ (by decide)) (Nat.zero_le _) (fun k => by simp [nthE])).mono ?_
  rintro e w1 ⟨rfl, hb⟩
  have HB := Lib.hid hb; have HL := Lib.hid (HH.out.below hb hB)
  have hs1 := hb.size
  clear hb
  go_wp2_with fail
  refine (implPutText_any x n cap l _ B _ HL.out (Nat.le_trans hB hs1) (mil_max HZ.out) hft).mono ?_
  rintro e w2 ⟨v, rfl, ho, hb⟩
  have HO := Lib.hid (ho.mono hs1); have HB2 := Lib.hid (HB.out.trans (hb.mono hs1))
  clear ho hb
  go_wp2_with fail
  go_ret3
  exact ⟨v, rfl, HO.out, HB2.out⟩
end Go.Proofs.Ytigegjgkjahhaaa
