/-
  Chapter 10's model: a name is dropped.
-/
import Derived.Test.YtigegjgkjahhaaaSet
import Derived.Deep.CutBlock
namespace Go.Proofs.Ytigegjgkjahhaaa
open Go.RowKit
set_option linter.unusedVariables false
end Go.Proofs.Ytigegjgkjahhaaa
/-
  Chapter 10's model: writing and dropping at a path.
-/
namespace Go.Proofs.Ytigegjgkjahhaaa
open Go.RowKit
set_option linter.unusedVariables false
theorem specEmptyRoot_any (x : Option Addr) (n cap : Nat) (l : List Pc) (B : Nat) (w : World) (h : Pcs w B x n cap l) (hB : B ≤ w.heap.size) (hz : ∀ k, (nthP l k).2.size ≤ maxLen) : Calls Try.prog 5 #[.slice x n cap] w (RdPut (putB l (folderB [])) w) := by
  have hft : (folderB []).size ≤ maxLen := Nat.le_trans (folderB_size _) (by unfold maxLen; omega)
  have HLS := Lib.hid (h.alloc hB (.cells #[] 45))
  have HE := Lib.hid (OwnL.new enG 45 (size := 2) w)
  have HB0 := Lib.hid ((Below.refl w.heap.size w).alloc (Nat.le_refl _) (.cells #[] 45))
  go_enter Try.func5, Try.ntmps5
  go_wp2_with (first
    | (go_at_call 13; refine (specFolderText_any _ _ _ [] _ _ (OwnL.lst' HE.out) (fun k => by simp [nthE])).mono ?_; rintro e w1 ⟨rfl, q, rfl⟩)
    | (go_at_call 12; refine (specPutText_any x n cap l _ B _ (HLS.out.drewN _) (le_drewN (Nat.le_trans hB HB0.out.size)) hz hft).mono ?_; rintro e w2 ⟨v, rfl, ho, hb⟩; obtain ⟨x2, n2, c2, rfl, hlo⟩ := ho.lst; have HLO := Lib.hid hlo; have HB2 := Lib.hid ((below_drewN HB0.out _).trans (hb.mono (le_drewN HB0.out.size))); clear ho hb hlo))
  go_ret3
  exact ⟨_, _, _, rfl, HLO.out, HB2.out⟩
theorem putB_few (l : List Pc) (t : ByteArray) : (putB l t).1.length ≤ 40 := by
  cases h : storeB l
  · rw [putB_bad h]; simp
  · have h40 := (storeB_at h).1
    have hat := atP_le (printB t) l
    unfold putB putL
    rw [if_neg (by rw [h]; simp)]
    repeat' split
    all_goals simp
    all_goals omega
section
variable {ops : Array Oper} {rest : List Oper} {o : Oper} {a : Act} {Q : Exit → Act → World → Prop}
variable {t e : TypeId} {size : Nat} {z : Value} {w : World}
end
end Go.Proofs.Ytigegjgkjahhaaa
/-
  Chapter 10's model: dropping at a path.
-/
namespace Go.Proofs.Ytigegjgkjahhaaa
open Go.RowKit
set_option linter.unusedVariables false
end Go.Proofs.Ytigegjgkjahhaaa
