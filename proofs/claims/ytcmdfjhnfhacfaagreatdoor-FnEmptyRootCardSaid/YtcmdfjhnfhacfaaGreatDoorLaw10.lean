/-
  The walks of chapter 10's laws: what was dropped, written again; two writes in either order.
-/
import Derived.Test.YtcmdfjhnfhacfaaGreatDoorDraw15
import Derived.Test.YtcmdfjhnfhacfaaGreatDoorImpl10
import Derived.Test.YtcmdfjhnfhacfaaGreatDoorImpl10b
import Derived.Test.YtcmdfjhnfhacfaaGreatDoorMath10b
namespace Go.Proofs.YtcmdfjhnfhacfaaGreatDoor
open Go.RowKit
set_option linter.unusedVariables false
theorem putB_short {l : List Pc} {t : ByteArray} (h : Short 60 l) : Short 60 (putB l t).1 := by
  cases ho : (putB l t).2.2
  · rcases (put_no ho).2 with e | e
    · rw [e]; exact h
    · rw [e]; intro q hq; cases hq
  · exact store_short (put_yes ho).2.2.2.1
theorem write_short {l : List Pc} {root : Int} {path content : ByteArray} (h : Short 60 l) : Short 60 (writeB l root path content).1 := by
  cases ho : (writeB l root path content).2.2
  · unfold writeB at ho ⊢
    split
    · intro q hq; cases hq
    rename_i h1
    rw [if_neg h1] at ho
    split
    · exact h
    rename_i h2
    rw [if_neg h2] at ho
    split
    · exact h
    rename_i h3
    rw [if_neg h3] at ho
    split
    · exact h
    · rename_i h4; rw [if_neg h4] at ho; cases ho
  · exact store_short (write_made ho).2.2.2.2.2.2.1.1
theorem dropAt_short {l : List Pc} {root : Int} {path : ByteArray} (h : Short 60 l) : Short 60 (dropAtB l root path).1 := by
  cases ho : (dropAtB l root path).2.2
  · unfold dropAtB at ho ⊢
    split
    · intro q hq; cases hq
    rename_i h1
    rw [if_neg h1] at ho
    split
    · exact h
    rename_i h2
    rw [if_neg h2] at ho
    split
    · rename_i h3
      rw [if_pos h3] at ho
      split
      · exact h
      · rename_i h4; rw [if_neg h4] at ho; cases ho
    · rename_i h3
      rw [if_neg h3] at ho
      split
      · exact h
      · rename_i h4; rw [if_neg h4] at ho; cases ho
  · exact store_short (drop_nowhere ho).1
end Go.Proofs.YtcmdfjhnfhacfaaGreatDoor
