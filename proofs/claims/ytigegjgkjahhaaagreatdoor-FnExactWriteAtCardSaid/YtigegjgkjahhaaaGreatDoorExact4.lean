/-
  The walks of chapter 4's exact laws: StoreValid, GetText.
-/
import Derived.Test.YtigegjgkjahhaaaGreatDoorImpl4
import Derived.Test.YtigegjgkjahhaaaGreatDoorArgs
namespace Go.Proofs.YtigegjgkjahhaaaGreatDoor
open Go.RowKit
set_option linter.unusedVariables false
end Go.Proofs.YtigegjgkjahhaaaGreatDoor
/-
  The walks of chapter 4's exact laws: PutText, JoinStores.
-/
namespace Go.Proofs.YtigegjgkjahhaaaGreatDoor
open Go.RowKit
set_option linter.unusedVariables false
theorem putB_len (l : List Pc) (t : ByteArray) : (putB l t).1.length ≤ 40 := by
  cases h : storeB l
  · rw [putB_bad h]; simp
  · have h40 := (storeB_at h).1
    have hat := atP_le (printB t) l
    unfold putB putL
    rw [if_neg (by rw [h]; simp)]
    repeat' split
    all_goals simp
    all_goals omega
theorem joinGo_store : ∀ {b out l : List Pc}, storeB out = true → (∀ q ∈ b, okPc q = true) → joinGo out b = some l → storeB l = true
  | [], out, l, h, _, e => by simp only [joinGo, Option.some.injEq] at e; rw [← e]; exact h
  | q :: r, out, l, h, hq, e => by
    rw [joinGo] at e
    split at e
    · exact joinGo_store (put_store h (okPc_iff.1 (hq q (List.mem_cons_self ..))).1) (fun p hp => hq p (List.mem_cons_of_mem _ hp)) e
    · cases e
theorem joinSL_store {a b : List Pc} : joinSL a b = [] ∨ storeB (joinSL a b) = true := by
  unfold joinSL
  split
  · rename_i h
    rw [Bool.and_eq_true] at h
    cases hj : joinGo a b with
    | none => exact .inl rfl
    | some l => exact .inr (joinGo_store h.1 (storeB_iff.1 h.2).2.1 hj)
  · exact .inl rfl
theorem joinSL_len (a b : List Pc) : (joinSL a b).length ≤ 40 := by
  rcases joinSL_store (a := a) (b := b) with h | h
  · rw [h]; simp
  · exact (storeB_at h).1
end Go.Proofs.YtigegjgkjahhaaaGreatDoor
