/-
  Contracts of chapter 4's program: where a print stands in a store.
-/
import Derived.Test.YtglajbmopiolhaaStores2
import Derived.Test.YtglajbmopiolhaaChunks
import Derived.Test.YtglajbmopiolhaaMem
import Derived.Test.YtglajbmopiolhaaArgs
import Derived.Laws.Externs
import Derived.Shelf.RegionOpenPlain
import Derived.Test.YtglajbmopiolhaaStores
namespace Go.Proofs.Ytglajbmopiolhaa
open Go.RowKit
set_option linter.unusedVariables false
/-- Prints ascend. -/
def AscP (l : List Pc) : Prop := ∀ i j, i < j → j < l.length → (nthP l i).1 < (nthP l j).1
theorem store_asc {l : List Pc} (h : storeB l = true) : AscP l := fun i j hij hj => by
  rw [nthP_get (by omega), nthP_get hj]
  exact List.pairwise_iff_getElem.1 (storeB_iff.1 h).2.2 i j (by omega) hj hij
theorem two_at {w : World} {r : Nat} {u v : Value} {t : TypeId} (h : w.heap[r]? = some (.cells #[u, v] t (0, 0))) :
    w.cell? ⟨r, 0, none⟩ = some u ∧ w.cell? ⟨r, 1, none⟩ = some v ∧ w.frozen? ⟨r, 0, none⟩ = false ∧ w.frozen? ⟨r, 1, none⟩ = false := by
  refine ⟨?_, ?_, ?_, ?_⟩ <;> simp [World.cell?, World.frozen?, h]
end Go.Proofs.Ytglajbmopiolhaa
/-
  Contracts of chapter 4's program: copies of stores; valid stores.
-/
namespace Go.Proofs.Ytglajbmopiolhaa
open Go.RowKit
set_option linter.unusedVariables false
end Go.Proofs.Ytglajbmopiolhaa
/-
  Contracts of chapter 4's program: a piece is put in its place.
-/
namespace Go.Proofs.Ytglajbmopiolhaa
open Go.RowKit
set_option linter.unusedVariables false
end Go.Proofs.Ytglajbmopiolhaa
/-
  Contracts of chapter 4's program: putting, getting and joining.
-/
namespace Go.Proofs.Ytglajbmopiolhaa
open Go.RowKit
set_option linter.unusedVariables false
end Go.Proofs.Ytglajbmopiolhaa
/-
  Contracts of chapter 4's program: PutText, GetText, JoinStores.
-/
namespace Go.Proofs.Ytglajbmopiolhaa
open Go.RowKit
set_option linter.unusedVariables false
theorem printB_ge {s : ByteArray} (h : textB s = true) : 0 ≤ printB s := by unfold printB; rw [if_pos h]; exact (sumB_bd _).1
end Go.Proofs.Ytglajbmopiolhaa
/-
  Contract of chapter 4's program: JoinStores.
-/
namespace Go.Proofs.Ytglajbmopiolhaa
open Go.RowKit
set_option linter.unusedVariables false
end Go.Proofs.Ytglajbmopiolhaa
/-
  Chapter 4, plain: what stands in a store; a text put again.
-/
namespace Go.Proofs.Ytglajbmopiolhaa
open Go.RowKit
set_option linter.unusedVariables false
theorem store_lt {l : List Pc} (h : storeB l = true) {i j : Nat} (hj : j < l.length) (hij : i < j) : (nthP l i).1 < (nthP l j).1 := by
  have h3 := (storeB_iff.1 h).2.2
  rw [nthP_get (show i < l.length by omega), nthP_get hj]
  exact List.pairwise_iff_getElem.1 h3 i j (by omega) hj hij
theorem mem_at {l : List Pc} {q : Pc} (hq : q ∈ l) : ∃ k, k < l.length ∧ nthP l k = q := by
  obtain ⟨k, hk, e⟩ := List.mem_iff_getElem.1 hq
  exact ⟨k, hk, by rw [nthP_get hk]; exact e⟩
/-- A text that stands there changes nothing. -/
theorem put_again {l : List Pc} {t : ByteArray} (h : storeB l = true) (hm : (printB t, t) ∈ l) (h0 : ¬ printB t < 0) : putB l t = (l, printB t, true) := by
  obtain ⟨k, hk, e⟩ := mem_at hm
  have ha : atP (printB t) l = k := atP_eq (Nat.le_of_lt hk) (fun j hj => by have := store_lt h hk hj; rw [e] at this; exact this) (.inr (by rw [e]; exact Int.lt_irrefl _))
  exact putB_there h h0 ha (hereP_yes ha hk (by rw [e])) (by rw [e])
theorem text_of_print {t : ByteArray} (h : ¬ printB t < 0) : textB t = true := by
  cases ht : textB t
  · rw [printB_none ht] at h; omega
  · rfl
theorem put_yes {l : List Pc} {t : ByteArray} (h : (putB l t).2.2 = true) : storeB l = true ∧ textB t = true ∧ (putB l t).2.1 = printB t ∧ storeB (putB l t).1 = true ∧ (printB t, t) ∈ (putB l t).1 ∧ (∀ q ∈ l, q ∈ (putB l t).1) ∧ (putB l t).1.length ≤ l.length + 1 ∧ putB (putB l t).1 t = ((putB l t).1, printB t, true) := by
  cases hs : storeB l
  · rw [putB_bad hs] at h; cases h
  by_cases h1 : printB t < 0
  · rw [putB_text hs h1] at h; cases h
  have ht := text_of_print h1
  have hst := put_store hs ht
  cases hh : hereP (printB t) l
  · by_cases h4 : l.length = 40
    · rw [putB_full hs h1 hh h4] at h; cases h
    · have e := putB_new hs h1 rfl hh h4
      have hm : (printB t, t) ∈ (putB l t).1 := by rw [e]; simp
      refine ⟨rfl, ht, by rw [e], hst, hm, fun q hq => ?_, by rw [e]; simp; omega, put_again hst hm h1⟩
      rw [e]
      have hq' : q ∈ l.take (atP (printB t) l) ++ l.drop (atP (printB t) l) := by rw [List.take_append_drop]; exact hq
      rcases List.mem_append.1 hq' with h5 | h5
      · exact List.mem_append_left _ h5
      · exact List.mem_append_right _ (List.mem_cons_of_mem _ h5)
  · obtain ⟨ha, hp⟩ := hereP_iff.1 hh
    by_cases h3 : (nthP l (atP (printB t) l)).2 = t
    · have e := putB_there hs h1 rfl hh h3
      have hm : (printB t, t) ∈ (putB l t).1 := by
        rw [e]
        have := nthP_mem ha
        have e2 : nthP l (atP (printB t) l) = (printB t, t) := Prod.ext hp h3
        rwa [e2] at this
      exact ⟨rfl, ht, by rw [e], hst, hm, fun q hq => by rw [e]; exact hq, by rw [e]; simp, put_again hst hm h1⟩
    · rw [putB_other hs h1 rfl hh h3] at h; cases h
end Go.Proofs.Ytglajbmopiolhaa
/-
  Chapter 4, plain: what joined stores hold.
-/
namespace Go.Proofs.Ytglajbmopiolhaa
open Go.RowKit
set_option linter.unusedVariables false
end Go.Proofs.Ytglajbmopiolhaa
