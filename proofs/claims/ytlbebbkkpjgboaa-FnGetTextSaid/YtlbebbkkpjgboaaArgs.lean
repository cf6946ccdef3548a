/-
  What an argument that came in reads as, for the laws' walks.
-/
import Derived.Test.YtlbebbkkpjgboaaLst
import Derived.Test.YtlbebbkkpjgboaaDraw0
import Derived.ProofKit
import Derived.OpenShut
import Derived.ChangeOld
import Derived.Deep.Strs
namespace Go.Proofs.Ytlbebbkkpjgboaa
open Go.RowKit Go.ChangeShapes Go.WideShapes Go.ChangeAt
set_option linter.unusedVariables false
theorem nodes_bd {W : World} {a : Addr} {i : Nat} {v v0 : Value} (h : W.cell? (a.add i) = some v) (h0 : W.cell? (a.add 0) = some v0) : ∃ b off, a = ⟨b, off, none⟩ ∧ b < W.heap.size ∧ W.cell? ⟨b, off + i, none⟩ = some v := by
  obtain ⟨b, off, spot⟩ := a
  have hspot : spot = none := by simpa [Addr.add] using World.cell?_spot h0
  subst hspot
  rw [addr_add] at h
  exact ⟨b, off, rfl, World.block_lt_of_cell? W ⟨b, off + i, none⟩ h, h⟩
/-- A slice of texts that came in. -/
def ArgS (w : World) (a : Option Addr) (len cap : Nat) (l : List ByteArray) : Prop := Strs w w.heap.size a len cap l ∧ ∀ k, (nthS l k).size ≤ maxLen
theorem argS_of {H : Type} {enc : TypeId × Value → H} {W : World} {a : Option Addr} {len cap : Nat} {d : DataW H} {p : List MemPlace} (h : DataW.Trod enc Try.prog W 0 (fun _ => true) true 86 (.slice a len cap) d p) : ∃ l, ArgS W a len cap l := by
  obtain ⟨fuel, hf⟩ := h
  rcases Deep.open_strs Try.underlying86 Try.underlying9 (by kernel_rfl) hf with ⟨hcs, _⟩ | ⟨x, l, c, m, Sx, hcs, _, hl, hm, hmm, _, hc⟩
  · simp [Value.cells] at hcs
    obtain ⟨rfl, rfl, rfl⟩ := hcs
    exact ⟨[], ⟨rfl, Nat.le_refl _, by unfold maxLen; omega, Rds.nil _ _ _⟩, fun k => by simp [nthS]⟩
  · simp [Value.cells] at hcs
    obtain ⟨rfl, rfl, rfl⟩ := hcs
    simp at hmm
    subst hmm
    refine ⟨(List.range len).map Sx, ⟨by simp, hl, hm, fun j u hu => ?_⟩, fun k => ?_⟩
    · rw [strG_map, List.map_map, List.getElem?_map] at hu
      obtain ⟨i, hi, rfl⟩ := Option.map_eq_some_iff.1 hu
      obtain ⟨hj, hi⟩ := List.getElem?_eq_some_iff.1 hi
      simp at hi hj
      subst hi
      obtain ⟨b, off, rfl, h1, h2⟩ := nodes_bd (hc j (by omega)).1 (hc 0 (by omega)).1
      exact ⟨b, off, rfl, h1, h2⟩
    · unfold nthS
      rw [List.getD_eq_getElem?_getD]
      cases hk : ((List.range len).map Sx)[k]? with
      | none => simp
      | some t =>
        obtain ⟨i, hi, rfl⟩ := List.mem_map.1 (List.mem_of_getElem? hk)
        have := List.mem_range.1 hi
        exact (hc i (by omega)).2
/-- A slice of numbers that came in. -/
def ArgI (w : World) (a : Option Addr) (len cap : Nat) (l : List Int) : Prop := Ints w w.heap.size a len cap l
theorem argI_of {H : Type} {enc : TypeId × Value → H} {W : World} {a : Option Addr} {len cap : Nat} {d : DataW H} {p : List MemPlace} (h : DataW.Trod enc Try.prog W 0 (fun _ => true) true 31 (.slice a len cap) d p) : ∃ l, ArgI W a len cap l := by
  obtain ⟨fuel, hf⟩ := h
  rcases open_ints Try.underlying31 Try.underlying3 (by kernel_rfl) hf with ⟨hcs, _⟩ | ⟨x, l, c, zs, hcs, _, hl, hm, hz, _, hcell, hwz⟩
  · simp [Value.cells] at hcs
    obtain ⟨rfl, rfl, rfl⟩ := hcs
    exact ⟨[], rfl, Nat.le_refl _, by unfold maxLen; omega, Rds.nil _ _ _⟩
  · simp [Value.cells] at hcs
    obtain ⟨rfl, rfl, rfl⟩ := hcs
    have hz' : zs.length = cap := by simpa using hz
    refine ⟨zs.take len, by rw [List.length_take]; omega, hl, hm, fun j u hu => ?_⟩
    have hj : j < len := by
      have := (List.getElem?_eq_some_iff.1 hu).1
      simp only [List.length_map, List.length_take] at this; omega
    obtain ⟨b, off, rfl, h1, h2⟩ := nodes_bd (hcell j (by omega)) (hcell 0 (by omega))
    rw [List.getElem?_map, List.getElem?_take, if_pos hj, List.getElem?_eq_getElem (by omega)] at hu
    simp only [Option.map_some, Option.some.injEq] at hu
    subst hu
    rw [List.getD_eq_getElem?_getD, List.getElem?_eq_getElem (by omega)] at h2
    exact ⟨b, off, rfl, h1, h2⟩
/-- A slice of bytes that came in. -/
def ArgB (w : World) (a : Option Addr) (len cap : Nat) (_ : List Int) : Prop := Bytes w.heap.size w a len ∧ len ≤ cap ∧ cap ≤ maxLen
theorem argB_of {H : Type} {enc : TypeId × Value → H} {W : World} {a : Option Addr} {len cap : Nat} {d : DataW H} {p : List MemPlace} (h : DataW.Trod enc Try.prog W 0 (fun _ => true) true 22 (.slice a len cap) d p) : ∃ l, ArgB W a len cap l := by
  obtain ⟨fuel, hf⟩ := h
  rcases open_ints Try.underlying22 Try.underlying5 (by kernel_rfl) hf with ⟨hcs, _⟩ | ⟨x, l, c, zs, hcs, _, hl, hm, hz, _, hcell, hwz⟩
  · simp [Value.cells] at hcs
    obtain ⟨rfl, rfl, rfl⟩ := hcs
    exact ⟨[], fun i hi => by omega, Nat.le_refl _, by unfold maxLen; omega⟩
  · simp [Value.cells] at hcs
    obtain ⟨rfl, rfl, rfl⟩ := hcs
    have hz' : zs.length = cap := by simpa using hz
    refine ⟨[], fun i hi => ?_, hl, hm⟩
    obtain ⟨b, off, rfl, h1, h2⟩ := nodes_bd (hcell i (by omega)) (hcell 0 (by omega))
    have hmem : zs.getD i 0 ∈ zs := by rw [List.getD_eq_getElem?_getD, List.getElem?_eq_getElem (by omega)]; simp
    have hw := hwz _ hmem
    have hb : 0 ≤ zs.getD i 0 ∧ zs.getD i 0 ≤ 255 := by simpa [Lit.wf, IntKind.min, IntKind.max, IntKind.signed, IntKind.bits] using hw
    exact ⟨b, off, _, rfl, h1, h2, hb.1, hb.2⟩
end Go.Proofs.Ytlbebbkkpjgboaa
