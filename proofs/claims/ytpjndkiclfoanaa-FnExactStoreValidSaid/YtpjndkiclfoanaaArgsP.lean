/-
  A slice of pieces that came in.
-/
import Derived.Test.YtpjndkiclfoanaaArgs
import Derived.Test.YtpjndkiclfoanaaPieces2
import Derived.Deep.SlicePairs
namespace Go.Proofs.Ytpjndkiclfoanaa
open Go.RowKit Go.ChangeShapes Go.WideShapes Go.ChangeAt
set_option linter.unusedVariables false
def ArgP (w : World) (a : Option Addr) (len cap : Nat) (l : List Pc) : Prop := Pcs w w.heap.size a len cap l ∧ ∀ k, (nthP l k).2.size ≤ maxLen
theorem pcG_nth {f : Nat → Pc} {n j : Nat} {u : Value} (h : (((List.range n).map f).flatMap pcG)[j]? = some u) : j / 2 < n ∧ (pcG (f (j / 2)))[j % 2]? = some u := by
  have hl := (List.getElem?_eq_some_iff.1 h).1
  rw [encPc.length, List.length_map, List.length_range] at hl
  have hj : j = j / 2 * 2 + j % 2 := by omega
  have hlt : j / 2 < n := by omega
  rw [hj, encPc.get _ _ _ (0, ByteArray.empty) (by simpa using hlt) (by omega)] at h
  refine ⟨hlt, ?_⟩
  rw [List.getD_eq_getElem?_getD, List.getElem?_map, List.getElem?_range hlt] at h
  exact h
theorem argP_of {H : Type} {enc : TypeId × Value → H} {W : World} {a : Option Addr} {len cap : Nat} {d : DataW H} {p : List MemPlace} (h : DataW.Trod enc Try.prog W 0 (fun _ => true) true 44 (.slice a len cap) d p) : ∃ l, ArgP W a len cap l := by
  obtain ⟨fuel, hf⟩ := h
  rcases Deep.open_slice_pairs Try.underlying44 Try.underlying68 (by kernel_rfl) rfl rfl (by kernel_rfl) (by kernel_rfl) hf with ⟨hcs, _⟩ | ⟨x, l, c, m, n, V0, V1, D0, D1, P0, P1, hcs, _, hl, hm, hmm, _, hc⟩
  · simp [Value.cells] at hcs
    obtain ⟨rfl, rfl, rfl⟩ := hcs
    exact ⟨[], ⟨rfl, Nat.le_refl _, by unfold maxLen; omega, Rds.nil _ _ _⟩, fun k => by simp [nthP]⟩
  · simp [Value.cells] at hcs
    obtain ⟨rfl, rfl, rfl⟩ := hcs
    simp at hmm
    subst hmm
    have each : ∀ i, i < m → ∃ q : Pc, V0 i = .int .i64 q.1 ∧ V1 i = .string q.2 ∧ q.2.size ≤ maxLen := fun i hi => by
      obtain ⟨_, _, h0, h1⟩ := hc i hi
      obtain ⟨z, e0, _⟩ := DataW.trod_int Try.underlying3 h0
      obtain ⟨s, e1, _, hs⟩ := DataW.trod_string Try.underlying9 h1
      simp only [List.cons.injEq, and_true] at e0 e1
      exact ⟨(z, s), e0, e1, hs⟩
    obtain ⟨f, hf'⟩ : ∃ f : Nat → Pc, ∀ i, i < m → V0 i = .int .i64 (f i).1 ∧ V1 i = .string (f i).2 ∧ (f i).2.size ≤ maxLen :=
      ⟨fun i => if hi : i < m then Classical.choose (each i hi) else (0, ByteArray.empty), fun i hi => by simp only [dif_pos hi]; exact Classical.choose_spec (each i hi)⟩
    refine ⟨(List.range len).map f, ⟨by simp, hl, hm, fun j u hu => ?_⟩, fun k => ?_⟩
    · obtain ⟨hj, hu'⟩ := pcG_nth hu
      obtain ⟨c0, c1, _, _⟩ := hc (j / 2) (by omega)
      obtain ⟨v0, v1, _⟩ := hf' (j / 2) (by omega)
      obtain ⟨z0, _, _, _⟩ := hc 0 (by omega)
      rw [Nat.zero_mul] at z0
      rw [v0] at c0
      rw [v1] at c1
      have hm2 : j % 2 = 0 ∨ j % 2 = 1 := by omega
      rcases hm2 with e | e
      · rw [e] at hu'
        simp only [pcG, List.getElem?_cons_zero, Option.some.injEq] at hu'
        subst hu'
        obtain ⟨b, off, rfl, h1, h2⟩ := nodes_bd c0 z0
        exact ⟨b, off, rfl, h1, (show off + j / 2 * 2 = off + j by omega) ▸ h2⟩
      · rw [e] at hu'
        simp only [pcG, List.getElem?_cons_succ, List.getElem?_cons_zero, Option.some.injEq] at hu'
        subst hu'
        obtain ⟨b, off, rfl, h1, h2⟩ := nodes_bd c1 z0
        exact ⟨b, off, rfl, h1, (show off + (j / 2 * 2 + 1) = off + j by omega) ▸ h2⟩
    · unfold nthP
      rw [List.getD_eq_getElem?_getD]
      cases hk : ((List.range len).map f)[k]? with
      | none => simp
      | some t =>
        obtain ⟨i, hi, rfl⟩ := List.mem_map.1 (List.mem_of_getElem? hk)
        have := List.mem_range.1 hi
        exact (hf' i (by omega)).2.2
/-! ### for the exact laws -/
theorem leftP_no {l : List Pc} {left : Int} (h : ¬ (l.length + sumP l : Int) ≤ left) : leftP l left = -1 := by unfold leftP; rw [if_neg h]
theorem leftP_yes {l : List Pc} {left : Int} (h : (l.length + sumP l : Int) ≤ left) : 0 ≤ leftP l left ∧ leftP l left ≤ left ∧ (l.length : Int) ≤ left := by unfold leftP; rw [if_pos h]; omega
theorem OwnL.keptLt {α : Type} {g : α → List Value} {e : TypeId} {size : Nat} {w w' : World} {base : Nat} {v : Value} {l : List α} {r : Option Nat} (h : OwnL g e size w base v l) (hg : w.grownBy w' r) (hr : ∀ k, r = some k → k < base) : OwnL g e size w' base v l :=
  World.ownsRow.kept h hg (by
    cases hv : v.ownBlock with
    | none => exact .inl rfl
    | some k => exact .inr fun e => by have h1 := own_at h hv; have h2 := hr k e.symm; omega)
theorem OwnL.ltSize {α : Type} {g : α → List Value} {e : TypeId} {size : Nat} {w : World} {base : Nat} {v : Value} {l : List α} (h : OwnL g e size w base v l) {k : Nat} (hk : v.ownBlock = some k) : k < w.heap.size := (World.ownsRow.lt h k hk).2
end Go.Proofs.Ytpjndkiclfoanaa
