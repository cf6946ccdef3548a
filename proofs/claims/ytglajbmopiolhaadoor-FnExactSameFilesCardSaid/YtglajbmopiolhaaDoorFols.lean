/-
  Slices of slices in memory: the entries of the folders on the way.
-/
import Derived.Test.YtglajbmopiolhaaDoorMath10
import Derived.Test.YtglajbmopiolhaaDoorImpl9
import Derived.Deep.CutRange
import Derived.Deep.CutBlock
namespace Go.Proofs.YtglajbmopiolhaaDoor
open Go.RowKit
set_option linter.unusedVariables false
/-- A slice, as a cell. -/
abbrev SV := Option Addr × Nat × Nat
def svG (s : SV) : List Value := [.slice s.1 s.2.1 s.2.2]
theorem encSv : Enc svG 1 := ⟨fun _ => rfl, fun s u hu => by simp only [svG, List.mem_singleton] at hu; subst hu; rfl, by decide⟩
def nthV (l : List SV) (k : Nat) : SV := l.getD k (none, 0, 0)
def nthF (Es : List (List Ent)) (k : Nat) : List Ent := Es.getD k []
theorem nthV_take {l : List SV} {m k : Nat} (h : k < m) : nthV (l.take m) k = nthV l k := by
  unfold nthV; rw [List.getD_eq_getElem?_getD, List.getD_eq_getElem?_getD, List.getElem?_take, if_pos h]
theorem nthF_take {l : List (List Ent)} {m k : Nat} (h : k < m) : nthF (l.take m) k = nthF l k := by
  unfold nthF; rw [List.getD_eq_getElem?_getD, List.getD_eq_getElem?_getD, List.getElem?_take, if_pos h]
/-- The slice (x, n, cap) reads as lists of entries. -/
def Fols (w : World) (B : Nat) (x : Option Addr) (n cap : Nat) (Es : List (List Ent)) : Prop :=
  ∃ vs : List SV, Lst svG w B x n cap vs ∧ Es.length = n ∧ ∀ k, k < n → Ents w B (nthV vs k).1 (nthV vs k).2.1 (nthV vs k).2.2 (nthF Es k)
section
variable {w w' : World} {B B' : Nat} {x : Option Addr} {n cap : Nat} {Es : List (List Ent)}
theorem Fols.below (h : Fols w B x n cap Es) (hb : Below B' w w') (hB : B ≤ B') : Fols w' B x n cap Es := by
  obtain ⟨vs, h1, h2, h3⟩ := h
  exact ⟨vs, h1.below hb hB, h2, fun k hk => (h3 k hk).below hb hB⟩
theorem Fols.more (h : Fols w B x n cap Es) (hB : B ≤ B') : Fols w B' x n cap Es := by
  obtain ⟨vs, h1, h2, h3⟩ := h
  exact ⟨vs, h1.more hB, h2, fun k hk => (h3 k hk).more hB⟩
theorem Fols.drewN (h : Fols w B x n cap Es) (m : Nat) : Fols (w.drewN m) B x n cap Es := by
  obtain ⟨vs, h1, h2, h3⟩ := h
  exact ⟨vs, h1.drewN m, h2, fun k hk => (h3 k hk).drewN m⟩
theorem Fols.cut (h : Fols w B x n cap Es) {m : Nat} (hm : m ≤ n) : Fols w B x m cap (Es.take m) := by
  obtain ⟨vs, h1, h2, h3⟩ := h
  exact ⟨vs.take m, h1.cut hm, by rw [List.length_take]; omega, fun k hk => by
    rw [nthV_take hk, nthF_take hk]; exact h3 k (by omega)⟩
theorem Fols.at (h : Fols w B x n cap Es) {k : Nat} (hk : k < n) : ∃ b off y m c, x = some ⟨b, off, none⟩ ∧ b < B ∧ w.cell? ⟨b, off + k, none⟩ = some (.slice y m c) ∧ Ents w B y m c (nthF Es k) := by
  obtain ⟨vs, h1, h2, h3⟩ := h
  obtain ⟨b, off, e, hb, hc⟩ := Lst.at encSv h1 (k := k) (j := 0) (v := .slice (nthV vs k).1 (nthV vs k).2.1 (nthV vs k).2.2) (none, 0, 0) hk (by decide) rfl
  rw [Nat.mul_one, Nat.add_zero] at hc
  exact ⟨b, off, _, _, _, e, hb, hc, h3 k hk⟩
theorem Fols.len (h : Fols w B x n cap Es) : Es.length = n := by obtain ⟨vs, h1, h2, h3⟩ := h; exact h2
theorem Fols.le (h : Fols w B x n cap Es) : n ≤ cap := by obtain ⟨vs, h1, h2, h3⟩ := h; exact h1.le
theorem Fols.max (h : Fols w B x n cap Es) : cap ≤ maxLen := by obtain ⟨vs, h1, h2, h3⟩ := h; exact h1.max
end
/-- A row of slices of the call's own, and their rows. -/
def OwnF (w : World) (base : Nat) (v : Value) (Es : List (List Ent)) : Prop :=
  ∃ vs : List SV, OwnL svG 51 1 w base v vs ∧ vs.length = Es.length ∧ ∀ k, k < Es.length → OwnE w base (.slice (nthV vs k).1 (nthV vs k).2.1 (nthV vs k).2.2) (nthF Es k)
section
variable {w w' : World} {base base' : Nat} {v : Value} {Es : List (List Ent)}
theorem OwnF.below (h : OwnF w base v Es) (hb : Below w.heap.size w w') : OwnF w' base v Es := by
  obtain ⟨vs, h1, h2, h3⟩ := h
  exact ⟨vs, h1.below hb, h2, fun k hk => (h3 k hk).below hb⟩
theorem OwnF.mono (h : OwnF w base v Es) (hb : base' ≤ base) : OwnF w base' v Es := by
  obtain ⟨vs, h1, h2, h3⟩ := h
  exact ⟨vs, h1.mono hb, h2, fun k hk => (h3 k hk).mono hb⟩
end
/-! ### the way, a step at a time -/
end Go.Proofs.YtglajbmopiolhaaDoor
