/-
  What an argument that came in reads as, for the laws' walks.
-/
import Derived.Test.YtglajbmopiolhaaMem
import Derived.Test.YtglajbmopiolhaaDraw0
import Derived.ProofKit
import Derived.OpenShut
import Derived.ChangeOld
import Derived.Deep.Strs
import Derived.Test.YtglajbmopiolhaaHelp
import Derived.Deep.SlicePairs
namespace Go.Proofs.Ytglajbmopiolhaa
open Go.RowKit Go.ChangeShapes Go.WideShapes Go.ChangeAt
set_option linter.unusedVariables false
theorem nodes_bd {W : World} {a : Addr} {i : Nat} {v v0 : Value} (h : W.cell? (a.add i) = some v) (h0 : W.cell? (a.add 0) = some v0) : ∃ b off, a = ⟨b, off, none⟩ ∧ b < W.heap.size ∧ W.cell? ⟨b, off + i, none⟩ = some v := by
  obtain ⟨b, off, spot⟩ := a
  have hspot : spot = none := by simpa [Addr.add] using World.cell?_spot h0
  subst hspot
  rw [addr_add] at h
  exact ⟨b, off, rfl, World.block_lt_of_cell? W ⟨b, off + i, none⟩ h, h⟩
/-- A slice of bytes that came in. -/
def ArgB (w : World) (a : Option Addr) (len cap : Nat) (_ : List Int) : Prop := Bytes w.heap.size w a len ∧ len ≤ cap ∧ cap ≤ maxLen
theorem argB_of {H : Type} {enc : TypeId × Value → H} {W : World} {a : Option Addr} {len cap : Nat} {d : DataW H} {p : List MemPlace} (h : DataW.Trod enc Try.prog W 0 (fun _ => true) true 22 (.slice a len cap) d p) : ∃ l, ArgB W a len cap l := by
  obtain ⟨fuel, hf⟩ := h
  rcases open_ints Try.underlying22 Try.underlying5 (by kernel_rfl) hf with ⟨hcs, _⟩ | ⟨x, l, c, zs, hcs, _, hl, hm, hz, _, hcell, hwz⟩
  · simp [Value.cells] at hcs
    obtain ⟨rfl, rfl, rfl⟩ := hcs
    exact ⟨[], fun i hi => by omega, Nat.le_refl _, by unfold maxLen; omega⟩
  · simp [Value.cells] at hcs
    obtain ⟨rfl, rfl, rfl⟩ := hcs
    have hz' : zs.length = cap := by simpa using hz
    refine ⟨[], fun i hi => ?_, hl, hm⟩
    obtain ⟨b, off, rfl, h1, h2⟩ := nodes_bd (hcell i (by omega)) (hcell 0 (by omega))
    have hmem : zs.getD i 0 ∈ zs := by rw [List.getD_eq_getElem?_getD, List.getElem?_eq_getElem (by omega)]; simp
    have hw := hwz _ hmem
    have hb : 0 ≤ zs.getD i 0 ∧ zs.getD i 0 ≤ 255 := by simpa [Lit.wf, IntKind.min, IntKind.max, IntKind.signed, IntKind.bits] using hw
    exact ⟨b, off, _, rfl, h1, h2, hb.1, hb.2⟩
end Go.Proofs.Ytglajbmopiolhaa
/-
  Pieces in memory, and the contracts of the laws' helpers on lists of pieces.
-/
namespace Go.Proofs.Ytglajbmopiolhaa
open Go.RowKit
set_option linter.unusedVariables false
/-- A print and a text. -/
abbrev Pc := Int × ByteArray
def pcG (p : Pc) : List Value := [.int .i64 p.1, .string p.2]
theorem encPc : Enc pcG 2 := ⟨fun _ => rfl, fun p u hu => by
  simp only [pcG, List.mem_cons, List.not_mem_nil, or_false] at hu
  rcases hu with rfl | rfl <;> rfl, by decide⟩
def nthP (l : List Pc) (k : Nat) : Pc := l.getD k (0, ByteArray.empty)
theorem nthP_get {l : List Pc} {k : Nat} (h : k < l.length) : nthP l k = l[k] := by unfold nthP; rw [List.getD_eq_getElem?_getD, List.getElem?_eq_getElem h]; rfl
abbrev Pcs (w : World) (B : Nat) (x : Option Addr) (n cap : Nat) (l : List Pc) : Prop := Lst pcG w B x n cap l
theorem Lst.atP {w : World} {B : Nat} {x : Option Addr} {n cap : Nat} {l : List Pc} (h : Pcs w B x n cap l) {k : Nat} (hk : k < n) :
    ∃ b off, x = some ⟨b, off, none⟩ ∧ b < B ∧ w.cell? ⟨b, off + k * 2, none⟩ = some (.int .i64 (nthP l k).1) ∧ w.cell? ⟨b, off + k * 2 + 1, none⟩ = some (.string (nthP l k).2) := by
  obtain ⟨b, off, rfl, hb, h0⟩ := Lst.at encPc h (k := k) (j := 0) (v := .int .i64 (nthP l k).1) (0, ByteArray.empty) hk (by decide) rfl
  obtain ⟨b', off', e, _, h1⟩ := Lst.at encPc h (k := k) (j := 1) (v := .string (nthP l k).2) (0, ByteArray.empty) hk (by decide) rfl
  simp only [Option.some.injEq, Addr.mk.injEq, and_true] at e
  obtain ⟨rfl, rfl⟩ := e
  exact ⟨b, off, rfl, hb, h0, h1⟩
/-! ### copies -/
abbrev OwnP (w : World) (base : Nat) (v : Value) (l : List Pc) : Prop := OwnL pcG 54 2 w base v l
theorem Try.infoPc : (Try.prog.info? 54).map (fun i => (i.zero, i.size, i.bytes)) = some (some (.agg #[.int .i64 0, .string ByteArray.empty]), 2, 24) := by kernel_rfl
theorem eltPc : Elt 34 54 2 (.agg #[.int .i64 0, .string ByteArray.empty]) := elt_of Try.underlying34 Try.infoPc (by decide) rfl (by decide)
end Go.Proofs.Ytglajbmopiolhaa
/-
  Contracts of the laws' helpers on lists of pieces: copies and marks.
-/
namespace Go.Proofs.Ytglajbmopiolhaa
open Go.RowKit
set_option linter.unusedVariables false
theorem set2 {α : Type} {A R : List α} {m : Nat} (x y : α) (hA : A.length = m) (hR : 2 ≤ R.length) : ((A ++ R).set m x).set (m + 1) y = A ++ [x, y] ++ R.drop 2 := by
  subst hA
  match R, hR with
  | a :: b :: R, _ => simp
end Go.Proofs.Ytglajbmopiolhaa
/-
  A slice of pieces that came in.
-/
namespace Go.Proofs.Ytglajbmopiolhaa
open Go.RowKit Go.ChangeShapes Go.WideShapes Go.ChangeAt
set_option linter.unusedVariables false
/-! ### for the exact laws -/
end Go.Proofs.Ytglajbmopiolhaa
