/-
  Lists of versions in memory: rows of two numbers and a text.
-/
import Derived.Test.YtminmakiahjfbaaEnts
namespace Go.Proofs.Ytminmakiahjfbaa
open Go.RowKit
set_option linter.unusedVariables false
/-- A root, the number of the version before, and a note. -/
abbrev Ver := Int × Int × ByteArray
def vrG (p : Ver) : List Value := [.int .i64 p.1, .int .i64 p.2.1, .string p.2.2]
theorem encVr : Enc vrG 3 := ⟨fun _ => rfl, fun p u hu => by
  simp only [vrG, List.mem_cons, List.not_mem_nil, or_false] at hu
  rcases hu with rfl | rfl | rfl <;> rfl, by decide⟩
def nthV (l : List Ver) (k : Nat) : Ver := l.getD k (0, 0, ByteArray.empty)
theorem nthV_get {l : List Ver} {k : Nat} (h : k < l.length) : nthV l k = l[k] := by unfold nthV; rw [List.getD_eq_getElem?_getD, List.getElem?_eq_getElem h]; rfl
theorem take_snocV {l : List Ver} {k : Nat} (h : k < l.length) : l.take (k + 1) = l.take k ++ [nthV l k] := by
  rw [List.take_succ_eq_append_getElem h, nthV_get h]
abbrev Vers (w : World) (B : Nat) (x : Option Addr) (n cap : Nat) (l : List Ver) : Prop := Lst vrG w B x n cap l
theorem Lst.atV {w : World} {B : Nat} {x : Option Addr} {n cap : Nat} {l : List Ver} (h : Vers w B x n cap l) {k : Nat} (hk : k < n) :
    ∃ b off, x = some ⟨b, off, none⟩ ∧ b < B ∧ w.cell? ⟨b, off + k * 3, none⟩ = some (.int .i64 (nthV l k).1) ∧ w.cell? ⟨b, off + k * 3 + 1, none⟩ = some (.int .i64 (nthV l k).2.1) ∧ w.cell? ⟨b, off + k * 3 + 2, none⟩ = some (.string (nthV l k).2.2) := by
  obtain ⟨b, off, rfl, hb, h0⟩ := Lst.at encVr h (k := k) (j := 0) (v := .int .i64 (nthV l k).1) (0, 0, ByteArray.empty) hk (by decide) rfl
  obtain ⟨b', off', e, _, h1⟩ := Lst.at encVr h (k := k) (j := 1) (v := .int .i64 (nthV l k).2.1) (0, 0, ByteArray.empty) hk (by decide) rfl
  simp only [Option.some.injEq, Addr.mk.injEq, and_true] at e
  obtain ⟨rfl, rfl⟩ := e
  obtain ⟨b', off', e, _, h2⟩ := Lst.at encVr h (k := k) (j := 2) (v := .string (nthV l k).2.2) (0, 0, ByteArray.empty) hk (by decide) rfl
  simp only [Option.some.injEq, Addr.mk.injEq, and_true] at e
  obtain ⟨rfl, rfl⟩ := e
  exact ⟨b, off, rfl, hb, h0, h1, h2⟩
abbrev OwnVr (w : World) (base : Nat) (v : Value) (l : List Ver) : Prop := OwnL vrG 27 3 w base v l
theorem Try.infoVr : (Try.prog.info? 27).map (fun i => (i.zero, i.size, i.bytes)) = some (some (.agg #[.int .i64 0, .int .i64 0, .string ByteArray.empty]), 3, 32) := by kernel_rfl
theorem eltVr : Elt 23 27 3 (.agg #[.int .i64 0, .int .i64 0, .string ByteArray.empty]) := elt_of Try.underlying23 Try.infoVr (by decide) rfl (by decide)
def NewVr (l : List Ver) (w : World) (e : Ending) (w' : World) : Prop := ∃ v, e = .returned v ∧ OwnVr w' w.heap.size v l ∧ Below w.heap.size w w'
def NewVrB (l : List Ver) (b : Bool) (w : World) (e : Ending) (w' : World) : Prop := ∃ v, e = .returned (.tuple #[v, .bool b]) ∧ OwnVr w' w.heap.size v l ∧ Below w.heap.size w w'
end Go.Proofs.Ytminmakiahjfbaa
