/-
  Contracts of chapter 3: prints of chunks; joined texts.
-/
import Derived.Test.YtigegjgkjahhaaaGreatDoorChunks
import Derived.Lib.AppendStr
import Derived.Laws.BytesArg
import Derived.Test.YtigegjgkjahhaaaGreatDoorDraw0
import Derived.Test.YtigegjgkjahhaaaGreatDoorHelp
namespace Go.Proofs.YtigegjgkjahhaaaGreatDoor
open Go.RowKit
set_option linter.unusedVariables false
theorem pieces_size (s : ByteArray) : ∀ (l : List Int) (a : Int), ∀ t ∈ piecesB s a l, t.size ≤ s.size
  | [], a, t, h => by simp [piecesB] at h
  | e :: r, a, t, h => by
    rw [piecesB, List.mem_cons] at h
    rcases h with rfl | h
    · rw [ByteArray.size_extract]; omega
    · exact pieces_size s r e t h
theorem chunk_size {s : ByteArray} {k : Nat} : (nthS (chunksB s) k).size ≤ s.size := by
  unfold nthS
  rw [List.getD_eq_getElem?_getD]
  cases h : (chunksB s)[k]? with
  | none => simp
  | some t => exact pieces_size s _ _ t (List.mem_of_getElem? h)
theorem chunks_valid {s : ByteArray} {k : Nat} (h : k < (chunksB s).length) : s.size ≤ 60 := by
  rw [chunks_len] at h
  obtain ⟨_, _, _, _, _, _, _, h⟩ := ends_nat h
  exact h
/-- The prints of a text's chunks. -/
def cprintsB (s : ByteArray) : List Int := (chunksB s).map printB
theorem cprints_snoc {s : ByteArray} {k : Nat} (h : k < (chunksB s).length) : (cprintsB s).take (k + 1) = (cprintsB s).take k ++ [printB (nthS (chunksB s) k)] := by
  unfold cprintsB
  rw [← List.map_take, ← List.map_take, take_snocS h, List.map_append]; rfl
theorem cprints_end {s : ByteArray} {k : Nat} (h : ¬ k < (chunksB s).length) : (cprintsB s).take k = cprintsB s := List.take_of_length_le (by unfold cprintsB; rw [List.length_map]; omega)
theorem cprints_len (s : ByteArray) : (cprintsB s).length = (chunksB s).length := by unfold cprintsB; rw [List.length_map]
/-! ### joined texts -/
/-- A row of bytes of a call's own, that reads as the text t. -/
def OwnB (w : World) (base : Nat) (v : Value) (t : ByteArray) : Prop := w.ownsRow base 5 1 v t.size (Lib.strCells t)
theorem OwnB.nil (w : World) (base : Nat) : OwnB w base (.slice none 0 0) ByteArray.empty := World.ownsRow_nil w base _ 1
theorem OwnB.at {w : World} {base : Nat} {v : Value} {t : ByteArray} (h : OwnB w base v t) : ∀ k, v.ownBlock = some k → base ≤ k := fun k hk => own_at h hk
theorem Tryz.infoByte : (Tryz.prog.info? 5).map (fun i => (i.zero, i.size, i.bytes)) = some (some (.int .u8 0), 1, 1) := by kernel_rfl
theorem size_nil {t : ByteArray} (h1 : t.size = 0) : t = ByteArray.empty := by
  cases t with | mk d => simp [ByteArray.size] at h1; subst h1; rfl
set_option maxRecDepth 100000 in
/-- What 'string(b)' makes of such a row. -/
theorem OwnB.str {w : World} {base : Nat} {v : Value} {t : ByteArray} (h : OwnB w base v t) :
    ∃ x n c, v = .slice x n c ∧ t.size = n ∧ n ≤ c ∧ c ≤ maxLen ∧ (convert 22 9 (.slice x n c)).run Tryz.prog w = .ok (.string t) w := by
  obtain ⟨x, c, rfl, h1, h2, h3⟩ := own_reads h
  refine ⟨x, _, c, rfl, rfl, h1, h2, ?_⟩
  rcases h.2 with ⟨e, he⟩ | ⟨g, cap, cur, e, _⟩
  · simp only [Value.slice.injEq] at e
    obtain ⟨rfl, e2, rfl⟩ := e
    rw [size_nil he]
    exact run_convert_bytes_nil w 22 5 Tryz.underlying22 Tryz.underlying5 _ _ 9 Tryz.underlying9
  · simp only [Value.slice.injEq, true_and] at e
    obtain ⟨rfl, rfl⟩ := e
    have := run_convert_bytes_arg (P := Tryz.prog) w 22 5 Tryz.underlying22 Tryz.underlying5 g 0 t.size c (t.data.toList.map fun b => (b.toNat : Int)) (by simp) (fun i hi => by
      rw [Nat.zero_add, h.cellAt i (by omega)]
      unfold Lib.strCells
      have hi' : i < t.data.toList.length := by rw [len_eq]; exact hi
      rw [List.getElem?_map, List.getElem?_eq_getElem hi', List.getD_eq_getElem?_getD, List.getElem?_map, List.getElem?_eq_getElem hi']
      rfl) 9 Tryz.underlying9
    rw [this]
    congr 2
    unfold strOfNums
    rw [List.map_map]
    have e : ((fun n : Int => UInt8.ofNat n.toNat) ∘ fun b : UInt8 => (b.toNat : Int)) = id := by funext b; simp
    rw [e, List.map_id]
section
variable {ops : Array Oper} {rest : List Oper} {o : Oper} {a : Act} {Q : Exit → Act → World → Prop} {w : World}
/-- append of a text's bytes. -/
theorem wpList_appStr {base : Nat} {v : Value} {t u : ByteArray} (hown : OwnB w base v t) (hn : t.size + u.size ≤ 2000000) (hbase : base ≤ w.heap.size)
    (hgd : o.guard = none) (s x : Operand) (ho : o.op = .call { callee := .builtin .append, args := #[s, x], argTypes := #[22, 9] }) (hs : a.eval s = v) (hx : a.eval x = .string u)
    (h : ∀ v' w', OwnB w' base v' (t ++ u) → w.grownBy w' v.ownBlock → wpList Tryz.prog ops Q rest (a.put o.dst v') w') : wpList Tryz.prog ops Q (o :: rest) a w := by
  obtain ⟨i, hi, h2⟩ := Option.map_eq_some_iff.1 Tryz.infoByte
  simp only [Prod.mk.injEq] at h2
  refine Lib.wpList_append_own_string w hgd s x 22 9 ho base 5 i Tryz.underlying22 Tryz.underlying9 hi h2.1 h2.2.1 h2.2.2 v t.size _ hs hown u hx (by unfold maxLen; omega) (by omega) hbase fun v' w' h1 h2 _ => h v' w' ?_ h2
  unfold OwnB
  have e : Lib.strCells (t ++ u) = Lib.strCells t ++ Lib.strCells u := by unfold Lib.strCells; rw [ByteArray.data_append, Array.toList_append, List.map_append]
  rw [e, ByteArray.size_append]
  exact h1
end
/-- A text and whether there is one. -/
def StrOk (s : ByteArray) (b : Bool) (w : World) (e : Ending) (w' : World) : Prop := e = .returned (.tuple #[.string s, .bool b]) ∧ Below w.heap.size w w'
theorem joined_no {l : List ByteArray} (h : textB (joinB l) = false) : joinedB l = ByteArray.empty ∧ joinOkB l = false := by unfold joinedB joinOkB; rw [h]; exact ⟨rfl, rfl⟩
theorem joined_yes {l : List ByteArray} (h : textB (joinB l) = true) : joinedB l = joinB l ∧ joinOkB l = true := by unfold joinedB joinOkB; rw [h]; exact ⟨rfl, rfl⟩
theorem strOk_of {s t : ByteArray} {b c : Bool} {w w' : World} (h : s = t) (h' : b = c) (hb : Below w.heap.size w w') : StrOk s b w (.returned (.tuple #[.string t, .bool c])) w' := by subst h; subst h'; exact ⟨rfl, hb⟩
theorem join_take {l : List ByteArray} {k : Nat} (h : k < l.length) : joinB (l.take (k + 1)) = joinB (l.take k) ++ nthS l k := by rw [take_snocS h, joinB_snoc]
theorem join_take_size (l : List ByteArray) (k : Nat) : (joinB (l.take k)).size ≤ (joinB l).size := by
  rw [joinB_split l k, ByteArray.size_append]; omega
end Go.Proofs.YtigegjgkjahhaaaGreatDoor
/-
  Draws of chapter 3.
-/
namespace Go.Proofs.YtigegjgkjahhaaaGreatDoor
open Go.RowKit
set_option linter.unusedVariables false
/-- A drawn text of at most m bytes, the reader behind it. -/
def LenR (m : Nat) (B r c : Nat) (w : World) (e : Ending) (w' : World) : Prop := ∃ s : ByteArray, e = .returned (.string s) ∧ s.size ≤ m ∧ Rd B w' r c ∧ w.grownBy w' (some r)
def longs : List ByteArray := [⟨#[97]⟩, ⟨#[100]⟩, ⟨#[97, 98]⟩, ⟨#[104]⟩, ⟨#[109]⟩, ⟨#[32]⟩]
theorem longs_size : ∀ s ∈ longs, s.size ≤ 2 := by decide +kernel
theorem texts_small' : ∀ s ∈ texts1 ++ texts2, s.size ≤ 61 := by decide +kernel
theorem own_keptL {α : Type} {g : α → List Value} {e : TypeId} {size : Nat} {w w' : World} {base r : Nat} {v : Value} {l : List α} (h : OwnL g e size w base v l) (hg : w.grownBy w' (some r)) (hr : r < base) : OwnL g e size w' base v l :=
  World.ownsRow.kept h hg (by
    rcases hv : v.ownBlock with _ | k
    · exact .inl rfl
    · right; intro e; injection e with e; have := own_at h hv; omega)
/-- Drawn texts, each of at most m bytes. -/
def StrsOut (k m : Nat) (w : World) (e : Ending) (w' : World) : Prop := ∃ (v : Value) (l : List ByteArray), e = .returned v ∧ l.length ≤ k ∧ (∀ t ∈ l, t.size ≤ m) ∧ OwnS w' w.heap.size v l ∧ Below w.heap.size w w'
def joins (t u : ByteArray) : List ByteArray := [⟨#[]⟩, ⟨#[120]⟩, ⟨#[10]⟩, t, u]
theorem joins_size {t u : ByteArray} (h : t.size ≤ 61) (h' : u.size ≤ 61) : ∀ s ∈ joins t u, s.size ≤ 61 := by
  intro s hs
  simp only [joins, List.mem_cons, List.not_mem_nil, or_false] at hs
  rcases hs with rfl | rfl | rfl | rfl | rfl <;> first | assumption | decide
theorem chunks_mem {s t : ByteArray} (h : t ∈ chunksB s) : t.size ≤ s.size := pieces_size s _ _ t h
end Go.Proofs.YtigegjgkjahhaaaGreatDoor
/-
  The walks of chapter 3's exact laws.
-/
namespace Go.Proofs.YtigegjgkjahhaaaGreatDoor
open Go.RowKit
set_option linter.unusedVariables false
theorem cprints_bd (s : ByteArray) : (cprintsB s).length ≤ 60 := by rw [cprints_len]; exact chunks_count s
theorem join_size (l : List ByteArray) : (joinB l).size = sumS l := by
  induction l with
  | nil => simp [joinB, sumS]
  | cons a l ih => rw [joinB_cons, ByteArray.size_append, ih]; unfold sumS; simp
end Go.Proofs.YtigegjgkjahhaaaGreatDoor
