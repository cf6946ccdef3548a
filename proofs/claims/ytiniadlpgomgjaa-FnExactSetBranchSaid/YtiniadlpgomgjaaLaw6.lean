/-
  The walks of chapter 6's laws: entries, folders' texts.
-/
import Derived.Test.YtiniadlpgomgjaaDraw12
import Derived.Test.YtiniadlpgomgjaaFold3
import Derived.Lib.IndexLaws
import Derived.Test.YtiniadlpgomgjaaArgsE
import Derived.BigFrame
namespace Go.Proofs.Ytiniadlpgomgjaa
open Go.RowKit
set_option linter.unusedVariables false
theorem ents_of {l : List Ent} (h3 : l.length ≤ 3) (h1 : ∀ q ∈ l, okP q) (h2 : AscE l) : entsB l = true := by
  rw [entsB_end (fun j hj => ?_)]
  · exact decide_eq_true h3
  · have hq := h1 _ (List.getElem_mem hj)
    rw [← nthE_get hj] at hq
    refine okE_yes hq.1 hq.2 ?_
    rcases Nat.eq_zero_or_pos j with h0 | h0
    · exact .inl h0
    · exact .inr (leB_of (h2 (j - 1) j (by omega) hj))
theorem asc_pair {l : List Ent} : AscE l ↔ l.Pairwise (fun a b => ltN a.1 b.1 = true) := by
  rw [List.pairwise_iff_getElem]
  constructor
  · intro h i j hi hj hij
    have := h i j hij hj
    rwa [nthE_get hi, nthE_get hj] at this
  · intro h i j hij hj
    rw [nthE_get (by omega), nthE_get hj]
    exact h i j (by omega) hj hij
theorem ents_sub {l l' : List Ent} (hs : l'.Sublist l) (h : entsB l = true) : entsB l' = true :=
  ents_of (Nat.le_trans hs.length_le (entsB_at h).1) (fun q hq => ents_ok h q (hs.subset hq)) (asc_pair.2 ((asc_pair.1 (ents_asc h)).sublist hs))
theorem less_sub (l : List Ent) (nm : ByteArray) : (lessE l nm).Sublist l := List.filter_sublist
theorem less_twice (l : List Ent) (nm : ByteArray) : lessE (lessE l nm) nm = lessE l nm := by unfold lessE; rw [List.filter_filter]; simp
theorem otherE_self {nm : ByteArray} {q : Ent} (h : q.1 = nm) : otherE nm q = false := by unfold otherE; rw [h]; simp
theorem put_mem6 (l : List Ent) (e : Ent) : e ∈ putInE l e := by unfold putInE; simp
theorem put_less (l : List Ent) (e : Ent) : lessE (putInE l e) e.1 = lessE l e.1 := by
  have hs : l = l.take (atE e.1 l) ++ l.drop (atE e.1 l) := (List.take_append_drop _ _).symm
  cases hc : decide (atE e.1 l < l.length) && decide ((nthE l (atE e.1 l)).1 = e.1)
  · unfold putInE
    rw [hc]
    conv => rhs; rw [hs]
    unfold lessE
    rw [List.filter_append, List.filter_cons, otherE_self rfl, List.filter_append]
    simp
  · rw [Bool.and_eq_true, decide_eq_true_eq, decide_eq_true_eq] at hc
    unfold putInE
    rw [decide_eq_true hc.1, decide_eq_true hc.2]
    conv => rhs; rw [hs]
    unfold lessE
    rw [List.filter_append, List.filter_cons, otherE_self rfl, List.filter_append, List.drop_eq_getElem_cons hc.1, List.filter_cons, otherE_self (by rw [← nthE_get hc.1]; exact hc.2)]
    simp
theorem less_lt {l : List Ent} {e : Ent} (h : e ∈ l) : (lessE l e.1).length < l.length := by
  unfold lessE
  rw [List.length_filter_lt_length_iff_exists]
  exact ⟨e, h, by rw [otherE_self rfl]; simp⟩
theorem drop_drop {l : List Ent} {nm : ByteArray} (h : entsB l = true) : (dropE (dropE l nm).1 nm).2 = false := by
  rw [dropE_ok h]
  show (dropE (lessE l nm) nm).2 = false
  rw [dropE_ok (ents_sub (less_sub l nm) h), less_twice]
  simp
/-- append behind '&&': a step that stands under a condition. -/
theorem appLW {ops : Array Oper} {o : Oper} {rest : List Oper} {a : Act} {Q : Exit → Act → World → Prop} {t e : TypeId} {size : Nat} {z : Value} {w : World} {α : Type} {g : α → List Value} (T : Elt t e size z) (E : Enc g size) {base m c B : Nat} {v : Value} {x : Option Addr} {l l' : List α} (hown : OwnL g e size w base v l) (hr : Lst g w B x m c l') (hn : l.length ≤ 2000000) (hm : m ≤ 2000000) (hbase : base ≤ w.heap.size)
    (hw : Region.wanted o (yielded ops a.tmps) = true) (s y : Operand) (ho : o.op = .call { callee := .builtin .append, args := #[s, y], argTypes := #[t, t] }) (hs : a.eval s = v) (hy : a.eval y = .slice x m c)
    (h : ∀ v' w', OwnL g e size w' base v' (l ++ l') → w.grownBy w' v.ownBlock → (v'.ownBlock = v.ownBlock ∨ v'.ownBlock = some w.heap.size) → wpList Try.prog ops Q rest (a.put o.dst v') w') : wpList Try.prog ops Q (o :: rest) a w :=
  Go.BigFrame.wpList_want hw fun _ hK => wp_appL T E hown hr hn hm hbase s y ho hs hy fun v' w' h1 h2 h3 => hK _ _ (h v' w' h1 h2 h3)
theorem twice_smallE {l : List Ent} (h : ∀ k, (nthE l k).1.size ≤ maxLen) (k : Nat) : (nthE ([nthE l 0] ++ l) k).1.size ≤ maxLen := by
  cases k with
  | zero => exact h 0
  | succ k => rw [List.singleton_append, nthE_succ]; exact h k
theorem nines_sub {l l' : List Ent} (h : ∀ k, (nthE l k).1.size ≤ maxLen) (hs : l'.Sublist l) : ∀ k, (nthE l' k).1.size ≤ maxLen :=
  nthE_all.2 fun q hq => nthE_all.1 h q (hs.subset hq)
end Go.Proofs.Ytiniadlpgomgjaa
