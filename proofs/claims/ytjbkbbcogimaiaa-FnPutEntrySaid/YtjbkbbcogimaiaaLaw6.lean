/-
  The walks of chapter 6's laws: entries, folders' texts.
-/
import Derived.Test.YtjbkbbcogimaiaaDraw12
import Derived.Test.YtjbkbbcogimaiaaFold4
import Derived.Test.YtjbkbbcogimaiaaArgsE
import Derived.BigFrame
namespace Go.Proofs.Ytjbkbbcogimaiaa
open Go.RowKit
set_option linter.unusedVariables false
theorem ents_of {l : List Ent} (h3 : l.length ≤ 3) (h1 : ∀ q ∈ l, okP q) (h2 : AscE l) : entsB l = true := by
  rw [entsB_end (fun j hj => ?_)]
  · exact decide_eq_true h3
  · have hq := h1 _ (List.getElem_mem hj)
    rw [← nthE_get hj] at hq
    refine okE_yes hq.1 hq.2 ?_
    rcases Nat.eq_zero_or_pos j with h0 | h0
    · exact .inl h0
    · exact .inr (leB_of (h2 (j - 1) j (by omega) hj))
theorem asc_pair {l : List Ent} : AscE l ↔ l.Pairwise (fun a b => ltN a.1 b.1 = true) := by
  rw [List.pairwise_iff_getElem]
  constructor
  · intro h i j hi hj hij
    have := h i j hij hj
    rwa [nthE_get hi, nthE_get hj] at this
  · intro h i j hij hj
    rw [nthE_get (by omega), nthE_get hj]
    exact h i j (by omega) hj hij
theorem ents_sub {l l' : List Ent} (hs : l'.Sublist l) (h : entsB l = true) : entsB l' = true :=
  ents_of (Nat.le_trans hs.length_le (entsB_at h).1) (fun q hq => ents_ok h q (hs.subset hq)) (asc_pair.2 ((asc_pair.1 (ents_asc h)).sublist hs))
theorem ents_tail {l : List Ent} (h : entsB l = true) : entsB (l.drop 1) = true := ents_sub (List.drop_sublist 1 l) h
theorem ents_twice {l : List Ent} (h : l ≠ []) : entsB ([nthE l 0] ++ l) = false := by
  cases hs : entsB ([nthE l 0] ++ l)
  · rfl
  · have h1 := ents_asc hs 0 1 (by omega) (by have := List.length_pos_iff.2 h; simp; omega)
    have e : nthE ([nthE l 0] ++ l) 1 = nthE l 0 := nthE_succ _ _ _
    have e0 : nthE ([nthE l 0] ++ l) 0 = nthE l 0 := rfl
    rw [e, e0, ltN_irrefl] at h1
    cases h1
theorem less_sub (l : List Ent) (nm : ByteArray) : (lessE l nm).Sublist l := List.filter_sublist
theorem less_twice (l : List Ent) (nm : ByteArray) : lessE (lessE l nm) nm = lessE l nm := by unfold lessE; rw [List.filter_filter]; simp
theorem otherE_self {nm : ByteArray} {q : Ent} (h : q.1 = nm) : otherE nm q = false := by unfold otherE; rw [h]; simp
theorem put_mem (l : List Ent) (e : Ent) : e ∈ putInE l e := by unfold putInE; simp
theorem put_less (l : List Ent) (e : Ent) : lessE (putInE l e) e.1 = lessE l e.1 := by
  have hs : l = l.take (atE e.1 l) ++ l.drop (atE e.1 l) := (List.take_append_drop _ _).symm
  cases hc : decide (atE e.1 l < l.length) && decide ((nthE l (atE e.1 l)).1 = e.1)
  · unfold putInE
    rw [hc]
    conv => rhs; rw [hs]
    unfold lessE
    rw [List.filter_append, List.filter_cons, otherE_self rfl, List.filter_append]
    simp
  · rw [Bool.and_eq_true, decide_eq_true_eq, decide_eq_true_eq] at hc
    unfold putInE
    rw [decide_eq_true hc.1, decide_eq_true hc.2]
    conv => rhs; rw [hs]
    unfold lessE
    rw [List.filter_append, List.filter_cons, otherE_self rfl, List.filter_append, List.drop_eq_getElem_cons hc.1, List.filter_cons, otherE_self (by rw [← nthE_get hc.1]; exact hc.2)]
    simp
theorem less_lt {l : List Ent} {e : Ent} (h : e ∈ l) : (lessE l e.1).length < l.length := by
  unfold lessE
  rw [List.length_filter_lt_length_iff_exists]
  exact ⟨e, h, by rw [otherE_self rfl]; simp⟩
/-- What a put entry can be dropped again. -/
theorem put_drop {l : List Ent} {e : Ent} (h : entsB l = true) (h' : entsB (putInE l e) = true) : dropE (putInE l e) e.1 = ((dropE l e.1).1, true) := by
  rw [dropE_ok h', dropE_ok h, put_less, decide_eq_true]
  rw [← put_less]; exact less_lt (put_mem l e)
theorem drop_drop {l : List Ent} {nm : ByteArray} (h : entsB l = true) : (dropE (dropE l nm).1 nm).2 = false := by
  rw [dropE_ok h]
  show (dropE (lessE l nm) nm).2 = false
  rw [dropE_ok (ents_sub (less_sub l nm) h), less_twice]
  simp
theorem drop_ents {l : List Ent} {nm : ByteArray} (h : entsB l = true) : entsB (dropE l nm).1 = true := by
  rw [dropE_ok h]; exact ents_sub (less_sub l nm) h
theorem drop_cases (l : List Ent) (nm : ByteArray) : (dropE l nm = ([], false) ∨ dropE l nm = (l, false)) ∨ ((dropE l nm).2 = true ∧ entsB l = true ∧ (dropE l nm).1.length + 1 = l.length) := by
  cases h : entsB l
  · exact .inl (.inl (dropE_bad h))
  · cases hh : hereE nm l
    · exact .inl (.inr (dropE_none h hh))
    · unfold hereE at hh
      rw [Bool.and_eq_true, decide_eq_true_eq, decide_eq_true_eq] at hh
      have e := dropE_found h hh.1 hh.2
      refine .inr ⟨by rw [e], rfl, ?_⟩
      rw [e, List.length_append, List.length_take, List.length_drop]
      have := hh.1; omega
theorem put_cases (l : List Ent) (p : Ent) : (putE l p = ([], false) ∨ putE l p = (l, false)) ∨ (entsB l = true ∧ entsB (putInE l p) = true ∧ putE l p = (putInE l p, true)) := by
  cases h : entsB l
  · exact .inl (.inl (putE_bad h))
  · cases h' : entsB (putInE l p)
    · exact .inl (.inr (putE_no h h'))
    · exact .inr ⟨rfl, rfl, putE_yes h h'⟩
/-- append behind '&&': a step that stands under a condition. -/
theorem appLW {ops : Array Oper} {o : Oper} {rest : List Oper} {a : Act} {Q : Exit → Act → World → Prop} {t e : TypeId} {size : Nat} {z : Value} {w : World} {α : Type} {g : α → List Value} (T : Elt t e size z) (E : Enc g size) {base m c B : Nat} {v : Value} {x : Option Addr} {l l' : List α} (hown : OwnL g e size w base v l) (hr : Lst g w B x m c l') (hn : l.length ≤ 2000000) (hm : m ≤ 2000000) (hbase : base ≤ w.heap.size)
    (hw : Region.wanted o (yielded ops a.tmps) = true) (s y : Operand) (ho : o.op = .call { callee := .builtin .append, args := #[s, y], argTypes := #[t, t] }) (hs : a.eval s = v) (hy : a.eval y = .slice x m c)
    (h : ∀ v' w', OwnL g e size w' base v' (l ++ l') → w.grownBy w' v.ownBlock → (v'.ownBlock = v.ownBlock ∨ v'.ownBlock = some w.heap.size) → wpList Try.prog ops Q rest (a.put o.dst v') w') : wpList Try.prog ops Q (o :: rest) a w :=
  Go.BigFrame.wpList_want hw fun _ hK => wp_appL T E hown hr hn hm hbase s y ho hs hy fun v' w' h1 h2 h3 => hK _ _ (h v' w' h1 h2 h3)
theorem twice_smallE {l : List Ent} (h : ∀ k, (nthE l k).1.size ≤ maxLen) (k : Nat) : (nthE ([nthE l 0] ++ l) k).1.size ≤ maxLen := by
  cases k with
  | zero => exact h 0
  | succ k => rw [List.singleton_append, nthE_succ]; exact h k
set_option maxHeartbeats 2000000 in
set_option maxRecDepth 100000 in
theorem fnEntriesValid_any (x : Option Addr) (n cap : Nat) (w : World) (h : Bytes w.heap.size w x n) (hn : n ≤ cap) (hc : cap ≤ maxLen) :
    Calls Try.prog 3 #[.slice x n cap] w fun e w' => e = .returned (.bool true) ∧ Below w.heap.size w w' := by
  by_cases hlong : 1048576 < (n : Int)
  · go_enter Try.func3, Try.ntmps3
    go_wp2
    go_ret
    exact ⟨rfl, Below.refl _ _⟩
  · have HB0 := Lib.hid h
    have HC := Lib.hid hc
    have HLE := Lib.hid hn
    clear h hc hn
    go_enter Try.func3, Try.ntmps3
    go_wp2_with fail
    refine (drawEntriesValid_any x n cap w HB0.out HLE.out HC.out).mono ?_
    rintro e w1 ⟨y, m, c, l, rfl, hl4, hz, hl, hb⟩
    have HB := Lib.hid hb; have HL := Lib.hid hl; have HZ := Lib.hid (nines_max hz); clear hb hl hz
    have HLEN := Lib.hid HL.out.len
    have hm4 : m ≤ 4 := by have := HLEN.out; omega
    have hmc := HL.out.le
    go_wp2_with fail
    refine (implEntriesValid_any _ _ _ l _ _ HL.out (Nat.le_refl _) HZ.out).mono ?_
    rintro e w2 ⟨rfl, hb⟩
    have HB2 := Lib.hid (HB.out.trans (hb.mono HB.out.size))
    have HL2 := Lib.hid ((HL.out.below hb (Nat.le_refl _)).more hb.size)
    clear hb HL HB
    go_wp2_with fail
    refine (specEntriesValid_any _ _ _ l _ _ HL2.out HZ.out).mono ?_
    rintro e W hq
    have hb := hq.below
    obtain ⟨rfl, _⟩ := hq
    have HB3 := Lib.hid (HB2.out.trans (hb.mono HB2.out.size))
    have HL3 := Lib.hid ((HL2.out.below hb (Nat.le_refl _)).more hb.size)
    clear HB2 HL2 hb
    cases hv : entsB l
    · clear hv
      go_wp2_with (first
        | (go_at_call 16; refine (alive_any _).mono ?_; rintro e w' ⟨rfl, rfl⟩))
      go_ret
      exact ⟨rfl, HB3.out⟩
    · have HV := Lib.hid hv
      clear hv
      by_cases h0 : m = 0
      · subst h0
        go_wp2_with (first
          | (go_at_call 16; refine (alive_any _).mono ?_; rintro e w' ⟨rfl, rfl⟩))
        go_ret
        exact ⟨rfl, HB3.out⟩
      have hm0 : 0 < m := by omega
      have hmz : ((m : Int) == 0) = false := by simp; omega
      clear h0
      have HNE := Lib.hid (show l ≠ [] by intro e; have := HLEN.out; rw [e] at this; simp at this; omega)
      obtain ⟨b, off, rfl, hb, hc0, hc1⟩ := HL3.out.atE (k := 0) hm0
      rw [Nat.zero_mul, Nat.add_zero] at hc0
      rw [Nat.zero_mul, Nat.add_zero] at hc1
      have HZ1 := Lib.hid (show ∀ k, (nthE (l.drop 1) k).1.size ≤ maxLen from fun k => by have := HZ.out (1 + k); unfold nthE at this ⊢; rwa [List.getD_eq_getElem?_getD, List.getElem?_drop, ← List.getD_eq_getElem?_getD])
      by_cases hc1' : c = 1
      · obtain rfl : m = 1 := by omega
        have HR := Lib.hid (show Ents W W.heap.size (some ⟨b, off, none⟩) 0 0 (l.drop 1) by
          rw [List.drop_of_length_le (by have := HLEN.out; omega)]; exact Lst.empty _ _ _ _ _ (by unfold maxLen; omega))
        subst hc1'
        go_wp2_with fail
        refine (implEntriesValid_any _ _ _ (l.drop 1) W.heap.size W HR.out (Nat.le_refl _) (fun k => HZ1.out k)).mono ?_
        rintro e w4 ⟨rfl, hb4⟩
        rw [ents_tail HV.out]
        have HB4 := Lib.hid (HB3.out.trans (hb4.mono HB3.out.size))
        have HL4 := Lib.hid ((HL3.out.below hb4 (Nat.le_refl _)).more hb4.size)
        have hq0 : w4.cell? ⟨b, off, none⟩ = some (.string (nthE l 0).1) := (World.cell?_of_block (w := W) (w' := w4) (a := ⟨b, off, none⟩) (hb4.block b hb)).trans hc0
        have hq1 : w4.cell? ⟨b, off + 1, none⟩ = some (.int .i64 (nthE l 0).2) := (World.cell?_of_block (w := W) (w' := w4) (a := ⟨b, off + 1, none⟩) (hb4.block b hb)).trans hc1
        have hb' : b < w4.heap.size := Nat.lt_of_lt_of_le hb hb4.size
        have HO4 : Hid (OwnL enG 28 2 (w4.alloc (.cells #[.string (nthE l 0).1, .int .i64 (nthE l 0).2] 28)) w4.heap.size (.slice (some ⟨w4.heap.size, 0, none⟩) 1 1) [nthE l 0]) := Lib.hid (World.ownsRow_lit w4 #[.string (nthE l 0).1, .int .i64 (nthE l 0).2] 1 (Nat.le_refl _) (by decide) rfl)
        have HL5 := Lib.hid (Lst.alloc HL4.out (Nat.le_refl _) (.cells #[.string (nthE l 0).1, .int .i64 (nthE l 0).2] 28))
        clear hb4 HL4 HB3 HL3 hc0 hc1
        go_wp2_with (first
          | (at_builtin; refine appLW eltEn encEn HO4.out HL5.out (by simp) (by omega) (le_alloc (Nat.le_refl _) _) (by first | rfl | simp [Region.wanted, yielded]) _ _ rfl rfl rfl ?_; intro v6 w6 hown6 hgr6 hat6; obtain ⟨x6, n6, c6, rfl, hl6⟩ := hown6.lst; have HL6 := Lib.hid hl6; have HB6 := Lib.hid (HB4.out.trans (below_own (((Below.refl w4.heap.size w4).alloc (Nat.le_refl _) (.cells #[.string (nthE l 0).1, .int .i64 (nthE l 0).2] 28)).mono HB4.out.size) hgr6 (le_alloc HB4.out.size _) (fun k e => Nat.le_trans HB4.out.size (HO4.out.at k e)))); clear hown6 hgr6 hat6 hl6)
          | (go_at_call 14; refine (implEntriesValid_any _ _ _ _ _ _ HL6.out (Nat.le_refl _) (twice_smallE HZ.out)).mono ?_; rintro e w7 ⟨rfl, hb7⟩; rw [ents_twice HNE.out]; have HB7 := Lib.hid (HB6.out.trans (hb7.mono HB6.out.size)); clear hb7))
        go_ret
        exact ⟨rfl, HB7.out⟩
      · have HR := Lib.hid (show Ents W W.heap.size (some ⟨b, off + 2, none⟩) (m - 1) (c - 1) (l.drop 1) from Lst.rest encEn HL3.out (m := 1) (by omega))
        have hm1 : 1 ≤ m := hm0
        go_wp2_with fail
        refine (implEntriesValid_any _ _ _ (l.drop 1) W.heap.size W HR.out (Nat.le_refl _) (fun k => HZ1.out k)).mono ?_
        rintro e w4 ⟨rfl, hb4⟩
        rw [ents_tail HV.out]
        have HB4 := Lib.hid (HB3.out.trans (hb4.mono HB3.out.size))
        have HL4 := Lib.hid ((HL3.out.below hb4 (Nat.le_refl _)).more hb4.size)
        have hq0 : w4.cell? ⟨b, off, none⟩ = some (.string (nthE l 0).1) := (World.cell?_of_block (w := W) (w' := w4) (a := ⟨b, off, none⟩) (hb4.block b hb)).trans hc0
        have hq1 : w4.cell? ⟨b, off + 1, none⟩ = some (.int .i64 (nthE l 0).2) := (World.cell?_of_block (w := W) (w' := w4) (a := ⟨b, off + 1, none⟩) (hb4.block b hb)).trans hc1
        have hb' : b < w4.heap.size := Nat.lt_of_lt_of_le hb hb4.size
        have HO4 : Hid (OwnL enG 28 2 (w4.alloc (.cells #[.string (nthE l 0).1, .int .i64 (nthE l 0).2] 28)) w4.heap.size (.slice (some ⟨w4.heap.size, 0, none⟩) 1 1) [nthE l 0]) := Lib.hid (World.ownsRow_lit w4 #[.string (nthE l 0).1, .int .i64 (nthE l 0).2] 1 (Nat.le_refl _) (by decide) rfl)
        have HL5 := Lib.hid (Lst.alloc HL4.out (Nat.le_refl _) (.cells #[.string (nthE l 0).1, .int .i64 (nthE l 0).2] 28))
        clear hb4 HL4 HB3 HL3 hc0 hc1
        go_wp2_with (first
          | (at_builtin; refine appLW eltEn encEn HO4.out HL5.out (by simp) (by omega) (le_alloc (Nat.le_refl _) _) (by first | rfl | simp [Region.wanted, yielded]) _ _ rfl rfl rfl ?_; intro v6 w6 hown6 hgr6 hat6; obtain ⟨x6, n6, c6, rfl, hl6⟩ := hown6.lst; have HL6 := Lib.hid hl6; have HB6 := Lib.hid (HB4.out.trans (below_own (((Below.refl w4.heap.size w4).alloc (Nat.le_refl _) (.cells #[.string (nthE l 0).1, .int .i64 (nthE l 0).2] 28)).mono HB4.out.size) hgr6 (le_alloc HB4.out.size _) (fun k e => Nat.le_trans HB4.out.size (HO4.out.at k e)))); clear hown6 hgr6 hat6 hl6)
          | (go_at_call 14; refine (implEntriesValid_any _ _ _ _ _ _ HL6.out (Nat.le_refl _) (twice_smallE HZ.out)).mono ?_; rintro e w7 ⟨rfl, hb7⟩; rw [ents_twice HNE.out]; have HB7 := Lib.hid (HB6.out.trans (hb7.mono HB6.out.size)); clear hb7))
        go_ret
        exact ⟨rfl, HB7.out⟩
set_option maxHeartbeats 2000000 in
set_option maxRecDepth 100000 in
theorem fnFolderText_any (x : Option Addr) (n cap : Nat) (w : World) (h : Bytes w.heap.size w x n) (hn : n ≤ cap) (hc : cap ≤ maxLen) :
    Calls Try.prog 4 #[.slice x n cap] w fun e w' => e = .returned (.bool true) ∧ Below w.heap.size w w' := by
  by_cases hlong : 1048576 < (n : Int)
  · go_enter Try.func4, Try.ntmps4
    go_wp2
    go_ret
    exact ⟨rfl, Below.refl _ _⟩
  · have HB0 := Lib.hid h
    have HC := Lib.hid hc
    have HLE := Lib.hid hn
    clear h hc hn
    go_enter Try.func4, Try.ntmps4
    go_wp2_with fail
    refine (drawFolderText_any x n cap w HB0.out HLE.out HC.out).mono ?_
    rintro e w1 ⟨y, m, c, l, rfl, hl4, hz, hl, hb⟩
    have HB := Lib.hid hb; have HL := Lib.hid hl; have HZ := Lib.hid (nines_max hz); clear hb hl hz
    have hfs := folder_size l
    have HFY := Lib.hid (folderB_yes (l := l)); have HFN := Lib.hid (folderB_no (l := l))
    go_wp2_with fail
    refine (implFolderText_any _ _ _ l _ _ HL.out (Nat.le_refl _) HZ.out).mono ?_
    rintro e w2 ⟨rfl, hb⟩
    have HB2 := Lib.hid (HB.out.trans (hb.mono HB.out.size))
    have HL2 := Lib.hid ((HL.out.below hb (Nat.le_refl _)).more hb.size)
    clear hb HL HB
    go_wp2_with fail
    refine (specFolderText_any _ _ _ l _ _ HL2.out HZ.out).mono ?_
    rintro e w3 ⟨rfl, hq⟩
    have hb := below_quietN (Below.refl w2.heap.size w2) hq
    have HB3 := Lib.hid (HB2.out.trans (hb.mono HB2.out.size))
    have HL3 := Lib.hid ((HL2.out.below hb (Nat.le_refl _)).more hb.size)
    clear HB2 HL2 hb hq
    obtain ⟨s, hs⟩ : ∃ s, folderB l = s := ⟨_, rfl⟩
    rw [hs] at HFY HFN hfs ⊢
    clear hs
    go_wp2_with fail
    refine (specEntriesValid_any _ _ _ l _ _ HL3.out HZ.out).mono ?_
    rintro e w4 hq
    have hb := hq.below
    obtain ⟨rfl, _⟩ := hq
    have HB4 := Lib.hid (HB3.out.trans (hb.mono HB3.out.size))
    have HL4 := Lib.hid ((HL3.out.below hb (Nat.le_refl _)).more hb.size)
    clear HB3 HL3 hb
    cases hv : entsB l
    · have he := HFN.out hv
      subst he
      clear hv HFY HFN hfs
      go_wp2_with (first
        | (go_at_call 16; refine (alive_any _).mono ?_; rintro e w' ⟨rfl, rfl⟩))
      go_ret
      exact ⟨rfl, HB4.out⟩
    · have he := HFY.out hv
      subst he
      obtain ⟨hf, hi⟩ := fold_text hv
      have HT := Lib.hid (textE_text hv); have HF := Lib.hid hf; have HI := Lib.hid hi
      clear hv HFY HFN hf hi
      obtain ⟨s, hs⟩ : ∃ s, textE l = s := ⟨_, rfl⟩
      rw [hs] at HT HF HI hfs ⊢
      clear hs
      go_wp2_with fail
      refine (implReadFolder_any s _ (by omega)).mono ?_
      rintro e w5 ⟨v5, rfl, ho, hb⟩
      rw [HF.out] at ho
      rw [HI.out]
      obtain ⟨x5, n5, c5, rfl, hx⟩ := ho.lst
      have HB5 := Lib.hid (HB4.out.trans (hb.mono HB4.out.size))
      have HL5 := Lib.hid ((HL4.out.below hb (Nat.le_refl _)).more hb.size)
      have HX5 := Lib.hid hx
      clear hb HL4 HB4 ho hx
      go_wp2_with (first
        | (go_at_call 21; refine (sameEntries_any _ _ _ _ _ _ l l _ _ HX5.out HL5.out).mono ?_; rintro e w6 hq; have hb := hq.below; obtain ⟨rfl, _⟩ := hq; rw [decide_eq_true (show l = l from rfl)]; have HB6 := Lib.hid (HB5.out.trans (hb.mono HB5.out.size)); clear hb)
        | (go_at_call 22; refine (textValid_any s _ (by unfold maxLen; omega)).mono ?_; rintro e w' ⟨rfl, rfl⟩; rw [HT.out]))
      go_ret
      exact ⟨rfl, HB6.out⟩
set_option maxHeartbeats 2000000 in
set_option maxRecDepth 100000 in
theorem fnReadFolder_any (x : Option Addr) (n cap : Nat) (w : World) (h : Bytes w.heap.size w x n) (hn : n ≤ cap) (hc : cap ≤ maxLen) :
    Calls Try.prog 5 #[.slice x n cap] w fun e w' => e = .returned (.bool true) ∧ Below w.heap.size w w' := by
  by_cases hlong : 1048576 < (n : Int)
  · go_enter Try.func5, Try.ntmps5
    go_wp2
    go_ret
    exact ⟨rfl, Below.refl _ _⟩
  · have HB0 := Lib.hid h
    have HC := Lib.hid hc
    have HLE := Lib.hid hn
    clear h hc hn
    go_enter Try.func5, Try.ntmps5
    go_wp2_with fail
    refine (drawReadFolder_any x n cap w HB0.out HLE.out HC.out).mono ?_
    rintro e w1 ⟨s, rfl, hsz, hb⟩
    have HB := Lib.hid hb; clear hb
    go_wp2_with fail
    refine (implReadFolder_any s _ (by omega)).mono ?_
    rintro e w2 ⟨v2, rfl, ho, hb⟩
    obtain ⟨x2, n2, c2, rfl, hx⟩ := ho.lst
    have HB2 := Lib.hid (HB.out.trans (hb.mono HB.out.size))
    have HX2 := Lib.hid hx
    clear hb HB ho hx
    go_wp2_with fail
    refine (specReadFolder_any s _ (by omega)).mono ?_
    rintro e w3 ⟨v3, rfl, ho, hb⟩
    obtain ⟨x3, n3, c3, rfl, hx⟩ := ho.lst
    have HB3 := Lib.hid (HB2.out.trans (hb.mono HB2.out.size))
    have HX3 := Lib.hid ((HX2.out.below hb (Nat.le_refl _)).more hb.size)
    have HY3 := Lib.hid hx
    clear hb HB2 HX2 ho hx
    have HNO := Lib.hid (foldL_no (s := s)); have HIS := Lib.hid (fold_is (s := s)); have HSM := Lib.hid (fold_semi (s := s))
    have HZ := Lib.hid (show isFold s = true → ∀ k, (nthE (foldL s) k).1.size ≤ maxLen from fun h k => by
      by_cases hk : k < (foldL s).length
      · have := word_size (okE_word ((entsB_at (fold_is h).1).2 k hk)).1; unfold maxLen; omega
      · unfold nthE; rw [List.getD_eq_getElem?_getD, List.getElem?_eq_none (by omega)]; simp)
    obtain ⟨L, hL⟩ : ∃ L, foldL s = L := ⟨_, rfl⟩
    obtain ⟨O, hO⟩ : ∃ O, isFold s = O := ⟨_, rfl⟩
    rw [hL] at HX3 HY3 HNO HIS HZ
    rw [hO] at HNO HIS HSM HZ ⊢
    clear hL hO
    go_wp2_with fail
    refine (sameEntries_any _ _ _ _ _ _ L L _ _ HX3.out HY3.out).mono ?_
    rintro e w4 hq
    have hb := hq.below
    obtain ⟨rfl, _⟩ := hq
    rw [decide_eq_true (show L = L from rfl)]
    have HB4 := Lib.hid (HB3.out.trans (hb.mono HB3.out.size))
    have HX4 := Lib.hid ((HX3.out.below hb (Nat.le_refl _)).more hb.size)
    clear hb HB3 HX3 HY3
    cases O
    · have HLEN := Lib.hid HX4.out.len
      have he := HNO.out rfl
      subst he
      obtain rfl : n2 = 0 := by have := HLEN.out; simp at this; omega
      clear HNO HIS HSM HZ HLEN
      go_wp2_with (first
        | (go_at_call 16; refine (alive_any _).mono ?_; rintro e w' ⟨rfl, rfl⟩))
      go_ret
      exact ⟨rfl, HB4.out⟩
    · obtain ⟨hv, ht⟩ := HIS.out rfl
      have HF := Lib.hid ((folderB_yes hv).trans ht); have HS := Lib.hid (HSM.out rfl); have HZL := Lib.hid (HZ.out rfl)
      clear hv ht HNO HIS HSM HZ
      go_wp2_with fail
      refine (implReadFolder_any _ _ (by rw [ByteArray.size_append]; show s.size + 1 ≤ _; omega)).mono ?_
      rintro e w5 ⟨v5, rfl, ho, hb⟩
      rw [HS.out]
      obtain ⟨x5, n5, c5, rfl, hx⟩ := ho.lst
      have HB5 := Lib.hid (HB4.out.trans (hb.mono HB4.out.size))
      have HX5 := Lib.hid ((HX4.out.below hb (Nat.le_refl _)).more hb.size)
      clear hb HX4 HB4 ho hx
      go_wp2_with fail
      refine (implFolderText_any _ _ _ L _ _ HX5.out (Nat.le_refl _) HZL.out).mono ?_
      rintro e w6 ⟨rfl, hb⟩
      rw [HF.out]
      have HB6 := Lib.hid (HB5.out.trans (hb.mono HB5.out.size))
      clear hb
      go_wp2_with fail
      go_ret
      exact ⟨ret_bool (by simp), HB6.out⟩
theorem nines_sub {l l' : List Ent} (h : ∀ k, (nthE l k).1.size ≤ maxLen) (hs : l'.Sublist l) : ∀ k, (nthE l' k).1.size ≤ maxLen :=
  nthE_all.2 fun q hq => nthE_all.1 h q (hs.subset hq)
theorem drop_small {l : List Ent} (nm : ByteArray) (h : ∀ k, (nthE l k).1.size ≤ maxLen) : ∀ k, (nthE (dropE l nm).1 k).1.size ≤ maxLen := by
  cases hs : entsB l
  · rw [dropE_bad hs]; intro k; simp [nthE]
  · rw [dropE_ok hs]; exact nines_sub h (less_sub l nm)
set_option maxHeartbeats 4000000 in
set_option maxRecDepth 100000 in
theorem fnDropEntry_any (x : Option Addr) (n cap : Nat) (w : World) (h : Bytes w.heap.size w x n) (hn : n ≤ cap) (hc : cap ≤ maxLen) :
    Calls Try.prog 7 #[.slice x n cap] w fun e w' => e = .returned (.bool true) ∧ Below w.heap.size w w' := by
  by_cases hlong : 1048576 < (n : Int)
  · go_enter Try.func7, Try.ntmps7
    go_wp2
    go_ret
    exact ⟨rfl, Below.refl _ _⟩
  · have HB0 := Lib.hid h
    have HC := Lib.hid hc
    have HLE := Lib.hid hn
    clear h hc hn
    go_enter Try.func7, Try.ntmps7
    go_wp2_with fail
    refine (drawDropEntry_any x n cap w HB0.out HLE.out HC.out).mono ?_
    rintro e w1 ⟨y, m, c, l, t, rfl, hl4, hz, ht9, hl, hb⟩
    have HB := Lib.hid hb; have HL := Lib.hid hl; have HZ := Lib.hid (nines_max hz); clear hb hl hz
    have HTM := Lib.hid (show t.size ≤ maxLen by unfold maxLen; omega)
    have HLEN := Lib.hid HL.out.len
    have hm4 : m ≤ 4 := by have := HLEN.out; omega
    go_wp2_with fail
    refine (implDropEntry_any _ _ _ l t _ _ HL.out (Nat.le_refl _) HZ.out).mono ?_
    rintro e w2 ⟨v2, rfl, ho, hb⟩
    obtain ⟨x2, n2, c2, rfl, hx⟩ := ho.lst
    have HB2 := Lib.hid (HB.out.trans (hb.mono HB.out.size))
    have HL2 := Lib.hid ((HL.out.below hb (Nat.le_refl _)).more hb.size)
    have HX2 := Lib.hid hx
    clear hb HL HB ho hx
    go_wp2_with fail
    refine (specDropEntry_any _ _ _ l t _ _ HL2.out (Nat.le_refl _) HZ.out HTM.out).mono ?_
    rintro e w3 ⟨v3, rfl, ho, hb⟩
    obtain ⟨x3, n3, c3, rfl, hx⟩ := ho.lst
    have HB3 := Lib.hid (HB2.out.trans (hb.mono HB2.out.size))
    have HL3 := Lib.hid ((HL2.out.below hb (Nat.le_refl _)).more hb.size)
    have HX3 := Lib.hid ((HX2.out.below hb (Nat.le_refl _)).more hb.size)
    have HY3 := Lib.hid hx
    clear hb HL2 HB2 HX2 ho hx
    have HD := Lib.hid (drop_cases l t); have HDD := Lib.hid (drop_drop (l := l) (nm := t)); have HDE := Lib.hid (drop_ents (l := l) (nm := t)); have HZD := Lib.hid (drop_small t HZ.out)
    obtain ⟨R, hR⟩ : ∃ R, dropE l t = R := ⟨_, rfl⟩
    rw [hR] at HX3 HY3 HD HDD HDE HZD ⊢
    clear hR
    obtain ⟨L, O⟩ := R
    go_wp2_with fail
    refine (sameEntries_any _ _ _ _ _ _ L L _ _ HX3.out HY3.out).mono ?_
    rintro e w4 hq
    have hb := hq.below
    obtain ⟨rfl, _⟩ := hq
    rw [decide_eq_true (show L = L from rfl)]
    have HB4 := Lib.hid (HB3.out.trans (hb.mono HB3.out.size))
    have HL4 := Lib.hid ((HL3.out.below hb (Nat.le_refl _)).more hb.size)
    have HX4 := Lib.hid ((HX3.out.below hb (Nat.le_refl _)).more hb.size)
    clear hb HB3 HL3 HX3 HY3
    have HLX := Lib.hid HX4.out.len
    cases O
    · have HZ0 := Lib.hid (show L ≠ l → (n2 : Int) = 0 from fun h => by
        rcases HD.out with (e | e) | e
        · have h1 := HLX.out; rw [Prod.mk.injEq] at e; rw [e.1] at h1; simp at h1; omega
        · rw [Prod.mk.injEq] at e; exact absurd e.1 h
        · cases e.1)
      clear HD HDD HDE HZD
      by_cases hLl : L = l
      · clear HZ0
        go_wp2_with (first
          | (go_at_call 21; refine (sameEntries_any _ _ _ _ _ _ L l _ _ HX4.out HL4.out).mono ?_; rintro e w5 hq; have hb := hq.below; obtain ⟨rfl, _⟩ := hq; rw [decide_eq_true hLl]; have HB5 := Lib.hid (HB4.out.trans (hb.mono HB4.out.size)); clear hb)
          | (go_at_call 16; refine (alive_any _).mono ?_; rintro e w' ⟨rfl, rfl⟩))
        go_ret
        exact ⟨rfl, HB5.out⟩
      · obtain rfl : n2 = 0 := by have := HZ0.out hLl; omega
        clear HZ0
        go_wp2_with (first
          | (go_at_call 21; refine (sameEntries_any _ _ _ _ _ _ L l _ _ HX4.out HL4.out).mono ?_; rintro e w5 hq; have hb := hq.below; obtain ⟨rfl, _⟩ := hq; rw [decide_eq_false hLl]; have HB5 := Lib.hid (HB4.out.trans (hb.mono HB4.out.size)); clear hb)
          | (go_at_call 16; refine (alive_any _).mono ?_; rintro e w' ⟨rfl, rfl⟩))
        go_ret
        exact ⟨rfl, HB5.out⟩
    · obtain ⟨hv, hlen⟩ : entsB l = true ∧ n2 + 1 = m := by
        rcases HD.out with (e | e) | e
        · cases e
        · cases e
        · exact ⟨e.2.1, by have h1 := HLX.out; have h2 := HLEN.out; have h3 := e.2.2; omega⟩
      have HAG := Lib.hid (HDD.out hv); have HEV := Lib.hid (HDE.out hv)
      clear HD HDD HDE hv
      subst hlen
      have HLX2 := HLX
      go_wp2_with fail
      refine (implDropEntry_any _ _ _ L t _ _ HX4.out (Nat.le_refl _) HZD.out).mono ?_
      rintro e w5 ⟨v5, rfl, ho, hb⟩
      rw [HAG.out]
      obtain ⟨x5, n5, c5, rfl, hx⟩ := ho.lst
      have HB5 := Lib.hid (HB4.out.trans (hb.mono HB4.out.size))
      have HX5 := Lib.hid ((HX4.out.below hb (Nat.le_refl _)).more hb.size)
      clear hb HX4 HB4 ho hx
      go_wp2_with fail
      refine (implEntriesValid_any _ _ _ L _ _ HX5.out (Nat.le_refl _) HZD.out).mono ?_
      rintro e w6 ⟨rfl, hb⟩
      rw [HEV.out]
      have HB6 := Lib.hid (HB5.out.trans (hb.mono HB5.out.size))
      clear hb
      go_wp2_with fail
      go_ret
      exact ⟨ret_bool (by simp), HB6.out⟩
end Go.Proofs.Ytjbkbbcogimaiaa
