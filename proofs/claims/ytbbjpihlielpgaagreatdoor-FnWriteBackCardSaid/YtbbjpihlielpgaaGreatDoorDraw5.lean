/-
  Draws of chapter 4: paths, contents, steps.
-/
import Derived.Test.YtbbjpihlielpgaaGreatDoorDraw0
import Derived.Test.YtbbjpihlielpgaaGreatDoorDrop
import Derived.Test.YtbbjpihlielpgaaGreatDoorImpl4
import Derived.Test.YtbbjpihlielpgaaGreatDoorMem
import Derived.Test.YtbbjpihlielpgaaGreatDoorStores2
import Derived.Test.YtbbjpihlielpgaaGreatDoorPrints
namespace Go.Proofs.YtbbjpihlielpgaaGreatDoor
open Go.RowKit
set_option linter.unusedVariables false
def paths1 : List ByteArray := [⟨#[]⟩, ⟨#[97]⟩, ⟨#[47, 47]⟩, ⟨#[47, 97, 47]⟩, ⟨#[47, 65]⟩, ⟨#[47, 97, 47, 98, 47, 99, 47, 100]⟩]
def paths2 : List ByteArray := [⟨#[47, 97]⟩, ⟨#[47, 98]⟩, ⟨#[47, 99]⟩, ⟨#[47, 97, 47, 98]⟩, ⟨#[47, 98, 47, 97]⟩, ⟨#[47, 98, 47, 98, 47, 97]⟩, ⟨#[47, 97, 47, 98, 47, 99]⟩, ⟨#[47]⟩]
def ints13 : List Int := [0, 1, 2, 3, 4, 5, 6, 7, 0, 1, 2, 3, 4]
theorem ints13_bd : ∀ j, j < 13 → 0 ≤ nthI ints13 j ∧ nthI ints13 j < 8 := by decide
theorem paths2_facts : ∀ s ∈ paths2, s.size ≤ 60 ∧ (s = ⟨#[47]⟩ ∨ (isPath s = true ∧ partsB s ≠ [])) := by decide +kernel
/-- A drawn path: of the second list, if none is to be wrong. -/
def PathIn (n : Int) (B r c : Nat) (w : World) (e : Ending) (w' : World) : Prop :=
  ∃ s : ByteArray, e = .returned (.string s) ∧ (s ∈ paths1 ++ paths2) ∧ (n < 1 → s ∈ paths2) ∧ Rd B w' r c ∧ w.grownBy w' (some r)
set_option maxHeartbeats 1000000 in
theorem l20Path_any (B r c : Nat) (n : Int) (w : World) (h : Rd B w r c) (hc : c ≤ 100000) (hn : n ≤ 1000000) :
    Calls Tryz.prog 105 #[.pointer (some ⟨r, 0, none⟩), .int .i64 n] w (PathIn n B r (c + 2) w) := by
  have H := Lib.hid h; clear h
  have hrB := H.out.le
  go_enter Tryz.func105, Tryz.ntmps105
  go_wp2_with fail
  refine (odd_any B r c _ _ H.out (by omega) hn).mono ?_
  rintro e w1 ⟨b, rfl, hb0, hb1, hr, hg⟩
  have HR := Lib.hid hr; have HG := Lib.hid hg; clear hr hg
  cases b
  · clear hb0 hb1
    have hsz := HR.out.lt
    go_wp2_with fail
    refine (pickN_any 13 B r (c + 1) _ _ w (rd_alloc (rd_alloc HR.out _) _) (grownBy_trans HG.out (grownBy_trans (World.grownBy_alloc _ _ _) (World.grownBy_alloc _ _ _))) rfl (by decide) (by decide) (by omega)).mono ?_
    rintro e w2 ⟨j, rfl, hj, hr, hg, hg1⟩
    have HR2 := Lib.hid hr; have HG2 := Lib.hid hg1
    obtain ⟨ht0, ht1⟩ := ints13_bd j hj
    have hC : w2.cell? ⟨w1.heap.size + 1, j, none⟩ = some (.int .i64 (nthI ints13 j)) :=
      hg.cell (a := ⟨w1.heap.size + 1, j, none⟩) (by
        have := cell_new (w1.alloc (.cells (paths2.map Value.string).toArray 9)) (ints13.map (Value.int .i64)).toArray 3 j (.int .i64 (nthI ints13 j)) (by
          rw [List.getElem?_toArray, List.getElem?_map, nthI_some (l := ints13) (k := j) hj]; rfl)
        have e8 : (w1.alloc (.cells (paths2.map Value.string).toArray 9)).heap.size = w1.heap.size + 1 := by simp
        rw [e8] at this
        exact this) (by simp; omega)
    obtain ⟨t, ht⟩ : ∃ t : Nat, nthI ints13 j = t := ⟨(nthI ints13 j).toNat, by omega⟩
    rw [ht] at hC ht0 ht1
    have ht8 : t < 8 := by omega
    have hA : w2.cell? ⟨w1.heap.size, t, none⟩ = some (.string (nthS paths2 t)) :=
      hg.cell (a := ⟨w1.heap.size, t, none⟩) (cell_alloc _ _ (cell_new w1 (paths2.map Value.string).toArray 9 t _ (by
        rw [List.getElem?_toArray, List.getElem?_map, nthS_some (l := paths2) (k := t) ht8]; rfl))) (by simp; omega)
    have HS := Lib.hid (show nthS paths2 t ∈ paths2 by rw [nthS_get (show t < paths2.length from ht8)]; exact List.getElem_mem _)
    clear hr hg hg1 ht ht0 ht1
    go_wp2_with fail
    go_ret
    exact ⟨_, rfl, List.mem_append_right _ HS.out, fun _ => HS.out, HR2.out, HG2.out⟩
  · have hn1 : ¬ n < 1 := fun h => by have := hb0 h; cases this
    have HN1 := Lib.hid hn1
    clear hb0 hb1 hn1
    go_wp2_with fail
    refine (pickStr_any paths1 B r (c + 1) _ _ _ HR.out rfl rfl (by decide) (by decide) (by omega)).mono ?_
    rintro e w2 ⟨j, rfl, hj, hcell, hr, hg⟩
    have HR2 := Lib.hid hr; have HG2 := Lib.hid (grownBy_trans HG.out hg); clear hr hg
    have hj6 : j < 6 := hj
    have HS := Lib.hid (show paths1.getD j ByteArray.empty ∈ paths1 by rw [List.getD_eq_getElem?_getD, List.getElem?_eq_getElem hj]; simp)
    clear hj
    go_wp2_with fail
    go_ret
    exact ⟨_, rfl, List.mem_append_left _ HS.out, fun h => absurd h (by have := HN1.out; omega), HR2.out, HG2.out⟩
def contents4 : List ByteArray := [⟨#[104, 105]⟩, ⟨#[114, 101, 100, 32, 103, 114, 101, 101, 110]⟩, ⟨#[]⟩, ⟨#[120]⟩]
theorem contents_facts : ∀ s ∈ contents4, s.size ≤ 9 ∧ contentB s = true := by decide +kernel
theorem l20Content_any (B r c : Nat) (w : World) (h : Rd B w r c) (hc : c ≤ 100000) :
    Calls Tryz.prog 69 #[.pointer (some ⟨r, 0, none⟩)] w (StrIn contents4 B r (c + 1) w) := by
  have H := Lib.hid h; clear h
  go_enter Tryz.func69, Tryz.ntmps69
  go_wp2_with fail
  refine (pickStr_any contents4 B r c _ _ _ H.out rfl rfl (by decide) (by decide) (by omega)).mono ?_
  rintro e w2 ⟨j, rfl, hj, hcell, hr, hg⟩
  have HR2 := Lib.hid hr; have HG2 := Lib.hid hg; have HJ := Lib.hid hj; clear hr hg
  have hj4 : j < 4 := hj
  clear hj
  go_wp2_with fail
  go_ret
  exact strIn_get HJ.out (fun s hs => hs) HR2.out HG2.out
/-- A store is not the reader's block. -/
theorem Lst.rd_kept {w w' : World} {B B' r c n cap : Nat} {x : Option Addr} {l : List Pc} (h : Pcs w B' x n cap l) (hr : Rd B w r c) (hg : w.grownBy w' (some r)) (hB : B' ≤ w.heap.size) : Pcs w' B' x n cap l := by
  refine ⟨h.len, h.le, h.max, fun j u hu => ?_⟩
  obtain ⟨b, off, rfl, hb, hc⟩ := h.rds j u hu
  refine ⟨b, off, rfl, hb, ?_⟩
  have hbr : b ≠ r := by
    intro e
    subst e
    have hj := (List.getElem?_eq_some_iff.1 hu).1
    rw [encPc.length, h.len] at hj
    obtain ⟨b2, o2, e2, _, h0, h1⟩ := h.atP (k := j / 2) (by omega)
    simp only [Option.some.injEq, Addr.mk.injEq, and_true] at e2
    obtain ⟨rfl, rfl⟩ := e2
    obtain ⟨x1, m1, cap1, p1, hh, _⟩ := hr
    have hcell : ∀ i v, w.cell? ⟨b, i, none⟩ = some v → (i = 0 ∧ v = .slice x1 m1 cap1) ∨ (i = 1 ∧ v = .int .i64 p1) := fun i v hv => by
      rw [cell_of_row w b i _ _ (0, 0) hh] at hv
      match i, hv with
      | 0, hv => left; simpa using hv.symm
      | 1, hv => right; simpa using hv.symm
      | i + 2, hv => simp at hv
    rcases hcell _ _ h0 with ⟨_, e3⟩ | ⟨e3, _⟩
    · cases e3
    · rcases hcell _ _ h1 with ⟨e4, _⟩ | ⟨e4, _⟩ <;> omega
  exact hg.cell (a := ⟨b, off + j, none⟩) hc (by simpa using hbr)
/-- A store that is valid and has something in it. -/
def GoodS (l : List Pc) : Prop := storeB l = true ∧ l ≠ []
theorem putB_store (l : List Pc) (t : ByteArray) (h : storeB l = true) : storeB (putB l t).1 = true := by
  cases ht : textB t
  · rw [putB_text h (by rw [printB_none ht]; decide)]; exact h
  · exact put_store h ht
theorem putB_some {l : List Pc} (t : ByteArray) (h : GoodS l) : GoodS (putB l t).1 := by
  refine ⟨putB_store l t h.1, ?_⟩
  unfold putB putL
  rw [if_neg (by rw [h.1]; simp)]
  split
  · exact h.2
  split
  · split <;> exact h.2
  split
  · exact h.2
  · simp
theorem set_good {leaf : Int} : ∀ {ps : List ByteArray} {l : List Pc} {p : Int}, GoodS l → GoodS (setB leaf l p ps).1
  | [], l, p, h => h
  | nm :: r, l, p, h => by
    have ih := set_good (leaf := leaf) (ps := r) (p := lastE nm (-1) (entsAt l p)) h
    rw [setB]
    split
    · exact h
    split
    · exact h
    split
    · exact ih
    split
    · exact ih
    · exact putB_some _ ih
theorem end_good {l : List Pc} {r : List Ent} (h : GoodS l) : GoodS (endB l r).1 := by
  unfold endB
  split
  · exact h
  · exact putB_some _ h
theorem drop_good : ∀ {ps : List ByteArray} {l : List Pc} {p : Int}, GoodS l → GoodS (dropB l p ps).1
  | [], l, p, h => h
  | nm :: r, l, p, h => by
    have ih := drop_good (ps := r) (p := lastE nm (-1) (foldL (getT l p))) h
    rw [dropB]
    split
    · exact h
    split
    · exact end_good h
    split
    · exact h
    · exact end_good ih
theorem write_good {l : List Pc} {root : Int} {path content : ByteArray} (h : GoodS l) (hp : isPath path = true) (hne : partsB path ≠ []) (hc : contentB content = true) : GoodS (writeB l root path content).1 := by
  unfold writeB
  rw [if_neg (by rw [h.1, hp, decide_eq_false hne, hc]; simp)]
  split
  · exact h
  split
  · exact h
  split
  · exact h
  · exact putB_some _ (set_good h)
theorem dropAt_good {l : List Pc} {root : Int} {path : ByteArray} (h : GoodS l) (hp : isPath path = true) (hne : partsB path ≠ []) : GoodS (dropAtB l root path).1 := by
  unfold dropAtB
  rw [if_neg (by rw [h.1, hp, decide_eq_false hne]; simp)]
  split
  · exact h
  split
  · split
    · exact h
    · exact putB_some _ (drop_good h)
  split
  · exact h
  · exact drop_good h
theorem empty_good : GoodS (putB [] (folderB [])).1 := by
  have h : storeB [] = true := by decide
  refine ⟨putB_store _ _ h, ?_⟩
  have e : folderB [] = ⟨#[100]⟩ := by decide +kernel
  have hx : textB ⟨#[100]⟩ = true := by decide +kernel
  rw [e, putB_of h (printB_ge hx), putP_new (p := (printB ⟨#[100]⟩, ⟨#[100]⟩)) rfl (by decide)]
  simp
/-- A step: a store that is good, a root, a bool; the reader behind it. -/
def StepR (B r c : Nat) (w : World) (e : Ending) (w' : World) : Prop :=
  ∃ (x : Option Addr) (n cap : Nat) (l : List Pc) (p : Int) (b : Bool), e = .returned (.tuple #[.slice x n cap, .int .i64 p, .bool b]) ∧ Pcs w' w'.heap.size x n cap l ∧ GoodS l ∧ Rd B w' r c ∧ w.grownBy w' (some r)
set_option maxHeartbeats 1000000 in
theorem l20Step_any (B r c : Nat) (x : Option Addr) (n cap : Nat) (l : List Pc) (root : Int) (w : World) (h : Rd B w r c) (hl : Pcs w w.heap.size x n cap l) (hg : GoodS l) (hc : c ≤ 90000) :
    Calls Tryz.prog 132 #[.pointer (some ⟨r, 0, none⟩), .slice x n cap, .int .i64 root] w (StepR B r (c + 8) w) := by
  have hzm : ∀ k, (nthP l k).2.size ≤ maxLen := fun k => Nat.le_trans (short_nth (store_short hg.1) k) (by unfold maxLen; omega)
  have H := Lib.hid h; have HL := Lib.hid hl; have HGS := Lib.hid hg
  clear h hl hg
  go_enter Tryz.func132, Tryz.ntmps132
  go_wp2_with fail
  refine (l20Path_any B r c _ _ H.out (by omega) (by omega)).mono ?_
  rintro e w1 ⟨path, rfl, _, hin, hr, hgr⟩
  have hin := hin (by decide)
  obtain ⟨hsz, hroot⟩ := paths2_facts path hin
  have HR1 := Lib.hid (hr.more (show c + 2 ≤ c + 8 by omega)); have HR1' := Lib.hid hr; have HG1 := Lib.hid hgr
  have hw1 : w.heap.size ≤ w1.heap.size := hgr.size
  have HL1 := Lib.hid (Lst.rd_kept HL.out H.out hgr (Nat.le_refl _))
  clear hin hr hgr
  by_cases hsl : path = ⟨#[47]⟩
  · subst hsl
    clear hroot hsz
    go_wp2_with fail
    go_ret3
    exact ⟨x, n, cap, l, root, false, rfl, HL1.out.more hw1, HGS.out, HR1.out, HG1.out⟩
  have hd : (path.toList == [47]) = false := by
    rw [ByteArray.toList_eq]
    simp only [beq_eq_false_iff_ne, ne_eq]
    intro e; exact hsl (by cases path; congr 1; exact Array.toList_inj.1 e)
  obtain ⟨hip, hpn⟩ : isPath path = true ∧ partsB path ≠ [] := by
    rcases hroot with h | h
    · exact absurd h hsl
    · exact h
  have HIP := Lib.hid hip; have HPN := Lib.hid hpn
  clear hroot hsl hip hpn
  go_wp2_with fail
  refine (pickN_any 5 B r (c + 2) _ _ w HR1'.out HG1.out rfl (by decide) (by decide) (by omega)).mono ?_
  rintro e w2 ⟨k, rfl, hk, hr, hg2, hgr⟩
  have HR2 := Lib.hid hr; have HG2 := Lib.hid hgr
  have hw2 : w.heap.size ≤ w2.heap.size := hgr.size
  have HL2 := Lib.hid (Lst.rd_kept HL1.out HR1'.out hg2 hw1)
  clear hr hg2 hgr
  by_cases h0 : k = 0
  · subst h0
    go_wp2_with fail
    refine (specDropAt_any x n cap l root path w.heap.size _ HL2.out hw2 hzm (by omega)).mono ?_
    rintro e w3 ⟨x3, n3, c3, rfl, h3, hb3⟩
    have H3 := Lib.hid h3
    have HR3 := Lib.hid ((HR2.out.below hb3).more (show c + 2 + 1 ≤ c + 8 by omega)); have HG3 := Lib.hid (grownBy_join HG2.out hb3)
    clear h3 hb3
    go_wp2_with fail
    go_ret3
    exact ⟨x3, n3, c3, _, _, _, rfl, H3.out, dropAt_good HGS.out HIP.out HPN.out, HR3.out, HG3.out⟩
  · have hk0 : ((k : Int) == 0) = false := by simp; omega
    clear h0
    go_wp2_with fail
    refine (l20Content_any B r (c + 2 + 1) _ HR2.out (by omega)).mono ?_
    rintro e w3 ⟨content, rfl, hin, hr, hg3⟩
    obtain ⟨hcs, hcb⟩ := contents_facts content hin
    have HR3 := Lib.hid hr; have HG3 := Lib.hid (grownBy_trans HG2.out hg3)
    have hw3 : w.heap.size ≤ w3.heap.size := Nat.le_trans hw2 hg3.size
    have HL3 := Lib.hid (Lst.rd_kept HL2.out HR2.out hg3 hw2)
    have HCB := Lib.hid hcb
    clear hr hg3 hin hcb
    go_wp2_with fail
    refine (specWriteAt_any x n cap l root path content w.heap.size _ HL3.out hw3 hzm (by omega) (by omega)).mono ?_
    rintro e w4 ⟨x4, n4, c4, rfl, h4, hb4⟩
    have H4 := Lib.hid h4
    have HR4 := Lib.hid ((HR3.out.below hb4).more (show c + 2 + 1 + 1 ≤ c + 8 by omega)); have HG4 := Lib.hid (grownBy_join HG3.out hb4)
    clear h4 hb4
    go_wp2_with fail
    go_ret3
    exact ⟨x4, n4, c4, _, _, _, rfl, H4.out, write_good HGS.out HIP.out HPN.out HCB.out, HR4.out, HG4.out⟩
end Go.Proofs.YtbbjpihlielpgaaGreatDoor
/-
  Draws of chapter 4: stores.
-/
namespace Go.Proofs.YtbbjpihlielpgaaGreatDoor
open Go.RowKit
set_option linter.unusedVariables false
/-- A drawn store, not empty, its texts short. -/
def FineS (l : List Pc) : Prop := l ≠ [] ∧ l.length ≤ 41 ∧ Short 60 l
theorem fine_of {l : List Pc} (h : GoodS l) : FineS l := ⟨h.2, Nat.le_trans (storeB_at h.1).1 (by decide), store_short h.1⟩
def StoreR (B r c : Nat) (w : World) (e : Ending) (w' : World) : Prop :=
  ∃ (x : Option Addr) (n cap : Nat) (l : List Pc) (p : Int), e = .returned (.tuple #[.slice x n cap, .int .i64 p]) ∧ Pcs w' w'.heap.size x n cap l ∧ FineS l ∧ Rd B w' r c ∧ w.grownBy w' (some r)
theorem flat_setN (v : Int) : ∀ (l : List Pc) (j : Nat), j < l.length → (l.flatMap pcG).set (j * 2) (.int .i64 v) = (l.set j (v, (nthP l j).2)).flatMap pcG
  | [], j, h => by simp at h
  | p :: t, 0, h => by simp [pcG, nthP]
  | p :: t, j + 1, h => by
    have ih := flat_setN v t j (by simpa using h)
    have e : (nthP (p :: t) (j + 1)) = nthP t j := by simp [nthP]
    have e2 : (j + 1) * 2 = j * 2 + 1 + 1 := by omega
    rw [e, e2, List.flatMap_cons, List.set_cons_succ, List.flatMap_cons, ← ih]
    rfl
theorem flat_setT (s : ByteArray) : ∀ (l : List Pc) (j : Nat), j < l.length → (l.flatMap pcG).set (j * 2 + 1) (.string s) = (l.set j ((nthP l j).1, s)).flatMap pcG
  | [], j, h => by simp at h
  | p :: t, 0, h => by simp [pcG, nthP]
  | p :: t, j + 1, h => by
    have ih := flat_setT s t j (by simpa using h)
    have e : (nthP (p :: t) (j + 1)) = nthP t j := by simp [nthP]
    have e2 : (j + 1) * 2 + 1 = j * 2 + 1 + 1 + 1 := by omega
    rw [e, e2, List.flatMap_cons, List.set_cons_succ, List.flatMap_cons, ← ih]
    rfl
theorem fine_set {l : List Pc} {q : Pc} (j : Nat) (h : FineS l) (hq : q.2.size ≤ 60) : FineS (l.set j q) := by
  refine ⟨?_, by rw [List.length_set]; exact h.2.1, fun p hp => ?_⟩
  · intro e; exact h.1 (by have := congrArg List.length e; rw [List.length_set] at this; exact List.eq_nil_of_length_eq_zero this)
  · rcases List.mem_or_eq_of_mem_set hp with h1 | rfl
    · exact h.2.2 p h1
    · exact hq
theorem fine_more {l : List Pc} (h : GoodS l) : FineS ([] ++ l ++ [nthP l 0]) := by
  have hf := fine_of h
  refine ⟨by simp, ?_, fun p hp => ?_⟩
  · have := (storeB_at h.1).1
    simp; omega
  · simp only [List.nil_append, List.mem_append, List.mem_singleton] at hp
    rcases hp with h1 | rfl
    · exact hf.2.2 p h1
    · exact short_nth hf.2.2 0
/-- A row of the call's own under the reader's writes. -/
theorem row_kept {w w' : World} {base n r g gc m : Nat} {xs : List Value} (h : w.ownsRow base 62 2 (.slice (some ⟨g, 0, none⟩) n gc) m xs) (hg : w.grownBy w' (some r)) (hr : r < g) : w'.ownsRow base 62 2 (.slice (some ⟨g, 0, none⟩) n gc) m xs :=
  World.ownsRow.kept h hg (.inr (by intro e; simp [Value.ownBlock] at e; omega))
/-- The copy of a store. -/
theorem copy_out {w w6 : World} {v : Value} {l : List Pc} {n : Nat} (hl : l.length = n) (h0 : 0 < n) (hown : OwnL pcG 62 2 w6 w.heap.size v ([] ++ l)) (hg : (w.alloc (.cells #[] 62)).grownBy w6 (Value.slice (some ⟨w.heap.size, 0, none⟩) 0 0).ownBlock) :
    ∃ g c, v = .slice (some ⟨g, 0, none⟩) n c ∧ n ≤ c ∧ c ≤ maxLen ∧ w.heap.size ≤ g ∧ w6.ownsRow w.heap.size 62 2 (.slice (some ⟨g, 0, none⟩) n c) n (l.flatMap pcG) ∧ Below w.heap.size w w6 := by
  have hb := ((Below.refl w.heap.size w).alloc (Nat.le_refl _) (.cells #[] 62)).grown hg (by simp) (fun k e => by simp [Value.ownBlock] at e; omega)
  rw [List.nil_append] at hown
  unfold OwnL at hown
  rw [hl] at hown
  obtain ⟨g, c, rfl, hgb, hgl⟩ := World.ownsRow.form hown h0
  obtain ⟨x', c', e, h1, h2, _⟩ := own_reads hown
  simp only [Value.slice.injEq] at e
  obtain ⟨rfl, _, rfl⟩ := e
  exact ⟨g, c, rfl, h1, h2, hgb, hown, hb⟩
theorem store_end {B r c base g n gc : Nat} {w w8 w9 : World} {l : List Pc} {p : Int} (hr : Rd B w8 r c) (hg : w.grownBy w8 (some r)) (hs : w8.grownBy w9 (some g)) (ho : w9.ownsRow base 62 2 (.slice (some ⟨g, 0, none⟩) n gc) n (l.flatMap pcG)) (hl : l.length = n) (hb : w.heap.size ≤ g) (hrg : r < g) (hf : FineS l) :
    StoreR B r c w (.returned (.tuple #[.slice (some ⟨g, 0, none⟩) n gc, .int .i64 p])) w9 := by
  refine ⟨_, n, gc, l, p, rfl, ?_, hf, hr.grown hs (fun k e => ?_), grownBy_into (v := .slice (some ⟨g, 0, none⟩) n gc) hg hs (fun k e => ?_)⟩
  · have : OwnP w9 base (.slice (some ⟨g, 0, none⟩) n gc) l := by unfold OwnP OwnL; rw [hl]; exact ho
    exact this.lst'
  · have := hr.le; simp at e; omega
  · simp [Value.ownBlock] at e; omega
set_option maxHeartbeats 2000000 in
set_option maxRecDepth 100000 in
theorem l20Store_any (B r c : Nat) (nn : Int) (w : World) (h : Rd B w r c) (hc : c ≤ 80000) (hn : nn ≤ 1000000) :
    Calls Tryz.prog 101 #[.pointer (some ⟨r, 0, none⟩), .int .i64 nn] w (StoreR B r (c + 60) w) := by
  have H := Lib.hid h
  have hrw := h.lt
  clear h
  have HR0 := Lib.hid (rd_alloc H.out (.cells #[] 62))
  have HG0 := Lib.hid (World.grownBy_alloc w (.cells #[] 62) (some r))
  go_enter Tryz.func101, Tryz.ntmps101
  go_wp2_with fail
  refine (specEmptyRoot_any _ 0 0 [] 0 _ (Lst.empty _ _ _ _ _ (by unfold maxLen; omega)) (Nat.zero_le _) (fun k => by simp [nthP])).mono ?_
  rintro e w1 ⟨x1, n1, c1, rfl, h1, hb1⟩
  have HL1 := Lib.hid h1
  have HR1 := Lib.hid (HR0.out.below hb1); have HG1 := Lib.hid (grownBy_join HG0.out hb1)
  clear h1 hb1
  go_wp2_with fail
  refine (pickN_any 6 B r c _ _ w HR1.out HG1.out rfl (by decide) (by decide) (by omega)).mono ?_
  rintro e w2 ⟨k0, rfl, hk0, hr, hg, hg2⟩
  have HR2 := Lib.hid hr; have HG2 := Lib.hid hg2
  have HL2 := Lib.hid (Lst.more (Lst.rd_kept HL1.out HR1.out hg (Nat.le_refl _)) hg.size)
  clear hr hg hg2
  have HE := Lib.hid empty_good
  generalize (putB [] (folderB [])).1 = l0 at HL2 HE
  clear HL1 HR1 HG1 HR0 HG0
  go_wp2_with fail
  go_loopw [6, 7, 9] (fun sv pv kv wr => ∃ (m : Nat) (x : Option Addr) (n cap : Nat) (l : List Pc) (p : Int), m ≤ 5 ∧ sv = .slice x n cap ∧ pv = .int .i64 p ∧ kv = .int .i64 m ∧ Pcs wr wr.heap.size x n cap l ∧ GoodS l ∧ Rd B wr r (c + 41 - 8 * m) ∧ w.grownBy wr (some r)) (fun _ _ kv _ => (intOf kv).toNat)
  case atStart => exact ⟨k0, x1, n1, c1, _, _, by omega, rfl, rfl, rfl, HL2.out, HE.out, HR2.out.more (by omega), HG2.out⟩
  case round =>
    obtain ⟨m, x, n, cap, l, p, hm, rfl, rfl, rfl, hl, hgs, hr, hg⟩ := hrel
    have HL := Lib.hid hl; have HGS := Lib.hid hgs; have HR := Lib.hid hr; have HG := Lib.hid hg; clear hl hgs hr hg
    clear HL2 HR2 HG2 HE
    by_cases h0 : 0 < m
    · go_wp2_with fail
      refine (l20Step_any B r (c + 41 - 8 * m) x n cap l p _ HR.out HL.out HGS.out (by omega)).mono ?_
      rintro e w3 ⟨x3, n3, c3, l3, p3, b3, rfl, hl, hgs, hr, hg⟩
      have HL3 := Lib.hid hl; have HGS3 := Lib.hid hgs; have HR3 := Lib.hid hr; have HG3 := Lib.hid (grownBy_trans HG.out hg); clear hl hgs hr hg
      go_wp2_with fail
      go_roundw
      case rel => exact ⟨m - 1, x3, n3, c3, l3, p3, by omega, rfl, rfl, by go_num, HL3.out, HGS3.out, HR3.out.more (by omega), HG3.out⟩
      case measure => simp [intOf]; omega
    · obtain rfl : m = 0 := by omega
      go_wp2_with fail
      refine (odd_any B r (c + 41) _ _ HR.out (by omega) hn).mono ?_
      rintro e w3 ⟨b, rfl, _, _, hr, hg⟩
      have HR3 := Lib.hid hr; have HG3 := Lib.hid (grownBy_trans HG.out hg)
      have HL3 := Lib.hid (Lst.more (Lst.rd_kept HL.out HR.out hg (Nat.le_refl _)) hg.size)
      clear hr hg HL HR HG
      cases b
      · go_wp2_with fail
        go_ret2
        exact ⟨x, n, cap, l, p, rfl, HL3.out, fine_of HGS.out, HR3.out.more (by omega), HG3.out⟩
      · go_wp2_with fail
        refine (pickN_any 3 B r (c + 41 + 1) _ _ w HR3.out HG3.out rfl (by decide) (by decide) (by omega)).mono ?_
        rintro e w4 ⟨k, rfl, hk, hr, hg, hg2⟩
        have HR4 := Lib.hid hr; have HG4 := Lib.hid hg2
        have HL4 := Lib.hid (Lst.more (Lst.rd_kept HL3.out HR3.out hg (Nat.le_refl _)) hg.size)
        clear hr hg hg2 HL3 HR3 HG3
        have HLEN := Lib.hid HL4.out.len
        have hn40 : n ≤ 40 := by have := HLEN.out; have := (storeB_at HGS.out.1).1; omega
        have hn0 : 0 < n := by have := HLEN.out; have := List.length_pos_iff.2 HGS.out.2; omega
        have HSH := Lib.hid (store_short HGS.out.1)
        have hw4 : w.heap.size ≤ w4.heap.size := HG4.out.size
        match k, hk with
        | 0, _ =>
          go_wp2_with (at_builtin; refine wpList_appL eltPc encPc (OwnL.newAt pcG 62 (size := 2) (base := w4.heap.size) rfl (Nat.le_refl _)) (Lst.alloc HL4.out (Nat.le_refl _) _) (by decide) (by omega) (le_alloc (Nat.le_refl _) _) rfl _ _ rfl rfl rfl ?_; intro v6 w6 hown6 hgr6 hat6; obtain ⟨g, gc, rfl, hgn, hgm, hgb, ho6, hb6⟩ := copy_out HLEN.out hn0 hown6 hgr6; have HO6 := Lib.hid ho6; have HR6 := Lib.hid (HR4.out.below hb6); have HG6 := Lib.hid (grownBy_join HG4.out hb6); clear hown6 hgr6 hat6 ho6 hb6)
          unfold maxLen at hgm
          have hrg : r < g := by omega
          refine (pickN_any n B r (c + 41 + 1 + 1) _ _ w HR6.out HG6.out rfl hn0 (by omega) (by omega)).mono ?_
          rintro e w7 ⟨j, rfl, hj, hr, hg, hg2⟩
          have HR7 := Lib.hid hr; have HG7 := Lib.hid hg2; have HO7 := Lib.hid (row_kept HO6.out hg hrg); clear hr hg hg2
          have hsz := HR7.out.lt
          go_wp2_with fail
          refine (pickN_any 2 B r (c + 41 + 1 + 1 + 1) _ _ w (rd_alloc HR7.out _) (grownBy_trans HG7.out (World.grownBy_alloc _ _ _)) rfl (by decide) (by decide) (by omega)).mono ?_
          rintro e w8 ⟨i, rfl, hi, hr, hg, hg2⟩
          have HR8 := Lib.hid hr; have HG8 := Lib.hid hg2; have HO8 := Lib.hid (row_kept (HO7.out.alloc _) hg hrg)
          have hC : w8.cell? ⟨w7.heap.size, i, none⟩ = some (.int .i64 (nthI [-1, 5] i)) :=
            hg.cell (a := ⟨w7.heap.size, i, none⟩) (cell_new w7 (([-1, 5] : List Int).map (Value.int .i64)).toArray 3 i _ (by
              rw [List.getElem?_toArray, List.getElem?_map, nthI_some (l := [-1, 5]) (k := i) hi]; rfl)) (by simp; omega)
          generalize nthI [-1, 5] i = pr at hC
          have hf0 := HO8.out.frozenAt (j * 2)
          have hz0 := HO8.out.cellAt (j * 2) (by omega)
          have hlen : (l.flatMap pcG).length = n * 2 := by rw [encPc.length, HLEN.out]
          rw [List.getElem?_eq_getElem (by omega)] at hz0
          generalize (l.flatMap pcG)[j * 2]'(by omega) = z at hz0
          have HS := Lib.hid (HO8.out.stored (j * 2) (.int .i64 pr))
          clear hr hg hg2 hlen
          go_wp2_with fail
          go_ret2
          obtain ⟨h1, h2⟩ := HS.out
          rw [flat_setN _ _ _ (by have := HLEN.out; omega)] at h1
          obtain ⟨x', n', c', l', p', e, q⟩ := store_end (p := p) (HR8.out.more (show c + 41 + 1 + 1 + 1 + 1 ≤ c + 60 by omega)) HG8.out h2 h1 (by rw [List.length_set]; exact HLEN.out) (by omega) hrg (fine_set _ (fine_of HGS.out) (short_nth HSH.out _))
          exact ⟨x', n', c', l', p', e, q⟩
        | 1, _ =>
          obtain ⟨b, off, rfl, hb, hc0, hc1⟩ := HL4.out.atP (k := 0) hn0
          rw [Nat.zero_mul, Nat.add_zero] at hc0
          rw [Nat.zero_mul, Nat.add_zero] at hc1
          have HBOX := Lib.hid (show ∀ w', Below w4.heap.size w4 w' → w'.cell? ⟨b, off, none⟩ = some (.int .i64 (nthP l 0).1) ∧ w'.cell? ⟨b, off + 1, none⟩ = some (.string (nthP l 0).2) from fun w' hb' =>
            ⟨(World.cell?_of_block (w := w4) (w' := w') (a := ⟨b, off, none⟩) (hb'.block b hb)).trans hc0, (World.cell?_of_block (w := w4) (w' := w') (a := ⟨b, off + 1, none⟩) (hb'.block b hb)).trans hc1⟩)
          have pa0 : ∀ (m : Nat) (o : Obj), ((w4.drewN m).alloc o).cell? ⟨b, off, none⟩ = some (.int .i64 (nthP l 0).1) := fun m o => (HBOX.out _ ((below_drewN (Below.refl _ _) m).alloc (le_drewN (Nat.le_refl _)) o)).1
          have pa1 : ∀ (m : Nat) (o : Obj), ((w4.drewN m).alloc o).cell? ⟨b, off + 1, none⟩ = some (.string (nthP l 0).2) := fun m o => (HBOX.out _ ((below_drewN (Below.refl _ _) m).alloc (le_drewN (Nat.le_refl _)) o)).2
          go_wp2
          go_region_law (first
            | (refine step_appBE eltPc encPc (w0 := w4) (base := w4.heap.size) (l := []) (l' := l) (u := nthP l 0) (kE := w4.heap.size + 1) (gv := w4.heap.size) (nv := 0) (cv := 0) (x := some ⟨b, off, none⟩) (m := n) (c := cap) ?_ ?_ ?_ ?_ ?_ ?_ ?_ ?_ rfl (.tmp 63) (.tmp 64) (.tmp 69) rfl rfl rfl rfl ?_; (focus repeat (first | (with_reducible refine OwnL.newAt _ _ ?_ ?_; (focus repeat (first | rfl | with_reducible apply eq_drew | with_reducible apply eq_drewN | with_reducible apply eq_allocS | with_reducible apply eq_alloc)); (focus repeat (first | assumption | with_reducible exact Nat.le_refl _ | with_reducible apply le_drew | with_reducible apply le_drewN | with_reducible apply le_alloc | omega))) | with_reducible apply OwnL.drew | with_reducible apply OwnL.drewN | with_reducible apply OwnL.alloc)); (focus (refine Exists.intro w4.heap.size ?_; refine Lst.below HL4.out ?_ (Nat.le_refl _); (focus repeat (first | with_reducible exact Below.refl _ _ | with_reducible apply Below.drew | with_reducible apply below_drewN | (with_reducible refine Below.alloc ?_ ?_ _; rotate_left; (focus repeat (first | assumption | with_reducible exact Nat.le_refl _ | with_reducible apply le_drew | with_reducible apply le_drewN | with_reducible apply le_alloc | omega))))))); (focus repeat (first | with_reducible exact Below.refl _ _ | with_reducible apply Below.drew | with_reducible apply below_drewN | (with_reducible refine Below.alloc ?_ ?_ _; rotate_left; (focus repeat (first | assumption | with_reducible exact Nat.le_refl _ | with_reducible apply le_drew | with_reducible apply le_drewN | with_reducible apply le_alloc | omega))))); (focus repeat (first | (with_reducible refine OneAt.new _ _ ?_ _ _ rfl; (focus repeat (first | rfl | with_reducible apply eq_drew | with_reducible apply eq_drewN | with_reducible apply eq_allocS | with_reducible apply eq_alloc))) | with_reducible apply OneAt.drew | with_reducible apply OneAt.drewN | with_reducible apply OneAt.alloc)); (focus repeat (first | assumption | with_reducible exact Nat.le_refl _ | with_reducible apply le_drew | with_reducible apply le_drewN | with_reducible apply le_alloc | omega)); (focus omega); (focus (first | decide | (simp; done) | (have hl0 := HLEN.out; simp; omega))); (focus omega); intro v1 w5 hown hb2 hs2 he; obtain ⟨p0, p1⟩ := HBOX.out _ hb2; have H1 := Lib.hid hown; have HB2 := Lib.hid hb2; have HE := Lib.hid he; clear hown hb2 he)
            | (refine step_appBE eltPc encPc (w0 := w4) (base := w4.heap.size) (l := []) (l' := l) (u := nthP l 0) (kE := w4.heap.size) (gv := w4.heap.size + 1) (nv := 0) (cv := 0) (x := some ⟨b, off, none⟩) (m := n) (c := cap) ?_ ?_ ?_ ?_ ?_ ?_ ?_ ?_ rfl (.tmp 63) (.tmp 64) (.tmp 69) rfl rfl rfl rfl ?_; (focus repeat (first | (with_reducible refine OwnL.newAt _ _ ?_ ?_; (focus repeat (first | rfl | with_reducible apply eq_drew | with_reducible apply eq_drewN | with_reducible apply eq_allocS | with_reducible apply eq_alloc)); (focus repeat (first | assumption | with_reducible exact Nat.le_refl _ | with_reducible apply le_drew | with_reducible apply le_drewN | with_reducible apply le_alloc | omega))) | with_reducible apply OwnL.drew | with_reducible apply OwnL.drewN | with_reducible apply OwnL.alloc)); (focus (refine Exists.intro w4.heap.size ?_; refine Lst.below HL4.out ?_ (Nat.le_refl _); (focus repeat (first | with_reducible exact Below.refl _ _ | with_reducible apply Below.drew | with_reducible apply below_drewN | (with_reducible refine Below.alloc ?_ ?_ _; rotate_left; (focus repeat (first | assumption | with_reducible exact Nat.le_refl _ | with_reducible apply le_drew | with_reducible apply le_drewN | with_reducible apply le_alloc | omega))))))); (focus repeat (first | with_reducible exact Below.refl _ _ | with_reducible apply Below.drew | with_reducible apply below_drewN | (with_reducible refine Below.alloc ?_ ?_ _; rotate_left; (focus repeat (first | assumption | with_reducible exact Nat.le_refl _ | with_reducible apply le_drew | with_reducible apply le_drewN | with_reducible apply le_alloc | omega))))); (focus repeat (first | (with_reducible refine OneAt.new _ _ ?_ _ _ rfl; (focus repeat (first | rfl | with_reducible apply eq_drew | with_reducible apply eq_drewN | with_reducible apply eq_allocS | with_reducible apply eq_alloc))) | with_reducible apply OneAt.drew | with_reducible apply OneAt.drewN | with_reducible apply OneAt.alloc)); (focus repeat (first | assumption | with_reducible exact Nat.le_refl _ | with_reducible apply le_drew | with_reducible apply le_drewN | with_reducible apply le_alloc | omega)); (focus omega); (focus (first | decide | (simp; done) | (have hl0 := HLEN.out; simp; omega))); (focus omega); intro v1 w5 hown hb2 hs2 he; obtain ⟨p0, p1⟩ := HBOX.out _ hb2; have H1 := Lib.hid hown; have HB2 := Lib.hid hb2; have HE := Lib.hid he; clear hown hb2 he)
            | (refine step_appB eltPc encPc (w0 := w4) (base := w4.heap.size) (l := []) (l' := l) (v := .slice (some ⟨w4.heap.size, 0, none⟩) 0 0) (x := some ⟨b, off, none⟩) (m := n) (c := cap) ?_ ?_ ?_ ?_ ?_ ?_ rfl (.tmp 63) (.tmp 64) rfl rfl rfl ?_; (focus repeat (first | (with_reducible refine OwnL.newAt _ _ ?_ ?_; (focus repeat (first | rfl | with_reducible apply eq_drew | with_reducible apply eq_drewN | with_reducible apply eq_allocS | with_reducible apply eq_alloc)); (focus repeat (first | assumption | with_reducible exact Nat.le_refl _ | with_reducible apply le_drew | with_reducible apply le_drewN | with_reducible apply le_alloc | omega))) | with_reducible apply OwnL.drew | with_reducible apply OwnL.drewN | with_reducible apply OwnL.alloc)); (focus (refine Exists.intro w4.heap.size ?_; refine Lst.below HL4.out ?_ (Nat.le_refl _); (focus repeat (first | with_reducible exact Below.refl _ _ | with_reducible apply Below.drew | with_reducible apply below_drewN | (with_reducible refine Below.alloc ?_ ?_ _; rotate_left; (focus repeat (first | assumption | with_reducible exact Nat.le_refl _ | with_reducible apply le_drew | with_reducible apply le_drewN | with_reducible apply le_alloc | omega))))))); (focus repeat (first | with_reducible exact Below.refl _ _ | with_reducible apply Below.drew | with_reducible apply below_drewN | (with_reducible refine Below.alloc ?_ ?_ _; rotate_left; (focus repeat (first | assumption | with_reducible exact Nat.le_refl _ | with_reducible apply le_drew | with_reducible apply le_drewN | with_reducible apply le_alloc | omega))))); (focus repeat (first | assumption | with_reducible exact Nat.le_refl _ | with_reducible apply le_drew | with_reducible apply le_drewN | with_reducible apply le_alloc | omega)); (focus (first | decide | (simp; done) | (have hl0 := HLEN.out; simp; omega))); (focus omega); intro v1 w5 hown hb2 hs2; obtain ⟨p0, p1⟩ := HBOX.out _ hb2; have H1 := Lib.hid hown; have HB2 := Lib.hid hb2; clear hown hb2)
            | (refine step_appB eltPc encPc (w0 := w4) (base := w4.heap.size) (l := [] ++ l) (l' := [nthP l 0]) (v := v1) (x := some ⟨w5.heap.size, 0, none⟩) (m := 1) (c := 1) ?_ ?_ ?_ ?_ ?_ ?_ rfl (.tmp 65) (.tmp 69) rfl rfl rfl ?_; (focus repeat (first | with_reducible exact H1.out | with_reducible apply OwnL.drew | with_reducible apply OwnL.drewN | with_reducible apply OwnL.alloc)); (focus (refine ⟨_, OneAt.lst (e := 62) ?_⟩; (focus repeat (first | with_reducible exact HE.out | (with_reducible refine OneAt.new _ _ ?_ _ _ rfl; (focus repeat (first | rfl | with_reducible apply eq_drew | with_reducible apply eq_drewN | with_reducible apply eq_allocS | with_reducible apply eq_alloc))) | with_reducible apply OneAt.drew | with_reducible apply OneAt.drewN | with_reducible apply OneAt.alloc)))); (focus repeat (first | with_reducible exact HB2.out | with_reducible apply Below.drew | with_reducible apply below_drewN | (with_reducible refine Below.alloc ?_ ?_ _; rotate_left; (focus repeat (first | assumption | with_reducible exact Nat.le_refl _ | with_reducible apply le_drew | with_reducible apply le_drewN | with_reducible apply le_alloc | omega))))); (focus repeat (first | assumption | with_reducible exact Nat.le_refl _ | with_reducible apply le_drew | with_reducible apply le_drewN | with_reducible apply le_alloc | omega)); (focus (first | decide | (simp; done) | (have hl0 := HLEN.out; simp; omega))); (focus omega); intro v2 w6 hown hb3 hs3; obtain ⟨xo, no, co, rfl, hlo⟩ := hown.lst; have H2 := Lib.hid hlo; have HB3 := Lib.hid hb3; clear hown hb3 hlo)
            | (refine step_appB eltPc encPc (w0 := w4) (base := w4.heap.size) (l := [] ++ l) (l' := [nthP l 0]) (v := v1) (x := some ⟨w4.heap.size + 1, 0, none⟩) (m := 1) (c := 1) ?_ ?_ ?_ ?_ ?_ ?_ rfl (.tmp 65) (.tmp 69) rfl rfl rfl ?_; (focus repeat (first | with_reducible exact H1.out | with_reducible apply OwnL.drew | with_reducible apply OwnL.drewN | with_reducible apply OwnL.alloc)); (focus (refine ⟨_, OneAt.lst (e := 62) ?_⟩; (focus repeat (first | with_reducible exact HE.out | (with_reducible refine OneAt.new _ _ ?_ _ _ rfl; (focus repeat (first | rfl | with_reducible apply eq_drew | with_reducible apply eq_drewN | with_reducible apply eq_allocS | with_reducible apply eq_alloc))) | with_reducible apply OneAt.drew | with_reducible apply OneAt.drewN | with_reducible apply OneAt.alloc)))); (focus repeat (first | with_reducible exact HB2.out | with_reducible apply Below.drew | with_reducible apply below_drewN | (with_reducible refine Below.alloc ?_ ?_ _; rotate_left; (focus repeat (first | assumption | with_reducible exact Nat.le_refl _ | with_reducible apply le_drew | with_reducible apply le_drewN | with_reducible apply le_alloc | omega))))); (focus repeat (first | assumption | with_reducible exact Nat.le_refl _ | with_reducible apply le_drew | with_reducible apply le_drewN | with_reducible apply le_alloc | omega)); (focus (first | decide | (simp; done) | (have hl0 := HLEN.out; simp; omega))); (focus omega); intro v2 w6 hown hb3 hs3; obtain ⟨xo, no, co, rfl, hlo⟩ := hown.lst; have H2 := Lib.hid hlo; have HB3 := Lib.hid hb3; clear hown hb3 hlo)
            | (refine step_appB eltPc encPc (w0 := w4) (base := w4.heap.size) (l := [] ++ l) (l' := [nthP l 0]) (v := v1) (x := some ⟨w4.heap.size, 0, none⟩) (m := 1) (c := 1) ?_ ?_ ?_ ?_ ?_ ?_ rfl (.tmp 65) (.tmp 69) rfl rfl rfl ?_; (focus repeat (first | with_reducible exact H1.out | with_reducible apply OwnL.drew | with_reducible apply OwnL.drewN | with_reducible apply OwnL.alloc)); (focus (refine ⟨_, OneAt.lst (e := 62) ?_⟩; (focus repeat (first | with_reducible exact HE.out | (with_reducible refine OneAt.new _ _ ?_ _ _ rfl; (focus repeat (first | rfl | with_reducible apply eq_drew | with_reducible apply eq_drewN | with_reducible apply eq_allocS | with_reducible apply eq_alloc))) | with_reducible apply OneAt.drew | with_reducible apply OneAt.drewN | with_reducible apply OneAt.alloc)))); (focus repeat (first | with_reducible exact HB2.out | with_reducible apply Below.drew | with_reducible apply below_drewN | (with_reducible refine Below.alloc ?_ ?_ _; rotate_left; (focus repeat (first | assumption | with_reducible exact Nat.le_refl _ | with_reducible apply le_drew | with_reducible apply le_drewN | with_reducible apply le_alloc | omega))))); (focus repeat (first | assumption | with_reducible exact Nat.le_refl _ | with_reducible apply le_drew | with_reducible apply le_drewN | with_reducible apply le_alloc | omega)); (focus (first | decide | (simp; done) | (have hl0 := HLEN.out; simp; omega))); (focus omega); intro v2 w6 hown hb3 hs3; obtain ⟨xo, no, co, rfl, hlo⟩ := hown.lst; have H2 := Lib.hid hlo; have HB3 := Lib.hid hb3; clear hown hb3 hlo))
          all_goals
            go_wp2_with fail
            go_ret2
            refine ⟨xo, no, co, _, p, rfl, ?_, fine_more HGS.out, (HR4.out.below ?_).more (show c + 41 + 1 + 1 ≤ c + 60 by omega), grownBy_join HG4.out ?_⟩
            · exact H2.out
            · exact HB3.out
            · exact HB3.out
        | 2, _ =>
          obtain ⟨i, hi⟩ : ∃ i, n = i + 1 := ⟨n - 1, by omega⟩
          have hw1 : IntKind.i64.wrap ((n : Int) - 1) = (i : Int) := by rw [IntKind.wrap_i64]; omega
          have hin : i < n := by omega
          have hlen : (l.flatMap pcG).length = n * 2 := by rw [encPc.length, HLEN.out]
          clear hi
          go_wp2_with (at_builtin; refine wpList_appL eltPc encPc (OwnL.newAt pcG 62 (size := 2) (base := w4.heap.size) rfl (Nat.le_refl _)) (Lst.alloc HL4.out (Nat.le_refl _) _) (by decide) (by omega) (le_alloc (Nat.le_refl _) _) rfl _ _ rfl rfl rfl ?_; intro v6 w6 hown6 hgr6 hat6; obtain ⟨g, gc, rfl, hgn, hgm, hgb, ho6, hb6⟩ := copy_out HLEN.out hn0 hown6 hgr6; have HO6 := Lib.hid ho6; have HR6 := Lib.hid (HR4.out.below hb6); have HG6 := Lib.hid (grownBy_join HG4.out hb6); clear hown6 hgr6 hat6 ho6 hb6; have hf0 := HO6.out.frozenAt (i * 2 + 1); have hz0 := HO6.out.cellAt (i * 2 + 1) (by omega); rw [List.getElem?_eq_getElem (by omega)] at hz0; generalize (l.flatMap pcG)[i * 2 + 1]'(by omega) = z at hz0; have HS := Lib.hid (HO6.out.stored (i * 2 + 1) (.string ⟨#[116, 117, 114, 110, 101, 100]⟩)))
          unfold maxLen at hgm
          have hrg : r < g := by omega
          clear hlen
          go_ret2
          obtain ⟨h1, h2⟩ := HS.out
          rw [flat_setT _ _ _ (by have := HLEN.out; omega)] at h1
          obtain ⟨x', n', c', l', p', e, q⟩ := store_end (p := p) (HR6.out.more (show c + 41 + 1 + 1 ≤ c + 60 by omega)) HG6.out h2 h1 (by rw [List.length_set]; exact HLEN.out) (by omega) hrg (fine_set _ (fine_of HGS.out) (by show (6 : Nat) ≤ 60; decide))
          exact ⟨x', n', c', l', p', e, q⟩
end Go.Proofs.YtbbjpihlielpgaaGreatDoor
/-
  Draws of chapter 4.
-/
namespace Go.Proofs.YtbbjpihlielpgaaGreatDoor
open Go.RowKit
set_option linter.unusedVariables false
end Go.Proofs.YtbbjpihlielpgaaGreatDoor
/-
  Draws of chapter 4: a store and a text.
-/
namespace Go.Proofs.YtbbjpihlielpgaaGreatDoor
open Go.RowKit
set_option linter.unusedVariables false
theorem texts_61 : ∀ s ∈ texts1 ++ texts2, s.size ≤ 61 := by decide +kernel
theorem t_small : ∀ h : ByteArray, h.size ≤ 6 → ((⟨#[116]⟩ : ByteArray) ++ h).size ≤ maxLen := fun h hh => by
  rw [ByteArray.size_append]; show 1 + _ ≤ _; unfold maxLen; omega
/-- A drawn store and a text, at the law. -/
def StoreTextOut (w : World) (e : Ending) (w' : World) : Prop :=
  ∃ (x : Option Addr) (n cap : Nat) (l : List Pc) (t : ByteArray), e = .returned (.tuple #[.slice x n cap, .string t]) ∧ t.size ≤ 61 ∧ Pcs w' w'.heap.size x n cap l ∧ Short 60 l ∧ l.length ≤ 41 ∧ Below w.heap.size w w'
set_option maxHeartbeats 1000000 in
set_option maxRecDepth 100000 in
theorem drawPutText_any (x : Option Addr) (n cap : Nat) (w : World) (h : Bytes w.heap.size w x n) (hn : n ≤ cap) (hc : cap ≤ maxLen) :
    Calls Tryz.prog 62 #[.slice x n cap] w (StoreTextOut w) := by
  go_enter Tryz.func62, Tryz.ntmps62
  go_wp2_with fail
  refine (open_any x n cap w h hn hc).mono ?_
  rintro e w1 ⟨rfl, hr, hb⟩
  have HR := Lib.hid hr; have HB := Lib.hid hb; clear hr hb h hn hc
  go_wp2_with fail
  refine (l20Store_any w.heap.size w.heap.size 0 _ _ HR.out (by omega) (by omega)).mono ?_
  rintro e w2 ⟨x2, n2, c2, l2, p2, rfl, hl, hf, hr, hg⟩
  have HL := Lib.hid hl; have HF := Lib.hid hf; have HR2 := Lib.hid hr; have HG := Lib.hid hg; clear hl hf hr hg
  go_wp2_with fail
  refine (odd_any w.heap.size w.heap.size _ _ _ HR2.out (by omega) (by omega)).mono ?_
  rintro e w3 ⟨b, rfl, _, _, hr, hg⟩
  have HR3 := Lib.hid hr; have HG3 := Lib.hid (grownBy_trans HG.out hg); have HL3 := Lib.hid (Lst.more (Lst.rd_kept HL.out HR2.out hg (Nat.le_refl _)) hg.size); clear hr hg HL HR2 HG
  cases b
  · go_wp2_with fail
    refine (l20Text_any w.heap.size w.heap.size _ _ _ HR3.out (by omega) (by omega)).mono ?_
    rintro e w4 ⟨t, rfl, ht, hr, hg⟩
    have HL4 := Lib.hid (Lst.more (Lst.rd_kept HL3.out HR3.out hg (Nat.le_refl _)) hg.size)
    have HG4 := Lib.hid (grownBy_trans HG3.out hg)
    have HT := Lib.hid (texts_61 t ht)
    clear hr hg ht
    go_wp2_with fail
    go_ret2
    exact ⟨x2, n2, c2, l2, t, rfl, HT.out, HL4.out, HF.out.2.2, HF.out.2.1, HB.out.trans (below_grownBy HG4.out HB.out.size (Nat.le_refl _))⟩
  · have HT6 := Lib.hid t_small
    have HR4 := Lib.hid (rd_alloc HR3.out (.cells #[] 62))
    have HG4 := Lib.hid (grownBy_trans HG3.out (World.grownBy_alloc w3 (.cells #[] 62) (some w.heap.size)))
    clear HL3 HF HR3 HG3
    go_wp2_with fail
    go_loopw [5, 7] (fun sv kv wr => ∃ (k : Nat) (y : Option Addr) (m c : Nat) (l : List Pc), k ≤ 200 ∧ kv = .int .i64 k ∧ sv = .slice y m c ∧ Pcs wr wr.heap.size y m c l ∧ storeB l = true ∧ Rd w.heap.size wr w.heap.size (0 + 60 + 1) ∧ w1.grownBy wr (some w.heap.size)) (fun _ kv _ => 200 - (intOf kv).toNat)
    case atStart => exact ⟨0, _, 0, 0, [], by omega, rfl, rfl, Lst.empty _ _ _ _ _ (by unfold maxLen; omega), by decide, HR4.out, HG4.out⟩
    case round =>
      obtain ⟨k, y, m, c, l, hk, rfl, rfl, hl, hs, hr, hg⟩ := hrel
      have HL := Lib.hid hl; have HS := Lib.hid hs; have HR5 := Lib.hid hr; have HG5 := Lib.hid hg; clear hl hs hr hg HR4 HG4
      by_cases h1 : (m : Int) < 40
      · by_cases h2 : (k : Int) < 200
        · have hx6 := hexB_size (k : Int)
          have HZ := Lib.hid (show ∀ j, (nthP l j).2.size ≤ maxLen from fun j => Nat.le_trans (short_nth (store_short HS.out) j) (by unfold maxLen; omega))
          go_wp2_with (first
            | (go_at_call 113; refine (specHexText_any _ _).mono ?_; rintro e w' ⟨rfl, rfl⟩))
          refine (specPutText_any _ _ _ l _ _ _ HL.out (Nat.le_refl _) HZ.out (HT6.out _ hx6)).mono ?_
          rintro e w5 ⟨v, rfl, ho, hb⟩
          obtain ⟨y5, m5, c5, rfl, hl5⟩ := ho.lst
          have HL5 := Lib.hid hl5; have HR6 := Lib.hid (HR5.out.below hb); have HG6 := Lib.hid (grownBy_join HG5.out hb); clear ho hb hl5
          go_wp2_with fail
          go_roundw
          case rel => exact ⟨k + 1, y5, m5, c5, _, by omega, by go_num, rfl, HL5.out, putB_store l _ HS.out, HR6.out, HG6.out⟩
          case measure => simp [intOf]; omega
        · go_wp2_with fail
          refine (l20Text_any w.heap.size w.heap.size _ _ _ HR5.out (by omega) (by omega)).mono ?_
          rintro e w6 ⟨t, rfl, ht, hr, hg⟩
          have HL6 := Lib.hid (Lst.more (Lst.rd_kept HL.out HR5.out hg (Nat.le_refl _)) hg.size)
          have HG6 := Lib.hid (grownBy_trans HG5.out hg)
          have HT := Lib.hid (texts_61 t ht)
          clear hr hg ht
          go_wp2_with fail
          go_ret2
          exact ⟨y, m, c, l, t, rfl, HT.out, HL6.out, store_short HS.out, Nat.le_trans (storeB_at HS.out).1 (by decide), HB.out.trans (below_grownBy HG6.out HB.out.size (Nat.le_refl _))⟩
      · go_wp2_with fail
        refine (l20Text_any w.heap.size w.heap.size _ _ _ HR5.out (by omega) (by omega)).mono ?_
        rintro e w6 ⟨t, rfl, ht, hr, hg⟩
        have HL6 := Lib.hid (Lst.more (Lst.rd_kept HL.out HR5.out hg (Nat.le_refl _)) hg.size)
        have HG6 := Lib.hid (grownBy_trans HG5.out hg)
        have HT := Lib.hid (texts_61 t ht)
        clear hr hg ht
        go_wp2_with fail
        go_ret2
        exact ⟨y, m, c, l, t, rfl, HT.out, HL6.out, store_short HS.out, Nat.le_trans (storeB_at HS.out).1 (by decide), HB.out.trans (below_grownBy HG6.out HB.out.size (Nat.le_refl _))⟩
end Go.Proofs.YtbbjpihlielpgaaGreatDoor
/-
  Draws of chapter 4: a store and a print.
-/
namespace Go.Proofs.YtbbjpihlielpgaaGreatDoor
open Go.RowKit
set_option linter.unusedVariables false
end Go.Proofs.YtbbjpihlielpgaaGreatDoor
