/-
  Draws of chapter 4: paths, contents, steps.
-/
import Derived.Test.YtglajbmopiolhaaGreatDoorDraw0
import Derived.Test.YtglajbmopiolhaaGreatDoorDrop
import Derived.Test.YtglajbmopiolhaaGreatDoorImpl4
import Derived.Test.YtglajbmopiolhaaGreatDoorMem
import Derived.Test.YtglajbmopiolhaaGreatDoorStores2
import Derived.Test.YtglajbmopiolhaaGreatDoorPrints
namespace Go.Proofs.YtglajbmopiolhaaGreatDoor
open Go.RowKit
set_option linter.unusedVariables false
def paths1 : List ByteArray := [⟨#[]⟩, ⟨#[97]⟩, ⟨#[47, 47]⟩, ⟨#[47, 97, 47]⟩, ⟨#[47, 65]⟩, ⟨#[47, 97, 47, 98, 47, 99, 47, 100]⟩]
def paths2 : List ByteArray := [⟨#[47, 97]⟩, ⟨#[47, 98]⟩, ⟨#[47, 99]⟩, ⟨#[47, 97, 47, 98]⟩, ⟨#[47, 98, 47, 97]⟩, ⟨#[47, 98, 47, 98, 47, 97]⟩, ⟨#[47, 97, 47, 98, 47, 99]⟩, ⟨#[47]⟩]
def ints13 : List Int := [0, 1, 2, 3, 4, 5, 6, 7, 0, 1, 2, 3, 4]
theorem ints13_bd : ∀ j, j < 13 → 0 ≤ nthI ints13 j ∧ nthI ints13 j < 8 := by decide
theorem paths2_facts : ∀ s ∈ paths2, s.size ≤ 60 ∧ (s = ⟨#[47]⟩ ∨ (isPath s = true ∧ partsB s ≠ [])) := by decide +kernel
/-- A drawn path: of the second list, if none is to be wrong. -/
def PathIn (n : Int) (B r c : Nat) (w : World) (e : Ending) (w' : World) : Prop :=
  ∃ s : ByteArray, e = .returned (.string s) ∧ (s ∈ paths1 ++ paths2) ∧ (n < 1 → s ∈ paths2) ∧ Rd B w' r c ∧ w.grownBy w' (some r)
set_option maxHeartbeats 1000000 in
theorem l20Path_any (B r c : Nat) (n : Int) (w : World) (h : Rd B w r c) (hc : c ≤ 100000) (hn : n ≤ 1000000) :
    Calls Tryz.prog 47 #[.pointer (some ⟨r, 0, none⟩), .int .i64 n] w (PathIn n B r (c + 2) w) := by
  have H := Lib.hid h; clear h
  have hrB := H.out.le
  go_enter Tryz.func47, Tryz.ntmps47
  go_wp2_with fail
  refine (odd_any B r c _ _ H.out (by omega) hn).mono ?_
  rintro e w1 ⟨b, rfl, hb0, hb1, hr, hg⟩
  have HR := Lib.hid hr; have HG := Lib.hid hg; clear hr hg
  cases b
  · clear hb0 hb1
    have hsz := HR.out.lt
    go_wp2_with fail
    refine (pickN_any 13 B r (c + 1) _ _ w (rd_alloc (rd_alloc HR.out _) _) (grownBy_trans HG.out (grownBy_trans (World.grownBy_alloc _ _ _) (World.grownBy_alloc _ _ _))) rfl (by decide) (by decide) (by omega)).mono ?_
    rintro e w2 ⟨j, rfl, hj, hr, hg, hg1⟩
    have HR2 := Lib.hid hr; have HG2 := Lib.hid hg1
    obtain ⟨ht0, ht1⟩ := ints13_bd j hj
    have hC : w2.cell? ⟨w1.heap.size + 1, j, none⟩ = some (.int .i64 (nthI ints13 j)) :=
      hg.cell (a := ⟨w1.heap.size + 1, j, none⟩) (by
        have := cell_new (w1.alloc (.cells (paths2.map Value.string).toArray 9)) (ints13.map (Value.int .i64)).toArray 3 j (.int .i64 (nthI ints13 j)) (by
          rw [List.getElem?_toArray, List.getElem?_map, nthI_some (l := ints13) (k := j) hj]; rfl)
        have e8 : (w1.alloc (.cells (paths2.map Value.string).toArray 9)).heap.size = w1.heap.size + 1 := by simp
        rw [e8] at this
        exact this) (by simp; omega)
    obtain ⟨t, ht⟩ : ∃ t : Nat, nthI ints13 j = t := ⟨(nthI ints13 j).toNat, by omega⟩
    rw [ht] at hC ht0 ht1
    have ht8 : t < 8 := by omega
    have hA : w2.cell? ⟨w1.heap.size, t, none⟩ = some (.string (nthS paths2 t)) :=
      hg.cell (a := ⟨w1.heap.size, t, none⟩) (cell_alloc _ _ (cell_new w1 (paths2.map Value.string).toArray 9 t _ (by
        rw [List.getElem?_toArray, List.getElem?_map, nthS_some (l := paths2) (k := t) ht8]; rfl))) (by simp; omega)
    have HS := Lib.hid (show nthS paths2 t ∈ paths2 by rw [nthS_get (show t < paths2.length from ht8)]; exact List.getElem_mem _)
    clear hr hg hg1 ht ht0 ht1
    go_wp2_with fail
    go_ret
    exact ⟨_, rfl, List.mem_append_right _ HS.out, fun _ => HS.out, HR2.out, HG2.out⟩
  · have hn1 : ¬ n < 1 := fun h => by have := hb0 h; cases this
    have HN1 := Lib.hid hn1
    clear hb0 hb1 hn1
    go_wp2_with fail
    refine (pickStr_any paths1 B r (c + 1) _ _ _ HR.out rfl rfl (by decide) (by decide) (by omega)).mono ?_
    rintro e w2 ⟨j, rfl, hj, hcell, hr, hg⟩
    have HR2 := Lib.hid hr; have HG2 := Lib.hid (grownBy_trans HG.out hg); clear hr hg
    have hj6 : j < 6 := hj
    have HS := Lib.hid (show paths1.getD j ByteArray.empty ∈ paths1 by rw [List.getD_eq_getElem?_getD, List.getElem?_eq_getElem hj]; simp)
    clear hj
    go_wp2_with fail
    go_ret
    exact ⟨_, rfl, List.mem_append_left _ HS.out, fun h => absurd h (by have := HN1.out; omega), HR2.out, HG2.out⟩
def contents4 : List ByteArray := [⟨#[104, 105]⟩, ⟨#[114, 101, 100, 32, 103, 114, 101, 101, 110]⟩, ⟨#[]⟩, ⟨#[120]⟩]
theorem contents_facts : ∀ s ∈ contents4, s.size ≤ 9 ∧ contentB s = true := by decide +kernel
theorem l20Content_any (B r c : Nat) (w : World) (h : Rd B w r c) (hc : c ≤ 100000) :
    Calls Tryz.prog 91 #[.pointer (some ⟨r, 0, none⟩)] w (StrIn contents4 B r (c + 1) w) := by
  have H := Lib.hid h; clear h
  go_enter Tryz.func91, Tryz.ntmps91
  go_wp2_with fail
  refine (pickStr_any contents4 B r c _ _ _ H.out rfl rfl (by decide) (by decide) (by omega)).mono ?_
  rintro e w2 ⟨j, rfl, hj, hcell, hr, hg⟩
  have HR2 := Lib.hid hr; have HG2 := Lib.hid hg; have HJ := Lib.hid hj; clear hr hg
  have hj4 : j < 4 := hj
  clear hj
  go_wp2_with fail
  go_ret
  exact strIn_get HJ.out (fun s hs => hs) HR2.out HG2.out
/-- A store is not the reader's block. -/
theorem Lst.rd_kept {w w' : World} {B B' r c n cap : Nat} {x : Option Addr} {l : List Pc} (h : Pcs w B' x n cap l) (hr : Rd B w r c) (hg : w.grownBy w' (some r)) (hB : B' ≤ w.heap.size) : Pcs w' B' x n cap l := by
  refine ⟨h.len, h.le, h.max, fun j u hu => ?_⟩
  obtain ⟨b, off, rfl, hb, hc⟩ := h.rds j u hu
  refine ⟨b, off, rfl, hb, ?_⟩
  have hbr : b ≠ r := by
    intro e
    subst e
    have hj := (List.getElem?_eq_some_iff.1 hu).1
    rw [encPc.length, h.len] at hj
    obtain ⟨b2, o2, e2, _, h0, h1⟩ := h.atP (k := j / 2) (by omega)
    simp only [Option.some.injEq, Addr.mk.injEq, and_true] at e2
    obtain ⟨rfl, rfl⟩ := e2
    obtain ⟨x1, m1, cap1, p1, hh, _⟩ := hr
    have hcell : ∀ i v, w.cell? ⟨b, i, none⟩ = some v → (i = 0 ∧ v = .slice x1 m1 cap1) ∨ (i = 1 ∧ v = .int .i64 p1) := fun i v hv => by
      rw [cell_of_row w b i _ _ (0, 0) hh] at hv
      match i, hv with
      | 0, hv => left; simpa using hv.symm
      | 1, hv => right; simpa using hv.symm
      | i + 2, hv => simp at hv
    rcases hcell _ _ h0 with ⟨_, e3⟩ | ⟨e3, _⟩
    · cases e3
    · rcases hcell _ _ h1 with ⟨e4, _⟩ | ⟨e4, _⟩ <;> omega
  exact hg.cell (a := ⟨b, off + j, none⟩) hc (by simpa using hbr)
/-- A store that is valid and has something in it. -/
def GoodS (l : List Pc) : Prop := storeB l = true ∧ l ≠ []
theorem putB_store (l : List Pc) (t : ByteArray) (h : storeB l = true) : storeB (putB l t).1 = true := by
  cases ht : textB t
  · rw [putB_text h (by rw [printB_none ht]; decide)]; exact h
  · exact put_store h ht
theorem putB_some {l : List Pc} (t : ByteArray) (h : GoodS l) : GoodS (putB l t).1 := by
  refine ⟨putB_store l t h.1, ?_⟩
  unfold putB putL
  rw [if_neg (by rw [h.1]; simp)]
  split
  · exact h.2
  split
  · split <;> exact h.2
  split
  · exact h.2
  · simp
theorem set_good {leaf : Int} : ∀ {ps : List ByteArray} {l : List Pc} {p : Int}, GoodS l → GoodS (setB leaf l p ps).1
  | [], l, p, h => h
  | nm :: r, l, p, h => by
    have ih := set_good (leaf := leaf) (ps := r) (p := lastE nm (-1) (entsAt l p)) h
    rw [setB]
    split
    · exact h
    split
    · exact h
    split
    · exact ih
    split
    · exact ih
    · exact putB_some _ ih
theorem end_good {l : List Pc} {r : List Ent} (h : GoodS l) : GoodS (endB l r).1 := by
  unfold endB
  split
  · exact h
  · exact putB_some _ h
theorem drop_good : ∀ {ps : List ByteArray} {l : List Pc} {p : Int}, GoodS l → GoodS (dropB l p ps).1
  | [], l, p, h => h
  | nm :: r, l, p, h => by
    have ih := drop_good (ps := r) (p := lastE nm (-1) (foldL (getT l p))) h
    rw [dropB]
    split
    · exact h
    split
    · exact end_good h
    split
    · exact h
    · exact end_good ih
theorem write_good {l : List Pc} {root : Int} {path content : ByteArray} (h : GoodS l) (hp : isPath path = true) (hne : partsB path ≠ []) (hc : contentB content = true) : GoodS (writeB l root path content).1 := by
  unfold writeB
  rw [if_neg (by rw [h.1, hp, decide_eq_false hne, hc]; simp)]
  split
  · exact h
  split
  · exact h
  split
  · exact h
  · exact putB_some _ (set_good h)
theorem dropAt_good {l : List Pc} {root : Int} {path : ByteArray} (h : GoodS l) (hp : isPath path = true) (hne : partsB path ≠ []) : GoodS (dropAtB l root path).1 := by
  unfold dropAtB
  rw [if_neg (by rw [h.1, hp, decide_eq_false hne]; simp)]
  split
  · exact h
  split
  · split
    · exact h
    · exact putB_some _ (drop_good h)
  split
  · exact h
  · exact drop_good h
theorem empty_good : GoodS (putB [] (folderB [])).1 := by
  have h : storeB [] = true := by decide
  refine ⟨putB_store _ _ h, ?_⟩
  have e : folderB [] = ⟨#[100]⟩ := by decide +kernel
  have hx : textB ⟨#[100]⟩ = true := by decide +kernel
  rw [e, putB_of h (printB_ge hx), putP_new (p := (printB ⟨#[100]⟩, ⟨#[100]⟩)) rfl (by decide)]
  simp
end Go.Proofs.YtglajbmopiolhaaGreatDoor
/-
  Draws of chapter 4: stores.
-/
namespace Go.Proofs.YtglajbmopiolhaaGreatDoor
open Go.RowKit
set_option linter.unusedVariables false
/-- A drawn store, not empty, its texts short. -/
def FineS (l : List Pc) : Prop := l ≠ [] ∧ l.length ≤ 41 ∧ Short 60 l
theorem fine_of {l : List Pc} (h : GoodS l) : FineS l := ⟨h.2, Nat.le_trans (storeB_at h.1).1 (by decide), store_short h.1⟩
theorem flat_setT (s : ByteArray) : ∀ (l : List Pc) (j : Nat), j < l.length → (l.flatMap pcG).set (j * 2 + 1) (.string s) = (l.set j ((nthP l j).1, s)).flatMap pcG
  | [], j, h => by simp at h
  | p :: t, 0, h => by simp [pcG, nthP]
  | p :: t, j + 1, h => by
    have ih := flat_setT s t j (by simpa using h)
    have e : (nthP (p :: t) (j + 1)) = nthP t j := by simp [nthP]
    have e2 : (j + 1) * 2 + 1 = j * 2 + 1 + 1 + 1 := by omega
    rw [e, e2, List.flatMap_cons, List.set_cons_succ, List.flatMap_cons, ← ih]
    rfl
theorem fine_set {l : List Pc} {q : Pc} (j : Nat) (h : FineS l) (hq : q.2.size ≤ 60) : FineS (l.set j q) := by
  refine ⟨?_, by rw [List.length_set]; exact h.2.1, fun p hp => ?_⟩
  · intro e; exact h.1 (by have := congrArg List.length e; rw [List.length_set] at this; exact List.eq_nil_of_length_eq_zero this)
  · rcases List.mem_or_eq_of_mem_set hp with h1 | rfl
    · exact h.2.2 p h1
    · exact hq
/-- The copy of a store. -/
theorem copy_out {w w6 : World} {v : Value} {l : List Pc} {n : Nat} (hl : l.length = n) (h0 : 0 < n) (hown : OwnL pcG 57 2 w6 w.heap.size v ([] ++ l)) (hg : (w.alloc (.cells #[] 57)).grownBy w6 (Value.slice (some ⟨w.heap.size, 0, none⟩) 0 0).ownBlock) :
    ∃ g c, v = .slice (some ⟨g, 0, none⟩) n c ∧ n ≤ c ∧ c ≤ maxLen ∧ w.heap.size ≤ g ∧ w6.ownsRow w.heap.size 57 2 (.slice (some ⟨g, 0, none⟩) n c) n (l.flatMap pcG) ∧ Below w.heap.size w w6 := by
  have hb := ((Below.refl w.heap.size w).alloc (Nat.le_refl _) (.cells #[] 57)).grown hg (by simp) (fun k e => by simp [Value.ownBlock] at e; omega)
  rw [List.nil_append] at hown
  unfold OwnL at hown
  rw [hl] at hown
  obtain ⟨g, c, rfl, hgb, hgl⟩ := World.ownsRow.form hown h0
  obtain ⟨x', c', e, h1, h2, _⟩ := own_reads hown
  simp only [Value.slice.injEq] at e
  obtain ⟨rfl, _, rfl⟩ := e
  exact ⟨g, c, rfl, h1, h2, hgb, hown, hb⟩
end Go.Proofs.YtglajbmopiolhaaGreatDoor
/-
  Draws of chapter 4.
-/
namespace Go.Proofs.YtglajbmopiolhaaGreatDoor
open Go.RowKit
set_option linter.unusedVariables false
end Go.Proofs.YtglajbmopiolhaaGreatDoor
/-
  Draws of chapter 4: a store and a text.
-/
namespace Go.Proofs.YtglajbmopiolhaaGreatDoor
open Go.RowKit
set_option linter.unusedVariables false
end Go.Proofs.YtglajbmopiolhaaGreatDoor
/-
  Draws of chapter 4: a store and a print.
-/
namespace Go.Proofs.YtglajbmopiolhaaGreatDoor
open Go.RowKit
set_option linter.unusedVariables false
end Go.Proofs.YtglajbmopiolhaaGreatDoor
