/-
  Draws of chapter 4: paths, contents, steps.
-/
import Derived.Test.YtlbebbkkpjgboaaDraw2
import Derived.Test.YtlbebbkkpjgboaaWrites2
import Derived.Test.YtlbebbkkpjgboaaImpl4e
namespace Go.Proofs.Ytlbebbkkpjgboaa
open Go.RowKit
set_option linter.unusedVariables false
def paths1 : List ByteArray := [⟨#[]⟩, ⟨#[97]⟩, ⟨#[47, 47]⟩, ⟨#[47, 97, 47]⟩, ⟨#[47, 65]⟩, ⟨#[47, 97, 47, 98, 47, 99, 47, 100]⟩]
def paths2 : List ByteArray := [⟨#[47, 97]⟩, ⟨#[47, 98]⟩, ⟨#[47, 99]⟩, ⟨#[47, 97, 47, 98]⟩, ⟨#[47, 98, 47, 97]⟩, ⟨#[47, 98, 47, 98, 47, 97]⟩, ⟨#[47, 97, 47, 98, 47, 99]⟩, ⟨#[47]⟩]
def ints13 : List Int := [0, 1, 2, 3, 4, 5, 6, 7, 0, 1, 2, 3, 4]
theorem ints13_bd : ∀ j, j < 13 → 0 ≤ nthI ints13 j ∧ nthI ints13 j < 8 := by decide
theorem paths2_facts : ∀ s ∈ paths2, s.size ≤ 60 ∧ (s = ⟨#[47]⟩ ∨ (isPath s = true ∧ partsB s ≠ [])) := by decide +kernel
/-- A drawn path: of the second list, if none is to be wrong. -/
def PathIn (n : Int) (B r c : Nat) (w : World) (e : Ending) (w' : World) : Prop :=
  ∃ s : ByteArray, e = .returned (.string s) ∧ (s ∈ paths1 ++ paths2) ∧ (n < 1 → s ∈ paths2) ∧ Rd B w' r c ∧ w.grownBy w' (some r)
set_option maxHeartbeats 1000000 in
theorem l20Path_any (B r c : Nat) (n : Int) (w : World) (h : Rd B w r c) (hc : c ≤ 100000) (hn : n ≤ 1000000) :
    Calls Try.prog 66 #[.pointer (some ⟨r, 0, none⟩), .int .i64 n] w (PathIn n B r (c + 2) w) := by
  have H := Lib.hid h; clear h
  have hrB := H.out.le
  go_enter Try.func66, Try.ntmps66
  go_wp2_with fail
  refine (odd_any B r c _ _ H.out (by omega) hn).mono ?_
  rintro e w1 ⟨b, rfl, hb0, hb1, hr, hg⟩
  have HR := Lib.hid hr; have HG := Lib.hid hg; clear hr hg
  cases b
  · clear hb0 hb1
    have hsz := HR.out.lt
    go_wp2_with fail
    refine (pickN_any 13 B r (c + 1) _ _ w (rd_alloc (rd_alloc HR.out _) _) (grownBy_trans HG.out (grownBy_trans (World.grownBy_alloc _ _ _) (World.grownBy_alloc _ _ _))) rfl (by decide) (by decide) (by omega)).mono ?_
    rintro e w2 ⟨j, rfl, hj, hr, hg, hg1⟩
    have HR2 := Lib.hid hr; have HG2 := Lib.hid hg1
    obtain ⟨ht0, ht1⟩ := ints13_bd j hj
    have hC : w2.cell? ⟨w1.heap.size + 1, j, none⟩ = some (.int .i64 (nthI ints13 j)) :=
      hg.cell (a := ⟨w1.heap.size + 1, j, none⟩) (by
        have := cell_new (w1.alloc (.cells (paths2.map Value.string).toArray 9)) (ints13.map (Value.int .i64)).toArray 3 j (.int .i64 (nthI ints13 j)) (by
          rw [List.getElem?_toArray, List.getElem?_map, nthI_some (l := ints13) (k := j) hj]; rfl)
        have e8 : (w1.alloc (.cells (paths2.map Value.string).toArray 9)).heap.size = w1.heap.size + 1 := by simp
        rw [e8] at this
        exact this) (by simp; omega)
    obtain ⟨t, ht⟩ : ∃ t : Nat, nthI ints13 j = t := ⟨(nthI ints13 j).toNat, by omega⟩
    rw [ht] at hC ht0 ht1
    have ht8 : t < 8 := by omega
    have hA : w2.cell? ⟨w1.heap.size, t, none⟩ = some (.string (nthS paths2 t)) :=
      hg.cell (a := ⟨w1.heap.size, t, none⟩) (cell_alloc _ _ (cell_new w1 (paths2.map Value.string).toArray 9 t _ (by
        rw [List.getElem?_toArray, List.getElem?_map, nthS_some (l := paths2) (k := t) ht8]; rfl))) (by simp; omega)
    have HS := Lib.hid (show nthS paths2 t ∈ paths2 by rw [nthS_get (show t < paths2.length from ht8)]; exact List.getElem_mem _)
    clear hr hg hg1 ht ht0 ht1
    go_wp2_with fail
    go_ret
    exact ⟨_, rfl, List.mem_append_right _ HS.out, fun _ => HS.out, HR2.out, HG2.out⟩
  · have hn1 : ¬ n < 1 := fun h => by have := hb0 h; cases this
    have HN1 := Lib.hid hn1
    clear hb0 hb1 hn1
    go_wp2_with fail
    refine (pickStr_any paths1 B r (c + 1) _ _ _ HR.out rfl rfl (by decide) (by decide) (by omega)).mono ?_
    rintro e w2 ⟨j, rfl, hj, hcell, hr, hg⟩
    have HR2 := Lib.hid hr; have HG2 := Lib.hid (grownBy_trans HG.out hg); clear hr hg
    have hj6 : j < 6 := hj
    have HS := Lib.hid (show paths1.getD j ByteArray.empty ∈ paths1 by rw [List.getD_eq_getElem?_getD, List.getElem?_eq_getElem hj]; simp)
    clear hj
    go_wp2_with fail
    go_ret
    exact ⟨_, rfl, List.mem_append_left _ HS.out, fun h => absurd h (by have := HN1.out; omega), HR2.out, HG2.out⟩
def contents4 : List ByteArray := [⟨#[104, 105]⟩, ⟨#[114, 101, 100, 32, 103, 114, 101, 101, 110]⟩, ⟨#[]⟩, ⟨#[120]⟩]
theorem contents_facts : ∀ s ∈ contents4, s.size ≤ 9 ∧ contentB s = true := by decide +kernel
theorem l20Content_any (B r c : Nat) (w : World) (h : Rd B w r c) (hc : c ≤ 100000) :
    Calls Try.prog 69 #[.pointer (some ⟨r, 0, none⟩)] w (StrIn contents4 B r (c + 1) w) := by
  have H := Lib.hid h; clear h
  go_enter Try.func69, Try.ntmps69
  go_wp2_with fail
  refine (pickStr_any contents4 B r c _ _ _ H.out rfl rfl (by decide) (by decide) (by omega)).mono ?_
  rintro e w2 ⟨j, rfl, hj, hcell, hr, hg⟩
  have HR2 := Lib.hid hr; have HG2 := Lib.hid hg; have HJ := Lib.hid hj; clear hr hg
  have hj4 : j < 4 := hj
  clear hj
  go_wp2_with fail
  go_ret
  exact strIn_get HJ.out (fun s hs => hs) HR2.out HG2.out
/-- A store is not the reader's block. -/
theorem Lst.rd_kept {w w' : World} {B B' r c n cap : Nat} {x : Option Addr} {l : List Pc} (h : Pcs w B' x n cap l) (hr : Rd B w r c) (hg : w.grownBy w' (some r)) (hB : B' ≤ w.heap.size) : Pcs w' B' x n cap l := by
  refine ⟨h.len, h.le, h.max, fun j u hu => ?_⟩
  obtain ⟨b, off, rfl, hb, hc⟩ := h.rds j u hu
  refine ⟨b, off, rfl, hb, ?_⟩
  have hbr : b ≠ r := by
    intro e
    subst e
    have hj := (List.getElem?_eq_some_iff.1 hu).1
    rw [encPc.length, h.len] at hj
    obtain ⟨b2, o2, e2, _, h0, h1⟩ := h.atP (k := j / 2) (by omega)
    simp only [Option.some.injEq, Addr.mk.injEq, and_true] at e2
    obtain ⟨rfl, rfl⟩ := e2
    obtain ⟨x1, m1, cap1, p1, hh, _⟩ := hr
    have hcell : ∀ i v, w.cell? ⟨b, i, none⟩ = some v → (i = 0 ∧ v = .slice x1 m1 cap1) ∨ (i = 1 ∧ v = .int .i64 p1) := fun i v hv => by
      rw [cell_of_row w b i _ _ (0, 0) hh] at hv
      match i, hv with
      | 0, hv => left; simpa using hv.symm
      | 1, hv => right; simpa using hv.symm
      | i + 2, hv => simp at hv
    rcases hcell _ _ h0 with ⟨_, e3⟩ | ⟨e3, _⟩
    · cases e3
    · rcases hcell _ _ h1 with ⟨e4, _⟩ | ⟨e4, _⟩ <;> omega
  exact hg.cell (a := ⟨b, off + j, none⟩) hc (by simpa using hbr)
/-- A store that is valid and has something in it. -/
def GoodS (l : List Pc) : Prop := storeB l = true ∧ l ≠ []
theorem putB_store (l : List Pc) (t : ByteArray) (h : storeB l = true) : storeB (putB l t).1 = true := by
  cases ht : textB t
  · rw [putB_text h (by rw [printB_none ht]; decide)]; exact h
  · exact put_store h ht
theorem putB_some {l : List Pc} (t : ByteArray) (h : GoodS l) : GoodS (putB l t).1 := by
  refine ⟨putB_store l t h.1, ?_⟩
  unfold putB putL
  rw [if_neg (by rw [h.1]; simp)]
  split
  · exact h.2
  split
  · split <;> exact h.2
  split
  · exact h.2
  · simp
theorem set_good {leaf : Int} : ∀ {ps : List ByteArray} {l : List Pc} {p : Int}, GoodS l → GoodS (setB leaf l p ps).1
  | [], l, p, h => h
  | nm :: r, l, p, h => by
    have ih := set_good (leaf := leaf) (ps := r) (p := lastE nm (-1) (entsAt l p)) h
    rw [setB]
    split
    · exact h
    split
    · exact h
    split
    · exact ih
    split
    · exact ih
    · exact putB_some _ ih
theorem end_good {l : List Pc} {r : List Ent} (h : GoodS l) : GoodS (endB l r).1 := by
  unfold endB
  split
  · exact h
  · exact putB_some _ h
theorem drop_good : ∀ {ps : List ByteArray} {l : List Pc} {p : Int}, GoodS l → GoodS (dropB l p ps).1
  | [], l, p, h => h
  | nm :: r, l, p, h => by
    have ih := drop_good (ps := r) (p := lastE nm (-1) (foldL (getT l p))) h
    rw [dropB]
    split
    · exact h
    split
    · exact end_good h
    split
    · exact h
    · exact end_good ih
theorem write_good {l : List Pc} {root : Int} {path content : ByteArray} (h : GoodS l) (hp : isPath path = true) (hne : partsB path ≠ []) (hc : contentB content = true) : GoodS (writeB l root path content).1 := by
  unfold writeB
  rw [if_neg (by rw [h.1, hp, decide_eq_false hne, hc]; simp)]
  split
  · exact h
  split
  · exact h
  split
  · exact h
  · exact putB_some _ (set_good h)
theorem dropAt_good {l : List Pc} {root : Int} {path : ByteArray} (h : GoodS l) (hp : isPath path = true) (hne : partsB path ≠ []) : GoodS (dropAtB l root path).1 := by
  unfold dropAtB
  rw [if_neg (by rw [h.1, hp, decide_eq_false hne]; simp)]
  split
  · exact h
  split
  · split
    · exact h
    · exact putB_some _ (drop_good h)
  split
  · exact h
  · exact drop_good h
theorem empty_good : GoodS (putB [] (folderB [])).1 := by
  have h : storeB [] = true := by decide
  refine ⟨putB_store _ _ h, ?_⟩
  have e : folderB [] = ⟨#[100]⟩ := by decide +kernel
  have hx : textB ⟨#[100]⟩ = true := by decide +kernel
  rw [e, putB_of h (printB_ge hx), putP_new (p := (printB ⟨#[100]⟩, ⟨#[100]⟩)) rfl (by decide)]
  simp
/-- A step: a store that is good, a root, a bool; the reader behind it. -/
def StepR (B r c : Nat) (w : World) (e : Ending) (w' : World) : Prop :=
  ∃ (x : Option Addr) (n cap : Nat) (l : List Pc) (p : Int) (b : Bool), e = .returned (.tuple #[.slice x n cap, .int .i64 p, .bool b]) ∧ Pcs w' w'.heap.size x n cap l ∧ GoodS l ∧ Rd B w' r c ∧ w.grownBy w' (some r)
theorem rd_below {B r c : Nat} {w w' : World} (h : Rd B w r c) (hb : Below w.heap.size w w') : Rd B w' r c := h.below hb
set_option maxHeartbeats 1000000 in
theorem l20Step_any (B r c : Nat) (x : Option Addr) (n cap : Nat) (l : List Pc) (root : Int) (w : World) (h : Rd B w r c) (hl : Pcs w w.heap.size x n cap l) (hg : GoodS l) (hc : c ≤ 90000) :
    Calls Try.prog 52 #[.pointer (some ⟨r, 0, none⟩), .slice x n cap, .int .i64 root] w (StepR B r (c + 8) w) := by
  have hzm : ∀ k, (nthP l k).2.size ≤ maxLen := fun k => Nat.le_trans (short_nth (store_short hg.1) k) (by unfold maxLen; omega)
  have H := Lib.hid h; have HL := Lib.hid hl; have HGS := Lib.hid hg
  clear h hl hg
  go_enter Try.func52, Try.ntmps52
  go_wp2_with fail
  refine (l20Path_any B r c _ _ H.out (by omega) (by omega)).mono ?_
  rintro e w1 ⟨path, rfl, _, hin, hr, hgr⟩
  have hin := hin (by decide)
  obtain ⟨hsz, hroot⟩ := paths2_facts path hin
  have HR1 := Lib.hid (hr.more (show c + 2 ≤ c + 8 by omega)); have HR1' := Lib.hid hr; have HG1 := Lib.hid hgr
  have hw1 : w.heap.size ≤ w1.heap.size := hgr.size
  have HL1 := Lib.hid (Lst.rd_kept HL.out H.out hgr (Nat.le_refl _))
  clear hin hr hgr
  by_cases hsl : path = ⟨#[47]⟩
  · subst hsl
    clear hroot hsz
    go_wp2_with fail
    go_ret3
    exact ⟨x, n, cap, l, root, false, rfl, HL1.out.more hw1, HGS.out, HR1.out, HG1.out⟩
  have hd : (path.toList == [47]) = false := by
    rw [ByteArray.toList_eq]
    simp only [beq_eq_false_iff_ne, ne_eq]
    intro e; exact hsl (by cases path; congr 1; exact Array.toList_inj.1 e)
  obtain ⟨hip, hpn⟩ : isPath path = true ∧ partsB path ≠ [] := by
    rcases hroot with h | h
    · exact absurd h hsl
    · exact h
  have HIP := Lib.hid hip; have HPN := Lib.hid hpn
  clear hroot hsl hip hpn
  go_wp2_with fail
  refine (pickN_any 5 B r (c + 2) _ _ w HR1'.out HG1.out rfl (by decide) (by decide) (by omega)).mono ?_
  rintro e w2 ⟨k, rfl, hk, hr, hg2, hgr⟩
  have HR2 := Lib.hid hr; have HG2 := Lib.hid hgr
  have hw2 : w.heap.size ≤ w2.heap.size := hgr.size
  have HL2 := Lib.hid (Lst.rd_kept HL1.out HR1'.out hg2 hw1)
  clear hr hg2 hgr
  by_cases h0 : k = 0
  · subst h0
    go_wp2_with fail
    refine (specDropAt_any x n cap l root path w.heap.size _ HL2.out hw2 hzm (by omega)).mono ?_
    rintro e w3 ⟨x3, n3, c3, rfl, h3, hb3⟩
    have H3 := Lib.hid h3
    have HR3 := Lib.hid ((HR2.out.below hb3).more (show c + 2 + 1 ≤ c + 8 by omega)); have HG3 := Lib.hid (grownBy_join HG2.out hb3)
    clear h3 hb3
    go_wp2_with fail
    go_ret3
    exact ⟨x3, n3, c3, _, _, _, rfl, H3.out, dropAt_good HGS.out HIP.out HPN.out, HR3.out, HG3.out⟩
  · have hk0 : ((k : Int) == 0) = false := by simp; omega
    clear h0
    go_wp2_with fail
    refine (l20Content_any B r (c + 2 + 1) _ HR2.out (by omega)).mono ?_
    rintro e w3 ⟨content, rfl, hin, hr, hg3⟩
    obtain ⟨hcs, hcb⟩ := contents_facts content hin
    have HR3 := Lib.hid hr; have HG3 := Lib.hid (grownBy_trans HG2.out hg3)
    have hw3 : w.heap.size ≤ w3.heap.size := Nat.le_trans hw2 hg3.size
    have HL3 := Lib.hid (Lst.rd_kept HL2.out HR2.out hg3 hw2)
    have HCB := Lib.hid hcb
    clear hr hg3 hin hcb
    go_wp2_with fail
    refine (specWriteAt_any x n cap l root path content w.heap.size _ HL3.out hw3 hzm (by omega) (by omega)).mono ?_
    rintro e w4 ⟨x4, n4, c4, rfl, h4, hb4⟩
    have H4 := Lib.hid h4
    have HR4 := Lib.hid ((HR3.out.below hb4).more (show c + 2 + 1 + 1 ≤ c + 8 by omega)); have HG4 := Lib.hid (grownBy_join HG3.out hb4)
    clear h4 hb4
    go_wp2_with fail
    go_ret3
    exact ⟨x4, n4, c4, _, _, _, rfl, H4.out, write_good HGS.out HIP.out HPN.out HCB.out, HR4.out, HG4.out⟩
end Go.Proofs.Ytlbebbkkpjgboaa
