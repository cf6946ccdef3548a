/-
  Draws of chapter 4: stores.
-/
import Derived.Test.YtlbebbkkpjgboaaDraw5
import Derived.Test.YtlbebbkkpjgboaaStep
import Derived.Test.YtlbebbkkpjgboaaApp
namespace Go.Proofs.Ytlbebbkkpjgboaa
open Go.RowKit
set_option linter.unusedVariables false
/-- A drawn store, not empty, its texts short. -/
def FineS (l : List Pc) : Prop := l ≠ [] ∧ l.length ≤ 41 ∧ Short 60 l
theorem fine_of {l : List Pc} (h : GoodS l) : FineS l := ⟨h.2, Nat.le_trans (storeB_at h.1).1 (by decide), store_short h.1⟩
def StoreR (B r c : Nat) (w : World) (e : Ending) (w' : World) : Prop :=
  ∃ (x : Option Addr) (n cap : Nat) (l : List Pc) (p : Int), e = .returned (.tuple #[.slice x n cap, .int .i64 p]) ∧ Pcs w' w'.heap.size x n cap l ∧ FineS l ∧ Rd B w' r c ∧ w.grownBy w' (some r)
theorem flat_setN (v : Int) : ∀ (l : List Pc) (j : Nat), j < l.length → (l.flatMap pcG).set (j * 2) (.int .i64 v) = (l.set j (v, (nthP l j).2)).flatMap pcG
  | [], j, h => by simp at h
  | p :: t, 0, h => by simp [pcG, nthP]
  | p :: t, j + 1, h => by
    have ih := flat_setN v t j (by simpa using h)
    have e : (nthP (p :: t) (j + 1)) = nthP t j := by simp [nthP]
    have e2 : (j + 1) * 2 = j * 2 + 1 + 1 := by omega
    rw [e, e2, List.flatMap_cons, List.set_cons_succ, List.flatMap_cons, ← ih]
    rfl
theorem flat_setT (s : ByteArray) : ∀ (l : List Pc) (j : Nat), j < l.length → (l.flatMap pcG).set (j * 2 + 1) (.string s) = (l.set j ((nthP l j).1, s)).flatMap pcG
  | [], j, h => by simp at h
  | p :: t, 0, h => by simp [pcG, nthP]
  | p :: t, j + 1, h => by
    have ih := flat_setT s t j (by simpa using h)
    have e : (nthP (p :: t) (j + 1)) = nthP t j := by simp [nthP]
    have e2 : (j + 1) * 2 + 1 = j * 2 + 1 + 1 + 1 := by omega
    rw [e, e2, List.flatMap_cons, List.set_cons_succ, List.flatMap_cons, ← ih]
    rfl
theorem fine_set {l : List Pc} {q : Pc} (j : Nat) (h : FineS l) (hq : q.2.size ≤ 60) : FineS (l.set j q) := by
  refine ⟨?_, by rw [List.length_set]; exact h.2.1, fun p hp => ?_⟩
  · intro e; exact h.1 (by have := congrArg List.length e; rw [List.length_set] at this; exact List.eq_nil_of_length_eq_zero this)
  · rcases List.mem_or_eq_of_mem_set hp with h1 | rfl
    · exact h.2.2 p h1
    · exact hq
theorem fine_more {l : List Pc} (h : GoodS l) : FineS ([] ++ l ++ [nthP l 0]) := by
  have hf := fine_of h
  refine ⟨by simp, ?_, fun p hp => ?_⟩
  · have := (storeB_at h.1).1
    simp; omega
  · simp only [List.nil_append, List.mem_append, List.mem_singleton] at hp
    rcases hp with h1 | rfl
    · exact hf.2.2 p h1
    · exact short_nth hf.2.2 0
/-- A row of the call's own under the reader's writes. -/
theorem row_kept {w w' : World} {base n r g gc m : Nat} {xs : List Value} (h : w.ownsRow base 51 2 (.slice (some ⟨g, 0, none⟩) n gc) m xs) (hg : w.grownBy w' (some r)) (hr : r < g) : w'.ownsRow base 51 2 (.slice (some ⟨g, 0, none⟩) n gc) m xs :=
  World.ownsRow.kept h hg (.inr (by intro e; simp [Value.ownBlock] at e; omega))
/-- The copy of a store. -/
theorem copy_out {w w6 : World} {v : Value} {l : List Pc} {n : Nat} (hl : l.length = n) (h0 : 0 < n) (hown : OwnL pcG 51 2 w6 w.heap.size v ([] ++ l)) (hg : (w.alloc (.cells #[] 51)).grownBy w6 (Value.slice (some ⟨w.heap.size, 0, none⟩) 0 0).ownBlock) :
    ∃ g c, v = .slice (some ⟨g, 0, none⟩) n c ∧ n ≤ c ∧ c ≤ maxLen ∧ w.heap.size ≤ g ∧ w6.ownsRow w.heap.size 51 2 (.slice (some ⟨g, 0, none⟩) n c) n (l.flatMap pcG) ∧ Below w.heap.size w w6 := by
  have hb := ((Below.refl w.heap.size w).alloc (Nat.le_refl _) (.cells #[] 51)).grown hg (by simp) (fun k e => by simp [Value.ownBlock] at e; omega)
  rw [List.nil_append] at hown
  unfold OwnL at hown
  rw [hl] at hown
  obtain ⟨g, c, rfl, hgb, hgl⟩ := World.ownsRow.form hown h0
  obtain ⟨x', c', e, h1, h2, _⟩ := own_reads hown
  simp only [Value.slice.injEq] at e
  obtain ⟨rfl, _, rfl⟩ := e
  exact ⟨g, c, rfl, h1, h2, hgb, hown, hb⟩
theorem store_end {B r c base g n gc : Nat} {w w8 w9 : World} {l : List Pc} {p : Int} (hr : Rd B w8 r c) (hg : w.grownBy w8 (some r)) (hs : w8.grownBy w9 (some g)) (ho : w9.ownsRow base 51 2 (.slice (some ⟨g, 0, none⟩) n gc) n (l.flatMap pcG)) (hl : l.length = n) (hb : w.heap.size ≤ g) (hrg : r < g) (hf : FineS l) :
    StoreR B r c w (.returned (.tuple #[.slice (some ⟨g, 0, none⟩) n gc, .int .i64 p])) w9 := by
  refine ⟨_, n, gc, l, p, rfl, ?_, hf, hr.grown hs (fun k e => ?_), grownBy_into (v := .slice (some ⟨g, 0, none⟩) n gc) hg hs (fun k e => ?_)⟩
  · have : OwnP w9 base (.slice (some ⟨g, 0, none⟩) n gc) l := by unfold OwnP OwnL; rw [hl]; exact ho
    exact this.lst'
  · have := hr.le; simp at e; omega
  · simp [Value.ownBlock] at e; omega
set_option maxHeartbeats 2000000 in
set_option maxRecDepth 100000 in
theorem l20Store_any (B r c : Nat) (nn : Int) (w : World) (h : Rd B w r c) (hc : c ≤ 80000) (hn : nn ≤ 1000000) :
    Calls Try.prog 30 #[.pointer (some ⟨r, 0, none⟩), .int .i64 nn] w (StoreR B r (c + 60) w) := by
  have H := Lib.hid h
  have hrw := h.lt
  clear h
  have HR0 := Lib.hid (rd_alloc H.out (.cells #[] 51))
  have HG0 := Lib.hid (World.grownBy_alloc w (.cells #[] 51) (some r))
  go_enter Try.func30, Try.ntmps30
  go_wp2_with fail
  refine (specEmptyRoot_any _ 0 0 [] 0 _ (Lst.empty _ _ _ _ _ (by unfold maxLen; omega)) (Nat.zero_le _) (fun k => by simp [nthP])).mono ?_
  rintro e w1 ⟨x1, n1, c1, rfl, h1, hb1⟩
  have HL1 := Lib.hid h1
  have HR1 := Lib.hid (HR0.out.below hb1); have HG1 := Lib.hid (grownBy_join HG0.out hb1)
  clear h1 hb1
  go_wp2_with fail
  refine (pickN_any 6 B r c _ _ w HR1.out HG1.out rfl (by decide) (by decide) (by omega)).mono ?_
  rintro e w2 ⟨k0, rfl, hk0, hr, hg, hg2⟩
  have HR2 := Lib.hid hr; have HG2 := Lib.hid hg2
  have HL2 := Lib.hid (Lst.more (Lst.rd_kept HL1.out HR1.out hg (Nat.le_refl _)) hg.size)
  clear hr hg hg2
  have HE := Lib.hid empty_good
  generalize (putB [] (folderB [])).1 = l0 at HL2 HE
  clear HL1 HR1 HG1 HR0 HG0
  go_wp2_with fail
  go_loopw [6, 7, 9] (fun sv pv kv wr => ∃ (m : Nat) (x : Option Addr) (n cap : Nat) (l : List Pc) (p : Int), m ≤ 5 ∧ sv = .slice x n cap ∧ pv = .int .i64 p ∧ kv = .int .i64 m ∧ Pcs wr wr.heap.size x n cap l ∧ GoodS l ∧ Rd B wr r (c + 41 - 8 * m) ∧ w.grownBy wr (some r)) (fun _ _ kv _ => (intOf kv).toNat)
  case atStart => exact ⟨k0, x1, n1, c1, _, _, by omega, rfl, rfl, rfl, HL2.out, HE.out, HR2.out.more (by omega), HG2.out⟩
  case round =>
    obtain ⟨m, x, n, cap, l, p, hm, rfl, rfl, rfl, hl, hgs, hr, hg⟩ := hrel
    have HL := Lib.hid hl; have HGS := Lib.hid hgs; have HR := Lib.hid hr; have HG := Lib.hid hg; clear hl hgs hr hg
    clear HL2 HR2 HG2 HE
    by_cases h0 : 0 < m
    · go_wp2_with fail
      refine (l20Step_any B r (c + 41 - 8 * m) x n cap l p _ HR.out HL.out HGS.out (by omega)).mono ?_
      rintro e w3 ⟨x3, n3, c3, l3, p3, b3, rfl, hl, hgs, hr, hg⟩
      have HL3 := Lib.hid hl; have HGS3 := Lib.hid hgs; have HR3 := Lib.hid hr; have HG3 := Lib.hid (grownBy_trans HG.out hg); clear hl hgs hr hg
      go_wp2_with fail
      go_roundw
      case rel => exact ⟨m - 1, x3, n3, c3, l3, p3, by omega, rfl, rfl, by go_num, HL3.out, HGS3.out, HR3.out.more (by omega), HG3.out⟩
      case measure => simp [intOf]; omega
    · obtain rfl : m = 0 := by omega
      go_wp2_with fail
      refine (odd_any B r (c + 41) _ _ HR.out (by omega) hn).mono ?_
      rintro e w3 ⟨b, rfl, _, _, hr, hg⟩
      have HR3 := Lib.hid hr; have HG3 := Lib.hid (grownBy_trans HG.out hg)
      have HL3 := Lib.hid (Lst.more (Lst.rd_kept HL.out HR.out hg (Nat.le_refl _)) hg.size)
      clear hr hg HL HR HG
      cases b
      · go_wp2_with fail
        go_ret2
        exact ⟨x, n, cap, l, p, rfl, HL3.out, fine_of HGS.out, HR3.out.more (by omega), HG3.out⟩
      · go_wp2_with fail
        refine (pickN_any 3 B r (c + 41 + 1) _ _ w HR3.out HG3.out rfl (by decide) (by decide) (by omega)).mono ?_
        rintro e w4 ⟨k, rfl, hk, hr, hg, hg2⟩
        have HR4 := Lib.hid hr; have HG4 := Lib.hid hg2
        have HL4 := Lib.hid (Lst.more (Lst.rd_kept HL3.out HR3.out hg (Nat.le_refl _)) hg.size)
        clear hr hg hg2 HL3 HR3 HG3
        have HLEN := Lib.hid HL4.out.len
        have hn40 : n ≤ 40 := by have := HLEN.out; have := (storeB_at HGS.out.1).1; omega
        have hn0 : 0 < n := by have := HLEN.out; have := List.length_pos_iff.2 HGS.out.2; omega
        have HSH := Lib.hid (store_short HGS.out.1)
        have hw4 : w.heap.size ≤ w4.heap.size := HG4.out.size
        match k, hk with
        | 0, _ =>
          go_wp2_with (at_builtin; refine wpList_appL eltPc encPc (OwnL.newAt pcG 51 (size := 2) (base := w4.heap.size) rfl (Nat.le_refl _)) (Lst.alloc HL4.out (Nat.le_refl _) _) (by decide) (by omega) (le_alloc (Nat.le_refl _) _) rfl _ _ rfl rfl rfl ?_; intro v6 w6 hown6 hgr6 hat6; obtain ⟨g, gc, rfl, hgn, hgm, hgb, ho6, hb6⟩ := copy_out HLEN.out hn0 hown6 hgr6; have HO6 := Lib.hid ho6; have HR6 := Lib.hid (HR4.out.below hb6); have HG6 := Lib.hid (grownBy_join HG4.out hb6); clear hown6 hgr6 hat6 ho6 hb6)
          unfold maxLen at hgm
          have hrg : r < g := by omega
          refine (pickN_any n B r (c + 41 + 1 + 1) _ _ w HR6.out HG6.out rfl hn0 (by omega) (by omega)).mono ?_
          rintro e w7 ⟨j, rfl, hj, hr, hg, hg2⟩
          have HR7 := Lib.hid hr; have HG7 := Lib.hid hg2; have HO7 := Lib.hid (row_kept HO6.out hg hrg); clear hr hg hg2
          have hsz := HR7.out.lt
          go_wp2_with fail
          refine (pickN_any 2 B r (c + 41 + 1 + 1 + 1) _ _ w (rd_alloc HR7.out _) (grownBy_trans HG7.out (World.grownBy_alloc _ _ _)) rfl (by decide) (by decide) (by omega)).mono ?_
          rintro e w8 ⟨i, rfl, hi, hr, hg, hg2⟩
          have HR8 := Lib.hid hr; have HG8 := Lib.hid hg2; have HO8 := Lib.hid (row_kept (HO7.out.alloc _) hg hrg)
          have hC : w8.cell? ⟨w7.heap.size, i, none⟩ = some (.int .i64 (nthI [-1, 5] i)) :=
            hg.cell (a := ⟨w7.heap.size, i, none⟩) (cell_new w7 (([-1, 5] : List Int).map (Value.int .i64)).toArray 3 i _ (by
              rw [List.getElem?_toArray, List.getElem?_map, nthI_some (l := [-1, 5]) (k := i) hi]; rfl)) (by simp; omega)
          generalize nthI [-1, 5] i = pr at hC
          have hf0 := HO8.out.frozenAt (j * 2)
          have hz0 := HO8.out.cellAt (j * 2) (by omega)
          have hlen : (l.flatMap pcG).length = n * 2 := by rw [encPc.length, HLEN.out]
          rw [List.getElem?_eq_getElem (by omega)] at hz0
          generalize (l.flatMap pcG)[j * 2]'(by omega) = z at hz0
          have HS := Lib.hid (HO8.out.stored (j * 2) (.int .i64 pr))
          clear hr hg hg2 hlen
          go_wp2_with fail
          go_ret2
          obtain ⟨h1, h2⟩ := HS.out
          rw [flat_setN _ _ _ (by have := HLEN.out; omega)] at h1
          obtain ⟨x', n', c', l', p', e, q⟩ := store_end (p := p) (HR8.out.more (show c + 41 + 1 + 1 + 1 + 1 ≤ c + 60 by omega)) HG8.out h2 h1 (by rw [List.length_set]; exact HLEN.out) (by omega) hrg (fine_set _ (fine_of HGS.out) (short_nth HSH.out _))
          exact ⟨x', n', c', l', p', e, q⟩
        | 1, _ =>
          obtain ⟨b, off, rfl, hb, hc0, hc1⟩ := HL4.out.atP (k := 0) hn0
          rw [Nat.zero_mul, Nat.add_zero] at hc0
          rw [Nat.zero_mul, Nat.add_zero] at hc1
          have HBOX := Lib.hid (show ∀ w', Below w4.heap.size w4 w' → w'.cell? ⟨b, off, none⟩ = some (.int .i64 (nthP l 0).1) ∧ w'.cell? ⟨b, off + 1, none⟩ = some (.string (nthP l 0).2) from fun w' hb' =>
            ⟨(World.cell?_of_block (w := w4) (w' := w') (a := ⟨b, off, none⟩) (hb'.block b hb)).trans hc0, (World.cell?_of_block (w := w4) (w' := w') (a := ⟨b, off + 1, none⟩) (hb'.block b hb)).trans hc1⟩)
          have pa0 : ∀ (m : Nat) (o : Obj), ((w4.drewN m).alloc o).cell? ⟨b, off, none⟩ = some (.int .i64 (nthP l 0).1) := fun m o => (HBOX.out _ ((below_drewN (Below.refl _ _) m).alloc (le_drewN (Nat.le_refl _)) o)).1
          have pa1 : ∀ (m : Nat) (o : Obj), ((w4.drewN m).alloc o).cell? ⟨b, off + 1, none⟩ = some (.string (nthP l 0).2) := fun m o => (HBOX.out _ ((below_drewN (Below.refl _ _) m).alloc (le_drewN (Nat.le_refl _)) o)).2
          go_wp2
          go_region_law (first
            | (refine step_appBE eltPc encPc (w0 := w4) (base := w4.heap.size) (l := []) (l' := l) (u := nthP l 0) (kE := w4.heap.size + 1) (gv := w4.heap.size) (nv := 0) (cv := 0) (x := some ⟨b, off, none⟩) (m := n) (c := cap) ?_ ?_ ?_ ?_ ?_ ?_ ?_ ?_ rfl (.tmp 63) (.tmp 64) (.tmp 69) rfl rfl rfl rfl ?_; (focus repeat (first | (with_reducible refine OwnL.newAt _ _ ?_ ?_; (focus repeat (first | rfl | with_reducible apply eq_drew | with_reducible apply eq_drewN | with_reducible apply eq_allocS | with_reducible apply eq_alloc)); (focus repeat (first | assumption | with_reducible exact Nat.le_refl _ | with_reducible apply le_drew | with_reducible apply le_drewN | with_reducible apply le_alloc | omega))) | with_reducible apply OwnL.drew | with_reducible apply OwnL.drewN | with_reducible apply OwnL.alloc)); (focus (refine Exists.intro w4.heap.size ?_; refine Lst.below HL4.out ?_ (Nat.le_refl _); (focus repeat (first | with_reducible exact Below.refl _ _ | with_reducible apply Below.drew | with_reducible apply below_drewN | (with_reducible refine Below.alloc ?_ ?_ _; rotate_left; (focus repeat (first | assumption | with_reducible exact Nat.le_refl _ | with_reducible apply le_drew | with_reducible apply le_drewN | with_reducible apply le_alloc | omega))))))); (focus repeat (first | with_reducible exact Below.refl _ _ | with_reducible apply Below.drew | with_reducible apply below_drewN | (with_reducible refine Below.alloc ?_ ?_ _; rotate_left; (focus repeat (first | assumption | with_reducible exact Nat.le_refl _ | with_reducible apply le_drew | with_reducible apply le_drewN | with_reducible apply le_alloc | omega))))); (focus repeat (first | (with_reducible refine OneAt.new _ _ ?_ _ _ rfl; (focus repeat (first | rfl | with_reducible apply eq_drew | with_reducible apply eq_drewN | with_reducible apply eq_allocS | with_reducible apply eq_alloc))) | with_reducible apply OneAt.drew | with_reducible apply OneAt.drewN | with_reducible apply OneAt.alloc)); (focus repeat (first | assumption | with_reducible exact Nat.le_refl _ | with_reducible apply le_drew | with_reducible apply le_drewN | with_reducible apply le_alloc | omega)); (focus omega); (focus (first | decide | (simp; done) | (have hl0 := HLEN.out; simp; omega))); (focus omega); intro v1 w5 hown hb2 hs2 he; obtain ⟨p0, p1⟩ := HBOX.out _ hb2; have H1 := Lib.hid hown; have HB2 := Lib.hid hb2; have HE := Lib.hid he; clear hown hb2 he)
            | (refine step_appBE eltPc encPc (w0 := w4) (base := w4.heap.size) (l := []) (l' := l) (u := nthP l 0) (kE := w4.heap.size) (gv := w4.heap.size + 1) (nv := 0) (cv := 0) (x := some ⟨b, off, none⟩) (m := n) (c := cap) ?_ ?_ ?_ ?_ ?_ ?_ ?_ ?_ rfl (.tmp 63) (.tmp 64) (.tmp 69) rfl rfl rfl rfl ?_; (focus repeat (first | (with_reducible refine OwnL.newAt _ _ ?_ ?_; (focus repeat (first | rfl | with_reducible apply eq_drew | with_reducible apply eq_drewN | with_reducible apply eq_allocS | with_reducible apply eq_alloc)); (focus repeat (first | assumption | with_reducible exact Nat.le_refl _ | with_reducible apply le_drew | with_reducible apply le_drewN | with_reducible apply le_alloc | omega))) | with_reducible apply OwnL.drew | with_reducible apply OwnL.drewN | with_reducible apply OwnL.alloc)); (focus (refine Exists.intro w4.heap.size ?_; refine Lst.below HL4.out ?_ (Nat.le_refl _); (focus repeat (first | with_reducible exact Below.refl _ _ | with_reducible apply Below.drew | with_reducible apply below_drewN | (with_reducible refine Below.alloc ?_ ?_ _; rotate_left; (focus repeat (first | assumption | with_reducible exact Nat.le_refl _ | with_reducible apply le_drew | with_reducible apply le_drewN | with_reducible apply le_alloc | omega))))))); (focus repeat (first | with_reducible exact Below.refl _ _ | with_reducible apply Below.drew | with_reducible apply below_drewN | (with_reducible refine Below.alloc ?_ ?_ _; rotate_left; (focus repeat (first | assumption | with_reducible exact Nat.le_refl _ | with_reducible apply le_drew | with_reducible apply le_drewN | with_reducible apply le_alloc | omega))))); (focus repeat (first | (with_reducible refine OneAt.new _ _ ?_ _ _ rfl; (focus repeat (first | rfl | with_reducible apply eq_drew | with_reducible apply eq_drewN | with_reducible apply eq_allocS | with_reducible apply eq_alloc))) | with_reducible apply OneAt.drew | with_reducible apply OneAt.drewN | with_reducible apply OneAt.alloc)); (focus repeat (first | assumption | with_reducible exact Nat.le_refl _ | with_reducible apply le_drew | with_reducible apply le_drewN | with_reducible apply le_alloc | omega)); (focus omega); (focus (first | decide | (simp; done) | (have hl0 := HLEN.out; simp; omega))); (focus omega); intro v1 w5 hown hb2 hs2 he; obtain ⟨p0, p1⟩ := HBOX.out _ hb2; have H1 := Lib.hid hown; have HB2 := Lib.hid hb2; have HE := Lib.hid he; clear hown hb2 he)
            | (refine step_appB eltPc encPc (w0 := w4) (base := w4.heap.size) (l := []) (l' := l) (v := .slice (some ⟨w4.heap.size, 0, none⟩) 0 0) (x := some ⟨b, off, none⟩) (m := n) (c := cap) ?_ ?_ ?_ ?_ ?_ ?_ rfl (.tmp 63) (.tmp 64) rfl rfl rfl ?_; (focus repeat (first | (with_reducible refine OwnL.newAt _ _ ?_ ?_; (focus repeat (first | rfl | with_reducible apply eq_drew | with_reducible apply eq_drewN | with_reducible apply eq_allocS | with_reducible apply eq_alloc)); (focus repeat (first | assumption | with_reducible exact Nat.le_refl _ | with_reducible apply le_drew | with_reducible apply le_drewN | with_reducible apply le_alloc | omega))) | with_reducible apply OwnL.drew | with_reducible apply OwnL.drewN | with_reducible apply OwnL.alloc)); (focus (refine Exists.intro w4.heap.size ?_; refine Lst.below HL4.out ?_ (Nat.le_refl _); (focus repeat (first | with_reducible exact Below.refl _ _ | with_reducible apply Below.drew | with_reducible apply below_drewN | (with_reducible refine Below.alloc ?_ ?_ _; rotate_left; (focus repeat (first | assumption | with_reducible exact Nat.le_refl _ | with_reducible apply le_drew | with_reducible apply le_drewN | with_reducible apply le_alloc | omega))))))); (focus repeat (first | with_reducible exact Below.refl _ _ | with_reducible apply Below.drew | with_reducible apply below_drewN | (with_reducible refine Below.alloc ?_ ?_ _; rotate_left; (focus repeat (first | assumption | with_reducible exact Nat.le_refl _ | with_reducible apply le_drew | with_reducible apply le_drewN | with_reducible apply le_alloc | omega))))); (focus repeat (first | assumption | with_reducible exact Nat.le_refl _ | with_reducible apply le_drew | with_reducible apply le_drewN | with_reducible apply le_alloc | omega)); (focus (first | decide | (simp; done) | (have hl0 := HLEN.out; simp; omega))); (focus omega); intro v1 w5 hown hb2 hs2; obtain ⟨p0, p1⟩ := HBOX.out _ hb2; have H1 := Lib.hid hown; have HB2 := Lib.hid hb2; clear hown hb2)
            | (refine step_appB eltPc encPc (w0 := w4) (base := w4.heap.size) (l := [] ++ l) (l' := [nthP l 0]) (v := v1) (x := some ⟨w5.heap.size, 0, none⟩) (m := 1) (c := 1) ?_ ?_ ?_ ?_ ?_ ?_ rfl (.tmp 65) (.tmp 69) rfl rfl rfl ?_; (focus repeat (first | with_reducible exact H1.out | with_reducible apply OwnL.drew | with_reducible apply OwnL.drewN | with_reducible apply OwnL.alloc)); (focus (refine ⟨_, OneAt.lst (e := 51) ?_⟩; (focus repeat (first | with_reducible exact HE.out | (with_reducible refine OneAt.new _ _ ?_ _ _ rfl; (focus repeat (first | rfl | with_reducible apply eq_drew | with_reducible apply eq_drewN | with_reducible apply eq_allocS | with_reducible apply eq_alloc))) | with_reducible apply OneAt.drew | with_reducible apply OneAt.drewN | with_reducible apply OneAt.alloc)))); (focus repeat (first | with_reducible exact HB2.out | with_reducible apply Below.drew | with_reducible apply below_drewN | (with_reducible refine Below.alloc ?_ ?_ _; rotate_left; (focus repeat (first | assumption | with_reducible exact Nat.le_refl _ | with_reducible apply le_drew | with_reducible apply le_drewN | with_reducible apply le_alloc | omega))))); (focus repeat (first | assumption | with_reducible exact Nat.le_refl _ | with_reducible apply le_drew | with_reducible apply le_drewN | with_reducible apply le_alloc | omega)); (focus (first | decide | (simp; done) | (have hl0 := HLEN.out; simp; omega))); (focus omega); intro v2 w6 hown hb3 hs3; obtain ⟨xo, no, co, rfl, hlo⟩ := hown.lst; have H2 := Lib.hid hlo; have HB3 := Lib.hid hb3; clear hown hb3 hlo)
            | (refine step_appB eltPc encPc (w0 := w4) (base := w4.heap.size) (l := [] ++ l) (l' := [nthP l 0]) (v := v1) (x := some ⟨w4.heap.size + 1, 0, none⟩) (m := 1) (c := 1) ?_ ?_ ?_ ?_ ?_ ?_ rfl (.tmp 65) (.tmp 69) rfl rfl rfl ?_; (focus repeat (first | with_reducible exact H1.out | with_reducible apply OwnL.drew | with_reducible apply OwnL.drewN | with_reducible apply OwnL.alloc)); (focus (refine ⟨_, OneAt.lst (e := 51) ?_⟩; (focus repeat (first | with_reducible exact HE.out | (with_reducible refine OneAt.new _ _ ?_ _ _ rfl; (focus repeat (first | rfl | with_reducible apply eq_drew | with_reducible apply eq_drewN | with_reducible apply eq_allocS | with_reducible apply eq_alloc))) | with_reducible apply OneAt.drew | with_reducible apply OneAt.drewN | with_reducible apply OneAt.alloc)))); (focus repeat (first | with_reducible exact HB2.out | with_reducible apply Below.drew | with_reducible apply below_drewN | (with_reducible refine Below.alloc ?_ ?_ _; rotate_left; (focus repeat (first | assumption | with_reducible exact Nat.le_refl _ | with_reducible apply le_drew | with_reducible apply le_drewN | with_reducible apply le_alloc | omega))))); (focus repeat (first | assumption | with_reducible exact Nat.le_refl _ | with_reducible apply le_drew | with_reducible apply le_drewN | with_reducible apply le_alloc | omega)); (focus (first | decide | (simp; done) | (have hl0 := HLEN.out; simp; omega))); (focus omega); intro v2 w6 hown hb3 hs3; obtain ⟨xo, no, co, rfl, hlo⟩ := hown.lst; have H2 := Lib.hid hlo; have HB3 := Lib.hid hb3; clear hown hb3 hlo)
            | (refine step_appB eltPc encPc (w0 := w4) (base := w4.heap.size) (l := [] ++ l) (l' := [nthP l 0]) (v := v1) (x := some ⟨w4.heap.size, 0, none⟩) (m := 1) (c := 1) ?_ ?_ ?_ ?_ ?_ ?_ rfl (.tmp 65) (.tmp 69) rfl rfl rfl ?_; (focus repeat (first | with_reducible exact H1.out | with_reducible apply OwnL.drew | with_reducible apply OwnL.drewN | with_reducible apply OwnL.alloc)); (focus (refine ⟨_, OneAt.lst (e := 51) ?_⟩; (focus repeat (first | with_reducible exact HE.out | (with_reducible refine OneAt.new _ _ ?_ _ _ rfl; (focus repeat (first | rfl | with_reducible apply eq_drew | with_reducible apply eq_drewN | with_reducible apply eq_allocS | with_reducible apply eq_alloc))) | with_reducible apply OneAt.drew | with_reducible apply OneAt.drewN | with_reducible apply OneAt.alloc)))); (focus repeat (first | with_reducible exact HB2.out | with_reducible apply Below.drew | with_reducible apply below_drewN | (with_reducible refine Below.alloc ?_ ?_ _; rotate_left; (focus repeat (first | assumption | with_reducible exact Nat.le_refl _ | with_reducible apply le_drew | with_reducible apply le_drewN | with_reducible apply le_alloc | omega))))); (focus repeat (first | assumption | with_reducible exact Nat.le_refl _ | with_reducible apply le_drew | with_reducible apply le_drewN | with_reducible apply le_alloc | omega)); (focus (first | decide | (simp; done) | (have hl0 := HLEN.out; simp; omega))); (focus omega); intro v2 w6 hown hb3 hs3; obtain ⟨xo, no, co, rfl, hlo⟩ := hown.lst; have H2 := Lib.hid hlo; have HB3 := Lib.hid hb3; clear hown hb3 hlo))
          all_goals
            go_wp2_with fail
            go_ret2
            refine ⟨xo, no, co, _, p, rfl, ?_, fine_more HGS.out, (HR4.out.below ?_).more (show c + 41 + 1 + 1 ≤ c + 60 by omega), grownBy_join HG4.out ?_⟩
            · exact H2.out
            · exact HB3.out
            · exact HB3.out
        | 2, _ =>
          obtain ⟨i, hi⟩ : ∃ i, n = i + 1 := ⟨n - 1, by omega⟩
          have hw1 : IntKind.i64.wrap ((n : Int) - 1) = (i : Int) := by rw [IntKind.wrap_i64]; omega
          have hin : i < n := by omega
          have hlen : (l.flatMap pcG).length = n * 2 := by rw [encPc.length, HLEN.out]
          clear hi
          go_wp2_with (at_builtin; refine wpList_appL eltPc encPc (OwnL.newAt pcG 51 (size := 2) (base := w4.heap.size) rfl (Nat.le_refl _)) (Lst.alloc HL4.out (Nat.le_refl _) _) (by decide) (by omega) (le_alloc (Nat.le_refl _) _) rfl _ _ rfl rfl rfl ?_; intro v6 w6 hown6 hgr6 hat6; obtain ⟨g, gc, rfl, hgn, hgm, hgb, ho6, hb6⟩ := copy_out HLEN.out hn0 hown6 hgr6; have HO6 := Lib.hid ho6; have HR6 := Lib.hid (HR4.out.below hb6); have HG6 := Lib.hid (grownBy_join HG4.out hb6); clear hown6 hgr6 hat6 ho6 hb6; have hf0 := HO6.out.frozenAt (i * 2 + 1); have hz0 := HO6.out.cellAt (i * 2 + 1) (by omega); rw [List.getElem?_eq_getElem (by omega)] at hz0; generalize (l.flatMap pcG)[i * 2 + 1]'(by omega) = z at hz0; have HS := Lib.hid (HO6.out.stored (i * 2 + 1) (.string ⟨#[116, 117, 114, 110, 101, 100]⟩)))
          unfold maxLen at hgm
          have hrg : r < g := by omega
          clear hlen
          go_ret2
          obtain ⟨h1, h2⟩ := HS.out
          rw [flat_setT _ _ _ (by have := HLEN.out; omega)] at h1
          obtain ⟨x', n', c', l', p', e, q⟩ := store_end (p := p) (HR6.out.more (show c + 41 + 1 + 1 ≤ c + 60 by omega)) HG6.out h2 h1 (by rw [List.length_set]; exact HLEN.out) (by omega) hrg (fine_set _ (fine_of HGS.out) (by show (6 : Nat) ≤ 60; decide))
          exact ⟨x', n', c', l', p', e, q⟩
end Go.Proofs.Ytlbebbkkpjgboaa
