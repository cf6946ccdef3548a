/-
  Draws of chapter 5: proofs.
-/
import Derived.Test.YtlbebbkkpjgboaaDraw10
import Derived.Test.YtlbebbkkpjgboaaTrees4
import Derived.Test.YtlbebbkkpjgboaaMarksS
namespace Go.Proofs.Ytlbebbkkpjgboaa
open Go.RowKit
set_option linter.unusedVariables false
/-- Drawn numbers and one more, at the law. -/
def IntsIntOut (w : World) (e : Ending) (w' : World) : Prop := ∃ (x : Option Addr) (n c : Nat) (l : List Int) (p : Int), e = .returned (.tuple #[.slice x n c, .int .i64 p]) ∧ l.length ≤ 17 ∧ -1 ≤ p ∧ p ≤ 17 ∧ Ints w' w'.heap.size x n c l ∧ Below w.heap.size w w'
theorem drawTreeProof_any (x : Option Addr) (n cap : Nat) (w : World) (h : Bytes w.heap.size w x n) (hn : n ≤ cap) (hc : cap ≤ maxLen) :
    Calls Try.prog 18 #[.slice x n cap] w (IntsIntOut w) := by
  go_enter Try.func18, Try.ntmps18
  go_wp2_with fail
  refine (open_any x n cap w h hn hc).mono ?_
  rintro e w1 ⟨rfl, hr, hb⟩
  have HR := Lib.hid hr; have HB := Lib.hid hb; clear hr hb
  have hlt1 := HR.out.lt
  go_wp2_with fail
  refine (l20Leaves_any w.heap.size w.heap.size 0 _ _ HR.out (by omega) (by omega)).mono ?_
  rintro e w2 ⟨v, l, rfl, hl, _, ho, hr, hg⟩
  obtain ⟨y, m, c, rfl, hi⟩ := ho.ints
  have hm : m ≤ 17 := by rw [← hi.len]; exact hl
  have HO := Lib.hid ho; have HR2 := Lib.hid hr; have HG2 := Lib.hid hg; clear ho hr hg hi
  go_wp2_with fail
  refine (pickN_any (m + 1) w.heap.size w.heap.size 80 _ _ w1 HR2.out HG2.out (by omega) (by omega) (by omega) (by omega)).mono ?_
  rintro e w3 ⟨j1, rfl, hj1, hr, hg1, hg⟩
  have HR3 := Lib.hid hr; have HG3 := Lib.hid hg; have HO3 := Lib.hid (own_kept HO.out hg1 hlt1); clear hr hg hg1
  go_wp2_with fail
  refine (pickN_any 14 w.heap.size w.heap.size 81 _ _ w1 HR3.out HG3.out rfl (by omega) (by omega) (by omega)).mono ?_
  rintro e w4 ⟨j2, rfl, hj2, hr, hg1, hg⟩
  have HG4 := Lib.hid hg; have HO4 := Lib.hid (own_kept HO3.out hg1 hlt1); clear hr hg hg1
  go_wp2_with fail
  go_ret2
  exact ⟨y, m, c, l, _, rfl, hl, by omega, by omega, HO4.out.ints', HB.out.trans (below_grownBy HG4.out HB.out.size (Nat.le_refl _))⟩
/-- A drawn proof, at the law. -/
def ProofOut (w : World) (e : Ending) (w' : World) : Prop := ∃ (x : Option Addr) (q c : Nat) (l : List Int) (p n m : Int), e = .returned (.tuple #[.int .i64 p, .int .i64 n, .int .i64 m, .slice x q c]) ∧ l.length ≤ 5 ∧ (-100 ≤ n ∧ n ≤ 100) ∧ (-100 ≤ m ∧ m ≤ 100) ∧ Ints w' w'.heap.size x q c l ∧ Below w.heap.size w w'
theorem results_tmp4 {fn : Func} {t u v x : Tmp} (h : fn.results = #[.tmp t, .tmp u, .tmp v, .tmp x]) (tmps : Array Value) (P : Program) (w : World) :
    (results fn tmps).run P w = .ok (.tuple #[tmps.getD t undef, tmps.getD u undef, tmps.getD v undef, tmps.getD x undef]) w := by
  simp [results, h]
theorem own_nth {w w1 : World} {base : Nat} {v : Value} {l : List Int} (h : OwnI w base v l) : ∀ k, v.ownBlock = some k → k < w.heap.size := fun k hk => (World.ownsRow.lt h k hk).2
set_option maxHeartbeats 1000000 in
set_option maxRecDepth 100000 in
theorem drawProofRoot_any (x : Option Addr) (n cap : Nat) (w : World) (h : Bytes w.heap.size w x n) (hn : n ≤ cap) (hc : cap ≤ maxLen) :
    Calls Try.prog 23 #[.slice x n cap] w (ProofOut w) := by
  go_enter Try.func23, Try.ntmps23
  go_wp2_with fail
  refine (open_any x n cap w h hn hc).mono ?_
  rintro e w1 ⟨rfl, hr, hb⟩
  have HR := Lib.hid hr; have HB := Lib.hid hb; clear hr hb h hn hc
  have hlt1 := HR.out.lt
  go_wp2_with fail
  refine (l20Leaves_any w.heap.size w.heap.size 0 _ _ HR.out (by omega) (by omega)).mono ?_
  rintro e w2 ⟨v, l, rfl, hl, hl0, ho, hr, hg⟩
  obtain ⟨y, m, c, rfl, hi⟩ := ho.ints
  have hm : m ≤ 17 := by rw [← hi.len]; exact hl
  have hm1 : 1 ≤ m := by rw [← hi.len]; exact hl0 (by decide)
  have hle := hi.le
  have hmx := hi.max
  unfold maxLen at hmx
  have HO := Lib.hid ho; have HR2 := Lib.hid hr; have HG2 := Lib.hid hg; clear ho hr hg hi hl hl0
  go_wp2_with fail
  refine (pickN_any m w.heap.size w.heap.size 80 _ _ w1 HR2.out HG2.out rfl (by omega) (by omega) (by omega)).mono ?_
  rintro e w3 ⟨j, rfl, hj, hr, hg1, hg⟩
  have HR3 := Lib.hid hr; have HG3 := Lib.hid hg; have HO3 := Lib.hid (own_kept HO.out hg1 hlt1); clear hr hg hg1
  have HI3 := Lib.hid HO3.out.ints'
  go_wp2_with fail
  refine (specTreeProof_any _ _ _ l j _ HI3.out (.inr trivial)).mono ?_
  rintro e w4 ⟨pv, rfl, hp, hb⟩
  obtain ⟨z, q, d, rfl, hz⟩ := hp.ints
  have hq4 : (provB l j).length ≤ 4 := provB_len _ _
  have HQ := Lib.hid hz.len
  have hq : q ≤ 4 := by have := HQ.out; omega
  have hqd := hz.le
  have hdx := hz.max
  unfold maxLen at hdx
  have HP' := Lib.hid (show OwnI w4 w1.heap.size (.slice z q d) (provB l j) from hp.mono HG3.out.size)
  have HR4 := Lib.hid (HR3.out.below hb); have HG4 := Lib.hid (grownBy_join HG3.out hb)
  obtain ⟨b, off, rfl, _, hcell⟩ := (HI3.out.below hb (Nat.le_refl _)).at hj
  clear hp hb hz
  generalize provB l j = pl at HQ HP' hq4
  go_wp2_with fail
  refine (pickN_any 8 w.heap.size w.heap.size _ _ _ w1 HR4.out HG4.out rfl (by omega) (by omega) (by omega)).mono ?_
  rintro e w5 ⟨k, rfl, hk, hr, hg1, hg⟩
  have hrw := hlt1
  have HR5 := Lib.hid hr; have HG5 := Lib.hid hg; have HP5 := Lib.hid (own_kept HP'.out hg1 hrw); clear hr hg hg1
  have HQL := Lib.hid (show pl.length ≤ 5 by omega)
  by_cases hk0 : k = 0
  · have e0 : ((k : Int) == 0) = true := by simp; omega
    clear hk0
    go_wp2_with fail
    refine (l20Print_any w.heap.size w.heap.size _ _ _ HR5.out (by omega) (by omega)).mono ?_
    rintro e w6 ⟨u, rfl, hu0, hu1, hr, hg⟩
    have HG6 := Lib.hid (grownBy_trans HG5.out hg); have HP6 := Lib.hid (own_kept HP5.out hg hrw); clear hr hg
    go_wp2_with fail
    (try simp only [Exit.inBlock, Exit.then])
    refine bodyPost_ret (results_tmp4 rfl _ _ _) rfl ?_
    exact ⟨z, q, d, _, _, _, _, rfl, HQL.out, by omega, by omega, HP6.out.ints', HB.out.trans (below_grownBy HG6.out HB.out.size (Nat.le_refl _))⟩
  by_cases hk1 : k = 1
  · have e0 : ((k : Int) == 0) = false := by simp; omega
    have e1 : ((k : Int) == 1) = true := by simp; omega
    clear hk0 hk1
    go_wp2_with fail
    refine (pickN_any (m + 1) w.heap.size w.heap.size _ _ _ w1 HR5.out HG5.out (by omega) (by omega) (by omega) (by omega)).mono ?_
    rintro e w6 ⟨j1, rfl, hj1, hr, hg1, hg⟩
    have HR6 := Lib.hid hr; have HG6 := Lib.hid hg; have HP6 := Lib.hid (own_kept HP5.out hg1 hrw); clear hr hg hg1
    go_wp2_with fail
    refine (pickN_any 3 w.heap.size w.heap.size _ _ _ w1 HR6.out HG6.out rfl (by omega) (by omega) (by omega)).mono ?_
    rintro e w7 ⟨j2, rfl, hj2, hr, hg1, hg⟩
    have HG7 := Lib.hid hg; have HP7 := Lib.hid (own_kept HP6.out hg1 hrw); clear hr hg hg1
    go_wp2_with fail
    (try simp only [Exit.inBlock, Exit.then])
    refine bodyPost_ret (results_tmp4 rfl _ _ _) rfl ?_
    exact ⟨z, q, d, _, _, _, _, rfl, HQL.out, by omega, by omega, HP7.out.ints', HB.out.trans (below_grownBy HG7.out HB.out.size (Nat.le_refl _))⟩
  by_cases hk2 : k = 2
  · have e0 : ((k : Int) == 0) = false := by simp; omega
    have e1 : ((k : Int) == 1) = false := by simp; omega
    have e2 : ((k : Int) == 2) = true := by simp; omega
    clear hk0 hk1 hk2
    go_wp2_with fail
    refine (pickN_any 3 w.heap.size w.heap.size _ _ _ w1 (rd_alloc HR5.out _) (grownBy_alloc' HG5.out _) rfl (by omega) (by omega) (by omega)).mono ?_
    rintro e w6 ⟨j1, rfl, hj1, hr, hg1, hg⟩
    have HP6 := Lib.hid (own_kept (OwnI.alloc HP5.out (.cells #[.int .i64 0, .int .i64 ((m : Int) + 1), .int .i64 17] 3)) hg1 hrw)
    have hA : ∀ j v, #[Value.int .i64 0, .int .i64 ((m : Int) + 1), .int .i64 17][j]? = some v → w6.cell? ⟨w5.heap.size, j, none⟩ = some v := fun j v hv =>
      hg1.cell (a := ⟨w5.heap.size, j, none⟩) (cell_new _ _ _ _ _ hv) (by have := HR5.out.lt; simp; omega)
    have HG6 := Lib.hid hg; clear hr hg hg1
    have hj3 : j1 = 0 ∨ j1 = 1 ∨ j1 = 2 := by omega
    rcases hj3 with rfl | rfl | rfl
    · have c0 := hA 0 _ rfl
      clear hA
      go_wp2_with fail
      (try simp only [Exit.inBlock, Exit.then])
      refine bodyPost_ret (results_tmp4 rfl _ _ _) rfl ?_
      exact ⟨z, q, d, _, _, _, _, rfl, HQL.out, by omega, by omega, HP6.out.ints', HB.out.trans (below_grownBy HG6.out HB.out.size (Nat.le_refl _))⟩
    · have c0 := hA 1 _ rfl
      clear hA
      go_wp2_with fail
      (try simp only [Exit.inBlock, Exit.then])
      refine bodyPost_ret (results_tmp4 rfl _ _ _) rfl ?_
      exact ⟨z, q, d, _, _, _, _, rfl, HQL.out, by omega, by omega, HP6.out.ints', HB.out.trans (below_grownBy HG6.out HB.out.size (Nat.le_refl _))⟩
    · have c0 := hA 2 _ rfl
      clear hA
      go_wp2_with fail
      (try simp only [Exit.inBlock, Exit.then])
      refine bodyPost_ret (results_tmp4 rfl _ _ _) rfl ?_
      exact ⟨z, q, d, _, _, _, _, rfl, HQL.out, by omega, by omega, HP6.out.ints', HB.out.trans (below_grownBy HG6.out HB.out.size (Nat.le_refl _))⟩
  by_cases hk3 : k = 3
  · have e0 : ((k : Int) == 0) = false := by simp; omega
    have e1 : ((k : Int) == 1) = false := by simp; omega
    have e2 : ((k : Int) == 2) = false := by simp; omega
    have e3 : ((k : Int) == 3) = true := by simp; omega
    clear hk0 hk1 hk2 hk3
    go_wp2_with fail
    refine (pickN_any 3 w.heap.size w.heap.size _ _ _ w1 (rd_alloc HR5.out _) (grownBy_alloc' HG5.out _) rfl (by omega) (by omega) (by omega)).mono ?_
    rintro e w6 ⟨j1, rfl, hj1, hr, hg1, hg⟩
    have HP6 := Lib.hid (own_kept (OwnI.alloc HP5.out (.cells #[.int .i64 (-1), .int .i64 5, .int .i64 (-2)] 3)) hg1 hrw)
    have hA : ∀ j v, #[Value.int .i64 (-1), .int .i64 5, .int .i64 (-2)][j]? = some v → w6.cell? ⟨w5.heap.size, j, none⟩ = some v := fun j v hv =>
      hg1.cell (a := ⟨w5.heap.size, j, none⟩) (cell_new _ _ _ _ _ hv) (by have := HR5.out.lt; simp; omega)
    have HG6 := Lib.hid hg; clear hr hg hg1
    obtain ⟨u, hcu⟩ : ∃ u, w6.cell? ⟨w5.heap.size, j1, none⟩ = some (.int .i64 u) := by
      obtain rfl | rfl | rfl : j1 = 0 ∨ j1 = 1 ∨ j1 = 2 := by omega
      · exact ⟨_, hA 0 _ rfl⟩
      · exact ⟨_, hA 1 _ rfl⟩
      · exact ⟨_, hA 2 _ rfl⟩
    clear hA
    have hj3 : (j1 : Int) < 3 := by omega
    have hbase := HG6.out.size
    go_wp2_with (at_builtin; refine wpList_app1I u HP6.out (by omega) hbase rfl _ _ rfl rfl rfl ?_; intro v' w' hown hgrow; have HW := Lib.hid hown; have HG7 := Lib.hid (grownBy_into HG6.out hgrow HP6.out.at); obtain ⟨z', q', d', rfl, hz'⟩ := hown.ints; clear hown hgrow)
    (try simp only [Exit.inBlock, Exit.then])
    refine bodyPost_ret (results_tmp4 rfl _ _ _) rfl ?_
    exact ⟨z', q', d', _, _, _, _, rfl, by simp; omega, by omega, by omega, hz', HB.out.trans (below_grownBy HG7.out HB.out.size (Nat.le_refl _))⟩
  by_cases hk4 : k = 4
  · have e0 : ((k : Int) == 0) = false := by simp; omega
    have e1 : ((k : Int) == 1) = false := by simp; omega
    have e2 : ((k : Int) == 2) = false := by simp; omega
    have e3 : ((k : Int) == 3) = false := by simp; omega
    have e4 : ((k : Int) == 4) = true := by simp; omega
    clear hk0 hk1 hk2 hk3 hk4
    by_cases hq0 : 0 < q
    · go_wp2_with fail
      refine (pickN_any q w.heap.size w.heap.size _ _ _ w1 HR5.out HG5.out rfl (by omega) (by omega) (by omega)).mono ?_
      rintro e w6 ⟨j0, rfl, hj0, hr, hg1, hg⟩
      have HR6 := Lib.hid hr; have HG6 := Lib.hid hg; have HP6 := Lib.hid (own_kept HP5.out hg1 hrw); clear hr hg hg1
      go_wp2_with fail
      refine (pickN_any 3 w.heap.size w.heap.size _ _ _ w1 (rd_alloc HR6.out _) (grownBy_alloc' HG6.out _) rfl (by omega) (by omega) (by omega)).mono ?_
      rintro e w7 ⟨j1, rfl, hj1, hr, hg1, hg⟩
      have HP7 := Lib.hid (own_kept (OwnI.alloc HP6.out (.cells #[.int .i64 (-1), .int .i64 5, .int .i64 16777213] 3)) hg1 hrw)
      have hA : ∀ j v, #[Value.int .i64 (-1), .int .i64 5, .int .i64 16777213][j]? = some v → w7.cell? ⟨w6.heap.size, j, none⟩ = some v := fun j v hv =>
        hg1.cell (a := ⟨w6.heap.size, j, none⟩) (cell_new _ _ _ _ _ hv) (by have := HR6.out.lt; simp; omega)
      have HG7 := Lib.hid hg; clear hr hg hg1
      obtain ⟨u, hcu⟩ : ∃ u, w7.cell? ⟨w6.heap.size, j1, none⟩ = some (.int .i64 u) := by
        obtain rfl | rfl | rfl : j1 = 0 ∨ j1 = 1 ∨ j1 = 2 := by omega
        · exact ⟨_, hA 0 _ rfl⟩
        · exact ⟨_, hA 1 _ rfl⟩
        · exact ⟨_, hA 2 _ rfl⟩
      clear hA
      have hj3 : (j1 : Int) < 3 := by omega
      obtain ⟨g, ez, hgb⟩ : ∃ g, z = some ⟨g, 0, none⟩ ∧ w1.heap.size ≤ g := by
        rcases HP7.out.2 with ⟨e, _⟩ | ⟨g, cap', cur, e, hb, _⟩
        · simp only [Value.slice.injEq] at e; omega
        · simp only [Value.slice.injEq] at e; exact ⟨g, e.1, hb⟩
      subst ez
      have HPr := Lib.hid (show w7.ownsRow w1.heap.size 3 1 (.slice (some ⟨g, 0, none⟩) q d) q (pl.map (Value.int .i64)) by have := HP7.out; unfold OwnI at this; rwa [HQ.out] at this)
      have hf := HPr.out.frozenAt j0
      have hzc := HPr.out.cellAt j0 (by omega)
      rw [List.getElem?_eq_getElem (by rw [List.length_map, HQ.out]; exact hj0)] at hzc
      generalize (pl.map (Value.int .i64))[j0]'(by rw [List.length_map, HQ.out]; exact hj0) = zc at hzc
      have HST := Lib.hid (HPr.out.stored j0 (.int .i64 u))
      have HOWN := Lib.hid (show OwnI (w7.setCell ⟨g, j0, none⟩ (.int .i64 u)) w1.heap.size (.slice (some ⟨g, 0, none⟩) q d) (pl.set j0 u) by
        have := HST.out.1
        unfold OwnI
        rw [List.length_set, HQ.out, List.map_set]
        exact this)
      have HG8 := Lib.hid (grownBy_into (v := .slice (some ⟨g, 0, none⟩) q d) HG7.out (HST.out.2) (fun k hk => by simp [Value.ownBlock] at hk; omega))
      have hlen : (pl.set j0 u).length ≤ 5 := by rw [List.length_set]; exact HQL.out
      go_wp2_with fail
      (try simp only [Exit.inBlock, Exit.then])
      refine bodyPost_ret (results_tmp4 rfl _ _ _) rfl ?_
      exact ⟨_, q, d, _, _, (j : Int), (m : Int), rfl, hlen, by omega, by omega, HOWN.out.ints', HB.out.trans (below_grownBy HG8.out HB.out.size (Nat.le_refl _))⟩
    · have hq0' : decide (0 < q) = false := by simpa using hq0
      go_wp2_with fail
      (try simp only [Exit.inBlock, Exit.then])
      refine bodyPost_ret (results_tmp4 rfl _ _ _) rfl ?_
      exact ⟨z, q, d, _, _, _, _, rfl, HQL.out, by omega, by omega, HP5.out.ints', HB.out.trans (below_grownBy HG5.out HB.out.size (Nat.le_refl _))⟩
  have e0 : ((k : Int) == 0) = false := by simp; omega
  have e1 : ((k : Int) == 1) = false := by simp; omega
  have e2 : ((k : Int) == 2) = false := by simp; omega
  have e3 : ((k : Int) == 3) = false := by simp; omega
  have e4 : ((k : Int) == 4) = false := by simp; omega
  clear hk0 hk1 hk2 hk3 hk4
  go_wp2_with fail
  (try simp only [Exit.inBlock, Exit.then])
  refine bodyPost_ret (results_tmp4 rfl _ _ _) rfl ?_
  exact ⟨z, q, d, _, _, _, _, rfl, HQL.out, by omega, by omega, HP5.out.ints', HB.out.trans (below_grownBy HG5.out HB.out.size (Nat.le_refl _))⟩
end Go.Proofs.Ytlbebbkkpjgboaa
