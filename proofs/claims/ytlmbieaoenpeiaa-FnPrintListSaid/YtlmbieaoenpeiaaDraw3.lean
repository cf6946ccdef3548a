/-
  Draws of chapter 2.
-/
import Derived.Test.YtlmbieaoenpeiaaDraw2
import Derived.Test.YtlmbieaoenpeiaaPrints
import Derived.Maps.AppendAt
namespace Go.Proofs.Ytlmbieaoenpeiaa
open Go.RowKit
set_option linter.unusedVariables false
theorem drawPrintOf_any (x : Option Addr) (n cap : Nat) (w : World) (h : Bytes w.heap.size w x n) (hn : n ≤ cap) (hc : cap ≤ maxLen) :
    Calls Try.prog 9 #[.slice x n cap] w (StrOut (texts1 ++ texts2) w) := by
  go_enter Try.func9, Try.ntmps9
  go_wp2_with (first
    | (go_at_call 22; refine (open_any x n cap w h hn hc).mono ?_; rintro e w1 ⟨rfl, hr, hb⟩; have HR := Lib.hid hr; have HB := Lib.hid hb; clear hr hb)
    | (go_at_call 21; refine (l20Text_any w.heap.size w.heap.size 0 _ _ HR.out (by omega) (by omega)).mono ?_; rintro e w2 ⟨s, rfl, hs, hr, hg⟩; have HS := Lib.hid hs; have HG := Lib.hid hg; clear hs hr hg))
  go_ret
  exact ⟨_, rfl, HS.out, HB.out.trans (below_grownBy HG.out HB.out.size (Nat.le_refl _))⟩
/-- A drawn number, the reader behind it. -/
def IntR (lo hi : Int) (B r c : Nat) (w : World) (e : Ending) (w' : World) : Prop := ∃ v : Int, e = .returned (.int .i64 v) ∧ lo ≤ v ∧ v ≤ hi ∧ Rd B w' r c ∧ w.grownBy w' (some r)
theorem l20Print_any (B r c : Nat) (n : Int) (w : World) (h : Rd B w r c) (hc : c ≤ 100000) (hn : n ≤ 1000000) :
    Calls Try.prog 26 #[.pointer (some ⟨r, 0, none⟩), .int .i64 n] w (IntR (-1) 16777213 B r (c + 4) w) := by
  have H := Lib.hid h; clear h
  have hrB := H.out.le
  go_enter Try.func26, Try.ntmps26
  go_wp2_with fail
  refine (odd_any B r c _ _ H.out (by omega) hn).mono ?_
  rintro e w1 ⟨b, rfl, hb0, hb1, hr, hg⟩
  have HR := Lib.hid hr; have HG := Lib.hid hg; clear hr hg hb0 hb1
  cases b
  · go_wp2_with fail
    refine (pickN_any 100 B r (c + 1) _ _ w HR.out HG.out rfl (by decide) (by decide) (by omega)).mono ?_
    rintro e w2 ⟨k0, rfl, j0, hr, _, hg⟩
    have HR2 := Lib.hid hr; have HG2 := Lib.hid hg; clear hr hg
    go_wp2_with fail
    refine (pickN_any 256 B r (c + 2) _ _ w HR2.out HG2.out rfl (by decide) (by decide) (by omega)).mono ?_
    rintro e w3 ⟨k1, rfl, j1, hr, _, hg⟩
    have HR3 := Lib.hid hr; have HG3 := Lib.hid hg; clear hr hg
    have hsz := HR3.out.lt
    go_wp2_with fail
    refine (pickN_any 7 B r (c + 3) _ _ w (rd_alloc (rd_alloc HR3.out _) _) (grownBy_trans HG3.out (grownBy_trans (World.grownBy_alloc _ _ _) (World.grownBy_alloc _ _ _))) rfl (by decide) (by decide) (by omega)).mono ?_
    rintro e w5 ⟨k3, rfl, j3, hr, hg, hg1⟩
    have HR5 := Lib.hid hr; have HG5 := Lib.hid hg1
    have hA : ∀ j v, #[Value.int .i64 k0, .int .i64 ((k1 : Int) * 65000), .int .i64 16777212][j]? = some v → w5.cell? ⟨w3.heap.size, j, none⟩ = some v := fun j v hv =>
      hg.cell (a := ⟨w3.heap.size, j, none⟩) (cell_alloc _ _ (cell_new _ _ _ _ _ hv)) (by simp; omega)
    have hC : ∀ j v, #[Value.int .i64 0, .int .i64 0, .int .i64 0, .int .i64 1, .int .i64 1, .int .i64 1, .int .i64 2][j]? = some v → w5.cell? ⟨w3.heap.size + 1, j, none⟩ = some v := fun j v hv =>
      hg.cell (a := ⟨w3.heap.size + 1, j, none⟩) (by have := cell_new (w3.alloc (.cells #[Value.int .i64 k0, .int .i64 ((k1 : Int) * 65000), .int .i64 16777212] 3)) _ 3 j v hv; simpa using this) (by simp; omega)
    have a0 := hA 0 _ rfl
    have a1 := hA 1 _ rfl
    have a2 := hA 2 _ rfl
    have hk3 : k3 = 0 ∨ k3 = 1 ∨ k3 = 2 ∨ k3 = 3 ∨ k3 = 4 ∨ k3 = 5 ∨ k3 = 6 := by omega
    clear hA hr hg hg1
    rcases hk3 with rfl | rfl | rfl | rfl | rfl | rfl | rfl
    · have c0 := hC 0 _ rfl
      clear hC
      go_wp2
      go_ret
      exact ⟨_, rfl, by omega, by omega, HR5.out, HG5.out⟩
    · have c0 := hC 1 _ rfl
      clear hC
      go_wp2
      go_ret
      exact ⟨_, rfl, by omega, by omega, HR5.out, HG5.out⟩
    · have c0 := hC 2 _ rfl
      clear hC
      go_wp2
      go_ret
      exact ⟨_, rfl, by omega, by omega, HR5.out, HG5.out⟩
    · have c0 := hC 3 _ rfl
      clear hC
      go_wp2
      go_ret
      exact ⟨_, rfl, by omega, by omega, HR5.out, HG5.out⟩
    · have c0 := hC 4 _ rfl
      clear hC
      go_wp2
      go_ret
      exact ⟨_, rfl, by omega, by omega, HR5.out, HG5.out⟩
    · have c0 := hC 5 _ rfl
      clear hC
      go_wp2
      go_ret
      exact ⟨_, rfl, by omega, by omega, HR5.out, HG5.out⟩
    · have c0 := hC 6 _ rfl
      clear hC
      go_wp2
      go_ret
      exact ⟨_, rfl, by omega, by omega, HR5.out, HG5.out⟩
  · have hsz := HR.out.lt
    go_wp2_with fail
    refine (pickN_any 2 B r (c + 1) _ _ w (rd_alloc HR.out _) (grownBy_trans HG.out (World.grownBy_alloc _ _ _)) rfl (by decide) (by decide) (by omega)).mono ?_
    rintro e w2 ⟨k0, rfl, j0, hr, hg, hg1⟩
    have HR2 := Lib.hid (hr.more (show c + 1 + 1 ≤ c + 4 by omega)); have HG2 := Lib.hid hg1
    have hA : ∀ j v, #[Value.int .i64 (-1), .int .i64 16777213][j]? = some v → w2.cell? ⟨w1.heap.size, j, none⟩ = some v := fun j v hv =>
      hg.cell (a := ⟨w1.heap.size, j, none⟩) (cell_new _ _ _ _ _ hv) (by simp; omega)
    have hk0 : k0 = 0 ∨ k0 = 1 := by omega
    clear hr hg hg1
    rcases hk0 with rfl | rfl
    · have c0 := hA 0 _ rfl
      clear hA
      go_wp2
      go_ret
      exact ⟨_, rfl, by omega, by omega, HR2.out, HG2.out⟩
    · have c0 := hA 1 _ rfl
      clear hA
      go_wp2
      go_ret
      exact ⟨_, rfl, by omega, by omega, HR2.out, HG2.out⟩
/-- Two drawn numbers, at the law. -/
def IntOut2 (lo hi : Int) (w : World) (e : Ending) (w' : World) : Prop := ∃ a b : Int, e = .returned (.tuple #[.int .i64 a, .int .i64 b]) ∧ (lo ≤ a ∧ a ≤ hi) ∧ (lo ≤ b ∧ b ≤ hi) ∧ Below w.heap.size w w'
theorem drawPrintPair_any (x : Option Addr) (n cap : Nat) (w : World) (h : Bytes w.heap.size w x n) (hn : n ≤ cap) (hc : cap ≤ maxLen) :
    Calls Try.prog 13 #[.slice x n cap] w (IntOut2 (-1) 16777213 w) := by
  go_enter Try.func13, Try.ntmps13
  go_wp2_with fail
  refine (open_any x n cap w h hn hc).mono ?_
  rintro e w1 ⟨rfl, hr, hb⟩
  have HR := Lib.hid hr; have HB := Lib.hid hb; clear hr hb
  go_wp2_with fail
  refine (l20Print_any w.heap.size w.heap.size 0 _ _ HR.out (by omega) (by omega)).mono ?_
  rintro e w2 ⟨a, rfl, ha0, ha1, hr, hg⟩
  have HR2 := Lib.hid hr; have HG2 := Lib.hid hg; clear hr hg
  go_wp2_with fail
  refine (l20Print_any w.heap.size w.heap.size 4 _ _ HR2.out (by omega) (by omega)).mono ?_
  rintro e w3 ⟨b, rfl, hb0, hb1, hr, hg⟩
  have HE := Lib.hid (HB.out.trans (below_grownBy (grownBy_trans HG2.out hg) HB.out.size (Nat.le_refl _))); clear hr hg
  go_wp2_with fail
  go_ret2
  exact ⟨_, _, rfl, ⟨ha0, ha1⟩, ⟨hb0, hb1⟩, HE.out⟩
/-- Drawn numbers: a row of the call's own. -/
def IntsR (m : Nat) (base B r c : Nat) (w : World) (e : Ending) (w' : World) : Prop := ∃ (v : Value) (l : List Int), e = .returned v ∧ l.length ≤ m ∧ OwnI w' base v l ∧ Rd B w' r c ∧ w.grownBy w' (some r)
/-- What holds of the row so far. -/
def PrRel (B r c : Nat) (w wr : World) (m : Nat) (v : Value) : Prop := ∃ l : List Int, l.length + m ≤ 8 ∧ OwnI wr w.heap.size v l ∧ Rd B wr r (c + 4 * l.length) ∧ w.grownBy wr (some r)
theorem prRel_step {B r c m : Nat} {w wr w1 w2 : World} {v v' : Value} {l : List Int} {u : Int} (hl : l.length + (m + 1) ≤ 8) (ho : OwnI wr w.heap.size v l) (hr1 : Rd B w1 r (c + 4 * l.length + 4)) (hrw : r < w.heap.size) (hg0 : w.grownBy wr (some r)) (hg1 : wr.grownBy w1 (some r))
    (hown : w2.ownsRow w.heap.size 3 1 v' (l.length + 1) (l.map (Value.int .i64) ++ [.int .i64 u])) (hg2 : w1.grownBy w2 v.ownBlock) : PrRel B r c w w2 m v' := by
  refine ⟨l ++ [u], by simp; omega, ?_, ?_, ?_⟩
  · unfold OwnI; rw [List.length_append, List.map_append]; exact hown
  · refine (hr1.grown hg2 fun k hk => ?_).more (by simp; omega)
    have := own_at ho hk
    have := hr1.le
    exact ⟨by omega, by omega⟩
  · exact grownBy_into (grownBy_trans hg0 hg1) hg2 (fun k hk => own_at ho hk)
theorem own_kept {w w' : World} {base r : Nat} {v : Value} {l : List Int} (h : OwnI w base v l) (hg : w.grownBy w' (some r)) (hr : r < base) : OwnI w' base v l :=
  World.ownsRow.kept h hg (by
    rcases hv : v.ownBlock with _ | k
    · exact .inl rfl
    · right; intro e; injection e with e; have := own_at h hv; omega)
theorem l20Prints_any (B r c : Nat) (n : Int) (w : World) (h : Rd B w r c) (hc : c ≤ 90000) (hn : n ≤ 1000000) :
    Calls Try.prog 31 #[.pointer (some ⟨r, 0, none⟩), .int .i64 n] w (IntsR 9 w.heap.size B r (c + 50) w) := by
  have H := Lib.hid h; clear h
  have hrw := H.out.lt
  have HO : Hid (OwnI (w.alloc (.cells #[] 3)) w.heap.size (.slice (some ⟨w.heap.size, 0, none⟩) 0 0) []) := World.ownsRow_lit w #[] 0 (Nat.le_refl _) (by decide) rfl
  go_enter Try.func31, Try.ntmps31
  go_wp2_with fail
  refine (pickN_any 9 B r c _ _ w (rd_alloc H.out _) (World.grownBy_alloc _ _ _) rfl (by decide) (by decide) (by omega)).mono ?_
  rintro e w1 ⟨k0, rfl, j0, hr, hg0, hg⟩
  have HS : Hid (PrRel B r (c + 1) w w1 k0 (.slice (some ⟨w.heap.size, 0, none⟩) 0 0)) := ⟨[], by simp; omega, own_kept HO.out hg0 hrw, hr, hg⟩
  clear hr hg hg0
  go_wp2
  go_loopw [5, 6] (fun v i wr => ∃ m : Nat, i = .int .i64 m ∧ m ≤ 8 ∧ PrRel B r (c + 1) w wr m v) (fun _ i _ => (intOf i).toNat)
  case atStart => exact ⟨k0, rfl, by omega, HS.out⟩
  case round =>
    obtain ⟨m, rfl, hm, hp⟩ := hrel
    rename_i v _
    by_cases h0 : 0 < m
    · obtain ⟨l, hl, ho, hr, hg⟩ := hp
      have HL := Lib.hid ho; have HR := Lib.hid hr; have HG := Lib.hid hg
      clear ho hr hg
      obtain ⟨m, rfl⟩ : ∃ q, m = q + 1 := ⟨m - 1, by omega⟩
      go_wp2_with fail
      refine (l20Print_any B r (c + 1 + 4 * l.length) _ _ HR.out (by omega) (by omega)).mono ?_
      rintro e w2 ⟨u, rfl, hu0, hu1, hr, hg⟩
      have HR1 := Lib.hid hr; have HG1 := Lib.hid hg; have HL1 := Lib.hid (own_kept HL.out hg hrw); clear hr hg
      have hsz := Nat.le_trans HG.out.size HG1.out.size
      go_wp2_with (at_builtin; refine wpList_app1 eltInt #[.int .i64 u] HL1.out rfl (by intro u hu; simp at hu; subst hu; rfl) (by omega) hsz rfl _ _ rfl rfl rfl ?_; intro v' w' hown hgrow; have HW := Lib.hid hown; have HGR := Lib.hid hgrow; clear hown hgrow)
      go_roundw
      case rel => exact ⟨m, by go_num, by omega, prRel_step hl HL.out HR1.out hrw HG.out HG1.out HW.out HGR.out⟩
      case measure => simp [intOf]
    · obtain ⟨l, hl, ho, hr, hg⟩ := hp
      have HL := Lib.hid ho; have HR := Lib.hid hr; have HG := Lib.hid hg
      clear ho hr hg
      obtain rfl : m = 0 := by omega
      go_wp2_with fail
      refine (odd_any B r (c + 1 + 4 * l.length) _ _ HR.out (by omega) hn).mono ?_
      rintro e w1 ⟨b, rfl, hb0, hb1, hr, hg⟩
      have HR1 := Lib.hid hr; have HG1 := Lib.hid hg; have HL1 := Lib.hid (own_kept HL.out hg hrw); clear hr hg hb0 hb1
      cases b
      · go_wp2_with fail
        go_ret
        exact ⟨_, l, rfl, by omega, HL1.out, HR1.out.more (by omega), grownBy_trans HG.out HG1.out⟩
      · go_wp2_with fail
        refine (l20Print_any B r (c + 1 + 4 * l.length + 1) _ _ HR1.out (by omega) (by omega)).mono ?_
        rintro e w2 ⟨u, rfl, hu0, hu1, hr, hg⟩
        have HR2 := Lib.hid hr; have HG2 := Lib.hid (grownBy_trans HG1.out hg); have HL2 := Lib.hid (own_kept HL1.out hg hrw); clear hr hg
        have hsz := Nat.le_trans HG.out.size HG2.out.size
        go_wp2_with (at_builtin; refine wpList_app1 eltInt #[.int .i64 u] HL2.out rfl (by intro u hu; simp at hu; subst hu; rfl) (by omega) hsz rfl _ _ rfl rfl rfl ?_; intro v' w' hown hgrow; have HW := Lib.hid hown; have HGR := Lib.hid hgrow; clear hown hgrow)
        go_ret
        have hk := fun k hk => own_at (k := k) HL2.out hk
        have hle := HR2.out.le
        exact ⟨_, l ++ [u], rfl, by simp; omega, by unfold OwnI; rw [List.length_append, List.map_append]; exact HW.out, (HR2.out.grown HGR.out fun k e => by have := hk k e; exact ⟨by omega, by omega⟩).more (by omega), grownBy_into (grownBy_trans HG.out HG2.out) HGR.out hk⟩
/-- Drawn numbers, at the law. -/
def IntsOut (m : Nat) (w : World) (e : Ending) (w' : World) : Prop := ∃ (v : Value) (l : List Int), e = .returned v ∧ l.length ≤ m ∧ OwnI w' w.heap.size v l ∧ Below w.heap.size w w'
theorem drawPrintList_any (x : Option Addr) (n cap : Nat) (w : World) (h : Bytes w.heap.size w x n) (hn : n ≤ cap) (hc : cap ≤ maxLen) :
    Calls Try.prog 16 #[.slice x n cap] w (IntsOut 21 w) := by
  go_enter Try.func16, Try.ntmps16
  go_wp2_with fail
  refine (open_any x n cap w h hn hc).mono ?_
  rintro e w1 ⟨rfl, hr, hb⟩
  have HR := Lib.hid hr; have HB := Lib.hid hb; clear hr hb
  go_wp2_with fail
  refine (odd_any w.heap.size w.heap.size 0 _ _ HR.out (by omega) (by omega)).mono ?_
  rintro e w2 ⟨b, rfl, hb0, hb1, hr, hg⟩
  have HR1 := Lib.hid hr; have HB1 := Lib.hid (HB.out.trans (below_grownBy hg HB.out.size (Nat.le_refl _))); clear hr hg hb0 hb1
  cases b
  · go_wp2_with fail
    refine (l20Prints_any w.heap.size w.heap.size 1 _ _ HR1.out (by omega) (by omega)).mono ?_
    rintro e w3 ⟨v, l, rfl, hl, ho, hr, hg⟩
    have HO := Lib.hid (ho.mono HB1.out.size); have HB2 := Lib.hid (HB1.out.trans (below_grownBy hg HB1.out.size (Nat.le_refl _))); clear hr hg ho
    go_wp2_with fail
    go_ret
    exact ⟨v, l, rfl, by omega, HO.out, HB2.out⟩
  · go_wp2_with fail
    refine (pickN_any 2 w.heap.size w.heap.size 1 _ _ _ HR1.out (grownBy_refl _ _) rfl (by decide) (by decide) (by omega)).mono ?_
    rintro e w3 ⟨j, rfl, hj, hr, hg, _⟩
    have HB2 := Lib.hid (HB1.out.trans (below_grownBy hg HB1.out.size (Nat.le_refl _))); clear hr hg
    have hmk := run_mk eltInt (20 + j) (by omega)
    have ej : ((20 + j : Nat) : Int) = 20 + (j : Int) := by omega
    rw [ej] at hmk
    clear ej
    have hsz := HB2.out.size
    have HO := Lib.hid (own_mkI w3 (20 + j) (by omega) hsz)
    go_wp2_with fail
    go_ret
    refine ⟨_, List.replicate (20 + j) 0, rfl, by simp; omega, ?_, HB2.out.alloc hsz _⟩
    unfold OwnI
    rw [List.length_replicate]
    exact HO.out
end Go.Proofs.Ytlmbieaoenpeiaa
