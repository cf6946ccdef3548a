/-
  Contracts of the draws of chapter 1.
-/
import Derived.Test.YtjbkponhnoljlaaDraw0
import Derived.Test.YtjbkponhnoljlaaRead
namespace Go.Proofs.Ytjbkponhnoljlaa
open Go.RowKit
set_option linter.unusedVariables false
theorem str_cell {w w2 : World} {r t : Nat} (ss : List ByteArray) (cs : Array Value) (hcs : cs = (ss.map Value.string).toArray) (hg : (w.alloc (.cells cs t)).grownBy w2 (some r)) (hr : r < w.heap.size) (j : Nat) (hj : j < ss.length) :
    w2.cell? ⟨w.heap.size, j, none⟩ = some (.string (ss.getD j ByteArray.empty)) := by
  refine hg.cell (a := ⟨w.heap.size, j, none⟩) ?_ (by simp; omega)
  subst hcs
  have e := heap_alloc_new w (Obj.cells (ss.map Value.string).toArray t)
  unfold World.cell?
  rw [e]
  simp [hj]
theorem cell_new (w : World) (cs : Array Value) (t j : Nat) (v : Value) (h : cs[j]? = some v) : (w.alloc (.cells cs t)).cell? ⟨w.heap.size, j, none⟩ = some v := by
  have e := heap_alloc_new w (Obj.cells cs t)
  unfold World.cell?
  rw [e]
  simpa using h
theorem cell_alloc (w : World) (o : Obj) {a : Addr} {v : Value} (h : w.cell? a = some v) : (w.alloc o).cell? a = some v :=
  (World.grownBy_alloc w o none).cell h (by simp)
def words1 : List ByteArray := [⟨#[]⟩, ⟨#[49, 97]⟩, ⟨#[65]⟩, ⟨#[97, 32, 98]⟩, ⟨#[97, 98, 99, 100, 101, 102, 103, 104, 105]⟩]
def words2 : List ByteArray := [⟨#[97]⟩, ⟨#[98]⟩, ⟨#[99]⟩, ⟨#[114, 101, 100]⟩, ⟨#[120, 49]⟩]
/-- A drawn text is one of a list. -/
def StrIn (ss : List ByteArray) (B r c : Nat) (w : World) (e : Ending) (w' : World) : Prop :=
  ∃ s : ByteArray, e = .returned (.string s) ∧ s ∈ ss ∧ Rd B w' r c ∧ w.grownBy w' (some r)
theorem strIn_get {ss ss' : List ByteArray} {B r c : Nat} {w w' : World} {j : Nat} (hj : j < ss.length) (hs : ∀ s ∈ ss, s ∈ ss') (h : Rd B w' r c) (hg : w.grownBy w' (some r)) :
    StrIn ss' B r c w (.returned (.string (ss.getD j ByteArray.empty))) w' := by
  refine ⟨_, rfl, hs _ ?_, h, hg⟩
  rw [List.getD_eq_getElem?_getD, List.getElem?_eq_getElem hj]; simp
theorem rd_alloc {B r c : Nat} {w : World} (h : Rd B w r c) (o : Obj) : Rd B (w.alloc o) r c := h.below ((Below.refl _ _).alloc (Nat.le_refl _) _)
/-- A pick among the texts of a slice that was just made. -/
def PickedStr (ss : List ByteArray) (B r c : Nat) (w : World) (e : Ending) (w2 : World) : Prop :=
  ∃ j : Nat, e = .returned (.int .i64 j) ∧ j < ss.length ∧ w2.cell? ⟨w.heap.size, j, none⟩ = some (.string (ss.getD j ByteArray.empty)) ∧ Rd B w2 r (c + 1) ∧ w.grownBy w2 (some r)
theorem pickStr_any (ss : List ByteArray) (B r c : Nat) (n : Int) (cs : Array Value) (w : World) (h : Rd B w r c) (hcs : cs = (ss.map Value.string).toArray) (hn : n = ss.length) (hl : 1 ≤ ss.length) (hl2 : ss.length ≤ 1000) (hc : c ≤ 1000000) :
    Calls Try.prog 30 #[.pointer (some ⟨r, 0, none⟩), .int .i64 n] (w.alloc (.cells cs 9)) (PickedStr ss B r c w) := by
  refine (pick_any B r c n _ (rd_alloc h _) hc (by omega)).mono ?_
  rintro e w2 ⟨k, rfl, ⟨hk0, hk1, hk2⟩, hr, hg⟩
  obtain ⟨j, rfl⟩ := Int.eq_ofNat_of_zero_le hk0
  have hj : j < ss.length := by have := hk1 (by omega); omega
  exact ⟨j, rfl, hj, str_cell ss cs hcs hg h.lt j hj, hr, grownBy_trans (World.grownBy_alloc _ _ _) hg⟩
theorem l20Word_any (B r c : Nat) (n : Int) (w : World) (h : Rd B w r c) (hc : c ≤ 100000) (hn : n ≤ 1000000) :
    Calls Try.prog 24 #[.pointer (some ⟨r, 0, none⟩), .int .i64 n] w (StrIn (words1 ++ words2) B r (c + 2) w) := by
  have H := Lib.hid h; clear h
  go_enter Try.func24, Try.ntmps24
  go_wp2_with (first
    | (go_at_call 32; refine (odd_any B r c _ _ H.out (by omega) hn).mono ?_; rintro e w1 ⟨b, rfl, hb0, hb1, hr, hg⟩; have HR := Lib.hid hr; have HG := Lib.hid hg; clear hr hg hb0 hb1)
    | (go_at_call 30; (first | refine (pickStr_any words1 B r (c + 1) _ _ _ HR.out rfl rfl (by decide) (by decide) (by omega)).mono ?_ | refine (pickStr_any words2 B r (c + 1) _ _ _ HR.out rfl rfl (by decide) (by decide) (by omega)).mono ?_); rintro e w2 ⟨j, rfl, hj, hcell, hr, hg⟩; have HR2 := Lib.hid hr; have HG2 := Lib.hid hg; have HJ := Lib.hid hj; clear hr hg; simp only [words1, words2, List.length_cons, List.length_nil, Nat.zero_add, Nat.reduceAdd] at hj))
  · go_ret
    exact strIn_get HJ.out (fun s hs => List.mem_append_left _ hs) HR2.out (grownBy_trans HG.out HG2.out)
  · go_ret
    exact strIn_get HJ.out (fun s hs => List.mem_append_right _ hs) HR2.out (grownBy_trans HG.out HG2.out)
/-- A drawn text, at the law. -/
def StrOut (ss : List ByteArray) (w : World) (e : Ending) (w' : World) : Prop := ∃ s : ByteArray, e = .returned (.string s) ∧ s ∈ ss ∧ Below w.heap.size w w'
theorem drawWordValid_any (x : Option Addr) (n cap : Nat) (w : World) (h : Bytes w.heap.size w x n) (hn : n ≤ cap) (hc : cap ≤ maxLen) :
    Calls Try.prog 11 #[.slice x n cap] w (StrOut (words1 ++ words2) w) := by
  go_enter Try.func11, Try.ntmps11
  go_wp2_with (first
    | (go_at_call 25; refine (open_any x n cap w h hn hc).mono ?_; rintro e w1 ⟨rfl, hr, hb⟩; have HR := Lib.hid hr; have HB := Lib.hid hb; clear hr hb)
    | (go_at_call 24; refine (l20Word_any w.heap.size w.heap.size 0 _ _ HR.out (by omega) (by omega)).mono ?_; rintro e w2 ⟨s, rfl, hs, hr, hg⟩; have HS := Lib.hid hs; have HG := Lib.hid hg; clear hs hr hg))
  go_ret
  exact ⟨_, rfl, HS.out, HB.out.trans (below_grownBy HG.out HB.out.size (Nat.le_refl _))⟩
theorem alive_any (w : World) : Calls Try.prog 14 #[] w fun e w' => e = .returned (.bool true) ∧ w = w' := by
  have e1 : wordB ⟨#[97, 49]⟩ = true := by decide +kernel
  have e2 : wordB ⟨#[49, 97]⟩ = false := by decide +kernel
  go_enter Try.func14, Try.ntmps14
  go_wp2_with (go_at_call 12; refine (wordValid_any _ _ (by decide)).mono ?_; rintro e w' ⟨rfl, rfl⟩)
  go_ret
  exact ⟨rfl, rfl⟩
/-- A number that 'pick' hands back, with what stays known of the reader. -/
theorem pickN_any (N : Nat) (B r c : Nat) (n : Int) (w w0 : World) (h : Rd B w r c) (hg : w0.grownBy w (some r)) (hn : n = N) (hl : 1 ≤ N) (hl2 : N ≤ 1000000) (hc : c ≤ 1000000) :
    Calls Try.prog 30 #[.pointer (some ⟨r, 0, none⟩), .int .i64 n] w fun e w2 => ∃ j : Nat, e = .returned (.int .i64 j) ∧ j < N ∧ Rd B w2 r (c + 1) ∧ w.grownBy w2 (some r) ∧ w0.grownBy w2 (some r) := by
  refine (pick_any B r c n _ h hc (by omega)).mono ?_
  rintro e w2 ⟨k, rfl, ⟨hk0, hk1, hk2⟩, hr, hg2⟩
  obtain ⟨j, rfl⟩ := Int.eq_ofNat_of_zero_le hk0
  exact ⟨j, rfl, by have := hk1 (by omega); omega, hr, hg2, grownBy_trans hg hg2⟩
theorem mul_bd (a b : Nat) (ha : a < 256) (hb : b < 256) : (0 : Int) ≤ (a : Int) * (b : Int) ∧ (a : Int) * (b : Int) ≤ 65025 := by
  have h : a * b ≤ 255 * 255 := Nat.mul_le_mul (by omega) (by omega)
  have h2 : ((a * b : Nat) : Int) = (a : Int) * (b : Int) := Int.natCast_mul a b
  omega
/-- A drawn number. -/
def IntOut (lo hi : Int) (w : World) (e : Ending) (w' : World) : Prop := ∃ v : Int, e = .returned (.int .i64 v) ∧ lo ≤ v ∧ v ≤ hi ∧ Below w.heap.size w w'
theorem drawHexText_any (x : Option Addr) (n cap : Nat) (w : World) (h : Bytes w.heap.size w x n) (hn : n ≤ cap) (hc : cap ≤ maxLen) :
    Calls Try.prog 18 #[.slice x n cap] w (IntOut (-1) 16777213 w) := by
  go_enter Try.func18, Try.ntmps18
  go_wp2_with fail
  refine (open_any x n cap w h hn hc).mono ?_
  rintro e w1 ⟨rfl, hr, hb⟩
  have HB := Lib.hid hb; have HR := Lib.hid hr; clear hr hb
  go_wp2_with fail
  refine (pickN_any 40 w.heap.size w.heap.size 0 _ w1 w1 HR.out (grownBy_refl _ _) rfl (by decide) (by decide) (by decide)).mono ?_
  rintro e w2 ⟨k0, rfl, j0, hr, _, hg⟩
  have HR2 := Lib.hid hr; have HG2 := Lib.hid hg; clear hr hg
  go_wp2_with fail
  refine (pickN_any 256 w.heap.size w.heap.size 1 _ w2 w1 HR2.out HG2.out rfl (by decide) (by decide) (by decide)).mono ?_
  rintro e w3 ⟨k1, rfl, j1, hr, _, hg⟩
  have HR3 := Lib.hid hr; have HG3 := Lib.hid hg; clear hr hg
  go_wp2_with fail
  refine (pickN_any 256 w.heap.size w.heap.size 2 _ w3 w1 HR3.out HG3.out rfl (by decide) (by decide) (by decide)).mono ?_
  rintro e w4 ⟨k2, rfl, j2, hr, _, hg⟩
  have HR4 := Lib.hid hr; have HG4 := Lib.hid hg; clear hr hg
  obtain ⟨m0, m1⟩ := mul_bd k1 k2 j1 j2
  have hsz := HR4.out.lt
  go_wp2_with fail
  refine (pickN_any 7 w.heap.size w.heap.size 3 _ _ w1 (rd_alloc (rd_alloc HR4.out _) _) (grownBy_trans HG4.out (grownBy_trans (World.grownBy_alloc _ _ _) (World.grownBy_alloc _ _ _))) rfl (by decide) (by decide) (by decide)).mono ?_
  rintro e w5 ⟨k3, rfl, j3, hr, hg, hg1⟩
  have HR5 := Lib.hid hr; have HG5 := Lib.hid hg1
  have hA : ∀ j v, #[Value.int .i64 k0, .int .i64 ((k1 : Int) * k2 * 250), .int .i64 16777212, .int .i64 16777213, .int .i64 (-1)][j]? = some v → w5.cell? ⟨w4.heap.size, j, none⟩ = some v := fun j v hv =>
    hg.cell (a := ⟨w4.heap.size, j, none⟩) (cell_alloc _ _ (cell_new _ _ _ _ _ hv)) (by simp; omega)
  have hC : ∀ j v, #[Value.int .i64 0, .int .i64 0, .int .i64 1, .int .i64 1, .int .i64 2, .int .i64 3, .int .i64 4][j]? = some v → w5.cell? ⟨w4.heap.size + 1, j, none⟩ = some v := fun j v hv =>
    hg.cell (a := ⟨w4.heap.size + 1, j, none⟩) (by have := cell_new (w4.alloc (.cells #[Value.int .i64 k0, .int .i64 ((k1 : Int) * k2 * 250), .int .i64 16777212, .int .i64 16777213, .int .i64 (-1)] 3)) _ 3 j v hv; simpa using this) (by simp; omega)
  have a0 := hA 0 _ rfl
  have a1 := hA 1 _ rfl
  have a2 := hA 2 _ rfl
  have a3 := hA 3 _ rfl
  have a4 := hA 4 _ rfl
  have hk3 : k3 = 0 ∨ k3 = 1 ∨ k3 = 2 ∨ k3 = 3 ∨ k3 = 4 ∨ k3 = 5 ∨ k3 = 6 := by omega
  have hlast : Below w.heap.size w w5 := HB.out.trans (below_grownBy HG5.out HB.out.size (Nat.le_refl _))
  have HLAST := Lib.hid hlast
  clear hA hr hg hg1 hlast
  rcases hk3 with rfl | rfl | rfl | rfl | rfl | rfl | rfl
  · have c0 := hC 0 _ rfl
    clear hC
    go_wp2
    go_ret
    exact ⟨_, rfl, by omega, by omega, HLAST.out⟩
  · have c0 := hC 1 _ rfl
    clear hC
    go_wp2
    go_ret
    exact ⟨_, rfl, by omega, by omega, HLAST.out⟩
  · have c0 := hC 2 _ rfl
    clear hC
    go_wp2
    go_ret
    exact ⟨_, rfl, by omega, by omega, HLAST.out⟩
  · have c0 := hC 3 _ rfl
    clear hC
    go_wp2
    go_ret
    exact ⟨_, rfl, by omega, by omega, HLAST.out⟩
  · have c0 := hC 4 _ rfl
    clear hC
    go_wp2
    go_ret
    exact ⟨_, rfl, by omega, by omega, HLAST.out⟩
  · have c0 := hC 5 _ rfl
    clear hC
    go_wp2
    go_ret
    exact ⟨_, rfl, by omega, by omega, HLAST.out⟩
  · have c0 := hC 6 _ rfl
    clear hC
    go_wp2
    go_ret
    exact ⟨_, rfl, by omega, by omega, HLAST.out⟩
/-- A drawn text of at most m bytes. -/
def LenOut (m : Nat) (w : World) (e : Ending) (w' : World) : Prop := ∃ s : ByteArray, e = .returned (.string s) ∧ s.size ≤ m ∧ Below w.heap.size w w'
theorem getD_size (ss : List ByteArray) (j m : Nat) (h : ∀ s ∈ ss, s.size ≤ m) : (ss.getD j ByteArray.empty).size ≤ m := by
  rw [List.getD_eq_getElem?_getD]
  cases hj : ss[j]? with
  | none => simp
  | some s => exact h s (List.mem_of_getElem? hj)
def hexes (s : ByteArray) : List ByteArray := [⟨#[]⟩, ⟨#[48, 48]⟩, ⟨#[65]⟩, ⟨#[103]⟩, ⟨#[102, 102, 102, 102, 102, 100]⟩, ⟨#[102, 102, 102, 102, 102, 102, 102]⟩, ⟨#[49, 48, 48, 48, 48, 48, 48]⟩, ⟨#[48]⟩ ++ s, s ++ ⟨#[32]⟩]
theorem hexes_size (s : ByteArray) (h : s.size ≤ 6) : ∀ t ∈ hexes s, t.size ≤ 60 := by
  intro t ht
  simp only [hexes, List.mem_cons, List.not_mem_nil, or_false] at ht
  have h1 : (ByteArray.mk #[48]).size = 1 := rfl
  have h2 : (ByteArray.mk #[32]).size = 1 := rfl
  rcases ht with rfl | rfl | rfl | rfl | rfl | rfl | rfl | rfl | rfl <;> first | decide | (rw [ByteArray.size_append]; omega)
theorem drawReadHex_any (x : Option Addr) (n cap : Nat) (w : World) (h : Bytes w.heap.size w x n) (hn : n ≤ cap) (hc : cap ≤ maxLen) :
    Calls Try.prog 22 #[.slice x n cap] w (LenOut 60 w) := by
  go_enter Try.func22, Try.ntmps22
  go_wp2_with fail
  refine (open_any x n cap w h hn hc).mono ?_
  rintro e w1 ⟨rfl, hr, hb⟩
  have HB := Lib.hid hb; have HR := Lib.hid hr; clear hr hb
  go_wp2_with fail
  refine (pickN_any 256 w.heap.size w.heap.size 0 _ w1 w1 HR.out (grownBy_refl _ _) rfl (by decide) (by decide) (by decide)).mono ?_
  rintro e w2 ⟨k1, rfl, j1, hr, _, hg⟩
  have HR2 := Lib.hid hr; have HG2 := Lib.hid hg; clear hr hg
  go_wp2_with fail
  refine (pickN_any 256 w.heap.size w.heap.size 1 _ w2 w1 HR2.out HG2.out rfl (by decide) (by decide) (by decide)).mono ?_
  rintro e w3 ⟨k2, rfl, j2, hr, _, hg⟩
  have HR3 := Lib.hid hr; have HG3 := Lib.hid hg; clear hr hg
  obtain ⟨m0, m1⟩ := mul_bd k1 k2 j1 j2
  go_wp2_with fail
  refine (specHexText_any _ _).mono ?_
  rintro e w' ⟨rfl, rfl⟩
  have hz := hexB_size ((k1 : Int) * k2)
  generalize hexB ((k1 : Int) * k2) = s at hz ⊢
  go_wp2_with fail
  refine (odd_any w.heap.size w.heap.size 2 _ _ HR3.out (by decide) (by decide)).mono ?_
  rintro e w4 ⟨b, rfl, _, _, hr, hg⟩
  have HR4 := Lib.hid hr; have HG4 := Lib.hid hg; clear hr hg
  have HZ := Lib.hid (hexes_size s hz)
  have hend : ∀ w5, w4.grownBy w5 (some w.heap.size) → Below w.heap.size w w5 := fun w5 hg => HB.out.trans (below_grownBy (grownBy_trans HG3.out (grownBy_trans HG4.out hg)) HB.out.size (Nat.le_refl _))
  have HE := Lib.hid hend; clear hend
  cases b
  · go_wp2_with fail
    go_ret
    exact ⟨_, rfl, by omega, HE.out _ (grownBy_refl _ _)⟩
  · go_wp2_with fail
    refine (pickStr_any (hexes s) w.heap.size w.heap.size 3 _ _ _ HR4.out rfl rfl (by show 1 ≤ 9; omega) (by show 9 ≤ 1000; omega) (by omega)).mono ?_
    rintro e w5 ⟨j, rfl, hj, hcell, hr, hg⟩
    have HG5 := Lib.hid hg; clear hr hg
    have hj9 : j < 9 := hj
    have HS := Lib.hid (getD_size (hexes s) j 60 HZ.out)
    clear hj
    generalize (hexes s).getD j ByteArray.empty = t at hcell HS ⊢
    go_wp2_with fail
    go_ret
    exact ⟨t, rfl, HS.out, HE.out _ HG5.out⟩
end Go.Proofs.Ytjbkponhnoljlaa
