/-
  Draws of chapter 15: branches.
-/
import Derived.Test.YtiniadlpgomgjaaModel15b
import Derived.Test.YtiniadlpgomgjaaPrints
import Derived.Test.YtiniadlpgomgjaaDraw0
import Derived.Test.YtiniadlpgomgjaaChunks3
import Derived.Test.YtiniadlpgomgjaaDraw12
namespace Go.Proofs.Ytiniadlpgomgjaa
open Go.RowKit
set_option linter.unusedVariables false
set_option maxHeartbeats 1000000 in
theorem l20Many_any (B r c : Nat) (w : World) (h : Rd B w r c) (hc : c ≤ 100000) :
    Calls Try.prog 33 #[.pointer (some ⟨r, 0, none⟩)] w fun e w' => ∃ m : Int, e = .returned (.int .i64 m) ∧ -1 ≤ m ∧ m ≤ 13 ∧ Rd B w' r (c + 2) ∧ w.grownBy w' (some r) := by
  have H := Lib.hid h; clear h
  have hrB := H.out.le
  go_enter Try.func33, Try.ntmps33
  go_wp2_with fail
  refine (pickN_any 8 B r c _ _ w H.out (grownBy_refl _ _) rfl (by decide) (by decide) (by omega)).mono ?_
  rintro e w3 ⟨k0, rfl, j0, hr, _, hg⟩
  have HR3 := Lib.hid hr; have HG3 := Lib.hid hg; clear hr hg
  have hlt3 := HR3.out.lt
  have hw1 : IntKind.i64.wrap (1 + (k0 : Int)) = 1 + (k0 : Int) := IntWalk.i64_in _ (by omega)
  go_wp2_with fail
  refine (pickN_any 9 B r (c + 1) _ _ w (rd_alloc (rd_alloc HR3.out _) _) (grownBy_trans HG3.out (grownBy_trans (World.grownBy_alloc _ _ _) (World.grownBy_alloc _ _ _))) rfl (by decide) (by decide) (by omega)).mono ?_
  rintro e w5 ⟨k3, rfl, j3, hr, hg, hg1⟩
  have HR5 := Lib.hid hr; have HG5 := Lib.hid hg1
  have hA : ∀ j v, #[Value.int .i64 (1 + (k0 : Int)), .int .i64 12, .int .i64 0, .int .i64 (-1), .int .i64 13][j]? = some v → w5.cell? ⟨w3.heap.size, j, none⟩ = some v := fun j v hv =>
    hg.cell (a := ⟨w3.heap.size, j, none⟩) (cell_alloc _ _ (cell_new _ _ _ _ _ hv)) (by simp; omega)
  have hC : ∀ j v, #[Value.int .i64 0, .int .i64 0, .int .i64 0, .int .i64 0, .int .i64 0, .int .i64 1, .int .i64 2, .int .i64 3, .int .i64 4][j]? = some v → w5.cell? ⟨w3.heap.size + 1, j, none⟩ = some v := fun j v hv =>
    hg.cell (a := ⟨w3.heap.size + 1, j, none⟩) (by have := cell_new (w3.alloc (.cells #[Value.int .i64 (1 + (k0 : Int)), .int .i64 12, .int .i64 0, .int .i64 (-1), .int .i64 13] 3)) _ 3 j v hv; simpa using this) (by simp; omega)
  have a0 := hA 0 _ rfl
  have a1 := hA 1 _ rfl
  have a2 := hA 2 _ rfl
  have a3 := hA 3 _ rfl
  have a4 := hA 4 _ rfl
  have hk3 : k3 = 0 ∨ k3 = 1 ∨ k3 = 2 ∨ k3 = 3 ∨ k3 = 4 ∨ k3 = 5 ∨ k3 = 6 ∨ k3 = 7 ∨ k3 = 8 := by omega
  clear hA hr hg hg1
  rcases hk3 with rfl | rfl | rfl | rfl | rfl | rfl | rfl | rfl | rfl
  · have c0 := hC 0 _ rfl
    clear hC
    go_wp2
    go_ret
    exact ⟨_, rfl, by omega, by omega, HR5.out, HG5.out⟩
  · have c0 := hC 1 _ rfl
    clear hC
    go_wp2
    go_ret
    exact ⟨_, rfl, by omega, by omega, HR5.out, HG5.out⟩
  · have c0 := hC 2 _ rfl
    clear hC
    go_wp2
    go_ret
    exact ⟨_, rfl, by omega, by omega, HR5.out, HG5.out⟩
  · have c0 := hC 3 _ rfl
    clear hC
    go_wp2
    go_ret
    exact ⟨_, rfl, by omega, by omega, HR5.out, HG5.out⟩
  · have c0 := hC 4 _ rfl
    clear hC
    go_wp2
    go_ret
    exact ⟨_, rfl, by omega, by omega, HR5.out, HG5.out⟩
  · have c0 := hC 5 _ rfl
    clear hC
    go_wp2
    go_ret
    exact ⟨_, rfl, by omega, by omega, HR5.out, HG5.out⟩
  · have c0 := hC 6 _ rfl
    clear hC
    go_wp2
    go_ret
    exact ⟨_, rfl, by omega, by omega, HR5.out, HG5.out⟩
  · have c0 := hC 7 _ rfl
    clear hC
    go_wp2
    go_ret
    exact ⟨_, rfl, by omega, by omega, HR5.out, HG5.out⟩
  · have c0 := hC 8 _ rfl
    clear hC
    go_wp2
    go_ret
    exact ⟨_, rfl, by omega, by omega, HR5.out, HG5.out⟩
/-! ### branches -/
theorem nines_putBr {l : List Ent} {many : Int} {p : Ent} (h : Nines l) (hp : p.1.size ≤ 9) : Nines (putBr l many p).1 := by
  cases h1 : brsB l many
  · rw [putBr_bad h1]; exact nines_nil
  · cases h2 : brsB (putInE l p) many
    · rw [putBr_no h1 h2]; exact h
    · rw [putBr_yes h1 h2]; exact put_sizes rfl h hp
def wrongBr (many : Int) : List Ent := [(⟨#[]⟩, 0), (⟨#[122]⟩, many), (⟨#[122]⟩, -1), (⟨#[65]⟩, 0)]
theorem wrongBr_size {many : Int} : ∀ j, j < 4 → (nthE (wrongBr many) j).1.size ≤ 9
  | 0, _ => by show (ByteArray.mk #[]).size ≤ 9; decide
  | 1, _ => by show (ByteArray.mk #[122]).size ≤ 9; decide
  | 2, _ => by show (ByteArray.mk #[122]).size ≤ 9; decide
  | 3, _ => by show (ByteArray.mk #[65]).size ≤ 9; decide
theorem wrongBr_at0 {many : Int} : ∀ j, j < 4 → ((wrongBr many).flatMap enG).toArray[j * 2]? = some (.string (nthE (wrongBr many) j).1)
  | 0, _ => rfl
  | 1, _ => rfl
  | 2, _ => rfl
  | 3, _ => rfl
theorem wrongBr_at1 {many : Int} : ∀ j, j < 4 → ((wrongBr many).flatMap enG).toArray[j * 2 + 1]? = some (.int .i64 (nthE (wrongBr many) j).2)
  | 0, _ => rfl
  | 1, _ => rfl
  | 2, _ => rfl
  | 3, _ => rfl
/-- Drawn branches: a row of the call's own. -/
def BrsR (base B r c : Nat) (w : World) (e : Ending) (w' : World) : Prop := ∃ (v : Value) (l : List Ent), e = .returned v ∧ l.length ≤ 7 ∧ Nines l ∧ OwnBr w' base v l ∧ Rd B w' r c ∧ w.grownBy w' (some r)
def BrRel (B r c : Nat) (w0 wr : World) (m : Nat) (v : Value) : Prop := ∃ l : List Ent, l.length ≤ 6 ∧ Nines l ∧ OwnBr wr w0.heap.size v l ∧ Rd B wr r (c + 30 - 6 * m) ∧ w0.grownBy wr (some r)
set_option maxHeartbeats 1000000 in
set_option maxRecDepth 100000 in
theorem l20Branches_any (B r c : Nat) (many n : Int) (w : World) (h : Rd B w r c) (hc : c ≤ 80000) (hm13 : many ≤ 13) (hn : n ≤ 1000000) :
    Calls Try.prog 34 #[.pointer (some ⟨r, 0, none⟩), .int .i64 many, .int .i64 n] w (BrsR w.heap.size B r (c + 40) w) := by
  have H := Lib.hid h; clear h
  have hrw := H.out.lt
  have hrB := H.out.le
  have HO : Hid (OwnBr (w.alloc (.cells #[] 29)) w.heap.size (.slice (some ⟨w.heap.size, 0, none⟩) 0 0) []) := Lib.hid (OwnL.new enG 29 (size := 2) w)
  go_enter Try.func34, Try.ntmps34
  go_wp2_with fail
  refine (pickN_any 6 B r c _ _ w (rd_alloc H.out _) (World.grownBy_alloc _ _ _) rfl (by decide) (by decide) (by omega)).mono ?_
  rintro e w1 ⟨k0, rfl, j0, hr, hg0, hg⟩
  have HS : Hid (BrRel B r (c + 1) w w1 k0 (.slice (some ⟨w.heap.size, 0, none⟩) 0 0)) := Lib.hid ⟨[], by simp, nines_nil, own_keptL HO.out hg0 hrw, hr.more (by omega), hg⟩
  clear hr hg hg0 HO
  go_wp2
  go_loopw [7, 8, 9, 10] (fun v i a b wr => ∃ m : Nat, i = .int .i64 m ∧ m ≤ 5 ∧ BrRel B r (c + 1) w wr m v) (fun _ i _ _ _ => (intOf i).toNat)
  case atStart => exact ⟨k0, rfl, by omega, HS.out⟩
  case round =>
    obtain ⟨m, rfl, hm, hp⟩ := hrel
    obtain ⟨l, hl3, hz9, ho, hr, hg⟩ := hp
    obtain ⟨x, k, d, rfl, hi⟩ := ho.lst
    clear hi
    have HL3 := Lib.hid hl3; have HZ := Lib.hid hz9; have HO := Lib.hid ho; have HR := Lib.hid hr; have HG := Lib.hid hg
    clear hl3 hz9 ho hr hg HS
    by_cases hgo : 0 < m ∧ 0 < many
    · obtain ⟨h0, hmp⟩ := hgo
      obtain ⟨m, rfl⟩ : ∃ q, m = q + 1 := ⟨m - 1, by omega⟩
      obtain ⟨mn, hmn⟩ := Int.eq_ofNat_of_zero_le (Int.le_of_lt hmp)
      subst hmn
      have hmn1 : 1 ≤ mn := by omega
      have hmn13 : mn ≤ 1000000 := by omega
      go_wp2_with fail
      refine (l20Word_any B r _ _ _ HR.out (by omega) (by omega)).mono ?_
      rintro e w2 ⟨s, rfl, hs, hr, hg⟩
      have hs9 := words_size s hs
      have HR2 := Lib.hid hr; have HG2 := Lib.hid (grownBy_trans HG.out hg); have HO2 := Lib.hid (own_keptL HO.out hg hrw); clear hr hg hs
      go_wp2_with fail
      refine (pickN_any mn B r _ _ _ w2 HR2.out (grownBy_refl _ _) rfl hmn1 hmn13 (by omega)).mono ?_
      rintro e w3 ⟨p, rfl, hp, hr, hg, _⟩
      have HR3 := Lib.hid hr; have HG3 := Lib.hid (grownBy_trans HG2.out hg); have HO3 := Lib.hid (own_keptL HO2.out hg hrw); clear hr hg
      have hsz := HG3.out.size
      go_wp2_with fail
      refine (specSetBranch_any x k d l (mn : Int) (s, (p : Int)) _ _ HO3.out.lst' (Nat.le_refl _) (fun j => Nat.le_trans (HZ.out j) (by unfold maxLen; omega)) (by unfold maxLen; show s.size ≤ _; omega)).mono ?_
      rintro e w4 ⟨v4, rfl, ho, hb⟩
      have HO4 := Lib.hid (ho.mono hsz); have HR4 := Lib.hid (HR3.out.below hb); have HG4 := Lib.hid (grownBy_join HG3.out hb); clear ho hb
      go_wp2_with fail
      go_roundw
      case rel => exact ⟨m, by go_num, by omega, (putBr l (mn : Int) (s, (p : Int))).1, putBr_len _ _ _, nines_putBr HZ.out hs9, HO4.out, HR4.out.more (by omega), HG4.out⟩
      case measure => simp [intOf]
    · have hR9 : Rd B wr r (c + 1 + 30) := HR.out.more (by omega)
      have HR9 := Lib.hid hR9
      clear hR9
      by_cases h0 : 0 < m
      · have hmn : ¬ 0 < many := fun h => hgo ⟨h0, h⟩
        clear hgo
        go_wp2_with fail
        refine (odd_any B r (c + 1 + 30) _ _ HR9.out (by omega) hn).mono ?_
        rintro e w1 ⟨b, rfl, hb0, hb1, hr, hg⟩
        have HR1 := Lib.hid hr; have HG1 := Lib.hid (grownBy_trans HG.out hg); have HO1 := Lib.hid (own_keptL HO.out hg hrw); clear hr hg hb0 hb1
        cases b
        · go_wp2_with fail
          go_ret
          exact ⟨_, l, rfl, Nat.le_trans HL3.out (by omega), HZ.out, HO1.out, HR1.out.more (by omega), HG1.out⟩
        · have hlt := HR1.out.lt
          go_wp2_with fail
          refine (pickN_any 4 B r _ _ _ w1 (rd_alloc HR1.out _) (World.grownBy_alloc _ _ _) rfl (by decide) (by decide) (by omega)).mono ?_
          rintro e w2 ⟨j, rfl, hj, hr, hg, hg1⟩
          have hcell0 : w2.cell? ⟨w1.heap.size, j * 2, none⟩ = some (.string (nthE (wrongBr many) j).1) := hg.cell (a := ⟨w1.heap.size, j * 2, none⟩) (cell_new w1 ((wrongBr many).flatMap enG).toArray 29 (j * 2) _ (wrongBr_at0 j hj)) (by simp; omega)
          have hcell1 : w2.cell? ⟨w1.heap.size, j * 2 + 1, none⟩ = some (.int .i64 (nthE (wrongBr many) j).2) := hg.cell (a := ⟨w1.heap.size, j * 2 + 1, none⟩) (cell_new w1 ((wrongBr many).flatMap enG).toArray 29 (j * 2 + 1) _ (wrongBr_at1 j hj)) (by simp; omega)
          have hq9 := wrongBr_size (many := many) j hj
          obtain ⟨q, hq⟩ : ∃ q, nthE (wrongBr many) j = q := ⟨_, rfl⟩
          rw [hq] at hcell0 hcell1 hq9
          clear hq
          have HR2 := Lib.hid hr; have HG2 := Lib.hid (grownBy_trans HG1.out hg1); have HO2 := Lib.hid (own_keptL HO1.out hg1 hrw); clear hr hg hg1
          have hsz := HG2.out.size
          go_wp2_with (at_builtin; refine wpList_app1L eltBr encEn q _ rfl HO2.out (by have := HL3.out; omega) hsz rfl _ _ rfl rfl rfl ?_; intro v' w' hown hgrow; have HW := Lib.hid hown; have HGR := Lib.hid hgrow; clear hown hgrow)
          go_ret
          have hk := fun k hk => own_at (k := k) HO2.out hk
          exact ⟨_, l ++ [q], rfl, by have := HL3.out; simp; omega, nines_snoc HZ.out hq9, HW.out, (HR2.out.grown HGR.out fun k e => by have := hk k e; exact ⟨by omega, by omega⟩).more (by omega), grownBy_into HG2.out HGR.out hk⟩
      · obtain rfl : m = 0 := by omega
        clear hgo
        go_wp2_with fail
        refine (odd_any B r (c + 1 + 30) _ _ HR9.out (by omega) hn).mono ?_
        rintro e w1 ⟨b, rfl, hb0, hb1, hr, hg⟩
        have HR1 := Lib.hid hr; have HG1 := Lib.hid (grownBy_trans HG.out hg); have HO1 := Lib.hid (own_keptL HO.out hg hrw); clear hr hg hb0 hb1
        cases b
        · go_wp2_with fail
          go_ret
          exact ⟨_, l, rfl, Nat.le_trans HL3.out (by omega), HZ.out, HO1.out, HR1.out.more (by omega), HG1.out⟩
        · have hlt := HR1.out.lt
          go_wp2_with fail
          refine (pickN_any 4 B r _ _ _ w1 (rd_alloc HR1.out _) (World.grownBy_alloc _ _ _) rfl (by decide) (by decide) (by omega)).mono ?_
          rintro e w2 ⟨j, rfl, hj, hr, hg, hg1⟩
          have hcell0 : w2.cell? ⟨w1.heap.size, j * 2, none⟩ = some (.string (nthE (wrongBr many) j).1) := hg.cell (a := ⟨w1.heap.size, j * 2, none⟩) (cell_new w1 ((wrongBr many).flatMap enG).toArray 29 (j * 2) _ (wrongBr_at0 j hj)) (by simp; omega)
          have hcell1 : w2.cell? ⟨w1.heap.size, j * 2 + 1, none⟩ = some (.int .i64 (nthE (wrongBr many) j).2) := hg.cell (a := ⟨w1.heap.size, j * 2 + 1, none⟩) (cell_new w1 ((wrongBr many).flatMap enG).toArray 29 (j * 2 + 1) _ (wrongBr_at1 j hj)) (by simp; omega)
          have hq9 := wrongBr_size (many := many) j hj
          obtain ⟨q, hq⟩ : ∃ q, nthE (wrongBr many) j = q := ⟨_, rfl⟩
          rw [hq] at hcell0 hcell1 hq9
          clear hq
          have HR2 := Lib.hid hr; have HG2 := Lib.hid (grownBy_trans HG1.out hg1); have HO2 := Lib.hid (own_keptL HO1.out hg1 hrw); clear hr hg hg1
          have hsz := HG2.out.size
          go_wp2_with (at_builtin; refine wpList_app1L eltBr encEn q _ rfl HO2.out (by have := HL3.out; omega) hsz rfl _ _ rfl rfl rfl ?_; intro v' w' hown hgrow; have HW := Lib.hid hown; have HGR := Lib.hid hgrow; clear hown hgrow)
          go_ret
          have hk := fun k hk => own_at (k := k) HO2.out hk
          exact ⟨_, l ++ [q], rfl, by have := HL3.out; simp; omega, nines_snoc HZ.out hq9, HW.out, (HR2.out.grown HGR.out fun k e => by have := hk k e; exact ⟨by omega, by omega⟩).more (by omega), grownBy_into HG2.out HGR.out hk⟩
/-! ### what is drawn, at the laws -/
def BrsOut (w : World) (e : Ending) (w' : World) : Prop := ∃ (x : Option Addr) (n c : Nat) (l : List Ent) (many : Int), e = .returned (.tuple #[.slice x n c, .int .i64 many]) ∧ l.length ≤ 7 ∧ Nines l ∧ Ents w' w'.heap.size x n c l ∧ Below w.heap.size w w'
theorem drawBranchesValid_any (x : Option Addr) (n cap : Nat) (w : World) (h : Bytes w.heap.size w x n) (hn : n ≤ cap) (hc : cap ≤ maxLen) :
    Calls Try.prog 11 #[.slice x n cap] w (BrsOut w) := by
  go_enter Try.func11, Try.ntmps11
  go_wp2_with fail
  refine (open_any x n cap w h hn hc).mono ?_
  rintro e w1 ⟨rfl, hr, hb⟩
  have HR := Lib.hid hr; have HB := Lib.hid hb; clear hr hb
  go_wp2_with fail
  refine (l20Many_any w.heap.size w.heap.size 0 _ HR.out (by omega)).mono ?_
  rintro e w2 ⟨many, rfl, hm0, hm1, hr, hg⟩
  have HR2 := Lib.hid hr; have HB2 := Lib.hid (HB.out.trans (below_grownBy hg HB.out.size (Nat.le_refl _))); clear hr hg
  go_wp2_with fail
  refine (l20Branches_any w.heap.size w.heap.size _ many 2 _ HR2.out (by omega) hm1 (by decide)).mono ?_
  rintro e w3 ⟨v, l, rfl, hl, hz, ho, hr, hg⟩
  obtain ⟨y, m, c, rfl, hi⟩ := ho.lst
  have HI := Lib.hid hi; have HB3 := Lib.hid (HB2.out.trans (below_grownBy hg HB2.out.size (Nat.le_refl _))); clear ho hr hg hi
  go_wp2_with fail
  go_ret2
  exact ⟨y, m, c, l, many, rfl, hl, hz, HI.out, HB3.out⟩
def BrsNameOut (w : World) (e : Ending) (w' : World) : Prop := ∃ (x : Option Addr) (n c : Nat) (l : List Ent) (many : Int) (s : ByteArray), e = .returned (.tuple #[.slice x n c, .int .i64 many, .string s]) ∧ l.length ≤ 7 ∧ Nines l ∧ s.size ≤ 9 ∧ Ents w' w'.heap.size x n c l ∧ Below w.heap.size w w'
theorem drawBranchAt_any (x : Option Addr) (n cap : Nat) (w : World) (h : Bytes w.heap.size w x n) (hn : n ≤ cap) (hc : cap ≤ maxLen) :
    Calls Try.prog 21 #[.slice x n cap] w (BrsNameOut w) := by
  go_enter Try.func21, Try.ntmps21
  go_wp2_with fail
  refine (open_any x n cap w h hn hc).mono ?_
  rintro e w1 ⟨rfl, hr, hb⟩
  have HR := Lib.hid hr; have HB := Lib.hid hb; clear hr hb
  have hlt1 := HR.out.lt
  go_wp2_with fail
  refine (l20Many_any w.heap.size w.heap.size 0 _ HR.out (by omega)).mono ?_
  rintro e w2 ⟨many, rfl, hm0, hm1, hr, hg⟩
  have HR2 := Lib.hid hr; have HB2 := Lib.hid (HB.out.trans (below_grownBy hg HB.out.size (Nat.le_refl _))); clear hr hg
  have hlt2 := HR2.out.lt
  go_wp2_with fail
  refine (l20Branches_any w.heap.size w.heap.size _ many 9 _ HR2.out (by omega) hm1 (by decide)).mono ?_
  rintro e w3 ⟨v, l, rfl, hl, hz, ho, hr, hg⟩
  obtain ⟨y, m, c, rfl, hi⟩ := ho.lst
  have HO := Lib.hid ho; have HR3 := Lib.hid hr; have HB3 := Lib.hid (HB2.out.trans (below_grownBy hg HB2.out.size (Nat.le_refl _))); clear ho hr hg hi
  go_wp2_with fail
  refine (l20Word_any w.heap.size w.heap.size _ _ _ HR3.out (by omega) (by omega)).mono ?_
  rintro e w4 ⟨s, rfl, hs, hr, hg⟩
  have hs9 := words_size s hs
  have HO4 := Lib.hid (own_keptL HO.out hg hlt2); have HB4 := Lib.hid (HB3.out.trans (below_grownBy hg HB3.out.size (Nat.le_refl _))); clear hr hg hs
  go_wp2_with fail
  go_ret3
  exact ⟨y, m, c, l, many, s, rfl, hl, hz, hs9, HO4.out.lst', HB4.out⟩
theorem drawDropBranch_any (x : Option Addr) (n cap : Nat) (w : World) (h : Bytes w.heap.size w x n) (hn : n ≤ cap) (hc : cap ≤ maxLen) :
    Calls Try.prog 23 #[.slice x n cap] w (BrsNameOut w) := by
  go_enter Try.func23, Try.ntmps23
  go_wp2_with fail
  refine (drawBranchAt_any x n cap w h hn hc).mono ?_
  rintro e w1 ⟨y, m, c, l, many, s, rfl, hl, hz, hs9, hi, hb⟩
  have HI := Lib.hid hi; have HB := Lib.hid hb; clear hi hb
  go_wp2_with fail
  go_ret3
  exact ⟨y, m, c, l, many, s, rfl, hl, hz, hs9, HI.out, HB.out⟩
def BrsBrOut (w : World) (e : Ending) (w' : World) : Prop := ∃ (x : Option Addr) (n c : Nat) (l : List Ent) (many : Int) (p : Ent), e = .returned (.tuple #[.slice x n c, .int .i64 many, .agg #[.string p.1, .int .i64 p.2]]) ∧ l.length ≤ 7 ∧ Nines l ∧ p.1.size ≤ 9 ∧ Ents w' w'.heap.size x n c l ∧ Below w.heap.size w w'
set_option maxHeartbeats 1000000 in
theorem drawSetBranch_any (x : Option Addr) (n cap : Nat) (w : World) (h : Bytes w.heap.size w x n) (hn : n ≤ cap) (hc : cap ≤ maxLen) :
    Calls Try.prog 15 #[.slice x n cap] w (BrsBrOut w) := by
  obtain ⟨W, hW⟩ : ∃ W, w.alloc (.cells #[.string ⟨#[]⟩, .int .i64 0] 29) = W := ⟨_, rfl⟩
  have e0 : W.heap.size = w.heap.size + 1 := by rw [← hW]; simp
  have HX := Lib.hid (show W.heap[w.heap.size]? = some (.cells #[.string ⟨#[]⟩, .int .i64 0] 29 (0, 0)) by rw [← hW]; exact heap_alloc_new w _)
  have HBW := Lib.hid (show Below w.heap.size w W by rw [← hW]; exact (Below.refl w.heap.size w).alloc (Nat.le_refl _) _)
  have HBY := Lib.hid (show Bytes W.heap.size W x n from fun i hi => by
    obtain ⟨b, off, z, h1, h2, h3, h4⟩ := (h.keep fun k hk => HBW.out.block k hk) i hi
    exact ⟨b, off, z, h1, by omega, h3, h4⟩)
  have HE0 := Lib.hid e0
  clear h e0
  go_enter Try.func15, Try.ntmps15
  go_wp2_with fail
  refine (open_any x n cap W HBY.out hn hc).mono ?_
  rintro e w1 ⟨rfl, hr, hb⟩
  have HX1 := Lib.hid ((hb.block w.heap.size (by have := HE0.out; omega)).trans HX.out)
  have HR := Lib.hid hr; have HB := Lib.hid (HBW.out.trans (hb.mono HBW.out.size)); clear hr hb
  have hlt1 := HR.out.lt
  go_wp2_with fail
  refine (l20Many_any W.heap.size W.heap.size 0 _ HR.out (by omega)).mono ?_
  rintro e w2 ⟨many, rfl, hm0, hm1, hr, hg⟩
  have HR2 := Lib.hid hr; have HG2 := Lib.hid hg; clear hr hg
  have hlt2 := HR2.out.lt
  go_wp2_with fail
  refine (l20Branches_any W.heap.size W.heap.size _ many 9 _ HR2.out (by omega) hm1 (by decide)).mono ?_
  rintro e w3 ⟨v, l, rfl, hl, hz, ho, hr, hg⟩
  obtain ⟨y, m, c, rfl, hi⟩ := ho.lst
  have HO3 := Lib.hid ho; have HR3 := Lib.hid hr; have HG3 := Lib.hid (grownBy_trans HG2.out hg); clear ho hr hg hi
  go_wp2_with fail
  refine (l20Word_any W.heap.size W.heap.size _ _ _ HR3.out (by omega) (by omega)).mono ?_
  rintro e w4 ⟨s, rfl, hs, hr, hg⟩
  have hs9 := words_size s hs
  have HR4 := Lib.hid hr; have HG4 := Lib.hid (grownBy_trans HG3.out hg); have HO4 := Lib.hid (own_keptL HO3.out hg hlt2); clear hr hg hs
  obtain ⟨q, hq, hq1, hq2⟩ : ∃ q : Nat, max 1 many + 1 = (q : Int) ∧ 1 ≤ q ∧ q ≤ 20 := ⟨(max 1 many + 1).toNat, by omega, by omega, by omega⟩
  go_wp2_with fail
  refine (pickN_any q W.heap.size W.heap.size _ _ _ w4 HR4.out (grownBy_refl _ _) (by omega) hq1 (by omega) (by omega)).mono ?_
  rintro e w5 ⟨j, rfl, hj, hr, hg, _⟩
  have HR5 := Lib.hid hr; have HG5 := Lib.hid (grownBy_trans HG4.out hg); have HO5 := Lib.hid (own_keptL HO4.out hg hlt2); clear hr hg
  go_wp2_with fail
  refine (pickN_any 14 W.heap.size W.heap.size _ _ _ w5 HR5.out (grownBy_refl _ _) rfl (by decide) (by decide) (by omega)).mono ?_
  rintro e w6 ⟨i, rfl, hi, hr, hg, _⟩
  have HG6 := Lib.hid (grownBy_trans HG5.out hg); have HO6 := Lib.hid (own_keptL HO5.out hg hlt2); clear hr hg
  obtain ⟨d0, d1, g0, g1⟩ := two_at ((HG6.out.block w.heap.size (by have := HE0.out; have := HB.out.size; omega) (by have := HE0.out; intro e; simp at e; omega)).trans HX1.out)
  have HB6 := Lib.hid (HB.out.trans (below_grownBy HG6.out HB.out.size (by have := HE0.out; omega)))
  by_cases h13 : i = 13
  · subst h13
    have hwj : IntKind.i64.wrap ((j : Int) - 1) = (j : Int) - 1 := by rw [IntKind.wrap_i64]; omega
    clear hi hq hm0 hm1
    go_wp2_with fail
    refine bodyPost_ret (v := .tuple #[.slice y m c, .int .i64 many, .agg #[.string s, .int .i64 ((j : Int) - 1)]]) ?_ rfl ⟨y, m, c, l, many, (s, (j : Int) - 1), rfl, hl, hz, hs9, ?_, (HB6.out.setCell (p := ⟨w.heap.size, 0, none⟩) (by simp) _).setCell (p := ⟨w.heap.size, 1, none⟩) (by simp) _⟩
    · simp [results, Try.results15, go_sem, d0, d1]
    · have hlt : w.heap.size < w2.heap.size := by have h1 := HG2.out.size; have := HE0.out; have := HB.out.size; omega
      exact (own_keptL (own_keptL HO6.out (grown_set6 _ ⟨w.heap.size, 0, none⟩ _) hlt) (grown_set6 _ ⟨w.heap.size, 1, none⟩ _) hlt).lst'
  · have hqz : (i : Int).tdiv 13 = 0 := Int.tdiv_eq_zero_of_lt (by omega) (by omega)
    have hwj : IntKind.i64.wrap (j : Int) = (j : Int) := by rw [IntKind.wrap_i64]; omega
    clear hi h13 hq hm0 hm1
    go_wp2_with fail
    refine bodyPost_ret (v := .tuple #[.slice y m c, .int .i64 many, .agg #[.string s, .int .i64 ((j : Int))]]) ?_ rfl ⟨y, m, c, l, many, (s, (j : Int)), rfl, hl, hz, hs9, ?_, (HB6.out.setCell (p := ⟨w.heap.size, 0, none⟩) (by simp) _).setCell (p := ⟨w.heap.size, 1, none⟩) (by simp) _⟩
    · simp [results, Try.results15, go_sem, d0, d1]
    · have hlt : w.heap.size < w2.heap.size := by have h1 := HG2.out.size; have := HE0.out; have := HB.out.size; omega
      exact (own_keptL (own_keptL HO6.out (grown_set6 _ ⟨w.heap.size, 0, none⟩ _) hlt) (grown_set6 _ ⟨w.heap.size, 1, none⟩ _) hlt).lst'
end Go.Proofs.Ytiniadlpgomgjaa
