/-
  Draws of chapters 7 and 8: contents, files' texts, kinds, paths.
-/
import Derived.Test.YtbghefphhpfcgaaDoorDraw12
import Derived.Test.YtbghefphhpfcgaaDoorDraw5
namespace Go.Proofs.YtbghefphhpfcgaaDoor
open Go.RowKit
set_option linter.unusedVariables false
/-! ### a file's text: what its operations yield, in whatever order they run -/
def pres : List ByteArray := [⟨#[]⟩, ⟨#[102]⟩, ⟨#[]⟩]
theorem texts_size : ∀ s ∈ texts1 ++ texts2, s.size ≤ 61 := by decide +kernel
theorem pres_size : ∀ p ∈ pres, p.size ≤ 1 := by decide
def RfF (r : Nat) : Nat → Value → World → Prop
  | 0, v, w => ∃ kb, v = .slice (some ⟨kb, 0, none⟩) 3 3 ∧ kb ≠ r ∧ ∀ j, j < 3 → w.cell? ⟨kb, j, none⟩ = some (.string (nthS pres j))
  | 1, v, _ => v = .pointer (some ⟨r, 0, none⟩)
  | 2, v, _ => ∃ j : Nat, j < 3 ∧ v = .int .i64 j
  | 3, v, w => ∃ kb j, j < 3 ∧ v = .pointer (some ⟨kb, j, none⟩) ∧ kb ≠ r ∧ w.cell? ⟨kb, j, none⟩ = some (.string (nthS pres j))
  | 4, v, _ => ∃ p ∈ pres, v = .string p
  | 5, v, _ => v = .pointer (some ⟨r, 0, none⟩)
  | 6, v, _ => ∃ t ∈ texts1 ++ texts2, v = .string t
  | _, v, _ => ∃ p ∈ pres, ∃ t ∈ texts1 ++ texts2, v = .string (p ++ t)
theorem rfF_mono {r : Nat} : ∀ (k : Nat) (v : Value) (w w' : World), w.grownBy w' (some r) → RfF r k v w → RfF r k v w'
  | 0, v, w, w', hg, h => by
    obtain ⟨kb, h1, h2, h3⟩ := h
    exact ⟨kb, h1, h2, fun j hj => hg.cell (a := ⟨kb, j, none⟩) (h3 j hj) (by simp; exact h2)⟩
  | 1, v, w, w', hg, h => h
  | 2, v, w, w', hg, h => h
  | 3, v, w, w', hg, h => by
    obtain ⟨kb, j, hj, h1, h2, h3⟩ := h
    exact ⟨kb, j, hj, h1, h2, hg.cell (a := ⟨kb, j, none⟩) h3 (by simp; exact h2)⟩
  | 4, v, w, w', hg, h => h
  | 5, v, w, w', hg, h => h
  | 6, v, w, w', hg, h => h
  | _ + 7, v, w, w', hg, h => h
def RfG (B r : Nat) (w0 : World) (L : Nat → Bool) (w : World) : Prop := w0.grownBy w (some r) ∧ Rd B w r ((if L 2 = true then 1 else 0) + (if L 6 = true then 2 else 0))
theorem rfG_same {B r k : Nat} {w0 w : World} {L : Nat → Bool} (h : RfG B r w0 L w) (h2 : k ≠ 2 := by decide) (h6 : k ≠ 6 := by decide) : RfG B r w0 (fun j => j == k || L j) w := by
  refine ⟨h.1, ?_⟩
  have e2 : ((2 == k) || L 2) = L 2 := by simp [Ne.symm h2]
  have e6 : ((6 == k) || L 6) = L 6 := by simp [Ne.symm h6]
  show Rd B w r ((if ((2 == k) || L 2) = true then 1 else 0) + (if ((6 == k) || L 6) = true then 2 else 0))
  rw [e2, e6]; exact h.2
theorem nthS_mem' {l : List ByteArray} {j : Nat} (h : j < l.length) : nthS l j ∈ l := by rw [nthS_get h]; exact List.getElem_mem _
/-- What a kind is drawn of. -/
def kindTexts (s f t : ByteArray) : List ByteArray := [s, f, t, ⟨#[100, 97, 61, 55, 59, 98]⟩]
theorem contents_size : ∀ s ∈ contents4, (fileB s).size ≤ 61 := by decide +kernel
theorem contents_small : ∀ s ∈ contents4, s.size ≤ 61 := by decide +kernel
/-! ### paths -/
/-- Drawn words. -/
def WordsOut (w : World) (e : Ending) (w' : World) : Prop := ∃ (x : Option Addr) (n c : Nat) (l : List ByteArray), e = .returned (.slice x n c) ∧ l.length ≤ 4 ∧ (∀ s ∈ l, s.size ≤ 9) ∧ Strs w' w'.heap.size x n c l ∧ Below w.heap.size w w'
def WdRel (B r c base : Nat) (w0 wr : World) (m : Nat) (v : Value) : Prop := ∃ l : List ByteArray, l.length + m ≤ 4 ∧ (∀ s ∈ l, s.size ≤ 9) ∧ OwnS wr base v l ∧ Rd B wr r (c + 8 - 2 * m) ∧ w0.grownBy wr (some r)
theorem drawJoinPath_any (x : Option Addr) (n cap : Nat) (w : World) (h : Bytes w.heap.size w x n) (hn : n ≤ cap) (hc : cap ≤ maxLen) :
    Calls Tryd.prog 8 #[.slice x n cap] w (WordsOut w) := by
  go_enter Tryd.func8, Tryd.ntmps8
  go_wp2_with fail
  refine (open_any x n cap w h hn hc).mono ?_
  rintro e w1 ⟨rfl, hr, hb⟩
  have HR := Lib.hid hr; have HB := Lib.hid hb; clear hr hb
  have hrw := HR.out.lt
  have HO : Hid (OwnS (w1.alloc (.cells #[] 9)) w1.heap.size (.slice (some ⟨w1.heap.size, 0, none⟩) 0 0) []) := Lib.hid (OwnL.new strG 9 (size := 1) w1)
  go_wp2_with fail
  refine (pickN_any 5 w.heap.size w.heap.size 0 _ _ w1 (rd_alloc HR.out _) (World.grownBy_alloc _ _ _) rfl (by decide) (by decide) (by omega)).mono ?_
  rintro e w2 ⟨k0, rfl, j0, hr, hg0, hg⟩
  have HS : Hid (WdRel w.heap.size w.heap.size 1 w1.heap.size w1 w2 k0 (.slice (some ⟨w1.heap.size, 0, none⟩) 0 0)) := Lib.hid ⟨[], by simp; omega, (by intro s hs; cases hs), own_keptL HO.out hg0 hrw, hr.more (by omega), hg⟩
  clear hr hg hg0 HO
  go_wp2
  go_loopw [4, 5] (fun v i wr => ∃ m : Nat, i = .int .i64 m ∧ m ≤ 4 ∧ WdRel w.heap.size w.heap.size 1 w1.heap.size w1 wr m v) (fun _ i _ => (intOf i).toNat)
  case atStart => exact ⟨k0, rfl, by omega, HS.out⟩
  case round =>
    obtain ⟨m, rfl, hm, l, hl, hz9, ho, hr, hg⟩ := hrel
    obtain ⟨y, k, d, rfl, hi⟩ := ho.lst
    have HL := Lib.hid hl; have HZ := Lib.hid hz9; have HO := Lib.hid ho; have HR2 := Lib.hid hr; have HG := Lib.hid hg; have HI := Lib.hid hi
    clear hl hz9 ho hr hg HS hi
    by_cases h0 : 0 < m
    · obtain ⟨m, rfl⟩ : ∃ q, m = q + 1 := ⟨m - 1, by omega⟩
      go_wp2_with fail
      refine (l20Word_any w.heap.size w.heap.size _ _ _ HR2.out (by omega) (by omega)).mono ?_
      rintro e w3 ⟨s, rfl, hs, hr, hg⟩
      have hs9 := words_size s hs
      have HR3 := Lib.hid hr; have HG3 := Lib.hid (grownBy_trans HG.out hg); have HO3 := Lib.hid (own_keptL HO.out hg hrw); clear hr hg hs
      have hsz := HG3.out.size
      go_wp2_with (at_builtin; refine wpList_app1L eltStr encStr s _ rfl HO3.out (by have := HL.out; omega) hsz rfl _ _ rfl rfl rfl ?_; intro v' w' hown hgrow; have HW := Lib.hid hown; have HGR := Lib.hid hgrow; clear hown hgrow)
      have hk := fun k hk => own_at (k := k) HO3.out hk
      have hle := HR3.out.le
      have HRN := Lib.hid (HR3.out.grown HGR.out fun k e => by have := hk k e; exact ⟨by omega, by omega⟩)
      have HGN := Lib.hid (grownBy_into HG3.out HGR.out hk)
      go_roundw
      case rel =>
        refine ⟨m, by go_num, by omega, l ++ [s], by have := HL.out; simp; omega, ?_, HW.out, HRN.out.more (by omega), HGN.out⟩
        intro q hq
        rcases List.mem_append.1 hq with h1 | h1
        · exact HZ.out q h1
        · rw [List.mem_singleton] at h1; subst h1; exact hs9
      case measure => simp [intOf]
    · obtain rfl : m = 0 := by omega
      go_wp2_with fail
      go_ret
      exact ⟨y, k, d, l, rfl, by have := HL.out; omega, HZ.out, HI.out, HB.out.trans (below_grownBy HG.out HB.out.size (Nat.le_refl _))⟩
theorem drawPathParts_any (x : Option Addr) (n cap : Nat) (w : World) (h : Bytes w.heap.size w x n) (hn : n ≤ cap) (hc : cap ≤ maxLen) :
    Calls Tryd.prog 14 #[.slice x n cap] w (StrOut (paths1 ++ paths2) w) := by
  go_enter Tryd.func14, Tryd.ntmps14
  go_wp2_with fail
  refine (open_any x n cap w h hn hc).mono ?_
  rintro e w1 ⟨rfl, hr, hb⟩
  have HR := Lib.hid hr; have HB := Lib.hid hb; clear hr hb
  go_wp2_with fail
  refine (l20Path_any w.heap.size w.heap.size _ _ _ HR.out (by omega) (by omega)).mono ?_
  rintro e w2 ⟨s, rfl, hs, _, hr, hg⟩
  have HS := Lib.hid hs; have HB2 := Lib.hid (HB.out.trans (below_grownBy hg HB.out.size (Nat.le_refl _))); clear hr hg hs
  go_wp2_with fail
  go_ret
  exact ⟨s, rfl, HS.out, HB2.out⟩
def TwoPaths (w : World) (e : Ending) (w' : World) : Prop := ∃ s t : ByteArray, e = .returned (.tuple #[.string s, .string t]) ∧ s ∈ paths1 ++ paths2 ∧ t ∈ paths1 ++ paths2 ∧ Below w.heap.size w w'
theorem drawPathBelow_any (x : Option Addr) (n cap : Nat) (w : World) (h : Bytes w.heap.size w x n) (hn : n ≤ cap) (hc : cap ≤ maxLen) :
    Calls Tryd.prog 16 #[.slice x n cap] w (TwoPaths w) := by
  go_enter Tryd.func16, Tryd.ntmps16
  go_wp2_with fail
  refine (open_any x n cap w h hn hc).mono ?_
  rintro e w1 ⟨rfl, hr, hb⟩
  have HR := Lib.hid hr; have HB := Lib.hid hb; clear hr hb
  go_wp2_with fail
  refine (l20Path_any w.heap.size w.heap.size _ _ _ HR.out (by omega) (by omega)).mono ?_
  rintro e w2 ⟨s, rfl, hs, _, hr, hg⟩
  have HS := Lib.hid hs; have HR2 := Lib.hid hr; have HB2 := Lib.hid (HB.out.trans (below_grownBy hg HB.out.size (Nat.le_refl _))); clear hr hg hs
  go_wp2_with fail
  refine (l20Path_any w.heap.size w.heap.size _ _ _ HR2.out (by omega) (by omega)).mono ?_
  rintro e w3 ⟨t, rfl, ht, _, hr, hg⟩
  have HT := Lib.hid ht; have HB3 := Lib.hid (HB2.out.trans (below_grownBy hg HB2.out.size (Nat.le_refl _))); clear hr hg ht
  go_wp2_with fail
  go_ret2
  exact ⟨s, t, rfl, HS.out, HT.out, HB3.out⟩
end Go.Proofs.YtbghefphhpfcgaaDoor
