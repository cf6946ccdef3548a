/-
  Draws of chapter 6: entries, folders' texts.
-/
import Derived.Test.YtmjhhjnolelheaaFold3
import Derived.Test.YtmjhhjnolelheaaPrints
import Derived.Test.YtmjhhjnolelheaaDraw0
import Derived.Test.YtmjhhjnolelheaaChunks3
namespace Go.Proofs.Ytmjhhjnolelheaa
open Go.RowKit
set_option linter.unusedVariables false
theorem words_size : ∀ s ∈ words1 ++ words2, s.size ≤ 9 := by decide +kernel
/-- Names of at most nine bytes. -/
def Nines (l : List Ent) : Prop := ∀ k, (nthE l k).1.size ≤ 9
theorem nines_nil : Nines [] := fun k => by simp [nthE]
theorem nines_put {l : List Ent} {p : Ent} (h : Nines l) (hp : p.1.size ≤ 9) : Nines (putE l p).1 := by
  cases hs : entsB l
  · rw [putE_bad hs]; exact nines_nil
  · cases h' : entsB (putInE l p)
    · rw [putE_no hs h']; exact h
    · rw [putE_yes hs h']; exact put_sizes rfl h hp
theorem nines_snoc {l : List Ent} {p : Ent} (h : Nines l) (hp : p.1.size ≤ 9) : Nines (l ++ [p]) :=
  nthE_all.2 fun q hq => by
    rcases List.mem_append.1 hq with h1 | h1
    · exact nthE_all.1 h q h1
    · rw [List.mem_singleton] at h1; subst h1; exact hp
def wrongE : List Ent := [(⟨#[]⟩, 0), (⟨#[65]⟩, 0), (⟨#[122]⟩, -1), (⟨#[122]⟩, 16777213)]
theorem wrongE_size : ∀ j, j < 4 → (nthE wrongE j).1.size ≤ 9 := by decide +kernel
theorem wrongE_at0 : ∀ j, j < 4 → (wrongE.flatMap enG).toArray[j * 2]? = some (.string (nthE wrongE j).1)
  | 0, _ => rfl
  | 1, _ => rfl
  | 2, _ => rfl
  | 3, _ => rfl
  | j + 4, h => by omega
theorem wrongE_at1 : ∀ j, j < 4 → (wrongE.flatMap enG).toArray[j * 2 + 1]? = some (.int .i64 (nthE wrongE j).2)
  | 0, _ => rfl
  | 1, _ => rfl
  | 2, _ => rfl
  | 3, _ => rfl
  | j + 4, h => by omega
/-- Drawn entries: a row of the call's own; the reader behind it. -/
def EntsR (base B r c : Nat) (w : World) (e : Ending) (w' : World) : Prop := ∃ (v : Value) (l : List Ent), e = .returned v ∧ l.length ≤ 4 ∧ Nines l ∧ OwnE w' base v l ∧ Rd B w' r c ∧ w.grownBy w' (some r)
def EnRel (B r c : Nat) (w0 wr : World) (m : Nat) (v : Value) : Prop := ∃ l : List Ent, l.length ≤ 3 ∧ Nines l ∧ OwnE wr w0.heap.size v l ∧ Rd B wr r (c + 24 - 6 * m) ∧ w0.grownBy wr (some r)
set_option maxHeartbeats 2000000 in
theorem l20Entries_any (B r c : Nat) (n : Int) (w : World) (h : Rd B w r c) (hc : c ≤ 80000) (hn : n ≤ 1000000) :
    Calls Try.prog 34 #[.pointer (some ⟨r, 0, none⟩), .int .i64 n] w (EntsR w.heap.size B r (c + 30) w) := by
  have H := Lib.hid h; clear h
  have hrw := H.out.lt
  have hrB := H.out.le
  have HO : Hid (OwnE (w.alloc (.cells #[] 46)) w.heap.size (.slice (some ⟨w.heap.size, 0, none⟩) 0 0) []) := Lib.hid (OwnL.new enG 46 (size := 2) w)
  go_enter Try.func34, Try.ntmps34
  go_wp2_with fail
  refine (pickN_any 5 B r c _ _ w (rd_alloc H.out _) (World.grownBy_alloc _ _ _) rfl (by decide) (by decide) (by omega)).mono ?_
  rintro e w1 ⟨k0, rfl, j0, hr, hg0, hg⟩
  have HS : Hid (EnRel B r (c + 1) w w1 k0 (.slice (some ⟨w.heap.size, 0, none⟩) 0 0)) := Lib.hid ⟨[], by simp, nines_nil, own_keptL HO.out hg0 hrw, hr.more (by omega), hg⟩
  clear hr hg hg0 HO
  go_wp2
  go_loopw [5, 6, 7, 8] (fun v i a b wr => ∃ m : Nat, i = .int .i64 m ∧ m ≤ 4 ∧ EnRel B r (c + 1) w wr m v) (fun _ i _ _ _ => (intOf i).toNat)
  case atStart => exact ⟨k0, rfl, by omega, HS.out⟩
  case round =>
    obtain ⟨m, rfl, hm, hp⟩ := hrel
    obtain ⟨l, hl3, hz9, ho, hr, hg⟩ := hp
    obtain ⟨x, k, d, rfl, hi⟩ := ho.lst
    clear hi
    have HL3 := Lib.hid hl3; have HZ := Lib.hid hz9; have HO := Lib.hid ho; have HR := Lib.hid hr; have HG := Lib.hid hg
    clear hl3 hz9 ho hr hg HS
    by_cases h0 : 0 < m
    · obtain ⟨m, rfl⟩ : ∃ q, m = q + 1 := ⟨m - 1, by omega⟩
      go_wp2_with fail
      refine (l20Word_any B r _ _ _ HR.out (by omega) (by omega)).mono ?_
      rintro e w2 ⟨s, rfl, hs, hr, hg⟩
      have hs9 := words_size s hs
      have HR2 := Lib.hid hr; have HG2 := Lib.hid (grownBy_trans HG.out hg); have HO2 := Lib.hid (own_keptL HO.out hg hrw); clear hr hg hs
      go_wp2_with fail
      refine (l20Print_any B r _ _ _ HR2.out (by omega) (by omega)).mono ?_
      rintro e w3 ⟨p, rfl, hp0, hp1, hr, hg⟩
      have HR3 := Lib.hid hr; have HG3 := Lib.hid (grownBy_trans HG2.out hg); have HO3 := Lib.hid (own_keptL HO2.out hg hrw); clear hr hg
      have hsz := HG3.out.size
      go_wp2_with fail
      refine (specPutEntry_any x k d l (s, p) _ _ HO3.out.lst' (Nat.le_refl _) (fun j => Nat.le_trans (HZ.out j) (by unfold maxLen; omega)) (by unfold maxLen; show s.size ≤ _; omega)).mono ?_
      rintro e w4 ⟨v4, rfl, ho, hb⟩
      have HO4 := Lib.hid (ho.mono hsz); have HR4 := Lib.hid (HR3.out.below hb); have HG4 := Lib.hid (grownBy_join HG3.out hb); clear ho hb
      go_wp2_with fail
      go_roundw
      case rel => exact ⟨m, by go_num, by omega, (putE l (s, p)).1, putE_len _ _, nines_put HZ.out hs9, HO4.out, HR4.out.more (by omega), HG4.out⟩
      case measure => simp [intOf]
    · obtain rfl : m = 0 := by omega
      go_wp2_with fail
      refine (odd_any B r (c + 1 + 24 - 6 * 0) _ _ HR.out (by omega) hn).mono ?_
      rintro e w1 ⟨b, rfl, hb0, hb1, hr, hg⟩
      have HR1 := Lib.hid hr; have HG1 := Lib.hid (grownBy_trans HG.out hg); have HO1 := Lib.hid (own_keptL HO.out hg hrw); clear hr hg hb0 hb1
      cases b
      · go_wp2_with fail
        go_ret
        exact ⟨_, l, rfl, Nat.le_trans HL3.out (by omega), HZ.out, HO1.out, HR1.out.more (by omega), HG1.out⟩
      · have hlt := HR1.out.lt
        go_wp2_with fail
        refine (pickN_any 4 B r _ _ _ w1 (rd_alloc HR1.out _) (World.grownBy_alloc _ _ _) rfl (by decide) (by decide) (by omega)).mono ?_
        rintro e w2 ⟨j, rfl, hj, hr, hg, hg1⟩
        have hcell0 : w2.cell? ⟨w1.heap.size, j * 2, none⟩ = some (.string (nthE wrongE j).1) := hg.cell (a := ⟨w1.heap.size, j * 2, none⟩) (cell_new w1 (wrongE.flatMap enG).toArray 46 (j * 2) _ (wrongE_at0 j hj)) (by simp; omega)
        have hcell1 : w2.cell? ⟨w1.heap.size, j * 2 + 1, none⟩ = some (.int .i64 (nthE wrongE j).2) := hg.cell (a := ⟨w1.heap.size, j * 2 + 1, none⟩) (cell_new w1 (wrongE.flatMap enG).toArray 46 (j * 2 + 1) _ (wrongE_at1 j hj)) (by simp; omega)
        have hq9 := wrongE_size j hj
        obtain ⟨q, hq⟩ : ∃ q, nthE wrongE j = q := ⟨_, rfl⟩
        rw [hq] at hcell0 hcell1 hq9
        clear hq
        have HR2 := Lib.hid hr; have HG2 := Lib.hid (grownBy_trans HG1.out hg1); have HO2 := Lib.hid (own_keptL HO1.out hg1 hrw); clear hr hg hg1
        have hsz := HG2.out.size
        go_wp2_with (at_builtin; refine wpList_app1L eltEn encEn q _ rfl HO2.out (by have := HL3.out; omega) hsz rfl _ _ rfl rfl rfl ?_; intro v' w' hown hgrow; have HW := Lib.hid hown; have HGR := Lib.hid hgrow; clear hown hgrow)
        go_ret
        have hk := fun k hk => own_at (k := k) HO2.out hk
        exact ⟨_, l ++ [q], rfl, by have := HL3.out; simp; omega, nines_snoc HZ.out hq9, HW.out, (HR2.out.grown HGR.out fun k e => by have := hk k e; exact ⟨by omega, by omega⟩).more (by omega), grownBy_into HG2.out HGR.out hk⟩
/-! ### what is drawn, at the laws -/
def EntsOut (w : World) (e : Ending) (w' : World) : Prop := ∃ (x : Option Addr) (n c : Nat) (l : List Ent), e = .returned (.slice x n c) ∧ l.length ≤ 4 ∧ Nines l ∧ Ents w' w'.heap.size x n c l ∧ Below w.heap.size w w'
theorem nines_max {l : List Ent} (h : Nines l) : ∀ k, (nthE l k).1.size ≤ maxLen := fun k => Nat.le_trans (h k) (by unfold maxLen; omega)
theorem text_size6 {s : ByteArray} (h : textB s = true) : s.size ≤ 60 := by
  unfold textB textV at h
  rw [Bool.and_eq_true, decide_eq_true_eq] at h
  have := h.1
  rwa [len_eq] at this
theorem folder_size (l : List Ent) : (folderB l).size ≤ 60 := by
  cases h : entsB l
  · rw [folderB_no h]; simp
  · rw [folderB_yes h]; exact text_size6 (textE_text h)
def foldTexts (s : ByteArray) : List ByteArray := [⟨#[]⟩, ⟨#[102]⟩, ⟨#[100, 97]⟩, ⟨#[100, 97, 61, 55]⟩, ⟨#[100, 97, 61, 59]⟩, ⟨#[100, 61, 55, 59]⟩, ⟨#[100, 98, 61, 55, 59, 97, 61, 55, 59]⟩, ⟨#[100, 97, 61, 55, 59, 97, 61, 56, 59]⟩, ⟨#[100, 97, 61, 48, 55, 59]⟩, ⟨#[100, 65, 61, 55, 59]⟩, s ++ ⟨#[59]⟩, s ++ ⟨#[122]⟩]
theorem foldTexts_size {s : ByteArray} (h : s.size ≤ 60) : ∀ t ∈ foldTexts s, t.size ≤ 61 := by
  intro t ht
  unfold foldTexts at ht
  simp only [List.mem_cons, List.not_mem_nil, or_false] at ht
  rcases ht with rfl | rfl | rfl | rfl | rfl | rfl | rfl | rfl | rfl | rfl | rfl | rfl
  all_goals first | decide | (rw [ByteArray.size_append]; show s.size + 1 ≤ 61; omega)
def TextOut (m : Nat) (w : World) (e : Ending) (w' : World) : Prop := ∃ s : ByteArray, e = .returned (.string s) ∧ s.size ≤ m ∧ Below w.heap.size w w'
def EntsNameOut (w : World) (e : Ending) (w' : World) : Prop := ∃ (x : Option Addr) (n c : Nat) (l : List Ent) (s : ByteArray), e = .returned (.tuple #[.slice x n c, .string s]) ∧ l.length ≤ 4 ∧ Nines l ∧ s.size ≤ 9 ∧ Ents w' w'.heap.size x n c l ∧ Below w.heap.size w w'
theorem grown_set6 (w : World) (a : Addr) (u : Value) : w.grownBy (w.setCell a u) (some a.block) :=
  ⟨rfl, rfl, rfl, by simp [World.setCell], fun k hk hne => Below.heap_setCell _ _ _ _ (by intro e; exact hne (by rw [e]))⟩
def EntsEntOut (w : World) (e : Ending) (w' : World) : Prop := ∃ (x : Option Addr) (n c : Nat) (l : List Ent) (p : Ent), e = .returned (.tuple #[.slice x n c, .agg #[.string p.1, .int .i64 p.2]]) ∧ l.length ≤ 4 ∧ Nines l ∧ p.1.size ≤ 9 ∧ Ents w' w'.heap.size x n c l ∧ Below w.heap.size w w'
end Go.Proofs.Ytmjhhjnolelheaa
