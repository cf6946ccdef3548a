/-
  The walks of chapter 2's laws.
-/
import Derived.Test.YtlmbieaoenpeiaaDraw3
import Derived.Test.YtlmbieaoenpeiaaHelp
namespace Go.Proofs.Ytlmbieaoenpeiaa
open Go.RowKit
set_option linter.unusedVariables false
theorem texts_small : ∀ s ∈ texts1 ++ texts2, s.size ≤ 61 := by decide +kernel
theorem app_size (s : ByteArray) (c : UInt8) : (s ++ ⟨#[c]⟩).size = s.size + 1 := by rw [ByteArray.size_append]; rfl
theorem app_list (s : ByteArray) (c : UInt8) : (s ++ ⟨#[c]⟩).data.toList = s.data.toList ++ [c] := by rw [ByteArray.data_append, Array.toList_append]
theorem textB_bd {s : ByteArray} (h : textB s = true) : s.size ≤ 60 := by
  rcases Nat.lt_or_ge 60 s.size with h1 | h1
  · rw [textV_long s h1] at h; cases h
  · exact h1
theorem textB_app {s : ByteArray} (c : UInt8) (h : textB s = true) (hl : s.size < 60) (hc : txt c = true) : textB (s ++ ⟨#[c]⟩) = true := by
  unfold textB textV at h ⊢
  rw [app_list, List.length_append, List.all_append]
  simp only [Bool.and_eq_true, decide_eq_true_eq] at h
  simp only [h.2, List.all_cons, hc, List.all_nil, Bool.and_true, List.length_cons, List.length_nil, len_eq, decide_eq_true_eq]
  omega
theorem printB_app {s : ByteArray} (c : UInt8) (h : textB s = true) (hl : s.size < 60) (hc : txt c = true) : printB (s ++ ⟨#[c]⟩) = stepB (printB s) c := by
  unfold printB; rw [textB_app c h hl hc, h, if_pos rfl, if_pos rfl, app_list, sumB_snoc]
theorem printB_text {s : ByteArray} (h : 0 ≤ printB s) : textB s = true := by
  unfold printB at h; split at h
  · assumption
  · omega
theorem printB_ab {s : ByteArray} (h : 0 ≤ printB s) (hl : s.size ≠ 60) : printB (s ++ ⟨#[97]⟩) ≠ printB (s ++ ⟨#[98]⟩) := by
  have ht := printB_text h
  have hb := textB_bd ht
  have h2 := (printB_bd s).2
  rw [printB_app _ ht (by omega) (by decide), printB_app _ ht (by omega) (by decide)]
  unfold stepB
  have e1 : (((97 : UInt8).toNat : Nat) : Int) = 97 := rfl
  have e2 : (((98 : UInt8).toNat : Nat) : Int) = 98 := rfl
  rw [e1, e2]; omega
theorem fnPrintOf_any (x : Option Addr) (n cap : Nat) (w : World) (h : Bytes w.heap.size w x n) (hn : n ≤ cap) (hc : cap ≤ maxLen) :
    Calls Try.prog 3 #[.slice x n cap] w fun e w' => e = .returned (.bool true) ∧ Below w.heap.size w w' := by
  by_cases hlong : 1048576 < (n : Int)
  · go_enter Try.func3, Try.ntmps3
    go_wp2
    go_ret
    exact ⟨rfl, Below.refl _ _⟩
  · have HB0 := Lib.hid h
    have HC := Lib.hid hc
    have HL := Lib.hid hn
    clear h hc hn
    go_enter Try.func3, Try.ntmps3
    go_wp2_with (go_at_call 9; refine (drawPrintOf_any x n cap w HB0.out HL.out HC.out).mono ?_; rintro e w1 ⟨s, rfl, hs, hb⟩; have HS := Lib.hid hs; have HB := Lib.hid hb; clear hs hb)
    have hz := texts_small s HS.out
    have m1 : s.size ≤ maxLen := by unfold maxLen; omega
    have m2 : (s ++ ⟨#[97]⟩).size ≤ maxLen := by rw [app_size]; unfold maxLen; omega
    have m3 : (s ++ ⟨#[98]⟩).size ≤ maxLen := by rw [app_size]; unfold maxLen; omega
    have hbd := printB_bd s
    obtain ⟨hbd0, hbd1⟩ := hbd
    by_cases hneg : printB s < 0
    · go_wp2_with (first
        | (go_at_call 12; refine (alive_any _).mono ?_; rintro e w' ⟨rfl, rfl⟩)
        | (go_at_call 10; refine (printOf_any _ _ (by assumption)).mono ?_; rintro e w' ⟨rfl, rfl⟩)
        | (go_at_call 11; refine (specPrintOf_any _ _ (by assumption)).mono ?_; rintro e w' ⟨rfl, rfl⟩))
      go_ret
      exact ⟨rfl, HB.out⟩
    · by_cases h60 : s.size = 60
      · have h60' : (s.size : Int) = 60 := by omega
        go_wp2_with (first
          | (go_at_call 12; refine (alive_any _).mono ?_; rintro e w' ⟨rfl, rfl⟩)
          | (go_at_call 10; refine (printOf_any _ _ (by assumption)).mono ?_; rintro e w' ⟨rfl, rfl⟩)
          | (go_at_call 11; refine (specPrintOf_any _ _ (by assumption)).mono ?_; rintro e w' ⟨rfl, rfl⟩))
        go_ret
        exact ⟨rfl, HB.out⟩
      · have h60' : ((s.size : Int) == 60) = false := by simp; omega
        have hab := printB_ab (by omega) h60
        have HAB := Lib.hid hab
        go_wp2_with (first
          | (go_at_call 10; refine (printOf_any _ _ (by assumption)).mono ?_; rintro e w' ⟨rfl, rfl⟩)
          | (go_at_call 11; refine (specPrintOf_any _ _ (by assumption)).mono ?_; rintro e w' ⟨rfl, rfl⟩))
        go_ret
        exact ⟨ret_bool (by simpa using HAB.out), HB.out⟩
theorem pairB_some {a b : Int} (h : 0 ≤ pairB a b) : isPr a = true ∧ isPr b = true := by
  cases ha : isPr a
  · rw [pairB_no1 b ha] at h; omega
  · cases hb : isPr b
    · rw [pairB_no2 a hb] at h; omega
    · exact ⟨rfl, rfl⟩
theorem pairB_next {a b : Int} (h : 0 ≤ pairB a b) : pairB ((a + 1) % 16777213) b ≠ pairB a b ∧ pairB a ((b + 1) % 16777213) ≠ pairB a b := by
  obtain ⟨ha, hb⟩ := pairB_some h
  obtain ⟨a0, a1⟩ := isPr_bd ha
  obtain ⟨b0, b1⟩ := isPr_bd hb
  rw [pairB_yes ha hb, pairB_yes (isPr_yes (by omega) (by omega)) hb, pairB_yes ha (isPr_yes (by omega) (by omega))]
  omega
theorem fnPrintPair_any (x : Option Addr) (n cap : Nat) (w : World) (h : Bytes w.heap.size w x n) (hn : n ≤ cap) (hc : cap ≤ maxLen) :
    Calls Try.prog 4 #[.slice x n cap] w fun e w' => e = .returned (.bool true) ∧ Below w.heap.size w w' := by
  by_cases hlong : 1048576 < (n : Int)
  · go_enter Try.func4, Try.ntmps4
    go_wp2
    go_ret
    exact ⟨rfl, Below.refl _ _⟩
  · have HB0 := Lib.hid h
    have HC := Lib.hid hc
    have HL := Lib.hid hn
    clear h hc hn
    go_enter Try.func4, Try.ntmps4
    go_wp2_with (go_at_call 13; refine (drawPrintPair_any x n cap w HB0.out HL.out HC.out).mono ?_; rintro e w1 ⟨a, b, rfl, ⟨ha0, ha1⟩, ⟨hb0, hb1⟩, hb⟩; have HB := Lib.hid hb; clear hb)
    have hbd := pairB_bd a b
    obtain ⟨hbd0, hbd1⟩ := hbd
    by_cases hneg : pairB a b < 0
    · have hm1 : pairB a b = -1 := by omega
      go_wp2_with (first
        | (go_at_call 12; refine (alive_any _).mono ?_; rintro e w' ⟨rfl, rfl⟩)
        | (go_at_call 14; refine (printPair_any _ _ _).mono ?_; rintro e w' ⟨rfl, rfl⟩)
        | (go_at_call 15; refine (specPrintPair_any _ _ _).mono ?_; rintro e w' ⟨rfl, rfl⟩))
      go_ret
      exact ⟨rfl, HB.out⟩
    · obtain ⟨hn1, hn2⟩ := pairB_next (a := a) (b := b) (by omega)
      go_wp2_with (first
        | (go_at_call 14; refine (printPair_any _ _ _).mono ?_; rintro e w' ⟨rfl, rfl⟩)
        | (go_at_call 15; refine (specPrintPair_any _ _ _).mono ?_; rintro e w' ⟨rfl, rfl⟩))
      go_ret
      exact ⟨ret_bool (by simp [hn1, hn2]), HB.out⟩
theorem listB_snoc {l : List Int} (u : Int) (h : l.length ≤ 19) : listB (l ++ [u]) = pairB (listB l) u := by
  unfold listB
  rw [if_pos (by simp; omega), if_pos (by omega), List.foldl_append]; rfl
theorem listB_len {l : List Int} (h : 0 ≤ listB l) : l.length ≤ 20 := by
  unfold listB at h; split at h
  · assumption
  · omega
theorem fnPrintList_any (x : Option Addr) (n cap : Nat) (w : World) (h : Bytes w.heap.size w x n) (hn : n ≤ cap) (hc : cap ≤ maxLen) :
    Calls Try.prog 5 #[.slice x n cap] w fun e w' => e = .returned (.bool true) ∧ Below w.heap.size w w' := by
  by_cases hlong : 1048576 < (n : Int)
  · go_enter Try.func5, Try.ntmps5
    go_wp2
    go_ret
    exact ⟨rfl, Below.refl _ _⟩
  · have HB0 := Lib.hid h
    have HC := Lib.hid hc
    have HL := Lib.hid hn
    clear h hc hn
    go_enter Try.func5, Try.ntmps5
    go_wp2_with (go_at_call 16; refine (drawPrintList_any x n cap w HB0.out HL.out HC.out).mono ?_; rintro e w1 ⟨v, l, rfl, hl, ho, hb⟩; obtain ⟨y, m, c, rfl, hi⟩ := ho.ints; have HB := Lib.hid hb; clear hb ho)
    have hbd := listB_bd l
    obtain ⟨hbd0, hbd1⟩ := hbd
    have HLEN := Lib.hid hi.len
    have hm21 : m ≤ 21 := by have := HLEN.out; omega
    by_cases hneg : listB l < 0
    · go_wp2_with (first
        | (go_at_call 12; refine (alive_any _).mono ?_; rintro e w' ⟨rfl, rfl⟩)
        | (go_at_call 17; refine (printList_any _ _ _ _ _ _ hi).mono ?_; rintro e w' ⟨rfl, rfl⟩)
        | (go_at_call 18; refine (specPrintList_any _ _ _ _ _ _ hi).mono ?_; rintro e w' ⟨rfl, rfl⟩))
      go_ret
      exact ⟨rfl, HB.out⟩
    · by_cases h20 : (m : Int) = 20
      · go_wp2_with (first
          | (go_at_call 12; refine (alive_any _).mono ?_; rintro e w' ⟨rfl, rfl⟩)
          | (go_at_call 17; refine (printList_any _ _ _ _ _ _ hi).mono ?_; rintro e w' ⟨rfl, rfl⟩)
          | (go_at_call 18; refine (specPrintList_any _ _ _ _ _ _ hi).mono ?_; rintro e w' ⟨rfl, rfl⟩))
        go_ret
        exact ⟨rfl, HB.out⟩
      · have h20' : ((m : Int) == 20) = false := by simpa using h20
        have HX := Lib.hid (listB_snoc (l := l) 7 (by have := listB_len (l := l) (by omega); have := HLEN.out; omega))
        have hs1 := HB.out.size
        have HO := Lib.hid (own_newI w1)
        go_wp2_with (first
          | (go_at_call 17; ((with_reducible refine (printList_any _ _ _ _ _ _ hi).mono ?_); rintro e w' ⟨rfl, rfl⟩))
          | (go_at_call 18; refine (specPrintList_any _ _ _ _ _ _ hi).mono ?_; rintro e w' ⟨rfl, rfl⟩)
          | (at_builtin; refine wpList_appNI HO.out (hi.alloc (Nat.le_refl _) _) (by decide) (by omega) (by simp) rfl _ _ rfl rfl rfl ?_; intro v2 w2 hown hgrow; have HW := Lib.hid hown; have hs2 := Nat.le_trans (show w1.heap.size ≤ (w1.alloc (.cells #[] 3)).heap.size by simp) hgrow.size; have HB2 := Lib.hid (below_own (HB.out.alloc hs1 _) hgrow (by simp; omega) (fun k hk => Nat.le_trans hs1 (HO.out.at k hk))); clear hown hgrow)
          | (at_builtin; refine wpList_app1I 7 HW.out (by simp; omega) hs2 rfl _ _ rfl rfl rfl ?_; intro v3 w3 hown hgrow; have HB3 := Lib.hid (below_own HB2.out hgrow (by omega) (fun k hk => Nat.le_trans hs1 (HW.out.at k hk))); obtain ⟨y3, m3, c3, rfl, hi3⟩ := hown.ints; clear hown hgrow)
          | (go_at_call 17; ((with_reducible refine (printList_any _ _ _ _ _ _ hi3).mono ?_); rintro e w' ⟨rfl, rfl⟩))
          | (go_at_call 14; refine (printPair_any _ _ _).mono ?_; rintro e w' ⟨rfl, rfl⟩))
        go_ret
        exact ⟨ret_bool (by simpa using HX.out), HB3.out⟩
end Go.Proofs.Ytlmbieaoenpeiaa
