/-
  Chapter 5: contracts of the levels of a tree.
-/
import Derived.Test.YtlbebbkkpjgboaaPlain5
import Derived.Test.YtlbebbkkpjgboaaLst
import Derived.Test.YtlbebbkkpjgboaaHelp
import Derived.Test.YtlbebbkkpjgboaaStep
import Derived.IntWalk
namespace Go.Proofs.Ytlbebbkkpjgboaa
open Go.RowKit
set_option linter.unusedVariables false
theorem still_of {f : FuncId} {args : Array Value} {v : Value} {w : World} (h : Calls Try.prog f args w fun e w' => e = .returned v ∧ w = w') : Calls Try.prog f args w fun e w' => e = .returned v ∧ w' = w := h.mono fun _ _ k => ⟨k.1, k.2.symm⟩
theorem Ints.drew {w : World} {B : Nat} {x : Option Addr} {n cap : Nat} {l : List Int} (h : Ints w B x n cap l) : Ints w.drew B x n cap l := h.keep fun _ _ => rfl
theorem mate_xor : ∀ k : Fin 17, bits .xor .i64 ((k.val : Nat) : Int) 1 = ((mateN k.val : Nat) : Int) := by decide +kernel
theorem mate_bits {n : Nat} (h : n ≤ 16) : bits .xor .i64 (n : Int) 1 = (mateN n : Int) := mate_xor ⟨n, by omega⟩
def leftB (n m : Nat) : Bool := decide (mateN n = m)
theorem partnerOf_any (n : Nat) (w : World) (h : n ≤ 16) : Calls Try.prog 62 #[.int .i64 (n : Int)] w fun e w' => e = .returned (.int .i64 (mateN n : Int)) ∧ w = w' := by
  have HX := Lib.hid (mate_bits h)
  go_enter Try.func62, Try.ntmps62
  go_wp2
  go_ret
  exact ⟨ret_int HX.out, rfl⟩
theorem isLeftOver_any (n m : Nat) (w : World) (h : n ≤ 16) : Calls Try.prog 61 #[.int .i64 (n : Int), .int .i64 (m : Int)] w fun e w' => e = .returned (.bool (leftB n m)) ∧ w = w' := by
  go_enter Try.func61, Try.ntmps61
  go_wp2_with (go_at_call 62; refine (partnerOf_any _ _ h).mono ?_; rintro e w' ⟨rfl, rfl⟩)
  go_ret
  exact ⟨ret_bool (by unfold leftB; rw [Bool.eq_iff_iff]; simp; try omega), rfl⟩
theorem mate_lt {n m : Nat} (h : n < m) (hl : leftB n m = false) : mateN n < m := by
  unfold leftB at hl
  simp only [decide_eq_false_iff_not] at hl
  unfold mateN at hl ⊢
  split <;> simp_all <;> omega
theorem partB_yes {l : List Int} {n m : Nat} (hm : l.length = m) (hl : leftB n m = true) : partB l n = -1 := by
  unfold leftB at hl; unfold partB; rw [if_pos (by rw [hm]; simpa using hl)]
theorem partB_no {l : List Int} {n m : Nat} (hm : l.length = m) (hl : leftB n m = false) : partB l n = nthI l (mateN n) := by
  unfold leftB at hl; unfold partB; rw [if_neg (by rw [hm]; simpa using hl)]
theorem partnerPrint_any (x : Option Addr) (m cap : Nat) (l : List Int) (n : Nat) (B : Nat) (w : World) (h : Ints w B x m cap l) (hn : n < m) (hm : m ≤ 16) :
    Calls Try.prog 45 #[.slice x m cap, .int .i64 (n : Int)] w fun e w' => e = .returned (.int .i64 (partB l n)) ∧ w = w' := by
  have HL := Lib.hid h.len
  have hmx := h.max
  have hle := h.le
  unfold maxLen at hmx
  have hn16 : n ≤ 16 := by omega
  cases hl : leftB n m
  · have hlt := mate_lt hn hl
    have HP := Lib.hid (partB_no HL.out hl)
    obtain ⟨b, off, rfl, hb, hcell⟩ := h.at hlt
    go_enter Try.func45, Try.ntmps45
    go_wp2_with (first
      | (go_at_call 61; refine (isLeftOver_any _ _ _ hn16).mono ?_; rintro e w' ⟨rfl, rfl⟩)
      | (go_at_call 62; refine (partnerOf_any _ _ hn16).mono ?_; rintro e w' ⟨rfl, rfl⟩))
    go_ret
    exact ⟨ret_int HP.out.symm, rfl⟩
  · have HP := Lib.hid (partB_yes HL.out hl)
    go_enter Try.func45, Try.ntmps45
    go_wp2_with (go_at_call 61; refine (isLeftOver_any _ _ _ hn16).mono ?_; rintro e w' ⟨rfl, rfl⟩)
    go_ret
    exact ⟨ret_int HP.out.symm, rfl⟩
theorem printAbove_any (p : Int) (n m : Nat) (o : Int) (w : World) (hn : n ≤ 16) :
    Calls Try.prog 48 #[.int .i64 p, .int .i64 (n : Int), .int .i64 (m : Int), .int .i64 o] w fun e w' => e = .returned (.int .i64 (aboveB p n m o)) ∧ w = w' := by
  cases hl : leftB n m
  · have hl' : ¬ mateN n = m := by unfold leftB at hl; simpa using hl
    by_cases h2 : n % 2 = 0
    · have HP := Lib.hid (show aboveB p n m o = pairB p o by unfold aboveB; rw [if_neg hl', if_pos h2])
      have h2' : ((n : Int) % 2 == 0) = true := by simp; omega
      clear h2 hl'
      go_enter Try.func48, Try.ntmps48
      go_wp2_with (first
        | (go_at_call 61; refine (isLeftOver_any _ _ _ hn).mono ?_; rintro e w' ⟨rfl, rfl⟩)
        | (go_at_call 63; refine (printPair_any _ _ _).mono ?_; rintro e w' ⟨rfl, rfl⟩))
      go_ret
      exact ⟨ret_int HP.out.symm, rfl⟩
    · have HP := Lib.hid (show aboveB p n m o = pairB o p by unfold aboveB; rw [if_neg hl', if_neg h2])
      have h2' : ((n : Int) % 2 == 0) = false := by simp; omega
      clear h2 hl'
      go_enter Try.func48, Try.ntmps48
      go_wp2_with (first
        | (go_at_call 61; refine (isLeftOver_any _ _ _ hn).mono ?_; rintro e w' ⟨rfl, rfl⟩)
        | (go_at_call 63; refine (printPair_any _ _ _).mono ?_; rintro e w' ⟨rfl, rfl⟩))
      go_ret
      exact ⟨ret_int HP.out.symm, rfl⟩
  · have hl' : mateN n = m := by unfold leftB at hl; simpa using hl
    by_cases h2 : o = -1
    · have HP := Lib.hid (show aboveB p n m o = p by unfold aboveB; rw [if_pos hl', if_pos h2])
      have h2' : (o != -1) = false := by simp [h2]
      clear h2 hl'
      go_enter Try.func48, Try.ntmps48
      go_wp2_with (go_at_call 61; refine (isLeftOver_any _ _ _ hn).mono ?_; rintro e w' ⟨rfl, rfl⟩)
      go_ret
      exact ⟨ret_int HP.out.symm, rfl⟩
    · have HP := Lib.hid (show aboveB p n m o = -1 by unfold aboveB; rw [if_pos hl', if_neg h2])
      have h2' : (o != -1) = true := by simp [h2]
      clear h2 hl'
      go_enter Try.func48, Try.ntmps48
      go_wp2_with (go_at_call 61; refine (isLeftOver_any _ _ _ hn).mono ?_; rintro e w' ⟨rfl, rfl⟩)
      go_ret
      exact ⟨ret_int HP.out.symm, rfl⟩
theorem manyAbove_any (m : Nat) (w : World) (hm : m ≤ 16) : Calls Try.prog 49 #[.int .i64 (m : Int)] w fun e w' => e = .returned (.int .i64 (((m + 1) / 2 : Nat) : Int)) ∧ w = w' := by
  go_enter Try.func49, Try.ntmps49
  go_wp2
  go_ret
  exact ⟨ret_int (by omega), rfl⟩
theorem manyAbove_q (m q : Nat) (w : World) (hm : m ≤ 16) (hq : Hid (q = (m + 1) / 2)) : Calls Try.prog 49 #[.int .i64 (m : Int)] w fun e w' => e = .returned (.int .i64 (q : Int)) ∧ w = w' := by
  rw [hq.out]; exact manyAbove_any m w hm
theorem up_above {l : List Int} {j : Nat} (h : 2 * j < l.length) : aboveB (nthI l (2 * j)) (2 * j) l.length (partB l (2 * j)) = upAt l j := by
  have h1 : mateN (2 * j) = 2 * j + 1 := by unfold mateN; rw [if_pos (by omega)]
  unfold aboveB partB upAt
  rw [h1]
  by_cases h2 : 2 * j + 1 < l.length
  · have h3 : ¬ 2 * j + 1 = l.length := by omega
    have h4 : 2 * j % 2 = 0 := by omega
    simp only [if_neg h3, if_pos h2, if_pos h4]
  · have h3 : 2 * j + 1 = l.length := by omega
    simp only [if_pos h3, if_neg h2]
    simp
theorem run_mk0 {t e : TypeId} {size : Nat} {z : Value} (E : Elt t e size z) (n : Nat) (hn : n ≤ 2000000) (w : World) :
    (Instr.makeSlice t (.int .i64 0) (.int .i64 (n : Int))).run Try.prog w = .ok (.slice (some ⟨w.heap.size, 0, none⟩) 0 n) (w.alloc (.cells (madeCells z.cells (n * size)) e)) := by
  obtain ⟨i, hi, hz, hsz, hby⟩ := E.info
  have hb : (i.bytes : Int) * (n : Int) ≤ 281474976710656 := by
    have h1 : i.bytes * n ≤ 1000 * 2000000 := Nat.mul_le_mul hby hn
    have h2 : ((i.bytes * n : Nat) : Int) = (i.bytes : Int) * (n : Int) := Int.natCast_mul _ _
    omega
  have hr := run_make (P := Try.prog) w t e i z E.und hi hz .i64 .i64 0 n (by omega) (by omega) hb (by omega)
  simp only [Int.toNat_natCast, hsz] at hr
  exact hr
theorem own_mk0 {t e : TypeId} {size : Nat} {z : Value} (E : Elt t e size z) (w : World) (n : Nat) (hn : n ≤ 2000000) {base : Nat} (hb : base ≤ w.heap.size) :
    (w.alloc (.cells (madeCells z.cells (n * size)) e)).ownsRow base e size (.slice (some ⟨w.heap.size, 0, none⟩) 0 n) 0 [] := by
  refine ⟨by simp, .inr ⟨w.heap.size, n, madeCells z.cells (n * size), rfl, hb, heap_alloc_new _ _, Nat.zero_le _, by unfold maxLen; omega, size_madeCells _ _, by simp⟩⟩
set_option maxHeartbeats 400000 in
set_option maxRecDepth 100000 in
theorem levelAbove_any (x : Option Addr) (m cap : Nat) (l : List Int) (w : World) (h : Ints w w.heap.size x m cap l) (hm : m ≤ 16) :
    Calls Try.prog 42 #[.slice x m cap] w (NewI (upB l) w) := by
  have HL := Lib.hid h.len
  have hmx := h.max
  have hle := h.le
  unfold maxLen at hmx
  obtain ⟨q, hq⟩ : ∃ q, q = (m + 1) / 2 := ⟨_, rfl⟩
  have hq9 : q ≤ 9 := by omega
  have HQ := Lib.hid hq; clear hq
  have hmk := run_mk0 eltInt q (by omega)
  have HO := Lib.hid (own_mk0 eltInt w q (by omega) (Nat.le_refl _))
  go_enter Try.func42, Try.ntmps42
  go_wp2_with (go_at_call 49; refine (manyAbove_q _ q _ hm HQ).mono ?_; rintro e w' ⟨rfl, rfl⟩)
  clear hmk
  go_loopw [3, 4] (fun v i wr => ∃ j k : Nat, k = 2 * j ∧ k ≤ m + 1 ∧ i = .int .i64 k ∧ OwnI wr w.heap.size v ((upB l).take j) ∧ Below w.heap.size w wr) (fun _ i _ => m + 1 - (intOf i).toNat)
  case atStart => exact ⟨0, 0, rfl, by omega, rfl, by have := HO.out; rw [Nat.mul_one] at this; exact this, (Below.refl _ _).alloc (Nat.le_refl _) _⟩
  case round =>
    obtain ⟨j, k, hk, hkm, rfl, ho, hb⟩ := hrel
    have HK := Lib.hid hk; have HW := Lib.hid ho; have HB := Lib.hid hb; clear hk ho hb
    have hsz := HB.out.size
    have hI := h.below HB.out (Nat.le_refl _)
    have hct : ((upB l).take j).length ≤ 1000 := by rw [List.length_take, upB_len, HL.out]; omega
    by_cases hlt : k < m
    · obtain ⟨b, off, rfl, hb, hcell⟩ := hI.at hlt
      have hk16 : k ≤ 16 := by omega
      have HV := Lib.hid (show aboveB (nthI l k) k m (partB l k) = upAt l j by have := HL.out; have := HK.out; subst this; rw [← HL.out]; exact up_above (by omega))
      have HT := Lib.hid (upB_take (l := l) (j := j) (by rw [HL.out]; have := HK.out; omega))
      go_wp2
      have HW2 := Lib.hid (show OwnI (wr.drew.alloc (.cells #[.int .i64 (upAt l j)] 3)) w.heap.size _ _ from World.ownsRow.alloc (own_drew HW.out) _)
      have HB2 := Lib.hid ((below_drewN HB.out 1).alloc hsz (.cells #[.int .i64 (upAt l j)] 3))
      have hsz2 := HB2.out.size
      have hv := HV.out
      go_region_law (first
        | (go_simp; go_at_call 45; refine (partnerPrint_any _ _ _ l k _ _ hI.drew hlt hm).mono ?_; rintro e w' ⟨rfl, rfl⟩)
        | (go_simp; go_at_call 48; refine (printAbove_any _ k m _ _ hk16).mono ?_; rintro e w' ⟨rfl, rfl⟩; rw [hv])
        | (refine step_appNI (m := 1) (c := 1) HW2.out (Ints.lit wr.drew (upAt l j)) ?_ ?_ hsz2 rfl (.tmp 15) (.tmp 27) rfl rfl rfl ?_; (focus omega); (focus omega); intro v' w' hown hgrow; have HN := Lib.hid hown; have HG := Lib.hid hgrow; clear hown hgrow))
      all_goals
        clear hv
        go_wp2
        go_roundw
        case rel => exact ⟨j + 1, k + 2, by have := HK.out; omega, by omega, by go_num, by rw [HT.out]; exact HN.out, HB2.out.grown HG.out hsz2 HW.out.at⟩
        case measure => simp [intOf]; omega
    · have HE := Lib.hid (upB_end (l := l) (j := j) (by rw [HL.out]; have := HK.out; omega))
      go_wp2
      go_ret
      exact ⟨_, rfl, by rw [← HE.out]; exact HW.out, HB.out⟩
set_option maxHeartbeats 400000 in
set_option maxRecDepth 100000 in
theorem l5Up_any (x : Option Addr) (m cap : Nat) (l : List Int) (w : World) (h : Ints w w.heap.size x m cap l) (hm : m ≤ 1000000) :
    Calls Try.prog 44 #[.slice x m cap] w (NewI (upB l) w) := by
  have HL := Lib.hid h.len
  have hmx := h.max
  have hle := h.le
  unfold maxLen at hmx
  have HO := Lib.hid (own_newI w)
  go_enter Try.func44, Try.ntmps44
  go_wp2
  go_loopw [3, 4] (fun v i wr => ∃ j k : Nat, k = 2 * j ∧ k ≤ m + 1 ∧ i = .int .i64 k ∧ OwnI wr w.heap.size v ((upB l).take j) ∧ Below w.heap.size w wr) (fun _ i _ => m + 1 - (intOf i).toNat)
  case atStart => exact ⟨0, 0, rfl, by omega, rfl, HO.out, (Below.refl _ _).alloc (Nat.le_refl _) _⟩
  case round =>
    obtain ⟨j, k, hk, hkm, rfl, ho, hb⟩ := hrel
    have HK := Lib.hid hk; have HW := Lib.hid ho; have HB := Lib.hid hb; clear hk ho hb
    have hsz := HB.out.size
    have hI := h.below HB.out (Nat.le_refl _)
    have hct : ((upB l).take j).length ≤ 1000001 := by rw [List.length_take, upB_len, HL.out]; omega
    by_cases hlt : k < m
    · have HT := Lib.hid (upB_take (l := l) (j := j) (by rw [HL.out]; have := HK.out; omega))
      by_cases hlt2 : k + 1 < m
      · obtain ⟨b, off, rfl, hb, hcell⟩ := hI.at hlt
        obtain ⟨b', off', e', hb', hcell'⟩ := hI.at hlt2
        simp only [Option.some.injEq, Addr.mk.injEq, and_true] at e'
        obtain ⟨rfl, rfl⟩ := e'
        have hv := (show pairB (nthI l k) (nthI l (k + 1)) = upAt l j by unfold upAt; have := HK.out; subst this; rw [if_pos (by rw [HL.out]; omega)])
        have HW2 := Lib.hid (show OwnI (wr.drew.alloc (.cells #[.int .i64 (upAt l j)] 3)) w.heap.size _ _ from World.ownsRow.alloc (own_drew HW.out) _)
        have HB2 := Lib.hid ((below_drewN HB.out 1).alloc hsz (.cells #[.int .i64 (upAt l j)] 3))
        have hsz2 := HB2.out.size
        have HV := Lib.hid hv; clear hv
        go_wp2
        have hv := HV.out
        have hs0 : (0 : Int) ≤ (k : Int) + 1 := by omega
        have hs3 : (k : Int) + 1 < (m : Int) := by omega
        have hs1 : IntKind.i64.wrap ((k : Int) + 1) = (k : Int) + 1 := IntWalk.i64_in _ (by omega)
        have hs2 : ((k : Int) + 1).toNat = k + 1 := by omega
        go_region_law (first
          | (go_simp; go_at_call 50; refine (specPrintPair_any _ _ _).mono ?_; rintro e w' ⟨rfl, rfl⟩; rw [hv])
          | (refine step_appNI (m := 1) (c := 1) HW2.out (Ints.lit wr.drew (upAt l j)) ?_ ?_ hsz2 rfl (.tmp 17) (.tmp 28) rfl rfl rfl ?_; (focus omega); (focus omega); intro v' w' hown hgrow; have HN := Lib.hid hown; have HG := Lib.hid hgrow; clear hown hgrow))
        all_goals
          clear hv hs1 hs2
          go_wp2
          go_roundw
          case rel => exact ⟨j + 1, k + 2, by have := HK.out; omega, by omega, by go_num, by rw [HT.out]; exact HN.out, HB2.out.grown HG.out hsz2 HW.out.at⟩
          case measure => simp [intOf]; omega
      · obtain ⟨b, off, rfl, hb, hcell⟩ := hI.at hlt
        have HV := Lib.hid (show upAt l j = nthI l k by unfold upAt; have := HK.out; subst this; rw [if_neg (by rw [HL.out]; omega)])
        go_wp2_with (at_builtin; refine wpList_app1I (nthI l k) HW.out (by omega) hsz rfl _ _ rfl rfl rfl ?_; intro v' w' hown hgrow; have HN := Lib.hid hown; have HG := Lib.hid hgrow; clear hown hgrow)
        go_roundw
        case rel => exact ⟨j + 1, k + 2, by have := HK.out; omega, by omega, by go_num, by rw [HT.out, HV.out]; exact HN.out, HB.out.grown HG.out hsz HW.out.at⟩
        case measure => simp [intOf]; omega
    · have HE := Lib.hid (upB_end (l := l) (j := j) (by rw [HL.out]; have := HK.out; omega))
      go_wp2
      go_ret
      exact ⟨_, rfl, by rw [← HE.out]; exact HW.out, HB.out⟩
end Go.Proofs.Ytlbebbkkpjgboaa
