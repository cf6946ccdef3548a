/-
  Contracts of the laws' helpers on lists of versions.
-/
import Derived.Test.YtminmakiahjfbaaVers
import Derived.Test.YtminmakiahjfbaaArgs
import Derived.Deep.Slices
namespace Go.Proofs.Ytminmakiahjfbaa
open Go.RowKit
set_option linter.unusedVariables false
theorem set3 {α : Type} {A R : List α} {m : Nat} (x y z : α) (hA : A.length = m) (hR : 3 ≤ R.length) : (((A ++ R).set m x).set (m + 1) y).set (m + 2) z = A ++ [x, y, z] ++ R.drop 3 := by
  match R, hR with
  | a :: b :: c :: R', _ =>
    rw [List.set_append_right _ _ (by omega), List.set_append_right _ _ (by omega), List.set_append_right _ _ (by omega)]
    rw [show m - A.length = 0 by omega, show m + 1 - A.length = 1 by omega, show m + 2 - A.length = 2 by omega]
    simp
def sumV (l : List Ver) : Nat := (l.map fun p => p.2.2.size).sum
theorem sumV_snoc (l : List Ver) (t : Ver) : sumV (l ++ [t]) = sumV l + t.2.2.size := by unfold sumV; simp
theorem sumV_split (l : List Ver) (k : Nat) : sumV l = sumV (l.take k) + sumV (l.drop k) := by
  have h : sumV l = sumV (l.take k ++ l.drop k) := by rw [List.take_append_drop]
  rw [h]; unfold sumV; rw [List.map_append, List.sum_append]
/-- What is left behind a list; -1 if it is too much. -/
def leftV (l : List Ver) (left : Int) : Int := if (l.length + sumV l : Int) ≤ left then left - l.length - sumV l else -1
theorem szVersion_any (p : Ver) (left : Int) (w : World) (h0 : 0 ≤ left) (h1 : left ≤ 100000000) (hz : p.2.2.size ≤ maxLen) : Calls Try.prog 35 #[.agg #[.int .i64 p.1, .int .i64 p.2.1, .string p.2.2], .int .i64 left] w (BelowI (if (p.2.2.size : Int) ≤ left then left - p.2.2.size else -1) w) := by
  unfold maxLen at hz
  by_cases h : (p.2.2.size : Int) ≤ left
  · have HF := Lib.hid (show (if (p.2.2.size : Int) ≤ left then left - p.2.2.size else -1) = left - p.2.2.size from if_pos h)
    go_enter Try.func35, Try.ntmps35
    go_wp2
    go_ret
    exact ⟨ret_int (by first | rfl | exact HF.out.symm), (Below.refl _ _).alloc (Nat.le_refl _) _⟩
  · have HF := Lib.hid (show (if (p.2.2.size : Int) ≤ left then left - p.2.2.size else -1) = -1 from if_neg h)
    go_enter Try.func35, Try.ntmps35
    go_wp2
    go_ret
    exact ⟨ret_int (by first | rfl | exact HF.out.symm), (Below.refl _ _).alloc (Nat.le_refl _) _⟩
theorem szVersionS_any (x : Option Addr) (n cap : Nat) (l : List Ver) (left : Int) (B : Nat) (w : World) (h : Vers w B x n cap l) (hB : B ≤ w.heap.size) (hz : ∀ k, (nthV l k).2.2.size ≤ maxLen) (h0 : 0 ≤ left) (h1 : left ≤ 100000000) :
    Calls Try.prog 32 #[.slice x n cap, .int .i64 left] w (BelowI (leftV l left) w) := by
  have HL := Lib.hid h.len
  have HH := Lib.hid h
  have HZ := Lib.hid hz
  have hmx := h.max
  have hle := h.le
  clear h hz
  unfold maxLen at hmx
  by_cases hn : left < (n : Int)
  · have HF := Lib.hid (show leftV l left = -1 by unfold leftV; rw [if_neg (by have := HL.out; omega)])
    go_enter Try.func32, Try.ntmps32
    go_wp2
    go_ret
    exact ⟨ret_int HF.out.symm, Below.refl _ _⟩
  · go_enter Try.func32, Try.ntmps32
    go_wp2
    go_loopw [1, 5] (fun q i wr => ∃ k : Nat, k ≤ n ∧ i = .int .i64 k ∧ q = .int .i64 (left - n - sumV (l.take k)) ∧ (sumV (l.take k) : Int) ≤ left - n ∧ Below w.heap.size w wr) (fun _ i _ => n - (intOf i).toNat)
    case atStart => exact ⟨0, by omega, rfl, by simp [sumV], by simp [sumV]; omega, Below.refl _ _⟩
    case round =>
      obtain ⟨k, hk, rfl, rfl, hs, hb⟩ := hrel
      have HB := Lib.hid hb; clear hb
      by_cases hlt : k < n
      · have HT := Lib.hid (show sumV (l.take (k + 1)) = sumV (l.take k) + (nthV l k).2.2.size by rw [take_snocV (by have := HL.out; omega), sumV_snoc])
        obtain ⟨b0, off, rfl, hb0, hc0, hc1, hc2⟩ := (HH.out.below HB.out hB).atV hlt
        have hzk := HZ.out k
        have hd := sumV_split l (k + 1)
        rw [HT.out] at hd
        have HD := Lib.hid hd
        clear hd
        by_cases hneg : left - (n : Int) - (sumV (l.take k) : Int) < ((nthV l k).2.2.size : Int)
        · have HF := Lib.hid (show leftV l left = -1 by unfold leftV; rw [if_neg (by have := HL.out; have := HD.out; omega)])
          go_wp2_with fail
          refine (szVersion_any (nthV l k) _ _ (by omega) (by omega) hzk).mono ?_
          rintro e w2 ⟨rfl, hb⟩
          have HB2 := Lib.hid (HB.out.trans (hb.mono HB.out.size)); clear hb
          rw [if_neg (by omega)]
          go_wp2_with fail
          go_ret
          exact ⟨ret_int HF.out.symm, HB2.out⟩
        · go_wp2_with fail
          refine (szVersion_any (nthV l k) _ _ (by omega) (by omega) hzk).mono ?_
          rintro e w2 ⟨rfl, hb⟩
          have HB2 := Lib.hid (HB.out.trans (hb.mono HB.out.size)); clear hb
          rw [if_pos (by omega)]
          go_wp2_with fail
          go_roundw
          case rel => exact ⟨k + 1, by omega, by go_num, by have := HT.out; go_num, by have := HT.out; omega, HB2.out⟩
          case measure => simp [intOf]; omega
      · have e : l.take k = l := List.take_of_length_le (by have := HL.out; omega)
        rw [e] at hs ⊢
        have HF := Lib.hid (show leftV l left = left - n - sumV l by unfold leftV; rw [if_pos (by have := HL.out; omega), HL.out])
        clear e
        go_wp2
        go_ret
        exact ⟨ret_int HF.out.symm, HB.out⟩
theorem toVersion_any (p : Ver) (w : World) : Calls Try.prog 36 #[.agg #[.int .i64 p.1, .int .i64 p.2.1, .string p.2.2]] w fun e w' => e = .returned (.agg #[.int .i64 p.1, .int .i64 p.2.1, .string p.2.2]) ∧ Below w.heap.size w w' := by
  go_enter Try.func36, Try.ntmps36
  go_wp2
  refine bodyPost_ret (v := .agg #[.int .i64 p.1, .int .i64 p.2.1, .string p.2.2]) (by simp [results, Try.results36, go_sem]) rfl ⟨rfl, (((Below.refl _ _).alloc (Nat.le_refl _) _).alloc (by simp) _).alloc (by simp; omega) _⟩
theorem ver_ext {p q : Ver} (h1 : p.1 = q.1) (h2 : p.2.1 = q.2.1) (h3 : p.2.2 = q.2.2) : p = q := Prod.ext h1 (Prod.ext h2 h3)
theorem eqVersion_any (p q : Ver) (w : World) : Calls Try.prog 55 #[.agg #[.int .i64 p.1, .int .i64 p.2.1, .string p.2.2], .agg #[.int .i64 q.1, .int .i64 q.2.1, .string q.2.2]] w (BelowB (decide (p = q)) w) := by
  by_cases h1 : p.1 = q.1
  · have hd1 : (p.1 == q.1) = true := by simpa using h1
    by_cases h2 : p.2.1 = q.2.1
    · have hd2 : (p.2.1 == q.2.1) = true := by simpa using h2
      by_cases h3 : p.2.2 = q.2.2
      · have HF := Lib.hid (show decide (p = q) = true by simpa using ver_ext h1 h2 h3)
        have hd3 : (p.2.2.toList == q.2.2.toList) = true := by rw [h3]; simp
        clear h1 h2 h3
        go_enter Try.func55, Try.ntmps55
        go_wp2
        go_ret
        exact ⟨ret_bool HF.out.symm, ((Below.refl _ _).alloc (Nat.le_refl _) _).alloc (by simp) _⟩
      · have HF := Lib.hid (show decide (p = q) = false by simp; intro e; exact h3 (by rw [e]))
        have hd3 : (p.2.2.toList == q.2.2.toList) = false := by rw [str_beq]; simpa using h3
        clear h1 h2 h3
        go_enter Try.func55, Try.ntmps55
        go_wp2
        go_ret
        exact ⟨ret_bool HF.out.symm, ((Below.refl _ _).alloc (Nat.le_refl _) _).alloc (by simp) _⟩
    · have HF := Lib.hid (show decide (p = q) = false by simp; intro e; exact h2 (by rw [e]))
      have hd2 : (p.2.1 == q.2.1) = false := by simpa using h2
      clear h1 h2
      go_enter Try.func55, Try.ntmps55
      go_wp2
      go_ret
      exact ⟨ret_bool HF.out.symm, ((Below.refl _ _).alloc (Nat.le_refl _) _).alloc (by simp) _⟩
  · have HF := Lib.hid (show decide (p = q) = false by simp; intro e; exact h1 (by rw [e]))
    have hd1 : (p.1 == q.1) = false := by simpa using h1
    clear h1
    go_enter Try.func55, Try.ntmps55
    go_wp2
    go_ret
    exact ⟨ret_bool HF.out.symm, ((Below.refl _ _).alloc (Nat.le_refl _) _).alloc (by simp) _⟩
theorem take_eq_stepV {l l' : List Ver} {k : Nat} (h : k < l.length) (h' : k < l'.length) (he : l.take k = l'.take k) (hx : nthV l k = nthV l' k) : l.take (k + 1) = l'.take (k + 1) := by
  rw [take_snocV h, take_snocV h', he, hx]
theorem ne_atV {l l' : List Ver} {k : Nat} (hx : nthV l k ≠ nthV l' k) : l ≠ l' := fun h => hx (by rw [h])
theorem eqVersionS_any (x y : Option Addr) (n m c d : Nat) (l l' : List Ver) (B : Nat) (w : World) (h : Vers w B x n c l) (h' : Vers w B y m d l') (hB : B ≤ w.heap.size) : Calls Try.prog 34 #[.slice x n c, .slice y m d] w (BelowB (decide (l = l')) w) := by
  have HL := Lib.hid h.len
  have HL' := Lib.hid h'.len
  have hmx := h.max
  have hle := h.le
  have hmx' := h'.max
  have hle' := h'.le
  unfold maxLen at hmx hmx'
  by_cases hnm : n = m
  · subst hnm
    have HH := Lib.hid h
    have HH' := Lib.hid h'
    clear h h'
    go_enter Try.func34, Try.ntmps34
    go_wp2
    go_loopw [5] (fun i wr => ∃ k : Nat, k ≤ n ∧ i = .int .i64 k ∧ l.take k = l'.take k ∧ Below w.heap.size w wr) (fun i _ => n - (intOf i).toNat)
    case atStart => exact ⟨0, by omega, rfl, rfl, Below.refl _ _⟩
    case round =>
      obtain ⟨k, hk, rfl, he, hb⟩ := hrel
      have HE := Lib.hid he; clear he
      have HB := Lib.hid hb; clear hb
      by_cases hlt : k < n
      · obtain ⟨b, off, rfl, hb, hc0, hc1, hc2⟩ := (HH.out.below HB.out hB).atV hlt
        obtain ⟨b', off', rfl, hb', hc0', hc1', hc2'⟩ := (HH'.out.below HB.out hB).atV hlt
        by_cases hx : nthV l k = nthV l' k
        · have HX := Lib.hid hx
          have hdd := decide_eq_true hx
          clear hx
          go_wp2
          go_region_with (go_at_call 55; refine (eqVersion_any _ _ _).mono ?_; rintro e w2 ⟨rfl, hb2⟩; have HB2 := Lib.hid (below_drewn HB.out hb2 HB.out.size); clear hb2)
          all_goals
            go_wp2
            go_roundw
            case rel => exact ⟨k + 1, by omega, by go_num, take_eq_stepV (by have := HL.out; omega) (by have := HL'.out; omega) HE.out HX.out, HB2.out⟩
            case measure => simp [intOf]; omega
        · have HX := Lib.hid (ne_atV hx)
          have hdd := decide_eq_false hx
          clear hx
          go_wp2
          go_region_with (go_at_call 55; refine (eqVersion_any _ _ _).mono ?_; rintro e w2 ⟨rfl, hb2⟩; have HB2 := Lib.hid (below_drewn HB.out hb2 HB.out.size); clear hb2)
          all_goals
            go_wp2
            go_ret
            exact ⟨ret_bool (by simpa using HX.out), HB2.out⟩
      · go_wp2
        go_ret
        have h1 := HE.out
        rw [List.take_of_length_le (by have := HL.out; omega), List.take_of_length_le (by have := HL'.out; omega)] at h1
        exact ⟨ret_bool (by simpa using h1), HB.out⟩
  · have HX := Lib.hid (show l ≠ l' from fun e => hnm (by rw [← HL.out, ← HL'.out, e]))
    go_enter Try.func34, Try.ntmps34
    go_wp2
    go_ret
    exact ⟨ret_bool (by simpa using HX.out), Below.refl _ _⟩
theorem ne_vr {p q : Ver} (h : p ≠ q) : p.1 ≠ q.1 ∨ (p.1 = q.1 ∧ p.2.1 ≠ q.2.1) ∨ (p.1 = q.1 ∧ p.2.1 = q.2.1 ∧ p.2.2 ≠ q.2.2) := by
  by_cases h1 : p.1 = q.1
  · by_cases h2 : p.2.1 = q.2.1
    · exact .inr (.inr ⟨h1, h2, fun h3 => h (ver_ext h1 h2 h3)⟩)
    · exact .inr (.inl ⟨h1, h2⟩)
  · exact .inl h1
theorem sameVersions_any (x y : Option Addr) (n m c d : Nat) (l l' : List Ver) (B : Nat) (w : World) (h : Vers w B x n c l) (h' : Vers w B y m d l') : Calls Try.prog 20 #[.slice x n c, .slice y m d] w (QuietB (decide (l = l')) w) := by
  have HL := Lib.hid h.len
  have HL' := Lib.hid h'.len
  have hmx := h.max
  have hle := h.le
  have hmx' := h'.max
  have hle' := h'.le
  unfold maxLen at hmx hmx'
  by_cases hnm : n = m
  · subst hnm
    have HH := Lib.hid h
    have HH' := Lib.hid h'
    clear h h'
    go_enter Try.func20, Try.ntmps20
    go_wp2
    go_loopw [5] (fun i wr => ∃ k : Nat, k ≤ n ∧ i = .int .i64 k ∧ l.take k = l'.take k ∧ ∃ q, wr = w.drewN q) (fun i _ => n - (intOf i).toNat)
    case atStart => exact ⟨0, by omega, rfl, rfl, 0, rfl⟩
    case round =>
      obtain ⟨k, hk, rfl, he, q, rfl⟩ := hrel
      have HE := Lib.hid he; clear he
      by_cases hlt : k < n
      · obtain ⟨b, off, rfl, hb, hc0, hc1, hc2⟩ := HH.out.atV hlt
        obtain ⟨b', off', rfl, hb', hc0', hc1', hc2'⟩ := HH'.out.atV hlt
        by_cases hx : nthV l k = nthV l' k
        · have HX := Lib.hid hx
          go_wp2
          go_quiet (fail)
          go_wp2
          go_roundw
          case rel => exact ⟨k + 1, by omega, by go_num, take_eq_stepV (by have := HL.out; omega) (by have := HL'.out; omega) HE.out HX.out, _, by first | rfl | rw [World.drewN_drewN]⟩
          case measure => simp [intOf]; omega
        · have HX := Lib.hid (ne_atV hx)
          rcases ne_vr hx with h1 | ⟨h1, h2⟩ | ⟨h1, h2, h3⟩
          · have hd1 : ((nthV l k).1 == (nthV l' k).1) = false := by simpa using h1
            clear hx h1
            go_wp2
            go_quiet (fail)
            go_wp2
            go_ret
            exact ⟨ret_bool (by simpa using HX.out), _, by first | rfl | rw [World.drewN_drewN]⟩
          · have hd1 : ((nthV l k).1 == (nthV l' k).1) = true := by simpa using h1
            have hd2 : ((nthV l k).2.1 == (nthV l' k).2.1) = false := by simpa using h2
            clear hx h1 h2
            go_wp2
            go_quiet (fail)
            go_wp2
            go_ret
            exact ⟨ret_bool (by simpa using HX.out), _, by first | rfl | rw [World.drewN_drewN]⟩
          · have hd1 : ((nthV l k).1 == (nthV l' k).1) = true := by simpa using h1
            have hd2 : ((nthV l k).2.1 == (nthV l' k).2.1) = true := by simpa using h2
            have hd3 : ((nthV l k).2.2.toList == (nthV l' k).2.2.toList) = false := by rw [str_beq]; simpa using h3
            clear hx h1 h2 h3
            go_wp2
            go_quiet (fail)
            go_wp2
            go_ret
            exact ⟨ret_bool (by simpa using HX.out), _, by first | rfl | rw [World.drewN_drewN]⟩
      · go_wp2
        go_ret
        have h1 := HE.out
        rw [List.take_of_length_le (by have := HL.out; omega), List.take_of_length_le (by have := HL'.out; omega)] at h1
        exact ⟨ret_bool (by simpa using h1), _, rfl⟩
  · have HX := Lib.hid (show l ≠ l' from fun e => hnm (by rw [← HL.out, ← HL'.out, e]))
    go_enter Try.func20, Try.ntmps20
    go_wp2
    go_ret
    exact ⟨ret_bool (by simpa using HX.out), 0, rfl⟩
def marksV (k : Int) (n : Nat) : List Ver := (List.range n).map fun i : Nat => (k + 3 * (i : Int), k + 3 * (i : Int) + 1, markB (k + 3 * (i : Int) + 2))
theorem marksV_len (k : Int) (n : Nat) : (marksV k n).length = n := by unfold marksV; simp
theorem marksV_at {k : Int} {n i : Nat} (h : i < n) : nthV (marksV k n) i = (k + 3 * i, k + 3 * i + 1, markB (k + 3 * i + 2)) := by unfold nthV marksV; rw [List.getD_eq_getElem?_getD, List.getElem?_map, List.getElem?_range h]; rfl
theorem marksV_snoc (k : Int) (n : Nat) : marksV k (n + 1) = marksV k n ++ [(k + 3 * (n : Int), k + 3 * (n : Int) + 1, markB (k + 3 * (n : Int) + 2))] := by unfold marksV; rw [List.range_succ, List.map_append]; rfl
theorem marksV_step {k : Int} {l : List Ver} {j : Nat} (h : j < l.length) :
    ((((marksV k j).flatMap vrG ++ (l.drop j).flatMap vrG).set (j * 3) (.int .i64 (k + 3 * j))).set (j * 3 + 1) (.int .i64 (k + 3 * j + 1))).set (j * 3 + 2) (.string (markB (k + 3 * j + 2))) = (marksV k (j + 1)).flatMap vrG ++ (l.drop (j + 1)).flatMap vrG := by
  rw [set3 _ _ _ (by rw [encVr.length, marksV_len]) (by rw [encVr.length, List.length_drop]; omega), marksV_snoc, List.flatMap_append]
  have e : ((l.drop j).flatMap vrG).drop 3 = (l.drop (j + 1)).flatMap vrG := by
    have := flat_drop encVr (l.drop j) 1
    rw [Nat.one_mul, List.drop_drop] at this
    rw [this]
  rw [e]; rfl
theorem markVersionS_any (x : Option Addr) (n cap : Nat) (l : List Ver) (base : Nat) (k : Int) (w : World) (h : OwnVr w base (.slice x n cap) l) (hl : l.length = n) (hk : 0 ≤ k) (hk1 : k ≤ 100000000) (hn : n ≤ 10000000) :
    Calls Try.prog 37 #[.slice x n cap, .int .i64 k] w fun e w' => e = .returned (.int .i64 (k + 3 * n)) ∧ OwnVr w' base (.slice x n cap) (marksV k n) ∧ w.grownBy w' (Value.slice x n cap).ownBlock := by
  have HL := Lib.hid hl
  have hmx : cap ≤ maxLen ∧ n ≤ cap := by obtain ⟨x', c', e, h1, h2, _⟩ := own_reads h; simp only [Value.slice.injEq] at e; obtain ⟨rfl, rfl, rfl⟩ := e; omega
  obtain ⟨hmx, hle⟩ := hmx
  unfold maxLen at hmx
  rcases h.2 with ⟨e, _⟩ | ⟨g, cap', cur, e, hrest⟩
  · simp only [Value.slice.injEq] at e
    obtain ⟨rfl, rfl, rfl⟩ := e
    have HF := Lib.hid h
    clear h hl
    go_enter Try.func37, Try.ntmps37
    go_wp2
    go_loopw [1, 5] (fun kk i wr => i = .int .i64 0 ∧ kk = .int .i64 k ∧ wr = w) (fun _ i _ => (intOf i).toNat)
    case atStart => exact ⟨rfl, rfl, rfl⟩
    case round =>
      obtain ⟨rfl, rfl, rfl⟩ := hrel
      go_wp2
      go_ret
      exact ⟨ret_int (by simp), OwnL.nil _ _ _ _ _, rfl, rfl, rfl, Nat.le_refl _, fun _ _ _ => rfl⟩
  · simp only [Value.slice.injEq] at e
    obtain ⟨rfl, e2, rfl⟩ := e
    clear hrest
    have h' : w.ownsRow base 27 3 (.slice (some ⟨g, 0, none⟩) n cap) n (l.flatMap vrG) := by have := h; unfold OwnVr OwnL at this; rwa [hl] at this
    have HW0 := Lib.hid h'
    have hgw : g < w.heap.size := (h'.lt g rfl).2
    clear h h' hl e2
    go_enter Try.func37, Try.ntmps37
    go_wp2
    go_loopw [1, 5] (fun kk i wr => ∃ j : Nat, j ≤ n ∧ i = .int .i64 j ∧ kk = .int .i64 (k + 3 * j) ∧ wr.ownsRow base 27 3 (.slice (some ⟨g, 0, none⟩) n cap) n ((marksV k j).flatMap vrG ++ (l.drop j).flatMap vrG) ∧ w.grownBy wr (some g)) (fun _ i _ => n - (intOf i).toNat)
    case atStart => exact ⟨0, by omega, rfl, by go_num, HW0.out, rfl, rfl, rfl, Nat.le_refl _, fun _ _ _ => rfl⟩
    case round =>
      obtain ⟨j, hj, rfl, rfl, ho, hg⟩ := hrel
      have HO := Lib.hid ho; have HG := Lib.hid hg; clear ho hg
      by_cases hlt : j < n
      · have hlen : ((marksV k j).flatMap vrG ++ (l.drop j).flatMap vrG).length = n * 3 := by rw [List.length_append, encVr.length, encVr.length, marksV_len, List.length_drop, HL.out]; omega
        have HLEN := Lib.hid hlen
        clear hlen
        have hf := HO.out.frozenAt (j * 3)
        have hz := HO.out.cellAt (j * 3) (by omega)
        rw [List.getElem?_eq_getElem (by have := HLEN.out; omega)] at hz
        generalize ((marksV k j).flatMap vrG ++ (l.drop j).flatMap vrG)[j * 3]'(by have := HLEN.out; omega) = z at hz
        have HS0 := Lib.hid (HO.out.stored (j * 3) (.int .i64 (k + 3 * j)))
        have hf1 := HS0.out.1.frozenAt (j * 3 + 1)
        have hz1 := HS0.out.1.cellAt (j * 3 + 1) (by omega)
        rw [List.getElem?_eq_getElem (by have := HLEN.out; rw [List.length_set]; omega)] at hz1
        generalize (((marksV k j).flatMap vrG ++ (l.drop j).flatMap vrG).set (j * 3) (.int .i64 (k + 3 * j)))[j * 3 + 1]'(by have := HLEN.out; rw [List.length_set]; omega) = z1 at hz1
        have HS1 := Lib.hid (HS0.out.1.stored (j * 3 + 1) (.int .i64 (k + 3 * j + 1)))
        have HG1 := Lib.hid (grownBy_then (grownBy_then HG.out HS0.out.2) HS1.out.2)
        have hw1 : IntKind.i64.wrap (k + 3 * (j : Int) + 1) = k + 3 * (j : Int) + 1 := by rw [IntKind.wrap_i64]; omega
        have hw2 : IntKind.i64.wrap (k + 3 * (j : Int) + 1 + 1) = k + 3 * (j : Int) + 2 := by rw [IntKind.wrap_i64]; omega
        have hw3 : IntKind.i64.wrap (k + 3 * (j : Int) + 2 + 1) = k + 3 * ((j + 1 : Nat) : Int) := by rw [IntKind.wrap_i64]; omega
        go_wp2_with fail
        refine (markText_any _ _ (by omega)).mono ?_
        rintro e w2 ⟨rfl, hb⟩
        have hO2 := own_below HS1.out.1 hb
        have HG2 := Lib.hid (grownBy_join HG1.out hb)
        have hf2 := hO2.frozenAt (j * 3 + 2)
        have hz2 := hO2.cellAt (j * 3 + 2) (by omega)
        rw [List.getElem?_eq_getElem (by have := HLEN.out; rw [List.length_set, List.length_set]; omega)] at hz2
        generalize ((((marksV k j).flatMap vrG ++ (l.drop j).flatMap vrG).set (j * 3) (.int .i64 (k + 3 * j))).set (j * 3 + 1) (.int .i64 (k + 3 * j + 1)))[j * 3 + 2]'(by have := HLEN.out; rw [List.length_set, List.length_set]; omega) = z2 at hz2
        have HO2 := Lib.hid hO2
        clear hO2 hb
        go_wp2_with fail
        go_roundw
        case rel =>
          have HST := HO2.out.stored (j * 3 + 2) (.string (markB (k + 3 * j + 2)))
          refine ⟨j + 1, by omega, by go_num, by go_num, ?_, ?_⟩
          · have := HST.1
            rw [marksV_step (by have := HL.out; omega)] at this
            exact this
          · exact grownBy_then HG2.out HST.2
        case measure => simp [intOf]; omega
      · obtain rfl : j = n := by omega
        go_wp2
        go_ret
        refine ⟨rfl, ?_, HG.out⟩
        have h1 := HO.out
        rw [List.drop_of_length_le (by have := HL.out; omega)] at h1
        show World.ownsRow _ _ _ _ _ _ _
        rw [marksV_len]
        simpa using h1
theorem heldVersionS_any (x : Option Addr) (n cap : Nat) (k : Int) (B : Nat) (w : World) (h : Vers w B x n cap (marksV k n)) (hB : B ≤ w.heap.size) (hk : 0 ≤ k) (hk1 : k ≤ 100000000) (hn : n ≤ 10000000) :
    Calls Try.prog 38 #[.slice x n cap, .int .i64 k] w (BelowI (k + 3 * n) w) := by
  have HH := Lib.hid h
  have hmx := h.max
  have hle := h.le
  clear h
  unfold maxLen at hmx
  go_enter Try.func38, Try.ntmps38
  go_wp2
  go_loopw [1, 5] (fun kk i wr => ∃ j : Nat, j ≤ n ∧ i = .int .i64 j ∧ kk = .int .i64 (k + 3 * j) ∧ Below w.heap.size w wr) (fun _ i _ => n - (intOf i).toNat)
  case atStart => exact ⟨0, by omega, rfl, by go_num, Below.refl _ _⟩
  case round =>
    obtain ⟨j, hj, rfl, rfl, hb⟩ := hrel
    have HB := Lib.hid hb; clear hb
    by_cases hlt : j < n
    · obtain ⟨b, off, rfl, hb, hc0, hc1, hc2⟩ := (HH.out.below HB.out hB).atV hlt
      rw [marksV_at hlt] at hc0 hc1 hc2
      have hbw : b < wr.heap.size := by have := HB.out.size; omega
      have hw1 : IntKind.i64.wrap (k + 3 * (j : Int) + 1) = k + 3 * (j : Int) + 1 := by rw [IntKind.wrap_i64]; omega
      have hw2 : IntKind.i64.wrap (k + 3 * (j : Int) + 1 + 1) = k + 3 * (j : Int) + 2 := by rw [IntKind.wrap_i64]; omega
      have hw3 : IntKind.i64.wrap (k + 3 * (j : Int) + 2 + 1) = k + 3 * ((j + 1 : Nat) : Int) := by rw [IntKind.wrap_i64]; omega
      go_wp2
      go_region_with (go_at_call 56; refine (markText_any _ _ (by omega)).mono ?_; rintro e w2 ⟨rfl, hb2⟩; have hc4 := cell_drewn hc2 hb2 hbw; have HB2 := Lib.hid (below_drewn HB.out hb2 HB.out.size); clear hb2)
      all_goals
        go_wp2
        go_roundw
        case rel => exact ⟨j + 1, by omega, by go_num, by go_num, HB2.out⟩
        case measure => simp [intOf]; omega
    · obtain rfl : j = n := by omega
      go_wp2
      go_ret
      exact ⟨rfl, HB.out⟩
theorem run_mkVr (n : Nat) (hn : n ≤ 2000000) (w : World) : (Instr.makeSlice 23 (.int .i64 (n : Int)) (.int .i64 (n : Int))).run Try.prog w = .ok (.slice (some ⟨w.heap.size, 0, none⟩) n n) (w.alloc (.cells (madeCells #[.int .i64 0, .int .i64 0, .string ByteArray.empty] (n * 3)) 27)) := run_mk eltVr n hn w
theorem own_mkVr (w : World) (n : Nat) (hn : n ≤ 2000000) {base : Nat} (hb : base ≤ w.heap.size) :
    (w.alloc (.cells (madeCells #[.int .i64 0, .int .i64 0, .string ByteArray.empty] (n * 3)) 27)).ownsRow base 27 3 (.slice (some ⟨w.heap.size, 0, none⟩) n n) n (madeCells #[.int .i64 0, .int .i64 0, .string ByteArray.empty] (n * 3)).toList := own_mk eltVr w n hn hb
theorem toVersionS_any (x : Option Addr) (n cap : Nat) (l : List Ver) (w : World) (h : Vers w w.heap.size x n cap l) (hn : n ≤ 1048576) : Calls Try.prog 33 #[.slice x n cap] w (NewVr l w) := by
  have HL := Lib.hid h.len
  have HH := Lib.hid h
  have hmx := h.max
  have hle := h.le
  clear h
  unfold maxLen at hmx
  have hmk := run_mkVr n (by omega)
  have HO := Lib.hid (own_mkVr w n (by omega) (Nat.le_refl _))
  go_enter Try.func33, Try.ntmps33
  go_wp2
  clear hmk
  go_loopw [4] (fun i wr => ∃ (k : Nat) (R : List Value), k ≤ n ∧ i = .int .i64 k ∧ R.length = (n - k) * 3 ∧ wr.ownsRow w.heap.size 27 3 (.slice (some ⟨w.heap.size, 0, none⟩) n n) n ((l.take k).flatMap vrG ++ R) ∧ Below w.heap.size w wr) (fun i _ => n - (intOf i).toNat)
  case atStart =>
    refine ⟨0, _, by omega, rfl, ?_, HO.out, (Below.refl _ _).alloc (Nat.le_refl _) _⟩
    rw [Array.length_toList, size_madeCells]
    simp
  case round =>
    obtain ⟨k, R, hk, rfl, hR, ho, hb⟩ := hrel
    have HB := Lib.hid hb; clear hb
    have HW := Lib.hid ho; clear ho
    have HR := Lib.hid hR; clear hR
    by_cases hlt : k < n
    · obtain ⟨b, off, rfl, hb, hc0, hc1, hc2⟩ := (HH.out.below HB.out (Nat.le_refl _)).atV hlt
      obtain ⟨z0, z1, z2, R', rfl⟩ : ∃ z0 z1 z2 R', R = z0 :: z1 :: z2 :: R' := by
        match R, HR.out with
        | a :: b :: c :: R', _ => exact ⟨a, b, c, R', rfl⟩
        | [a, b], h => simp at h; omega
        | [a], h => simp at h; omega
        | [], h => simp at h; omega
      have hA : ((l.take k).flatMap vrG).length = k * 3 := by rw [encVr.length, List.length_take, HL.out]; omega
      have HA := Lib.hid hA
      have HI0 := Lib.hid (show ((l.take k).flatMap vrG ++ z0 :: z1 :: z2 :: R')[k * 3]? = some z0 by rw [List.getElem?_append_right (by omega), hA]; simp)
      have HI1 := Lib.hid (show ((l.take k).flatMap vrG ++ z0 :: z1 :: z2 :: R')[k * 3 + 1]? = some z1 by rw [List.getElem?_append_right (by omega), hA]; simp)
      have HI2 := Lib.hid (show ((l.take k).flatMap vrG ++ z0 :: z1 :: z2 :: R')[k * 3 + 2]? = some z2 by rw [List.getElem?_append_right (by omega), hA]; simp)
      clear hA
      go_wp2_with (first
        | (go_at_call 36; refine (toVersion_any (nthV l k) _).mono ?_; rintro e w2 ⟨rfl, hb2⟩; have hO2 := own_below HW.out hb2; have hf0 := hO2.frozenAt (k * 3); have hf1 := hO2.frozenAt (k * 3 + 1); have hf2 := hO2.frozenAt (k * 3 + 2); have hz0 := (hO2.cellAt (k * 3) (by omega)).trans HI0.out; have hz1 := (hO2.cellAt (k * 3 + 1) (by omega)).trans HI1.out; have hz2 := (hO2.cellAt (k * 3 + 2) (by omega)).trans HI2.out; have HO2 := Lib.hid hO2; have HB2 := Lib.hid (HB.out.trans (hb2.mono HB.out.size)); clear hO2 hb2))
      go_roundw
      case rel =>
        have h1 := (HO2.out.stored (k * 3) (.int .i64 (nthV l k).1)).1
        have h2 := (h1.stored (k * 3 + 1) (.int .i64 (nthV l k).2.1)).1
        have h3 := (h2.stored (k * 3 + 2) (.string (nthV l k).2.2)).1
        rw [set3 _ _ _ HA.out (by simp)] at h3
        refine ⟨k + 1, R', by omega, by go_num, ?_, ?_, ((HB2.out.setCell (p := ⟨w.heap.size, k * 3, none⟩) (Nat.le_refl _) _).setCell (p := ⟨w.heap.size, k * 3 + 1, none⟩) (Nat.le_refl _) _).setCell (p := ⟨w.heap.size, k * 3 + 2, none⟩) (Nat.le_refl _) _⟩
        · have := HR.out; simp at this; omega
        · rw [take_snocV (by have := HL.out; omega), List.flatMap_append, List.flatMap_singleton]
          exact h3
      case measure => simp [intOf]; omega
    · obtain rfl : k = n := by omega
      go_wp2
      go_ret
      refine ⟨_, rfl, ?_, HB.out⟩
      have h1 := HW.out
      have h0 := HR.out
      rw [Nat.sub_self, Nat.zero_mul] at h0
      rw [List.eq_nil_of_length_eq_zero h0, List.append_nil, List.take_of_length_le (by have := HL.out; omega)] at h1
      show World.ownsRow _ _ _ _ _ _ _
      rw [HL.out]
      exact h1
end Go.Proofs.Ytminmakiahjfbaa
/-
  A slice of versions that came in.
-/
namespace Go.Proofs.Ytminmakiahjfbaa
open Go.RowKit Go.ChangeShapes Go.WideShapes Go.ChangeAt
set_option linter.unusedVariables false
def ArgV (w : World) (a : Option Addr) (len cap : Nat) (l : List Ver) : Prop := Vers w w.heap.size a len cap l ∧ ∀ k, (nthV l k).2.2.size ≤ maxLen
theorem vrG_nth {f : Nat → Ver} {n j : Nat} {u : Value} (h : (((List.range n).map f).flatMap vrG)[j]? = some u) : j / 3 < n ∧ (vrG (f (j / 3)))[j % 3]? = some u := by
  have hl := (List.getElem?_eq_some_iff.1 h).1
  rw [encVr.length, List.length_map, List.length_range] at hl
  have hj : j = j / 3 * 3 + j % 3 := by omega
  have hlt : j / 3 < n := by omega
  rw [hj, encVr.get _ _ _ (0, 0, ByteArray.empty) (by simpa using hlt) (by omega)] at h
  refine ⟨hlt, ?_⟩
  rw [List.getD_eq_getElem?_getD, List.getElem?_map, List.getElem?_range hlt] at h
  exact h
theorem argV_of {H : Type} {enc : TypeId × Value → H} {W : World} {a : Option Addr} {len cap : Nat} {d : DataW H} {p : List MemPlace} (h : DataW.Trod enc Try.prog W 0 (fun _ => true) true 45 (.slice a len cap) d p) : ∃ l, ArgV W a len cap l := by
  obtain ⟨fuel, hf⟩ := h
  have hc3 : Try.prog.cellsOf 49 = 3 := by kernel_rfl
  have hci : Try.prog.cellsOf 3 = 1 := by kernel_rfl
  have hcs : Try.prog.cellsOf 9 = 1 := by kernel_rfl
  rcases Deep.open_slice Try.underlying45 hf with ⟨hcs, _⟩ | ⟨x, l, c, m, n, D, Pl, hcs, _, hl, hm, hmm, _, hx⟩
  · simp [Value.cells] at hcs
    obtain ⟨rfl, rfl, rfl⟩ := hcs
    exact ⟨[], ⟨rfl, Nat.le_refl _, by unfold maxLen; omega, Rds.nil _ _ _⟩, fun k => by simp [nthV]⟩
  · simp [Value.cells] at hcs
    obtain ⟨rfl, rfl, rfl⟩ := hcs
    simp at hmm
    subst hmm
    rw [hc3] at hx
    have each : ∀ i, i < m → ∃ q : Ver, W.cell? (x.add (i * 3)) = some (.int .i64 q.1) ∧ W.cell? (x.add (i * 3 + 1)) = some (.int .i64 q.2.1) ∧ W.cell? (x.add (i * 3 + 2)) = some (.string q.2.2) ∧ q.2.2.size ≤ maxLen := fun i hi => by
      obtain ⟨cs', h1, h2⟩ := hx i hi
      obtain ⟨_, hlen, hcell⟩ := World.cells?_some h1
      obtain ⟨ys, k, _, _, _, hyl, hfld⟩ := DataW.trod_struct Try.underlying49 h2
      have add2 : ∀ j, (x.add (i * 3)).add j = x.add (i * 3 + j) := fun j => Deep.add_add _ _ _
      match cs', hlen, ys, hyl with
      | [v0, v1, v2], _, [y0, y1, y2], _ =>
        have g0 := hfld 0 _ rfl
        have g1 := hfld 1 _ rfl
        have g2 := hfld 2 _ rfl
        simp [hci, hcs] at g0 g1 g2
        obtain ⟨z0, e0, _⟩ := DataW.trod_int Try.underlying3 g0
        obtain ⟨z1, e1, _⟩ := DataW.trod_int Try.underlying3 g1
        obtain ⟨s, e2, _, hs⟩ := DataW.trod_string Try.underlying9 g2
        simp only [List.cons.injEq, and_true] at e0 e1 e2
        have c0 := hcell 0 (by omega)
        have c1 := hcell 1 (by omega)
        have c2 := hcell 2 (by omega)
        rw [add2] at c0 c1 c2
        exact ⟨(z0, z1, s), by rw [← e0]; simpa using c0, by rw [← e1]; simpa using c1, by rw [← e2]; simpa using c2, hs⟩
    obtain ⟨f, hf'⟩ : ∃ f : Nat → Ver, ∀ i, i < m → W.cell? (x.add (i * 3)) = some (.int .i64 (f i).1) ∧ W.cell? (x.add (i * 3 + 1)) = some (.int .i64 (f i).2.1) ∧ W.cell? (x.add (i * 3 + 2)) = some (.string (f i).2.2) ∧ (f i).2.2.size ≤ maxLen :=
      ⟨fun i => if hi : i < m then Classical.choose (each i hi) else (0, 0, ByteArray.empty), fun i hi => by simp only [dif_pos hi]; exact Classical.choose_spec (each i hi)⟩
    refine ⟨(List.range len).map f, ⟨by simp, hl, hm, fun j u hu => ?_⟩, fun k => ?_⟩
    · obtain ⟨hj, hu'⟩ := vrG_nth hu
      obtain ⟨c0, c1, c2, _⟩ := hf' (j / 3) (by omega)
      obtain ⟨z0, _⟩ := hf' 0 (by omega)
      rw [Nat.zero_mul] at z0
      have hm3 : j % 3 = 0 ∨ j % 3 = 1 ∨ j % 3 = 2 := by omega
      rcases hm3 with e | e | e
      · rw [e] at hu'
        simp only [vrG, List.getElem?_cons_zero, Option.some.injEq] at hu'
        subst hu'
        obtain ⟨b, off, rfl, h1, h2⟩ := nodes_bd c0 z0
        exact ⟨b, off, rfl, h1, (show off + j / 3 * 3 = off + j by omega) ▸ h2⟩
      · rw [e] at hu'
        simp only [vrG, List.getElem?_cons_succ, List.getElem?_cons_zero, Option.some.injEq] at hu'
        subst hu'
        obtain ⟨b, off, rfl, h1, h2⟩ := nodes_bd c1 z0
        exact ⟨b, off, rfl, h1, (show off + (j / 3 * 3 + 1) = off + j by omega) ▸ h2⟩
      · rw [e] at hu'
        simp only [vrG, List.getElem?_cons_succ, List.getElem?_cons_zero, Option.some.injEq] at hu'
        subst hu'
        obtain ⟨b, off, rfl, h1, h2⟩ := nodes_bd c2 z0
        exact ⟨b, off, rfl, h1, (show off + (j / 3 * 3 + 2) = off + j by omega) ▸ h2⟩
    · unfold nthV
      rw [List.getD_eq_getElem?_getD]
      cases hk : ((List.range len).map f)[k]? with
      | none => simp
      | some t =>
        obtain ⟨i, hi, rfl⟩ := List.mem_map.1 (List.mem_of_getElem? hk)
        have := List.mem_range.1 hi
        exact (hf' i (by omega)).2.2.2
/-! ### for the exact laws -/
theorem leftV_no {l : List Ver} {left : Int} (h : ¬ (l.length + sumV l : Int) ≤ left) : leftV l left = -1 := by unfold leftV; rw [if_neg h]
theorem leftV_yes {l : List Ver} {left : Int} (h : (l.length + sumV l : Int) ≤ left) : 0 ≤ leftV l left ∧ leftV l left ≤ left ∧ (l.length : Int) ≤ left := by unfold leftV; rw [if_pos h]; omega
end Go.Proofs.Ytminmakiahjfbaa
