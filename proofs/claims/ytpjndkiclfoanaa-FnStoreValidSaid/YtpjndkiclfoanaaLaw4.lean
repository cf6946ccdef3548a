/-
  Chapter 4's laws: stores.
-/
import Derived.Test.YtpjndkiclfoanaaDraw7
import Derived.Test.YtpjndkiclfoanaaImpl4b
import Derived.BigFrame
namespace Go.Proofs.Ytpjndkiclfoanaa
open Go.RowKit
set_option linter.unusedVariables false
theorem store_tail {l : List Pc} (h : storeB l = true) : storeB (l.drop 1) = true := by
  obtain ⟨h1, h2, h3⟩ := storeB_iff.1 h
  refine storeB_iff.2 ⟨by rw [List.length_drop]; omega, fun p hp => h2 p (List.mem_of_mem_drop hp), ?_⟩
  exact h3.sublist (List.drop_sublist 1 l)
theorem store_twice {l : List Pc} (h : l ≠ []) : storeB ([nthP l 0] ++ l) = false := by
  cases hs : storeB ([nthP l 0] ++ l)
  · rfl
  · obtain ⟨_, _, h3⟩ := storeB_iff.1 hs
    rw [List.singleton_append, List.pairwise_cons] at h3
    have := h3.1 (nthP l 0) (nthP_mem (List.length_pos_iff.2 h))
    omega
/-- append behind '&&': a step that stands under a condition. -/
theorem wpList_appLW {ops : Array Oper} {o : Oper} {rest : List Oper} {a : Act} {Q : Exit → Act → World → Prop} {t e : TypeId} {size : Nat} {z : Value} {w : World} {α : Type} {g : α → List Value} (T : Elt t e size z) (E : Enc g size) {base m c B : Nat} {v : Value} {x : Option Addr} {l l' : List α} (hown : OwnL g e size w base v l) (hr : Lst g w B x m c l') (hn : l.length ≤ 2000000) (hm : m ≤ 2000000) (hbase : base ≤ w.heap.size)
    (hw : Region.wanted o (yielded ops a.tmps) = true) (s y : Operand) (ho : o.op = .call { callee := .builtin .append, args := #[s, y], argTypes := #[t, t] }) (hs : a.eval s = v) (hy : a.eval y = .slice x m c)
    (h : ∀ v' w', OwnL g e size w' base v' (l ++ l') → w.grownBy w' v.ownBlock → (v'.ownBlock = v.ownBlock ∨ v'.ownBlock = some w.heap.size) → wpList Try.prog ops Q rest (a.put o.dst v') w') : wpList Try.prog ops Q (o :: rest) a w :=
  Go.BigFrame.wpList_want hw fun _ hK => wp_appL T E hown hr hn hm hbase s y ho hs hy fun v' w' h1 h2 h3 => hK _ _ (h v' w' h1 h2 h3)
theorem twice_small {l : List Pc} (h : ∀ k, (nthP l k).2.size ≤ maxLen) (k : Nat) : (nthP ([nthP l 0] ++ l) k).2.size ≤ maxLen := by
  cases k with
  | zero => exact h 0
  | succ k => have := h k; unfold nthP at this ⊢; simpa using this
set_option maxHeartbeats 2000000 in
set_option maxRecDepth 100000 in
theorem fnStoreValid_any (x : Option Addr) (n cap : Nat) (w : World) (h : Bytes w.heap.size w x n) (hn : n ≤ cap) (hc : cap ≤ maxLen) :
    Calls Try.prog 3 #[.slice x n cap] w fun e w' => e = .returned (.bool true) ∧ Below w.heap.size w w' := by
  by_cases hlong : 1048576 < (n : Int)
  · go_enter Try.func3, Try.ntmps3
    go_wp2
    go_ret
    exact ⟨rfl, Below.refl _ _⟩
  · have HB0 := Lib.hid h
    have HC := Lib.hid hc
    have HLE := Lib.hid hn
    clear h hc hn
    go_enter Try.func3, Try.ntmps3
    go_wp2_with fail
    refine (drawStoreValid_any x n cap w HB0.out HLE.out HC.out).mono ?_
    rintro e w1 ⟨y, m, c, l, rfl, hl, hf, hb⟩
    have HB := Lib.hid hb; have HF := Lib.hid hf; have HL := Lib.hid hl; clear hb hf hl
    have HZ := Lib.hid (show ∀ k, (nthP l k).2.size ≤ maxLen from fun k => Nat.le_trans (short_nth HF.out.2.2 k) (by unfold maxLen; omega))
    have HLEN := Lib.hid HL.out.len
    have hm0 : 0 < m := by have := HLEN.out; have := List.length_pos_iff.2 HF.out.1; omega
    have hm41 : m ≤ 41 := by have := HLEN.out; have := HF.out.2.1; omega
    have hmc := HL.out.le
    go_wp2_with fail
    refine (implStoreValid_any _ _ _ l _ _ HL.out (Nat.le_refl _) HZ.out).mono ?_
    rintro e w2 ⟨rfl, hb⟩
    have HB2 := Lib.hid (HB.out.trans (hb.mono HB.out.size))
    have HL2 := Lib.hid ((HL.out.below hb (Nat.le_refl _)).more hb.size)
    clear hb HL HB
    go_wp2_with fail
    refine (specStoreValid_any _ _ _ l _ _ HL2.out HZ.out).mono ?_
    rintro e w3 ⟨rfl, q, rfl⟩
    obtain ⟨W, hW⟩ : ∃ W, W = w2.drewN q := ⟨_, rfl⟩
    have HB3 := Lib.hid (show Below w.heap.size w W by rw [hW]; exact below_drewN HB2.out q)
    have HL3 := Lib.hid (show Pcs W W.heap.size y m c l by rw [hW]; exact HL2.out.drewN q)
    rw [← hW]
    clear HB2 HL2 hW
    cases hv : storeB l
    · clear hv
      go_wp2_with (first
        | (go_at_call 14; refine (alive_any _).mono ?_; rintro e w' ⟨rfl, rfl⟩))
      go_ret
      exact ⟨rfl, HB3.out⟩
    · have HV := Lib.hid hv
      clear hv
      have hmz : ((m : Int) == 0) = false := by simp; omega
      obtain ⟨b, off, rfl, hb, hc0, hc1⟩ := HL3.out.atP (k := 0) hm0
      rw [Nat.zero_mul, Nat.add_zero] at hc0
      rw [Nat.zero_mul, Nat.add_zero] at hc1
      have HZ1 := Lib.hid (show ∀ k, (nthP (l.drop 1) k).2.size ≤ maxLen from fun k => by have := HZ.out (1 + k); unfold nthP at this ⊢; rwa [List.getD_eq_getElem?_getD, List.getElem?_drop, ← List.getD_eq_getElem?_getD])
      by_cases hc1' : c = 1
      · obtain rfl : m = 1 := by omega
        have HR := Lib.hid (show Pcs W W.heap.size (some ⟨b, off, none⟩) 0 0 (l.drop 1) by
          rw [List.drop_of_length_le (by have := HLEN.out; omega)]; exact Lst.empty _ _ _ _ _ (by unfold maxLen; omega))
        subst hc1'
        go_wp2_with fail
        refine (implStoreValid_any _ _ _ (l.drop 1) W.heap.size W HR.out (Nat.le_refl _) (fun k => HZ1.out k)).mono ?_
        rintro e w4 ⟨rfl, hb4⟩
        rw [store_tail HV.out]
        have HB4 := Lib.hid (HB3.out.trans (hb4.mono HB3.out.size))
        have HL4 := Lib.hid ((HL3.out.below hb4 (Nat.le_refl _)).more hb4.size)
        have hq0 : w4.cell? ⟨b, off, none⟩ = some (.int .i64 (nthP l 0).1) := (World.cell?_of_block (w := W) (w' := w4) (a := ⟨b, off, none⟩) (hb4.block b hb)).trans hc0
        have hq1 : w4.cell? ⟨b, off + 1, none⟩ = some (.string (nthP l 0).2) := (World.cell?_of_block (w := W) (w' := w4) (a := ⟨b, off + 1, none⟩) (hb4.block b hb)).trans hc1
        have hb' : b < w4.heap.size := Nat.lt_of_lt_of_le hb hb4.size
        have HO4 : Hid (OwnL pcG 28 2 (w4.alloc (.cells #[.int .i64 (nthP l 0).1, .string (nthP l 0).2] 28)) w4.heap.size (.slice (some ⟨w4.heap.size, 0, none⟩) 1 1) [nthP l 0]) := World.ownsRow_lit w4 #[.int .i64 (nthP l 0).1, .string (nthP l 0).2] 1 (Nat.le_refl _) (by decide) rfl
        have HL5 := Lib.hid (Lst.alloc HL4.out (Nat.le_refl _) (.cells #[.int .i64 (nthP l 0).1, .string (nthP l 0).2] 28))
        clear hb4 HL4 HB3 HL3 hc0 hc1
        go_wp2_with (first
          | (at_builtin; refine wpList_appLW eltPc encPc HO4.out HL5.out (by simp) (by omega) (le_alloc (Nat.le_refl _) _) (by first | rfl | simp [Region.wanted, yielded]) _ _ rfl rfl rfl ?_; intro v6 w6 hown6 hgr6 hat6; obtain ⟨x6, n6, c6, rfl, hl6⟩ := hown6.lst; have HL6 := Lib.hid hl6; have HB6 := Lib.hid (HB4.out.trans (below_own (((Below.refl w4.heap.size w4).alloc (Nat.le_refl _) (.cells #[.int .i64 (nthP l 0).1, .string (nthP l 0).2] 28)).mono HB4.out.size) hgr6 (le_alloc HB4.out.size _) (fun k e => Nat.le_trans HB4.out.size (HO4.out.at k e)))); clear hown6 hgr6 hat6 hl6)
          | (go_at_call 12; refine (implStoreValid_any _ _ _ _ _ _ HL6.out (Nat.le_refl _) (twice_small HZ.out)).mono ?_; rintro e w7 ⟨rfl, hb7⟩; rw [store_twice HF.out.1]; have HB7 := Lib.hid (HB6.out.trans (hb7.mono HB6.out.size)); clear hb7))
        go_ret
        exact ⟨rfl, HB7.out⟩
      · have HR := Lib.hid (show Pcs W W.heap.size (some ⟨b, off + 2, none⟩) (m - 1) (c - 1) (l.drop 1) from Lst.rest encPc HL3.out (m := 1) (by omega))
        have hm1 : 1 ≤ m := hm0
        go_wp2_with fail
        refine (implStoreValid_any _ _ _ (l.drop 1) W.heap.size W HR.out (Nat.le_refl _) (fun k => HZ1.out k)).mono ?_
        rintro e w4 ⟨rfl, hb4⟩
        rw [store_tail HV.out]
        have HB4 := Lib.hid (HB3.out.trans (hb4.mono HB3.out.size))
        have HL4 := Lib.hid ((HL3.out.below hb4 (Nat.le_refl _)).more hb4.size)
        have hq0 : w4.cell? ⟨b, off, none⟩ = some (.int .i64 (nthP l 0).1) := (World.cell?_of_block (w := W) (w' := w4) (a := ⟨b, off, none⟩) (hb4.block b hb)).trans hc0
        have hq1 : w4.cell? ⟨b, off + 1, none⟩ = some (.string (nthP l 0).2) := (World.cell?_of_block (w := W) (w' := w4) (a := ⟨b, off + 1, none⟩) (hb4.block b hb)).trans hc1
        have hb' : b < w4.heap.size := Nat.lt_of_lt_of_le hb hb4.size
        have HO4 : Hid (OwnL pcG 28 2 (w4.alloc (.cells #[.int .i64 (nthP l 0).1, .string (nthP l 0).2] 28)) w4.heap.size (.slice (some ⟨w4.heap.size, 0, none⟩) 1 1) [nthP l 0]) := World.ownsRow_lit w4 #[.int .i64 (nthP l 0).1, .string (nthP l 0).2] 1 (Nat.le_refl _) (by decide) rfl
        have HL5 := Lib.hid (Lst.alloc HL4.out (Nat.le_refl _) (.cells #[.int .i64 (nthP l 0).1, .string (nthP l 0).2] 28))
        clear hb4 HL4 HB3 HL3 hc0 hc1
        go_wp2_with (first
          | (at_builtin; refine wpList_appLW eltPc encPc HO4.out HL5.out (by simp) (by omega) (le_alloc (Nat.le_refl _) _) (by first | rfl | simp [Region.wanted, yielded]) _ _ rfl rfl rfl ?_; intro v6 w6 hown6 hgr6 hat6; obtain ⟨x6, n6, c6, rfl, hl6⟩ := hown6.lst; have HL6 := Lib.hid hl6; have HB6 := Lib.hid (HB4.out.trans (below_own (((Below.refl w4.heap.size w4).alloc (Nat.le_refl _) (.cells #[.int .i64 (nthP l 0).1, .string (nthP l 0).2] 28)).mono HB4.out.size) hgr6 (le_alloc HB4.out.size _) (fun k e => Nat.le_trans HB4.out.size (HO4.out.at k e)))); clear hown6 hgr6 hat6 hl6)
          | (go_at_call 12; refine (implStoreValid_any _ _ _ _ _ _ HL6.out (Nat.le_refl _) (twice_small HZ.out)).mono ?_; rintro e w7 ⟨rfl, hb7⟩; rw [store_twice HF.out.1]; have HB7 := Lib.hid (HB6.out.trans (hb7.mono HB6.out.size)); clear hb7))
        go_ret
        exact ⟨rfl, HB7.out⟩
end Go.Proofs.Ytpjndkiclfoanaa
