/-
  The walks of chapter 15's laws (turned out of chapter 6's by gen/law15.py).
-/
import Derived.Test.YtiniadlpgomgjaaDraw19
import Derived.Test.YtiniadlpgomgjaaImpl15
import Derived.Test.YtiniadlpgomgjaaArgsBr
import Derived.Test.YtiniadlpgomgjaaLaw6c
namespace Go.Proofs.Ytiniadlpgomgjaa
open Go.RowKit
set_option linter.unusedVariables false
theorem brs_twice0 {l : List Ent} {many : Int} (h : l ≠ []) : brsB ([nthE l 0] ++ l) many = false := by
  cases l with
  | nil => exact absurd rfl h
  | cons q r => exact brs_twice
theorem lessE_all {l : List Ent} {nm : ByteArray} (h : ¬ (lessE l nm).length < l.length) : lessE l nm = l := (less_sub l nm).eq_of_length_le (by omega)
theorem dropBr_cases (l : List Ent) (many : Int) (nm : ByteArray) : (dropBr l many nm = ([], false) ∨ dropBr l many nm = (l, false)) ∨ ((dropBr l many nm).2 = true ∧ brsB l many = true ∧ (dropBr l many nm).1.length + 1 = l.length ∧ brsB (dropBr l many nm).1 many = true ∧ atBr (dropBr l many nm).1 many nm = -1) := by
  cases h : brsB l many
  · exact .inl (.inl (dropBr_bad h))
  · rw [dropBr_ok h]
    by_cases hl : (lessE l nm).length < l.length
    · rw [decide_eq_true hl]
      exact .inr ⟨rfl, rfl, less_one (brs_asc h) hl, dropBr_valid nm h, less_gone l many nm⟩
    · rw [decide_eq_false hl, lessE_all hl]
      exact .inl (.inr rfl)
theorem putBr_cases (l : List Ent) (many : Int) (p : Ent) : (putBr l many p = ([], false) ∨ putBr l many p = (l, false)) ∨ (brsB l many = true ∧ brsB (putInE l p) many = true ∧ putBr l many p = (putInE l p, true)) := by
  cases h : brsB l many
  · exact .inl (.inl (putBr_bad h))
  · cases h2 : brsB (putInE l p) many
    · exact .inl (.inr (putBr_no h h2))
    · exact .inr ⟨rfl, rfl, putBr_yes h h2⟩
theorem dropBr_small {l : List Ent} {many : Int} (nm : ByteArray) (h : ∀ k, (nthE l k).1.size ≤ maxLen) : ∀ k, (nthE (dropBr l many nm).1 k).1.size ≤ maxLen := by
  cases hv : brsB l many
  · rw [dropBr_bad hv]; exact nines_sub h (List.nil_sublist _)
  · rw [dropBr_ok hv]; exact nines_sub h (less_sub l nm)
theorem below_ofDrew15 {w w' : World} (h : Below w.drew.heap.size w.drew w') : Below w.heap.size w w' := ⟨h.os, h.tape, h.output, h.size, h.block⟩
theorem putBr_facts {l L : List Ent} {many : Int} {p : Ent} (h : putBr l many p = (L, true)) (hz : ∀ k, (nthE l k).1.size ≤ maxLen) (hp : p.1.size ≤ maxLen) :
    brsB L many = true ∧ atBr L many p.1 = p.2 ∧ dropBr L many p.1 = ((dropBr l many p.1).1, true) ∧ ∀ k, (nthE L k).1.size ≤ maxLen := by
  rcases putBr_cases l many p with (e | e) | ⟨h1, h2, e⟩
  · rw [h, Prod.mk.injEq] at e; cases e.2
  · rw [h, Prod.mk.injEq] at e; cases e.2
  · rw [h, Prod.mk.injEq] at e
    obtain rfl := e.1
    obtain ⟨g1, g2, g3⟩ := setBr_facts h1 h2
    exact ⟨h2, g1, by rw [g2, g3], put_sizes rfl hz hp⟩
set_option maxHeartbeats 2000000 in
set_option maxRecDepth 100000 in
theorem fnBranchesValid_any (x : Option Addr) (n cap : Nat) (w : World) (h : Bytes w.heap.size w x n) (hn : n ≤ cap) (hc : cap ≤ maxLen) :
    Calls Try.prog 3 #[.slice x n cap] w fun e w' => e = .returned (.bool true) ∧ Below w.heap.size w w' := by
  by_cases hlong : 1048576 < (n : Int)
  · go_enter Try.func3, Try.ntmps3
    go_wp2
    go_ret
    exact ⟨rfl, Below.refl _ _⟩
  · have HB0 := Lib.hid h
    have HC := Lib.hid hc
    have HLE := Lib.hid hn
    clear h hc hn
    go_enter Try.func3, Try.ntmps3
    go_wp2_with fail
    refine (drawBranchesValid_any x n cap w HB0.out HLE.out HC.out).mono ?_
    rintro e w1 ⟨y, m, c, l, many, rfl, hl7, hz, hl, hb⟩
    have HB := Lib.hid hb; have HL := Lib.hid hl; have HZ := Lib.hid (nines_max hz); clear hb hl hz
    have HLEN := Lib.hid HL.out.len
    have hm4 : m ≤ 7 := by have := HLEN.out; omega
    have hmc := HL.out.le
    go_wp2_with fail
    refine (implBranchesValid_any _ _ _ l many _ _ HL.out (Nat.le_refl _) HZ.out).mono ?_
    rintro e w2 ⟨rfl, hb⟩
    have HB2 := Lib.hid (HB.out.trans (hb.mono HB.out.size))
    have HL2 := Lib.hid ((HL.out.below hb (Nat.le_refl _)).more hb.size)
    clear hb HL HB
    go_wp2_with fail
    refine (specBranchesValid_any _ _ _ l many _ _ HL2.out HZ.out).mono ?_
    rintro e W hq
    have hb := hq.below
    obtain ⟨rfl, _⟩ := hq
    have HB3 := Lib.hid (HB2.out.trans (hb.mono HB2.out.size))
    have HL3 := Lib.hid ((HL2.out.below hb (Nat.le_refl _)).more hb.size)
    clear HB2 HL2 hb
    cases hv : brsB l many
    · clear hv
      go_wp2_with (first
        | (go_at_call 14; refine (alive_any _).mono ?_; rintro e w' ⟨rfl, rfl⟩))
      go_ret
      exact ⟨rfl, HB3.out⟩
    · have HV := Lib.hid hv
      clear hv
      by_cases h0 : m = 0
      · subst h0
        go_wp2_with (first
          | (go_at_call 14; refine (alive_any _).mono ?_; rintro e w' ⟨rfl, rfl⟩))
        go_ret
        exact ⟨rfl, HB3.out⟩
      have hm0 : 0 < m := by omega
      have hmz : ((m : Int) == 0) = false := by simp; omega
      clear h0
      have HNE := Lib.hid (show l ≠ [] by intro e; have := HLEN.out; rw [e] at this; simp at this; omega)
      obtain ⟨b, off, rfl, hb, hc0, hc1⟩ := HL3.out.atE (k := 0) hm0
      rw [Nat.zero_mul, Nat.add_zero] at hc0
      rw [Nat.zero_mul, Nat.add_zero] at hc1
      have HZ1 := Lib.hid (show ∀ k, (nthE (l.drop 1) k).1.size ≤ maxLen from fun k => by have := HZ.out (1 + k); unfold nthE at this ⊢; rwa [List.getD_eq_getElem?_getD, List.getElem?_drop, ← List.getD_eq_getElem?_getD])
      by_cases hc1' : c = 1
      · obtain rfl : m = 1 := by omega
        have HR := Lib.hid (show Ents W W.heap.size (some ⟨b, off, none⟩) 0 0 (l.drop 1) by
          rw [List.drop_of_length_le (by have := HLEN.out; omega)]; exact Lst.empty _ _ _ _ _ (by unfold maxLen; omega))
        subst hc1'
        go_wp2_with fail
        refine (implBranchesValid_any _ _ _ (l.drop 1) many W.heap.size W HR.out (Nat.le_refl _) (fun k => HZ1.out k)).mono ?_
        rintro e w4 ⟨rfl, hb4⟩
        rw [brs_sub (List.drop_sublist 1 l) HV.out]
        have HB4 := Lib.hid (HB3.out.trans (hb4.mono HB3.out.size))
        have HL4 := Lib.hid ((HL3.out.below hb4 (Nat.le_refl _)).more hb4.size)
        have hq0 : w4.cell? ⟨b, off, none⟩ = some (.string (nthE l 0).1) := (World.cell?_of_block (w := W) (w' := w4) (a := ⟨b, off, none⟩) (hb4.block b hb)).trans hc0
        have hq1 : w4.cell? ⟨b, off + 1, none⟩ = some (.int .i64 (nthE l 0).2) := (World.cell?_of_block (w := W) (w' := w4) (a := ⟨b, off + 1, none⟩) (hb4.block b hb)).trans hc1
        have hb' : b < w4.heap.size := Nat.lt_of_lt_of_le hb hb4.size
        have HO4 : Hid (OwnL enG 29 2 (w4.alloc (.cells #[.string (nthE l 0).1, .int .i64 (nthE l 0).2] 29)) w4.heap.size (.slice (some ⟨w4.heap.size, 0, none⟩) 1 1) [nthE l 0]) := Lib.hid (World.ownsRow_lit w4 #[.string (nthE l 0).1, .int .i64 (nthE l 0).2] 1 (Nat.le_refl _) (by decide) rfl)
        have HL5 := Lib.hid (Lst.alloc HL4.out (Nat.le_refl _) (.cells #[.string (nthE l 0).1, .int .i64 (nthE l 0).2] 29))
        clear hb4 HB3 HL3 hc0 hc1
        go_wp2_with (first
          | (at_builtin; refine appLW eltBr encEn HO4.out HL5.out (by simp) (by omega) (le_alloc (Nat.le_refl _) _) (by first | rfl | simp [Region.wanted, yielded]) _ _ rfl rfl rfl ?_; intro v6 w6 hown6 hgr6 hat6; obtain ⟨x6, n6, c6, rfl, hl6⟩ := hown6.lst; have HL6 := Lib.hid hl6; have hbl6 := below_own ((Below.refl w4.heap.size w4).alloc (Nat.le_refl _) (.cells #[.string (nthE l 0).1, .int .i64 (nthE l 0).2] 29)) hgr6 (le_alloc (Nat.le_refl _) _) (fun k e => HO4.out.at k e); have HLQ6 := Lib.hid ((HL4.out.below hbl6 (Nat.le_refl _)).more hbl6.size); have HB6 := Lib.hid (HB4.out.trans (hbl6.mono HB4.out.size)); clear hbl6; clear hown6 hgr6 hat6 hl6)
          | (go_at_call 12; (with_reducible refine (implBranchesValid_any _ _ _ ([nthE l 0] ++ l) many _ _ HL6.out (Nat.le_refl _) (twice_smallE HZ.out)).mono ?_); rintro e w7 ⟨rfl, hb7⟩; rw [brs_twice0 HNE.out]; have HB7 := Lib.hid (HB6.out.trans (hb7.mono HB6.out.size)); have HLQ7 := Lib.hid ((HLQ6.out.below hb7 (Nat.le_refl _)).more hb7.size); clear hb7)
          | (go_at_call 12; (with_reducible refine (implBranchesValid_any _ _ _ l 0 _ _ HLQ7.out (Nat.le_refl _) HZ.out).mono ?_); rintro e w8 ⟨rfl, hb8⟩; rw [brs_zero HNE.out]; have HB8 := Lib.hid (HB7.out.trans (hb8.mono HB7.out.size)); clear hb8))
        go_ret
        exact ⟨rfl, HB8.out⟩
      · have HR := Lib.hid (show Ents W W.heap.size (some ⟨b, off + 2, none⟩) (m - 1) (c - 1) (l.drop 1) from Lst.rest encEn HL3.out (m := 1) (by omega))
        have hm1 : 1 ≤ m := hm0
        go_wp2_with fail
        refine (implBranchesValid_any _ _ _ (l.drop 1) many W.heap.size W HR.out (Nat.le_refl _) (fun k => HZ1.out k)).mono ?_
        rintro e w4 ⟨rfl, hb4⟩
        rw [brs_sub (List.drop_sublist 1 l) HV.out]
        have HB4 := Lib.hid (HB3.out.trans (hb4.mono HB3.out.size))
        have HL4 := Lib.hid ((HL3.out.below hb4 (Nat.le_refl _)).more hb4.size)
        have hq0 : w4.cell? ⟨b, off, none⟩ = some (.string (nthE l 0).1) := (World.cell?_of_block (w := W) (w' := w4) (a := ⟨b, off, none⟩) (hb4.block b hb)).trans hc0
        have hq1 : w4.cell? ⟨b, off + 1, none⟩ = some (.int .i64 (nthE l 0).2) := (World.cell?_of_block (w := W) (w' := w4) (a := ⟨b, off + 1, none⟩) (hb4.block b hb)).trans hc1
        have hb' : b < w4.heap.size := Nat.lt_of_lt_of_le hb hb4.size
        have HO4 : Hid (OwnL enG 29 2 (w4.alloc (.cells #[.string (nthE l 0).1, .int .i64 (nthE l 0).2] 29)) w4.heap.size (.slice (some ⟨w4.heap.size, 0, none⟩) 1 1) [nthE l 0]) := Lib.hid (World.ownsRow_lit w4 #[.string (nthE l 0).1, .int .i64 (nthE l 0).2] 1 (Nat.le_refl _) (by decide) rfl)
        have HL5 := Lib.hid (Lst.alloc HL4.out (Nat.le_refl _) (.cells #[.string (nthE l 0).1, .int .i64 (nthE l 0).2] 29))
        clear hb4 HB3 HL3 hc0 hc1
        go_wp2_with (first
          | (at_builtin; refine appLW eltBr encEn HO4.out HL5.out (by simp) (by omega) (le_alloc (Nat.le_refl _) _) (by first | rfl | simp [Region.wanted, yielded]) _ _ rfl rfl rfl ?_; intro v6 w6 hown6 hgr6 hat6; obtain ⟨x6, n6, c6, rfl, hl6⟩ := hown6.lst; have HL6 := Lib.hid hl6; have hbl6 := below_own ((Below.refl w4.heap.size w4).alloc (Nat.le_refl _) (.cells #[.string (nthE l 0).1, .int .i64 (nthE l 0).2] 29)) hgr6 (le_alloc (Nat.le_refl _) _) (fun k e => HO4.out.at k e); have HLQ6 := Lib.hid ((HL4.out.below hbl6 (Nat.le_refl _)).more hbl6.size); have HB6 := Lib.hid (HB4.out.trans (hbl6.mono HB4.out.size)); clear hbl6; clear hown6 hgr6 hat6 hl6)
          | (go_at_call 12; (with_reducible refine (implBranchesValid_any _ _ _ ([nthE l 0] ++ l) many _ _ HL6.out (Nat.le_refl _) (twice_smallE HZ.out)).mono ?_); rintro e w7 ⟨rfl, hb7⟩; rw [brs_twice0 HNE.out]; have HB7 := Lib.hid (HB6.out.trans (hb7.mono HB6.out.size)); have HLQ7 := Lib.hid ((HLQ6.out.below hb7 (Nat.le_refl _)).more hb7.size); clear hb7)
          | (go_at_call 12; (with_reducible refine (implBranchesValid_any _ _ _ l 0 _ _ HLQ7.out (Nat.le_refl _) HZ.out).mono ?_); rintro e w8 ⟨rfl, hb8⟩; rw [brs_zero HNE.out]; have HB8 := Lib.hid (HB7.out.trans (hb8.mono HB7.out.size)); clear hb8))
        go_ret
        exact ⟨rfl, HB8.out⟩
set_option maxHeartbeats 2000000 in
set_option maxRecDepth 100000 in
theorem fnDropBranch_any (x : Option Addr) (n cap : Nat) (w : World) (h : Bytes w.heap.size w x n) (hn : n ≤ cap) (hc : cap ≤ maxLen) :
    Calls Try.prog 6 #[.slice x n cap] w fun e w' => e = .returned (.bool true) ∧ Below w.heap.size w w' := by
  by_cases hlong : 1048576 < (n : Int)
  · go_enter Try.func6, Try.ntmps6
    go_wp2
    go_ret
    exact ⟨rfl, Below.refl _ _⟩
  · have HB0 := Lib.hid h
    have HC := Lib.hid hc
    have HLE := Lib.hid hn
    clear h hc hn
    go_enter Try.func6, Try.ntmps6
    go_wp2_with fail
    refine (drawDropBranch_any x n cap w HB0.out HLE.out HC.out).mono ?_
    rintro e w1 ⟨y, m, c, l, many, t, rfl, hl7, hz, ht9, hl, hb⟩
    have HB := Lib.hid hb; have HL := Lib.hid hl; have HZ := Lib.hid (nines_max hz); clear hb hl hz
    have HTM := Lib.hid (show t.size ≤ maxLen by unfold maxLen; omega)
    have HLEN := Lib.hid HL.out.len
    have hm4 : m ≤ 7 := by have := HLEN.out; omega
    go_wp2_with fail
    refine (implDropBranch_any _ _ _ l many t _ _ HL.out (Nat.le_refl _) HZ.out HTM.out).mono ?_
    rintro e w2 ⟨v2, rfl, ho, hb⟩
    obtain ⟨x2, n2, c2, rfl, hx⟩ := ho.lst
    have HB2 := Lib.hid (HB.out.trans (hb.mono HB.out.size))
    have HL2 := Lib.hid ((HL.out.below hb (Nat.le_refl _)).more hb.size)
    have HX2 := Lib.hid hx
    clear hb HL HB ho hx
    go_wp2_with fail
    refine (specDropBranch_any _ _ _ l many t _ _ HL2.out (Nat.le_refl _) HZ.out HTM.out).mono ?_
    rintro e w3 ⟨v3, rfl, ho, hb⟩
    obtain ⟨x3, n3, c3, rfl, hx⟩ := ho.lst
    have HB3 := Lib.hid (HB2.out.trans (hb.mono HB2.out.size))
    have HL3 := Lib.hid ((HL2.out.below hb (Nat.le_refl _)).more hb.size)
    have HX3 := Lib.hid ((HX2.out.below hb (Nat.le_refl _)).more hb.size)
    have HY3 := Lib.hid hx
    clear hb HL2 HB2 HX2 ho hx
    have HD := Lib.hid (dropBr_cases l many t); have HZD := Lib.hid (dropBr_small (many := many) t HZ.out)
    obtain ⟨R, hR⟩ : ∃ R, dropBr l many t = R := ⟨_, rfl⟩
    rw [hR] at HX3 HY3 HD HZD ⊢
    clear hR
    obtain ⟨L, O⟩ := R
    go_wp2_with fail
    refine (sameBranches_any _ _ _ _ _ _ L L _ _ HX3.out HY3.out).mono ?_
    rintro e w4 hq
    have hb := hq.below
    obtain ⟨rfl, _⟩ := hq
    rw [decide_eq_true (show L = L from rfl)]
    have HB4 := Lib.hid (HB3.out.trans (hb.mono HB3.out.size))
    have HL4 := Lib.hid ((HL3.out.below hb (Nat.le_refl _)).more hb.size)
    have HX4 := Lib.hid ((HX3.out.below hb (Nat.le_refl _)).more hb.size)
    clear hb HB3 HL3 HX3 HY3
    have HLX := Lib.hid HX4.out.len
    cases O
    · have HZ0 := Lib.hid (show L ≠ l → (n2 : Int) = 0 from fun h => by
        rcases HD.out with (e | e) | e
        · have h1 := HLX.out; rw [Prod.mk.injEq] at e; rw [e.1] at h1; simp at h1; omega
        · rw [Prod.mk.injEq] at e; exact absurd e.1 h
        · cases e.1)
      clear HD HZD
      by_cases hLl : L = l
      · clear HZ0
        go_wp2_with (first
          | (go_at_call 18; refine (sameBranches_any _ _ _ _ _ _ L l _ _ HX4.out HL4.out).mono ?_; rintro e w5 hq; have hb := hq.below; obtain ⟨rfl, _⟩ := hq; rw [decide_eq_true hLl]; have HB5 := Lib.hid (HB4.out.trans (hb.mono HB4.out.size)); clear hb)
          | (go_at_call 14; refine (alive_any _).mono ?_; rintro e w' ⟨rfl, rfl⟩))
        go_ret
        exact ⟨rfl, HB5.out⟩
      · obtain rfl : n2 = 0 := by have := HZ0.out hLl; omega
        clear HZ0
        go_wp2_with (first
          | (go_at_call 18; refine (sameBranches_any _ _ _ _ _ _ L l _ _ HX4.out HL4.out).mono ?_; rintro e w5 hq; have hb := hq.below; obtain ⟨rfl, _⟩ := hq; rw [decide_eq_false hLl]; have HB5 := Lib.hid (HB4.out.trans (hb.mono HB4.out.size)); clear hb)
          | (go_at_call 14; refine (alive_any _).mono ?_; rintro e w' ⟨rfl, rfl⟩))
        go_ret
        exact ⟨rfl, HB5.out⟩
    · obtain ⟨hlen, hev, hat⟩ : n2 + 1 = m ∧ brsB L many = true ∧ atBr L many t = -1 := by
        rcases HD.out with (e | e) | e
        · cases e
        · cases e
        · exact ⟨by have h1 := HLX.out; have h2 := HLEN.out; have h3 := e.2.2.1; (try simp only at h3); omega, e.2.2.2.1, e.2.2.2.2⟩
      have HEV := Lib.hid hev; have HAT := Lib.hid hat
      clear HD hev hat
      subst hlen
      have hw1 : IntKind.i64.wrap (((n2 + 1 : Nat) : Int) - 1) = (n2 : Int) := by rw [IntKind.wrap_i64]; omega
      go_wp2_with (first
        | (go_at_call 12; (with_reducible refine (implBranchesValid_any _ _ _ L many _ _ HX4.out (Nat.le_refl _) HZD.out).mono ?_); rintro e w5 ⟨rfl, hb⟩; rw [HEV.out]; have HB5 := Lib.hid (HB4.out.trans (hb.mono HB4.out.size)); have HX5 := Lib.hid ((HX4.out.below hb (Nat.le_refl _)).more hb.size); clear hb)
        | (go_at_call 20; (with_reducible refine (implBranchAt_any _ _ _ L many t _ _ HX5.out (Nat.le_refl _) HZD.out HTM.out).mono ?_); rintro e w6 ⟨rfl, hb⟩; rw [HAT.out]; have HB6 := Lib.hid (HB5.out.trans (hb.mono HB5.out.size)); clear hb))
      go_ret
      exact ⟨ret_bool (by simp), HB6.out⟩
set_option maxHeartbeats 4000000 in
set_option maxRecDepth 100000 in
theorem fnSetBranch_any (x : Option Addr) (n cap : Nat) (w : World) (h : Bytes w.heap.size w x n) (hn : n ≤ cap) (hc : cap ≤ maxLen) :
    Calls Try.prog 4 #[.slice x n cap] w fun e w' => e = .returned (.bool true) ∧ Below w.heap.size w w' := by
  by_cases hlong : 1048576 < (n : Int)
  · go_enter Try.func4, Try.ntmps4
    go_wp2
    go_ret
    exact ⟨rfl, Below.refl _ _⟩
  · have HB0 := Lib.hid h
    have HC := Lib.hid hc
    have HLE := Lib.hid hn
    clear h hc hn
    go_enter Try.func4, Try.ntmps4
    go_wp2_with fail
    refine (drawSetBranch_any x n cap w HB0.out HLE.out HC.out).mono ?_
    rintro e w0 ⟨y, m, c, l, many, p, rfl, hl7, hz, hp9, hl, hb⟩
    have HZ := Lib.hid (nines_max hz)
    have HPM := Lib.hid (show p.1.size ≤ maxLen by unfold maxLen; omega)
    obtain ⟨w1, hW⟩ : ∃ w1, w0.alloc (.cells #[.string p.1, .int .i64 p.2] 29) = w1 := ⟨_, rfl⟩
    have hs1 : w1.heap.size = w0.heap.size + 1 := by rw [← hW]; simp
    have hbx : w0.heap.size < w1.heap.size := by omega
    have HX1 := Lib.hid (show w1.heap[w0.heap.size]? = some (.cells #[.string p.1, .int .i64 p.2] 29 (0, 0)) by rw [← hW]; exact box_at)
    have HB := Lib.hid (show Below w.heap.size w w1 by rw [← hW]; exact hb.alloc hb.size _)
    have HL := Lib.hid (show Ents w1 w1.heap.size y m c l by rw [← hW]; exact (hl.alloc (Nat.le_refl _) _).more (by simp))
    have HLEN := Lib.hid HL.out.len
    have hm4 : m ≤ 7 := by have := HLEN.out; omega
    have hS1 := Lib.hid hs1
    clear hb hl hz hs1
    obtain ⟨d0, d1, g0, g1⟩ := two_at HX1.out
    go_wp2_with fail
    refine (implSetBranch_any _ _ _ l many p _ _ HL.out (Nat.le_refl _) HZ.out (by omega)).mono ?_
    rintro e w2 ⟨v2, rfl, ho, hb⟩
    obtain ⟨x2, n2, c2, rfl, hx⟩ := ho.lst
    have HB2 := Lib.hid (HB.out.trans (hb.mono HB.out.size))
    have HL2 := Lib.hid ((HL.out.below hb (Nat.le_refl _)).more hb.size)
    have HX2 := Lib.hid hx
    have HK2 := Lib.hid ((hb.block _ hbx).trans HX1.out)
    have hbx2 : w0.heap.size < w2.heap.size := Nat.lt_of_lt_of_le hbx hb.size
    clear hb HL HB ho hx d0 d1 g0 g1 HX1 hbx hW
    obtain ⟨d0, d1, g0, g1⟩ := two_at HK2.out
    go_wp2_with fail
    refine (specSetBranch_any _ _ _ l many p _ _ HL2.out (Nat.le_refl _) HZ.out HPM.out).mono ?_
    rintro e w3 ⟨v3, rfl, ho, hb⟩
    obtain ⟨x3, n3, c3, rfl, hx⟩ := ho.lst
    have HB3 := Lib.hid (HB2.out.trans (hb.mono HB2.out.size))
    have HL3 := Lib.hid ((HL2.out.below hb (Nat.le_refl _)).more hb.size)
    have HX3 := Lib.hid ((HX2.out.below hb (Nat.le_refl _)).more hb.size)
    have HY3 := Lib.hid hx
    have HK3 := Lib.hid ((hb.block _ hbx2).trans HK2.out)
    have hbx3 : w0.heap.size < w3.heap.size := Nat.lt_of_lt_of_le hbx2 hb.size
    clear hb HL2 HB2 HX2 ho hx d0 d1 g0 g1 HK2 hbx2
    have HPC := Lib.hid (putBr_cases l many p); have HPY := Lib.hid (fun L => putBr_facts (l := l) (L := L) (many := many) (p := p))
    obtain ⟨R, hR⟩ : ∃ R, putBr l many p = R := ⟨_, rfl⟩
    rw [hR] at HX3 HY3 HPC HPY ⊢
    have HR := Lib.hid hR
    clear hR
    obtain ⟨L, O⟩ := R
    go_wp2_with fail
    refine (sameBranches_any _ _ _ _ _ _ L L _ _ HX3.out HY3.out).mono ?_
    rintro e W hq
    have hb := hq.below
    obtain ⟨rfl, _⟩ := hq
    rw [decide_eq_true (show L = L from rfl)]
    have HB4 := Lib.hid (HB3.out.trans (hb.mono HB3.out.size))
    have HL4 := Lib.hid ((HL3.out.below hb (Nat.le_refl _)).more hb.size)
    have HX4 := Lib.hid ((HX3.out.below hb (Nat.le_refl _)).more hb.size)
    have HK4 := Lib.hid ((hb.block _ hbx3).trans HK3.out)
    have hbx4 : w0.heap.size < W.heap.size := Nat.lt_of_lt_of_le hbx3 hb.size
    clear hb HB3 HL3 HX3 HY3 HK3 hbx3
    have HLX := Lib.hid HX4.out.len
    cases O
    · have HZ0 := Lib.hid (show L ≠ l → (n2 : Int) = 0 from fun h => by
        rcases HPC.out with (e | e) | e
        · have h1 := HLX.out; rw [Prod.mk.injEq] at e; rw [e.1] at h1; simp at h1; omega
        · rw [Prod.mk.injEq] at e; exact absurd e.1 h
        · rw [Prod.mk.injEq] at e; cases e.2.2.2)
      clear HPC HPY HR
      by_cases hLl : L = l
      · clear HZ0
        go_wp2_with (first
          | (go_at_call 18; refine (sameBranches_any _ _ _ _ _ _ L l _ _ HX4.out HL4.out).mono ?_; rintro e w5 hq; have hb := hq.below; obtain ⟨rfl, _⟩ := hq; rw [decide_eq_true hLl]; have HB5 := Lib.hid (HB4.out.trans (hb.mono HB4.out.size)); clear hb)
          | (go_at_call 14; refine (alive_any _).mono ?_; rintro e w' ⟨rfl, rfl⟩))
        go_ret
        exact ⟨rfl, HB5.out⟩
      · obtain rfl : n2 = 0 := by have := HZ0.out hLl; omega
        clear HZ0
        go_wp2_with (first
          | (go_at_call 18; refine (sameBranches_any _ _ _ _ _ _ L l _ _ HX4.out HL4.out).mono ?_; rintro e w5 hq; have hb := hq.below; obtain ⟨rfl, _⟩ := hq; rw [decide_eq_false hLl]; have HB5 := Lib.hid (HB4.out.trans (hb.mono HB4.out.size)); clear hb)
          | (go_at_call 14; refine (alive_any _).mono ?_; rintro e w' ⟨rfl, rfl⟩))
        go_ret
        exact ⟨rfl, HB5.out⟩
    · obtain ⟨hev, hat, hdr, hzl⟩ := HPY.out L rfl HZ.out HPM.out
      have HEV := Lib.hid hev; have HAT := Lib.hid hat; have HDR := Lib.hid hdr; have HZL := Lib.hid hzl
      clear HPC HPY HR hev hat hdr hzl
      obtain ⟨d0, d1, g0, g1⟩ := two_at HK4.out
      go_wp2_with fail
      refine (implDropBranch_any _ _ _ L many p.1 _ _ HX4.out (Nat.le_refl _) HZL.out HPM.out).mono ?_
      rintro e w6 ⟨v6, rfl, ho, hb⟩
      rw [HDR.out] at ho ⊢
      obtain ⟨A, hA⟩ : ∃ A, (dropBr l many p.1).1 = A := ⟨_, rfl⟩
      dsimp only at ho
      rw [hA] at ho
      obtain ⟨x6, n6, c6, rfl, hx⟩ := ho.lst
      have HB6 := Lib.hid (HB4.out.trans (hb.mono HB4.out.size))
      have HX6 := Lib.hid ((HX4.out.below hb (Nat.le_refl _)).more hb.size)
      have HL6 := Lib.hid ((HL4.out.below hb (Nat.le_refl _)).more hb.size)
      have HA6 := Lib.hid hx
      have HK6 := Lib.hid ((hb.block _ hbx4).trans HK4.out)
      have hbx6 : w0.heap.size < w6.heap.size := Nat.lt_of_lt_of_le hbx4 hb.size
      have HAA := Lib.hid hA
      clear hb HX4 HL4 HB4 HK4 ho hx d0 d1 g0 g1 hA hbx4
      obtain ⟨d0, d1, g0, g1⟩ := two_at HK6.out
      go_wp2_with fail
      refine (implDropBranch_any _ _ _ l many p.1 _ _ HL6.out (Nat.le_refl _) HZ.out HPM.out).mono ?_
      rintro e w7 ⟨v7, rfl, ho, hb⟩
      rw [HAA.out] at ho
      obtain ⟨x7, n7, c7, rfl, hx⟩ := ho.lst
      have HB7 := Lib.hid (HB6.out.trans (hb.mono HB6.out.size))
      have HX7 := Lib.hid ((HX6.out.below hb (Nat.le_refl _)).more hb.size)
      have HA7 := Lib.hid ((HA6.out.below hb (Nat.le_refl _)).more hb.size)
      have HC7 := Lib.hid hx
      have HK7 := Lib.hid ((hb.block _ hbx6).trans HK6.out)
      have hbx7 : w0.heap.size < w7.heap.size := Nat.lt_of_lt_of_le hbx6 hb.size
      clear hb HX6 HL6 HB6 HK6 ho hx d0 d1 g0 g1 HA6 hbx6
      obtain ⟨d0, d1, g0, g1⟩ := two_at HK7.out
      go_wp2_with fail
      have HXD := Lib.hid (Lst.drew HX7.out); have HAD := Lib.hid (Lst.drew HA7.out); have HCD := Lib.hid (Lst.drew HC7.out)
      have HKD := Lib.hid (show w7.drew.heap[w0.heap.size]? = some (.cells #[.string p.1, .int .i64 p.2] 29 (0, 0)) from HK7.out)
      have hbxd : w0.heap.size < w7.drew.heap.size := hbx7
      have hGe : ∀ (L L' : Nat → Bool) w', (∀ j, j < 22 → L j = L' j) → Below w7.drew.heap.size w7.drew w' → Below w7.drew.heap.size w7.drew w' := fun _ _ _ _ h => h
      refine region_vals (fun _ w' => Below w7.drew.heap.size w7.drew w') (fun j => match j with | 0 => .slice x2 n2 c2 | 1 => .int .i64 many | 2 => .bool true | 3 => .bool true | 4 => .slice x2 n2 c2 | 5 => .int .i64 many | 6 => .pointer (some ⟨w0.heap.size, 0, none⟩) | 7 => .string p.1 | 8 => .int .i64 p.2 | 9 => .pointer (some ⟨w0.heap.size, 1, none⟩) | 10 => .int .i64 p.2 | 11 => .bool true | 12 => .bool true | 13 => .bool true | 14 => .bool true | 15 => .bool true | 16 => .bool true | 17 => .slice x6 n6 c6 | 18 => .slice x7 n7 c7 | 19 => .bool true | 20 => .bool true | _ => .bool true) (by kernel_rfl) (by kernel_rfl) (by kernel_rfl) (Below.refl _ _) ?_ ?_ hGe
      · refine ⟨?_, ?_, ?_, ?_, ?_, ?_, ?_, ?_, ?_, ?_, ?_, ?_, ?_, ?_, ?_, ?_, ?_, ?_, ?_, ?_, ?_, ?_, trivial⟩
        · intro LVL aa ww hV hA hG hl hd K hK
          have HK := Lib.hid hK; have HG := Lib.hid hG; clear hK hG hl
          have k6 := hA 6 (.slice x2 n2 c2) rfl rfl
          clear hV hA hd
          go_simp
          exact HK.out _ _ ⟨rfl, HG.out⟩
        · intro LVL aa ww hV hA hG hl hd K hK
          have HK := Lib.hid hK; have HG := Lib.hid hG; clear hK hG hl
          have k4 := hA 4 (.int .i64 many) rfl rfl
          clear hV hA hd
          go_simp
          exact HK.out _ _ ⟨rfl, HG.out⟩
        · intro LVL aa ww hV hA hG hl hd K hK
          have HK := Lib.hid hK; have HG := Lib.hid hG; clear hK hG hl
          have v75 := hV 0 _ 75 rfl rfl rfl (by have h := hd; simp [Region.binds] at h; simp [h])
          have v76 := hV 1 _ 76 rfl rfl rfl (by have h := hd; simp [Region.binds] at h; simp [h])
          clear hV hA hd
          go_simp
          go_at_call 12
          refine (implBranchesValid_any _ _ _ L many _ _ (Lst.more (HXD.out.below HG.out (Nat.le_refl _)) HG.out.size) (Nat.le_refl _) HZL.out).mono ?_
          rintro e w9 ⟨rfl, hb9⟩
          rw [HEV.out]
          exact HK.out _ _ ⟨rfl, HG.out.trans (hb9.mono HG.out.size)⟩
        · intro LVL aa ww hV hA hG hl hd K hK
          have HK := Lib.hid hK; have HG := Lib.hid hG; clear hK hG hl
          have v77 := hV 2 _ 77 rfl rfl rfl (by have h := hd; simp [Region.binds] at h; simp [h])
          clear hV hA hd
          go_simp
          exact HK.out _ _ ⟨rfl, HG.out⟩
        · intro LVL aa ww hV hA hG hl hd K hK
          have HK := Lib.hid hK; have HG := Lib.hid hG; clear hK hG hl
          have v78 := hV 3 _ 78 rfl rfl rfl (by have h := hd; simp [Region.binds] at h; simp [h])
          have k6 := hA 6 (.slice x2 n2 c2) rfl rfl
          clear hV hA hd
          go_simp
          exact HK.out _ _ ⟨rfl, HG.out⟩
        · intro LVL aa ww hV hA hG hl hd K hK
          have HK := Lib.hid hK; have HG := Lib.hid hG; clear hK hG hl
          have v78 := hV 3 _ 78 rfl rfl rfl (by have h := hd; simp [Region.binds] at h; simp [h])
          have k4 := hA 4 (.int .i64 many) rfl rfl
          clear hV hA hd
          go_simp
          exact HK.out _ _ ⟨rfl, HG.out⟩
        · intro LVL aa ww hV hA hG hl hd K hK
          have HK := Lib.hid hK; have HG := Lib.hid hG; clear hK hG hl
          have v78 := hV 3 _ 78 rfl rfl rfl (by have h := hd; simp [Region.binds] at h; simp [h])
          have k5 := hA 5 (.pointer (some ⟨w0.heap.size, 0, none⟩)) rfl rfl
          clear hV hA hd
          go_simp
          exact HK.out _ _ ⟨rfl, HG.out⟩
        · intro LVL aa ww hV hA hG hl hd K hK
          have HK := Lib.hid hK; have HG := Lib.hid hG; clear hK hG hl
          have v78 := hV 3 _ 78 rfl rfl rfl (by have h := hd; simp [Region.binds] at h; simp [h])
          have v81 := hV 6 _ 81 rfl rfl rfl (by have h := hd; simp [Region.binds] at h; simp [h])
          clear hV hA hd
          obtain ⟨e0, e1, _, _⟩ := two_at ((HG.out.block w0.heap.size hbxd).trans HKD.out)
          go_simp
          exact HK.out _ _ ⟨rfl, HG.out⟩
        · intro LVL aa ww hV hA hG hl hd K hK
          have HK := Lib.hid hK; have HG := Lib.hid hG; clear hK hG hl
          have v78 := hV 3 _ 78 rfl rfl rfl (by have h := hd; simp [Region.binds] at h; simp [h])
          have v79 := hV 4 _ 79 rfl rfl rfl (by have h := hd; simp [Region.binds] at h; simp [h])
          have v80 := hV 5 _ 80 rfl rfl rfl (by have h := hd; simp [Region.binds] at h; simp [h])
          have v82 := hV 7 _ 82 rfl rfl rfl (by have h := hd; simp [Region.binds] at h; simp [h])
          clear hV hA hd
          go_simp
          go_at_call 20
          refine (implBranchAt_any _ _ _ L many p.1 _ _ (Lst.more (HXD.out.below HG.out (Nat.le_refl _)) HG.out.size) (Nat.le_refl _) HZL.out HPM.out).mono ?_
          rintro e w9 ⟨rfl, hb9⟩
          rw [HAT.out]
          exact HK.out _ _ ⟨rfl, HG.out.trans (hb9.mono HG.out.size)⟩
        · intro LVL aa ww hV hA hG hl hd K hK
          have HK := Lib.hid hK; have HG := Lib.hid hG; clear hK hG hl
          have v78 := hV 3 _ 78 rfl rfl rfl (by have h := hd; simp [Region.binds] at h; simp [h])
          have k5 := hA 5 (.pointer (some ⟨w0.heap.size, 0, none⟩)) rfl rfl
          clear hV hA hd
          go_simp
          exact HK.out _ _ ⟨rfl, HG.out⟩
        · intro LVL aa ww hV hA hG hl hd K hK
          have HK := Lib.hid hK; have HG := Lib.hid hG; clear hK hG hl
          have v78 := hV 3 _ 78 rfl rfl rfl (by have h := hd; simp [Region.binds] at h; simp [h])
          have v84 := hV 9 _ 84 rfl rfl rfl (by have h := hd; simp [Region.binds] at h; simp [h])
          clear hV hA hd
          obtain ⟨e0, e1, _, _⟩ := two_at ((HG.out.block w0.heap.size hbxd).trans HKD.out)
          go_simp
          exact HK.out _ _ ⟨rfl, HG.out⟩
        · intro LVL aa ww hV hA hG hl hd K hK
          have HK := Lib.hid hK; have HG := Lib.hid hG; clear hK hG hl
          have v78 := hV 3 _ 78 rfl rfl rfl (by have h := hd; simp [Region.binds] at h; simp [h])
          have v83 := hV 8 _ 83 rfl rfl rfl (by have h := hd; simp [Region.binds] at h; simp [h])
          have v85 := hV 10 _ 85 rfl rfl rfl (by have h := hd; simp [Region.binds] at h; simp [h])
          clear hV hA hd
          go_simp
          exact HK.out _ _ ⟨rfl, HG.out⟩
        · intro LVL aa ww hV hA hG hl hd K hK
          have HK := Lib.hid hK; have HG := Lib.hid hG; clear hK hG hl
          have v78 := hV 3 _ 78 rfl rfl rfl (by have h := hd; simp [Region.binds] at h; simp [h])
          have v86 := hV 11 _ 86 rfl rfl rfl (by have h := hd; simp [Region.binds] at h; simp [h])
          clear hV hA hd
          go_simp
          exact HK.out _ _ ⟨rfl, HG.out⟩
        · intro LVL aa ww hV hA hG hl hd K hK
          have HK := Lib.hid hK; have HG := Lib.hid hG; clear hK hG hl
          have v87 := hV 12 _ 87 rfl rfl rfl (by have h := hd; simp [Region.binds] at h; simp [h])
          clear hV hA hd
          go_simp
          exact HK.out _ _ ⟨rfl, HG.out⟩
        · intro LVL aa ww hV hA hG hl hd K hK
          have HK := Lib.hid hK; have HG := Lib.hid hG; clear hK hG hl
          have v88 := hV 13 _ 88 rfl rfl rfl (by have h := hd; simp [Region.binds] at h; simp [h])
          have k11 := hA 11 (.bool true) rfl rfl
          clear hV hA hd
          go_simp
          exact HK.out _ _ ⟨rfl, HG.out⟩
        · intro LVL aa ww hV hA hG hl hd K hK
          have HK := Lib.hid hK; have HG := Lib.hid hG; clear hK hG hl
          have v88 := hV 13 _ 88 rfl rfl rfl (by have h := hd; simp [Region.binds] at h; simp [h])
          have v89 := hV 14 _ 89 rfl rfl rfl (by have h := hd; simp [Region.binds] at h; simp [h])
          clear hV hA hd
          go_simp
          exact HK.out _ _ ⟨rfl, HG.out⟩
        · intro LVL aa ww hV hA hG hl hd K hK
          have HK := Lib.hid hK; have HG := Lib.hid hG; clear hK hG hl
          have v90 := hV 15 _ 90 rfl rfl rfl (by have h := hd; simp [Region.binds] at h; simp [h])
          clear hV hA hd
          go_simp
          exact HK.out _ _ ⟨rfl, HG.out⟩
        · intro LVL aa ww hV hA hG hl hd K hK
          have HK := Lib.hid hK; have HG := Lib.hid hG; clear hK hG hl
          have v91 := hV 16 _ 91 rfl rfl rfl (by have h := hd; simp [Region.binds] at h; simp [h])
          have k10 := hA 10 (.slice x6 n6 c6) rfl rfl
          clear hV hA hd
          go_simp
          exact HK.out _ _ ⟨rfl, HG.out⟩
        · intro LVL aa ww hV hA hG hl hd K hK
          have HK := Lib.hid hK; have HG := Lib.hid hG; clear hK hG hl
          have v91 := hV 16 _ 91 rfl rfl rfl (by have h := hd; simp [Region.binds] at h; simp [h])
          have k12 := hA 12 (.slice x7 n7 c7) rfl rfl
          clear hV hA hd
          go_simp
          exact HK.out _ _ ⟨rfl, HG.out⟩
        · intro LVL aa ww hV hA hG hl hd K hK
          have HK := Lib.hid hK; have HG := Lib.hid hG; clear hK hG hl
          have v91 := hV 16 _ 91 rfl rfl rfl (by have h := hd; simp [Region.binds] at h; simp [h])
          have v92 := hV 17 _ 92 rfl rfl rfl (by have h := hd; simp [Region.binds] at h; simp [h])
          have v93 := hV 18 _ 93 rfl rfl rfl (by have h := hd; simp [Region.binds] at h; simp [h])
          clear hV hA hd
          go_simp
          go_at_call 18
          refine (sameBranches_any _ _ _ _ _ _ A A _ _ (Lst.more (HAD.out.below HG.out (Nat.le_refl _)) HG.out.size) (Lst.more (HCD.out.below HG.out (Nat.le_refl _)) HG.out.size)).mono ?_
          rintro e w9 hq
          have hb9 := hq.below
          obtain ⟨rfl, _⟩ := hq
          rw [decide_eq_true (show A = A from rfl)]
          exact HK.out _ _ ⟨rfl, HG.out.trans (hb9.mono HG.out.size)⟩
        · intro LVL aa ww hV hA hG hl hd K hK
          have HK := Lib.hid hK; have HG := Lib.hid hG; clear hK hG hl
          have v91 := hV 16 _ 91 rfl rfl rfl (by have h := hd; simp [Region.binds] at h; simp [h])
          have v94 := hV 19 _ 94 rfl rfl rfl (by have h := hd; simp [Region.binds] at h; simp [h])
          clear hV hA hd
          go_simp
          exact HK.out _ _ ⟨rfl, HG.out⟩
        · intro LVL aa ww hV hA hG hl hd K hK
          have HK := Lib.hid hK; have HG := Lib.hid hG; clear hK hG hl
          have v95 := hV 20 _ 95 rfl rfl rfl (by have h := hd; simp [Region.binds] at h; simp [h])
          clear hV hA hd
          go_simp
          exact HK.out _ _ ⟨rfl, HG.out⟩
      · intro w9 hb9
        have HB9 := Lib.hid hb9
        clear hb9
        simp only [frameOf, Act.put, List.setIfInBounds_toArray, List.set_cons_succ, List.set_cons_zero]
        go_wp2
        go_ret
        exact ⟨rfl, HB7.out.trans ((below_ofDrew15 HB9.out).mono HB7.out.size)⟩
set_option maxHeartbeats 2000000 in
set_option maxRecDepth 100000 in
theorem fnBranchAt_any (x : Option Addr) (n cap : Nat) (w : World) (h : Bytes w.heap.size w x n) (hn : n ≤ cap) (hc : cap ≤ maxLen) :
    Calls Try.prog 5 #[.slice x n cap] w fun e w' => e = .returned (.bool true) ∧ Below w.heap.size w w' := by
  by_cases hlong : 1048576 < (n : Int)
  · go_enter Try.func5, Try.ntmps5
    go_wp2
    go_ret
    exact ⟨rfl, Below.refl _ _⟩
  · have HB0 := Lib.hid h
    have HC := Lib.hid hc
    have HLE := Lib.hid hn
    clear h hc hn
    go_enter Try.func5, Try.ntmps5
    go_wp2_with fail
    refine (drawBranchAt_any x n cap w HB0.out HLE.out HC.out).mono ?_
    rintro e w1 ⟨y, m, c, l, many, t, rfl, hl7, hz, ht9, hl, hb⟩
    have HB := Lib.hid hb; have HL := Lib.hid hl; have HZ := Lib.hid (nines_max hz); clear hb hl hz
    have HTM := Lib.hid (show t.size ≤ maxLen by unfold maxLen; omega)
    have HLEN := Lib.hid HL.out.len
    have hm4 : m ≤ 7 := by have := HLEN.out; omega
    go_wp2_with fail
    refine (implBranchAt_any _ _ _ l many t _ _ HL.out (Nat.le_refl _) HZ.out HTM.out).mono ?_
    rintro e w2 ⟨rfl, hb⟩
    have HB2 := Lib.hid (HB.out.trans (hb.mono HB.out.size))
    have HL2 := Lib.hid ((HL.out.below hb (Nat.le_refl _)).more hb.size)
    clear hb HL HB
    go_wp2_with fail
    refine (specBranchAt_any _ _ _ l many t _ _ HL2.out (Nat.le_refl _) HZ.out HTM.out).mono ?_
    rintro e w3 ⟨rfl, q, hq⟩
    have hb := below_drewN (Below.refl w2.heap.size w2) q
    rw [← hq] at hb
    have HB3 := Lib.hid (HB2.out.trans (hb.mono HB2.out.size))
    have HL3 := Lib.hid ((HL2.out.below hb (Nat.le_refl _)).more hb.size)
    clear hb hq HL2 HB2
    have HBAD := Lib.hid (atBr_bad (l := l) (many := many) (nm := t)); have HNO := Lib.hid (atBr_none (l := l) (many := many) (nm := t)); have HYES := Lib.hid (fun c => atBr_some (l := l) (many := many) (c := c) (nm := t))
    obtain ⟨N, hN⟩ : ∃ N, atBr l many t = N := ⟨_, rfl⟩
    rw [hN] at HBAD HNO HYES ⊢
    clear hN
    go_wp2_with fail
    go_loopw [7] (fun i wr => ∃ k : Nat, k ≤ m ∧ i = .int .i64 k ∧ Hid (∀ j, j < k → (nthE l j).1 ≠ t) ∧ Below w3.heap.size w3 wr) (fun i _ => m - (intOf i).toNat)
    case atStart => exact ⟨0, by omega, rfl, Lib.hid (fun j hj => absurd hj (Nat.not_lt_zero _)), Below.refl _ _⟩
    case round =>
      obtain ⟨k, hk, rfl, HNE, hb⟩ := hrel
      have HBW := Lib.hid hb
      have hsz := hb.size
      clear hb
      by_cases hlt : k < m
      · have hkl : k < l.length := by have := HLEN.out; omega
        cases hv : brsB l many
        · have HF := Lib.hid (HBAD.out hv)
          have HV := Lib.hid hv
          clear hv
          go_wp2_with (first
            | (go_at_call 12; refine (implBranchesValid_any _ _ _ l many _ _ (HL3.out.below HBW.out (Nat.le_refl _)) hsz HZ.out).mono ?_; rintro e w5 ⟨rfl, hb⟩; rw [HV.out]; have HB5 := Lib.hid (HB3.out.trans ((HBW.out.trans (hb.mono hsz)).mono HB3.out.size)); clear hb)
            | (go_at_call 14; refine (alive_any _).mono ?_; rintro e w' ⟨rfl, rfl⟩))
          go_ret
          exact ⟨ret_bool (by first | rfl | (rw [HF.out]; simp)), HB5.out⟩
        · obtain ⟨b, off, rfl, hbb, hc0, hc1⟩ := (HL3.out.below HBW.out (Nat.le_refl _)).atE hlt
          have HV := Lib.hid hv
          by_cases hx : (nthE l k).1 = t
          · have HF := Lib.hid (HYES.out (nthE l k).2 hv (findE_in (brs_asc hv) (by rw [← hx, nthE_get hkl]; exact List.getElem_mem hkl)))
            have hd1 : ((nthE l k).1.toList == t.toList) = true := by rw [hx]; simp
            clear hx hv hkl
            go_wp2_with (go_at_call 12; refine (implBranchesValid_any _ _ _ l many _ _ (HL3.out.below HBW.out (Nat.le_refl _)) hsz HZ.out).mono ?_; rintro e w5 ⟨rfl, hb⟩; rw [HV.out]; have HB5 := Lib.hid (HB3.out.trans ((HBW.out.trans (hb.mono hsz)).mono HB3.out.size)); have hq0 := (World.cell?_of_block (w := wr) (w' := w5) (a := ⟨b, off + k * 2, none⟩) (hb.block b (Nat.lt_of_lt_of_le hbb hsz))).trans hc0; have hq1 := (World.cell?_of_block (w := wr) (w' := w5) (a := ⟨b, off + k * 2 + 1, none⟩) (hb.block b (Nat.lt_of_lt_of_le hbb hsz))).trans hc1; clear hb)
            go_ret
            exact ⟨ret_bool (by first | rfl | (rw [HF.out]; simp)), HB5.out⟩
          · have HX := Lib.hid hx
            have hd1 : ((nthE l k).1.toList == t.toList) = false := by rw [str_beq]; simpa using hx
            clear hx hv hkl
            go_wp2_with (go_at_call 12; refine (implBranchesValid_any _ _ _ l many _ _ (HL3.out.below HBW.out (Nat.le_refl _)) hsz HZ.out).mono ?_; rintro e w5 ⟨rfl, hb⟩; rw [HV.out]; have HB5 := Lib.hid (HBW.out.trans (hb.mono hsz)); have hq0 := (World.cell?_of_block (w := wr) (w' := w5) (a := ⟨b, off + k * 2, none⟩) (hb.block b (Nat.lt_of_lt_of_le hbb hsz))).trans hc0; have hq1 := (World.cell?_of_block (w := wr) (w' := w5) (a := ⟨b, off + k * 2 + 1, none⟩) (hb.block b (Nat.lt_of_lt_of_le hbb hsz))).trans hc1; clear hb)
            go_roundw
            case rel => exact ⟨k + 1, by omega, by go_num, Lib.hid (fun j hj => by
              rcases Nat.lt_succ_iff_lt_or_eq.1 hj with h | rfl
              · exact HNE.out j h
              · exact HX.out), HB5.out⟩
            case measure => simp [intOf]; omega
      · have HF := Lib.hid (HNO.out (findE_not fun q hq => by
          obtain ⟨j, hj, e⟩ := List.mem_iff_getElem.1 hq
          rw [← e, ← nthE_get hj]
          exact HNE.out j (by have := HLEN.out; omega)))
        have HB5 := Lib.hid (HB3.out.trans (HBW.out.mono HB3.out.size))
        go_wp2_with (go_at_call 14; refine (alive_any _).mono ?_; rintro e w' ⟨rfl, rfl⟩)
        go_ret
        exact ⟨ret_bool (by first | rfl | (rw [HF.out]; simp)), HB5.out⟩
end Go.Proofs.Ytiniadlpgomgjaa
