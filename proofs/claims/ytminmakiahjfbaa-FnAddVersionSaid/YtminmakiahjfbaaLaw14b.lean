/-
  The walks of chapter 14's laws on lines and added versions.
-/
import Derived.Test.YtminmakiahjfbaaLaw14
namespace Go.Proofs.Ytminmakiahjfbaa
open Go.RowKit
set_option linter.unusedVariables false
set_option maxHeartbeats 2000000 in
set_option maxRecDepth 100000 in
theorem fnLineOf_any (x : Option Addr) (n cap : Nat) (w : World) (h : Bytes w.heap.size w x n) (hn : n ≤ cap) (hc : cap ≤ maxLen) :
    Calls Try.prog 5 #[.slice x n cap] w fun e w' => e = .returned (.bool true) ∧ Below w.heap.size w w' := by
  by_cases hlong : 1048576 < (n : Int)
  · go_enter Try.func5, Try.ntmps5
    go_wp2
    go_ret
    exact ⟨rfl, Below.refl _ _⟩
  · have HB0 := Lib.hid h
    have HC := Lib.hid hc
    have HLE := Lib.hid hn
    clear h hc hn
    go_enter Try.func5, Try.ntmps5
    go_wp2_with fail
    refine (drawLineOf_any x n cap w HB0.out HLE.out HC.out).mono ?_
    rintro e w1 ⟨y, m, c, l, p, rfl, h14, hsm, hl, hb⟩
    have HB := Lib.hid hb; have HL := Lib.hid hl; have HZ := Lib.hid (max_of hsm (by decide)); have HLEN := Lib.hid hl.len
    have hm14 : m ≤ 14 := by have := hl.len; omega
    clear hb hl hsm
    go_wp2_with fail
    refine (implLineOf_any y m c l p _ _ HL.out (Nat.le_refl _) HZ.out).mono ?_
    rintro e w2 ⟨v2, rfl, ho, hb⟩
    obtain ⟨z, k0, d, rfl, hi⟩ := ho.ints
    have HB2 := Lib.hid (HB.out.trans (hb.mono HB.out.size)); have HL2 := Lib.hid ((HL.out.below hb (Nat.le_refl _)).more hb.size); have HX2 := Lib.hid hi
    clear ho hi hb
    go_wp2_with fail
    refine (specLineOf_any y m c l p _ _ HL2.out (Nat.le_refl _) HZ.out).mono ?_
    rintro e w3 ⟨v3, rfl, ho, hb⟩
    obtain ⟨z3, k3, d3, rfl, hi⟩ := ho.ints
    have HB3 := Lib.hid (HB2.out.trans (hb.mono HB2.out.size)); have HL3 := Lib.hid ((HL2.out.below hb (Nat.le_refl _)).more hb.size); have HX3 := Lib.hid ((HX2.out.below hb (Nat.le_refl _)).more hb.size); have HY3 := Lib.hid hi
    clear ho hi hb HL HL2 HX2
    have HK := Lib.hid HX3.out.len
    have hk12 : k0 ≤ 12 := by have := lineB_len l p; have := HX3.out.len; omega
    go_wp2_with fail
    refine (sameInts_any _ _ _ _ _ _ (lineB l p) (lineB l p) _ _ HX3.out HY3.out).mono ?_
    rintro e w4 hq
    have hb := hq.below
    obtain ⟨rfl, _⟩ := hq
    rw [decide_eq_true (rfl : lineB l p = lineB l p)]
    have HB4 := Lib.hid (HB3.out.trans (hb.mono HB3.out.size)); have HL4 := Lib.hid ((HL3.out.below hb (Nat.le_refl _)).more hb.size); have HX4 := Lib.hid ((HX3.out.below hb (Nat.le_refl _)).more hb.size)
    clear hb HL3 HX3 HY3
    by_cases h0 : k0 = 0
    · subst h0
      go_wp2_with fail
      refine (alive_any _).mono ?_
      rintro e w' ⟨rfl, rfl⟩
      go_wp2_with fail
      go_ret
      exact ⟨rfl, HB4.out⟩
    have hne : ((k0 : Int) == 0) = false := by simp; try omega
    obtain ⟨f1, f2, f3⟩ := line_facts (l := l) (m := p) (by intro e; have := HK.out; rw [e] at this; simp at this; omega)
    have F1 := Lib.hid f1; have F2 := Lib.hid f2; have F3 := Lib.hid f3
    clear f1 f2 f3
    obtain ⟨X, hX⟩ : ∃ X, lineB l p = X := ⟨_, rfl⟩
    rw [hX] at HX4 HK F1 F2 F3
    clear hX
    obtain ⟨i0, hi0⟩ : ∃ i0, k0 = i0 + 1 := ⟨k0 - 1, by omega⟩
    have HI0 := Lib.hid hi0
    have hk1 : 1 ≤ k0 := by omega
    clear hi0 h0
    go_wp2_with fail
    go_loopw [6] (fun i wr => ∃ k : Nat, 1 ≤ k ∧ k ≤ k0 ∧ i = .int .i64 k ∧ ∃ q, wr = w4.drewN q) (fun i _ => k0 - (intOf i).toNat)
    case atStart => exact ⟨1, by omega, by omega, rfl, 0, rfl⟩
    case round =>
      obtain ⟨k, hk1', hk, rfl, q, rfl⟩ := hrel
      by_cases hlt : k < k0
      · obtain ⟨i, hi⟩ : ∃ i, k = i + 1 := ⟨k - 1, by omega⟩
        obtain ⟨a, b, g1, g2, g3, g4, g5⟩ := F2.out i (by have := HK.out; omega)
        rw [← hi] at g2
        obtain ⟨bx, ox, rfl, hbx, ck⟩ := HX4.out.at hlt
        obtain ⟨bx', ox', e', _, ci⟩ := HX4.out.at (show i < k0 by omega)
        simp only [Option.some.injEq, Addr.mk.injEq, and_true] at e'
        obtain ⟨rfl, rfl⟩ := e'
        have ham : a < m := by have := HLEN.out; omega
        obtain ⟨bl, ol, rfl, hbl, q0, q1, q2⟩ := HL4.out.atV ham
        rw [g1] at ci
        rw [g2] at ck
        rw [g5] at q1
        have hw9 : IntKind.i64.wrap ((k : Int) - 1) = (i : Int) := by rw [IntKind.wrap_i64]; omega
        have hii : i < k0 := by omega
        have hi0 : (0 : Int) ≤ (i : Int) := by omega
        have hik : (i : Int) < (k0 : Int) := by omega
        have t1 : decide ((b : Int) < 0) = false := by simp; try omega
        have t2 : decide ((a : Int) ≤ (b : Int)) = false := by simp; try omega
        have t2' : decide (a ≤ b) = false := by simp; try omega
        have t3 : decide ((m : Int) ≤ (a : Int)) = false := by simp; try omega
        have t3' : decide (m ≤ a) = false := by simp; try omega
        have t4 : ((b : Int) != (b : Int)) = false := by simp
        clear g1 g2 g5 q0 q2 hi
        go_wp2
        go_quiet (fail)
        go_wp2
        go_roundw
        case rel => exact ⟨k + 1, by omega, by omega, by go_num, _, by first | rfl | rw [World.drewN_drewN]⟩
        case measure => simp [intOf]; omega
      · obtain rfl : k = k0 := by omega
        obtain ⟨a, g1, g2, g3⟩ := F3.out
        have hl1 : X.length - 1 = i0 := by have := HK.out; have := HI0.out; omega
        rw [hl1] at g1
        obtain ⟨bx, ox, rfl, hbx, c0⟩ := HX4.out.at (show 0 < k by omega)
        obtain ⟨bx', ox', e', _, ci⟩ := HX4.out.at (show i0 < k by have := HI0.out; omega)
        simp only [Option.some.injEq, Addr.mk.injEq, and_true] at e'
        obtain ⟨rfl, rfl⟩ := e'
        have ham : a < m := by have := HLEN.out; omega
        obtain ⟨bl, ol, rfl, hbl, q0, q1, q2⟩ := HL4.out.atV ham
        rw [g1] at ci
        rw [F1.out, Nat.add_zero] at c0
        rw [g3] at q1
        have hw9 : IntKind.i64.wrap ((k : Int) - 1) = (i0 : Int) := by have := HI0.out; rw [IntKind.wrap_i64]; omega
        have hik : (i0 : Int) < (k : Int) := by have := HI0.out; omega
        have hik2 : i0 < k := by have := HI0.out; omega
        have h0k : (0 : Int) < (k : Int) := by omega
        have h0k2 : 0 < k := by omega
        have hami : (a : Int) < (m : Int) := by omega
        clear g1 g3 q0 q2
        go_wp2_with fail
        go_ret
        exact ⟨ret_bool (by simp), below_drewN HB4.out _⟩
/-! ### an added version -/
theorem Ints.rest {w : World} {B b off k cap : Nat} {u : Int} {X : List Int} (h : Ints w B (some ⟨b, off, none⟩) (k + 1) cap (u :: X)) : Ints w B (some ⟨b, off + 1, none⟩) k (cap - 1) X := by
  have h1 := h.len; have h2 := h.le; have h3 := h.max
  refine ⟨by simpa using h1, by omega, by omega, fun j v hv => ?_⟩
  obtain ⟨b', off', e, hb, hc⟩ := h.rds (j + 1) v (by simpa using hv)
  simp only [Option.some.injEq, Addr.mk.injEq, and_true] at e
  obtain ⟨rfl, rfl⟩ := e
  exact ⟨b, off + 1, rfl, hb, by rw [show off + 1 + j = off + (j + 1) by omega]; exact hc⟩
theorem Ints.none {w : World} {B cap : Nat} {x : Option Addr} (h : cap ≤ maxLen) : Ints w B x 0 cap [] := ⟨rfl, Nat.zero_le _, h, Rds.nil _ _ _⟩
theorem addV_not {l L : List Ver} {v : Ver} (h : addV l v = (L, false)) : L = l ∨ L = [] := by
  unfold addV at h
  split at h
  · exact .inr (Prod.mk.inj h).1.symm
  · split at h
    · cases h
    · exact .inl (Prod.mk.inj h).1.symm
theorem addV_yep {l L : List Ver} {v : Ver} (h : addV l v = (L, true)) : versB l = true ∧ versB L = true ∧ L = l ++ [v] := by
  unfold addV at h
  split at h
  · cases h
  · rename_i h1
    split at h
    · rename_i h2
      have e := (Prod.mk.inj h).1
      exact ⟨by simpa using h1, by rw [← e]; exact h2, e.symm⟩
    · cases h
set_option maxHeartbeats 4000000 in
set_option maxRecDepth 100000 in
theorem fnAddVersion_any (x : Option Addr) (n cap : Nat) (w : World) (h : Bytes w.heap.size w x n) (hn : n ≤ cap) (hc : cap ≤ maxLen) :
    Calls Try.prog 4 #[.slice x n cap] w fun e w' => e = .returned (.bool true) ∧ Below w.heap.size w w' := by
  by_cases hlong : 1048576 < (n : Int)
  · go_enter Try.func4, Try.ntmps4
    go_wp2
    go_ret
    exact ⟨rfl, Below.refl _ _⟩
  · have HB0 := Lib.hid h
    have HC := Lib.hid hc
    have HLE := Lib.hid hn
    clear h hc hn
    go_enter Try.func4, Try.ntmps4
    go_wp2_with fail
    refine (drawAddVersion_any x n cap w HB0.out HLE.out HC.out).mono ?_
    rintro e w1 ⟨y, m, c, l, v, rfl, h14, hsm, hvs, hl, hb⟩
    have hvm : v.2.2.size ≤ maxLen := Nat.le_trans hvs (by decide)
    have HVM := Lib.hid hvm; have HVS := Lib.hid (show v.2.2.size ≤ 2000000 from Nat.le_trans hvs (by decide))
    have HZ := Lib.hid (max_of hsm (by decide)); have HLEN := Lib.hid hl.len
    have HZ2 := Lib.hid (vers_snoc_small HZ.out hvm)
    have hm14 : m ≤ 14 := by have := hl.len; omega
    have HAL := Lib.hid ((Below.refl w1.heap.size w1).alloc (Nat.le_refl _) (.cells #[.int .i64 v.1, .int .i64 v.2.1, .string v.2.2] 27))
    have HNEW := Lib.hid (heap_alloc_new w1 (.cells #[.int .i64 v.1, .int .i64 v.2.1, .string v.2.2] 27))
    have HL := Lib.hid ((hl.below HAL.out (Nat.le_refl _)).more HAL.out.size); have HB := Lib.hid (hb.trans (HAL.out.mono hb.size))
    clear hb hl hsm hvs hvm
    go_wp2_with fail
    refine (implAddVersion_any y m c l v _ _ HL.out (Nat.le_refl _) HZ.out HVS.out).mono ?_
    rintro e w2 ⟨v2, rfl, ho, hb⟩
    obtain ⟨x2, n2, c2, rfl, hi⟩ := ho.lst
    have HN2 := Lib.hid ((hb.block w1.heap.size (by simp)).trans HNEW.out)
    have hs2 : w1.heap.size < w2.heap.size := Nat.lt_of_lt_of_le (by simp) hb.size
    have HB2 := Lib.hid (HB.out.trans (hb.mono HB.out.size)); have HL2 := Lib.hid ((HL.out.below hb (Nat.le_refl _)).more hb.size); have HX2 := Lib.hid hi
    clear ho hi hb
    obtain ⟨a0, a1, a2, b0, b1, b2⟩ := three_full HN2.out
    go_wp2_with fail
    refine (specAddVersion_any y m c l v _ _ HL2.out (Nat.le_refl _) HZ.out HVM.out).mono ?_
    rintro e w3 ⟨v3, rfl, ho, hb⟩
    obtain ⟨x3, n3, c3, rfl, hi⟩ := ho.lst
    have HN3 := Lib.hid ((hb.block w1.heap.size hs2).trans HN2.out)
    have hs3 : w1.heap.size < w3.heap.size := Nat.lt_of_lt_of_le hs2 hb.size
    have HB3 := Lib.hid (HB2.out.trans (hb.mono HB2.out.size)); have HL3 := Lib.hid ((HL2.out.below hb (Nat.le_refl _)).more hb.size); have HX3 := Lib.hid ((HX2.out.below hb (Nat.le_refl _)).more hb.size); have HY3 := Lib.hid hi
    clear ho hi hb a0 a1 a2 b0 b1 b2 HL HL2 HX2
    obtain ⟨⟨L, g⟩, hD⟩ : ∃ R, addV l v = R := ⟨_, rfl⟩
    have HD := Lib.hid hD
    simp only [hD] at HX3 HY3 ⊢
    clear hD
    have HLN := Lib.hid HX3.out.len
    go_wp2_with fail
    refine (sameVersions_any _ _ _ _ _ _ L L _ _ HX3.out HY3.out).mono ?_
    rintro e w4 hq
    have hb := hq.below
    obtain ⟨rfl, _⟩ := hq
    rw [decide_eq_true (rfl : L = L)]
    have HN4 := Lib.hid ((hb.block w1.heap.size hs3).trans HN3.out)
    have hs4 : w1.heap.size < w4.heap.size := Nat.lt_of_lt_of_le hs3 hb.size
    have HB4 := Lib.hid (HB3.out.trans (hb.mono HB3.out.size)); have HL4 := Lib.hid ((HL3.out.below hb (Nat.le_refl _)).more hb.size); have HX4 := Lib.hid ((HX3.out.below hb (Nat.le_refl _)).more hb.size)
    clear hb HL3 HX3 HY3
    cases g
    · have hnot := addV_not HD.out
      by_cases hll : L = l
      · go_wp2_with (first
          | (go_at_call 20; refine (sameVersions_any _ _ _ _ _ _ L l _ _ HX4.out HL4.out).mono ?_; rintro e w5 hq; have hb := hq.below; obtain ⟨rfl, _⟩ := hq; rw [decide_eq_true hll]; have HB5 := Lib.hid (HB4.out.trans (hb.mono HB4.out.size)); clear hb)
          | (go_at_call 16; refine (alive_any _).mono ?_; rintro e w' ⟨rfl, rfl⟩))
        go_ret
        exact ⟨ret_bool (by simp), HB5.out⟩
      · have hL0 : L = [] := hnot.resolve_left hll
        have hn0 : n2 = 0 := by have := HLN.out; rw [hL0] at this; simpa using this.symm
        subst hn0
        clear hnot hL0
        go_wp2_with (first
          | (go_at_call 20; refine (sameVersions_any _ _ _ _ _ _ L l _ _ HX4.out HL4.out).mono ?_; rintro e w5 hq; have hb := hq.below; obtain ⟨rfl, _⟩ := hq; rw [decide_eq_false hll]; have HB5 := Lib.hid (HB4.out.trans (hb.mono HB4.out.size)); clear hb)
          | (go_at_call 16; refine (alive_any _).mono ?_; rintro e w' ⟨rfl, rfl⟩))
        go_ret
        exact ⟨ret_bool (by simp), HB5.out⟩
    · obtain ⟨hv1, hv2, hL⟩ := addV_yep HD.out
      have HV2 := Lib.hid hv2
      have HLINE := Lib.hid (show lineB L (m : Int) = (m : Int) :: lineB l v.2.1 by
        have h1 := line_added (l := l) (v := v) (by rw [← hL]; exact hv2)
        have h2 : (l.length : Int) = (m : Int) := by have := HLEN.out; omega
        rw [h2] at h1
        rw [hL]; exact h1)
      have HZL := Lib.hid (show ∀ k, (nthV L k).2.2.size ≤ maxLen by rw [hL]; exact HZ2.out)
      have hX12 := lineB_len l v.2.1
      obtain ⟨X, hX⟩ : ∃ X, lineB l v.2.1 = X := ⟨_, rfl⟩
      have HXX := Lib.hid hX
      rw [hX] at HLINE hX12
      clear hX hv1 hv2 hL
      go_wp2_with fail
      refine (implLineOf_any _ _ _ L (m : Int) _ _ HX4.out (Nat.le_refl _) HZL.out).mono ?_
      rintro e w5 ⟨v5, rfl, ho, hb⟩
      rw [HLINE.out] at ho
      obtain ⟨x5, n5, c5, rfl, hi⟩ := ho.ints
      obtain ⟨b5, o5, rfl, _, _⟩ := hi.at (k := 0) (by have := hi.len; simp at this; omega)
      have hn5 : n5 = X.length + 1 := by have := hi.len; simp at this; omega
      have HN5 := Lib.hid ((hb.block w1.heap.size hs4).trans HN4.out)
      have hs5 : w1.heap.size < w5.heap.size := Nat.lt_of_lt_of_le hs4 hb.size
      have HB5 := Lib.hid (HB4.out.trans (hb.mono HB4.out.size)); have HL5 := Lib.hid ((HL4.out.below hb (Nat.le_refl _)).more hb.size); have HX5 := Lib.hid ((HX4.out.below hb (Nat.le_refl _)).more hb.size); have HI5 := Lib.hid hi
      clear ho hi hb HL4 HX4
      obtain ⟨a0, a1, a2, b0, b1, b2⟩ := three_full HN5.out
      go_wp2_with fail
      refine (implLineOf_any y m c l v.2.1 _ _ HL5.out (Nat.le_refl _) HZ.out).mono ?_
      rintro e w6 ⟨v6, rfl, ho, hb⟩
      rw [HXX.out] at ho
      obtain ⟨x6, n6, c6, rfl, hi⟩ := ho.ints
      have hn6 : n6 = X.length := by have := hi.len; omega
      have HB6 := Lib.hid (HB5.out.trans (hb.mono HB5.out.size)); have HX6 := Lib.hid ((HX5.out.below hb (Nat.le_refl _)).more hb.size); have HI6 := Lib.hid ((HI5.out.below hb (Nat.le_refl _)).more hb.size); have HJ6 := Lib.hid hi
      clear ho hi hb a0 a1 a2 b0 b1 b2 HX5 HI5
      subst hn6
      subst hn5
      have hc5 := HI6.out.le; have hm5 := HI6.out.max
      unfold maxLen at hm5
      obtain ⟨k, hk⟩ : ∃ k, X.length = k := ⟨_, rfl⟩
      rw [hk] at HI6 HJ6 hc5 hX12 ⊢
      have HK := Lib.hid hk
      clear hk
      have hw1 : IntKind.i64.wrap ((k : Int) + 1) = ((k + 1 : Nat) : Int) := by rw [IntKind.wrap_i64]; omega
      by_cases hcap : c5 = 1
      · subst hcap
        obtain rfl : k = 0 := by omega
        have HX0 := Lib.hid (show X = [] from List.eq_nil_of_length_eq_zero HK.out)
        go_wp2_with (first
          | (go_at_call 14; refine (implVersionsValid_any _ _ _ L _ _ HX6.out (Nat.le_refl _) HZL.out).mono ?_; rintro e w7 ⟨rfl, hb⟩; rw [HV2.out]; have HB7 := Lib.hid (HB6.out.trans (hb.mono HB6.out.size)); have HI7 := Lib.hid ((HI6.out.below hb (Nat.le_refl _)).more hb.size); have HJ7 := Lib.hid ((HJ6.out.below hb (Nat.le_refl _)).more hb.size); obtain ⟨b', o', e', _, hc0⟩ := HI7.out.at (k := 0) (by omega); simp only [Option.some.injEq, Addr.mk.injEq, and_true] at e'; obtain ⟨rfl, rfl⟩ := e'; rw [Nat.add_zero] at hc0; have hcc : w7.cell? ⟨b5, o5, none⟩ = some (.int .i64 (m : Int)) := hc0; clear hb hc0)
          | (go_at_call 22; refine (sameInts_any _ _ _ _ _ _ X X _ _ (by rw [HX0.out]; exact Ints.none (by unfold maxLen; omega)) HJ7.out).mono ?_; rintro e w8 hq; have hb := hq.below; obtain ⟨rfl, _⟩ := hq; rw [decide_eq_true (rfl : X = X)]; have HB8 := Lib.hid (HB7.out.trans (hb.mono HB7.out.size)); clear hb))
        go_ret
        exact ⟨ret_bool (by simp), HB8.out⟩
      · have hcc5 : ¬ c5 = 1 := hcap
        have h1c : (1 : Int) ≤ (c5 : Int) := by omega
        have h1n : (1 : Int) ≤ ((k + 1 : Nat) : Int) := by omega
        go_wp2_with (first
          | (go_at_call 14; refine (implVersionsValid_any _ _ _ L _ _ HX6.out (Nat.le_refl _) HZL.out).mono ?_; rintro e w7 ⟨rfl, hb⟩; rw [HV2.out]; have HB7 := Lib.hid (HB6.out.trans (hb.mono HB6.out.size)); have HI7 := Lib.hid ((HI6.out.below hb (Nat.le_refl _)).more hb.size); have HJ7 := Lib.hid ((HJ6.out.below hb (Nat.le_refl _)).more hb.size); obtain ⟨b', o', e', _, hc0⟩ := HI7.out.at (k := 0) (by omega); simp only [Option.some.injEq, Addr.mk.injEq, and_true] at e'; obtain ⟨rfl, rfl⟩ := e'; rw [Nat.add_zero] at hc0; have hcc : w7.cell? ⟨b5, o5, none⟩ = some (.int .i64 (m : Int)) := hc0; clear hb hc0)
          | (go_at_call 22; refine (sameInts_any _ _ _ _ _ _ X X _ _ (Ints.rest HI7.out) HJ7.out).mono ?_; rintro e w8 hq; have hb := hq.below; obtain ⟨rfl, _⟩ := hq; rw [decide_eq_true (rfl : X = X)]; have HB8 := Lib.hid (HB7.out.trans (hb.mono HB7.out.size)); clear hb))
        go_ret
        exact ⟨ret_bool (by simp), HB8.out⟩
end Go.Proofs.Ytminmakiahjfbaa
