/-
  Chapter 4's laws: JoinStores.
-/
import Derived.Test.YtpjndkiclfoanaaDraw7
import Derived.Test.YtpjndkiclfoanaaPlain4d
import Derived.Test.YtpjndkiclfoanaaImpl4f
namespace Go.Proofs.Ytpjndkiclfoanaa
open Go.RowKit
set_option linter.unusedVariables false
set_option maxHeartbeats 4000000 in
set_option maxRecDepth 100000 in
theorem fnJoinStores_any (x : Option Addr) (n cap : Nat) (w : World) (h : Bytes w.heap.size w x n) (hn : n ≤ cap) (hc : cap ≤ maxLen) :
    Calls Try.prog 6 #[.slice x n cap] w fun e w' => e = .returned (.bool true) ∧ Below w.heap.size w w' := by
  by_cases hlong : 1048576 < (n : Int)
  · go_enter Try.func6, Try.ntmps6
    go_wp2
    go_ret
    exact ⟨rfl, Below.refl _ _⟩
  · have HB0 := Lib.hid h
    have HC := Lib.hid hc
    have HLE := Lib.hid hn
    clear h hc hn
    go_enter Try.func6, Try.ntmps6
    go_wp2_with fail
    refine (drawJoinStores_any x n cap w HB0.out HLE.out HC.out).mono ?_
    rintro e w1 ⟨y, m, c, l, y', m', c', l', rfl, hl, hf, hl', hf', hb⟩
    have HB := Lib.hid hb; have HF := Lib.hid hf; have HF' := Lib.hid hf'; have HL := Lib.hid hl; have HL' := Lib.hid hl'; clear hb hf hf' hl hl' HB0 HC HLE
    have HZ := Lib.hid (show ∀ k, (nthP l k).2.size ≤ maxLen from fun k => Nat.le_trans (short_nth HF.out.2.2 k) (by unfold maxLen; omega))
    have HZ' := Lib.hid (show ∀ k, (nthP l' k).2.size ≤ maxLen from fun k => Nat.le_trans (short_nth HF'.out.2.2 k) (by unfold maxLen; omega))
    have HLEN := Lib.hid HL.out.len
    have HLEN' := Lib.hid HL'.out.len
    have hm41 : m ≤ 41 := by have := HLEN.out; have := HF.out.2.1; omega
    have hm41' : m' ≤ 41 := by have := HLEN'.out; have := HF'.out.2.1; omega
    have hmc := HL.out.le
    go_wp2_with fail
    refine (implJoinStores_any _ _ _ _ _ _ l l' _ _ HL.out HL'.out (Nat.le_refl _) HZ.out HZ'.out).mono ?_
    rintro e w2 ⟨v2, rfl, ho, hb⟩
    obtain ⟨x1, n1, c1, rfl, hx⟩ := ho.lst
    have HB2 := Lib.hid (HB.out.trans (hb.mono HB.out.size))
    have HL2 := Lib.hid ((HL.out.below hb (Nat.le_refl _)).more hb.size)
    have HK2 := Lib.hid ((HL'.out.below hb (Nat.le_refl _)).more hb.size)
    have HX2 := Lib.hid hx
    clear hb HL HL' HB ho hx
    go_wp2_with fail
    refine (specJoinStores_any _ _ _ _ _ _ l l' _ _ HL2.out HK2.out (Nat.le_refl _) HZ.out HZ'.out).mono ?_
    rintro e w3 ⟨v3, rfl, ho, hb⟩
    obtain ⟨x2, n2, c2, rfl, hx⟩ := ho.lst
    have HB3 := Lib.hid (HB2.out.trans (hb.mono HB2.out.size))
    have HL3 := Lib.hid ((HL2.out.below hb (Nat.le_refl _)).more hb.size)
    have HK3 := Lib.hid ((HK2.out.below hb (Nat.le_refl _)).more hb.size)
    have HX3 := Lib.hid ((HX2.out.below hb (Nat.le_refl _)).more hb.size)
    have HY3 := Lib.hid hx
    clear hb HL2 HB2 HX2 HK2 ho hx
    have HCM := Lib.hid (joinS_comm l l')
    obtain ⟨L, hL⟩ : ∃ L, L = joinSL l l' := ⟨_, rfl⟩
    obtain ⟨O, hO⟩ : ∃ O, O = joinSO l l' := ⟨_, rfl⟩
    rw [← hL, ← hO] at HCM
    rw [← hL] at HX3 HY3
    rw [← hO]
    have HLL := Lib.hid hL; have HOO := Lib.hid hO
    clear hL hO
    go_wp2_with fail
    refine (samePieces_any _ _ _ _ _ _ _ _ w3.heap.size _ HX3.out HY3.out).mono ?_
    rintro e w4 ⟨rfl, q, rfl⟩
    rw [decide_eq_true (show L = L from rfl)]
    obtain ⟨W, hW⟩ : ∃ W, W = w3.drewN q := ⟨_, rfl⟩
    have HB4 := Lib.hid (show Below w.heap.size w W by rw [hW]; exact below_drewN HB3.out q)
    have HL4 := Lib.hid (show Pcs W W.heap.size y m c l by rw [hW]; exact HL3.out.drewN q)
    have HK4 := Lib.hid (show Pcs W W.heap.size y' m' c' l' by rw [hW]; exact HK3.out.drewN q)
    have HX4 := Lib.hid (show Pcs W W.heap.size x1 n1 c1 L by rw [hW]; exact HX3.out.drewN q)
    rw [← hW]
    clear HB3 HL3 HK3 HX3 HY3 hW
    go_wp2_with fail
    refine (implJoinStores_any _ _ _ _ _ _ l' l _ _ HK4.out HL4.out (Nat.le_refl _) HZ'.out HZ.out).mono ?_
    rintro e w5 ⟨v5, rfl, ho, hb⟩
    rw [HCM.out.1] at ho
    rw [HCM.out.2]
    obtain ⟨x5, n5, c5, rfl, hx⟩ := ho.lst
    have HB5 := Lib.hid (HB4.out.trans (hb.mono HB4.out.size))
    have HL5 := Lib.hid ((HL4.out.below hb (Nat.le_refl _)).more hb.size)
    have HX5 := Lib.hid ((HX4.out.below hb (Nat.le_refl _)).more hb.size)
    have HA5 := Lib.hid hx
    clear hb HL4 HB4 HX4 HK4 ho hx
    cases O
    · obtain rfl : n1 = 0 := by
        have h1 := joinS_empty HOO.out.symm
        rw [← HLL.out] at h1
        have := HX5.out.len
        rw [h1] at this
        simp at this; omega
      go_wp2_with (first
        | (go_at_call 18; refine (samePieces_any _ _ _ _ _ _ _ _ w5.heap.size _ HA5.out HX5.out).mono ?_; rintro e w6 ⟨rfl, q5, rfl⟩; rw [decide_eq_true (show L = L from rfl)])
        | (go_at_call 14; refine (alive_any _).mono ?_; rintro e w' ⟨rfl, rfl⟩))
      go_ret
      exact ⟨rfl, below_drewN HB5.out _⟩
    · obtain ⟨hsL, hmL, hl1, hl2⟩ := joinS_holds HOO.out.symm
      rw [← HLL.out] at hsL hmL hl1 hl2
      rw [HX5.out.len, HLEN.out] at hl1
      rw [HX5.out.len, HLEN.out, HLEN'.out] at hl2
      have HZL := Lib.hid (show ∀ k, (nthP L k).2.size ≤ maxLen from fun k => Nat.le_trans (short_nth (store_short hsL) k) (by unfold maxLen; omega))
      have HSL := Lib.hid hsL; have HML := Lib.hid hmL
      have hk1 : (m : Int) ≤ (n1 : Int) := by omega
      have hk2 : (n1 : Int) ≤ (m : Int) + (m' : Int) := by omega
      clear hsL hmL hl1 hl2
      go_wp2_with fail
      refine (samePieces_any _ _ _ _ _ _ _ _ w5.heap.size _ HA5.out HX5.out).mono ?_
      rintro e w6 ⟨rfl, q5, rfl⟩
      rw [decide_eq_true (show L = L from rfl)]
      obtain ⟨W6, hW⟩ : ∃ W6, W6 = w5.drewN q5 := ⟨_, rfl⟩
      have HB6 := Lib.hid (show Below w.heap.size w W6 by rw [hW]; exact below_drewN HB5.out q5)
      have HL6 := Lib.hid (show Pcs W6 W6.heap.size y m c l by rw [hW]; exact HL5.out.drewN q5)
      have HX6 := Lib.hid (show Pcs W6 W6.heap.size x1 n1 c1 L by rw [hW]; exact HX5.out.drewN q5)
      rw [← hW]
      clear HB5 HL5 HX5 HA5 hW
      go_wp2_with fail
      go_loopw [11] (fun kv wr => ∃ k : Nat, k ≤ m ∧ kv = .int .i64 k ∧ Below W6.heap.size W6 wr) (fun kv _ => m - (intOf kv).toNat)
      case atStart => exact ⟨0, by omega, rfl, Below.refl _ _⟩
      case round =>
        obtain ⟨k, hk, rfl, hb⟩ := hrel
        have HW := Lib.hid hb; clear hb
        have hsz := HW.out.size
        by_cases hlt : k < m
        · have HGM := Lib.hid (got_mem HSL.out ((HML.out _).2 (.inl (nthP_mem (l := l) (k := k) (by have := HLEN.out; omega)))))
          obtain ⟨b, off, rfl, hbb, hc0, hc1⟩ := (HL6.out.below HW.out (Nat.le_refl _)).atP hlt
          have HC1 := Lib.hid hc1
          go_wp2_with (first
            | (go_at_call 19; refine (implGetText_any _ _ _ L _ W6.heap.size _ (HX6.out.below HW.out (Nat.le_refl _)) hsz HZL.out).mono ?_; rintro e w7 ⟨rfl, hb7⟩; rw [HGM.out.1, HGM.out.2]; have hd1 := (hb7.cell (p := ⟨b, off + k * 2 + 1, none⟩) (show b < _ from Nat.lt_of_lt_of_le hbb hsz)).trans HC1.out; have HB7 := Lib.hid (HW.out.trans (hb7.mono hsz)); clear hb7))
          go_roundw
          case rel => exact ⟨k + 1, by omega, by go_num, HB7.out⟩
          case measure => simp [intOf]; omega
        · go_wp2_with (first
            | (go_at_call 12; refine (implStoreValid_any _ _ _ L W6.heap.size _ (HX6.out.below HW.out (Nat.le_refl _)) hsz HZL.out).mono ?_; rintro e w8 ⟨rfl, hb8⟩; rw [HSL.out]; have HB8 := Lib.hid (HW.out.trans (hb8.mono hsz)); clear hb8))
          go_ret
          exact ⟨rfl, HB6.out.trans (HB8.out.mono HB6.out.size)⟩
end Go.Proofs.Ytpjndkiclfoanaa
