/-
  Chapter 4's laws: PutText.
-/
import Derived.Test.YtpjndkiclfoanaaDraw8
import Derived.Test.YtpjndkiclfoanaaPlain4c
import Derived.Test.YtpjndkiclfoanaaImpl4b
namespace Go.Proofs.Ytpjndkiclfoanaa
open Go.RowKit
set_option linter.unusedVariables false
set_option maxHeartbeats 4000000 in
set_option maxRecDepth 100000 in
theorem fnPutText_any (x : Option Addr) (n cap : Nat) (w : World) (h : Bytes w.heap.size w x n) (hn : n ≤ cap) (hc : cap ≤ maxLen) :
    Calls Try.prog 4 #[.slice x n cap] w fun e w' => e = .returned (.bool true) ∧ Below w.heap.size w w' := by
  by_cases hlong : 1048576 < (n : Int)
  · go_enter Try.func4, Try.ntmps4
    go_wp2
    go_ret
    exact ⟨rfl, Below.refl _ _⟩
  · have HB0 := Lib.hid h
    have HC := Lib.hid hc
    have HLE := Lib.hid hn
    clear h hc hn
    go_enter Try.func4, Try.ntmps4
    go_wp2_with fail
    refine (drawPutText_any x n cap w HB0.out HLE.out HC.out).mono ?_
    rintro e w1 ⟨y, m, c, l, t, rfl, ht, hl, hsh, h41, hb⟩
    have HB := Lib.hid hb; have HSH := Lib.hid hsh; have HL := Lib.hid hl; clear hb hsh hl HB0 HC HLE
    have HZ := Lib.hid (show ∀ k, (nthP l k).2.size ≤ maxLen from fun k => Nat.le_trans (short_nth HSH.out k) (by unfold maxLen; omega))
    have HTM := Lib.hid (show t.size ≤ maxLen by unfold maxLen; omega)
    have HLEN := Lib.hid HL.out.len
    have hm41 : m ≤ 41 := by have := HLEN.out; omega
    have hmc := HL.out.le
    clear h41
    have HPS := Lib.hid (put_short (m := 61) (t := t) (fun p hp => Nat.le_trans (HSH.out p hp) (by decide)) ht)
    go_wp2_with fail
    refine (implPutText_any _ _ _ l t _ _ HL.out (Nat.le_refl _) HZ.out HTM.out).mono ?_
    rintro e w2 ⟨v2, rfl, ho, hb⟩
    obtain ⟨x1, n1, c1, rfl, hx⟩ := ho.lst
    have HB2 := Lib.hid (HB.out.trans (hb.mono HB.out.size))
    have HL2 := Lib.hid ((HL.out.below hb (Nat.le_refl _)).more hb.size)
    have HX2 := Lib.hid hx
    clear hb HL HB ho hx
    go_wp2_with fail
    refine (specPutText_any _ _ _ l t _ _ HL2.out (Nat.le_refl _) HZ.out HTM.out).mono ?_
    rintro e w3 ⟨v3, rfl, ho, hb⟩
    obtain ⟨x2, n2, c2, rfl, hx⟩ := ho.lst
    have HB3 := Lib.hid (HB2.out.trans (hb.mono HB2.out.size))
    have HL3 := Lib.hid ((HL2.out.below hb (Nat.le_refl _)).more hb.size)
    have HX3 := Lib.hid ((HX2.out.below hb (Nat.le_refl _)).more hb.size)
    have HY3 := Lib.hid hx
    clear hb HL2 HB2 HX2 ho hx
    obtain ⟨R, hR⟩ : ∃ R, R = putB l t := ⟨_, rfl⟩
    rw [← hR] at HX3 HY3 HPS ⊢
    have HR := Lib.hid hR
    clear hR
    obtain ⟨L, P, O⟩ := R
    have hnn : n1 = n2 := by rw [← HX3.out.len, ← HY3.out.len]
    clear hnn
    go_wp2_with fail
    refine (samePieces_any _ _ _ _ _ _ _ _ w3.heap.size _ HX3.out HY3.out).mono ?_
    rintro e w4 ⟨rfl, q, rfl⟩
    rw [decide_eq_true (show L = L from rfl)]
    obtain ⟨W, hW⟩ : ∃ W, W = w3.drewN q := ⟨_, rfl⟩
    have HB4 := Lib.hid (show Below w.heap.size w W by rw [hW]; exact below_drewN HB3.out q)
    have HL4 := Lib.hid (show Pcs W W.heap.size y m c l by rw [hW]; exact HL3.out.drewN q)
    have HX4 := Lib.hid (show Pcs W W.heap.size x1 n1 c1 L by rw [hW]; exact HX3.out.drewN q)
    rw [← hW]
    clear HB3 HL3 HX3 HY3 hW
    cases O
    · obtain ⟨hp, hL⟩ := put_no (l := l) (t := t) (by rw [← HR.out])
      rw [← HR.out] at hp hL
      dsimp only at hp hL
      subst hp
      have HLC := Lib.hid hL
      clear hL
      have hz1 : L ≠ l → (n1 : Int) = 0 := fun h => by
        have := HX4.out.len
        rcases HLC.out with e | e
        · exact absurd e h
        · rw [e] at this; simp at this; omega
      by_cases hLl : L = l
      · clear hz1
        go_wp2_with (first
          | (go_at_call 18; refine (samePieces_any _ _ _ _ _ _ _ _ W.heap.size _ HX4.out HL4.out).mono ?_; rintro e w5 ⟨rfl, q5, rfl⟩; rw [decide_eq_true hLl])
          | (go_at_call 14; refine (alive_any _).mono ?_; rintro e w' ⟨rfl, rfl⟩))
        go_ret
        exact ⟨rfl, below_drewN HB4.out _⟩
      · obtain rfl : n1 = 0 := by have := hz1 hLl; omega
        clear hz1
        go_wp2_with (first
          | (go_at_call 18; refine (samePieces_any _ _ _ _ _ _ _ _ W.heap.size _ HX4.out HL4.out).mono ?_; rintro e w5 ⟨rfl, q5, rfl⟩; rw [decide_eq_false hLl])
          | (go_at_call 14; refine (alive_any _).mono ?_; rintro e w' ⟨rfl, rfl⟩))
        go_ret
        exact ⟨rfl, below_drewN HB4.out _⟩
    · obtain ⟨hs, htx, hP, hsL, hmL, hqL, hlen, hag⟩ := put_yes (l := l) (t := t) (by rw [← HR.out])
      rw [← HR.out] at hP hsL hmL hqL hlen hag
      dsimp only at hP hsL hmL hqL hlen hag
      subst hP
      obtain ⟨hg1, hg2⟩ := got_mem hsL hmL
      dsimp only at hg1 hg2
      have HZL := Lib.hid (show ∀ k, (nthP L k).2.size ≤ maxLen from fun k => Nat.le_trans (short_nth HPS.out k) (by unfold maxLen; omega))
      have HSL := Lib.hid hsL; have HQL := Lib.hid hqL; have HLL := Lib.hid hlen; have HAG := Lib.hid hag; have HG := Lib.hid (And.intro hg1 hg2)
      clear hs htx hsL hmL hqL hlen hag hg1 hg2 HPS
      go_wp2_with fail
      refine (implGetText_any _ _ _ L _ _ _ HX4.out (Nat.le_refl _) HZL.out).mono ?_
      rintro e w5 ⟨rfl, hb⟩
      rw [HG.out.1, HG.out.2]
      have HB5 := Lib.hid (HB4.out.trans (hb.mono HB4.out.size))
      have HL5 := Lib.hid ((HL4.out.below hb (Nat.le_refl _)).more hb.size)
      have HX5 := Lib.hid ((HX4.out.below hb (Nat.le_refl _)).more hb.size)
      clear hb HL4 HB4 HX4
      go_wp2_with fail
      refine (implPutText_any _ _ _ L t _ _ HX5.out (Nat.le_refl _) HZL.out HTM.out).mono ?_
      rintro e w6 ⟨v6, rfl, ho, hb⟩
      rw [HAG.out] at ho ⊢
      obtain ⟨x6, n6, c6, rfl, hx⟩ := ho.lst
      have HB6 := Lib.hid (HB5.out.trans (hb.mono HB5.out.size))
      have HL6 := Lib.hid ((HL5.out.below hb (Nat.le_refl _)).more hb.size)
      have HX6 := Lib.hid ((HX5.out.below hb (Nat.le_refl _)).more hb.size)
      have HA6 := Lib.hid hx
      clear hb HL5 HB5 HX5 ho hx
      have hln : (n1 : Int) ≤ (m : Int) + 1 := by have h1 := HLL.out; rw [HX6.out.len, HL6.out.len] at h1; omega
      go_wp2_with fail
      go_loopw [16] (fun kv wr => ∃ k : Nat, k ≤ m ∧ kv = .int .i64 k ∧ Below w6.heap.size w6 wr) (fun kv _ => m - (intOf kv).toNat)
      case atStart => exact ⟨0, by omega, rfl, Below.refl _ _⟩
      case round =>
        obtain ⟨k, hk, rfl, hb⟩ := hrel
        have HW := Lib.hid hb; clear hb
        have hsz := HW.out.size
        by_cases hlt : k < m
        · have HGM := Lib.hid (got_mem HSL.out (HQL.out _ (nthP_mem (l := l) (k := k) (by have := HLEN.out; omega))))
          obtain ⟨b, off, rfl, hbb, hc0, hc1⟩ := (HL6.out.below HW.out (Nat.le_refl _)).atP hlt
          have HC1 := Lib.hid hc1
          go_wp2_with (first
            | (go_at_call 19; refine (implGetText_any _ _ _ L _ w6.heap.size _ (HX6.out.below HW.out (Nat.le_refl _)) hsz HZL.out).mono ?_; rintro e w7 ⟨rfl, hb7⟩; rw [HGM.out.1, HGM.out.2]; have hd1 := (hb7.cell (p := ⟨b, off + k * 2 + 1, none⟩) (show b < _ from Nat.lt_of_lt_of_le hbb hsz)).trans HC1.out; have HB7 := Lib.hid (HW.out.trans (hb7.mono hsz)); clear hb7))
          go_roundw
          case rel => exact ⟨k + 1, by omega, by go_num, HB7.out⟩
          case measure => simp [intOf]; omega
        · go_wp2_with (first
            | (go_at_call 12; refine (implStoreValid_any _ _ _ L w6.heap.size _ (HX6.out.below HW.out (Nat.le_refl _)) hsz HZL.out).mono ?_; rintro e w8 ⟨rfl, hb8⟩; rw [HSL.out]; have HB8 := Lib.hid (HW.out.trans (hb8.mono hsz)); clear hb8)
            | (go_at_call 20; refine (printOf_any _ _ HTM.out).mono ?_; rintro e w' ⟨rfl, rfl⟩)
            | (go_at_call 18; refine (samePieces_any _ _ _ _ _ _ _ _ w6.heap.size _ (HA6.out.below HB8.out (Nat.le_refl _)) (HX6.out.below HB8.out (Nat.le_refl _))).mono ?_; rintro e w9 ⟨rfl, q9, rfl⟩; rw [decide_eq_true (show L = L from rfl)]))
          go_ret
          exact ⟨rfl, below_drewN (HB6.out.trans (HB8.out.mono HB6.out.size)) _⟩
end Go.Proofs.Ytpjndkiclfoanaa
