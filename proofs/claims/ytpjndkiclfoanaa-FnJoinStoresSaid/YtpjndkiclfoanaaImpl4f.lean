/-
  Contract of chapter 4's program: JoinStores.
-/
import Derived.Test.YtpjndkiclfoanaaImpl4e
import Derived.Test.YtpjndkiclfoanaaStores3
namespace Go.Proofs.Ytpjndkiclfoanaa
open Go.RowKit
set_option linter.unusedVariables false
theorem putP_putB {l : List Pc} {q : Pc} (h : storeB l = true) (hq : okPc q = true) : (putB l q.2).1 = (putP l q).1 ∧ (putB l q.2).2.2 = (putP l q).2 ∧ storeB (putP l q).1 = true := by
  obtain ⟨h1, h2⟩ := okPc_iff.1 hq
  obtain ⟨n, t⟩ := q
  simp only at h1 h2 ⊢
  subst h2
  rw [← show (putB l t).1 = (putP l (printB t, t)).1 by rw [putB_of h (printB_ge h1)]]
  exact ⟨rfl, by rw [putB_of h (printB_ge h1)], put_store h h1⟩
theorem store_ok {l : List Pc} {k : Nat} (h : storeB l = true) (hk : k < l.length) : okPc (nthP l k) = true := (storeB_iff.1 h).2.1 _ (nthP_mem hk)
set_option maxHeartbeats 1000000 in
theorem implJoinStores_any (x y : Option Addr) (n m c d : Nat) (a b : List Pc) (B : Nat) (w : World) (h : Pcs w B x n c a) (h' : Pcs w B y m d b) (hB : B ≤ w.heap.size) (hz : ∀ k, (nthP a k).2.size ≤ maxLen) (hz' : ∀ k, (nthP b k).2.size ≤ maxLen) :
    Calls Try.prog 24 #[.slice x n c, .slice y m d] w (NewPB (joinSL a b) (joinSO a b) w) := by
  have HH := Lib.hid h
  have HH' := Lib.hid h'
  cases ha : storeB a
  · have HF := Lib.hid (joinS_no (a := a) (b := b) (by rw [ha]; rfl))
    go_enter Try.func24, Try.ntmps24
    go_wp2_with (go_at_call 12; ((with_reducible refine (implStoreValid_any x n c a B _ HH.out hB hz).mono ?_); rintro e w2 ⟨rfl, hb2⟩; rw [ha]; have HB2 := Lib.hid hb2; clear hb2))
    go_ret2
    exact newPB_of HF.out.1 HF.out.2 ⟨_, rfl, OwnL.nil _ _ _ _ _, HB2.out⟩
  cases hb : storeB b
  · have HF := Lib.hid (joinS_no (a := a) (b := b) (by rw [ha, hb]; rfl))
    go_enter Try.func24, Try.ntmps24
    go_wp2_with (first
      | (go_at_call 12; ((with_reducible refine (implStoreValid_any x n c a B w HH.out hB hz).mono ?_); rintro e w2 ⟨rfl, hb2⟩; rw [ha]; have HH2 := Lib.hid (HH'.out.below hb2 hB); have HB2 := Lib.hid hb2; clear hb2))
      | (go_at_call 12; ((with_reducible refine (implStoreValid_any y m d b B w2 HH2.out (Nat.le_trans hB HB2.out.size) hz').mono ?_); rintro e w3 ⟨rfl, hb3⟩; rw [hb]; have HB3 := Lib.hid (HB2.out.trans (hb3.mono HB2.out.size)); clear hb3)))
    go_ret2
    exact newPB_of HF.out.1 HF.out.2 ⟨_, rfl, OwnL.nil _ _ _ _ _, HB3.out⟩
  have hab : (storeB a && storeB b) = true := by rw [ha, hb]; rfl
  have HAB := Lib.hid hab
  clear hab
  have HSA := Lib.hid ha
  have HSB := Lib.hid hb
  have HLB := Lib.hid h'.len
  have hm : m ≤ 40 := by have := (storeB_at hb).1; have := h'.len; omega
  have hn : n ≤ 40 := by have := (storeB_at ha).1; have := h.len; omega
  have hdm := h'.max
  have hmd := h'.le
  unfold maxLen at hdm
  have HSH := Lib.hid (show ∀ k, (nthP a k).2.size ≤ 1000000 from fun k => Nat.le_trans (short_nth (store_short ha) k) (by decide))
  clear h h'
  go_enter Try.func24, Try.ntmps24
  go_wp2_with (first
    | (go_at_call 12; ((with_reducible refine (implStoreValid_any x n c a B w HH.out hB hz).mono ?_); rintro e w2 ⟨rfl, hb2⟩; rw [ha]; have HA2 := Lib.hid (HH.out.below hb2 hB); have HH2 := Lib.hid (HH'.out.below hb2 hB); have HB2 := Lib.hid hb2; clear hb2))
    | (go_at_call 12; ((with_reducible refine (implStoreValid_any y m d b B w2 HH2.out (Nat.le_trans hB HB2.out.size) hz').mono ?_); rintro e w3 ⟨rfl, hb3⟩; rw [hb]; have HA3 := Lib.hid (HA2.out.below hb3 (Nat.le_trans hB HB2.out.size)); have HH3 := Lib.hid (HH2.out.below hb3 (Nat.le_trans hB HB2.out.size)); have HB3 := Lib.hid (HB2.out.trans (hb3.mono HB2.out.size)); clear hb3))
    | (go_at_call 40; refine (copyPieces_any x n c a B w3 HA3.out (Nat.le_trans hB HB3.out.size) HSH.out (by omega)).mono ?_; rintro e w4 ⟨v, rfl, ho, hb4⟩; have HO4 := Lib.hid (ho.mono HB3.out.size); have HH4 := Lib.hid (HH3.out.below hb4 (Nat.le_trans hB HB3.out.size)); have HB4 := Lib.hid (HB3.out.trans (hb4.mono HB3.out.size)); clear ho hb4))
  go_loopw [6, 8, 9, 22] (fun v _ _ i wr => ∃ (k : Nat) (out : List Pc), k ≤ m ∧ i = .int .i64 k ∧ joinGo a b = joinGo out (b.drop k) ∧ storeB out = true ∧ OwnP wr w.heap.size v out ∧ Pcs wr B y m d b ∧ Below w.heap.size w wr) (fun _ _ _ i _ => m - (intOf i).toNat)
  case atStart => exact ⟨0, a, by omega, rfl, by rw [List.drop_zero], HSA.out, HO4.out, HH4.out, HB4.out⟩
  case round =>
    obtain ⟨k, out, hk, rfl, hg, hso, ho, hy, hbw⟩ := hrel
    have HG := Lib.hid hg; have HSO := Lib.hid hso; have HY := Lib.hid hy; have HBW := Lib.hid hbw
    clear hg hy hbw
    by_cases hlt : k < m
    · have hkb : k < b.length := by have := HLB.out; omega
      obtain ⟨xo, no, co, rfl, hlo⟩ := ho.lst
      have hno : no ≤ 40 := by have := (storeB_at hso).1; have := hlo.len; omega
      have HASC := Lib.hid (store_asc hso)
      have HO := Lib.hid ho
      have hzk : (nthP b k).2.size ≤ 1000000 := Nat.le_trans (short_nth (store_short HSB.out) k) (by decide)
      obtain ⟨e1, e2, e3⟩ := putP_putB hso (store_ok HSB.out hkb)
      have HE1 := Lib.hid e1; have HE2 := Lib.hid e2; have HE3 := Lib.hid e3
      clear e1 e2 e3 ho hso hlo
      obtain ⟨b0, off, rfl, hb0, hc0, hc1⟩ := HY.out.atP hlt
      obtain ⟨q, hq⟩ : ∃ q, q = nthP b k := ⟨_, rfl⟩
      have HQ := Lib.hid hq
      rw [← hq] at hc0 hc1 hzk HE1 HE2 HE3
      clear hq
      cases hok : (putP out q).2
      · have HF := Lib.hid (joinS_none (HG.out.trans (joinGo_stop hkb (by rw [← HQ.out, HE2.out]; exact hok))))
        go_wp2_with (go_at_call 41; refine (putPiece_any xo no co w.heap.size out q _ (HO.out.alloc (.cells #[.int .i64 q.1, .string q.2] 28)) HASC.out hno hzk (Nat.le_trans HBW.out.size (by simp))).mono ?_; rintro e w5 ⟨v5, rfl, ho5, hb5⟩; rw [hok]; have HB5 := Lib.hid ((HBW.out.alloc HBW.out.size (.cells #[.int .i64 q.1, .string q.2] 28)).trans hb5); clear ho5 hb5)
        go_ret2
        exact newPB_of HF.out.1 HF.out.2 ⟨_, rfl, OwnL.nil _ _ _ _ _, HB5.out⟩
      · have HR := Lib.hid (HG.out.trans (joinGo_step hkb (by rw [← HQ.out, HE2.out]; exact hok)))
        rw [← HQ.out, HE1.out] at HR
        go_wp2_with (go_at_call 41; refine (putPiece_any xo no co w.heap.size out q _ (HO.out.alloc (.cells #[.int .i64 q.1, .string q.2] 28)) HASC.out hno hzk (Nat.le_trans HBW.out.size (by simp))).mono ?_; rintro e w5 ⟨v5, rfl, ho5, hb5⟩; rw [hok]; have HY5 := Lib.hid ((HY.out.alloc (Nat.le_trans hB HBW.out.size) (.cells #[.int .i64 q.1, .string q.2] 28)).below hb5 hB); have HO5 := Lib.hid ho5; have HB5 := Lib.hid ((HBW.out.alloc HBW.out.size (.cells #[.int .i64 q.1, .string q.2] 28)).trans hb5); clear ho5 hb5)
        go_roundw
        case rel => exact ⟨k + 1, _, by omega, by go_num, HR.out, HE3.out, HO5.out, HY5.out, HB5.out⟩
        case measure => simp [intOf]; omega
    · have HF := Lib.hid (joinS_some HAB.out (show joinGo a b = some out by rw [HG.out, List.drop_of_length_le (by have := HLB.out; omega)]; rfl))
      have HO := Lib.hid ho
      clear ho
      go_wp2
      go_ret2
      exact newPB_of HF.out.1 HF.out.2 ⟨_, rfl, HO.out, HBW.out⟩
end Go.Proofs.Ytpjndkiclfoanaa
