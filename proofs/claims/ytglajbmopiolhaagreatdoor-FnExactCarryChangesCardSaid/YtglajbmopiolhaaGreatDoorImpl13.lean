/-
  Chapter 13's program: a path is sought by halving.
-/
import Derived.Test.YtglajbmopiolhaaGreatDoorModel13
import Derived.Test.YtglajbmopiolhaaGreatDoorMath13
import Derived.Test.YtglajbmopiolhaaGreatDoorImpl11
import Derived.Test.YtglajbmopiolhaaGreatDoorImpl10b
namespace Go.Proofs.YtglajbmopiolhaaGreatDoor
open Go.RowKit
set_option linter.unusedVariables false
theorem isNaNSl_any (s : ByteArray) (w : World) : Calls Tryz.prog 96 #[.string s] w fun e w' => e = .returned (.bool false) ∧ w' = w := by
  go_enter Tryz.func96, Tryz.ntmps96
  go_wp2
  go_ret
  exact ⟨by simp, rfl⟩
theorem cmpLess_any (s t : ByteArray) (w : World) : Calls Tryz.prog 95 #[.string s, .string t] w fun e w' => e = .returned (.bool (ltN s t)) ∧ w' = w := by
  go_enter Tryz.func95, Tryz.ntmps95
  go_wp2_with (go_at_call 119; refine (isNaNS_any _ _).mono ?_; rintro e w' ⟨rfl, rfl⟩)
  go_ret
  exact ⟨rfl, rfl⟩
set_option maxHeartbeats 1000000 in
theorem searchS_any (x : Option Addr) (n cap : Nat) (l : List ByteArray) (t : ByteArray) (B : Nat) (w : World) (h : Strs w B x n cap l) (hB : B ≤ w.heap.size) (hs : ∀ i j, i < j → j < l.length → ltN (nthS l i) (nthS l j) = true) (hn : n ≤ 1000000) :
    Calls Tryz.prog 74 #[.slice x n cap, .string t] w fun e w' => (∃ i : Nat, e = .returned (.tuple #[.int .i64 i, .bool (inS l t)])) ∧ Below w.heap.size w w' := by
  have HL := Lib.hid h.len
  have HH := Lib.hid h
  have HS := Lib.hid hs
  have hmx := h.max
  have hle := h.le
  clear h hs
  unfold maxLen at hmx
  go_enter Tryz.func74, Tryz.ntmps74
  go_wp2
  go_loopw [7, 8, 9] (fun i j _ wr => ∃ a b : Nat, a ≤ b ∧ b ≤ n ∧ i = .int .i64 a ∧ j = .int .i64 b ∧ (∀ k, k < a → ltN (nthS l k) t = true) ∧ (∀ k, b ≤ k → k < n → ltN (nthS l k) t = false) ∧ Below w.heap.size w wr) (fun i j _ _ => (intOf j).toNat - (intOf i).toNat)
  case atStart => exact ⟨0, n, by omega, Nat.le_refl _, rfl, rfl, fun k hk => by omega, fun k hk hk' => by omega, Below.refl _ _⟩
  case round =>
    obtain ⟨a, b, hab, hbn, rfl, rfl, hlo, hhi, hb⟩ := hrel
    have HLO := Lib.hid hlo; have HHI := Lib.hid hhi; have HB := Lib.hid hb; clear hlo hhi hb
    by_cases hlt : a < b
    · have hmb : (a + b) / 2 < n := by omega
      obtain ⟨b0, off, rfl, hb0, hc⟩ := (HH.out.below HB.out hB).atS hmb
      obtain ⟨q, hq⟩ : ∃ q, q = nthS l ((a + b) / 2) := ⟨_, rfl⟩
      rw [← hq] at hc
      cases hx : ltN q t
      · have HX := Lib.hid (show ∀ k, (a + b) / 2 ≤ k → k < n → ltN (nthS l k) t = false from fun k hk hkn => by
          rcases Nat.lt_or_eq_of_le hk with h | rfl
          · have h1 := HS.out _ k h (by have := HL.out; omega); rw [← hq] at h1
            cases h2 : ltN (nthS l k) t
            · rfl
            · rw [ltN_trans h1 h2] at hx; cases hx
          · rw [← hq]; exact hx)
        have HXX := Lib.hid hx
        clear hq hx
        go_wp2_with (go_at_call 95; refine (cmpLess_any _ _ _).mono ?_; rintro e w' ⟨rfl, rfl⟩; rw [HXX.out])
        go_roundw
        case rel => exact ⟨a, (a + b) / 2, by omega, by omega, rfl, by go_num, HLO.out, HX.out, by first | exact HB.out | exact below_drewN HB.out _ | exact below_drewN HB.out 1⟩
        case measure => simp [intOf]; omega
      · have HX := Lib.hid (show ∀ k, k < (a + b) / 2 + 1 → ltN (nthS l k) t = true from fun k hk => by
          rcases Nat.lt_succ_iff_lt_or_eq.1 hk with h | rfl
          · have h1 := HS.out k _ h (by have := HL.out; omega); rw [← hq] at h1; exact ltN_trans h1 hx
          · rw [← hq]; exact hx)
        have HXX := Lib.hid hx
        clear hq hx
        go_wp2_with (go_at_call 95; refine (cmpLess_any _ _ _).mono ?_; rintro e w' ⟨rfl, rfl⟩; rw [HXX.out])
        go_roundw
        case rel => exact ⟨(a + b) / 2 + 1, b, by omega, hbn, by go_num, rfl, HX.out, HHI.out, by first | exact HB.out | exact below_drewN HB.out _ | exact below_drewN HB.out 1⟩
        case measure => simp [intOf]; omega
    · obtain rfl : a = b := by omega
      have HM := Lib.hid (halved (xs := l) (t := t) (a := a) HS.out HLO.out (fun k h1 h2 => HHI.out k h1 (by have := HL.out; omega)))
      by_cases hlt2 : a < n
      · obtain ⟨b0, off, rfl, hb0, hc⟩ := (HH.out.below HB.out hB).atS hlt2
        have HME := Lib.hid (show t ∈ l ↔ nthS l a = t from HM.out.trans ⟨fun h => h.2, fun h => ⟨by have := HL.out; omega, h⟩⟩)
        obtain ⟨q, hq⟩ : ∃ q, nthS l a = q := ⟨_, rfl⟩
        rw [hq] at hc HME
        have hd : ((a : Int) < (n : Int)) := by omega
        clear hq HM
        by_cases hx : q = t
        · have HF := Lib.hid (show inS l t = true from inS_yes (HME.out.2 hx))
          have hc2 : (q.toList == t.toList) = true := by rw [str_beq]; exact decide_eq_true hx
          clear hx
          go_wp2_with (go_at_call 96; refine (isNaNSl_any _ _).mono ?_; rintro e w' ⟨rfl, rfl⟩)
          go_ret2
          exact ⟨⟨a, by rw [HF.out]; rfl⟩, by first | exact HB.out | exact below_drewN HB.out _ | exact below_drewN HB.out 1⟩
        · have HF := Lib.hid (show inS l t = false from inS_no fun h => hx (HME.out.1 h))
          have hc2 : (q.toList == t.toList) = false := by rw [str_beq]; exact decide_eq_false hx
          clear hx
          go_wp2_with (go_at_call 96; refine (isNaNSl_any _ _).mono ?_; rintro e w' ⟨rfl, rfl⟩)
          go_ret2
          exact ⟨⟨a, by rw [HF.out]; rfl⟩, by first | exact HB.out | exact below_drewN HB.out _ | exact below_drewN HB.out 1⟩
      · have hd : ¬ ((a : Int) < (n : Int)) := by omega
        have HF := Lib.hid (show inS l t = false from inS_no fun h => hlt2 (by have := (HM.out.1 h).1; have := HL.out; omega))
        go_wp2
        go_ret2
        exact ⟨⟨a, by rw [HF.out]; rfl⟩, HB.out⟩
theorem hasPath_any (x : Option Addr) (n cap : Nat) (l : List ByteArray) (t : ByteArray) (B : Nat) (w : World) (h : Strs w B x n cap l) (hB : B ≤ w.heap.size) (hs : ∀ i j, i < j → j < l.length → ltN (nthS l i) (nthS l j) = true) (hn : n ≤ 1000000) :
    Calls Tryz.prog 44 #[.slice x n cap, .string t] w (BelowB (inS l t) w) := by
  have HC := Lib.hid (searchS_any x n cap l t B w h hB hs hn)
  clear h hs
  go_enter Tryz.func44, Tryz.ntmps44
  go_wp2_with fail
  refine HC.out.mono ?_
  rintro e w1 ⟨⟨i, rfl⟩, hb⟩
  have HB := Lib.hid hb
  clear hb
  go_wp2_with fail
  go_ret
  exact ⟨rfl, HB.out⟩
end Go.Proofs.YtglajbmopiolhaaGreatDoor
/-
  Chapter 13's program: changes are carried.
-/
namespace Go.Proofs.YtglajbmopiolhaaGreatDoor
open Go.RowKit
set_option linter.unusedVariables false
/-- A change is carried: what the step leads to, where it is possible. -/
def CarriedC (l : List Pc) (p other : Int) (q : Ent) (w : World) (e : Ending) (w' : World) : Prop := ∃ v r, e = .returned (.tuple #[v, .int .i64 r, .bool (okC l p other q)]) ∧ (okC l p other q = true → OwnP w' w.heap.size v (stepC l p other q).1 ∧ r = (stepC l p other q).2.1) ∧ Below w.heap.size w w'
set_option maxHeartbeats 1000000 in
set_option maxRecDepth 100000 in
theorem carryChange_any (x : Option Addr) (n cap : Nat) (l : List Pc) (p : Int) (q : Ent) (other : Int) (B : Nat) (w : World) (h : Pcs w B x n cap l) (hB : B ≤ w.heap.size) (hz : ∀ k, (nthP l k).2.size ≤ 1048576) (hs : q.1.size ≤ 1048576) :
    Calls Tryz.prog 50 #[.slice x n cap, .int .i64 p, .agg #[.string q.1, .int .i64 q.2], .int .i64 other] w (CarriedC l p other q w) := by
  have HH := Lib.hid h; have HZ := Lib.hid hz
  have HRM := Lib.hid (rd_mil (root := other) (s := q.1) hz)
  have HA := Lib.hid ((Below.refl w.heap.size w).alloc (Nat.le_refl _) (.cells #[.string q.1, .int .i64 q.2] 40))
  have HNEW := Lib.hid (heap_alloc_new w (.cells #[.string q.1, .int .i64 q.2] 40))
  clear h hz
  by_cases h2 : q.2 = 2
  · have ht2 : (q.2 == 2) = true := by simpa using h2
    have HSTEP := Lib.hid (show stepC l p other q = dropAtB l p q.1 by unfold stepC; rw [if_pos h2])
    have HOK := Lib.hid (show okC l p other q = (dropAtB l p q.1).2.2 by unfold okC; rw [HSTEP.out, in3_yes (by omega) (by omega), Bool.and_true])
    clear h2
    go_enter Tryz.func50, Tryz.ntmps50
    go_wp2_with fail
    refine (implDropAt_any x n cap l p q.1 B _ (HH.out.below HA.out hB) (Nat.le_trans hB HA.out.size) HZ.out hs).mono ?_
    rintro e w1 ⟨v, rfl, ho, hb⟩
    have HO := Lib.hid (ho.mono HA.out.size); have HB := Lib.hid (HA.out.trans (hb.mono HA.out.size))
    clear ho hb
    go_wp2_with fail
    go_ret3
    exact ⟨v, (dropAtB l p q.1).2.1, by rw [HOK.out]; rfl, fun _ => by rw [HSTEP.out]; exact ⟨HO.out, rfl⟩, HB.out⟩
  have ht2 : (q.2 == 2) = false := by simpa using h2
  by_cases h01 : q.2 = 0 ∨ q.2 = 1
  · have HIN := Lib.hid (show in3 q.2 0 2 = true from in3_yes (by omega) (by omega))
    have HSTEP := Lib.hid (show stepC l p other q = ((writeB l p q.1 (rdB l other q.1).1).1, (writeB l p q.1 (rdB l other q.1).1).2.1, (writeB l p q.1 (rdB l other q.1).1).2.2 && (rdB l other q.1).2) by unfold stepC; rw [if_neg h2])
    have HOK := Lib.hid (show okC l p other q = ((writeB l p q.1 (rdB l other q.1).1).2.2 && (rdB l other q.1).2) by unfold okC; rw [HSTEP.out, HIN.out, Bool.and_true])
    obtain ⟨⟨t, g⟩, hR⟩ : ∃ R, rdB l other q.1 = R := ⟨_, rfl⟩
    have HR := Lib.hid hR
    rw [hR] at HSTEP HOK HRM
    have hrm := HRM.out
    simp only at hrm
    clear hR h2 HRM
    have way : ∀ b0, (q.2 == 0) = b0 → (b0 = false → (q.2 == 1) = true) → Calls Tryz.prog 50 #[.slice x n cap, .int .i64 p, .agg #[.string q.1, .int .i64 q.2], .int .i64 other] w (CarriedC l p other q w) := by
      intro b0 e0 e1
      cases b0
      · have e1' := e1 rfl
        clear e1 h01
        cases g
        · have HF := Lib.hid (show okC l p other q = false by rw [HOK.out, Bool.and_false])
          go_enter Tryz.func50, Tryz.ntmps50
          go_wp2_with fail
          refine (implReadAt_any x n cap l other q.1 B _ (HH.out.below HA.out hB) (Nat.le_trans hB HA.out.size) HZ.out hs).mono ?_
          rintro e w1 ⟨rfl, hb⟩
          rw [HR.out]
          have HB := Lib.hid (HA.out.trans (hb.mono HA.out.size))
          clear hb
          go_wp2_with fail
          go_ret3
          exact ⟨.slice none 0 0, -1, by rw [HF.out]; rfl, (fun e => by rw [HF.out] at e; cases e), HB.out⟩
        · go_enter Tryz.func50, Tryz.ntmps50
          go_wp2_with fail
          refine (implReadAt_any x n cap l other q.1 B _ (HH.out.below HA.out hB) (Nat.le_trans hB HA.out.size) HZ.out hs).mono ?_
          rintro e w1 ⟨rfl, hb⟩
          rw [HR.out]
          obtain ⟨c0, c1, f0, f1⟩ := two_at ((hb.block w.heap.size (by simp)).trans HNEW.out)
          have HB := Lib.hid (HA.out.trans (hb.mono HA.out.size))
          clear hb
          go_wp2_with fail
          refine (implWriteAt_any x n cap l p q.1 t B _ (HH.out.below HB.out hB) (Nat.le_trans hB HB.out.size) HZ.out hs hrm).mono ?_
          rintro e w2 ⟨v, rfl, ho, hb⟩
          have HO := Lib.hid (ho.mono HB.out.size); have HB2 := Lib.hid (HB.out.trans (hb.mono HB.out.size))
          clear ho hb
          go_wp2_with fail
          go_ret3
          exact ⟨v, (writeB l p q.1 t).2.1, by rw [HOK.out, Bool.and_true]; rfl, fun _ => by rw [HSTEP.out]; exact ⟨HO.out, rfl⟩, HB2.out⟩
      · clear e1 h01
        cases g
        · have HF := Lib.hid (show okC l p other q = false by rw [HOK.out, Bool.and_false])
          go_enter Tryz.func50, Tryz.ntmps50
          go_wp2_with fail
          refine (implReadAt_any x n cap l other q.1 B _ (HH.out.below HA.out hB) (Nat.le_trans hB HA.out.size) HZ.out hs).mono ?_
          rintro e w1 ⟨rfl, hb⟩
          rw [HR.out]
          have HB := Lib.hid (HA.out.trans (hb.mono HA.out.size))
          clear hb
          go_wp2_with fail
          go_ret3
          exact ⟨.slice none 0 0, -1, by rw [HF.out]; rfl, (fun e => by rw [HF.out] at e; cases e), HB.out⟩
        · go_enter Tryz.func50, Tryz.ntmps50
          go_wp2_with fail
          refine (implReadAt_any x n cap l other q.1 B _ (HH.out.below HA.out hB) (Nat.le_trans hB HA.out.size) HZ.out hs).mono ?_
          rintro e w1 ⟨rfl, hb⟩
          rw [HR.out]
          obtain ⟨c0, c1, f0, f1⟩ := two_at ((hb.block w.heap.size (by simp)).trans HNEW.out)
          have HB := Lib.hid (HA.out.trans (hb.mono HA.out.size))
          clear hb
          go_wp2_with fail
          refine (implWriteAt_any x n cap l p q.1 t B _ (HH.out.below HB.out hB) (Nat.le_trans hB HB.out.size) HZ.out hs hrm).mono ?_
          rintro e w2 ⟨v, rfl, ho, hb⟩
          have HO := Lib.hid (ho.mono HB.out.size); have HB2 := Lib.hid (HB.out.trans (hb.mono HB.out.size))
          clear ho hb
          go_wp2_with fail
          go_ret3
          exact ⟨v, (writeB l p q.1 t).2.1, by rw [HOK.out, Bool.and_true]; rfl, fun _ => by rw [HSTEP.out]; exact ⟨HO.out, rfl⟩, HB2.out⟩
    refine way _ rfl fun e => ?_
    rcases h01 with h | h
    · rw [h] at e; cases e
    · simpa using h
  have ht0 : (q.2 == 0) = false := by simpa using fun e => h01 (.inl e)
  have ht1 : (q.2 == 1) = false := by simpa using fun e => h01 (.inr e)
  have HF := Lib.hid (show okC l p other q = false by
    have : in3 q.2 0 2 = false := by unfold in3; rw [decide_eq_false_iff_not]; intro hh; omega
    unfold okC; rw [this, Bool.and_false])
  clear h2 h01
  go_enter Tryz.func50, Tryz.ntmps50
  go_wp2_with fail
  go_ret3
  exact ⟨.slice none 0 0, -1, by rw [HF.out]; rfl, (fun e => by rw [HF.out] at e; cases e), HA.out⟩
set_option maxHeartbeats 2000000 in
set_option maxRecDepth 100000 in
theorem implCarryChanges_any (x : Option Addr) (n cap : Nat) (l : List Pc) (root : Int) (y : Option Addr) (m d : Nat) (cs : List Ent) (other : Int) (B B1 : Nat) (w : World) (h : Pcs w B x n cap l) (h1 : Ents w B1 y m d cs) (hB : B ≤ w.heap.size) (hB1 : B1 ≤ w.heap.size) (hz : ∀ k, (nthP l k).2.size ≤ 1048576) (hz1 : ∀ k, (nthE cs k).1.size ≤ 1048576) :
    Calls Tryz.prog 20 #[.slice x n cap, .int .i64 root, .slice y m d, .int .i64 other] w (NewPut (carryB l root cs other).1 (carryB l root cs other).2.1 (carryB l root cs other).2.2 w) := by
  have HH := Lib.hid h; have HZ := Lib.hid hz; have HC := Lib.hid h1; have HCZ := Lib.hid hz1
  have HLN := Lib.hid h.len; have HLC := Lib.hid h1.len
  have hle1 := h1.le
  have hmx1 := h1.max
  unfold maxLen at hmx1
  clear h h1 hz hz1
  cases hs : storeB l
  · have HF := Lib.hid (carryB_bad (l := l) (root := root) (cs := cs) (other := other) (.inl hs))
    go_enter Tryz.func20, Tryz.ntmps20
    go_wp2_with (go_at_call 12; refine (implStoreValid_any x n cap l B _ HH.out hB (mil_max HZ.out)).mono ?_; rintro e w1 ⟨rfl, hb⟩; rw [hs]; have HB1 := Lib.hid hb; clear hb)
    go_ret3
    exact ⟨.slice none 0 0, by rw [HF.out]; rfl, by rw [HF.out]; exact OwnL.nil _ _ _ _ _, HB1.out⟩
  have HS := Lib.hid hs
  clear hs
  by_cases h30 : (30 : Int) < (m : Int)
  · have HF := Lib.hid (carryB_bad (l := l) (root := root) (cs := cs) (other := other) (.inr (by have := HLC.out; omega)))
    go_enter Tryz.func20, Tryz.ntmps20
    go_wp2_with (go_at_call 12; refine (implStoreValid_any x n cap l B _ HH.out hB (mil_max HZ.out)).mono ?_; rintro e w1 ⟨rfl, hb⟩; rw [HS.out]; have HB1 := Lib.hid hb; clear hb)
    go_ret3
    exact ⟨.slice none 0 0, by rw [HF.out]; rfl, by rw [HF.out]; exact OwnL.nil _ _ _ _ _, HB1.out⟩
  have H30 := Lib.hid (show ¬ 30 < cs.length by have := HLC.out; omega)
  go_enter Tryz.func20, Tryz.ntmps20
  go_wp2_with (first
    | (go_at_call 12; refine (implStoreValid_any x n cap l B _ HH.out hB (mil_max HZ.out)).mono ?_; rintro e w1 ⟨rfl, hb⟩; rw [HS.out]; have HB1 := Lib.hid hb; clear hb)
    | (go_at_call 49; refine (copyB_any x n cap l B _ (HH.out.below HB1.out hB) (Nat.le_trans hB HB1.out.size) HS.out).mono ?_; rintro e w2 ⟨v2, rfl, ho, hb⟩; have HO2 := Lib.hid (ho.mono HB1.out.size); have HB2 := Lib.hid (HB1.out.trans (hb.mono HB1.out.size)); clear ho hb))
  have hw2 := HB2.out.size
  go_loopw [11, 12, 14, 15, 29] (fun sv pv _ _ kv wr => ∃ (k : Nat) (lk : List Pc) (pk : Int), k ≤ m ∧ pv = .int .i64 pk ∧ kv = .int .i64 k ∧ Hid (storeB lk = true) ∧ OwnP wr w.heap.size sv lk ∧ Hid (carryG other l root cs = carryG other lk pk (cs.drop k)) ∧ Below w.heap.size w wr) (fun _ _ _ _ kv _ => m - (intOf kv).toNat)
  case atStart => exact ⟨0, l, root, by omega, rfl, rfl, HS, HO2.out, Lib.hid (by rw [List.drop_zero]), HB2.out⟩
  case round =>
    obtain ⟨k, lk, pk, hk, rfl, rfl, HSK, ho, HCK, hb⟩ := hrel
    have HO := Lib.hid ho; have HBA := Lib.hid hb
    obtain ⟨xs, ns, ks, rfl, hl⟩ := ho.lst
    have HL := Lib.hid hl
    have hsz := hb.size
    clear ho hb hl
    have HZK := Lib.hid (short_mil (store_short HSK.out))
    by_cases hlt : k < m
    · have hkl : k < cs.length := by have := HLC.out; omega
      obtain ⟨be, oe, rfl, hbe, hc0, hc1⟩ := (HC.out.below HBA.out hB1).atE hlt
      have hqz := HCZ.out k
      have HST := Lib.hid (HCK.out.trans (drop_carry hkl))
      obtain ⟨q, hq⟩ : ∃ q, q = nthE cs k := ⟨_, rfl⟩
      rw [← hq] at hc0 hc1 hqz HST
      clear hq
      have HAL := Lib.hid ((Below.refl wr.heap.size wr).alloc (Nat.le_refl _) (.cells #[.string q.1, .int .i64 q.2] 40))
      go_wp2_with fail
      refine (carryChange_any xs ns ks lk pk q other _ _ (HL.out.below HAL.out (Nat.le_refl _)) HAL.out.size HZK.out hqz).mono ?_
      rintro e w3 ⟨v3, r3, rfl, hyes, hb⟩
      have HB3 := Lib.hid (HBA.out.trans ((HAL.out.trans (hb.mono HAL.out.size)).mono hsz)); have HY := Lib.hid hyes
      clear hb hyes
      cases hok : okC lk pk other q
      · have HF := Lib.hid (carryB_none (root := root) HS.out H30.out (HST.out.trans (carryG_stop hok)))
        clear hok HY HST
        go_wp2_with fail
        refine (copyB_any x n cap l B _ (HH.out.below HB3.out hB) (Nat.le_trans hB HB3.out.size) HS.out).mono ?_
        rintro e w4 ⟨v4, rfl, ho, hb⟩
        have HO4 := Lib.hid (ho.mono HB3.out.size); have HB4 := Lib.hid (HB3.out.trans (hb.mono HB3.out.size))
        clear ho hb
        go_wp2_with fail
        go_ret3
        exact ⟨v4, by rw [HF.out]; rfl, by rw [HF.out]; exact HO4.out, HB4.out⟩
      · have HO3 := Lib.hid ((HY.out hok).1.mono (Nat.le_trans hsz HAL.out.size)); have HR3 := Lib.hid (HY.out hok).2
        have HN := Lib.hid (show carryG other l root cs = carryG other (stepC lk pk other q).1 (stepC lk pk other q).2.1 (cs.drop (k + 1)) by rw [HST.out, carryG_go hok])
        have HSN := Lib.hid (step_grows hok).1
        clear hok HY HST
        go_wp2_with fail
        go_roundw
        case rel => exact ⟨k + 1, _, _, by omega, by rw [HR3.out], by go_num, HSN, HO3.out, HN, HB3.out⟩
        case measure => simp [intOf]; omega
    · have HF := Lib.hid (carryB_some (root := root) HS.out H30.out (HCK.out.trans (carry_end (by have := HLC.out; omega))))
      go_wp2_with fail
      go_ret3
      exact ⟨.slice xs ns ks, by rw [HF.out]; rfl, by rw [HF.out]; exact HO.out, HBA.out⟩
end Go.Proofs.YtglajbmopiolhaaGreatDoor
/-
  Chapter 13's program: what happened between two roots, and how many changes are of a kind.
-/
namespace Go.Proofs.YtglajbmopiolhaaGreatDoor
open Go.RowKit
set_option linter.unusedVariables false
set_option maxHeartbeats 2000000 in
set_option maxRecDepth 100000 in
theorem implChangesOf_any (x : Option Addr) (n cap : Nat) (l : List Pc) (p q : Int) (B : Nat) (w : World) (h : Pcs w B x n cap l) (hB : B ≤ w.heap.size) (hz : ∀ k, (nthP l k).2.size ≤ 1048576) :
    Calls Tryz.prog 14 #[.slice x n cap, .int .i64 p, .int .i64 q] w (NewC (chgB l p q) w) := by
  have HH := Lib.hid h; have HZ := Lib.hid hz
  clear h hz
  go_enter Tryz.func14, Tryz.ntmps14
  go_wp2_with fail
  refine (implAllFiles_any x n cap l p B _ HH.out hB HZ.out).mono ?_
  rintro e w1 ⟨v1, rfl, ho, hb⟩
  obtain ⟨y1, m1, d1, rfl, hi⟩ := ho.lst
  have HB1 := Lib.hid hb; have HX1 := Lib.hid hi; have HLX := Lib.hid hi.len
  have hw1 := hb.size
  have hm1 : m1 ≤ 27 := by have := all_many (l := l) (root := p); have := hi.len; omega
  have hle1 := hi.le
  have hmx1 := hi.max
  unfold maxLen at hmx1
  clear hb ho hi
  go_wp2_with fail
  refine (implAllFiles_any x n cap l q B _ (HH.out.below HB1.out hB) (Nat.le_trans hB hw1) HZ.out).mono ?_
  rintro e w2 ⟨v2, rfl, ho, hb⟩
  obtain ⟨y2, m2, d2, rfl, hi⟩ := ho.lst
  have HB2 := Lib.hid (HB1.out.trans (hb.mono hw1)); have HX2 := Lib.hid ((HX1.out.below hb (Nat.le_refl _)).more hb.size); have HY2 := Lib.hid hi; have HLY := Lib.hid hi.len
  have hw2 := HB2.out.size
  have hm2 : m2 ≤ 27 := by have := all_many (l := l) (root := q); have := hi.len; omega
  have hle2 := hi.le
  have hmx2 := hi.max
  unfold maxLen at hmx2
  have HN := Lib.hid (OwnL.nil enG 40 2 w2 w2.heap.size)
  clear hb ho hi HX1
  have HMX := Lib.hid (all_mil (l := l) (root := p)); have HMY := Lib.hid (all_mil (l := l) (root := q))
  have HAX := Lib.hid (all_ascB l p); have HAY := Lib.hid (all_ascB l q)
  have HTX := Lib.hid (show ∀ k, k < (allB l p).length → inS (allB l q) (nthS (allB l p) k) = (rdB l q (nthS (allB l p) k)).2 from fun k hk => all_there (by rw [nthS_get hk]; exact List.getElem_mem hk))
  have HTY := Lib.hid (show ∀ k, k < (allB l q).length → inS (allB l p) (nthS (allB l q) k) = (rdB l p (nthS (allB l q) k)).2 from fun k hk => all_there (by rw [nthS_get hk]; exact List.getElem_mem hk))
  have HEND := Lib.hid (show chgB l p q = (((allB l p).take m1).filter (fun s => !(rdB l q s).2)).map (fun s => (s, 2)) ++ (((allB l q).take m2).filter (newT l p q)).map (fun s => (s, newK l p s)) by
    rw [List.take_of_length_le (by have := HLX.out; omega), List.take_of_length_le (by have := HLY.out; omega)]; rfl)
  obtain ⟨xs, hxs⟩ : ∃ xs, allB l p = xs := ⟨_, rfl⟩
  obtain ⟨ys, hys⟩ : ∃ ys, allB l q = ys := ⟨_, rfl⟩
  rw [hxs] at HX2 HLX HMX HEND HAX HTX HTY
  rw [hys] at HY2 HLY HMY HEND HAY HTX HTY
  clear hxs hys
  go_wp2_with fail
  go_loopw [9, 11, 22] (fun v _ i wr => ∃ k : Nat, k ≤ m1 ∧ i = .int .i64 k ∧ OwnC wr w2.heap.size v (((xs.take k).filter (fun s => !(rdB l q s).2)).map (fun s => (s, 2))) ∧ Below w2.heap.size w2 wr) (fun _ _ i _ => m1 - (intOf i).toNat)
  case atStart => exact ⟨0, by omega, rfl, HN.out, Below.refl _ _⟩
  case round =>
    obtain ⟨k, hk, rfl, ho, hb⟩ := hrel
    have HO := Lib.hid ho; have HB := Lib.hid hb
    have hsz := hb.size
    clear ho hb
    by_cases hlt : k < m1
    · have hkl : k < xs.length := by have := HLX.out; omega
      obtain ⟨b, off, rfl, hbb, hc⟩ := (HX2.out.below HB.out (Nat.le_refl _)).atS hlt
      have HST := Lib.hid (filt_yes (f := fun s => !(rdB l q s).2) (g := fun _ => 2) hkl); have HSN := Lib.hid (filt_no (f := fun s => !(rdB l q s).2) (g := fun _ => 2) hkl)
      have HTK := Lib.hid (HTX.out k hkl)
      have hfew := filt_few (xs := xs) (f := fun s => !(rdB l q s).2) (g := fun _ => 2) (show k ≤ 27 by omega)
      obtain ⟨s, hs⟩ : ∃ s, s = nthS xs k := ⟨_, rfl⟩
      rw [← hs] at hc HST HSN HTK
      clear hs
      go_wp2_with fail
      refine (hasPath_any y2 m2 d2 ys s _ _ (HY2.out.below HB.out (Nat.le_refl _)) hsz HAY.out (by omega)).mono ?_
      rintro e w3 ⟨rfl, hb3⟩
      rw [HTK.out]
      have HB3 := Lib.hid (HB.out.trans (hb3.mono hsz)); have HO3 := Lib.hid (HO.out.below hb3)
      have hsz3 := HB3.out.size
      clear hb3 HTK
      cases hg : (rdB l q s).2
      · have HE := Lib.hid (HST.out (by simp [hg]))
        clear HST HSN hg
        go_wp2_with (at_builtin; refine wpList_app1L eltCh encEn (s, 2) _ rfl HO3.out (by omega) hsz3 rfl _ _ rfl rfl rfl ?_; intro v' w' hown hgrow; have HW := Lib.hid hown; have HGR := Lib.hid hgrow; clear hown hgrow)
        go_roundw
        case rel => exact ⟨k + 1, by omega, by go_num, by rw [HE.out]; exact HW.out, HB3.out.grown HGR.out hsz3 HO3.out.at⟩
        case measure => simp [intOf]; omega
      · have HE := Lib.hid (HSN.out (by simp [hg]))
        clear HST HSN hg
        go_wp2_with fail
        go_roundw
        case rel => exact ⟨k + 1, by omega, by go_num, by rw [HE.out]; exact HO3.out, HB3.out⟩
        case measure => simp [intOf]; omega
    · obtain rfl : k = m1 := by omega
      have hgone := filt_few (xs := xs) (f := fun s => !(rdB l q s).2) (g := fun _ => 2) hm1
      obtain ⟨G, hG⟩ : ∃ G, ((xs.take k).filter (fun s => !(rdB l q s).2)).map (fun s => (s, (2 : Int))) = G := ⟨_, rfl⟩
      rw [hG] at HO HEND hgone
      clear hG
      go_wp2_with fail
      go_loopw [9, 13, 38] (fun v _ i wr => ∃ j : Nat, j ≤ m2 ∧ i = .int .i64 j ∧ OwnC wr w2.heap.size v (G ++ ((ys.take j).filter (newT l p q)).map (fun s => (s, newK l p s))) ∧ Below w2.heap.size w2 wr) (fun _ _ i _ => m2 - (intOf i).toNat)
      case atStart => exact ⟨0, by omega, rfl, by simpa using HO.out, HB.out⟩
      case round =>
        obtain ⟨j, hj, rfl, ho, hb⟩ := hrel
        have HOW := Lib.hid ho; have HBW := Lib.hid hb; have HWA := Lib.hid (HB2.out.trans (hb.mono hw2))
        have hszw := hb.size
        clear ho hb HO HB
        by_cases hlt2 : j < m2
        · have hjl : j < ys.length := by have := HLY.out; omega
          obtain ⟨b, off, rfl, hbb, hc⟩ := (HY2.out.below HBW.out (Nat.le_refl _)).atS hlt2
          have hzk := HMY.out j
          have HST := Lib.hid (filt_yes (f := newT l p q) (g := newK l p) hjl); have HSN := Lib.hid (filt_no (f := newT l p q) (g := newK l p) hjl)
          have HTK := Lib.hid (HTY.out j hjl)
          have hfew := filt_few (xs := ys) (f := newT l p q) (g := newK l p) (show j ≤ 27 by omega)
          obtain ⟨s, hs⟩ : ∃ s, s = nthS ys j := ⟨_, rfl⟩
          rw [← hs] at hc hzk HST HSN HTK
          clear hs
          have hlen : (G ++ ((ys.take j).filter (newT l p q)).map (fun s => (s, newK l p s))).length ≤ 2000000 := by rw [List.length_append]; omega
          have HLENG := Lib.hid hlen
          clear hlen hfew
          go_wp2_with fail
          refine (hasPath_any y1 k d1 xs s _ _ (HX2.out.below HBW.out (Nat.le_refl _)) hszw HAX.out (by omega)).mono ?_
          rintro e w3 ⟨rfl, hb3⟩
          rw [HTK.out]
          have HB3 := Lib.hid (HBW.out.trans (hb3.mono hszw)); have HO3 := Lib.hid (HOW.out.below hb3); have HA3 := Lib.hid (HWA.out.trans (hb3.mono HWA.out.size))
          have hsz3 := HB3.out.size
          clear hb3 HTK
          cases hg : (rdB l p s).2
          · have HE := Lib.hid (HST.out (by unfold newT; rw [hg]; rfl))
            have HK := Lib.hid (show newK l p s = 0 by unfold newK; rw [hg]; rfl)
            rw [HK.out] at HE
            clear HST HSN hg
            go_wp2_with (at_builtin; refine wpList_app1L eltCh encEn (s, 0) _ rfl HO3.out HLENG.out hsz3 rfl _ _ rfl rfl rfl ?_; intro v' w' hown hgrow; have HW := Lib.hid hown; have HGR := Lib.hid hgrow; clear hown hgrow)
            go_roundw
            case rel => exact ⟨j + 1, by omega, by go_num, by rw [HE.out, ← List.append_assoc]; exact HW.out, HB3.out.grown HGR.out hsz3 HO3.out.at⟩
            case measure => simp [intOf]; omega
          · have HK := Lib.hid (show newK l p s = 1 by unfold newK; rw [hg]; rfl)
            have HT := Lib.hid (show newT l p q s = !decide ((rdB l p s).1 = (rdB l q s).1) by unfold newT; rw [hg]; rfl)
            rw [HK.out] at HST
            clear hg
            go_wp2_with fail
            refine (sameContent_any x n cap l p q s B _ (HH.out.below HA3.out hB) (Nat.le_trans hB HA3.out.size) HZ.out hzk).mono ?_
            rintro e w4 ⟨rfl, hb4⟩
            have HB4 := Lib.hid (HB3.out.trans (hb4.mono hsz3)); have HO4 := Lib.hid (HO3.out.below hb4)
            have hsz4 := HB4.out.size
            clear hb4
            cases ht : decide ((rdB l p s).1 = (rdB l q s).1)
            · have HE := Lib.hid (HST.out (by rw [HT.out, ht]; rfl))
              clear HST HSN ht HT
              go_wp2_with (at_builtin; refine wpList_app1L eltCh encEn (s, 1) _ rfl HO4.out HLENG.out hsz4 rfl _ _ rfl rfl rfl ?_; intro v' w' hown hgrow; have HW := Lib.hid hown; have HGR := Lib.hid hgrow; clear hown hgrow)
              go_roundw
              case rel => exact ⟨j + 1, by omega, by go_num, by rw [HE.out, ← List.append_assoc]; exact HW.out, HB4.out.grown HGR.out hsz4 HO4.out.at⟩
              case measure => simp [intOf]; omega
            · have HE := Lib.hid (HSN.out (by rw [HT.out, ht]; rfl))
              clear HST HSN ht HT
              go_wp2_with fail
              go_roundw
              case rel => exact ⟨j + 1, by omega, by go_num, by rw [HE.out]; exact HO4.out, HB4.out⟩
              case measure => simp [intOf]; omega
        · obtain rfl : j = m2 := by omega
          go_wp2_with fail
          go_ret
          exact ⟨_, rfl, by rw [HEND.out]; exact HOW.out.mono hw2, HWA.out⟩
set_option maxRecDepth 100000 in
theorem implCountKind_any (y : Option Addr) (m d : Nat) (cs : List Ent) (v : Int) (B : Nat) (w : World) (h : Ents w B y m d cs) (hB : B ≤ w.heap.size) :
    Calls Tryz.prog 18 #[.slice y m d, .int .i64 v] w (BelowI (countK cs v) w) := by
  have HH := Lib.hid h
  have HLEN := Lib.hid h.len
  have hle := h.le
  have hmx := h.max
  unfold maxLen at hmx
  clear h
  go_enter Tryz.func18, Tryz.ntmps18
  go_wp2
  go_loopw [5, 7, 10] (fun s _ i wr => ∃ k : Nat, k ≤ m ∧ i = .int .i64 k ∧ s = .int .i64 (countK (cs.take k) v) ∧ Below w.heap.size w wr) (fun _ _ i _ => m - (intOf i).toNat)
  case atStart => exact ⟨0, by omega, rfl, rfl, Below.refl _ _⟩
  case round =>
    obtain ⟨k, hk, rfl, rfl, hb⟩ := hrel
    have HB := Lib.hid hb
    have hsz := hb.size
    clear hb
    by_cases hlt : k < m
    · have hkl : k < cs.length := by have := HLEN.out; omega
      obtain ⟨b, off, rfl, hbb, hc0, hc1⟩ := (HH.out.below HB.out hB).atE hlt
      have HY := Lib.hid (count_yes (v := v) hkl); have HN := Lib.hid (count_no (v := v) hkl)
      have hbd : countK (cs.take k) v ≤ k := Nat.le_trans (countK_le _ _) (by rw [List.length_take]; omega)
      obtain ⟨c, hc⟩ : ∃ c, countK (cs.take k) v = c := ⟨_, rfl⟩
      rw [hc] at HY HN hbd ⊢
      clear hc
      by_cases hv : (nthE cs k).2 = v
      · have HE := Lib.hid (HY.out hv)
        have hd : ((nthE cs k).2 == v) = true := by simpa using hv
        have hw1 : IntKind.i64.wrap ((c : Int) + 1) = ((c + 1 : Nat) : Int) := by rw [IntKind.wrap_i64]; omega
        clear HY HN hv
        go_wp2
        go_roundw
        case rel => exact ⟨k + 1, by omega, by go_num, by rw [HE.out]; first | rfl | go_num, HB.out.alloc hsz _⟩
        case measure => simp [intOf]; omega
      · have HE := Lib.hid (HN.out hv)
        have hd : ((nthE cs k).2 == v) = false := by simpa using hv
        clear HY HN hv
        go_wp2
        go_roundw
        case rel => exact ⟨k + 1, by omega, by go_num, by rw [HE.out], HB.out.alloc hsz _⟩
        case measure => simp [intOf]; omega
    · obtain rfl : k = m := by omega
      have HE := Lib.hid (show cs.take k = cs from List.take_of_length_le (by have := HLEN.out; omega))
      go_wp2
      go_ret
      exact ⟨ret_int (by rw [HE.out]), HB.out⟩
end Go.Proofs.YtglajbmopiolhaaGreatDoor
