/-
  Draws of chapter 13: a store and two roots that writes and drops made.
-/
import Derived.Test.YtglajbmopiolhaaGreatDoorMath13
import Derived.Test.YtglajbmopiolhaaGreatDoorDraw15
import Derived.Test.YtglajbmopiolhaaGreatDoorModel13
namespace Go.Proofs.YtglajbmopiolhaaGreatDoor
open Go.RowKit
set_option linter.unusedVariables false
theorem write_step {l : List Pc} {root : Int} {path content : ByteArray} (hs : storeB l = true) (hp : isPath path = true) (hne : partsB path ≠ []) (hc : contentB content = true) (hg : Good l 3 root) :
    Grows l (writeB l root path content).1 ∧ Good (writeB l root path content).1 3 (writeB l root path content).2.1 := by
  cases h : (writeB l root path content).2.2
  · have e : (writeB l root path content).1 = l ∧ (writeB l root path content).2.1 = root := by
      unfold writeB at h ⊢
      rw [if_neg (by rw [hs, hp, decide_eq_false hne, hc]; simp)] at h ⊢
      split at h
      · rename_i h1; rw [if_pos h1]; exact ⟨rfl, rfl⟩
      rename_i h1
      rw [if_neg h1]
      split at h
      · rename_i h2; rw [if_pos h2]; exact ⟨rfl, rfl⟩
      rename_i h2
      rw [if_neg h2]
      split at h
      · rename_i h3; rw [if_pos h3]; exact ⟨rfl, rfl⟩
      · cases h
    rw [e.1, e.2]
    exact ⟨Grows.refl hs, hg⟩
  · exact ⟨write_grows h, (write_goodR h hg).1⟩
theorem drop_step {l : List Pc} {root : Int} {path : ByteArray} (hs : storeB l = true) (hp : isPath path = true) (hne : partsB path ≠ []) (hg : Good l 3 root) :
    Grows l (dropAtB l root path).1 ∧ Good (dropAtB l root path).1 3 (dropAtB l root path).2.1 := by
  cases h : (dropAtB l root path).2.2
  · have e : (dropAtB l root path).1 = l ∧ (dropAtB l root path).2.1 = root := by
      unfold dropAtB at h ⊢
      rw [if_neg (by rw [hs, hp, decide_eq_false hne]; simp)] at h ⊢
      split at h
      · rename_i h1; rw [if_pos h1]; exact ⟨rfl, rfl⟩
      rename_i h1
      rw [if_neg h1]
      split at h
      · rename_i h2
        rw [if_pos h2]
        split at h
        · rename_i h3; rw [if_pos h3]; exact ⟨rfl, rfl⟩
        · cases h
      rename_i h2
      rw [if_neg h2]
      split at h
      · rename_i h3; rw [if_pos h3]; exact ⟨rfl, rfl⟩
      · cases h
    rw [e.1, e.2]
    exact ⟨Grows.refl hs, hg⟩
  · exact ⟨dropAt_grows h, (dropAt_goodR h hg).1⟩
/-- A step from a good root: a store that grew, a good root; the reader behind it. -/
def StepG (l0 : List Pc) (B r c : Nat) (w : World) (e : Ending) (w' : World) : Prop :=
  ∃ (x : Option Addr) (n cap : Nat) (l : List Pc) (p : Int) (b : Bool), e = .returned (.tuple #[.slice x n cap, .int .i64 p, .bool b]) ∧ Pcs w' w'.heap.size x n cap l ∧ GoodS l ∧ Grows l0 l ∧ Good l 3 p ∧ Rd B w' r c ∧ w.grownBy w' (some r)
set_option maxHeartbeats 1000000 in
theorem stepG_any (B r c : Nat) (x : Option Addr) (n cap : Nat) (l : List Pc) (root : Int) (w : World) (h : Rd B w r c) (hl : Pcs w w.heap.size x n cap l) (hg : GoodS l) (hgr : Good l 3 root) (hc : c ≤ 90000) :
    Calls Tryz.prog 64 #[.pointer (some ⟨r, 0, none⟩), .slice x n cap, .int .i64 root] w (StepG l B r (c + 8) w) := by
  have hzm : ∀ k, (nthP l k).2.size ≤ maxLen := fun k => Nat.le_trans (short_nth (store_short hg.1) k) (by unfold maxLen; omega)
  have H := Lib.hid h; have HL := Lib.hid hl; have HGS := Lib.hid hg; have HGR := Lib.hid hgr
  clear h hl hg hgr
  go_enter Tryz.func64, Tryz.ntmps64
  go_wp2_with fail
  refine (l20Path_any B r c _ _ H.out (by omega) (by omega)).mono ?_
  rintro e w1 ⟨path, rfl, _, hin, hr, hgr⟩
  have hin := hin (by decide)
  obtain ⟨hsz, hroot⟩ := paths2_facts path hin
  have HR1 := Lib.hid (hr.more (show c + 2 ≤ c + 8 by omega)); have HR1' := Lib.hid hr; have HG1 := Lib.hid hgr
  have hw1 : w.heap.size ≤ w1.heap.size := hgr.size
  have HL1 := Lib.hid (Lst.rd_kept HL.out H.out hgr (Nat.le_refl _))
  clear hin hr hgr
  by_cases hsl : path = ⟨#[47]⟩
  · subst hsl
    clear hroot hsz
    go_wp2_with fail
    go_ret3
    exact ⟨x, n, cap, l, root, false, rfl, HL1.out.more hw1, HGS.out, Grows.refl HGS.out.1, HGR.out, HR1.out, HG1.out⟩
  have hd : (path.toList == [47]) = false := by
    rw [ByteArray.toList_eq]
    simp only [beq_eq_false_iff_ne, ne_eq]
    intro e; exact hsl (by cases path; congr 1; exact Array.toList_inj.1 e)
  obtain ⟨hip, hpn⟩ : isPath path = true ∧ partsB path ≠ [] := by
    rcases hroot with h | h
    · exact absurd h hsl
    · exact h
  have HIP := Lib.hid hip; have HPN := Lib.hid hpn
  clear hroot hsl hip hpn
  go_wp2_with fail
  refine (pickN_any 5 B r (c + 2) _ _ w HR1'.out HG1.out rfl (by decide) (by decide) (by omega)).mono ?_
  rintro e w2 ⟨k, rfl, hk, hr, hg2, hgr⟩
  have HR2 := Lib.hid hr; have HG2 := Lib.hid hgr
  have hw2 : w.heap.size ≤ w2.heap.size := hgr.size
  have HL2 := Lib.hid (Lst.rd_kept HL1.out HR1'.out hg2 hw1)
  clear hr hg2 hgr
  by_cases h0 : k = 0
  · subst h0
    go_wp2_with fail
    refine (specDropAt_any x n cap l root path w.heap.size _ HL2.out hw2 hzm (by omega)).mono ?_
    rintro e w3 ⟨x3, n3, c3, rfl, h3, hb3⟩
    have H3 := Lib.hid h3
    have HR3 := Lib.hid ((HR2.out.below hb3).more (show c + 2 + 1 ≤ c + 8 by omega)); have HG3 := Lib.hid (grownBy_join HG2.out hb3)
    clear h3 hb3
    go_wp2_with fail
    go_ret3
    exact ⟨x3, n3, c3, _, _, _, rfl, H3.out, dropAt_good HGS.out HIP.out HPN.out, (drop_step HGS.out.1 HIP.out HPN.out HGR.out).1, (drop_step HGS.out.1 HIP.out HPN.out HGR.out).2, HR3.out, HG3.out⟩
  · have hk0 : ((k : Int) == 0) = false := by simp; omega
    clear h0
    go_wp2_with fail
    refine (l20Content_any B r (c + 2 + 1) _ HR2.out (by omega)).mono ?_
    rintro e w3 ⟨content, rfl, hin, hr, hg3⟩
    obtain ⟨hcs, hcb⟩ := contents_facts content hin
    have HR3 := Lib.hid hr; have HG3 := Lib.hid (grownBy_trans HG2.out hg3)
    have hw3 : w.heap.size ≤ w3.heap.size := Nat.le_trans hw2 hg3.size
    have HL3 := Lib.hid (Lst.rd_kept HL2.out HR2.out hg3 hw2)
    have HCB := Lib.hid hcb
    clear hr hg3 hin hcb
    go_wp2_with fail
    refine (specWriteAt_any x n cap l root path content w.heap.size _ HL3.out hw3 hzm (by omega) (by omega)).mono ?_
    rintro e w4 ⟨x4, n4, c4, rfl, h4, hb4⟩
    have H4 := Lib.hid h4
    have HR4 := Lib.hid ((HR3.out.below hb4).more (show c + 2 + 1 + 1 ≤ c + 8 by omega)); have HG4 := Lib.hid (grownBy_join HG3.out hb4)
    clear h4 hb4
    go_wp2_with fail
    go_ret3
    exact ⟨x4, n4, c4, _, _, _, rfl, H4.out, write_good HGS.out HIP.out HPN.out HCB.out, (write_step HGS.out.1 HIP.out HPN.out HCB.out HGR.out).1, (write_step HGS.out.1 HIP.out HPN.out HCB.out HGR.out).2, HR4.out, HG4.out⟩
/-- A drawn store that is valid, with a good root in it, and the folder without entries. -/
def StoreG (B r c : Nat) (w : World) (e : Ending) (w' : World) : Prop :=
  ∃ (x : Option Addr) (n cap : Nat) (l : List Pc) (p : Int), e = .returned (.tuple #[.slice x n cap, .int .i64 p]) ∧ Pcs w' w'.heap.size x n cap l ∧ GoodS l ∧ Good l 3 p ∧ (printB (folderB []), folderB []) ∈ l ∧ Rd B w' r c ∧ w.grownBy w' (some r)
theorem empty_facts : Good (putB [] (folderB [])).1 3 (putB [] (folderB [])).2.1 ∧ (printB (folderB []), folderB []) ∈ (putB [] (folderB [])).1 := by
  have h : (putB [] (folderB [])).2.2 = true := by
    have e : folderB [] = ⟨#[100]⟩ := by decide +kernel
    have hx : textB ⟨#[100]⟩ = true := by decide +kernel
    rw [e, putB_of (by decide) (printB_ge hx), putP_new (p := (printB ⟨#[100]⟩, ⟨#[100]⟩)) rfl (by decide)]
  exact ⟨empty_goodR h, (put_yes h).2.2.2.2.1⟩
set_option maxHeartbeats 2000000 in
set_option maxRecDepth 100000 in
theorem storeG_any (B r c : Nat) (w : World) (h : Rd B w r c) (hc : c ≤ 80000) :
    Calls Tryz.prog 63 #[.pointer (some ⟨r, 0, none⟩), .int .i64 0] w (StoreG B r (c + 60) w) := by
  have H := Lib.hid h
  have hrw := h.lt
  clear h
  have HR0 := Lib.hid (rd_alloc H.out (.cells #[] 57))
  have HG0 := Lib.hid (World.grownBy_alloc w (.cells #[] 57) (some r))
  go_enter Tryz.func63, Tryz.ntmps63
  go_wp2_with fail
  refine (specEmptyRoot_any _ 0 0 [] 0 _ (Lst.empty _ _ _ _ _ (by unfold maxLen; omega)) (Nat.zero_le _) (fun k => by simp [nthP])).mono ?_
  rintro e w1 ⟨x1, n1, c1, rfl, h1, hb1⟩
  have HL1 := Lib.hid h1
  have HR1 := Lib.hid (HR0.out.below hb1); have HG1 := Lib.hid (grownBy_join HG0.out hb1)
  clear h1 hb1
  go_wp2_with fail
  refine (pickN_any 6 B r c _ _ w HR1.out HG1.out rfl (by decide) (by decide) (by omega)).mono ?_
  rintro e w2 ⟨k0, rfl, hk0, hr, hg, hg2⟩
  have HR2 := Lib.hid hr; have HG2 := Lib.hid hg2
  have HL2 := Lib.hid (Lst.more (Lst.rd_kept HL1.out HR1.out hg (Nat.le_refl _)) hg.size)
  clear hr hg hg2
  have HE := Lib.hid empty_good; have HEG := Lib.hid empty_facts
  generalize (putB [] (folderB [])).1 = l0 at HL2 HE HEG
  generalize (putB [] (folderB [])).2.1 = p0 at HEG ⊢
  clear HL1 HR1 HG1 HR0 HG0
  go_wp2_with fail
  go_loopw [6, 7, 9] (fun sv pv kv wr => ∃ (m : Nat) (x : Option Addr) (n cap : Nat) (l : List Pc) (p : Int), m ≤ 5 ∧ sv = .slice x n cap ∧ pv = .int .i64 p ∧ kv = .int .i64 m ∧ Pcs wr wr.heap.size x n cap l ∧ GoodS l ∧ Good l 3 p ∧ (printB (folderB []), folderB []) ∈ l ∧ Rd B wr r (c + 41 - 8 * m) ∧ w.grownBy wr (some r)) (fun _ _ kv _ => (intOf kv).toNat)
  case atStart => exact ⟨k0, x1, n1, c1, _, _, by omega, rfl, rfl, rfl, HL2.out, HE.out, HEG.out.1, HEG.out.2, HR2.out.more (by omega), HG2.out⟩
  case round =>
    obtain ⟨m, x, n, cap, l, p, hm, rfl, rfl, rfl, hl, hgs, hgd, hin, hr, hg⟩ := hrel
    have HL := Lib.hid hl; have HGS := Lib.hid hgs; have HGD := Lib.hid hgd; have HIN := Lib.hid hin; have HR := Lib.hid hr; have HG := Lib.hid hg; clear hl hgs hgd hin hr hg
    clear HL2 HR2 HG2 HE HEG
    by_cases h0 : 0 < m
    · go_wp2_with fail
      refine (stepG_any B r (c + 41 - 8 * m) x n cap l p _ HR.out HL.out HGS.out HGD.out (by omega)).mono ?_
      rintro e w3 ⟨x3, n3, c3, l3, p3, b3, rfl, hl, hgs, hgw, hgd, hr, hg⟩
      have HL3 := Lib.hid hl; have HGS3 := Lib.hid hgs; have HGD3 := Lib.hid hgd; have HIN3 := Lib.hid (hgw.2 _ HIN.out); have HR3 := Lib.hid hr; have HG3 := Lib.hid (grownBy_trans HG.out hg); clear hl hgs hgd hgw hr hg
      go_wp2_with fail
      go_roundw
      case rel => exact ⟨m - 1, x3, n3, c3, l3, p3, by omega, rfl, rfl, by go_num, HL3.out, HGS3.out, HGD3.out, HIN3.out, HR3.out.more (by omega), HG3.out⟩
      case measure => simp [intOf]; omega
    · obtain rfl : m = 0 := by omega
      go_wp2_with fail
      refine (odd_any B r (c + 41) _ _ HR.out (by omega) (by decide)).mono ?_
      rintro e w3 ⟨b, rfl, hb0, _, hr, hg⟩
      obtain rfl := hb0 (by decide)
      have HR3 := Lib.hid hr; have HG3 := Lib.hid (grownBy_trans HG.out hg)
      have HL3 := Lib.hid (Lst.more (Lst.rd_kept HL.out HR.out hg (Nat.le_refl _)) hg.size)
      clear hr hg HL HR HG
      go_wp2_with fail
      go_ret2
      exact ⟨x, n, cap, l, p, rfl, HL3.out, HGS.out, HGD.out, HIN.out, HR3.out.more (by omega), HG3.out⟩
/-! ### a store and two roots -/
def turnedT : ByteArray := ⟨#[116, 117, 114, 110, 101, 100]⟩
theorem turned_far : printB (folderB []) < printB turnedT := by decide +kernel
theorem turned_bad {l : List Pc} (hg : GoodS l) (hin : (printB (folderB []), folderB []) ∈ l) : storeB (l.set 0 ((nthP l 0).1, turnedT)) = false := by
  have h0 : 0 < l.length := List.length_pos_iff.2 hg.2
  obtain ⟨j, hj, e⟩ := List.mem_iff_getElem.1 hin
  have h1 : (nthP l 0).1 ≤ printB (folderB []) := by
    have ej : nthP l j = (printB (folderB []), folderB []) := by rw [nthP_get hj]; exact e
    by_cases hj0 : j = 0
    · subst hj0; rw [ej]; exact Int.le_refl _
    · have := store_asc hg.1 0 j (by omega) hj
      rw [ej] at this
      exact Int.le_of_lt this
  cases hs : storeB (l.set 0 ((nthP l 0).1, turnedT))
  · rfl
  · have hm : ((nthP l 0).1, turnedT) ∈ l.set 0 ((nthP l 0).1, turnedT) := List.mem_set h0 _
    have h2 := (get_right hs (in_get hs hm)).2.1
    have h3 := turned_far
    omega
/-- A drawn store and two roots; good ones where the store is valid. -/
def TwoOut (w : World) (e : Ending) (w' : World) : Prop := ∃ (x : Option Addr) (n c : Nat) (l : List Pc) (p q : Int), e = .returned (.tuple #[.slice x n c, .int .i64 p, .int .i64 q]) ∧ l.length ≤ 41 ∧ Short 60 l ∧ (storeB l = true → Good l 3 p ∧ Good l 3 q) ∧ Pcs w' w'.heap.size x n c l ∧ Below w.heap.size w w'
set_option maxHeartbeats 2000000 in
set_option maxRecDepth 100000 in
theorem l20Two_any (xx : Option Addr) (nn cap : Nat) (w : World) (h : Bytes w.heap.size w xx nn) (hn : nn ≤ cap) (hc : cap ≤ maxLen) :
    Calls Tryz.prog 34 #[.slice xx nn cap] w (TwoOut w) := by
  go_enter Tryz.func34, Tryz.ntmps34
  go_wp2_with fail
  refine (open_any xx nn cap w h hn hc).mono ?_
  rintro e w01 ⟨rfl, hr, hb⟩
  have HR01 := Lib.hid hr; have HB01 := Lib.hid hb; clear hr hb h hn hc
  go_wp2_with fail
  refine (storeG_any w.heap.size w.heap.size 0 _ HR01.out (by omega)).mono ?_
  rintro e w02 ⟨x0, n0, c0, l0, p, rfl, hl, hgs, hgd, hin, hr, hg⟩
  have HR02 := Lib.hid hr; have HL02 := Lib.hid hl; have HB02 := Lib.hid (HB01.out.trans (below_grownBy hg HB01.out.size (Nat.le_refl _))); have HGS := Lib.hid hgs; have HGD := Lib.hid hgd; have HIN := Lib.hid hin
  clear hl hgs hgd hin hr hg
  go_wp2_with fail
  refine (pickN_any 4 w.heap.size w.heap.size _ _ _ w02 HR02.out (grownBy_refl _ _) rfl (by decide) (by decide) (by omega)).mono ?_
  rintro e w03 ⟨k0, rfl, hk0, hr, hg, _⟩
  have HR3 := Lib.hid hr; have HL3 := Lib.hid ((Lst.rd_kept HL02.out HR02.out hg (Nat.le_refl _)).more hg.size); have HB3 := Lib.hid (HB02.out.trans (below_grownBy hg HB02.out.size (Nat.le_refl _)))
  clear hr hg HR01 HB01 HR02 HL02 HB02
  go_wp2_with fail
  go_loopw [6, 8, 9] (fun sv bv kv wr => ∃ (m : Nat) (x : Option Addr) (n cap : Nat) (l : List Pc) (q : Int), m ≤ 3 ∧ sv = .slice x n cap ∧ bv = .int .i64 q ∧ kv = .int .i64 m ∧ Pcs wr wr.heap.size x n cap l ∧ GoodS l ∧ Good l 3 p ∧ Good l 3 q ∧ (printB (folderB []), folderB []) ∈ l ∧ Rd w.heap.size wr w.heap.size (100 - 8 * m) ∧ Below w.heap.size w wr) (fun _ _ kv _ => (intOf kv).toNat)
  case atStart => exact ⟨k0, x0, n0, c0, l0, p, by omega, rfl, rfl, rfl, HL3.out, HGS.out, HGD.out, HGD.out, HIN.out, HR3.out.more (by omega), HB3.out⟩
  case round =>
    obtain ⟨m, x, n, cp, l, q, hm, rfl, rfl, rfl, hl, hgs, hgp, hgq, hin, hr, hb⟩ := hrel
    clear HL3 HGS HGD HIN HR3 HB3
    have HL := Lib.hid hl; have HGS := Lib.hid hgs; have HGP := Lib.hid hgp; have HGQ := Lib.hid hgq; have HIN := Lib.hid hin; have HR := Lib.hid hr; have HB := Lib.hid hb
    clear hl hgs hgp hgq hin hr hb
    by_cases h0 : 0 < m
    · go_wp2_with fail
      refine (stepG_any w.heap.size w.heap.size (100 - 8 * m) x n cp l q _ HR.out HL.out HGS.out HGQ.out (by omega)).mono ?_
      rintro e w3 ⟨x3, n3, c3, l3, q3, b3, rfl, hl, hgs, hgw, hgd, hr, hg⟩
      have HL3 := Lib.hid hl; have HGS3 := Lib.hid hgs; have HGP3 := Lib.hid (good_grows hgw HGP.out); have HGQ3 := Lib.hid hgd; have HIN3 := Lib.hid (hgw.2 _ HIN.out); have HR3 := Lib.hid hr; have HB3 := Lib.hid (HB.out.trans (below_grownBy hg HB.out.size (Nat.le_refl _)))
      clear hl hgs hgw hgd hr hg
      go_wp2_with fail
      go_roundw
      case rel => exact ⟨m - 1, x3, n3, c3, l3, q3, by omega, rfl, rfl, by go_num, HL3.out, HGS3.out, HGP3.out, HGQ3.out, HIN3.out, HR3.out.more (by omega), HB3.out⟩
      case measure => simp [intOf]; omega
    · obtain rfl : m = 0 := by omega
      go_wp2_with fail
      refine (odd_any w.heap.size w.heap.size _ _ _ HR.out (by omega) (by decide)).mono ?_
      rintro e w4 ⟨b, rfl, _, _, hr, hg⟩
      have HL4 := Lib.hid ((Lst.rd_kept HL.out HR.out hg (Nat.le_refl _)).more hg.size); have HB4 := Lib.hid (HB.out.trans (below_grownBy hg HB.out.size (Nat.le_refl _)))
      clear hr hg HL HR HB
      have HF := Lib.hid (fine_of HGS.out)
      cases b
      · go_wp2_with fail
        go_ret3
        exact ⟨x, n, cp, l, p, q, rfl, HF.out.2.1, HF.out.2.2, fun _ => ⟨HGP.out, HGQ.out⟩, HL4.out, HB4.out⟩
      · have HLEN := Lib.hid HL4.out.len
        have hn40 : n ≤ 40 := by have := HLEN.out; have := (storeB_at HGS.out.1).1; omega
        have hn0 : 0 < n := by have := HLEN.out; have := List.length_pos_iff.2 HGS.out.2; omega
        have hn0i : (0 : Int) < (n : Int) := by omega
        have hlen : (l.flatMap pcG).length = n * 2 := by rw [encPc.length, HLEN.out]
        have HBAD := Lib.hid (turned_bad HGS.out HIN.out)
        have hw4 := HB4.out.size
        go_wp2_with (at_builtin; refine wpList_appL eltPc encPc (OwnL.newAt pcG 57 (size := 2) (base := w4.heap.size) rfl (Nat.le_refl _)) (Lst.alloc HL4.out (Nat.le_refl _) _) (by decide) (by omega) (le_alloc (Nat.le_refl _) _) rfl _ _ rfl rfl rfl ?_; intro v6 w6 hown6 hgr6 hat6; obtain ⟨g, gc, rfl, hgn, hgm, hgb, ho6, hb6⟩ := copy_out HLEN.out hn0 hown6 hgr6; have HO6 := Lib.hid ho6; have HB6 := Lib.hid (HB4.out.trans (hb6.mono hw4)); clear hown6 hgr6 hat6 ho6 hb6; have hf0 := HO6.out.frozenAt 1; have hz0 := HO6.out.cellAt 1 (by omega); rw [List.getElem?_eq_getElem (by omega)] at hz0; generalize (l.flatMap pcG)[1]'(by omega) = z at hz0; have HS := Lib.hid (HO6.out.stored 1 (.string turnedT)))
        unfold maxLen at hgm
        clear hlen
        go_ret3
        obtain ⟨h1, h2⟩ := HS.out
        rw [show (1 : Nat) = 0 * 2 + 1 from rfl, flat_setT _ _ _ (by have := HLEN.out; omega)] at h1
        have hfin := fine_set (q := ((nthP l 0).1, turnedT)) 0 HF.out (by show (6 : Nat) ≤ 60; decide)
        refine ⟨_, n, gc, l.set 0 ((nthP l 0).1, turnedT), p, q, rfl, hfin.2.1, hfin.2.2, (fun e => by rw [HBAD.out] at e; cases e), ?_, HB6.out.grown h2 HB6.out.size (fun k e => by simp at e; omega)⟩
        have : OwnP (w6.setCell ⟨g, 1, none⟩ (.string turnedT)) w4.heap.size (.slice (some ⟨g, 0, none⟩) n gc) (l.set 0 ((nthP l 0).1, turnedT)) := by unfold OwnP OwnL; rw [List.length_set, HLEN.out]; exact h1
        exact this.lst'
theorem drawSameFiles_any (x : Option Addr) (n cap : Nat) (w : World) (h : Bytes w.heap.size w x n) (hn : n ≤ cap) (hc : cap ≤ maxLen) :
    Calls Tryz.prog 9 #[.slice x n cap] w (TwoOut w) := by
  go_enter Tryz.func9, Tryz.ntmps9
  go_wp2_with fail
  refine (l20Two_any x n cap w h hn hc).mono ?_
  rintro e w1 ⟨xs, ns, cs, l, p, q, rfl, h1, h2, h3, h4, h5⟩
  have HB := Lib.hid h5; have HL := Lib.hid h4; have HS := Lib.hid h2; have HG := Lib.hid h3
  clear h2 h3 h4 h5
  go_wp2_with fail
  go_ret3
  exact ⟨xs, ns, cs, l, p, q, rfl, h1, HS.out, HG.out, HL.out, HB.out⟩
theorem drawChangesOf_any (x : Option Addr) (n cap : Nat) (w : World) (h : Bytes w.heap.size w x n) (hn : n ≤ cap) (hc : cap ≤ maxLen) :
    Calls Tryz.prog 15 #[.slice x n cap] w (TwoOut w) := by
  go_enter Tryz.func15, Tryz.ntmps15
  go_wp2_with fail
  refine (l20Two_any x n cap w h hn hc).mono ?_
  rintro e w1 ⟨xs, ns, cs, l, p, q, rfl, h1, h2, h3, h4, h5⟩
  have HB := Lib.hid h5; have HL := Lib.hid h4; have HS := Lib.hid h2; have HG := Lib.hid h3
  clear h2 h3 h4 h5
  go_wp2_with fail
  go_ret3
  exact ⟨xs, ns, cs, l, p, q, rfl, h1, HS.out, HG.out, HL.out, HB.out⟩
/-! ### changes -/
/-- A drawn store, a root, changes and another root. -/
def CarryOut (w : World) (e : Ending) (w' : World) : Prop := ∃ (x : Option Addr) (n c : Nat) (l : List Pc) (p : Int) (z : Option Addr) (zn zc : Nat) (cs : List Ent) (q : Int), e = .returned (.tuple #[.slice x n c, .int .i64 p, .slice z zn zc, .int .i64 q]) ∧ l.length ≤ 41 ∧ Short 60 l ∧ (storeB l = true → Good l 3 q) ∧ cs.length ≤ 100 ∧ (∀ k, (nthE cs k).1.size ≤ 1000) ∧ Pcs w' w'.heap.size x n c l ∧ Ents w' w'.heap.size z zn zc cs ∧ Below w.heap.size w w'
theorem ents_snoc_small {cs : List Ent} {q : Ent} {m : Nat} (h : ∀ k, (nthE cs k).1.size ≤ m) (hq : q.1.size ≤ m) : ∀ k, (nthE (cs ++ [q]) k).1.size ≤ m := by
  intro k
  rcases Nat.lt_trichotomy k cs.length with h1 | h1 | h1
  · have := h k
    unfold nthE at this ⊢
    rw [List.getD_eq_getElem?_getD, List.getElem?_append_left h1, ← List.getD_eq_getElem?_getD]; exact this
  · subst h1
    unfold nthE
    rw [List.getD_eq_getElem?_getD, List.getElem?_append_right (Nat.le_refl _), Nat.sub_self]; exact hq
  · unfold nthE
    rw [List.getD_eq_getElem?_getD, List.getElem?_eq_none (by rw [List.length_append, List.length_singleton]; omega)]
    show (ByteArray.empty).size ≤ m
    simp
theorem zero_small (n k : Nat) : (nthE (List.replicate n (ByteArray.empty, (0 : Int))) k).1.size ≤ 1000 := by
  have : nthE (List.replicate n (ByteArray.empty, (0 : Int))) k = (ByteArray.empty, 0) := by
    unfold nthE
    rw [List.getD_eq_getElem?_getD, List.getElem?_replicate]
    split <;> rfl
  rw [this]; decide
theorem made_zero (w : World) : OwnC (w.alloc (.cells (madeCells #[.string ByteArray.empty, .int .i64 0] (31 * 2)) 40)) w.heap.size (.slice (some ⟨w.heap.size, 0, none⟩) 31 31) (List.replicate 31 (ByteArray.empty, 0)) := by
  have h := own_mk eltCh w 31 (by decide) (Nat.le_refl w.heap.size)
  unfold OwnC OwnL
  have e : (madeCells #[Value.string ByteArray.empty, .int .i64 0] (31 * 2)).toList = (List.replicate 31 (ByteArray.empty, (0 : Int))).flatMap enG := by kernel_rfl
  rw [← e, List.length_replicate]
  exact h
set_option maxHeartbeats 2000000 in
set_option maxRecDepth 100000 in
theorem drawCarryChanges_any (x : Option Addr) (n cap : Nat) (w : World) (h : Bytes w.heap.size w x n) (hn : n ≤ cap) (hc : cap ≤ maxLen) :
    Calls Tryz.prog 19 #[.slice x n cap] w (CarryOut w) := by
  have HH := Lib.hid h
  have HN := Lib.hid hn; have HC := Lib.hid hc
  have HMK : ∀ w : World, (Instr.makeSlice 29 (.int .i64 31) (.int .i64 31)).run Tryz.prog w = .ok (.slice (some ⟨w.heap.size, 0, none⟩) 31 31) (w.alloc (.cells (madeCells #[.string ByteArray.empty, .int .i64 0] (31 * 2)) 40)) := fun w => run_mk eltCh 31 (by decide) w
  clear h hn hc
  go_enter Tryz.func19, Tryz.ntmps19
  go_wp2_with fail
  refine (l20Two_any x n cap w HH.out HN.out HC.out).mono ?_
  rintro e w1 ⟨xs, ns, ks, l, p, q, rfl, h1, h2, h3, h4, h5⟩
  have HB := Lib.hid h5; have HL := Lib.hid h4; have HS := Lib.hid h2; have HGD := Lib.hid (fun e => (h3 e).2)
  have hw1 := h5.size
  clear h2 h3 h4 h5
  go_wp2_with fail
  refine (open_any x n cap w1 (HH.out.up HB.out) HN.out HC.out).mono ?_
  rintro e w2 ⟨rfl, hr, hb⟩
  have HR2 := Lib.hid hr; have HB2 := Lib.hid (HB.out.trans (hb.mono hw1)); have HL2 := Lib.hid ((HL.out.below hb (Nat.le_refl _)).more hb.size)
  have hw2 := hb.size
  clear hr hb
  obtain ⟨r, hrr⟩ : ∃ r, r = w1.heap.size := ⟨_, rfl⟩
  rw [← hrr] at HR2 ⊢
  have HRR := Lib.hid (show w.heap.size ≤ r by rw [hrr]; exact hw1)
  have hr2 := HR2.out.lt
  clear hrr
  go_wp2_with fail
  refine (specChangesOf_any xs ns ks l p q _ _ HL2.out (Nat.le_refl _) (short_mil HS.out)).mono ?_
  rintro e w3 ⟨v3, rfl, ho, hb⟩
  obtain ⟨z3, zn, zc, rfl, hi3⟩ := ho.lst
  have HR3 := Lib.hid (HR2.out.below hb); have HB3 := Lib.hid (HB2.out.trans (hb.mono HB2.out.size)); have HL3 := Lib.hid (HL2.out.below hb (Nat.le_refl _)); have HO3 := Lib.hid ho
  have hw23 := hb.size
  have hww2 := HB2.out.size
  have HFEW := Lib.hid (chg_few l p q); have HSM := Lib.hid (chg_sizes l p q); have HLEN := Lib.hid hi3.len
  clear ho hb hi3
  obtain ⟨cs, hcs⟩ : ∃ cs, chgB l p q = cs := ⟨_, rfl⟩
  rw [hcs] at HO3 HFEW HSM HLEN
  clear hcs
  go_wp2_with fail
  refine (odd_any r r _ _ _ HR3.out (by omega) (by decide)).mono ?_
  rintro e w4 ⟨b, rfl, _, _, hr, hg⟩
  have HR4 := Lib.hid hr; have HB4 := Lib.hid (HB3.out.trans (below_grownBy hg HB3.out.size HRR.out)); have HL4 := Lib.hid (Lst.rd_kept HL3.out HR3.out hg hw23); have HO4 := Lib.hid (own_keptL HO3.out hg hr2)
  have hw24 : w2.heap.size ≤ w4.heap.size := Nat.le_trans hw23 hg.size
  clear hr hg HR3 HB3 HL3 HO3
  cases b
  · go_wp2_with fail
    refine (odd_any r r _ _ _ HR4.out (by omega) (by decide)).mono ?_
    rintro e w5 ⟨b, rfl, _, _, hr, hg⟩
    have HB5 := Lib.hid (HB4.out.trans (below_grownBy hg HB4.out.size HRR.out)); have HL5 := Lib.hid (Lst.rd_kept HL4.out HR4.out hg hw24); have HO5 := Lib.hid (own_keptL HO4.out hg hr2)
    have hw25 : w2.heap.size ≤ w5.heap.size := Nat.le_trans hw24 hg.size
    clear hr hg
    cases b
    · go_wp2_with fail
      refine bodyPost_ret (results_four rfl _ _ _) rfl ?_
      exact ⟨xs, ns, ks, l, p, z3, zn, zc, cs, q, rfl, h1, HS.out, HGD.out, by have := HFEW.out; omega, HSM.out, HL5.out.more hw25, HO5.out.lst', HB5.out⟩
    · go_wp2_with fail
      refine bodyPost_ret (results_four rfl _ _ _) rfl ?_
      exact ⟨xs, ns, ks, l, p, some ⟨w5.heap.size, 0, none⟩, 31, 31, List.replicate 31 (ByteArray.empty, 0), q, rfl, h1, HS.out, HGD.out, by simp, zero_small 31, (HL5.out.alloc hw25 _).more (Nat.le_trans hw25 (by simp)), OwnL.lst' (made_zero w5), HB5.out.alloc HB5.out.size _⟩
  · go_wp2_with fail
    refine (l20Path_any r r _ 4 _ HR4.out (by omega) (by decide)).mono ?_
    rintro e w5 ⟨path, rfl, hp, _, hr, hg⟩
    have hps := paths_size path hp
    have HR5 := Lib.hid hr; have HB5 := Lib.hid (HB4.out.trans (below_grownBy hg HB4.out.size HRR.out)); have HL5 := Lib.hid (Lst.rd_kept HL4.out HR4.out hg hw24); have HO5 := Lib.hid (own_keptL HO4.out hg hr2)
    have hw25 : w2.heap.size ≤ w5.heap.size := Nat.le_trans hw24 hg.size
    clear hr hg hp HR4 HB4 HL4 HO4
    go_wp2_with fail
    refine (pickN_any 5 r r _ _ _ w5 HR5.out (grownBy_refl _ _) rfl (by decide) (by decide) (by omega)).mono ?_
    rintro e w6 ⟨k, rfl, hk, hr, hg, _⟩
    have HR6 := Lib.hid hr; have HB6 := Lib.hid (HB5.out.trans (below_grownBy hg HB5.out.size HRR.out)); have HL6 := Lib.hid (Lst.rd_kept HL5.out HR5.out hg hw25); have HO6 := Lib.hid (own_keptL HO5.out hg hr2)
    have hw26 : w2.heap.size ≤ w6.heap.size := Nat.le_trans hw25 hg.size
    clear hr hg HR5 HB5 HL5 HO5
    have hwr : IntKind.i64.wrap ((k : Int) - 1) = (k : Int) - 1 := by rw [IntKind.wrap_i64]; omega
    have hfew : cs.length ≤ 2000000 := by have := HFEW.out; omega
    go_wp2_with (at_builtin; refine wpList_app1L eltCh encEn (path, (k : Int) - 1) _ rfl HO6.out hfew hw26 rfl _ _ rfl rfl rfl ?_; intro v7 w7 hown hgrow; obtain ⟨z7, zn7, zc7, rfl, hi7⟩ := hown.lst; have HO7 := Lib.hid hown; have HR7 := Lib.hid (HR6.out.grown hgrow (fun k e => ⟨Nat.le_trans (Nat.le_of_lt hr2) (HO6.out.at k e), fun e2 => by have := HO6.out.at k e; omega⟩)); have HB7 := Lib.hid (HB6.out.grown hgrow HB6.out.size (fun k e => Nat.le_trans hww2 (HO6.out.at k e))); have hb7 := (Below.refl w2.heap.size w6).grown hgrow hw26 HO6.out.at; have HL7 := Lib.hid (HL6.out.below hb7 (Nat.le_refl _)); have hw27 : w2.heap.size ≤ w7.heap.size := Nat.le_trans hw26 hgrow.size; clear hown hgrow hi7 hb7)
    refine (odd_any r r _ _ _ HR7.out (by omega) (by decide)).mono ?_
    rintro e w8 ⟨b, rfl, _, _, hr, hg⟩
    have HB8 := Lib.hid (HB7.out.trans (below_grownBy hg HB7.out.size HRR.out)); have HL8 := Lib.hid (Lst.rd_kept HL7.out HR7.out hg hw27); have HO8 := Lib.hid (own_keptL HO7.out hg hr2)
    have hw28 : w2.heap.size ≤ w8.heap.size := Nat.le_trans hw27 hg.size
    clear hr hg
    cases b
    · go_wp2_with fail
      refine bodyPost_ret (results_four rfl _ _ _) rfl ?_
      exact ⟨xs, ns, ks, l, p, z7, zn7, zc7, cs ++ [(path, (k : Int) - 1)], q, rfl, h1, HS.out, HGD.out, by rw [List.length_append, List.length_singleton]; have := HFEW.out; omega, ents_snoc_small HSM.out (by show path.size ≤ 1000; omega), HL8.out.more hw28, HO8.out.lst', HB8.out⟩
    · go_wp2_with fail
      refine bodyPost_ret (results_four rfl _ _ _) rfl ?_
      exact ⟨xs, ns, ks, l, p, some ⟨w8.heap.size, 0, none⟩, 31, 31, List.replicate 31 (ByteArray.empty, 0), q, rfl, h1, HS.out, HGD.out, by simp, zero_small 31, (HL8.out.alloc hw28 _).more (Nat.le_trans hw28 (by simp)), OwnL.lst' (made_zero w8), HB8.out.alloc HB8.out.size _⟩
end Go.Proofs.YtglajbmopiolhaaGreatDoor
