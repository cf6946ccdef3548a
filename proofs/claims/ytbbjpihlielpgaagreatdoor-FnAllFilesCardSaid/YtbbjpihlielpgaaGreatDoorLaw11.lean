/-
  The walks of the laws that chapter 11's functions complete: empty roots, writes, drops, all files, files with a name.
-/
import Derived.Test.YtbbjpihlielpgaaGreatDoorLaw10
import Derived.Test.YtbbjpihlielpgaaGreatDoorImpl11
import Derived.Test.YtbbjpihlielpgaaGreatDoorImpl8
namespace Go.Proofs.YtbbjpihlielpgaaGreatDoor
open Go.RowKit
set_option linter.unusedVariables false
theorem write_no {l : List Pc} {root : Int} {path content : ByteArray} (h : (writeB l root path content).2.2 = false) : ((writeB l root path content).1 = l ∧ (writeB l root path content).2.1 = root) ∨ ((writeB l root path content).1 = [] ∧ (writeB l root path content).2.1 = -1) := by
  unfold writeB at h ⊢
  split
  · exact .inr ⟨rfl, rfl⟩
  rename_i h1
  rw [if_neg h1] at h
  split
  · exact .inl ⟨rfl, rfl⟩
  rename_i h2
  rw [if_neg h2] at h
  split
  · exact .inl ⟨rfl, rfl⟩
  rename_i h3
  rw [if_neg h3] at h
  split
  · exact .inl ⟨rfl, rfl⟩
  · rename_i h4; rw [if_neg h4] at h; cases h
theorem dropAt_no {l : List Pc} {root : Int} {path : ByteArray} (h : (dropAtB l root path).2.2 = false) : ((dropAtB l root path).1 = l ∧ (dropAtB l root path).2.1 = root) ∨ ((dropAtB l root path).1 = [] ∧ (dropAtB l root path).2.1 = -1) := by
  unfold dropAtB at h ⊢
  split
  · exact .inr ⟨rfl, rfl⟩
  rename_i h1
  rw [if_neg h1] at h
  split
  · exact .inl ⟨rfl, rfl⟩
  rename_i h2
  rw [if_neg h2] at h
  split
  · rename_i h3
    rw [if_pos h3] at h
    split
    · exact .inl ⟨rfl, rfl⟩
    · rename_i h4; rw [if_neg h4] at h; cases h
  · rename_i h3
    rw [if_neg h3] at h
    split
    · exact .inl ⟨rfl, rfl⟩
    · rename_i h4; rw [if_neg h4] at h; cases h
theorem keeps_at {l L : List Pc} {root : Int} (h : Grows l L) {k : Nat} (hk : k < (allB l root).length) : rdB L root (nthS (allB l root) k) = rdB l root (nthS (allB l root) k) ∧ (rdB l root (nthS (allB l root) k)).2 = true := by
  have hm : nthS (allB l root) k ∈ allB l root := by rw [nthS_get hk]; exact List.getElem_mem _
  have h1 := keeps_all h hm
  exact ⟨h1.1, by rw [← h1.1]; exact h1.2⟩
set_option maxHeartbeats 1000000 in
set_option maxRecDepth 100000 in
theorem keepsFiles_any (x y : Option Addr) (n cap m d : Nat) (l L : List Pc) (root : Int) (w : World) (h : Pcs w w.heap.size x n cap l) (h' : Pcs w w.heap.size y m d L) (hz : ∀ k, (nthP l k).2.size ≤ 1048576) (hz' : ∀ k, (nthP L k).2.size ≤ 1048576) (hg : Grows l L) :
    Calls Tryz.prog 33 #[.slice x n cap, .slice y m d, .int .i64 root] w (BelowB true w) := by
  have HH := Lib.hid h; have HH' := Lib.hid h'; have HZ := Lib.hid hz; have HZ' := Lib.hid hz'
  have HK := Lib.hid (fun k hk => keeps_at (root := root) hg (k := k) hk)
  clear h h' hz hz'
  go_enter Tryz.func33, Tryz.ntmps33
  go_wp2_with fail
  refine (implAllFiles_any x n cap l root _ _ HH.out (Nat.le_refl _) HZ.out).mono ?_
  rintro e w1 ⟨v1, rfl, ho, hb⟩
  obtain ⟨z, q, c, rfl, hi⟩ := ho.lst
  have HB1 := Lib.hid hb; have HX := Lib.hid hi; have HLEN := Lib.hid hi.len
  have hw1 := hb.size
  have hm27 : q ≤ 27 := by have := all_many (l := l) (root := root); have := hi.len; omega
  have HM := Lib.hid (all_mil (l := l) (root := root))
  clear hb ho hi
  obtain ⟨xs, hxs⟩ : ∃ xs, allB l root = xs := ⟨_, rfl⟩
  rw [hxs] at HX HLEN HM HK
  clear hxs
  go_wp2_with fail
  go_loopw [8] (fun i wr => ∃ k : Nat, k ≤ q ∧ i = .int .i64 k ∧ Below w1.heap.size w1 wr) (fun i _ => q - (intOf i).toNat)
  case atStart => exact ⟨0, by omega, rfl, Below.refl _ _⟩
  case round =>
    obtain ⟨k, hk, rfl, hb⟩ := hrel
    have HBW := Lib.hid hb
    have hsz := hb.size
    clear hb
    by_cases hlt : k < q
    · have hkl : k < xs.length := by have := HLEN.out; omega
      obtain ⟨b, off, rfl, hb, hc⟩ := (HX.out.below HBW.out (Nat.le_refl _)).atS hlt
      have hzk := HM.out k
      have HKK := Lib.hid (HK.out k hkl)
      obtain ⟨s, hs⟩ : ∃ s, s = nthS xs k := ⟨_, rfl⟩
      rw [← hs] at hc hzk HKK
      have HS := Lib.hid hs
      clear hs
      have HBA := Lib.hid (HB1.out.trans (HBW.out.mono hw1))
      go_wp2_with fail
      refine (implReadAt_any x n cap l root s _ _ (HH.out.below HBA.out (Nat.le_refl _)) HBA.out.size HZ.out hzk).mono ?_
      rintro e w3 ⟨rfl, hb3⟩
      have HB3 := Lib.hid (HBW.out.trans (hb3.mono hsz)); have HB3A := Lib.hid (HBA.out.trans (hb3.mono HBA.out.size))
      have hc3 := (HX.out.below HB3.out (Nat.le_refl _)).atS hlt
      clear hb3
      obtain ⟨b', off', e', _, hc'⟩ := hc3
      simp only [Option.some.injEq, Addr.mk.injEq, and_true] at e'
      obtain ⟨rfl, rfl⟩ := e'
      rw [← HS.out] at hc'
      obtain ⟨⟨t, g⟩, hR⟩ : ∃ R, rdB l root s = R := ⟨_, rfl⟩
      rw [hR] at HKK ⊢
      obtain rfl : g = true := HKK.out.2
      have HRR := Lib.hid HKK.out.1
      clear HKK hR
      go_wp2_with fail
      refine (implReadAt_any y m d L root s _ _ (HH'.out.below HB3A.out (Nat.le_refl _)) HB3A.out.size HZ'.out hzk).mono ?_
      rintro e w4 ⟨rfl, hb4⟩
      have HB4 := Lib.hid (HB3.out.trans (hb4.mono HB3.out.size))
      clear hb4
      rw [HRR.out]
      go_wp2_with fail
      go_roundw
      case rel => exact ⟨k + 1, by omega, by go_num, HB4.out⟩
      case measure => simp [intOf]; omega
    · go_wp2_with fail
      go_ret
      exact ⟨rfl, HB1.out.trans (HBW.out.mono hw1)⟩
set_option maxHeartbeats 1000000 in
set_option maxRecDepth 100000 in
theorem fnDropAt_any (x : Option Addr) (n cap : Nat) (w : World) (h : Bytes w.heap.size w x n) (hn : n ≤ cap) (hc : cap ≤ maxLen) :
    Calls Tryz.prog 7 #[.slice x n cap] w fun e w' => e = .returned (.bool true) ∧ Below w.heap.size w w' := by
  by_cases hlong : 1048576 < (n : Int)
  · go_enter Tryz.func7, Tryz.ntmps7
    go_wp2
    go_ret
    exact ⟨rfl, Below.refl _ _⟩
  · have HB0 := Lib.hid h
    have HC := Lib.hid hc
    have HLE := Lib.hid hn
    clear h hc hn
    go_enter Tryz.func7, Tryz.ntmps7
    go_wp2_with fail
    refine (drawDropAt_any x n cap w HB0.out HLE.out HC.out).mono ?_
    rintro e w1 ⟨y, m, c, l, p, path, rfl, hl41, hsh, hps, hl, hb⟩
    have HB := Lib.hid hb; have HL := Lib.hid hl; have HZ := Lib.hid (short_mil hsh); have HZD := Lib.hid (short_mil (dropAt_short (root := p) (path := path) hsh))
    have HYES := Lib.hid (drop_nowhere (l := l) (root := p) (path := path)); have HNO := Lib.hid (dropAt_no (l := l) (root := p) (path := path))
    clear hb hl hsh
    go_wp2_with fail
    refine (implDropAt_any y m c l p path _ _ HL.out (Nat.le_refl _) HZ.out (by omega)).mono ?_
    rintro e w2 ⟨v2, rfl, ho, hb⟩
    obtain ⟨x2, n2, c2, rfl, hi⟩ := ho.lst
    have HB2 := Lib.hid (HB.out.trans (hb.mono HB.out.size)); have HL2 := Lib.hid ((HL.out.below hb (Nat.le_refl _)).more hb.size); have HX2 := Lib.hid hi
    clear hb ho hi
    go_wp2_with fail
    refine (specDropAt_any y m c l p path _ _ HL2.out (Nat.le_refl _) (mil_max HZ.out) (by omega)).mono ?_
    rintro e w3 ⟨x3, n3, c3, rfl, hi, hb⟩
    have HB3 := Lib.hid (HB2.out.trans (hb.mono HB2.out.size)); have HL3 := Lib.hid ((HL2.out.below hb (Nat.le_refl _)).more hb.size); have HX3 := Lib.hid ((HX2.out.below hb (Nat.le_refl _)).more hb.size); have HY3 := Lib.hid hi
    clear hb hi HL HL2 HX2
    obtain ⟨⟨L, q, g⟩, hD⟩ : ∃ R, dropAtB l p path = R := ⟨_, rfl⟩
    simp only [hD] at HYES HNO HX3 HY3 HZD ⊢
    clear hD
    have HLN := Lib.hid HX3.out.len
    go_wp2_with fail
    refine (samePieces_any _ _ _ _ _ _ L L _ _ HX3.out HY3.out).mono ?_
    rintro e w4 hq
    have hb := hq.below
    obtain ⟨rfl, _⟩ := hq
    rw [decide_eq_true (rfl : L = L)]
    have HB4 := Lib.hid (HB3.out.trans (hb.mono HB3.out.size)); have HL4 := Lib.hid ((HL3.out.below hb (Nat.le_refl _)).more hb.size); have HX4 := Lib.hid ((HX3.out.below hb (Nat.le_refl _)).more hb.size)
    clear hb HL3 HX3 HY3
    cases g
    · rcases HNO.out rfl with ⟨rfl, rfl⟩ | ⟨rfl, rfl⟩
      · clear HYES HNO
        go_wp2_with (first
          | (go_at_call 27; refine (samePieces_any _ _ _ _ _ _ L L _ _ HX4.out HL4.out).mono ?_; rintro e w5 hq; have hb := hq.below; obtain ⟨rfl, _⟩ := hq; rw [decide_eq_true (rfl : L = L)]; have HB5 := Lib.hid (HB4.out.trans (hb.mono HB4.out.size)); clear hb)
          | (go_at_call 15; refine (alive_any _).mono ?_; rintro e w' ⟨rfl, rfl⟩))
        go_ret
        exact ⟨rfl, HB5.out⟩
      · have hn0 : n2 = 0 := by have := HLN.out; simpa using this.symm
        subst hn0
        clear HYES HNO
        by_cases hll : [] = l
        · by_cases hp1 : (-1 : Int) = p
          · subst hp1
            go_wp2_with (first
              | (go_at_call 27; refine (samePieces_any _ _ _ _ _ _ [] l _ _ HX4.out HL4.out).mono ?_; rintro e w5 hq; have hb := hq.below; obtain ⟨rfl, _⟩ := hq; rw [decide_eq_true hll]; have HB5 := Lib.hid (HB4.out.trans (hb.mono HB4.out.size)); clear hb)
              | (go_at_call 15; refine (alive_any _).mono ?_; rintro e w' ⟨rfl, rfl⟩))
            go_ret
            exact ⟨rfl, HB5.out⟩
          · have hp2 : ((-1 : Int) == p) = false := by simpa using hp1
            go_wp2_with (first
              | (go_at_call 27; refine (samePieces_any _ _ _ _ _ _ [] l _ _ HX4.out HL4.out).mono ?_; rintro e w5 hq; have hb := hq.below; obtain ⟨rfl, _⟩ := hq; rw [decide_eq_true hll]; have HB5 := Lib.hid (HB4.out.trans (hb.mono HB4.out.size)); clear hb)
              | (go_at_call 15; refine (alive_any _).mono ?_; rintro e w' ⟨rfl, rfl⟩))
            go_ret
            exact ⟨rfl, HB5.out⟩
        · go_wp2_with (first
            | (go_at_call 27; refine (samePieces_any _ _ _ _ _ _ [] l _ _ HX4.out HL4.out).mono ?_; rintro e w5 hq; have hb := hq.below; obtain ⟨rfl, _⟩ := hq; rw [decide_eq_false hll]; have HB5 := Lib.hid (HB4.out.trans (hb.mono HB4.out.size)); clear hb)
            | (go_at_call 15; refine (alive_any _).mono ?_; rintro e w' ⟨rfl, rfl⟩))
          go_ret
          exact ⟨rfl, HB5.out⟩
    · obtain ⟨hst, hgr, hwt, hda⟩ := HYES.out rfl
      have HST := Lib.hid hst; have HGR := Lib.hid hgr; have HWT := Lib.hid hwt; have HDA := Lib.hid hda
      clear HYES HNO hst hgr hwt hda
      go_wp2_with fail
      refine (implWalkTo_any _ _ _ L q path _ _ HX4.out (Nat.le_refl _) HZD.out (by omega)).mono ?_
      rintro e w5 ⟨rfl, hb⟩
      rw [HWT.out]
      have HB5 := Lib.hid (HB4.out.trans (hb.mono HB4.out.size)); have HL5 := Lib.hid ((HL4.out.below hb (Nat.le_refl _)).more hb.size); have HX5 := Lib.hid ((HX4.out.below hb (Nat.le_refl _)).more hb.size)
      clear hb HL4 HX4
      go_wp2_with fail
      refine (implDropAt_any _ _ _ L q path _ _ HX5.out (Nat.le_refl _) HZD.out (by omega)).mono ?_
      rintro e w6 ⟨v6, rfl, ho, hb⟩
      rw [HDA.out]
      have HB6 := Lib.hid (HB5.out.trans (hb.mono HB5.out.size)); have HL6 := Lib.hid ((HL5.out.below hb (Nat.le_refl _)).more hb.size); have HX6 := Lib.hid ((HX5.out.below hb (Nat.le_refl _)).more hb.size)
      clear hb ho HL5 HX5
      go_wp2_with (first
        | (go_at_call 32; refine (implStoreValid_any _ _ _ L _ _ HX6.out (Nat.le_refl _) (mil_max HZD.out)).mono ?_; rintro e w7 ⟨rfl, hb⟩; rw [HST.out]; have HB7 := Lib.hid (HB6.out.trans (hb.mono HB6.out.size)); have HL7 := Lib.hid ((HL6.out.below hb (Nat.le_refl _)).more hb.size); have HX7 := Lib.hid ((HX6.out.below hb (Nat.le_refl _)).more hb.size); clear hb)
        | (go_at_call 33; refine (keepsFiles_any _ _ _ _ _ _ l L p _ HL7.out HX7.out HZ.out HZD.out HGR.out).mono ?_; rintro e w8 ⟨rfl, hb⟩; have HB8 := Lib.hid (HB7.out.trans (hb.mono HB7.out.size)); clear hb))
      go_ret
      exact ⟨rfl, HB8.out⟩
set_option maxHeartbeats 1000000 in
set_option maxRecDepth 100000 in
theorem fnWriteAt_any (x : Option Addr) (n cap : Nat) (w : World) (h : Bytes w.heap.size w x n) (hn : n ≤ cap) (hc : cap ≤ maxLen) :
    Calls Tryz.prog 6 #[.slice x n cap] w fun e w' => e = .returned (.bool true) ∧ Below w.heap.size w w' := by
  by_cases hlong : 1048576 < (n : Int)
  · go_enter Tryz.func6, Tryz.ntmps6
    go_wp2
    go_ret
    exact ⟨rfl, Below.refl _ _⟩
  · have HB0 := Lib.hid h
    have HC := Lib.hid hc
    have HLE := Lib.hid hn
    clear h hc hn
    go_enter Tryz.func6, Tryz.ntmps6
    go_wp2_with fail
    refine (drawWriteAt_any x n cap w HB0.out HLE.out HC.out).mono ?_
    rintro e w1 ⟨y, m, c, l, p, path, t, rfl, hl41, hsh, hps, hts, hl, hb⟩
    have HB := Lib.hid hb; have HL := Lib.hid hl; have HZ := Lib.hid (short_mil hsh); have HZD := Lib.hid (short_mil (write_short (root := p) (path := path) (content := t) hsh))
    have HYES := Lib.hid (show (writeB l p path t).2.2 = true → storeB (writeB l p path t).1 = true ∧ Grows l (writeB l p path t).1 ∧ rdB (writeB l p path t).1 (writeB l p path t).2.1 path = (t, true) ∧ writeB (writeB l p path t).1 (writeB l p path t).2.1 path t = ((writeB l p path t).1, (writeB l p path t).2.1, true) ∧ l.length ≤ (writeB l p path t).1.length from fun e =>
      ⟨(write_made e).2.2.2.2.2.2.1.1, (write_made e).2.2.2.2.2.2.1, write_read e, write_again e, grows_len (write_made e).1 (write_made e).2.2.2.2.2.2.1⟩)
    have HNO := Lib.hid (write_no (l := l) (root := p) (path := path) (content := t))
    have hts2 : t.size ≤ 1048576 := Nat.le_trans hts (by decide)
    clear hb hl hsh hts
    go_wp2_with fail
    refine (implWriteAt_any y m c l p path t _ _ HL.out (Nat.le_refl _) HZ.out (by omega) hts2).mono ?_
    rintro e w2 ⟨v2, rfl, ho, hb⟩
    obtain ⟨x2, n2, c2, rfl, hi⟩ := ho.lst
    have HB2 := Lib.hid (HB.out.trans (hb.mono HB.out.size)); have HL2 := Lib.hid ((HL.out.below hb (Nat.le_refl _)).more hb.size); have HX2 := Lib.hid hi
    clear hb ho hi
    go_wp2_with fail
    refine (specWriteAt_any y m c l p path t _ _ HL2.out (Nat.le_refl _) (mil_max HZ.out) (by omega) hts2).mono ?_
    rintro e w3 ⟨x3, n3, c3, rfl, hi, hb⟩
    have HB3 := Lib.hid (HB2.out.trans (hb.mono HB2.out.size)); have HL3 := Lib.hid ((HL2.out.below hb (Nat.le_refl _)).more hb.size); have HX3 := Lib.hid ((HX2.out.below hb (Nat.le_refl _)).more hb.size); have HY3 := Lib.hid hi
    clear hb hi HL HL2 HX2
    obtain ⟨⟨L, q, g⟩, hD⟩ : ∃ R, writeB l p path t = R := ⟨_, rfl⟩
    simp only [hD] at HYES HNO HX3 HY3 HZD ⊢
    clear hD
    have HLN := Lib.hid HX3.out.len; have HLM := Lib.hid HL3.out.len
    go_wp2_with fail
    refine (samePieces_any _ _ _ _ _ _ L L _ _ HX3.out HY3.out).mono ?_
    rintro e w4 hq
    have hb := hq.below
    obtain ⟨rfl, _⟩ := hq
    rw [decide_eq_true (rfl : L = L)]
    have HB4 := Lib.hid (HB3.out.trans (hb.mono HB3.out.size)); have HL4 := Lib.hid ((HL3.out.below hb (Nat.le_refl _)).more hb.size); have HX4 := Lib.hid ((HX3.out.below hb (Nat.le_refl _)).more hb.size)
    clear hb HL3 HX3 HY3
    cases g
    · rcases HNO.out rfl with ⟨rfl, rfl⟩ | ⟨rfl, rfl⟩
      · clear HYES HNO
        go_wp2_with (first
          | (go_at_call 27; refine (samePieces_any _ _ _ _ _ _ L L _ _ HX4.out HL4.out).mono ?_; rintro e w5 hq; have hb := hq.below; obtain ⟨rfl, _⟩ := hq; rw [decide_eq_true (rfl : L = L)]; have HB5 := Lib.hid (HB4.out.trans (hb.mono HB4.out.size)); clear hb)
          | (go_at_call 15; refine (alive_any _).mono ?_; rintro e w' ⟨rfl, rfl⟩))
        go_ret
        exact ⟨rfl, HB5.out⟩
      · have hn0 : n2 = 0 := by have := HLN.out; simpa using this.symm
        subst hn0
        clear HYES HNO
        by_cases hll : [] = l
        · by_cases hp1 : (-1 : Int) = p
          · subst hp1
            go_wp2_with (first
              | (go_at_call 27; refine (samePieces_any _ _ _ _ _ _ [] l _ _ HX4.out HL4.out).mono ?_; rintro e w5 hq; have hb := hq.below; obtain ⟨rfl, _⟩ := hq; rw [decide_eq_true hll]; have HB5 := Lib.hid (HB4.out.trans (hb.mono HB4.out.size)); clear hb)
              | (go_at_call 15; refine (alive_any _).mono ?_; rintro e w' ⟨rfl, rfl⟩))
            go_ret
            exact ⟨rfl, HB5.out⟩
          · have hp2 : ((-1 : Int) == p) = false := by simpa using hp1
            go_wp2_with (first
              | (go_at_call 27; refine (samePieces_any _ _ _ _ _ _ [] l _ _ HX4.out HL4.out).mono ?_; rintro e w5 hq; have hb := hq.below; obtain ⟨rfl, _⟩ := hq; rw [decide_eq_true hll]; have HB5 := Lib.hid (HB4.out.trans (hb.mono HB4.out.size)); clear hb)
              | (go_at_call 15; refine (alive_any _).mono ?_; rintro e w' ⟨rfl, rfl⟩))
            go_ret
            exact ⟨rfl, HB5.out⟩
        · go_wp2_with (first
            | (go_at_call 27; refine (samePieces_any _ _ _ _ _ _ [] l _ _ HX4.out HL4.out).mono ?_; rintro e w5 hq; have hb := hq.below; obtain ⟨rfl, _⟩ := hq; rw [decide_eq_false hll]; have HB5 := Lib.hid (HB4.out.trans (hb.mono HB4.out.size)); clear hb)
            | (go_at_call 15; refine (alive_any _).mono ?_; rintro e w' ⟨rfl, rfl⟩))
          go_ret
          exact ⟨rfl, HB5.out⟩
    · obtain ⟨hst, hgr, hrd, hag, hlen⟩ := HYES.out rfl
      have HST := Lib.hid hst; have HGR := Lib.hid hgr; have HRD := Lib.hid hrd; have HAG := Lib.hid hag
      have hmn : (m : Int) ≤ (n2 : Int) := by have h1 := HLN.out; have h2 := HLM.out; omega
      clear HYES HNO hst hgr hrd hag hlen
      go_wp2_with fail
      refine (implReadAt_any _ _ _ L q path _ _ HX4.out (Nat.le_refl _) HZD.out (by omega)).mono ?_
      rintro e w5 ⟨rfl, hb⟩
      rw [HRD.out]
      have HB5 := Lib.hid (HB4.out.trans (hb.mono HB4.out.size)); have HL5 := Lib.hid ((HL4.out.below hb (Nat.le_refl _)).more hb.size); have HX5 := Lib.hid ((HX4.out.below hb (Nat.le_refl _)).more hb.size)
      clear hb HL4 HX4
      go_wp2_with fail
      refine (implWriteAt_any _ _ _ L q path t _ _ HX5.out (Nat.le_refl _) HZD.out (by omega) hts2).mono ?_
      rintro e w6 ⟨v6, rfl, ho, hb⟩
      rw [HAG.out]
      have HB6 := Lib.hid (HB5.out.trans (hb.mono HB5.out.size)); have HL6 := Lib.hid ((HL5.out.below hb (Nat.le_refl _)).more hb.size); have HX6 := Lib.hid ((HX5.out.below hb (Nat.le_refl _)).more hb.size)
      clear hb ho HL5 HX5
      go_wp2_with (first
        | (go_at_call 32; refine (implStoreValid_any _ _ _ L _ _ HX6.out (Nat.le_refl _) (mil_max HZD.out)).mono ?_; rintro e w7 ⟨rfl, hb⟩; rw [HST.out]; have HB7 := Lib.hid (HB6.out.trans (hb.mono HB6.out.size)); have HL7 := Lib.hid ((HL6.out.below hb (Nat.le_refl _)).more hb.size); have HX7 := Lib.hid ((HX6.out.below hb (Nat.le_refl _)).more hb.size); clear hb)
        | (go_at_call 33; refine (keepsFiles_any _ _ _ _ _ _ l L p _ HL7.out HX7.out HZ.out HZD.out HGR.out).mono ?_; rintro e w8 ⟨rfl, hb⟩; have HB8 := Lib.hid (HB7.out.trans (hb.mono HB7.out.size)); clear hb))
      go_ret
      exact ⟨ret_bool (by simp), HB8.out⟩
set_option maxHeartbeats 1000000 in
set_option maxRecDepth 100000 in
theorem fnEmptyRoot_any (x : Option Addr) (n cap : Nat) (w : World) (h : Bytes w.heap.size w x n) (hn : n ≤ cap) (hc : cap ≤ maxLen) :
    Calls Tryz.prog 5 #[.slice x n cap] w fun e w' => e = .returned (.bool true) ∧ Below w.heap.size w w' := by
  by_cases hlong : 1048576 < (n : Int)
  · go_enter Tryz.func5, Tryz.ntmps5
    go_wp2
    go_ret
    exact ⟨rfl, Below.refl _ _⟩
  · have HB0 := Lib.hid h
    have HC := Lib.hid hc
    have HLE := Lib.hid hn
    clear h hc hn
    go_enter Tryz.func5, Tryz.ntmps5
    go_wp2_with fail
    refine (drawEmptyRoot_any x n cap w HB0.out HLE.out HC.out).mono ?_
    rintro e w1 ⟨y, m, c, l, rfl, hl41, hsh, hl, hb⟩
    have HB := Lib.hid hb; have HL := Lib.hid hl; have HZ := Lib.hid (short_mil hsh); have HZD := Lib.hid (short_mil (putB_short (t := folderB []) hsh))
    have HYES := Lib.hid (empty_made (l := l)); have HNO := Lib.hid (put_no (l := l) (t := folderB []))
    clear hb hl hsh
    go_wp2_with fail
    refine (implEmptyRoot_any y m c l _ _ HL.out (Nat.le_refl _) HZ.out).mono ?_
    rintro e w2 ⟨v2, rfl, ho, hb⟩
    obtain ⟨x2, n2, c2, rfl, hi⟩ := ho.lst
    have HB2 := Lib.hid (HB.out.trans (hb.mono HB.out.size)); have HL2 := Lib.hid ((HL.out.below hb (Nat.le_refl _)).more hb.size); have HX2 := Lib.hid hi
    clear hb ho hi
    go_wp2_with fail
    refine (specEmptyRoot_any y m c l _ _ HL2.out (Nat.le_refl _) (mil_max HZ.out)).mono ?_
    rintro e w3 ⟨x3, n3, c3, rfl, hi, hb⟩
    have HB3 := Lib.hid (HB2.out.trans (hb.mono HB2.out.size)); have HL3 := Lib.hid ((HL2.out.below hb (Nat.le_refl _)).more hb.size); have HX3 := Lib.hid ((HX2.out.below hb (Nat.le_refl _)).more hb.size); have HY3 := Lib.hid hi
    clear hb hi HL HL2 HX2
    obtain ⟨⟨L, q, g⟩, hD⟩ : ∃ R, putB l (folderB []) = R := ⟨_, rfl⟩
    simp only [hD] at HYES HNO HX3 HY3 HZD ⊢
    clear hD
    have HLN := Lib.hid HX3.out.len
    go_wp2_with fail
    refine (samePieces_any _ _ _ _ _ _ L L _ _ HX3.out HY3.out).mono ?_
    rintro e w4 hq
    have hb := hq.below
    obtain ⟨rfl, _⟩ := hq
    rw [decide_eq_true (rfl : L = L)]
    have HB4 := Lib.hid (HB3.out.trans (hb.mono HB3.out.size)); have HL4 := Lib.hid ((HL3.out.below hb (Nat.le_refl _)).more hb.size); have HX4 := Lib.hid ((HX3.out.below hb (Nat.le_refl _)).more hb.size)
    clear hb HL3 HX3 HY3
    cases g
    · obtain ⟨rfl, hcase⟩ := HNO.out rfl
      by_cases hll : L = l
      · clear HYES HNO hcase
        go_wp2_with (first
          | (go_at_call 27; refine (samePieces_any _ _ _ _ _ _ L l _ _ HX4.out HL4.out).mono ?_; rintro e w5 hq; have hb := hq.below; obtain ⟨rfl, _⟩ := hq; rw [decide_eq_true hll]; have HB5 := Lib.hid (HB4.out.trans (hb.mono HB4.out.size)); clear hb)
          | (go_at_call 15; refine (alive_any _).mono ?_; rintro e w' ⟨rfl, rfl⟩))
        go_ret
        exact ⟨rfl, HB5.out⟩
      · have hL0 : L = [] := by rcases hcase with e | e; exact absurd e hll; exact e
        have hn0 : n2 = 0 := by have := HLN.out; rw [hL0] at this; simpa using this.symm
        subst hn0
        clear HYES HNO hcase hL0
        go_wp2_with (first
          | (go_at_call 27; refine (samePieces_any _ _ _ _ _ _ L l _ _ HX4.out HL4.out).mono ?_; rintro e w5 hq; have hb := hq.below; obtain ⟨rfl, _⟩ := hq; rw [decide_eq_false hll]; have HB5 := Lib.hid (HB4.out.trans (hb.mono HB4.out.size)); clear hb)
          | (go_at_call 15; refine (alive_any _).mono ?_; rintro e w' ⟨rfl, rfl⟩))
        go_ret
        exact ⟨rfl, HB5.out⟩
    · obtain ⟨h1, h2, h3⟩ := HYES.out rfl
      have HNM := Lib.hid h1; have HAL := Lib.hid h2; have HAG := Lib.hid h3
      clear HYES HNO h1 h2 h3
      go_wp2_with fail
      refine (implNamesAt_any _ _ _ L q ⟨#[47]⟩ _ _ HX4.out (Nat.le_refl _) HZD.out (by decide)).mono ?_
      rintro e w5 ⟨v5, rfl, ho, hb⟩
      rw [HNM.out] at ho ⊢
      obtain ⟨x5, n5, c5, rfl, hi⟩ := ho.lst
      obtain rfl : n5 = 0 := by have := hi.len; simpa using this.symm
      have HB5 := Lib.hid (HB4.out.trans (hb.mono HB4.out.size)); have HX5 := Lib.hid ((HX4.out.below hb (Nat.le_refl _)).more hb.size)
      clear hb ho hi HL4 HX4
      go_wp2_with fail
      refine (implEmptyRoot_any _ _ _ L _ _ HX5.out (Nat.le_refl _) HZD.out).mono ?_
      rintro e w6 ⟨v6, rfl, ho, hb⟩
      rw [HAG.out] at ho ⊢
      obtain ⟨x6, n6, c6, rfl, hi⟩ := ho.lst
      have HB6 := Lib.hid (HB5.out.trans (hb.mono HB5.out.size)); have HX6 := Lib.hid ((HX5.out.below hb (Nat.le_refl _)).more hb.size); have HY6 := Lib.hid hi
      clear hb ho hi HX5
      go_wp2_with (first
        | (go_at_call 28; refine (implAllFiles_any _ _ _ L q _ _ HX6.out (Nat.le_refl _) HZD.out).mono ?_; rintro e w7 ⟨v7, rfl, ho, hb⟩; rw [HAL.out] at ho; obtain ⟨x7, n7, c7, rfl, hi⟩ := ho.lst; obtain rfl : n7 = 0 := (by have := hi.len; simpa using this.symm); have HB7 := Lib.hid (HB6.out.trans (hb.mono HB6.out.size)); have HX7 := Lib.hid ((HX6.out.below hb (Nat.le_refl _)).more hb.size); have HY7 := Lib.hid ((HY6.out.below hb (Nat.le_refl _)).more hb.size); clear hb ho hi)
        | (go_at_call 27; refine (samePieces_any _ _ _ _ _ _ L L _ _ HY7.out HX7.out).mono ?_; rintro e w8 hq; have hb := hq.below; obtain ⟨rfl, _⟩ := hq; rw [decide_eq_true (rfl : L = L)]; have HB8 := Lib.hid (HB7.out.trans (hb.mono HB7.out.size)); clear hb))
      go_ret
      exact ⟨rfl, HB8.out⟩
def pathAB : ByteArray := ⟨#[47, 97, 47, 98]⟩
theorem pathAB_list : pathAB.toList = [47, 97, 47, 98] := by decide +kernel
def amongB (xs : List ByteArray) (k : Nat) : Bool := (xs.take k).any fun s => decide (s = pathAB)
theorem among_step {xs : List ByteArray} {k : Nat} (h : k < xs.length) : amongB xs (k + 1) = (amongB xs k || decide (nthS xs k = pathAB)) := by
  unfold amongB
  rw [take_snocS h, List.any_append]
  simp
theorem among_end {l : List Pc} {root : Int} {k : Nat} (h : (allB l root).length ≤ k) : amongB (allB l root) k = (rdB l root pathAB).2 := by
  unfold amongB
  rw [List.take_of_length_le h]
  cases hb : (rdB l root pathAB).2
  · rw [List.any_eq_false]
    intro s hs e
    obtain rfl : s = pathAB := by simpa using e
    have := (all_iff.1 hs).1
    rw [hb] at this; cases this
  · rw [List.any_eq_true]
    exact ⟨pathAB, all_iff.2 ⟨hb, by decide +kernel⟩, by simp⟩
theorem nodup_at {xs : List ByteArray} (h : xs.Nodup) {i j : Nat} (hij : i < j) (hj : j < xs.length) : nthS xs i ≠ nthS xs j := by
  rw [nthS_get (by omega), nthS_get hj]
  exact List.pairwise_iff_getElem.1 h i j (by omega) hj hij
set_option maxHeartbeats 1000000 in
set_option maxRecDepth 100000 in
theorem fnAllFiles_any (x : Option Addr) (n cap : Nat) (w : World) (h : Bytes w.heap.size w x n) (hn : n ≤ cap) (hc : cap ≤ maxLen) :
    Calls Tryz.prog 9 #[.slice x n cap] w fun e w' => e = .returned (.bool true) ∧ Below w.heap.size w w' := by
  by_cases hlong : 1048576 < (n : Int)
  · go_enter Tryz.func9, Tryz.ntmps9
    go_wp2
    go_ret
    exact ⟨rfl, Below.refl _ _⟩
  · have HB0 := Lib.hid h
    have HC := Lib.hid hc
    have HLE := Lib.hid hn
    clear h hc hn
    go_enter Tryz.func9, Tryz.ntmps9
    go_wp2_with fail
    refine (drawAllFiles_any x n cap w HB0.out HLE.out HC.out).mono ?_
    rintro e w1 ⟨y, m, c, l, p, rfl, hl41, hsh, hl, hb⟩
    have HB := Lib.hid hb; have HL := Lib.hid hl; have HZ := Lib.hid (short_mil hsh)
    clear hb hl hsh
    go_wp2_with fail
    refine (implAllFiles_any y m c l p _ _ HL.out (Nat.le_refl _) HZ.out).mono ?_
    rintro e w2 ⟨v2, rfl, ho, hb⟩
    obtain ⟨z, q, d, rfl, hi⟩ := ho.lst
    have HB2 := Lib.hid (HB.out.trans (hb.mono HB.out.size)); have HL2 := Lib.hid ((HL.out.below hb (Nat.le_refl _)).more hb.size); have HX2 := Lib.hid hi
    clear hb ho hi
    go_wp2_with fail
    refine (specAllFiles_any y m c l p _ _ HL2.out (Nat.le_refl _) HZ.out).mono ?_
    rintro e w3 ⟨v3, rfl, ho, hb⟩
    obtain ⟨z3, q3, d3, rfl, hi⟩ := ho.lst
    have HB3 := Lib.hid (HB2.out.trans (hb.mono HB2.out.size)); have HL3 := Lib.hid ((HL2.out.below hb (Nat.le_refl _)).more hb.size); have HX3 := Lib.hid ((HX2.out.below hb (Nat.le_refl _)).more hb.size); have HY3 := Lib.hid hi
    clear hb ho hi HL HL2 HX2
    have HLEN := Lib.hid HX3.out.len
    have hq27 : q ≤ 1000 := by have h1 := all_many (l := l) (root := p); have h2 := HLEN.out; omega
    have HM := Lib.hid (all_mil (l := l) (root := p)); have HND := Lib.hid (all_nodup l p)
    have HRD := Lib.hid (show ∀ k, k < (allB l p).length → (rdB l p (nthS (allB l p) k)).2 = true from fun k hk => (all_iff.1 (by rw [nthS_get hk]; exact List.getElem_mem _)).1)
    have HEND := Lib.hid (fun k hk => among_end (l := l) (root := p) (k := k) hk)
    obtain ⟨xs, hxs⟩ : ∃ xs, allB l p = xs := ⟨_, rfl⟩
    rw [hxs] at HX3 HY3 HLEN HM HND HRD HEND
    clear hxs
    go_wp2_with fail
    refine (sameTexts_any _ _ _ _ _ _ xs xs _ _ HX3.out HY3.out).mono ?_
    rintro e w4 hq
    have hb := hq.below
    obtain ⟨rfl, _⟩ := hq
    rw [decide_eq_true (rfl : xs = xs)]
    have HB4 := Lib.hid (HB3.out.trans (hb.mono HB3.out.size)); have HL4 := Lib.hid ((HL3.out.below hb (Nat.le_refl _)).more hb.size); have HX4 := Lib.hid ((HX3.out.below hb (Nat.le_refl _)).more hb.size)
    clear hb HL3 HX3 HY3
    go_wp2_with fail
    go_loopw [6, 7, 8, 9, 10] (fun av i _ _ _ wr => ∃ k : Nat, k ≤ q ∧ i = .int .i64 k ∧ av = .bool (amongB xs k) ∧ Below w4.heap.size w4 wr) (fun _ i _ _ _ _ => q - (intOf i).toNat)
    case atStart => exact ⟨0, by omega, rfl, rfl, Below.refl _ _⟩
    case round =>
      obtain ⟨k, hk, rfl, rfl, hb⟩ := hrel
      have HBW := Lib.hid hb
      have hsz := hb.size
      clear hb
      have HBA := Lib.hid (HB4.out.trans (HBW.out.mono HB4.out.size))
      by_cases hlt : k < q
      · have hkl : k < xs.length := by have := HLEN.out; omega
        obtain ⟨b, off, rfl, hb, hcc⟩ := (HX4.out.below HBW.out (Nat.le_refl _)).atS hlt
        have hzk := HM.out k
        have HRK := Lib.hid (HRD.out k hkl); have HST := Lib.hid (among_step hkl)
        go_wp2_with fail
        refine (implReadAt_any y m c l p (nthS xs k) _ _ (HL4.out.below HBW.out (Nat.le_refl _)) hsz HZ.out hzk).mono ?_
        rintro e w5 ⟨rfl, hb5⟩
        rw [HRK.out]
        have HB5 := Lib.hid (HBW.out.trans (hb5.mono hsz))
        have hc5 := (HX4.out.below HB5.out (Nat.le_refl _)).atS hlt
        clear hb5
        obtain ⟨b', off', e', _, hc'⟩ := hc5
        simp only [Option.some.injEq, Addr.mk.injEq, and_true] at e'
        obtain ⟨rfl, rfl⟩ := e'
        obtain ⟨am, ham⟩ : ∃ am, amongB xs k = am := ⟨_, rfl⟩
        rw [ham] at HST ⊢
        clear ham
        go_upto_region 14 with fail
        go_cut [6] from 36 to 55 (fun s6 wx => s6 = .bool (amongB xs (k + 1)) ∧ w5 = wx)
        case first =>
          cases am
          · cases hm : ((nthS xs k).toList == pathAB.toList)
            · have hm' := hm
              rw [pathAB_list] at hm'
              have HT := Lib.hid (show amongB xs (k + 1) = false by rw [HST.out, ← str_beq, hm]; rfl)
              go_wp2_with fail
              go_meet
              case rel => exact ⟨by rw [HT.out], rfl⟩
            · have hm' := hm
              rw [pathAB_list] at hm'
              have HT := Lib.hid (show amongB xs (k + 1) = true by rw [HST.out, ← str_beq, hm]; rfl)
              go_wp2_with fail
              go_meet
              case rel => exact ⟨by rw [HT.out], rfl⟩
          · have HT := Lib.hid (show amongB xs (k + 1) = true by rw [HST.out]; rfl)
            go_wp2_with fail
            go_meet
            case rel => exact ⟨by rw [HT.out], rfl⟩
        case rest =>
          obtain ⟨rfl, rfl⟩ := hcut
          go_wp2_with fail
          go_loopw [10] (fun jv wq => ∃ j : Nat, j ≤ k ∧ jv = .int .i64 j ∧ ∃ r, wq = w5.drewN r) (fun jv _ => k - (intOf jv).toNat)
          case atStart => exact ⟨0, by omega, rfl, 0, rfl⟩
          case round =>
            obtain ⟨j, hj, rfl, hq⟩ := hrel
            have HQ := Lib.hid hq; clear hq
            by_cases hjk : j < k
            · have hne : ((nthS xs j).toList == (nthS xs k).toList) = false := by rw [str_beq]; exact decide_eq_false (nodup_at HND.out hjk hkl)
              have hcj := ((HX4.out.below HB5.out (Nat.le_refl _)).keep (w' := wr) (by obtain ⟨r, rfl⟩ := HQ.out; intro _ _; rfl)).atS (show j < q by omega)
              obtain ⟨b2, o2, e2, _, hcj'⟩ := hcj
              simp only [Option.some.injEq, Addr.mk.injEq, and_true] at e2
              obtain ⟨rfl, rfl⟩ := e2
              have hck : wr.cell? ⟨b, off + k, none⟩ = some (.string (nthS xs k)) := by obtain ⟨r, rfl⟩ := HQ.out; exact hc'
              have hjq : j < q := by omega
              go_wp2
              go_quiet (fail)
              go_wp2
              go_roundw
              case rel => exact ⟨j + 1, by omega, by go_num, by obtain ⟨r, rfl⟩ := HQ.out; exact ⟨_, by rw [World.drewN_drewN]⟩⟩
              case measure => simp [intOf]; omega
            · go_wp2_with fail
              go_roundw
              case rel => exact ⟨k + 1, by omega, by go_num, rfl, by obtain ⟨r, rfl⟩ := HQ.out; exact below_drewN HB5.out r⟩
              case measure => simp [intOf]; omega
      · have HE := Lib.hid (HEND.out k (by have := HLEN.out; omega))
        go_wp2_with fail
        refine (implReadAt_any y m c l p pathAB _ _ (HL4.out.below HBW.out (Nat.le_refl _)) hsz HZ.out (by decide)).mono ?_
        rintro e w5 ⟨rfl, hb5⟩
        rw [← HE.out]
        have HB5 := Lib.hid (HBA.out.trans (hb5.mono HBA.out.size))
        clear hb5
        obtain ⟨am, ham⟩ : ∃ am, amongB xs k = am := ⟨_, rfl⟩
        rw [ham]
        clear ham
        cases am
        all_goals
          go_wp2_with (first
            | (go_at_call 15; refine (alive_any _).mono ?_; rintro e w' ⟨rfl, rfl⟩))
          go_ret
          exact ⟨rfl, HB5.out⟩
theorem named_facts {l : List Pc} {root : Int} {word : ByteArray} {k : Nat} (hk : k < (namedB l root word).length) : (rdB l root (nthS (namedB l root word) k)).2 = true ∧ isPath (nthS (namedB l root word) k) = true ∧ (nthS (namedB l root word) k).size ≤ 1048576 ∧ 0 < (partsB (nthS (namedB l root word) k)).length ∧ nthS (partsB (nthS (namedB l root word) k)) ((partsB (nthS (namedB l root word) k)).length - 1) = word := by
  have hm : nthS (namedB l root word) k ∈ namedB l root word := by rw [nthS_get hk]; exact List.getElem_mem _
  obtain ⟨h1, h2⟩ := List.mem_filter.1 hm
  obtain ⟨h3, h4⟩ := all_iff.1 h1
  unfold lastIs at h2
  rw [Bool.and_eq_true, decide_eq_true_eq, decide_eq_true_eq] at h2
  refine ⟨h3, ?_, Nat.le_trans (all_small _ h1) (by decide), h2.1, h2.2⟩
  cases hp : isPath (nthS (namedB l root word) k)
  · have := ((rd_facts l root _).1 h3).1
    rw [wtB_no (.inl hp)] at this; cases this
  · rfl
set_option maxHeartbeats 1000000 in
set_option maxRecDepth 100000 in
theorem fnFilesNamed_any (x : Option Addr) (n cap : Nat) (w : World) (h : Bytes w.heap.size w x n) (hn : n ≤ cap) (hc : cap ≤ maxLen) :
    Calls Tryz.prog 10 #[.slice x n cap] w fun e w' => e = .returned (.bool true) ∧ Below w.heap.size w w' := by
  by_cases hlong : 1048576 < (n : Int)
  · go_enter Tryz.func10, Tryz.ntmps10
    go_wp2
    go_ret
    exact ⟨rfl, Below.refl _ _⟩
  · have HB0 := Lib.hid h
    have HC := Lib.hid hc
    have HLE := Lib.hid hn
    clear h hc hn
    go_enter Tryz.func10, Tryz.ntmps10
    go_wp2_with fail
    refine (drawFilesNamed_any x n cap w HB0.out HLE.out HC.out).mono ?_
    rintro e w1 ⟨y, m, c, l, p, word, rfl, hl41, hsh, hws, hl, hb⟩
    have HB := Lib.hid hb; have HL := Lib.hid hl; have HZ := Lib.hid (short_mil hsh)
    have hw2 : word.size ≤ 1048576 := Nat.le_trans hws (by decide)
    clear hb hl hsh
    go_wp2_with fail
    refine (implFilesNamed_any y m c l p word _ _ HL.out (Nat.le_refl _) HZ.out hw2).mono ?_
    rintro e w2 ⟨v2, rfl, ho, hb⟩
    obtain ⟨z, q, d, rfl, hi⟩ := ho.lst
    have HB2 := Lib.hid (HB.out.trans (hb.mono HB.out.size)); have HL2 := Lib.hid ((HL.out.below hb (Nat.le_refl _)).more hb.size); have HX2 := Lib.hid hi
    clear hb ho hi
    go_wp2_with fail
    refine (specFilesNamed_any y m c l p word _ _ HL2.out (Nat.le_refl _) HZ.out hw2).mono ?_
    rintro e w3 ⟨v3, rfl, ho, hb⟩
    obtain ⟨z3, q3, d3, rfl, hi⟩ := ho.lst
    have HB3 := Lib.hid (HB2.out.trans (hb.mono HB2.out.size)); have HL3 := Lib.hid ((HL2.out.below hb (Nat.le_refl _)).more hb.size); have HX3 := Lib.hid ((HX2.out.below hb (Nat.le_refl _)).more hb.size); have HY3 := Lib.hid hi
    clear hb ho hi HL HL2 HX2
    have HLEN := Lib.hid HX3.out.len
    have HQA := Lib.hid (show q ≤ (allB l p).length from by have h1 := HLEN.out; have h2 := List.length_filter_le (fun s => lastIs s word) (allB l p); unfold namedB at h1; omega)
    have hq27 : q ≤ 1000 := by have h1 := all_many (l := l) (root := p); have h2 := HQA.out; omega
    have HF := Lib.hid (fun k hk => named_facts (l := l) (root := p) (word := word) (k := k) hk)
    obtain ⟨xs, hxs⟩ : ∃ xs, namedB l p word = xs := ⟨_, rfl⟩
    rw [hxs] at HX3 HY3 HLEN HF
    clear hxs
    go_wp2_with fail
    refine (sameTexts_any _ _ _ _ _ _ xs xs _ _ HX3.out HY3.out).mono ?_
    rintro e w4 hq
    have hb := hq.below
    obtain ⟨rfl, _⟩ := hq
    rw [decide_eq_true (rfl : xs = xs)]
    have HB4 := Lib.hid (HB3.out.trans (hb.mono HB3.out.size)); have HL4 := Lib.hid ((HL3.out.below hb (Nat.le_refl _)).more hb.size); have HX4 := Lib.hid ((HX3.out.below hb (Nat.le_refl _)).more hb.size)
    clear hb HL3 HX3 HY3
    go_wp2_with fail
    go_loopw [7] (fun i wr => ∃ k : Nat, k ≤ q ∧ i = .int .i64 k ∧ Below w4.heap.size w4 wr) (fun i _ => q - (intOf i).toNat)
    case atStart => exact ⟨0, by omega, rfl, Below.refl _ _⟩
    case round =>
      obtain ⟨k, hk, rfl, hb⟩ := hrel
      have HBW := Lib.hid hb
      have hsz := hb.size
      clear hb
      have HBA := Lib.hid (HB4.out.trans (HBW.out.mono HB4.out.size))
      by_cases hlt : k < q
      · have hkl : k < xs.length := by have := HLEN.out; omega
        obtain ⟨b, off, rfl, hb, hcc⟩ := (HX4.out.below HBW.out (Nat.le_refl _)).atS hlt
        obtain ⟨f1, f2, f3, f4, f5⟩ := HF.out k hkl
        obtain ⟨s, hs⟩ : ∃ s, s = nthS xs k := ⟨_, rfl⟩
        rw [← hs] at hcc f1 f2 f3 f4 f5
        have HS := Lib.hid hs; have F1 := Lib.hid f1; have F2 := Lib.hid f2; have F4 := Lib.hid f4; have F5 := Lib.hid f5
        clear hs f1 f2 f4 f5
        go_wp2_with fail
        refine (implPathParts_any s _ f3).mono ?_
        rintro e w5 ⟨v5, rfl, ho, hb5⟩
        rw [F2.out]
        obtain ⟨y5, m5, d5, rfl, hi5⟩ := ho.lst
        have HB5 := Lib.hid (HBW.out.trans (hb5.mono hsz)); have HP5 := Lib.hid hi5
        have hl5 := hi5.len
        have hc5 := (HX4.out.below HB5.out (Nat.le_refl _)).atS hlt
        clear hb5 ho hi5
        obtain ⟨b', off', e', _, hc'⟩ := hc5
        simp only [Option.some.injEq, Addr.mk.injEq, and_true] at e'
        obtain ⟨rfl, rfl⟩ := e'
        rw [← HS.out] at hc'
        go_wp2_with fail
        refine (implReadAt_any y m c l p s _ _ (HL4.out.below HB5.out (Nat.le_refl _)) HB5.out.size HZ.out f3).mono ?_
        rintro e w6 ⟨rfl, hb6⟩
        rw [F1.out]
        have HB6 := Lib.hid (HB5.out.trans (hb6.mono HB5.out.size)); have HP6 := Lib.hid (HP5.out.below hb6 (Nat.le_refl _))
        clear hb6
        obtain ⟨i, hi⟩ : ∃ i, m5 = i + 1 := ⟨m5 - 1, by have := F4.out; omega⟩
        have h3 : m5 ≤ 3 := by have := (parts_small (s := s)).1; omega
        obtain ⟨b3, o3, rfl, _, hc3⟩ := HP6.out.atS (show i < m5 by omega)
        have hw0 : nthS (partsB s) i = word := by have := F5.out; rwa [hl5, hi, Nat.add_sub_cancel] at this
        rw [hw0] at hc3
        have hm0 : ((m5 : Int) == 0) = false := by simp; omega
        have hw9 : IntKind.i64.wrap ((m5 : Int) - 1) = (i : Int) := by rw [IntKind.wrap_i64]; omega
        have him : (i : Int) < (m5 : Int) := by omega
        have him2 : i < m5 := by omega
        have HI := Lib.hid hi
        clear hi hw0
        go_wp2_with fail
        go_roundw
        case rel => exact ⟨k + 1, by omega, by go_num, HB6.out⟩
        case measure => simp [intOf]; omega
      · have hqa := HQA.out
        go_wp2_with (first
          | (go_at_call 28; refine (implAllFiles_any y m c l p _ _ (HL4.out.below HBW.out (Nat.le_refl _)) hsz HZ.out).mono ?_; rintro e w7 ⟨v7, rfl, ho, hb⟩; obtain ⟨x7, n7, c7, rfl, hi⟩ := ho.lst; have hn7 : (q : Int) ≤ (n7 : Int) := (by have := hi.len; omega); have HB7 := Lib.hid (HBA.out.trans (hb.mono HBA.out.size)); clear hb ho hi)
          | (go_at_call 15; refine (alive_any _).mono ?_; rintro e w' ⟨rfl, rfl⟩))
        go_ret
        exact ⟨rfl, HB7.out⟩
end Go.Proofs.YtbbjpihlielpgaaGreatDoor
