/-
  Contracts of chapter 12's program: proofs of paths, and of their absence.
-/
import Derived.Test.YtojebghaegimbaaGreatDoorMath12b
import Derived.Deep.CutRange
import Derived.Deep.RegionLaw
namespace Go.Proofs.YtojebghaegimbaaGreatDoor
open Go.RowKit
set_option linter.unusedVariables false
theorem iright_no1 {root : Int} {path : ByteArray} {L : List ByteArray} (h : isPath path = false) : ppRight root path L = false := by unfold ppRight; rw [h]; simp
theorem iright_no2 {root : Int} {path : ByteArray} {L : List ByteArray} (h : L.length ≠ (partsB path).length + 1) : ppRight root path L = false := by unfold ppRight; rw [decide_eq_false h]; simp
theorem iright_is {root : Int} {path : ByteArray} {L : List ByteArray} (h : isPath path = true) (h' : L.length = (partsB path).length + 1) : ppRight root path L = wayPB root (partsB path) L := by unfold ppRight; rw [h, decide_eq_true h']; simp
theorem inewS_of {l l' : List ByteArray} {w w' : World} {v : Value} (h : l = l') (ho : OwnS w' w.heap.size v l') (hb : Below w.heap.size w w') : NewS l w (.returned v) w' := by subst h; exact ⟨v, rfl, ho, hb⟩
theorem below_ofDrew12 {w w' : World} (h : Below w.drew.heap.size w.drew w') : Below w.heap.size w w' := ⟨h.os, h.tape, h.output, h.size, h.block⟩
/-! ### the texts along a path -/
set_option maxHeartbeats 1000000 in
set_option maxRecDepth 100000 in
theorem textsAlong_any (x : Option Addr) (n cap : Nat) (l : List Pc) (root : Int) (path : ByteArray) (B : Nat) (w : World) (h : Pcs w B x n cap l) (hB : B ≤ w.heap.size) (hz : ∀ k, (nthP l k).2.size ≤ 1048576) (hs : path.size ≤ 1048576) :
    Calls Tryz.prog 24 #[.slice x n cap, .int .i64 root, .string path] w (NewS (alongT l root path) w) := by
  have HH := Lib.hid h; have HZ := Lib.hid hz
  have hgz := gotT_size (p := root) hz
  clear h hz
  go_enter Tryz.func24, Tryz.ntmps24
  go_wp2_with fail
  refine (implPathParts_any path _ hs).mono ?_
  rintro e w1 ⟨v1, rfl, ho, hb⟩
  obtain ⟨y, m, d, rfl, hi⟩ := ho.lst
  have HB1 := Lib.hid hb; have HP1 := Lib.hid hi; have HLN := Lib.hid hi.len; have HL1 := Lib.hid (HH.out.below hb hB)
  have hs1 := hb.size
  have hm3 : m ≤ 3 := by have := (parts_small (s := path)).1; have := hi.len; omega
  clear hb ho hi
  cases hp : isPath path
  · have HF := Lib.hid (show alongT l root path = [] by unfold alongT; rw [if_neg (by rw [hp]; simp)])
    clear hp
    go_wp2_with fail
    go_ret
    exact inewS_of HF.out (OwnL.nil _ _ _ _ _) HB1.out
  have HA := Lib.hid (show alongT l root path = alongL l root (partsB path) by unfold alongT; rw [if_pos hp])
  clear hp
  obtain ⟨ps, hps⟩ : ∃ ps, partsB path = ps := ⟨_, rfl⟩
  rw [hps] at HA HP1 HLN
  clear hps
  go_wp2_with fail
  refine (implGetText_any x n cap l root B _ HL1.out (Nat.le_trans hB hs1) (mil_max HZ.out)).mono ?_
  rintro e w2 ⟨rfl, hb⟩
  have HB2 := Lib.hid (HB1.out.trans (hb.mono hs1)); have HP2 := Lib.hid ((HP1.out.below hb (Nat.le_refl _)).more hb.size); have HL2 := Lib.hid (HL1.out.below hb (Nat.le_trans hB hs1))
  have hs2 := HB2.out.size
  clear hb HP1 HL1 HB1
  cases hg : gotO l root
  · have HF := Lib.hid (HA.out.trans (along_out hg))
    clear hg
    go_wp2_with fail
    go_ret
    exact inewS_of HF.out (OwnL.nil _ _ _ _ _) HB2.out
  have HF := Lib.hid (HA.out.trans (along_in hg))
  obtain ⟨t0, ht0⟩ : ∃ t0, gotT l root = t0 := ⟨_, rfl⟩
  rw [ht0] at HF hgz ⊢
  clear hg ht0 HA
  have HO0 : Hid (OwnS (w2.alloc (.cells #[.string t0] 9)) w2.heap.size (.slice (some ⟨w2.heap.size, 0, none⟩) 1 1) [t0]) := Lib.hid (World.ownsRow_lit w2 #[.string t0] 1 (Nat.le_refl _) (by decide) rfl)
  have HBA := Lib.hid ((Below.refl w2.heap.size w2).alloc (Nat.le_refl _) (.cells #[.string t0] 9))
  go_wp2_with fail
  go_loopw [9, 10, 34] (fun tv v iv wr => ∃ (k : Nat) (t : ByteArray) (acc : List ByteArray), k ≤ m ∧ iv = .int .i64 k ∧ tv = .string t ∧ t.size ≤ 1048576 ∧ acc.length = k + 1 ∧ OwnS wr w2.heap.size v acc ∧ Hid (alongT l root path = acc ++ alongR l t (ps.drop k)) ∧ Below w2.heap.size w2 wr) (fun _ _ iv _ => m - (intOf iv).toNat)
  case atStart => exact ⟨0, t0, [t0], by omega, rfl, rfl, hgz, rfl, HO0.out, Lib.hid (by rw [HF.out, List.drop_zero]; rfl), HBA.out⟩
  case round =>
    obtain ⟨k, t, acc, hk, rfl, rfl, htz, hal, ho, HR, hb⟩ := hrel
    have HO := Lib.hid ho; have HBW := Lib.hid hb
    have hsz := hb.size
    clear ho hb
    by_cases hlt : k < m
    · have hkl : k < ps.length := by have := HLN.out; omega
      obtain ⟨b, o, rfl, hb, hc⟩ := (HP2.out.below HBW.out (Nat.le_refl _)).atS hlt
      have HST := Lib.hid (HR.out.trans (by rw [alongR_step hkl]))
      obtain ⟨c, hcn⟩ : ∃ c, (nameW t (nthS ps k)).1 = c := ⟨_, rfl⟩
      rw [hcn] at HST
      obtain ⟨⟨c', g⟩, hN⟩ : ∃ R, nameW t (nthS ps k) = R := ⟨_, rfl⟩
      rw [hN] at hcn
      have hcn : c' = c := hcn
      subst hcn
      have HN := Lib.hid hN
      have hzc := gotT_size (p := c') HZ.out
      clear hN HR
      cases hgo : gotO l c'
      · have HEND := Lib.hid (HST.out.trans (by rw [along_out hgo, List.append_nil]))
        have HGO := Lib.hid hgo
        clear hgo HST
        go_wp2_with (first
          | (go_at_call 53; refine (printNamed_any t (nthS ps k) _ htz).mono ?_; rintro e w3 ⟨rfl, hb3⟩; rw [HN.out]; have HB3 := Lib.hid (HBW.out.trans (hb3.mono hsz)); have HO3 := Lib.hid (HO.out.below hb3); clear hb3)
          | (go_at_call 31; refine (implGetText_any x n cap l c' B _ (HL2.out.below HB3.out (Nat.le_trans hB hs2)) (Nat.le_trans hB (Nat.le_trans hs2 HB3.out.size)) (mil_max HZ.out)).mono ?_; rintro e w4 ⟨rfl, hb4⟩; rw [HGO.out]; have HB4 := Lib.hid (HB3.out.trans (hb4.mono HB3.out.size)); have HO4 := Lib.hid (HO3.out.below hb4); clear hb4))
        go_ret
        exact inewS_of HEND.out (HO4.out.mono hs2) (HB2.out.trans (HB4.out.mono hs2))
      · have HNX := Lib.hid (HST.out.trans (show acc ++ alongL l c' (ps.drop (k + 1)) = (acc ++ [gotT l c']) ++ alongR l (gotT l c') (ps.drop (k + 1)) by rw [along_in hgo, List.append_assoc]; rfl))
        have HGO := Lib.hid hgo
        clear hgo HST
        have hlk : acc.length ≤ 2000000 := by omega
        go_wp2_with (first
          | (go_at_call 53; refine (printNamed_any t (nthS ps k) _ htz).mono ?_; rintro e w3 ⟨rfl, hb3⟩; rw [HN.out]; have HB3 := Lib.hid (HBW.out.trans (hb3.mono hsz)); have HO3 := Lib.hid (HO.out.below hb3); clear hb3)
          | (go_at_call 31; refine (implGetText_any x n cap l c' B _ (HL2.out.below HB3.out (Nat.le_trans hB hs2)) (Nat.le_trans hB (Nat.le_trans hs2 HB3.out.size)) (mil_max HZ.out)).mono ?_; rintro e w4 ⟨rfl, hb4⟩; rw [HGO.out]; have HB4 := Lib.hid (HB3.out.trans (hb4.mono HB3.out.size)); have HO4 := Lib.hid (HO3.out.below hb4); have hsz4 := HB4.out.size; clear hb4)
          | (at_builtin; refine wpList_app1L eltStr encStr (gotT l c') _ rfl HO4.out hlk hsz4 rfl _ _ rfl rfl rfl ?_; intro v' w' hown hgrow; have HW := Lib.hid hown; have HGR := Lib.hid hgrow; clear hown hgrow))
        go_roundw
        case rel => exact ⟨k + 1, gotT l c', acc ++ [gotT l c'], by omega, by go_num, rfl, hzc, by rw [List.length_append, hal]; rfl, HW.out, HNX, HB4.out.grown HGR.out HB4.out.size HO4.out.at⟩
        case measure => simp [intOf]; omega
    · have HEND := Lib.hid (HR.out.trans (by rw [alongR_end (by have := HLN.out; omega), List.append_nil]))
      clear HR
      go_wp2_with fail
      go_ret
      exact inewS_of HEND.out (HO.out.mono hs2) (HB2.out.trans (HBW.out.mono hs2))
/-! ### the prints on the way -/
set_option maxHeartbeats 1000000 in
set_option maxRecDepth 100000 in
theorem onTheWay_any (root : Int) (x : Option Addr) (n c : Nat) (ps : List ByteArray) (y : Option Addr) (m d : Nat) (L : List ByteArray) (B B1 : Nat) (w : World) (hP : Strs w B x n c ps) (hB : B ≤ w.heap.size) (hL : Strs w B1 y m d L) (hB1 : B1 ≤ w.heap.size) (hz : ∀ k, (nthS L k).size ≤ 1048576) (hlen : m ≤ n + 1) (hm : 0 < m) :
    Calls Tryz.prog 32 #[.int .i64 root, .slice x n c, .slice y m d] w (BelowB (wayPB root ps L) w) := by
  have HP := Lib.hid hP; have HL := Lib.hid hL; have HZ := Lib.hid hz
  have HLN := Lib.hid hP.len; have HLM := Lib.hid hL.len
  have hle := hL.le
  have hmx := hL.max
  unfold maxLen at hmx
  clear hP hL hz
  go_enter Tryz.func32, Tryz.ntmps32
  go_wp2_with fail
  go_loopw [7, 8, 14] (fun pv ov iv wr => ∃ (k : Nat) (p : Int), k ≤ m ∧ iv = .int .i64 k ∧ pv = .int .i64 p ∧ ov = .bool true ∧ (k = 0 → p = root) ∧ Hid (∀ j, j < k → printB (nthS L j) = wantP root ps L j) ∧ Below w.heap.size w wr) (fun _ _ iv _ => m - (intOf iv).toNat)
  case atStart => exact ⟨0, root, by omega, rfl, rfl, rfl, fun _ => rfl, Lib.hid (fun j hj => absurd hj (Nat.not_lt_zero _)), Below.refl _ _⟩
  case round =>
    obtain ⟨k, p, hk, rfl, rfl, rfl, h0, HA, hb⟩ := hrel
    have HB := Lib.hid hb
    have hsz := hb.size
    clear hb
    by_cases hlt : k < m
    · have hkl : k < L.length := by have := HLM.out; omega
      obtain ⟨b, off, rfl, hb, hc⟩ := (HL.out.below HB.out hB1).atS hlt
      have hzm : ∀ j, (nthS L j).size ≤ maxLen := fun j => Nat.le_trans (HZ.out j) (by unfold maxLen; omega)
      have HZM := Lib.hid hzm
      clear hzm
      by_cases hk0 : k = 0
      · have hp := h0 hk0
        have HK := Lib.hid hk0
        have hgt : ¬ (0 : Int) < (k : Int) := by omega
        subst hp
        clear h0 hk0
        have HG := Lib.hid (show printB (nthS L k) = p → ∀ j, j < k + 1 → printB (nthS L j) = wantP p ps L j from fun e j hj => by
          have := HK.out
          have : j = 0 := by omega
          subst this
          rw [HK.out] at e
          exact e)
        have HN := Lib.hid (show printB (nthS L k) ≠ p → wayPB p ps L = false from fun e => way_bad hkl (by rw [HK.out] at e ⊢; exact e))
        obtain ⟨t, ht⟩ : ∃ t, nthS L k = t := ⟨_, rfl⟩
        have hzt := HZM.out k
        rw [ht] at hc HG HN hzt
        clear ht
        by_cases hpt : printB t = p
        · have hd : (printB t != p) = false := by simp [hpt]
          have HX := Lib.hid (HG.out hpt)
          clear hpt HG HN
          go_wp2_with (go_at_call 62; refine (printOf_any t _ hzt).mono ?_; rintro e w' ⟨rfl, hw⟩; subst hw)
          go_roundw
          case rel => exact ⟨k + 1, p, by omega, by go_num, rfl, rfl, fun h => absurd h (Nat.succ_ne_zero _), HX, HB.out⟩
          case measure => simp [intOf]; omega
        · have hd : (printB t != p) = true := by simp [hpt]
          have HX := Lib.hid (HN.out hpt)
          clear hpt HG HN
          go_wp2_with (go_at_call 62; refine (printOf_any t _ hzt).mono ?_; rintro e w' ⟨rfl, hw⟩; subst hw)
          go_ret
          exact ⟨ret_bool HX.out.symm, HB.out⟩
      · obtain ⟨i, hi⟩ : ∃ i, k = i + 1 := ⟨k - 1, by omega⟩
        have hgt : (0 : Int) < (k : Int) := by omega
        have hw9 : IntKind.i64.wrap ((k : Int) - 1) = (i : Int) := by rw [IntKind.wrap_i64]; omega
        have hilt : i < m := by omega
        have hin : i < n := by omega
        have hi0 : (0 : Int) ≤ (i : Int) := by omega
        have him : (i : Int) < (m : Int) := by omega
        have hii : (i : Int) < (n : Int) := by omega
        obtain ⟨b2, o2, e2, hb2, hc2⟩ := (HL.out.below HB.out hB1).atS hilt
        obtain ⟨b3, o3, rfl, hb3, hc3⟩ := (HP.out.below HB.out hB).atS hin
        simp only [Option.some.injEq, Addr.mk.injEq, and_true] at e2
        obtain ⟨rfl, rfl⟩ := e2
        have HK := Lib.hid hi
        have HNM := Lib.hid (show (nameW (nthS L i) (nthS ps i)).2 = true → wantP root ps L k = (nameW (nthS L i) (nthS ps i)).1 from fun e => by rw [HK.out]; exact want_name e)
        have HMS := Lib.hid (show (nameW (nthS L i) (nthS ps i)).2 = false → wayPB root ps L = false from fun e => way_bad hkl (by rw [HK.out]; exact want_miss e))
        have HG := Lib.hid (show printB (nthS L k) = wantP root ps L k → ∀ j, j < k + 1 → printB (nthS L j) = wantP root ps L j from fun e j hj => by
          rcases Nat.lt_succ_iff_lt_or_eq.1 hj with h | rfl
          · exact HA.out j h
          · exact e)
        have HN := Lib.hid (show printB (nthS L k) ≠ wantP root ps L k → wayPB root ps L = false from fun e => way_bad hkl e)
        have hzt := HZM.out k
        have hzi := HZ.out i
        obtain ⟨t, ht⟩ : ∃ t, nthS L k = t := ⟨_, rfl⟩
        rw [ht] at hc HG HN hzt
        obtain ⟨s, hs⟩ : ∃ s, nthS L i = s := ⟨_, rfl⟩
        rw [hs] at hc2 hzi HNM HMS
        obtain ⟨nm, hnm⟩ : ∃ nm, nthS ps i = nm := ⟨_, rfl⟩
        rw [hnm] at hc3 HNM HMS
        obtain ⟨wp, hwp⟩ : ∃ wp, wantP root ps L k = wp := ⟨_, rfl⟩
        rw [hwp] at HG HN HNM
        clear ht hs hnm hwp hi h0 hk0 HA
        obtain ⟨⟨c', g⟩, hN⟩ : ∃ R, nameW s nm = R := ⟨_, rfl⟩
        rw [hN] at HNM HMS
        have HNW := Lib.hid hN
        clear hN
        go_upto_region 6 with fail
        go_cut [7, 8] from 20 to 34 (fun s7 s8 wx => s7 = .int .i64 c' ∧ s8 = .bool g ∧ Below wr.heap.size wr wx)
        case first =>
          go_region_law (go_simp; go_at_call 53; refine (printNamed_any s nm _ hzi).mono ?_; rintro e w' ⟨rfl, hb⟩; rw [HNW.out]; have HB2 := Lib.hid hb; clear hb)
          all_goals
            go_wp2_with fail
            go_meet
            case rel => exact ⟨rfl, rfl, below_ofDrew12 HB2.out⟩
        case rest =>
          rename World => w3
          obtain ⟨rfl, rfl, hb3'⟩ := hcut
          have HB3 := Lib.hid (HB.out.trans (hb3'.mono hsz))
          clear hb3'
          cases g
          · have HX := Lib.hid (HMS.out rfl)
            clear HG HN HNM HMS
            go_wp2_with fail
            go_ret
            exact ⟨ret_bool HX.out.symm, HB3.out⟩
          · have hcw : wp = c' := HNM.out rfl
            subst hcw
            clear HNM HMS
            by_cases hpt : printB t = wp
            · have hd : (printB t != wp) = false := by simp [hpt]
              have HX := Lib.hid (HG.out hpt)
              clear hpt HG HN
              go_wp2_with (go_at_call 62; refine (printOf_any t _ hzt).mono ?_; rintro e w' ⟨rfl, hw⟩; subst hw)
              go_roundw
              case rel => exact ⟨k + 1, wp, by omega, by go_num, rfl, rfl, fun h => absurd h (Nat.succ_ne_zero _), HX, HB3.out⟩
              case measure => simp [intOf]; omega
            · have hd : (printB t != wp) = true := by simp [hpt]
              have HX := Lib.hid (HN.out hpt)
              clear hpt HG HN
              go_wp2_with (go_at_call 62; refine (printOf_any t _ hzt).mono ?_; rintro e w' ⟨rfl, hw⟩; subst hw)
              go_ret
              exact ⟨ret_bool HX.out.symm, HB3.out⟩
    · have HX := Lib.hid (show wayPB root ps L = true from way_all (by have := HLM.out; omega) fun j hj => HA.out j (by have := HLM.out; omega))
      clear HA
      go_wp2_with fail
      go_ret
      exact ⟨ret_bool HX.out.symm, HB.out⟩
/-! ### the chapter's functions -/
theorem implProofRight_any (root : Int) (path : ByteArray) (y : Option Addr) (m d : Nat) (L : List ByteArray) (B : Nat) (w : World) (h : Strs w B y m d L) (hB : B ≤ w.heap.size) (hs : path.size ≤ 1048576) (hz : ∀ k, (nthS L k).size ≤ 1048576) :
    Calls Tryz.prog 12 #[.int .i64 root, .string path, .slice y m d] w (BelowB (ppRight root path L) w) := by
  have HL := Lib.hid h; have HZ := Lib.hid hz
  have HLM := Lib.hid h.len
  clear h hz
  go_enter Tryz.func12, Tryz.ntmps12
  go_wp2_with fail
  refine (implPathParts_any path _ hs).mono ?_
  rintro e w1 ⟨v1, rfl, ho, hb⟩
  obtain ⟨x, n, c, rfl, hi⟩ := ho.lst
  have HB1 := Lib.hid hb; have HP := Lib.hid hi; have HLN := Lib.hid hi.len; have HL1 := Lib.hid (HL.out.below hb hB)
  have hs1 := hb.size
  have hn3 : n ≤ 3 := by have := (parts_small (s := path)).1; have := hi.len; omega
  have hw1 : IntKind.i64.wrap ((n : Int) + 1) = (n : Int) + 1 := IntWalk.i64_in _ (by omega)
  clear hb ho hi
  cases hp : isPath path
  · have HF := Lib.hid (iright_no1 (root := root) (L := L) hp)
    clear hp
    go_wp2_with fail
    go_ret
    exact ⟨ret_bool HF.out.symm, HB1.out⟩
  by_cases hlen : m = n + 1
  · have hd : ((m : Int) != (n : Int) + 1) = false := by simp; omega
    have HF := Lib.hid (iright_is (root := root) (L := L) hp (by have := HLM.out; have := HLN.out; omega))
    clear hp
    obtain ⟨g, hg⟩ : ∃ g, wayPB root (partsB path) L = g := ⟨_, rfl⟩
    rw [hg] at HF
    have HGG := Lib.hid hg
    have hlm : m ≤ n + 1 := by omega
    have hm0 : 0 < m := by omega
    clear hg hlen
    go_wp2_with (go_at_call 32; refine (onTheWay_any root x n c (partsB path) y m d L _ _ _ HP.out (Nat.le_refl _) HL1.out (Nat.le_trans hB hs1) HZ.out hlm hm0).mono ?_; rintro e w2 ⟨rfl, hb⟩; rw [HGG.out]; have HB2 := Lib.hid (HB1.out.trans (hb.mono hs1)); clear hb)
    go_ret
    exact ⟨ret_bool (by rw [HF.out]), HB2.out⟩
  · have hd : ((m : Int) != (n : Int) + 1) = true := by simp; omega
    have HF := Lib.hid (iright_no2 (root := root) (path := path) (L := L) (by have := HLM.out; have := HLN.out; omega))
    clear hp hlen
    go_wp2_with fail
    go_ret
    exact ⟨ret_bool HF.out.symm, HB1.out⟩
theorem implPathProof_any (x : Option Addr) (n cap : Nat) (l : List Pc) (root : Int) (path : ByteArray) (B : Nat) (w : World) (h : Pcs w B x n cap l) (hB : B ≤ w.heap.size) (hz : ∀ k, (nthP l k).2.size ≤ 1048576) (hs : path.size ≤ 1048576) :
    Calls Tryz.prog 8 #[.slice x n cap, .int .i64 root, .string path] w (NewS (ppTexts l root path) w) := by
  have HH := Lib.hid h; have HZ := Lib.hid hz
  have HF := Lib.hid (along_right l root path)
  have HTZ := Lib.hid (alongT_max HZ.out root path)
  clear h hz
  go_enter Tryz.func8, Tryz.ntmps8
  go_wp2_with fail
  refine (textsAlong_any x n cap l root path B _ HH.out hB HZ.out hs).mono ?_
  rintro e w1 ⟨v1, rfl, ho, hb⟩
  obtain ⟨y, m, d, rfl, hi⟩ := ho.lst
  have HB1 := Lib.hid hb; have HI := Lib.hid hi; have HO := Lib.hid ho
  have hs1 := hb.size
  clear hb ho hi
  obtain ⟨T, hT⟩ : ∃ T, alongT l root path = T := ⟨_, rfl⟩
  rw [hT] at HF HI HO HTZ
  clear hT
  go_wp2_with fail
  refine (implProofRight_any root path y m d T _ _ HI.out (Nat.le_refl _) hs HTZ.out).mono ?_
  rintro e w2 ⟨rfl, hb⟩
  have HB2 := Lib.hid (HB1.out.trans (hb.mono hs1)); have HO2 := Lib.hid (HO.out.below hb)
  clear hb
  cases hr : ppRight root path T
  · have HE := Lib.hid (show ppTexts l root path = [] by rw [← HF.out, if_neg (by rw [hr]; simp)])
    clear hr
    go_wp2_with fail
    go_ret
    exact inewS_of HE.out (OwnL.nil _ _ _ _ _) HB2.out
  · have HE := Lib.hid (show ppTexts l root path = T by rw [← HF.out, if_pos hr])
    clear hr
    go_wp2_with fail
    go_ret
    exact inewS_of HE.out HO2.out HB2.out
theorem implProofContent_any (root : Int) (path : ByteArray) (y : Option Addr) (m d : Nat) (L : List ByteArray) (B : Nat) (w : World) (h : Strs w B y m d L) (hB : B ≤ w.heap.size) (hs : path.size ≤ 1048576) (hz : ∀ k, (nthS L k).size ≤ 1048576) :
    Calls Tryz.prog 15 #[.int .i64 root, .string path, .slice y m d] w (BelowTB (ppCont root path L) w) := by
  have HL := Lib.hid h; have HZ := Lib.hid hz
  have HLM := Lib.hid h.len
  have hle := h.le
  have hmx := h.max
  unfold maxLen at hmx
  have HN := Lib.hid (show ppRight root path L = false → ppCont root path L = (ByteArray.empty, false) from fun e => by unfold ppCont; rw [if_neg (by rw [e]; simp)])
  have HY := Lib.hid (show ppRight root path L = true → ppCont root path L = (fileT (nthS L (L.length - 1)), isFile (nthS L (L.length - 1))) ∧ 0 < L.length from fun e => by
    have := (right_facts e).2.2.2.2.2.2
    exact ⟨by unfold ppCont; rw [if_pos e], by omega⟩)
  clear h hz
  go_enter Tryz.func15, Tryz.ntmps15
  go_wp2_with fail
  refine (implProofRight_any root path y m d L B _ HL.out hB hs HZ.out).mono ?_
  rintro e w1 ⟨rfl, hb⟩
  have HB1 := Lib.hid hb; have HL1 := Lib.hid (HL.out.below hb hB)
  have hs1 := hb.size
  clear hb
  cases hg : ppRight root path L
  · have HF := Lib.hid (HN.out hg)
    clear hg
    go_wp2_with fail
    go_ret2
    exact belowTB_of HF.out HB1.out
  · obtain ⟨hf, h0⟩ := HY.out hg
    obtain ⟨i, hi⟩ : ∃ i, m = i + 1 := ⟨m - 1, by have := HLM.out; omega⟩
    have HF := Lib.hid (show ppCont root path L = (fileT (nthS L i), isFile (nthS L i)) by rw [hf, HLM.out, hi]; rfl)
    have hw9 : IntKind.i64.wrap ((m : Int) - 1) = (i : Int) := by rw [IntKind.wrap_i64]; omega
    have him : (i : Int) < (m : Int) := by omega
    have him2 : i < m := by omega
    have hi0 : (0 : Int) ≤ (i : Int) := by omega
    obtain ⟨b, o, rfl, hbb, hcc⟩ := HL1.out.atS him2
    have hzi := HZ.out i
    clear hg hf h0 hi
    go_wp2_with fail
    refine (implReadFile_any (nthS L i) _ hzi).mono ?_
    rintro e w' ⟨rfl, hb⟩
    have HB2 := Lib.hid (HB1.out.trans (hb.mono hs1))
    clear hb
    go_wp2_with fail
    go_ret2
    exact belowTB_of HF.out HB2.out
theorem iabs_no {root : Int} {path : ByteArray} {L : List ByteArray} (h : isPath path = false ∨ L.length = 0 ∨ (partsB path).length < L.length ∨ wayPB root (partsB path) L = false) : ppAbs root path L = false := by
  unfold ppAbs
  rcases h with h | h | h | h
  · rw [h]; simp
  · rw [decide_eq_false (show ¬ 1 ≤ L.length by omega)]; simp
  · rw [decide_eq_false (show ¬ L.length ≤ (partsB path).length by omega)]; simp
  · rw [h]; simp
theorem iabs_is {root : Int} {path : ByteArray} {L : List ByteArray} (h1 : isPath path = true) (h2 : 1 ≤ L.length) (h2' : L.length ≤ (partsB path).length) (h3 : wayPB root (partsB path) L = true) :
    ppAbs root path L = (isFold (nthS L (L.length - 1)) && !hereE (nthS (partsB path) (L.length - 1)) (foldL (nthS L (L.length - 1)))) := by
  unfold ppAbs
  rw [h1, h3, decide_eq_true h2, decide_eq_true h2', hasN_here fold_ents]
  simp
set_option maxHeartbeats 1000000 in
set_option maxRecDepth 100000 in
theorem implAbsenceRight_any (root : Int) (path : ByteArray) (y : Option Addr) (m d : Nat) (L : List ByteArray) (B : Nat) (w : World) (h : Strs w B y m d L) (hB : B ≤ w.heap.size) (hs : path.size ≤ 1048576) (hz : ∀ k, (nthS L k).size ≤ 1048576) :
    Calls Tryz.prog 22 #[.int .i64 root, .string path, .slice y m d] w (BelowB (ppAbs root path L) w) := by
  have HL := Lib.hid h; have HZ := Lib.hid hz
  have HLM := Lib.hid h.len
  have hle := h.le
  have hmx := h.max
  unfold maxLen at hmx
  clear h hz
  go_enter Tryz.func22, Tryz.ntmps22
  go_wp2_with fail
  refine (implPathParts_any path _ hs).mono ?_
  rintro e w1 ⟨v1, rfl, ho, hb⟩
  obtain ⟨x, n, c, rfl, hi⟩ := ho.lst
  have HB1 := Lib.hid hb; have HP := Lib.hid hi; have HLN := Lib.hid hi.len; have HL1 := Lib.hid (HL.out.below hb hB)
  have hs1 := hb.size
  have hn3 : n ≤ 3 := by have := (parts_small (s := path)).1; have := hi.len; omega
  clear hb ho hi
  cases hp : isPath path
  · have HF := Lib.hid (iabs_no (root := root) (L := L) (.inl hp))
    clear hp
    go_wp2_with fail
    go_ret
    exact ⟨ret_bool HF.out.symm, HB1.out⟩
  by_cases hm0 : m = 0
  · have hd : ((m : Int) == 0) = true := by simp; omega
    have HF := Lib.hid (iabs_no (root := root) (path := path) (L := L) (.inr (.inl (by have := HLM.out; omega))))
    clear hp hm0
    go_wp2_with fail
    go_ret
    exact ⟨ret_bool HF.out.symm, HB1.out⟩
  have hd : ((m : Int) == 0) = false := by simp; omega
  by_cases hmn : n < m
  · have hd2 : (n : Int) < (m : Int) := by omega
    have HF := Lib.hid (iabs_no (root := root) (path := path) (L := L) (.inr (.inr (.inl (by have := HLM.out; have := HLN.out; omega)))))
    clear hp hm0
    go_wp2_with fail
    go_ret
    exact ⟨ret_bool HF.out.symm, HB1.out⟩
  have hd2 : ¬ (n : Int) < (m : Int) := by omega
  have hlm : m ≤ n + 1 := by omega
  have hmp : 0 < m := by omega
  cases hwy : wayPB root (partsB path) L
  · have HF := Lib.hid (iabs_no (root := root) (path := path) (L := L) (.inr (.inr (.inr hwy))))
    clear hp hm0
    go_wp2_with (go_at_call 32; refine (onTheWay_any root x n c (partsB path) y m d L _ _ _ HP.out (Nat.le_refl _) HL1.out (Nat.le_trans hB hs1) HZ.out hlm hmp).mono ?_; rintro e w2 ⟨rfl, hb⟩; rw [hwy]; have HB2 := Lib.hid (HB1.out.trans (hb.mono hs1)); clear hb)
    go_ret
    exact ⟨ret_bool HF.out.symm, HB2.out⟩
  obtain ⟨i, hi⟩ : ∃ i, m = i + 1 := ⟨m - 1, by omega⟩
  have h3 := iabs_is (root := root) (path := path) (L := L) hp (by have := HLM.out; omega) (by have := HLM.out; have := HLN.out; omega) hwy
  rw [show L.length - 1 = i by have := HLM.out; omega] at h3
  have HF := Lib.hid h3
  have hw9 : IntKind.i64.wrap ((m : Int) - 1) = (i : Int) := by rw [IntKind.wrap_i64]; omega
  have him : (i : Int) < (m : Int) := by omega
  have hin2 : (i : Int) < (n : Int) := by omega
  have him2 : i < m := by omega
  have hin : i < n := by omega
  have hi0 : (0 : Int) ≤ (i : Int) := by omega
  have hzi := HZ.out i
  clear hp h3 hi hm0
  go_wp2_with (first
    | (go_at_call 32; refine (onTheWay_any root x n c (partsB path) y m d L _ _ _ HP.out (Nat.le_refl _) HL1.out (Nat.le_trans hB hs1) HZ.out hlm hmp).mono ?_; rintro e w2 ⟨rfl, hb⟩; rw [hwy]; have HB2 := Lib.hid (HB1.out.trans (hb.mono hs1)); have HL2 := Lib.hid (HL1.out.below hb (Nat.le_trans hB hs1)); have HP2 := Lib.hid ((HP.out.below hb (Nat.le_refl _)).more hb.size); clear hb; obtain ⟨b, o, rfl, hbb, hcc⟩ := HL2.out.atS him2))
  have hs2 := HB2.out.size
  refine (implReadFolder_any _ _ hzi).mono ?_
  rintro e w3 ⟨v3, rfl, ho, hb3⟩
  obtain ⟨xo, no, co, rfl, hlo⟩ := ho.lst
  have HLO := Lib.hid hlo; have HB3 := Lib.hid (HB2.out.trans (hb3.mono hs2)); have HLE := Lib.hid hlo.len; have HP3 := Lib.hid (HP2.out.below hb3 (Nat.le_refl _))
  have hs3 := HB3.out.size
  have hno3 : no ≤ 3 := by have := foldL_len (nthS L i); have := HLE.out; omega
  have HAS := Lib.hid (ents_asc (fold_ents (s := nthS L i)))
  obtain ⟨E, hE⟩ : ∃ E, foldL (nthS L i) = E := ⟨_, rfl⟩
  rw [hE] at HF HLO HLE HAS
  obtain ⟨g, hg⟩ : ∃ g, isFold (nthS L i) = g := ⟨_, rfl⟩
  rw [hg] at HF ⊢
  obtain ⟨bs, os, rfl, hbs, hcs⟩ := HP3.out.atS hin
  obtain ⟨nm, hnm⟩ : ∃ nm, nthS (partsB path) i = nm := ⟨_, rfl⟩
  rw [hnm] at HF hcs
  clear ho hb3 hlo hnm hE hg hcc
  cases g
  · have HX := Lib.hid (show ppAbs root path L = false from HF.out)
    clear HF
    go_wp2_with fail
    go_ret
    exact ⟨ret_bool HX.out.symm, HB3.out⟩
  have HX := Lib.hid (show ppAbs root path L = !hereE nm E from HF.out)
  clear HF
  go_wp2_with fail
  refine (placeOfName_any xo no co E nm _ _ HLO.out (Nat.le_refl _) HAS.out (by omega)).mono ?_
  rintro e w4 ⟨rfl, hb⟩
  have HB4 := Lib.hid (HB3.out.trans (hb.mono hs3))
  clear hb
  cases hh : hereE nm E
  · have HY := Lib.hid (HX.out.trans (by rw [hh]))
    clear hh HX
    go_wp2_with fail
    go_ret
    exact ⟨ret_bool HY.out.symm, HB4.out⟩
  · have HY := Lib.hid (HX.out.trans (by rw [hh]))
    clear hh HX
    go_wp2_with fail
    go_ret
    exact ⟨ret_bool HY.out.symm, HB4.out⟩
theorem implAbsenceProof_any (x : Option Addr) (n cap : Nat) (l : List Pc) (root : Int) (path : ByteArray) (B : Nat) (w : World) (h : Pcs w B x n cap l) (hB : B ≤ w.heap.size) (hz : ∀ k, (nthP l k).2.size ≤ 1048576) (hs : path.size ≤ 1048576) :
    Calls Tryz.prog 20 #[.slice x n cap, .int .i64 root, .string path] w (NewS (ppGone l root path) w) := by
  have HH := Lib.hid h; have HZ := Lib.hid hz
  have HF := Lib.hid (along_gone l root path)
  have HTZ := Lib.hid (alongT_max HZ.out root path)
  clear h hz
  go_enter Tryz.func20, Tryz.ntmps20
  go_wp2_with fail
  refine (textsAlong_any x n cap l root path B _ HH.out hB HZ.out hs).mono ?_
  rintro e w1 ⟨v1, rfl, ho, hb⟩
  obtain ⟨y, m, d, rfl, hi⟩ := ho.lst
  have HB1 := Lib.hid hb; have HI := Lib.hid hi; have HO := Lib.hid ho
  have hs1 := hb.size
  clear hb ho hi
  obtain ⟨T, hT⟩ : ∃ T, alongT l root path = T := ⟨_, rfl⟩
  rw [hT] at HF HI HO HTZ
  clear hT
  go_wp2_with fail
  refine (implAbsenceRight_any root path y m d T _ _ HI.out (Nat.le_refl _) hs HTZ.out).mono ?_
  rintro e w2 ⟨rfl, hb⟩
  have HB2 := Lib.hid (HB1.out.trans (hb.mono hs1)); have HO2 := Lib.hid (HO.out.below hb)
  clear hb
  cases hr : ppAbs root path T
  · have HE := Lib.hid (show ppGone l root path = [] by rw [← HF.out, if_neg (by rw [hr]; simp)])
    clear hr
    go_wp2_with fail
    go_ret
    exact inewS_of HE.out (OwnL.nil _ _ _ _ _) HB2.out
  · have HE := Lib.hid (show ppGone l root path = T by rw [← HF.out, if_pos hr])
    clear hr
    go_wp2_with fail
    go_ret
    exact inewS_of HE.out HO2.out HB2.out
end Go.Proofs.YtojebghaegimbaaGreatDoor
