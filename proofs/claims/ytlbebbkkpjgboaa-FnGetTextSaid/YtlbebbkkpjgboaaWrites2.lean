/-
  Chapter 10's model: dropping at a path.
-/
import Derived.Test.YtlbebbkkpjgboaaWrites
namespace Go.Proofs.Ytlbebbkkpjgboaa
open Go.RowKit
set_option linter.unusedVariables false
theorem end_few {l : List Pc} {r : List Ent} (h : l.length ≤ 40) : (endB l r).1.length ≤ 40 := by
  unfold endB
  split
  · exact h
  · exact putB_few _ _
theorem drop_few : ∀ {ps : List ByteArray} {l : List Pc} {p : Int}, l.length ≤ 40 → (dropB l p ps).1.length ≤ 40
  | [], l, p, h => h
  | nm :: r, l, p, h => by
    have ih := drop_few (ps := r) (p := lastE nm (-1) (foldL (getT l p))) h
    rw [dropB]
    split
    · exact h
    split
    · exact end_few h
    split
    · exact h
    · exact end_few ih
set_option maxHeartbeats 4000000 in
set_option maxRecDepth 100000 in
theorem specDropAt_any (x : Option Addr) (n cap : Nat) (l : List Pc) (root : Int) (path : ByteArray) (B : Nat) (w : World) (h : Pcs w B x n cap l) (hB : B ≤ w.heap.size) (hzm : ∀ k, (nthP l k).2.size ≤ maxLen) (hpz : path.size ≤ 1048576) :
    Calls Try.prog 67 #[.slice x n cap, .int .i64 root, .string path] w (RdPut (dropAtB l root path) w) := by
  have hnl := h.len
  have HNL := Lib.hid hnl
  clear hnl
  cases hs : storeB l
  · have HF := Lib.hid (show dropAtB l root path = ([], -1, false) by unfold dropAtB; rw [hs]; rfl)
    go_enter Try.func67, Try.ntmps67
    go_wp2_with (first
      | (go_at_call 73; refine (specPathParts_any path _ hpz).mono ?_; rintro e w1 ⟨v, rfl, ho, hb⟩;  obtain ⟨y, m, d, rfl, hlo⟩ := ho.lst; have HPS := Lib.hid hlo; have HS1 := Lib.hid (h.below hb hB); have HB1 := Lib.hid hb; have hw1 : w.heap.size ≤ w1.heap.size := hb.size;  clear ho hb hlo)
      | (go_at_call 36; refine (specStoreValid_any x n cap l B _ HS1.out hzm).mono ?_; rintro e w2 ⟨rfl, hq⟩; rw [hs]; have HQ2 := Lib.hid hq; clear hq))
    go_ret3
    exact rdPut_of HF.out (OwnL.lst' (OwnL.newAt pcG 51 (size := 2) (base := w.heap.size) rfl (by rw [size_quiet HQ2.out]; exact hw1))) ((below_quiet HB1.out HQ2.out).alloc (by rw [size_quiet HQ2.out]; exact hw1) _)
  have hl40 := (storeB_at hs).1
  have hn40 : n ≤ 40 := by have := HNL.out; omega
  have hzs : Short 1048576 l := fun q hq => Nat.le_trans (store_short hs q hq) (by decide)
  have hps : ∀ k, (nthS (partsB path) k).size ≤ 1048576 := fun k => Nat.le_trans (parts_small.2 k) (by decide)
  cases hp : isPath path
  · have HF := Lib.hid (show dropAtB l root path = ([], -1, false) by unfold dropAtB; rw [hs, hp]; rfl)
    go_enter Try.func67, Try.ntmps67
    go_wp2_with (first
      | (go_at_call 73; refine (specPathParts_any path _ hpz).mono ?_; rintro e w1 ⟨v, rfl, ho, hb⟩; rw [hp]; obtain ⟨y, m, d, rfl, hlo⟩ := ho.lst; have HPS := Lib.hid hlo; have HS1 := Lib.hid (h.below hb hB); have HB1 := Lib.hid hb; have hw1 : w.heap.size ≤ w1.heap.size := hb.size;  clear ho hb hlo)
      | (go_at_call 36; refine (specStoreValid_any x n cap l B _ HS1.out hzm).mono ?_; rintro e w2 ⟨rfl, hq⟩; rw [hs]; have HQ2 := Lib.hid hq; clear hq))
    go_ret3
    exact rdPut_of HF.out (OwnL.lst' (OwnL.newAt pcG 51 (size := 2) (base := w.heap.size) rfl (by rw [size_quiet HQ2.out]; exact hw1))) ((below_quiet HB1.out HQ2.out).alloc (by rw [size_quiet HQ2.out]; exact hw1) _)
  by_cases hne : partsB path = []
  · have HEE := Lib.hid hne
    have HF := Lib.hid (show dropAtB l root path = ([], -1, false) by unfold dropAtB; rw [hs, hp, decide_eq_true hne]; rfl)
    clear hne
    go_enter Try.func67, Try.ntmps67
    go_wp2_with (first
      | (go_at_call 73; refine (specPathParts_any path _ hpz).mono ?_; rintro e w1 ⟨v, rfl, ho, hb⟩; rw [hp]; obtain ⟨y, m, d, rfl, hlo⟩ := ho.lst; have HPS := Lib.hid hlo; have HS1 := Lib.hid (h.below hb hB); have HB1 := Lib.hid hb; have hw1 : w.heap.size ≤ w1.heap.size := hb.size; have hmz : ((m : Int) == 0) = true := (by have h9 := HPS.out.len; rw [HEE.out] at h9; simp at h9; simp; omega); clear ho hb hlo)
      | (go_at_call 36; refine (specStoreValid_any x n cap l B _ HS1.out hzm).mono ?_; rintro e w2 ⟨rfl, hq⟩; rw [hs]; have HQ2 := Lib.hid hq; clear hq))
    go_ret3
    exact rdPut_of HF.out (OwnL.lst' (OwnL.newAt pcG 51 (size := 2) (base := w.heap.size) rfl (by rw [size_quiet HQ2.out]; exact hw1))) ((below_quiet HB1.out HQ2.out).alloc (by rw [size_quiet HQ2.out]; exact hw1) _)
  have HNE := Lib.hid hne
  clear hne
  have HW := Lib.hid (show dropAtB l root path = if (walkB l root (partsB path)).2 = false then (l, root, false)
    else if ((dropB l root (partsB path)).2.2 && decide ((dropB l root (partsB path)).2.1 < 0)) = true then
      (if (putB (dropB l root (partsB path)).1 (folderB [])).2.2 = false then (l, root, false) else ((putB (dropB l root (partsB path)).1 (folderB [])).1, (putB (dropB l root (partsB path)).1 (folderB [])).2.1, true))
    else if (dropB l root (partsB path)).2.2 = false then (l, root, false)
    else ((dropB l root (partsB path)).1, (dropB l root (partsB path)).2.1, true) by
    unfold dropAtB; rw [if_neg (by rw [hs, hp, decide_eq_false HNE.out]; simp)])
  have hpl : 0 < (partsB path).length := List.length_pos_iff.2 HNE.out
  cases hg : (walkB l root (partsB path)).2
  · have HF := Lib.hid (HW.out.trans (if_pos hg))
    go_enter Try.func67, Try.ntmps67
    go_wp2_with (first
      | (go_at_call 73; refine (specPathParts_any path _ hpz).mono ?_; rintro e w1 ⟨v, rfl, ho, hb⟩; rw [hp]; obtain ⟨y, m, d, rfl, hlo⟩ := ho.lst; have HPS := Lib.hid hlo; have HS1 := Lib.hid (h.below hb hB); have HB1 := Lib.hid hb; have hw1 : w.heap.size ≤ w1.heap.size := hb.size; have hmp : 0 < m := (by have h9 := HPS.out.len; have h10 := List.length_pos_iff.2 HNE.out; omega); have hm3 : m ≤ 1000 := (by have h9 := HPS.out.len; have h10 := (parts_small (s := path)).1; omega); have hmz : ((m : Int) == 0) = false := (by simp; omega); clear ho hb hlo)
      | (go_at_call 36; refine (specStoreValid_any x n cap l B _ HS1.out hzm).mono ?_; rintro e w2 ⟨rfl, hq⟩; rw [hs]; have HQ2 := Lib.hid hq; clear hq)
      | (at_builtin; refine wpList_appL eltPc encPc (OwnL.newAt pcG 51 (size := 2) (base := w.heap.size) rfl (by rw [size_quiet HQ2.out]; exact hw1)) ((HS1.out.quiet HQ2.out).alloc (by rw [size_quiet HQ2.out]; exact Nat.le_trans hB hw1) _) (by decide) (by omega) (le_alloc (by rw [size_quiet HQ2.out]; exact hw1) _) rfl _ _ rfl rfl rfl ?_; intro v3 w3 hown hgr hat; have hb3 := ((below_quiet HB1.out HQ2.out).alloc (by rw [size_quiet HQ2.out]; exact hw1) (.cells #[] 51)).grown hgr (le_alloc (by rw [size_quiet HQ2.out]; exact hw1) _) (fun q e => OwnL.at (OwnL.newAt pcG 51 (size := 2) (base := w.heap.size) rfl (by rw [size_quiet HQ2.out]; exact hw1)) q e); obtain ⟨x3, n3, c3, rfl, hl3⟩ := hown.lst; have H3 := Lib.hid (show Lst pcG w3 w3.heap.size x3 n3 c3 l by simpa using hl3); have HB3 := Lib.hid hb3; have hw3 : w.heap.size ≤ w3.heap.size := hb3.size; have HP3 := Lib.hid (Lst.keep (w' := w3) (B := w1.heap.size) HPS.out (fun k hk => (hgr.block k (by have h8 := size_quiet HQ2.out; simp; omega) (by have h8 := size_quiet HQ2.out; simp [Value.ownBlock]; omega)).trans ((Below.heap_alloc _ _ _ (by have h8 := size_quiet HQ2.out; omega)).trans (by obtain ⟨q2, h9⟩ := HQ2.out; rw [h9]; rfl)))); have HW13 := Lib.hid (show w1.heap.size ≤ w3.heap.size from Nat.le_trans (by have h8 := size_quiet HQ2.out; simp; omega) hgr.size); clear hown hgr hat hb3 hl3)
      | (go_at_call 74; refine (specWalk_any x y n cap m d l (partsB path) root B w1.heap.size _ (h.below HB3.out hB) HP3.out (Nat.le_trans hB hw3) HW13.out (short_nth hzs)).mono ?_; rintro e w4 ⟨rfl, hb4⟩; rw [hg]; have H3w := Lib.hid (Lst.more (Lst.below H3.out hb4 (Nat.le_refl _)) hb4.size); have HB4 := Lib.hid (HB3.out.trans (hb4.mono hw3)); have hw4 : w.heap.size ≤ w4.heap.size := Nat.le_trans hw3 hb4.size; have HP4 := Lib.hid (Lst.below HP3.out hb4 HW13.out); have HW14 := Lib.hid (Nat.le_trans HW13.out hb4.size); clear hb4))
    go_ret3
    exact rdPut_of HF.out H3w.out HB4.out
  have hz5 : ∀ k, (nthP (dropB l root (partsB path)).1 k).2.size ≤ maxLen := fun k => Nat.le_trans (short_nth (drop_short (m := 1048576) (by decide) hzs) k) (by unfold maxLen; omega)
  have hd40 := drop_few (ps := partsB path) (p := root) hl40
  cases hdr : (dropB l root (partsB path)).2.2
  · have HF := Lib.hid (HW.out.trans (by rw [if_neg (by rw [hg]; simp), if_neg (by rw [hdr]; simp), if_pos hdr]))
    go_enter Try.func67, Try.ntmps67
    go_wp2_with (first
      | (go_at_call 73; refine (specPathParts_any path _ hpz).mono ?_; rintro e w1 ⟨v, rfl, ho, hb⟩; rw [hp]; obtain ⟨y, m, d, rfl, hlo⟩ := ho.lst; have HPS := Lib.hid hlo; have HS1 := Lib.hid (h.below hb hB); have HB1 := Lib.hid hb; have hw1 : w.heap.size ≤ w1.heap.size := hb.size; have hmp : 0 < m := (by have h9 := HPS.out.len; have h10 := List.length_pos_iff.2 HNE.out; omega); have hm3 : m ≤ 1000 := (by have h9 := HPS.out.len; have h10 := (parts_small (s := path)).1; omega); have hmz : ((m : Int) == 0) = false := (by simp; omega); clear ho hb hlo)
      | (go_at_call 36; refine (specStoreValid_any x n cap l B _ HS1.out hzm).mono ?_; rintro e w2 ⟨rfl, hq⟩; rw [hs]; have HQ2 := Lib.hid hq; clear hq)
      | (at_builtin; refine wpList_appL eltPc encPc (OwnL.newAt pcG 51 (size := 2) (base := w.heap.size) rfl (by rw [size_quiet HQ2.out]; exact hw1)) ((HS1.out.quiet HQ2.out).alloc (by rw [size_quiet HQ2.out]; exact Nat.le_trans hB hw1) _) (by decide) (by omega) (le_alloc (by rw [size_quiet HQ2.out]; exact hw1) _) rfl _ _ rfl rfl rfl ?_; intro v3 w3 hown hgr hat; have hb3 := ((below_quiet HB1.out HQ2.out).alloc (by rw [size_quiet HQ2.out]; exact hw1) (.cells #[] 51)).grown hgr (le_alloc (by rw [size_quiet HQ2.out]; exact hw1) _) (fun q e => OwnL.at (OwnL.newAt pcG 51 (size := 2) (base := w.heap.size) rfl (by rw [size_quiet HQ2.out]; exact hw1)) q e); obtain ⟨x3, n3, c3, rfl, hl3⟩ := hown.lst; have H3 := Lib.hid (show Lst pcG w3 w3.heap.size x3 n3 c3 l by simpa using hl3); have HB3 := Lib.hid hb3; have hw3 : w.heap.size ≤ w3.heap.size := hb3.size; have HP3 := Lib.hid (Lst.keep (w' := w3) (B := w1.heap.size) HPS.out (fun k hk => (hgr.block k (by have h8 := size_quiet HQ2.out; simp; omega) (by have h8 := size_quiet HQ2.out; simp [Value.ownBlock]; omega)).trans ((Below.heap_alloc _ _ _ (by have h8 := size_quiet HQ2.out; omega)).trans (by obtain ⟨q2, h9⟩ := HQ2.out; rw [h9]; rfl)))); have HW13 := Lib.hid (show w1.heap.size ≤ w3.heap.size from Nat.le_trans (by have h8 := size_quiet HQ2.out; simp; omega) hgr.size); clear hown hgr hat hb3 hl3)
      | (go_at_call 74; refine (specWalk_any x y n cap m d l (partsB path) root B w1.heap.size _ (h.below HB3.out hB) HP3.out (Nat.le_trans hB hw3) HW13.out (short_nth hzs)).mono ?_; rintro e w4 ⟨rfl, hb4⟩; rw [hg]; have H3w := Lib.hid (Lst.more (Lst.below H3.out hb4 (Nat.le_refl _)) hb4.size); have HB4 := Lib.hid (HB3.out.trans (hb4.mono hw3)); have hw4 : w.heap.size ≤ w4.heap.size := Nat.le_trans hw3 hb4.size; have HP4 := Lib.hid (Lst.below HP3.out hb4 HW13.out); have HW14 := Lib.hid (Nat.le_trans HW13.out hb4.size); clear hb4)
      | (go_at_call 75; refine (specDrop_any _ (partsB path) x y n cap m d l root B w1.heap.size _ (h.below HB4.out hB) HP4.out (Nat.le_trans hB hw4) HW14.out hzs hps hm3 hpl (Nat.le_refl _)).mono ?_; rintro e w5 ⟨x5, n5, c5, rfl, h5, hb5⟩; rw [hdr]; have H5 := Lib.hid h5; have hn5 : n5 ≤ 2000000 := (by have h9 := h5.len; omega); have H35 := Lib.hid (Lst.more (Lst.below H3w.out hb5 (Nat.le_refl _)) hb5.size); have HB5 := Lib.hid (HB4.out.trans (hb5.mono hw4)); have hw5 : w.heap.size ≤ w5.heap.size := Nat.le_trans hw4 hb5.size; clear h5 hb5))
    go_ret3
    exact rdPut_of HF.out H35.out HB5.out
  obtain ⟨pr, hpr⟩ : ∃ pr, (dropB l root (partsB path)).2.1 = pr := ⟨_, rfl⟩
  have HPR := Lib.hid hpr
  clear hpr
  by_cases hneg : pr < 0
  · have HNG := Lib.hid (show ((dropB l root (partsB path)).2.2 && decide ((dropB l root (partsB path)).2.1 < 0)) = true by rw [hdr, HPR.out, decide_eq_true hneg]; rfl)
    cases hput : (putB (dropB l root (partsB path)).1 (folderB [])).2.2
    · have HF := Lib.hid (HW.out.trans (by rw [if_neg (by rw [hg]; simp), if_pos HNG.out, if_pos hput]))
      go_enter Try.func67, Try.ntmps67
      go_wp2_with (first
        | (go_at_call 73; refine (specPathParts_any path _ hpz).mono ?_; rintro e w1 ⟨v, rfl, ho, hb⟩; rw [hp]; obtain ⟨y, m, d, rfl, hlo⟩ := ho.lst; have HPS := Lib.hid hlo; have HS1 := Lib.hid (h.below hb hB); have HB1 := Lib.hid hb; have hw1 : w.heap.size ≤ w1.heap.size := hb.size; have hmp : 0 < m := (by have h9 := HPS.out.len; have h10 := List.length_pos_iff.2 HNE.out; omega); have hm3 : m ≤ 1000 := (by have h9 := HPS.out.len; have h10 := (parts_small (s := path)).1; omega); have hmz : ((m : Int) == 0) = false := (by simp; omega); clear ho hb hlo)
        | (go_at_call 36; refine (specStoreValid_any x n cap l B _ HS1.out hzm).mono ?_; rintro e w2 ⟨rfl, hq⟩; rw [hs]; have HQ2 := Lib.hid hq; clear hq)
        | (at_builtin; refine wpList_appL eltPc encPc (OwnL.newAt pcG 51 (size := 2) (base := w.heap.size) rfl (by rw [size_quiet HQ2.out]; exact hw1)) ((HS1.out.quiet HQ2.out).alloc (by rw [size_quiet HQ2.out]; exact Nat.le_trans hB hw1) _) (by decide) (by omega) (le_alloc (by rw [size_quiet HQ2.out]; exact hw1) _) rfl _ _ rfl rfl rfl ?_; intro v3 w3 hown hgr hat; have hb3 := ((below_quiet HB1.out HQ2.out).alloc (by rw [size_quiet HQ2.out]; exact hw1) (.cells #[] 51)).grown hgr (le_alloc (by rw [size_quiet HQ2.out]; exact hw1) _) (fun q e => OwnL.at (OwnL.newAt pcG 51 (size := 2) (base := w.heap.size) rfl (by rw [size_quiet HQ2.out]; exact hw1)) q e); obtain ⟨x3, n3, c3, rfl, hl3⟩ := hown.lst; have H3 := Lib.hid (show Lst pcG w3 w3.heap.size x3 n3 c3 l by simpa using hl3); have HB3 := Lib.hid hb3; have hw3 : w.heap.size ≤ w3.heap.size := hb3.size; have HP3 := Lib.hid (Lst.keep (w' := w3) (B := w1.heap.size) HPS.out (fun k hk => (hgr.block k (by have h8 := size_quiet HQ2.out; simp; omega) (by have h8 := size_quiet HQ2.out; simp [Value.ownBlock]; omega)).trans ((Below.heap_alloc _ _ _ (by have h8 := size_quiet HQ2.out; omega)).trans (by obtain ⟨q2, h9⟩ := HQ2.out; rw [h9]; rfl)))); have HW13 := Lib.hid (show w1.heap.size ≤ w3.heap.size from Nat.le_trans (by have h8 := size_quiet HQ2.out; simp; omega) hgr.size); clear hown hgr hat hb3 hl3)
        | (go_at_call 74; refine (specWalk_any x y n cap m d l (partsB path) root B w1.heap.size _ (h.below HB3.out hB) HP3.out (Nat.le_trans hB hw3) HW13.out (short_nth hzs)).mono ?_; rintro e w4 ⟨rfl, hb4⟩; rw [hg]; have H3w := Lib.hid (Lst.more (Lst.below H3.out hb4 (Nat.le_refl _)) hb4.size); have HB4 := Lib.hid (HB3.out.trans (hb4.mono hw3)); have hw4 : w.heap.size ≤ w4.heap.size := Nat.le_trans hw3 hb4.size; have HP4 := Lib.hid (Lst.below HP3.out hb4 HW13.out); have HW14 := Lib.hid (Nat.le_trans HW13.out hb4.size); clear hb4)
        | (go_at_call 75; refine (specDrop_any _ (partsB path) x y n cap m d l root B w1.heap.size _ (h.below HB4.out hB) HP4.out (Nat.le_trans hB hw4) HW14.out hzs hps hm3 hpl (Nat.le_refl _)).mono ?_; rintro e w5 ⟨x5, n5, c5, rfl, h5, hb5⟩; rw [hdr]; rw [HPR.out]; have H5 := Lib.hid h5; have hn5 : n5 ≤ 2000000 := (by have h9 := h5.len; omega); have H35 := Lib.hid (Lst.more (Lst.below H3w.out hb5 (Nat.le_refl _)) hb5.size); have HB5 := Lib.hid (HB4.out.trans (hb5.mono hw4)); have hw5 : w.heap.size ≤ w5.heap.size := Nat.le_trans hw4 hb5.size; clear h5 hb5)
        | (go_at_call 51; refine (specEmptyRoot_any x5 n5 c5 _ w5.heap.size _ H5.out (Nat.le_refl _) hz5).mono ?_; rintro e w6 ⟨x6, n6, c6, rfl, h6, hb6⟩; rw [hput]; have H6 := Lib.hid h6; have hn6 : n6 ≤ 2000000 := (by have h9 := h6.len; have h10 := putB_few (dropB l root (partsB path)).1 (folderB []); omega); have H36 := Lib.hid (Lst.more (Lst.below H35.out hb6 (Nat.le_refl _)) hb6.size); have HB6 := Lib.hid (HB5.out.trans (hb6.mono hw5)); have hw6 : w.heap.size ≤ w6.heap.size := Nat.le_trans hw5 hb6.size; clear h6 hb6))
      go_ret3
      exact rdPut_of HF.out H36.out HB6.out
    · have HF := Lib.hid (HW.out.trans (by rw [if_neg (by rw [hg]; simp), if_pos HNG.out, if_neg (by rw [hput]; simp)]))
      go_enter Try.func67, Try.ntmps67
      go_wp2_with (first
        | (go_at_call 73; refine (specPathParts_any path _ hpz).mono ?_; rintro e w1 ⟨v, rfl, ho, hb⟩; rw [hp]; obtain ⟨y, m, d, rfl, hlo⟩ := ho.lst; have HPS := Lib.hid hlo; have HS1 := Lib.hid (h.below hb hB); have HB1 := Lib.hid hb; have hw1 : w.heap.size ≤ w1.heap.size := hb.size; have hmp : 0 < m := (by have h9 := HPS.out.len; have h10 := List.length_pos_iff.2 HNE.out; omega); have hm3 : m ≤ 1000 := (by have h9 := HPS.out.len; have h10 := (parts_small (s := path)).1; omega); have hmz : ((m : Int) == 0) = false := (by simp; omega); clear ho hb hlo)
        | (go_at_call 36; refine (specStoreValid_any x n cap l B _ HS1.out hzm).mono ?_; rintro e w2 ⟨rfl, hq⟩; rw [hs]; have HQ2 := Lib.hid hq; clear hq)
        | (at_builtin; refine wpList_appL eltPc encPc (OwnL.newAt pcG 51 (size := 2) (base := w.heap.size) rfl (by rw [size_quiet HQ2.out]; exact hw1)) ((HS1.out.quiet HQ2.out).alloc (by rw [size_quiet HQ2.out]; exact Nat.le_trans hB hw1) _) (by decide) (by omega) (le_alloc (by rw [size_quiet HQ2.out]; exact hw1) _) rfl _ _ rfl rfl rfl ?_; intro v3 w3 hown hgr hat; have hb3 := ((below_quiet HB1.out HQ2.out).alloc (by rw [size_quiet HQ2.out]; exact hw1) (.cells #[] 51)).grown hgr (le_alloc (by rw [size_quiet HQ2.out]; exact hw1) _) (fun q e => OwnL.at (OwnL.newAt pcG 51 (size := 2) (base := w.heap.size) rfl (by rw [size_quiet HQ2.out]; exact hw1)) q e); obtain ⟨x3, n3, c3, rfl, hl3⟩ := hown.lst; have H3 := Lib.hid (show Lst pcG w3 w3.heap.size x3 n3 c3 l by simpa using hl3); have HB3 := Lib.hid hb3; have hw3 : w.heap.size ≤ w3.heap.size := hb3.size; have HP3 := Lib.hid (Lst.keep (w' := w3) (B := w1.heap.size) HPS.out (fun k hk => (hgr.block k (by have h8 := size_quiet HQ2.out; simp; omega) (by have h8 := size_quiet HQ2.out; simp [Value.ownBlock]; omega)).trans ((Below.heap_alloc _ _ _ (by have h8 := size_quiet HQ2.out; omega)).trans (by obtain ⟨q2, h9⟩ := HQ2.out; rw [h9]; rfl)))); have HW13 := Lib.hid (show w1.heap.size ≤ w3.heap.size from Nat.le_trans (by have h8 := size_quiet HQ2.out; simp; omega) hgr.size); clear hown hgr hat hb3 hl3)
        | (go_at_call 74; refine (specWalk_any x y n cap m d l (partsB path) root B w1.heap.size _ (h.below HB3.out hB) HP3.out (Nat.le_trans hB hw3) HW13.out (short_nth hzs)).mono ?_; rintro e w4 ⟨rfl, hb4⟩; rw [hg]; have H3w := Lib.hid (Lst.more (Lst.below H3.out hb4 (Nat.le_refl _)) hb4.size); have HB4 := Lib.hid (HB3.out.trans (hb4.mono hw3)); have hw4 : w.heap.size ≤ w4.heap.size := Nat.le_trans hw3 hb4.size; have HP4 := Lib.hid (Lst.below HP3.out hb4 HW13.out); have HW14 := Lib.hid (Nat.le_trans HW13.out hb4.size); clear hb4)
        | (go_at_call 75; refine (specDrop_any _ (partsB path) x y n cap m d l root B w1.heap.size _ (h.below HB4.out hB) HP4.out (Nat.le_trans hB hw4) HW14.out hzs hps hm3 hpl (Nat.le_refl _)).mono ?_; rintro e w5 ⟨x5, n5, c5, rfl, h5, hb5⟩; rw [hdr]; rw [HPR.out]; have H5 := Lib.hid h5; have hn5 : n5 ≤ 2000000 := (by have h9 := h5.len; omega); have H35 := Lib.hid (Lst.more (Lst.below H3w.out hb5 (Nat.le_refl _)) hb5.size); have HB5 := Lib.hid (HB4.out.trans (hb5.mono hw4)); have hw5 : w.heap.size ≤ w5.heap.size := Nat.le_trans hw4 hb5.size; clear h5 hb5)
        | (go_at_call 51; refine (specEmptyRoot_any x5 n5 c5 _ w5.heap.size _ H5.out (Nat.le_refl _) hz5).mono ?_; rintro e w6 ⟨x6, n6, c6, rfl, h6, hb6⟩; rw [hput]; have H6 := Lib.hid h6; have hn6 : n6 ≤ 2000000 := (by have h9 := h6.len; have h10 := putB_few (dropB l root (partsB path)).1 (folderB []); omega); have H36 := Lib.hid (Lst.more (Lst.below H35.out hb6 (Nat.le_refl _)) hb6.size); have HB6 := Lib.hid (HB5.out.trans (hb6.mono hw5)); have hw6 : w.heap.size ≤ w6.heap.size := Nat.le_trans hw5 hb6.size; clear h6 hb6)
        | (at_builtin; refine wpList_appL eltPc encPc (OwnL.newAt pcG 51 (size := 2) (base := w.heap.size) rfl hw6) (H6.out.alloc (Nat.le_refl _) _) (by decide) hn6 (le_alloc hw6 _) rfl _ _ rfl rfl rfl ?_; intro v7 w7 hown hgr hat; have hb7 := (HB6.out.alloc hw6 (.cells #[] 51)).grown hgr (le_alloc hw6 _) (fun q e => OwnL.at (OwnL.newAt pcG 51 (size := 2) (base := w.heap.size) rfl hw6) q e); obtain ⟨x7, n7, c7, rfl, hl7⟩ := hown.lst; have H7 := Lib.hid hl7; have HB7 := Lib.hid hb7; clear hown hgr hat hb7 hl7))
      go_ret3
      exact rdPut_of HF.out (show Lst pcG w7 w7.heap.size x7 n7 c7 _ by simpa using H7.out) HB7.out
  · have HF := Lib.hid (HW.out.trans (show _ = ((dropB l root (partsB path)).1, pr, true) by rw [if_neg (by rw [hg]; simp), if_neg (by rw [hdr, HPR.out, decide_eq_false hneg]; simp), if_neg (by rw [hdr]; simp), HPR.out]))
    go_enter Try.func67, Try.ntmps67
    go_wp2_with (first
      | (go_at_call 73; refine (specPathParts_any path _ hpz).mono ?_; rintro e w1 ⟨v, rfl, ho, hb⟩; rw [hp]; obtain ⟨y, m, d, rfl, hlo⟩ := ho.lst; have HPS := Lib.hid hlo; have HS1 := Lib.hid (h.below hb hB); have HB1 := Lib.hid hb; have hw1 : w.heap.size ≤ w1.heap.size := hb.size; have hmp : 0 < m := (by have h9 := HPS.out.len; have h10 := List.length_pos_iff.2 HNE.out; omega); have hm3 : m ≤ 1000 := (by have h9 := HPS.out.len; have h10 := (parts_small (s := path)).1; omega); have hmz : ((m : Int) == 0) = false := (by simp; omega); clear ho hb hlo)
      | (go_at_call 36; refine (specStoreValid_any x n cap l B _ HS1.out hzm).mono ?_; rintro e w2 ⟨rfl, hq⟩; rw [hs]; have HQ2 := Lib.hid hq; clear hq)
      | (at_builtin; refine wpList_appL eltPc encPc (OwnL.newAt pcG 51 (size := 2) (base := w.heap.size) rfl (by rw [size_quiet HQ2.out]; exact hw1)) ((HS1.out.quiet HQ2.out).alloc (by rw [size_quiet HQ2.out]; exact Nat.le_trans hB hw1) _) (by decide) (by omega) (le_alloc (by rw [size_quiet HQ2.out]; exact hw1) _) rfl _ _ rfl rfl rfl ?_; intro v3 w3 hown hgr hat; have hb3 := ((below_quiet HB1.out HQ2.out).alloc (by rw [size_quiet HQ2.out]; exact hw1) (.cells #[] 51)).grown hgr (le_alloc (by rw [size_quiet HQ2.out]; exact hw1) _) (fun q e => OwnL.at (OwnL.newAt pcG 51 (size := 2) (base := w.heap.size) rfl (by rw [size_quiet HQ2.out]; exact hw1)) q e); obtain ⟨x3, n3, c3, rfl, hl3⟩ := hown.lst; have H3 := Lib.hid (show Lst pcG w3 w3.heap.size x3 n3 c3 l by simpa using hl3); have HB3 := Lib.hid hb3; have hw3 : w.heap.size ≤ w3.heap.size := hb3.size; have HP3 := Lib.hid (Lst.keep (w' := w3) (B := w1.heap.size) HPS.out (fun k hk => (hgr.block k (by have h8 := size_quiet HQ2.out; simp; omega) (by have h8 := size_quiet HQ2.out; simp [Value.ownBlock]; omega)).trans ((Below.heap_alloc _ _ _ (by have h8 := size_quiet HQ2.out; omega)).trans (by obtain ⟨q2, h9⟩ := HQ2.out; rw [h9]; rfl)))); have HW13 := Lib.hid (show w1.heap.size ≤ w3.heap.size from Nat.le_trans (by have h8 := size_quiet HQ2.out; simp; omega) hgr.size); clear hown hgr hat hb3 hl3)
      | (go_at_call 74; refine (specWalk_any x y n cap m d l (partsB path) root B w1.heap.size _ (h.below HB3.out hB) HP3.out (Nat.le_trans hB hw3) HW13.out (short_nth hzs)).mono ?_; rintro e w4 ⟨rfl, hb4⟩; rw [hg]; have H3w := Lib.hid (Lst.more (Lst.below H3.out hb4 (Nat.le_refl _)) hb4.size); have HB4 := Lib.hid (HB3.out.trans (hb4.mono hw3)); have hw4 : w.heap.size ≤ w4.heap.size := Nat.le_trans hw3 hb4.size; have HP4 := Lib.hid (Lst.below HP3.out hb4 HW13.out); have HW14 := Lib.hid (Nat.le_trans HW13.out hb4.size); clear hb4)
      | (go_at_call 75; refine (specDrop_any _ (partsB path) x y n cap m d l root B w1.heap.size _ (h.below HB4.out hB) HP4.out (Nat.le_trans hB hw4) HW14.out hzs hps hm3 hpl (Nat.le_refl _)).mono ?_; rintro e w5 ⟨x5, n5, c5, rfl, h5, hb5⟩; rw [hdr]; rw [HPR.out]; have H5 := Lib.hid h5; have hn5 : n5 ≤ 2000000 := (by have h9 := h5.len; omega); have H35 := Lib.hid (Lst.more (Lst.below H3w.out hb5 (Nat.le_refl _)) hb5.size); have HB5 := Lib.hid (HB4.out.trans (hb5.mono hw4)); have hw5 : w.heap.size ≤ w5.heap.size := Nat.le_trans hw4 hb5.size; clear h5 hb5)
      | (at_builtin; refine wpList_appL eltPc encPc (OwnL.newAt pcG 51 (size := 2) (base := w.heap.size) rfl hw5) (H5.out.alloc (Nat.le_refl _) _) (by decide) hn5 (le_alloc hw5 _) rfl _ _ rfl rfl rfl ?_; intro v7 w7 hown hgr hat; have hb7 := (HB5.out.alloc hw5 (.cells #[] 51)).grown hgr (le_alloc hw5 _) (fun q e => OwnL.at (OwnL.newAt pcG 51 (size := 2) (base := w.heap.size) rfl hw5) q e); obtain ⟨x7, n7, c7, rfl, hl7⟩ := hown.lst; have H7 := Lib.hid hl7; have HB7 := Lib.hid hb7; clear hown hgr hat hb7 hl7))
    go_ret3
    exact rdPut_of HF.out (show Lst pcG w7 w7.heap.size x7 n7 c7 _ by simpa using H7.out) HB7.out
end Go.Proofs.Ytlbebbkkpjgboaa
