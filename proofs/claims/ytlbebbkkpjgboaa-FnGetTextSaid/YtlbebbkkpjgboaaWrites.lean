/-
  Chapter 10's model: writing and dropping at a path.
-/
import Derived.Test.YtlbebbkkpjgboaaDrop
namespace Go.Proofs.Ytlbebbkkpjgboaa
open Go.RowKit
set_option linter.unusedVariables false
theorem specEmptyRoot_any (x : Option Addr) (n cap : Nat) (l : List Pc) (B : Nat) (w : World) (h : Pcs w B x n cap l) (hB : B ≤ w.heap.size) (hz : ∀ k, (nthP l k).2.size ≤ maxLen) : Calls Try.prog 51 #[.slice x n cap] w (RdPut (putB l (folderB [])) w) := by
  have hft : (folderB []).size ≤ maxLen := Nat.le_trans (folderB_size _) (by unfold maxLen; omega)
  have HLS := Lib.hid (h.alloc hB (.cells #[] 84))
  have HE := Lib.hid (OwnL.new enG 84 (size := 2) w)
  have HB0 := Lib.hid ((Below.refl w.heap.size w).alloc (Nat.le_refl _) (.cells #[] 84))
  go_enter Try.func51, Try.ntmps51
  go_wp2_with (first
    | (go_at_call 65; refine (specFolderText_any _ _ _ [] _ _ (OwnL.lst' HE.out) (fun k => by simp [nthE])).mono ?_; rintro e w1 ⟨rfl, q, rfl⟩)
    | (go_at_call 64; refine (specPutText_any x n cap l _ B _ (HLS.out.drewN _) (le_drewN (Nat.le_trans hB HB0.out.size)) hz hft).mono ?_; rintro e w2 ⟨v, rfl, ho, hb⟩; obtain ⟨x2, n2, c2, rfl, hlo⟩ := ho.lst; have HLO := Lib.hid hlo; have HB2 := Lib.hid ((below_drewN HB0.out _).trans (hb.mono (le_drewN HB0.out.size))); clear ho hb hlo))
  go_ret3
  exact ⟨_, _, _, rfl, HLO.out, HB2.out⟩
def writeB (l : List Pc) (root : Int) (path content : ByteArray) : List Pc × Int × Bool :=
  if (storeB l && isPath path && !decide (partsB path = []) && contentB content) = false then ([], -1, false)
  else if getO l root = false then (l, root, false)
  else if (setB (printB (fileB content)) l root (partsB path)).2.2 = false then (l, root, false)
  else if (putB (setB (printB (fileB content)) l root (partsB path)).1 (fileB content)).2.2 = false then (l, root, false)
  else ((putB (setB (printB (fileB content)) l root (partsB path)).1 (fileB content)).1, (setB (printB (fileB content)) l root (partsB path)).2.1, true)
def dropAtB (l : List Pc) (root : Int) (path : ByteArray) : List Pc × Int × Bool :=
  if (storeB l && isPath path && !decide (partsB path = [])) = false then ([], -1, false)
  else if (walkB l root (partsB path)).2 = false then (l, root, false)
  else if ((dropB l root (partsB path)).2.2 && decide ((dropB l root (partsB path)).2.1 < 0)) = true then
    (if (putB (dropB l root (partsB path)).1 (folderB [])).2.2 = false then (l, root, false) else ((putB (dropB l root (partsB path)).1 (folderB [])).1, (putB (dropB l root (partsB path)).1 (folderB [])).2.1, true))
  else if (dropB l root (partsB path)).2.2 = false then (l, root, false)
  else ((dropB l root (partsB path)).1, (dropB l root (partsB path)).2.1, true)
theorem nthS_all {l : List ByteArray} {m : Nat} (h : ∀ q ∈ l, q.size ≤ m) (k : Nat) : (nthS l k).size ≤ m := by
  by_cases hk : k < l.length
  · rw [nthS_get hk]; exact h _ (List.getElem_mem _)
  · unfold nthS; rw [List.getD_eq_getElem?_getD, List.getElem?_eq_none (by omega)]; simp
/-- The words of a path are few and short. -/
theorem parts_small {s : ByteArray} : (partsB s).length ≤ 3 ∧ ∀ k, (nthS (partsB s) k).size ≤ 8 := by
  unfold partsB
  split
  · exact ⟨by simp, fun k => by simp [nthS]⟩
  · split
    · rename_i h0 h1
      unfold isPath at h1
      rw [decide_eq_false h0, Bool.false_or, Bool.and_eq_true, decide_eq_true_eq, decide_eq_true_eq] at h1
      have h2 := h1.2
      unfold pathB at h2
      split at h2
      · rename_i h3; rw [h3]; exact ⟨by simp, fun k => by simp [nthS]⟩
      · split at h2
        · rename_i h4
          simp only [Bool.and_eq_true, decide_eq_true_eq] at h4
          exact ⟨h4.2, nthS_all fun q hq => word_size (List.all_eq_true.1 h4.1 q hq)⟩
        · rw [← h2] at h1; exact absurd h1.1 (by decide)
    · exact ⟨by simp, fun k => by simp [nthS]⟩
theorem text_size {s : ByteArray} (h : textB s = true) : s.size ≤ 60 := by
  rcases Nat.lt_or_ge 60 s.size with h2 | h2
  · rw [textV_long _ h2] at h; cases h
  · exact h2
theorem fileB_size (s : ByteArray) : (fileB s).size ≤ 61 := by
  cases h : contentB s
  · rw [fileB_no h]; decide
  · rw [fileB_yes h, ByteArray.size_append]
    unfold contentB at h
    rw [Bool.and_eq_true] at h
    have := text_size h.1
    show 1 + _ ≤ 61
    omega
theorem putB_few (l : List Pc) (t : ByteArray) : (putB l t).1.length ≤ 40 := by
  cases h : storeB l
  · rw [putB_bad h]; simp
  · have h40 := (storeB_at h).1
    have hat := atP_le (printB t) l
    unfold putB putL
    rw [if_neg (by rw [h]; simp)]
    repeat' split
    all_goals simp
    all_goals omega
set_option maxHeartbeats 4000000 in
set_option maxRecDepth 100000 in
theorem specWriteAt_any (x : Option Addr) (n cap : Nat) (l : List Pc) (root : Int) (path content : ByteArray) (B : Nat) (w : World) (h : Pcs w B x n cap l) (hB : B ≤ w.heap.size) (hzm : ∀ k, (nthP l k).2.size ≤ maxLen) (hpz : path.size ≤ 1048576) (hcz : content.size ≤ 1000000) :
    Calls Try.prog 68 #[.slice x n cap, .int .i64 root, .string path, .string content] w (RdPut (writeB l root path content) w) := by
  have hcm : content.size ≤ maxLen := by unfold maxLen; omega
  have hfz : (fileB content).size ≤ maxLen := Nat.le_trans (fileB_size _) (by unfold maxLen; omega)
  have hnl := h.len
  have HNL := Lib.hid hnl
  clear hnl
  cases hs : storeB l
  · have HF := Lib.hid (show writeB l root path content = ([], -1, false) by unfold writeB; rw [hs]; rfl)
    go_enter Try.func68, Try.ntmps68
    go_wp2_with (first
      | (go_at_call 73; refine (specPathParts_any path _ hpz).mono ?_; rintro e w1 ⟨v, rfl, ho, hb⟩;  obtain ⟨y, m, d, rfl, hlo⟩ := ho.lst; have HPS := Lib.hid hlo; have HS1 := Lib.hid (h.below hb hB); have HB1 := Lib.hid hb; have hw1 : w.heap.size ≤ w1.heap.size := hb.size;  clear ho hb hlo)
      | (go_at_call 36; refine (specStoreValid_any x n cap l B _ HS1.out hzm).mono ?_; rintro e w2 ⟨rfl, hq⟩; rw [hs]; have HQ2 := Lib.hid hq; clear hq))
    go_ret3
    exact rdPut_of HF.out (OwnL.lst' (OwnL.newAt pcG 51 (size := 2) (base := w.heap.size) rfl (by rw [size_quiet HQ2.out]; exact hw1))) ((below_quiet HB1.out HQ2.out).alloc (by rw [size_quiet HQ2.out]; exact hw1) _)
  have hn40 : n ≤ 40 := by have := (storeB_at hs).1; have := HNL.out; omega
  have hzs : Short 1048576 l := fun q hq => Nat.le_trans (store_short hs q hq) (by decide)
  have hps : ∀ k, (nthS (partsB path) k).size ≤ 1048576 := fun k => Nat.le_trans (parts_small.2 k) (by decide)
  cases hp : isPath path
  · have HF := Lib.hid (show writeB l root path content = ([], -1, false) by unfold writeB; rw [hs, hp]; rfl)
    go_enter Try.func68, Try.ntmps68
    go_wp2_with (first
      | (go_at_call 73; refine (specPathParts_any path _ hpz).mono ?_; rintro e w1 ⟨v, rfl, ho, hb⟩; rw [hp]; obtain ⟨y, m, d, rfl, hlo⟩ := ho.lst; have HPS := Lib.hid hlo; have HS1 := Lib.hid (h.below hb hB); have HB1 := Lib.hid hb; have hw1 : w.heap.size ≤ w1.heap.size := hb.size;  clear ho hb hlo)
      | (go_at_call 36; refine (specStoreValid_any x n cap l B _ HS1.out hzm).mono ?_; rintro e w2 ⟨rfl, hq⟩; rw [hs]; have HQ2 := Lib.hid hq; clear hq))
    go_ret3
    exact rdPut_of HF.out (OwnL.lst' (OwnL.newAt pcG 51 (size := 2) (base := w.heap.size) rfl (by rw [size_quiet HQ2.out]; exact hw1))) ((below_quiet HB1.out HQ2.out).alloc (by rw [size_quiet HQ2.out]; exact hw1) _)
  by_cases hne : partsB path = []
  · have HEE := Lib.hid hne
    have HF := Lib.hid (show writeB l root path content = ([], -1, false) by unfold writeB; rw [hs, hp, decide_eq_true hne]; rfl)
    clear hne
    go_enter Try.func68, Try.ntmps68
    go_wp2_with (first
      | (go_at_call 73; refine (specPathParts_any path _ hpz).mono ?_; rintro e w1 ⟨v, rfl, ho, hb⟩; rw [hp]; obtain ⟨y, m, d, rfl, hlo⟩ := ho.lst; have HPS := Lib.hid hlo; have HS1 := Lib.hid (h.below hb hB); have HB1 := Lib.hid hb; have hw1 : w.heap.size ≤ w1.heap.size := hb.size; have hmz : ((m : Int) == 0) = true := (by have h9 := HPS.out.len; rw [HEE.out] at h9; simp at h9; simp; omega); clear ho hb hlo)
      | (go_at_call 36; refine (specStoreValid_any x n cap l B _ HS1.out hzm).mono ?_; rintro e w2 ⟨rfl, hq⟩; rw [hs]; have HQ2 := Lib.hid hq; clear hq))
    go_ret3
    exact rdPut_of HF.out (OwnL.lst' (OwnL.newAt pcG 51 (size := 2) (base := w.heap.size) rfl (by rw [size_quiet HQ2.out]; exact hw1))) ((below_quiet HB1.out HQ2.out).alloc (by rw [size_quiet HQ2.out]; exact hw1) _)
  have HNE := Lib.hid hne
  clear hne
  cases hc : contentB content
  · have HF := Lib.hid (show writeB l root path content = ([], -1, false) by unfold writeB; rw [hc, Bool.and_false]; rfl)
    go_enter Try.func68, Try.ntmps68
    go_wp2_with (first
      | (go_at_call 73; refine (specPathParts_any path _ hpz).mono ?_; rintro e w1 ⟨v, rfl, ho, hb⟩; rw [hp]; obtain ⟨y, m, d, rfl, hlo⟩ := ho.lst; have HPS := Lib.hid hlo; have HS1 := Lib.hid (h.below hb hB); have HB1 := Lib.hid hb; have hw1 : w.heap.size ≤ w1.heap.size := hb.size; have hmp : 0 < m := (by have h9 := HPS.out.len; have h10 := List.length_pos_iff.2 HNE.out; omega); have hm3 : m ≤ 1000 := (by have h9 := HPS.out.len; have h10 := (parts_small (s := path)).1; omega); have hmz : ((m : Int) == 0) = false := (by simp; omega); clear ho hb hlo)
      | (go_at_call 36; refine (specStoreValid_any x n cap l B _ HS1.out hzm).mono ?_; rintro e w2 ⟨rfl, hq⟩; rw [hs]; have HQ2 := Lib.hid hq; clear hq)
      | (go_at_call 76; refine (specContentValid_any content _ hcm).mono ?_; rintro e w' ⟨rfl, rfl⟩; rw [hc]))
    go_ret3
    exact rdPut_of HF.out (OwnL.lst' (OwnL.newAt pcG 51 (size := 2) (base := w.heap.size) rfl (by rw [size_quiet HQ2.out]; exact hw1))) ((below_quiet HB1.out HQ2.out).alloc (by rw [size_quiet HQ2.out]; exact hw1) _)
  have HW := Lib.hid (show writeB l root path content = if getO l root = false then (l, root, false)
    else if (setB (printB (fileB content)) l root (partsB path)).2.2 = false then (l, root, false)
    else if (putB (setB (printB (fileB content)) l root (partsB path)).1 (fileB content)).2.2 = false then (l, root, false)
    else ((putB (setB (printB (fileB content)) l root (partsB path)).1 (fileB content)).1, (setB (printB (fileB content)) l root (partsB path)).2.1, true) by
    unfold writeB; rw [if_neg (by rw [hs, hp, decide_eq_false HNE.out, hc]; simp)])
  cases hg : getO l root
  · have HF := Lib.hid (HW.out.trans (if_pos hg))
    go_enter Try.func68, Try.ntmps68
    go_wp2_with (first
      | (go_at_call 73; refine (specPathParts_any path _ hpz).mono ?_; rintro e w1 ⟨v, rfl, ho, hb⟩; rw [hp]; obtain ⟨y, m, d, rfl, hlo⟩ := ho.lst; have HPS := Lib.hid hlo; have HS1 := Lib.hid (h.below hb hB); have HB1 := Lib.hid hb; have hw1 : w.heap.size ≤ w1.heap.size := hb.size; have hmp : 0 < m := (by have h9 := HPS.out.len; have h10 := List.length_pos_iff.2 HNE.out; omega); have hm3 : m ≤ 1000 := (by have h9 := HPS.out.len; have h10 := (parts_small (s := path)).1; omega); have hmz : ((m : Int) == 0) = false := (by simp; omega); clear ho hb hlo)
      | (go_at_call 36; refine (specStoreValid_any x n cap l B _ HS1.out hzm).mono ?_; rintro e w2 ⟨rfl, hq⟩; rw [hs]; have HQ2 := Lib.hid hq; clear hq)
      | (go_at_call 76; refine (specContentValid_any content _ hcm).mono ?_; rintro e w' ⟨rfl, rfl⟩; rw [hc])
      | (at_builtin; refine wpList_appL eltPc encPc (OwnL.newAt pcG 51 (size := 2) (base := w.heap.size) rfl (by rw [size_quiet HQ2.out]; exact hw1)) ((HS1.out.quiet HQ2.out).alloc (by rw [size_quiet HQ2.out]; exact Nat.le_trans hB hw1) _) (by decide) (by omega) (le_alloc (by rw [size_quiet HQ2.out]; exact hw1) _) rfl _ _ rfl rfl rfl ?_; intro v3 w3 hown hgr hat; have hb3 := ((below_quiet HB1.out HQ2.out).alloc (by rw [size_quiet HQ2.out]; exact hw1) (.cells #[] 51)).grown hgr (le_alloc (by rw [size_quiet HQ2.out]; exact hw1) _) (fun q e => OwnL.at (OwnL.newAt pcG 51 (size := 2) (base := w.heap.size) rfl (by rw [size_quiet HQ2.out]; exact hw1)) q e); obtain ⟨x3, n3, c3, rfl, hl3⟩ := hown.lst; have H3 := Lib.hid (show Lst pcG w3 w3.heap.size x3 n3 c3 l by simpa using hl3); have HB3 := Lib.hid hb3; have hw3 : w.heap.size ≤ w3.heap.size := hb3.size; have HP3 := Lib.hid (Lst.keep (w' := w3) (B := w1.heap.size) HPS.out (fun k hk => (hgr.block k (by have h8 := size_quiet HQ2.out; simp; omega) (by have h8 := size_quiet HQ2.out; simp [Value.ownBlock]; omega)).trans ((Below.heap_alloc _ _ _ (by have h8 := size_quiet HQ2.out; omega)).trans (by obtain ⟨q2, h9⟩ := HQ2.out; rw [h9]; rfl)))); have HW13 := Lib.hid (show w1.heap.size ≤ w3.heap.size from Nat.le_trans (by have h8 := size_quiet HQ2.out; simp; omega) hgr.size); clear hown hgr hat hb3 hl3)
      | (go_at_call 37; refine (specL4Get_any x n cap l root B _ (h.below HB3.out hB)).mono ?_; rintro e w' ⟨rfl, rfl⟩; rw [hg]))
    go_ret3
    exact rdPut_of HF.out H3.out HB3.out
  have hz5 : ∀ k, (nthP (setB (printB (fileB content)) l root (partsB path)).1 k).2.size ≤ maxLen := fun k => Nat.le_trans (short_nth (set_short (m := 1048576) (by decide) hzs) k) (by unfold maxLen; omega)
  cases hset : (setB (printB (fileB content)) l root (partsB path)).2.2
  · have HF := Lib.hid (HW.out.trans (by rw [if_neg (by rw [hg]; simp), if_pos hset]))
    go_enter Try.func68, Try.ntmps68
    go_wp2_with (first
      | (go_at_call 73; refine (specPathParts_any path _ hpz).mono ?_; rintro e w1 ⟨v, rfl, ho, hb⟩; rw [hp]; obtain ⟨y, m, d, rfl, hlo⟩ := ho.lst; have HPS := Lib.hid hlo; have HS1 := Lib.hid (h.below hb hB); have HB1 := Lib.hid hb; have hw1 : w.heap.size ≤ w1.heap.size := hb.size; have hmp : 0 < m := (by have h9 := HPS.out.len; have h10 := List.length_pos_iff.2 HNE.out; omega); have hm3 : m ≤ 1000 := (by have h9 := HPS.out.len; have h10 := (parts_small (s := path)).1; omega); have hmz : ((m : Int) == 0) = false := (by simp; omega); clear ho hb hlo)
      | (go_at_call 36; refine (specStoreValid_any x n cap l B _ HS1.out hzm).mono ?_; rintro e w2 ⟨rfl, hq⟩; rw [hs]; have HQ2 := Lib.hid hq; clear hq)
      | (go_at_call 76; refine (specContentValid_any content _ hcm).mono ?_; rintro e w' ⟨rfl, rfl⟩; rw [hc])
      | (at_builtin; refine wpList_appL eltPc encPc (OwnL.newAt pcG 51 (size := 2) (base := w.heap.size) rfl (by rw [size_quiet HQ2.out]; exact hw1)) ((HS1.out.quiet HQ2.out).alloc (by rw [size_quiet HQ2.out]; exact Nat.le_trans hB hw1) _) (by decide) (by omega) (le_alloc (by rw [size_quiet HQ2.out]; exact hw1) _) rfl _ _ rfl rfl rfl ?_; intro v3 w3 hown hgr hat; have hb3 := ((below_quiet HB1.out HQ2.out).alloc (by rw [size_quiet HQ2.out]; exact hw1) (.cells #[] 51)).grown hgr (le_alloc (by rw [size_quiet HQ2.out]; exact hw1) _) (fun q e => OwnL.at (OwnL.newAt pcG 51 (size := 2) (base := w.heap.size) rfl (by rw [size_quiet HQ2.out]; exact hw1)) q e); obtain ⟨x3, n3, c3, rfl, hl3⟩ := hown.lst; have H3 := Lib.hid (show Lst pcG w3 w3.heap.size x3 n3 c3 l by simpa using hl3); have HB3 := Lib.hid hb3; have hw3 : w.heap.size ≤ w3.heap.size := hb3.size; have HP3 := Lib.hid (Lst.keep (w' := w3) (B := w1.heap.size) HPS.out (fun k hk => (hgr.block k (by have h8 := size_quiet HQ2.out; simp; omega) (by have h8 := size_quiet HQ2.out; simp [Value.ownBlock]; omega)).trans ((Below.heap_alloc _ _ _ (by have h8 := size_quiet HQ2.out; omega)).trans (by obtain ⟨q2, h9⟩ := HQ2.out; rw [h9]; rfl)))); have HW13 := Lib.hid (show w1.heap.size ≤ w3.heap.size from Nat.le_trans (by have h8 := size_quiet HQ2.out; simp; omega) hgr.size); clear hown hgr hat hb3 hl3)
      | (go_at_call 37; refine (specL4Get_any x n cap l root B _ (h.below HB3.out hB)).mono ?_; rintro e w' ⟨rfl, rfl⟩; rw [hg])
      | (go_at_call 78; refine (specFileText_any content _ hcz).mono ?_; rintro e w' ⟨rfl, rfl⟩)
      | (go_at_call 58; refine (specPrintOf_any _ _ hfz).mono ?_; rintro e w' ⟨rfl, rfl⟩)
      | (go_at_call 77; refine (specSet_any (printB (fileB content)) (partsB path) x y n cap m d l root B w1.heap.size _ (h.below HB3.out hB) HP3.out (Nat.le_trans hB hw3) HW13.out hzs hps hm3).mono ?_; rintro e w5 ⟨x5, n5, c5, rfl, h5, hb5⟩; rw [hset]; have H5 := Lib.hid h5; have H35 := Lib.hid (Lst.more (Lst.below H3.out hb5 (Nat.le_refl _)) hb5.size); have HB5 := Lib.hid (HB3.out.trans (hb5.mono hw3)); have hw5 : w.heap.size ≤ w5.heap.size := Nat.le_trans hw3 hb5.size; clear h5 hb5))
    go_ret3
    exact rdPut_of HF.out H35.out HB5.out
  cases hput : (putB (setB (printB (fileB content)) l root (partsB path)).1 (fileB content)).2.2
  · have HF := Lib.hid (HW.out.trans (by rw [if_neg (by rw [hg]; simp), if_neg (by rw [hset]; simp), if_pos hput]))
    go_enter Try.func68, Try.ntmps68
    go_wp2_with (first
      | (go_at_call 73; refine (specPathParts_any path _ hpz).mono ?_; rintro e w1 ⟨v, rfl, ho, hb⟩; rw [hp]; obtain ⟨y, m, d, rfl, hlo⟩ := ho.lst; have HPS := Lib.hid hlo; have HS1 := Lib.hid (h.below hb hB); have HB1 := Lib.hid hb; have hw1 : w.heap.size ≤ w1.heap.size := hb.size; have hmp : 0 < m := (by have h9 := HPS.out.len; have h10 := List.length_pos_iff.2 HNE.out; omega); have hm3 : m ≤ 1000 := (by have h9 := HPS.out.len; have h10 := (parts_small (s := path)).1; omega); have hmz : ((m : Int) == 0) = false := (by simp; omega); clear ho hb hlo)
      | (go_at_call 36; refine (specStoreValid_any x n cap l B _ HS1.out hzm).mono ?_; rintro e w2 ⟨rfl, hq⟩; rw [hs]; have HQ2 := Lib.hid hq; clear hq)
      | (go_at_call 76; refine (specContentValid_any content _ hcm).mono ?_; rintro e w' ⟨rfl, rfl⟩; rw [hc])
      | (at_builtin; refine wpList_appL eltPc encPc (OwnL.newAt pcG 51 (size := 2) (base := w.heap.size) rfl (by rw [size_quiet HQ2.out]; exact hw1)) ((HS1.out.quiet HQ2.out).alloc (by rw [size_quiet HQ2.out]; exact Nat.le_trans hB hw1) _) (by decide) (by omega) (le_alloc (by rw [size_quiet HQ2.out]; exact hw1) _) rfl _ _ rfl rfl rfl ?_; intro v3 w3 hown hgr hat; have hb3 := ((below_quiet HB1.out HQ2.out).alloc (by rw [size_quiet HQ2.out]; exact hw1) (.cells #[] 51)).grown hgr (le_alloc (by rw [size_quiet HQ2.out]; exact hw1) _) (fun q e => OwnL.at (OwnL.newAt pcG 51 (size := 2) (base := w.heap.size) rfl (by rw [size_quiet HQ2.out]; exact hw1)) q e); obtain ⟨x3, n3, c3, rfl, hl3⟩ := hown.lst; have H3 := Lib.hid (show Lst pcG w3 w3.heap.size x3 n3 c3 l by simpa using hl3); have HB3 := Lib.hid hb3; have hw3 : w.heap.size ≤ w3.heap.size := hb3.size; have HP3 := Lib.hid (Lst.keep (w' := w3) (B := w1.heap.size) HPS.out (fun k hk => (hgr.block k (by have h8 := size_quiet HQ2.out; simp; omega) (by have h8 := size_quiet HQ2.out; simp [Value.ownBlock]; omega)).trans ((Below.heap_alloc _ _ _ (by have h8 := size_quiet HQ2.out; omega)).trans (by obtain ⟨q2, h9⟩ := HQ2.out; rw [h9]; rfl)))); have HW13 := Lib.hid (show w1.heap.size ≤ w3.heap.size from Nat.le_trans (by have h8 := size_quiet HQ2.out; simp; omega) hgr.size); clear hown hgr hat hb3 hl3)
      | (go_at_call 37; refine (specL4Get_any x n cap l root B _ (h.below HB3.out hB)).mono ?_; rintro e w' ⟨rfl, rfl⟩; rw [hg])
      | (go_at_call 78; refine (specFileText_any content _ hcz).mono ?_; rintro e w' ⟨rfl, rfl⟩)
      | (go_at_call 58; refine (specPrintOf_any _ _ hfz).mono ?_; rintro e w' ⟨rfl, rfl⟩)
      | (go_at_call 77; refine (specSet_any (printB (fileB content)) (partsB path) x y n cap m d l root B w1.heap.size _ (h.below HB3.out hB) HP3.out (Nat.le_trans hB hw3) HW13.out hzs hps hm3).mono ?_; rintro e w5 ⟨x5, n5, c5, rfl, h5, hb5⟩; rw [hset]; have H5 := Lib.hid h5; have H35 := Lib.hid (Lst.more (Lst.below H3.out hb5 (Nat.le_refl _)) hb5.size); have HB5 := Lib.hid (HB3.out.trans (hb5.mono hw3)); have hw5 : w.heap.size ≤ w5.heap.size := Nat.le_trans hw3 hb5.size; clear h5 hb5)
      | (go_at_call 64; refine (specPutText_any x5 n5 c5 _ (fileB content) w5.heap.size _ H5.out (Nat.le_refl _) hz5 hfz).mono ?_; rintro e w6 ⟨v6, rfl, ho6, hb6⟩; rw [hput]; obtain ⟨x6, n6, c6, rfl, hl6⟩ := ho6.lst; have H6 := Lib.hid hl6; have hn6 : n6 ≤ 2000000 := (by have h9 := hl6.len; have h10 := putB_few (setB (printB (fileB content)) l root (partsB path)).1 (fileB content); omega); have H36 := Lib.hid (Lst.more (Lst.below H35.out hb6 (Nat.le_refl _)) hb6.size); have HB6 := Lib.hid (HB5.out.trans (hb6.mono hw5)); have hw6 : w.heap.size ≤ w6.heap.size := Nat.le_trans hw5 hb6.size; clear ho6 hb6 hl6))
    go_ret3
    exact rdPut_of HF.out H36.out HB6.out
  · have HF := Lib.hid (HW.out.trans (by rw [if_neg (by rw [hg]; simp), if_neg (by rw [hset]; simp), if_neg (by rw [hput]; simp)]))
    have hpl := putB_few (setB (printB (fileB content)) l root (partsB path)).1 (fileB content)
    go_enter Try.func68, Try.ntmps68
    go_wp2_with (first
      | (go_at_call 73; refine (specPathParts_any path _ hpz).mono ?_; rintro e w1 ⟨v, rfl, ho, hb⟩; rw [hp]; obtain ⟨y, m, d, rfl, hlo⟩ := ho.lst; have HPS := Lib.hid hlo; have HS1 := Lib.hid (h.below hb hB); have HB1 := Lib.hid hb; have hw1 : w.heap.size ≤ w1.heap.size := hb.size; have hmp : 0 < m := (by have h9 := HPS.out.len; have h10 := List.length_pos_iff.2 HNE.out; omega); have hm3 : m ≤ 1000 := (by have h9 := HPS.out.len; have h10 := (parts_small (s := path)).1; omega); have hmz : ((m : Int) == 0) = false := (by simp; omega); clear ho hb hlo)
      | (go_at_call 36; refine (specStoreValid_any x n cap l B _ HS1.out hzm).mono ?_; rintro e w2 ⟨rfl, hq⟩; rw [hs]; have HQ2 := Lib.hid hq; clear hq)
      | (go_at_call 76; refine (specContentValid_any content _ hcm).mono ?_; rintro e w' ⟨rfl, rfl⟩; rw [hc])
      | (at_builtin; refine wpList_appL eltPc encPc (OwnL.newAt pcG 51 (size := 2) (base := w.heap.size) rfl (by rw [size_quiet HQ2.out]; exact hw1)) ((HS1.out.quiet HQ2.out).alloc (by rw [size_quiet HQ2.out]; exact Nat.le_trans hB hw1) _) (by decide) (by omega) (le_alloc (by rw [size_quiet HQ2.out]; exact hw1) _) rfl _ _ rfl rfl rfl ?_; intro v3 w3 hown hgr hat; have hb3 := ((below_quiet HB1.out HQ2.out).alloc (by rw [size_quiet HQ2.out]; exact hw1) (.cells #[] 51)).grown hgr (le_alloc (by rw [size_quiet HQ2.out]; exact hw1) _) (fun q e => OwnL.at (OwnL.newAt pcG 51 (size := 2) (base := w.heap.size) rfl (by rw [size_quiet HQ2.out]; exact hw1)) q e); obtain ⟨x3, n3, c3, rfl, hl3⟩ := hown.lst; have H3 := Lib.hid (show Lst pcG w3 w3.heap.size x3 n3 c3 l by simpa using hl3); have HB3 := Lib.hid hb3; have hw3 : w.heap.size ≤ w3.heap.size := hb3.size; have HP3 := Lib.hid (Lst.keep (w' := w3) (B := w1.heap.size) HPS.out (fun k hk => (hgr.block k (by have h8 := size_quiet HQ2.out; simp; omega) (by have h8 := size_quiet HQ2.out; simp [Value.ownBlock]; omega)).trans ((Below.heap_alloc _ _ _ (by have h8 := size_quiet HQ2.out; omega)).trans (by obtain ⟨q2, h9⟩ := HQ2.out; rw [h9]; rfl)))); have HW13 := Lib.hid (show w1.heap.size ≤ w3.heap.size from Nat.le_trans (by have h8 := size_quiet HQ2.out; simp; omega) hgr.size); clear hown hgr hat hb3 hl3)
      | (go_at_call 37; refine (specL4Get_any x n cap l root B _ (h.below HB3.out hB)).mono ?_; rintro e w' ⟨rfl, rfl⟩; rw [hg])
      | (go_at_call 78; refine (specFileText_any content _ hcz).mono ?_; rintro e w' ⟨rfl, rfl⟩)
      | (go_at_call 58; refine (specPrintOf_any _ _ hfz).mono ?_; rintro e w' ⟨rfl, rfl⟩)
      | (go_at_call 77; refine (specSet_any (printB (fileB content)) (partsB path) x y n cap m d l root B w1.heap.size _ (h.below HB3.out hB) HP3.out (Nat.le_trans hB hw3) HW13.out hzs hps hm3).mono ?_; rintro e w5 ⟨x5, n5, c5, rfl, h5, hb5⟩; rw [hset]; have H5 := Lib.hid h5; have H35 := Lib.hid (Lst.more (Lst.below H3.out hb5 (Nat.le_refl _)) hb5.size); have HB5 := Lib.hid (HB3.out.trans (hb5.mono hw3)); have hw5 : w.heap.size ≤ w5.heap.size := Nat.le_trans hw3 hb5.size; clear h5 hb5)
      | (go_at_call 64; refine (specPutText_any x5 n5 c5 _ (fileB content) w5.heap.size _ H5.out (Nat.le_refl _) hz5 hfz).mono ?_; rintro e w6 ⟨v6, rfl, ho6, hb6⟩; rw [hput]; obtain ⟨x6, n6, c6, rfl, hl6⟩ := ho6.lst; have H6 := Lib.hid hl6; have hn6 : n6 ≤ 2000000 := (by have h9 := hl6.len; have h10 := putB_few (setB (printB (fileB content)) l root (partsB path)).1 (fileB content); omega); have H36 := Lib.hid (Lst.more (Lst.below H35.out hb6 (Nat.le_refl _)) hb6.size); have HB6 := Lib.hid (HB5.out.trans (hb6.mono hw5)); have hw6 : w.heap.size ≤ w6.heap.size := Nat.le_trans hw5 hb6.size; clear ho6 hb6 hl6)
      | (at_builtin; refine wpList_appL eltPc encPc (OwnL.newAt pcG 51 (size := 2) (base := w.heap.size) rfl hw6) (H6.out.alloc (Nat.le_refl _) _) (by decide) hn6 (le_alloc hw6 _) rfl _ _ rfl rfl rfl ?_; intro v7 w7 hown hgr hat; have hb7 := (HB6.out.alloc hw6 (.cells #[] 51)).grown hgr (le_alloc hw6 _) (fun q e => OwnL.at (OwnL.newAt pcG 51 (size := 2) (base := w.heap.size) rfl hw6) q e); obtain ⟨x7, n7, c7, rfl, hl7⟩ := hown.lst; have H7 := Lib.hid hl7; have HB7 := Lib.hid hb7; clear hown hgr hat hb7 hl7))
    go_ret3
    exact rdPut_of HF.out (show Lst pcG w7 w7.heap.size x7 n7 c7 _ by simpa using H7.out) HB7.out
end Go.Proofs.Ytlbebbkkpjgboaa
