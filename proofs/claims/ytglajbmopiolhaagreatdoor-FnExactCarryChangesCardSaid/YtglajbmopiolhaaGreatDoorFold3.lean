/-
  Contracts of chapter 6's program: an entry is dropped; the text of a folder.
-/
import Derived.Test.YtglajbmopiolhaaGreatDoorFold2
import Derived.Test.YtglajbmopiolhaaGreatDoorFoldMath
namespace Go.Proofs.YtglajbmopiolhaaGreatDoor
open Go.RowKit
set_option linter.unusedVariables false
theorem nthE_succ (q : Ent) (l : List Ent) (k : Nat) : nthE (q :: l) (k + 1) = nthE l k := by unfold nthE; simp
theorem nthE_zero (q : Ent) (l : List Ent) : nthE (q :: l) 0 = q := rfl
theorem atE_before {p : ByteArray} : ∀ {l : List Ent} {j : Nat}, j < atE p l → ltN (nthE l j).1 p = true
  | [], j, h => by rw [atE] at h; omega
  | q :: l, j, h => by
    rw [atE] at h
    split at h
    · rename_i h1
      cases j with
      | zero => exact h1
      | succ j => rw [nthE_succ]; exact atE_before (by omega)
    · omega
theorem atE_there {p : ByteArray} : ∀ {l : List Ent}, atE p l < l.length → ltN (nthE l (atE p l)).1 p = false
  | [], h => by simp at h
  | q :: l, h => by
    rw [atE] at h ⊢
    split
    · rename_i h1
      rw [if_pos h1, List.length_cons] at h
      rw [nthE_succ]; exact atE_there (by omega)
    · rename_i h1; rw [nthE_zero]; simpa using h1
theorem lt_ne {a b : ByteArray} (h : ltN a b = true) : a ≠ b := fun e => by rw [e, ltN_irrefl] at h; cases h
theorem otherE_of {nm : ByteArray} {q : Ent} (h : q.1 ≠ nm) : otherE nm q = true := by unfold otherE; rw [str_beq, decide_eq_false h]; rfl
theorem lessE_found {l : List Ent} {nm : ByteArray} {k : Nat} (hs : AscE l) (hk : k < l.length) (hn : (nthE l k).1 = nm) : lessE l nm = l.take k ++ l.drop (k + 1) := by
  have e : l = l.take k ++ nthE l k :: l.drop (k + 1) := by rw [nthE_get hk, ← List.drop_eq_getElem_cons hk, List.take_append_drop]
  unfold lessE
  conv => lhs; rw [e]
  rw [List.filter_append, List.filter_cons, if_neg (by unfold otherE; rw [hn]; simp), List.filter_eq_self.2, List.filter_eq_self.2]
  · intro q hq
    obtain ⟨j, hj, rfl⟩ := List.mem_iff_getElem.1 hq
    rw [List.length_drop] at hj
    rw [List.getElem_drop, ← nthE_get (by omega)]
    exact otherE_of (fun h => lt_ne (hs k (k + 1 + j) (by omega) (by omega)) (by rw [hn, h]))
  · intro q hq
    obtain ⟨j, hj, rfl⟩ := List.mem_iff_getElem.1 hq
    rw [List.length_take] at hj
    rw [List.getElem_take, ← nthE_get (by omega)]
    exact otherE_of (fun h => lt_ne (hs j k (by omega) hk) (by rw [hn, h]))
theorem lessE_none {l : List Ent} {nm : ByteArray} (hs : AscE l) (h : hereE nm l = false) : lessE l nm = l := by
  refine List.filter_eq_self.2 fun q hq => ?_
  obtain ⟨j, hj, rfl⟩ := List.mem_iff_getElem.1 hq
  rw [← nthE_get hj]
  refine otherE_of fun e => ?_
  rcases Nat.lt_or_ge j (atE nm l) with h1 | h1
  · exact lt_ne (atE_before h1) e
  · have hk : atE nm l < l.length := by omega
    have h2 := atE_there hk
    unfold hereE at h
    rw [decide_eq_true hk, Bool.true_and, decide_eq_false_iff_not] at h
    have h3 : ltN nm (nthE l (atE nm l)).1 = true := by
      cases h4 : ltN nm (nthE l (atE nm l)).1
      · exact absurd (ltN_conn h2 h4) h
      · rfl
    rcases Nat.lt_or_eq_of_le h1 with h5 | h5
    · exact lt_ne (ltN_trans h3 (hs _ _ h5 hj)) e.symm
    · rw [← h5] at e; exact h e
theorem dropE_found {l : List Ent} {nm : ByteArray} {k : Nat} (h : entsB l = true) (hk : k < l.length) (hn : (nthE l k).1 = nm) : dropE l nm = (l.take k ++ l.drop (k + 1), true) := by
  rw [dropE_ok h, lessE_found (ents_asc h) hk hn]
  congr 1
  rw [decide_eq_true_eq, List.length_append, List.length_take, List.length_drop]; omega
theorem dropE_none {l : List Ent} {nm : ByteArray} (h : entsB l = true) (hh : hereE nm l = false) : dropE l nm = (l, false) := by
  rw [dropE_ok h, lessE_none (ents_asc h) hh]
  congr 1
  rw [decide_eq_false_iff_not]; omega
set_option maxHeartbeats 2000000 in
theorem implDropEntry_any (x : Option Addr) (n cap : Nat) (l : List Ent) (nm : ByteArray) (B : Nat) (w : World) (h : Ents w B x n cap l) (hB : B ≤ w.heap.size) (hz : ∀ k, (nthE l k).1.size ≤ maxLen) :
    Calls Tryz.prog 100 #[.slice x n cap, .string nm] w (NewEB (dropE l nm).1 (dropE l nm).2 w) := by
  have HLL := Lib.hid h.len
  have HH := Lib.hid h
  clear h
  cases hs : entsB l
  · have HF := Lib.hid (dropE_bad (nm := nm) hs)
    go_enter Tryz.func100, Tryz.ntmps100
    go_wp2_with fail
    refine (implEntriesValid_any _ _ _ _ _ _ HH.out hB hz).mono ?_
    rintro e w2 ⟨rfl, hb⟩
    have HB2 := Lib.hid hb
    rw [hs]
    clear hb
    go_wp2_with fail
    go_ret2
    exact newEB_put HF.out (OwnL.nil _ _ _ _ _) HB2.out
  have hn3 : n ≤ 3 := by have := (entsB_at hs).1; have := HLL.out; omega
  have HS8 := Lib.hid (show ∀ k, (nthE l k).1.size ≤ 2000000 from fun k => by
    by_cases hk : k < l.length
    · have := word_size (okE_word ((entsB_at hs).2 k hk)).1; omega
    · unfold nthE; rw [List.getD_eq_getElem?_getD, List.getElem?_eq_none (by omega)]; simp)
  have HAS := Lib.hid (ents_asc hs)
  cases hh : hereE nm l
  · have HF := Lib.hid (dropE_none hs hh)
    go_enter Tryz.func100, Tryz.ntmps100
    go_wp2_with fail
    refine (implEntriesValid_any _ _ _ _ _ _ HH.out hB hz).mono ?_
    rintro e w1 ⟨rfl, hb1⟩
    have HB1 := Lib.hid hb1
    have HH1 := Lib.hid (HH.out.below hb1 hB)
    have hs1 := hb1.size
    rw [hs]
    clear hb1
    go_wp2_with fail
    refine (copyEntries_any x n cap l B _ HH1.out (by omega) HS8.out (by omega)).mono ?_
    rintro e w2 ⟨v2, rfl, ho2, hb2⟩
    have ho2' := ho2.mono hs1
    obtain ⟨x2, n2, c2, rfl, hl2, hlst2⟩ := own_lstAt ho2'
    have HB2 := Lib.hid (HB1.out.trans (hb2.mono hs1))
    have hs2 := HB2.out.size
    have HL2 := Lib.hid hlst2
    have HO2 := Lib.hid ho2'
    clear hb2 ho2 ho2' hlst2
    go_wp2_with fail
    refine (placeOfName_any x2 n2 c2 l nm _ _ HL2.out (Nat.le_refl _) HAS.out (by have := HLL.out; omega)).mono ?_
    rintro e w3 ⟨rfl, hb3⟩
    have HB3 := Lib.hid (HB2.out.trans (hb3.mono hs2))
    have HO3 := Lib.hid (HO2.out.below hb3)
    rw [hh]
    clear hb3
    go_wp2_with fail
    go_ret2
    exact newEB_put HF.out HO3.out HB3.out
  · have hk0 : atE nm l < l.length ∧ (nthE l (atE nm l)).1 = nm := by
      unfold hereE at hh
      rwa [Bool.and_eq_true, decide_eq_true_eq, decide_eq_true_eq] at hh
    have HF := Lib.hid (dropE_found hs hk0.1 hk0.2)
    generalize hk : atE nm l = k at *
    obtain ⟨hkl, hkn⟩ := hk0
    clear hkn
    have hw1 : IntKind.i64.wrap ((k : Int) + 1) = (k : Int) + 1 := by rw [IntKind.wrap_i64]; have := HLL.out; omega
    go_enter Tryz.func100, Tryz.ntmps100
    go_wp2_with fail
    refine (implEntriesValid_any _ _ _ _ _ _ HH.out hB hz).mono ?_
    rintro e w1 ⟨rfl, hb1⟩
    have HB1 := Lib.hid hb1
    have HH1 := Lib.hid (HH.out.below hb1 hB)
    have hs1 := hb1.size
    rw [hs]
    clear hb1
    go_wp2_with fail
    refine (copyEntries_any x n cap l B _ HH1.out (by omega) HS8.out (by omega)).mono ?_
    rintro e w2 ⟨v2, rfl, ho2, hb2⟩
    have ho2' := ho2.mono hs1
    obtain ⟨x2, n2, c2, rfl, hl2, hlst2⟩ := own_lstAt ho2'
    have HB2 := Lib.hid (HB1.out.trans (hb2.mono hs1))
    have hs2 := HB2.out.size
    have HL2 := Lib.hid hlst2
    have HO2 := Lib.hid ho2'
    clear hb2 ho2 ho2' hlst2
    go_wp2_with fail
    refine (placeOfName_any x2 n2 c2 l nm _ _ HL2.out (Nat.le_refl _) HAS.out (by have := HLL.out; omega)).mono ?_
    rintro e w3 ⟨rfl, hb3⟩
    have HB3 := Lib.hid (HB2.out.trans (hb3.mono hs2))
    have HO3 := Lib.hid (HO2.out.below hb3)
    have hs3 := HB3.out.size
    rw [hh, hk]
    clear hb3
    go_wp2_with fail
    refine (deleteE_any x2 n2 c2 k w.heap.size l _ HO3.out hl2 (by omega) (by have := HLL.out; omega) hs3).mono ?_
    rintro e w4 ⟨v4, rfl, ho4, hb4⟩
    have HO4 := Lib.hid ho4
    have HB4 := Lib.hid (HB3.out.trans hb4)
    clear ho4 hb4
    go_wp2_with fail
    go_ret2
    exact newEB_put HF.out HO4.out HB4.out
theorem below_quietN {base : Nat} {w w1 w2 : World} (h : Below base w w1) (h2 : ∃ q, w2 = w1.drewN q) : Below base w w2 := by obtain ⟨q, rfl⟩ := h2; exact below_drewN h q
set_option maxHeartbeats 1000000 in
theorem implFolderText_any (x : Option Addr) (n cap : Nat) (l : List Ent) (B : Nat) (w : World) (h : Ents w B x n cap l) (hB : B ≤ w.heap.size) (hz : ∀ k, (nthE l k).1.size ≤ maxLen) : Calls Tryz.prog 102 #[.slice x n cap] w fun e w' => e = .returned (.string (folderB l)) ∧ Below w.heap.size w w' := by
  have HL := Lib.hid h.len
  have HH := Lib.hid h
  have hmx := h.max
  have hle := h.le
  unfold maxLen at hmx
  clear h
  cases hv : entsB l
  · have HF := Lib.hid (folderB_no hv)
    go_enter Tryz.func102, Tryz.ntmps102
    go_wp2_with fail
    refine (implEntriesValid_any _ _ _ _ _ _ HH.out hB hz).mono ?_
    rintro e w1 ⟨rfl, hb⟩
    have HB1 := Lib.hid hb
    rw [hv]
    clear hb
    go_wp2_with fail
    go_ret
    exact ⟨ret_str HF.out.symm, HB1.out⟩
  · have HF := Lib.hid (folderB_yes hv)
    have HA := Lib.hid (entsB_at hv)
    have hn3 : n ≤ 3 := by have := HA.out.1; have := HL.out; omega
    go_enter Tryz.func102, Tryz.ntmps102
    go_wp2_with fail
    refine (implEntriesValid_any _ _ _ _ _ _ HH.out hB hz).mono ?_
    rintro e w1 ⟨rfl, hb⟩
    have HB1 := Lib.hid hb
    rw [hv]
    clear hb
    go_wp2_with fail
    clear hz
    go_loopw [3, 5, 11] (fun t _ i wr => ∃ k : Nat, k ≤ n ∧ i = .int .i64 k ∧ t = .string (textE (l.take k)) ∧ (textE (l.take k)).size ≤ 1 + 16 * k ∧ Below w.heap.size w wr) (fun _ _ i _ => n - (intOf i).toNat)
    case atStart => exact ⟨0, by omega, rfl, rfl, by rw [List.take_zero]; decide, HB1.out⟩
    case round =>
      obtain ⟨k, hk, rfl, rfl, hs, hb⟩ := hrel
      have HB := Lib.hid hb; clear hb
      have hsz := HB.out.size
      by_cases hlt : k < n
      · have hkl : k < l.length := by have := HL.out; omega
        obtain ⟨b0, off, rfl, hb0, hc0, hc1⟩ := (HH.out.below HB.out hB).atE hlt
        obtain ⟨hw1, hw2⟩ := okE_word (HA.out.2 k hkl)
        have hw8 := word_size hw1
        have hx6 := hexB_size (nthE l k).2
        have HT := Lib.hid (textE_snoc hkl)
        obtain ⟨T, hT⟩ : ∃ T, T = textE (l.take k) := ⟨_, rfl⟩
        obtain ⟨q, hq⟩ : ∃ q, q = nthE l k := ⟨_, rfl⟩
        rw [← hT, ← hq] at HT
        rw [← hT] at hs ⊢
        rw [← hq] at hc0 hc1 hw8 hx6
        have b1 : (q.1 ++ ⟨#[61]⟩).size ≤ 9 := by rw [ByteArray.size_append]; show _ + 1 ≤ _; omega
        have b2 : (q.1 ++ ⟨#[61]⟩ ++ hexB q.2).size ≤ 15 := by rw [ByteArray.size_append]; omega
        have b3 : (q.1 ++ ⟨#[61]⟩ ++ hexB q.2 ++ ⟨#[59]⟩).size ≤ 16 := by rw [ByteArray.size_append]; show _ + 1 ≤ _; omega
        have b4 : (T ++ (q.1 ++ ⟨#[61]⟩ ++ hexB q.2 ++ ⟨#[59]⟩)).size ≤ 1 + 16 * (k + 1) := by rw [ByteArray.size_append]; omega
        have HE := Lib.hid (show T ++ (q.1 ++ ⟨#[61]⟩ ++ hexB q.2 ++ ⟨#[59]⟩) = textE (l.take (k + 1)) by rw [HT.out]; unfold addE; simp only [ByteArray.append_assoc])
        have HS := Lib.hid (show (textE (l.take (k + 1))).size ≤ 1 + 16 * (k + 1) by rw [← HE.out]; exact b4)
        obtain ⟨W, hW⟩ : ∃ W, wr.alloc (.cells #[.string q.1, .int .i64 q.2] 108) = W := ⟨_, rfl⟩
        have HV := Lib.hid hW
        have hBW := HB.out.alloc hsz (.cells #[.string q.1, .int .i64 q.2] 108)
        have hnew := heap_alloc_new wr (.cells #[.string q.1, .int .i64 q.2] 108)
        rw [hW] at hBW hnew
        obtain ⟨p0, p1, p2, p3⟩ := two_at hnew
        have HBW := Lib.hid hBW
        clear hT hq hw1 hw2 hW hnew hBW p2 p3
        go_wp2
        rw [HV.out]
        go_quiet (first | (go_at_call 128; refine Calls.quiet_of_same ((hexText_any _ _).mono fun _ _ h => ⟨h.1, h.2.symm⟩)))
        go_wp2
        go_roundw
        case rel => exact ⟨k + 1, by omega, by go_num, by rw [HE.out], HS.out, below_drewN HBW.out _⟩
        case measure => simp [intOf]; omega
      · have e : l.take k = l := List.take_of_length_le (by have := HL.out; omega)
        have HE := Lib.hid e
        clear e
        go_wp2
        go_ret
        exact ⟨ret_str (by rw [HF.out, HE.out]), HB.out⟩
end Go.Proofs.YtglajbmopiolhaaGreatDoor
