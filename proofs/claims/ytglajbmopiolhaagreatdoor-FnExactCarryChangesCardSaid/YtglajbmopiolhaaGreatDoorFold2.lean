/-
  Contracts of chapter 6's program: valid entries; putting and dropping one; the text of a folder.
-/
import Derived.Test.YtglajbmopiolhaaGreatDoorFold
namespace Go.Proofs.YtglajbmopiolhaaGreatDoor
open Go.RowKit
set_option linter.unusedVariables false
theorem implEntriesValid_any (x : Option Addr) (n cap : Nat) (l : List Ent) (B : Nat) (w : World) (h : Ents w B x n cap l) (hB : B ≤ w.heap.size) (hz : ∀ k, (nthE l k).1.size ≤ maxLen) : Calls Tryz.prog 122 #[.slice x n cap] w (BelowB (entsB l) w) := by
  have HL := Lib.hid h.len
  have HH := Lib.hid h
  have HZ := Lib.hid hz
  have hmx := h.max
  have hle := h.le
  clear h hz
  unfold maxLen at hmx
  by_cases hbig : 3 < n
  · have HF := Lib.hid (show entsB l = false by unfold entsB; rw [decide_eq_false (by have := HL.out; omega)]; rfl)
    go_enter Tryz.func122, Tryz.ntmps122
    go_wp2
    go_ret
    exact ⟨ret_bool HF.out.symm, Below.refl _ _⟩
  go_enter Tryz.func122, Tryz.ntmps122
  go_wp2
  go_loopw [3, 4, 10] (fun _ _ i wr => ∃ k : Nat, k ≤ n ∧ i = .int .i64 k ∧ (∀ j, j < k → okE l j = true) ∧ Below w.heap.size w wr) (fun _ _ i _ => n - (intOf i).toNat)
  case atStart => exact ⟨0, by omega, rfl, fun j hj => by omega, Below.refl _ _⟩
  case round =>
    obtain ⟨k, hk, rfl, ha, hb⟩ := hrel
    have HA := Lib.hid ha; have HB := Lib.hid hb; clear ha hb
    have hsz := HB.out.size
    by_cases hlt : k < n
    · have hkl : k < l.length := by have := HL.out; omega
      obtain ⟨b0, off, rfl, hb0, hc0, hc1⟩ := (HH.out.below HB.out hB).atE hlt
      have hzk := HZ.out k
      obtain ⟨W, hW⟩ : ∃ W, wr.alloc (.cells #[.string (nthE l k).1, .int .i64 (nthE l k).2] 108) = W := ⟨_, rfl⟩
      have HV := Lib.hid hW
      have hBW := HB.out.alloc hsz (.cells #[.string (nthE l k).1, .int .i64 (nthE l k).2] 108)
      have hnew := heap_alloc_new wr (.cells #[.string (nthE l k).1, .int .i64 (nthE l k).2] 108)
      rw [hW] at hBW hnew
      obtain ⟨p0, p1, p2, p3⟩ := two_at hnew
      have HBW := Lib.hid hBW
      have HHW := Lib.hid (HH.out.below hBW hB)
      clear hW hnew hBW p2 p3
      cases ht : wordB (nthE l k).1
      · have HF := Lib.hid (entsB_bad hkl (okE_no1 ht))
        go_wp2_with (first | (go_at_call 43; refine (wordValid_any _ _ hzk).mono ?_; rintro e w2 ⟨rfl, rfl⟩; rw [ht]) | (go_at_call 137; refine (isPrint_any _ _).mono ?_; rintro e w2 ⟨rfl, rfl⟩))
        first | rw [HV.out] | skip
        go_ret
        exact ⟨ret_bool HF.out.symm, HBW.out⟩
      · cases hp : isPr (nthE l k).2
        · have HF := Lib.hid (entsB_bad hkl (okE_no2 hp))
          go_wp2_with (first | (go_at_call 43; refine (wordValid_any _ _ hzk).mono ?_; rintro e w2 ⟨rfl, rfl⟩; rw [ht]) | (go_at_call 137; refine (isPrint_any _ _).mono ?_; rintro e w2 ⟨rfl, rfl⟩; rw [hp]))
          first | rw [HV.out] | skip
          go_ret
          exact ⟨ret_bool HF.out.symm, HBW.out⟩
        · by_cases h0 : k = 0
          · have HR := Lib.hid (okE_yes ht hp (.inl h0))
            have hd0 : (decide (0 < k)) = false := by simp; omega
            clear h0
            go_wp2_with (first | (go_at_call 43; refine (wordValid_any _ _ hzk).mono ?_; rintro e w2 ⟨rfl, rfl⟩; rw [ht]) | (go_at_call 137; refine (isPrint_any _ _).mono ?_; rintro e w2 ⟨rfl, rfl⟩; rw [hp]))
            rw [HV.out]
            go_quiet (fail)
            go_wp2
            go_roundw
            case rel => exact ⟨k + 1, by omega, by go_num, fun j hj => by rcases Nat.lt_succ_iff_lt_or_eq.1 hj with h | rfl; exact HA.out j h; exact HR.out, below_drewN HBW.out _⟩
            case measure => simp [intOf]; omega
          · have hd0 : (decide (0 < k)) = true := by simp; omega
            have hcp := Lst.atPrevE HHW.out hlt (by omega)
            have hk1 : 1 ≤ k := by omega
            cases h3 : leB (nthE l k).1 (nthE l (k - 1)).1
            · have HR := Lib.hid (okE_yes ht hp (.inr h3))
              unfold leB at h3
              rw [Bool.or_eq_false_iff] at h3
              obtain ⟨hx1, hx2⟩ := h3
              clear h0
              go_wp2_with (first | (go_at_call 43; refine (wordValid_any _ _ hzk).mono ?_; rintro e w2 ⟨rfl, rfl⟩; rw [ht]) | (go_at_call 137; refine (isPrint_any _ _).mono ?_; rintro e w2 ⟨rfl, rfl⟩; rw [hp]))
              rw [HV.out]
              go_quiet (fail)
              go_wp2
              go_roundw
              case rel => exact ⟨k + 1, by omega, by go_num, fun j hj => by rcases Nat.lt_succ_iff_lt_or_eq.1 hj with h | rfl; exact HA.out j h; exact HR.out, below_drewN HBW.out _⟩
              case measure => simp [intOf]; omega
            · have HF := Lib.hid (entsB_bad hkl (okE_no3 h0 h3))
              unfold leB at h3
              clear h0
              go_wp2_with (first | (go_at_call 43; refine (wordValid_any _ _ hzk).mono ?_; rintro e w2 ⟨rfl, rfl⟩; rw [ht]) | (go_at_call 137; refine (isPrint_any _ _).mono ?_; rintro e w2 ⟨rfl, rfl⟩; rw [hp]))
              rw [HV.out]
              go_quiet (fail)
              go_wp2
              go_ret
              exact ⟨ret_bool HF.out.symm, below_drewN HBW.out _⟩
    · have HF := Lib.hid (entsB_end (l := l) (fun j hj => HA.out j (by have := HL.out; omega)))
      go_wp2
      go_ret
      exact ⟨ret_bool (by rw [HF.out, HL.out]; simp; omega), HB.out⟩
/-! ### putting -/
theorem set_at {A R : List Value} {k : Nat} (a b c : Value) (hA : A.length = k * 2) : (A ++ a :: b :: R).set (k * 2 + 1) c = A ++ a :: c :: R := by
  rw [List.set_append, if_neg (by omega), show k * 2 + 1 - A.length = 1 by omega]; rfl
theorem setPrint_cells {l : List Ent} {k : Nat} {p : Ent} (hk : k < l.length) (hn : (nthE l k).1 = p.1) : (l.flatMap enG).set (k * 2 + 1) (.int .i64 p.2) = (l.take k ++ p :: l.drop (k + 1)).flatMap enG := by
  have e : l = l.take k ++ nthE l k :: l.drop (k + 1) := by rw [nthE_get hk, ← List.drop_eq_getElem_cons hk, List.take_append_drop]
  have hA : ((l.take k).flatMap enG).length = k * 2 := by rw [encEn.length, List.length_take]; omega
  have e2 : l.flatMap enG = (l.take k).flatMap enG ++ (.string (nthE l k).1) :: (.int .i64 (nthE l k).2) :: (l.drop (k + 1)).flatMap enG := by
    conv => lhs; rw [e]
    rw [List.flatMap_append, List.flatMap_cons]; rfl
  rw [e2, set_at _ _ _ hA, hn, List.flatMap_append, List.flatMap_cons]; rfl
theorem own_setPrint {w : World} {base g n cap k : Nat} {l : List Ent} {p : Ent} (h : OwnE w base (.slice (some ⟨g, 0, none⟩) n cap) l) (hl : l.length = n) (hk : k < n) (hn : (nthE l k).1 = p.1) :
    w.cell? ⟨g, k * 2 + 1, none⟩ = some (.int .i64 (nthE l k).2) ∧ w.frozen? ⟨g, k * 2 + 1, none⟩ = false ∧ OwnE (w.setCell ⟨g, k * 2 + 1, none⟩ (.int .i64 p.2)) base (.slice (some ⟨g, 0, none⟩) n cap) (l.take k ++ p :: l.drop (k + 1)) ∧ w.grownBy (w.setCell ⟨g, k * 2 + 1, none⟩ (.int .i64 p.2)) (some g) := by
  have h' : w.ownsRow base 108 2 (.slice (some ⟨g, 0, none⟩) n cap) n (l.flatMap enG) := by have := h; unfold OwnE OwnL at this; rwa [hl] at this
  have hs := h'.stored (k * 2 + 1) (.int .i64 p.2)
  have hc := h'.cellAt (k * 2 + 1) (by omega)
  have hg : (l.flatMap enG)[k * 2 + 1]? = some (.int .i64 (nthE l k).2) := by
    rw [encEn.get _ _ _ (ByteArray.empty, 0) (by omega) (by omega)]; rfl
  refine ⟨hc.trans hg, h'.frozenAt _, ?_, hs.2⟩
  have h1 := hs.1
  rw [setPrint_cells (by omega) hn] at h1
  show World.ownsRow _ _ _ _ _ _ _
  rw [show (l.take k ++ p :: l.drop (k + 1)).length = n by simp; omega]
  exact h1
theorem own_lstAt {w : World} {base : Nat} {v : Value} {l : List Ent} (h : OwnE w base v l) : ∃ x n c, v = .slice x n c ∧ l.length = n ∧ Ents w w.heap.size x n c l := by
  obtain ⟨x, n, c, rfl, hl⟩ := h.lst
  exact ⟨x, n, c, rfl, hl.len, hl⟩
theorem newEB_put {L : List Ent} {b : Bool} {pr : List Ent × Bool} {w w' : World} {v : Value} (h : pr = (L, b)) (ho : OwnE w' w.heap.size v L) (hb : Below w.heap.size w w') : NewEB pr.1 pr.2 w (.returned (.tuple #[v, .bool b])) w' := by
  rw [h]; exact ⟨v, rfl, ho, hb⟩
set_option maxHeartbeats 2000000 in
theorem implPutEntry_any (x : Option Addr) (n cap : Nat) (l : List Ent) (p : Ent) (B : Nat) (w : World) (h : Ents w B x n cap l) (hB : B ≤ w.heap.size) (hz : ∀ k, (nthE l k).1.size ≤ maxLen) (hp : p.1.size ≤ 2000000) :
    Calls Tryz.prog 127 #[.slice x n cap, .agg #[.string p.1, .int .i64 p.2]] w (NewEB (putE l p).1 (putE l p).2 w) := by
  obtain ⟨W, hW⟩ : ∃ W, w.alloc (.cells #[.string p.1, .int .i64 p.2] 108) = W := ⟨_, rfl⟩
  have HV := Lib.hid hW
  have hH := h.alloc hB (.cells #[.string p.1, .int .i64 p.2] 108)
  have hnew := heap_alloc_new w (.cells #[.string p.1, .int .i64 p.2] 108)
  have hB0 := (Below.refl w.heap.size w).alloc (Nat.le_refl _) (.cells #[.string p.1, .int .i64 p.2] 108)
  have hWs : W.heap.size = w.heap.size + 1 := by rw [← hW]; simp
  rw [hW] at hH hnew hB0
  have HN := Lib.hid hnew
  have HLL := Lib.hid h.len
  have hBW : B ≤ W.heap.size := by omega
  have HH := Lib.hid hH
  have HB0 := Lib.hid hB0
  have HK := Lib.hid (show ∀ w2, Below W.heap.size W w2 → Ents w2 B x n cap l ∧ w2.cell? ⟨w.heap.size, 0, none⟩ = some (.string p.1) ∧ w2.cell? ⟨w.heap.size, 1, none⟩ = some (.int .i64 p.2) ∧ Below w.heap.size w w2 from fun w2 hb => by
    have h1 : w2.heap[w.heap.size]? = _ := (hb.block _ (by omega)).trans HN.out
    exact ⟨HH.out.below hb hBW, (two_at h1).1, (two_at h1).2.1, HB0.out.trans (hb.mono (by omega))⟩)
  clear hnew hH hB0 h
  cases hs : entsB l
  · have HF := Lib.hid (putE_bad (e := p) hs)
    go_enter Tryz.func127, Tryz.ntmps127
    go_wp2_with fail
    refine (implEntriesValid_any _ _ _ _ _ _ HH.out hBW hz).mono ?_
    rintro e w2 ⟨rfl, hb⟩
    have HB2 := Lib.hid (HK.out _ hb).2.2.2
    rw [hs]
    clear hb
    go_wp2_with fail
    go_ret2
    exact newEB_put HF.out (OwnL.nil _ _ _ _ _) HB2.out
  have hn3 : n ≤ 3 := by have := (entsB_at hs).1; have := HLL.out; omega
  have HS8 := Lib.hid (show ∀ k, (nthE l k).1.size ≤ 2000000 from fun k => by
    by_cases hk : k < l.length
    · have := word_size (okE_word ((entsB_at hs).2 k hk)).1; omega
    · unfold nthE; rw [List.getD_eq_getElem?_getD, List.getElem?_eq_none (by omega)]; simp)
  have HAS := Lib.hid (ents_asc hs)
  obtain ⟨L, hL⟩ : ∃ L, L = putInE l p := ⟨_, rfl⟩
  have hzL := put_sizes hL hz (show p.1.size ≤ maxLen by unfold maxLen; omega)
  have HLD := Lib.hid hL
  cases hh : hereE p.1 l
  · -- the name is new
    have HI := Lib.hid (show L = l.take (atE p.1 l) ++ p :: l.drop (atE p.1 l) from hL.trans (putInE_other rfl (by
      unfold hereE at hh
      rw [Bool.and_eq_false_iff, decide_eq_false_iff_not, decide_eq_false_iff_not] at hh
      exact hh)))
    have hat := atE_le p.1 l
    generalize hk : atE p.1 l = k at *
    have hkn : k ≤ n := by have := HLL.out; omega
    clear hL
    go_enter Tryz.func127, Tryz.ntmps127
    go_wp2_with fail
    refine (implEntriesValid_any _ _ _ _ _ _ HH.out hBW hz).mono ?_
    rintro e w1 ⟨rfl, hb1⟩
    have HB1 := Lib.hid hb1
    have HH1 := Lib.hid (HK.out _ hb1).1
    have hs1 := hb1.size
    rw [hs]
    clear hb1
    go_wp2_with fail
    refine (copyEntries_any x n cap l B _ HH1.out (by omega) HS8.out (by omega)).mono ?_
    rintro e w2 ⟨v2, rfl, ho2, hb2⟩
    have ho2' := ho2.mono hs1
    obtain ⟨x2, n2, c2, rfl, hl2, hlst2⟩ := own_lstAt ho2'
    have HB2 := Lib.hid (HB1.out.trans (hb2.mono hs1))
    have hs2 := HB2.out.size
    have HL2 := Lib.hid hlst2
    have HO2 := Lib.hid ho2'
    have hc0 := (HK.out _ HB2.out).2.1
    clear hb2 ho2 ho2' hlst2
    go_wp2_with fail
    refine (placeOfName_any x2 n2 c2 l p.1 _ _ HL2.out (Nat.le_refl _) HAS.out (by have := HLL.out; omega)).mono ?_
    rintro e w3 ⟨rfl, hb3⟩
    have HB3 := Lib.hid (HB2.out.trans (hb3.mono hs2))
    have HO3 := Lib.hid (HO2.out.below hb3)
    have hs3 := HB3.out.size
    have hd0 := (HK.out _ HB3.out).2.1
    have hd1 := (HK.out _ HB3.out).2.2.1
    rw [hh, hk]
    clear hb3 hc0
    go_wp2_with fail
    refine (copyEntry_any p _ hp).mono ?_
    rintro e w4 ⟨rfl, hb4⟩
    have HB4 := Lib.hid (HB3.out.trans (hb4.mono hs3))
    have HO4 := Lib.hid (HO3.out.below hb4)
    have hs4 := HB4.out.size
    clear hb4 hd0 hd1
    go_wp2_with fail
    refine (insertE_any x2 n2 c2 k w4.heap.size W.heap.size l p _ (HO4.out.alloc _) hl2 (OneAt.new enG 108 rfl _ _ rfl) (fun e => by have := (World.ownsRow.lt HO4.out _ e).2; omega) (by have := HLL.out; omega) (by have := HLL.out; omega) (by simp; omega)).mono ?_
    rintro e w5 ⟨v5, rfl, ho5, hb5⟩
    rw [← HI.out] at ho5
    obtain ⟨x5, n5, c5, rfl, hl5, hlst5⟩ := own_lstAt ho5
    have HB5 := Lib.hid ((HB4.out.alloc hs4 _).trans hb5)
    have hs5 := HB5.out.size
    have HO5 := Lib.hid ho5
    have HL5 := Lib.hid hlst5
    clear ho5 hb5 hlst5
    cases hq : entsB L
    · have HF := Lib.hid (putE_no hs (by rw [← HLD.out]; exact hq))
      go_wp2_with fail
      refine (implEntriesValid_any x5 n5 c5 L _ _ HL5.out (Nat.le_refl _) hzL).mono ?_
      rintro e w6 ⟨rfl, hb6⟩
      have HB6 := Lib.hid (HB5.out.trans (hb6.mono hs5))
      have hs6 := HB6.out.size
      have HH6 := Lib.hid (HK.out _ HB6.out).1
      rw [hq]
      clear hb6
      go_wp2_with fail
      refine (copyEntries_any x n cap l B _ HH6.out (by omega) HS8.out (by omega)).mono ?_
      rintro e w7 ⟨v7, rfl, ho7, hb7⟩
      have HO7 := Lib.hid (ho7.mono (show w.heap.size ≤ _ by omega))
      have HB7 := Lib.hid (HB6.out.trans (hb7.mono hs6))
      clear ho7 hb7
      go_wp2_with fail
      go_ret2
      exact newEB_put HF.out HO7.out (HK.out _ HB7.out).2.2.2
    · have HF := Lib.hid ((putE_yes hs (by rw [← HLD.out]; exact hq)).trans (show (putInE l p, true) = (L, true) by rw [← HLD.out]))
      go_wp2_with fail
      refine (implEntriesValid_any x5 n5 c5 L _ _ HL5.out (Nat.le_refl _) hzL).mono ?_
      rintro e w6 ⟨rfl, hb6⟩
      have HB6 := Lib.hid (HB5.out.trans (hb6.mono hs5))
      have HO6 := Lib.hid ((HO5.out.below hb6).mono (show w.heap.size ≤ _ by omega))
      rw [hq]
      clear hb6
      go_wp2_with fail
      go_ret2
      exact newEB_put HF.out HO6.out (HK.out _ HB6.out).2.2.2
  · -- the name has a print
    have hk0 : atE p.1 l < l.length ∧ (nthE l (atE p.1 l)).1 = p.1 := by
      unfold hereE at hh
      rwa [Bool.and_eq_true, decide_eq_true_eq, decide_eq_true_eq] at hh
    have HI := Lib.hid (show L = l.take (atE p.1 l) ++ p :: l.drop (atE p.1 l + 1) from hL.trans (putInE_at rfl hk0.1 hk0.2))
    generalize hk : atE p.1 l = k at *
    obtain ⟨hkl, hkn⟩ := hk0
    have HKN := Lib.hid hkn
    clear hL hkn
    go_enter Tryz.func127, Tryz.ntmps127
    go_wp2_with fail
    refine (implEntriesValid_any _ _ _ _ _ _ HH.out hBW hz).mono ?_
    rintro e w1 ⟨rfl, hb1⟩
    have HB1 := Lib.hid hb1
    have HH1 := Lib.hid (HK.out _ hb1).1
    have hs1 := hb1.size
    rw [hs]
    clear hb1
    go_wp2_with fail
    refine (copyEntries_any x n cap l B _ HH1.out (by omega) HS8.out (by omega)).mono ?_
    rintro e w2 ⟨v2, rfl, ho2, hb2⟩
    have ho2' := ho2.mono hs1
    obtain ⟨x2, n2, c2, rfl, hl2, hlst2⟩ := own_lstAt ho2'
    obtain ⟨g, cur, rfl, hg, _, _, hc2, hcm, _, _⟩ := own_partsE ho2' (by omega)
    unfold maxLen at hcm
    have HB2 := Lib.hid (HB1.out.trans (hb2.mono hs1))
    have hs2 := HB2.out.size
    have HL2 := Lib.hid hlst2
    have HO2 := Lib.hid ho2'
    have hc0 := (HK.out _ HB2.out).2.1
    clear hb2 ho2 ho2' hlst2
    go_wp2_with fail
    refine (placeOfName_any (some ⟨g, 0, none⟩) n2 c2 l p.1 _ _ HL2.out (Nat.le_refl _) HAS.out (by have := HLL.out; omega)).mono ?_
    rintro e w3 ⟨rfl, hb3⟩
    have HB3 := Lib.hid (HB2.out.trans (hb3.mono hs2))
    have ho3 := HO2.out.below hb3
    have hs3 := HB3.out.size
    have hd1 := (HK.out _ HB3.out).2.2.1
    rw [hh, hk]
    obtain ⟨hcell, hfr, ho4, hg4⟩ := own_setPrint ho3 hl2 (by omega) HKN.out
    rw [← HI.out] at ho4
    obtain ⟨W4, hW4⟩ : ∃ W4, W4 = w3.setCell ⟨g, k * 2 + 1, none⟩ (.int .i64 p.2) := ⟨_, rfl⟩
    rw [← hW4] at ho4 hg4
    have HW4 := Lib.hid hW4
    have HB4 := Lib.hid (HB3.out.grown hg4 hs3 (fun j e => by simp at e; omega))
    have hs4 := HB4.out.size
    obtain ⟨x5, n5, c5, he5, hl5, hlst5⟩ := own_lstAt ho4
    simp only [Value.slice.injEq] at he5
    obtain ⟨rfl, rfl, rfl⟩ := he5
    have HL5 := Lib.hid hlst5
    have HO5 := Lib.hid ho4
    clear hb3 hc0 ho3 ho4 hg4 hW4 hlst5
    cases hq : entsB L
    · have HF := Lib.hid (putE_no hs (by rw [← HLD.out]; exact hq))
      go_wp2_with fail
      rw [← HW4.out]
      refine (implEntriesValid_any _ _ _ L _ _ HL5.out (Nat.le_refl _) hzL).mono ?_
      rintro e w6 ⟨rfl, hb6⟩
      have HB6 := Lib.hid (HB4.out.trans (hb6.mono hs4))
      have hs6 := HB6.out.size
      have HH6 := Lib.hid (HK.out _ HB6.out).1
      rw [hq]
      clear hb6
      go_wp2_with fail
      refine (copyEntries_any x n cap l B _ HH6.out (by omega) HS8.out (by omega)).mono ?_
      rintro e w7 ⟨v7, rfl, ho7, hb7⟩
      have HO7 := Lib.hid (ho7.mono (show w.heap.size ≤ _ by omega))
      have HB7 := Lib.hid (HB6.out.trans (hb7.mono hs6))
      clear ho7 hb7
      go_wp2_with fail
      go_ret2
      exact newEB_put HF.out HO7.out (HK.out _ HB7.out).2.2.2
    · have HF := Lib.hid ((putE_yes hs (by rw [← HLD.out]; exact hq)).trans (show (putInE l p, true) = (L, true) by rw [← HLD.out]))
      go_wp2_with fail
      rw [← HW4.out]
      refine (implEntriesValid_any _ _ _ L _ _ HL5.out (Nat.le_refl _) hzL).mono ?_
      rintro e w6 ⟨rfl, hb6⟩
      have HB6 := Lib.hid (HB4.out.trans (hb6.mono hs4))
      have HO6 := Lib.hid ((HO5.out.below hb6).mono (show w.heap.size ≤ _ by omega))
      rw [hq]
      clear hb6
      go_wp2_with fail
      go_ret2
      exact newEB_put HF.out HO6.out (HK.out _ HB6.out).2.2.2
end Go.Proofs.YtglajbmopiolhaaGreatDoor
