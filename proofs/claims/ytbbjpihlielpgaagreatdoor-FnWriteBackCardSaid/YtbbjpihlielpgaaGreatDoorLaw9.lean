/-
  The walks of chapter 9's laws: WalkTo, ReadAt, NamesAt.
-/
import Derived.Test.YtbbjpihlielpgaaGreatDoorDraw14
import Derived.Test.YtbbjpihlielpgaaGreatDoorImpl7
import Derived.Test.YtbbjpihlielpgaaGreatDoorImpl9
namespace Go.Proofs.YtbbjpihlielpgaaGreatDoor
open Go.RowKit
set_option linter.unusedVariables false
theorem walk_has {l : List Pc} : ∀ {ps : List ByteArray} {p : Int}, (walkB l p ps).2 = true → getO l (walkB l p ps).1 = true ∧ getO l p = true
  | [], p, h => by
    rw [walkB] at h ⊢
    cases hg : getO l p
    · rw [hg] at h; cases h
    · rw [if_pos rfl]; exact ⟨hg, rfl⟩
  | nm :: r, p, h => by
    rw [walkB] at h ⊢
    cases hc : childB l p nm with
    | none => rw [hc] at h; cases h
    | some c =>
      rw [hc] at h
      refine ⟨(walk_has h).1, ?_⟩
      cases hg : getO l p
      · unfold childB at hc
        rw [foldL_no (empty_none hg).2] at hc
        cases hc
      · rfl
theorem walk_not {l : List Pc} : ∀ {ps : List ByteArray} {p : Int}, (walkB l p ps).2 = false → (walkB l p ps).1 = -1
  | [], p, h => by
    rw [walkB] at h ⊢
    split at h
    · cases h
    · rename_i h1; rw [if_neg h1]
  | nm :: r, p, h => by
    rw [walkB] at h ⊢
    cases hc : childB l p nm with
    | none => rfl
    | some c => rw [hc] at h; exact walk_not h
/-- Where a walk leads there is a text; and the root is there. -/
theorem wt_facts (l : List Pc) (root : Int) (path : ByteArray) : ((wtB l root path).2 = true → gotO l (wtB l root path).1 = true ∧ wtB l root ⟨#[47]⟩ = (root, true)) ∧ ((wtB l root path).2 = false → (wtB l root path).1 = -1) := by
  cases hp : isPath path
  · rw [wtB_no (.inl hp)]; exact ⟨(fun h => by cases h), fun _ => rfl⟩
  cases hs : storeB l
  · rw [wtB_no (.inr hs)]; exact ⟨(fun h => by cases h), fun _ => rfl⟩
  rw [wtB_yes hp hs, wtB_yes parts_root.2 hs, parts_root.1]
  refine ⟨fun h => ?_, walk_not⟩
  obtain ⟨h1, h2⟩ := walk_has h
  exact ⟨by unfold gotO; rw [hs, h1]; rfl, by rw [walkB, if_pos h2]⟩
theorem file_back {t : ByteArray} (h : isFile t = true) : fileB (fileT t) = t := by
  have h0 := h
  rw [fileT_yes h]
  unfold isFile at h
  rw [Bool.and_eq_true] at h
  rw [fileB_yes h.2]
  have h1 := h.1
  cases hl : t.data.toList with
  | nil => rw [hl] at h1; cases h1
  | cons a r =>
    rw [hl] at h1
    obtain rfl : a = 102 := by simpa using h1
    apply data_inj
    have e : t.size = r.length + 1 := by rw [← len_eq, hl]; rfl
    simp [hl, e]
theorem rd_facts (l : List Pc) (root : Int) (path : ByteArray) : ((rdB l root path).2 = true → (wtB l root path).2 = true ∧ gotO l (wtB l root path).1 = true ∧ gotT l (wtB l root path).1 = fileB (rdB l root path).1) ∧ ((rdB l root path).2 = false → (rdB l root path).1 = ByteArray.empty) := by
  have hf := wt_facts l root path
  unfold rdB
  cases hb : (wtB l root path).2
  · rw [if_neg (by simp)]; exact ⟨(fun h => by cases h), fun _ => rfl⟩
  · rw [if_pos rfl]
    refine ⟨fun h => ⟨rfl, (hf.1 hb).1, (file_back h).symm⟩, fun h => fileT_no h⟩
theorem rd_small {l : List Pc} {root : Int} {path : ByteArray} (h : Short 60 l) : (rdB l root path).1.size ≤ 1000 := by
  unfold rdB
  split
  · show (fileT _).size ≤ 1000
    have := gotT_size (p := (wtB l root path).1) (short_nth h)
    unfold fileT
    split
    · rw [ByteArray.size_extract]; omega
    · simp
  · simp
theorem nm_facts (l : List Pc) (root : Int) (path : ByteArray) : ((nmB l root path).2 = true → (rdB l root path).2 = false ∧ ∃ E, entsB E = true ∧ (nmB l root path).1 = E.map (·.1)) ∧ ((nmB l root path).2 = false → (nmB l root path).1 = []) := by
  unfold nmB rdB
  cases hb : (wtB l root path).2
  · exact ⟨(fun h => by cases h), fun _ => rfl⟩
  cases hf : isFold (gotT l (wtB l root path).1)
  · exact ⟨(fun h => by cases h), fun _ => rfl⟩
  refine ⟨fun _ => ⟨?_, _, (fold_is hf).1, rfl⟩, (fun h => by cases h)⟩
  rw [if_pos rfl]
  show isFile (gotT l (wtB l root path).1) = false
  cases hx : isFile (gotT l (wtB l root path).1)
  · rfl
  · rw [not_fold hx] at hf; cases hf
theorem fnReadAt_any (x : Option Addr) (n cap : Nat) (w : World) (h : Bytes w.heap.size w x n) (hn : n ≤ cap) (hc : cap ≤ maxLen) :
    Calls Tryz.prog 3 #[.slice x n cap] w fun e w' => e = .returned (.bool true) ∧ Below w.heap.size w w' := by
  by_cases hlong : 1048576 < (n : Int)
  · go_enter Tryz.func3, Tryz.ntmps3
    go_wp2
    go_ret
    exact ⟨rfl, Below.refl _ _⟩
  · have HB0 := Lib.hid h
    have HC := Lib.hid hc
    have HLE := Lib.hid hn
    clear h hc hn
    go_enter Tryz.func3, Tryz.ntmps3
    go_wp2_with fail
    refine (drawReadAt_any x n cap w HB0.out HLE.out HC.out).mono ?_
    rintro e w1 ⟨y, m, c, l, p, path, rfl, hl41, hsh, hps, hl, hb⟩
    have HB := Lib.hid hb; have HL := Lib.hid hl; have HZ := Lib.hid (short_mil hsh); have hrs := rd_small (root := p) (path := path) hsh
    clear hb hl hsh
    have HF := Lib.hid (rd_facts l p path)
    go_wp2_with fail
    refine (implReadAt_any y m c l p path _ _ HL.out (Nat.le_refl _) HZ.out (by omega)).mono ?_
    rintro e w2 ⟨rfl, hb⟩
    have HB2 := Lib.hid (HB.out.trans (hb.mono HB.out.size)); have HL2 := Lib.hid ((HL.out.below hb (Nat.le_refl _)).more hb.size); clear hb
    go_wp2_with fail
    refine (specReadAt_any y m c l p path _ _ HL2.out (Nat.le_refl _) HZ.out (by omega)).mono ?_
    rintro e w3 ⟨rfl, hb⟩
    have HB3 := Lib.hid (HB2.out.trans (hb.mono HB2.out.size)); have HL3 := Lib.hid ((HL2.out.below hb (Nat.le_refl _)).more hb.size); clear hb
    obtain ⟨⟨t, b⟩, hR⟩ : ∃ R, rdB l p path = R := ⟨_, rfl⟩
    rw [hR] at HF hrs ⊢
    clear hR
    have hts : t.size ≤ 1048576 := Nat.le_trans hrs (by decide)
    clear hrs
    cases b
    · obtain rfl : t = ByteArray.empty := HF.out.2 rfl
      clear HF
      go_wp2_with (first
        | (go_at_call 15; refine (alive_any _).mono ?_; rintro e w' ⟨rfl, rfl⟩))
      go_ret
      exact ⟨rfl, HB3.out⟩
    · obtain ⟨h1, h2, h3⟩ := HF.out.1 rfl
      have H1 := Lib.hid h1; have H2 := Lib.hid h2; have H3 := Lib.hid h3
      clear HF h1 h2 h3
      obtain ⟨⟨q, b⟩, hR⟩ : ∃ R, wtB l p path = R := ⟨_, rfl⟩
      rw [hR] at H1 H2 H3
      have HR := Lib.hid hR
      clear hR
      obtain rfl : b = true := H1.out
      go_wp2_with fail
      refine (implWalkTo_any y m c l p path _ _ HL3.out (Nat.le_refl _) HZ.out (by omega)).mono ?_
      rintro e w4 ⟨rfl, hb⟩
      rw [HR.out]
      have HB4 := Lib.hid (HB3.out.trans (hb.mono HB3.out.size)); have HL4 := Lib.hid ((HL3.out.below hb (Nat.le_refl _)).more hb.size); clear hb
      go_wp2_with fail
      refine (implGetText_any y m c l q _ _ HL4.out (Nat.le_refl _) (mil_max HZ.out)).mono ?_
      rintro e w5 ⟨rfl, hb⟩
      have H2' := H2.out
      have H3' := H3.out
      rw [H2', H3']
      clear H2' H3'
      have HB5 := Lib.hid (HB4.out.trans (hb.mono HB4.out.size)); clear hb
      go_wp2_with (first
        | (go_at_call 18; refine (implFileText_any t _ hts).mono ?_; rintro e w6 ⟨rfl, hb⟩; have HB6 := Lib.hid (HB5.out.trans (hb.mono HB5.out.size)); clear hb))
      go_ret
      exact ⟨ret_bool (by simp), HB6.out⟩
theorem names_at {E : List Ent} {k : Nat} (hk : k < E.length) : nthS (E.map (·.1)) k = (nthE E k).1 := by
  unfold nthS
  rw [List.getD_eq_getElem?_getD, List.getElem?_map, List.getElem?_eq_getElem hk, nthE_get hk]; rfl
theorem ents_up {E : List Ent} (h : entsB E = true) {k : Nat} (hk : k < E.length) (h0 : k ≠ 0) : leB (nthE E k).1 (nthE E (k - 1)).1 = false := leB_of (ents_asc h (k - 1) k (by omega) hk)
set_option maxHeartbeats 2000000 in
set_option maxRecDepth 100000 in
theorem fnNamesAt_any (x : Option Addr) (n cap : Nat) (w : World) (h : Bytes w.heap.size w x n) (hn : n ≤ cap) (hc : cap ≤ maxLen) :
    Calls Tryz.prog 4 #[.slice x n cap] w fun e w' => e = .returned (.bool true) ∧ Below w.heap.size w w' := by
  by_cases hlong : 1048576 < (n : Int)
  · go_enter Tryz.func4, Tryz.ntmps4
    go_wp2
    go_ret
    exact ⟨rfl, Below.refl _ _⟩
  · have HB0 := Lib.hid h
    have HC := Lib.hid hc
    have HLE := Lib.hid hn
    clear h hc hn
    go_enter Tryz.func4, Tryz.ntmps4
    go_wp2_with fail
    refine (drawNamesAt_any x n cap w HB0.out HLE.out HC.out).mono ?_
    rintro e w1 ⟨y, m, c, l, p, path, rfl, hl41, hsh, hps, hl, hb⟩
    have HB := Lib.hid hb; have HL := Lib.hid hl; have HZ := Lib.hid (short_mil hsh)
    clear hb hl hsh
    have HF := Lib.hid (nm_facts l p path)
    go_wp2_with fail
    refine (implNamesAt_any y m c l p path _ _ HL.out (Nat.le_refl _) HZ.out (by omega)).mono ?_
    rintro e w2 ⟨v2, rfl, ho, hb⟩
    obtain ⟨x2, n2, c2, rfl, hx⟩ := ho.lst
    have HB2 := Lib.hid (HB.out.trans (hb.mono HB.out.size)); have HL2 := Lib.hid ((HL.out.below hb (Nat.le_refl _)).more hb.size); have HX2 := Lib.hid hx; clear hb ho hx
    go_wp2_with fail
    refine (specNamesAt_any y m c l p path _ _ HL2.out (Nat.le_refl _) HZ.out (by omega)).mono ?_
    rintro e w3 ⟨v3, rfl, ho, hb⟩
    obtain ⟨x3, n3, c3, rfl, hx⟩ := ho.lst
    have HB3 := Lib.hid (HB2.out.trans (hb.mono HB2.out.size)); have HL3 := Lib.hid ((HL2.out.below hb (Nat.le_refl _)).more hb.size); have HX3 := Lib.hid ((HX2.out.below hb (Nat.le_refl _)).more hb.size); have HY3 := Lib.hid hx; clear hb ho hx
    obtain ⟨⟨N, b⟩, hR⟩ : ∃ R, nmB l p path = R := ⟨_, rfl⟩
    rw [hR] at HF HX3 HY3 ⊢
    clear hR
    go_wp2_with fail
    refine (sameTexts_any _ _ _ _ _ _ N N _ _ HX3.out HY3.out).mono ?_
    rintro e w4 hq
    have hb := hq.below
    obtain ⟨rfl, _⟩ := hq
    rw [decide_eq_true (show N = N from rfl)]
    have HB4 := Lib.hid (HB3.out.trans (hb.mono HB3.out.size)); have HL4 := Lib.hid ((HL3.out.below hb (Nat.le_refl _)).more hb.size); have HX4 := Lib.hid ((HX3.out.below hb (Nat.le_refl _)).more hb.size); clear hb HX3 HY3
    have HLN := Lib.hid HX4.out.len
    cases b
    · have he : N = [] := HF.out.2 rfl
      subst he
      obtain rfl : n2 = 0 := by have := HLN.out; simp at this; omega
      clear HF HLN
      go_wp2_with (first
        | (go_at_call 15; refine (alive_any _).mono ?_; rintro e w' ⟨rfl, rfl⟩))
      go_ret
      exact ⟨rfl, HB4.out⟩
    · obtain ⟨h1, E, h2, h3⟩ := HF.out.1 rfl
      have HV := Lib.hid h2
      have hN : N = E.map (·.1) := h3
      subst hN
      have HLE2 := Lib.hid (show E.length = n2 by have := HLN.out; rwa [List.length_map] at this)
      have hn3 : n2 ≤ 3 := by have h1 := (entsB_at HV.out).1; have h2 := HLE2.out; omega
      have H1 := Lib.hid h1
      clear HF h1 h2 h3
      go_wp2_with fail
      refine (implReadAt_any y m c l p path _ _ HL4.out (Nat.le_refl _) HZ.out (by omega)).mono ?_
      rintro e w5 ⟨rfl, hb⟩
      rw [H1.out]
      have HB5 := Lib.hid (HB4.out.trans (hb.mono HB4.out.size)); have HX5 := Lib.hid ((HX4.out.below hb (Nat.le_refl _)).more hb.size); clear hb
      have hle5 := HX5.out.le
      have hmx5 := HX5.out.max
      unfold maxLen at hmx5
      go_wp2
      go_loopw [12] (fun i wr => ∃ k : Nat, k ≤ n2 ∧ i = .int .i64 k ∧ ∃ q, wr = w5.drewN q) (fun i _ => n2 - (intOf i).toNat)
      case atStart => exact ⟨0, by omega, rfl, 0, rfl⟩
      case round =>
        obtain ⟨k, hk, rfl, hq⟩ := hrel
        have HQ := Lib.hid hq
        clear hq
        by_cases hlt : k < n2
        · have hkE : k < E.length := by have := HLE2.out; omega
          have HXW := Lib.hid (HX5.out.keep (w' := wr) (by obtain ⟨p, rfl⟩ := HQ.out; intro _ _; rfl))
          obtain ⟨b, off, rfl, hbb, hcell⟩ := HXW.out.atS hlt
          rw [names_at hkE] at hcell
          have hw := (okE_word ((entsB_at HV.out).2 k hkE)).1
          have hzk : (nthE E k).1.size ≤ maxLen := by have := word_size hw; unfold maxLen; omega
          by_cases h0 : k = 0
          · have hd0 : (decide (0 < k)) = false := by simp; omega
            clear h0
            go_wp2
            go_quiet (first | (go_at_call 23; refine Calls.quiet_of_same ((wordValid_any _ _ hzk).mono fun _ _ h => ⟨h.1, h.2.symm⟩)))
            go_wp2
            go_roundw
            case rel => exact ⟨k + 1, by omega, by go_num, by obtain ⟨p, rfl⟩ := HQ.out; exact ⟨_, by rw [World.drewN_drewN]⟩⟩
            case measure => simp [intOf]; omega
          · have hd0 : (decide (0 < k)) = true := by simp; omega
            have hup := ents_up HV.out hkE h0
            have hcp : wr.cell? ⟨b, off + (k - 1), none⟩ = some (.string (nthE E (k - 1)).1) := by
              obtain ⟨b2, off2, e2, _, h2⟩ := HXW.out.atS (k := k - 1) (by omega)
              simp only [Option.some.injEq, Addr.mk.injEq, and_true] at e2
              obtain ⟨rfl, rfl⟩ := e2
              rwa [names_at (by omega)] at h2
            have hk1 : 1 ≤ k := by omega
            have hwk : IntKind.i64.wrap ((k : Int) - 1) = (k : Int) - 1 := by rw [IntKind.wrap_i64]; omega
            have htk : ((k : Int) - 1).toNat = k - 1 := by omega
            have hbk : (0 : Int) ≤ (k : Int) - 1 := by omega
            have hbn : (k : Int) - 1 < (n2 : Int) := by omega
            unfold leB at hup
            rw [Bool.or_eq_false_iff] at hup
            obtain ⟨hx1, hx2⟩ := hup
            clear h0
            go_wp2
            go_quiet (first | (go_at_call 23; refine Calls.quiet_of_same ((wordValid_any _ _ hzk).mono fun _ _ h => ⟨h.1, h.2.symm⟩)))
            go_wp2
            go_roundw
            case rel => exact ⟨k + 1, by omega, by go_num, by obtain ⟨p, rfl⟩ := HQ.out; exact ⟨_, by rw [World.drewN_drewN]⟩⟩
            case measure => simp [intOf]; omega
        · go_wp2
          go_ret
          exact ⟨ret_bool (by simp; omega), by obtain ⟨p, rfl⟩ := HQ.out; exact below_drewN HB5.out _⟩
end Go.Proofs.YtbbjpihlielpgaaGreatDoor
