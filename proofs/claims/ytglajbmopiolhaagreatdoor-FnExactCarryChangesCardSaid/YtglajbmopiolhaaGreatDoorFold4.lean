/-
  Contracts of chapter 6's program: the text of a folder is read.
-/
import Derived.Test.YtglajbmopiolhaaGreatDoorFold3
import Derived.Lib.IndexLaws
namespace Go.Proofs.YtglajbmopiolhaaGreatDoor
open Go.RowKit
set_option linter.unusedVariables false
/-- A text, cut at the first place of a byte. -/
def cutP (c : UInt8) (s : ByteArray) : ByteArray × ByteArray × Bool :=
  if 0 ≤ Lib.indexByte s.data.toList c then (s.extract 0 (Lib.indexByte s.data.toList c).toNat, s.extract ((Lib.indexByte s.data.toList c).toNat + 1) s.size, true) else (s, ByteArray.empty, false)
theorem cutP_at {c : UInt8} {s : ByteArray} {k : Nat} (h : Lib.indexByte s.data.toList c = k) : cutP c s = (s.extract 0 k, s.extract (k + 1) s.size, true) := by
  unfold cutP; rw [h, if_pos (by omega)]; rfl
theorem cutP_not {c : UInt8} {s : ByteArray} (h : Lib.indexByte s.data.toList c = -1) : cutP c s = (s, ByteArray.empty, false) := by
  unfold cutP; rw [h, if_neg (by omega)]
theorem cutP_cases (c : UInt8) (s : ByteArray) : (∃ a b, s.data.toList = a ++ c :: b ∧ (∀ x ∈ a, x ≠ c) ∧ cutP c s = (bytesOf a, bytesOf b, true)) ∨ ((∀ x ∈ s.data.toList, x ≠ c) ∧ cutP c s = (s, ByteArray.empty, false)) := by
  have hge := Lib.indexByte_ge s.data.toList c
  by_cases h : Lib.indexByte s.data.toList c = -1
  · refine .inr ⟨fun x hx e => ?_, cutP_not h⟩
    obtain ⟨j, hj, rfl⟩ := List.mem_iff_getElem.1 hx
    exact Lib.indexByte_none h j (by rw [List.getElem?_eq_getElem hj, e])
  · obtain ⟨k, hk⟩ : ∃ k : Nat, Lib.indexByte s.data.toList c = k := ⟨(Lib.indexByte s.data.toList c).toNat, by omega⟩
    obtain ⟨h1, h2⟩ := Lib.indexByte_some hk
    obtain ⟨hk1, hk2⟩ := List.getElem?_eq_some_iff.1 h1
    have hks : k < s.size := by rwa [len_eq] at hk1
    refine .inl ⟨s.data.toList.take k, s.data.toList.drop (k + 1), ?_, fun x hx e => ?_, ?_⟩
    · rw [← hk2, ← List.drop_eq_getElem_cons hk1, List.take_append_drop]
    · obtain ⟨j, hj, rfl⟩ := List.mem_iff_getElem.1 hx
      rw [List.length_take] at hj
      rw [List.getElem_take] at e
      exact h2 j (by omega) (by rw [List.getElem?_eq_getElem (by omega), e])
    · have e1 : s.extract 0 k = bytesOf (s.data.toList.take k) := data_inj (by rw [extract_list, bytesOf_to, List.drop_zero, Nat.sub_zero])
      have e2 : s.extract (k + 1) s.size = bytesOf (s.data.toList.drop (k + 1)) := data_inj (by rw [extract_list, bytesOf_to, List.take_of_length_le (by rw [List.length_drop, len_eq]; omega)])
      rw [cutP_at hk, e1, e2]
def CutQ (c : UInt8) (s : ByteArray) (w : World) (e : Ending) (w' : World) : Prop := e = .returned (.tuple #[.string (cutP c s).1, .string (cutP c s).2.1, .bool (cutP c s).2.2]) ∧ ∃ q, w' = w.drewN q
theorem cutQ_of {c : UInt8} {s a b : ByteArray} {o : Bool} {w w' : World} (h : cutP c s = (a, b, o)) (hq : ∃ q, w' = w.drewN q) : CutQ c s w (.returned (.tuple #[.string a, .string b, .bool o])) w' := by
  unfold CutQ; rw [h]; exact ⟨rfl, hq⟩
theorem cutLite_any (c : UInt8) (s : ByteArray) (w : World) (hs : s.size ≤ 2000000) : Calls Tryz.prog 148 #[.string s, .string ⟨#[c]⟩] w (CutQ c s w) := by
  have hge := Lib.indexByte_ge s.data.toList c
  by_cases h : Lib.indexByte s.data.toList c = -1
  · have HF := Lib.hid (cutP_not h)
    go_enter Tryz.func148, Tryz.ntmps148
    go_wp2_with (go_at_call 157; refine (Tryz.stringslite_Index_one s c _).mono ?_; rintro e w2 ⟨rfl, rfl⟩; rw [h])
    go_ret3
    exact cutQ_of HF.out ⟨0, rfl⟩
  · obtain ⟨k, hk⟩ : ∃ k : Nat, Lib.indexByte s.data.toList c = k := ⟨(Lib.indexByte s.data.toList c).toNat, by omega⟩
    have hks : k < s.size := by
      have h1 := (List.getElem?_eq_some_iff.1 (Lib.indexByte_some hk).1).1
      rwa [len_eq] at h1
    have HF := Lib.hid (cutP_at hk)
    have hw1 : IntKind.i64.wrap ((k : Int) + 1) = (k : Int) + 1 := by rw [IntKind.wrap_i64]; omega
    have htn : ((k : Int) + 1).toNat = k + 1 := by omega
    have hb0 : (0 : Int) ≤ (k : Int) + 1 := by omega
    have hb1 : (k : Int) + 1 ≤ (s.size : Int) := by omega
    have hb2 : (k : Int) ≤ (s.size : Int) := by omega
    have hsz : (ByteArray.mk #[c]).size = 1 := rfl
    go_enter Tryz.func148, Tryz.ntmps148
    go_wp2_with (go_at_call 157; refine (Tryz.stringslite_Index_one s c _).mono ?_; rintro e w2 ⟨rfl, rfl⟩; rw [hk])
    go_quiet (fail)
    go_wp2
    go_ret3
    exact cutQ_of HF.out ⟨_, rfl⟩
theorem cut_any (c : UInt8) (s : ByteArray) (w : World) (hs : s.size ≤ 2000000) : Calls Tryz.prog 135 #[.string s, .string ⟨#[c]⟩] w (CutQ c s w) := by
  go_enter Tryz.func135, Tryz.ntmps135
  go_wp2_with (go_at_call 148; refine (cutLite_any c s _ hs).mono ?_; rintro e w2 ⟨rfl, hq⟩; have HQ := Lib.hid hq; clear hq)
  go_ret3
  exact ⟨rfl, HQ.out⟩
/-! ### an entry of a text -/
theorem entOf_cut {a : ByteArray} : entOf a.data.toList = ((cutP 61 a).1, readB (cutP 61 a).2.1) := by
  rcases cutP_cases 61 a with ⟨x, y, h, hx, hc⟩ | ⟨hx, hc⟩
  · rw [hc]; unfold entOf; rw [h, cutL_at x y hx]
  · rw [hc]; unfold entOf; rw [cutL_no _ hx, bytesOf_list]; rfl
theorem cutP_sizes (c : UInt8) (s : ByteArray) : (cutP c s).1.size ≤ s.size ∧ (cutP c s).2.1.size ≤ s.size := by
  rcases cutP_cases c s with ⟨a, b, h, _, hc⟩ | ⟨_, hc⟩
  · have h1 := congrArg List.length h
    rw [len_eq, List.length_append, List.length_cons] at h1
    have e1 : (bytesOf a).size = a.length := by rw [← len_eq, bytesOf_to]
    have e2 : (bytesOf b).size = b.length := by rw [← len_eq, bytesOf_to]
    rw [hc]
    show (bytesOf a).size ≤ _ ∧ (bytesOf b).size ≤ _
    omega
  · rw [hc]; exact ⟨Nat.le_refl _, by simp⟩
theorem readEntry_any (s : ByteArray) (w : World) (hs : s.size ≤ 2000000) : Calls Tryz.prog 136 #[.string s] w fun e w' => e = .returned (.agg #[.string (entOf s.data.toList).1, .int .i64 (entOf s.data.toList).2]) ∧ Below w.heap.size w w' := by
  have hlay : ∀ w2, Below (w.alloc (.cells #[.string ⟨#[]⟩, .int .i64 0] 108)).heap.size (w.alloc (.cells #[.string ⟨#[]⟩, .int .i64 0] 108)) w2 →
      w2.heap[w.heap.size]? = some (.cells #[.string ⟨#[]⟩, .int .i64 0] 108 (0, 0)) ∧ Below w.heap.size w w2 := fun w2 hb => by
    have e0 : (w.alloc (.cells #[.string ⟨#[]⟩, .int .i64 0] 108)).heap.size = w.heap.size + 1 := by simp
    exact ⟨(hb.block _ (by omega)).trans (heap_alloc_new w _), ((Below.refl w.heap.size w).alloc (Nat.le_refl _) _).trans (hb.mono (by omega))⟩
  have HLAY := Lib.hid hlay
  have HE := Lib.hid (entOf_cut (a := s))
  obtain ⟨hz1, hz2⟩ := cutP_sizes 61 s
  obtain ⟨a, ha⟩ : ∃ a, (cutP 61 s).1 = a := ⟨_, rfl⟩
  obtain ⟨b, hb⟩ : ∃ b, (cutP 61 s).2.1 = b := ⟨_, rfl⟩
  rw [ha, hb] at HE
  rw [ha] at hz1
  rw [hb] at hz2
  rw [HE.out]
  clear hlay
  go_enter Tryz.func136, Tryz.ntmps136
  go_wp2_with fail
  refine (cut_any 61 s _ hs).mono ?_
  rintro e w2 ⟨rfl, hq⟩
  rw [ha, hb]
  have hb2 : Below (w.alloc (.cells #[.string ⟨#[]⟩, .int .i64 0] 108)).heap.size (w.alloc (.cells #[.string ⟨#[]⟩, .int .i64 0] 108)) w2 := below_quietN (Below.refl _ _) hq
  have HB2 := Lib.hid hb2
  clear hq hb2
  go_wp2_with fail
  refine (cloneN_any a _ (by omega)).mono ?_
  rintro e w3 ⟨rfl, hb3⟩
  have hb3' := HB2.out.trans (hb3.mono HB2.out.size)
  obtain ⟨h1, h2⟩ := HLAY.out _ hb3'
  obtain ⟨d0, d1, g0, g1⟩ := two_at h1
  have HB3 := Lib.hid h2
  clear hb3 hb3' h1 h2
  go_wp2_with fail
  refine (readHex_any b _ (by unfold maxLen; omega)).mono ?_
  rintro e w4 ⟨rfl, rfl⟩
  go_wp2_with fail
  refine bodyPost_ret (v := .agg #[.string a, .int .i64 (readB b)]) ?_ rfl ⟨rfl, (HB3.out.setCell (p := ⟨w.heap.size, 0, none⟩) (by simp) _).setCell (p := ⟨w.heap.size, 1, none⟩) (by simp) _⟩
  simp [results, Tryz.results136, go_sem, d0, d1]
theorem entOf_size (a : List UInt8) : (entOf a).1.size ≤ a.length := by
  have h := entOf_cut (a := bytesOf a)
  have h2 := (cutP_sizes 61 (bytesOf a)).1
  rw [bytesOf_to] at h
  rw [h]
  rw [← len_eq (bytesOf a), bytesOf_to] at h2
  exact h2
theorem prefix_yes {s : ByteArray} {r : List UInt8} (h : s.data.toList = 100 :: r) : Lib.hasPrefix s.data.toList (ByteArray.mk #[100]).data.toList = true ∧ Lib.trimPrefix s.data.toList (ByteArray.mk #[100]).data.toList = r := by
  have h1 : Lib.hasPrefix s.data.toList (ByteArray.mk #[100]).data.toList = true := by rw [h]; simp [Lib.hasPrefix, List.isPrefixOf]
  refine ⟨h1, ?_⟩
  unfold Lib.trimPrefix
  rw [if_pos h1, h]; rfl
theorem prefix_no {s : ByteArray} (h : ∀ r, s.data.toList ≠ 100 :: r) : Lib.hasPrefix s.data.toList (ByteArray.mk #[100]).data.toList = false := by
  unfold Lib.hasPrefix
  cases hs : s.data.toList with
  | nil => rfl
  | cons x r =>
    cases hp : List.isPrefixOf (ByteArray.mk #[100]).data.toList (x :: r) with
    | false => rfl
    | true =>
      simp [List.isPrefixOf] at hp
      subst hp
      exact absurd hs (h r)
theorem head100 (s : ByteArray) : (∃ r, s.data.toList = 100 :: r) ∨ ∀ r, s.data.toList ≠ 100 :: r := by
  by_cases h : ∃ r, s.data.toList = 100 :: r
  · exact .inl h
  · exact .inr fun r hr => h ⟨r, hr⟩
theorem map_app {o : Option (List Ent)} {out : List Ent} {q : Ent} : (o.map (q :: ·)).map (out ++ ·) = o.map ((out ++ [q]) ++ ·) := by
  cases o with
  | none => rfl
  | some l => simp
set_option maxHeartbeats 2000000 in
theorem implReadFolder_any (s : ByteArray) (w : World) (hs : s.size ≤ 1048576) : Calls Tryz.prog 116 #[.string s] w (NewEB (foldL s) (isFold s) w) := by
  rcases head100 s with ⟨r0, h0⟩ | hno
  rotate_left
  · have HF := Lib.hid (read_none hno)
    have hp := prefix_no hno
    clear hno
    go_enter Tryz.func116, Tryz.ntmps116
    go_wp2_with fail
    refine (Tryz.strings_CutPrefix s ⟨#[100]⟩ _).mono ?_
    rintro e w2 ⟨rfl, hw2⟩
    subst w2
    rw [hp]
    go_wp2_with fail
    go_ret2
    exact newEB_of HF.out ⟨_, rfl, OwnL.nil _ _ _ _ _, Below.refl _ _⟩
  have hp := prefix_yes h0
  have hl0 := congrArg List.length h0
  rw [len_eq, List.length_cons] at hl0
  have HY := Lib.hid (fun l (h1 : pE [] r0 = some l) (h2 : entsB l = true) => read_yes h0 h1 h2)
  have HNO := Lib.hid (fun (h1 : ∀ l, pE [] r0 = some l → entsB l = false) => read_no h0 h1)
  obtain ⟨R0, hR0⟩ : ∃ R0 : ByteArray, R0 = ⟨r0.toArray⟩ := ⟨_, rfl⟩
  have hRl : R0.data.toList = r0 := by rw [hR0]
  have HRL := Lib.hid hRl
  clear h0
  go_enter Tryz.func116, Tryz.ntmps116
  go_wp2_with fail
  refine (Tryz.strings_CutPrefix s ⟨#[100]⟩ _).mono ?_
  rintro e w2 ⟨rfl, hw2⟩
  subst w2
  rw [hp.1, hp.2, ← hR0]
  clear hp hR0
  go_wp2_with fail
  go_loopw [4, 5, 6, 7] (fun rest ok v tx wr => ∃ (R : ByteArray) (out : List Ent) (o : Bool), rest = .string R ∧ ok = .bool o ∧ pE [] r0 = (pE [] R.data.toList).map (out ++ ·) ∧ out.length + R.size ≤ r0.length ∧ (∀ j, (nthE out j).1.size ≤ s.size) ∧ OwnE wr w.heap.size v out ∧ Below w.heap.size w wr) (fun rest _ _ _ _ => match rest with | .string R => R.size | _ => 0)
  case atStart => exact ⟨R0, [], true, rfl, rfl, by rw [HRL.out]; cases pE [] r0 <;> rfl, by rw [← len_eq, HRL.out]; simp, fun j => by simp [nthE], OwnL.nil _ _ _ _ _, Below.refl _ _⟩
  case round =>
    obtain ⟨R, out, o, rfl, rfl, hg, hl, hz, ho, hb⟩ := hrel
    have HG := Lib.hid hg; have HZ := Lib.hid hz; have HO := Lib.hid ho; have HBW := Lib.hid hb
    clear hg hz ho hb
    have hwr := HBW.out.size
    by_cases hR : R.size = 0
    · have he : R.toList.isEmpty = true := by rw [ByteArray.toList_eq, List.isEmpty_iff, ← List.length_eq_zero_iff, len_eq]; exact hR
      have HS := Lib.hid (show pE [] r0 = some out by rw [HG.out, List.eq_nil_of_length_eq_zero ((len_eq R).trans hR), pE_nil]; simp)
      obtain ⟨x, n, c, rfl, hln, hlo⟩ := own_lstAt HO.out
      have HLO := Lib.hid hlo
      clear hlo
      cases hv : entsB out
      · have HF := Lib.hid (HNO.out (fun l h => by rw [HS.out] at h; cases h; exact hv))
        go_wp2_with fail
        refine (implEntriesValid_any _ _ _ _ _ _ HLO.out (Nat.le_refl _) (fun j => by have := HZ.out j; unfold maxLen; omega)).mono ?_
        rintro e w2 ⟨rfl, hb⟩
        have HB2 := Lib.hid (HBW.out.trans (hb.mono hwr))
        rw [hv]
        clear hb
        go_wp2_with fail
        go_ret2
        exact newEB_of HF.out ⟨_, rfl, OwnL.nil _ _ _ _ _, HB2.out⟩
      · have HF := Lib.hid (HY.out out HS.out hv)
        go_wp2_with fail
        refine (implEntriesValid_any _ _ _ _ _ _ HLO.out (Nat.le_refl _) (fun j => by have := HZ.out j; unfold maxLen; omega)).mono ?_
        rintro e w2 ⟨rfl, hb⟩
        have HB2 := Lib.hid (HBW.out.trans (hb.mono hwr))
        have HO2 := Lib.hid (HO.out.below hb)
        rw [hv]
        clear hb
        go_wp2_with fail
        go_ret2
        exact newEB_of HF.out ⟨_, rfl, HO2.out, HB2.out⟩
    · have he : R.toList.isEmpty = false := by rw [ByteArray.toList_eq, List.isEmpty_eq_false_iff, ← List.length_pos_iff, len_eq]; omega
      rcases cutP_cases 59 R with ⟨a, b, hab, hna, hc⟩ | ⟨hna, hc⟩
      · have hla := congrArg List.length hab
        rw [len_eq, List.length_append, List.length_cons] at hla
        have e1 : (bytesOf a).size = a.length := by rw [← len_eq, bytesOf_to]
        have e2 : (bytesOf b).size = b.length := by rw [← len_eq, bytesOf_to]
        have HST := Lib.hid (show pE [] r0 = (pE [] (bytesOf b).data.toList).map ((out ++ [entOf a]) ++ ·) by
          rw [HG.out, hab, pE_step a [] b hna, List.nil_append, bytesOf_to, map_app])
        have hq := entOf_size a
        have HQ := Lib.hid (show entOf (bytesOf a).data.toList = entOf a by rw [bytesOf_to])
        obtain ⟨q, hqq⟩ : ∃ q, entOf a = q := ⟨_, rfl⟩
        rw [hqq] at HST HQ hq
        have hol : out.length ≤ 2000000 := by omega
        clear hab hna hqq
        generalize bytesOf a = A at *
        generalize bytesOf b = Bb at *
        go_wp2_with fail
        refine (cut_any 59 R _ (by omega)).mono ?_
        rintro e w2 ⟨rfl, hq2⟩
        rw [hc]
        have HB2 := Lib.hid (below_quietN HBW.out hq2)
        have HO2 := Lib.hid (HO.out.quiet hq2)
        have hsz2 := HB2.out.size
        clear hq2 hc
        go_wp2_with fail
        refine (readEntry_any A _ (by omega)).mono ?_
        rintro e w3 ⟨rfl, hb3⟩
        rw [HQ.out]
        have HO3 := Lib.hid (HO2.out.below hb3)
        have HB3 := Lib.hid (HB2.out.trans (hb3.mono hsz2))
        have hsz3 := HB3.out.size
        clear hb3
        go_wp2_with (at_builtin; refine wpList_app1L eltEn encEn q _ rfl HO3.out hol hsz3 rfl _ _ rfl rfl rfl ?_; intro v' w' hown hgrow; have HW := Lib.hid hown; have HGR := Lib.hid hgrow; clear hown hgrow)
        go_roundw
        case rel => exact ⟨Bb, out ++ [q], true, rfl, rfl, HST.out, by rw [List.length_append, List.length_singleton]; omega, nthE_snoc_size HZ.out (by omega), HW.out, HB3.out.grown HGR.out hsz3 HO3.out.at⟩
        case measure => show Bb.size < R.size; omega
      · have HF := Lib.hid (HNO.out (fun l h => by
          rw [HG.out, pE_stop R.data.toList [] hna (by rw [List.nil_append]; intro e; have := congrArg List.length e; rw [len_eq] at this; exact hR this)] at h; cases h))
        clear hna
        go_wp2_with fail
        refine (cut_any 59 R _ (by omega)).mono ?_
        rintro e w2 ⟨rfl, hq2⟩
        rw [hc]
        have HB2 := Lib.hid (below_quietN HBW.out hq2)
        clear hq2 hc
        go_wp2_with fail
        go_ret2
        exact newEB_of HF.out ⟨_, rfl, OwnL.nil _ _ _ _ _, HB2.out⟩
end Go.Proofs.YtglajbmopiolhaaGreatDoor
