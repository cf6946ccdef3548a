/-
  Chapter 3's laws: more behind a text; joined texts; prints.
-/
import Derived.Test.YtefcmpbjfcpdeaaLaw3
namespace Go.Proofs.Ytefcmpbjfcpdeaa
open Go.RowKit
set_option linter.unusedVariables false
theorem endsGo_more (x : List UInt8) (hx : x ≠ []) : ∀ (l : List UInt8) (k m : Nat), l ≠ [] → (endsGo l k m).length ≤ (endsGo (l ++ x) k m).length ∧ (endsGo (l ++ x) k m).take ((endsGo l k m).length - 1) = (endsGo l k m).take ((endsGo l k m).length - 1)
  | [], k, m, h => absurd rfl h
  | [c], k, m, h => by
    have h1 : endsGo [c] k m = [((k + 1 : Nat) : Int)] := by simp [endsGo]
    have h2 := List.length_pos_iff.2 (endsGo_ne (l := [c] ++ x) (by simp) k m)
    rw [h1]
    exact ⟨by simp at h2 ⊢; omega, by simp⟩
  | c :: d :: r, k, m, h => by
    have e1 : endsGo (c :: d :: r) k m = if whole c (m + 1) = true then ((k + 1 : Nat) : Int) :: endsGo (d :: r) (k + 1) 0 else endsGo (d :: r) (k + 1) (m + 1) := by rw [endsGo]; simp
    have e2 : endsGo (c :: d :: r ++ x) k m = if whole c (m + 1) = true then ((k + 1 : Nat) : Int) :: endsGo (d :: r ++ x) (k + 1) 0 else endsGo (d :: r ++ x) (k + 1) (m + 1) := by
      show endsGo (c :: (d :: r ++ x)) k m = _
      rw [endsGo]; simp
    rw [e1, e2]
    by_cases hw : whole c (m + 1) = true
    · rw [if_pos hw, if_pos hw]
      have ih := endsGo_more x hx (d :: r) (k + 1) 0 (by simp)
      have h2 := List.length_pos_iff.2 (endsGo_ne (l := d :: r) (by simp) (k + 1) 0)
      generalize endsGo (d :: r) (k + 1) 0 = E at ih h2 ⊢
      generalize endsGo (d :: r ++ x) (k + 1) 0 = E' at ih ⊢
      refine ⟨by simpa using ih.1, ?_⟩
      obtain ⟨n, hn⟩ : ∃ n, E.length = n + 1 := ⟨E.length - 1, by omega⟩
      have ih2 := ih.2
      rw [hn] at ih2
      simp only [List.length_cons, hn, Nat.add_sub_cancel, List.take_succ_cons] at ih2 ⊢
      rw [ih2]
    · rw [if_neg hw, if_neg hw]
      exact endsGo_more x hx (d :: r) (k + 1) (m + 1) (by simp)
def badB : ByteArray := ⟨#[98, 97, 100]⟩
theorem bad_text {s : ByteArray} (h : textB s = true) (hl : s.size + 3 ≤ 60) : textB (s ++ badB) = true := by
  unfold textB textV at h ⊢
  have e : (s ++ badB).data.toList = s.data.toList ++ [98, 97, 100] := by rw [ByteArray.data_append, Array.toList_append]; rfl
  rw [e, List.length_append, List.all_append]
  simp only [Bool.and_eq_true, decide_eq_true_eq] at h
  have h3 : ([98, 97, 100] : List UInt8).all txt = true := by decide
  simp only [h.2, h3, List.length_cons, List.length_nil, len_eq, decide_eq_true_eq, Bool.and_true]
  omega
theorem extract_left (s t : ByteArray) (a b : Nat) (h : b ≤ s.size) : (s ++ t).extract a b = s.extract a b := by
  rw [ByteArray.extract_append]
  have : t.extract (a - s.size) (b - s.size) = ByteArray.empty := size_nil (by rw [ByteArray.size_extract]; omega)
  rw [this, ByteArray.append_empty]
theorem chunks_more {s : ByteArray} (h : textB s = true) (hl : s.size + 3 ≤ 60) (h0 : chunksB s ≠ []) : (chunksB s).length ≤ (chunksB (s ++ badB)).length ∧ (chunksB (s ++ badB)).take ((chunksB s).length - 1) = (chunksB s).take ((chunksB s).length - 1) := by
  have hb := bad_text h hl
  have hne : s.data.toList ≠ [] := by
    intro e
    apply h0
    unfold chunksB
    rw [endsB_yes h, e]; rfl
  have e : (s ++ badB).data.toList = s.data.toList ++ [98, 97, 100] := by rw [ByteArray.data_append, Array.toList_append]; rfl
  obtain ⟨h1, h2⟩ := endsGo_more [98, 97, 100] (by simp) s.data.toList 0 0 hne
  rw [← e, ← endsB_yes hb, ← endsB_yes h] at h1 h2
  rw [chunks_len, chunks_len]
  refine ⟨h1, List.ext_getElem? fun k => ?_⟩
  rw [List.getElem?_take, List.getElem?_take]
  split
  · rename_i hk
    have hat : ∀ j, j < (endsB s).length - 1 → (endsB (s ++ badB)).getD j 0 = (endsB s).getD j 0 := fun j hj => by
      have := congrArg (fun l => l[j]?) h2
      simp only [List.getElem?_take, if_pos hj] at this
      rw [List.getD_eq_getElem?_getD, List.getD_eq_getElem?_getD, this]
    have hf : fromI (endsB (s ++ badB)) k = fromI (endsB s) k := by
      unfold fromI
      split
      · rfl
      · exact hat _ (by omega)
    rw [chunks_at (by omega), chunks_at (by omega), hf, hat k hk]
    have := ends_at (s := s) (k := k) (by omega)
    rw [extract_left _ _ _ _ (by omega)]
  · rfl
theorem chunks_none {s : ByteArray} (h : textB s = false) : chunksB s = [] := by unfold chunksB; rw [endsB_no h]; rfl
theorem Lst.cut {α : Type} {g : α → List Value} {w : World} {B : Nat} {x : Option Addr} {n cap m : Nat} {l : List α} (h : Lst g w B x n cap l) (hm : m ≤ n) : Lst g w B x m cap (l.take m) :=
  ⟨by rw [List.length_take]; have := h.len; omega, Nat.le_trans hm h.le, h.max, fun j u hu => h.rds j u (by
    have e : l.flatMap g = (l.take m).flatMap g ++ (l.drop m).flatMap g := by rw [← List.flatMap_append, List.take_append_drop]
    rw [e, List.getElem?_append_left (List.getElem?_eq_some_iff.1 hu).1]; exact hu)⟩
set_option maxHeartbeats 2000000 in
theorem fnChunksOf_any (x : Option Addr) (n cap : Nat) (w : World) (h : Bytes w.heap.size w x n) (hn : n ≤ cap) (hc : cap ≤ maxLen) :
    Calls Try.prog 4 #[.slice x n cap] w fun e w' => e = .returned (.bool true) ∧ Below w.heap.size w w' := by
  by_cases hlong : 1048576 < (n : Int)
  · go_enter Try.func4, Try.ntmps4
    go_wp2
    go_ret
    exact ⟨rfl, Below.refl _ _⟩
  · have HB0 := Lib.hid h
    have HC := Lib.hid hc
    have HL := Lib.hid hn
    clear h hc hn
    go_enter Try.func4, Try.ntmps4
    go_wp2_with fail
    refine (drawChunksOf_any x n cap w HB0.out HL.out HC.out).mono ?_
    rintro e w1 ⟨s, rfl, hs, hb⟩
    have HB := Lib.hid hb; clear hb
    have hsl : s.size ≤ maxLen := by unfold maxLen; omega
    go_wp2_with fail
    refine (chunksOf_any s _ hsl).mono ?_
    rintro e w2 ⟨v, rfl, ho, hb⟩
    obtain ⟨y, m, c, rfl, hi⟩ := ho.lst
    have HB2 := Lib.hid (HB.out.trans (hb.mono HB.out.size)); clear hb ho
    go_wp2_with fail
    refine (specChunksOf_any s _ hsl).mono ?_
    rintro e w3 ⟨v, rfl, ho, hb⟩
    obtain ⟨y3, m3, c3, rfl, hi3⟩ := ho.lst
    have HB3 := Lib.hid (HB2.out.trans (hb.mono HB2.out.size))
    have hi2 := (hi.below hb (Nat.le_refl _)).more hb.size
    clear hb ho hi
    go_wp2_with fail
    refine (sameTexts_any _ _ _ _ _ _ _ _ _ _ hi2 hi3).mono ?_
    rintro e w4 ⟨rfl, q, rfl⟩
    have hi4 : Strs (w3.drewN q) w3.heap.size y m c (chunksB s) := hi2.drewN q
    have HB4 := Lib.hid (below_drewN HB3.out q)
    have HLEN := Lib.hid hi2.len
    have hm60 : m ≤ 60 := by have := HLEN.out; have := chunks_count s; omega
    have hmc := hi2.le
    have hcm := hi2.max
    unfold maxLen at hcm
    clear hi2 hi3
    go_wp2_with fail
    refine (textValid_any s _ hsl).mono ?_
    rintro e w' ⟨rfl, rfl⟩
    cases ht : textB s
    · have hm0 : ((m : Int) == 0) = true := by have := HLEN.out; rw [chunks_none ht] at this; simp at this; simp; omega
      go_wp2_with (go_at_call 15; refine (alive_any _).mono ?_; rintro e w' ⟨rfl, rfl⟩)
      go_ret
      exact ⟨rfl, HB4.out⟩
    · have HJ := Lib.hid (chunks_joined ht)
      go_wp2_with fail
      refine (joinChunks_any _ _ _ _ _ _ hi4 (Nat.le_refl _) (fun k => by have := chunk_size (s := s) (k := k); unfold maxLen; omega)).mono ?_
      rintro e w5 ⟨rfl, hb5⟩
      have HB5 := Lib.hid (HB4.out.trans (hb5.mono HB4.out.size))
      have hi5 := (hi4.below hb5 (Nat.le_refl _)).more hb5.size
      rw [HJ.out.1, HJ.out.2]
      have hm0 : s.size + 3 ≤ 60 → 0 < m → ((m : Int) == 0) = false := fun _ _ => by simp; omega
      by_cases h3 : 60 < (s.size : Int) + 3
      · clear hm0
        go_wp2_with (go_at_call 15; refine (alive_any _).mono ?_; rintro e w' ⟨rfl, rfl⟩)
        go_ret
        exact ⟨rfl, HB5.out⟩
      · by_cases hm : m = 0
        · have hm0 : ((m : Int) == 0) = true := by simp; omega
          clear hm
          go_wp2_with (go_at_call 15; refine (alive_any _).mono ?_; rintro e w' ⟨rfl, rfl⟩)
          go_ret
          exact ⟨rfl, HB5.out⟩
        · have hm1 := hm0 (by omega) (by omega)
          clear hm0
          have HM := Lib.hid (chunks_more ht (by omega) (by intro e; have := HLEN.out; rw [e] at this; simp at this; omega))
          have hbl : (s ++ ⟨#[98, 97, 100]⟩).size ≤ maxLen := by rw [ByteArray.size_append]; unfold maxLen; have : (ByteArray.mk #[98, 97, 100]).size = 3 := rfl; omega
          go_wp2_with fail
          refine (chunksOf_any _ _ (by assumption)).mono ?_
          rintro e w6 ⟨v, rfl, ho6, hb6⟩
          obtain ⟨y6, m6, c6, rfl, hi6⟩ := ho6.lst
          have HB6 := Lib.hid (HB5.out.trans (hb6.mono HB5.out.size))
          have hi7 := (hi5.below hb6 (Nat.le_refl _)).more hb6.size
          have hmle := HM.out.1
          rw [HLEN.out] at hmle
          have HLEN6 := Lib.hid hi6.len
          have hm6 : m ≤ m6 := by have := HLEN6.out; have e : (s ++ badB) = s ++ ⟨#[98, 97, 100]⟩ := rfl; rw [e] at hmle; omega
          have hmc6 := hi6.le
          have hcm6 := hi6.max
          unfold maxLen at hcm6
          obtain ⟨b0, off, rfl, hb0, _⟩ := hi7.atS (k := 0) (by omega)
          obtain ⟨b1, off1, rfl, hb1, _⟩ := hi6.atS (k := 0) (by omega)
          have HI7 := Lib.hid (hi7.cut (m := m - 1) (by omega))
          have HI6 := Lib.hid (hi6.cut (m := m - 1) (by omega))
          have HEQ := Lib.hid HM.out.2
          have hq0 : (0 : Int) ≤ (m : Int) - 1 := by omega
          have hq1 : (m : Int) - 1 ≤ (c6 : Int) := by omega
          have hq2 : (m : Int) - 1 ≤ (c : Int) := by omega
          clear hi6 hi7 ho6 hb6 hb5 hi4 hi5 hm hmle hb0 hb1
          go_wp2_with fail
          go_quiet (first | (go_at_call 18; refine Calls.quiet_of (sameTexts_any _ _ _ _ _ _ _ _ _ _ (HI6.out.drewN _) (HI7.out.drewN _))))
          go_wp2
          go_ret
          exact ⟨ret_bool (by have h := HEQ.out; rw [HLEN.out] at h; exact decide_eq_true h), below_drewN HB6.out _⟩
theorem joinB_mem {l : List ByteArray} {m : Nat} (h : ∀ t ∈ l, t.size ≤ m) : (joinB l).size ≤ l.length * m := by
  induction l with
  | nil => simp [joinB]
  | cons a l ih =>
    rw [joinB_cons, ByteArray.size_append, List.length_cons, Nat.succ_mul]
    have h1 := h a (by simp)
    have h2 := ih fun t ht => h t (by simp [ht])
    omega
theorem nthS_mem {l : List ByteArray} {m : Nat} (h : ∀ t ∈ l, t.size ≤ m) (k : Nat) : (nthS l k).size ≤ m := getD_size l k m h
theorem joined_text (l : List ByteArray) : joinOkB l = true → textB (joinedB l) = true ∧ (joinedB l).size ≤ 60 := by
  unfold joinOkB joinedB
  intro h
  rw [if_pos h]
  exact ⟨h, textB_bd' h⟩
theorem joined_none (l : List ByteArray) : joinOkB l = false → joinedB l = ByteArray.empty := by
  unfold joinOkB joinedB
  intro h
  rw [h]; rfl
set_option maxHeartbeats 2000000 in
theorem fnJoinChunks_any (x : Option Addr) (n cap : Nat) (w : World) (h : Bytes w.heap.size w x n) (hn : n ≤ cap) (hc : cap ≤ maxLen) :
    Calls Try.prog 5 #[.slice x n cap] w fun e w' => e = .returned (.bool true) ∧ Below w.heap.size w w' := by
  by_cases hlong : 1048576 < (n : Int)
  · go_enter Try.func5, Try.ntmps5
    go_wp2
    go_ret
    exact ⟨rfl, Below.refl _ _⟩
  · have HB0 := Lib.hid h
    have HC := Lib.hid hc
    have HL := Lib.hid hn
    clear h hc hn
    go_enter Try.func5, Try.ntmps5
    go_wp2_with fail
    refine (drawJoinChunks_any x n cap w HB0.out HL.out HC.out).mono ?_
    rintro e w1 ⟨v, l, rfl, hl, hm, ho, hb⟩
    obtain ⟨y, m, c, rfl, hi⟩ := ho.lst
    have HB := Lib.hid hb; clear hb ho
    have HM := Lib.hid hm
    have hjs := joinB_mem hm
    have hjs2 : (joinB l).size ≤ 1000000000 := by have : l.length * 61 ≤ 61 * 61 := Nat.mul_le_mul_right _ hl; omega
    clear hm hjs
    go_wp2_with fail
    refine (joinChunks_any _ _ _ _ _ _ hi (Nat.le_refl _) (fun k => by have := nthS_mem HM.out k; unfold maxLen; omega)).mono ?_
    rintro e w2 ⟨rfl, hb⟩
    have HB2 := Lib.hid (HB.out.trans (hb.mono HB.out.size))
    have hi2 := (hi.below hb (Nat.le_refl _)).more hb.size
    clear hb hi
    go_wp2_with fail
    refine (specJoinChunks_any _ _ _ _ _ _ hi2 hjs2).mono ?_
    rintro e w3 ⟨rfl, hb⟩
    have HB3 := Lib.hid (HB2.out.trans (hb.mono HB2.out.size))
    clear hb hi2
    cases hok : joinOkB l
    · have he := joined_none l hok
      rw [he]
      go_wp2_with (go_at_call 15; refine (alive_any _).mono ?_; rintro e w' ⟨rfl, rfl⟩)
      go_ret
      exact ⟨ret_bool (by first | rfl | simp), HB3.out⟩
    · obtain ⟨ht, h60⟩ := joined_text l hok
      have hsl : (joinedB l).size ≤ maxLen := by unfold maxLen; omega
      have HJ := Lib.hid (chunks_joined ht)
      generalize joinedB l = s at ht h60 hsl HJ ⊢
      clear hok
      go_wp2_with fail
      refine (chunksOf_any s _ hsl).mono ?_
      rintro e w4 ⟨v, rfl, ho, hb⟩
      obtain ⟨y4, m4, c4, rfl, hi4⟩ := ho.lst
      have HB4 := Lib.hid (HB3.out.trans (hb.mono HB3.out.size)); clear hb ho
      go_wp2_with fail
      refine (joinChunks_any _ _ _ _ _ _ hi4 (Nat.le_refl _) (fun k => by have := chunk_size (s := s) (k := k); unfold maxLen; omega)).mono ?_
      rintro e w5 ⟨rfl, hb5⟩
      have HB5 := Lib.hid (HB4.out.trans (hb5.mono HB4.out.size)); clear hb5 hi4
      rw [HJ.out.1, HJ.out.2]
      go_wp2
      go_ret
      exact ⟨ret_bool (by first | rfl | simp), HB5.out⟩
theorem cprints_at {s : ByteArray} {k : Nat} (h : k < (chunksB s).length) : nthI (cprintsB s) k = printB (nthS (chunksB s) k) := by
  unfold nthI cprintsB nthS
  rw [List.getD_eq_getElem?_getD, List.getD_eq_getElem?_getD, List.getElem?_map, List.getElem?_eq_getElem h]
  rfl
set_option maxHeartbeats 2000000 in
theorem fnChunkPrints_any (x : Option Addr) (n cap : Nat) (w : World) (h : Bytes w.heap.size w x n) (hn : n ≤ cap) (hc : cap ≤ maxLen) :
    Calls Try.prog 6 #[.slice x n cap] w fun e w' => e = .returned (.bool true) ∧ Below w.heap.size w w' := by
  by_cases hlong : 1048576 < (n : Int)
  · go_enter Try.func6, Try.ntmps6
    go_wp2
    go_ret
    exact ⟨rfl, Below.refl _ _⟩
  · have HB0 := Lib.hid h
    have HC := Lib.hid hc
    have HL := Lib.hid hn
    clear h hc hn
    go_enter Try.func6, Try.ntmps6
    go_wp2_with fail
    refine (drawChunkPrints_any x n cap w HB0.out HL.out HC.out).mono ?_
    rintro e w1 ⟨s, rfl, hs, hb⟩
    have HB := Lib.hid hb; clear hb
    have hsl : s.size ≤ maxLen := by unfold maxLen; omega
    go_wp2_with fail
    refine (chunkPrints_any s _ hsl).mono ?_
    rintro e w2 ⟨v, rfl, ho, hb⟩
    obtain ⟨y, m, c, rfl, hi⟩ := ho.ints
    have HB2 := Lib.hid (HB.out.trans (hb.mono HB.out.size)); clear hb ho
    go_wp2_with fail
    refine (specChunkPrints_any s _ hsl).mono ?_
    rintro e w3 ⟨v, rfl, ho, hb⟩
    obtain ⟨y3, m3, c3, rfl, hi3⟩ := ho.ints
    have HB3 := Lib.hid (HB2.out.trans (hb.mono HB2.out.size))
    have hi2 := (hi.below hb (Nat.le_refl _)).more hb.size
    clear hb ho hi
    go_wp2_with fail
    refine (sameInts_any _ _ _ _ _ _ _ _ _ _ hi2 hi3).mono ?_
    rintro e w4 ⟨rfl, q, rfl⟩
    have hi4 := hi2.keep (w' := w3.drewN q) fun _ _ => rfl
    have HB4 := Lib.hid (below_drewN HB3.out q)
    have HLEN := Lib.hid (show (chunksB s).length = m by rw [← cprints_len]; exact hi2.len)
    have hm60 : m ≤ 60 := by have := HLEN.out; have := chunks_count s; omega
    clear hi2 hi3
    go_wp2_with fail
    refine (chunksOf_any s _ hsl).mono ?_
    rintro e w5 ⟨v, rfl, ho, hb⟩
    obtain ⟨y5, m5, c5, rfl, hi5⟩ := ho.lst
    have HB5 := Lib.hid (HB4.out.trans (hb.mono HB4.out.size))
    have HI4 := Lib.hid ((hi4.below hb (Nat.le_refl _)).more hb.size)
    have hm5 : m5 = m := by have := hi5.len; have := HLEN.out; omega
    subst hm5
    have HI5 := Lib.hid hi5
    clear hb ho hi4 hi5
    go_wp2_with fail
    go_loopw [6] (fun i wr => ∃ k : Nat, k ≤ m5 ∧ i = .int .i64 k ∧ ∃ p, wr = w5.drewN p) (fun i _ => m5 - (intOf i).toNat)
    case atStart => exact ⟨0, by omega, rfl, 0, rfl⟩
    case round =>
      obtain ⟨k, hk, rfl, hp⟩ := hrel
      have HP := Lib.hid hp; clear hp
      by_cases hlt : k < m5
      · have hz := chunk_size (s := s) (k := k)
        have hz' : (nthS (chunksB s) k).size ≤ maxLen := by unfold maxLen; omega
        obtain ⟨b0, off, rfl, hb0, hcell⟩ := (HI4.out.keep (w' := wr) (by obtain ⟨p, rfl⟩ := HP.out; intro _ _; rfl)).at hlt
        obtain ⟨b1, off1, rfl, hb1, hcell1⟩ := (HI5.out.keep (w' := wr) (by obtain ⟨p, rfl⟩ := HP.out; intro _ _; rfl)).atS hlt
        rw [cprints_at (by have := HLEN.out; omega)] at hcell
        have hd : (decide (printB (nthS (chunksB s) k) = printB (nthS (chunksB s) k))) = true := by simp
        go_wp2_with fail
        go_quiet (first | (go_at_call 27; refine Calls.quiet_of_same ((printOf_any _ _ hz').mono fun _ _ h => ⟨h.1, h.2.symm⟩)))
        go_wp2
        go_roundw
        case rel => exact ⟨k + 1, by omega, by go_num, by obtain ⟨p, rfl⟩ := HP.out; exact ⟨_, by rw [World.drewN_drewN]⟩⟩
        case measure => simp [intOf]; omega
      · obtain rfl : k = m5 := by omega
        go_wp2_with (go_at_call 15; refine (alive_any _).mono ?_; rintro e w' ⟨rfl, rfl⟩)
        go_ret
        exact ⟨ret_bool (by first | rfl | simp), by obtain ⟨p, rfl⟩ := HP.out; exact below_drewN HB5.out p⟩
end Go.Proofs.Ytefcmpbjfcpdeaa
