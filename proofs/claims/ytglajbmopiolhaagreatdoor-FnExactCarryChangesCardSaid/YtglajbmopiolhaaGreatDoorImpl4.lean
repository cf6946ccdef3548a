/-
  Contracts of chapter 4's program: where a print stands in a store.
-/
import Derived.Test.YtglajbmopiolhaaGreatDoorStores2
import Derived.Test.YtglajbmopiolhaaGreatDoorChunks
import Derived.Test.YtglajbmopiolhaaGreatDoorMem
import Derived.Test.YtglajbmopiolhaaGreatDoorArgs
import Derived.Laws.Externs
import Derived.Shelf.RegionOpenPlain
import Derived.Test.YtglajbmopiolhaaGreatDoorStores
namespace Go.Proofs.YtglajbmopiolhaaGreatDoor
open Go.RowKit
set_option linter.unusedVariables false
def cmpB (x y : Int) : Int := if x < y then -1 else if y < x then 1 else 0
theorem isNaN_any (x : Int) (w : World) : Calls Tryz.prog 158 #[.int .i64 x] w fun e w' => e = .returned (.bool false) ∧ w = w' := by
  have h : (x != x) = false := by simp
  go_enter Tryz.func158, Tryz.ntmps158
  go_wp2
  go_ret
  exact ⟨rfl, rfl⟩
theorem compare_any (x y : Int) (w : World) : Calls Tryz.prog 147 #[.int .i64 x, .int .i64 y] w fun e w' => e = .returned (.int .i64 (cmpB x y)) ∧ w = w' := by
  by_cases h1 : x < y
  · have HF := Lib.hid (show cmpB x y = -1 by unfold cmpB; rw [if_pos h1])
    go_enter Tryz.func147, Tryz.ntmps147
    go_wp2_with (go_at_call 158; refine (isNaN_any _ _).mono ?_; rintro e w' ⟨rfl, rfl⟩)
    go_ret
    exact ⟨ret_int HF.out.symm, rfl⟩
  · by_cases h2 : y < x
    · have HF := Lib.hid (show cmpB x y = 1 by unfold cmpB; rw [if_neg h1, if_pos h2])
      have h3 : x > y := h2
      go_enter Tryz.func147, Tryz.ntmps147
      go_wp2_with (go_at_call 158; refine (isNaN_any _ _).mono ?_; rintro e w' ⟨rfl, rfl⟩)
      go_ret
      exact ⟨ret_int HF.out.symm, rfl⟩
    · have HF := Lib.hid (show cmpB x y = 0 by unfold cmpB; rw [if_neg h1, if_neg h2])
      go_enter Tryz.func147, Tryz.ntmps147
      go_wp2_with (go_at_call 158; refine (isNaN_any _ _).mono ?_; rintro e w' ⟨rfl, rfl⟩)
      go_ret
      exact ⟨ret_int HF.out.symm, rfl⟩
theorem comparePrint_any (p : Pc) (y : Int) (w : World) : Calls Tryz.prog 134 #[.agg #[.int .i64 p.1, .string p.2], .int .i64 y] w (BelowI (cmpB p.1 y) w) := by
  go_enter Tryz.func134, Tryz.ntmps134
  go_wp2_with (go_at_call 147; refine (compare_any _ _ _).mono ?_; rintro e w' ⟨rfl, rfl⟩)
  go_ret
  exact ⟨rfl, (Below.refl _ _).alloc (Nat.le_refl _) _⟩
/-- Prints ascend. -/
def AscP (l : List Pc) : Prop := ∀ i j, i < j → j < l.length → (nthP l i).1 < (nthP l j).1
theorem store_asc {l : List Pc} (h : storeB l = true) : AscP l := fun i j hij hj => by
  rw [nthP_get (by omega), nthP_get hj]
  exact List.pairwise_iff_getElem.1 (storeB_iff.1 h).2.2 i j (by omega) hj hij
theorem cmpB_lt {x y : Int} : (cmpB x y < 0) ↔ x < y := by unfold cmpB; (repeat' split) <;> omega
theorem cmpB_eq {x y : Int} : (cmpB x y = 0) ↔ x = y := by unfold cmpB; (repeat' split) <;> omega
set_option maxHeartbeats 1000000 in
theorem search_any (x : Option Addr) (n cap : Nat) (l : List Pc) (t : Int) (B : Nat) (w : World) (h : Pcs w B x n cap l) (hB : B ≤ w.heap.size) (hs : AscP l) (hn : n ≤ 1000000) :
    Calls Tryz.prog 133 #[.slice x n cap, .int .i64 t, .func (.func 134) #[] #[]] w fun e w' => e = .returned (.tuple #[.int .i64 (atP t l : Nat), .bool (hereP t l)]) ∧ Below w.heap.size w w' := by
  have HL := Lib.hid h.len
  have HH := Lib.hid h
  have HS := Lib.hid hs
  have hmx := h.max
  have hle := h.le
  clear h hs
  unfold maxLen at hmx
  go_enter Tryz.func133, Tryz.ntmps133
  go_wp2
  go_loopw [9, 10, 11] (fun i j _ wr => ∃ a b : Nat, a ≤ b ∧ b ≤ n ∧ i = .int .i64 a ∧ j = .int .i64 b ∧ (∀ k, k < a → (nthP l k).1 < t) ∧ (∀ k, b ≤ k → k < n → t ≤ (nthP l k).1) ∧ Below w.heap.size w wr) (fun i j _ _ => (intOf j).toNat - (intOf i).toNat)
  case atStart => exact ⟨0, n, by omega, Nat.le_refl _, rfl, rfl, fun k hk => by omega, fun k hk hk' => by omega, Below.refl _ _⟩
  case round =>
    obtain ⟨a, b, hab, hbn, rfl, rfl, hlo, hhi, hb⟩ := hrel
    have HLO := Lib.hid hlo; have HHI := Lib.hid hhi; have HB := Lib.hid hb; clear hlo hhi hb
    by_cases hlt : a < b
    · have hmb : (a + b) / 2 < n := by omega
      obtain ⟨b0, off, rfl, hb0, hc0, hc1⟩ := (HH.out.below HB.out hB).atP hmb
      obtain ⟨q, hq⟩ : ∃ q, q = nthP l ((a + b) / 2) := ⟨_, rfl⟩
      rw [← hq] at hc0 hc1
      by_cases hx : q.1 < t
      · have hc : cmpB q.1 t < 0 := cmpB_lt.2 hx
        have HX := Lib.hid (show ∀ k, k < (a + b) / 2 + 1 → (nthP l k).1 < t from fun k hk => by
          rcases Nat.lt_succ_iff_lt_or_eq.1 hk with h | rfl
          · have := HS.out k _ h (by have := HL.out; omega); rw [← hq] at this; omega
          · rw [← hq]; exact hx)
        clear hq
        go_wp2_with (go_at_call 134; refine (comparePrint_any q _ _).mono ?_; rintro e w2 ⟨rfl, hb⟩; have HB2 := Lib.hid (HB.out.trans (hb.mono HB.out.size)); clear hb)
        go_roundw
        case rel => exact ⟨(a + b) / 2 + 1, b, by omega, hbn, by go_num, rfl, HX.out, HHI.out, HB2.out⟩
        case measure => simp [intOf]; omega
      · have hc : ¬ cmpB q.1 t < 0 := fun h => hx (cmpB_lt.1 h)
        have HX := Lib.hid (show ∀ k, (a + b) / 2 ≤ k → k < n → t ≤ (nthP l k).1 from fun k hk hkn => by
          rcases Nat.lt_or_eq_of_le hk with h | rfl
          · have := HS.out _ k h (by have := HL.out; omega); rw [← hq] at this; omega
          · rw [← hq]; omega)
        clear hq
        go_wp2_with (go_at_call 134; refine (comparePrint_any q _ _).mono ?_; rintro e w2 ⟨rfl, hb⟩; have HB2 := Lib.hid (HB.out.trans (hb.mono HB.out.size)); clear hb)
        go_roundw
        case rel => exact ⟨a, (a + b) / 2, by omega, by omega, rfl, by go_num, HLO.out, HX.out, HB2.out⟩
        case measure => simp [intOf]; omega
    · obtain rfl : a = b := by omega
      have HA := Lib.hid (atP_eq (p := t) (l := l) (k := a) (by have := HL.out; omega) HLO.out (by
        rcases Nat.lt_or_ge a n with h | h
        · exact .inr (by have := HHI.out a (Nat.le_refl _) h; omega)
        · left; have := HL.out; omega))
      by_cases hlt2 : a < n
      · obtain ⟨b0, off, rfl, hb0, hc0, hc1⟩ := (HH.out.below HB.out hB).atP hlt2
        obtain ⟨q, hq⟩ : ∃ q, q = nthP l a := ⟨_, rfl⟩
        rw [← hq] at hc0 hc1
        have hd : ((a : Int) < (n : Int)) := by omega
        by_cases hx : q.1 = t
        · have hc : (cmpB q.1 t == 0) = true := by simpa using cmpB_eq.2 hx
          have HX := Lib.hid (hereP_yes HA.out (by have := HL.out; omega) (by rw [← hq]; exact hx))
          clear hq hx
          go_wp2_with (go_at_call 134; refine (comparePrint_any q _ _).mono ?_; rintro e w2 ⟨rfl, hb⟩; have HB2 := Lib.hid (HB.out.trans (hb.mono HB.out.size)); clear hb)
          go_ret2
          exact ⟨by rw [HA.out, HX.out]; rfl, HB2.out⟩
        · have hc : (cmpB q.1 t == 0) = false := by simpa using fun h => hx (cmpB_eq.1 h)
          have HX := Lib.hid (hereP_no2 HA.out (by rw [← hq]; exact hx))
          clear hq hx
          go_wp2_with (go_at_call 134; refine (comparePrint_any q _ _).mono ?_; rintro e w2 ⟨rfl, hb⟩; have HB2 := Lib.hid (HB.out.trans (hb.mono HB.out.size)); clear hb)
          go_ret2
          exact ⟨by rw [HA.out, HX.out]; rfl, HB2.out⟩
      · have hd : ¬ ((a : Int) < (n : Int)) := by omega
        have HX := Lib.hid (hereP_no1 HA.out (by have := HL.out; omega))
        go_wp2
        go_ret2
        exact ⟨by rw [HA.out, HX.out]; rfl, HB.out⟩
theorem placeOf_any (x : Option Addr) (n cap : Nat) (l : List Pc) (t : Int) (B : Nat) (w : World) (h : Pcs w B x n cap l) (hB : B ≤ w.heap.size) (hs : AscP l) (hn : n ≤ 1000000) :
    Calls Tryz.prog 115 #[.slice x n cap, .int .i64 t] w fun e w' => e = .returned (.tuple #[.int .i64 (atP t l : Nat), .bool (hereP t l)]) ∧ Below w.heap.size w w' := by
  have HH := Lib.hid h
  clear h
  go_enter Tryz.func115, Tryz.ntmps115
  go_wp2_with (go_at_call 133; refine (search_any _ _ _ _ _ _ _ HH.out hB hs hn).mono ?_; rintro e w' ⟨rfl, hb⟩)
  go_ret2
  exact ⟨rfl, hb⟩
theorem two_at {w : World} {r : Nat} {u v : Value} {t : TypeId} (h : w.heap[r]? = some (.cells #[u, v] t (0, 0))) :
    w.cell? ⟨r, 0, none⟩ = some u ∧ w.cell? ⟨r, 1, none⟩ = some v ∧ w.frozen? ⟨r, 0, none⟩ = false ∧ w.frozen? ⟨r, 1, none⟩ = false := by
  refine ⟨?_, ?_, ?_, ?_⟩ <;> simp [World.cell?, World.frozen?, h]
/-- A piece and its copy. -/
theorem copyPiece_any (p : Pc) (w : World) (hz : p.2.size ≤ 1000000) : Calls Tryz.prog 75 #[.agg #[.int .i64 p.1, .string p.2]] w fun e w' => e = .returned (.agg #[.int .i64 p.1, .string p.2]) ∧ Below w.heap.size w w' := by
  have hlay : ∀ w2, Below ((w.alloc (.cells #[.int .i64 p.1, .string p.2] 57)).alloc (.cells #[.int .i64 0, .string ⟨#[]⟩] 57)).drew.heap.size ((w.alloc (.cells #[.int .i64 p.1, .string p.2] 57)).alloc (.cells #[.int .i64 0, .string ⟨#[]⟩] 57)).drew w2 →
      w2.heap[w.heap.size]? = some (.cells #[.int .i64 p.1, .string p.2] 57 (0, 0)) ∧ w2.heap[w.heap.size + 1]? = some (.cells #[.int .i64 0, .string ⟨#[]⟩] 57 (0, 0)) ∧ Below w.heap.size w w2 := fun w2 hb => by
    have e0 : ((w.alloc (.cells #[.int .i64 p.1, .string p.2] 57)).alloc (.cells #[.int .i64 0, .string ⟨#[]⟩] 57)).drew.heap.size = w.heap.size + 2 := by simp [World.drew]
    refine ⟨(hb.block _ (by omega)).trans ?_, (hb.block _ (by omega)).trans ?_, ?_⟩
    · show ((w.alloc _).alloc _).heap[w.heap.size]? = _
      rw [Below.heap_alloc _ _ _ (by simp), heap_alloc_new]
    · show ((w.alloc _).alloc _).heap[w.heap.size + 1]? = _
      have := heap_alloc_new (w.alloc (.cells #[.int .i64 p.1, .string p.2] 57)) (.cells #[.int .i64 0, .string ⟨#[]⟩] 57)
      simpa using this
    · exact below_drewn (((Below.refl _ _).alloc (Nat.le_refl _) _).alloc (by simp) _) hb (by simp; omega)
  have HLAY := Lib.hid hlay
  clear hlay
  go_enter Tryz.func75, Tryz.ntmps75
  go_wp2
  go_region_with (go_at_call 97; refine (clone_any _ _ hz).mono ?_; rintro e w2 ⟨rfl, hb2⟩; obtain ⟨h1, h2, h3⟩ := HLAY.out _ hb2; obtain ⟨c0, c1, f0, f1⟩ := two_at h1; obtain ⟨d0, d1, g0, g1⟩ := two_at h2; have HB2 := Lib.hid h3; clear hb2 h1 h2 h3)
  all_goals
    go_wp2
    refine bodyPost_ret (v := .agg #[.int .i64 p.1, .string p.2]) ?_ rfl ⟨rfl, (HB2.out.setCell (p := ⟨w.heap.size + 1, 0, none⟩) (by simp) _).setCell (p := ⟨w.heap.size + 1, 1, none⟩) (by simp) _⟩
    simp [results, Tryz.results75, go_sem, d0, d1]
end Go.Proofs.YtglajbmopiolhaaGreatDoor
/-
  Contracts of chapter 4's program: copies of stores; valid stores.
-/
namespace Go.Proofs.YtglajbmopiolhaaGreatDoor
open Go.RowKit
set_option linter.unusedVariables false
theorem copyPieces_any (x : Option Addr) (n cap : Nat) (l : List Pc) (B : Nat) (w : World) (h : Pcs w B x n cap l) (hB : B ≤ w.heap.size) (hz : ∀ k, (nthP l k).2.size ≤ 1000000) (hn : n ≤ 1000000) : Calls Tryz.prog 49 #[.slice x n cap] w (NewP l w) := by
  have HL := Lib.hid h.len
  have HH := Lib.hid h
  have HZ := Lib.hid hz
  have hmx := h.max
  have hle := h.le
  clear h hz
  unfold maxLen at hmx
  go_enter Tryz.func49, Tryz.ntmps49
  go_wp2
  go_loopw [3, 5, 8] (fun v _ i wr => ∃ k : Nat, k ≤ n ∧ i = .int .i64 k ∧ OwnP wr w.heap.size v (l.take k) ∧ Below w.heap.size w wr) (fun _ _ i _ => n - (intOf i).toNat)
  case atStart => exact ⟨0, by omega, rfl, OwnL.nil _ _ _ _ _, Below.refl _ _⟩
  case round =>
    obtain ⟨k, hk, rfl, ho, hb⟩ := hrel
    have HO := Lib.hid ho; have HB := Lib.hid hb; clear ho hb
    have hsz := HB.out.size
    by_cases hlt : k < n
    · obtain ⟨b0, off, rfl, hb0, hc0, hc1⟩ := (HH.out.below HB.out hB).atP hlt
      have HT := Lib.hid (take_snocP (l := l) (k := k) (by have := HL.out; omega))
      have hlen : (l.take k).length ≤ 2000000 := by rw [List.length_take]; omega
      have hzk := HZ.out k
      obtain ⟨q, hq⟩ : ∃ q, q = nthP l k := ⟨_, rfl⟩
      rw [← hq] at hc0 hc1 hzk HT
      clear hq
      go_wp2_with (first
        | (go_at_call 75; refine (copyPiece_any q _ hzk).mono ?_; rintro e w2 ⟨rfl, hb2⟩; have HO2 := Lib.hid ((HO.out.alloc (.cells #[.int .i64 q.1, .string q.2] 57)).below hb2); have HB2 := Lib.hid ((HB.out.alloc hsz (.cells #[.int .i64 q.1, .string q.2] 57)).trans (hb2.mono (by simp; omega))); have hsz2 := HB2.out.size; clear hb2)
        | (at_builtin; refine wpList_app1L eltPc encPc q _ rfl HO2.out hlen hsz2 rfl _ _ rfl rfl rfl ?_; intro v' w' hown hgrow; have HW := Lib.hid hown; have HG := Lib.hid hgrow; clear hown hgrow))
      go_roundw
      case rel => exact ⟨k + 1, by omega, by go_num, by rw [HT.out]; exact HW.out, HB2.out.grown HG.out hsz2 HO2.out.at⟩
      case measure => simp [intOf]; omega
    · have HX := Lib.hid (show l.take k = l from List.take_of_length_le (by have := HL.out; omega))
      go_wp2
      go_ret
      exact ⟨_, rfl, by rw [← HX.out]; exact HO.out, HB.out⟩
theorem implStoreValid_any (x : Option Addr) (n cap : Nat) (l : List Pc) (B : Nat) (w : World) (h : Pcs w B x n cap l) (hB : B ≤ w.heap.size) (hz : ∀ k, (nthP l k).2.size ≤ maxLen) : Calls Tryz.prog 12 #[.slice x n cap] w (BelowB (storeB l) w) := by
  have HL := Lib.hid h.len
  have HH := Lib.hid h
  have HZ := Lib.hid hz
  have hmx := h.max
  have hle := h.le
  clear h hz
  unfold maxLen at hmx
  by_cases hbig : 40 < n
  · have HF := Lib.hid (show storeB l = false by unfold storeB; rw [decide_eq_false (by have := HL.out; omega)]; rfl)
    go_enter Tryz.func12, Tryz.ntmps12
    go_wp2
    go_ret
    exact ⟨ret_bool HF.out.symm, Below.refl _ _⟩
  go_enter Tryz.func12, Tryz.ntmps12
  go_wp2
  go_loopw [3, 4, 10] (fun _ _ i wr => ∃ k : Nat, k ≤ n ∧ i = .int .i64 k ∧ (∀ j, j < k → okAt l j = true) ∧ Below w.heap.size w wr) (fun _ _ i _ => n - (intOf i).toNat)
  case atStart => exact ⟨0, by omega, rfl, fun j hj => by omega, Below.refl _ _⟩
  case round =>
    obtain ⟨k, hk, rfl, ha, hb⟩ := hrel
    have HA := Lib.hid ha; have HB := Lib.hid hb; clear ha hb
    have hsz := HB.out.size
    by_cases hlt : k < n
    · have hkl : k < l.length := by have := HL.out; omega
      obtain ⟨b0, off, rfl, hb0, hc0, hc1⟩ := (HH.out.below HB.out hB).atP hlt
      have hzk := HZ.out k
      obtain ⟨W, hW⟩ : ∃ W, wr.alloc (.cells #[.int .i64 (nthP l k).1, .string (nthP l k).2] 57) = W := ⟨_, rfl⟩
      have HV := Lib.hid hW
      have hBW := HB.out.alloc hsz (.cells #[.int .i64 (nthP l k).1, .string (nthP l k).2] 57)
      have hnew := heap_alloc_new wr (.cells #[.int .i64 (nthP l k).1, .string (nthP l k).2] 57)
      rw [hW] at hBW hnew
      obtain ⟨p0, p1, p2, p3⟩ := two_at hnew
      have HBW := Lib.hid hBW
      have HHW := Lib.hid (HH.out.below hBW hB)
      clear hW hnew hBW p2 p3
      cases ht : textB (nthP l k).2
      · have HF := Lib.hid (storeB_bad hkl (okAt_no1 ht))
        go_wp2
        rw [HV.out]
        go_quiet (first | (go_at_call 41; refine Calls.quiet_of_same ((textValid_any _ _ hzk).mono fun _ _ h => ⟨h.1, h.2.symm⟩)) | (go_at_call 42; refine Calls.quiet_of_same ((printOf_any _ _ hzk).mono fun _ _ h => ⟨h.1, h.2.symm⟩)))
        go_wp2
        go_ret
        exact ⟨ret_bool HF.out.symm, below_drewN HBW.out _⟩
      · by_cases he : (nthP l k).1 = printB (nthP l k).2
        · have hd : ((nthP l k).1 != printB (nthP l k).2) = false := by simpa using he
          by_cases h0 : k = 0
          · have HR := Lib.hid (okAt_yes ht he.symm (.inl h0))
            have hd0 : (decide (0 < k)) = false := by simp; omega
            clear he h0
            go_wp2
            rw [HV.out]
            go_quiet (first | (go_at_call 41; refine Calls.quiet_of_same ((textValid_any _ _ hzk).mono fun _ _ h => ⟨h.1, h.2.symm⟩)) | (go_at_call 42; refine Calls.quiet_of_same ((printOf_any _ _ hzk).mono fun _ _ h => ⟨h.1, h.2.symm⟩)))
            go_wp2
            go_quiet (fail)
            go_wp2
            go_roundw
            case rel => exact ⟨k + 1, by omega, by go_num, fun j hj => by rcases Nat.lt_succ_iff_lt_or_eq.1 hj with h | rfl; exact HA.out j h; exact HR.out, below_drewN HBW.out _⟩
            case measure => simp [intOf]; omega
          · have hd0 : (decide (0 < k)) = true := by simp; omega
            have hcp := Lst.atPrev HHW.out hlt (by omega)
            have hk1 : 1 ≤ k := by omega
            by_cases h3 : (nthP l (k - 1)).1 < (nthP l k).1
            · have HR := Lib.hid (okAt_yes ht he.symm (.inr h3))
              clear he h0
              go_wp2
              rw [HV.out]
              go_quiet (first | (go_at_call 41; refine Calls.quiet_of_same ((textValid_any _ _ hzk).mono fun _ _ h => ⟨h.1, h.2.symm⟩)) | (go_at_call 42; refine Calls.quiet_of_same ((printOf_any _ _ hzk).mono fun _ _ h => ⟨h.1, h.2.symm⟩)))
              go_wp2
              go_quiet (fail)
              go_wp2
              go_roundw
              case rel => exact ⟨k + 1, by omega, by go_num, fun j hj => by rcases Nat.lt_succ_iff_lt_or_eq.1 hj with h | rfl; exact HA.out j h; exact HR.out, below_drewN HBW.out _⟩
              case measure => simp [intOf]; omega
            · have HF := Lib.hid (storeB_bad hkl (okAt_no3 h0 h3))
              clear he h0
              go_wp2
              rw [HV.out]
              go_quiet (first | (go_at_call 41; refine Calls.quiet_of_same ((textValid_any _ _ hzk).mono fun _ _ h => ⟨h.1, h.2.symm⟩)) | (go_at_call 42; refine Calls.quiet_of_same ((printOf_any _ _ hzk).mono fun _ _ h => ⟨h.1, h.2.symm⟩)))
              go_wp2
              go_quiet (fail)
              go_wp2
              go_ret
              exact ⟨ret_bool HF.out.symm, below_drewN (below_drewN HBW.out _) _⟩
        · have HF := Lib.hid (storeB_bad hkl (okAt_no2 fun h => he h.symm))
          have hd : ((nthP l k).1 != printB (nthP l k).2) = true := by simpa using he
          clear he
          go_wp2
          rw [HV.out]
          go_quiet (first | (go_at_call 41; refine Calls.quiet_of_same ((textValid_any _ _ hzk).mono fun _ _ h => ⟨h.1, h.2.symm⟩)) | (go_at_call 42; refine Calls.quiet_of_same ((printOf_any _ _ hzk).mono fun _ _ h => ⟨h.1, h.2.symm⟩)))
          go_wp2
          go_ret
          exact ⟨ret_bool HF.out.symm, below_drewN HBW.out _⟩
    · have HF := Lib.hid (storeB_end (l := l) (fun j hj => HA.out j (by have := HL.out; omega)))
      go_wp2
      go_ret
      exact ⟨ret_bool (by rw [HF.out, HL.out]; simp; omega), HB.out⟩
end Go.Proofs.YtglajbmopiolhaaGreatDoor
/-
  Contracts of chapter 4's program: a piece is put in its place.
-/
namespace Go.Proofs.YtglajbmopiolhaaGreatDoor
open Go.RowKit
set_option linter.unusedVariables false
theorem overlaps_no (w : World) (a b : Addr) (la ca lb cb : Nat) (hne : a.block ≠ b.block) (cs1 cs2 : Array Value) (h1 : w.heap[a.block]? = some (.cells cs1 57 (0, 0))) (h2 : w.heap[b.block]? = some (.cells cs2 57 (0, 0))) (hz : cs2.size ≠ 0) :
    (callFunc 160 #[.slice (some a) la ca, .slice (some b) lb cb]).run Tryz.prog w = .ok (.value (.bool false)) w := by
  obtain ⟨i, hi, _, hsz, _⟩ := eltPc.info
  rw [run_callFunc_extern Tryz.func160 (by kernel_rfl) (by kernel_rfl) (by kernel_rfl) (e := Extern.SlicesOverlaps.overlaps #[23, 23] #[4]) (by kernel_rfl),
    Lib.run_overlaps_apart w 23 4 57 eltPc.und 2 (fun w => by simp [sizeOf, typeInfo, hi, hsz]) a b la ca lb cb hne 57 57 cs1.size cs2.size (by simp [World.shape?, h1]) (by simp [World.shape?, h2]) hz (by simp [World.frozen?, h1]) (by simp [World.frozen?, h1])]
  rfl
/-- What putting an element in leaves. -/
def PutIn (l : List Pc) (base : Nat) (w : World) (e : Ending) (w' : World) : Prop := ∃ v', e = .returned v' ∧ OwnP w' base v' l ∧ Below base w w'
theorem own_parts {w : World} {base n cap : Nat} {x : Option Addr} {l : List Pc} (h : OwnP w base (.slice x n cap) l) (hn : 0 < n) : ∃ g cur, x = some ⟨g, 0, none⟩ ∧ base ≤ g ∧ RowIs w g 57 cur ∧ l.length = n ∧ n ≤ cap ∧ cap ≤ maxLen ∧ cur.length = cap * 2 ∧ cur.take (n * 2) = l.flatMap pcG := by
  obtain ⟨hl, h2⟩ := h
  rcases h2 with ⟨e, e'⟩ | ⟨g, cap', cur, e, hb, hg, hle, hm, hs, ht⟩
  · simp only [Value.slice.injEq] at e; omega
  · simp only [Value.slice.injEq] at e
    obtain ⟨rfl, rfl, rfl⟩ := e
    exact ⟨g, cur.toList, rfl, hb, by unfold RowIs; rw [Array.toArray_toList]; exact hg, rfl, hle, hm, by rw [Array.length_toList]; exact hs, ht⟩
set_option maxHeartbeats 4000000 in
set_option maxRecDepth 100000 in
theorem insert_any (x : Option Addr) (n cap k kE base : Nat) (l : List Pc) (q : Pc) (w : World) (ho : OwnP w base (.slice x n cap) l) (hl : l.length = n) (hE : OneAt pcG 57 w kE q) (hne : (Value.slice x n cap).ownBlock ≠ some kE) (hk : k ≤ n) (hn : n ≤ 1000) (hbase : base ≤ w.heap.size) :
    Calls Tryz.prog 151 #[.slice x n cap, .int .i64 k, .slice (some ⟨kE, 0, none⟩) 1 1] w (PutIn (l.take k ++ q :: l.drop k) base w) := by
  have hlst := ho.lst'
  have hle := hlst.le
  have hmx := hlst.max
  clear hlst
  unfold maxLen at hmx
  by_cases hkn : k = n
  · subst hkn
    have HF := Lib.hid (show l.take k ++ q :: l.drop k = l ++ [q] by rw [List.take_of_length_le (by omega), List.drop_of_length_le (by omega)])
    have HO := Lib.hid ho
    have HE := Lib.hid hE
    have hln : l.length ≤ 2000000 := by omega
    clear hl hE hne ho
    go_enter Tryz.func151, Tryz.ntmps151
    go_wp2_with (at_builtin; refine wpList_appL eltPc encPc HO.out HE.out.lst hln (by decide) hbase rfl _ _ rfl rfl rfl ?_; intro v' w' hown hgrow hat; have HOWN := Lib.hid hown; have HGR := Lib.hid hgrow; clear hown hgrow hat)
    all_goals
      go_ret
      exact ⟨_, rfl, by rw [HF.out]; exact HOWN.out, (Below.refl _ _).grown HGR.out hbase (fun j e => HO.out.at j e)⟩
  · obtain ⟨g, cur, rfl, hg, hrow, _, _, _, hcl, hct⟩ := own_parts ho (by omega)
    have hkn' : k < n := by omega
    have htl : ((l.drop k).flatMap pcG).length = (n - k) * 2 := by rw [encPc.length, List.length_drop, hl]
    have hcur : ∀ j u, (l.flatMap pcG)[j]? = some u → cur[j]? = some u := fun j u h1 => by
      rw [← hct, List.getElem?_take] at h1
      split at h1
      · exact h1
      · cases h1
    have hcurD : ∀ j u, ((l.drop k).flatMap pcG)[j]? = some u → cur[k * 2 + j]? = some u := fun j u hj => hcur _ _ (by
      rw [← List.getElem?_drop, flat_drop encPc]; exact hj)
    have hcurT : ∀ j u, ((l.take k).flatMap pcG)[j]? = some u → cur[j]? = some u := fun j u hj => hcur _ _ (by
      have h2 : l.flatMap pcG = (l.take k).flatMap pcG ++ (l.drop k).flatMap pcG := by rw [← List.flatMap_append, List.take_append_drop]
      rw [h2, List.getElem?_append_left (List.getElem?_eq_some_iff.1 hj).1]; exact hj)
    have HROW := Lib.hid hrow
    have mixed : Tryz.prog.follows Departure.mixedOrders = true := by kernel_rfl
    have hw1 : IntKind.i64.wrap ((k : Int) + 1) = (k : Int) + 1 := by rw [IntKind.wrap_i64]; omega
    have htn : ((k : Int) + 1).toNat = k + 1 := by omega
    have h11 := encPc.oneAll (l.drop k)
    have h12 := encPc.one q
    have hz2 : ¬ ((k : Int) = (n : Int)) := by omega
    have hb4 : ¬ (cap = k) := by omega
    have hb5 : (0 : Int) ≤ (k : Int) + 1 := by omega
    obtain ⟨cs1, hc1, hE1⟩ := hE
    have hgE : kE ≠ g := fun e => hne (by rw [e]; rfl)
    have hb6 : k ≤ n := hk
    by_cases hroom : cap < n + 1
    · have hz3 : (cap : Int) < (n : Int) + 1 := by omega
      have hb3 : (k : Int) ≤ (n : Int) := by omega
      have HKK := Lib.hid (show (n : Int) + 1 - (k : Int) = ((n + 1 - k : Nat) : Int) by omega)
      have htl0 : ((l.take k).flatMap pcG).length = k * 2 := by rw [encPc.length, List.length_take, Nat.min_eq_left (by omega)]
      have hold : ∀ j v, ((l.take k).flatMap pcG)[j]? = some v → w.cell? ((⟨g, 0, none⟩ : Addr).add j) = some v := fun j v hj => by
        rw [addr_add, Nat.zero_add]; exact RowIs.cell HROW.out (hcurT j v hj)
      have hkpos : 0 < n + 1 - k := by omega
      have hroomZ : cap < k + (n + 1 - k) := by omega
      have hsumZ : k + (n + 1 - k) ≤ 2000000 := by omega
      have hgw : g < w.heap.size := (Array.getElem?_eq_some_iff.1 hrow).1
      have hkw : kE < w.heap.size := (Array.getElem?_eq_some_iff.1 hE1).1
      have HTL := Lib.hid htl; have HTL0 := Lib.hid htl0; have HOLD := Lib.hid hold; have HCD := Lib.hid hcurD
      have hik : k + (n + 1 - k) = n + 1 := by omega
      have hgN : g ≠ w.heap.size := by omega
      have hkN : kE ≠ w.heap.size := by omega
      have HS2 := Lib.hid (show ∀ W : World, W.heap[kE]? = w.heap[kE]? → ∀ j v, (pcG q)[j]? = some v → W.cell? ((⟨kE, 0, none⟩ : Addr).add j) = some v from fun W hW j v hj => by
        rw [addr_add, Nat.zero_add, cell_of_row W kE j cs1 57 (0, 0) (hW.trans hE1)]
        rw [← hc1] at hj; simpa using hj)
      have HS3 := Lib.hid (show ∀ W : World, W.heap[g]? = w.heap[g]? → ∀ j v, ((l.drop k).flatMap pcG)[j]? = some v → W.cell? ((⟨g, k * 2, none⟩ : Addr).add j) = some v from fun W hW j v hj => by
        rw [addr_add]; exact RowIs.cell (show RowIs W g 57 cur from hW.trans HROW.out) (hcurD j v hj))
      have HFIN := Lib.hid (show ∀ (rest : List Value) (G : Nat) (w' : World), rest.length = (G - k) * 2 → n + 1 ≤ G → G ≤ maxLen → RowIs w' w.heap.size 57 (laid (laid ((l.take k).flatMap pcG ++ rest) (k * 2) (pcG q)) ((k + 1) * 2) ((l.drop k).flatMap pcG)) → OwnP w' base (.slice (some ⟨w.heap.size, 0, none⟩) (n + 1) G) (l.take k ++ q :: l.drop k) from fun rest G w' hr hG hGm hrow' => by
        obtain ⟨A, X, Y, Z, hL, hAt, hA, hX, hY⟩ := parts4 ((l.take k).flatMap pcG ++ rest) (k * 2) 2 ((n - k) * 2) (by rw [List.length_append, htl0, hr]; omega)
        have hAl : A = (l.take k).flatMap pcG := by rw [hAt, List.take_left' htl0]
        have hfin : laid (laid ((l.take k).flatMap pcG ++ rest) (k * 2) (pcG q)) ((k + 1) * 2) ((l.drop k).flatMap pcG) = A ++ pcG q ++ (l.drop k).flatMap pcG ++ Z := by
          rw [hL]; exact laid_head hA (by omega) (by rw [hX]; rfl) (by rw [htl, hY])
        have hLl := congrArg List.length hL
        simp only [List.length_append, htl0, hr, hA, hX, hY] at hLl
        refine ⟨by rw [encPc.length], .inr ⟨w.heap.size, G, _, ?_, hbase, hrow', by simp; omega, hGm, ?_, ?_⟩⟩
        · simp; omega
        · rw [hfin]; simp [hA, htl, pcG]; omega
        · rw [hfin, hAl]
          have e : (l.take k ++ q :: l.drop k).flatMap pcG = (l.take k).flatMap pcG ++ pcG q ++ (l.drop k).flatMap pcG := by rw [List.flatMap_append, List.flatMap_cons, List.append_assoc]
          rw [e]
          refine List.take_left' ?_
          rw [← e, encPc.length])
      have hn2 : (pcG q).length = Nat.min 1 (n + 1 - k) * 2 := by show 2 = min 1 (n + 1 - k) * 2; omega
      have hn3 : ((l.drop k).flatMap pcG).length = Nat.min (n - k) (n + 1 - (k + 1)) * 2 := by rw [htl]; show _ = min (n - k) (n + 1 - (k + 1)) * 2; omega
      clear htl htl0 hold hcurD hcurT hcur hrow hct ho hne
      go_enter Tryz.func151, Tryz.ntmps151
      go_wp2_with (first
        | (at_builtin; refine wpList_appZ eltPc Tryz.underlying3 (x := ⟨g, 0, none⟩) (m := k) (c := cap) (k := n + 1 - k) HTL0.out HOLD.out hkpos hroomZ hsumZ HKK.out rfl _ _ rfl rfl rfl ?_; intro w1 G rest hr1 hlr hGn hGm hg1; rw [hik] at hGn; rw [hik]; have HR1 := Lib.hid hr1; have HG1 := Lib.hid hg1; have HLR := Lib.hid hlr; have hG1 : ¬ (G = k) := (by omega); have hG2 : ¬ (G = k + 1) := (by omega); have HGM := Lib.hid hGm; have hsrc2 := HS2.out w1 (HG1.out.block kE hkw (by simp)); have hfit2 : k * 2 + (pcG q).length ≤ ((l.take k).flatMap pcG ++ rest).length := (by rw [List.length_append, HTL0.out, HLR.out]; show k * 2 + 2 ≤ _; omega); clear hr1 hlr hGm hg1)
        | (refine wpList_copyK eltPc (g := w.heap.size) (off := k * 2) (dLen := n + 1 - k) (sLen := 1) (ad := ⟨kE, 0, none⟩) (cs := pcG q) (cur := (l.take k).flatMap pcG ++ rest) (te := 57) HR1.out hn2 hsrc2 hfit2 h12 rfl _ _ rfl rfl rfl ?_; intro w2 _ hr2 hg2; have HR2 := Lib.hid hr2; have HG2 := Lib.hid hg2; clear hr2 hg2))
      have hsrc3 := HS3.out w2.drew ((HG2.out.block g (by have := HG1.out.size; omega) (by simpa using hgN)).trans (HG1.out.block g hgw (by simp)))
      have hfit3 : (k + 1) * 2 + ((l.drop k).flatMap pcG).length ≤ (laid ((l.take k).flatMap pcG ++ rest) (k * 2) (pcG q)).length := by
        rw [laid_len hfit2, List.length_append, HTL0.out, HLR.out, HTL.out]; omega
      have hb7 : (k : Int) ≤ (n : Int) + 1 := by omega
      go_region_law_o (refine step_copyK eltPc (g := w.heap.size) (off := (k + 1) * 2) (dLen := n + 1 - (k + 1)) (sLen := n - k) (dCap := G - (k + 1)) (sCap := cap - k) (ad := ⟨g, k * 2, none⟩) (cs := (l.drop k).flatMap pcG) (cur := laid ((l.take k).flatMap pcG ++ rest) (k * 2) (pcG q)) (te := 57) HR2.out hn3 hsrc3 hfit3 h11 rfl _ _ rfl (by simp [Act.eval, Act.put]) (by simp [Act.eval, Act.put]) ?_; intro w3 _ hr3 hg3; have HR3 := Lib.hid hr3; have HG3 := Lib.hid hg3; clear hr3 hg3)
      go_wp2
      go_ret
      exact ⟨_, rfl, HFIN.out _ _ _ HLR.out hGn HGM.out HR3.out, (show Below base w w2.drew from below_drewN (((Below.refl base w).grown HG1.out hbase (fun j e => by simp at e)).grown HG2.out (Nat.le_trans hbase HG1.out.size) (fun j e => by simp at e; omega)) 1).grown HG3.out (Nat.le_trans hbase (Nat.le_trans HG1.out.size HG2.out.size)) (fun j e => by simp at e; omega)⟩
    · obtain ⟨A, X, Y, Z, hL, hAt, hA, hX, hY⟩ := parts4 cur (k * 2) 2 ((n - k) * 2) (by omega)
      have hfin : laid (laid cur ((k + 1) * 2) ((l.drop k).flatMap pcG)) (k * 2) (pcG q) = A ++ pcG q ++ (l.drop k).flatMap pcG ++ Z := by
        rw [hL]; exact laid_tail hA (by omega) (by rw [hX]; rfl) (by rw [htl, hY])
      have hAl : A = (l.take k).flatMap pcG := by
        rw [hAt]
        have h1 : cur.take (k * 2) = (cur.take (n * 2)).take (k * 2) := by rw [List.take_take, Nat.min_eq_left (by omega)]
        rw [h1, hct]
        have h2 : l.flatMap pcG = (l.take k).flatMap pcG ++ (l.drop k).flatMap pcG := by rw [← List.flatMap_append, List.take_append_drop]
        rw [h2, List.take_left' (by rw [encPc.length, List.length_take]; omega)]
      have hend : ∀ w', RowIs w' g 57 (laid (laid cur ((k + 1) * 2) ((l.drop k).flatMap pcG)) (k * 2) (pcG q)) → OwnP w' base (.slice (some ⟨g, 0, none⟩) (n + 1) cap) (l.take k ++ q :: l.drop k) := fun w' hr => by
        refine ⟨by rw [encPc.length], .inr ⟨g, cap, _, ?_, hg, hr, by simp; omega, by unfold maxLen; omega, ?_, ?_⟩⟩
        · simp; omega
        · have hLl := congrArg List.length hL
          simp only [List.length_append, hA, hX, hY] at hLl
          rw [hfin]; simp [hA, htl, pcG]; omega
        · rw [hfin, hAl]
          have e : (l.take k ++ q :: l.drop k).flatMap pcG = (l.take k).flatMap pcG ++ pcG q ++ (l.drop k).flatMap pcG := by rw [List.flatMap_append, List.flatMap_cons, List.append_assoc]
          rw [e]
          refine List.take_left' ?_
          rw [← e, encPc.length]
      have hov : ∀ W lb cb, (W.heap[kE]? = w.heap[kE]?) → (W.heap[g]? = w.heap[g]?) → (callFunc 160 #[.slice (some ⟨kE, 0, none⟩) 1 1, .slice (some ⟨g, (k + 1) * 2, none⟩) lb cb]).run Tryz.prog W = .ok (.value (.bool false)) W := fun W lb cb h1 h2 =>
        overlaps_no W _ _ _ _ _ _ hgE cs1 cur.toArray (h1.trans hE1) (h2.trans hrow) (by simp [hcl]; omega)
      have HEND := Lib.hid hend
      have HCUR := Lib.hid hcurD
      have HTL := Lib.hid htl
      clear hend hAl hfin hcur hcurD hcurT htl hL hAt hA hX hY hne
      have hb2 : ¬ (cap = k + 1) := by omega
      have hz3 : ¬ ((cap : Int) < (n : Int) + 1) := by omega
      have hb3 : (k : Int) ≤ (n : Int) + 1 := by omega
      have hn1 : ((l.drop k).flatMap pcG).length = Nat.min (n + 1 - k) (n + 1 - (k + 1)) * 2 := by
        rw [HTL.out]; show _ = min (n + 1 - k) (n + 1 - (k + 1)) * 2; omega
      have hsrc1 : ∀ j v, ((l.drop k).flatMap pcG)[j]? = some v → w.drew.cell? ((⟨g, k * 2, none⟩ : Addr).add j) = some v := fun j v hj => by
        rw [addr_add]; exact RowIs.cell HROW.out (HCUR.out j v hj)
      have hfit1 : (k + 1) * 2 + ((l.drop k).flatMap pcG).length ≤ cur.length := by rw [HTL.out, hcl]; omega
      have hn2 : (pcG q).length = Nat.min 1 (n + 1 - k) * 2 := by show 2 = min 1 (n + 1 - k) * 2; omega
      have hfit2 : k * 2 + (pcG q).length ≤ (laid cur ((k + 1) * 2) ((l.drop k).flatMap pcG)).length := by rw [laid_len hfit1, hcl]; show k * 2 + 2 ≤ _; omega
      clear hrow hct
      go_enter Tryz.func151, Tryz.ntmps151
      go_wp2_with (simp only [hov])
      go_region_law_o (go_loud (refine step_copyK eltPc (g := g) (off := (k + 1) * 2) (dLen := n + 1 - (k + 1)) (sLen := n + 1 - k) (dCap := cap - (k + 1)) (sCap := cap - k) (ad := ⟨g, k * 2, none⟩) (cs := (l.drop k).flatMap pcG) (cur := cur) (te := 57) HROW.out hn1 hsrc1 hfit1 h11 rfl _ _ rfl (by simp [Act.eval, Act.put]) (by simp [Act.eval, Act.put]) ?_; intro w2 _ hr2 hg2; have HR2 := Lib.hid hr2; have HG2 := Lib.hid hg2; clear hr2 hg2))
      have hsrc2 : ∀ j v, (pcG q)[j]? = some v → w2.cell? ((⟨kE, 0, none⟩ : Addr).add j) = some v := fun j v hj => by
        rw [addr_add, Nat.zero_add, cell_of_row w2 kE j cs1 57 (0, 0) ((HG2.out.block kE (Array.getElem?_eq_some_iff.1 hE1).1 (by simpa using hgE)).trans hE1)]
        rw [← hc1] at hj; simpa using hj
      go_wp2_with (refine wpList_copyK eltPc (g := g) (off := k * 2) (dLen := n + 1 - k) (sLen := 1) (ad := ⟨kE, 0, none⟩) (cs := pcG q) (cur := laid cur ((k + 1) * 2) ((l.drop k).flatMap pcG)) (te := 57) HR2.out hn2 hsrc2 hfit2 h12 rfl _ _ rfl rfl rfl ?_; intro w3 _ hr3 hg3; have HR3 := Lib.hid hr3; have HG3 := Lib.hid hg3; clear hr3 hg3)
      go_ret
      exact ⟨_, rfl, HEND.out _ HR3.out, ((show Below base w w.drew from ⟨rfl, rfl, rfl, Nat.le_refl _, fun _ _ => rfl⟩).grown HG2.out hbase (fun j e => by simp at e; omega)).grown HG3.out (Nat.le_trans hbase HG2.out.size) (fun j e => by simp at e; omega)⟩
end Go.Proofs.YtglajbmopiolhaaGreatDoor
/-
  Contracts of chapter 4's program: putting, getting and joining.
-/
namespace Go.Proofs.YtglajbmopiolhaaGreatDoor
open Go.RowKit
set_option linter.unusedVariables false
def NewPBAt (l : List Pc) (b : Bool) (base : Nat) (w : World) (e : Ending) (w' : World) : Prop := ∃ v, e = .returned (.tuple #[v, .bool b]) ∧ OwnP w' base v l ∧ Below base w w'
theorem newPBAt_of {l l' : List Pc} {b b' : Bool} {base : Nat} {w w' : World} {e : Ending} (h : (l, b) = (l', b')) (hx : NewPBAt l' b' base w e w') : NewPBAt l b base w e w' := by
  simp only [Prod.mk.injEq] at h; rw [h.1, h.2]; exact hx
theorem putPiece_any (x : Option Addr) (n cap base : Nat) (l : List Pc) (p : Pc) (w : World) (ho : OwnP w base (.slice x n cap) l) (hs : AscP l) (hn : n ≤ 40) (hz : p.2.size ≤ 1000000) (hbase : base ≤ w.heap.size) :
    Calls Tryz.prog 141 #[.slice x n cap, .agg #[.int .i64 p.1, .string p.2]] w (NewPBAt (putP l p).1 (putP l p).2 base w) := by
  have hlst := ho.lst'
  have HL := Lib.hid hlst.len
  have hle := hlst.le
  have hmx := hlst.max
  unfold maxLen at hmx
  clear hlst
  obtain ⟨W, hW⟩ : ∃ W, w.alloc (.cells #[.int .i64 p.1, .string p.2] 57) = W := ⟨_, rfl⟩
  have HV := Lib.hid hW
  have hO := ho.alloc (.cells #[.int .i64 p.1, .string p.2] 57)
  have hnew := heap_alloc_new w (.cells #[.int .i64 p.1, .string p.2] 57)
  have hB0 := (Below.refl base w).alloc hbase (.cells #[.int .i64 p.1, .string p.2] 57)
  rw [hW] at hO hnew hB0
  have HN := Lib.hid hnew; have HO := Lib.hid hO; have HB := Lib.hid hB0
  clear hnew hO hB0 ho
  have hp0 := (two_at HN.out).1
  have hWs : w.heap.size + 1 ≤ W.heap.size := by have := HV.out; rw [← this]; simp
  have HFW := Lib.hid (show ∀ w2, Below W.heap.size W w2 → OwnP w2 base (.slice x n cap) l ∧ w2.cell? ⟨w.heap.size, 0, none⟩ = some (.int .i64 p.1) ∧ w2.cell? ⟨w.heap.size, 1, none⟩ = some (.string p.2) ∧ Below base w w2 from fun w2 hb => by
    have h1 : w2.heap[w.heap.size]? = _ := (hb.block _ (by omega)).trans HN.out
    exact ⟨HO.out.below hb, (two_at h1).1, (two_at h1).2.1, HB.out.trans (hb.mono (by omega))⟩)
  have hat := atP_le p.1 l
  cases hh : hereP p.1 l
  · by_cases h40 : n = 40
    · have HF := Lib.hid (putP_full hh (by rw [HL.out]; exact h40))
      have hd : ((n : Int) == 40) = true := by simp; omega
      clear h40
      go_enter Tryz.func141, Tryz.ntmps141
      go_wp2_with (go_at_call 115; refine (placeOf_any x n cap l p.1 _ _ HO.out.lst' (Nat.le_refl _) hs (by omega)).mono ?_; rintro e w2 ⟨rfl, hb2⟩; rw [hh]; obtain ⟨ho2, c0, c1, hB2⟩ := HFW.out _ hb2; have HO2 := Lib.hid ho2; have HB2 := Lib.hid hB2; clear hb2 ho2 hB2)
      go_ret2
      exact newPBAt_of HF.out ⟨_, rfl, HO2.out, HB2.out⟩
    · have HF := Lib.hid (putP_new hh (by rw [HL.out]; exact h40))
      have hd : ((n : Int) == 40) = false := by simp; omega
      generalize hk : atP p.1 l = k at *
      have hkn : k ≤ n := by have := HL.out; omega
      go_enter Tryz.func141, Tryz.ntmps141
      go_wp2_with (first
        | (go_at_call 115; refine (placeOf_any x n cap l p.1 _ _ HO.out.lst' (Nat.le_refl _) hs (by omega)).mono ?_; rintro e w2 ⟨rfl, hb2⟩; rw [hh, hk]; obtain ⟨ho2, c0, c1, hB2⟩ := HFW.out _ hb2; have HO2 := Lib.hid ho2; have HB2 := Lib.hid hB2; clear hb2 ho2 hB2)
        | (go_at_call 75; refine (copyPiece_any p _ hz).mono ?_; rintro e w3 ⟨rfl, hb3⟩; have HO3 := Lib.hid (HO2.out.below hb3); have HB3 := Lib.hid (HB2.out.trans (hb3.mono (Nat.le_trans hbase HB2.out.size))); clear hb3)
        | (go_at_call 151; refine (insert_any x n cap k w3.heap.size base l p _ (HO3.out.alloc _) HL.out (OneAt.new pcG 57 rfl _ _ rfl) (fun e => by have := (World.ownsRow.lt HO3.out _ e).2; omega) hkn (by omega) (Nat.le_trans (Nat.le_trans hbase HB3.out.size) (by simp))).mono ?_; rintro e w4 ⟨v4, rfl, ho4, hb4⟩; have HO4 := Lib.hid ho4; have HB4 := Lib.hid ((HB3.out.alloc (Nat.le_trans hbase HB3.out.size) _).trans hb4); clear ho4 hb4))
      go_ret2
      exact newPBAt_of HF.out ⟨_, rfl, HO4.out, HB4.out⟩
  · have HF := Lib.hid (putP_here hh)
    have hlt : atP p.1 l < n := by
      unfold hereP at hh
      rw [Bool.and_eq_true, decide_eq_true_eq] at hh
      have := HL.out; omega
    generalize hk : atP p.1 l = k at *
    by_cases ht : (nthP l k).2 = p.2
    · have hd : ((nthP l k).2.toList == p.2.toList) = true := by rw [ht]; simp
      have HF2 := Lib.hid (HF.out.trans (show (l, decide ((nthP l k).2 = p.2)) = (l, true) by rw [decide_eq_true ht]))
      clear ht
      go_enter Tryz.func141, Tryz.ntmps141
      go_wp2_with (go_at_call 115; refine (placeOf_any x n cap l p.1 _ _ HO.out.lst' (Nat.le_refl _) hs (by omega)).mono ?_; rintro e w2 ⟨rfl, hb2⟩; rw [hh, hk]; obtain ⟨ho2, c0, c1, hB2⟩ := HFW.out _ hb2; obtain ⟨b0, off, rfl, hb0, d0, d1⟩ := ho2.lst'.atP hlt; have HO2 := Lib.hid ho2; have HB2 := Lib.hid hB2; clear hb2 ho2 hB2)
      go_quiet (fail)
      go_wp2
      go_ret2
      exact newPBAt_of HF2.out ⟨_, rfl, HO2.out.drewN _, below_drewN HB2.out _⟩
    · have hd : ((nthP l k).2.toList == p.2.toList) = false := by rw [str_beq]; simpa using ht
      have HF2 := Lib.hid (HF.out.trans (show (l, decide ((nthP l k).2 = p.2)) = (l, false) by rw [decide_eq_false ht]))
      clear ht
      go_enter Tryz.func141, Tryz.ntmps141
      go_wp2_with (go_at_call 115; refine (placeOf_any x n cap l p.1 _ _ HO.out.lst' (Nat.le_refl _) hs (by omega)).mono ?_; rintro e w2 ⟨rfl, hb2⟩; rw [hh, hk]; obtain ⟨ho2, c0, c1, hB2⟩ := HFW.out _ hb2; obtain ⟨b0, off, rfl, hb0, d0, d1⟩ := ho2.lst'.atP hlt; have HO2 := Lib.hid ho2; have HB2 := Lib.hid hB2; clear hb2 ho2 hB2)
      go_quiet (fail)
      go_wp2
      go_ret2
      exact newPBAt_of HF2.out ⟨_, rfl, HO2.out.drewN _, below_drewN HB2.out _⟩
end Go.Proofs.YtglajbmopiolhaaGreatDoor
/-
  Contracts of chapter 4's program: PutText, GetText, JoinStores.
-/
namespace Go.Proofs.YtglajbmopiolhaaGreatDoor
open Go.RowKit
set_option linter.unusedVariables false
theorem printB_ge {s : ByteArray} (h : textB s = true) : 0 ≤ printB s := by unfold printB; rw [if_pos h]; exact (sumB_bd _).1
theorem newPut_put {l : List Pc} {t : ByteArray} {base : Nat} {w w' : World} {v : Value} {p : Int} {b : Bool} (h : putB l t = ((putP l (printB t, t)).1, p, b)) (ho : OwnP w' w.heap.size v (putP l (printB t, t)).1) (hb : Below w.heap.size w w') : NewPut (putB l t).1 (putB l t).2.1 (putB l t).2.2 w (.returned (.tuple #[v, .int .i64 p, .bool b])) w' := by
  rw [h]; exact ⟨v, rfl, ho, hb⟩
theorem implPutText_any (x : Option Addr) (n cap : Nat) (l : List Pc) (t : ByteArray) (B : Nat) (w : World) (h : Pcs w B x n cap l) (hB : B ≤ w.heap.size) (hz : ∀ k, (nthP l k).2.size ≤ maxLen) (ht : t.size ≤ maxLen) :
    Calls Tryz.prog 126 #[.slice x n cap, .string t] w (NewPut (putB l t).1 (putB l t).2.1 (putB l t).2.2 w) := by
  have HH := Lib.hid h
  cases hs : storeB l
  · have HF := Lib.hid (putB_bad (t := t) hs)
    go_enter Tryz.func126, Tryz.ntmps126
    go_wp2_with (go_at_call 12; refine (implStoreValid_any _ _ _ _ _ _ HH.out hB hz).mono ?_; rintro e w2 ⟨rfl, hb2⟩; rw [hs]; have HB2 := Lib.hid hb2; clear hb2)
    go_ret3
    exact newPut_of HF.out ⟨_, rfl, OwnL.nil _ _ _ _ _, HB2.out⟩
  have hn40 : n ≤ 40 := by have := (storeB_at hs).1; have := h.len; omega
  have HSH := Lib.hid (show ∀ k, (nthP l k).2.size ≤ 1000000 from fun k => Nat.le_trans (short_nth (store_short hs) k) (by decide))
  clear h
  cases hx : textB t
  · have HF := Lib.hid (putB_text (l := l) (t := t) hs (by rw [printB_none hx]; decide))
    go_enter Tryz.func126, Tryz.ntmps126
    go_wp2_with (first
      | (go_at_call 12; refine (implStoreValid_any _ _ _ _ _ _ HH.out hB hz).mono ?_; rintro e w2 ⟨rfl, hb2⟩; rw [hs]; have HH2 := Lib.hid (HH.out.below hb2 hB); have HB2 := Lib.hid hb2; clear hb2)
      | (go_at_call 49; refine (copyPieces_any _ _ _ _ _ _ HH2.out (Nat.le_trans hB HB2.out.size) HSH.out (by omega)).mono ?_; rintro e w3 ⟨v, rfl, ho, hb3⟩; have HO := Lib.hid (ho.mono HB2.out.size); have HB3 := Lib.hid (HB2.out.trans (hb3.mono HB2.out.size)); clear ho hb3)
      | (go_at_call 41; refine (textValid_any _ _ ht).mono ?_; rintro e w4 ⟨rfl, rfl⟩; rw [hx]))
    go_ret3
    exact newPut_of HF.out ⟨_, rfl, HO.out, HB3.out⟩
  have HP := Lib.hid (putB_of (l := l) (t := t) hs (printB_ge hx))
  have hzt : t.size ≤ 1000000 := by
    rcases Nat.lt_or_ge 60 t.size with h2 | h2
    · rw [textV_long _ h2] at hx; cases hx
    · omega
  have HAS := Lib.hid (store_asc hs)
  have HLL := Lib.hid HH.out.len
  cases hok : (putP l (printB t, t)).2
  · have HF := Lib.hid (HP.out.trans (show _ = ((putP l (printB t, t)).1, -1, false) by rw [hok]; rfl))
    go_enter Tryz.func126, Tryz.ntmps126
    go_wp2_with (first
      | (go_at_call 12; refine (implStoreValid_any _ _ _ _ _ _ HH.out hB hz).mono ?_; rintro e w2 ⟨rfl, hb2⟩; rw [hs]; have HH2 := Lib.hid (HH.out.below hb2 hB); have HB2 := Lib.hid hb2; clear hb2)
      | (go_at_call 49; refine (copyPieces_any _ _ _ _ _ _ HH2.out (Nat.le_trans hB HB2.out.size) HSH.out (by omega)).mono ?_; rintro e w3 ⟨v, rfl, ho, hb3⟩; have ho' := ho.mono HB2.out.size; obtain ⟨x3, n3, c3, rfl, hl3⟩ := ho'.lst; have hn3 : n3 ≤ 40 := (by have := hl3.len; have := HLL.out; omega); have HO := Lib.hid ho'; have HB3 := Lib.hid (HB2.out.trans (hb3.mono HB2.out.size)); clear ho hb3 hl3)
      | (go_at_call 41; refine (textValid_any _ _ ht).mono ?_; rintro e w4 ⟨rfl, rfl⟩; rw [hx])
      | (go_at_call 42; refine (printOf_any _ _ ht).mono ?_; rintro e w4 ⟨rfl, rfl⟩)
      | (go_at_call 141; refine (putPiece_any _ _ _ w.heap.size l (printB t, t) _ HO.out HAS.out hn3 hzt HB3.out.size).mono ?_; rintro e w5 ⟨v5, rfl, ho5, hb5⟩; rw [hok]; have HO5 := Lib.hid ho5; have HB5 := Lib.hid (HB3.out.trans hb5); clear ho5 hb5))
    go_ret3
    exact newPut_put (base := 0) HF.out HO5.out HB5.out
  · have HF := Lib.hid (HP.out.trans (show _ = ((putP l (printB t, t)).1, printB t, true) by rw [hok]; rfl))
    go_enter Tryz.func126, Tryz.ntmps126
    go_wp2_with (first
      | (go_at_call 12; refine (implStoreValid_any _ _ _ _ _ _ HH.out hB hz).mono ?_; rintro e w2 ⟨rfl, hb2⟩; rw [hs]; have HH2 := Lib.hid (HH.out.below hb2 hB); have HB2 := Lib.hid hb2; clear hb2)
      | (go_at_call 49; refine (copyPieces_any _ _ _ _ _ _ HH2.out (Nat.le_trans hB HB2.out.size) HSH.out (by omega)).mono ?_; rintro e w3 ⟨v, rfl, ho, hb3⟩; have ho' := ho.mono HB2.out.size; obtain ⟨x3, n3, c3, rfl, hl3⟩ := ho'.lst; have hn3 : n3 ≤ 40 := (by have := hl3.len; have := HLL.out; omega); have HO := Lib.hid ho'; have HB3 := Lib.hid (HB2.out.trans (hb3.mono HB2.out.size)); clear ho hb3 hl3)
      | (go_at_call 41; refine (textValid_any _ _ ht).mono ?_; rintro e w4 ⟨rfl, rfl⟩; rw [hx])
      | (go_at_call 42; refine (printOf_any _ _ ht).mono ?_; rintro e w4 ⟨rfl, rfl⟩)
      | (go_at_call 141; refine (putPiece_any _ _ _ w.heap.size l (printB t, t) _ HO.out HAS.out hn3 hzt HB3.out.size).mono ?_; rintro e w5 ⟨v5, rfl, ho5, hb5⟩; rw [hok]; have HO5 := Lib.hid ho5; have HB5 := Lib.hid (HB3.out.trans hb5); clear ho5 hb5))
    go_ret3
    exact newPut_put (base := 0) HF.out HO5.out HB5.out
/-- A text and a bool; what lay there lies there still. -/
def BelowSB (s : ByteArray) (b : Bool) (w : World) (e : Ending) (w' : World) : Prop := e = .returned (.tuple #[.string s, .bool b]) ∧ Below w.heap.size w w'
theorem belowSB_of {s t : ByteArray} {b c : Bool} {w w' : World} (h : s = t) (h' : b = c) (hq : Below w.heap.size w w') : BelowSB s b w (.returned (.tuple #[.string t, .bool c])) w' := by subst h; subst h'; exact ⟨rfl, hq⟩
theorem implGetText_any (x : Option Addr) (n cap : Nat) (l : List Pc) (p : Int) (B : Nat) (w : World) (h : Pcs w B x n cap l) (hB : B ≤ w.heap.size) (hz : ∀ k, (nthP l k).2.size ≤ maxLen) :
    Calls Tryz.prog 89 #[.slice x n cap, .int .i64 p] w (BelowSB (gotT l p) (gotO l p) w) := by
  have HH := Lib.hid h
  cases hs : storeB l
  · have HF := Lib.hid (got_no p hs)
    go_enter Tryz.func89, Tryz.ntmps89
    go_wp2_with (go_at_call 12; refine (implStoreValid_any _ _ _ _ _ _ HH.out hB hz).mono ?_; rintro e w2 ⟨rfl, hb2⟩; rw [hs]; have HB2 := Lib.hid hb2; clear hb2)
    go_ret2
    exact belowSB_of HF.out.1 HF.out.2 HB2.out
  have hn40 : n ≤ 40 := by have := (storeB_at hs).1; have := h.len; omega
  have HAS := Lib.hid (store_asc hs)
  have HLL := Lib.hid h.len
  have hsh := short_nth (store_short hs)
  clear h
  cases hh : hereP p l
  · have HF := Lib.hid (show gotT l p = ByteArray.empty ∧ gotO l p = false by
      have e := getB_gone (storeB_iff.1 hs).2.2 hh
      rw [(got_yes p hs).1, (got_yes p hs).2]; unfold getT getO; rw [e]; exact ⟨rfl, rfl⟩)
    go_enter Tryz.func89, Tryz.ntmps89
    go_wp2_with (first
      | (go_at_call 12; refine (implStoreValid_any _ _ _ _ _ _ HH.out hB hz).mono ?_; rintro e w2 ⟨rfl, hb2⟩; rw [hs]; have HH2 := Lib.hid (HH.out.below hb2 hB); have HB2 := Lib.hid hb2; clear hb2)
      | (go_at_call 115; refine (placeOf_any _ _ _ _ _ _ _ HH2.out (Nat.le_trans hB HB2.out.size) HAS.out (by omega)).mono ?_; rintro e w3 ⟨rfl, hb3⟩; rw [hh]; have HB3 := Lib.hid (HB2.out.trans (hb3.mono HB2.out.size)); clear hb3))
    go_ret2
    exact belowSB_of HF.out.1 HF.out.2 HB3.out
  · have hlt : atP p l < n := by have := (hereP_iff.1 hh).1; have := HLL.out; omega
    have HF := Lib.hid (show gotT l p = (nthP l (atP p l)).2 ∧ gotO l p = true by
      have e := getB_here hh
      rw [(got_yes p hs).1, (got_yes p hs).2]; unfold getT getO; rw [e]; exact ⟨rfl, rfl⟩)
    generalize hk : atP p l = k at *
    have hzk : (nthP l k).2.size ≤ 1000000 := Nat.le_trans (hsh k) (by decide)
    go_enter Tryz.func89, Tryz.ntmps89
    go_wp2_with (first
      | (go_at_call 12; refine (implStoreValid_any _ _ _ _ _ _ HH.out hB hz).mono ?_; rintro e w2 ⟨rfl, hb2⟩; rw [hs]; have HH2 := Lib.hid (HH.out.below hb2 hB); have HB2 := Lib.hid hb2; clear hb2)
      | (go_at_call 115; refine (placeOf_any _ _ _ _ _ _ _ HH2.out (Nat.le_trans hB HB2.out.size) HAS.out (by omega)).mono ?_; rintro e w3 ⟨rfl, hb3⟩; rw [hh, hk]; obtain ⟨b0, off, rfl, hb0, c0, c1⟩ := (HH2.out.below hb3 (Nat.le_trans hB HB2.out.size)).atP hlt; have HB3 := Lib.hid (HB2.out.trans (hb3.mono HB2.out.size)); clear hb3)
      | (go_at_call 97; refine (clone_any _ _ hzk).mono ?_; rintro e w4 ⟨rfl, hb4⟩; have HB4 := Lib.hid (HB3.out.trans (hb4.mono HB3.out.size)); clear hb4))
    go_ret2
    exact belowSB_of HF.out.1 HF.out.2 HB4.out
end Go.Proofs.YtglajbmopiolhaaGreatDoor
/-
  Contract of chapter 4's program: JoinStores.
-/
namespace Go.Proofs.YtglajbmopiolhaaGreatDoor
open Go.RowKit
set_option linter.unusedVariables false
end Go.Proofs.YtglajbmopiolhaaGreatDoor
/-
  Chapter 4, plain: what stands in a store; a text put again.
-/
namespace Go.Proofs.YtglajbmopiolhaaGreatDoor
open Go.RowKit
set_option linter.unusedVariables false
theorem store_lt {l : List Pc} (h : storeB l = true) {i j : Nat} (hj : j < l.length) (hij : i < j) : (nthP l i).1 < (nthP l j).1 := by
  have h3 := (storeB_iff.1 h).2.2
  rw [nthP_get (show i < l.length by omega), nthP_get hj]
  exact List.pairwise_iff_getElem.1 h3 i j (by omega) hj hij
theorem mem_at {l : List Pc} {q : Pc} (hq : q ∈ l) : ∃ k, k < l.length ∧ nthP l k = q := by
  obtain ⟨k, hk, e⟩ := List.mem_iff_getElem.1 hq
  exact ⟨k, hk, by rw [nthP_get hk]; exact e⟩
/-- A text that stands there changes nothing. -/
theorem put_again {l : List Pc} {t : ByteArray} (h : storeB l = true) (hm : (printB t, t) ∈ l) (h0 : ¬ printB t < 0) : putB l t = (l, printB t, true) := by
  obtain ⟨k, hk, e⟩ := mem_at hm
  have ha : atP (printB t) l = k := atP_eq (Nat.le_of_lt hk) (fun j hj => by have := store_lt h hk hj; rw [e] at this; exact this) (.inr (by rw [e]; exact Int.lt_irrefl _))
  exact putB_there h h0 ha (hereP_yes ha hk (by rw [e])) (by rw [e])
theorem text_of_print {t : ByteArray} (h : ¬ printB t < 0) : textB t = true := by
  cases ht : textB t
  · rw [printB_none ht] at h; omega
  · rfl
theorem put_yes {l : List Pc} {t : ByteArray} (h : (putB l t).2.2 = true) : storeB l = true ∧ textB t = true ∧ (putB l t).2.1 = printB t ∧ storeB (putB l t).1 = true ∧ (printB t, t) ∈ (putB l t).1 ∧ (∀ q ∈ l, q ∈ (putB l t).1) ∧ (putB l t).1.length ≤ l.length + 1 ∧ putB (putB l t).1 t = ((putB l t).1, printB t, true) := by
  cases hs : storeB l
  · rw [putB_bad hs] at h; cases h
  by_cases h1 : printB t < 0
  · rw [putB_text hs h1] at h; cases h
  have ht := text_of_print h1
  have hst := put_store hs ht
  cases hh : hereP (printB t) l
  · by_cases h4 : l.length = 40
    · rw [putB_full hs h1 hh h4] at h; cases h
    · have e := putB_new hs h1 rfl hh h4
      have hm : (printB t, t) ∈ (putB l t).1 := by rw [e]; simp
      refine ⟨rfl, ht, by rw [e], hst, hm, fun q hq => ?_, by rw [e]; simp; omega, put_again hst hm h1⟩
      rw [e]
      have hq' : q ∈ l.take (atP (printB t) l) ++ l.drop (atP (printB t) l) := by rw [List.take_append_drop]; exact hq
      rcases List.mem_append.1 hq' with h5 | h5
      · exact List.mem_append_left _ h5
      · exact List.mem_append_right _ (List.mem_cons_of_mem _ h5)
  · obtain ⟨ha, hp⟩ := hereP_iff.1 hh
    by_cases h3 : (nthP l (atP (printB t) l)).2 = t
    · have e := putB_there hs h1 rfl hh h3
      have hm : (printB t, t) ∈ (putB l t).1 := by
        rw [e]
        have := nthP_mem ha
        have e2 : nthP l (atP (printB t) l) = (printB t, t) := Prod.ext hp h3
        rwa [e2] at this
      exact ⟨rfl, ht, by rw [e], hst, hm, fun q hq => by rw [e]; exact hq, by rw [e]; simp, put_again hst hm h1⟩
    · rw [putB_other hs h1 rfl hh h3] at h; cases h
end Go.Proofs.YtglajbmopiolhaaGreatDoor
/-
  Chapter 4, plain: what joined stores hold.
-/
namespace Go.Proofs.YtglajbmopiolhaaGreatDoor
open Go.RowKit
set_option linter.unusedVariables false
end Go.Proofs.YtglajbmopiolhaaGreatDoor
