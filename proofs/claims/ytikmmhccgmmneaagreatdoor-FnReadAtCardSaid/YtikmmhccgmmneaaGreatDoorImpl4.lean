/-
  Contracts of chapter 4's program: where a print stands in a store.
-/
import Derived.Test.YtikmmhccgmmneaaGreatDoorStores2
import Derived.Test.YtikmmhccgmmneaaGreatDoorChunks
import Derived.Test.YtikmmhccgmmneaaGreatDoorMem
import Derived.Test.YtikmmhccgmmneaaGreatDoorArgs
import Derived.Laws.Externs
import Derived.Shelf.RegionOpenPlain
import Derived.Test.YtikmmhccgmmneaaGreatDoorStores
namespace Go.Proofs.YtikmmhccgmmneaaGreatDoor
open Go.RowKit
set_option linter.unusedVariables false
def cmpB (x y : Int) : Int := if x < y then -1 else if y < x then 1 else 0
theorem isNaN_any (x : Int) (w : World) : Calls Tryz.prog 88 #[.int .i64 x] w fun e w' => e = .returned (.bool false) ∧ w = w' := by
  have h : (x != x) = false := by simp
  go_enter Tryz.func88, Tryz.ntmps88
  go_wp2
  go_ret
  exact ⟨rfl, rfl⟩
theorem compare_any (x y : Int) (w : World) : Calls Tryz.prog 72 #[.int .i64 x, .int .i64 y] w fun e w' => e = .returned (.int .i64 (cmpB x y)) ∧ w = w' := by
  by_cases h1 : x < y
  · have HF := Lib.hid (show cmpB x y = -1 by unfold cmpB; rw [if_pos h1])
    go_enter Tryz.func72, Tryz.ntmps72
    go_wp2_with (go_at_call 88; refine (isNaN_any _ _).mono ?_; rintro e w' ⟨rfl, rfl⟩)
    go_ret
    exact ⟨ret_int HF.out.symm, rfl⟩
  · by_cases h2 : y < x
    · have HF := Lib.hid (show cmpB x y = 1 by unfold cmpB; rw [if_neg h1, if_pos h2])
      have h3 : x > y := h2
      go_enter Tryz.func72, Tryz.ntmps72
      go_wp2_with (go_at_call 88; refine (isNaN_any _ _).mono ?_; rintro e w' ⟨rfl, rfl⟩)
      go_ret
      exact ⟨ret_int HF.out.symm, rfl⟩
    · have HF := Lib.hid (show cmpB x y = 0 by unfold cmpB; rw [if_neg h1, if_neg h2])
      go_enter Tryz.func72, Tryz.ntmps72
      go_wp2_with (go_at_call 88; refine (isNaN_any _ _).mono ?_; rintro e w' ⟨rfl, rfl⟩)
      go_ret
      exact ⟨ret_int HF.out.symm, rfl⟩
theorem comparePrint_any (p : Pc) (y : Int) (w : World) : Calls Tryz.prog 55 #[.agg #[.int .i64 p.1, .string p.2], .int .i64 y] w (BelowI (cmpB p.1 y) w) := by
  go_enter Tryz.func55, Tryz.ntmps55
  go_wp2_with (go_at_call 72; refine (compare_any _ _ _).mono ?_; rintro e w' ⟨rfl, rfl⟩)
  go_ret
  exact ⟨rfl, (Below.refl _ _).alloc (Nat.le_refl _) _⟩
/-- Prints ascend. -/
def AscP (l : List Pc) : Prop := ∀ i j, i < j → j < l.length → (nthP l i).1 < (nthP l j).1
theorem store_asc {l : List Pc} (h : storeB l = true) : AscP l := fun i j hij hj => by
  rw [nthP_get (by omega), nthP_get hj]
  exact List.pairwise_iff_getElem.1 (storeB_iff.1 h).2.2 i j (by omega) hj hij
theorem cmpB_lt {x y : Int} : (cmpB x y < 0) ↔ x < y := by unfold cmpB; (repeat' split) <;> omega
theorem cmpB_eq {x y : Int} : (cmpB x y = 0) ↔ x = y := by unfold cmpB; (repeat' split) <;> omega
set_option maxHeartbeats 1000000 in
theorem search_any (x : Option Addr) (n cap : Nat) (l : List Pc) (t : Int) (B : Nat) (w : World) (h : Pcs w B x n cap l) (hB : B ≤ w.heap.size) (hs : AscP l) (hn : n ≤ 1000000) :
    Calls Tryz.prog 54 #[.slice x n cap, .int .i64 t, .func (.func 55) #[] #[]] w fun e w' => e = .returned (.tuple #[.int .i64 (atP t l : Nat), .bool (hereP t l)]) ∧ Below w.heap.size w w' := by
  have HL := Lib.hid h.len
  have HH := Lib.hid h
  have HS := Lib.hid hs
  have hmx := h.max
  have hle := h.le
  clear h hs
  unfold maxLen at hmx
  go_enter Tryz.func54, Tryz.ntmps54
  go_wp2
  go_loopw [9, 10, 11] (fun i j _ wr => ∃ a b : Nat, a ≤ b ∧ b ≤ n ∧ i = .int .i64 a ∧ j = .int .i64 b ∧ (∀ k, k < a → (nthP l k).1 < t) ∧ (∀ k, b ≤ k → k < n → t ≤ (nthP l k).1) ∧ Below w.heap.size w wr) (fun i j _ _ => (intOf j).toNat - (intOf i).toNat)
  case atStart => exact ⟨0, n, by omega, Nat.le_refl _, rfl, rfl, fun k hk => by omega, fun k hk hk' => by omega, Below.refl _ _⟩
  case round =>
    obtain ⟨a, b, hab, hbn, rfl, rfl, hlo, hhi, hb⟩ := hrel
    have HLO := Lib.hid hlo; have HHI := Lib.hid hhi; have HB := Lib.hid hb; clear hlo hhi hb
    by_cases hlt : a < b
    · have hmb : (a + b) / 2 < n := by omega
      obtain ⟨b0, off, rfl, hb0, hc0, hc1⟩ := (HH.out.below HB.out hB).atP hmb
      obtain ⟨q, hq⟩ : ∃ q, q = nthP l ((a + b) / 2) := ⟨_, rfl⟩
      rw [← hq] at hc0 hc1
      by_cases hx : q.1 < t
      · have hc : cmpB q.1 t < 0 := cmpB_lt.2 hx
        have HX := Lib.hid (show ∀ k, k < (a + b) / 2 + 1 → (nthP l k).1 < t from fun k hk => by
          rcases Nat.lt_succ_iff_lt_or_eq.1 hk with h | rfl
          · have := HS.out k _ h (by have := HL.out; omega); rw [← hq] at this; omega
          · rw [← hq]; exact hx)
        clear hq
        go_wp2_with (go_at_call 55; refine (comparePrint_any q _ _).mono ?_; rintro e w2 ⟨rfl, hb⟩; have HB2 := Lib.hid (HB.out.trans (hb.mono HB.out.size)); clear hb)
        go_roundw
        case rel => exact ⟨(a + b) / 2 + 1, b, by omega, hbn, by go_num, rfl, HX.out, HHI.out, HB2.out⟩
        case measure => simp [intOf]; omega
      · have hc : ¬ cmpB q.1 t < 0 := fun h => hx (cmpB_lt.1 h)
        have HX := Lib.hid (show ∀ k, (a + b) / 2 ≤ k → k < n → t ≤ (nthP l k).1 from fun k hk hkn => by
          rcases Nat.lt_or_eq_of_le hk with h | rfl
          · have := HS.out _ k h (by have := HL.out; omega); rw [← hq] at this; omega
          · rw [← hq]; omega)
        clear hq
        go_wp2_with (go_at_call 55; refine (comparePrint_any q _ _).mono ?_; rintro e w2 ⟨rfl, hb⟩; have HB2 := Lib.hid (HB.out.trans (hb.mono HB.out.size)); clear hb)
        go_roundw
        case rel => exact ⟨a, (a + b) / 2, by omega, by omega, rfl, by go_num, HLO.out, HX.out, HB2.out⟩
        case measure => simp [intOf]; omega
    · obtain rfl : a = b := by omega
      have HA := Lib.hid (atP_eq (p := t) (l := l) (k := a) (by have := HL.out; omega) HLO.out (by
        rcases Nat.lt_or_ge a n with h | h
        · exact .inr (by have := HHI.out a (Nat.le_refl _) h; omega)
        · left; have := HL.out; omega))
      by_cases hlt2 : a < n
      · obtain ⟨b0, off, rfl, hb0, hc0, hc1⟩ := (HH.out.below HB.out hB).atP hlt2
        obtain ⟨q, hq⟩ : ∃ q, q = nthP l a := ⟨_, rfl⟩
        rw [← hq] at hc0 hc1
        have hd : ((a : Int) < (n : Int)) := by omega
        by_cases hx : q.1 = t
        · have hc : (cmpB q.1 t == 0) = true := by simpa using cmpB_eq.2 hx
          have HX := Lib.hid (hereP_yes HA.out (by have := HL.out; omega) (by rw [← hq]; exact hx))
          clear hq hx
          go_wp2_with (go_at_call 55; refine (comparePrint_any q _ _).mono ?_; rintro e w2 ⟨rfl, hb⟩; have HB2 := Lib.hid (HB.out.trans (hb.mono HB.out.size)); clear hb)
          go_ret2
          exact ⟨by rw [HA.out, HX.out]; rfl, HB2.out⟩
        · have hc : (cmpB q.1 t == 0) = false := by simpa using fun h => hx (cmpB_eq.1 h)
          have HX := Lib.hid (hereP_no2 HA.out (by rw [← hq]; exact hx))
          clear hq hx
          go_wp2_with (go_at_call 55; refine (comparePrint_any q _ _).mono ?_; rintro e w2 ⟨rfl, hb⟩; have HB2 := Lib.hid (HB.out.trans (hb.mono HB.out.size)); clear hb)
          go_ret2
          exact ⟨by rw [HA.out, HX.out]; rfl, HB2.out⟩
      · have hd : ¬ ((a : Int) < (n : Int)) := by omega
        have HX := Lib.hid (hereP_no1 HA.out (by have := HL.out; omega))
        go_wp2
        go_ret2
        exact ⟨by rw [HA.out, HX.out]; rfl, HB.out⟩
theorem placeOf_any (x : Option Addr) (n cap : Nat) (l : List Pc) (t : Int) (B : Nat) (w : World) (h : Pcs w B x n cap l) (hB : B ≤ w.heap.size) (hs : AscP l) (hn : n ≤ 1000000) :
    Calls Tryz.prog 25 #[.slice x n cap, .int .i64 t] w fun e w' => e = .returned (.tuple #[.int .i64 (atP t l : Nat), .bool (hereP t l)]) ∧ Below w.heap.size w w' := by
  have HH := Lib.hid h
  clear h
  go_enter Tryz.func25, Tryz.ntmps25
  go_wp2_with (go_at_call 54; refine (search_any _ _ _ _ _ _ _ HH.out hB hs hn).mono ?_; rintro e w' ⟨rfl, hb⟩)
  go_ret2
  exact ⟨rfl, hb⟩
theorem two_at {w : World} {r : Nat} {u v : Value} {t : TypeId} (h : w.heap[r]? = some (.cells #[u, v] t (0, 0))) :
    w.cell? ⟨r, 0, none⟩ = some u ∧ w.cell? ⟨r, 1, none⟩ = some v ∧ w.frozen? ⟨r, 0, none⟩ = false ∧ w.frozen? ⟨r, 1, none⟩ = false := by
  refine ⟨?_, ?_, ?_, ?_⟩ <;> simp [World.cell?, World.frozen?, h]
end Go.Proofs.YtikmmhccgmmneaaGreatDoor
/-
  Contracts of chapter 4's program: copies of stores; valid stores.
-/
namespace Go.Proofs.YtikmmhccgmmneaaGreatDoor
open Go.RowKit
set_option linter.unusedVariables false
theorem implStoreValid_any (x : Option Addr) (n cap : Nat) (l : List Pc) (B : Nat) (w : World) (h : Pcs w B x n cap l) (hB : B ≤ w.heap.size) (hz : ∀ k, (nthP l k).2.size ≤ maxLen) : Calls Tryz.prog 24 #[.slice x n cap] w (BelowB (storeB l) w) := by
  have HL := Lib.hid h.len
  have HH := Lib.hid h
  have HZ := Lib.hid hz
  have hmx := h.max
  have hle := h.le
  clear h hz
  unfold maxLen at hmx
  by_cases hbig : 40 < n
  · have HF := Lib.hid (show storeB l = false by unfold storeB; rw [decide_eq_false (by have := HL.out; omega)]; rfl)
    go_enter Tryz.func24, Tryz.ntmps24
    go_wp2
    go_ret
    exact ⟨ret_bool HF.out.symm, Below.refl _ _⟩
  go_enter Tryz.func24, Tryz.ntmps24
  go_wp2
  go_loopw [3, 4, 10] (fun _ _ i wr => ∃ k : Nat, k ≤ n ∧ i = .int .i64 k ∧ (∀ j, j < k → okAt l j = true) ∧ Below w.heap.size w wr) (fun _ _ i _ => n - (intOf i).toNat)
  case atStart => exact ⟨0, by omega, rfl, fun j hj => by omega, Below.refl _ _⟩
  case round =>
    obtain ⟨k, hk, rfl, ha, hb⟩ := hrel
    have HA := Lib.hid ha; have HB := Lib.hid hb; clear ha hb
    have hsz := HB.out.size
    by_cases hlt : k < n
    · have hkl : k < l.length := by have := HL.out; omega
      obtain ⟨b0, off, rfl, hb0, hc0, hc1⟩ := (HH.out.below HB.out hB).atP hlt
      have hzk := HZ.out k
      obtain ⟨W, hW⟩ : ∃ W, wr.alloc (.cells #[.int .i64 (nthP l k).1, .string (nthP l k).2] 44) = W := ⟨_, rfl⟩
      have HV := Lib.hid hW
      have hBW := HB.out.alloc hsz (.cells #[.int .i64 (nthP l k).1, .string (nthP l k).2] 44)
      have hnew := heap_alloc_new wr (.cells #[.int .i64 (nthP l k).1, .string (nthP l k).2] 44)
      rw [hW] at hBW hnew
      obtain ⟨p0, p1, p2, p3⟩ := two_at hnew
      have HBW := Lib.hid hBW
      have HHW := Lib.hid (HH.out.below hBW hB)
      clear hW hnew hBW p2 p3
      cases ht : textB (nthP l k).2
      · have HF := Lib.hid (storeB_bad hkl (okAt_no1 ht))
        go_wp2
        rw [HV.out]
        go_quiet (first | (go_at_call 52; refine Calls.quiet_of_same ((textValid_any _ _ hzk).mono fun _ _ h => ⟨h.1, h.2.symm⟩)) | (go_at_call 53; refine Calls.quiet_of_same ((printOf_any _ _ hzk).mono fun _ _ h => ⟨h.1, h.2.symm⟩)))
        go_wp2
        go_ret
        exact ⟨ret_bool HF.out.symm, below_drewN HBW.out _⟩
      · by_cases he : (nthP l k).1 = printB (nthP l k).2
        · have hd : ((nthP l k).1 != printB (nthP l k).2) = false := by simpa using he
          by_cases h0 : k = 0
          · have HR := Lib.hid (okAt_yes ht he.symm (.inl h0))
            have hd0 : (decide (0 < k)) = false := by simp; omega
            clear he h0
            go_wp2
            rw [HV.out]
            go_quiet (first | (go_at_call 52; refine Calls.quiet_of_same ((textValid_any _ _ hzk).mono fun _ _ h => ⟨h.1, h.2.symm⟩)) | (go_at_call 53; refine Calls.quiet_of_same ((printOf_any _ _ hzk).mono fun _ _ h => ⟨h.1, h.2.symm⟩)))
            go_wp2
            go_quiet (fail)
            go_wp2
            go_roundw
            case rel => exact ⟨k + 1, by omega, by go_num, fun j hj => by rcases Nat.lt_succ_iff_lt_or_eq.1 hj with h | rfl; exact HA.out j h; exact HR.out, below_drewN HBW.out _⟩
            case measure => simp [intOf]; omega
          · have hd0 : (decide (0 < k)) = true := by simp; omega
            have hcp := Lst.atPrev HHW.out hlt (by omega)
            have hk1 : 1 ≤ k := by omega
            by_cases h3 : (nthP l (k - 1)).1 < (nthP l k).1
            · have HR := Lib.hid (okAt_yes ht he.symm (.inr h3))
              clear he h0
              go_wp2
              rw [HV.out]
              go_quiet (first | (go_at_call 52; refine Calls.quiet_of_same ((textValid_any _ _ hzk).mono fun _ _ h => ⟨h.1, h.2.symm⟩)) | (go_at_call 53; refine Calls.quiet_of_same ((printOf_any _ _ hzk).mono fun _ _ h => ⟨h.1, h.2.symm⟩)))
              go_wp2
              go_quiet (fail)
              go_wp2
              go_roundw
              case rel => exact ⟨k + 1, by omega, by go_num, fun j hj => by rcases Nat.lt_succ_iff_lt_or_eq.1 hj with h | rfl; exact HA.out j h; exact HR.out, below_drewN HBW.out _⟩
              case measure => simp [intOf]; omega
            · have HF := Lib.hid (storeB_bad hkl (okAt_no3 h0 h3))
              clear he h0
              go_wp2
              rw [HV.out]
              go_quiet (first | (go_at_call 52; refine Calls.quiet_of_same ((textValid_any _ _ hzk).mono fun _ _ h => ⟨h.1, h.2.symm⟩)) | (go_at_call 53; refine Calls.quiet_of_same ((printOf_any _ _ hzk).mono fun _ _ h => ⟨h.1, h.2.symm⟩)))
              go_wp2
              go_quiet (fail)
              go_wp2
              go_ret
              exact ⟨ret_bool HF.out.symm, below_drewN (below_drewN HBW.out _) _⟩
        · have HF := Lib.hid (storeB_bad hkl (okAt_no2 fun h => he h.symm))
          have hd : ((nthP l k).1 != printB (nthP l k).2) = true := by simpa using he
          clear he
          go_wp2
          rw [HV.out]
          go_quiet (first | (go_at_call 52; refine Calls.quiet_of_same ((textValid_any _ _ hzk).mono fun _ _ h => ⟨h.1, h.2.symm⟩)) | (go_at_call 53; refine Calls.quiet_of_same ((printOf_any _ _ hzk).mono fun _ _ h => ⟨h.1, h.2.symm⟩)))
          go_wp2
          go_ret
          exact ⟨ret_bool HF.out.symm, below_drewN HBW.out _⟩
    · have HF := Lib.hid (storeB_end (l := l) (fun j hj => HA.out j (by have := HL.out; omega)))
      go_wp2
      go_ret
      exact ⟨ret_bool (by rw [HF.out, HL.out]; simp; omega), HB.out⟩
end Go.Proofs.YtikmmhccgmmneaaGreatDoor
/-
  Contracts of chapter 4's program: a piece is put in its place.
-/
namespace Go.Proofs.YtikmmhccgmmneaaGreatDoor
open Go.RowKit
set_option linter.unusedVariables false
/-- What putting an element in leaves. -/
def PutIn (l : List Pc) (base : Nat) (w : World) (e : Ending) (w' : World) : Prop := ∃ v', e = .returned v' ∧ OwnP w' base v' l ∧ Below base w w'
theorem own_parts {w : World} {base n cap : Nat} {x : Option Addr} {l : List Pc} (h : OwnP w base (.slice x n cap) l) (hn : 0 < n) : ∃ g cur, x = some ⟨g, 0, none⟩ ∧ base ≤ g ∧ RowIs w g 44 cur ∧ l.length = n ∧ n ≤ cap ∧ cap ≤ maxLen ∧ cur.length = cap * 2 ∧ cur.take (n * 2) = l.flatMap pcG := by
  obtain ⟨hl, h2⟩ := h
  rcases h2 with ⟨e, e'⟩ | ⟨g, cap', cur, e, hb, hg, hle, hm, hs, ht⟩
  · simp only [Value.slice.injEq] at e; omega
  · simp only [Value.slice.injEq] at e
    obtain ⟨rfl, rfl, rfl⟩ := e
    exact ⟨g, cur.toList, rfl, hb, by unfold RowIs; rw [Array.toArray_toList]; exact hg, rfl, hle, hm, by rw [Array.length_toList]; exact hs, ht⟩
end Go.Proofs.YtikmmhccgmmneaaGreatDoor
/-
  Contracts of chapter 4's program: putting, getting and joining.
-/
namespace Go.Proofs.YtikmmhccgmmneaaGreatDoor
open Go.RowKit
set_option linter.unusedVariables false
def NewPBAt (l : List Pc) (b : Bool) (base : Nat) (w : World) (e : Ending) (w' : World) : Prop := ∃ v, e = .returned (.tuple #[v, .bool b]) ∧ OwnP w' base v l ∧ Below base w w'
theorem newPBAt_of {l l' : List Pc} {b b' : Bool} {base : Nat} {w w' : World} {e : Ending} (h : (l, b) = (l', b')) (hx : NewPBAt l' b' base w e w') : NewPBAt l b base w e w' := by
  simp only [Prod.mk.injEq] at h; rw [h.1, h.2]; exact hx
end Go.Proofs.YtikmmhccgmmneaaGreatDoor
/-
  Contracts of chapter 4's program: PutText, GetText, JoinStores.
-/
namespace Go.Proofs.YtikmmhccgmmneaaGreatDoor
open Go.RowKit
set_option linter.unusedVariables false
theorem printB_ge {s : ByteArray} (h : textB s = true) : 0 ≤ printB s := by unfold printB; rw [if_pos h]; exact (sumB_bd _).1
theorem newPut_put {l : List Pc} {t : ByteArray} {base : Nat} {w w' : World} {v : Value} {p : Int} {b : Bool} (h : putB l t = ((putP l (printB t, t)).1, p, b)) (ho : OwnP w' w.heap.size v (putP l (printB t, t)).1) (hb : Below w.heap.size w w') : NewPut (putB l t).1 (putB l t).2.1 (putB l t).2.2 w (.returned (.tuple #[v, .int .i64 p, .bool b])) w' := by
  rw [h]; exact ⟨v, rfl, ho, hb⟩
/-- A text and a bool; what lay there lies there still. -/
def BelowSB (s : ByteArray) (b : Bool) (w : World) (e : Ending) (w' : World) : Prop := e = .returned (.tuple #[.string s, .bool b]) ∧ Below w.heap.size w w'
theorem belowSB_of {s t : ByteArray} {b c : Bool} {w w' : World} (h : s = t) (h' : b = c) (hq : Below w.heap.size w w') : BelowSB s b w (.returned (.tuple #[.string t, .bool c])) w' := by subst h; subst h'; exact ⟨rfl, hq⟩
theorem implGetText_any (x : Option Addr) (n cap : Nat) (l : List Pc) (p : Int) (B : Nat) (w : World) (h : Pcs w B x n cap l) (hB : B ≤ w.heap.size) (hz : ∀ k, (nthP l k).2.size ≤ maxLen) :
    Calls Tryz.prog 10 #[.slice x n cap, .int .i64 p] w (BelowSB (gotT l p) (gotO l p) w) := by
  have HH := Lib.hid h
  cases hs : storeB l
  · have HF := Lib.hid (got_no p hs)
    go_enter Tryz.func10, Tryz.ntmps10
    go_wp2_with (go_at_call 24; refine (implStoreValid_any _ _ _ _ _ _ HH.out hB hz).mono ?_; rintro e w2 ⟨rfl, hb2⟩; rw [hs]; have HB2 := Lib.hid hb2; clear hb2)
    go_ret2
    exact belowSB_of HF.out.1 HF.out.2 HB2.out
  have hn40 : n ≤ 40 := by have := (storeB_at hs).1; have := h.len; omega
  have HAS := Lib.hid (store_asc hs)
  have HLL := Lib.hid h.len
  have hsh := short_nth (store_short hs)
  clear h
  cases hh : hereP p l
  · have HF := Lib.hid (show gotT l p = ByteArray.empty ∧ gotO l p = false by
      have e := getB_gone (storeB_iff.1 hs).2.2 hh
      rw [(got_yes p hs).1, (got_yes p hs).2]; unfold getT getO; rw [e]; exact ⟨rfl, rfl⟩)
    go_enter Tryz.func10, Tryz.ntmps10
    go_wp2_with (first
      | (go_at_call 24; refine (implStoreValid_any _ _ _ _ _ _ HH.out hB hz).mono ?_; rintro e w2 ⟨rfl, hb2⟩; rw [hs]; have HH2 := Lib.hid (HH.out.below hb2 hB); have HB2 := Lib.hid hb2; clear hb2)
      | (go_at_call 25; refine (placeOf_any _ _ _ _ _ _ _ HH2.out (Nat.le_trans hB HB2.out.size) HAS.out (by omega)).mono ?_; rintro e w3 ⟨rfl, hb3⟩; rw [hh]; have HB3 := Lib.hid (HB2.out.trans (hb3.mono HB2.out.size)); clear hb3))
    go_ret2
    exact belowSB_of HF.out.1 HF.out.2 HB3.out
  · have hlt : atP p l < n := by have := (hereP_iff.1 hh).1; have := HLL.out; omega
    have HF := Lib.hid (show gotT l p = (nthP l (atP p l)).2 ∧ gotO l p = true by
      have e := getB_here hh
      rw [(got_yes p hs).1, (got_yes p hs).2]; unfold getT getO; rw [e]; exact ⟨rfl, rfl⟩)
    generalize hk : atP p l = k at *
    have hzk : (nthP l k).2.size ≤ 1000000 := Nat.le_trans (hsh k) (by decide)
    go_enter Tryz.func10, Tryz.ntmps10
    go_wp2_with (first
      | (go_at_call 24; refine (implStoreValid_any _ _ _ _ _ _ HH.out hB hz).mono ?_; rintro e w2 ⟨rfl, hb2⟩; rw [hs]; have HH2 := Lib.hid (HH.out.below hb2 hB); have HB2 := Lib.hid hb2; clear hb2)
      | (go_at_call 25; refine (placeOf_any _ _ _ _ _ _ _ HH2.out (Nat.le_trans hB HB2.out.size) HAS.out (by omega)).mono ?_; rintro e w3 ⟨rfl, hb3⟩; rw [hh, hk]; obtain ⟨b0, off, rfl, hb0, c0, c1⟩ := (HH2.out.below hb3 (Nat.le_trans hB HB2.out.size)).atP hlt; have HB3 := Lib.hid (HB2.out.trans (hb3.mono HB2.out.size)); clear hb3)
      | (go_at_call 26; refine (clone_any _ _ hzk).mono ?_; rintro e w4 ⟨rfl, hb4⟩; have HB4 := Lib.hid (HB3.out.trans (hb4.mono HB3.out.size)); clear hb4))
    go_ret2
    exact belowSB_of HF.out.1 HF.out.2 HB4.out
end Go.Proofs.YtikmmhccgmmneaaGreatDoor
/-
  Contract of chapter 4's program: JoinStores.
-/
namespace Go.Proofs.YtikmmhccgmmneaaGreatDoor
open Go.RowKit
set_option linter.unusedVariables false
theorem putP_putB {l : List Pc} {q : Pc} (h : storeB l = true) (hq : okPc q = true) : (putB l q.2).1 = (putP l q).1 ∧ (putB l q.2).2.2 = (putP l q).2 ∧ storeB (putP l q).1 = true := by
  obtain ⟨h1, h2⟩ := okPc_iff.1 hq
  obtain ⟨n, t⟩ := q
  simp only at h1 h2 ⊢
  subst h2
  rw [← show (putB l t).1 = (putP l (printB t, t)).1 by rw [putB_of h (printB_ge h1)]]
  exact ⟨rfl, by rw [putB_of h (printB_ge h1)], put_store h h1⟩
theorem store_ok {l : List Pc} {k : Nat} (h : storeB l = true) (hk : k < l.length) : okPc (nthP l k) = true := (storeB_iff.1 h).2.1 _ (nthP_mem hk)
end Go.Proofs.YtikmmhccgmmneaaGreatDoor
/-
  Chapter 4, plain: what stands in a store; a text put again.
-/
namespace Go.Proofs.YtikmmhccgmmneaaGreatDoor
open Go.RowKit
set_option linter.unusedVariables false
theorem store_lt {l : List Pc} (h : storeB l = true) {i j : Nat} (hj : j < l.length) (hij : i < j) : (nthP l i).1 < (nthP l j).1 := by
  have h3 := (storeB_iff.1 h).2.2
  rw [nthP_get (show i < l.length by omega), nthP_get hj]
  exact List.pairwise_iff_getElem.1 h3 i j (by omega) hj hij
theorem mem_at {l : List Pc} {q : Pc} (hq : q ∈ l) : ∃ k, k < l.length ∧ nthP l k = q := by
  obtain ⟨k, hk, e⟩ := List.mem_iff_getElem.1 hq
  exact ⟨k, hk, by rw [nthP_get hk]; exact e⟩
/-- What stands in a store can be got. -/
theorem got_mem {l : List Pc} {q : Pc} (h : storeB l = true) (hq : q ∈ l) : gotT l q.1 = q.2 ∧ gotO l q.1 = true := by
  obtain ⟨k, hk, rfl⟩ := mem_at hq
  have hg := getB_some (p := (nthP l k).1) hk (fun j hj => by have := store_lt h hk hj; omega) rfl
  obtain ⟨e1, e2⟩ := got_yes (nthP l k).1 h
  rw [e1, e2]
  unfold getT getO
  rw [hg]
  exact ⟨rfl, rfl⟩
/-- What can be got stands in the store. -/
theorem got_in {l : List Pc} {p : Int} (h : gotO l p = true) : storeB l = true ∧ (p, gotT l p) ∈ l := by
  unfold gotO at h
  rw [Bool.and_eq_true] at h
  refine ⟨h.1, ?_⟩
  rw [(got_yes p h.1).1]
  have h2 := h.2
  unfold getO getB at h2
  unfold getT getB
  rw [Option.isSome_map] at h2
  obtain ⟨q, hq⟩ := Option.isSome_iff_exists.1 h2
  rw [hq]
  have h3 := List.find?_some hq
  simp only [decide_eq_true_eq] at h3
  have h4 := List.mem_of_find?_eq_some hq
  subst h3
  exact h4
/-- A text that stands there changes nothing. -/
theorem put_again {l : List Pc} {t : ByteArray} (h : storeB l = true) (hm : (printB t, t) ∈ l) (h0 : ¬ printB t < 0) : putB l t = (l, printB t, true) := by
  obtain ⟨k, hk, e⟩ := mem_at hm
  have ha : atP (printB t) l = k := atP_eq (Nat.le_of_lt hk) (fun j hj => by have := store_lt h hk hj; rw [e] at this; exact this) (.inr (by rw [e]; exact Int.lt_irrefl _))
  exact putB_there h h0 ha (hereP_yes ha hk (by rw [e])) (by rw [e])
theorem put_no {l : List Pc} {t : ByteArray} (h : (putB l t).2.2 = false) : (putB l t).2.1 = -1 ∧ ((putB l t).1 = l ∨ (putB l t).1 = []) := by
  cases hs : storeB l
  · rw [putB_bad hs]; exact ⟨rfl, .inr rfl⟩
  by_cases h1 : printB t < 0
  · rw [putB_text hs h1]; exact ⟨rfl, .inl rfl⟩
  cases hh : hereP (printB t) l
  · by_cases h4 : l.length = 40
    · rw [putB_full hs h1 hh h4]; exact ⟨rfl, .inl rfl⟩
    · rw [putB_new hs h1 rfl hh h4] at h; cases h
  · by_cases h3 : (nthP l (atP (printB t) l)).2 = t
    · rw [putB_there hs h1 rfl hh h3] at h; cases h
    · rw [putB_other hs h1 rfl hh h3]; exact ⟨rfl, .inl rfl⟩
theorem text_of_print {t : ByteArray} (h : ¬ printB t < 0) : textB t = true := by
  cases ht : textB t
  · rw [printB_none ht] at h; omega
  · rfl
theorem put_yes {l : List Pc} {t : ByteArray} (h : (putB l t).2.2 = true) : storeB l = true ∧ textB t = true ∧ (putB l t).2.1 = printB t ∧ storeB (putB l t).1 = true ∧ (printB t, t) ∈ (putB l t).1 ∧ (∀ q ∈ l, q ∈ (putB l t).1) ∧ (putB l t).1.length ≤ l.length + 1 ∧ putB (putB l t).1 t = ((putB l t).1, printB t, true) := by
  cases hs : storeB l
  · rw [putB_bad hs] at h; cases h
  by_cases h1 : printB t < 0
  · rw [putB_text hs h1] at h; cases h
  have ht := text_of_print h1
  have hst := put_store hs ht
  cases hh : hereP (printB t) l
  · by_cases h4 : l.length = 40
    · rw [putB_full hs h1 hh h4] at h; cases h
    · have e := putB_new hs h1 rfl hh h4
      have hm : (printB t, t) ∈ (putB l t).1 := by rw [e]; simp
      refine ⟨rfl, ht, by rw [e], hst, hm, fun q hq => ?_, by rw [e]; simp; omega, put_again hst hm h1⟩
      rw [e]
      have hq' : q ∈ l.take (atP (printB t) l) ++ l.drop (atP (printB t) l) := by rw [List.take_append_drop]; exact hq
      rcases List.mem_append.1 hq' with h5 | h5
      · exact List.mem_append_left _ h5
      · exact List.mem_append_right _ (List.mem_cons_of_mem _ h5)
  · obtain ⟨ha, hp⟩ := hereP_iff.1 hh
    by_cases h3 : (nthP l (atP (printB t) l)).2 = t
    · have e := putB_there hs h1 rfl hh h3
      have hm : (printB t, t) ∈ (putB l t).1 := by
        rw [e]
        have := nthP_mem ha
        have e2 : nthP l (atP (printB t) l) = (printB t, t) := Prod.ext hp h3
        rwa [e2] at this
      exact ⟨rfl, ht, by rw [e], hst, hm, fun q hq => by rw [e]; exact hq, by rw [e]; simp, put_again hst hm h1⟩
    · rw [putB_other hs h1 rfl hh h3] at h; cases h
end Go.Proofs.YtikmmhccgmmneaaGreatDoor
/-
  Chapter 4, plain: what joined stores hold.
-/
namespace Go.Proofs.YtikmmhccgmmneaaGreatDoor
open Go.RowKit
set_option linter.unusedVariables false
theorem put_only {l : List Pc} {t : ByteArray} {q : Pc} (hq : q ∈ (putB l t).1) : q ∈ l ∨ q = (printB t, t) := by
  cases hs : storeB l
  · rw [putB_bad hs] at hq; cases hq
  by_cases h1 : printB t < 0
  · rw [putB_text hs h1] at hq; exact .inl hq
  cases hh : hereP (printB t) l
  · by_cases h4 : l.length = 40
    · rw [putB_full hs h1 hh h4] at hq; exact .inl hq
    · rw [putB_new hs h1 rfl hh h4] at hq
      rcases List.mem_append.1 hq with h5 | h5
      · exact .inl (List.mem_of_mem_take h5)
      · rcases List.mem_cons.1 h5 with h6 | h6
        · exact .inr h6
        · exact .inl (List.mem_of_mem_drop h6)
  · by_cases h3 : (nthP l (atP (printB t) l)).2 = t
    · rw [putB_there hs h1 rfl hh h3] at hq; exact .inl hq
    · rw [putB_other hs h1 rfl hh h3] at hq; exact .inl hq
theorem put_grows {l : List Pc} {t : ByteArray} (h : (putB l t).2.2 = true) : l.length ≤ (putB l t).1.length := by
  obtain ⟨hs, htx, _⟩ := put_yes h
  have h1 : ¬ printB t < 0 := by have := printB_ge htx; omega
  cases hh : hereP (printB t) l
  · by_cases h4 : l.length = 40
    · rw [putB_full hs h1 hh h4] at h; cases h
    · rw [putB_new hs h1 rfl hh h4]; simp; omega
  · by_cases h3 : (nthP l (atP (printB t) l)).2 = t
    · rw [putB_there hs h1 rfl hh h3]; exact Nat.le_refl _
    · rw [putB_other hs h1 rfl hh h3] at h; cases h
/-- What a joined store holds. -/
theorem join_holds : ∀ {b a x : List Pc}, storeB a = true → (∀ q ∈ b, okPc q = true) → joinGo a b = some x →
    storeB x = true ∧ (∀ q, q ∈ x ↔ q ∈ a ∨ q ∈ b) ∧ a.length ≤ x.length ∧ x.length ≤ a.length + b.length
  | [], a, x, ha, hb, h => by
    have e : joinGo a [] = some a := rfl
    rw [e] at h
    cases h
    exact ⟨ha, fun q => by simp, Nat.le_refl _, by simp⟩
  | p :: r, a, x, ha, hb, h => by
    cases ho : (putB a p.2).2.2
    · rw [joinGo, if_neg (by rw [ho]; simp)] at h; cases h
    · rw [joinGo, if_pos ho] at h
      obtain ⟨_, _, _, h4, h5, h6, h7, _⟩ := put_yes ho
      obtain ⟨i1, i2, i3, i4⟩ := join_holds h4 (fun q hq => hb q (List.mem_cons_of_mem _ hq)) h
      have hp := (okPc_iff.1 (hb p (List.mem_cons_self ..))).2
      have e : (printB p.2, p.2) = p := Prod.ext hp rfl
      rw [e] at h5
      refine ⟨i1, fun q => ?_, Nat.le_trans (put_grows ho) i3, by simp; omega⟩
      rw [i2 q, List.mem_cons]
      constructor
      · rintro (h | h)
        · rcases put_only h with h | h
          · exact .inl h
          · rw [e] at h; exact .inr (.inl h)
        · exact .inr (.inr h)
      · rintro (h | h | h)
        · exact .inl (h6 q h)
        · subst h; exact .inl h5
        · exact .inr h
/-- Two stores that hold the same are the same. -/
theorem sorted_eq : ∀ {a b : List Pc}, a.Pairwise (fun u v => u.1 < v.1) → b.Pairwise (fun u v => u.1 < v.1) → (∀ q, q ∈ a ↔ q ∈ b) → a = b
  | [], [], _, _, _ => rfl
  | [], q :: s, _, _, h => absurd ((h q).2 (List.mem_cons_self ..)) (by simp)
  | p :: r, [], _, _, h => absurd ((h p).1 (List.mem_cons_self ..)) (by simp)
  | p :: r, q :: s, ha, hb, h => by
    rw [List.pairwise_cons] at ha hb
    have e : p = q := by
      rcases List.mem_cons.1 ((h p).1 (List.mem_cons_self ..)) with h1 | h1
      · exact h1
      · rcases List.mem_cons.1 ((h q).2 (List.mem_cons_self ..)) with h2 | h2
        · exact h2.symm
        · have := ha.1 q h2; have := hb.1 p h1; omega
    subst e
    congr 1
    refine sorted_eq ha.2 hb.2 fun u => ⟨fun hu => ?_, fun hu => ?_⟩
    · rcases List.mem_cons.1 ((h u).1 (List.mem_cons_of_mem _ hu)) with h1 | h1
      · subst h1; have := ha.1 u hu; omega
      · exact h1
    · rcases List.mem_cons.1 ((h u).2 (List.mem_cons_of_mem _ hu)) with h1 | h1
      · subst h1; have := hb.1 u hu; omega
      · exact h1
theorem store_eq {a b : List Pc} (ha : storeB a = true) (hb : storeB b = true) (h : ∀ q, q ∈ a ↔ q ∈ b) : a = b := sorted_eq (storeB_iff.1 ha).2.2 (storeB_iff.1 hb).2.2 h
theorem sorted_len : ∀ {a b : List Pc}, a.Pairwise (fun u v => u.1 < v.1) → b.Pairwise (fun u v => u.1 < v.1) → (∀ q ∈ a, q ∈ b) → a.length ≤ b.length
  | [], b, _, _, _ => Nat.zero_le _
  | p :: r, b, ha, hb, h => by
    rw [List.pairwise_cons] at ha
    obtain ⟨b1, b2, rfl⟩ := List.append_of_mem (h p (List.mem_cons_self ..))
    rw [List.pairwise_append] at hb
    obtain ⟨_, h2, h3⟩ := hb
    rw [List.pairwise_cons] at h2
    have := sorted_len ha.2 h2.2 fun q hq => by
      have h4 := ha.1 q hq
      rcases List.mem_append.1 (h q (List.mem_cons_of_mem _ hq)) with h5 | h5
      · have := h3 q h5 p (List.mem_cons_self ..); omega
      · rcases List.mem_cons.1 h5 with h6 | h6
        · subst h6; omega
        · exact h6
    simp; omega
theorem sorted_one {x : List Pc} (hx : x.Pairwise fun u v => u.1 < v.1) {p q : Pc} (hp : p ∈ x) (hq : q ∈ x) (h : p.1 = q.1) : p = q := by
  obtain ⟨i, hi, rfl⟩ := List.mem_iff_getElem.1 hp
  obtain ⟨j, hj, rfl⟩ := List.mem_iff_getElem.1 hq
  rcases Nat.lt_trichotomy i j with h1 | h1 | h1
  · have := List.pairwise_iff_getElem.1 hx i j hi hj h1; omega
  · subst h1; rfl
  · have := List.pairwise_iff_getElem.1 hx j i hj hi h1; omega
/-- A piece of a store that holds 'a' can be put to 'a'. -/
theorem put_fits {a x : List Pc} {p : Pc} (ha : storeB a = true) (hp : okPc p = true) (hx : storeB x = true) (h : ∀ q ∈ a, q ∈ x) (hpx : p ∈ x) : (putB a p.2).2.2 = true := by
  obtain ⟨h1, h2⟩ := okPc_iff.1 hp
  obtain ⟨hx1, _, hx3⟩ := storeB_iff.1 hx
  have h3 := (storeB_iff.1 ha).2.2
  have h0 : ¬ printB p.2 < 0 := by have := printB_ge h1; omega
  cases hh : hereP (printB p.2) a
  · by_cases h4 : a.length = 40
    · have hs : (a.take (atP p.1 a) ++ p :: a.drop (atP p.1 a)).Pairwise (fun u v => u.1 < v.1) := by
        rw [h2] at hh
        refine List.pairwise_append.2 ⟨h3.sublist (List.take_sublist _ _), List.pairwise_cons.2 ⟨fun q hq => drop_gt h3 hh hq, h3.sublist (List.drop_sublist _ _)⟩, fun u hu v hv => ?_⟩
        have h4 := take_lt hu
        rcases List.mem_cons.1 hv with rfl | hv
        · exact h4
        · have := drop_gt h3 hh hv; omega
      have hat := atP_le p.1 a
      have := sorted_len hs hx3 fun q hq => by
        rcases List.mem_append.1 hq with h5 | h5
        · exact h q (List.mem_of_mem_take h5)
        · rcases List.mem_cons.1 h5 with h6 | h6
          · subst h6; exact hpx
          · exact h q (List.mem_of_mem_drop h6)
      simp at this
      omega
    · rw [putB_new ha h0 rfl hh h4]
  · obtain ⟨hl, he⟩ := hereP_iff.1 hh
    have e := sorted_one hx3 (h _ (nthP_mem hl)) hpx (by rw [he, h2])
    rw [putB_there ha h0 rfl hh (by rw [e])]
/-- A store that holds both is the joined one. -/
theorem join_of : ∀ {b a x : List Pc}, storeB a = true → (∀ q ∈ b, okPc q = true) → storeB x = true → (∀ q, q ∈ x ↔ q ∈ a ∨ q ∈ b) → joinGo a b = some x
  | [], a, x, ha, hb, hx, h => by
    have e : joinGo a [] = some a := rfl
    rw [e, store_eq ha hx fun q => by rw [h q]; simp]
  | p :: r, a, x, ha, hb, hx, h => by
    have hpx : p ∈ x := (h p).2 (.inr (List.mem_cons_self ..))
    have hok := hb p (List.mem_cons_self ..)
    have ho := put_fits ha hok hx (fun q hq => (h q).2 (.inl hq)) hpx
    obtain ⟨_, _, _, h4, h5, h6, _, _⟩ := put_yes ho
    have hp := (okPc_iff.1 hok).2
    have e : (printB p.2, p.2) = p := Prod.ext hp rfl
    rw [e] at h5
    rw [joinGo, if_pos ho]
    refine join_of h4 (fun q hq => hb q (List.mem_cons_of_mem _ hq)) hx fun q => ?_
    rw [h q, List.mem_cons]
    constructor
    · rintro (h | h | h)
      · exact .inl (h6 q h)
      · subst h; exact .inl h5
      · exact .inr h
    · rintro (h | h)
      · rcases put_only h with h | h
        · exact .inl h
        · rw [e] at h; exact .inr (.inl h)
      · exact .inr (.inr h)
/-- The order of stores does not matter. -/
theorem join_comm {a b x : List Pc} (ha : storeB a = true) (hb : storeB b = true) (h : joinGo a b = some x) : joinGo b a = some x := by
  obtain ⟨h1, h2, _⟩ := join_holds ha (storeB_iff.1 hb).2.1 h
  exact join_of hb (storeB_iff.1 ha).2.1 h1 fun q => by rw [h2 q]; exact or_comm
theorem joinS_comm (a b : List Pc) : joinSL b a = joinSL a b ∧ joinSO b a = joinSO a b := by
  unfold joinSL joinSO
  cases ha : storeB a <;> cases hb : storeB b <;> simp
  cases h : joinGo a b with
  | some x => rw [join_comm ha hb h]; exact ⟨rfl, rfl⟩
  | none =>
    cases h' : joinGo b a with
    | some y => rw [join_comm hb ha h'] at h; cases h
    | none => exact ⟨rfl, rfl⟩
theorem joinS_holds {a b : List Pc} (h : joinSO a b = true) : storeB (joinSL a b) = true ∧ (∀ q, q ∈ joinSL a b ↔ q ∈ a ∨ q ∈ b) ∧ a.length ≤ (joinSL a b).length ∧ (joinSL a b).length ≤ a.length + b.length := by
  unfold joinSO at h
  simp only [Bool.and_eq_true] at h
  obtain ⟨⟨ha, hb⟩, hj⟩ := h
  obtain ⟨x, hx⟩ := Option.isSome_iff_exists.1 hj
  have e := (joinS_some (by rw [ha, hb]; rfl) hx).1
  rw [e]
  exact join_holds ha (storeB_iff.1 hb).2.1 hx
theorem joinS_empty {a b : List Pc} (h : joinSO a b = false) : joinSL a b = [] := by
  unfold joinSO at h
  unfold joinSL
  split
  · rename_i hs
    rw [hs, Bool.true_and] at h
    cases hj : joinGo a b with
    | some x => rw [hj] at h; cases h
    | none => rfl
  · rfl
end Go.Proofs.YtikmmhccgmmneaaGreatDoor
