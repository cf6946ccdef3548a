/-
  Draws of chapter 4: a store and a text.
-/
import Derived.Test.YtpjndkiclfoanaaDraw7
import Derived.Test.YtpjndkiclfoanaaDraw2
namespace Go.Proofs.Ytpjndkiclfoanaa
open Go.RowKit
set_option linter.unusedVariables false
theorem texts_61 : ∀ s ∈ texts1 ++ texts2, s.size ≤ 61 := by decide +kernel
theorem t_small : ∀ h : ByteArray, h.size ≤ 6 → ((⟨#[116]⟩ : ByteArray) ++ h).size ≤ maxLen := fun h hh => by
  rw [ByteArray.size_append]; show 1 + _ ≤ _; unfold maxLen; omega
/-- A drawn store and a text, at the law. -/
def StoreTextOut (w : World) (e : Ending) (w' : World) : Prop :=
  ∃ (x : Option Addr) (n cap : Nat) (l : List Pc) (t : ByteArray), e = .returned (.tuple #[.slice x n cap, .string t]) ∧ t.size ≤ 61 ∧ Pcs w' w'.heap.size x n cap l ∧ Short 60 l ∧ l.length ≤ 41 ∧ Below w.heap.size w w'
set_option maxHeartbeats 1000000 in
set_option maxRecDepth 100000 in
theorem drawPutText_any (x : Option Addr) (n cap : Nat) (w : World) (h : Bytes w.heap.size w x n) (hn : n ≤ cap) (hc : cap ≤ maxLen) :
    Calls Try.prog 15 #[.slice x n cap] w (StoreTextOut w) := by
  go_enter Try.func15, Try.ntmps15
  go_wp2_with fail
  refine (open_any x n cap w h hn hc).mono ?_
  rintro e w1 ⟨rfl, hr, hb⟩
  have HR := Lib.hid hr; have HB := Lib.hid hb; clear hr hb h hn hc
  go_wp2_with fail
  refine (l20Store_any w.heap.size w.heap.size 0 _ _ HR.out (by omega) (by omega)).mono ?_
  rintro e w2 ⟨x2, n2, c2, l2, p2, rfl, hl, hf, hr, hg⟩
  have HL := Lib.hid hl; have HF := Lib.hid hf; have HR2 := Lib.hid hr; have HG := Lib.hid hg; clear hl hf hr hg
  go_wp2_with fail
  refine (odd_any w.heap.size w.heap.size _ _ _ HR2.out (by omega) (by omega)).mono ?_
  rintro e w3 ⟨b, rfl, _, _, hr, hg⟩
  have HR3 := Lib.hid hr; have HG3 := Lib.hid (grownBy_trans HG.out hg); have HL3 := Lib.hid (Lst.more (Lst.rd_kept HL.out HR2.out hg (Nat.le_refl _)) hg.size); clear hr hg HL HR2 HG
  cases b
  · go_wp2_with fail
    refine (l20Text_any w.heap.size w.heap.size _ _ _ HR3.out (by omega) (by omega)).mono ?_
    rintro e w4 ⟨t, rfl, ht, hr, hg⟩
    have HL4 := Lib.hid (Lst.more (Lst.rd_kept HL3.out HR3.out hg (Nat.le_refl _)) hg.size)
    have HG4 := Lib.hid (grownBy_trans HG3.out hg)
    have HT := Lib.hid (texts_61 t ht)
    clear hr hg ht
    go_wp2_with fail
    go_ret2
    exact ⟨x2, n2, c2, l2, t, rfl, HT.out, HL4.out, HF.out.2.2, HF.out.2.1, HB.out.trans (below_grownBy HG4.out HB.out.size (Nat.le_refl _))⟩
  · have HT6 := Lib.hid t_small
    have HR4 := Lib.hid (rd_alloc HR3.out (.cells #[] 28))
    have HG4 := Lib.hid (grownBy_trans HG3.out (World.grownBy_alloc w3 (.cells #[] 28) (some w.heap.size)))
    clear HL3 HF HR3 HG3
    go_wp2_with fail
    go_loopw [5, 7] (fun sv kv wr => ∃ (k : Nat) (y : Option Addr) (m c : Nat) (l : List Pc), k ≤ 200 ∧ kv = .int .i64 k ∧ sv = .slice y m c ∧ Pcs wr wr.heap.size y m c l ∧ storeB l = true ∧ Rd w.heap.size wr w.heap.size (0 + 60 + 1) ∧ w1.grownBy wr (some w.heap.size)) (fun _ kv _ => 200 - (intOf kv).toNat)
    case atStart => exact ⟨0, _, 0, 0, [], by omega, rfl, rfl, Lst.empty _ _ _ _ _ (by unfold maxLen; omega), by decide, HR4.out, HG4.out⟩
    case round =>
      obtain ⟨k, y, m, c, l, hk, rfl, rfl, hl, hs, hr, hg⟩ := hrel
      have HL := Lib.hid hl; have HS := Lib.hid hs; have HR5 := Lib.hid hr; have HG5 := Lib.hid hg; clear hl hs hr hg HR4 HG4
      by_cases h1 : (m : Int) < 40
      · by_cases h2 : (k : Int) < 200
        · have hx6 := hexB_size (k : Int)
          have HZ := Lib.hid (show ∀ j, (nthP l j).2.size ≤ maxLen from fun j => Nat.le_trans (short_nth (store_short HS.out) j) (by unfold maxLen; omega))
          go_wp2_with (first
            | (go_at_call 38; refine (specHexText_any _ _).mono ?_; rintro e w' ⟨rfl, rfl⟩))
          refine (specPutText_any _ _ _ l _ _ _ HL.out (Nat.le_refl _) HZ.out (HT6.out _ hx6)).mono ?_
          rintro e w5 ⟨v, rfl, ho, hb⟩
          obtain ⟨y5, m5, c5, rfl, hl5⟩ := ho.lst
          have HL5 := Lib.hid hl5; have HR6 := Lib.hid (HR5.out.below hb); have HG6 := Lib.hid (grownBy_join HG5.out hb); clear ho hb hl5
          go_wp2_with fail
          go_roundw
          case rel => exact ⟨k + 1, y5, m5, c5, _, by omega, by go_num, rfl, HL5.out, putB_store l _ HS.out, HR6.out, HG6.out⟩
          case measure => simp [intOf]; omega
        · go_wp2_with fail
          refine (l20Text_any w.heap.size w.heap.size _ _ _ HR5.out (by omega) (by omega)).mono ?_
          rintro e w6 ⟨t, rfl, ht, hr, hg⟩
          have HL6 := Lib.hid (Lst.more (Lst.rd_kept HL.out HR5.out hg (Nat.le_refl _)) hg.size)
          have HG6 := Lib.hid (grownBy_trans HG5.out hg)
          have HT := Lib.hid (texts_61 t ht)
          clear hr hg ht
          go_wp2_with fail
          go_ret2
          exact ⟨y, m, c, l, t, rfl, HT.out, HL6.out, store_short HS.out, Nat.le_trans (storeB_at HS.out).1 (by decide), HB.out.trans (below_grownBy HG6.out HB.out.size (Nat.le_refl _))⟩
      · go_wp2_with fail
        refine (l20Text_any w.heap.size w.heap.size _ _ _ HR5.out (by omega) (by omega)).mono ?_
        rintro e w6 ⟨t, rfl, ht, hr, hg⟩
        have HL6 := Lib.hid (Lst.more (Lst.rd_kept HL.out HR5.out hg (Nat.le_refl _)) hg.size)
        have HG6 := Lib.hid (grownBy_trans HG5.out hg)
        have HT := Lib.hid (texts_61 t ht)
        clear hr hg ht
        go_wp2_with fail
        go_ret2
        exact ⟨y, m, c, l, t, rfl, HT.out, HL6.out, store_short HS.out, Nat.le_trans (storeB_at HS.out).1 (by decide), HB.out.trans (below_grownBy HG6.out HB.out.size (Nat.le_refl _))⟩
end Go.Proofs.Ytpjndkiclfoanaa
