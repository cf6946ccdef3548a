/-
  Draws of chapter 3.
-/
import Derived.Test.YtefcmpbjfcpdeaaDraw2
import Derived.Test.YtefcmpbjfcpdeaaChunks3
namespace Go.Proofs.Ytefcmpbjfcpdeaa
open Go.RowKit
set_option linter.unusedVariables false
/-- A drawn text of at most m bytes, the reader behind it. -/
def LenR (m : Nat) (B r c : Nat) (w : World) (e : Ending) (w' : World) : Prop := ∃ s : ByteArray, e = .returned (.string s) ∧ s.size ≤ m ∧ Rd B w' r c ∧ w.grownBy w' (some r)
def longs : List ByteArray := [⟨#[97]⟩, ⟨#[100]⟩, ⟨#[97, 98]⟩, ⟨#[104]⟩, ⟨#[109]⟩, ⟨#[32]⟩]
theorem longs_size : ∀ s ∈ longs, s.size ≤ 2 := by decide +kernel
theorem texts_small' : ∀ s ∈ texts1 ++ texts2, s.size ≤ 61 := by decide +kernel
theorem l20Long_any (B r c : Nat) (n : Int) (w : World) (h : Rd B w r c) (hc : c ≤ 90000) (hn : n ≤ 1000000) :
    Calls Try.prog 36 #[.pointer (some ⟨r, 0, none⟩), .int .i64 n] w (LenR 61 B r (c + 23) w) := by
  have H := Lib.hid h; clear h
  have hrB := H.out.le
  go_enter Try.func36, Try.ntmps36
  go_wp2_with fail
  refine (pickN_any 20 B r c _ w w H.out (grownBy_refl _ _) rfl (by decide) (by decide) (by omega)).mono ?_
  rintro e w1 ⟨k0, rfl, hk0, hr, hg, _⟩
  have HR := Lib.hid hr; have HG := Lib.hid hg; clear hr hg
  go_wp2_with fail
  go_loopw [5, 6] (fun t k wr => ∃ (m : Nat) (s : ByteArray), m ≤ 19 ∧ k = .int .i64 m ∧ t = .string s ∧ s.size + 2 * m ≤ 38 ∧ Rd B wr r (c + 20 - m) ∧ w.grownBy wr (some r)) (fun _ k _ => (intOf k).toNat)
  case atStart => exact ⟨k0, _, by omega, rfl, rfl, by show 0 + 2 * k0 ≤ 38; omega, HR.out.more (by omega), HG.out⟩
  case round =>
    obtain ⟨m, s, hm, rfl, rfl, hs, hr, hg⟩ := hrel
    have HR := Lib.hid hr; have HG := Lib.hid hg; clear hr hg
    by_cases h0 : 0 < m
    · go_wp2_with fail
      refine (pickStr_any longs B r (c + 20 - m) _ _ _ HR.out rfl rfl (by decide) (by decide) (by omega)).mono ?_
      rintro e w2 ⟨j, rfl, hj, hcell, hr, hg⟩
      have HR2 := Lib.hid hr; have HG2 := Lib.hid (grownBy_trans HG.out hg); clear hr hg
      have hz := getD_size longs j 2 longs_size
      have hj6 : j < 6 := hj
      clear hj
      generalize longs.getD j ByteArray.empty = t at hcell hz ⊢
      have HZ := Lib.hid (show (s ++ t).size + 2 * (m - 1) ≤ 38 by rw [ByteArray.size_append]; omega)
      go_wp2_with fail
      go_roundw
      case rel => exact ⟨m - 1, s ++ t, by omega, by go_num, rfl, HZ.out, HR2.out.more (by omega), HG2.out⟩
      case measure => simp [intOf]; omega
    · obtain rfl : m = 0 := by omega
      go_wp2_with fail
      refine (odd_any B r (c + 20) _ _ HR.out (by omega) hn).mono ?_
      rintro e w2 ⟨b, rfl, _, _, hr, hg⟩
      have HR2 := Lib.hid hr; have HG2 := Lib.hid (grownBy_trans HG.out hg); clear hr hg
      cases b
      · go_wp2_with fail
        go_ret
        exact ⟨s, rfl, by omega, HR2.out.more (by omega), HG2.out⟩
      · go_wp2_with fail
        refine (l20Text_any B r (c + 20 + 1) _ _ HR2.out (by omega) (by omega)).mono ?_
        rintro e w3 ⟨t, rfl, ht, hr, hg⟩
        have HR3 := Lib.hid hr; have HG3 := Lib.hid (grownBy_trans HG2.out hg); have HT := Lib.hid (texts_small' t ht); clear hr hg ht
        go_wp2_with fail
        go_ret
        exact ⟨t, rfl, HT.out, HR3.out.more (by omega), HG3.out⟩
theorem drawChunkEnds_any (x : Option Addr) (n cap : Nat) (w : World) (h : Bytes w.heap.size w x n) (hn : n ≤ cap) (hc : cap ≤ maxLen) :
    Calls Try.prog 11 #[.slice x n cap] w (LenOut 61 w) := by
  go_enter Try.func11, Try.ntmps11
  go_wp2_with (first
    | (go_at_call 37; refine (open_any x n cap w h hn hc).mono ?_; rintro e w1 ⟨rfl, hr, hb⟩; have HR := Lib.hid hr; have HB := Lib.hid hb; clear hr hb)
    | (go_at_call 36; refine (l20Long_any w.heap.size w.heap.size 0 _ _ HR.out (by omega) (by omega)).mono ?_; rintro e w2 ⟨s, rfl, hs, hr, hg⟩; have HS := Lib.hid hs; have HG := Lib.hid hg; clear hs hr hg))
  go_ret
  exact ⟨_, rfl, HS.out, HB.out.trans (below_grownBy HG.out HB.out.size (Nat.le_refl _))⟩
theorem drawChunksOf_any (x : Option Addr) (n cap : Nat) (w : World) (h : Bytes w.heap.size w x n) (hn : n ≤ cap) (hc : cap ≤ maxLen) :
    Calls Try.prog 16 #[.slice x n cap] w (LenOut 61 w) := by
  go_enter Try.func16, Try.ntmps16
  go_wp2_with (first
    | (go_at_call 37; refine (open_any x n cap w h hn hc).mono ?_; rintro e w1 ⟨rfl, hr, hb⟩; have HR := Lib.hid hr; have HB := Lib.hid hb; clear hr hb)
    | (go_at_call 36; refine (l20Long_any w.heap.size w.heap.size 0 _ _ HR.out (by omega) (by omega)).mono ?_; rintro e w2 ⟨s, rfl, hs, hr, hg⟩; have HS := Lib.hid hs; have HG := Lib.hid hg; clear hs hr hg))
  go_ret
  exact ⟨_, rfl, HS.out, HB.out.trans (below_grownBy HG.out HB.out.size (Nat.le_refl _))⟩
theorem drawChunkPrints_any (x : Option Addr) (n cap : Nat) (w : World) (h : Bytes w.heap.size w x n) (hn : n ≤ cap) (hc : cap ≤ maxLen) :
    Calls Try.prog 24 #[.slice x n cap] w (LenOut 61 w) := by
  go_enter Try.func24, Try.ntmps24
  go_wp2_with (first
    | (go_at_call 37; refine (open_any x n cap w h hn hc).mono ?_; rintro e w1 ⟨rfl, hr, hb⟩; have HR := Lib.hid hr; have HB := Lib.hid hb; clear hr hb)
    | (go_at_call 36; refine (l20Long_any w.heap.size w.heap.size 0 _ _ HR.out (by omega) (by omega)).mono ?_; rintro e w2 ⟨s, rfl, hs, hr, hg⟩; have HS := Lib.hid hs; have HG := Lib.hid hg; clear hs hr hg))
  go_ret
  exact ⟨_, rfl, HS.out, HB.out.trans (below_grownBy HG.out HB.out.size (Nat.le_refl _))⟩
theorem own_keptL {α : Type} {g : α → List Value} {e : TypeId} {size : Nat} {w w' : World} {base r : Nat} {v : Value} {l : List α} (h : OwnL g e size w base v l) (hg : w.grownBy w' (some r)) (hr : r < base) : OwnL g e size w' base v l :=
  World.ownsRow.kept h hg (by
    rcases hv : v.ownBlock with _ | k
    · exact .inl rfl
    · right; intro e; injection e with e; have := own_at h hv; omega)
/-- Drawn texts, each of at most m bytes. -/
def StrsOut (k m : Nat) (w : World) (e : Ending) (w' : World) : Prop := ∃ (v : Value) (l : List ByteArray), e = .returned v ∧ l.length ≤ k ∧ (∀ t ∈ l, t.size ≤ m) ∧ OwnS w' w.heap.size v l ∧ Below w.heap.size w w'
def joins (t u : ByteArray) : List ByteArray := [⟨#[]⟩, ⟨#[120]⟩, ⟨#[10]⟩, t, u]
theorem joins_size {t u : ByteArray} (h : t.size ≤ 61) (h' : u.size ≤ 61) : ∀ s ∈ joins t u, s.size ≤ 61 := by
  intro s hs
  simp only [joins, List.mem_cons, List.not_mem_nil, or_false] at hs
  rcases hs with rfl | rfl | rfl | rfl | rfl <;> first | assumption | decide
theorem chunks_mem {s t : ByteArray} (h : t ∈ chunksB s) : t.size ≤ s.size := pieces_size s _ _ t h
theorem drawJoinChunks_any (x : Option Addr) (n cap : Nat) (w : World) (h : Bytes w.heap.size w x n) (hn : n ≤ cap) (hc : cap ≤ maxLen) :
    Calls Try.prog 22 #[.slice x n cap] w (StrsOut 61 61 w) := by
  go_enter Try.func22, Try.ntmps22
  go_wp2_with fail
  refine (open_any x n cap w h hn hc).mono ?_
  rintro e w1 ⟨rfl, hr, hb⟩
  have HR := Lib.hid hr; have HB := Lib.hid hb; clear hr hb
  go_wp2_with fail
  refine (l20Long_any w.heap.size w.heap.size 0 _ _ HR.out (by omega) (by omega)).mono ?_
  rintro e w2 ⟨s, rfl, hs, hr, hg⟩
  have HR2 := Lib.hid hr; have HG2 := Lib.hid hg; have HB2 := Lib.hid (HB.out.trans (below_grownBy hg HB.out.size (Nat.le_refl _))); clear hr hg
  have hsl : s.size ≤ maxLen := by unfold maxLen; omega
  go_wp2_with fail
  refine (specChunksOf_any s _ hsl).mono ?_
  rintro e w3 ⟨v, rfl, ho, hb⟩
  have HO3 := Lib.hid ho; have HR3 := Lib.hid (HR2.out.below hb); have HB3 := Lib.hid (HB2.out.trans (hb.mono HB2.out.size)); have hb3 := hb.size; clear ho hb
  have hcc := chunks_count s
  have HM := Lib.hid (show ∀ t ∈ chunksB s, t.size ≤ 61 from fun t ht => by have := chunks_mem ht; omega)
  have hrw : w.heap.size < w2.heap.size := HR2.out.lt
  go_wp2_with fail
  refine (odd_any w.heap.size w.heap.size _ _ _ HR3.out (by omega) (by omega)).mono ?_
  rintro e w4 ⟨b, rfl, _, _, hr, hg⟩
  have HR4 := Lib.hid hr; have HO4 := Lib.hid (own_keptL HO3.out hg hrw); have HB4 := Lib.hid (HB3.out.trans (below_grownBy hg HB3.out.size (Nat.le_refl _))); clear hr
  have hsz4 : w2.heap.size ≤ w4.heap.size := Nat.le_trans hb3 hg.size
  clear hg
  cases b
  · go_wp2_with fail
    go_ret
    exact ⟨v, _, rfl, by omega, HM.out, HO4.out.mono (by omega), HB4.out⟩
  · go_wp2_with fail
    refine (l20Long_any w.heap.size w.heap.size _ _ _ HR4.out (by omega) (by omega)).mono ?_
    rintro e w5 ⟨t, rfl, ht, hr, hg⟩
    have HR5 := Lib.hid hr; have HO5 := Lib.hid (own_keptL HO4.out hg hrw); have HB5 := Lib.hid (HB4.out.trans (below_grownBy hg HB4.out.size (Nat.le_refl _))); have hsz5 := Nat.le_trans hsz4 hg.size; clear hr hg
    go_wp2_with fail
    refine (l20Text_any w.heap.size w.heap.size _ _ _ HR5.out (by omega) (by omega)).mono ?_
    rintro e w6 ⟨u, rfl, hu, hr, hg⟩
    have HR6 := Lib.hid hr; have HO6 := Lib.hid (own_keptL HO5.out hg hrw); have HB6 := Lib.hid (HB5.out.trans (below_grownBy hg HB5.out.size (Nat.le_refl _))); have hsz6 := Nat.le_trans hsz5 hg.size; have HU := Lib.hid (joins_size ht (texts_small' u hu)); clear hr hg hu
    go_wp2_with fail
    refine (pickStr_any (joins t u) w.heap.size w.heap.size _ _ _ _ HR6.out rfl rfl (by show 1 ≤ 5; omega) (by show 5 ≤ 1000; omega) (by omega)).mono ?_
    rintro e w7 ⟨j, rfl, hj, hcell, hr, hg⟩
    have HO7 := Lib.hid (own_keptL HO6.out hg hrw); have HB7 := Lib.hid (HB6.out.trans (below_grownBy hg HB6.out.size (Nat.le_refl _))); have hsz7 := Nat.le_trans hsz6 hg.size; clear hr hg
    have hj5 : j < 5 := hj
    have HZ := Lib.hid (getD_size (joins t u) j 61 HU.out)
    clear hj
    generalize (joins t u).getD j ByteArray.empty = q at hcell HZ ⊢
    go_wp2_with (at_builtin; refine wpList_app1L eltStr encStr q _ rfl HO7.out (by omega) hsz7 rfl _ _ rfl rfl rfl ?_; intro v' w' hown hgrow; have HW := Lib.hid hown; have HG := Lib.hid hgrow; clear hown hgrow)
    go_ret
    exact ⟨v', _, rfl, by simp; omega, fun t ht => by rcases List.mem_append.1 ht with h | h; exact HM.out t h; rw [List.mem_singleton.1 h]; exact HZ.out, HW.out.mono (by omega), HB7.out.grown HG.out HB7.out.size (fun k e => by have := HO7.out.at k e; omega)⟩
end Go.Proofs.Ytefcmpbjfcpdeaa
