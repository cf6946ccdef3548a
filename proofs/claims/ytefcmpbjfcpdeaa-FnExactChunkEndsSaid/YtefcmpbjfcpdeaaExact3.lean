/-
  The walks of chapter 3's exact laws.
-/
import Derived.Test.YtefcmpbjfcpdeaaChunks3
import Derived.Test.YtefcmpbjfcpdeaaMarksS
namespace Go.Proofs.Ytefcmpbjfcpdeaa
open Go.RowKit
set_option linter.unusedVariables false
theorem fnExactChunkEnds_any (s : ByteArray) (w : World) (hs : s.size ≤ maxLen) : Calls Try.prog 7 #[.string s] w fun e w' => e = .returned (.bool true) ∧ Below w.heap.size w w' := by
  by_cases hlong : 1048576 < (s.size : Int)
  · go_enter Try.func7, Try.ntmps7
    go_wp2
    go_ret
    exact ⟨rfl, Below.refl _ _⟩
  · have hlen : (endsB s).length ≤ 60 := endsB_len s
    go_enter Try.func7, Try.ntmps7
    go_wp2_with fail
    refine (specChunkEnds_any _ _ hs).mono ?_
    rintro e w1 ⟨v, rfl, ho, hb⟩
    obtain ⟨x, n, c, rfl, hi⟩ := ho.ints
    have HB := Lib.hid hb
    go_wp2_with fail
    refine (chunkEnds_any _ _ hs).mono ?_
    rintro e w2 ⟨v, rfl, ho2, hb2⟩
    obtain ⟨x2, n2, c2, rfl, hi2⟩ := ho2.ints
    have HL2 := Lib.hid hi2.len
    have hn2 : n2 ≤ 60 := by have := HL2.out; omega
    have HA := Lib.hid (hi.below hb2 (Nat.le_refl _))
    have HB2 := Lib.hid (hb.trans (hb2.mono hb.size))
    go_wp2_with fail
    refine (eqIntS_any _ _ _ _ _ _ _ _ w2.heap.size _ hi2 (HA.out.more hb2.size)).mono ?_
    rintro e w3 ⟨rfl, m3, rfl⟩
    have HO3 := Lib.hid (show OwnI (w2.drewN m3) w1.heap.size _ _ from ho2.drewN m3)
    have HB3 := Lib.hid (below_drewN HB2.out m3)
    have HA3 := Lib.hid (HA.out.keep (w' := w2.drewN m3) fun _ _ => rfl)
    clear hi2 ho2
    go_wp2_with fail
    refine (markIntS_any _ _ _ _ _ 1 _ HO3.out HL2.out (by omega) (by omega) (by omega)).mono ?_
    rintro e w4 ⟨rfl, ho4, hg4⟩
    have HO4 := Lib.hid ho4
    have HB4 := Lib.hid (HB3.out.grown hg4 HB3.out.size (fun k e => Nat.le_trans hb.size (HO3.out.at k e)))
    have HA4 := Lib.hid (HA3.out.keep (w' := w4) fun k hk => hg4.block k (Nat.lt_of_lt_of_le hk hb2.size) (fun e => by have := HO3.out.at k e.symm; omega))
    clear ho4
    go_wp2_with fail
    refine (heldIntS_any _ _ _ 1 w4.heap.size _ HO4.out.ints' (by omega) (by omega) (by omega)).mono ?_
    rintro e w5 ⟨rfl, rfl⟩
    have HB5 := HB4
    have HA5 := HA4
    have HO5 := HO4
    have HZ5 := Lib.hid (show w2.heap.size ≤ w4.heap.size from hg4.size)
    go_wp2_with fail
    refine (chunkEnds_any _ _ hs).mono ?_
    rintro e w6 ⟨v, rfl, ho6, hb6⟩
    obtain ⟨x6, n6, c6, rfl, hi6⟩ := ho6.ints
    have HB6 := Lib.hid (HB5.out.trans (hb6.mono HB5.out.size))
    have HI6 := Lib.hid (HO5.out.below hb6)
    go_wp2_with fail
    refine (eqIntS_any _ _ _ _ _ _ _ _ w6.heap.size _ hi6 ((HA5.out.below hb6 (Nat.le_trans hb2.size HZ5.out)).more (Nat.le_trans (Nat.le_trans hb2.size HZ5.out) hb6.size))).mono ?_
    rintro e w7 ⟨rfl, m7, rfl⟩
    have HB7 := Lib.hid (below_drewN HB6.out m7)
    have HI7 := Lib.hid (show OwnI (w6.drewN m7) w1.heap.size _ _ from HI6.out.drewN m7)
    go_wp2_with fail
    refine (heldIntS_any _ _ _ 1 (w6.drewN m7).heap.size _ HI7.out.ints' (by omega) (by omega) (by omega)).mono ?_
    rintro e w8 ⟨rfl, rfl⟩
    have HB8 := HB7
    go_wp2_with fail
    go_ret
    exact ⟨ret_bool (by simp), HB8.out⟩
theorem cprints_bd (s : ByteArray) : (cprintsB s).length ≤ 60 := by rw [cprints_len]; exact chunks_count s
theorem fnExactChunkPrints_any (s : ByteArray) (w : World) (hs : s.size ≤ maxLen) : Calls Try.prog 10 #[.string s] w fun e w' => e = .returned (.bool true) ∧ Below w.heap.size w w' := by
  by_cases hlong : 1048576 < (s.size : Int)
  · go_enter Try.func10, Try.ntmps10
    go_wp2
    go_ret
    exact ⟨rfl, Below.refl _ _⟩
  · have hlen : (cprintsB s).length ≤ 60 := cprints_bd s
    go_enter Try.func10, Try.ntmps10
    go_wp2_with fail
    refine (specChunkPrints_any _ _ hs).mono ?_
    rintro e w1 ⟨v, rfl, ho, hb⟩
    obtain ⟨x, n, c, rfl, hi⟩ := ho.ints
    have HB := Lib.hid hb
    go_wp2_with fail
    refine (chunkPrints_any _ _ hs).mono ?_
    rintro e w2 ⟨v, rfl, ho2, hb2⟩
    obtain ⟨x2, n2, c2, rfl, hi2⟩ := ho2.ints
    have HL2 := Lib.hid hi2.len
    have hn2 : n2 ≤ 60 := by have := HL2.out; omega
    have HA := Lib.hid (hi.below hb2 (Nat.le_refl _))
    have HB2 := Lib.hid (hb.trans (hb2.mono hb.size))
    go_wp2_with fail
    refine (eqIntS_any _ _ _ _ _ _ _ _ w2.heap.size _ hi2 (HA.out.more hb2.size)).mono ?_
    rintro e w3 ⟨rfl, m3, rfl⟩
    have HO3 := Lib.hid (show OwnI (w2.drewN m3) w1.heap.size _ _ from ho2.drewN m3)
    have HB3 := Lib.hid (below_drewN HB2.out m3)
    have HA3 := Lib.hid (HA.out.keep (w' := w2.drewN m3) fun _ _ => rfl)
    clear hi2 ho2
    go_wp2_with fail
    refine (markIntS_any _ _ _ _ _ 1 _ HO3.out HL2.out (by omega) (by omega) (by omega)).mono ?_
    rintro e w4 ⟨rfl, ho4, hg4⟩
    have HO4 := Lib.hid ho4
    have HB4 := Lib.hid (HB3.out.grown hg4 HB3.out.size (fun k e => Nat.le_trans hb.size (HO3.out.at k e)))
    have HA4 := Lib.hid (HA3.out.keep (w' := w4) fun k hk => hg4.block k (Nat.lt_of_lt_of_le hk hb2.size) (fun e => by have := HO3.out.at k e.symm; omega))
    clear ho4
    go_wp2_with fail
    refine (heldIntS_any _ _ _ 1 w4.heap.size _ HO4.out.ints' (by omega) (by omega) (by omega)).mono ?_
    rintro e w5 ⟨rfl, rfl⟩
    have HB5 := HB4
    have HA5 := HA4
    have HO5 := HO4
    have HZ5 := Lib.hid (show w2.heap.size ≤ w4.heap.size from hg4.size)
    go_wp2_with fail
    refine (chunkPrints_any _ _ hs).mono ?_
    rintro e w6 ⟨v, rfl, ho6, hb6⟩
    obtain ⟨x6, n6, c6, rfl, hi6⟩ := ho6.ints
    have HB6 := Lib.hid (HB5.out.trans (hb6.mono HB5.out.size))
    have HI6 := Lib.hid (HO5.out.below hb6)
    go_wp2_with fail
    refine (eqIntS_any _ _ _ _ _ _ _ _ w6.heap.size _ hi6 ((HA5.out.below hb6 (Nat.le_trans hb2.size HZ5.out)).more (Nat.le_trans (Nat.le_trans hb2.size HZ5.out) hb6.size))).mono ?_
    rintro e w7 ⟨rfl, m7, rfl⟩
    have HB7 := Lib.hid (below_drewN HB6.out m7)
    have HI7 := Lib.hid (show OwnI (w6.drewN m7) w1.heap.size _ _ from HI6.out.drewN m7)
    go_wp2_with fail
    refine (heldIntS_any _ _ _ 1 (w6.drewN m7).heap.size _ HI7.out.ints' (by omega) (by omega) (by omega)).mono ?_
    rintro e w8 ⟨rfl, rfl⟩
    have HB8 := HB7
    go_wp2_with fail
    go_ret
    exact ⟨ret_bool (by simp), HB8.out⟩
theorem fnExactChunksOf_any (s : ByteArray) (w : World) (hs : s.size ≤ maxLen) : Calls Try.prog 8 #[.string s] w fun e w' => e = .returned (.bool true) ∧ Below w.heap.size w w' := by
  by_cases hlong : 1048576 < (s.size : Int)
  · go_enter Try.func8, Try.ntmps8
    go_wp2
    go_ret
    exact ⟨rfl, Below.refl _ _⟩
  · have hlen : (chunksB s).length ≤ 60 := chunks_count s
    go_enter Try.func8, Try.ntmps8
    go_wp2_with fail
    refine (specChunksOf_any _ _ hs).mono ?_
    rintro e w1 ⟨v, rfl, ho, hb⟩
    obtain ⟨x, n, c, rfl, hi⟩ := ho.lst
    have HB := Lib.hid hb
    go_wp2_with fail
    refine (chunksOf_any _ _ hs).mono ?_
    rintro e w2 ⟨v, rfl, ho2, hb2⟩
    obtain ⟨x2, n2, c2, rfl, hi2⟩ := ho2.lst
    have HL2 := Lib.hid hi2.len
    have hn2 : n2 ≤ 60 := by have := HL2.out; omega
    have HA := Lib.hid (hi.below hb2 (Nat.le_refl _))
    have HB2 := Lib.hid (hb.trans (hb2.mono hb.size))
    go_wp2_with fail
    refine (eqStringS_any _ _ _ _ _ _ _ _ w2.heap.size _ hi2 (HA.out.more hb2.size)).mono ?_
    rintro e w3 ⟨rfl, m3, rfl⟩
    have HO3 := Lib.hid (show OwnS (w2.drewN m3) w1.heap.size _ _ from ho2.drewN m3)
    have HB3 := Lib.hid (below_drewN HB2.out m3)
    have HA3 := Lib.hid (HA.out.keep (w' := w2.drewN m3) fun _ _ => rfl)
    clear hi2 ho2
    go_wp2_with fail
    refine (markStringS_any _ _ _ _ _ 1 _ HO3.out HL2.out (by omega) (by omega) (by omega)).mono ?_
    rintro e w4 ⟨rfl, ho4, hg4⟩
    have HO4 := Lib.hid ho4
    have HB4 := Lib.hid (HB3.out.grown hg4 HB3.out.size (fun k e => Nat.le_trans hb.size (HO3.out.at k e)))
    have HA4 := Lib.hid (HA3.out.keep (w' := w4) fun k hk => hg4.block k (Nat.lt_of_lt_of_le hk hb2.size) (fun e => by have := HO3.out.at k e.symm; omega))
    clear ho4
    go_wp2_with fail
    refine (heldStringS_any _ _ _ 1 w4.heap.size _ HO4.out.lst' (Nat.le_refl _) (by omega) (by omega) (by omega)).mono ?_
    rintro e w5 ⟨rfl, hb5⟩
    have HB5 := Lib.hid (HB4.out.trans (hb5.mono HB4.out.size))
    have HA5 := Lib.hid (HA4.out.below hb5 (Nat.le_trans hb2.size hg4.size))
    have HO5 := Lib.hid (HO4.out.below hb5)
    have HZ5 := Lib.hid (Nat.le_trans (show w2.heap.size ≤ w4.heap.size from hg4.size) hb5.size)
    clear hb5
    go_wp2_with fail
    refine (chunksOf_any _ _ hs).mono ?_
    rintro e w6 ⟨v, rfl, ho6, hb6⟩
    obtain ⟨x6, n6, c6, rfl, hi6⟩ := ho6.lst
    have HB6 := Lib.hid (HB5.out.trans (hb6.mono HB5.out.size))
    have HI6 := Lib.hid (HO5.out.below hb6)
    go_wp2_with fail
    refine (eqStringS_any _ _ _ _ _ _ _ _ w6.heap.size _ hi6 ((HA5.out.below hb6 (Nat.le_trans hb2.size HZ5.out)).more (Nat.le_trans (Nat.le_trans hb2.size HZ5.out) hb6.size))).mono ?_
    rintro e w7 ⟨rfl, m7, rfl⟩
    have HB7 := Lib.hid (below_drewN HB6.out m7)
    have HI7 := Lib.hid (show OwnS (w6.drewN m7) w1.heap.size _ _ from HI6.out.drewN m7)
    go_wp2_with fail
    refine (heldStringS_any _ _ _ 1 (w6.drewN m7).heap.size _ HI7.out.lst' (Nat.le_refl _) (by omega) (by omega) (by omega)).mono ?_
    rintro e w8 ⟨rfl, hb8⟩
    have HB8 := Lib.hid (HB7.out.trans (hb8.mono HB7.out.size))
    clear hb8
    go_wp2_with fail
    go_ret
    exact ⟨ret_bool (by simp), HB8.out⟩
theorem join_size (l : List ByteArray) : (joinB l).size = sumS l := by
  induction l with
  | nil => simp [joinB, sumS]
  | cons a l ih => rw [joinB_cons, ByteArray.size_append, ih]; unfold sumS; simp
theorem fnExactJoinChunks_any (x : Option Addr) (n cap : Nat) (l : List ByteArray) (w : World) (h : Strs w w.heap.size x n cap l) (hz : ∀ k, (nthS l k).size ≤ maxLen) :
    Calls Try.prog 9 #[.slice x n cap] w fun e w' => e = .returned (.bool true) ∧ Below w.heap.size w w' := by
  have HL := Lib.hid h.len
  by_cases hneg : leftS l 1048576 < 0
  · go_enter Try.func9, Try.ntmps9
    go_wp2_with fail
    refine (szStringS_any _ _ _ _ _ _ _ h hz (by omega) (by omega)).mono ?_
    rintro e w' ⟨rfl, rfl⟩
    go_wp2_with fail
    go_ret
    exact ⟨rfl, Below.refl _ _⟩
  · have hb : n ≤ 1048576 ∧ sumS l ≤ 1048576 := by
      have h1 := HL.out
      unfold leftS at hneg
      split at hneg <;> omega
    obtain ⟨hn, hsum⟩ := hb
    go_enter Try.func9, Try.ntmps9
    go_wp2_with fail
    refine (szStringS_any _ _ _ _ _ _ _ h hz (by omega) (by omega)).mono ?_
    rintro e w' ⟨rfl, rfl⟩
    go_wp2_with fail
    refine (toStringS_any _ _ _ _ _ h hn).mono ?_
    rintro e w1 ⟨v, rfl, ho, hb⟩
    obtain ⟨y, m, c, rfl, hi1⟩ := ho.lst
    have HB := Lib.hid hb; clear hb ho
    go_wp2_with fail
    refine (specJoinChunks_any _ _ _ _ _ _ hi1 (by rw [join_size]; omega)).mono ?_
    rintro e w2 ⟨rfl, hb⟩
    have HB1 := Lib.hid (HB.out.trans (hb.mono HB.out.size)); clear hb
    have h2 := h.below HB1.out (Nat.le_refl _)
    go_wp2_with fail
    refine (toStringS_any _ _ _ _ _ (h2.more HB1.out.size) hn).mono ?_
    rintro e w3 ⟨v, rfl, ho, hb⟩
    obtain ⟨y2, m2, c2, rfl, hi3⟩ := ho.lst
    have HB2 := Lib.hid (HB1.out.trans (hb.mono HB1.out.size)); clear hb ho
    go_wp2_with fail
    refine (joinChunks_any _ _ _ _ _ _ hi3 (Nat.le_refl _) hz).mono ?_
    rintro e w4 ⟨rfl, hb⟩
    have HB3 := Lib.hid (HB2.out.trans (hb.mono HB2.out.size))
    have hi4 := (hi3.below hb (Nat.le_refl _)).more hb.size
    clear hb
    have h4 := h.below HB3.out (Nat.le_refl _)
    go_wp2_with fail
    refine (toStringS_any _ _ _ _ _ (h4.more HB3.out.size) hn).mono ?_
    rintro e w5 ⟨v, rfl, ho, hb⟩
    obtain ⟨y4, m4, c4, rfl, hi5⟩ := ho.lst
    have hi6 := (hi4.below hb (Nat.le_refl _)).more hb.size
    have HB5 := Lib.hid (HB3.out.trans (hb.mono HB3.out.size)); clear hb ho
    go_wp2_with fail
    refine (eqStringS_any _ _ _ _ _ _ _ _ _ _ hi6 hi5).mono ?_
    rintro e w6 ⟨rfl, q, rfl⟩
    go_wp2_with fail
    go_ret
    exact ⟨ret_bool (by simp), below_drewN HB5.out q⟩
end Go.Proofs.Ytefcmpbjfcpdeaa
