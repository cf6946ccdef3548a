/-
  Contracts of chapter 3: the chunks themselves, and their prints.
-/
import Derived.Test.YtefcmpbjfcpdeaaChunks
import Derived.Test.YtefcmpbjfcpdeaaShelf
namespace Go.Proofs.Ytefcmpbjfcpdeaa
open Go.RowKit
set_option linter.unusedVariables false
theorem clone_any (s : ByteArray) (w : World) (hs : s.size ≤ 1000000) : Calls Try.prog 41 #[.string s] w fun e w' => e = .returned (.string s) ∧ Below w.heap.size w w' := by
  go_enter Try.func41, Try.ntmps41
  go_wp2_with (go_at_call 49; refine (Try.stringslite_Clone s _ (by omega)).mono ?_; rintro e w' ⟨rfl, hb⟩; have HB := Lib.hid hb; clear hb)
  go_ret
  exact ⟨rfl, HB.out⟩
/-- Where a chunk lies, as numbers. -/
theorem ends_nat {s : ByteArray} {k : Nat} (hk : k < (endsB s).length) : ∃ a b : Nat, fromI (endsB s) k = a ∧ nthI (endsB s) k = b ∧ a < b ∧ b ≤ s.size ∧ (chunksB s).take (k + 1) = (chunksB s).take k ++ [s.extract a b] ∧ s.size ≤ 60 := by
  obtain ⟨h1, h2, h3⟩ := ends_at hk
  have h4 := chunks_snoc hk
  unfold nthI
  refine ⟨_, _, (Int.toNat_of_nonneg h1).symm, (Int.toNat_of_nonneg (by omega)).symm, by omega, by omega, h4, ?_⟩
  cases ht : textB s
  · rw [endsB_no ht] at hk; simp at hk
  · exact textB_bd' ht
theorem chunks_count (s : ByteArray) : (chunksB s).length ≤ 60 := by rw [chunks_len]; exact endsB_len s
theorem chunksOf_any (s : ByteArray) (w : World) (hs : s.size ≤ maxLen) : Calls Try.prog 17 #[.string s] w (NewS (chunksB s) w) := by
  have hlen := endsB_len s
  go_enter Try.func17, Try.ntmps17
  go_wp2_with (go_at_call 12; refine (chunkEnds_any _ _ hs).mono ?_; rintro e w1 ⟨v, rfl, ho, hb⟩; obtain ⟨x, n, c, rfl, hi⟩ := ho.ints; have HL := Lib.hid hi.len; have HI := Lib.hid hi; have HB0 := Lib.hid hb; clear ho hb)
  have hn : n ≤ 60 := by have := HL.out; omega
  have hmx := HI.out.max
  have hle := HI.out.le
  unfold maxLen at hmx hs
  go_loopw [3, 4, 6, 10] (fun v b _ i wr => ∃ k : Nat, k ≤ n ∧ i = .int .i64 k ∧ b = .int .i64 (fromI (endsB s) k) ∧ OwnS wr w1.heap.size v ((chunksB s).take k) ∧ Below w1.heap.size w1 wr) (fun _ _ _ i _ => n - (intOf i).toNat)
  case atStart => exact ⟨0, by omega, rfl, rfl, OwnL.nil _ _ _ _ _, Below.refl _ _⟩
  case round =>
    obtain ⟨k, hk, rfl, rfl, ho, hb⟩ := hrel
    have HO := Lib.hid ho; have HB := Lib.hid hb; clear ho hb
    have hsz := HB.out.size
    have hct : ((chunksB s).take k).length ≤ 60 := by rw [List.length_take]; omega
    by_cases hlt : k < n
    · obtain ⟨a, b, ha, hb, hab, hbs, ht, h60⟩ := ends_nat (s := s) (k := k) (by have := HL.out; omega)
      have HT := Lib.hid ht; have HN := Lib.hid (fromI_succ (endsB s) k); clear ht
      obtain ⟨b0, off, rfl, hb0, hcell⟩ := (HI.out.below HB.out (Nat.le_refl _)).at hlt
      have HS := Lib.hid (show fromI (endsB s) (k + 1) = b by rw [fromI_succ]; exact hb)
      rw [hb] at hcell
      rw [ha]
      clear ha hb
      have hz : (s.extract a b).size ≤ 1000000 := by rw [ByteArray.size_extract]; omega
      go_wp2_with (first
        | (go_at_call 41; refine (clone_any _ _ hz).mono ?_; rintro e w2 ⟨rfl, hb2⟩; have HO2 := Lib.hid (HO.out.below hb2); have HB2 := Lib.hid (HB.out.trans (hb2.mono hsz)); have hsz2 := HB2.out.size; clear hb2)
        | (at_builtin; refine wpList_app1L eltStr encStr (s.extract a b) _ rfl HO2.out (by omega) hsz2 rfl _ _ rfl rfl rfl ?_; intro v' w' hown hgrow; have HW := Lib.hid hown; have HG := Lib.hid hgrow; clear hown hgrow))
      go_roundw
      case rel => exact ⟨k + 1, by omega, by go_num, by rw [HS.out], by rw [HT.out]; exact HW.out, HB2.out.grown HG.out hsz2 HO2.out.at⟩
      case measure => simp [intOf]; omega
    · have HX := Lib.hid (chunks_end (s := s) (k := k) (by have := HL.out; omega))
      go_wp2
      go_ret
      exact ⟨_, rfl, by rw [← HX.out]; exact HO.out.mono HB0.out.size, HB0.out.trans (HB.out.mono HB0.out.size)⟩
theorem specChunksOf_any (s : ByteArray) (w : World) (hs : s.size ≤ maxLen) : Calls Try.prog 19 #[.string s] w (NewS (chunksB s) w) := by
  have hlen := endsB_len s
  have HO0 := Lib.hid (OwnL.new strG 9 (size := 1) w)
  have HBn := Lib.hid ((Below.refl w.heap.size w).alloc (Nat.le_refl _) (.cells #[] 9))
  go_enter Try.func19, Try.ntmps19
  go_wp2_with (go_at_call 14; refine (specChunkEnds_any _ _ hs).mono ?_; rintro e w1 ⟨v, rfl, ho, hb⟩; obtain ⟨x, n, c, rfl, hi⟩ := ho.ints; have HL := Lib.hid hi.len; have HI := Lib.hid ho; have HO1 := Lib.hid (HO0.out.below hb); have HB0 := Lib.hid (HBn.out.trans (hb.mono (by simp))); clear ho hb)
  have hn : n ≤ 60 := by have := HL.out; omega
  have hmx := hi.max
  have hle := hi.le
  clear hi
  unfold maxLen at hmx hs
  go_loopw [3, 5, 6] (fun v b i wr => ∃ k : Nat, k ≤ n ∧ i = .int .i64 k ∧ b = .int .i64 (fromI (endsB s) k) ∧ OwnS wr w.heap.size v ((chunksB s).take k) ∧ OwnI wr 0 (.slice x n c) (endsB s) ∧ Below w.heap.size w wr) (fun _ _ i _ => n - (intOf i).toNat)
  case atStart => exact ⟨0, by omega, rfl, rfl, HO1.out, HI.out.mono (Nat.zero_le _), HB0.out⟩
  case round =>
    obtain ⟨k, hk, rfl, rfl, ho, hi, hb⟩ := hrel
    have HO := Lib.hid ho; have HE := Lib.hid hi; have HB := Lib.hid hb; clear ho hb hi
    have hsz := HB.out.size
    have hct : ((chunksB s).take k).length ≤ 60 := by have := chunks_count s; rw [List.length_take]; omega
    by_cases hlt : k < n
    · obtain ⟨a, b, ha, hb, hab, hbs, ht, h60⟩ := ends_nat (s := s) (k := k) (by have := HL.out; omega)
      have HT := Lib.hid ht; clear ht
      have hiv := HE.out.ints'
      have HV := Lib.hid hiv
      obtain ⟨b0, off, rfl, hb0, hcell⟩ := hiv.at hlt
      clear hiv
      have HS := Lib.hid (show fromI (endsB s) (k + 1) = b by rw [fromI_succ]; exact hb)
      rw [hb] at hcell
      rw [ha]
      have HN := Lib.hid hb
      clear ha hb
      go_wp2_with (first
        | (at_builtin; refine wpList_app1L eltStr encStr (s.extract a b) _ rfl HO.out (by omega) hsz rfl _ _ rfl rfl rfl ?_; intro v' w' hown hgrow; have hiv2 := World.ownsRow.kept HE.out hgrow (own_ne HE.out HO.out (by decide)); have HE2 := Lib.hid hiv2; have hcell2 := (OwnI.ints' hiv2).at hlt; rw [HN.out] at hcell2; obtain ⟨b1, off1, e1, _, hcell2⟩ := hcell2; simp only [Option.some.injEq, Addr.mk.injEq, and_true] at e1; obtain ⟨rfl, rfl⟩ := e1; have HW := Lib.hid hown; have HG := Lib.hid hgrow; clear hown hgrow hiv2))
      go_roundw
      case rel => exact ⟨k + 1, by omega, by go_num, by rw [HS.out], by rw [HT.out]; exact HW.out, HE2.out, HB.out.grown HG.out hsz HO.out.at⟩
      case measure => simp [intOf]; omega
    · have HX := Lib.hid (chunks_end (s := s) (k := k) (by have := HL.out; omega))
      go_wp2
      go_ret
      exact ⟨_, rfl, by rw [← HX.out]; exact HO.out, HB.out⟩
end Go.Proofs.Ytefcmpbjfcpdeaa
