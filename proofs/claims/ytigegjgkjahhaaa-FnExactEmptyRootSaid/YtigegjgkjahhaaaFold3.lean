/-
  Contracts of chapter 6's program: an entry is dropped; the text of a folder.
-/
import Derived.Test.YtigegjgkjahhaaaFold2
import Derived.Test.YtigegjgkjahhaaaFoldMath
namespace Go.Proofs.Ytigegjgkjahhaaa
open Go.RowKit
set_option linter.unusedVariables false
set_option maxHeartbeats 1000000 in
theorem implFolderText_any (x : Option Addr) (n cap : Nat) (l : List Ent) (B : Nat) (w : World) (h : Ents w B x n cap l) (hB : B ≤ w.heap.size) (hz : ∀ k, (nthE l k).1.size ≤ maxLen) : Calls Try.prog 16 #[.slice x n cap] w fun e w' => e = .returned (.string (folderB l)) ∧ Below w.heap.size w w' := by
  have HL := Lib.hid h.len
  have HH := Lib.hid h
  have hmx := h.max
  have hle := h.le
  unfold maxLen at hmx
  clear h
  cases hv : entsB l
  · have HF := Lib.hid (folderB_no hv)
    go_enter Try.func16, Try.ntmps16
    go_wp2_with fail
    refine (implEntriesValid_any _ _ _ _ _ _ HH.out hB hz).mono ?_
    rintro e w1 ⟨rfl, hb⟩
    have HB1 := Lib.hid hb
    rw [hv]
    clear hb
    go_wp2_with fail
    go_ret
    exact ⟨ret_str HF.out.symm, HB1.out⟩
  · have HF := Lib.hid (folderB_yes hv)
    have HA := Lib.hid (entsB_at hv)
    have hn3 : n ≤ 3 := by have := HA.out.1; have := HL.out; omega
    go_enter Try.func16, Try.ntmps16
    go_wp2_with fail
    refine (implEntriesValid_any _ _ _ _ _ _ HH.out hB hz).mono ?_
    rintro e w1 ⟨rfl, hb⟩
    have HB1 := Lib.hid hb
    rw [hv]
    clear hb
    go_wp2_with fail
    clear hz
    go_loopw [3, 5, 11] (fun t _ i wr => ∃ k : Nat, k ≤ n ∧ i = .int .i64 k ∧ t = .string (textE (l.take k)) ∧ (textE (l.take k)).size ≤ 1 + 16 * k ∧ Below w.heap.size w wr) (fun _ _ i _ => n - (intOf i).toNat)
    case atStart => exact ⟨0, by omega, rfl, rfl, by rw [List.take_zero]; decide, HB1.out⟩
    case round =>
      obtain ⟨k, hk, rfl, rfl, hs, hb⟩ := hrel
      have HB := Lib.hid hb; clear hb
      have hsz := HB.out.size
      by_cases hlt : k < n
      · have hkl : k < l.length := by have := HL.out; omega
        obtain ⟨b0, off, rfl, hb0, hc0, hc1⟩ := (HH.out.below HB.out hB).atE hlt
        obtain ⟨hw1, hw2⟩ := okE_word (HA.out.2 k hkl)
        have hw8 := word_size hw1
        have hx6 := hexB_size (nthE l k).2
        have HT := Lib.hid (textE_snoc hkl)
        obtain ⟨T, hT⟩ : ∃ T, T = textE (l.take k) := ⟨_, rfl⟩
        obtain ⟨q, hq⟩ : ∃ q, q = nthE l k := ⟨_, rfl⟩
        rw [← hT, ← hq] at HT
        rw [← hT] at hs ⊢
        rw [← hq] at hc0 hc1 hw8 hx6
        have b1 : (q.1 ++ ⟨#[61]⟩).size ≤ 9 := by rw [ByteArray.size_append]; show _ + 1 ≤ _; omega
        have b2 : (q.1 ++ ⟨#[61]⟩ ++ hexB q.2).size ≤ 15 := by rw [ByteArray.size_append]; omega
        have b3 : (q.1 ++ ⟨#[61]⟩ ++ hexB q.2 ++ ⟨#[59]⟩).size ≤ 16 := by rw [ByteArray.size_append]; show _ + 1 ≤ _; omega
        have b4 : (T ++ (q.1 ++ ⟨#[61]⟩ ++ hexB q.2 ++ ⟨#[59]⟩)).size ≤ 1 + 16 * (k + 1) := by rw [ByteArray.size_append]; omega
        have HE := Lib.hid (show T ++ (q.1 ++ ⟨#[61]⟩ ++ hexB q.2 ++ ⟨#[59]⟩) = textE (l.take (k + 1)) by rw [HT.out]; unfold addE; simp only [ByteArray.append_assoc])
        have HS := Lib.hid (show (textE (l.take (k + 1))).size ≤ 1 + 16 * (k + 1) by rw [← HE.out]; exact b4)
        obtain ⟨W, hW⟩ : ∃ W, wr.alloc (.cells #[.string q.1, .int .i64 q.2] 45) = W := ⟨_, rfl⟩
        have HV := Lib.hid hW
        have hBW := HB.out.alloc hsz (.cells #[.string q.1, .int .i64 q.2] 45)
        have hnew := heap_alloc_new wr (.cells #[.string q.1, .int .i64 q.2] 45)
        rw [hW] at hBW hnew
        obtain ⟨p0, p1, p2, p3⟩ := two_at hnew
        have HBW := Lib.hid hBW
        clear hT hq hw1 hw2 hW hnew hBW p2 p3
        go_wp2
        rw [HV.out]
        go_quiet (first | (go_at_call 29; refine Calls.quiet_of_same ((hexText_any _ _).mono fun _ _ h => ⟨h.1, h.2.symm⟩)))
        go_wp2
        go_roundw
        case rel => exact ⟨k + 1, by omega, by go_num, by rw [HE.out], HS.out, below_drewN HBW.out _⟩
        case measure => simp [intOf]; omega
      · have e : l.take k = l := List.take_of_length_le (by have := HL.out; omega)
        have HE := Lib.hid e
        clear e
        go_wp2
        go_ret
        exact ⟨ret_str (by rw [HF.out, HE.out]), HB.out⟩
end Go.Proofs.Ytigegjgkjahhaaa
