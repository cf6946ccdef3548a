/-
  Chapter 14's program: versions and their copies; one is added.
-/
import Derived.Test.YtminmakiahjfbaaImpl14b
namespace Go.Proofs.Ytminmakiahjfbaa
open Go.RowKit
set_option linter.unusedVariables false
theorem copyVersions_any (x : Option Addr) (n cap : Nat) (l : List Ver) (B : Nat) (w : World) (h : Vers w B x n cap l) (hB : B ≤ w.heap.size) (hz : ∀ k, (nthV l k).2.2.size ≤ 2000000) (hn : n ≤ 1000000) : Calls Try.prog 51 #[.slice x n cap] w (NewVr l w) := by
  have HL := Lib.hid h.len
  have HH := Lib.hid h
  have HZ := Lib.hid hz
  have hmx := h.max
  have hle := h.le
  clear h hz
  unfold maxLen at hmx
  go_enter Try.func51, Try.ntmps51
  go_wp2
  go_loopw [3, 5, 8] (fun v _ i wr => ∃ k : Nat, k ≤ n ∧ i = .int .i64 k ∧ OwnVr wr w.heap.size v (l.take k) ∧ Below w.heap.size w wr) (fun _ _ i _ => n - (intOf i).toNat)
  case atStart => exact ⟨0, by omega, rfl, OwnL.nil _ _ _ _ _, Below.refl _ _⟩
  case round =>
    obtain ⟨k, hk, rfl, ho, hb⟩ := hrel
    have HO := Lib.hid ho; have HB := Lib.hid hb; clear ho hb
    have hsz := HB.out.size
    by_cases hlt : k < n
    · obtain ⟨b0, off, rfl, hb0, hc0, hc1, hc2⟩ := (HH.out.below HB.out hB).atV hlt
      have HT := Lib.hid (take_snocV (l := l) (k := k) (by have := HL.out; omega))
      have hlen : (l.take k).length ≤ 2000000 := by rw [List.length_take]; omega
      have hzk := HZ.out k
      obtain ⟨q, hq⟩ : ∃ q, q = nthV l k := ⟨_, rfl⟩
      rw [← hq] at hc0 hc1 hc2 hzk HT
      clear hq
      obtain ⟨p0, p1, p2⟩ := three_at (heap_alloc_new wr (.cells #[.int .i64 q.1, .int .i64 q.2.1, .string q.2.2] 27))
      go_wp2_with (first
        | (go_at_call 52; refine (copyVersion_any q _ hzk).mono ?_; rintro e w2 ⟨rfl, hb2⟩; have HO2 := Lib.hid ((HO.out.alloc (.cells #[.int .i64 q.1, .int .i64 q.2.1, .string q.2.2] 27)).below hb2); have HB2 := Lib.hid ((HB.out.alloc hsz (.cells #[.int .i64 q.1, .int .i64 q.2.1, .string q.2.2] 27)).trans (hb2.mono (by simp; omega))); have hsz2 := HB2.out.size; clear hb2)
        | (at_builtin; refine wpList_app1L eltVr encVr q _ rfl HO2.out hlen hsz2 rfl _ _ rfl rfl rfl ?_; intro v' w' hown hgrow; have HW := Lib.hid hown; have HG := Lib.hid hgrow; clear hown hgrow))
      go_roundw
      case rel => exact ⟨k + 1, by omega, by go_num, by rw [HT.out]; exact HW.out, HB2.out.grown HG.out hsz2 HO2.out.at⟩
      case measure => simp [intOf]; omega
    · have HX := Lib.hid (show l.take k = l from List.take_of_length_le (by have := HL.out; omega))
      go_wp2
      go_ret
      exact ⟨_, rfl, by rw [← HX.out]; exact HO.out, HB.out⟩
end Go.Proofs.Ytminmakiahjfbaa
