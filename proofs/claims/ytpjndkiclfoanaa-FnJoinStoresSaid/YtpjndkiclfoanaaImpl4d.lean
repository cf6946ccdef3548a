/-
  Contracts of chapter 4's program: putting, getting and joining.
-/
import Derived.Test.YtpjndkiclfoanaaImpl4c
import Derived.Test.YtpjndkiclfoanaaPlain4b
namespace Go.Proofs.Ytpjndkiclfoanaa
open Go.RowKit
set_option linter.unusedVariables false
def NewPBAt (l : List Pc) (b : Bool) (base : Nat) (w : World) (e : Ending) (w' : World) : Prop := ∃ v, e = .returned (.tuple #[v, .bool b]) ∧ OwnP w' base v l ∧ Below base w w'
theorem newPBAt_of {l l' : List Pc} {b b' : Bool} {base : Nat} {w w' : World} {e : Ending} (h : (l, b) = (l', b')) (hx : NewPBAt l' b' base w e w') : NewPBAt l b base w e w' := by
  simp only [Prod.mk.injEq] at h; rw [h.1, h.2]; exact hx
theorem putPiece_any (x : Option Addr) (n cap base : Nat) (l : List Pc) (p : Pc) (w : World) (ho : OwnP w base (.slice x n cap) l) (hs : AscP l) (hn : n ≤ 40) (hz : p.2.size ≤ 1000000) (hbase : base ≤ w.heap.size) :
    Calls Try.prog 41 #[.slice x n cap, .agg #[.int .i64 p.1, .string p.2]] w (NewPBAt (putP l p).1 (putP l p).2 base w) := by
  have hlst := ho.lst'
  have HL := Lib.hid hlst.len
  have hle := hlst.le
  have hmx := hlst.max
  unfold maxLen at hmx
  clear hlst
  obtain ⟨W, hW⟩ : ∃ W, w.alloc (.cells #[.int .i64 p.1, .string p.2] 28) = W := ⟨_, rfl⟩
  have HV := Lib.hid hW
  have hO := ho.alloc (.cells #[.int .i64 p.1, .string p.2] 28)
  have hnew := heap_alloc_new w (.cells #[.int .i64 p.1, .string p.2] 28)
  have hB0 := (Below.refl base w).alloc hbase (.cells #[.int .i64 p.1, .string p.2] 28)
  rw [hW] at hO hnew hB0
  have HN := Lib.hid hnew; have HO := Lib.hid hO; have HB := Lib.hid hB0
  clear hnew hO hB0 ho
  have hp0 := (two_at HN.out).1
  have hWs : w.heap.size + 1 ≤ W.heap.size := by have := HV.out; rw [← this]; simp
  have HFW := Lib.hid (show ∀ w2, Below W.heap.size W w2 → OwnP w2 base (.slice x n cap) l ∧ w2.cell? ⟨w.heap.size, 0, none⟩ = some (.int .i64 p.1) ∧ w2.cell? ⟨w.heap.size, 1, none⟩ = some (.string p.2) ∧ Below base w w2 from fun w2 hb => by
    have h1 : w2.heap[w.heap.size]? = _ := (hb.block _ (by omega)).trans HN.out
    exact ⟨HO.out.below hb, (two_at h1).1, (two_at h1).2.1, HB.out.trans (hb.mono (by omega))⟩)
  have hat := atP_le p.1 l
  cases hh : hereP p.1 l
  · by_cases h40 : n = 40
    · have HF := Lib.hid (putP_full hh (by rw [HL.out]; exact h40))
      have hd : ((n : Int) == 40) = true := by simp; omega
      clear h40
      go_enter Try.func41, Try.ntmps41
      go_wp2_with (go_at_call 42; refine (placeOf_any x n cap l p.1 _ _ HO.out.lst' (Nat.le_refl _) hs (by omega)).mono ?_; rintro e w2 ⟨rfl, hb2⟩; rw [hh]; obtain ⟨ho2, c0, c1, hB2⟩ := HFW.out _ hb2; have HO2 := Lib.hid ho2; have HB2 := Lib.hid hB2; clear hb2 ho2 hB2)
      go_ret2
      exact newPBAt_of HF.out ⟨_, rfl, HO2.out, HB2.out⟩
    · have HF := Lib.hid (putP_new hh (by rw [HL.out]; exact h40))
      have hd : ((n : Int) == 40) = false := by simp; omega
      generalize hk : atP p.1 l = k at *
      have hkn : k ≤ n := by have := HL.out; omega
      go_enter Try.func41, Try.ntmps41
      go_wp2_with (first
        | (go_at_call 42; refine (placeOf_any x n cap l p.1 _ _ HO.out.lst' (Nat.le_refl _) hs (by omega)).mono ?_; rintro e w2 ⟨rfl, hb2⟩; rw [hh, hk]; obtain ⟨ho2, c0, c1, hB2⟩ := HFW.out _ hb2; have HO2 := Lib.hid ho2; have HB2 := Lib.hid hB2; clear hb2 ho2 hB2)
        | (go_at_call 56; refine (copyPiece_any p _ hz).mono ?_; rintro e w3 ⟨rfl, hb3⟩; have HO3 := Lib.hid (HO2.out.below hb3); have HB3 := Lib.hid (HB2.out.trans (hb3.mono (Nat.le_trans hbase HB2.out.size))); clear hb3)
        | (go_at_call 57; refine (insert_any x n cap k w3.heap.size base l p _ (HO3.out.alloc _) HL.out (OneAt.new pcG 28 rfl _ _ rfl) (fun e => by have := (World.ownsRow.lt HO3.out _ e).2; omega) hkn (by omega) (Nat.le_trans (Nat.le_trans hbase HB3.out.size) (by simp))).mono ?_; rintro e w4 ⟨v4, rfl, ho4, hb4⟩; have HO4 := Lib.hid ho4; have HB4 := Lib.hid ((HB3.out.alloc (Nat.le_trans hbase HB3.out.size) _).trans hb4); clear ho4 hb4))
      go_ret2
      exact newPBAt_of HF.out ⟨_, rfl, HO4.out, HB4.out⟩
  · have HF := Lib.hid (putP_here hh)
    have hlt : atP p.1 l < n := by
      unfold hereP at hh
      rw [Bool.and_eq_true, decide_eq_true_eq] at hh
      have := HL.out; omega
    generalize hk : atP p.1 l = k at *
    by_cases ht : (nthP l k).2 = p.2
    · have hd : ((nthP l k).2.toList == p.2.toList) = true := by rw [ht]; simp
      have HF2 := Lib.hid (HF.out.trans (show (l, decide ((nthP l k).2 = p.2)) = (l, true) by rw [decide_eq_true ht]))
      clear ht
      go_enter Try.func41, Try.ntmps41
      go_wp2_with (go_at_call 42; refine (placeOf_any x n cap l p.1 _ _ HO.out.lst' (Nat.le_refl _) hs (by omega)).mono ?_; rintro e w2 ⟨rfl, hb2⟩; rw [hh, hk]; obtain ⟨ho2, c0, c1, hB2⟩ := HFW.out _ hb2; obtain ⟨b0, off, rfl, hb0, d0, d1⟩ := ho2.lst'.atP hlt; have HO2 := Lib.hid ho2; have HB2 := Lib.hid hB2; clear hb2 ho2 hB2)
      go_quiet (fail)
      go_wp2
      go_ret2
      exact newPBAt_of HF2.out ⟨_, rfl, HO2.out.drewN _, below_drewN HB2.out _⟩
    · have hd : ((nthP l k).2.toList == p.2.toList) = false := by rw [str_beq]; simpa using ht
      have HF2 := Lib.hid (HF.out.trans (show (l, decide ((nthP l k).2 = p.2)) = (l, false) by rw [decide_eq_false ht]))
      clear ht
      go_enter Try.func41, Try.ntmps41
      go_wp2_with (go_at_call 42; refine (placeOf_any x n cap l p.1 _ _ HO.out.lst' (Nat.le_refl _) hs (by omega)).mono ?_; rintro e w2 ⟨rfl, hb2⟩; rw [hh, hk]; obtain ⟨ho2, c0, c1, hB2⟩ := HFW.out _ hb2; obtain ⟨b0, off, rfl, hb0, d0, d1⟩ := ho2.lst'.atP hlt; have HO2 := Lib.hid ho2; have HB2 := Lib.hid hB2; clear hb2 ho2 hB2)
      go_quiet (fail)
      go_wp2
      go_ret2
      exact newPBAt_of HF2.out ⟨_, rfl, HO2.out.drewN _, below_drewN HB2.out _⟩
end Go.Proofs.Ytpjndkiclfoanaa
