/-
  The walks of chapter 10's laws: what was dropped, written again; two writes in either order.
-/
import Derived.Test.YtbbjpihlielpgaaGreatDoorDraw15
import Derived.Test.YtbbjpihlielpgaaGreatDoorImpl10
import Derived.Test.YtbbjpihlielpgaaGreatDoorImpl10b
import Derived.Test.YtbbjpihlielpgaaGreatDoorMath10b
namespace Go.Proofs.YtbbjpihlielpgaaGreatDoor
open Go.RowKit
set_option linter.unusedVariables false
theorem putB_short {l : List Pc} {t : ByteArray} (h : Short 60 l) : Short 60 (putB l t).1 := by
  cases ho : (putB l t).2.2
  · rcases (put_no ho).2 with e | e
    · rw [e]; exact h
    · rw [e]; intro q hq; cases hq
  · exact store_short (put_yes ho).2.2.2.1
theorem write_short {l : List Pc} {root : Int} {path content : ByteArray} (h : Short 60 l) : Short 60 (writeB l root path content).1 := by
  cases ho : (writeB l root path content).2.2
  · unfold writeB at ho ⊢
    split
    · intro q hq; cases hq
    rename_i h1
    rw [if_neg h1] at ho
    split
    · exact h
    rename_i h2
    rw [if_neg h2] at ho
    split
    · exact h
    rename_i h3
    rw [if_neg h3] at ho
    split
    · exact h
    · rename_i h4; rw [if_neg h4] at ho; cases ho
  · exact store_short (write_made ho).2.2.2.2.2.2.1.1
theorem dropAt_short {l : List Pc} {root : Int} {path : ByteArray} (h : Short 60 l) : Short 60 (dropAtB l root path).1 := by
  cases ho : (dropAtB l root path).2.2
  · unfold dropAtB at ho ⊢
    split
    · intro q hq; cases hq
    rename_i h1
    rw [if_neg h1] at ho
    split
    · exact h
    rename_i h2
    rw [if_neg h2] at ho
    split
    · rename_i h3
      rw [if_pos h3] at ho
      split
      · exact h
      · rename_i h4; rw [if_neg h4] at ho; cases ho
    · rename_i h3
      rw [if_neg h3] at ho
      split
      · exact h
      · rename_i h4; rw [if_neg h4] at ho; cases ho
  · exact store_short (drop_nowhere ho).1
set_option maxHeartbeats 1000000 in
set_option maxRecDepth 100000 in
theorem fnWriteBack_any (x : Option Addr) (n cap : Nat) (w : World) (h : Bytes w.heap.size w x n) (hn : n ≤ cap) (hc : cap ≤ maxLen) :
    Calls Tryz.prog 8 #[.slice x n cap] w fun e w' => e = .returned (.bool true) ∧ Below w.heap.size w w' := by
  by_cases hlong : 1048576 < (n : Int)
  · go_enter Tryz.func8, Tryz.ntmps8
    go_wp2
    go_ret
    exact ⟨rfl, Below.refl _ _⟩
  · have HB0 := Lib.hid h
    have HC := Lib.hid hc
    have HLE := Lib.hid hn
    clear h hc hn
    go_enter Tryz.func8, Tryz.ntmps8
    go_wp2_with fail
    refine (drawDropAt_any x n cap w HB0.out HLE.out HC.out).mono ?_
    rintro e w1 ⟨y, m, c, l, p, path, rfl, hl41, hsh, hps, hl, hb⟩
    have HB := Lib.hid hb; have HL := Lib.hid hl; have HZ := Lib.hid (short_mil hsh); have hrs := rd_small (root := p) (path := path) hsh
    have HZD := Lib.hid (short_mil (dropAt_short (root := p) (path := path) hsh))
    clear hb hl hsh
    have HBACK := Lib.hid (write_back (l := l) (root := p) (path := path))
    go_wp2_with fail
    refine (implReadAt_any y m c l p path _ _ HL.out (Nat.le_refl _) HZ.out (by omega)).mono ?_
    rintro e w2 ⟨rfl, hb⟩
    have HB2 := Lib.hid (HB.out.trans (hb.mono HB.out.size)); have HL2 := Lib.hid ((HL.out.below hb (Nat.le_refl _)).more hb.size); clear hb
    obtain ⟨⟨t, b⟩, hR⟩ : ∃ R, rdB l p path = R := ⟨_, rfl⟩
    rw [hR] at HBACK hrs ⊢
    clear hR
    go_wp2_with fail
    refine (implDropAt_any y m c l p path _ _ HL2.out (Nat.le_refl _) HZ.out (by omega)).mono ?_
    rintro e w3 ⟨v3, rfl, ho, hb⟩
    obtain ⟨x3, n3, c3, rfl, hi⟩ := ho.lst
    have HB3 := Lib.hid (HB2.out.trans (hb.mono HB2.out.size)); have HL3 := Lib.hid hi
    clear hb ho hi
    obtain ⟨⟨L, q, g⟩, hD⟩ : ∃ R, dropAtB l p path = R := ⟨_, rfl⟩
    rw [hD] at HBACK HL3 HZD ⊢
    clear hD
    have hts : t.size ≤ 1048576 := Nat.le_trans hrs (by decide)
    cases b
    · go_wp2_with (first
        | (go_at_call 15; refine (alive_any _).mono ?_; rintro e w' ⟨rfl, rfl⟩))
      go_ret
      exact ⟨rfl, HB3.out⟩
    cases g
    · go_wp2_with (first
        | (go_at_call 15; refine (alive_any _).mono ?_; rintro e w' ⟨rfl, rfl⟩))
      go_ret
      exact ⟨rfl, HB3.out⟩
    have HK := Lib.hid (HBACK.out (by trivial) (by trivial))
    clear HBACK hrs
    go_wp2_with fail
    refine (implWriteAt_any x3 n3 c3 L q path t _ _ HL3.out (Nat.le_refl _) HZD.out (by omega) hts).mono ?_
    rintro e w4 ⟨v4, rfl, ho, hb⟩
    have HB4 := Lib.hid (HB3.out.trans (hb.mono HB3.out.size))
    clear hb ho
    obtain ⟨⟨M, q4, g4⟩, hW⟩ : ∃ R, writeB L q path t = R := ⟨_, rfl⟩
    rw [hW] at HK ⊢
    clear hW
    cases g4
    · go_wp2_with fail
      go_ret
      exact ⟨ret_bool (by simp), HB4.out⟩
    · obtain rfl : q4 = p := HK.out (by trivial)
      go_wp2_with fail
      go_ret
      exact ⟨ret_bool (by simp), HB4.out⟩
end Go.Proofs.YtbbjpihlielpgaaGreatDoor
