/-
  The walks of chapter 9's laws: WalkTo, ReadAt, NamesAt.
-/
import Derived.Test.YtbbjpihlielpgaaDoorDraw14
import Derived.Test.YtbbjpihlielpgaaDoorImpl7
import Derived.Test.YtbbjpihlielpgaaDoorImpl9
namespace Go.Proofs.YtbbjpihlielpgaaDoor
open Go.RowKit
set_option linter.unusedVariables false
theorem walk_has {l : List Pc} : ∀ {ps : List ByteArray} {p : Int}, (walkB l p ps).2 = true → getO l (walkB l p ps).1 = true ∧ getO l p = true
  | [], p, h => by
    rw [walkB] at h ⊢
    cases hg : getO l p
    · rw [hg] at h; cases h
    · rw [if_pos rfl]; exact ⟨hg, rfl⟩
  | nm :: r, p, h => by
    rw [walkB] at h ⊢
    cases hc : childB l p nm with
    | none => rw [hc] at h; cases h
    | some c =>
      rw [hc] at h
      refine ⟨(walk_has h).1, ?_⟩
      cases hg : getO l p
      · unfold childB at hc
        rw [foldL_no (empty_none hg).2] at hc
        cases hc
      · rfl
theorem walk_not {l : List Pc} : ∀ {ps : List ByteArray} {p : Int}, (walkB l p ps).2 = false → (walkB l p ps).1 = -1
  | [], p, h => by
    rw [walkB] at h ⊢
    split at h
    · cases h
    · rename_i h1; rw [if_neg h1]
  | nm :: r, p, h => by
    rw [walkB] at h ⊢
    cases hc : childB l p nm with
    | none => rfl
    | some c => rw [hc] at h; exact walk_not h
/-- Where a walk leads there is a text; and the root is there. -/
theorem wt_facts (l : List Pc) (root : Int) (path : ByteArray) : ((wtB l root path).2 = true → gotO l (wtB l root path).1 = true ∧ wtB l root ⟨#[47]⟩ = (root, true)) ∧ ((wtB l root path).2 = false → (wtB l root path).1 = -1) := by
  cases hp : isPath path
  · rw [wtB_no (.inl hp)]; exact ⟨(fun h => by cases h), fun _ => rfl⟩
  cases hs : storeB l
  · rw [wtB_no (.inr hs)]; exact ⟨(fun h => by cases h), fun _ => rfl⟩
  rw [wtB_yes hp hs, wtB_yes parts_root.2 hs, parts_root.1]
  refine ⟨fun h => ?_, walk_not⟩
  obtain ⟨h1, h2⟩ := walk_has h
  exact ⟨by unfold gotO; rw [hs, h1]; rfl, by rw [walkB, if_pos h2]⟩
theorem fnWalkTo_any (x : Option Addr) (n cap : Nat) (w : World) (h : Bytes w.heap.size w x n) (hn : n ≤ cap) (hc : cap ≤ maxLen) :
    Calls Tryd.prog 3 #[.slice x n cap] w fun e w' => e = .returned (.bool true) ∧ Below w.heap.size w w' := by
  by_cases hlong : 1048576 < (n : Int)
  · go_enter Tryd.func3, Tryd.ntmps3
    go_wp2
    go_ret
    exact ⟨rfl, Below.refl _ _⟩
  · have HB0 := Lib.hid h
    have HC := Lib.hid hc
    have HLE := Lib.hid hn
    clear h hc hn
    go_enter Tryd.func3, Tryd.ntmps3
    go_wp2_with fail
    refine (drawWalkTo_any x n cap w HB0.out HLE.out HC.out).mono ?_
    rintro e w1 ⟨y, m, c, l, p, path, rfl, hl41, hsh, hps, hl, hb⟩
    have HB := Lib.hid hb; have HL := Lib.hid hl; have HZ := Lib.hid (short_mil hsh)
    clear hb hl hsh
    have HF := Lib.hid (wt_facts l p path)
    go_wp2_with fail
    refine (implWalkTo_any y m c l p path _ _ HL.out (Nat.le_refl _) HZ.out (by omega)).mono ?_
    rintro e w2 ⟨rfl, hb⟩
    have HB2 := Lib.hid (HB.out.trans (hb.mono HB.out.size)); have HL2 := Lib.hid ((HL.out.below hb (Nat.le_refl _)).more hb.size); clear hb
    go_wp2_with fail
    refine (specWalkTo_any y m c l p path _ _ HL2.out (Nat.le_refl _) HZ.out (by omega)).mono ?_
    rintro e w3 ⟨rfl, hb⟩
    have HB3 := Lib.hid (HB2.out.trans (hb.mono HB2.out.size)); have HL3 := Lib.hid ((HL2.out.below hb (Nat.le_refl _)).more hb.size); clear hb
    obtain ⟨⟨q, b⟩, hR⟩ : ∃ R, wtB l p path = R := ⟨_, rfl⟩
    rw [hR] at HF ⊢
    clear hR
    cases b
    · obtain rfl : q = -1 := HF.out.2 rfl
      clear HF
      go_wp2_with (first
        | (go_at_call 12; refine (alive_any _).mono ?_; rintro e w' ⟨rfl, rfl⟩))
      go_ret
      exact ⟨rfl, HB3.out⟩
    · obtain ⟨h1, h2⟩ := HF.out.1 rfl
      have H1 := Lib.hid h1; have H2 := Lib.hid h2
      clear HF h1 h2
      have hroot : (ByteArray.mk #[47]).size ≤ 1048576 := by decide
      go_wp2_with fail
      refine (implGetText_any y m c l q _ _ HL3.out (Nat.le_refl _) (mil_max HZ.out)).mono ?_
      rintro e w4 ⟨rfl, hb⟩
      rw [H1.out]
      have HB4 := Lib.hid (HB3.out.trans (hb.mono HB3.out.size)); have HL4 := Lib.hid ((HL3.out.below hb (Nat.le_refl _)).more hb.size); clear hb
      go_wp2_with fail
      refine (implWalkTo_any y m c l p ⟨#[47]⟩ _ _ HL4.out (Nat.le_refl _) HZ.out hroot).mono ?_
      rintro e w5 ⟨rfl, hb⟩
      rw [H2.out]
      have HB5 := Lib.hid (HB4.out.trans (hb.mono HB4.out.size)); clear hb
      go_wp2_with fail
      go_ret
      exact ⟨ret_bool (by simp), HB5.out⟩
end Go.Proofs.YtbbjpihlielpgaaDoor
