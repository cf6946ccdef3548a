/-
  Chapter 9's model: WalkTo, ReadAt, NamesAt.
-/
import Derived.Test.YtglajbmopiolhaaGreatDoorDrop
import Derived.Test.YtglajbmopiolhaaGreatDoorPaths8
import Derived.Test.YtglajbmopiolhaaGreatDoorFold3
namespace Go.Proofs.YtglajbmopiolhaaGreatDoor
open Go.RowKit
set_option linter.unusedVariables false
def wtB (l : List Pc) (root : Int) (path : ByteArray) : Int × Bool := if (isPath path && storeB l) = true then walkB l root (partsB path) else (-1, false)
theorem wtB_no {l : List Pc} {root : Int} {path : ByteArray} (h : isPath path = false ∨ storeB l = false) : wtB l root path = (-1, false) := by
  unfold wtB; rcases h with h | h <;> rw [h] <;> simp
theorem wtB_yes {l : List Pc} {root : Int} {path : ByteArray} (h : isPath path = true) (h' : storeB l = true) : wtB l root path = walkB l root (partsB path) := by unfold wtB; rw [h, h']; rfl
theorem gotT_size {l : List Pc} {p : Int} {m : Nat} (h : ∀ k, (nthP l k).2.size ≤ m) : (gotT l p).size ≤ m := by
  unfold gotT; split
  · exact getT_size h
  · simp
theorem mil_max {l : List Pc} (h : ∀ k, (nthP l k).2.size ≤ 1048576) : ∀ k, (nthP l k).2.size ≤ maxLen := fun k => Nat.le_trans (h k) (by unfold maxLen; omega)
theorem specWalkTo_any (x : Option Addr) (n cap : Nat) (l : List Pc) (root : Int) (path : ByteArray) (B : Nat) (w : World) (h : Pcs w B x n cap l) (hB : B ≤ w.heap.size) (hz : ∀ k, (nthP l k).2.size ≤ 1048576) (hs : path.size ≤ 1048576) :
    Calls Tryz.prog 69 #[.slice x n cap, .int .i64 root, .string path] w (BelowIB (wtB l root path) w) := by
  have HH := Lib.hid h; have HZ := Lib.hid hz
  clear h hz
  go_enter Tryz.func69, Tryz.ntmps69
  go_wp2_with fail
  refine (specPathParts_any path _ hs).mono ?_
  rintro e w1 ⟨v1, rfl, ho, hb⟩
  obtain ⟨x1, n1, c1, rfl, hi⟩ := ho.lst
  have HB1 := Lib.hid hb; have HP1 := Lib.hid hi; have HL1 := Lib.hid (HH.out.below hb hB)
  have hs1 := hb.size
  clear hb ho hi
  cases hp : isPath path
  · have HF := Lib.hid (wtB_no (l := l) (root := root) (.inl hp))
    clear hp
    go_wp2_with fail
    go_ret2
    exact belowIB_of HF.out HB1.out
  · have HP := Lib.hid hp
    clear hp
    go_wp2_with fail
    refine (specStoreValid_any x n cap l B _ HL1.out (mil_max HZ.out)).mono ?_
    rintro e w2 hq
    have hb := hq.below
    obtain ⟨rfl, _⟩ := hq
    have HB2 := Lib.hid (HB1.out.trans (hb.mono hs1)); have HP2 := Lib.hid ((HP1.out.below hb (Nat.le_refl _)).more hb.size); have HL2 := Lib.hid (HL1.out.below hb (Nat.le_trans hB hs1))
    have hs2 := HB2.out.size
    clear hb HP1 HL1
    cases hst : storeB l
    · have HF := Lib.hid (wtB_no (root := root) (path := path) (.inr hst))
      clear hst
      go_wp2_with fail
      go_ret2
      exact belowIB_of HF.out HB2.out
    · have HF := Lib.hid (wtB_yes (root := root) HP.out hst)
      clear hst
      go_wp2_with fail
      refine (specWalk_any x x1 n cap n1 c1 l (partsB path) root B _ _ HL2.out HP2.out (Nat.le_trans hB hs2) (Nat.le_refl _) HZ.out).mono ?_
      rintro e w3 ⟨rfl, hb⟩
      have HB3 := Lib.hid (HB2.out.trans (hb.mono hs2))
      clear hb
      go_wp2_with fail
      go_ret2
      exact belowIB_of HF.out HB3.out
/-- What is read at a path. -/
def rdB (l : List Pc) (root : Int) (path : ByteArray) : ByteArray × Bool := if (wtB l root path).2 = true then (fileT (gotT l (wtB l root path).1), isFile (gotT l (wtB l root path).1)) else (ByteArray.empty, false)
def BelowTB (p : ByteArray × Bool) (w : World) (e : Ending) (w' : World) : Prop := e = .returned (.tuple #[.string p.1, .bool p.2]) ∧ Below w.heap.size w w'
theorem belowTB_of {p : ByteArray × Bool} {s : ByteArray} {b : Bool} {w w' : World} (h : p = (s, b)) (hb : Below w.heap.size w w') : BelowTB p w (.returned (.tuple #[.string s, .bool b])) w' := by rw [h]; exact ⟨rfl, hb⟩
theorem specReadAt_any (x : Option Addr) (n cap : Nat) (l : List Pc) (root : Int) (path : ByteArray) (B : Nat) (w : World) (h : Pcs w B x n cap l) (hB : B ≤ w.heap.size) (hz : ∀ k, (nthP l k).2.size ≤ 1048576) (hs : path.size ≤ 1048576) :
    Calls Tryz.prog 40 #[.slice x n cap, .int .i64 root, .string path] w (BelowTB (rdB l root path) w) := by
  have HH := Lib.hid h; have HZ := Lib.hid hz
  clear h hz
  go_enter Tryz.func40, Tryz.ntmps40
  go_wp2_with fail
  refine (specWalkTo_any x n cap l root path B _ HH.out hB HZ.out hs).mono ?_
  rintro e w1 ⟨rfl, hb⟩
  have HB1 := Lib.hid hb; have HL1 := Lib.hid (HH.out.below hb hB)
  have hs1 := hb.size
  clear hb
  have HY := Lib.hid (show (wtB l root path).2 = true → rdB l root path = (fileT (gotT l (wtB l root path).1), isFile (gotT l (wtB l root path).1)) from fun e => by unfold rdB; rw [if_pos e])
  have HN := Lib.hid (show (wtB l root path).2 = false → rdB l root path = (ByteArray.empty, false) from fun e => by unfold rdB; rw [if_neg (by rw [e]; simp)])
  obtain ⟨⟨c, b⟩, hR⟩ : ∃ R, wtB l root path = R := ⟨_, rfl⟩
  rw [hR] at HY HN ⊢
  clear hR
  have hgz := gotT_size (p := c) HZ.out
  go_wp2_with fail
  refine (specGetText_any x n cap l c B _ HL1.out (mil_max HZ.out)).mono ?_
  rintro e w2 ⟨rfl, hq⟩
  have hb := below_quietN (Below.refl w1.heap.size w1) hq
  have HB2 := Lib.hid (HB1.out.trans (hb.mono hs1))
  clear hb hq
  cases b
  · have HF := Lib.hid (HN.out rfl)
    clear HN HY
    go_wp2_with fail
    go_ret2
    exact belowTB_of HF.out HB2.out
  · have HF := Lib.hid (HY.out rfl)
    clear HN HY
    go_wp2_with fail
    refine (specReadFile_any _ _ (by unfold maxLen; omega)).mono ?_
    rintro e w' ⟨rfl, hw⟩
    subst w'
    go_wp2_with fail
    go_ret2
    exact belowTB_of HF.out HB2.out
theorem newSB_put {L : List ByteArray} {b : Bool} {pr : List ByteArray × Bool} {w w' : World} {v : Value} (h : pr = (L, b)) (ho : OwnS w' w.heap.size v L) (hb : Below w.heap.size w w') : NewSB pr.1 pr.2 w (.returned (.tuple #[v, .bool b])) w' := by rw [h]; exact ⟨v, rfl, ho, hb⟩
end Go.Proofs.YtglajbmopiolhaaGreatDoor
