/-
  Chapter 9's model: WalkTo, ReadAt, NamesAt.
-/
import Derived.Test.YtbbjpihlielpgaaGreatDoorDrop
import Derived.Test.YtbbjpihlielpgaaGreatDoorPaths8
import Derived.Test.YtbbjpihlielpgaaGreatDoorFold3
namespace Go.Proofs.YtbbjpihlielpgaaGreatDoor
open Go.RowKit
set_option linter.unusedVariables false
def wtB (l : List Pc) (root : Int) (path : ByteArray) : Int × Bool := if (isPath path && storeB l) = true then walkB l root (partsB path) else (-1, false)
theorem wtB_no {l : List Pc} {root : Int} {path : ByteArray} (h : isPath path = false ∨ storeB l = false) : wtB l root path = (-1, false) := by
  unfold wtB; rcases h with h | h <;> rw [h] <;> simp
theorem wtB_yes {l : List Pc} {root : Int} {path : ByteArray} (h : isPath path = true) (h' : storeB l = true) : wtB l root path = walkB l root (partsB path) := by unfold wtB; rw [h, h']; rfl
theorem gotT_size {l : List Pc} {p : Int} {m : Nat} (h : ∀ k, (nthP l k).2.size ≤ m) : (gotT l p).size ≤ m := by
  unfold gotT; split
  · exact getT_size h
  · simp
theorem mil_max {l : List Pc} (h : ∀ k, (nthP l k).2.size ≤ 1048576) : ∀ k, (nthP l k).2.size ≤ maxLen := fun k => Nat.le_trans (h k) (by unfold maxLen; omega)
theorem specWalkTo_any (x : Option Addr) (n cap : Nat) (l : List Pc) (root : Int) (path : ByteArray) (B : Nat) (w : World) (h : Pcs w B x n cap l) (hB : B ≤ w.heap.size) (hz : ∀ k, (nthP l k).2.size ≤ 1048576) (hs : path.size ≤ 1048576) :
    Calls Tryz.prog 50 #[.slice x n cap, .int .i64 root, .string path] w (BelowIB (wtB l root path) w) := by
  have HH := Lib.hid h; have HZ := Lib.hid hz
  clear h hz
  go_enter Tryz.func50, Tryz.ntmps50
  go_wp2_with fail
  refine (specPathParts_any path _ hs).mono ?_
  rintro e w1 ⟨v1, rfl, ho, hb⟩
  obtain ⟨x1, n1, c1, rfl, hi⟩ := ho.lst
  have HB1 := Lib.hid hb; have HP1 := Lib.hid hi; have HL1 := Lib.hid (HH.out.below hb hB)
  have hs1 := hb.size
  clear hb ho hi
  cases hp : isPath path
  · have HF := Lib.hid (wtB_no (l := l) (root := root) (.inl hp))
    clear hp
    go_wp2_with fail
    go_ret2
    exact belowIB_of HF.out HB1.out
  · have HP := Lib.hid hp
    clear hp
    go_wp2_with fail
    refine (specStoreValid_any x n cap l B _ HL1.out (mil_max HZ.out)).mono ?_
    rintro e w2 hq
    have hb := hq.below
    obtain ⟨rfl, _⟩ := hq
    have HB2 := Lib.hid (HB1.out.trans (hb.mono hs1)); have HP2 := Lib.hid ((HP1.out.below hb (Nat.le_refl _)).more hb.size); have HL2 := Lib.hid (HL1.out.below hb (Nat.le_trans hB hs1))
    have hs2 := HB2.out.size
    clear hb HP1 HL1
    cases hst : storeB l
    · have HF := Lib.hid (wtB_no (root := root) (path := path) (.inr hst))
      clear hst
      go_wp2_with fail
      go_ret2
      exact belowIB_of HF.out HB2.out
    · have HF := Lib.hid (wtB_yes (root := root) HP.out hst)
      clear hst
      go_wp2_with fail
      refine (specWalk_any x x1 n cap n1 c1 l (partsB path) root B _ _ HL2.out HP2.out (Nat.le_trans hB hs2) (Nat.le_refl _) HZ.out).mono ?_
      rintro e w3 ⟨rfl, hb⟩
      have HB3 := Lib.hid (HB2.out.trans (hb.mono hs2))
      clear hb
      go_wp2_with fail
      go_ret2
      exact belowIB_of HF.out HB3.out
/-- What is read at a path. -/
def rdB (l : List Pc) (root : Int) (path : ByteArray) : ByteArray × Bool := if (wtB l root path).2 = true then (fileT (gotT l (wtB l root path).1), isFile (gotT l (wtB l root path).1)) else (ByteArray.empty, false)
def BelowTB (p : ByteArray × Bool) (w : World) (e : Ending) (w' : World) : Prop := e = .returned (.tuple #[.string p.1, .bool p.2]) ∧ Below w.heap.size w w'
theorem belowTB_of {p : ByteArray × Bool} {s : ByteArray} {b : Bool} {w w' : World} (h : p = (s, b)) (hb : Below w.heap.size w w') : BelowTB p w (.returned (.tuple #[.string s, .bool b])) w' := by rw [h]; exact ⟨rfl, hb⟩
theorem specReadAt_any (x : Option Addr) (n cap : Nat) (l : List Pc) (root : Int) (path : ByteArray) (B : Nat) (w : World) (h : Pcs w B x n cap l) (hB : B ≤ w.heap.size) (hz : ∀ k, (nthP l k).2.size ≤ 1048576) (hs : path.size ≤ 1048576) :
    Calls Tryz.prog 14 #[.slice x n cap, .int .i64 root, .string path] w (BelowTB (rdB l root path) w) := by
  have HH := Lib.hid h; have HZ := Lib.hid hz
  clear h hz
  go_enter Tryz.func14, Tryz.ntmps14
  go_wp2_with fail
  refine (specWalkTo_any x n cap l root path B _ HH.out hB HZ.out hs).mono ?_
  rintro e w1 ⟨rfl, hb⟩
  have HB1 := Lib.hid hb; have HL1 := Lib.hid (HH.out.below hb hB)
  have hs1 := hb.size
  clear hb
  have HY := Lib.hid (show (wtB l root path).2 = true → rdB l root path = (fileT (gotT l (wtB l root path).1), isFile (gotT l (wtB l root path).1)) from fun e => by unfold rdB; rw [if_pos e])
  have HN := Lib.hid (show (wtB l root path).2 = false → rdB l root path = (ByteArray.empty, false) from fun e => by unfold rdB; rw [if_neg (by rw [e]; simp)])
  obtain ⟨⟨c, b⟩, hR⟩ : ∃ R, wtB l root path = R := ⟨_, rfl⟩
  rw [hR] at HY HN ⊢
  clear hR
  have hgz := gotT_size (p := c) HZ.out
  go_wp2_with fail
  refine (specGetText_any x n cap l c B _ HL1.out (mil_max HZ.out)).mono ?_
  rintro e w2 ⟨rfl, hq⟩
  have hb := below_quietN (Below.refl w1.heap.size w1) hq
  have HB2 := Lib.hid (HB1.out.trans (hb.mono hs1))
  clear hb hq
  cases b
  · have HF := Lib.hid (HN.out rfl)
    clear HN HY
    go_wp2_with fail
    go_ret2
    exact belowTB_of HF.out HB2.out
  · have HF := Lib.hid (HY.out rfl)
    clear HN HY
    go_wp2_with fail
    refine (specReadFile_any _ _ (by unfold maxLen; omega)).mono ?_
    rintro e w' ⟨rfl, hw⟩
    subst w'
    go_wp2_with fail
    go_ret2
    exact belowTB_of HF.out HB2.out
/-- The names at a path. -/
def nmB (l : List Pc) (root : Int) (path : ByteArray) : List ByteArray × Bool := if ((wtB l root path).2 && isFold (gotT l (wtB l root path).1)) = true then ((foldL (gotT l (wtB l root path).1)).map (·.1), true) else ([], false)
theorem newSB_put {L : List ByteArray} {b : Bool} {pr : List ByteArray × Bool} {w w' : World} {v : Value} (h : pr = (L, b)) (ho : OwnS w' w.heap.size v L) (hb : Below w.heap.size w w') : NewSB pr.1 pr.2 w (.returned (.tuple #[v, .bool b])) w' := by rw [h]; exact ⟨v, rfl, ho, hb⟩
theorem names_step {l : List Ent} {k : Nat} (h : k < l.length) : (l.take (k + 1)).map (·.1) = (l.take k).map (·.1) ++ [(nthE l k).1] := by rw [take_snocE h, List.map_append]; rfl
theorem specNamesAt_any (x : Option Addr) (n cap : Nat) (l : List Pc) (root : Int) (path : ByteArray) (B : Nat) (w : World) (h : Pcs w B x n cap l) (hB : B ≤ w.heap.size) (hz : ∀ k, (nthP l k).2.size ≤ 1048576) (hs : path.size ≤ 1048576) :
    Calls Tryz.prog 21 #[.slice x n cap, .int .i64 root, .string path] w (NewSB (nmB l root path).1 (nmB l root path).2 w) := by
  have HO0 := Lib.hid (OwnL.new strG 9 (size := 1) w)
  have HB0 := Lib.hid ((Below.refl w.heap.size w).alloc (Nat.le_refl _) (.cells #[] 9))
  have HL0 := Lib.hid ((h.below ((Below.refl w.heap.size w).alloc (Nat.le_refl _) (.cells #[] 9)) hB))
  have HZ := Lib.hid hz
  clear h hz
  go_enter Tryz.func21, Tryz.ntmps21
  go_wp2_with fail
  refine (specWalkTo_any x n cap l root path B _ HL0.out (by simp; omega) HZ.out hs).mono ?_
  rintro e w1 ⟨rfl, hb⟩
  have HB1 := Lib.hid (HB0.out.trans (hb.mono HB0.out.size)); have HL1 := Lib.hid (HL0.out.below hb (by simp; omega)); have HO1 := Lib.hid (HO0.out.below hb)
  clear hb HO0 HB0 HL0
  have HY := Lib.hid (show (wtB l root path).2 = true → isFold (gotT l (wtB l root path).1) = true → nmB l root path = ((foldL (gotT l (wtB l root path).1)).map (·.1), true) from fun e e' => by unfold nmB; rw [e, e']; rfl)
  have HN := Lib.hid (show ((wtB l root path).2 = false ∨ isFold (gotT l (wtB l root path).1) = false) → nmB l root path = ([], false) from fun e => by unfold nmB; rcases e with e | e <;> rw [e] <;> simp)
  obtain ⟨⟨c, b⟩, hR⟩ : ∃ R, wtB l root path = R := ⟨_, rfl⟩
  rw [hR] at HY HN ⊢
  clear hR
  have hgz := gotT_size (p := c) HZ.out
  go_wp2_with fail
  refine (specGetText_any x n cap l c B _ HL1.out (mil_max HZ.out)).mono ?_
  rintro e w2 ⟨rfl, hq⟩
  have hb := below_quietN (Below.refl w1.heap.size w1) hq
  have HB2 := Lib.hid (HB1.out.trans (hb.mono HB1.out.size)); have HO2 := Lib.hid (HO1.out.below hb)
  clear hb hq HB1 HO1 HL1
  obtain ⟨t, ht⟩ : ∃ t, gotT l c = t := ⟨_, rfl⟩
  rw [ht] at HY HN hgz ⊢
  clear ht
  go_wp2_with fail
  refine (specReadFolder_any t _ hgz).mono ?_
  rintro e w3 ⟨v3, rfl, ho, hb⟩
  obtain ⟨x3, n3, c3, rfl, hi⟩ := ho.lst
  have HB3 := Lib.hid (HB2.out.trans (hb.mono HB2.out.size)); have HO3 := Lib.hid (HO2.out.below hb); have HE := Lib.hid hi; have HEO := Lib.hid (ho.mono HB2.out.size)
  clear hb ho hi HB2 HO2
  have hs3 := HB3.out.size
  cases b
  · have HF := Lib.hid (HN.out (.inl rfl))
    clear HN HY
    go_wp2_with fail
    go_ret2
    exact newSB_put HF.out HO3.out HB3.out
  cases hfo : isFold t
  · have HF := Lib.hid (HN.out (.inr hfo))
    clear HN HY hfo
    go_wp2_with fail
    go_ret2
    exact newSB_put HF.out HO3.out HB3.out
  have HF := Lib.hid (HY.out rfl hfo)
  have HLEN := Lib.hid HE.out.len
  have h3 : n3 ≤ 3 := by have := foldL_len t; have := HLEN.out; omega
  have hc3 := HE.out.le
  have hm3 := HE.out.max
  unfold maxLen at hm3
  clear HN HY hfo
  obtain ⟨E, hE⟩ : ∃ E, foldL t = E := ⟨_, rfl⟩
  rw [hE] at HE HLEN HF HEO
  clear hE
  go_wp2_with fail
  go_loopw [8, 15] (fun v i wr => ∃ k : Nat, k ≤ n3 ∧ i = .int .i64 k ∧ OwnS wr w.heap.size v ((E.take k).map (·.1)) ∧ Below w.heap.size w wr ∧ OwnE wr w.heap.size (.slice x3 n3 c3) E) (fun _ i _ => n3 - (intOf i).toNat)
  case atStart => exact ⟨0, by omega, rfl, HO3.out, HB3.out, HEO.out⟩
  case round =>
    obtain ⟨k, hk, rfl, ho, hb, he⟩ := hrel
    have HO := Lib.hid ho; have HB := Lib.hid hb; have HEW := Lib.hid he
    clear ho hb he
    have hsz := HB.out.size
    by_cases hlt : k < n3
    · obtain ⟨be, oe, rfl, hbe, hc0, hc1⟩ := HEW.out.lst'.atE hlt
      have hl3 : ((E.take k).map (·.1)).length ≤ 2000000 := by rw [List.length_map, List.length_take]; omega
      go_wp2_with (at_builtin; refine wpList_app1L eltStr encStr (nthE E k).1 _ rfl HO.out hl3 hsz rfl _ _ rfl rfl rfl ?_; intro v' w' hown hgrow; have HW := Lib.hid hown; have HGR := Lib.hid hgrow; have HEN := Lib.hid (World.ownsRow.kept HEW.out hgrow (own_ne HEW.out HO.out (by decide))); clear hown hgrow)
      go_roundw
      case rel => exact ⟨k + 1, by omega, by go_num, by rw [names_step (by have := HLEN.out; omega)]; exact HW.out, HB.out.grown HGR.out hsz HO.out.at, HEN.out⟩
      case measure => simp [intOf]; omega
    · obtain rfl : k = n3 := by omega
      go_wp2_with fail
      go_ret2
      refine newSB_put HF.out ?_ HB.out
      have := HO.out
      rwa [List.take_of_length_le (by have := HLEN.out; omega)] at this
end Go.Proofs.YtbbjpihlielpgaaGreatDoor
