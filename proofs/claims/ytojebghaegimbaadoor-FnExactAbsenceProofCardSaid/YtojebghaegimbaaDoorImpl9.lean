/-
  Contracts of chapter 9's program: walking along a path, reading a file, the names of a folder.
-/
import Derived.Test.YtojebghaegimbaaDoorWalks9
import Derived.Test.YtojebghaegimbaaDoorFold4
import Derived.Test.YtojebghaegimbaaDoorImpl8
namespace Go.Proofs.YtojebghaegimbaaDoor
open Go.RowKit
set_option linter.unusedVariables false
/-! ### a name's print -/
theorem findE_skip {l : List Ent} {nm : ByteArray} : ∀ j, (∀ i, i < j → (nthE l i).1 ≠ nm) → j ≤ l.length → findE l nm = findE (l.drop j) nm
  | 0, _, _ => by rw [List.drop_zero]
  | j + 1, h, hj => by
    rw [findE_skip j (fun i hi => h i (by omega)) (by omega)]
    exact findE_step (by omega) (by rw [str_beq, decide_eq_false (h j (by omega))])
theorem findE_here {l : List Ent} {nm : ByteArray} (h : hereE nm l = true) : atE nm l < l.length ∧ findE l nm = some (nthE l (atE nm l)).2 := by
  unfold hereE at h
  rw [Bool.and_eq_true, decide_eq_true_eq, decide_eq_true_eq] at h
  refine ⟨h.1, ?_⟩
  rw [findE_skip (atE nm l) (fun i hi => lt_ne (atE_before hi)) (atE_le _ _)]
  exact findE_stop h.1 (by rw [str_beq, h.2]; simp)
theorem findE_gone {l : List Ent} {nm : ByteArray} (hs : AscE l) (h : hereE nm l = false) : findE l nm = none := by
  have h1 := lessE_none hs h
  unfold lessE at h1
  have h2 := List.filter_eq_self.1 h1
  rw [findE_skip l.length (fun i hi e => ?_) (Nat.le_refl _)]
  · exact findE_end (Nat.le_refl _)
  · have := h2 (nthE l i) (by rw [nthE_get hi]; exact List.getElem_mem _)
    unfold otherE at this; rw [e] at this; simp at this
/-! ### the folder and the file of a print -/
/-- The print of a name in the text of a folder, and whether there is one. -/
def nameW (t nm : ByteArray) : Int × Bool := ((findE (foldL t) nm).getD (-1), (findE (foldL t) nm).isSome)
theorem nameW_none {t nm : ByteArray} (h : findE (foldL t) nm = none) : nameW t nm = (-1, false) := by unfold nameW; rw [h]; rfl
theorem nameW_some {t : ByteArray} {c : Int} {nm : ByteArray} (h : findE (foldL t) nm = some c) : nameW t nm = (c, true) := by unfold nameW; rw [h]; rfl
theorem nameW_fold {t nm : ByteArray} (h : isFold t = false) : nameW t nm = (-1, false) := nameW_none (by rw [foldL_no h]; rfl)
theorem printNamed_any (t nm : ByteArray) (w : World) (ht : t.size ≤ 1048576) :
    Calls Tryd.prog 63 #[.string t, .string nm] w (BelowIB (nameW t nm) w) := by
  go_enter Tryd.func63, Tryd.ntmps63
  go_wp2_with fail
  refine (implReadFolder_any _ _ ht).mono ?_
  rintro e w1 ⟨v1, rfl, ho, hb⟩
  obtain ⟨x1, n1, c1, rfl, hi⟩ := ho.lst
  have HB := Lib.hid hb; have HI := Lib.hid hi
  have hs1 := hb.size
  clear ho hb hi
  have HN := Lib.hid (nameW_fold (t := t) (nm := nm)); have HG := Lib.hid (nameW_none (t := t) (nm := nm)); have HS := Lib.hid (nameW_some (t := t) (nm := nm) (c := (nthE (foldL t) (atE nm (foldL t))).2))
  have HAS := Lib.hid (ents_asc (fold_ents (s := t)))
  have HL3 := Lib.hid (foldL_len t)
  obtain ⟨E, hE⟩ : ∃ E, foldL t = E := ⟨_, rfl⟩
  rw [hE] at HI HG HS HAS HL3
  clear hE
  have h3 : n1 ≤ 3 := by have := HI.out.len; have := HL3.out; omega
  cases hf : isFold t
  · have HF := Lib.hid (HN.out hf)
    clear HN HG HS hf
    go_wp2_with fail
    go_ret2
    exact belowIB_of HF.out HB.out
  clear hf
  go_wp2_with fail
  refine (placeOfName_any x1 n1 c1 E nm _ _ HI.out (Nat.le_refl _) HAS.out (by omega)).mono ?_
  rintro e w2 ⟨rfl, hb⟩
  have HB2 := Lib.hid (HB.out.trans (hb.mono hs1)); have HI2 := Lib.hid (HI.out.below hb (Nat.le_refl _))
  have hs2 := hb.size
  clear hb
  cases hh : hereE nm E
  · have HF := Lib.hid (HG.out (findE_gone HAS.out hh))
    clear HN HG HS hh
    go_wp2_with fail
    go_ret2
    exact belowIB_of HF.out HB2.out
  · have hx := findE_here hh
    have HF := Lib.hid (HS.out hx.2)
    have hlt : atE nm E < n1 := by have := HI2.out.len; omega
    clear HN HG HS hh
    obtain ⟨k, hk⟩ : ∃ k, atE nm E = k := ⟨_, rfl⟩
    rw [hk] at HF hlt ⊢
    clear hx hk
    obtain ⟨b, o, rfl, hb, hc0, hc1⟩ := HI2.out.atE hlt
    go_wp2_with fail
    go_ret2
    exact belowIB_of HF.out HB2.out
/-! ### the chapter's functions -/
end Go.Proofs.YtojebghaegimbaaDoor
