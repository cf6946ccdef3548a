/-
  Chapter 9's model: walking along names.
-/
import Derived.Test.YtlbebbkkpjgboaaKinds
import Derived.Test.YtlbebbkkpjgboaaStores3
import Derived.Test.YtlbebbkkpjgboaaPlain4b
import Derived.Test.YtlbebbkkpjgboaaPaths2
namespace Go.Proofs.Ytlbebbkkpjgboaa
open Go.RowKit
set_option linter.unusedVariables false
/-- The print of a name in a folder. -/
def findE : List Ent → ByteArray → Option Int
  | [], _ => none
  | q :: r, nm => if (q.1.toList == nm.toList) = true then some q.2 else findE r nm
theorem findE_step {l : List Ent} {nm : ByteArray} {j : Nat} (h : j < l.length) (hn : ((nthE l j).1.toList == nm.toList) = false) : findE (l.drop j) nm = findE (l.drop (j + 1)) nm := by
  rw [List.drop_eq_getElem_cons h, findE, ← nthE_get h, if_neg (by rw [hn]; simp)]
theorem findE_stop {l : List Ent} {nm : ByteArray} {j : Nat} (h : j < l.length) (hn : ((nthE l j).1.toList == nm.toList) = true) : findE (l.drop j) nm = some (nthE l j).2 := by
  rw [List.drop_eq_getElem_cons h, findE, ← nthE_get h, if_pos hn]
theorem findE_end {l : List Ent} {nm : ByteArray} {j : Nat} (h : l.length ≤ j) : findE (l.drop j) nm = none := by rw [List.drop_of_length_le h]; rfl
/-- The print of a name in the folder of a print. -/
def childB (l : List Pc) (p : Int) (nm : ByteArray) : Option Int := findE (foldL (getT l p)) nm
def walkB (l : List Pc) : Int → List ByteArray → Int × Bool
  | p, [] => if getO l p = true then (p, true) else (-1, false)
  | p, nm :: r => match childB l p nm with
    | none => (-1, false)
    | some c => walkB l c r
theorem walkB_none {l : List Pc} {p : Int} {ps : List ByteArray} {k : Nat} (h : k < ps.length) (hc : childB l p (nthS ps k) = none) : walkB l p (ps.drop k) = (-1, false) := by
  rw [List.drop_eq_getElem_cons h, walkB, ← nthS_get h, hc]
theorem walkB_some {l : List Pc} {p c : Int} {ps : List ByteArray} {k : Nat} (h : k < ps.length) (hc : childB l p (nthS ps k) = some c) : walkB l p (ps.drop k) = walkB l c (ps.drop (k + 1)) := by
  rw [List.drop_eq_getElem_cons h, walkB, ← nthS_get h, hc]
theorem walkB_yes {l : List Pc} {p : Int} {ps : List ByteArray} {k : Nat} (h : ps.length ≤ k) (hc : getO l p = true) : walkB l p (ps.drop k) = (p, true) := by
  rw [List.drop_of_length_le h, walkB, if_pos hc]
theorem walkB_no {l : List Pc} {p : Int} {ps : List ByteArray} {k : Nat} (h : ps.length ≤ k) (hc : getO l p = false) : walkB l p (ps.drop k) = (-1, false) := by
  rw [List.drop_of_length_le h, walkB, if_neg (by rw [hc]; simp)]
theorem getT_size {l : List Pc} {p : Int} {m : Nat} (h : ∀ k, (nthP l k).2.size ≤ m) : (getT l p).size ≤ m := by
  unfold getT getB
  cases hf : l.find? fun q => decide (q.1 = p) with
  | none => simp
  | some q =>
    have hq := List.mem_of_find?_eq_some hf
    obtain ⟨k, hk, rfl⟩ := List.mem_iff_getElem.1 hq
    have := h k
    rw [nthP_get hk] at this
    exact this
def BelowIB (p : Int × Bool) (w : World) (e : Ending) (w' : World) : Prop := e = .returned (.tuple #[.int .i64 p.1, .bool p.2]) ∧ Below w.heap.size w w'
theorem belowIB_of {p : Int × Bool} {n : Int} {b : Bool} {w w' : World} (h : p = (n, b)) (hb : Below w.heap.size w w') : BelowIB p w (.returned (.tuple #[.int .i64 n, .bool b])) w' := by rw [h]; exact ⟨rfl, hb⟩
set_option maxHeartbeats 2000000 in
theorem specWalk_any (x y : Option Addr) (n cap m d : Nat) (l : List Pc) (ps : List ByteArray) (p : Int) (B B1 : Nat) (w : World) (h : Pcs w B x n cap l) (h1 : Strs w B1 y m d ps) (hB : B ≤ w.heap.size) (hB1 : B1 ≤ w.heap.size) (hz : ∀ k, (nthP l k).2.size ≤ 1048576) :
    Calls Try.prog 74 #[.slice x n cap, .int .i64 p, .slice y m d] w (BelowIB (walkB l p ps) w) := by
  have HL1 := Lib.hid h1.len
  have hle1 := h1.le
  have hmx1 := h1.max
  unfold maxLen at hmx1
  have HH := Lib.hid h
  have HH1 := Lib.hid h1
  have HZ := Lib.hid hz
  clear h h1 hz
  go_enter Try.func74, Try.ntmps74
  go_wp2_with fail
  go_loopw [1, 8, 9, 10, 11, 12, 13, 14] (fun pr i _ _ _ _ _ _ wr => ∃ (k : Nat) (c : Int), k ≤ m ∧ i = .int .i64 k ∧ pr = .int .i64 c ∧ walkB l p ps = walkB l c (ps.drop k) ∧ Below w.heap.size w wr) (fun _ i _ _ _ _ _ _ _ => m - (intOf i).toNat)
  case atStart => exact ⟨0, p, by omega, rfl, rfl, by rw [List.drop_zero], Below.refl _ _⟩
  case round =>
    obtain ⟨k, c, hk, rfl, rfl, hg, hb⟩ := hrel
    have HG := Lib.hid hg; have HBW := Lib.hid hb
    clear hg hb
    have hwr := HBW.out.size
    have HLS := Lib.hid (HH.out.below HBW.out hB)
    by_cases hlt : k < m
    · have hkl : k < ps.length := by have := HL1.out; omega
      have hgz := getT_size (p := c) HZ.out
      cases hok : isFold (getT l c)
      · have hz0 : (foldL (getT l c)).length = 0 := by unfold foldL; rw [hok]; rfl
        go_wp2_with (first
          | (go_at_call 37; refine (specL4Get_any x n cap l c B _ HLS.out).mono ?_; rintro e w' ⟨rfl, rfl⟩)
          | (go_at_call 82; refine (specReadFolder_any _ _ hgz).mono ?_; rintro e w2 ⟨v, rfl, ho, hb2⟩; rw [hok]; obtain ⟨xo, no, co, rfl, hlo⟩ := ho.lst; have HLO := Lib.hid hlo; have hlol := hlo.len; have hloc := hlo.le; have hlom := hlo.max; unfold maxLen at hlom; have HB2 := Lib.hid (HBW.out.trans (hb2.mono hwr)); clear ho hb2 hlo))
        obtain ⟨b1, o1, rfl, hb1, hc1⟩ := (HH1.out.below HB2.out hB1).atS hlt
        go_loopw [1, 13, 14] (fun pr f jv wq => ∃ j : Nat, j ≤ no ∧ jv = .int .i64 j ∧ pr = .int .i64 c ∧ f = .bool false ∧ childB l c (nthS ps k) = findE ((foldL (getT l c)).drop j) (nthS ps k) ∧ ∃ q, wq = w2.drewN q) (fun _ _ jv _ => no - (intOf jv).toNat)
        case atStart => exact ⟨0, by omega, rfl, rfl, rfl, by rw [List.drop_zero]; rfl, 0, rfl⟩
        case round =>
          obtain ⟨j, hj, rfl, rfl, rfl, hf, hq⟩ := hrel
          have HF := Lib.hid hf; have HQ := Lib.hid hq; clear hf hq
          have hjl : ¬ j < no := by omega
          have HST := Lib.hid (HG.out.trans (walkB_none hkl (HF.out.trans (findE_end (by omega)))))
          go_wp2
          go_ret2
          exact belowIB_of HST.out (by obtain ⟨q, rfl⟩ := HQ.out; exact below_drewN HB2.out _)
      · go_wp2_with (first
          | (go_at_call 37; refine (specL4Get_any x n cap l c B _ HLS.out).mono ?_; rintro e w' ⟨rfl, rfl⟩)
          | (go_at_call 82; refine (specReadFolder_any _ _ hgz).mono ?_; rintro e w2 ⟨v, rfl, ho, hb2⟩; rw [hok]; obtain ⟨xo, no, co, rfl, hlo⟩ := ho.lst; have HLO := Lib.hid hlo; have hlol := hlo.len; have hloc := hlo.le; have hlom := hlo.max; unfold maxLen at hlom; have HB2 := Lib.hid (HBW.out.trans (hb2.mono hwr)); clear ho hb2 hlo))
        obtain ⟨b1, o1, rfl, hb1, hc1⟩ := (HH1.out.below HB2.out hB1).atS hlt
        go_loopw [1, 13, 14] (fun pr f jv wq => ∃ j : Nat, j ≤ no ∧ jv = .int .i64 j ∧ pr = .int .i64 c ∧ f = .bool false ∧ childB l c (nthS ps k) = findE ((foldL (getT l c)).drop j) (nthS ps k) ∧ ∃ q, wq = w2.drewN q) (fun _ _ jv _ => no - (intOf jv).toNat)
        case atStart => exact ⟨0, by omega, rfl, rfl, rfl, by rw [List.drop_zero]; rfl, 0, rfl⟩
        case round =>
          obtain ⟨j, hj, rfl, rfl, rfl, hf, hq⟩ := hrel
          have HF := Lib.hid hf; have HQ := Lib.hid hq; clear hf hq
          by_cases hjl : j < no
          · have hjl2 : j < (foldL (getT l c)).length := by omega
            obtain ⟨b, off, rfl, hb, hc0, hcp⟩ := (HLO.out.keep (w' := wr) (by obtain ⟨q, rfl⟩ := HQ.out; intro _ _; rfl)).atE hjl
            have hcw : wr.cell? ⟨b1, o1 + k, none⟩ = some (.string (nthS ps k)) := by obtain ⟨q, rfl⟩ := HQ.out; exact hc1
            have hbw2 : w.heap.size ≤ w2.heap.size := HB2.out.size
            cases hm : ((nthE (foldL (getT l c)) j).1.toList == (nthS ps k).toList)
            · have HST := Lib.hid (HF.out.trans (findE_step hjl2 hm))
              go_wp2
              go_quiet (fail)
              go_wp2
              go_roundw
              case rel => exact ⟨j + 1, by omega, by go_num, rfl, rfl, HST.out, by obtain ⟨q, rfl⟩ := HQ.out; exact ⟨_, by rw [World.drewN_drewN]⟩⟩
              case measure => simp [intOf]; omega
            · have HST := Lib.hid (HG.out.trans (walkB_some hkl (HF.out.trans (findE_stop hjl2 hm))))
              go_wp2
              go_quiet (fail)
              go_wp2
              go_roundw
              case rel => exact ⟨k + 1, _, by omega, by go_num, rfl, HST.out, by obtain ⟨q, rfl⟩ := HQ.out; exact below_drewN (below_drewN HB2.out _) _⟩
              case measure => simp [intOf]; omega
          · have HST := Lib.hid (HG.out.trans (walkB_none hkl (HF.out.trans (findE_end (by omega)))))
            go_wp2
            go_ret2
            exact belowIB_of HST.out (by obtain ⟨q, rfl⟩ := HQ.out; exact below_drewN HB2.out _)
    · have hle : ps.length ≤ k := by have := HL1.out; omega
      cases ho : getO l c
      · have HF := Lib.hid (HG.out.trans (walkB_no hle ho))
        go_wp2_with (first
          | (go_at_call 37; refine (specL4Get_any x n cap l c B _ HLS.out).mono ?_; rintro e w' ⟨rfl, rfl⟩; rw [ho]))
        go_ret2
        exact belowIB_of HF.out HBW.out
      · have HF := Lib.hid (HG.out.trans (walkB_yes hle ho))
        go_wp2_with (first
          | (go_at_call 37; refine (specL4Get_any x n cap l c B _ HLS.out).mono ?_; rintro e w' ⟨rfl, rfl⟩; rw [ho]))
        go_ret2
        exact belowIB_of HF.out HBW.out
end Go.Proofs.Ytlbebbkkpjgboaa
