/-
  Chapter 8's model: the parts of a path.
-/
import Derived.Test.YtlbebbkkpjgboaaPaths
import Derived.BigRegion
namespace Go.Proofs.Ytlbebbkkpjgboaa
open Go.RowKit
set_option linter.unusedVariables false
/-- Parts so far, and the rest of the path. -/
def splitGo : List ByteArray → List UInt8 → List ByteArray
  | out, [] => out
  | out, c :: r => if c = 47 then splitGo (out ++ [ByteArray.empty]) r else if out = [] then splitGo out r else splitGo (out.set (out.length - 1) (nthS out (out.length - 1) ++ ⟨#[c]⟩)) r
def splitB (s : ByteArray) : List ByteArray := splitGo [] s.data.toList
def isPath (s : ByteArray) : Bool := decide (s = ⟨#[47]⟩) || (decide (0 < s.size) && decide (pathB (splitB s) = s))
def partsB (s : ByteArray) : List ByteArray := if s = ⟨#[47]⟩ then [] else if isPath s = true then splitB s else []
theorem drop_consB (s : ByteArray) (k : Nat) (h : k < s.size) : s.data.toList.drop k = s[k] :: s.data.toList.drop (k + 1) := by
  rw [List.drop_eq_getElem_cons (by simpa using h)]; rfl
theorem splitGo_slash {s : ByteArray} {k : Nat} (h : k < s.size) (hc : ((s[k]).toNat : Int) = 47) (out : List ByteArray) : splitGo out (s.data.toList.drop k) = splitGo (out ++ [ByteArray.empty]) (s.data.toList.drop (k + 1)) := by
  rw [drop_consB s k h, splitGo, if_pos]
  apply UInt8.toNat_inj.1; show (s[k]).toNat = 47; omega
theorem splitGo_skip {s : ByteArray} {k : Nat} (h : k < s.size) (hc : ((s[k]).toNat : Int) ≠ 47) : splitGo [] (s.data.toList.drop k) = splitGo [] (s.data.toList.drop (k + 1)) := by
  rw [drop_consB s k h, splitGo, if_neg, if_pos rfl]
  intro e; exact hc (by rw [e]; rfl)
theorem splitGo_add {s : ByteArray} {k : Nat} (h : k < s.size) (hc : ((s[k]).toNat : Int) ≠ 47) {out : List ByteArray} (ho : out ≠ []) : splitGo out (s.data.toList.drop k) = splitGo (out.set (out.length - 1) (nthS out (out.length - 1) ++ s.extract k (k + 1))) (s.data.toList.drop (k + 1)) := by
  rw [drop_consB s k h, splitGo, if_neg, if_neg ho]
  · congr 2
    congr 1
    apply ByteArray.ext
    rw [ByteArray.data_extract]
    apply Array.toList_inj.1
    rw [Array.toList_extract, List.extract_eq_take_drop]
    rw [show k + 1 - k = 1 by omega, drop_consB s k h]
    rfl
  · intro e; exact hc (by rw [e]; rfl)
/-- New texts and a bool. -/
def NewSB (l : List ByteArray) (b : Bool) (w : World) (e : Ending) (w' : World) : Prop := ∃ v, e = .returned (.tuple #[v, .bool b]) ∧ OwnS w' w.heap.size v l ∧ Below w.heap.size w w'
theorem newSB_of {l l' : List ByteArray} {b b' : Bool} {w w' : World} {e : Ending} (h : l = l') (h' : b = b') (hx : NewSB l' b' w e w') : NewSB l b w e w' := by rw [h, h']; exact hx
theorem parts_root : partsB ⟨#[47]⟩ = [] ∧ isPath ⟨#[47]⟩ = true := ⟨rfl, rfl⟩
theorem parts_yes {s : ByteArray} (h : s ≠ ⟨#[47]⟩) (h0 : 0 < s.size) (h1 : pathB (splitB s) = s) : partsB s = splitB s ∧ isPath s = true := by
  have : isPath s = true := by unfold isPath; simp [h, h0, h1]
  unfold partsB; rw [if_neg h, if_pos this]; exact ⟨rfl, this⟩
theorem parts_no {s : ByteArray} (h : s ≠ ⟨#[47]⟩) (h1 : s.size = 0 ∨ pathB (splitB s) ≠ s) : partsB s = [] ∧ isPath s = false := by
  have : isPath s = false := by unfold isPath; simp [h]; intro h0; rcases h1 with h1 | h1; omega; exact h1
  unfold partsB; rw [if_neg h, if_neg (by rw [this]; simp)]; exact ⟨rfl, this⟩
theorem nthS_set_size {l : List ByteArray} {q : ByteArray} {k i : Nat} (h : ∀ j, (nthS l j).size ≤ k) (hq : q.size ≤ k + 1) (j : Nat) : (nthS (l.set i q) j).size ≤ k + 1 := by
  have := h j
  unfold nthS at this ⊢
  rw [List.getD_eq_getElem?_getD] at this ⊢
  rw [List.getElem?_set]
  split
  · split
    · exact hq
    · simp
  · omega
theorem nthS_snoc_size {l : List ByteArray} {q : ByteArray} {k : Nat} (h : ∀ j, (nthS l j).size ≤ k) (hq : q.size ≤ k + 1) (j : Nat) : (nthS (l ++ [q]) j).size ≤ k + 1 := by
  by_cases hj : j < l.length
  · have := h j
    unfold nthS at this ⊢
    rw [List.getD_eq_getElem?_getD, List.getElem?_append_left hj, ← List.getD_eq_getElem?_getD]
    omega
  · unfold nthS
    rw [List.getD_eq_getElem?_getD, List.getElem?_append_right (by omega)]
    cases hk : j - l.length with
    | zero => exact hq
    | succ k => simp
set_option maxHeartbeats 1000000 in
theorem specPathParts_any (s : ByteArray) (w : World) (hs : s.size ≤ 1048576) : Calls Try.prog 73 #[.string s] w (NewSB (partsB s) (isPath s) w) := by
  have HN := Lib.hid (OwnL.new strG 9 (size := 1) w)
  have HB := Lib.hid ((Below.refl w.heap.size w).alloc (Nat.le_refl _) (.cells #[] 9))
  by_cases hr : s = ⟨#[47]⟩
  · have HF := Lib.hid parts_root
    subst hr
    go_enter Try.func73, Try.ntmps73
    go_wp2
    go_ret2
    exact newSB_of HF.out.1 HF.out.2 ⟨_, rfl, HN.out, HB.out⟩
  have hd : (s.toList == [47]) = false := by
    rw [ByteArray.toList_eq]
    simp only [beq_eq_false_iff_ne, ne_eq]
    intro e; exact hr (by cases s; congr 1; exact Array.toList_inj.1 e)
  have HRR := Lib.hid hr
  clear hr
  go_enter Try.func73, Try.ntmps73
  go_wp2_with fail
  go_loopw [4, 5] (fun v i wr => ∃ (k : Nat) (out : List ByteArray), k ≤ s.size ∧ i = .int .i64 k ∧ splitB s = splitGo out (s.data.toList.drop k) ∧ out.length ≤ k ∧ (∀ j, (nthS out j).size ≤ k) ∧ OwnS wr w.heap.size v out ∧ Below w.heap.size w wr) (fun _ i _ => s.size - (intOf i).toNat)
  case atStart => exact ⟨0, [], by omega, rfl, rfl, by simp, fun j => by simp [nthS], HN.out, HB.out⟩
  case round =>
    obtain ⟨k, out, hk, rfl, hg, hl, hz, ho, hb⟩ := hrel
    have HG := Lib.hid hg; have HZ := Lib.hid hz; have HO := Lib.hid ho; have HBW := Lib.hid hb
    clear hg hz ho hb
    have hwr := HBW.out.size
    by_cases hlt : k < s.size
    · by_cases hc : ((s[k]).toNat : Int) = 47
      · have HS := Lib.hid (HG.out.trans (splitGo_slash hlt hc out))
        have hdc : (((s[k]).toNat : Int) == 47) = true := by simpa using hc
        clear hc
        go_wp2_with (first
          | (at_builtin; refine wpList_app1L eltStr encStr ByteArray.empty _ rfl HO.out (by omega) hwr rfl _ _ rfl rfl rfl ?_; intro v' w' hown hgrow; have HW := Lib.hid hown; have HGR := Lib.hid hgrow; clear hown hgrow))
        go_roundw
        case rel => exact ⟨k + 1, _, by omega, by go_num, HS.out, by simp; omega, fun j => nthS_snoc_size HZ.out (by simp) j, HW.out, HBW.out.grown HGR.out hwr HO.out.at⟩
        case measure => simp [intOf]; omega
      · have hdc : (((s[k]).toNat : Int) == 47) = false := by simpa using hc
        by_cases h0 : out = []
        · subst h0
          have HS := Lib.hid (HG.out.trans (splitGo_skip hlt hc))
          clear hc
          obtain ⟨x, n, c, e, hlst⟩ := HO.out.lst
          subst e
          have hn0 : n = 0 := by have := hlst.len; simp at this; omega
          subst hn0
          clear hlst
          go_wp2_with fail
          go_roundw
          case rel => exact ⟨k + 1, _, by omega, by go_num, HS.out, by simp, fun j => by have := HZ.out j; omega, HO.out, HBW.out⟩
          case measure => simp [intOf]; omega
        · have hpos : 0 < out.length := List.length_pos_iff.2 h0
          have HS := Lib.hid (HG.out.trans (splitGo_add hlt hc h0))
          clear hc h0
          obtain ⟨g, c, rfl, hgb, hgl⟩ := World.ownsRow.form HO.out hpos
          have hcl := (HO.out.lst').atS (k := out.length - 1) (by omega)
          obtain ⟨b1, o1, e1, _, hcell⟩ := hcl
          simp only [Option.some.injEq, Addr.mk.injEq, and_true] at e1
          obtain ⟨rfl, rfl⟩ := e1
          rw [Nat.zero_add] at hcell
          have hfro := HO.out.frozenAt (out.length - 1)
          have HST := Lib.hid (HO.out.stored (out.length - 1) (.string (nthS out (out.length - 1) ++ s.extract k (k + 1))))
          have hsz1 := HZ.out (out.length - 1)
          have hsx : (s.extract k (k + 1)).size = 1 := by rw [ByteArray.size_extract]; omega
          have hlz : out.length ≤ s.size := by omega
          obtain ⟨L, hL⟩ : ∃ L, out.length = L := ⟨_, rfl⟩
          have HLL := Lib.hid hL
          rw [hL] at hcell hfro HST hsz1 HS hpos hl hlz
          rw [hL] at HO
          rw [hL]
          obtain ⟨q, hq⟩ : ∃ q, q = nthS out (L - 1) := ⟨_, rfl⟩
          have HQQ := Lib.hid hq
          rw [← hq] at hcell HST hsz1 HS
          clear hq hL
          have hw1 : IntKind.i64.wrap ((L : Int) - 1) = (L : Int) - 1 := by rw [IntKind.wrap_i64]; omega
          have ht1 : ((L : Int) - 1).toNat = L - 1 := by omega
          have hi1 : 1 ≤ L := hpos
          have hi0 : (0 : Int) ≤ (L : Int) - 1 := by omega
          have hi2 : (L : Int) - 1 < (L : Int) := by omega
          have hk1 : (k : Int) + 1 ≤ (s.size : Int) := by omega
          have hk2 : (k : Int) ≤ (k : Int) + 1 := by omega
          go_wp2_with fail
          go_region
          all_goals
            go_wp2
            go_roundw
            case rel =>
              refine ⟨k + 1, _, by omega, by go_num, HS.out, by rw [List.length_set, HLL.out]; omega, fun j => nthS_set_size HZ.out (by rw [ByteArray.size_append, hsx]; omega) j, ?_, ?_⟩
              · have h1 := HST.out.1
                show World.ownsRow _ _ _ _ _ _ _
                rw [List.length_set, HLL.out, strG_map, List.map_set, ← strG_map]
                exact h1
              · exact (HBW.out.setCell (p := ⟨g, L - 1, none⟩) hgb _).drew
            case measure => simp [intOf]; omega
    · have hkz : s.data.toList.drop k = [] := List.drop_of_length_le (by rw [len_eq]; omega)
      have HSP := Lib.hid (show splitB s = out by rw [HG.out, hkz]; rfl)
      obtain ⟨x, n, c, rfl, hlo⟩ := HO.out.lst
      have HLO := Lib.hid hlo
      clear hlo hkz
      have hzm : ∀ j, (nthS out j).size ≤ maxLen := fun j => by have := HZ.out j; unfold maxLen; omega
      by_cases h0 : s.size = 0
      · have HF := Lib.hid (parts_no HRR.out (.inl h0))
        have he : s.toList.isEmpty = true := by rw [ByteArray.toList_eq, List.isEmpty_iff, ← List.length_eq_zero_iff, len_eq]; exact h0
        clear h0
        go_wp2_with fail
        go_ret2
        exact newSB_of HF.out.1 HF.out.2 ⟨_, rfl, OwnL.newAt _ _ rfl hwr, HBW.out.alloc hwr _⟩
      · have he : s.toList.isEmpty = false := by rw [ByteArray.toList_eq, List.isEmpty_eq_false_iff, ← List.length_pos_iff, len_eq]; omega
        by_cases hp : pathB out = s
        · have HF := Lib.hid (parts_yes HRR.out (by omega) (by rw [HSP.out]; exact hp))
          have hdp : ((pathB out).toList == s.toList) = true := by rw [hp]; simp
          clear hp h0
          go_wp2_with (go_at_call 81; refine (specJoinPath_any _ _ _ _ _ _ HLO.out hzm).mono ?_; rintro e w2 ⟨rfl, rfl⟩)
          go_ret2
          exact newSB_of (HF.out.1.trans HSP.out) HF.out.2 ⟨_, rfl, HO.out, HBW.out⟩
        · have HF := Lib.hid (parts_no HRR.out (.inr (by rw [HSP.out]; exact hp)))
          have hdp : ((pathB out).toList == s.toList) = false := by rw [str_beq]; simpa using hp
          clear hp h0
          go_wp2_with (go_at_call 81; refine (specJoinPath_any _ _ _ _ _ _ HLO.out hzm).mono ?_; rintro e w2 ⟨rfl, rfl⟩)
          go_ret2
          exact newSB_of HF.out.1 HF.out.2 ⟨_, rfl, OwnL.newAt _ _ rfl hwr, HBW.out.alloc hwr _⟩
end Go.Proofs.Ytlbebbkkpjgboaa
