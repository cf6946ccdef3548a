/-
  Chapter 11's model: TotalSize, FilesNamed, SameFiles.
-/
import Derived.Test.YtbbjpihlielpgaaGreatDoorMath11
namespace Go.Proofs.YtbbjpihlielpgaaGreatDoor
open Go.RowKit
set_option linter.unusedVariables false
/-! ### files with a name -/
def lastIs (s word : ByteArray) : Bool := decide (0 < (partsB s).length) && decide (nthS (partsB s) ((partsB s).length - 1) = word)
def namedB (l : List Pc) (root : Int) (word : ByteArray) : List ByteArray := (allB l root).filter fun s => lastIs s word
theorem named_yes {xs : List ByteArray} {word : ByteArray} {k : Nat} (h : k < xs.length) (hl : lastIs (nthS xs k) word = true) : (xs.take (k + 1)).filter (fun s => lastIs s word) = (xs.take k).filter (fun s => lastIs s word) ++ [nthS xs k] := by
  rw [take_snocS h, List.filter_append, List.filter_cons, if_pos hl]; rfl
theorem named_no {xs : List ByteArray} {word : ByteArray} {k : Nat} (h : k < xs.length) (hl : lastIs (nthS xs k) word = false) : (xs.take (k + 1)).filter (fun s => lastIs s word) = (xs.take k).filter (fun s => lastIs s word) := by
  rw [take_snocS h, List.filter_append, List.filter_cons, if_neg (by rw [hl]; simp)]; simp
theorem apart_rows {v u : Value} {a b : Nat} (h1 : ∀ k, v.ownBlock = some k → a < k ∧ k < b) (h2 : ∀ k, u.ownBlock = some k → k = a ∨ b ≤ k) : v.ownBlock = none ∨ v.ownBlock ≠ u.ownBlock := by
  cases hv : v.ownBlock with
  | none => exact .inl rfl
  | some k => right; intro e; have := h1 k hv; have := h2 k e.symm; omega
theorem all_mil {l : List Pc} {root : Int} : ∀ k, (nthS (allB l root) k).size ≤ 1048576 := fun k => nthS_all (fun q hq => Nat.le_trans (all_small q hq) (by decide)) k
set_option maxHeartbeats 1000000 in
set_option maxRecDepth 100000 in
theorem specFilesNamed_any (x : Option Addr) (n cap : Nat) (l : List Pc) (root : Int) (word : ByteArray) (B : Nat) (w : World) (h : Pcs w B x n cap l) (hB : B ≤ w.heap.size) (hz : ∀ k, (nthP l k).2.size ≤ 1048576) (hs : word.size ≤ 1048576) :
    Calls Tryz.prog 41 #[.slice x n cap, .int .i64 root, .string word] w (NewS (namedB l root word) w) := by
  have HO0 := Lib.hid (OwnL.new strG 9 (size := 1) w)
  have HB0 := Lib.hid ((Below.refl w.heap.size w).alloc (Nat.le_refl _) (.cells #[] 9))
  have HL0 := Lib.hid (h.below ((Below.refl w.heap.size w).alloc (Nat.le_refl _) (.cells #[] 9)) hB)
  have HZ := Lib.hid hz
  clear h hz
  go_enter Tryz.func41, Tryz.ntmps41
  go_wp2_with fail
  refine (specAllFiles_any x n cap l root B _ HL0.out (by simp; omega) HZ.out).mono ?_
  rintro e w1 ⟨v1, rfl, ho, hb⟩
  obtain ⟨y, m, d, rfl, hi⟩ := ho.lst
  have HB1 := Lib.hid (HB0.out.trans (hb.mono HB0.out.size)); have HO1 := Lib.hid (HO0.out.below hb); have HX := Lib.hid (ho.mono (show w.heap.size + 1 ≤ _ by simp)); have HLEN := Lib.hid hi.len
  have HAP := Lib.hid (show ∀ k, (Value.slice y m d).ownBlock = some k → w.heap.size < k ∧ k < w1.heap.size from fun k hk => ⟨by have := ho.at k hk; simp at this; omega, OwnL.ltSize ho hk⟩)
  have hm27 : m ≤ 27 := by have := all_many (l := l) (root := root); have := hi.len; omega
  have hw1 := HB1.out.size
  clear hb ho hi HB0 HO0 HL0 HZ
  have HM := Lib.hid (all_mil (l := l) (root := root))
  have HEND := Lib.hid (show namedB l root word = ((allB l root).take m).filter (fun s => lastIs s word) by unfold namedB; rw [List.take_of_length_le (by have := HLEN.out; omega)])
  obtain ⟨xs, hxs⟩ : ∃ xs, allB l root = xs := ⟨_, rfl⟩
  rw [hxs] at HX HLEN HM HEND
  clear hxs
  go_wp2_with fail
  go_loopw [7, 9] (fun v i wr => ∃ k : Nat, k ≤ m ∧ i = .int .i64 k ∧ OwnS wr w.heap.size v ((xs.take k).filter (fun s => lastIs s word)) ∧ Below w.heap.size w wr ∧ OwnS wr (w.heap.size + 1) (.slice y m d) xs ∧ w1.heap.size ≤ wr.heap.size ∧ ∀ b, v.ownBlock = some b → b = w.heap.size ∨ w1.heap.size ≤ b) (fun _ i _ => m - (intOf i).toNat)
  case atStart => exact ⟨0, by omega, rfl, HO1.out, HB1.out, HX.out, Nat.le_refl _, fun b e => .inl (by simp [Value.ownBlock] at e; exact e.symm)⟩
  case round =>
    obtain ⟨k, hk, rfl, ho, hb, hx, h1, ha⟩ := hrel
    have HO := Lib.hid ho; have HB := Lib.hid hb; have HXW := Lib.hid hx; have HA := Lib.hid ha
    have hsz := hb.size
    clear ho hb hx ha
    by_cases hlt : k < m
    · have hkl : k < xs.length := by have := HLEN.out; omega
      obtain ⟨b, off, rfl, hb, hc⟩ := HXW.out.lst'.atS hlt
      have hzk := HM.out k
      have HY := Lib.hid (named_yes (word := word) hkl); have HN := Lib.hid (named_no (word := word) hkl)
      have hlk : ((xs.take k).filter (fun s => lastIs s word)).length ≤ 2000000 := Nat.le_trans (List.length_filter_le _ _) (by rw [List.length_take]; omega)
      obtain ⟨s, hs⟩ : ∃ s, s = nthS xs k := ⟨_, rfl⟩
      rw [← hs] at hc hzk HY HN
      have HS := Lib.hid hs
      clear hs
      go_wp2_with fail
      refine (specPathParts_any s _ hzk).mono ?_
      rintro e w3 ⟨v3, rfl, ho, hb3⟩
      obtain ⟨y3, m3, d3, rfl, hi3⟩ := ho.lst
      have HP := Lib.hid hi3; have HB3 := Lib.hid (HB.out.trans (hb3.mono hsz)); have HO3 := Lib.hid (HO.out.below hb3); have HX3 := Lib.hid (HXW.out.below hb3)
      have h13 : w1.heap.size ≤ w3.heap.size := Nat.le_trans h1 hb3.size
      have hl3 := hi3.len
      have hle3 := hi3.le
      have hc3 := HX3.out.lst'.atS hlt
      clear ho hb3 hi3
      obtain ⟨b', off', e', _, hc'⟩ := hc3
      simp only [Option.some.injEq, Addr.mk.injEq, and_true] at e'
      obtain ⟨rfl, rfl⟩ := e'
      rw [← HS.out] at hc'
      go_upto_region 7 with fail
      go_cut [42] from 30 to 42 (fun s42 wx => s42 = .bool (lastIs s word) ∧ w3 = wx)
      case first =>
        by_cases h0 : m3 = 0
        · have HT := Lib.hid (show lastIs s word = false by unfold lastIs; rw [decide_eq_false (by omega)]; rfl)
          subst h0
          go_wp2_with fail
          go_meet
          case rel => exact ⟨by rw [HT.out], rfl⟩
        · obtain ⟨i, hi⟩ : ∃ i, m3 = i + 1 := ⟨m3 - 1, by omega⟩
          have h3 : m3 ≤ 3 := by have := (parts_small (s := s)).1; omega
          obtain ⟨b3, o3, rfl, _, hc3⟩ := HP.out.atS (show i < m3 by omega)
          have HT := Lib.hid (show lastIs s word = (decide (nthS (partsB s) i = word)) by unfold lastIs; rw [decide_eq_true (by omega), hl3, hi, Nat.add_sub_cancel]; rfl)
          have hi0 : (0 : Int) < (m3 : Int) := by omega
          have hw9 : IntKind.i64.wrap ((m3 : Int) - 1) = (i : Int) := by rw [IntKind.wrap_i64]; omega
          have him : (i : Int) < (m3 : Int) := by omega
          have him2 : i < m3 := by omega
          have HI := Lib.hid hi
          clear hi h0
          cases hm : ((nthS (partsB s) i).toList == word.toList)
          · have HT2 := Lib.hid (show lastIs s word = false by rw [HT.out, ← str_beq, hm])
            go_wp2_with fail
            go_meet
            case rel => exact ⟨by rw [HT2.out], rfl⟩
          · have HT2 := Lib.hid (show lastIs s word = true by rw [HT.out, ← str_beq, hm])
            go_wp2_with fail
            go_meet
            case rel => exact ⟨by rw [HT2.out], rfl⟩
      case rest =>
        obtain ⟨rfl, rfl⟩ := hcut
        cases hT : lastIs s word
        · have HE := Lib.hid (HN.out hT)
          clear HY HN hT
          go_wp2_with fail
          go_roundw
          case rel => exact ⟨k + 1, by omega, by go_num, by rw [HE.out]; exact HO3.out, HB3.out, HX3.out, h13, HA.out⟩
          case measure => simp [intOf]; omega
        · have HE := Lib.hid (HY.out hT)
          clear HY HN hT
          have HOA := Lib.hid (HO3.out.alloc (.cells #[.string s] 9)); have HXA := Lib.hid (HX3.out.alloc (.cells #[.string s] 9))
          have hB3 := HB3.out.size
          have HONE := Lib.hid (one_str (w := w3.alloc (.cells #[.string s] 9)) (cell_new w3 _ _ 0 _ rfl) (by simp))
          go_wp2_with (at_builtin; refine wpList_appL eltStr encStr HOA.out HONE.out hlk (by omega) (by simp; omega) rfl _ _ rfl rfl rfl ?_; intro v' w' hown hgrow hat; have HW := Lib.hid hown; have HGR := Lib.hid hgrow; have HAT := Lib.hid hat; have HXN := Lib.hid (World.ownsRow.kept HXA.out hgrow (apart_rows HAP.out HA.out)); clear hown hgrow hat)
          go_roundw
          case rel => exact ⟨k + 1, by omega, by go_num, by rw [HE.out]; exact HW.out, (HB3.out.alloc hB3 _).grown HGR.out (by simp; omega) HO3.out.at, HXN.out, by have := HGR.out.size; simp at this; omega, fun b e => by rcases HAT.out with e2 | e2; exact HA.out b (e2.symm.trans e); right; rw [e2] at e; simp at e; omega⟩
          case measure => simp [intOf]; omega
    · obtain rfl : k = m := by omega
      go_wp2_with fail
      go_ret
      exact ⟨_, rfl, by rw [HEND.out]; exact HO.out, HB.out⟩
/-! ### how large all files are -/
/-! ### the same files -/
end Go.Proofs.YtbbjpihlielpgaaGreatDoor
