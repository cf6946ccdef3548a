/-
  Chapter 6's model: an entry is dropped.
-/
import Derived.Test.YtlbebbkkpjgboaaFolders2
namespace Go.Proofs.Ytlbebbkkpjgboaa
open Go.RowKit
set_option linter.unusedVariables false
def otherE (nm : ByteArray) (p : Ent) : Bool := !(p.1.toList == nm.toList)
/-- The entries without a name. -/
def lessE (l : List Ent) (nm : ByteArray) : List Ent := l.filter (otherE nm)
def dropE (l : List Ent) (nm : ByteArray) : List Ent × Bool := if entsB l = true then (lessE l nm, decide ((lessE l nm).length < l.length)) else ([], false)
theorem dropE_bad {l : List Ent} {nm : ByteArray} (h : entsB l = false) : dropE l nm = ([], false) := by unfold dropE; rw [if_neg (by rw [h]; simp)]
theorem dropE_ok {l : List Ent} {nm : ByteArray} (h : entsB l = true) : dropE l nm = (lessE l nm, decide ((lessE l nm).length < l.length)) := by unfold dropE; rw [if_pos h]
theorem lessE_yes {l : List Ent} {nm : ByteArray} {k : Nat} (h : k < l.length) (hn : ((nthE l k).1.toList == nm.toList) = false) : lessE (l.take (k + 1)) nm = lessE (l.take k) nm ++ [nthE l k] := by
  unfold lessE; rw [take_snocE h, List.filter_append]
  have : otherE nm (nthE l k) = true := by unfold otherE; rw [hn]; rfl
  simp [this]
theorem lessE_no {l : List Ent} {nm : ByteArray} {k : Nat} (h : k < l.length) (hn : ((nthE l k).1.toList == nm.toList) = true) : lessE (l.take (k + 1)) nm = lessE (l.take k) nm := by
  unfold lessE; rw [take_snocE h, List.filter_append]
  have : otherE nm (nthE l k) = false := by unfold otherE; rw [hn]; rfl
  simp [this]
theorem lessE_len (l : List Ent) (nm : ByteArray) : (lessE l nm).length ≤ l.length := List.length_filter_le _ _
set_option maxHeartbeats 1000000 in
theorem specDropEntry_any (x : Option Addr) (n cap : Nat) (l : List Ent) (nm : ByteArray) (B : Nat) (w : World) (h : Ents w B x n cap l) (hB : B ≤ w.heap.size) (hz : ∀ k, (nthE l k).1.size ≤ maxLen) (hp : nm.size ≤ maxLen) :
    Calls Try.prog 83 #[.slice x n cap, .string nm] w (NewEB (dropE l nm).1 (dropE l nm).2 w) := by
  have HL := Lib.hid h.len
  have hle := h.le
  have hmx := h.max
  unfold maxLen at hmx
  have HH := Lib.hid h
  have HZ := Lib.hid hz
  have HN := Lib.hid (OwnL.new enG 84 (size := 2) w)
  have HB0 := Lib.hid ((Below.refl w.heap.size w).alloc (Nat.le_refl _) (.cells #[] 84))
  clear h hz
  cases hv : entsB l
  · have HF := Lib.hid (dropE_bad (nm := nm) hv)
    go_enter Try.func83, Try.ntmps83
    go_wp2_with fail
    go_loopw [6, 7] (fun v i wr => i = .int .i64 0 ∧ OwnE wr w.heap.size v [] ∧ Below w.heap.size w wr) (fun _ i _ => (intOf i).toNat)
    case atStart => exact ⟨rfl, HN.out, HB0.out⟩
    case round =>
      obtain ⟨rfl, ho, hb⟩ := hrel
      have HO := Lib.hid ho; have HBW := Lib.hid hb
      clear ho hb
      by_cases hn0 : 0 < n
      · go_wp2_with (first | (go_at_call 71; ((with_reducible refine (specEntriesValid_any x n cap l B wr (HH.out.below HBW.out hB) HZ.out).mono ?_); rintro e w2 ⟨rfl, hq⟩; rw [hv]; have HQ := Lib.hid hq; have HB2 := Lib.hid (below_quiet HBW.out hq); clear hq)) | (go_at_call 71; ((with_reducible refine (specEntriesValid_any x n cap l B w2 (HH.out.below HB2.out hB) HZ.out).mono ?_); rintro e w3 ⟨rfl, hq⟩; rw [hv]; have HQ3 := Lib.hid hq; have HB3 := Lib.hid (below_quiet HB2.out hq); clear hq)))
        go_ret2
        exact newEB_of (by rw [HF.out]; exact ⟨rfl, rfl⟩) ⟨_, rfl, (HO.out.quiet HQ.out).quiet HQ3.out, HB3.out⟩
      · have hd : ¬ ((0 : Int) < (n : Int)) := by omega
        clear hn0
        go_wp2_with (first | (go_at_call 71; ((with_reducible refine (specEntriesValid_any x n cap l B wr (HH.out.below HBW.out hB) HZ.out).mono ?_); rintro e w2 ⟨rfl, hq⟩; rw [hv]; have HQ := Lib.hid hq; have HB2 := Lib.hid (below_quiet HBW.out hq); clear hq)))
        go_ret2
        exact newEB_of (by rw [HF.out]; exact ⟨rfl, rfl⟩) ⟨_, rfl, HO.out.quiet HQ.out, HB2.out⟩
  · have HF := Lib.hid (dropE_ok (nm := nm) hv)
    have hn3 : n ≤ 3 := by have := (entsB_at hv).1; have := HL.out; omega
    go_enter Try.func83, Try.ntmps83
    go_wp2_with fail
    go_loopw [6, 7] (fun v i wr => ∃ k : Nat, k ≤ n ∧ i = .int .i64 k ∧ OwnE wr w.heap.size v (lessE (l.take k) nm) ∧ Below w.heap.size w wr) (fun _ i _ => n - (intOf i).toNat)
    case atStart => exact ⟨0, by omega, rfl, HN.out, HB0.out⟩
    case round =>
      obtain ⟨k, hk, rfl, ho, hb⟩ := hrel
      have HO := Lib.hid ho; have HBW := Lib.hid hb
      clear ho hb
      have hwr := HBW.out.size
      have hll : (lessE (l.take k) nm).length ≤ 2000000 := by have := lessE_len (l.take k) nm; rw [List.length_take] at this; omega
      by_cases hlt : k < n
      · have hkl : k < l.length := by have := HL.out; omega
        have hq0 := HH.out.below HBW.out hB
        cases hm : ((nthE l k).1.toList == nm.toList)
        · have HST := Lib.hid (lessE_yes hkl hm)
          go_wp2_with (first
            | (go_at_call 71; refine (specEntriesValid_any x n cap l B _ hq0 HZ.out).mono ?_; rintro e w2 ⟨rfl, hq⟩; rw [hv]; obtain ⟨b, off, rfl, hbb, hc0, hc1⟩ := (HH.out.below (below_quiet HBW.out hq) hB).atE hlt; have HQ := Lib.hid hq; have HB2 := Lib.hid (below_quiet HBW.out hq); have HO2 := Lib.hid (HO.out.quiet hq); have hw2 : w.heap.size ≤ w2.heap.size := HB2.out.size; clear hq)
            | (at_builtin; refine wpList_app1L eltEn encEn (nthE l k) _ rfl HO2.out hll hw2 rfl _ _ rfl rfl rfl ?_; intro v' w' hown hgrow; have HW := Lib.hid hown; have HG := Lib.hid hgrow; clear hown hgrow))
          go_roundw
          case rel => exact ⟨k + 1, by omega, by go_num, by rw [HST.out]; exact HW.out, HB2.out.grown HG.out hw2 HO2.out.at⟩
          case measure => simp [intOf]; omega
        · have HST := Lib.hid (lessE_no hkl hm)
          go_wp2_with (first
            | (go_at_call 71; refine (specEntriesValid_any x n cap l B _ hq0 HZ.out).mono ?_; rintro e w2 ⟨rfl, hq⟩; rw [hv]; obtain ⟨b, off, rfl, hbb, hc0, hc1⟩ := (HH.out.below (below_quiet HBW.out hq) hB).atE hlt; have HQ := Lib.hid hq; have HB2 := Lib.hid (below_quiet HBW.out hq); have HO2 := Lib.hid (HO.out.quiet hq); clear hq))
          go_roundw
          case rel => exact ⟨k + 1, by omega, by go_num, by rw [HST.out]; exact HO2.out, HB2.out⟩
          case measure => simp [intOf]; omega
      · have HX := Lib.hid (show l.take k = l from List.take_of_length_le (by have := HL.out; omega))
        obtain ⟨xo, no, co, rfl, hlo⟩ := HO.out.lst
        have HLO := Lib.hid (show (lessE l nm).length = no by have := hlo.len; rw [HX.out] at this; exact this)
        clear hlo
        go_wp2_with (first | (go_at_call 71; ((with_reducible refine (specEntriesValid_any x n cap l B wr (HH.out.below HBW.out hB) HZ.out).mono ?_); rintro e w2 ⟨rfl, hq⟩; rw [hv]; have HQ := Lib.hid hq; have HB2 := Lib.hid (below_quiet HBW.out hq); clear hq)))
        go_ret2
        exact newEB_of (by rw [HF.out]; exact ⟨rfl, show decide _ = _ by rw [HLO.out, HL.out]⟩) ⟨_, rfl, by rw [← HX.out]; exact HO.out.quiet HQ.out, HB2.out⟩
end Go.Proofs.Ytlbebbkkpjgboaa
