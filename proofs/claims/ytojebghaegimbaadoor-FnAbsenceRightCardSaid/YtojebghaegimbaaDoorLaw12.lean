/-
  The walks of chapter 12's laws: proofs of what is there and of what is not.
-/
import Derived.Test.YtojebghaegimbaaDoorDraw16
import Derived.Test.YtojebghaegimbaaDoorImpl12
import Derived.Test.YtojebghaegimbaaDoorModel12b
import Derived.BigFrame
import Derived.Deep.RegionLaw
namespace Go.Proofs.YtojebghaegimbaaDoor
open Go.RowKit
set_option linter.unusedVariables false
/-- append behind '&&': a step that stands under a condition. -/
theorem wpList_appLW12 {ops : Array Oper} {o : Oper} {rest : List Oper} {a : Act} {Q : Exit → Act → World → Prop} {t e : TypeId} {size : Nat} {z : Value} {w : World} {α : Type} {g : α → List Value} (T : Elt t e size z) (E : Enc g size) {base m c B : Nat} {v : Value} {x : Option Addr} {l l' : List α} (hown : OwnL g e size w base v l) (hr : Lst g w B x m c l') (hn : l.length ≤ 2000000) (hm : m ≤ 2000000) (hbase : base ≤ w.heap.size)
    (hw : Region.wanted o (yielded ops a.tmps) = true) (s y : Operand) (ho : o.op = .call { callee := .builtin .append, args := #[s, y], argTypes := #[t, t] }) (hs : a.eval s = v) (hy : a.eval y = .slice x m c)
    (h : ∀ v' w', OwnL g e size w' base v' (l ++ l') → w.grownBy w' v.ownBlock → (v'.ownBlock = v.ownBlock ∨ v'.ownBlock = some w.heap.size) → wpList Tryd.prog ops Q rest (a.put o.dst v') w') : wpList Tryd.prog ops Q (o :: rest) a w :=
  Go.BigFrame.wpList_want hw fun _ hK => wp_appL T E hown hr hn hm hbase s y ho hs hy fun v' w' h1 h2 h3 => hK _ _ (h v' w' h1 h2 h3)
set_option maxHeartbeats 1000000 in
set_option maxRecDepth 100000 in
theorem fnAbsenceRight_any (x : Option Addr) (n cap : Nat) (w : World) (h : Bytes w.heap.size w x n) (hn : n ≤ cap) (hc : cap ≤ maxLen) :
    Calls Tryd.prog 4 #[.slice x n cap] w fun e w' => e = .returned (.bool true) ∧ Below w.heap.size w w' := by
  by_cases hlong : 1048576 < (n : Int)
  · go_enter Tryd.func4, Tryd.ntmps4
    go_wp2
    go_ret
    exact ⟨rfl, Below.refl _ _⟩
  · have HB0 := Lib.hid h
    have HC := Lib.hid hc
    have HLE := Lib.hid hn
    clear h hc hn
    go_enter Tryd.func4, Tryd.ntmps4
    go_wp2_with fail
    refine (drawAbsenceRight_any x n cap w HB0.out HLE.out HC.out).mono ?_
    rintro e w1 ⟨p, path, y, m, c, L, rfl, hl10, hz, hps, hl, hb⟩
    have HB := Lib.hid hb; have HL := Lib.hid hl; have HZ := Lib.hid (fun k => Nat.le_trans (hz k) (show 61 ≤ 1048576 by decide))
    have HAF := Lib.hid (abs_facts (root := p) (path := path) (L := L))
    clear hb hl hz
    go_wp2_with fail
    refine (implAbsenceRight_any p path _ _ _ L _ _ HL.out (Nat.le_refl _) (by omega) HZ.out).mono ?_
    rintro e w2 ⟨rfl, hb⟩
    have HB2 := Lib.hid (HB.out.trans (hb.mono HB.out.size)); have HL2 := Lib.hid ((HL.out.below hb (Nat.le_refl _)).more hb.size)
    clear hb
    cases hg : ppAbs p path L
    · go_wp2_with (first
        | (go_at_call 16; refine (specAbsenceRight_any p path _ _ _ L _ _ HL2.out (Nat.le_refl _) (by omega) HZ.out).mono ?_; rintro e w3 ⟨rfl, hb⟩; rw [hg]; have HB3 := Lib.hid (HB2.out.trans (hb.mono HB2.out.size)); clear hb)
        | (go_at_call 13; refine (alive_any _).mono ?_; rintro e w' ⟨rfl, rfl⟩))
      go_ret
      exact ⟨ret_bool (by simp), HB3.out⟩
    · obtain ⟨h1, h2, h3, h4⟩ := HAF.out hg
      have hw : IntKind.i64.wrap (p + 1) = p + 1 := by rw [IntKind.wrap_i64]; omega
      clear h3 h4
      go_wp2_with (first
        | (go_at_call 16; refine (specAbsenceRight_any p path _ _ _ L _ _ HL2.out (Nat.le_refl _) (by omega) HZ.out).mono ?_; rintro e w3 ⟨rfl, hb⟩; rw [hg]; have HB3 := Lib.hid (HB2.out.trans (hb.mono HB2.out.size)); have HL3 := Lib.hid ((HL2.out.below hb (Nat.le_refl _)).more hb.size); clear hb)
        | (go_at_call 11; refine (implProofRight_any p path _ _ _ L _ _ HL3.out (Nat.le_refl _) (by omega) HZ.out).mono ?_; rintro e w4 ⟨rfl, hb⟩; rw [h1]; have HB4 := Lib.hid (HB3.out.trans (hb.mono HB3.out.size)); have HL4 := Lib.hid ((HL3.out.below hb (Nat.le_refl _)).more hb.size); clear hb)
        | (go_at_call 14; refine (implAbsenceRight_any (p + 1) path _ _ _ L _ _ HL4.out (Nat.le_refl _) (by omega) HZ.out).mono ?_; rintro e w5 ⟨rfl, hb⟩; rw [h2]; have HB5 := Lib.hid (HB4.out.trans (hb.mono HB4.out.size)); clear hb)
        | (go_at_call 13; refine (alive_any _).mono ?_; rintro e w' ⟨rfl, rfl⟩))
      go_ret
      exact ⟨ret_bool (by simp), HB5.out⟩
set_option maxHeartbeats 1000000 in
set_option maxRecDepth 100000 in
theorem fnProofRight_any (x : Option Addr) (n cap : Nat) (w : World) (h : Bytes w.heap.size w x n) (hn : n ≤ cap) (hc : cap ≤ maxLen) :
    Calls Tryd.prog 3 #[.slice x n cap] w fun e w' => e = .returned (.bool true) ∧ Below w.heap.size w w' := by
  by_cases hlong : 1048576 < (n : Int)
  · go_enter Tryd.func3, Tryd.ntmps3
    go_wp2
    go_ret
    exact ⟨rfl, Below.refl _ _⟩
  · have HB0 := Lib.hid h
    have HC := Lib.hid hc
    have HLE := Lib.hid hn
    clear h hc hn
    go_enter Tryd.func3, Tryd.ntmps3
    go_wp2_with fail
    refine (drawProofRight_any x n cap w HB0.out HLE.out HC.out).mono ?_
    rintro e w1 ⟨p, path, y, m, c, L, rfl, hl10, hz, hps, hl, hb⟩
    have HB := Lib.hid hb; have HL := Lib.hid hl; have HZ := Lib.hid (fun k => Nat.le_trans (hz k) (show 61 ≤ 1048576 by decide))
    have HRF := Lib.hid (right_facts (root := p) (path := path) (L := L))
    have HZ2 := Lib.hid (snoc_mil (x := ⟨#[100]⟩) HZ.out (by decide))
    have HLEN := Lib.hid hl.len
    clear hb hl hz
    go_wp2_with fail
    refine (implProofRight_any p path _ _ _ L _ _ HL.out (Nat.le_refl _) (by omega) HZ.out).mono ?_
    rintro e w2 ⟨rfl, hb⟩
    have HB2 := Lib.hid (HB.out.trans (hb.mono HB.out.size)); have HL2 := Lib.hid ((HL.out.below hb (Nat.le_refl _)).more hb.size)
    clear hb
    cases hg : ppRight p path L
    · go_wp2_with (first
        | (go_at_call 12; refine (specProofRight_any p path _ _ _ L _ _ HL2.out (Nat.le_refl _) (by omega) HZ.out).mono ?_; rintro e w3 ⟨rfl, hb⟩; rw [hg]; have HB3 := Lib.hid (HB2.out.trans (hb.mono HB2.out.size)); clear hb)
        | (go_at_call 13; refine (alive_any _).mono ?_; rintro e w' ⟨rfl, rfl⟩))
      go_ret
      exact ⟨ret_bool (by simp), HB3.out⟩
    · obtain ⟨h1, h2, h3, h4, h5, _⟩ := HRF.out hg
      have hw : IntKind.i64.wrap (p + 1) = p + 1 := by rw [IntKind.wrap_i64]; omega
      have h2 := h2 ⟨#[100]⟩
      clear h4 h5
      go_wp2_with fail
      refine (specProofRight_any p path _ _ _ L _ _ HL2.out (Nat.le_refl _) (by omega) HZ.out).mono ?_
      rintro e w3 ⟨rfl, hb⟩
      rw [hg]
      have HB3 := Lib.hid (HB2.out.trans (hb.mono HB2.out.size)); have HL3 := Lib.hid ((HL2.out.below hb (Nat.le_refl _)).more hb.size)
      clear hb
      go_wp2_with fail
      refine (implProofRight_any (p + 1) path _ _ _ L _ _ HL3.out (Nat.le_refl _) (by omega) HZ.out).mono ?_
      rintro e w4 ⟨rfl, hb⟩
      rw [h1]
      have HB4 := Lib.hid (HB3.out.trans (hb.mono HB3.out.size)); have HL4 := Lib.hid ((HL3.out.below hb (Nat.le_refl _)).more hb.size)
      have hs4 := HB4.out.size
      clear hb
      have HO0 := Lib.hid (OwnL.newAt strG 9 (size := 1) (w := w4) rfl (Nat.le_refl _)); have HLA := Lib.hid (HL4.out.alloc (Nat.le_refl _) (.cells #[] 9)); have HBA := Lib.hid (HB4.out.alloc hs4 (.cells #[] 9))
      have hm10 : m ≤ 10 := by have := HLEN.out; omega
      go_wp2_with (first
        | (at_builtin; refine wpList_appLW12 eltStr encStr HO0.out HLA.out (by simp) (by omega) (le_alloc (Nat.le_refl _) _) (by first | rfl | simp [Region.wanted, yielded]) _ _ rfl rfl rfl ?_; intro v5 w5 hown hgrow hat; have HO5 := Lib.hid hown; have HB5 := Lib.hid (HBA.out.grown hgrow HBA.out.size (fun q e => Nat.le_trans hs4 (OwnL.at HO0.out q e))); have HLK := Lib.hid (HLA.out.grown hgrow (le_alloc (Nat.le_refl _) _) (OwnL.at HO0.out)); have hs5 : w4.heap.size ≤ w5.heap.size := Nat.le_trans (le_alloc (Nat.le_refl _) _) hgrow.size; have HO5A := Lib.hid (HO5.out.alloc (.cells #[.string ⟨#[100]⟩] 9)); have HONE := Lib.hid (one_str (w := w5.alloc (.cells #[.string ⟨#[100]⟩] 9)) (cell_new w5 _ _ 0 _ rfl) (by simp)); have HB5A := Lib.hid (HB5.out.alloc HB5.out.size (.cells #[.string ⟨#[100]⟩] 9)); have HLKA := Lib.hid (HLK.out.alloc hs5 (.cells #[.string ⟨#[100]⟩] 9)); clear hown hgrow hat)
        | (at_builtin; refine wpList_appLW12 eltStr encStr HO5A.out HONE.out (by simp; omega) (by omega) (Nat.le_trans hs5 (le_alloc (Nat.le_refl _) _)) (by first | rfl | simp [Region.wanted, yielded]) _ _ rfl rfl rfl ?_; intro v6 w6 hown hgrow hat; obtain ⟨x6, n6, c6, rfl, hi6⟩ := hown.lst; have HX6 := Lib.hid (show Strs w6 w6.heap.size x6 n6 c6 (L ++ [⟨#[100]⟩]) from hi6); have HB6 := Lib.hid (HB5A.out.grown hgrow HB5A.out.size (fun q e => Nat.le_trans hs4 (OwnL.at HO5A.out q e))); have HL6 := Lib.hid (HLKA.out.grown hgrow (Nat.le_trans hs5 (le_alloc (Nat.le_refl _) _)) (OwnL.at HO5A.out)); have hs6 : w4.heap.size ≤ w6.heap.size := Nat.le_trans (Nat.le_trans hs5 (le_alloc (Nat.le_refl _) _)) hgrow.size; clear hown hgrow hat hi6)
        | (go_at_call 11; refine (implProofRight_any p path _ _ _ (L ++ [⟨#[100]⟩]) _ _ HX6.out (Nat.le_refl _) (by omega) HZ2.out).mono ?_; rintro e w7 ⟨rfl, hb⟩; rw [h2]; have HB7 := Lib.hid (HB6.out.trans (hb.mono HB6.out.size)); have HL7 := Lib.hid (HL6.out.below hb hs6); have hs7 := Nat.le_trans hs6 hb.size; clear hb)
        | (go_at_call 14; refine (implAbsenceRight_any p path _ _ _ L _ _ HL7.out hs7 (by omega) HZ.out).mono ?_; rintro e w8 ⟨rfl, hb⟩; rw [h3]; have HB8 := Lib.hid (HB7.out.trans (hb.mono HB7.out.size)); clear hb))
      go_ret
      exact ⟨ret_bool (by simp), HB8.out⟩
end Go.Proofs.YtojebghaegimbaaDoor
