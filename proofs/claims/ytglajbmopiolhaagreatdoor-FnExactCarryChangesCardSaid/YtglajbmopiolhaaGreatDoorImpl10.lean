/-
  Contracts of chapter 10's program: the empty root, writes and drops along paths.
-/
import Derived.Test.YtglajbmopiolhaaGreatDoorFols
import Derived.Test.YtglajbmopiolhaaGreatDoorImpl9
import Derived.Test.YtglajbmopiolhaaGreatDoorImpl7
import Derived.Test.YtglajbmopiolhaaGreatDoorFold4
import Derived.Deep.CutRange
import Derived.Deep.CutBlock
namespace Go.Proofs.YtglajbmopiolhaaGreatDoor
open Go.RowKit
set_option linter.unusedVariables false
theorem newPut_at {T : List Pc × Int × Bool} {L : List Pc} {p : Int} {b : Bool} {w w' : World} {v : Value} (h : T = (L, p, b)) (ho : OwnP w' w.heap.size v L) (hb : Below w.heap.size w w') : NewPut T.1 T.2.1 T.2.2 w (.returned (.tuple #[v, .int .i64 p, .bool b])) w' := by
  rw [h]; exact ⟨v, rfl, ho, hb⟩
theorem newPut_up {T U : List Pc × Int × Bool} {w w' : World} {v : Value} (h : T = U) (ho : OwnP w' w.heap.size v U.1) (hb : Below w.heap.size w w') : NewPut T.1 T.2.1 T.2.2 w (.returned (.tuple #[v, .int .i64 U.2.1, .bool U.2.2])) w' := by
  subst h; exact ⟨v, rfl, ho, hb⟩
theorem below_ofDrew {w w' : World} (h : Below w.drew.heap.size w.drew w') : Below w.heap.size w w' := ⟨h.os, h.tape, h.output, h.size, h.block⟩
theorem copyB_any (x : Option Addr) (n cap : Nat) (l : List Pc) (B : Nat) (w : World) (h : Pcs w B x n cap l) (hB : B ≤ w.heap.size) (hs : storeB l = true) : Calls Tryz.prog 49 #[.slice x n cap] w (NewP l w) :=
  copyPieces_any x n cap l B w h hB (fun k => Nat.le_trans (short_nth (store_short hs) k) (by decide)) (by have := (storeB_at hs).1; have := h.len; omega)
/-- The names of a path that is written or dropped, and whether it may be. -/
def namesB (l : List Pc) (path : ByteArray) : List ByteArray × Bool := if (storeB l && isPath path && !decide (partsB path = [])) = true then (partsB path, true) else ([], false)
theorem namesB_no {l : List Pc} {path : ByteArray} (h : storeB l = false ∨ isPath path = false ∨ partsB path = []) : namesB l path = ([], false) := by
  unfold namesB
  rcases h with h | h | h
  · rw [h]; simp
  · rw [h]; simp
  · rw [h]; simp
theorem namesB_yes {l : List Pc} {path : ByteArray} (h1 : storeB l = true) (h2 : isPath path = true) (h3 : partsB path ≠ []) : namesB l path = (partsB path, true) := by
  unfold namesB; rw [h1, h2, decide_eq_false h3]; rfl
theorem namesToChange_any (x : Option Addr) (n cap : Nat) (l : List Pc) (path : ByteArray) (B : Nat) (w : World) (h : Pcs w B x n cap l) (hB : B ≤ w.heap.size) (hz : ∀ k, (nthP l k).2.size ≤ 1048576) (hs : path.size ≤ 1048576) :
    Calls Tryz.prog 98 #[.slice x n cap, .string path] w (NewSB (namesB l path).1 (namesB l path).2 w) := by
  have HH := Lib.hid h; have HZ := Lib.hid hz
  clear h hz
  go_enter Tryz.func98, Tryz.ntmps98
  go_wp2_with fail
  refine (implPathParts_any path _ hs).mono ?_
  rintro e w1 ⟨v1, rfl, ho, hb⟩
  obtain ⟨x1, n1, c1, rfl, hi⟩ := ho.lst
  have HB1 := Lib.hid hb; have HO1 := Lib.hid ho; have HLEN := Lib.hid hi.len; have HL1 := Lib.hid (HH.out.below hb hB)
  have hs1 := hb.size
  clear hb ho hi
  cases hp : isPath path
  · have HF := Lib.hid (namesB_no (l := l) (path := path) (.inr (.inl hp)))
    clear hp
    go_wp2_with fail
    go_ret2
    exact newSB_put HF.out (OwnL.nil _ _ _ _ _) HB1.out
  have HP := Lib.hid hp
  clear hp
  by_cases h0 : partsB path = []
  · have HF := Lib.hid (namesB_no (l := l) (path := path) (.inr (.inr h0)))
    have hd : ((n1 : Int) == 0) = true := by have := HLEN.out; rw [h0] at this; simp at this; simp; omega
    clear h0
    go_wp2_with fail
    go_ret2
    exact newSB_put HF.out (OwnL.nil _ _ _ _ _) HB1.out
  have hd : ((n1 : Int) == 0) = false := by
    have := HLEN.out
    have h2 : 0 < (partsB path).length := List.length_pos_iff.2 h0
    simp; omega
  cases hst : storeB l
  · have HF := Lib.hid (namesB_no (l := l) (path := path) (.inl hst))
    clear h0
    go_wp2_with (go_at_call 12; refine (implStoreValid_any x n cap l B _ HL1.out (Nat.le_trans hB hs1) (mil_max HZ.out)).mono ?_; rintro e w2 ⟨rfl, hb⟩; rw [hst]; have HB2 := Lib.hid (HB1.out.trans (hb.mono hs1)); clear hb)
    go_ret2
    exact newSB_put HF.out (OwnL.nil _ _ _ _ _) HB2.out
  · have HF := Lib.hid (namesB_yes hst HP.out h0)
    clear h0
    go_wp2_with (go_at_call 12; refine (implStoreValid_any x n cap l B _ HL1.out (Nat.le_trans hB hs1) (mil_max HZ.out)).mono ?_; rintro e w2 ⟨rfl, hb⟩; rw [hst]; have HO2 := Lib.hid (HO1.out.below hb); have HB2 := Lib.hid (HB1.out.trans (hb.mono hs1)); clear hb)
    go_ret2
    exact newSB_put HF.out HO2.out HB2.out
theorem folderNamed_any (x : Option Addr) (n cap : Nat) (l : List Pc) (y : Option Addr) (m d : Nat) (E : List Ent) (nm : ByteArray) (B B1 : Nat) (w : World) (h : Pcs w B x n cap l) (hB : B ≤ w.heap.size) (hz : ∀ k, (nthP l k).2.size ≤ 1048576) (hst : storeB l = true)
    (hE : Ents w B1 y m d E) (hB1 : B1 ≤ w.heap.size) (hv : entsB E = true) :
    Calls Tryz.prog 121 #[.slice x n cap, .slice y m d, .string nm] w (NewEB (entsAt l (lastE nm (-1) E)) (openB l (lastE nm (-1) E)) w) := by
  have HH := Lib.hid h; have HZ := Lib.hid hz; have HE := Lib.hid hE; have HST := Lib.hid hst
  have HAS := Lib.hid (ents_asc hv)
  have h3 : m ≤ 3 := by have := (entsB_at hv).1; have := hE.len; omega
  have HLE := Lib.hid hE.len
  have HPL := Lib.hid (place_last (nm := nm) hv)
  clear h hz hE hv hst
  go_enter Tryz.func121, Tryz.ntmps121
  go_wp2_with fail
  refine (placeOfName_any y m d E nm B1 _ HE.out hB1 HAS.out (by omega)).mono ?_
  rintro e w2 ⟨rfl, hb⟩
  have HB2 := Lib.hid hb; have HL2 := Lib.hid (HH.out.below hb hB); have HE2 := Lib.hid (HE.out.below hb hB1)
  have hs2 := hb.size
  clear hb
  cases hh : hereE nm E
  · have HF := Lib.hid (HPL.out.1 hh)
    clear hh
    go_wp2_with fail
    go_ret2
    exact newEB_of (l' := []) (b' := true) (by rw [HF.out]; exact ⟨rfl, rfl⟩) ⟨_, rfl, OwnL.nil _ _ _ _ _, HB2.out⟩
  · obtain ⟨hlt0, hp, hc0⟩ := HPL.out.2 hh
    have hlt : atE nm E < m := by have := HLE.out; omega
    obtain ⟨k, hk⟩ : ∃ k, atE nm E = k := ⟨_, rfl⟩
    rw [hk] at hp hlt ⊢
    obtain ⟨c, hc⟩ : ∃ c, lastE nm (-1) E = c := ⟨_, rfl⟩
    rw [hc] at hp hc0 ⊢
    have HC0 := Lib.hid hc0; have HCC := Lib.hid hc
    clear hh hk hc hlt0 HPL hc0
    obtain ⟨b, o, rfl, hb, hca, hcb⟩ := HE2.out.atE hlt
    rw [hp] at hcb
    clear hp
    go_wp2_with fail
    refine (getFolder_any x n cap l c B _ HL2.out (Nat.le_trans hB hs2) HZ.out).mono ?_
    rintro e w3 ⟨v3, rfl, ho, hb3⟩
    have HO3 := Lib.hid (ho.mono hs2); have HB3 := Lib.hid (HB2.out.trans (hb3.mono hs2))
    clear ho hb3
    go_wp2_with fail
    go_ret2
    have hr := ents_root (p := c) HST.out
    exact newEB_of ⟨by rw [HCC.out]; exact hr.1.symm, by rw [HCC.out]; unfold openB; rw [decide_eq_false (show ¬ c < 0 by have := HC0.out; omega), Bool.false_or, hr.2]⟩ ⟨_, rfl, HO3.out, HB3.out⟩
/-- A row of slices and a bool. -/
def NewF (Es : List (List Ent)) (b : Bool) (w : World) (e : Ending) (w' : World) : Prop := ∃ v, e = .returned (.tuple #[v, .bool b]) ∧ (b = true → OwnF w' w.heap.size v Es) ∧ Below w.heap.size w w'
theorem newF_no {Es : List (List Ent)} {b : Bool} {w w' : World} {v : Value} (h : b = false) (hb : Below w.heap.size w w') : NewF Es b w (.returned (.tuple #[v, .bool false])) w' := by subst h; exact ⟨v, rfl, fun h => (by cases h), hb⟩
theorem newF_of {Es Fs : List (List Ent)} {b c : Bool} {w w' : World} {v : Value} (h : b = c) (h' : Es = Fs) (ho : OwnF w' w.heap.size v Fs) (hb : Below w.heap.size w w') : NewF Es b w (.returned (.tuple #[v, .bool c])) w' := by subst h; subst h'; exact ⟨v, rfl, fun _ => ho, hb⟩
set_option maxHeartbeats 1000000 in
set_option maxRecDepth 100000 in
theorem foldersAlong_any (x : Option Addr) (n cap : Nat) (l : List Pc) (root : Int) (y : Option Addr) (m d : Nat) (ps : List ByteArray) (B B1 : Nat) (w : World) (h : Pcs w B x n cap l) (hB : B ≤ w.heap.size) (hz : ∀ k, (nthP l k).2.size ≤ 1048576) (hst : storeB l = true)
    (h1 : Strs w B1 y m d ps) (hB1 : B1 ≤ w.heap.size) (i : Nat) (hi : m = i + 1) (hm : m ≤ 1000) :
    Calls Tryz.prog 99 #[.slice x n cap, .int .i64 root, .slice y m d] w (NewF ((wayZ l root ps).map (·.1)) (isFold (getT l root) && waysB l root ps) w) := by
  have HH := Lib.hid h; have HZ := Lib.hid hz; have HST := Lib.hid hst; have HS := Lib.hid h1
  have HLEN := Lib.hid h1.len
  have hle := h1.le
  have hmx := h1.max
  unfold maxLen at hmx
  have hw1 : IntKind.i64.wrap ((m : Int) - 1) = (i : Int) := by rw [IntKind.wrap_i64]; omega
  have hb0 : (0 : Int) ≤ (i : Int) := by omega
  have hb1 : (i : Int) ≤ (d : Int) := by omega
  have him : i < m := by omega
  have HI := Lib.hid hi
  have hroot := ents_root (p := root) hst
  obtain ⟨by0, oy0, hy0, _⟩ := h1.atS (k := 0) (by omega)
  subst hy0
  clear h hz hst h1 hi
  go_enter Tryz.func99, Tryz.ntmps99
  go_wp2_with fail
  refine (getFolder_any x n cap l root B _ HH.out hB HZ.out).mono ?_
  rintro e w1 ⟨v1, rfl, ho, hb⟩
  rw [hroot.1] at ho
  rw [hroot.2]
  obtain ⟨x1, n1, c1, rfl, _⟩ := ho.lst
  have hs1 := hb.size
  have HB1 := Lib.hid hb; have HO1 := Lib.hid ho
  clear hb ho hroot
  have HF0 := Lib.hid (OwnF.lit HO1.out hs1); have HO0 := Lib.hid (OwnL.alloc HO1.out (.cells #[.slice x1 n1 c1] 104)); have HB0 := Lib.hid (HB1.out.alloc hs1 (.cells #[.slice x1 n1 c1] 104))
  obtain ⟨g0, hg0⟩ : ∃ g, isFold (getT l root) = g := ⟨_, rfl⟩
  have HG0 := Lib.hid hg0
  rw [hg0]
  clear hg0
  go_wp2_with fail
  go_loopw [8, 9, 10, 27] (fun lst ok fol idx wr => ∃ (k : Nat) (c : Int) (g : Bool) (xl : Option Addr) (nl cl : Nat), k ≤ i ∧ idx = .int .i64 k ∧ lst = .slice xl nl cl ∧ ok = .bool g ∧ OwnE wr w.heap.size (.slice xl nl cl) (entsAt l c) ∧ OwnF wr w.heap.size fol (((wayZ l root ps).take (k + 1)).map (·.1))
      ∧ Hid ((wayZ l root ps).drop k = wayZ l c (ps.drop k)) ∧ Hid ((g0 && waysB l root ps) = (g && waysB l c (ps.drop k))) ∧ Hid (g = true → openB l c = true) ∧ Below w.heap.size w wr) (fun _ _ _ idx _ => i - (intOf idx).toNat)
  case atStart =>
    refine ⟨0, root, g0, x1, n1, c1, by omega, rfl, rfl, rfl, HO0.out, ?_, Lib.hid (by rw [List.drop_zero, List.drop_zero]), Lib.hid (by rw [List.drop_zero]), Lib.hid (fun e => by unfold openB; rw [HG0.out, e, Bool.or_true]), HB0.out⟩
    rw [way_take (c := root) (by have := HLEN.out; omega) (by rw [List.drop_zero, List.drop_zero])]
    exact HF0.out
  case round =>
    obtain ⟨k, c, g, xl, nl, cl, hk, rfl, rfl, rfl, ho, hf, HD, HW, HG, hb⟩ := hrel
    have HO := Lib.hid ho; have HFL := Lib.hid hf; have HB := Lib.hid hb
    have hsz := hb.size
    clear ho hf hb
    have hkl : k < ps.length := by have := HLEN.out; omega
    by_cases hlt : k < i
    · cases g
      · have HF := Lib.hid (show (g0 && waysB l root ps) = false by rw [HW.out]; rfl)
        obtain ⟨bs, os, e1, _, hcs⟩ := (HS.out.below HB.out hB1).atS (show k < m by omega)
        simp only [Option.some.injEq, Addr.mk.injEq, and_true] at e1
        obtain ⟨rfl, rfl⟩ := e1
        go_wp2_with fail
        go_ret2
        exact newF_no (by rw [HG0.out]; exact HF.out) HB.out
      · obtain ⟨bs, os, e1, _, hcs⟩ := (HS.out.below HB.out hB1).atS (show k < m by omega)
        simp only [Option.some.injEq, Addr.mk.injEq, and_true] at e1
        obtain ⟨rfl, rfl⟩ := e1
        have HST2 := Lib.hid (way_step hkl HD.out)
        have HOP := Lib.hid (HG.out rfl)
        go_wp2_with fail
        refine (folderNamed_any x n cap l xl nl cl (entsAt l c) (nthS ps k) B _ _ (HH.out.below HB.out hB) (Nat.le_trans hB hsz) HZ.out HST.out HO.out.lst' (Nat.le_refl _) (entsAt_ok l c)).mono ?_
        rintro e w2 ⟨v2, rfl, ho2, hb2⟩
        obtain ⟨x2, n2, c2, rfl, _⟩ := ho2.lst
        have HO2 := Lib.hid (ho2.mono hsz); have HB2 := Lib.hid (HB.out.trans (hb2.mono hsz))
        have hsz2 := HB2.out.size
        obtain ⟨vs, hf1, hf2, hf3⟩ := HFL.out.below hb2
        have HF1 := Lib.hid hf1; have HF2 := Lib.hid hf2; have HF3 := Lib.hid hf3
        have hvl : vs.length ≤ 2000000 := by
          rw [hf2, List.length_map, List.length_take]; omega
        clear ho2 hb2 hf1 hf2 hf3
        obtain ⟨c', hc'⟩ : ∃ c', lastE (nthS ps k) (-1) (entsAt l c) = c' := ⟨_, rfl⟩
        rw [hc'] at HO2 HST2 ⊢
        clear hc'
        go_wp2_with (at_builtin; refine wpList_app1L eltSv encSv (x2, n2, c2) _ rfl HF1.out hvl hsz2 rfl _ _ rfl rfl rfl ?_; intro v' w' hown hgrow; have HSN := Lib.hid (OwnF.snoc HF1.out HF2.out HF3.out HO2.out hown hgrow); have HB3 := Lib.hid (HB2.out.grown hgrow hsz2 (OwnL.at HF1.out)); clear hown hgrow)
        go_roundw
        case rel =>
          refine ⟨k + 1, c', openB l c', x2, n2, c2, by omega, by go_num, rfl, rfl, HSN.out.2, ?_, Lib.hid HST2.out.1, Lib.hid ?_, Lib.hid (fun e => e), HB3.out⟩
          · rw [way_take (by have := HLEN.out; omega) HST2.out.1]; exact HSN.out.1
          · rw [HW.out, HST2.out.2, HOP.out, Bool.true_and, Bool.true_and]
            have hk1 : k + 1 < ps.length := by have := HLEN.out; omega
            rw [(way_step hk1 HST2.out.1).2]
            cases openB l c' <;> simp
        case measure => simp [intOf] <;> omega
    · obtain rfl : k = i := by omega
      have hlast : ps.drop (k + 1) = [] := List.drop_of_length_le (by have := HLEN.out; have := HI.out; omega)
      have HV := Lib.hid (show (g0 && waysB l root ps) = g by
        rw [HW.out, (way_step hkl HD.out).2, hlast, waysB, Bool.and_true]
        cases g
        · rfl
        · rw [HG.out rfl]; rfl)
      have HT := Lib.hid (show (wayZ l root ps).map (·.1) = ((wayZ l root ps).take (k + 1)).map (·.1) by
        rw [List.take_of_length_le (by rw [wayZ_len]; have := HLEN.out; have := HI.out; omega)])
      clear hlast
      go_wp2_with fail
      go_ret2
      exact newF_of (by rw [HG0.out]; exact HV.out) HT.out HFL.out HB.out
set_option maxHeartbeats 1000000 in
set_option maxRecDepth 100000 in
theorem fileFits_any (x : Option Addr) (n cap : Nat) (l : List Pc) (yf : Option Addr) (df : Nat) (Es : List (List Ent)) (y : Option Addr) (m d : Nat) (ps : List ByteArray) (B B1 B2 : Nat) (w : World) (h : Pcs w B x n cap l) (hB : B ≤ w.heap.size) (hz : ∀ k, (nthP l k).2.size ≤ 1048576) (hst : storeB l = true)
    (hF : Fols w B1 yf m df Es) (hB1 : B1 ≤ w.heap.size) (hS : Strs w B2 y m d ps) (hB2 : B2 ≤ w.heap.size) (i : Nat) (hi : m = i + 1) (hm : m ≤ 1000) (hv : entsB (nthF Es i) = true) :
    Calls Tryz.prog 104 #[.slice x n cap, .slice yf m df, .slice y m d] w (BelowB (fitE l (nthF Es i) (nthS ps i)) w) := by
  have HH := Lib.hid h; have HZ := Lib.hid hz; have HST := Lib.hid hst; have HFF := Lib.hid hF; have HS := Lib.hid hS
  have hle := hS.le
  have hmx := hS.max
  have hlf := hF.le
  have hmf := hF.max
  unfold maxLen at hmx hmf
  have hw1 : IntKind.i64.wrap ((m : Int) - 1) = (i : Int) := by rw [IntKind.wrap_i64]; omega
  have hb0 : (0 : Int) ≤ (i : Int) := by omega
  have him : (i : Int) < (m : Int) := by omega
  have him2 : i < m := by omega
  obtain ⟨bf, of, yE, mE, dE, rfl, hbf, hcf, hEE⟩ := hF.at him2
  obtain ⟨bs, os, rfl, hbs, hcs⟩ := hS.atS him2
  obtain ⟨E, hE⟩ : ∃ E, nthF Es i = E := ⟨_, rfl⟩
  obtain ⟨nm, hnm⟩ : ∃ nm, nthS ps i = nm := ⟨_, rfl⟩
  rw [hE] at hEE hv ⊢
  rw [hnm] at hcs ⊢
  have HE := Lib.hid hEE
  have HPL := Lib.hid (place_last (nm := nm) hv)
  have HAS := Lib.hid (ents_asc hv)
  have h3 : mE ≤ 3 := by have := (entsB_at hv).1; have := hEE.len; omega
  have HLE := Lib.hid hEE.len
  have HCF := Lib.hid hcf
  clear h hz hst hF hS hi hE hnm hEE hv
  go_enter Tryz.func104, Tryz.ntmps104
  go_upto_region 2 with fail
  go_cut [8, 9] from 15 to 26 (fun s8 s9 wx => s8 = .int .i64 (atE nm E : Nat) ∧ s9 = .bool (hereE nm E) ∧ Below w.heap.size w wx)
  case first =>
    go_region_law (go_simp; go_at_call 124; refine (placeOfName_any yE mE dE E nm B1 _ ?_ ?_ HAS.out ?_).mono ?_; (focus (first | exact HE.out | exact HE.out.drewN 1 | exact HE.out.drewN 2 | exact HE.out.drewN 3)); (focus exact hB1); (focus omega); rintro e w' ⟨rfl, hb⟩; have HB2 := Lib.hid hb; clear hb)
    all_goals
      go_wp2_with fail
      go_meet
      case rel => exact ⟨rfl, rfl, below_ofDrew HB2.out⟩
  case rest =>
    rename World => w2
    obtain ⟨rfl, rfl, hb⟩ := hcut
    have HB2 := Lib.hid hb; have HL2 := Lib.hid (HH.out.below hb hB); have HE2 := Lib.hid (HE.out.below hb hB1); have HF2 := Lib.hid (HFF.out.below hb hB1)
    have hs2 := hb.size
    clear hb
    have hcf2 : w2.cell? ⟨bf, of + i, none⟩ = some (.slice yE mE dE) := (World.cell?_of_block (w := w) (w' := w2) (a := ⟨bf, of + i, none⟩) (HB2.out.block bf (by omega))).trans HCF.out
    cases hh : hereE nm E
    · have HF := Lib.hid (HPL.out.1 hh)
      clear hh
      go_wp2_with fail
      go_ret
      exact ⟨ret_bool (by unfold fitE; rw [HF.out]; rfl), HB2.out⟩
    · obtain ⟨hlt0, hp, hc0⟩ := HPL.out.2 hh
      have hlt : atE nm E < mE := by have := HLE.out; omega
      obtain ⟨k, hk⟩ : ∃ k, atE nm E = k := ⟨_, rfl⟩
      rw [hk] at hp hlt ⊢
      have HFI := Lib.hid (show fitE l E nm = (decide (lastE nm (-1) E < 0) || isFile (getT l (lastE nm (-1) E))) from rfl)
      obtain ⟨c, hc⟩ : ∃ c, lastE nm (-1) E = c := ⟨_, rfl⟩
      rw [hc] at hp hc0 HFI
      have HC0 := Lib.hid hc0
      clear hh hk hc hlt0 HPL hc0
      obtain ⟨b, o, rfl, hb, hca, hcb⟩ := HE2.out.atE hlt
      rw [hp] at hcb
      clear hp
      go_wp2_with fail
      refine (getFile_any x n cap l c B _ HL2.out (Nat.le_trans hB hs2) HZ.out).mono ?_
      rintro e w3 ⟨rfl, hb3⟩
      have HB3 := Lib.hid (HB2.out.trans (hb3.mono hs2))
      clear hb3
      go_wp2_with fail
      go_ret
      exact ⟨ret_bool (by rw [HFI.out, decide_eq_false (show ¬ c < 0 by have := HC0.out; omega), Bool.false_or, (got_yes c HST.out).1]), HB3.out⟩
set_option maxHeartbeats 2000000 in
set_option maxRecDepth 100000 in
theorem putUp_any (x : Option Addr) (n cap : Nat) (l : List Pc) (root : Int) (yf : Option Addr) (df : Nat) (y : Option Addr) (m d : Nat) (zs : List (List Ent × ByteArray)) (t : ByteArray) (B B1 B2 : Nat) (w : World) (h : Pcs w B x n cap l) (hB : B ≤ w.heap.size) (hz : ∀ k, (nthP l k).2.size ≤ 1048576) (hst : storeB l = true)
    (hF : Fols w B1 yf m df (zs.map (·.1))) (hB1 : B1 ≤ w.heap.size) (hS : Strs w B2 y m d (zs.map (·.2))) (hB2 : B2 ≤ w.heap.size) (hm : m ≤ 1000) (hv : ∀ z ∈ zs, entsB z.1 = true) (hn : ∀ k, (nthZ zs k).2.size ≤ 1000000) (ht : t.size ≤ maxLen) :
    Calls Tryz.prog 101 #[.slice x n cap, .int .i64 root, .slice yf m df, .slice y m d, .string t] w (NewPut (upR l root (upO l t zs)).1 (upR l root (upO l t zs)).2.1 (upR l root (upO l t zs)).2.2 w) := by
  have HH := Lib.hid h; have HZ := Lib.hid hz; have HST := Lib.hid hst; have HFF := Lib.hid hF; have HS := Lib.hid hS; have HV := Lib.hid hv; have HN := Lib.hid hn
  have HLEN := Lib.hid (show zs.length = m by have := hF.len; rwa [List.length_map] at this)
  have hle := hS.le
  have hmx := hS.max
  have hlf := hF.le
  have hmf := hF.max
  unfold maxLen at hmx hmf
  have HSTEP := Lib.hid (fun k hk => upO_step (l := l) (t := t) (zs := zs) (k := k) hk)
  have HNONE := Lib.hid (fun k h => upO_none (l := l) (t := t) (zs := zs) (k := k) h)
  have HEND := Lib.hid (show upO l t (zs.drop m) = putO l t by rw [List.drop_of_length_le (by have := HLEN.out; omega)]; rfl)
  clear h hz hst hF hS hv hn
  go_enter Tryz.func101, Tryz.ntmps101
  go_wp2_with fail
  refine (implPutText_any x n cap l t B _ HH.out hB (mil_max HZ.out) ht).mono ?_
  rintro e w1 ⟨v1, rfl, ho, hb⟩
  obtain ⟨x1, n1, c1, rfl, _⟩ := ho.lst
  have HB1' := Lib.hid hb; have HO1 := Lib.hid ho
  have hs1 := hb.size
  clear hb ho
  obtain ⟨⟨L0, q0, g0⟩, hR⟩ : ∃ R, putB l t = R := ⟨_, rfl⟩
  have HP0 := Lib.hid (show g0 = true → upO l t (zs.drop m) = some (L0, q0) from fun e => by rw [HEND.out]; unfold putO; rw [hR, e]; rfl)
  have HP1 := Lib.hid (show g0 = false → upO l t zs = none from fun e => HNONE.out m (by rw [HEND.out]; unfold putO; rw [hR, e]; rfl))
  rw [hR] at HO1 ⊢
  clear hR
  have hw1 : IntKind.i64.wrap ((m : Int) - 1) = (m : Int) - 1 := IntWalk.i64_in _ (by omega)
  go_wp2_with fail
  go_loopw [13, 14, 15, 16] (fun st pr ok i wr => ∃ (k : Nat) (z : Int) (g : Bool), k ≤ m ∧ i = .int .i64 z ∧ z = (k : Int) - 1 ∧ ok = .bool g ∧ Below w.heap.size w wr ∧ Hid (g = false → upO l t zs = none)
      ∧ ∃ L q xs ns cs, st = .slice xs ns cs ∧ pr = .int .i64 q ∧ OwnP wr w.heap.size (.slice xs ns cs) L ∧ Hid (g = true → upO l t (zs.drop k) = some (L, q))) (fun _ _ _ i _ => (intOf i + 1).toNat)
  case atStart => exact ⟨m, _, g0, Nat.le_refl _, rfl, rfl, rfl, HB1'.out, HP1, L0, q0, x1, n1, c1, rfl, rfl, HO1.out, HP0⟩
  case round =>
    obtain ⟨k, z, g, hk, rfl, hzk, rfl, hb, HG0, L, q, xs, ns, cs, rfl, rfl, ho, HG1⟩ := hrel
    have HB := Lib.hid hb; have HO := Lib.hid ho
    have hsz := hb.size
    clear hb ho
    cases g
    · have HF := Lib.hid (HG0.out rfl)
      by_cases hz0 : (0 : Int) ≤ z
      · go_wp2_with (go_at_call 49; refine (copyB_any x n cap l B _ (HH.out.below HB.out hB) (Nat.le_trans hB hsz) HST.out).mono ?_; rintro e w2 ⟨v, rfl, ho, hb⟩; have HOC := Lib.hid (ho.mono hsz); have HBC := Lib.hid (HB.out.trans (hb.mono hsz)); clear ho hb)
        go_ret3
        exact newPut_at (by rw [HF.out]; rfl) HOC.out HBC.out
      · go_wp2_with (go_at_call 49; refine (copyB_any x n cap l B _ (HH.out.below HB.out hB) (Nat.le_trans hB hsz) HST.out).mono ?_; rintro e w2 ⟨v, rfl, ho, hb⟩; have HOC := Lib.hid (ho.mono hsz); have HBC := Lib.hid (HB.out.trans (hb.mono hsz)); clear ho hb)
        go_ret3
        exact newPut_at (by rw [HF.out]; rfl) HOC.out HBC.out
    · rcases k with _ | a
      · have HF := Lib.hid (show upO l t zs = some (L, q) from HG1.out rfl)
        have hz0 : ¬ (0 : Int) ≤ z := by omega
        clear hzk
        go_wp2_with fail
        go_ret3
        exact newPut_at (by rw [HF.out]; rfl) HO.out HB.out
      · obtain rfl : z = (a : Int) := by omega
        clear hzk
        have ha : a < m := by omega
        have hai : (a : Int) < (m : Int) := by omega
        have ha0 : (0 : Int) ≤ (a : Int) := by omega
        have haz : a < zs.length := by have := HLEN.out; omega
        have HU := Lib.hid ((HSTEP.out a haz).trans (by rw [HG1.out rfl]))
        obtain ⟨bf, of, yE, mE, dE, rfl, hbf, hcf, hEE⟩ := (HFF.out.below HB.out hB1).at ha
        obtain ⟨bs, os, rfl, hbs, hcs⟩ := (HS.out.below HB.out hB2).atS ha
        rw [nthF_map haz] at hEE
        rw [nthS_map haz] at hcs
        have hvE : entsB (nthZ zs a).1 = true := by rw [nthZ_get haz]; exact HV.out _ (List.getElem_mem _)
        have hnm := HN.out a
        obtain ⟨⟨E, nm⟩, hZ⟩ : ∃ Z, nthZ zs a = Z := ⟨_, rfl⟩
        rw [hZ] at hEE hcs hvE hnm HU
        have HE := Lib.hid hEE; have HVE := Lib.hid hvE
        have hzE : ∀ k, (nthE E k).1.size ≤ maxLen := fun k => Nat.le_trans (ents_sizes hvE k) (by unfold maxLen; omega)
        have HZE := Lib.hid hzE
        have HNM := Lib.hid (show nm.size ≤ 2000000 from Nat.le_trans hnm (by decide))
        clear hEE hvE hZ hnm hzE
        go_upto_region 6 with fail
        go_cut [15, 17] from 28 to 57 (fun s15 s17 wx => ∃ xl nl cl, s17 = .slice xl nl cl ∧ s15 = .bool (putE E (nm, q)).2 ∧ OwnE wx wr.heap.size (.slice xl nl cl) (putE E (nm, q)).1 ∧ Below wr.heap.size wr wx)
        case first =>
          go_region_law (go_simp; go_at_call 127; refine (implPutEntry_any yE mE dE E (nm, q) B1 _ ?_ ?_ HZE.out HNM.out).mono ?_; (focus (first | exact HE.out | exact HE.out.drewN 1 | exact HE.out.drewN 2 | exact HE.out.drewN 3)); (focus exact Nat.le_trans hB1 hsz); rintro e w' ⟨v2, rfl, ho, hb⟩; obtain ⟨x2, n2, c2, rfl, _⟩ := ho.lst; have HB2 := Lib.hid hb; have HO2 := Lib.hid ho; clear ho hb)
          all_goals
            go_wp2_with fail
            go_meet
            case rel => exact ⟨_, _, _, rfl, rfl, HO2.out, below_ofDrew HB2.out⟩
        case rest =>
          rename World => w2
          obtain ⟨xl, nl, cl, rfl, rfl, ho2, hb2⟩ := hcut
          have HB2 := Lib.hid (HB.out.trans (hb2.mono hsz)); have HOS2 := Lib.hid (HO.out.below hb2); have HOE2 := Lib.hid ho2
          have hs2 := HB2.out.size
          clear ho2 hb2
          cases hok : (putE E (nm, q)).2
          · have HF := Lib.hid (HNONE.out a (by rw [HU.out]; exact stepU_stop hok))
            clear hok
            go_wp2_with fail
            go_roundw
            case rel => exact ⟨a, (a : Int) - 1, false, by omega, by go_num, rfl, rfl, HB2.out, Lib.hid (fun _ => HF.out), L, q, xs, ns, cs, rfl, rfl, HOS2.out, Lib.hid (fun e => by cases e)⟩
            case measure => simp [intOf] <;> omega
          · have HU2 := Lib.hid (HU.out.trans (stepU_go (x := (L, q)) hok))
            obtain ⟨E2, hE2⟩ : ∃ E2, (putE E (nm, q)).1 = E2 := ⟨_, rfl⟩
            have hzE2 : ∀ k, (nthE E2 k).1.size ≤ maxLen := by
              rw [← hE2]; exact put_names HZE.out (Nat.le_trans HNM.out (by unfold maxLen; omega))
            rw [hE2] at HOE2 HU2
            clear hok hE2
            have hLs : storeB L = true := by
              have := HG1.out rfl
              exact upO_store this
            have hft : (folderB E2).size ≤ maxLen := Nat.le_trans (folderB_size _) (by unfold maxLen; omega)
            have HZL := Lib.hid (show ∀ k, (nthP L k).2.size ≤ maxLen from fun k => Nat.le_trans (short_nth (store_short hLs) k) (by unfold maxLen; omega))
            clear hLs
            go_wp2_with fail
            refine (implFolderText_any _ _ _ E2 _ _ HOE2.out.lst' (Nat.le_refl _) hzE2).mono ?_
            rintro e w3 ⟨rfl, hb3⟩
            have HB3 := Lib.hid (HB2.out.trans (hb3.mono hs2)); have HOS3 := Lib.hid (HOS2.out.below hb3)
            have hs3 := HB3.out.size
            clear hb3
            go_wp2_with fail
            refine (implPutText_any xs ns cs L (folderB E2) _ _ HOS3.out.lst' (Nat.le_refl _) HZL.out hft).mono ?_
            rintro e w4 ⟨v4, rfl, ho4, hb4⟩
            obtain ⟨x4, n4, c4, rfl, _⟩ := ho4.lst
            have HB4 := Lib.hid (HB3.out.trans (hb4.mono hs3)); have HO4 := Lib.hid (ho4.mono hs3)
            clear ho4 hb4
            obtain ⟨⟨L4, q4, g4⟩, hR⟩ : ∃ R, putB L (folderB E2) = R := ⟨_, rfl⟩
            have HP0 := Lib.hid (show g4 = true → upO l t (zs.drop a) = some (L4, q4) from fun e => by rw [HU2.out]; unfold putO; rw [hR, e]; rfl)
            have HP1 := Lib.hid (show g4 = false → upO l t zs = none from fun e => HNONE.out a (by rw [HU2.out]; unfold putO; rw [hR, e]; rfl))
            rw [hR] at HO4 ⊢
            clear hR
            go_wp2_with fail
            go_roundw
            case rel => exact ⟨a, (a : Int) - 1, g4, by omega, by go_num, rfl, rfl, HB4.out, HP1, L4, q4, x4, n4, c4, rfl, rfl, HO4.out, HP0⟩
            case measure => simp [intOf] <;> omega
theorem writeB_bad {l : List Pc} {root : Int} {path content : ByteArray} (h : (namesB l path).2 = false ∨ contentB content = false) : writeB l root path content = ([], -1, false) := by
  unfold writeB
  rw [if_pos]
  rcases h with h | h
  · unfold namesB at h
    split at h
    · cases h
    · rename_i h1
      rw [Bool.not_eq_true] at h1
      rw [h1]; rfl
  · rw [h, Bool.and_false]
theorem namesB_true {l : List Pc} {path : ByteArray} (h : (namesB l path).2 = true) : (namesB l path).1 = partsB path ∧ (storeB l && isPath path && !decide (partsB path = [])) = true := by
  unfold namesB at h ⊢
  split at h
  · rename_i h1; rw [if_pos h1]; exact ⟨rfl, h1⟩
  · cases h
theorem cond_facts {l : List Pc} {path : ByteArray} (h : (storeB l && isPath path && !decide (partsB path = [])) = true) : storeB l = true ∧ isPath path = true ∧ partsB path ≠ [] := by
  simp only [Bool.and_eq_true, Bool.not_eq_true', decide_eq_false_iff_not] at h
  exact ⟨h.1.1, h.1.2, h.2⟩
set_option maxHeartbeats 1000000 in
set_option maxRecDepth 100000 in
theorem implWriteAt_any (x : Option Addr) (n cap : Nat) (l : List Pc) (root : Int) (path content : ByteArray) (B : Nat) (w : World) (h : Pcs w B x n cap l) (hB : B ≤ w.heap.size) (hz : ∀ k, (nthP l k).2.size ≤ 1048576) (hs : path.size ≤ 1048576) (hc : content.size ≤ 1048576) :
    Calls Tryz.prog 77 #[.slice x n cap, .int .i64 root, .string path, .string content] w (NewPut (writeB l root path content).1 (writeB l root path content).2.1 (writeB l root path content).2.2 w) := by
  have HH := Lib.hid h; have HZ := Lib.hid hz
  have hcm : content.size ≤ maxLen := by unfold maxLen; omega
  have HBAD := Lib.hid (writeB_bad (l := l) (root := root) (path := path) (content := content))
  have HTRUE := Lib.hid (namesB_true (l := l) (path := path))
  clear h hz
  go_enter Tryz.func77, Tryz.ntmps77
  go_wp2_with fail
  refine (namesToChange_any x n cap l path B _ HH.out hB HZ.out hs).mono ?_
  rintro e w1 ⟨v1, rfl, ho, hb⟩
  obtain ⟨x1, m, d, rfl, hi⟩ := ho.lst
  have HB1 := Lib.hid hb; have HL1 := Lib.hid (HH.out.below hb hB); have HN1 := Lib.hid hi
  have hs1 := hb.size
  clear hb ho hi
  obtain ⟨⟨ns, g⟩, hR⟩ : ∃ R, namesB l path = R := ⟨_, rfl⟩
  rw [hR] at HBAD HTRUE HN1 ⊢
  clear hR
  cases g
  · have HF := Lib.hid (HBAD.out (.inl rfl))
    go_wp2_with fail
    go_ret3
    exact newPut_at HF.out (OwnL.nil _ _ _ _ _) HB1.out
  obtain ⟨hns, hcond⟩ := HTRUE.out rfl
  have hns : ns = partsB path := hns
  subst hns
  replace HN1 : Hid (Strs w1 w1.heap.size x1 m d (partsB path)) := HN1
  have HC := Lib.hid hcond
  have HFACT := Lib.hid (cond_facts hcond)
  have hm3 : m ≤ 3 := by have := (parts_small (s := path)).1; have := HN1.out.len; omega
  have hm0 : 0 < m := by
    have h1 := List.length_pos_iff.2 HFACT.out.2.2
    have := HN1.out.len; omega
  clear hcond HTRUE
  cases hcb : contentB content
  · have HF := Lib.hid (HBAD.out (.inr hcb))
    go_wp2_with (go_at_call 103; refine (implContentValid_any content _ hcm).mono ?_; rintro e w2 ⟨rfl, hb⟩; rw [hcb]; have HB2 := Lib.hid (HB1.out.trans (hb.mono hs1)); clear hb)
    go_ret3
    exact newPut_at HF.out (OwnL.nil _ _ _ _ _) HB2.out
  have HUP := Lib.hid (writeB_up (l := l) (root := root) (path := path) (content := content) (by rw [HC.out, hcb]; rfl))
  have HST := Lib.hid HFACT.out.1
  have hfs : (fileB content).size ≤ maxLen := Nat.le_trans (fileB_size _) (by unfold maxLen; omega)
  obtain ⟨i, hi⟩ : ∃ i, m = i + 1 := ⟨m - 1, by omega⟩
  have HI := Lib.hid hi
  have HLASTF := Lib.hid (show fitsB l root (partsB path) = fitE l (nthF ((wayZ l root (partsB path)).map (·.1)) i) (nthS (partsB path) i) by
    have hl := HN1.out.len
    rw [fits_last l _ _ (by omega), show (partsB path).length - 1 = i by omega, nthF_map (by rw [wayZ_len]; omega)])
  clear hi HBAD HFACT
  go_upto_region 4 with (go_at_call 103; refine (implContentValid_any content _ hcm).mono ?_; rintro e w2 ⟨rfl, hb⟩; rw [hcb]; have HB2 := Lib.hid (HB1.out.trans (hb.mono hs1)); have HL2 := Lib.hid (HL1.out.below hb (Nat.le_trans hB hs1)); have HN2 := Lib.hid ((HN1.out.below hb (Nat.le_refl _)).more hb.size); clear hb)
  have hs2 := HB2.out.size
  go_wp2_with fail
  refine (foldersAlong_any x n cap l root x1 m d (partsB path) B _ _ HL2.out (Nat.le_trans hB hs2) HZ.out HST.out HN2.out (Nat.le_refl _) i HI.out (by omega)).mono ?_
  rintro e w3 ⟨v3, rfl, hf3, hb3⟩
  have HB3 := Lib.hid (HB2.out.trans (hb3.mono hs2)); have HL3 := Lib.hid (HL2.out.below hb3 (Nat.le_trans hB hs2)); have HN3 := Lib.hid ((HN2.out.below hb3 (Nat.le_refl _)).more hb3.size); have HF3 := Lib.hid hf3
  have hs3 := HB3.out.size
  clear hb3 hf3
  cases hw : (isFold (getT l root) && waysB l root (partsB path))
  · have HF := Lib.hid (HUP.out.trans (if_neg (by rw [hw]; simp)))
    go_wp2_with (go_at_call 49; refine (copyB_any x n cap l B _ HL3.out (Nat.le_trans hB hs3) HST.out).mono ?_; rintro e w4 ⟨v, rfl, ho, hb⟩; have HOC := Lib.hid (ho.mono hs3); have HBC := Lib.hid (HB3.out.trans (hb.mono hs3)); clear ho hb)
    go_ret3
    exact newPut_at HF.out HOC.out HBC.out
  obtain ⟨xf, nf, cf, rfl, hfo⟩ := (HF3.out hw).fols
  have hnf : nf = m := by
    have h1 := hfo.len
    have h2 := HN1.out.len
    rw [List.length_map, wayZ_len] at h1; omega
  subst hnf
  have HFO := Lib.hid hfo
  clear hfo HF3
  have HUPW := Lib.hid (show fitsB l root (partsB path) = false → writeB l root path content = (l, root, false) from fun e => HUP.out.trans (if_neg (by rw [hw, e]; simp)))
  have HUPY := Lib.hid (show fitsB l root (partsB path) = true → writeB l root path content = upR l root (upO l (fileB content) (wayZ l root (partsB path))) from fun e => HUP.out.trans (if_pos (by rw [hw, e]; rfl)))
  rw [HLASTF.out] at HUPW HUPY
  clear HUP HLASTF hcb
  have hvi : entsB (nthF ((wayZ l root (partsB path)).map (·.1)) i) = true := by
    have h2 := HN1.out.len
    have := HI.out
    rw [nthF_map (by rw [wayZ_len]; omega)]
    exact wayZ_ents l _ _ _
  cases hfit : fitE l (nthF ((wayZ l root (partsB path)).map (·.1)) i) (nthS (partsB path) i)
  · have HF := Lib.hid (HUPW.out hfit)
    go_wp2_with (first
      | (go_at_call 104; refine (fileFits_any x n cap l xf cf _ x1 nf d (partsB path) B _ _ _ HL3.out (Nat.le_trans hB hs3) HZ.out HST.out HFO.out (Nat.le_refl _) HN3.out (Nat.le_refl _) i HI.out (by omega) hvi).mono ?_; rintro e w4 ⟨rfl, hb⟩; rw [hfit]; have HB4 := Lib.hid (HB3.out.trans (hb.mono hs3)); have hs4 := HB4.out.size; have HL4 := Lib.hid (HL3.out.below hb (Nat.le_trans hB hs3)); clear hb)
      | (go_at_call 49; refine (copyB_any x n cap l B _ HL4.out (Nat.le_trans hB hs4) HST.out).mono ?_; rintro e w5 ⟨v, rfl, ho, hb⟩; have HOC := Lib.hid (ho.mono hs4); have HBC := Lib.hid (HB4.out.trans (hb.mono hs4)); clear ho hb))
    go_ret3
    exact newPut_at HF.out HOC.out HBC.out
  · have HF := Lib.hid (HUPY.out hfit)
    have HM2 := Lib.hid (wayZ_map2 l (partsB path) root)
    have HSM := Lib.hid (show ∀ k, (nthZ (wayZ l root (partsB path)) k).2.size ≤ 1000000 from fun k => by
      by_cases hk : k < (partsB path).length
      · rw [wayZ_snd l _ _ _ hk]
        exact Nat.le_trans ((parts_small (s := path)).2 k) (by decide)
      · unfold nthZ; rw [List.getD_eq_getElem?_getD, List.getElem?_eq_none (by rw [wayZ_len]; omega)]; simp)
    clear HUPW HUPY
    go_wp2_with (go_at_call 104; refine (fileFits_any x n cap l xf cf _ x1 nf d (partsB path) B _ _ _ HL3.out (Nat.le_trans hB hs3) HZ.out HST.out HFO.out (Nat.le_refl _) HN3.out (Nat.le_refl _) i HI.out (by omega) hvi).mono ?_; rintro e w4 ⟨rfl, hb⟩; rw [hfit]; have HB4 := Lib.hid (HB3.out.trans (hb.mono hs3)); have hs4 := HB4.out.size; have HL4 := Lib.hid (HL3.out.below hb (Nat.le_trans hB hs3)); have HN4 := Lib.hid ((HN3.out.below hb (Nat.le_refl _)).more hb.size); have HFO4 := Lib.hid ((HFO.out.below hb (Nat.le_refl _)).more hb.size); clear hb)
    refine (implFileText_any content _ hc).mono ?_
    rintro e w5 ⟨rfl, hb⟩
    have HB5 := Lib.hid (HB4.out.trans (hb.mono hs4)); have HL5 := Lib.hid (HL4.out.below hb (Nat.le_trans hB hs4)); have HN5 := Lib.hid ((HN4.out.below hb (Nat.le_refl _)).more hb.size); have HFO5 := Lib.hid ((HFO4.out.below hb (Nat.le_refl _)).more hb.size)
    have hs5 := HB5.out.size
    clear hb
    go_wp2_with fail
    refine (putUp_any x n cap l root xf cf x1 nf d (wayZ l root (partsB path)) (fileB content) B _ _ _ HL5.out (Nat.le_trans hB hs5) HZ.out HST.out HFO5.out (Nat.le_refl _) (by rw [HM2.out]; exact HN5.out) (Nat.le_refl _) (by omega) way_ents HSM.out hfs).mono ?_
    rintro e w6 ⟨v6, rfl, ho, hb⟩
    have HO6 := Lib.hid (ho.mono hs5); have HB6 := Lib.hid (HB5.out.trans (hb.mono hs5))
    clear ho hb
    go_wp2_with fail
    go_ret3
    exact newPut_up HF.out HO6.out HB6.out
end Go.Proofs.YtglajbmopiolhaaGreatDoor
