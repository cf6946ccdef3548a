/-
  The draws of chapter 12: a root, a path and a proof that often is right.
-/
import Derived.Test.YtojebghaegimbaaGreatDoorDraw15
import Derived.Test.YtojebghaegimbaaGreatDoorModel12b
import Derived.Deep.CutRange
import Derived.Deep.CutBlock
namespace Go.Proofs.YtojebghaegimbaaGreatDoor
open Go.RowKit
set_option linter.unusedVariables false
theorem drawPathProof_any (x : Option Addr) (n cap : Nat) (w : World) (h : Bytes w.heap.size w x n) (hn : n ≤ cap) (hc : cap ≤ maxLen) :
    Calls Tryz.prog 7 #[.slice x n cap] w (WhereOut w) := by
  go_enter Tryz.func7, Tryz.ntmps7
  go_wp2_with fail
  refine (l20Where_any x n cap w h hn hc).mono ?_
  rintro e w1 ⟨y, m, c, l, p, path, rfl, h1, h2, h3, h4, h5⟩
  go_wp2_with fail
  go_ret3
  exact ⟨y, m, c, l, p, path, rfl, h1, h2, h3, h4, h5⟩
theorem drawAbsenceProof_any (x : Option Addr) (n cap : Nat) (w : World) (h : Bytes w.heap.size w x n) (hn : n ≤ cap) (hc : cap ≤ maxLen) :
    Calls Tryz.prog 19 #[.slice x n cap] w (WhereOut w) := by
  go_enter Tryz.func19, Tryz.ntmps19
  go_wp2_with fail
  refine (l20Where_any x n cap w h hn hc).mono ?_
  rintro e w1 ⟨y, m, c, l, p, path, rfl, h1, h2, h3, h4, h5⟩
  go_wp2_with fail
  go_ret3
  exact ⟨y, m, c, l, p, path, rfl, h1, h2, h3, h4, h5⟩
/-- A drawn root, a path and texts. -/
def PrfOut (w : World) (e : Ending) (w' : World) : Prop := ∃ (root : Int) (path : ByteArray) (y : Option Addr) (m c : Nat) (L : List ByteArray), e = .returned (.tuple #[.int .i64 root, .string path, .slice y m c]) ∧ L.length ≤ 10 ∧ (∀ k, (nthS L k).size ≤ 61) ∧ path.size ≤ 1000 ∧ Strs w' w'.heap.size y m c L ∧ Below w.heap.size w w'
def adds12 : List ByteArray := [⟨#[102, 104, 105]⟩, ⟨#[100]⟩, ⟨#[]⟩]
def turns12 : List ByteArray := [⟨#[102, 104, 111]⟩, ⟨#[100]⟩, ⟨#[10]⟩]
theorem adds12_size (j : Nat) : (adds12.getD j ByteArray.empty).size ≤ 61 := by
  rcases j with _ | _ | _ | j <;> simp [adds12, List.getD] <;> decide
theorem turns12_size (j : Nat) : (turns12.getD j ByteArray.empty).size ≤ 61 := by
  rcases j with _ | _ | _ | j <;> simp [turns12, List.getD] <;> decide
theorem own_shapeS {w : World} {base m : Nat} {v : Value} {l : List ByteArray} (h : OwnS w base v l) (hl : l.length = m) (hm : 0 < m) : ∃ g c, v = .slice (some ⟨g, 0, none⟩) m c ∧ base ≤ g ∧ g < w.heap.size ∧ w.ownsRow base 9 1 (.slice (some ⟨g, 0, none⟩) m c) m (l.flatMap strG) := by
  have h' : w.ownsRow base 9 1 v l.length (l.flatMap strG) := h
  rw [hl] at h'
  rcases h'.2 with ⟨_, h2⟩ | ⟨g, c, cur, rfl, h1, h2, h3, h4, _⟩
  · omega
  · exact ⟨g, c, rfl, h1, (Array.getElem?_eq_some_iff.1 h2).1, h'⟩
theorem every_put {L : List ByteArray} {t : ByteArray} {k m : Nat} (h : ∀ j, (nthS L j).size ≤ m) (ht : t.size ≤ m) (j : Nat) : (nthS (L.set k t) j).size ≤ m := nthS_all (fun q hq => by
  rcases List.mem_or_eq_of_mem_set hq with h1 | h1
  · exact nthS_every h q h1
  · rw [h1]; exact ht) j
theorem every_snoc {L : List ByteArray} {t : ByteArray} {m : Nat} (h : ∀ j, (nthS L j).size ≤ m) (ht : t.size ≤ m) (j : Nat) : (nthS (L ++ [t]) j).size ≤ m := nthS_all (fun q hq => by
  rcases List.mem_append.1 hq with h1 | h1
  · exact nthS_every h q h1
  · rw [List.mem_singleton.1 h1]; exact ht) j
set_option maxHeartbeats 2000000 in
set_option maxRecDepth 100000 in
theorem l20Proof_any (xx : Option Addr) (nn cap : Nat) (w : World) (h : Bytes w.heap.size w xx nn) (hn : nn ≤ cap) (hc : cap ≤ maxLen) :
    Calls Tryz.prog 34 #[.slice xx nn cap] w (PrfOut w) := by
  have HH := Lib.hid h
  have HN := Lib.hid hn; have HC := Lib.hid hc
  clear h hn hc
  go_enter Tryz.func34, Tryz.ntmps34
  go_wp2_with fail
  refine (l20Where_any xx nn cap w HH.out HN.out HC.out).mono ?_
  rintro e w1 ⟨xs, ns, cs, l, p, path, rfl, h1, h2, h3, h4, h5⟩
  have HB := Lib.hid h5; have HL := Lib.hid h4; have HS := Lib.hid h2
  have hw1 := h5.size
  clear h2 h4 h5
  go_wp2_with fail
  refine (open_any xx nn cap w1 (HH.out.up HB.out) HN.out HC.out).mono ?_
  rintro e w2 ⟨rfl, hr, hb⟩
  have HR := Lib.hid hr; have HB2 := Lib.hid (HB.out.trans (hb.mono hw1)); have HL2 := Lib.hid ((HL.out.below hb (Nat.le_refl _)).more hb.size)
  have hw2 := hb.size
  clear hr hb
  obtain ⟨r, hrr⟩ : ∃ r, r = w1.heap.size := ⟨_, rfl⟩
  rw [← hrr] at HR ⊢
  have hwr : w.heap.size ≤ r := by omega
  have hrw : r < w2.heap.size := HR.out.lt
  clear hrr hw2
  have HZ := Lib.hid (short_mil HS.out)
  have hps : path.size ≤ 1048576 := by omega
  go_wp2_with fail
  refine (specPathProof_any xs ns cs l p path _ _ HL2.out (Nat.le_refl _) HZ.out hps).mono ?_
  rintro e w3 ⟨v3, rfl, ho, hb⟩
  obtain ⟨x3, m3, c3, rfl, _⟩ := ho.lst
  have HR3 := Lib.hid (HR.out.below hb); have HB3 := Lib.hid (HB2.out.trans (hb.mono HB2.out.size)); have HL3 := Lib.hid (HL2.out.below hb (Nat.le_refl _)); have HO3 := Lib.hid ho
  have hs3 := hb.size
  clear ho hb
  have HT4 := Lib.hid (texts_few (l := l) (root := p) (path := path)); have HT60 := Lib.hid (texts_60 (root := p) (path := path) HS.out)
  have HG4 := Lib.hid (gone_len (l := l) (root := p) (path := path)); have HG60 := Lib.hid (gone_60 (root := p) (path := path) HS.out)
  obtain ⟨T, hT⟩ : ∃ T, ppTexts l p path = T := ⟨_, rfl⟩
  rw [hT] at HO3 HT4 HT60
  clear hT
  obtain ⟨bz, hbz⟩ : ∃ b, ((m3 : Int) == 0) = b := ⟨_, rfl⟩
  go_upto_if 24 with fail
  go_cut [9] from 22 to 28 (fun s9 wx => ∃ (xp : Option Addr) (np cp : Nat) (L : List ByteArray), s9 = .slice xp np cp ∧ OwnS wx w2.heap.size (.slice xp np cp) L ∧ L.length ≤ 4 ∧ Hid (∀ k, (nthS L k).size ≤ 61) ∧ Rd r wx r 0 ∧ w2.heap.size ≤ wx.heap.size ∧ Below w.heap.size w wx)
  case first =>
    cases bz
    · go_wp2_with fail
      go_meet
      case rel => exact ⟨_, _, _, T, rfl, HO3.out, HT4.out, Lib.hid (fun k => nthS_all (fun q hq => Nat.le_trans (HT60.out q hq) (by decide)) k), HR3.out, hs3, HB3.out⟩
    · go_wp2_with fail
      refine (specAbsenceProof_any xs ns cs l p path _ _ HL3.out hs3 HZ.out hps).mono ?_
      rintro e w4 ⟨v4, rfl, ho, hb⟩
      obtain ⟨x4, m4, c4, rfl, _⟩ := ho.lst
      have HR4 := Lib.hid (HR3.out.below hb); have HB4 := Lib.hid (HB3.out.trans (hb.mono HB3.out.size)); have HO4 := Lib.hid (ho.mono hs3)
      have h24 := Nat.le_trans hs3 hb.size
      clear ho hb
      go_wp2_with fail
      go_meet
      case rel => exact ⟨_, _, _, _, rfl, HO4.out, HG4.out, Lib.hid (fun k => nthS_all (fun q hq => Nat.le_trans (HG60.out q hq) (by decide)) k), HR4.out, h24, HB4.out⟩
  case rest =>
    rename World => W
    obtain ⟨xp, np, cp, L, rfl, ho, hl4, HZL, hr, h2W, hb⟩ := hcut
    have HO := Lib.hid ho; have HRW := Lib.hid hr; have HBW := Lib.hid hb
    have HLEN := Lib.hid ho.lst'.len
    have hsW := hb.size
    clear ho hr hb hbz
    go_wp2_with fail
    refine (pickN_any 8 r r 0 _ _ W HRW.out (grownBy_refl _ _) rfl (by decide) (by decide) (by omega)).mono ?_
    rintro e w4 ⟨j, rfl, hj, hr, hg, _⟩
    have HR4 := Lib.hid hr; have HB4 := Lib.hid (HBW.out.trans (below_grownBy hg hsW hwr)); have HO4 := Lib.hid (own_keptL HO.out hg hrw)
    have hs4 := HB4.out.size
    have h24 := Nat.le_trans h2W hg.size
    clear hr hg
    have HFIN := Lib.hid (show ∀ (wz : World) (q : Int) (s : ByteArray), s.size ≤ 1000 → Below w.heap.size w wz → OwnS wz w2.heap.size (.slice xp np cp) L → PrfOut w (.returned (.tuple #[.int .i64 q, .string s, .slice xp np cp])) wz from fun wz q s hs hb ho => ⟨q, s, xp, np, cp, L, rfl, by omega, HZL.out, hs, ho.lst', hb⟩)
    by_cases j0 : j = 0
    · subst j0
      go_wp2_with fail
      refine (l20Print_any r r _ _ _ HR4.out (by omega) (by omega)).mono ?_
      rintro e w5 ⟨q, rfl, _, _, hr, hg⟩
      have HB5 := Lib.hid (HB4.out.trans (below_grownBy hg hs4 hwr)); have HO5 := Lib.hid (own_keptL HO4.out hg hrw)
      clear hr hg
      go_wp2_with fail
      go_ret3
      exact HFIN.out _ _ _ h3 HB5.out HO5.out
    have d0 : ((j : Int) == 0) = false := by simp; omega
    by_cases j1 : j = 1
    · subst j1
      go_wp2_with fail
      refine (l20Path_any r r _ _ _ HR4.out (by omega) (by omega)).mono ?_
      rintro e w5 ⟨s, rfl, hs, _, hr, hg⟩
      have hs60 := paths_size s hs
      have HB5 := Lib.hid (HB4.out.trans (below_grownBy hg hs4 hwr)); have HO5 := Lib.hid (own_keptL HO4.out hg hrw)
      clear hr hg hs
      go_wp2_with fail
      go_ret3
      exact HFIN.out _ _ _ (by omega) HB5.out HO5.out
    have d1 : ((j : Int) == 1) = false := by simp; omega
    by_cases j2 : j = 2
    · subst j2
      go_wp2_with fail
      refine (pickStr_any adds12 r r _ _ _ w4 HR4.out rfl rfl (by decide) (by decide) (by omega)).mono ?_
      rintro e w5 ⟨i, rfl, hi, hcell, hr, hg⟩
      have hi3 : i < 3 := hi
      have hii : (i : Int) < 3 := by omega
      have hi0 : (0 : Int) ≤ (i : Int) := by omega
      have hsz := adds12_size i
      have HB5 := Lib.hid (HB4.out.trans (below_grownBy hg hs4 hwr)); have HO5 := Lib.hid (own_keptL HO4.out hg hrw)
      obtain ⟨s, hs⟩ : ∃ s, adds12.getD i ByteArray.empty = s := ⟨_, rfl⟩
      rw [hs] at hcell hsz
      have hs5 := HB5.out.size
      have h25 : w2.heap.size ≤ w5.heap.size := Nat.le_trans h24 hg.size
      clear hr hg hs hi
      go_wp2_with (at_builtin; refine wpList_app1L eltStr encStr s _ rfl HO5.out (by omega) h25 rfl _ _ rfl rfl rfl ?_; intro v' w' hown hgrow; obtain ⟨x6, n6, c6, rfl, hi6⟩ := hown.lst; have HX6 := Lib.hid hi6; have HB6 := Lib.hid (HB5.out.grown hgrow hs5 (fun q e => Nat.le_trans (Nat.le_trans hwr (Nat.le_of_lt hrw)) (OwnL.at HO5.out q e))); clear hown hgrow hi6)
      go_ret3
      exact ⟨p, path, x6, n6, c6, L ++ [s], rfl, by rw [List.length_append]; simp; omega, every_snoc HZL.out hsz, h3, HX6.out, HB6.out⟩
    have d2 : ((j : Int) == 2) = false := by simp; omega
    by_cases j3 : j = 3
    · subst j3
      by_cases hnp : np = 0
      · have hd : ¬ ((0 : Int) < (np : Int)) := by omega
        clear hnp
        go_wp2_with fail
        go_ret3
        exact HFIN.out _ _ _ h3 HB4.out HO4.out
      · have hd : (0 : Int) < (np : Int) := by omega
        obtain ⟨g, cc, he, hg2, _, _⟩ := own_shapeS HO4.out HLEN.out (by omega)
        simp only [Value.slice.injEq] at he
        obtain ⟨rfl, _, rfl⟩ := he
        have hnp3 : (np : Int) ≤ 1000000 := by have := HLEN.out; omega
        clear hnp
        go_wp2_with fail
        refine (pick_any r r _ _ _ HR4.out (by omega) hnp3).mono ?_
        rintro e w5 ⟨z, rfl, ⟨hz0, hz1, _⟩, hr, hg5⟩
        obtain ⟨k, rfl⟩ := Int.eq_ofNat_of_zero_le hz0
        have hkn : k < np := by have := hz1 (by omega); omega
        have hkni : (k : Int) < (np : Int) := by omega
        have HR5 := Lib.hid hr; have HB5 := Lib.hid (HB4.out.trans (below_grownBy hg5 hs4 hwr)); have HO5 := Lib.hid (own_keptL HO4.out hg5 hrw)
        have hs5 := HB5.out.size
        clear hr hg5 hz1
        go_wp2_with fail
        refine (pickStr_any turns12 r r _ _ _ w5 HR5.out rfl rfl (by decide) (by decide) (by omega)).mono ?_
        rintro e w6 ⟨i, rfl, hi, hcell, hr, hg6⟩
        have hii : (i : Int) < 3 := by have : i < 3 := hi; omega
        have hi0 : (0 : Int) ≤ (i : Int) := by omega
        have hsz := turns12_size i
        have HB6 := Lib.hid (HB5.out.trans (below_grownBy hg6 hs5 hwr)); have HO6 := Lib.hid (own_keptL HO5.out hg6 hrw)
        obtain ⟨s, hs⟩ : ∃ s, turns12.getD i ByteArray.empty = s := ⟨_, rfl⟩
        rw [hs] at hcell hsz
        have hrow : w6.ownsRow w2.heap.size 9 1 (.slice (some ⟨g, 0, none⟩) np cp) np (L.flatMap strG) := by
          have h' : w6.ownsRow w2.heap.size 9 1 (.slice (some ⟨g, 0, none⟩) np cp) L.length (L.flatMap strG) := HO6.out
          rwa [HLEN.out] at h'
        have hst := hrow.stored k (.string s)
        have hset : (L.flatMap strG).set k (.string s) = (L.set k s).flatMap strG := by rw [strG_map, strG_map, List.map_set]
        rw [hset] at hst
        have HST := Lib.hid (show OwnS (w6.setCell ⟨g, k, none⟩ (.string s)) w2.heap.size (.slice (some ⟨g, 0, none⟩) np cp) (L.set k s) by
          have := hst.1
          rw [← HLEN.out] at this
          show World.ownsRow _ _ _ _ _ _ _
          rw [List.length_set, HLEN.out]
          rw [HLEN.out] at this
          exact this)
        have HB7 := Lib.hid (HB6.out.grown hst.2 HB6.out.size (fun q e => by simp at e; omega))
        have hcc := (hrow.cellAt k (by omega))
        have hff := hrow.frozenAt k
        rw [strG_map, List.getElem?_map, nthS_some (by have := HLEN.out; omega)] at hcc
        clear hr hg6 hs hi hst hset hrow hz0
        go_wp2_with fail
        go_ret3
        exact ⟨p, path, _, np, cp, L.set k s, rfl, by rw [List.length_set]; omega, every_put HZL.out hsz, h3, HST.out.lst', HB7.out⟩
    have d3 : ((j : Int) == 3) = false := by simp; omega
    go_wp2_with fail
    go_ret3
    exact HFIN.out _ _ _ h3 HB4.out HO4.out
theorem drawProofContent_any (x : Option Addr) (n cap : Nat) (w : World) (h : Bytes w.heap.size w x n) (hn : n ≤ cap) (hc : cap ≤ maxLen) :
    Calls Tryz.prog 14 #[.slice x n cap] w (PrfOut w) := by
  go_enter Tryz.func14, Tryz.ntmps14
  go_wp2_with fail
  refine (l20Proof_any x n cap w h hn hc).mono ?_
  rintro e w1 ⟨p, path, y, m, c, L, rfl, h1, h2, h3, h4, h5⟩
  go_wp2_with fail
  go_ret3
  exact ⟨p, path, y, m, c, L, rfl, h1, h2, h3, h4, h5⟩
end Go.Proofs.YtojebghaegimbaaGreatDoor
