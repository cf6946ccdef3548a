/-
  Draws of chapters 7 and 8: contents, files' texts, kinds, paths.
-/
import Derived.Test.YtmjhhjnolelheaaDraw12
import Derived.Test.YtmjhhjnolelheaaDraw5
namespace Go.Proofs.Ytmjhhjnolelheaa
open Go.RowKit
set_option linter.unusedVariables false
theorem drawContentValid_any (x : Option Addr) (n cap : Nat) (w : World) (h : Bytes w.heap.size w x n) (hn : n ≤ cap) (hc : cap ≤ maxLen) :
    Calls Try.prog 11 #[.slice x n cap] w (StrOut (texts1 ++ texts2) w) := by
  go_enter Try.func11, Try.ntmps11
  go_wp2_with (first
    | (go_at_call 27; refine (open_any x n cap w h hn hc).mono ?_; rintro e w1 ⟨rfl, hr, hb⟩; have HR := Lib.hid hr; have HB := Lib.hid hb; clear hr hb)
    | (go_at_call 26; refine (l20Text_any w.heap.size w.heap.size 0 _ _ HR.out (by omega) (by omega)).mono ?_; rintro e w2 ⟨s, rfl, hs, hr, hg⟩; have HS := Lib.hid hs; have HG := Lib.hid hg; clear hs hr hg))
  go_ret
  exact ⟨_, rfl, HS.out, HB.out.trans (below_grownBy HG.out HB.out.size (Nat.le_refl _))⟩
theorem drawFileText_any (x : Option Addr) (n cap : Nat) (w : World) (h : Bytes w.heap.size w x n) (hn : n ≤ cap) (hc : cap ≤ maxLen) :
    Calls Try.prog 16 #[.slice x n cap] w (StrOut (texts1 ++ texts2) w) := by
  go_enter Try.func16, Try.ntmps16
  go_wp2_with (first
    | (go_at_call 27; refine (open_any x n cap w h hn hc).mono ?_; rintro e w1 ⟨rfl, hr, hb⟩; have HR := Lib.hid hr; have HB := Lib.hid hb; clear hr hb)
    | (go_at_call 26; refine (l20Text_any w.heap.size w.heap.size 0 _ _ HR.out (by omega) (by omega)).mono ?_; rintro e w2 ⟨s, rfl, hs, hr, hg⟩; have HS := Lib.hid hs; have HG := Lib.hid hg; clear hs hr hg))
  go_ret
  exact ⟨_, rfl, HS.out, HB.out.trans (below_grownBy HG.out HB.out.size (Nat.le_refl _))⟩
/-! ### a file's text: what its operations yield, in whatever order they run -/
def pres : List ByteArray := [⟨#[]⟩, ⟨#[102]⟩, ⟨#[]⟩]
theorem texts_size : ∀ s ∈ texts1 ++ texts2, s.size ≤ 61 := by decide +kernel
theorem pres_size : ∀ p ∈ pres, p.size ≤ 1 := by decide
def RfF (r : Nat) : Nat → Value → World → Prop
  | 0, v, w => ∃ kb, v = .slice (some ⟨kb, 0, none⟩) 3 3 ∧ kb ≠ r ∧ ∀ j, j < 3 → w.cell? ⟨kb, j, none⟩ = some (.string (nthS pres j))
  | 1, v, _ => v = .pointer (some ⟨r, 0, none⟩)
  | 2, v, _ => ∃ j : Nat, j < 3 ∧ v = .int .i64 j
  | 3, v, w => ∃ kb j, j < 3 ∧ v = .pointer (some ⟨kb, j, none⟩) ∧ kb ≠ r ∧ w.cell? ⟨kb, j, none⟩ = some (.string (nthS pres j))
  | 4, v, _ => ∃ p ∈ pres, v = .string p
  | 5, v, _ => v = .pointer (some ⟨r, 0, none⟩)
  | 6, v, _ => ∃ t ∈ texts1 ++ texts2, v = .string t
  | _, v, _ => ∃ p ∈ pres, ∃ t ∈ texts1 ++ texts2, v = .string (p ++ t)
theorem rfF_mono {r : Nat} : ∀ (k : Nat) (v : Value) (w w' : World), w.grownBy w' (some r) → RfF r k v w → RfF r k v w'
  | 0, v, w, w', hg, h => by
    obtain ⟨kb, h1, h2, h3⟩ := h
    exact ⟨kb, h1, h2, fun j hj => hg.cell (a := ⟨kb, j, none⟩) (h3 j hj) (by simp; exact h2)⟩
  | 1, v, w, w', hg, h => h
  | 2, v, w, w', hg, h => h
  | 3, v, w, w', hg, h => by
    obtain ⟨kb, j, hj, h1, h2, h3⟩ := h
    exact ⟨kb, j, hj, h1, h2, hg.cell (a := ⟨kb, j, none⟩) h3 (by simp; exact h2)⟩
  | 4, v, w, w', hg, h => h
  | 5, v, w, w', hg, h => h
  | 6, v, w, w', hg, h => h
  | _ + 7, v, w, w', hg, h => h
def RfG (B r : Nat) (w0 : World) (L : Nat → Bool) (w : World) : Prop := w0.grownBy w (some r) ∧ Rd B w r ((if L 2 = true then 1 else 0) + (if L 6 = true then 2 else 0))
theorem rfG_same {B r k : Nat} {w0 w : World} {L : Nat → Bool} (h : RfG B r w0 L w) (h2 : k ≠ 2 := by decide) (h6 : k ≠ 6 := by decide) : RfG B r w0 (fun j => j == k || L j) w := by
  refine ⟨h.1, ?_⟩
  have e2 : ((2 == k) || L 2) = L 2 := by simp [Ne.symm h2]
  have e6 : ((6 == k) || L 6) = L 6 := by simp [Ne.symm h6]
  show Rd B w r ((if ((2 == k) || L 2) = true then 1 else 0) + (if ((6 == k) || L 6) = true then 2 else 0))
  rw [e2, e6]; exact h.2
theorem nthS_mem' {l : List ByteArray} {j : Nat} (h : j < l.length) : nthS l j ∈ l := by rw [nthS_get h]; exact List.getElem_mem _
theorem drawReadFile_any (x : Option Addr) (n cap : Nat) (w : World) (h : Bytes w.heap.size w x n) (hn : n ≤ cap) (hc : cap ≤ maxLen) :
    Calls Try.prog 20 #[.slice x n cap] w fun e w' => ∃ p ∈ pres, ∃ t ∈ texts1 ++ texts2, e = .returned (.string (p ++ t)) ∧ Below w.heap.size w w' := by
  go_enter Try.func20, Try.ntmps20
  go_wp2_with fail
  refine (open_any x n cap w h hn hc).mono ?_
  rintro e w1 ⟨rfl, hr, hb⟩
  have HR := Lib.hid hr; have HB := Lib.hid hb; clear hr hb h hn hc
  obtain ⟨r, hrr⟩ : ∃ r, r = w.heap.size := ⟨_, rfl⟩
  rw [← hrr] at HR HB ⊢
  have HRR := Lib.hid hrr
  clear hrr
  go_wp2
  have HG0 := Lib.hid (show RfG r r w1.drew (fun _ => false) w1.drew from ⟨grownBy_refl _ _, rd_drew HR.out⟩)
  have hB0 := Lib.hid (show Below r w w1.drew from HB.out.drew)
  refine region_facts (fun w w' => w.grownBy w' (some r)) (RfG r r w1.drew) (RfF r) (by kernel_rfl) (by kernel_rfl) (by kernel_rfl) rfF_mono HG0.out ?_ ?_
  · refine ⟨?_, ?_, ?_, ?_, ?_, ?_, ?_, ?_, ?_, trivial⟩
    · intro L v aa ww hA hG hF hl hd K hK
      have HK := Lib.hid hK; have HGG := Lib.hid hG
      have hlt := hG.2.lt
      clear hA hG hF hl hd hK
      go_simp
      refine HK.out _ _ ⟨_, rfl, World.grownBy_alloc _ _ _, rfG_same ⟨grownBy_alloc' HGG.out.1 _, rd_alloc HGG.out.2 _⟩, ⟨ww.heap.size, rfl, by omega, fun j hj => ?_⟩⟩
      obtain rfl | rfl | rfl : j = 0 ∨ j = 1 ∨ j = 2 := by omega
      · exact cell_new _ _ _ 0 _ rfl
      · exact cell_new _ _ _ 1 _ rfl
      · exact cell_new _ _ _ 2 _ rfl
    · intro L v aa ww hA hG hF hl hd K hK
      have HK := Lib.hid hK; have HGG := Lib.hid hG
      have k3 := hA.keep 3 (.pointer (some ⟨r, 0, none⟩)) rfl rfl
      clear hA hG hF hl hd hK
      go_simp
      exact HK.out _ _ ⟨_, rfl, grownBy_refl _ _, rfG_same HGG.out, rfl⟩
    · intro L v aa ww hA hG hF hl hd K hK
      have HK := Lib.hid hK; have HGG := Lib.hid hG
      have l1 : L 1 = true := by have h := hd; simp [Region.binds] at h; simp [h]
      have f1 : RfF r 1 (v 1) ww := hF 1 l1
      have b1 := hA.at' 1 _ 7 rfl rfl rfl
      rw [show v 1 = _ from f1] at b1
      have HRD := Lib.hid hG.2
      have HL2 := Lib.hid hl
      clear hA hG hF hl hd hK f1 l1
      go_simp
      go_at_call 32
      refine (pickN_any 3 r r _ _ _ ww HRD.out (grownBy_refl _ _) rfl (by decide) (by decide) (by split <;> split <;> omega)).mono ?_
      rintro e w3 ⟨j, rfl, hj, hr, hg, _⟩
      refine HK.out _ _ ⟨_, rfl, hg, ⟨grownBy_trans HGG.out.1 hg, ?_⟩, ⟨j, hj, rfl⟩⟩
      rw [HL2.out] at hr
      refine hr.more ?_
      simp
      omega
    · intro L v aa ww hA hG hF hl hd K hK
      have HK := Lib.hid hK; have HGG := Lib.hid hG
      simp [Region.binds] at hd
      obtain ⟨kb, e0, hne, hc⟩ := hF 0 hd.1
      obtain ⟨j, hj, e2⟩ := hF 2 hd.2
      have HC := Lib.hid (hc j hj)
      have b0 := hA.at' 0 _ 6 rfl rfl rfl
      have b2 := hA.at' 2 _ 8 rfl rfl rfl
      rw [e0] at b0
      rw [e2] at b2
      clear hK hF hG hd hl hc hA e0 e2
      have hj0 : (j : Int) < 3 := by omega
      go_simp
      exact HK.out _ _ ⟨_, rfl, grownBy_refl _ _, rfG_same HGG.out, ⟨kb, j, hj, rfl, hne, HC.out⟩⟩
    · intro L v aa ww hA hG hF hl hd K hK
      have HK := Lib.hid hK; have HGG := Lib.hid hG
      simp [Region.binds] at hd
      obtain ⟨kb, j, hj, e3, hne, hc⟩ := hF 3 hd
      have b3 := hA.at' 3 _ 9 rfl rfl rfl
      rw [e3] at b3
      clear hK hF hG hd hl hA e3
      go_simp
      exact HK.out _ _ ⟨_, rfl, grownBy_refl _ _, rfG_same HGG.out, ⟨_, nthS_mem' hj, rfl⟩⟩
    · intro L v aa ww hA hG hF hl hd K hK
      have HK := Lib.hid hK; have HGG := Lib.hid hG
      have k3 := hA.keep 3 (.pointer (some ⟨r, 0, none⟩)) rfl rfl
      clear hA hG hF hl hd hK
      go_simp
      exact HK.out _ _ ⟨_, rfl, grownBy_refl _ _, rfG_same HGG.out, rfl⟩
    · intro L v aa ww hA hG hF hl hd K hK
      have HK := Lib.hid hK; have HGG := Lib.hid hG
      have l5 : L 5 = true := by have h := hd; simp [Region.binds] at h; simp [h]
      have f5 : RfF r 5 (v 5) ww := hF 5 l5
      have b5 := hA.at' 5 _ 11 rfl rfl rfl
      rw [show v 5 = _ from f5] at b5
      have HRD := Lib.hid hG.2
      have HL6 := Lib.hid hl
      clear hA hG hF hl hd hK f5 l5
      go_simp
      go_at_call 26
      refine (l20Text_any r r _ _ ww HRD.out (by split <;> split <;> omega) (by omega)).mono ?_
      rintro e w3 ⟨t, rfl, ht, hr, hg⟩
      refine HK.out _ _ ⟨_, rfl, hg, ⟨grownBy_trans HGG.out.1 hg, ?_⟩, ⟨t, ht, rfl⟩⟩
      rw [HL6.out] at hr
      refine hr.more ?_
      simp
    · intro L v aa ww hA hG hF hl hd K hK
      have HK := Lib.hid hK; have HGG := Lib.hid hG
      simp [Region.binds] at hd
      obtain ⟨p, hp, e4⟩ := hF 4 hd.1
      obtain ⟨t, ht, e6⟩ := hF 6 hd.2
      have b4 := hA.at' 4 _ 10 rfl rfl rfl
      have b6 := hA.at' 6 _ 12 rfl rfl rfl
      rw [e4] at b4
      rw [e6] at b6
      have HP := Lib.hid hp; have HT := Lib.hid ht
      have hif : ¬ 9223372036854775807 < p.size + t.size := by have := pres_size p hp; have := texts_size t ht; omega
      clear hK hF hG hd hl hA e4 e6 hp ht
      go_simp
      exact HK.out _ _ ⟨_, rfl, grownBy_refl _ _, rfG_same HGG.out, ⟨p, HP.out, t, HT.out, rfl⟩⟩
    · intro L v aa ww hA hG hF hl hd K hK
      have HK := Lib.hid hK; have HGG := Lib.hid hG
      simp [Region.binds] at hd
      obtain ⟨p, hp, t, ht, e7⟩ := hF 7 hd.1
      have b7 := hA.at' 7 _ 13 rfl rfl rfl
      rw [e7] at b7
      have HP := Lib.hid hp; have HT := Lib.hid ht
      clear hK hF hG hd hl hA e7 hp ht
      go_simp
      exact HK.out _ _ ⟨_, rfl, grownBy_refl _ _, rfG_same HGG.out, ⟨p, HP.out, t, HT.out, rfl⟩⟩
  · intro L v ww hF hL hG
    obtain ⟨p, hp, t, ht, e8⟩ : RfF r 8 (v 8) ww := hF 8 (by decide)
    have HGG := Lib.hid hG; have HP := Lib.hid hp; have HT := Lib.hid ht
    clear hF hL hG hp ht
    simp only [frameOf, Act.put, List.setIfInBounds_toArray, List.set_cons_succ, List.set_cons_zero]
    rw [e8]
    clear e8
    go_wp2
    go_ret
    refine ⟨p, HP.out, t, HT.out, rfl, ?_⟩
    rw [← HRR.out]
    exact hB0.out.trans (below_grownBy HGG.out.1 (by rw [HRR.out]; exact hB0.out.size) (Nat.le_refl _))
/-- What a kind is drawn of. -/
def kindTexts (s f t : ByteArray) : List ByteArray := [s, f, t, ⟨#[100, 97, 61, 55, 59, 98]⟩]
theorem contents_size : ∀ s ∈ contents4, (fileB s).size ≤ 61 := by decide +kernel
theorem contents_small : ∀ s ∈ contents4, s.size ≤ 61 := by decide +kernel
theorem drawTextKind_any (x : Option Addr) (n cap : Nat) (w : World) (h : Bytes w.heap.size w x n) (hn : n ≤ cap) (hc : cap ≤ maxLen) :
    Calls Try.prog 22 #[.slice x n cap] w (TextOut 61 w) := by
  go_enter Try.func22, Try.ntmps22
  go_wp2_with fail
  refine (open_any x n cap w h hn hc).mono ?_
  rintro e w1 ⟨rfl, hr, hb⟩
  have HR := Lib.hid hr; have HB := Lib.hid hb; clear hr hb
  go_wp2_with fail
  refine (l20Entries_any w.heap.size w.heap.size 0 _ _ HR.out (by omega) (by omega)).mono ?_
  rintro e w2 ⟨v, l, rfl, hl, hz, ho, hr, hg⟩
  obtain ⟨y, m, c, rfl, hi⟩ := ho.lst
  have HI := Lib.hid hi; have HR2 := Lib.hid hr; have HB2 := Lib.hid (HB.out.trans (below_grownBy hg HB.out.size (Nat.le_refl _))); clear ho hr hg hi
  go_wp2_with fail
  refine (specFolderText_any _ _ _ l _ _ HI.out (nines_max hz)).mono ?_
  rintro e w3 ⟨rfl, hq⟩
  have hsz := folder_size l
  obtain ⟨s, hs⟩ : ∃ s, folderB l = s := ⟨_, rfl⟩
  rw [hs] at hsz ⊢
  have hb3 := below_quietN (Below.refl w2.heap.size w2) hq
  have HR3 := Lib.hid (HR2.out.below hb3); have HB3 := Lib.hid (HB2.out.trans (hb3.mono HB2.out.size))
  clear hq hb3 hs hl hz HI
  go_wp2_with fail
  refine (l20Content_any w.heap.size w.heap.size _ _ HR3.out (by omega)).mono ?_
  rintro e w4 ⟨q, rfl, hq, hr, hg⟩
  have hq61 := contents_size q hq
  have hqs := contents_small q hq
  have HR4 := Lib.hid hr; have HB4 := Lib.hid (HB3.out.trans (below_grownBy hg HB3.out.size (Nat.le_refl _))); clear hr hg hq
  go_wp2_with fail
  refine (specFileText_any q _ (by omega)).mono ?_
  rintro e w' ⟨rfl, hw⟩
  subst w'
  obtain ⟨f, hf⟩ : ∃ f, fileB q = f := ⟨_, rfl⟩
  rw [hf] at hq61 ⊢
  clear hf
  go_wp2_with fail
  refine (l20Text_any w.heap.size w.heap.size _ _ _ HR4.out (by omega) (by omega)).mono ?_
  rintro e w5 ⟨t, rfl, ht, hr, hg⟩
  have ht61 := texts_size t ht
  have HR5 := Lib.hid hr; have HB5 := Lib.hid (HB4.out.trans (below_grownBy hg HB4.out.size (Nat.le_refl _))); clear hr hg ht
  have hs5 := HB5.out.size
  go_wp2_with fail
  refine (pickStr_any (kindTexts s f t) w.heap.size w.heap.size _ _ _ _ HR5.out rfl rfl (show 1 ≤ 4 by decide) (show 4 ≤ 1000 by decide) (by omega)).mono ?_
  rintro e w6 ⟨j, rfl, hj, hcell, hr, hg⟩
  have HB6 := Lib.hid (HB5.out.trans (below_grownBy hg HB5.out.size (Nat.le_refl _)))
  have hj4 : j < 4 := hj
  have HS := Lib.hid (show ((kindTexts s f t).getD j ByteArray.empty).size ≤ 61 by
    obtain rfl | rfl | rfl | rfl : j = 0 ∨ j = 1 ∨ j = 2 ∨ j = 3 := by omega
    · show s.size ≤ 61; omega
    · exact hq61
    · exact ht61
    · show (ByteArray.mk #[100, 97, 61, 55, 59, 98]).size ≤ 61; decide)
  obtain ⟨u, hu⟩ : ∃ u, (kindTexts s f t).getD j ByteArray.empty = u := ⟨_, rfl⟩
  rw [hu] at hcell HS
  clear hu hr hg hj
  go_wp2_with fail
  go_ret
  exact ⟨u, rfl, HS.out, HB6.out⟩
/-! ### paths -/
/-- Drawn words. -/
def WordsOut (w : World) (e : Ending) (w' : World) : Prop := ∃ (x : Option Addr) (n c : Nat) (l : List ByteArray), e = .returned (.slice x n c) ∧ l.length ≤ 4 ∧ (∀ s ∈ l, s.size ≤ 9) ∧ Strs w' w'.heap.size x n c l ∧ Below w.heap.size w w'
def WdRel (B r c base : Nat) (w0 wr : World) (m : Nat) (v : Value) : Prop := ∃ l : List ByteArray, l.length + m ≤ 4 ∧ (∀ s ∈ l, s.size ≤ 9) ∧ OwnS wr base v l ∧ Rd B wr r (c + 8 - 2 * m) ∧ w0.grownBy wr (some r)
def TwoPaths (w : World) (e : Ending) (w' : World) : Prop := ∃ s t : ByteArray, e = .returned (.tuple #[.string s, .string t]) ∧ s ∈ paths1 ++ paths2 ∧ t ∈ paths1 ++ paths2 ∧ Below w.heap.size w w'
end Go.Proofs.Ytmjhhjnolelheaa
