/-
  The draws of chapters 10 and 11: a store alone; a store, a root and a path, with a content; a store and a root, with a word.
-/
import Derived.Test.YtbbjpihlielpgaaGreatDoorDraw14
namespace Go.Proofs.YtbbjpihlielpgaaGreatDoor
open Go.RowKit
set_option linter.unusedVariables false
def PcsOut (w : World) (e : Ending) (w' : World) : Prop := ∃ (x : Option Addr) (n c : Nat) (l : List Pc), e = .returned (.slice x n c) ∧ l.length ≤ 41 ∧ Short 60 l ∧ Pcs w' w'.heap.size x n c l ∧ Below w.heap.size w w'
theorem drawEmptyRoot_any (x : Option Addr) (n cap : Nat) (w : World) (h : Bytes w.heap.size w x n) (hn : n ≤ cap) (hc : cap ≤ maxLen) :
    Calls Tryz.prog 24 #[.slice x n cap] w (PcsOut w) := by
  go_enter Tryz.func24, Tryz.ntmps24
  go_wp2_with fail
  refine (drawPutText_any x n cap w h hn hc).mono ?_
  rintro e w1 ⟨y, m, c, l, t, rfl, h1, h2, h3, h4, h5⟩
  go_wp2_with fail
  go_ret
  exact ⟨y, m, c, l, rfl, h4, h3, h2, h5⟩
theorem drawDropAt_any (x : Option Addr) (n cap : Nat) (w : World) (h : Bytes w.heap.size w x n) (hn : n ≤ cap) (hc : cap ≤ maxLen) :
    Calls Tryz.prog 34 #[.slice x n cap] w (WhereOut w) := by
  go_enter Tryz.func34, Tryz.ntmps34
  go_wp2_with fail
  refine (l20Where_any x n cap w h hn hc).mono ?_
  rintro e w1 ⟨y, m, c, l, p, path, rfl, h1, h2, h3, h4, h5⟩
  go_wp2_with fail
  go_ret3
  exact ⟨y, m, c, l, p, path, rfl, h1, h2, h3, h4, h5⟩
def RootOut (w : World) (e : Ending) (w' : World) : Prop := ∃ (x : Option Addr) (n c : Nat) (l : List Pc) (p : Int), e = .returned (.tuple #[.slice x n c, .int .i64 p]) ∧ l.length ≤ 41 ∧ Short 60 l ∧ Pcs w' w'.heap.size x n c l ∧ Below w.heap.size w w'
theorem l20Rooted_any (x : Option Addr) (n cap : Nat) (w : World) (h : Bytes w.heap.size w x n) (hn : n ≤ cap) (hc : cap ≤ maxLen) :
    Calls Tryz.prog 89 #[.slice x n cap] w (RootOut w) := by
  go_enter Tryz.func89, Tryz.ntmps89
  go_wp2_with fail
  refine (l20Where_any x n cap w h hn hc).mono ?_
  rintro e w1 ⟨y, m, c, l, p, path, rfl, h1, h2, h3, h4, h5⟩
  go_wp2_with fail
  go_ret2
  exact ⟨y, m, c, l, p, rfl, h1, h2, h4, h5⟩
theorem drawAllFiles_any (x : Option Addr) (n cap : Nat) (w : World) (h : Bytes w.heap.size w x n) (hn : n ≤ cap) (hc : cap ≤ maxLen) :
    Calls Tryz.prog 37 #[.slice x n cap] w (RootOut w) := by
  go_enter Tryz.func37, Tryz.ntmps37
  go_wp2_with fail
  refine (l20Rooted_any x n cap w h hn hc).mono ?_
  rintro e w1 ⟨y, m, c, l, p, rfl, h1, h2, h4, h5⟩
  go_wp2_with fail
  go_ret2
  exact ⟨y, m, c, l, p, rfl, h1, h2, h4, h5⟩
theorem Bytes.up {w w' : World} {x : Option Addr} {n : Nat} (h : Bytes w.heap.size w x n) (hb : Below w.heap.size w w') : Bytes w'.heap.size w' x n := fun i hi => by
  obtain ⟨b, off, z, e1, e2, e3⟩ := h.keep (fun k hk => hb.block k hk) i hi
  exact ⟨b, off, z, e1, Nat.lt_of_lt_of_le e2 hb.size, e3⟩
def RootWordOut (w : World) (e : Ending) (w' : World) : Prop := ∃ (x : Option Addr) (n c : Nat) (l : List Pc) (p : Int) (s : ByteArray), e = .returned (.tuple #[.slice x n c, .int .i64 p, .string s]) ∧ l.length ≤ 41 ∧ Short 60 l ∧ s.size ≤ 9 ∧ Pcs w' w'.heap.size x n c l ∧ Below w.heap.size w w'
theorem drawFilesNamed_any (x : Option Addr) (n cap : Nat) (w : World) (h : Bytes w.heap.size w x n) (hn : n ≤ cap) (hc : cap ≤ maxLen) :
    Calls Tryz.prog 39 #[.slice x n cap] w (RootWordOut w) := by
  have HH := Lib.hid h
  have HN := Lib.hid hn; have HC := Lib.hid hc
  clear h hn hc
  go_enter Tryz.func39, Tryz.ntmps39
  go_wp2_with fail
  refine (l20Rooted_any x n cap w HH.out HN.out HC.out).mono ?_
  rintro e w1 ⟨y, m, c, l, p, rfl, h1, h2, h4, h5⟩
  have HB := Lib.hid h5; have HL := Lib.hid h4; have HS := Lib.hid h2
  have hw1 := h5.size
  clear h2 h4 h5
  go_wp2_with fail
  refine (open_any x n cap w1 (HH.out.up HB.out) HN.out HC.out).mono ?_
  rintro e w2 ⟨rfl, hr, hb⟩
  have HR := Lib.hid hr; have HB2 := Lib.hid (HB.out.trans (hb.mono hw1)); have HL2 := Lib.hid ((HL.out.below hb (Nat.le_refl _)).more hb.size); have HBB := Lib.hid hb
  clear hr hb
  go_wp2_with fail
  refine (l20Word_any w1.heap.size w1.heap.size 0 9 _ HR.out (by omega) (by omega)).mono ?_
  rintro e w3 ⟨s, rfl, hs, hr, hg⟩
  have hs9 := words_size s hs
  have HB3 := Lib.hid (HB2.out.trans (below_grownBy hg HB2.out.size hw1))
  have HL3 := Lib.hid ((Lst.rd_kept HL2.out HR.out hg (Nat.le_refl _)).more hg.size)
  clear hr hg
  go_wp2_with fail
  go_ret3
  exact ⟨y, m, c, l, p, s, rfl, h1, HS.out, hs9, HL3.out, HB3.out⟩
/-! ### a store, a root, a path and a content -/
def WfF (r : Nat) (xs : Option Addr) (ns cs : Nat) (p : Int) (path : ByteArray) : Nat → Value → World → Prop
  | 0, v, _ => v = .slice xs ns cs
  | 1, v, _ => v = .int .i64 p
  | 2, v, _ => v = .string path
  | 3, v, _ => v = .pointer (some ⟨r, 0, none⟩)
  | 5, v, _ => v = .pointer (some ⟨r, 0, none⟩)
  | 7, v, _ => v = .pointer (some ⟨r, 0, none⟩)
  | 10, v, _ => v = .pointer (some ⟨r, 0, none⟩)
  | 4, v, _ => ∃ t : ByteArray, t.size ≤ 61 ∧ v = .string t
  | 6, v, _ => ∃ t : ByteArray, t.size ≤ 61 ∧ v = .string t
  | 8, v, _ => ∃ t : ByteArray, t.size ≤ 61 ∧ v = .string t
  | 9, v, w => ∃ kb, v = .slice (some ⟨kb, 0, none⟩) 3 3 ∧ kb ≠ r ∧ ∀ j, j < 3 → ∃ t : ByteArray, t.size ≤ 61 ∧ w.cell? ⟨kb, j, none⟩ = some (.string t)
  | 11, v, _ => ∃ j : Nat, j < 3 ∧ v = .int .i64 j
  | 12, v, w => ∃ kb j, v = .pointer (some ⟨kb, j, none⟩) ∧ kb ≠ r ∧ ∃ t : ByteArray, t.size ≤ 61 ∧ w.cell? ⟨kb, j, none⟩ = some (.string t)
  | 13, v, _ => ∃ t : ByteArray, t.size ≤ 61 ∧ v = .string t
  | 14, v, _ => v = .slice xs ns cs
  | 15, v, _ => v = .int .i64 p
  | 16, v, _ => v = .string path
  | _, v, _ => ∃ t : ByteArray, t.size ≤ 61 ∧ v = .string t
theorem wfF_mono {r : Nat} {xs : Option Addr} {ns cs : Nat} {p : Int} {path : ByteArray} : ∀ (k : Nat) (v : Value) (w w' : World), w.grownBy w' (some r) → WfF r xs ns cs p path k v w → WfF r xs ns cs p path k v w'
  | 0, v, w, w', hg, h => h
  | 1, v, w, w', hg, h => h
  | 2, v, w, w', hg, h => h
  | 3, v, w, w', hg, h => h
  | 4, v, w, w', hg, h => h
  | 5, v, w, w', hg, h => h
  | 6, v, w, w', hg, h => h
  | 7, v, w, w', hg, h => h
  | 8, v, w, w', hg, h => h
  | 9, v, w, w', hg, h => by
    obtain ⟨kb, h1, h2, h3⟩ := h
    exact ⟨kb, h1, h2, fun j hj => by obtain ⟨t, ht, hc⟩ := h3 j hj; exact ⟨t, ht, hg.cell (a := ⟨kb, j, none⟩) hc (by simp; exact h2)⟩⟩
  | 10, v, w, w', hg, h => h
  | 11, v, w, w', hg, h => h
  | 12, v, w, w', hg, h => by
    obtain ⟨kb, j, h1, h2, t, ht, hc⟩ := h
    exact ⟨kb, j, h1, h2, t, ht, hg.cell (a := ⟨kb, j, none⟩) hc (by simp; exact h2)⟩
  | 13, v, w, w', hg, h => h
  | 14, v, w, w', hg, h => h
  | 15, v, w, w', hg, h => h
  | 16, v, w, w', hg, h => h
  | _ + 17, v, w, w', hg, h => h
def WfG (B r : Nat) (w0 : World) (L : Nat → Bool) (w : World) : Prop := w0.grownBy w (some r) ∧ Rd B w r ((if L 4 = true then 1 else 0) + (if L 6 = true then 1 else 0) + (if L 8 = true then 2 else 0) + (if L 11 = true then 1 else 0))
theorem wfG_same {B r k : Nat} {w0 w : World} {L : Nat → Bool} (h : WfG B r w0 L w) (h4 : k ≠ 4 := by decide) (h6 : k ≠ 6 := by decide) (h8 : k ≠ 8 := by decide) (h11 : k ≠ 11 := by decide) : WfG B r w0 (fun j => j == k || L j) w := by
  refine ⟨h.1, ?_⟩
  have e4 : ((4 == k) || L 4) = L 4 := by simp [Ne.symm h4]
  have e6 : ((6 == k) || L 6) = L 6 := by simp [Ne.symm h6]
  have e8 : ((8 == k) || L 8) = L 8 := by simp [Ne.symm h8]
  have e11 : ((11 == k) || L 11) = L 11 := by simp [Ne.symm h11]
  show Rd B w r ((if ((4 == k) || L 4) = true then 1 else 0) + (if ((6 == k) || L 6) = true then 1 else 0) + (if ((8 == k) || L 8) = true then 2 else 0) + (if ((11 == k) || L 11) = true then 1 else 0))
  rw [e4, e6, e8, e11]; exact h.2
theorem results_four {fn : Func} {t u v x : Tmp} (h : fn.results = #[.tmp t, .tmp u, .tmp v, .tmp x]) (tmps : Array Value) (P : Program) (w : World) :
    (results fn tmps).run P w = .ok (.tuple #[tmps.getD t undef, tmps.getD u undef, tmps.getD v undef, tmps.getD x undef]) w := by
  simp [results, h]
theorem contents_61 : ∀ s ∈ contents4, s.size ≤ 61 := by decide +kernel
/-- A drawn store, a root, a path and a content. -/
def WriteOut (w : World) (e : Ending) (w' : World) : Prop := ∃ (x : Option Addr) (n c : Nat) (l : List Pc) (p : Int) (path t : ByteArray), e = .returned (.tuple #[.slice x n c, .int .i64 p, .string path, .string t]) ∧ l.length ≤ 41 ∧ Short 60 l ∧ path.size ≤ 1000 ∧ t.size ≤ 61 ∧ Pcs w' w'.heap.size x n c l ∧ Below w.heap.size w w'
set_option maxHeartbeats 1000000 in
set_option maxRecDepth 100000 in
theorem drawWriteAt_any (x : Option Addr) (n cap : Nat) (w : World) (h : Bytes w.heap.size w x n) (hn : n ≤ cap) (hc : cap ≤ maxLen) :
    Calls Tryz.prog 29 #[.slice x n cap] w (WriteOut w) := by
  have HH := Lib.hid h
  have HN := Lib.hid hn; have HC := Lib.hid hc
  clear h hn hc
  go_enter Tryz.func29, Tryz.ntmps29
  go_wp2_with fail
  refine (l20Where_any x n cap w HH.out HN.out HC.out).mono ?_
  rintro e w1 ⟨xs, ns, cs, l, p, path, rfl, h1, h2, h3, h4, h5⟩
  have HB := Lib.hid h5; have HL := Lib.hid h4; have HS := Lib.hid h2
  have hw1 := h5.size
  clear h2 h4 h5
  go_wp2_with fail
  refine (open_any x n cap w1 (HH.out.up HB.out) HN.out HC.out).mono ?_
  rintro e w2 ⟨rfl, hr, hb⟩
  have HR := Lib.hid hr; have HB2 := Lib.hid (HB.out.trans (hb.mono hw1)); have HL2 := Lib.hid ((HL.out.below hb (Nat.le_refl _)).more hb.size)
  have hw2 := hb.size
  clear hr hb
  obtain ⟨r, hrr⟩ : ∃ r, r = w1.heap.size := ⟨_, rfl⟩
  rw [← hrr] at HR ⊢
  have HRR := Lib.hid hrr
  clear hrr
  go_wp2
  have HG0 := Lib.hid (show WfG r r w2.drew (fun _ => false) w2.drew from ⟨grownBy_refl _ _, rd_drew HR.out⟩)
  refine region_facts (fun w w' => w.grownBy w' (some r)) (WfG r r w2.drew) (WfF r xs ns cs p path) (by kernel_rfl) (by kernel_rfl) (by kernel_rfl) wfF_mono HG0.out ?_ ?_
  · refine ⟨?_, ?_, ?_, ?_, ?_, ?_, ?_, ?_, ?_, ?_, ?_, ?_, ?_, ?_, ?_, ?_, ?_, ?_, trivial⟩
    · intro L v aa ww hA hG hF hl hd K hK
      have HK := Lib.hid hK; have HGG := Lib.hid hG
      have k0 := hA.keep 6 (.slice xs ns cs) rfl rfl
      clear hA hG hF hl hd hK
      go_simp
      exact HK.out _ _ ⟨_, rfl, grownBy_refl _ _, wfG_same HGG.out, rfl⟩
    · intro L v aa ww hA hG hF hl hd K hK
      have HK := Lib.hid hK; have HGG := Lib.hid hG
      have k1 := hA.keep 7 (.int .i64 p) rfl rfl
      clear hA hG hF hl hd hK
      go_simp
      exact HK.out _ _ ⟨_, rfl, grownBy_refl _ _, wfG_same HGG.out, rfl⟩
    · intro L v aa ww hA hG hF hl hd K hK
      have HK := Lib.hid hK; have HGG := Lib.hid hG
      have k2 := hA.keep 8 (.string path) rfl rfl
      clear hA hG hF hl hd hK
      go_simp
      exact HK.out _ _ ⟨_, rfl, grownBy_refl _ _, wfG_same HGG.out, rfl⟩
    · intro L v aa ww hA hG hF hl hd K hK
      have HK := Lib.hid hK; have HGG := Lib.hid hG
      have k3 := hA.keep 9 (.pointer (some ⟨r, 0, none⟩)) rfl rfl
      clear hA hG hF hl hd hK
      go_simp
      exact HK.out _ _ ⟨_, rfl, grownBy_refl _ _, wfG_same HGG.out, rfl⟩
    · intro L v aa ww hA hG hF hl hd K hK
      have HK := Lib.hid hK; have HGG := Lib.hid hG
      have l3 : L 3 = true := by have h := hd; simp [Region.binds] at h; simp [h]
      have f3 : WfF r xs ns cs p path 3 (v 3) ww := hF 3 l3
      have b3 := hA.at' 3 _ 21 rfl rfl rfl
      rw [show v 3 = _ from f3] at b3
      clear f3 l3
      have HRD := Lib.hid hG.2
      have HL4 := Lib.hid hl
      clear hA hG hF hl hd hK
      go_simp
      go_at_call 69
      refine (l20Content_any r r _ ww HRD.out (by split <;> split <;> split <;> split <;> omega) ).mono ?_
      rintro e w3 ⟨t, rfl, ht, hr, hg⟩
      refine HK.out _ _ ⟨_, rfl, hg, ⟨grownBy_trans HGG.out.1 hg, ?_⟩, ⟨t, contents_61 t ht, rfl⟩⟩
      rw [HL4.out] at hr
      refine hr.more ?_
      simp <;> omega
    · intro L v aa ww hA hG hF hl hd K hK
      have HK := Lib.hid hK; have HGG := Lib.hid hG
      have k5 := hA.keep 9 (.pointer (some ⟨r, 0, none⟩)) rfl rfl
      clear hA hG hF hl hd hK
      go_simp
      exact HK.out _ _ ⟨_, rfl, grownBy_refl _ _, wfG_same HGG.out, rfl⟩
    · intro L v aa ww hA hG hF hl hd K hK
      have HK := Lib.hid hK; have HGG := Lib.hid hG
      have l5 : L 5 = true := by have h := hd; simp [Region.binds] at h; simp [h]
      have f5 : WfF r xs ns cs p path 5 (v 5) ww := hF 5 l5
      have b5 := hA.at' 5 _ 23 rfl rfl rfl
      rw [show v 5 = _ from f5] at b5
      clear f5 l5
      have HRD := Lib.hid hG.2
      have HL6 := Lib.hid hl
      clear hA hG hF hl hd hK
      go_simp
      go_at_call 69
      refine (l20Content_any r r _ ww HRD.out (by split <;> split <;> split <;> split <;> omega) ).mono ?_
      rintro e w3 ⟨t, rfl, ht, hr, hg⟩
      refine HK.out _ _ ⟨_, rfl, hg, ⟨grownBy_trans HGG.out.1 hg, ?_⟩, ⟨t, contents_61 t ht, rfl⟩⟩
      rw [HL6.out] at hr
      refine hr.more ?_
      simp <;> omega
    · intro L v aa ww hA hG hF hl hd K hK
      have HK := Lib.hid hK; have HGG := Lib.hid hG
      have k7 := hA.keep 9 (.pointer (some ⟨r, 0, none⟩)) rfl rfl
      clear hA hG hF hl hd hK
      go_simp
      exact HK.out _ _ ⟨_, rfl, grownBy_refl _ _, wfG_same HGG.out, rfl⟩
    · intro L v aa ww hA hG hF hl hd K hK
      have HK := Lib.hid hK; have HGG := Lib.hid hG
      have l7 : L 7 = true := by have h := hd; simp [Region.binds] at h; simp [h]
      have f7 : WfF r xs ns cs p path 7 (v 7) ww := hF 7 l7
      have b7 := hA.at' 7 _ 25 rfl rfl rfl
      rw [show v 7 = _ from f7] at b7
      clear f7 l7
      have HRD := Lib.hid hG.2
      have HL8 := Lib.hid hl
      clear hA hG hF hl hd hK
      go_simp
      go_at_call 70
      refine (l20Text_any r r _ 2 ww HRD.out (by split <;> split <;> split <;> split <;> omega) (by omega)).mono ?_
      rintro e w3 ⟨t, rfl, ht, hr, hg⟩
      refine HK.out _ _ ⟨_, rfl, hg, ⟨grownBy_trans HGG.out.1 hg, ?_⟩, ⟨t, texts_size t ht, rfl⟩⟩
      rw [HL8.out] at hr
      refine hr.more ?_
      simp <;> omega
    · intro L v aa ww hA hG hF hl hd K hK
      have HK := Lib.hid hK; have HGG := Lib.hid hG
      have l4 : L 4 = true := by have h := hd; simp [Region.binds] at h; simp [h]
      have f4 : WfF r xs ns cs p path 4 (v 4) ww := hF 4 l4
      have b4 := hA.at' 4 _ 22 rfl rfl rfl
      obtain ⟨t4, s4, e4⟩ := f4
      rw [e4] at b4
      clear e4 l4
      have l6 : L 6 = true := by have h := hd; simp [Region.binds] at h; simp [h]
      have f6 : WfF r xs ns cs p path 6 (v 6) ww := hF 6 l6
      have b6 := hA.at' 6 _ 24 rfl rfl rfl
      obtain ⟨t6, s6, e6⟩ := f6
      rw [e6] at b6
      clear e6 l6
      have l8 : L 8 = true := by have h := hd; simp [Region.binds] at h; simp [h]
      have f8 : WfF r xs ns cs p path 8 (v 8) ww := hF 8 l8
      have b8 := hA.at' 8 _ 26 rfl rfl rfl
      obtain ⟨t8, s8, e8⟩ := f8
      rw [e8] at b8
      clear e8 l8
      have hlt := hG.2.lt
      clear hA hG hF hl hd hK
      go_simp
      refine HK.out _ _ ⟨_, rfl, World.grownBy_alloc _ _ _, wfG_same ⟨grownBy_alloc' HGG.out.1 _, rd_alloc HGG.out.2 _⟩, ⟨ww.heap.size, rfl, by omega, fun j hj => ?_⟩⟩
      obtain rfl | rfl | rfl : j = 0 ∨ j = 1 ∨ j = 2 := by omega
      · exact ⟨t4, s4, cell_new _ _ _ 0 _ rfl⟩
      · exact ⟨t6, s6, cell_new _ _ _ 1 _ rfl⟩
      · exact ⟨t8, s8, cell_new _ _ _ 2 _ rfl⟩
    · intro L v aa ww hA hG hF hl hd K hK
      have HK := Lib.hid hK; have HGG := Lib.hid hG
      have k10 := hA.keep 9 (.pointer (some ⟨r, 0, none⟩)) rfl rfl
      clear hA hG hF hl hd hK
      go_simp
      exact HK.out _ _ ⟨_, rfl, grownBy_refl _ _, wfG_same HGG.out, rfl⟩
    · intro L v aa ww hA hG hF hl hd K hK
      have HK := Lib.hid hK; have HGG := Lib.hid hG
      have l10 : L 10 = true := by have h := hd; simp [Region.binds] at h; simp [h]
      have f10 : WfF r xs ns cs p path 10 (v 10) ww := hF 10 l10
      have b10 := hA.at' 10 _ 28 rfl rfl rfl
      rw [show v 10 = _ from f10] at b10
      clear f10 l10
      have HRD := Lib.hid hG.2
      have HL11 := Lib.hid hl
      clear hA hG hF hl hd hK
      go_simp
      go_at_call 71
      refine (pickN_any 3 r r _ _ _ ww HRD.out (grownBy_refl _ _) rfl (by decide) (by decide) (by split <;> split <;> split <;> split <;> omega)).mono ?_
      rintro e w3 ⟨j, rfl, hj, hr, hg, _⟩
      refine HK.out _ _ ⟨_, rfl, hg, ⟨grownBy_trans HGG.out.1 hg, ?_⟩, ⟨j, hj, rfl⟩⟩
      rw [HL11.out] at hr
      refine hr.more ?_
      simp <;> omega
    · intro L v aa ww hA hG hF hl hd K hK
      have HK := Lib.hid hK; have HGG := Lib.hid hG
      simp [Region.binds] at hd
      obtain ⟨kb, e9, hne, hcs⟩ := hF 9 hd.1
      obtain ⟨j, hj, e11⟩ := hF 11 hd.2
      obtain ⟨t, ht, hct⟩ := hcs j hj
      have HCT := Lib.hid hct
      have b9 := hA.at' 9 _ 27 rfl rfl rfl
      have b11 := hA.at' 11 _ 29 rfl rfl rfl
      rw [e9] at b9
      rw [e11] at b11
      clear hK hF hG hd hl hA e9 e11 hcs hct
      have hj0 : (j : Int) < 3 := by omega
      go_simp
      exact HK.out _ _ ⟨_, rfl, grownBy_refl _ _, wfG_same HGG.out, ⟨kb, j, rfl, hne, t, ht, HCT.out⟩⟩
    · intro L v aa ww hA hG hF hl hd K hK
      have HK := Lib.hid hK; have HGG := Lib.hid hG
      simp [Region.binds] at hd
      obtain ⟨kb, j, e12, hne, t, ht, hct⟩ := hF 12 hd
      have b12 := hA.at' 12 _ 30 rfl rfl rfl
      rw [e12] at b12
      clear hK hF hG hd hl hA e12
      go_simp
      exact HK.out _ _ ⟨_, rfl, grownBy_refl _ _, wfG_same HGG.out, ⟨t, ht, rfl⟩⟩
    · intro L v aa ww hA hG hF hl hd K hK
      have HK := Lib.hid hK; have HGG := Lib.hid hG
      have l0 : L 0 = true := by have h := hd; simp [Region.binds] at h; simp [h]
      have f0 : WfF r xs ns cs p path 0 (v 0) ww := hF 0 l0
      have b0 := hA.at' 0 _ 18 rfl rfl rfl
      rw [show v 0 = _ from f0] at b0
      clear f0 l0
      clear hA hG hF hl hd hK
      go_simp
      exact HK.out _ _ ⟨_, rfl, grownBy_refl _ _, wfG_same HGG.out, rfl⟩
    · intro L v aa ww hA hG hF hl hd K hK
      have HK := Lib.hid hK; have HGG := Lib.hid hG
      have l1 : L 1 = true := by have h := hd; simp [Region.binds] at h; simp [h]
      have f1 : WfF r xs ns cs p path 1 (v 1) ww := hF 1 l1
      have b1 := hA.at' 1 _ 19 rfl rfl rfl
      rw [show v 1 = _ from f1] at b1
      clear f1 l1
      clear hA hG hF hl hd hK
      go_simp
      exact HK.out _ _ ⟨_, rfl, grownBy_refl _ _, wfG_same HGG.out, rfl⟩
    · intro L v aa ww hA hG hF hl hd K hK
      have HK := Lib.hid hK; have HGG := Lib.hid hG
      have l2 : L 2 = true := by have h := hd; simp [Region.binds] at h; simp [h]
      have f2 : WfF r xs ns cs p path 2 (v 2) ww := hF 2 l2
      have b2 := hA.at' 2 _ 20 rfl rfl rfl
      rw [show v 2 = _ from f2] at b2
      clear f2 l2
      clear hA hG hF hl hd hK
      go_simp
      exact HK.out _ _ ⟨_, rfl, grownBy_refl _ _, wfG_same HGG.out, rfl⟩
    · intro L v aa ww hA hG hF hl hd K hK
      have HK := Lib.hid hK; have HGG := Lib.hid hG
      have l13 : L 13 = true := by have h := hd; simp [Region.binds] at h; simp [h]
      have f13 : WfF r xs ns cs p path 13 (v 13) ww := hF 13 l13
      have b13 := hA.at' 13 _ 31 rfl rfl rfl
      obtain ⟨t, ht, e13⟩ := f13
      rw [e13] at b13
      clear e13 l13
      clear hA hG hF hl hd hK
      go_simp
      exact HK.out _ _ ⟨_, rfl, grownBy_refl _ _, wfG_same HGG.out, ⟨t, ht, rfl⟩⟩
  · intro L v ww hF hL hG
    have e14 : v 14 = .slice xs ns cs := hF 14 (by decide)
    have e15 : v 15 = .int .i64 p := hF 15 (by decide)
    have e16 : v 16 = .string path := hF 16 (by decide)
    obtain ⟨t, ht, e17⟩ : ∃ t : ByteArray, t.size ≤ 61 ∧ v 17 = .string t := hF 17 (by decide)
    have HGG := Lib.hid hG.1
    clear hF hL hG
    have HL3 := Lib.hid ((Lst.rd_kept (show Pcs w2.drew w2.drew.heap.size xs ns cs l from HL2.out.drew) (rd_drew HR.out) HGG.out (Nat.le_refl _)).more HGG.out.size)
    have HB3 := Lib.hid (show Below w.heap.size w ww from HB2.out.drew.trans (below_grownBy HGG.out HB2.out.size (by rw [HRR.out]; exact hw1)))
    simp only [frameOf, Act.put, List.setIfInBounds_toArray, List.set_cons_succ, List.set_cons_zero]
    rw [e14, e15, e16, e17]
    clear e14 e15 e16 e17
    go_wp2
    refine bodyPost_ret (results_four rfl _ _ _) rfl ?_
    exact ⟨xs, ns, cs, l, p, path, t, rfl, h1, HS.out, h3, ht, HL3.out, HB3.out⟩
end Go.Proofs.YtbbjpihlielpgaaGreatDoor
