/-
  Draws of chapters 9 to 12: a store, a root and a path.
-/
import Derived.Test.YtbbjpihlielpgaaGreatDoorReach19
import Derived.Test.YtbbjpihlielpgaaGreatDoorDraw13
namespace Go.Proofs.YtbbjpihlielpgaaGreatDoor
open Go.RowKit
set_option linter.unusedVariables false
/-- The paths of all files. -/
def allB (l : List Pc) (root : Int) : List ByteArray := if storeB l = true then filesB l 3 root [] else []
theorem specAllFiles_any (x : Option Addr) (n cap : Nat) (l : List Pc) (root : Int) (B : Nat) (w : World) (h : Pcs w B x n cap l) (hB : B ≤ w.heap.size) (hz : ∀ k, (nthP l k).2.size ≤ 1048576) :
    Calls Tryz.prog 38 #[.slice x n cap, .int .i64 root] w (NewS (allB l root) w) := by
  have HH := Lib.hid h; have HZ := Lib.hid hz
  clear h hz
  cases hst : storeB l
  · have HF := Lib.hid (show allB l root = [] by unfold allB; rw [hst]; rfl)
    go_enter Tryz.func38, Tryz.ntmps38
    go_wp2_with fail
    refine (specStoreValid_any x n cap l B _ HH.out (mil_max HZ.out)).mono ?_
    rintro e w1 hq
    have hb := hq.below
    obtain ⟨rfl, _⟩ := hq
    have HB1 := Lib.hid hb
    have hs1 := hb.size
    rw [hst]
    clear hb
    go_wp2
    go_ret
    exact ⟨_, rfl, by rw [HF.out]; exact (OwnL.new strG 9 (size := 1) w1).mono hs1, HB1.out.alloc hs1 _⟩
  · have HF := Lib.hid (show allB l root = filesB l 3 root [] by unfold allB; rw [hst]; rfl)
    go_enter Tryz.func38, Tryz.ntmps38
    go_wp2_with fail
    refine (specStoreValid_any x n cap l B _ HH.out (mil_max HZ.out)).mono ?_
    rintro e w1 hq
    have hb := hq.below
    obtain ⟨rfl, _⟩ := hq
    have HB1 := Lib.hid hb; have HH1 := Lib.hid (HH.out.below hb hB)
    have hs1 := hb.size
    rw [hst]
    clear hb
    have HO := Lib.hid (OwnL.new strG 9 (size := 1) w1).lst'
    have HBA := Lib.hid ((Below.refl w1.heap.size w1).alloc (Nat.le_refl _) (.cells #[] 9))
    go_wp2_with fail
    refine (specFiles_any l x n cap HZ.out 3 root [] _ _ _ B _ rfl (HH1.out.below HBA.out (Nat.le_trans hB hs1)) (by simp; omega) HO.out (fun k => by simp [nthS])).mono ?_
    rintro e w2 ⟨v, rfl, ho, hb⟩
    obtain ⟨x2, n2, c2, rfl, _⟩ := ho.lst
    have HO2 := Lib.hid (ho.mono (Nat.le_trans hs1 HBA.out.size)); have HB2 := Lib.hid (HB1.out.trans ((HBA.out.trans (hb.mono HBA.out.size)).mono hs1))
    clear ho hb
    go_wp2
    go_ret
    exact ⟨_, rfl, by rw [HF.out]; exact HO2.out, HB2.out⟩
theorem files_small {l : List Pc} : ∀ (d : Nat) (p : Int) (ps : List ByteArray), (∀ s ∈ ps, s.size ≤ 9) → ps.length + d ≤ 3 → ∀ s ∈ filesB l d p ps, s.size ≤ 1000
  | 0, p, ps, h, hd, s, hs => by
    rw [filesB] at hs
    split at hs
    · rw [List.mem_singleton] at hs; subst hs; exact path_size ps h (by omega)
    · cases hs
  | d + 1, p, ps, h, hd, s, hs => by
    rw [filesB] at hs
    split at hs
    · rw [List.mem_singleton] at hs; subst hs; exact path_size ps h (by omega)
    · rw [List.mem_flatMap] at hs
      obtain ⟨q, hq, hs⟩ := hs
      refine files_small d q.2 (ps ++ [q.1]) ?_ (by simp; omega) s hs
      intro t ht
      rcases List.mem_append.1 ht with h1 | h1
      · exact h t h1
      · rw [List.mem_singleton] at h1
        subst h1
        have hf : isFold (getT l p) = true := by
          cases hx : isFold (getT l p)
          · rw [foldL_no hx] at hq; cases hq
          · rfl
        have := word_size (ents_ok (fold_is hf).1 q hq).1
        omega
theorem all_small {l : List Pc} {root : Int} : ∀ s ∈ allB l root, s.size ≤ 1000 := by
  unfold allB
  split
  · exact files_small 3 root [] (by intro s hs; cases hs) (by simp)
  · intro s hs; cases hs
theorem all_many {l : List Pc} {root : Int} : (allB l root).length ≤ 27 := by
  unfold allB
  split
  · exact files_many (by omega)
  · simp
/-- A drawn store, a root and a path. -/
def WhereOut (w : World) (e : Ending) (w' : World) : Prop := ∃ (x : Option Addr) (n c : Nat) (l : List Pc) (p : Int) (path : ByteArray), e = .returned (.tuple #[.slice x n c, .int .i64 p, .string path]) ∧ l.length ≤ 41 ∧ Short 60 l ∧ path.size ≤ 1000 ∧ Pcs w' w'.heap.size x n c l ∧ Below w.heap.size w w'
theorem paths_size : ∀ s ∈ paths1 ++ paths2, s.size ≤ 60 := by decide +kernel
theorem short_mil {l : List Pc} (h : Short 60 l) : ∀ k, (nthP l k).2.size ≤ 1048576 := fun k => Nat.le_trans (short_nth h k) (by decide)
theorem own_lit1' (w : World) (l : List Int) (hl : l.length ≤ 1000) : OwnI (w.alloc (.cells (l.map (Value.int .i64)).toArray 3)) w.heap.size (.slice (some ⟨w.heap.size, 0, none⟩) l.length l.length) l := by
  have h := World.ownsRow_lit (e := 3) (size := 1) w (l.map (Value.int .i64)).toArray l.length (Nat.le_refl _) (by unfold maxLen; omega) (by simp)
  unfold OwnI
  simpa using h
theorem own_strAt {w : World} {base b off n c : Nat} {l : List ByteArray} (h : OwnS w base (.slice (some ⟨b, off, none⟩) n c) l) {i : Nat} (hi : i < n) : w.cell? ⟨b, off + i, none⟩ = some (.string (nthS l i)) := by
  obtain ⟨b2, off2, e2, _, hcell⟩ := h.lst'.atS hi
  simp only [Option.some.injEq, Addr.mk.injEq, and_true] at e2
  obtain ⟨rfl, rfl⟩ := e2
  exact hcell
theorem Ints.lit2 (w : World) (u v : Int) : Ints (w.alloc (.cells #[.int .i64 u, .int .i64 v] 3)) (w.alloc (.cells #[.int .i64 u, .int .i64 v] 3)).heap.size (some ⟨w.heap.size, 0, none⟩) 2 2 [u, v] := by
  have h := own_lit1' w [u, v] (by simp)
  exact h.ints'
set_option maxHeartbeats 4000000 in
set_option maxRecDepth 100000 in
theorem l20Where_any (xx : Option Addr) (nn cap : Nat) (w : World) (h : Bytes w.heap.size w xx nn) (hn : nn ≤ cap) (hc : cap ≤ maxLen) :
    Calls Tryz.prog 48 #[.slice xx nn cap] w (WhereOut w) := by
  go_enter Tryz.func48, Tryz.ntmps48
  go_wp2_with fail
  refine (open_any xx nn cap w h hn hc).mono ?_
  rintro e w01 ⟨rfl, hr, hb⟩
  have HR01 := Lib.hid hr; have HB01 := Lib.hid hb; clear hr hb h hn hc
  go_wp2_with fail
  refine (l20Store_any w.heap.size w.heap.size 0 _ _ HR01.out (by omega) (by omega)).mono ?_
  rintro e w02 ⟨x, n, c, l, p, rfl, hl, hf, hr, hg⟩
  have HR02 := Lib.hid hr; have HL02 := Lib.hid hl; have HB02 := Lib.hid (HB01.out.trans (below_grownBy hg HB01.out.size (Nat.le_refl _))); have HS := Lib.hid hf.2.2; have hl41 := hf.2.1
  clear hl hf hr hg
  go_wp2_with fail
  refine (odd_any w.heap.size w.heap.size _ _ _ HR02.out (by omega) (by omega)).mono ?_
  rintro e w03 ⟨b, rfl, _, _, hr, hg⟩
  have HR3 := Lib.hid hr; have HL3 := Lib.hid ((Lst.rd_kept HL02.out HR02.out hg (Nat.le_refl _)).more hg.size); have HB3 := Lib.hid (HB02.out.trans (below_grownBy hg HB02.out.size (Nat.le_refl _)))
  clear hr hg
  cases b
  · skip
    go_wp2_with fail
    refine (odd_any w.heap.size w.heap.size _ _ _ HR3.out (by omega) (by omega)).mono ?_
    rintro e w1 ⟨b, rfl, _, _, hr, hg⟩
    have HR1 := Lib.hid hr; have HL1 := Lib.hid ((Lst.rd_kept HL3.out HR3.out hg (Nat.le_refl _)).more hg.size); have HB1 := Lib.hid (HB3.out.trans (below_grownBy hg HB3.out.size (Nat.le_refl _)))
    clear hr hg
    cases b
    · skip
      go_wp2_with fail
      refine (specAllFiles_any x n c l p _ _ HL1.out (Nat.le_refl _) (short_mil HS.out)).mono ?_
      have hrw := HR1.out.lt
      rintro e w2 ⟨vf, rfl, ho, hb⟩
      obtain ⟨xf, nf, cf, rfl, _⟩ := ho.lst
      have HR2 := Lib.hid (HR1.out.below hb); have HL2 := Lib.hid ((HL1.out.below hb (Nat.le_refl _)).more hb.size); have HB2 := Lib.hid (HB1.out.trans (hb.mono HB1.out.size)); have HF2 := Lib.hid ho
      clear ho hb
      have hnf : nf ≤ 27 := by have h1 := HF2.out.lst'.len; have h2 := all_many (l := l) (root := p); omega
      by_cases h0 : 0 < nf
      · have h0i : (0 : Int) < (nf : Int) := by omega
        go_wp2_with fail
        refine (pickN_any 2 w.heap.size w.heap.size _ _ _ w2 HR2.out (grownBy_refl _ _) rfl (by decide) (by decide) (by omega)).mono ?_
        rintro e w3 ⟨j, rfl, hj, hr, hg, _⟩
        have HR3 := Lib.hid hr; have HL3 := Lib.hid ((Lst.rd_kept HL2.out HR2.out hg (Nat.le_refl _)).more hg.size); have HB3 := Lib.hid (HB2.out.trans (below_grownBy hg HB2.out.size (Nat.le_refl _))); have HF3 := Lib.hid (own_keptL HF2.out hg hrw)
        clear hr hg
        by_cases hj0 : j = 0
        · have hd : ((j : Int) == 0) = true := by simp; omega
          obtain ⟨bf, off, rfl, _, _⟩ := HF3.out.lst'.atS (k := 0) h0
          have hcf := HF3.out.lst'.le
          have hcm := HF3.out.lst'.max
          unfold maxLen at hcm
          go_wp2
          have HRD := Lib.hid (show Rd w.heap.size w3.drew w.heap.size 5000 from Rd.keep (HR3.out.more (by omega)) (fun _ _ => rfl) rfl); have HFD := Lib.hid (OwnL.below HF3.out ((Below.refl w3.heap.size w3).drew)); have HLD := Lib.hid (Lst.drew HL3.out); have HBD := Lib.hid (HB3.out.drew); have h1n : 1 ≤ nf := h0; have h2n : nf ≤ 1000000 := (by omega); have h3n : 5000 ≤ 1000000 := (by omega)
          go_region_with (go_at_call 71; refine (pickN_any nf w.heap.size w.heap.size 5000 _ w3.drew w3.drew HRD.out (grownBy_refl _ _) rfl h1n h2n h3n).mono ?_; rintro e w4 ⟨i, rfl, hi, hr, hg, _⟩; have HFQ := Lib.hid (own_keptL HFD.out hg hrw); have hcell := own_strAt HFQ.out hi; have hii := Int.ofNat_lt.2 hi; have HR4 := Lib.hid hr; have HL4 := Lib.hid ((Lst.rd_kept HLD.out HRD.out hg (Nat.le_refl _)).more hg.size); have HB4 := Lib.hid (HBD.out.trans (below_grownBy hg HBD.out.size (Nat.le_refl _))); have HII := Lib.hid hi; clear hr hg hi)
          go_wp2
          go_ret3
          exact ⟨x, n, c, l, p, _, rfl, hl41, HS.out, all_small _ (nthS_mem' (by have h1 := HFQ.out.lst'.len; have h2 := HII.out; omega)), HL4.out, HB4.out⟩
        · have hd : ((j : Int) == 0) = false := by simp; omega
          go_wp2_with fail
          refine (l20Path_any w.heap.size w.heap.size _ _ _ HR3.out (by omega) (by omega)).mono ?_
          rintro e w5 ⟨path, rfl, hp, _, hr, hg⟩
          have hps := paths_size path hp
          have HR5 := Lib.hid hr; have HL5 := Lib.hid ((Lst.rd_kept HL3.out HR3.out hg (Nat.le_refl _)).more hg.size); have HB5 := Lib.hid (HB3.out.trans (below_grownBy hg HB3.out.size (Nat.le_refl _)))
          clear hr hg
          go_wp2_with fail
          go_ret3
          exact ⟨x, n, c, l, p, path, rfl, hl41, HS.out, by omega, HL5.out, HB5.out⟩
      · obtain rfl : nf = 0 := by omega
        go_wp2_with fail
        refine (l20Path_any w.heap.size w.heap.size _ _ _ HR2.out (by omega) (by omega)).mono ?_
        rintro e w6 ⟨path, rfl, hp, _, hr, hg⟩
        have hps := paths_size path hp
        have HR6 := Lib.hid hr; have HL6 := Lib.hid ((Lst.rd_kept HL2.out HR2.out hg (Nat.le_refl _)).more hg.size); have HB6 := Lib.hid (HB2.out.trans (below_grownBy hg HB2.out.size (Nat.le_refl _)))
        clear hr hg
        go_wp2_with fail
        go_ret3
        exact ⟨x, n, c, l, p, path, rfl, hl41, HS.out, by omega, HL6.out, HB6.out⟩
    · have HI2 := Lib.hid (Ints.lit2 w1 p 354)
      have hnn : n ≤ 1000000 := by have := HL1.out.len; omega
      have HBA := Lib.hid ((Below.refl w1.heap.size w1).alloc (Nat.le_refl _) (.cells #[.int .i64 p, .int .i64 354] 3))
      go_wp2_with fail
      refine (specSweep_any x n c l _ 2 2 [p, 354] _ _ _ ((HL1.out.below HBA.out (Nat.le_refl _)).more HBA.out.size) (Nat.le_refl _) HI2.out (Nat.le_refl _) (short_mil HS.out) hnn).mono ?_
      rintro e w7 ⟨vs, L, rfl, hLn, hin, ho, hb⟩
      obtain ⟨xs, ns, cs, rfl, hls⟩ := ho.lst
      have HR7 := Lib.hid ((HR1.out.below HBA.out).below hb); have HL7 := Lib.hid hls; have HB7 := Lib.hid (HB1.out.trans ((HBA.out.trans (hb.mono HBA.out.size)).mono HB1.out.size)); have HSL := Lib.hid (show Short 60 L from fun q hq => HS.out q (hin q hq)); have hL41 : L.length ≤ 41 := by have := HL1.out.len; omega
      clear ho hb hls hin hLn HL1 HS hl41 HI2 HBA
      skip
      go_wp2_with fail
      refine (specAllFiles_any xs ns cs L p _ _ HL7.out (Nat.le_refl _) (short_mil HSL.out)).mono ?_
      have hrw := HR7.out.lt
      rintro e w8 ⟨vf, rfl, ho, hb⟩
      obtain ⟨xf, nf, cf, rfl, _⟩ := ho.lst
      have HR8 := Lib.hid (HR7.out.below hb); have HL8 := Lib.hid ((HL7.out.below hb (Nat.le_refl _)).more hb.size); have HB8 := Lib.hid (HB7.out.trans (hb.mono HB7.out.size)); have HF8 := Lib.hid ho
      clear ho hb
      have hnf : nf ≤ 27 := by have h1 := HF8.out.lst'.len; have h2 := all_many (l := L) (root := p); omega
      by_cases h0 : 0 < nf
      · have h0i : (0 : Int) < (nf : Int) := by omega
        go_wp2_with fail
        refine (pickN_any 2 w.heap.size w.heap.size _ _ _ w8 HR8.out (grownBy_refl _ _) rfl (by decide) (by decide) (by omega)).mono ?_
        rintro e w9 ⟨j, rfl, hj, hr, hg, _⟩
        have HR9 := Lib.hid hr; have HL9 := Lib.hid ((Lst.rd_kept HL8.out HR8.out hg (Nat.le_refl _)).more hg.size); have HB9 := Lib.hid (HB8.out.trans (below_grownBy hg HB8.out.size (Nat.le_refl _))); have HF9 := Lib.hid (own_keptL HF8.out hg hrw)
        clear hr hg
        by_cases hj0 : j = 0
        · have hd : ((j : Int) == 0) = true := by simp; omega
          obtain ⟨bf, off, rfl, _, _⟩ := HF9.out.lst'.atS (k := 0) h0
          have hcf := HF9.out.lst'.le
          have hcm := HF9.out.lst'.max
          unfold maxLen at hcm
          go_wp2
          have HRD := Lib.hid (show Rd w.heap.size w9.drew w.heap.size 5000 from Rd.keep (HR9.out.more (by omega)) (fun _ _ => rfl) rfl); have HFD := Lib.hid (OwnL.below HF9.out ((Below.refl w9.heap.size w9).drew)); have HLD := Lib.hid (Lst.drew HL9.out); have HBD := Lib.hid (HB9.out.drew); have h1n : 1 ≤ nf := h0; have h2n : nf ≤ 1000000 := (by omega); have h3n : 5000 ≤ 1000000 := (by omega)
          go_region_with (go_at_call 71; refine (pickN_any nf w.heap.size w.heap.size 5000 _ w9.drew w9.drew HRD.out (grownBy_refl _ _) rfl h1n h2n h3n).mono ?_; rintro e w10 ⟨i, rfl, hi, hr, hg, _⟩; have HFQ := Lib.hid (own_keptL HFD.out hg hrw); have hcell := own_strAt HFQ.out hi; have hii := Int.ofNat_lt.2 hi; have HR10 := Lib.hid hr; have HL10 := Lib.hid ((Lst.rd_kept HLD.out HRD.out hg (Nat.le_refl _)).more hg.size); have HB10 := Lib.hid (HBD.out.trans (below_grownBy hg HBD.out.size (Nat.le_refl _))); have HII := Lib.hid hi; clear hr hg hi)
          go_wp2
          go_ret3
          exact ⟨xs, ns, cs, L, p, _, rfl, hL41, HSL.out, all_small _ (nthS_mem' (by have h1 := HFQ.out.lst'.len; have h2 := HII.out; omega)), HL10.out, HB10.out⟩
        · have hd : ((j : Int) == 0) = false := by simp; omega
          go_wp2_with fail
          refine (l20Path_any w.heap.size w.heap.size _ _ _ HR9.out (by omega) (by omega)).mono ?_
          rintro e w11 ⟨path, rfl, hp, _, hr, hg⟩
          have hps := paths_size path hp
          have HR11 := Lib.hid hr; have HL11 := Lib.hid ((Lst.rd_kept HL9.out HR9.out hg (Nat.le_refl _)).more hg.size); have HB11 := Lib.hid (HB9.out.trans (below_grownBy hg HB9.out.size (Nat.le_refl _)))
          clear hr hg
          go_wp2_with fail
          go_ret3
          exact ⟨xs, ns, cs, L, p, path, rfl, hL41, HSL.out, by omega, HL11.out, HB11.out⟩
      · obtain rfl : nf = 0 := by omega
        go_wp2_with fail
        refine (l20Path_any w.heap.size w.heap.size _ _ _ HR8.out (by omega) (by omega)).mono ?_
        rintro e w12 ⟨path, rfl, hp, _, hr, hg⟩
        have hps := paths_size path hp
        have HR12 := Lib.hid hr; have HL12 := Lib.hid ((Lst.rd_kept HL8.out HR8.out hg (Nat.le_refl _)).more hg.size); have HB12 := Lib.hid (HB8.out.trans (below_grownBy hg HB8.out.size (Nat.le_refl _)))
        clear hr hg
        go_wp2_with fail
        go_ret3
        exact ⟨xs, ns, cs, L, p, path, rfl, hL41, HSL.out, by omega, HL12.out, HB12.out⟩
  · go_wp2_with fail
    refine (l20Print_any w.heap.size w.heap.size _ _ _ HR3.out (by omega) (by omega)).mono ?_
    rintro e w04 ⟨u, rfl, _, _, hr, hg⟩
    have HR4 := Lib.hid hr; have HL4 := Lib.hid ((Lst.rd_kept HL3.out HR3.out hg (Nat.le_refl _)).more hg.size); have HB4 := Lib.hid (HB3.out.trans (below_grownBy hg HB3.out.size (Nat.le_refl _)))
    clear hr hg
    go_wp2_with fail
    refine (odd_any w.heap.size w.heap.size _ _ _ HR4.out (by omega) (by omega)).mono ?_
    rintro e w51 ⟨b, rfl, _, _, hr, hg⟩
    have HR51 := Lib.hid hr; have HL51 := Lib.hid ((Lst.rd_kept HL4.out HR4.out hg (Nat.le_refl _)).more hg.size); have HB51 := Lib.hid (HB4.out.trans (below_grownBy hg HB4.out.size (Nat.le_refl _)))
    clear hr hg
    cases b
    · skip
      go_wp2_with fail
      refine (specAllFiles_any x n c l u _ _ HL51.out (Nat.le_refl _) (short_mil HS.out)).mono ?_
      have hrw := HR51.out.lt
      rintro e w52 ⟨vf, rfl, ho, hb⟩
      obtain ⟨xf, nf, cf, rfl, _⟩ := ho.lst
      have HR52 := Lib.hid (HR51.out.below hb); have HL52 := Lib.hid ((HL51.out.below hb (Nat.le_refl _)).more hb.size); have HB52 := Lib.hid (HB51.out.trans (hb.mono HB51.out.size)); have HF52 := Lib.hid ho
      clear ho hb
      have hnf : nf ≤ 27 := by have h1 := HF52.out.lst'.len; have h2 := all_many (l := l) (root := u); omega
      by_cases h0 : 0 < nf
      · have h0i : (0 : Int) < (nf : Int) := by omega
        go_wp2_with fail
        refine (pickN_any 2 w.heap.size w.heap.size _ _ _ w52 HR52.out (grownBy_refl _ _) rfl (by decide) (by decide) (by omega)).mono ?_
        rintro e w53 ⟨j, rfl, hj, hr, hg, _⟩
        have HR53 := Lib.hid hr; have HL53 := Lib.hid ((Lst.rd_kept HL52.out HR52.out hg (Nat.le_refl _)).more hg.size); have HB53 := Lib.hid (HB52.out.trans (below_grownBy hg HB52.out.size (Nat.le_refl _))); have HF53 := Lib.hid (own_keptL HF52.out hg hrw)
        clear hr hg
        by_cases hj0 : j = 0
        · have hd : ((j : Int) == 0) = true := by simp; omega
          obtain ⟨bf, off, rfl, _, _⟩ := HF53.out.lst'.atS (k := 0) h0
          have hcf := HF53.out.lst'.le
          have hcm := HF53.out.lst'.max
          unfold maxLen at hcm
          go_wp2
          have HRD := Lib.hid (show Rd w.heap.size w53.drew w.heap.size 5000 from Rd.keep (HR53.out.more (by omega)) (fun _ _ => rfl) rfl); have HFD := Lib.hid (OwnL.below HF53.out ((Below.refl w53.heap.size w53).drew)); have HLD := Lib.hid (Lst.drew HL53.out); have HBD := Lib.hid (HB53.out.drew); have h1n : 1 ≤ nf := h0; have h2n : nf ≤ 1000000 := (by omega); have h3n : 5000 ≤ 1000000 := (by omega)
          go_region_with (go_at_call 71; refine (pickN_any nf w.heap.size w.heap.size 5000 _ w53.drew w53.drew HRD.out (grownBy_refl _ _) rfl h1n h2n h3n).mono ?_; rintro e w54 ⟨i, rfl, hi, hr, hg, _⟩; have HFQ := Lib.hid (own_keptL HFD.out hg hrw); have hcell := own_strAt HFQ.out hi; have hii := Int.ofNat_lt.2 hi; have HR54 := Lib.hid hr; have HL54 := Lib.hid ((Lst.rd_kept HLD.out HRD.out hg (Nat.le_refl _)).more hg.size); have HB54 := Lib.hid (HBD.out.trans (below_grownBy hg HBD.out.size (Nat.le_refl _))); have HII := Lib.hid hi; clear hr hg hi)
          go_wp2
          go_ret3
          exact ⟨x, n, c, l, u, _, rfl, hl41, HS.out, all_small _ (nthS_mem' (by have h1 := HFQ.out.lst'.len; have h2 := HII.out; omega)), HL54.out, HB54.out⟩
        · have hd : ((j : Int) == 0) = false := by simp; omega
          go_wp2_with fail
          refine (l20Path_any w.heap.size w.heap.size _ _ _ HR53.out (by omega) (by omega)).mono ?_
          rintro e w55 ⟨path, rfl, hp, _, hr, hg⟩
          have hps := paths_size path hp
          have HR55 := Lib.hid hr; have HL55 := Lib.hid ((Lst.rd_kept HL53.out HR53.out hg (Nat.le_refl _)).more hg.size); have HB55 := Lib.hid (HB53.out.trans (below_grownBy hg HB53.out.size (Nat.le_refl _)))
          clear hr hg
          go_wp2_with fail
          go_ret3
          exact ⟨x, n, c, l, u, path, rfl, hl41, HS.out, by omega, HL55.out, HB55.out⟩
      · obtain rfl : nf = 0 := by omega
        go_wp2_with fail
        refine (l20Path_any w.heap.size w.heap.size _ _ _ HR52.out (by omega) (by omega)).mono ?_
        rintro e w56 ⟨path, rfl, hp, _, hr, hg⟩
        have hps := paths_size path hp
        have HR56 := Lib.hid hr; have HL56 := Lib.hid ((Lst.rd_kept HL52.out HR52.out hg (Nat.le_refl _)).more hg.size); have HB56 := Lib.hid (HB52.out.trans (below_grownBy hg HB52.out.size (Nat.le_refl _)))
        clear hr hg
        go_wp2_with fail
        go_ret3
        exact ⟨x, n, c, l, u, path, rfl, hl41, HS.out, by omega, HL56.out, HB56.out⟩
    · have HI2 := Lib.hid (Ints.lit2 w51 u 354)
      have hnn : n ≤ 1000000 := by have := HL51.out.len; omega
      have HBA := Lib.hid ((Below.refl w51.heap.size w51).alloc (Nat.le_refl _) (.cells #[.int .i64 u, .int .i64 354] 3))
      go_wp2_with fail
      refine (specSweep_any x n c l _ 2 2 [u, 354] _ _ _ ((HL51.out.below HBA.out (Nat.le_refl _)).more HBA.out.size) (Nat.le_refl _) HI2.out (Nat.le_refl _) (short_mil HS.out) hnn).mono ?_
      rintro e w57 ⟨vs, L, rfl, hLn, hin, ho, hb⟩
      obtain ⟨xs, ns, cs, rfl, hls⟩ := ho.lst
      have HR57 := Lib.hid ((HR51.out.below HBA.out).below hb); have HL57 := Lib.hid hls; have HB57 := Lib.hid (HB51.out.trans ((HBA.out.trans (hb.mono HBA.out.size)).mono HB51.out.size)); have HSL := Lib.hid (show Short 60 L from fun q hq => HS.out q (hin q hq)); have hL41 : L.length ≤ 41 := by have := HL51.out.len; omega
      clear ho hb hls hin hLn HL51 HS hl41 HI2 HBA
      skip
      go_wp2_with fail
      refine (specAllFiles_any xs ns cs L u _ _ HL57.out (Nat.le_refl _) (short_mil HSL.out)).mono ?_
      have hrw := HR57.out.lt
      rintro e w58 ⟨vf, rfl, ho, hb⟩
      obtain ⟨xf, nf, cf, rfl, _⟩ := ho.lst
      have HR58 := Lib.hid (HR57.out.below hb); have HL58 := Lib.hid ((HL57.out.below hb (Nat.le_refl _)).more hb.size); have HB58 := Lib.hid (HB57.out.trans (hb.mono HB57.out.size)); have HF58 := Lib.hid ho
      clear ho hb
      have hnf : nf ≤ 27 := by have h1 := HF58.out.lst'.len; have h2 := all_many (l := L) (root := u); omega
      by_cases h0 : 0 < nf
      · have h0i : (0 : Int) < (nf : Int) := by omega
        go_wp2_with fail
        refine (pickN_any 2 w.heap.size w.heap.size _ _ _ w58 HR58.out (grownBy_refl _ _) rfl (by decide) (by decide) (by omega)).mono ?_
        rintro e w59 ⟨j, rfl, hj, hr, hg, _⟩
        have HR59 := Lib.hid hr; have HL59 := Lib.hid ((Lst.rd_kept HL58.out HR58.out hg (Nat.le_refl _)).more hg.size); have HB59 := Lib.hid (HB58.out.trans (below_grownBy hg HB58.out.size (Nat.le_refl _))); have HF59 := Lib.hid (own_keptL HF58.out hg hrw)
        clear hr hg
        by_cases hj0 : j = 0
        · have hd : ((j : Int) == 0) = true := by simp; omega
          obtain ⟨bf, off, rfl, _, _⟩ := HF59.out.lst'.atS (k := 0) h0
          have hcf := HF59.out.lst'.le
          have hcm := HF59.out.lst'.max
          unfold maxLen at hcm
          go_wp2
          have HRD := Lib.hid (show Rd w.heap.size w59.drew w.heap.size 5000 from Rd.keep (HR59.out.more (by omega)) (fun _ _ => rfl) rfl); have HFD := Lib.hid (OwnL.below HF59.out ((Below.refl w59.heap.size w59).drew)); have HLD := Lib.hid (Lst.drew HL59.out); have HBD := Lib.hid (HB59.out.drew); have h1n : 1 ≤ nf := h0; have h2n : nf ≤ 1000000 := (by omega); have h3n : 5000 ≤ 1000000 := (by omega)
          go_region_with (go_at_call 71; refine (pickN_any nf w.heap.size w.heap.size 5000 _ w59.drew w59.drew HRD.out (grownBy_refl _ _) rfl h1n h2n h3n).mono ?_; rintro e w60 ⟨i, rfl, hi, hr, hg, _⟩; have HFQ := Lib.hid (own_keptL HFD.out hg hrw); have hcell := own_strAt HFQ.out hi; have hii := Int.ofNat_lt.2 hi; have HR60 := Lib.hid hr; have HL60 := Lib.hid ((Lst.rd_kept HLD.out HRD.out hg (Nat.le_refl _)).more hg.size); have HB60 := Lib.hid (HBD.out.trans (below_grownBy hg HBD.out.size (Nat.le_refl _))); have HII := Lib.hid hi; clear hr hg hi)
          go_wp2
          go_ret3
          exact ⟨xs, ns, cs, L, u, _, rfl, hL41, HSL.out, all_small _ (nthS_mem' (by have h1 := HFQ.out.lst'.len; have h2 := HII.out; omega)), HL60.out, HB60.out⟩
        · have hd : ((j : Int) == 0) = false := by simp; omega
          go_wp2_with fail
          refine (l20Path_any w.heap.size w.heap.size _ _ _ HR59.out (by omega) (by omega)).mono ?_
          rintro e w61 ⟨path, rfl, hp, _, hr, hg⟩
          have hps := paths_size path hp
          have HR61 := Lib.hid hr; have HL61 := Lib.hid ((Lst.rd_kept HL59.out HR59.out hg (Nat.le_refl _)).more hg.size); have HB61 := Lib.hid (HB59.out.trans (below_grownBy hg HB59.out.size (Nat.le_refl _)))
          clear hr hg
          go_wp2_with fail
          go_ret3
          exact ⟨xs, ns, cs, L, u, path, rfl, hL41, HSL.out, by omega, HL61.out, HB61.out⟩
      · obtain rfl : nf = 0 := by omega
        go_wp2_with fail
        refine (l20Path_any w.heap.size w.heap.size _ _ _ HR58.out (by omega) (by omega)).mono ?_
        rintro e w62 ⟨path, rfl, hp, _, hr, hg⟩
        have hps := paths_size path hp
        have HR62 := Lib.hid hr; have HL62 := Lib.hid ((Lst.rd_kept HL58.out HR58.out hg (Nat.le_refl _)).more hg.size); have HB62 := Lib.hid (HB58.out.trans (below_grownBy hg HB58.out.size (Nat.le_refl _)))
        clear hr hg
        go_wp2_with fail
        go_ret3
        exact ⟨xs, ns, cs, L, u, path, rfl, hL41, HSL.out, by omega, HL62.out, HB62.out⟩
theorem drawReadAt_any (x : Option Addr) (n cap : Nat) (w : World) (h : Bytes w.heap.size w x n) (hn : n ≤ cap) (hc : cap ≤ maxLen) :
    Calls Tryz.prog 12 #[.slice x n cap] w (WhereOut w) := by
  go_enter Tryz.func12, Tryz.ntmps12
  go_wp2_with fail
  refine (l20Where_any x n cap w h hn hc).mono ?_
  rintro e w1 ⟨y, m, c, l, p, path, rfl, h1, h2, h3, h4, h5⟩
  go_wp2_with fail
  go_ret3
  exact ⟨y, m, c, l, p, path, rfl, h1, h2, h3, h4, h5⟩
theorem drawNamesAt_any (x : Option Addr) (n cap : Nat) (w : World) (h : Bytes w.heap.size w x n) (hn : n ≤ cap) (hc : cap ≤ maxLen) :
    Calls Tryz.prog 19 #[.slice x n cap] w (WhereOut w) := by
  go_enter Tryz.func19, Tryz.ntmps19
  go_wp2_with fail
  refine (l20Where_any x n cap w h hn hc).mono ?_
  rintro e w1 ⟨y, m, c, l, p, path, rfl, h1, h2, h3, h4, h5⟩
  go_wp2_with fail
  go_ret3
  exact ⟨y, m, c, l, p, path, rfl, h1, h2, h3, h4, h5⟩
end Go.Proofs.YtbbjpihlielpgaaGreatDoor
