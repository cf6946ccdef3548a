/-
  The walk of chapter 15's exact law SetBranch; a branch that came in.
-/
import Derived.Test.YtiniadlpgomgjaaExact15
import Derived.Lib.SmallJoins
namespace Go.Proofs.Ytiniadlpgomgjaa
open Go.RowKit Go.ChangeShapes Go.WideShapes Go.ChangeAt
set_option linter.unusedVariables false
theorem argBran_of {H : Type} {enc : TypeId × Value → H} {W : World} {r : Reach} {b0 : Nat} {v : Value} {d : DataW H} {p : List MemPlace} (hv : Value.okWide Try.prog W r b0 44 v) (h : DataW.Trod enc Try.prog W 0 (fun _ => true) true 44 v d p) : ∃ q : Ent, v = .agg #[.string q.1, .int .i64 q.2] ∧ q.1.size ≤ maxLen := by
  obtain ⟨v0, v1, y0, y1, n, rfl, _, _, h0, h1⟩ := Go.Joins.open_agg2 Try.underlying44 (by kernel_rfl) (by kernel_rfl) hv h
  obtain ⟨s, e0, _, hs⟩ := DataW.trod_string Try.underlying9 h0
  obtain ⟨z, e1, _⟩ := DataW.trod_int Try.underlying3 h1
  simp only [List.cons.injEq, and_true] at e0 e1
  subst e0 e1
  exact ⟨(s, z), rfl, hs⟩
/-- What holds of what the operations of a drawn region yield. -/
def BrF (base : Nat) (x : Option Addr) (n cap : Nat) (l : List Ent) (many : Int) (p : Ent) : Nat → Value → World → Prop
  | 0, v, _ => v = .slice x n cap
  | 1, v, w => OwnBr w base v l
  | 2, v, _ => v = .int .i64 many
  | 3, v, _ => v = .agg #[.string p.1, .int .i64 p.2]
  | 4, v, _ => v = .agg #[.string p.1, .int .i64 p.2]
  | 5, v, w => ∃ u, v = .tuple #[u, .bool (putBr l many p).2] ∧ OwnBr w base u (putBr l many p).1
  | 6, v, w => ∃ u, v = .tuple #[u, .bool (putBr l many p).2] ∧ OwnBr w base u (putBr l many p).1
  | 7, v, w => OwnBr w base v (putBr l many p).1
  | 8, v, _ => v = .bool (putBr l many p).2
  | 9, v, w => OwnBr w base v (putBr l many p).1
  | _, v, _ => v = .bool (putBr l many p).2
theorem brF_mono {base : Nat} {x : Option Addr} {n cap : Nat} {l : List Ent} {many : Int} {p : Ent} : ∀ (k : Nat) (v : Value) (w w' : World), Below w.heap.size w w' → BrF base x n cap l many p k v w → BrF base x n cap l many p k v w'
  | 0, v, w, w', hb, h => h
  | 1, v, w, w', hb, h => OwnL.below h hb
  | 2, v, w, w', hb, h => h
  | 3, v, w, w', hb, h => h
  | 4, v, w, w', hb, h => h
  | 5, v, w, w', hb, h => by obtain ⟨u, e, ho⟩ := h; exact ⟨u, e, OwnL.below ho hb⟩
  | 6, v, w, w', hb, h => by obtain ⟨u, e, ho⟩ := h; exact ⟨u, e, OwnL.below ho hb⟩
  | 7, v, w, w', hb, h => OwnL.below h hb
  | 8, v, w, w', hb, h => h
  | 9, v, w, w', hb, h => OwnL.below h hb
  | _ + 10, v, w, w', hb, h => h
def BrG (w0 : World) (L : Nat → Bool) (w : World) : Prop := Below w0.heap.size w0 w
set_option maxHeartbeats 4000000 in
set_option maxRecDepth 100000 in
theorem fnExactSetBranch_any (x0 : Option Addr) (n0 cap0 : Nat) (l0 : List Ent) (many : Int) (p : Ent) (w : World) (h : Ents w w.heap.size x0 n0 cap0 l0) (hz0 : ∀ k, (nthE l0 k).1.size ≤ maxLen) (hp : p.1.size ≤ maxLen) : Calls Try.prog 8 #[.slice x0 n0 cap0, .int .i64 many, .agg #[.string p.1, .int .i64 p.2]] w fun e w' => e = .returned (.bool true) ∧ Below w.heap.size w w' := by
  obtain ⟨wA, hW⟩ : ∃ wA, w.alloc (.cells #[.string p.1, .int .i64 p.2] 44) = wA := ⟨_, rfl⟩
  have h0 : Ents wA wA.heap.size x0 n0 cap0 l0 := by rw [← hW]; exact (h.alloc (Nat.le_refl _) _).more (by simp)
  have HX := Lib.hid (show wA.heap[w.heap.size]? = some (.cells #[.string p.1, .int .i64 p.2] 44 (0, 0)) by rw [← hW]; exact heap_alloc_new w _)
  have hbx : w.heap.size < wA.heap.size := by rw [← hW]; simp
  have HBW := Lib.hid (show Below w.heap.size w wA by rw [← hW]; exact (Below.refl w.heap.size w).alloc (Nat.le_refl _) _)
  have HW := Lib.hid hW
  clear hW
  have HLEN0 := Lib.hid h0.len
  have hmx0 := h0.max
  have hle0 := h0.le
  unfold maxLen at hmx0
  by_cases hfit0 : (l0.length + sumE l0 : Int) ≤ 1048576
  rotate_left
  · have hr0 := leftEn_no hfit0
    have B0 := Lib.hid (Below.refl wA.heap.size wA)
    go_enter Try.func8, Try.ntmps8
    have hW := HW.out
    go_wp2_with fail
    refine (szBranchS_any x0 n0 cap0 l0 1048576 wA.heap.size _ (Lst.more (Lst.below h0 B0.out (Nat.le_refl _)) B0.out.size) (Nat.le_refl _) hz0 (by omega) (by omega)).mono ?_
    rintro e w1 ⟨rfl, hb⟩
    rw [hr0]
    have B0_1 := Lib.hid (B0.out.trans (hb.mono B0.out.size))
    clear hb
    clear hW
    go_wp2_with fail
    go_ret
    exact ⟨rfl, HBW.out.trans (B0_1.out.mono HBW.out.size)⟩
  obtain ⟨hra0, hrb0, hl0⟩ := leftEn_yes hfit0
  obtain ⟨r0, hr0⟩ : ∃ r, leftEn l0 1048576 = r := ⟨_, rfl⟩
  rw [hr0] at hra0 hrb0
  have hn0 : n0 ≤ 1048576 := by have := HLEN0.out; omega
  by_cases hfitp : (p.1.size : Int) ≤ r0
  rotate_left
  · have hrp : (if (p.1.size : Int) ≤ r0 then r0 - p.1.size else -1) = -1 := if_neg hfitp
    have B0 := Lib.hid (Below.refl wA.heap.size wA)
    go_enter Try.func8, Try.ntmps8
    have hW := HW.out
    go_wp2_with fail
    refine (szBranchS_any x0 n0 cap0 l0 1048576 wA.heap.size _ (Lst.more (Lst.below h0 B0.out (Nat.le_refl _)) B0.out.size) (Nat.le_refl _) hz0 (by omega) (by omega)).mono ?_
    rintro e w1 ⟨rfl, hb⟩
    rw [hr0]
    have B0_1 := Lib.hid (B0.out.trans (hb.mono B0.out.size))
    clear hb
    clear hW
    obtain ⟨d0, d1, g0, g1⟩ := two_at ((B0_1.out.block _ hbx).trans HX.out)
    go_wp2_with fail
    refine (szBranch_any p r0 _ (by omega) (by omega) hp).mono ?_
    rintro e w2 ⟨rfl, hb⟩
    clear d0 d1 g0 g1
    have B0_2 := Lib.hid (B0_1.out.trans (hb.mono B0_1.out.size))
    clear hb
    rw [hrp]
    go_wp2_with fail
    go_ret
    exact ⟨rfl, HBW.out.trans (B0_2.out.mono HBW.out.size)⟩
  obtain ⟨rp, hrq⟩ : ∃ q, r0 - (p.1.size : Int) = q := ⟨_, rfl⟩
  have hrp0 : 0 ≤ rp := by omega
  have hrp : (if (p.1.size : Int) ≤ r0 then r0 - p.1.size else -1) = rp := (if_pos hfitp).trans hrq
  clear hrq
  have B0 := Lib.hid (Below.refl wA.heap.size wA)
  go_enter Try.func8, Try.ntmps8
  have hW := HW.out
  have HLL := Lib.hid (putBr_len l0 many p)
  have hp2 : p.1.size ≤ 2000000 := by omega
  go_wp2_with fail
  refine (szBranchS_any x0 n0 cap0 l0 1048576 wA.heap.size _ (Lst.more (Lst.below h0 B0.out (Nat.le_refl _)) B0.out.size) (Nat.le_refl _) hz0 (by omega) (by omega)).mono ?_
  rintro e w1 ⟨rfl, hb⟩
  rw [hr0]
  have B0_1 := Lib.hid (B0.out.trans (hb.mono B0.out.size))
  clear hb
  clear hW
  obtain ⟨d0, d1, g0, g1⟩ := two_at ((B0_1.out.block _ hbx).trans HX.out)
  go_wp2_with fail
  refine (szBranch_any p r0 _ (by omega) (by omega) hp).mono ?_
  rintro e w2 ⟨rfl, hb⟩
  clear d0 d1 g0 g1
  have B0_2 := Lib.hid (B0_1.out.trans (hb.mono B0_1.out.size))
  clear hb
  rw [hrp]
  have HQL : ∃ q, putBr l0 many p = q := ⟨_, rfl⟩
  clear HQL
  go_wp2
  have HE := Lib.hid (show Ents w2.drew w2.drew.heap.size x0 n0 cap0 l0 from Lst.drew (Lst.more (Lst.below h0 B0_2.out (Nat.le_refl _)) B0_2.out.size))
  have HBX := Lib.hid (show w2.drew.heap[w.heap.size]? = some (.cells #[.string p.1, .int .i64 p.2] 44 (0, 0)) from (B0_2.out.block _ hbx).trans HX.out)
  have hbz : w.heap.size < w2.drew.heap.size := Nat.lt_of_lt_of_le hbx B0_2.out.size
  have HD := Lib.hid (Below.drew (Below.refl w2.heap.size w2))
  refine region_facts (fun w w' => Below w.heap.size w w') (BrG w2.drew) (BrF w2.drew.heap.size x0 n0 cap0 l0 many p) (by kernel_rfl) (by kernel_rfl) (by kernel_rfl) brF_mono (Below.refl _ _) ?_ ?_
  · refine ⟨?_, ?_, ?_, ?_, ?_, ?_, ?_, ?_, ?_, ?_, ?_, trivial⟩
    · intro L v aa ww hA hG hF hl hd K hK
      have HK := Lib.hid hK; have HGG := Lib.hid (show Below _ _ ww from hG)
      have k0 := hA.keep 0 (.slice x0 n0 cap0) rfl rfl
      clear hA hG hF hl hd hK
      go_simp
      exact HK.out _ _ ⟨_, rfl, Below.refl _ _, HGG.out, rfl⟩
    · intro L v aa ww hA hG hF hl hd K hK
      have HK := Lib.hid hK; have HGG := Lib.hid (show Below _ _ ww from hG)
      have l0 : L 0 = true := by have h := hd; simp [Region.binds] at h; simp [h]
      have f0 := hF 0 l0
      have b0 := hA.at' 0 _ 29 rfl rfl rfl
      rw [show v 0 = _ from f0] at b0
      clear hA hG hF hl hd hK
      clear f0 l0
      go_simp
      go_at_call 26
      refine (toBranchS_any _ _ _ l0 _ (Lst.more (Lst.below HE.out HGG.out (Nat.le_refl _)) HGG.out.size) hn0).mono ?_
      rintro e w3 ⟨u, rfl, ho, hb⟩
      exact HK.out _ _ ⟨_, rfl, hb, HGG.out.trans (hb.mono HGG.out.size), ho.mono HGG.out.size⟩
    · intro L v aa ww hA hG hF hl hd K hK
      have HK := Lib.hid hK; have HGG := Lib.hid (show Below _ _ ww from hG)
      have k1 := hA.keep 1 (.int .i64 many) rfl rfl
      clear hA hG hF hl hd hK
      go_simp
      exact HK.out _ _ ⟨_, rfl, Below.refl _ _, HGG.out, rfl⟩
    · intro L v aa ww hA hG hF hl hd K hK
      have HK := Lib.hid hK; have HGG := Lib.hid (show Below _ _ ww from hG)
      have k3 := hA.keep 5 (.pointer (some ⟨w.heap.size, 0, none⟩)) rfl rfl
      obtain ⟨e0, e1, _, _⟩ := two_at ((HGG.out.block _ hbz).trans HBX.out)
      clear hA hG hF hl hd hK
      go_simp
      exact HK.out _ _ ⟨_, rfl, Below.refl _ _, HGG.out, rfl⟩
    · intro L v aa ww hA hG hF hl hd K hK
      have HK := Lib.hid hK; have HGG := Lib.hid (show Below _ _ ww from hG)
      have l3 : L 3 = true := by have h := hd; simp [Region.binds] at h; simp [h]
      have f3 := hF 3 l3
      have b3 := hA.at' 3 _ 32 rfl rfl rfl
      rw [show v 3 = _ from f3] at b3
      clear hA hG hF hl hd hK
      clear f3 l3
      go_simp
      go_at_call 29
      refine (toBranch_any p _).mono ?_
      rintro e w3 ⟨rfl, hb⟩
      exact HK.out _ _ ⟨_, rfl, hb, HGG.out.trans (hb.mono HGG.out.size), rfl⟩
    · intro L v aa ww hA hG hF hl hd K hK
      have HK := Lib.hid hK; have HGG := Lib.hid (show Below _ _ ww from hG)
      have l1 : L 1 = true := by have h := hd; simp [Region.binds] at h; simp [h]
      have f1 := hF 1 l1
      have l2 : L 2 = true := by have h := hd; simp [Region.binds] at h; simp [h]
      have f2 := hF 2 l2
      have l4 : L 4 = true := by have h := hd; simp [Region.binds] at h; simp [h]
      have f4 := hF 4 l4
      have b2 := hA.at' 2 _ 31 rfl rfl rfl
      rw [show v 2 = _ from f2] at b2
      have b1 := hA.at' 1 _ 30 rfl rfl rfl
      have b4 := hA.at' 4 _ 33 rfl rfl rfl
      obtain ⟨y, m, c, e1, hi⟩ := OwnL.lst (show OwnBr _ _ _ _ from f1)
      rw [e1] at b1
      rw [show v 4 = _ from f4] at b4
      have HI := Lib.hid hi
      clear hA hG hF hl hd hK
      clear f1 f2 f4 l1 l2 l4 e1 hi
      go_simp
      go_at_call 17
      refine (specSetBranch_any _ _ _ l0 many p _ _ HI.out (Nat.le_refl _) hz0 hp).mono ?_
      rintro e w3 ⟨u, rfl, ho, hb⟩
      exact HK.out _ _ ⟨_, rfl, hb, HGG.out.trans (hb.mono HGG.out.size), ⟨u, rfl, ho.mono HGG.out.size⟩⟩
    · intro L v aa ww hA hG hF hl hd K hK
      have HK := Lib.hid hK; have HGG := Lib.hid (show Below _ _ ww from hG)
      have l5 : L 5 = true := by have h := hd; simp [Region.binds] at h; simp [h]
      have f5 := hF 5 l5
      have b5 := hA.at' 5 _ 34 rfl rfl rfl
      obtain ⟨u, e5, ho⟩ := (show ∃ u, v 5 = .tuple #[u, .bool (putBr l0 many p).2] ∧ OwnBr ww _ u _ from f5)
      obtain ⟨y, m, c, rfl, _⟩ := ho.lst
      rw [e5] at b5
      have HO := Lib.hid ho
      clear hA hG hF hl hd hK
      clear f5 l5 e5 ho
      go_simp
      exact HK.out _ _ ⟨_, rfl, Below.refl _ _, HGG.out, ⟨_, rfl, HO.out⟩⟩
    · intro L v aa ww hA hG hF hl hd K hK
      have HK := Lib.hid hK; have HGG := Lib.hid (show Below _ _ ww from hG)
      have l6 : L 6 = true := by have h := hd; simp [Region.binds] at h; simp [h]
      have f6 := hF 6 l6
      have b6 := hA.at' 6 _ 28 rfl rfl rfl
      obtain ⟨u, e6, ho⟩ := (show ∃ u, v 6 = .tuple #[u, .bool (putBr l0 many p).2] ∧ OwnBr ww _ u _ from f6)
      obtain ⟨y, m, c, rfl, _⟩ := ho.lst
      rw [e6] at b6
      have HO := Lib.hid ho
      clear hA hG hF hl hd hK
      clear f6 l6 e6 ho
      go_simp
      exact HK.out _ _ ⟨_, rfl, Below.refl _ _, HGG.out, HO.out⟩
    · intro L v aa ww hA hG hF hl hd K hK
      have HK := Lib.hid hK; have HGG := Lib.hid (show Below _ _ ww from hG)
      have l6 : L 6 = true := by have h := hd; simp [Region.binds] at h; simp [h]
      have f6 := hF 6 l6
      have b6 := hA.at' 6 _ 28 rfl rfl rfl
      obtain ⟨u, e6, ho⟩ := (show ∃ u, v 6 = .tuple #[u, .bool (putBr l0 many p).2] ∧ OwnBr ww _ u _ from f6)
      obtain ⟨y, m, c, rfl, _⟩ := ho.lst
      rw [e6] at b6
      clear hA hG hF hl hd hK
      clear f6 l6 e6 ho
      go_simp
      exact HK.out _ _ ⟨_, rfl, Below.refl _ _, HGG.out, rfl⟩
    · intro L v aa ww hA hG hF hl hd K hK
      have HK := Lib.hid hK; have HGG := Lib.hid (show Below _ _ ww from hG)
      have l7 : L 7 = true := by have h := hd; simp [Region.binds] at h; simp [h]
      have f7 := hF 7 l7
      have b7 := hA.at' 7 _ 35 rfl rfl rfl
      have ho := (show OwnBr ww _ (v 7) _ from f7)
      obtain ⟨y, m, c, e7, _⟩ := ho.lst
      rw [e7] at b7 ho
      have HO := Lib.hid ho
      clear hA hG hF hl hd hK
      clear f7 l7 e7 ho
      go_simp
      exact HK.out _ _ ⟨_, rfl, Below.refl _ _, HGG.out, HO.out⟩
    · intro L v aa ww hA hG hF hl hd K hK
      have HK := Lib.hid hK; have HGG := Lib.hid (show Below _ _ ww from hG)
      have l8 : L 8 = true := by have h := hd; simp [Region.binds] at h; simp [h]
      have f8 := hF 8 l8
      have b8 := hA.at' 8 _ 36 rfl rfl rfl
      rw [show v 8 = _ from f8] at b8
      clear hA hG hF hl hd hK
      clear f8 l8
      go_simp
      exact HK.out _ _ ⟨_, rfl, Below.refl _ _, HGG.out, rfl⟩
  intro L v w3 hF hL hG
  have f9 := hF 9 (by decide); have f10 := hF 10 (by decide)
  have ho := (show OwnBr w3 _ (v 9) (putBr l0 many p).1 from f9)
  obtain ⟨yW, mW, cW, e9, hi⟩ := ho.lst
  rw [e9] at ho
  have OW := Lib.hid ho; have IW := Lib.hid hi
  have hb := HD.out.trans (show Below w2.heap.size w2.drew w3 from Below.mono hG (Nat.le_refl _))
  simp only [frameOf, Act.put, List.setIfInBounds_toArray, List.set_cons_succ, List.set_cons_zero]
  rw [e9, show v 10 = _ from f10]
  clear f9 f10 e9 ho hi hF hL hG HE HBX HD hbz
  have B0_3 := Lib.hid (B0_2.out.trans (hb.mono B0_2.out.size))
  clear hb
  have BW := Lib.hid (Below.refl w3.heap.size w3)
  have LW0 := Lib.hid B0_3.out.size
  have U0 := Lib.hid BW.out.size
  go_wp2_with fail
  refine (toBranchS_any _ _ _ _ _ (Lst.more (Lst.below h0 B0_3.out (Nat.le_refl _)) B0_3.out.size) hn0).mono ?_
  rintro e w4 ⟨v, rfl, ho, hb⟩
  obtain ⟨yX0, mX0, cX0, rfl, hi⟩ := ho.lst
  have OX0 := Lib.hid ho; have IX0 := Lib.hid hi; clear ho hi
  have B0_4 := Lib.hid (B0_3.out.trans (hb.mono B0_3.out.size))
  have BW_4 := Lib.hid (BW.out.trans (hb.mono BW.out.size))
  clear hb
  have BX0 := Lib.hid (Below.refl w4.heap.size w4)
  have UG := Lib.hid BW_4.out.size
  have LG0 := Lib.hid BX0.out.size
  obtain ⟨d0, d1, g0, g1⟩ := two_at ((B0_4.out.block _ hbx).trans HX.out)
  go_wp2_with fail
  refine (toBranch_any p _).mono ?_
  rintro e w5 ⟨rfl, hb⟩
  clear d0 d1 g0 g1
  have B0_5 := Lib.hid (B0_4.out.trans (hb.mono B0_4.out.size))
  have BW_5 := Lib.hid (BW_4.out.trans (hb.mono BW_4.out.size))
  have BX0_5 := Lib.hid (BX0.out.trans (hb.mono BX0.out.size))
  clear hb
  have UG2 := Lib.hid BW_5.out.size
  have LG02 := Lib.hid BX0_5.out.size
  go_wp2_with fail
  refine (implSetBranch_any _ _ _ l0 many p _ _ (Lst.more (Lst.below IX0.out BX0_5.out (Nat.le_refl _)) BX0_5.out.size) (Nat.le_refl _) hz0 hp2).mono ?_
  rintro e w6 ⟨v, rfl, ho, hb⟩
  obtain ⟨yG, mG, cG, rfl, hi⟩ := ho.lst
  have OG := Lib.hid ho; have IG := Lib.hid hi; clear ho hi
  have B0_6 := Lib.hid (B0_5.out.trans (hb.mono B0_5.out.size))
  have BW_6 := Lib.hid (BW_5.out.trans (hb.mono BW_5.out.size))
  have BX0_6 := Lib.hid (BX0_5.out.trans (hb.mono BX0_5.out.size))
  clear hb
  have BG := Lib.hid (Below.refl w6.heap.size w6)
  have hG : mG ≤ 1000000 := by have h1 := IG.out.len; have h2 := HLL.out; omega
  have HLG := Lib.hid IG.out.len
  have hX0 : mX0 ≤ 1048576 := by have h1 := IX0.out.len; have h2 := HLEN0.out; omega
  have HLX0 := Lib.hid IX0.out.len
  have D0 := Lib.hid (show ∀ q, (Value.slice yX0 mX0 cX0).ownBlock = some q → q < w4.heap.size from fun q hq => OwnL.ltSize OX0.out hq)
  go_wp2_with fail
  refine (eqBranchS_any _ _ _ _ _ _ _ _ w6.heap.size _ (Lst.more (Lst.below IG.out BG.out (Nat.le_refl _)) BG.out.size) (Lst.more (Lst.below IW.out BW_6.out (Nat.le_refl _)) BW_6.out.size) (Nat.le_refl _)).mono ?_
  rintro e w7 ⟨rfl, hb⟩
  have B0_7 := Lib.hid (B0_6.out.trans (hb.mono B0_6.out.size))
  have BW_7 := Lib.hid (BW_6.out.trans (hb.mono BW_6.out.size))
  have BX0_7 := Lib.hid (BX0_6.out.trans (hb.mono BX0_6.out.size))
  have BG_7 := Lib.hid (BG.out.trans (hb.mono BG.out.size))
  clear hb
  go_wp2_with fail
  refine (toBranchS_any _ _ _ _ _ (Lst.more (Lst.below h0 B0_7.out (Nat.le_refl _)) B0_7.out.size) hn0).mono ?_
  rintro e w8 ⟨v, rfl, ho, hb⟩
  obtain ⟨yZ0, mZ0, cZ0, rfl, hi⟩ := ho.lst
  have OZ0 := Lib.hid ho; have IZ0 := Lib.hid hi; clear ho hi
  have B0_8 := Lib.hid (B0_7.out.trans (hb.mono B0_7.out.size))
  have BW_8 := Lib.hid (BW_7.out.trans (hb.mono BW_7.out.size))
  have BX0_8 := Lib.hid (BX0_7.out.trans (hb.mono BX0_7.out.size))
  have BG_8 := Lib.hid (BG_7.out.trans (hb.mono BG_7.out.size))
  clear hb
  have BZ0 := Lib.hid (Below.refl w8.heap.size w8)
  go_wp2_with fail
  refine (eqBranchS_any _ _ _ _ _ _ _ _ w8.heap.size _ (Lst.more (Lst.below IX0.out BX0_8.out (Nat.le_refl _)) BX0_8.out.size) (Lst.more (Lst.below IZ0.out BZ0.out (Nat.le_refl _)) BZ0.out.size) (Nat.le_refl _)).mono ?_
  rintro e w9 ⟨rfl, hb⟩
  have B0_9 := Lib.hid (B0_8.out.trans (hb.mono B0_8.out.size))
  have BW_9 := Lib.hid (BW_8.out.trans (hb.mono BW_8.out.size))
  have BX0_9 := Lib.hid (BX0_8.out.trans (hb.mono BX0_8.out.size))
  have BG_9 := Lib.hid (BG_8.out.trans (hb.mono BG_8.out.size))
  have BZ0_9 := Lib.hid (BZ0.out.trans (hb.mono BZ0.out.size))
  clear hb
  have OM10 := Lib.hid (OwnL.below OX0.out BX0_9.out)
  go_wp2_with fail
  refine (markBranchS_any _ _ _ _ _ 1 _ OM10.out HLX0.out (by omega) (by omega) (by omega)).mono ?_
  rintro e w10 ⟨rfl, ho, hg⟩
  have OG_0 := Lib.hid (OwnL.keptLt (OwnL.below OG.out BG_9.out) hg (fun q e => Nat.lt_of_lt_of_le (D0.out q e) LG02.out))
  have B0_10 := Lib.hid (B0_9.out.grown hg B0_9.out.size (fun q e => Nat.le_trans (Nat.le_trans LW0.out U0.out) (OwnL.at OM10.out q e)))
  have BW_10 := Lib.hid (BW_9.out.grown hg BW_9.out.size (fun q e => Nat.le_trans (U0.out) (OwnL.at OM10.out q e)))
  clear ho hg
  have BG_m0 := Lib.hid (Below.refl w10.heap.size w10)
  go_wp2_with fail
  refine (eqBranchS_any _ _ _ _ _ _ _ _ w10.heap.size _ (OwnL.lst' (OwnL.below OG_0.out BG_m0.out)) (Lst.more (Lst.below IW.out BW_10.out (Nat.le_refl _)) BW_10.out.size) (Nat.le_refl _)).mono ?_
  rintro e w11 ⟨rfl, hb⟩
  have B0_11 := Lib.hid (B0_10.out.trans (hb.mono B0_10.out.size))
  have BW_11 := Lib.hid (BW_10.out.trans (hb.mono BW_10.out.size))
  have BG_11 := Lib.hid (BG_m0.out.trans (hb.mono BG_m0.out.size))
  clear hb
  have OM12 := Lib.hid (OwnL.below OG_0.out BG_11.out)
  go_wp2_with fail
  refine (markBranchS_any _ _ _ _ _ 1 _ OM12.out HLG.out (by omega) (by omega) (by omega)).mono ?_
  rintro e w12 ⟨rfl, ho, hg⟩
  have B0_12 := Lib.hid (B0_11.out.grown hg B0_11.out.size (fun q e => Nat.le_trans (Nat.le_trans LW0.out UG2.out) (OwnL.at OM12.out q e)))
  have BW_12 := Lib.hid (BW_11.out.grown hg BW_11.out.size (fun q e => Nat.le_trans (UG2.out) (OwnL.at OM12.out q e)))
  have OM := Lib.hid ho; clear ho hg
  have BM := Lib.hid (Below.refl w12.heap.size w12)
  go_wp2_with fail
  refine (heldBranchS_any _ _ _ 1 w12.heap.size _ (OwnL.lst' (OwnL.below OM.out BM.out)) (Nat.le_refl _) (by omega) (by omega) (by omega)).mono ?_
  rintro e w13 ⟨rfl, hb⟩
  have B0_13 := Lib.hid (B0_12.out.trans (hb.mono B0_12.out.size))
  have BW_13 := Lib.hid (BW_12.out.trans (hb.mono BW_12.out.size))
  have BM_13 := Lib.hid (BM.out.trans (hb.mono BM.out.size))
  clear hb
  go_wp2
  have HE := Lib.hid (show Ents w13.drew w13.drew.heap.size x0 n0 cap0 l0 from Lst.drew (Lst.more (Lst.below h0 B0_13.out (Nat.le_refl _)) B0_13.out.size))
  have HBX := Lib.hid (show w13.drew.heap[w.heap.size]? = some (.cells #[.string p.1, .int .i64 p.2] 44 (0, 0)) from (B0_13.out.block _ hbx).trans HX.out)
  have hbz : w.heap.size < w13.drew.heap.size := Nat.lt_of_lt_of_le hbx B0_13.out.size
  have HD := Lib.hid (Below.drew (Below.refl w13.heap.size w13))
  refine region_facts (fun w w' => Below w.heap.size w w') (BrG w13.drew) (BrF w13.drew.heap.size x0 n0 cap0 l0 many p) (by kernel_rfl) (by kernel_rfl) (by kernel_rfl) brF_mono (Below.refl _ _) ?_ ?_
  · refine ⟨?_, ?_, ?_, ?_, ?_, ?_, ?_, ?_, ?_, ?_, ?_, trivial⟩
    · intro L v aa ww hA hG hF hl hd K hK
      have HK := Lib.hid hK; have HGG := Lib.hid (show Below _ _ ww from hG)
      have k0 := hA.keep 0 (.slice x0 n0 cap0) rfl rfl
      clear hA hG hF hl hd hK
      go_simp
      exact HK.out _ _ ⟨_, rfl, Below.refl _ _, HGG.out, rfl⟩
    · intro L v aa ww hA hG hF hl hd K hK
      have HK := Lib.hid hK; have HGG := Lib.hid (show Below _ _ ww from hG)
      have l0 : L 0 = true := by have h := hd; simp [Region.binds] at h; simp [h]
      have f0 := hF 0 l0
      have b0 := hA.at' 0 _ 89 rfl rfl rfl
      rw [show v 0 = _ from f0] at b0
      clear hA hG hF hl hd hK
      clear f0 l0
      go_simp
      go_at_call 26
      refine (toBranchS_any _ _ _ l0 _ (Lst.more (Lst.below HE.out HGG.out (Nat.le_refl _)) HGG.out.size) hn0).mono ?_
      rintro e w3 ⟨u, rfl, ho, hb⟩
      exact HK.out _ _ ⟨_, rfl, hb, HGG.out.trans (hb.mono HGG.out.size), ho.mono HGG.out.size⟩
    · intro L v aa ww hA hG hF hl hd K hK
      have HK := Lib.hid hK; have HGG := Lib.hid (show Below _ _ ww from hG)
      have k1 := hA.keep 1 (.int .i64 many) rfl rfl
      clear hA hG hF hl hd hK
      go_simp
      exact HK.out _ _ ⟨_, rfl, Below.refl _ _, HGG.out, rfl⟩
    · intro L v aa ww hA hG hF hl hd K hK
      have HK := Lib.hid hK; have HGG := Lib.hid (show Below _ _ ww from hG)
      have k3 := hA.keep 5 (.pointer (some ⟨w.heap.size, 0, none⟩)) rfl rfl
      obtain ⟨e0, e1, _, _⟩ := two_at ((HGG.out.block _ hbz).trans HBX.out)
      clear hA hG hF hl hd hK
      go_simp
      exact HK.out _ _ ⟨_, rfl, Below.refl _ _, HGG.out, rfl⟩
    · intro L v aa ww hA hG hF hl hd K hK
      have HK := Lib.hid hK; have HGG := Lib.hid (show Below _ _ ww from hG)
      have l3 : L 3 = true := by have h := hd; simp [Region.binds] at h; simp [h]
      have f3 := hF 3 l3
      have b3 := hA.at' 3 _ 92 rfl rfl rfl
      rw [show v 3 = _ from f3] at b3
      clear hA hG hF hl hd hK
      clear f3 l3
      go_simp
      go_at_call 29
      refine (toBranch_any p _).mono ?_
      rintro e w3 ⟨rfl, hb⟩
      exact HK.out _ _ ⟨_, rfl, hb, HGG.out.trans (hb.mono HGG.out.size), rfl⟩
    · intro L v aa ww hA hG hF hl hd K hK
      have HK := Lib.hid hK; have HGG := Lib.hid (show Below _ _ ww from hG)
      have l1 : L 1 = true := by have h := hd; simp [Region.binds] at h; simp [h]
      have f1 := hF 1 l1
      have l2 : L 2 = true := by have h := hd; simp [Region.binds] at h; simp [h]
      have f2 := hF 2 l2
      have l4 : L 4 = true := by have h := hd; simp [Region.binds] at h; simp [h]
      have f4 := hF 4 l4
      have b2 := hA.at' 2 _ 91 rfl rfl rfl
      rw [show v 2 = _ from f2] at b2
      have b1 := hA.at' 1 _ 90 rfl rfl rfl
      have b4 := hA.at' 4 _ 93 rfl rfl rfl
      obtain ⟨y, m, c, e1, hi⟩ := OwnL.lst (show OwnBr _ _ _ _ from f1)
      rw [e1] at b1
      rw [show v 4 = _ from f4] at b4
      have HI := Lib.hid hi
      clear hA hG hF hl hd hK
      clear f1 f2 f4 l1 l2 l4 e1 hi
      go_simp
      go_at_call 16
      refine (implSetBranch_any _ _ _ l0 many p _ _ HI.out (Nat.le_refl _) hz0 hp2).mono ?_
      rintro e w3 ⟨u, rfl, ho, hb⟩
      exact HK.out _ _ ⟨_, rfl, hb, HGG.out.trans (hb.mono HGG.out.size), ⟨u, rfl, ho.mono HGG.out.size⟩⟩
    · intro L v aa ww hA hG hF hl hd K hK
      have HK := Lib.hid hK; have HGG := Lib.hid (show Below _ _ ww from hG)
      have l5 : L 5 = true := by have h := hd; simp [Region.binds] at h; simp [h]
      have f5 := hF 5 l5
      have b5 := hA.at' 5 _ 94 rfl rfl rfl
      obtain ⟨u, e5, ho⟩ := (show ∃ u, v 5 = .tuple #[u, .bool (putBr l0 many p).2] ∧ OwnBr ww _ u _ from f5)
      obtain ⟨y, m, c, rfl, _⟩ := ho.lst
      rw [e5] at b5
      have HO := Lib.hid ho
      clear hA hG hF hl hd hK
      clear f5 l5 e5 ho
      go_simp
      exact HK.out _ _ ⟨_, rfl, Below.refl _ _, HGG.out, ⟨_, rfl, HO.out⟩⟩
    · intro L v aa ww hA hG hF hl hd K hK
      have HK := Lib.hid hK; have HGG := Lib.hid (show Below _ _ ww from hG)
      have l6 : L 6 = true := by have h := hd; simp [Region.binds] at h; simp [h]
      have f6 := hF 6 l6
      have b6 := hA.at' 6 _ 88 rfl rfl rfl
      obtain ⟨u, e6, ho⟩ := (show ∃ u, v 6 = .tuple #[u, .bool (putBr l0 many p).2] ∧ OwnBr ww _ u _ from f6)
      obtain ⟨y, m, c, rfl, _⟩ := ho.lst
      rw [e6] at b6
      have HO := Lib.hid ho
      clear hA hG hF hl hd hK
      clear f6 l6 e6 ho
      go_simp
      exact HK.out _ _ ⟨_, rfl, Below.refl _ _, HGG.out, HO.out⟩
    · intro L v aa ww hA hG hF hl hd K hK
      have HK := Lib.hid hK; have HGG := Lib.hid (show Below _ _ ww from hG)
      have l6 : L 6 = true := by have h := hd; simp [Region.binds] at h; simp [h]
      have f6 := hF 6 l6
      have b6 := hA.at' 6 _ 88 rfl rfl rfl
      obtain ⟨u, e6, ho⟩ := (show ∃ u, v 6 = .tuple #[u, .bool (putBr l0 many p).2] ∧ OwnBr ww _ u _ from f6)
      obtain ⟨y, m, c, rfl, _⟩ := ho.lst
      rw [e6] at b6
      clear hA hG hF hl hd hK
      clear f6 l6 e6 ho
      go_simp
      exact HK.out _ _ ⟨_, rfl, Below.refl _ _, HGG.out, rfl⟩
    · intro L v aa ww hA hG hF hl hd K hK
      have HK := Lib.hid hK; have HGG := Lib.hid (show Below _ _ ww from hG)
      have l7 : L 7 = true := by have h := hd; simp [Region.binds] at h; simp [h]
      have f7 := hF 7 l7
      have b7 := hA.at' 7 _ 95 rfl rfl rfl
      have ho := (show OwnBr ww _ (v 7) _ from f7)
      obtain ⟨y, m, c, e7, _⟩ := ho.lst
      rw [e7] at b7 ho
      have HO := Lib.hid ho
      clear hA hG hF hl hd hK
      clear f7 l7 e7 ho
      go_simp
      exact HK.out _ _ ⟨_, rfl, Below.refl _ _, HGG.out, HO.out⟩
    · intro L v aa ww hA hG hF hl hd K hK
      have HK := Lib.hid hK; have HGG := Lib.hid (show Below _ _ ww from hG)
      have l8 : L 8 = true := by have h := hd; simp [Region.binds] at h; simp [h]
      have f8 := hF 8 l8
      have b8 := hA.at' 8 _ 96 rfl rfl rfl
      rw [show v 8 = _ from f8] at b8
      clear hA hG hF hl hd hK
      clear f8 l8
      go_simp
      exact HK.out _ _ ⟨_, rfl, Below.refl _ _, HGG.out, rfl⟩
  intro L v w14 hF hL hG
  have f9 := hF 9 (by decide); have f10 := hF 10 (by decide)
  have ho := (show OwnBr w14 _ (v 9) (putBr l0 many p).1 from f9)
  obtain ⟨yH, mH, cH, e9, hi⟩ := ho.lst
  rw [e9] at ho
  have OH := Lib.hid ho; have IH := Lib.hid hi
  have hb := HD.out.trans (show Below w13.heap.size w13.drew w14 from Below.mono hG (Nat.le_refl _))
  simp only [frameOf, Act.put, List.setIfInBounds_toArray, List.set_cons_succ, List.set_cons_zero]
  rw [e9, show v 10 = _ from f10]
  clear f9 f10 e9 ho hi hF hL hG HE HBX HD hbz
  have B0_14 := Lib.hid (B0_13.out.trans (hb.mono B0_13.out.size))
  have BW_14 := Lib.hid (BW_13.out.trans (hb.mono BW_13.out.size))
  have BM_14 := Lib.hid (BM_13.out.trans (hb.mono BM_13.out.size))
  clear hb
  have BH := Lib.hid (Below.refl w14.heap.size w14)
  go_wp2_with fail
  refine (eqBranchS_any _ _ _ _ _ _ _ _ w14.heap.size _ (Lst.more (Lst.below IH.out BH.out (Nat.le_refl _)) BH.out.size) (Lst.more (Lst.below IW.out BW_14.out (Nat.le_refl _)) BW_14.out.size) (Nat.le_refl _)).mono ?_
  rintro e w15 ⟨rfl, hb⟩
  have B0_15 := Lib.hid (B0_14.out.trans (hb.mono B0_14.out.size))
  have BW_15 := Lib.hid (BW_14.out.trans (hb.mono BW_14.out.size))
  have BM_15 := Lib.hid (BM_14.out.trans (hb.mono BM_14.out.size))
  have BH_15 := Lib.hid (BH.out.trans (hb.mono BH.out.size))
  clear hb
  go_wp2_with fail
  refine (heldBranchS_any _ _ _ 1 w15.heap.size _ (OwnL.lst' (OwnL.below OM.out BM_15.out)) (Nat.le_refl _) (by omega) (by omega) (by omega)).mono ?_
  rintro e w16 ⟨rfl, hb⟩
  have B0_16 := Lib.hid (B0_15.out.trans (hb.mono B0_15.out.size))
  have BW_16 := Lib.hid (BW_15.out.trans (hb.mono BW_15.out.size))
  have BM_16 := Lib.hid (BM_15.out.trans (hb.mono BM_15.out.size))
  have BH_16 := Lib.hid (BH_15.out.trans (hb.mono BH_15.out.size))
  clear hb
  go_wp2_with fail
  go_ret
  exact ⟨ret_bool (by simp), HBW.out.trans (B0_16.out.mono HBW.out.size)⟩
end Go.Proofs.Ytiniadlpgomgjaa
