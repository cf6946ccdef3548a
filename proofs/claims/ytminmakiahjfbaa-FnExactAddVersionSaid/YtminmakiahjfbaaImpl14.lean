/-
  Chapter 14's program: a version is added.
-/
import Derived.Test.YtminmakiahjfbaaImpl14c
import Derived.Test.YtminmakiahjfbaaImpl14d
import Derived.Test.YtminmakiahjfbaaImpl14e
import Derived.Test.YtminmakiahjfbaaRegion3
namespace Go.Proofs.Ytminmakiahjfbaa
open Go.RowKit
set_option linter.unusedVariables false
/-- What holds of what the operations of a drawn region yield: the versions, their copy, the version, its copy, a row of it, both. -/
def AiF (base : Nat) (x : Option Addr) (n cap : Nat) (l : List Ver) (p : Ver) (L : Nat → Bool) : Nat → Value → World → Prop
  | 0, v, _ => v = .slice x n cap
  | 1, v, w => L 5 = false → OwnVr w base v l
  | 2, v, _ => v = .agg #[.int .i64 p.1, .int .i64 p.2.1, .string p.2.2]
  | 3, v, _ => v = .agg #[.int .i64 p.1, .int .i64 p.2.1, .string p.2.2]
  | 4, v, w => L 5 = false → ∃ k, v = .slice (some ⟨k, 0, none⟩) 1 1 ∧ OneAt vrG 27 w k p
  | 5, v, w => OwnVr w base v (l ++ [p])
  | 6, v, w => OwnVr w base v (l ++ [p])
  | _ + 7, _, _ => True
theorem oneAt_below {α : Type} {g : α → List Value} {e : TypeId} {w w' : World} {k : Nat} {u : α} (h : OneAt g e w k u) (hb : Below w.heap.size w w') : OneAt g e w' k u := by
  have hlt := h.lt
  obtain ⟨cs, h1, h2⟩ := h
  exact ⟨cs, h1, (hb.block k hlt).trans h2⟩
theorem aiF_below {base : Nat} {x : Option Addr} {n cap : Nat} {l : List Ver} {p : Ver} {L : Nat → Bool} {w w' : World} (hb : Below w.heap.size w w') (k : Nat) (hk : k ≠ 5) : ∀ (j : Nat) (v : Value), AiF base x n cap l p L j v w → AiF base x n cap l p (fun j => j == k || L j) j v w'
  | 0, v, h => h
  | 1, v, h => fun e => OwnL.below (h (by have h2 : ((5 : Nat) == k) = false := by simp; omega
                                          simp only [h2, Bool.false_or] at e; exact e)) hb
  | 2, v, h => h
  | 3, v, h => h
  | 4, v, h => fun e => by
    have h2 : ((5 : Nat) == k) = false := by simp; omega
    simp only [h2, Bool.false_or] at e
    obtain ⟨q, e1, ho⟩ := h e
    exact ⟨q, e1, oneAt_below ho hb⟩
  | 5, v, h => OwnL.below h hb
  | 6, v, h => OwnL.below h hb
  | _ + 7, v, h => trivial
def AiG (W : World) (L : Nat → Bool) (w : World) : Prop := Below W.heap.size W w
set_option maxHeartbeats 4000000 in
set_option maxRecDepth 100000 in
theorem implAddVersion_any (x : Option Addr) (n cap : Nat) (l : List Ver) (v : Ver) (B : Nat) (w : World) (h : Vers w B x n cap l) (hB : B ≤ w.heap.size) (hz : ∀ k, (nthV l k).2.2.size ≤ maxLen) (hv : v.2.2.size ≤ 2000000) :
    Calls Try.prog 18 #[.slice x n cap, .agg #[.int .i64 v.1, .int .i64 v.2.1, .string v.2.2]] w (NewVrB (addV l v).1 (addV l v).2 w) := by
  have HZ := Lib.hid hz
  have HZV := Lib.hid hv
  have HLEN := Lib.hid h.len
  obtain ⟨W, hW⟩ : ∃ W, w.alloc (.cells #[.int .i64 v.1, .int .i64 v.2.1, .string v.2.2] 27) = W := ⟨_, rfl⟩
  have HBW := Lib.hid (show Below w.heap.size w W by rw [← hW]; exact (Below.refl w.heap.size w).alloc (Nat.le_refl _) _)
  have hbx : w.heap.size < W.heap.size := by rw [← hW]; simp
  have HX := Lib.hid (show W.heap[w.heap.size]? = some (.cells #[.int .i64 v.1, .int .i64 v.2.1, .string v.2.2] 27 (0, 0)) by rw [← hW]; exact heap_alloc_new w _)
  have HL := Lib.hid (show Vers W W.heap.size x n cap l from (h.below HBW.out hB).more (Nat.le_trans hB (Nat.le_of_lt hbx)))
  have hle := h.le
  have hmx := h.max
  unfold maxLen at hmx
  have HW := Lib.hid hW
  clear h hz hv hW
  cases hvb : versB l
  · have HF := Lib.hid (addV_bad (v := v) hvb)
    go_enter Try.func18, Try.ntmps18
    have hW := HW.out
    go_wp2_with (go_at_call 14; refine (implVersionsValid_any x n cap l _ _ HL.out (Nat.le_refl _) HZ.out).mono ?_; rintro e w1 ⟨rfl, hb⟩; rw [hvb]; have HB1 := Lib.hid hb; clear hb)
    go_ret2
    exact newVrB_put (by rw [HF.out]) (OwnL.nil _ _ _ _ _) (HBW.out.trans (HB1.out.mono HBW.out.size))
  have HVB := Lib.hid hvb
  have hn12 : n ≤ 12 := by have := (versB_at hvb).1; have := HLEN.out; omega
  have HZS := Lib.hid (show ∀ k, (nthV l k).2.2.size ≤ 2000000 from fun k => by
    by_cases hk : k < l.length
    · have := word_size (okV_at ((versB_at hvb).2 k hk)).2.2.1; omega
    · unfold nthV; rw [List.getD_eq_getElem?_getD, List.getElem?_eq_none (by omega)]; simp)
  have HZ2 := Lib.hid (vers_snoc_small HZ.out (show v.2.2.size ≤ maxLen from Nat.le_trans HZV.out (by decide)))
  have HYES := Lib.hid (addV_yes (l := l) (v := v) HVB.out); have HNO := Lib.hid (addV_no (l := l) (v := v) HVB.out)
  clear hvb
  go_enter Try.func18, Try.ntmps18
  have hW := HW.out
  go_wp2_with (go_at_call 14; refine (implVersionsValid_any x n cap l _ _ HL.out (Nat.le_refl _) HZ.out).mono ?_; rintro e w1 ⟨rfl, hb⟩; rw [HVB.out]; have HB1 := Lib.hid hb; clear hb)
  clear hW
  have HL1 := Lib.hid (show Vers w1.drew w1.drew.heap.size x n cap l from ((HL.out.below HB1.out (Nat.le_refl _)).more HB1.out.size).drew)
  have HX1 := Lib.hid (show w1.drew.heap[w.heap.size]? = some (.cells #[.int .i64 v.1, .int .i64 v.2.1, .string v.2.2] 27 (0, 0)) from (HB1.out.block _ hbx).trans HX.out)
  have hbz : w.heap.size < w1.drew.heap.size := Nat.lt_of_lt_of_le hbx HB1.out.size
  have HBD := Lib.hid (show Below w.heap.size w w1.drew from (HBW.out.trans (HB1.out.mono HBW.out.size)).drew)
  refine region_rows (AiG w1.drew) (AiF w1.drew.heap.size x n cap l v) (by kernel_rfl) (by kernel_rfl) (by kernel_rfl) (Below.refl _ _) ?_ ?_
  · refine ⟨?_, ?_, ?_, ?_, ?_, ?_, ?_, trivial⟩
    · intro L u aa ww hA hG hF hU hC hl hd K hK
      have HK := Lib.hid hK; have HGG := Lib.hid (show Below w1.drew.heap.size w1.drew ww from hG); have HFF := Lib.hid hF
      have k0 := hA.keep 0 (.slice x n cap) rfl rfl
      clear hA hG hF hU hC hl hd hK
      go_simp
      exact HK.out _ _ ⟨_, rfl, HGG.out, rfl, fun j hj => aiF_below (Below.refl _ _) 0 (by decide) j _ (HFF.out j hj)⟩
    · intro L u aa ww hA hG hF hU hC hl hd K hK
      have HK := Lib.hid hK; have HGG := Lib.hid (show Below w1.drew.heap.size w1.drew ww from hG); have HFF := Lib.hid hF
      have l0 : L 0 = true := by have h := hd; simp [Region.binds] at h; simp [h]
      have f0 := hF 0 l0
      have b0 := hA.at' 0 _ 10 rfl rfl rfl
      rw [show u 0 = _ from f0] at b0
      clear f0 l0
      clear hA hG hF hU hC hl hd hK
      go_simp
      go_at_call 51
      refine (copyVersions_any x n cap l _ _ (Lst.more (Lst.below HL1.out HGG.out (Nat.le_refl _)) HGG.out.size) (Nat.le_refl _) HZS.out (by omega)).mono ?_
      rintro e w3 ⟨q, rfl, ho, hb⟩
      exact HK.out _ _ ⟨_, rfl, HGG.out.trans (hb.mono HGG.out.size), fun _ => ho.mono HGG.out.size, fun j hj => aiF_below hb 1 (by decide) j _ (HFF.out j hj)⟩
    · intro L u aa ww hA hG hF hU hC hl hd K hK
      have HK := Lib.hid hK; have HGG := Lib.hid (show Below w1.drew.heap.size w1.drew ww from hG); have HFF := Lib.hid hF
      have k3 := hA.keep 3 (.pointer (some ⟨w.heap.size, 0, none⟩)) rfl rfl
      obtain ⟨e0, e1, e2, _, _, _⟩ := three_full ((HGG.out.block _ hbz).trans HX1.out)
      clear hA hG hF hU hC hl hd hK
      go_simp
      exact HK.out _ _ ⟨_, rfl, HGG.out, rfl, fun j hj => aiF_below (Below.refl _ _) 2 (by decide) j _ (HFF.out j hj)⟩
    · intro L u aa ww hA hG hF hU hC hl hd K hK
      have HK := Lib.hid hK; have HGG := Lib.hid (show Below w1.drew.heap.size w1.drew ww from hG); have HFF := Lib.hid hF
      have l2 : L 2 = true := by have h := hd; simp [Region.binds] at h; simp [h]
      have f2 := hF 2 l2
      have b2 := hA.at' 2 _ 12 rfl rfl rfl
      rw [show u 2 = _ from f2] at b2
      clear f2 l2
      clear hA hG hF hU hC hl hd hK
      go_simp
      go_at_call 52
      refine (copyVersion_any v _ HZV.out).mono ?_
      rintro e w3 ⟨rfl, hb⟩
      exact HK.out _ _ ⟨_, rfl, HGG.out.trans (hb.mono HGG.out.size), rfl, fun j hj => aiF_below hb 3 (by decide) j _ (HFF.out j hj)⟩
    · intro L u aa ww hA hG hF hU hC hl hd K hK
      have HK := Lib.hid hK; have HGG := Lib.hid (show Below w1.drew.heap.size w1.drew ww from hG); have HFF := Lib.hid hF
      have l3 : L 3 = true := by have h := hd; simp [Region.binds] at h; simp [h]
      have f3 := hF 3 l3
      have b3 := hA.at' 3 _ 13 rfl rfl rfl
      rw [show u 3 = _ from f3] at b3
      clear f3 l3
      clear hA hG hF hU hC hl hd hK
      go_simp
      exact HK.out _ _ ⟨_, rfl, HGG.out.alloc HGG.out.size _, fun _ => ⟨ww.heap.size, rfl, OneAt.new _ _ rfl _ _ rfl⟩, fun j hj => aiF_below ((Below.refl _ _).alloc (Nat.le_refl _) _) 4 (by decide) j _ (HFF.out j hj)⟩
    · intro L u aa ww hA hG hF hU hC hl hd K hK
      have HK := Lib.hid hK; have HGG := Lib.hid (show Below w1.drew.heap.size w1.drew ww from hG); have HFF := Lib.hid hF
      have l1 : L 1 = true := by have h := hd; simp [Region.binds] at h; simp [h]
      have l4 : L 4 = true := by have h := hd; simp [Region.binds] at h; simp [h]
      have f1 := (show L 5 = false → OwnVr ww _ (u 1) l from hF 1 l1) hl
      obtain ⟨kE, e4, f4⟩ := (show L 5 = false → ∃ k, u 4 = .slice (some ⟨k, 0, none⟩) 1 1 ∧ OneAt vrG 27 ww k v from hF 4 l4) hl
      have b1 := hA.at' 1 _ 11 rfl rfl rfl
      have b4 := hA.at' 4 _ 14 rfl rfl rfl
      rw [e4] at b4
      obtain ⟨v1, e1⟩ : ∃ v1, u 1 = v1 := ⟨_, rfl⟩
      rw [e1] at b1 f1
      have F1 := Lib.hid f1; have F4 := Lib.hid f4
      have hfar : ∀ j, L j = true → ∀ w', (∀ q, AiF w1.drew.heap.size x n cap l v L j q ww → AiF w1.drew.heap.size x n cap l v (fun j => j == 5 || L j) j q w') → AiF w1.drew.heap.size x n cap l v (fun j => j == 5 || L j) j (u j) w' := fun j hj w' hh => hh _ (HFF.out j hj)
      have HL6 := Lib.hid (show L 6 = false by
        cases e : L 6
        · rfl
        · exfalso
          have c6 := hC 6 _ rfl e
          simp [Region.binds] at c6
          have m5 : L 5 = true := by simp [c6]
          rw [hl] at m5; cases m5)
      have HL5 := Lib.hid hl
      clear hA hG hF hU hC hl hd hK f1 f4 e1 e4 l1 l4
      refine step_appB eltVr encVr (w0 := w1.drew) (base := w1.drew.heap.size) (l := l) (l' := [v]) (v := v1) (x := some ⟨kE, 0, none⟩) (m := 1) (c := 1) F1.out ⟨_, OneAt.lst (e := 27) F4.out⟩ HGG.out HGG.out.size ?_ (by decide) rfl (.tmp 11) (.tmp 14) rfl ?_ ?_ ?_
      · have := HLEN.out; omega
      · simp [Act.eval, b1]
      · simp [Act.eval, b4]
      · intro v2 w6 hown hb2 hs2
        refine HK.out _ _ ⟨_, rfl, hb2, hown, fun j hj => ?_⟩
        have hf := HFF.out j hj
        rcases j with _ | _ | _ | _ | _ | _ | _ | j
        · exact hf
        · intro e; simp at e
        · exact hf
        · exact hf
        · intro e; simp at e
        · rw [HL5.out] at hj; cases hj
        · rw [HL6.out] at hj; cases hj
        · trivial
    · intro L u aa ww hA hG hF hU hC hl hd K hK
      have HK := Lib.hid hK; have HGG := Lib.hid (show Below w1.drew.heap.size w1.drew ww from hG); have HFF := Lib.hid hF
      have l5 : L 5 = true := by have h := hd; simp [Region.binds] at h; simp [h]
      have f5 := (show OwnVr ww _ (u 5) (l ++ [v]) from hF 5 l5)
      have b5 := hA.at' 5 _ 15 rfl rfl rfl
      obtain ⟨y, m, c, e5, _⟩ := OwnL.lst f5
      rw [e5] at b5 f5
      have HO := Lib.hid f5
      clear f5 l5 e5
      clear hA hG hF hU hC hl hd hK
      go_simp
      exact HK.out _ _ ⟨_, rfl, HGG.out, HO.out, fun j hj => aiF_below (Below.refl _ _) 6 (by decide) j _ (HFF.out j hj)⟩
  · intro L u w2 hf hL hG
    have f6 := (show OwnVr w2 _ (u 6) (l ++ [v]) from hf 6 (by decide))
    obtain ⟨y, m, c, e6, hi⟩ := OwnL.lst f6
    rw [e6] at f6
    have HO := Lib.hid f6
    have HB2 := Lib.hid (HBD.out.trans ((show Below w1.drew.heap.size w1.drew w2 from hG).mono HBD.out.size))
    have HI := Lib.hid hi
    have HL2 := Lib.hid (show Vers w2 w2.heap.size x n cap l from (HL1.out.below hG (Nat.le_refl _)).more (show Below w1.drew.heap.size w1.drew w2 from hG).size)
    have hs1 := HBD.out.size
    clear hf hL hG f6 hi
    simp only [frameOf, Act.put, List.setIfInBounds_toArray, List.set_cons_succ, List.set_cons_zero, e6]
    clear e6
    cases hvb2 : versB (l ++ [v])
    · have HF := Lib.hid (HNO.out hvb2)
      have HV2 := Lib.hid hvb2
      clear hvb2
      go_wp2_with (first
        | (go_at_call 14; refine (implVersionsValid_any _ _ _ (l ++ [v]) _ _ HI.out (Nat.le_refl _) HZ2.out).mono ?_; rintro e w3 ⟨rfl, hb⟩; rw [HV2.out]; have HB3 := Lib.hid (HB2.out.trans (hb.mono HB2.out.size)); have HL3 := Lib.hid ((HL2.out.below hb (Nat.le_refl _)).more hb.size); clear hb)
        | (go_at_call 51; refine (copyVersions_any x n cap l _ _ HL3.out (Nat.le_refl _) HZS.out (by omega)).mono ?_; rintro e w4 ⟨q, rfl, ho, hb⟩; obtain ⟨xo, no, co, rfl, _⟩ := ho.lst; have HO4 := Lib.hid ho; have HB4 := Lib.hid (HB3.out.trans (hb.mono HB3.out.size)); clear ho hb))
      go_ret2
      exact newVrB_put (by rw [HF.out]) (HO4.out.mono HB3.out.size) HB4.out
    · have HF := Lib.hid (HYES.out hvb2)
      have HV2 := Lib.hid hvb2
      clear hvb2
      go_wp2_with (go_at_call 14; refine (implVersionsValid_any _ _ _ (l ++ [v]) _ _ HI.out (Nat.le_refl _) HZ2.out).mono ?_; rintro e w3 ⟨rfl, hb⟩; rw [HV2.out]; have HB3 := Lib.hid (HB2.out.trans (hb.mono HB2.out.size)); have HO3 := Lib.hid (OwnL.below HO.out hb); clear hb)
      go_ret2
      exact newVrB_put (by rw [HF.out]) (HO3.out.mono hs1) HB3.out
end Go.Proofs.Ytminmakiahjfbaa
