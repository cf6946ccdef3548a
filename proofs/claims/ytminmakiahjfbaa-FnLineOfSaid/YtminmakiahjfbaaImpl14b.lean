/-
  Chapter 14's program: a version and its copy.
-/
import Derived.Test.YtminmakiahjfbaaImpl14a
namespace Go.Proofs.Ytminmakiahjfbaa
open Go.RowKit
set_option linter.unusedVariables false
theorem three_set {w : World} {r : Nat} {a b c u v z : Value} {t : TypeId} (h : w.heap[r]? = some (.cells #[a, b, c] t (0, 0))) : (((w.setCell ⟨r, 0, none⟩ u).setCell ⟨r, 1, none⟩ v).setCell ⟨r, 2, none⟩ z).heap[r]? = some (.cells #[u, v, z] t (0, 0)) := by
  simp [World.setCell, Array.getElem?_modify, h]
theorem other_set {w : World} {r q j : Nat} {u : Value} (h : q ≠ r) : (w.setCell ⟨r, j, none⟩ u).heap[q]? = w.heap[q]? := Below.heap_setCell _ _ _ _ (by simpa using h)
/-- What lies in memory while a version is copied: the version, and its copy's row, which the last operation fills. -/
def CvG (w : World) (p : Ver) (L : Nat → Bool) (ww : World) : Prop :=
  Below w.heap.size w ww ∧ ww.heap[w.heap.size]? = some (.cells #[.int .i64 p.1, .int .i64 p.2.1, .string p.2.2] 27 (0, 0)) ∧ (L 8 = false → ww.heap[w.heap.size + 1]? = some (.cells #[.int .i64 0, .int .i64 0, .string ⟨#[]⟩] 27 (0, 0))) ∧ (L 8 = true → ww.heap[w.heap.size + 1]? = some (.cells #[.int .i64 p.1, .int .i64 p.2.1, .string p.2.2] 27 (0, 0)))
theorem CvG.on {w : World} {p : Ver} {L : Nat → Bool} {ww : World} (h : CvG w p L ww) (k : Nat) (hk : k ≠ 8) {w2 : World} (hb : Below ww.heap.size ww w2) : CvG w p (fun j => j == k || L j) w2 := by
  obtain ⟨h1, h2, h3, h4⟩ := h
  have e : ((8 : Nat) == k) = false := by simp; omega
  refine ⟨h1.trans (hb.mono h1.size), (hb.block _ (Array.getElem?_eq_some_iff.1 h2).1).trans h2, fun hl => ?_, fun hl => ?_⟩
  · simp only [e, Bool.false_or] at hl
    exact (hb.block _ (Array.getElem?_eq_some_iff.1 (h3 hl)).1).trans (h3 hl)
  · simp only [e, Bool.false_or] at hl
    exact (hb.block _ (Array.getElem?_eq_some_iff.1 (h4 hl)).1).trans (h4 hl)
set_option maxHeartbeats 1000000 in
/-- A version and its copy. -/
theorem copyVersion_any (p : Ver) (w : World) (hz : p.2.2.size ≤ 2000000) : Calls Try.prog 52 #[.agg #[.int .i64 p.1, .int .i64 p.2.1, .string p.2.2]] w fun e w' => e = .returned (.agg #[.int .i64 p.1, .int .i64 p.2.1, .string p.2.2]) ∧ Below w.heap.size w w' := by
  have HZ := Lib.hid hz
  have hG0 : CvG w p (fun _ => false) ((w.alloc (.cells #[.int .i64 p.1, .int .i64 p.2.1, .string p.2.2] 27)).alloc (.cells #[.int .i64 0, .int .i64 0, .string ⟨#[]⟩] 27)).drew := by
    refine ⟨(((Below.refl _ _).alloc (Nat.le_refl _) _).alloc (by simp) _).drew, ?_, fun _ => ?_, fun h => by cases h⟩
    · show ((w.alloc _).alloc _).heap[w.heap.size]? = _
      rw [Below.heap_alloc _ _ _ (by simp), heap_alloc_new]
    · show ((w.alloc _).alloc _).heap[w.heap.size + 1]? = _
      have := heap_alloc_new (w.alloc (.cells #[.int .i64 p.1, .int .i64 p.2.1, .string p.2.2] 27)) (.cells #[.int .i64 0, .int .i64 0, .string ⟨#[]⟩] 27)
      simpa using this
  have HG0 := Lib.hid hG0
  have hGe : ∀ (L L' : Nat → Bool) ww, (∀ j, j < 9 → L j = L' j) → CvG w p L ww → CvG w p L' ww := fun L L' ww he h => ⟨h.1, h.2.1, fun e => h.2.2.1 ((he 8 (by decide)).trans e), fun e => h.2.2.2 ((he 8 (by decide)).trans e)⟩
  clear hz hG0
  go_enter Try.func52, Try.ntmps52
  go_wp2
  refine region_vals (CvG w p) (fun j => match j with | 0 => .pointer (some ⟨w.heap.size, 0, none⟩) | 1 => .int .i64 p.1 | 2 => .pointer (some ⟨w.heap.size, 1, none⟩) | 3 => .int .i64 p.2.1 | 4 => .pointer (some ⟨w.heap.size, 2, none⟩) | 5 => .string p.2.2 | 6 => .string p.2.2 | 7 => .agg #[.int .i64 p.1, .int .i64 p.2.1, .string p.2.2] | _ => undef) (by kernel_rfl) (by kernel_rfl) (by kernel_rfl) HG0.out ?_ ?_ hGe
  · refine ⟨?_, ?_, ?_, ?_, ?_, ?_, ?_, ?_, ?_, trivial⟩
    · intro LVL aa ww hV hA hG hl hd K hK
      have HK := Lib.hid hK; have HG := Lib.hid hG; clear hK hG hl
      have k1 := hA 1 (.pointer (some ⟨w.heap.size, 0, none⟩)) rfl rfl
      clear hV hA hd
      go_simp
      exact HK.out _ _ ⟨rfl, HG.out.on 0 (by decide) (Below.refl _ _)⟩
    · intro LVL aa ww hV hA hG hl hd K hK
      have HK := Lib.hid hK; have HG := Lib.hid hG; clear hK hG hl
      have v3 := hV 0 _ 3 rfl rfl rfl (by have h := hd; simp [Region.binds] at h; simp [h])
      clear hV hA hd
      obtain ⟨c0, c1, c2, f0, f1, f2⟩ := three_full HG.out.2.1
      go_simp
      exact HK.out _ _ ⟨rfl, HG.out.on 1 (by decide) (Below.refl _ _)⟩
    · intro LVL aa ww hV hA hG hl hd K hK
      have HK := Lib.hid hK; have HG := Lib.hid hG; clear hK hG hl
      have k1 := hA 1 (.pointer (some ⟨w.heap.size, 0, none⟩)) rfl rfl
      clear hV hA hd
      go_simp
      exact HK.out _ _ ⟨rfl, HG.out.on 2 (by decide) (Below.refl _ _)⟩
    · intro LVL aa ww hV hA hG hl hd K hK
      have HK := Lib.hid hK; have HG := Lib.hid hG; clear hK hG hl
      have v5 := hV 2 _ 5 rfl rfl rfl (by have h := hd; simp [Region.binds] at h; simp [h])
      clear hV hA hd
      obtain ⟨c0, c1, c2, f0, f1, f2⟩ := three_full HG.out.2.1
      go_simp
      exact HK.out _ _ ⟨rfl, HG.out.on 3 (by decide) (Below.refl _ _)⟩
    · intro LVL aa ww hV hA hG hl hd K hK
      have HK := Lib.hid hK; have HG := Lib.hid hG; clear hK hG hl
      have k1 := hA 1 (.pointer (some ⟨w.heap.size, 0, none⟩)) rfl rfl
      clear hV hA hd
      go_simp
      exact HK.out _ _ ⟨rfl, HG.out.on 4 (by decide) (Below.refl _ _)⟩
    · intro LVL aa ww hV hA hG hl hd K hK
      have HK := Lib.hid hK; have HG := Lib.hid hG; clear hK hG hl
      have v7 := hV 4 _ 7 rfl rfl rfl (by have h := hd; simp [Region.binds] at h; simp [h])
      clear hV hA hd
      obtain ⟨c0, c1, c2, f0, f1, f2⟩ := three_full HG.out.2.1
      go_simp
      exact HK.out _ _ ⟨rfl, HG.out.on 5 (by decide) (Below.refl _ _)⟩
    · intro LVL aa ww hV hA hG hl hd K hK
      have HK := Lib.hid hK; have HG := Lib.hid hG; clear hK hG hl
      have v8 := hV 5 _ 8 rfl rfl rfl (by have h := hd; simp [Region.binds] at h; simp [h])
      clear hV hA hd
      go_simp
      go_at_call 60
      refine (cloneN_any _ _ HZ.out).mono ?_
      rintro e w2 ⟨rfl, hb2⟩
      exact HK.out _ _ ⟨rfl, HG.out.on 6 (by decide) hb2⟩
    · intro LVL aa ww hV hA hG hl hd K hK
      have HK := Lib.hid hK; have HG := Lib.hid hG; clear hK hG hl
      have v4 := hV 1 _ 4 rfl rfl rfl (by have h := hd; simp [Region.binds] at h; simp [h])
      have v6 := hV 3 _ 6 rfl rfl rfl (by have h := hd; simp [Region.binds] at h; simp [h])
      have v9 := hV 6 _ 9 rfl rfl rfl (by have h := hd; simp [Region.binds] at h; simp [h])
      clear hV hA hd
      go_simp
      exact HK.out _ _ ⟨rfl, HG.out.on 7 (by decide) (Below.refl _ _)⟩
    · intro LVL aa ww hV hA hG hl hd K hK
      have HK := Lib.hid hK; have HG := Lib.hid hG; have HL8 := Lib.hid hl; clear hK hG hl
      have v10 := hV 7 _ 10 rfl rfl rfl (by have h := hd; simp [Region.binds] at h; simp [h])
      have k2 := hA 2 (.pointer (some ⟨w.heap.size + 1, 0, none⟩)) rfl rfl
      clear hV hA hd
      obtain ⟨d0, d1, d2, g0, g1, g2⟩ := three_full (HG.out.2.2.1 HL8.out)
      go_simp
      refine HK.out _ _ ⟨rfl, ((HG.out.1.setCell (p := ⟨w.heap.size + 1, 0, none⟩) (by simp) _).setCell (p := ⟨w.heap.size + 1, 1, none⟩) (by simp) _).setCell (p := ⟨w.heap.size + 1, 2, none⟩) (by simp) _, ?_, fun e => by simp at e, fun _ => three_set (HG.out.2.2.1 HL8.out)⟩
      rw [other_set (by omega), other_set (by omega), other_set (by omega)]
      exact HG.out.2.1
  · intro w2 hG
    have hb := hG.1
    obtain ⟨d0, d1, d2, g0, g1, g2⟩ := three_full (hG.2.2.2 rfl)
    have HB2 := Lib.hid hb
    clear hG hb
    simp only [frameOf, Act.put, List.setIfInBounds_toArray, List.set_cons_succ, List.set_cons_zero]
    go_wp2
    refine bodyPost_ret (v := .agg #[.int .i64 p.1, .int .i64 p.2.1, .string p.2.2]) ?_ rfl ⟨rfl, HB2.out⟩
    simp [results, Try.results52, go_sem, d0, d1, d2]
end Go.Proofs.Ytminmakiahjfbaa
