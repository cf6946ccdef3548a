/-
  Draws of chapter 4: a store and a print.
-/
import Derived.Test.YtlbebbkkpjgboaaDraw7
import Derived.Test.YtlbebbkkpjgboaaDraw3
import Derived.Test.YtlbebbkkpjgboaaRegion
namespace Go.Proofs.Ytlbebbkkpjgboaa
open Go.RowKit
set_option linter.unusedVariables false
def StoreIntOut (w : World) (e : Ending) (w' : World) : Prop :=
  ∃ (x : Option Addr) (n cap : Nat) (l : List Pc) (p : Int), e = .returned (.tuple #[.slice x n cap, .int .i64 p]) ∧ Pcs w' w'.heap.size x n cap l ∧ FineS l ∧ Below w.heap.size w w'
/-- What holds of what the operations of the last statement yield. -/
def GetF (r b off n c : Nat) (p : Int) : Nat → Value → World → Prop
  | 0, v, _ => v = .slice (some ⟨b, off, none⟩) n c
  | 1, v, _ => v = .int .i64 p
  | 2, v, _ => v = .pointer (some ⟨r, 0, none⟩)
  | 3, v, _ => ∃ u, v = .int .i64 u
  | 4, v, _ => v = .slice (some ⟨b, off, none⟩) n c
  | 5, v, _ => v = .pointer (some ⟨r, 0, none⟩)
  | 6, v, _ => v = .slice (some ⟨b, off, none⟩) n c
  | 7, v, _ => v = .int .i64 (n : Int)
  | 8, v, _ => ∃ j : Nat, j < n ∧ v = .int .i64 (j : Int)
  | 9, v, _ => ∃ j : Nat, j < n ∧ v = .pointer (some ⟨b, off + j * 2, none⟩)
  | 10, v, _ => ∃ j : Nat, j < n ∧ v = .pointer (some ⟨b, off + j * 2, none⟩)
  | 11, v, _ => ∃ u, v = .int .i64 u
  | 12, v, w => ∃ kb, v = .slice (some ⟨kb, 0, none⟩) 3 3 ∧ kb ≠ r ∧ ∀ j, j < 3 → ∃ u, w.cell? ⟨kb, j, none⟩ = some (.int .i64 u)
  | 13, v, _ => v = .pointer (some ⟨r, 0, none⟩)
  | 14, v, _ => ∃ j : Nat, j < 3 ∧ v = .int .i64 (j : Int)
  | 15, v, w => ∃ kb j, v = .pointer (some ⟨kb, j, none⟩) ∧ kb ≠ r ∧ ∃ u, w.cell? ⟨kb, j, none⟩ = some (.int .i64 u)
  | 16, v, _ => ∃ u, v = .int .i64 u
  | 17, v, _ => v = .slice (some ⟨b, off, none⟩) n c
  | _, v, _ => ∃ u, v = .int .i64 u
theorem getF_mono {r b off n c : Nat} {p : Int} : ∀ (k : Nat) (v : Value) (w w' : World), w.grownBy w' (some r) → GetF r b off n c p k v w → GetF r b off n c p k v w'
  | 0, v, w, w', hg, h => h
  | 1, v, w, w', hg, h => h
  | 2, v, w, w', hg, h => h
  | 3, v, w, w', hg, h => h
  | 4, v, w, w', hg, h => h
  | 5, v, w, w', hg, h => h
  | 6, v, w, w', hg, h => h
  | 7, v, w, w', hg, h => h
  | 8, v, w, w', hg, h => h
  | 9, v, w, w', hg, h => h
  | 10, v, w, w', hg, h => h
  | 11, v, w, w', hg, h => h
  | 12, v, w, w', hg, h => by
    obtain ⟨kb, h1, h2, h3⟩ := h
    refine ⟨kb, h1, h2, fun j hj => ?_⟩
    obtain ⟨u, h4⟩ := h3 j hj
    exact ⟨u, hg.cell (a := ⟨kb, j, none⟩) h4 (by simp; exact h2)⟩
  | 13, v, w, w', hg, h => h
  | 14, v, w, w', hg, h => h
  | 15, v, w, w', hg, h => by
    obtain ⟨kb, j, h1, h2, u, h4⟩ := h
    exact ⟨kb, j, h1, h2, u, hg.cell (a := ⟨kb, j, none⟩) h4 (by simp; exact h2)⟩
  | 16, v, w, w', hg, h => h
  | 17, v, w, w', hg, h => h
  | _ + 18, v, w, w', hg, h => h
def GetG (B r c : Nat) (w0 : World) (L : Nat → Bool) (w : World) : Prop := w0.grownBy w (some r) ∧ (L 3 = false → Rd B w r c) ∧ (L 8 = false → Rd B w r (c + 4)) ∧ (L 14 = false → Rd B w r (c + 5)) ∧ Rd B w r (c + 6) ∧ (L 8 = true → L 3 = true)
theorem or_no2 {a b : Bool} (h : (a || b) = false) : b = false := by cases b <;> simp_all
theorem up8 {k : Nat} {L : Nat → Bool} (h : L 8 = true → L 3 = true) (hk : k ≠ 8) : (fun j => j == k || L j) 8 = true → (fun j => j == k || L j) 3 = true := by
  intro e
  have : L 8 = true := by simpa [Ne.symm hk] using e
  simp [h this]
theorem getG_same {B r c k : Nat} {w0 w : World} {L : Nat → Bool} (h : GetG B r c w0 L w) (hk : k ≠ 8 := by decide) : GetG B r c w0 (fun j => j == k || L j) w :=
  ⟨h.1, fun e => h.2.1 (or_no2 e), fun e => h.2.2.1 (or_no2 e), fun e => h.2.2.2.1 (or_no2 e), h.2.2.2.2.1, up8 h.2.2.2.2.2 hk⟩
theorem getG_alloc {B r c k : Nat} {w0 w : World} {L : Nat → Bool} (h : GetG B r c w0 L w) (o : Obj) (hk : k ≠ 8 := by decide) : GetG B r c w0 (fun j => j == k || L j) (w.alloc o) :=
  ⟨grownBy_alloc' h.1 o, fun e => rd_alloc (h.2.1 (or_no2 e)) o, fun e => rd_alloc (h.2.2.1 (or_no2 e)) o, fun e => rd_alloc (h.2.2.2.1 (or_no2 e)) o, rd_alloc h.2.2.2.2.1 o, up8 h.2.2.2.2.2 hk⟩
set_option maxHeartbeats 1000000 in
set_option maxRecDepth 100000 in
theorem drawGetText_any (x : Option Addr) (n cap : Nat) (w : World) (h : Bytes w.heap.size w x n) (hn : n ≤ cap) (hc : cap ≤ maxLen) :
    Calls Try.prog 10 #[.slice x n cap] w (StoreIntOut w) := by
  go_enter Try.func10, Try.ntmps10
  go_wp2_with fail
  refine (open_any x n cap w h hn hc).mono ?_
  rintro e w1 ⟨rfl, hr, hb⟩
  have HR := Lib.hid hr; have HB := Lib.hid hb; clear hr hb h hn hc
  go_wp2_with fail
  refine (l20Store_any w.heap.size w.heap.size 0 _ _ HR.out (by omega) (by omega)).mono ?_
  rintro e w2 ⟨x2, n2, c2, l2, p2, rfl, hl, hf, hr, hg⟩
  have HL := Lib.hid hl; have HF := Lib.hid hf; have HR2 := Lib.hid hr; have HG := Lib.hid hg; clear hl hf hr hg
  have hn0 : 1 ≤ n2 := by have := HL.out.len; have := List.length_pos_iff.2 HF.out.1; omega
  have hn41 : n2 ≤ 1000000 := by have := HL.out.len; have := HF.out.2.1; omega
  have hcm := HL.out.le
  have hcx := HL.out.max
  unfold maxLen at hcx
  obtain ⟨b, off, rfl, hbb, _, _⟩ := HL.out.atP (k := 0) hn0
  go_wp2
  have HD2 := Lib.hid (show Pcs w2.drew w2.drew.heap.size (some ⟨b, off, none⟩) n2 c2 l2 from HL.out.drew)
  have HRd := Lib.hid (show Rd w.heap.size w2.drew w.heap.size 60 from rd_drew HR2.out)
  have HG0 := Lib.hid (show GetG w.heap.size w.heap.size 60 w2.drew (fun _ => false) w2.drew from ⟨grownBy_refl _ _, fun _ => HRd.out, fun _ => HRd.out.more (by omega), fun _ => HRd.out.more (by omega), HRd.out.more (by omega), fun e => by cases e⟩)
  refine region_facts (fun w w' => w.grownBy w' (some _)) (GetG w.heap.size w.heap.size 60 w2.drew) (GetF w.heap.size b off n2 c2 p2) (by kernel_rfl) (by kernel_rfl) (by kernel_rfl) getF_mono HG0.out ?_ ?_
  · refine ⟨?_, ?_, ?_, ?_, ?_, ?_, ?_, ?_, ?_, ?_, ?_, ?_, ?_, ?_, ?_, ?_, ?_, ?_, ?_, trivial⟩
    · intro L v aa ww hA hG hF hl hd K hK
      have HK := Lib.hid hK; have HGG := Lib.hid hG
      have k5 := hA.keep 5 (.slice (some ⟨b, off, none⟩) n2 c2) rfl rfl
      clear hA hG hF hl hd hK
      go_simp
      exact HK.out _ _ ⟨_, rfl, grownBy_refl _ _, getG_same HGG.out, rfl⟩
    · intro L v aa ww hA hG hF hl hd K hK
      have HK := Lib.hid hK; have HGG := Lib.hid hG
      have k6 := hA.keep 6 (.int .i64 p2) rfl rfl
      clear hA hG hF hl hd hK
      go_simp
      exact HK.out _ _ ⟨_, rfl, grownBy_refl _ _, getG_same HGG.out, rfl⟩
    · intro L v aa ww hA hG hF hl hd K hK
      have HK := Lib.hid hK; have HGG := Lib.hid hG
      have k4 := hA.keep 4 (.pointer (some ⟨w.heap.size, 0, none⟩)) rfl rfl
      clear hA hG hF hl hd hK
      go_simp
      exact HK.out _ _ ⟨_, rfl, grownBy_refl _ _, getG_same HGG.out, rfl⟩
    · intro L v aa ww hA hG hF hl hd K hK
      have HK := Lib.hid hK; have HGG := Lib.hid hG
      have HRR := Lib.hid (hG.2.1 hl)
      have l2 : L 2 = true := by have h := hd; simp [Region.binds] at h; simp [h]
      have f2 : GetF w.heap.size b off n2 c2 p2 2 (v 2) ww := hF 2 l2
      have v16 := hA.at' 2 _ 16 rfl rfl rfl
      rw [show v 2 = _ from f2] at v16
      clear f2 l2
      clear hA hG hF hl hd hK
      go_simp
      go_at_call 31
      refine (l20Print_any w.heap.size w.heap.size 60 9 _ HRR.out (by omega) (by omega)).mono ?_
      rintro e w3 ⟨u, rfl, _, _, hr, hg⟩
      refine HK.out _ _ ⟨_, rfl, hg, ⟨grownBy_trans HGG.out.1 hg, fun e => by simp at e, fun _ => hr, fun _ => hr.more (by omega), hr.more (by omega), fun _ => by simp⟩, ⟨_, rfl⟩⟩
    · intro L v aa ww hA hG hF hl hd K hK
      have HK := Lib.hid hK; have HGG := Lib.hid hG
      have k5 := hA.keep 5 (.slice (some ⟨b, off, none⟩) n2 c2) rfl rfl
      clear hA hG hF hl hd hK
      go_simp
      exact HK.out _ _ ⟨_, rfl, grownBy_refl _ _, getG_same HGG.out, rfl⟩
    · intro L v aa ww hA hG hF hl hd K hK
      have HK := Lib.hid hK; have HGG := Lib.hid hG
      have k4 := hA.keep 4 (.pointer (some ⟨w.heap.size, 0, none⟩)) rfl rfl
      clear hA hG hF hl hd hK
      go_simp
      exact HK.out _ _ ⟨_, rfl, grownBy_refl _ _, getG_same HGG.out, rfl⟩
    · intro L v aa ww hA hG hF hl hd K hK
      have HK := Lib.hid hK; have HGG := Lib.hid hG
      have k5 := hA.keep 5 (.slice (some ⟨b, off, none⟩) n2 c2) rfl rfl
      clear hA hG hF hl hd hK
      go_simp
      exact HK.out _ _ ⟨_, rfl, grownBy_refl _ _, getG_same HGG.out, rfl⟩
    · intro L v aa ww hA hG hF hl hd K hK
      have HK := Lib.hid hK; have HGG := Lib.hid hG
      have l6 : L 6 = true := by have h := hd; simp [Region.binds] at h; simp [h]
      have f6 : GetF w.heap.size b off n2 c2 p2 6 (v 6) ww := hF 6 l6
      have v20 := hA.at' 6 _ 20 rfl rfl rfl
      rw [show v 6 = _ from f6] at v20
      clear f6 l6
      clear hA hG hF hl hd hK
      go_simp
      exact HK.out _ _ ⟨_, rfl, grownBy_refl _ _, getG_same HGG.out, rfl⟩
    · intro L v aa ww hA hG hF hl hd K hK
      have HK := Lib.hid hK; have HGG := Lib.hid hG
      have HL3 := Lib.hid (show L 3 = true by have h := hd; simp [Region.binds] at h; simp [h])
      have HRR := Lib.hid (hG.2.2.1 hl)
      have l5 : L 5 = true := by have h := hd; simp [Region.binds] at h; simp [h]
      have f5 : GetF w.heap.size b off n2 c2 p2 5 (v 5) ww := hF 5 l5
      have v19 := hA.at' 5 _ 19 rfl rfl rfl
      rw [show v 5 = _ from f5] at v19
      clear f5 l5
      have l7 : L 7 = true := by have h := hd; simp [Region.binds] at h; simp [h]
      have f7 : GetF w.heap.size b off n2 c2 p2 7 (v 7) ww := hF 7 l7
      have v21 := hA.at' 7 _ 21 rfl rfl rfl
      rw [show v 7 = _ from f7] at v21
      clear f7 l7
      clear hA hG hF hl hd hK
      go_simp
      go_at_call 32
      refine (pickN_any n2 w.heap.size w.heap.size 64 _ _ ww HRR.out (grownBy_refl _ _) rfl hn0 hn41 (by omega)).mono ?_
      rintro e w3 ⟨j, rfl, hj, hr, hg, _⟩
      refine HK.out _ _ ⟨_, rfl, hg, ⟨grownBy_trans HGG.out.1 hg, fun e => ?_, fun e => by simp at e, fun _ => hr, hr.more (by omega), fun _ => by simp [HL3.out]⟩, ⟨j, hj, rfl⟩⟩
      · have h1 := or_no2 e; rw [HL3.out] at h1; cases h1
    · intro L v aa ww hA hG hF hl hd K hK
      have HK := Lib.hid hK; have HGG := Lib.hid hG
      have l4 : L 4 = true := by have h := hd; simp [Region.binds] at h; simp [h]
      have f4 : GetF w.heap.size b off n2 c2 p2 4 (v 4) ww := hF 4 l4
      have v18 := hA.at' 4 _ 18 rfl rfl rfl
      rw [show v 4 = _ from f4] at v18
      clear f4 l4
      have l8 : L 8 = true := by have h := hd; simp [Region.binds] at h; simp [h]
      have f8 : GetF w.heap.size b off n2 c2 p2 8 (v 8) ww := hF 8 l8
      have v22 := hA.at' 8 _ 22 rfl rfl rfl
      obtain ⟨j, hj, e8⟩ := f8
      rw [e8] at v22
      clear e8 l8
      clear hA hG hF hl hd hK
      have hj0 : (j : Int) < (n2 : Int) := by omega
      go_simp
      exact HK.out _ _ ⟨_, rfl, grownBy_refl _ _, getG_same HGG.out, ⟨j, hj, rfl⟩⟩
    · intro L v aa ww hA hG hF hl hd K hK
      have HK := Lib.hid hK; have HGG := Lib.hid hG
      have l9 : L 9 = true := by have h := hd; simp [Region.binds] at h; simp [h]
      have f9 : GetF w.heap.size b off n2 c2 p2 9 (v 9) ww := hF 9 l9
      have v23 := hA.at' 9 _ 23 rfl rfl rfl
      obtain ⟨j, hj, e9⟩ := f9
      rw [e9] at v23
      clear e9 l9
      clear hA hG hF hl hd hK
      go_simp
      exact HK.out _ _ ⟨_, rfl, grownBy_refl _ _, getG_same HGG.out, ⟨j, hj, rfl⟩⟩
    · intro L v aa ww hA hG hF hl hd K hK
      have HK := Lib.hid hK; have HGG := Lib.hid hG
      have l10 : L 10 = true := by have h := hd; simp [Region.binds] at h; simp [h]
      have f10 : GetF w.heap.size b off n2 c2 p2 10 (v 10) ww := hF 10 l10
      have v24 := hA.at' 10 _ 24 rfl rfl rfl
      obtain ⟨j, hj, e10⟩ := f10
      rw [e10] at v24
      clear e10 l10
      clear hA hG hF hl hd hK
      obtain ⟨b5, off5, e5, _, hcj, _⟩ := (Lst.rd_kept HD2.out HRd.out HGG.out.1 (Nat.le_refl _)).atP hj
      simp only [Option.some.injEq, Addr.mk.injEq, and_true] at e5
      obtain ⟨rfl, rfl⟩ := e5
      go_simp
      exact HK.out _ _ ⟨_, rfl, grownBy_refl _ _, getG_same HGG.out, ⟨_, rfl⟩⟩
    · intro L v aa ww hA hG hF hl hd K hK
      have HK := Lib.hid hK; have HGG := Lib.hid hG
      have l1 : L 1 = true := by have h := hd; simp [Region.binds] at h; simp [h]
      have f1 : GetF w.heap.size b off n2 c2 p2 1 (v 1) ww := hF 1 l1
      have v15 := hA.at' 1 _ 15 rfl rfl rfl
      rw [show v 1 = _ from f1] at v15
      clear f1 l1
      have l3 : L 3 = true := by have h := hd; simp [Region.binds] at h; simp [h]
      have f3 : GetF w.heap.size b off n2 c2 p2 3 (v 3) ww := hF 3 l3
      have v17 := hA.at' 3 _ 17 rfl rfl rfl
      obtain ⟨u3, e3⟩ := f3
      rw [e3] at v17
      clear e3 l3
      have l11 : L 11 = true := by have h := hd; simp [Region.binds] at h; simp [h]
      have f11 : GetF w.heap.size b off n2 c2 p2 11 (v 11) ww := hF 11 l11
      have v25 := hA.at' 11 _ 25 rfl rfl rfl
      obtain ⟨u11, e11⟩ := f11
      rw [e11] at v25
      clear e11 l11
      clear hA hG hF hl hd hK
      go_simp
      refine HK.out _ _ ⟨_, rfl, World.grownBy_alloc _ _ _, getG_alloc HGG.out _, ⟨ww.heap.size, rfl, ?_, ?_⟩⟩
      · have := HGG.out.2.2.2.2.1.lt; omega
      · intro j hj
        obtain rfl | rfl | rfl : j = 0 ∨ j = 1 ∨ j = 2 := by omega
        · exact ⟨_, cell_new _ _ _ 0 _ rfl⟩
        · exact ⟨_, cell_new _ _ _ 1 _ rfl⟩
        · exact ⟨_, cell_new _ _ _ 2 _ rfl⟩
    · intro L v aa ww hA hG hF hl hd K hK
      have HK := Lib.hid hK; have HGG := Lib.hid hG
      have k4 := hA.keep 4 (.pointer (some ⟨w.heap.size, 0, none⟩)) rfl rfl
      clear hA hG hF hl hd hK
      go_simp
      exact HK.out _ _ ⟨_, rfl, grownBy_refl _ _, getG_same HGG.out, rfl⟩
    · intro L v aa ww hA hG hF hl hd K hK
      have HK := Lib.hid hK; have HGG := Lib.hid hG
      have HL8 := Lib.hid (show L 8 = true by have h := hd; simp [Region.binds] at h; simp [h])
      have HL3 := Lib.hid (hG.2.2.2.2.2 HL8.out)
      have HRR := Lib.hid (hG.2.2.2.1 hl)
      have l13 : L 13 = true := by have h := hd; simp [Region.binds] at h; simp [h]
      have f13 : GetF w.heap.size b off n2 c2 p2 13 (v 13) ww := hF 13 l13
      have v27 := hA.at' 13 _ 27 rfl rfl rfl
      rw [show v 13 = _ from f13] at v27
      clear f13 l13
      clear hA hG hF hl hd hK
      go_simp
      go_at_call 32
      refine (pickN_any 3 w.heap.size w.heap.size 65 _ _ ww HRR.out (grownBy_refl _ _) rfl (by omega) (by omega) (by omega)).mono ?_
      rintro e w3 ⟨j, rfl, hj, hr, hg, _⟩
      refine HK.out _ _ ⟨_, rfl, hg, ⟨grownBy_trans HGG.out.1 hg, fun e => ?_, fun e => ?_, fun e => by simp at e, hr, fun _ => by simp [HL3.out]⟩, ⟨j, hj, rfl⟩⟩
      · have h1 := or_no2 e; rw [HL3.out] at h1; cases h1
      · have h1 := or_no2 e; rw [HL8.out] at h1; cases h1
    · intro L v aa ww hA hG hF hl hd K hK
      have HK := Lib.hid hK; have HGG := Lib.hid hG
      have l12 : L 12 = true := by have h := hd; simp [Region.binds] at h; simp [h]
      have f12 : GetF w.heap.size b off n2 c2 p2 12 (v 12) ww := hF 12 l12
      have v26 := hA.at' 12 _ 26 rfl rfl rfl
      obtain ⟨kb, e12, hne, hc⟩ := f12
      rw [e12] at v26
      clear e12 l12
      have l14 : L 14 = true := by have h := hd; simp [Region.binds] at h; simp [h]
      have f14 : GetF w.heap.size b off n2 c2 p2 14 (v 14) ww := hF 14 l14
      have v28 := hA.at' 14 _ 28 rfl rfl rfl
      obtain ⟨j, hj, e14⟩ := f14
      rw [e14] at v28
      clear e14 l14
      clear hA hG hF hl hd hK
      have HC := Lib.hid (hc j hj)
      clear hc
      have hj0 : (j : Int) < 3 := by omega
      go_simp
      exact HK.out _ _ ⟨_, rfl, grownBy_refl _ _, getG_same HGG.out, ⟨kb, j, rfl, hne, HC.out⟩⟩
    · intro L v aa ww hA hG hF hl hd K hK
      have HK := Lib.hid hK; have HGG := Lib.hid hG
      have l15 : L 15 = true := by have h := hd; simp [Region.binds] at h; simp [h]
      have f15 : GetF w.heap.size b off n2 c2 p2 15 (v 15) ww := hF 15 l15
      have v29 := hA.at' 15 _ 29 rfl rfl rfl
      obtain ⟨kb, j, e15, hne, u, hcu⟩ := f15
      rw [e15] at v29
      clear e15 l15
      clear hA hG hF hl hd hK
      go_simp
      exact HK.out _ _ ⟨_, rfl, grownBy_refl _ _, getG_same HGG.out, ⟨_, rfl⟩⟩
    · intro L v aa ww hA hG hF hl hd K hK
      have HK := Lib.hid hK; have HGG := Lib.hid hG
      have l0 : L 0 = true := by have h := hd; simp [Region.binds] at h; simp [h]
      have f0 : GetF w.heap.size b off n2 c2 p2 0 (v 0) ww := hF 0 l0
      have v14 := hA.at' 0 _ 14 rfl rfl rfl
      rw [show v 0 = _ from f0] at v14
      clear f0 l0
      clear hA hG hF hl hd hK
      go_simp
      exact HK.out _ _ ⟨_, rfl, grownBy_refl _ _, getG_same HGG.out, rfl⟩
    · intro L v aa ww hA hG hF hl hd K hK
      have HK := Lib.hid hK; have HGG := Lib.hid hG
      have l16 : L 16 = true := by have h := hd; simp [Region.binds] at h; simp [h]
      have f16 : GetF w.heap.size b off n2 c2 p2 16 (v 16) ww := hF 16 l16
      have v30 := hA.at' 16 _ 30 rfl rfl rfl
      obtain ⟨u, e16⟩ := f16
      rw [e16] at v30
      clear e16 l16
      clear hA hG hF hl hd hK
      go_simp
      exact HK.out _ _ ⟨_, rfl, grownBy_refl _ _, getG_same HGG.out, ⟨_, rfl⟩⟩
  · intro L v ww hF hL hG
    have f17 : GetF w.heap.size b off n2 c2 p2 17 (v 17) ww := hF 17 (by decide)
    obtain ⟨u, f18⟩ : GetF w.heap.size b off n2 c2 p2 18 (v 18) ww := hF 18 (by decide)
    have HGG := Lib.hid hG
    clear hF hL hG
    simp only [frameOf, Act.put, List.setIfInBounds_toArray, List.set_cons_succ, List.set_cons_zero]
    rw [show v 17 = _ from f17, f18]
    clear f17 f18
    go_wp2
    go_ret2
    exact ⟨_, n2, c2, l2, u, rfl, Lst.more (Lst.rd_kept HD2.out HRd.out HGG.out.1 (Nat.le_refl _)) HGG.out.1.size, HF.out, HB.out.trans (below_grownBy (grownBy_trans HG.out ⟨HGG.out.1.os, HGG.out.1.tape, HGG.out.1.output, HGG.out.1.size, HGG.out.1.block⟩) HB.out.size (Nat.le_refl _))⟩
end Go.Proofs.Ytlbebbkkpjgboaa
