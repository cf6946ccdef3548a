/-
  Draws of chapter 5: the prints of a tree.
-/
import Derived.Test.YtlbebbkkpjgboaaDraw3
import Derived.Test.YtlbebbkkpjgboaaRegion
namespace Go.Proofs.Ytlbebbkkpjgboaa
open Go.RowKit
set_option linter.unusedVariables false
def leafs : Nat → List Int
  | 0 => []
  | 1 => [-1]
  | 2 => [16777213, 5]
  | _ => List.replicate 17 0
theorem OwnI.cells {w : World} {base : Nat} {v : Value} {l : List Int} (h : OwnI w base v l) : v.cells = #[v] := by obtain ⟨x, n, c, rfl, _⟩ := h.ints; rfl
theorem OwnI.alloc {w : World} {base : Nat} {v : Value} {l : List Int} (h : OwnI w base v l) (o : Obj) : OwnI (w.alloc o) base v l := World.ownsRow.alloc h o
theorem leafs_len (j : Nat) : (leafs j).length ≤ 17 := by
  unfold leafs
  split <;> simp
/-- What holds of what the operations of the last statement yield. -/
def LeafF (r base : Nat) : Nat → Value → World → Prop
  | 0, v, w => OwnI w base v (leafs 0)
  | 1, v, w => OwnI w base v (leafs 1)
  | 2, v, w => OwnI w base v (leafs 2)
  | 3, v, w => OwnI w base v (leafs 3)
  | 4, v, w => ∃ kb, v = .slice (some ⟨kb, 0, none⟩) 4 4 ∧ kb ≠ r ∧ ∀ j, j < 4 → ∃ u, w.cell? ⟨kb, j, none⟩ = some u ∧ OwnI w base u (leafs j)
  | 5, v, w => v = .pointer (some ⟨r, 0, none⟩)
  | 6, v, w => ∃ j : Nat, j < 4 ∧ v = .int .i64 j
  | 7, v, w => ∃ kb j, j < 4 ∧ v = .pointer (some ⟨kb, j, none⟩) ∧ kb ≠ r ∧ ∃ u, w.cell? ⟨kb, j, none⟩ = some u ∧ OwnI w base u (leafs j)
  | _, v, w => ∃ j, j < 4 ∧ OwnI w base v (leafs j)
theorem own_ext {w w' : World} {base r : Nat} {v : Value} {l : List Int} (hr : r < base) (hg : w.grownBy w' (some r)) (h : OwnI w base v l) : OwnI w' base v l := own_kept h hg hr
theorem leafF_mono {r base : Nat} (hr : r < base) : ∀ (k : Nat) (v : Value) (w w' : World), w.grownBy w' (some r) → LeafF r base k v w → LeafF r base k v w'
  | 0, v, w, w', hg, h => own_ext hr hg h
  | 1, v, w, w', hg, h => own_ext hr hg h
  | 2, v, w, w', hg, h => own_ext hr hg h
  | 3, v, w, w', hg, h => own_ext hr hg h
  | 4, v, w, w', hg, h => by
    obtain ⟨kb, h1, h2, h3⟩ := h
    refine ⟨kb, h1, h2, fun j hj => ?_⟩
    obtain ⟨u, h4, h5⟩ := h3 j hj
    exact ⟨u, hg.cell (a := ⟨kb, j, none⟩) h4 (by simp; exact h2), own_ext hr hg h5⟩
  | 5, v, w, w', hg, h => h
  | 6, v, w, w', hg, h => h
  | 7, v, w, w', hg, h => by
    obtain ⟨kb, j, hj, h1, h2, u, h4, h5⟩ := h
    exact ⟨kb, j, hj, h1, h2, u, hg.cell (a := ⟨kb, j, none⟩) h4 (by simp; exact h2), own_ext hr hg h5⟩
  | _ + 8, v, w, w', hg, h => by
    obtain ⟨j, hj, h1⟩ := h
    exact ⟨j, hj, own_ext hr hg h1⟩
def LeafG (B r c : Nat) (w0 : World) (L : Nat → Bool) (w : World) : Prop := w0.grownBy w (some r) ∧ Rd B w r (c + 1) ∧ (L 6 = false → Rd B w r c)
theorem or_no {a b : Bool} (h : (a || b) = false) : b = false := by cases b <;> simp_all
theorem leafG_alloc {B r c k : Nat} {w0 w : World} {L : Nat → Bool} (h : LeafG B r c w0 L w) (o : Obj) : LeafG B r c w0 (fun j => j == k || L j) (w.alloc o) :=
  ⟨grownBy_alloc' h.1 o, rd_alloc h.2.1 o, fun e => rd_alloc (h.2.2 (or_no e)) o⟩
theorem leafG_same {B r c k : Nat} {w0 w : World} {L : Nat → Bool} (h : LeafG B r c w0 L w) : LeafG B r c w0 (fun j => j == k || L j) w :=
  ⟨h.1, h.2.1, fun e => h.2.2 (or_no e)⟩
theorem own_lit1 (w : World) (base : Nat) (hb : base ≤ w.heap.size) (l : List Int) (cs : Array Value) (hc : cs = (l.map (Value.int .i64)).toArray) (hl : l.length ≤ 1000) : OwnI (w.alloc (.cells cs 3)) base (.slice (some ⟨w.heap.size, 0, none⟩) l.length l.length) l := by
  have h := World.ownsRow_lit (e := 3) (size := 1) w cs l.length hb (by unfold maxLen; omega) (by subst hc; simp)
  unfold OwnI
  subst hc
  simpa using h
/-- Drawn prints of a tree. -/
def LeafR (n : Int) (base B r c : Nat) (w : World) (e : Ending) (w' : World) : Prop := ∃ (v : Value) (l : List Int), e = .returned v ∧ l.length ≤ 17 ∧ (n < 1 → 1 ≤ l.length) ∧ OwnI w' base v l ∧ Rd B w' r c ∧ w.grownBy w' (some r)
def LvRel (B r c : Nat) (w wr : World) (m : Nat) (v : Value) : Prop := ∃ l : List Int, 1 ≤ l.length ∧ l.length + m ≤ 16 ∧ OwnI wr w.heap.size v l ∧ Rd B wr r (c + 4 * l.length) ∧ w.grownBy wr (some r)
theorem lvRel_step {B r c m : Nat} {w wr w1 w2 : World} {v v' : Value} {l : List Int} {u : Int} (hl : l.length + (m + 1) ≤ 16) (ho : OwnI wr w.heap.size v l) (hr1 : Rd B w1 r (c + 4 * l.length + 4)) (hrw : r < w.heap.size) (hg0 : w.grownBy wr (some r)) (hg1 : wr.grownBy w1 (some r))
    (hown : OwnI w2 w.heap.size v' (l ++ [u])) (hg2 : w1.grownBy w2 v.ownBlock) : LvRel B r c w w2 m v' := by
  refine ⟨l ++ [u], by simp, by simp; omega, hown, ?_, ?_⟩
  · refine (hr1.grown hg2 fun k hk => ?_).more (by simp; omega)
    have := own_at ho hk
    have := hr1.le
    exact ⟨by omega, by omega⟩
  · exact grownBy_into (grownBy_trans hg0 hg1) hg2 (fun k hk => own_at ho hk)
set_option maxHeartbeats 1000000 in
set_option maxRecDepth 100000 in
theorem l20Leaves_any (B r c : Nat) (n : Int) (w : World) (h : Rd B w r c) (hc : c ≤ 90000) (hn : n ≤ 1000000) :
    Calls Try.prog 40 #[.pointer (some ⟨r, 0, none⟩), .int .i64 n] w (LeafR n w.heap.size B r (c + 80) w) := by
  have H := Lib.hid h; clear h
  have hrw := H.out.lt
  go_enter Try.func40, Try.ntmps40
  go_wp2_with fail
  refine (l20Print_any B r c _ _ H.out (by omega) (by omega)).mono ?_
  rintro e w1 ⟨u, rfl, hu0, hu1, hr, hg⟩
  have HO := Lib.hid (own_lit1 w1 w.heap.size hg.size [u] _ rfl (by simp))
  have HR := Lib.hid (rd_alloc hr (.cells #[.int .i64 u] 3)); have HG := Lib.hid (grownBy_alloc' hg (.cells #[.int .i64 u] 3)); clear hr hg
  go_wp2_with fail
  refine (pickN_any 16 B r (c + 4) _ _ w HR.out HG.out rfl (by decide) (by decide) (by omega)).mono ?_
  rintro e w2 ⟨k0, rfl, j0, hr, hg0, hg⟩
  have HS : Hid (LvRel B r (c + 1) w w2 k0 (.slice (some ⟨w1.heap.size, 0, none⟩) 1 1)) := ⟨[u], by simp, by simp; omega, own_kept HO.out hg0 hrw, hr, hg⟩
  clear hr hg hg0
  go_wp2
  go_loopw [5, 6] (fun v i wr => ∃ m : Nat, i = .int .i64 m ∧ m ≤ 15 ∧ LvRel B r (c + 1) w wr m v) (fun _ i _ => (intOf i).toNat)
  case atStart => exact ⟨k0, rfl, by omega, HS.out⟩
  case round =>
    obtain ⟨m, rfl, hm, hp⟩ := hrel
    rename_i v _
    obtain ⟨l, hl1, hl, ho, hr, hg⟩ := hp
    have HL := Lib.hid ho; have HR := Lib.hid hr; have HG := Lib.hid hg
    clear ho hr hg
    by_cases h0 : 0 < m
    · obtain ⟨m, rfl⟩ : ∃ q, m = q + 1 := ⟨m - 1, by omega⟩
      go_wp2_with fail
      refine (l20Print_any B r (c + 1 + 4 * l.length) _ _ HR.out (by omega) (by omega)).mono ?_
      rintro e w2 ⟨u, rfl, hu0, hu1, hr, hg⟩
      have HR1 := Lib.hid hr; have HG1 := Lib.hid hg; have HL1 := Lib.hid (own_kept HL.out hg hrw); clear hr hg
      have hsz := Nat.le_trans HG.out.size HG1.out.size
      go_wp2_with (at_builtin; refine wpList_app1I u HL1.out (by omega) hsz rfl _ _ rfl rfl rfl ?_; intro v' w' hown hgrow; have HW := Lib.hid hown; have HGR := Lib.hid hgrow; clear hown hgrow)
      go_roundw
      case rel => exact ⟨m, by go_num, by omega, lvRel_step hl HL.out HR1.out hrw HG.out HG1.out HW.out HGR.out⟩
      case measure => simp [intOf]
    · obtain rfl : m = 0 := by omega
      go_wp2_with fail
      refine (odd_any B r (c + 1 + 4 * l.length) _ _ HR.out (by omega) hn).mono ?_
      rintro e w1 ⟨b, rfl, hb0, hb1, hr, hg⟩
      have HR1 := Lib.hid hr; have HG1 := Lib.hid hg; have HL1 := Lib.hid (own_kept HL.out hg hrw); have HB0 := Lib.hid hb0; clear hr hg hb0 hb1
      cases b
      · go_wp2_with fail
        go_ret
        exact ⟨_, l, rfl, by omega, fun _ => hl1, HL1.out, HR1.out.more (by omega), grownBy_trans HG.out HG1.out⟩
      · have hmk : ∀ w, (Instr.makeSlice 31 (.int .i64 17) (.int .i64 17)).run Try.prog w = .ok (.slice (some ⟨w.heap.size, 0, none⟩) 17 17) (w.alloc (.cells (madeCells #[.int .i64 0] 17) 3)) := fun w => run_mk eltInt 17 (by decide) w
        have HMK := Lib.hid hmk; clear hmk
        have hsz := Nat.le_trans HG.out.size HG1.out.size
        go_wp2
        have HR1' := Lib.hid (show LeafG B r (c + 1 + 4 * l.length + 1) w (fun _ => false) w1.drew from ⟨grownBy_drew' (grownBy_trans HG.out HG1.out), rd_drew (HR1.out.more (Nat.le_succ _)), fun _ => rd_drew HR1.out⟩)
        refine region_facts (fun w w' => w.grownBy w' (some r)) (LeafG B r (c + 1 + 4 * l.length + 1) w) (LeafF r w.heap.size) (by kernel_rfl) (by kernel_rfl) (by kernel_rfl) (leafF_mono hrw) HR1'.out ?_ ?_
        · refine ⟨?_, ?_, ?_, ?_, ?_, ?_, ?_, ?_, ?_, ?_, trivial⟩
          · intro L v aa ww hA hG hF _ hd K hK
            have HK := Lib.hid hK; have HF := Lib.hid hF; have HGG := Lib.hid hG; have HD := Lib.hid hd; clear hK hF hG hd
            go_simp
            exact HK.out _ _ ⟨_, rfl, World.grownBy_alloc _ _ _, leafG_alloc HGG.out _, own_lit1 ww w.heap.size HGG.out.1.size [] _ rfl (by simp)⟩
          · intro L v aa ww hA hG hF _ hd K hK
            have HK := Lib.hid hK; have HF := Lib.hid hF; have HGG := Lib.hid hG; have HD := Lib.hid hd; clear hK hF hG hd
            go_simp
            exact HK.out _ _ ⟨_, rfl, World.grownBy_alloc _ _ _, leafG_alloc HGG.out _, own_lit1 ww w.heap.size HGG.out.1.size [-1] _ rfl (by simp)⟩
          · intro L v aa ww hA hG hF _ hd K hK
            have HK := Lib.hid hK; have HF := Lib.hid hF; have HGG := Lib.hid hG; have HD := Lib.hid hd; clear hK hF hG hd
            go_simp
            exact HK.out _ _ ⟨_, rfl, World.grownBy_alloc _ _ _, leafG_alloc HGG.out _, own_lit1 ww w.heap.size HGG.out.1.size [16777213, 5] _ rfl (by simp)⟩
          · intro L v aa ww hA hG hF _ hd K hK
            have HK := Lib.hid hK; have HF := Lib.hid hF; have HGG := Lib.hid hG; have HD := Lib.hid hd; clear hK hF hG hd
            have hmk := HMK.out
            go_simp
            exact HK.out _ _ ⟨_, rfl, World.grownBy_alloc _ _ _, leafG_alloc HGG.out _, show OwnI _ _ _ (List.replicate 17 0) from by
              have := own_mkI ww 17 (by decide) HGG.out.1.size
              unfold OwnI; rw [List.length_replicate]; exact this⟩
          · intro L v aa ww hA hG hF _ hd K hK
            have HK := Lib.hid hK; have HF := Lib.hid hF; have HGG := Lib.hid hG; have HD := Lib.hid hd; clear hK hF hG hd
            have hd := HD.out
            simp [Region.binds] at hd
            obtain ⟨h0, h1, h2, h3⟩ := hd
            have f0 : OwnI ww w.heap.size (v 0) (leafs 0) := HF.out 0 h0
            have f1 : OwnI ww w.heap.size (v 1) (leafs 1) := HF.out 1 h1
            have f2 : OwnI ww w.heap.size (v 2) (leafs 2) := HF.out 2 h2
            have f3 : OwnI ww w.heap.size (v 3) (leafs 3) := HF.out 3 h3
            obtain ⟨y0, m0, c0, e0, _⟩ := f0.ints
            obtain ⟨y1, m1, c1, e1, _⟩ := f1.ints
            obtain ⟨y2, m2, c2, e2, _⟩ := f2.ints
            obtain ⟨y3, m3, c3, e3, _⟩ := f3.ints
            have a24 := hA.at' 0 _ 24 rfl rfl rfl
            rw [e0] at a24 f0
            have a25 := hA.at' 1 _ 25 rfl rfl rfl
            rw [e1] at a25 f1
            have a26 := hA.at' 2 _ 26 rfl rfl rfl
            rw [e2] at a26 f2
            have a27 := hA.at' 3 _ 27 rfl rfl rfl
            rw [e3] at a27 f3
            clear hA
            have F0 := Lib.hid f0; have F1 := Lib.hid f1; have F2 := Lib.hid f2; have F3 := Lib.hid f3
            clear f0 f1 f2 f3 h0 h1 h2 h3 e0 e1 e2 e3
            go_simp
            refine HK.out _ _ ⟨_, rfl, World.grownBy_alloc _ _ _, leafG_alloc HGG.out _, ⟨ww.heap.size, rfl, ?_, ?_⟩⟩
            · have := HGG.out.2.1.lt; omega
            · intro j hj
              obtain rfl | rfl | rfl | rfl : j = 0 ∨ j = 1 ∨ j = 2 ∨ j = 3 := by omega
              · exact ⟨_, cell_new _ _ _ 0 _ rfl, OwnI.alloc F0.out _⟩
              · exact ⟨_, cell_new _ _ _ 1 _ rfl, OwnI.alloc F1.out _⟩
              · exact ⟨_, cell_new _ _ _ 2 _ rfl, OwnI.alloc F2.out _⟩
              · exact ⟨_, cell_new _ _ _ 3 _ rfl, OwnI.alloc F3.out _⟩
          · intro L v aa ww hA hG hF _ hd K hK
            have HK := Lib.hid hK; have HGG := Lib.hid hG; clear hK hF hG hd
            have a0 := hA.keep 0 (.pointer (some ⟨r, 0, none⟩)) rfl rfl
            clear hA
            go_simp
            exact HK.out _ _ ⟨_, rfl, grownBy_refl _ _, leafG_same HGG.out, rfl⟩
          · intro L v aa ww hA hG hF hl hd K hK
            have HK := Lib.hid hK; have HGG := Lib.hid hG; have HRD := Lib.hid (hG.2.2 hl)
            simp [Region.binds] at hd
            have e5 : v 5 = .pointer (some ⟨r, 0, none⟩) := hF 5 hd
            have a29 := hA.at' 5 _ 29 rfl rfl rfl
            rw [e5] at a29
            clear hK hF hG hd hl hA e5
            go_simp
            go_at_call 32
            refine (pickN_any 4 B r _ _ _ ww HRD.out (grownBy_refl _ _) rfl (by decide) (by decide) (by omega)).mono ?_
            rintro e w3 ⟨j, rfl, hj, hr, hg, _⟩
            refine HK.out _ _ ⟨_, rfl, hg, ⟨grownBy_trans HGG.out.1 hg, hr, fun e => by simp at e⟩, ⟨j, hj, rfl⟩⟩
          · intro L v aa ww hA hG hF hl hd K hK
            have HK := Lib.hid hK; have HGG := Lib.hid hG
            simp [Region.binds] at hd
            obtain ⟨kb, e4, hne, hc⟩ := hF 4 hd.1
            obtain ⟨j, hj, e6⟩ := hF 6 hd.2
            have HC := Lib.hid (hc j hj)
            have a28 := hA.at' 4 _ 28 rfl rfl rfl
            have a30 := hA.at' 6 _ 30 rfl rfl rfl
            rw [e4] at a28
            rw [e6] at a30
            clear hK hF hG hd hl hc hA e4 e6
            have hj0 : (j : Int) < 4 := by omega
            go_simp
            exact HK.out _ _ ⟨_, rfl, grownBy_refl _ _, leafG_same HGG.out, ⟨kb, j, hj, rfl, hne, HC.out⟩⟩
          · intro L v aa ww hA hG hF hl hd K hK
            have HK := Lib.hid hK; have HGG := Lib.hid hG
            simp [Region.binds] at hd
            obtain ⟨kb, j, hj, e7, hne, u, hc, ho⟩ := hF 7 hd
            have HO2 := Lib.hid ho
            have a31 := hA.at' 7 _ 31 rfl rfl rfl
            rw [e7] at a31
            clear hK hF hG hd hl hA e7 ho
            go_simp
            exact HK.out _ _ ⟨_, rfl, grownBy_refl _ _, leafG_same HGG.out, ⟨j, hj, HO2.out⟩⟩
          · intro L v aa ww hA hG hF hl hd K hK
            have HK := Lib.hid hK; have HGG := Lib.hid hG
            simp [Region.binds] at hd
            have f8 : LeafF r w.heap.size 8 (v 8) ww := hF 8 hd.1
            have F8 := Lib.hid f8
            have a32 := hA.at' 8 _ 32 rfl rfl rfl
            clear hK hF hG hd hl hA f8
            go_simp
            exact HK.out _ _ ⟨_, rfl, grownBy_refl _ _, leafG_same HGG.out, F8.out⟩
        · intro L v ww hF hL hG
          obtain ⟨j, hj, ho⟩ : LeafF r w.heap.size 9 (v 9) ww := hF 9 (by decide)
          have HO2 := Lib.hid ho; have HGG := Lib.hid hG
          obtain ⟨y9, m9, c9, e9, _⟩ := ho.ints
          clear hF hL hG ho
          simp only [frameOf, Act.put, List.setIfInBounds_toArray, List.set_cons_succ, List.set_cons_zero]
          rw [e9]
          have HO3 := Lib.hid (show OwnI ww w.heap.size (.slice y9 m9 c9) (leafs j) by rw [← e9]; exact HO2.out)
          clear HO2 e9
          go_wp2
          go_ret
          exact ⟨_, leafs j, rfl, leafs_len j, fun h => absurd (HB0.out h) (by decide), HO3.out, HGG.out.2.1.more (by omega), HGG.out.1⟩
/-- Drawn numbers, at the law. -/
theorem drawTreeRoot_any (x : Option Addr) (n cap : Nat) (w : World) (h : Bytes w.heap.size w x n) (hn : n ≤ cap) (hc : cap ≤ maxLen) :
    Calls Try.prog 15 #[.slice x n cap] w (IntsOut 17 w) := by
  go_enter Try.func15, Try.ntmps15
  go_wp2_with fail
  refine (open_any x n cap w h hn hc).mono ?_
  rintro e w1 ⟨rfl, hr, hb⟩
  have HR := Lib.hid hr; have HB := Lib.hid hb; clear hr hb
  go_wp2_with fail
  refine (l20Leaves_any w.heap.size w.heap.size 0 _ _ HR.out (by omega) (by omega)).mono ?_
  rintro e w2 ⟨v, l, rfl, hl, _, ho, hr, hg⟩
  have HO := Lib.hid (ho.mono HB.out.size); have HB2 := Lib.hid (HB.out.trans (below_grownBy hg HB.out.size (Nat.le_refl _))); clear ho hr hg
  go_wp2_with fail
  go_ret
  exact ⟨v, l, rfl, hl, HO.out, HB2.out⟩
end Go.Proofs.Ytlbebbkkpjgboaa
