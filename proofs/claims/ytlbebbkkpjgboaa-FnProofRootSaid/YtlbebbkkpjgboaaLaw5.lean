/-
  The walks of chapter 5's laws.
-/
import Derived.Test.YtlbebbkkpjgboaaDraw11
import Derived.BigFrame
import Derived.Test.YtlbebbkkpjgboaaRegion
namespace Go.Proofs.Ytlbebbkkpjgboaa
open Go.RowKit
set_option linter.unusedVariables false
theorem wp_appNI {ops : Array Oper} {o : Oper} {a : Act} {Q : Exit → Act → World → Prop} {K : Act → World → Prop} {w : World} {base m c B : Nat} {v : Value} {x : Option Addr} {l l' : List Int} (hown : OwnI w base v l) (hr : Ints w B x m c l') (hn : l.length ≤ 2000000) (hm : m ≤ 2000000) (hbase : base ≤ w.heap.size)
    (s y : Operand) (ho : o.op = .call { callee := .builtin .append, args := #[s, y], argTypes := #[31, 31] }) (hs : a.eval s = v) (hy : a.eval y = .slice x m c)
    (h : ∀ v' w', OwnI w' base v' (l ++ l') → w.grownBy w' v.ownBlock → K (a.put o.dst v') w') : Oper.wp Try.prog o a w K Q := by
  obtain ⟨v', w', hrun, h2, h3⟩ := run_appN (w := w) eltInt (c := c) o.type hown hr.rds (by simpa using hr.len) (one_ints _) hn hm hbase
  unfold Oper.wp execOp
  simp only [ho, resolve, invoke, builtin, Sem.run_bind, Sem.run_pure, Result.andThen_ok, List.map_toArray, List.map_cons, List.map_nil, hs, hy, hrun]
  refine h v' w' ?_ h3
  unfold OwnI
  rw [List.length_append, List.map_append, hr.len]
  exact h2
/-- append behind '&&'. -/
theorem wpList_appNIW {ops : Array Oper} {o : Oper} {rest : List Oper} {a : Act} {Q : Exit → Act → World → Prop} {w : World} {base m c B : Nat} {v : Value} {x : Option Addr} {l l' : List Int} (hown : OwnI w base v l) (hr : Ints w B x m c l') (hn : l.length ≤ 2000000) (hm : m ≤ 2000000) (hbase : base ≤ w.heap.size)
    (hw : Region.wanted o (yielded ops a.tmps) = true) (s y : Operand) (ho : o.op = .call { callee := .builtin .append, args := #[s, y], argTypes := #[31, 31] }) (hs : a.eval s = v) (hy : a.eval y = .slice x m c)
    (h : ∀ v' w', OwnI w' base v' (l ++ l') → w.grownBy w' v.ownBlock → wpList Try.prog ops Q rest (a.put o.dst v') w') : wpList Try.prog ops Q (o :: rest) a w :=
  Go.BigFrame.wpList_want hw fun _ hK => wp_appNI (ops := ops) hown hr hn hm hbase s y ho hs hy fun v' w' h1 h2 => hK _ _ (h v' w' h1 h2)
theorem rootB_neg {l : List Int} (h : rootB l < 0) : rootB l = -1 := by have := (rootB_bd l).1; omega
theorem rootB_pos {l : List Int} (h : ¬ rootB l < 0) : leavesB l = true := by
  cases hl : leavesB l
  · rw [rootB_no hl] at h; omega
  · rfl
theorem fnProofRoot_any (x : Option Addr) (n cap : Nat) (w : World) (h : Bytes w.heap.size w x n) (hn : n ≤ cap) (hc : cap ≤ maxLen) :
    Calls Try.prog 6 #[.slice x n cap] w fun e w' => e = .returned (.bool true) ∧ Below w.heap.size w w' := by
  by_cases hlong : 1048576 < (n : Int)
  · go_enter Try.func6, Try.ntmps6
    go_wp2
    go_ret
    exact ⟨rfl, Below.refl _ _⟩
  · have HB0 := Lib.hid h
    have HC := Lib.hid hc
    have HL := Lib.hid hn
    clear h hc hn
    go_enter Try.func6, Try.ntmps6
    go_wp2_with (go_at_call 23; refine (drawProofRoot_any x n cap w HB0.out HL.out HC.out).mono ?_; rintro e w1 ⟨y, q, c, l, p, k, m, rfl, hl, ⟨hk0, hk1⟩, ⟨hm0, hm1⟩, hi, hb⟩; have HB := Lib.hid hb; have HI := Lib.hid hi; clear hb hi)
    have hbd := rootP_bd p k m l
    obtain ⟨hbd0, hbd1⟩ := hbd
    have HLEN := Lib.hid HI.out.len
    have hq5 : q ≤ 5 := by have := HLEN.out; omega
    by_cases hneg : rootP p k m l < 0
    · have hm1 : rootP p k m l = -1 := by omega
      go_wp2_with (first
        | (go_at_call 13; refine (alive_any _).mono ?_; rintro e w' ⟨rfl, rfl⟩)
        | (go_at_call 22; refine (proofRoot_any _ _ _ _ _ _ l _ _ HI.out).mono ?_; rintro e w' ⟨rfl, rfl⟩)
        | (go_at_call 24; refine (specProofRoot_any _ _ _ _ _ _ l _ _ HI.out).mono ?_; rintro e w' ⟨rfl, rfl⟩))
      go_ret
      exact ⟨rfl, HB.out⟩
    · have hpos : 0 ≤ rootP p k m l := by omega
      obtain ⟨hp, _⟩ := rootP_some hpos
      obtain ⟨hp0, hp1⟩ := isPr_bd hp
      have HNE := Lib.hid (rootP_ne hpos)
      have HMO := Lib.hid (rootP_more 5 hpos)
      have hs1 := HB.out.size
      have HO := Lib.hid (own_newI w1)
      have hne' : (rootP ((p + 1) % 16777213) k m l != rootP p k m l) = true := by simpa using HNE.out
      clear hp
      go_wp2_with (first
        | (go_at_call 22; ((with_reducible refine (proofRoot_any _ _ _ _ _ _ l _ _ HI.out).mono ?_); rintro e w' ⟨rfl, rfl⟩))
        | (go_at_call 24; refine (specProofRoot_any _ _ _ _ _ _ l _ _ HI.out).mono ?_; rintro e w' ⟨rfl, rfl⟩)
        | (at_builtin; refine wpList_appNIW HO.out (HI.out.alloc (Nat.le_refl _) _) (by decide) (by omega) (by simp) (by first | rfl | simp [Region.wanted, yielded]) _ _ rfl rfl rfl ?_; intro v2 w2 hown hgrow; have HW := Lib.hid hown; have hs2 := Nat.le_trans (show w1.heap.size ≤ (w1.alloc (.cells #[] 3)).heap.size by simp) hgrow.size; have HB2 := Lib.hid (below_own (HB.out.alloc hs1 _) hgrow (by simp; omega) (fun k hk => Nat.le_trans hs1 (HO.out.at k hk))); clear hown hgrow)
        | (at_builtin; refine wpList_appNIW (OwnI.alloc HW.out (.cells #[.int .i64 5] 3)) (Ints.lit w2 5) (by simp; omega) (by omega) (by simp; omega) (by first | rfl | simp [Region.wanted, yielded]) _ _ rfl rfl rfl ?_; intro v3 w3 hown hgrow; have HB3 := Lib.hid (below_own (HB2.out.alloc HB2.out.size (.cells #[.int .i64 5] 3)) hgrow (by have := HB2.out.size; simp; omega) (fun k hk => Nat.le_trans hs1 (HW.out.at k hk))); obtain ⟨y3, m3, c3, rfl, hi3⟩ := hown.ints; have HI3 := Lib.hid hi3; clear hown hgrow hi3)
        | (go_at_call 22; ((with_reducible refine (proofRoot_any _ _ _ _ _ _ ([] ++ l ++ [5]) _ _ HI3.out).mono ?_); rintro e w' ⟨rfl, rfl⟩)))
      go_ret
      exact ⟨ret_bool (by have := HMO.out; simpa using this), HB3.out⟩
theorem fnTreeProof_any (x : Option Addr) (n cap : Nat) (w : World) (h : Bytes w.heap.size w x n) (hn : n ≤ cap) (hc : cap ≤ maxLen) :
    Calls Try.prog 5 #[.slice x n cap] w fun e w' => e = .returned (.bool true) ∧ Below w.heap.size w w' := by
  by_cases hlong : 1048576 < (n : Int)
  · go_enter Try.func5, Try.ntmps5
    go_wp2
    go_ret
    exact ⟨rfl, Below.refl _ _⟩
  · have HB0 := Lib.hid h
    have HC := Lib.hid hc
    have HL := Lib.hid hn
    clear h hc hn
    go_enter Try.func5, Try.ntmps5
    go_wp2_with (go_at_call 18; refine (drawTreeProof_any x n cap w HB0.out HL.out HC.out).mono ?_; rintro e w1 ⟨y, m, c, l, k, rfl, hl, hk0, hk1, hi, hb⟩; have HB := Lib.hid hb; have HI := Lib.hid hi; clear hb hi)
    have HLEN := Lib.hid HI.out.len
    have hm17 : m ≤ 17 := by have := HLEN.out; omega
    have hcm := HI.out.le
    have hcx := HI.out.max
    unfold maxLen at hcx
    have hpl := provB_len l k
    go_wp2_with fail
    refine (treeProof_any _ _ _ l k _ HI.out).mono ?_
    rintro e w2 ⟨v2, rfl, ho2, hb2⟩
    obtain ⟨y2, m2, c2, rfl, hi2⟩ := ho2.ints
    have HI2 := Lib.hid hi2; have HO2 := Lib.hid ho2; have HB2 := Lib.hid (HB.out.trans (hb2.mono HB.out.size)); have HJ2 := Lib.hid ((HI.out.below hb2 (Nat.le_refl _)).more hb2.size); have HLEN2 := Lib.hid hi2.len; clear ho2 hb2 hi2
    have hm24 : m2 ≤ 4 := by have := HLEN2.out; omega
    go_wp2_with fail
    refine (specTreeProof_any _ _ _ l k _ HJ2.out (.inr trivial)).mono ?_
    rintro e w3 ⟨v3, rfl, ho3, hb3⟩
    obtain ⟨y3, m3, c3, rfl, hi3⟩ := ho3.ints
    have HI3 := Lib.hid hi3; have HB3 := Lib.hid (HB2.out.trans (hb3.mono HB2.out.size)); have HJ3 := Lib.hid ((HJ2.out.below hb3 (Nat.le_refl _)).more hb3.size); have HP3 := Lib.hid ((HI2.out.below hb3 (Nat.le_refl _)).more hb3.size); clear ho3 hb3 hi3
    go_wp2_with fail
    refine (sameInts_any _ _ _ _ _ _ _ _ _ _ HP3.out HI3.out).mono ?_
    rintro e w4 ⟨rfl, q4, rfl⟩
    have HB4 := Lib.hid (below_drewN HB3.out q4); have HJ4 := Lib.hid (show Ints (w3.drewN q4) (w3.drewN q4).heap.size y m c l from HJ3.out.keep fun _ _ => rfl); have HP4 := Lib.hid (show Ints (w3.drewN q4) (w3.drewN q4).heap.size y2 m2 c2 (provB l k) from HP3.out.keep fun _ _ => rfl)
    clear HI3
    have hbd := rootB_bd l
    obtain ⟨hbd0, hbd1⟩ := hbd
    go_wp2_with fail
    refine (treeRoot_any _ _ _ l _ HJ4.out).mono ?_
    rintro e w5 ⟨rfl, hb5⟩
    have HB5 := Lib.hid (HB4.out.trans (hb5.mono HB4.out.size)); have HJ5 := Lib.hid ((HJ4.out.below hb5 (Nat.le_refl _)).more hb5.size); have HP5 := Lib.hid ((HP4.out.below hb5 (Nat.le_refl _)).more hb5.size); clear hb5
    by_cases hneg : rootB l < 0
    · have hm1 := rootB_neg hneg
      have hlv : leavesB l = false := by
        cases hl : leavesB l
        · rfl
        · have := (isPr_bd (rootB_isPr hl)).1; omega
      have HZ0 := Lib.hid (show ((m2 : Int) == 0) = true by
        have h1 := provB_no (l := l) (n := k) (.inl hlv)
        have h2 := HLEN2.out
        rw [h1] at h2
        simp only [List.length_nil] at h2
        rw [← h2]; rfl)
      have hz0 := HZ0.out
      go_wp2_with (go_at_call 13; refine (alive_any _).mono ?_; rintro e w' ⟨rfl, rfl⟩)
      go_ret
      exact ⟨rfl, HB5.out⟩
    · have hlv := rootB_pos hneg
      have HLV := Lib.hid hlv; clear hlv
      by_cases hkn : k < 0
      · have HZ0 := Lib.hid (show ((m2 : Int) == 0) = true by
          have h1 := provB_no (l := l) (n := k) (.inr (.inl hkn))
          have h2 := HLEN2.out
          rw [h1] at h2
          simp only [List.length_nil] at h2
          rw [← h2]; rfl)
        have hz0 := HZ0.out
        go_wp2_with (go_at_call 13; refine (alive_any _).mono ?_; rintro e w' ⟨rfl, rfl⟩)
        go_ret
        exact ⟨rfl, HB5.out⟩
      · by_cases hkm : (m : Int) ≤ k
        · have HZ0 := Lib.hid (show ((m2 : Int) == 0) = true by
            have h1 := provB_no (l := l) (n := k) (.inr (.inr (by rw [HLEN.out]; exact hkm)))
            have h2 := HLEN2.out
            rw [h1] at h2
            simp only [List.length_nil] at h2
            rw [← h2]; rfl)
          have hz0 := HZ0.out
          go_wp2_with (go_at_call 13; refine (alive_any _).mono ?_; rintro e w' ⟨rfl, rfl⟩)
          go_ret
          exact ⟨rfl, HB5.out⟩
        · obtain ⟨k, rfl⟩ := Int.eq_ofNat_of_zero_le (show 0 ≤ k by omega)
          have hkl : k < m := by omega
          have HPT := Lib.hid (prov_top (l := l) (n := k) HLV.out (by rw [HLEN.out]; exact hkl))
          have HE1 := Lib.hid (show rootP (nthI l k) (k : Int) (m : Int) (provB l k) = rootB l by have := HPT.out.1; rwa [HLEN.out] at this)
          have HE2 := Lib.hid (show rootP ((nthI l k + 1) % 16777213) (k : Int) (m : Int) (provB l k) ≠ rootB l by have := HPT.out.2; rwa [HLEN.out] at this)
          have hpr := all_nth (leavesB_at HLV.out).1 (k := k) (by rw [HLEN.out]; exact hkl)
          obtain ⟨hp0, hp1⟩ := isPr_bd hpr
          obtain ⟨b, off, rfl, _, hcell⟩ := HJ5.out.at hkl
          clear hpr
          have he1 : (rootP (nthI l k) (k : Int) (m : Int) (provB l k) == rootB l) = true := by simpa using HE1.out
          have he2 : (rootP ((nthI l k + 1) % 16777213) (k : Int) (m : Int) (provB l k) != rootB l) = true := by simpa using HE2.out
          go_wp2_with (go_at_call 22; refine (proofRoot_any _ _ _ _ _ _ (provB l k) _ _ HP5.out).mono ?_; rintro e w' ⟨rfl, rfl⟩)
          go_ret
          exact ⟨rfl, HB5.out⟩
theorem Ints.one {w : World} {B b off m c k : Nat} {l : List Int} (h : Ints w B (some ⟨b, off, none⟩) m c l) (hk : k < m) : Ints w B (some ⟨b, off + k, none⟩) 1 (c - k) [nthI l k] := by
  obtain ⟨b', off', e, hb, hc⟩ := h.at hk
  simp only [Option.some.injEq, Addr.mk.injEq, and_true] at e
  obtain ⟨rfl, rfl⟩ := e
  refine ⟨rfl, by have := h.le; omega, by have := h.max; omega, fun j u hu => ⟨b, off + k, rfl, hb, ?_⟩⟩
  cases j with
  | zero => simp at hu; subst hu; exact hc
  | succ j => simp at hu
theorem cell_below {B b o : Nat} {w w' : World} {v : Value} (hb : Below B w w') (h : w.cell? ⟨b, o, none⟩ = some v) (hlt : b < B) : w'.cell? ⟨b, o, none⟩ = some v := (World.cell?_of_block (w := w) (w' := w') (a := ⟨b, o, none⟩) (hb.block b hlt)).trans h
theorem own_shape {w : World} {base m : Nat} {v : Value} {l : List Int} (h : OwnI w base v l) (hl : l.length = m) (hm : 0 < m) : ∃ g c, v = .slice (some ⟨g, 0, none⟩) m c ∧ base ≤ g ∧ g < w.heap.size ∧ m ≤ c ∧ c ≤ maxLen ∧ w.ownsRow base 3 1 (.slice (some ⟨g, 0, none⟩) m c) m (l.map (Value.int .i64)) := by
  have h' := h
  unfold OwnI at h'
  rw [hl] at h'
  rcases h'.2 with ⟨_, h2⟩ | ⟨g, c, cur, rfl, h1, h2, h3, h4, _⟩
  · omega
  · exact ⟨g, c, rfl, h1, (Array.getElem?_eq_some_iff.1 h2).1, h3, h4, h'⟩
set_option maxHeartbeats 1000000 in
set_option maxRecDepth 100000 in
theorem fnTreeRoot_any (x : Option Addr) (n cap : Nat) (w : World) (h : Bytes w.heap.size w x n) (hn : n ≤ cap) (hc : cap ≤ maxLen) :
    Calls Try.prog 4 #[.slice x n cap] w fun e w' => e = .returned (.bool true) ∧ Below w.heap.size w w' := by
  by_cases hlong : 1048576 < (n : Int)
  · go_enter Try.func4, Try.ntmps4
    go_wp2
    go_ret
    exact ⟨rfl, Below.refl _ _⟩
  · have HB0 := Lib.hid h
    have HC := Lib.hid hc
    have HL := Lib.hid hn
    clear h hc hn
    go_enter Try.func4, Try.ntmps4
    go_wp2_with (go_at_call 15; refine (drawTreeRoot_any x n cap w HB0.out HL.out HC.out).mono ?_; rintro e w1 ⟨v, l, rfl, hl, ho, hb⟩; obtain ⟨y, m, c, rfl, hi⟩ := ho.ints; have HB := Lib.hid hb; have HI := Lib.hid hi; clear hb hi ho)
    have HLEN := Lib.hid HI.out.len
    have hm17 : m ≤ 17 := by have := HLEN.out; omega
    have hcm := HI.out.le
    have hcx := HI.out.max
    unfold maxLen at hcx
    have hbd := rootB_bd l
    obtain ⟨hbd0, hbd1⟩ := hbd
    go_wp2_with fail
    refine (treeRoot_any _ _ _ l _ HI.out).mono ?_
    rintro e w2 ⟨rfl, hb2⟩
    have HB2 := Lib.hid (HB.out.trans (hb2.mono HB.out.size)); have HI2 := Lib.hid ((HI.out.below hb2 (Nat.le_refl _)).more hb2.size); clear hb2
    go_wp2_with fail
    refine (specTreeRoot_any _ _ _ l _ HI2.out).mono ?_
    rintro e w3 ⟨rfl, hb3⟩
    have HB3 := Lib.hid (HB2.out.trans (hb3.mono HB2.out.size)); have HI3 := Lib.hid ((HI2.out.below hb3 (Nat.le_refl _)).more hb3.size); clear hb3
    by_cases hneg : rootB l < 0
    · have hm1 := rootB_neg hneg
      go_wp2_with (go_at_call 13; refine (alive_any _).mono ?_; rintro e w' ⟨rfl, rfl⟩)
      go_ret
      exact ⟨rfl, HB3.out⟩
    · have HLV := Lib.hid (rootB_pos hneg)
      go_wp2
      go_loopw [5, 6] (fun i _ wr => ∃ k : Nat, k ≤ m ∧ i = .int .i64 k ∧ Ints wr wr.heap.size y m c l ∧ Below w.heap.size w wr) (fun i _ _ => m - (intOf i).toNat)
      case atStart => exact ⟨0, by omega, rfl, HI3.out, HB3.out⟩
      case round =>
        obtain ⟨k, hk, rfl, hi, hb⟩ := hrel
        have HIr := Lib.hid hi; have HBr := Lib.hid hb; clear hi hb
        by_cases hlt : k < m
        · have hszr := HBr.out.size
          have hpr := all_nth (leavesB_at HLV.out).1 (k := k) (by rw [HLEN.out]; exact hlt)
          have HPR := Lib.hid hpr
          obtain ⟨hp0, hp1⟩ := isPr_bd hpr
          clear hpr
          have HNE := Lib.hid (root_ne (k := k) HLV.out (by rw [HLEN.out]; exact hlt))
          have HON := Lib.hid (root_one HPR.out)
          have HO := Lib.hid (own_newI wr)
          go_wp2_with (at_builtin; refine wpList_appNI HO.out (HIr.out.alloc (Nat.le_refl _) _) (by decide) (by omega) (by simp) rfl _ _ rfl rfl rfl ?_; intro v2 w4 hown hgrow; obtain ⟨g, c2, rfl, hgb, hgl, hc2, hc2x, hrow⟩ := own_shape (m := m) (show OwnI w4 wr.heap.size v2 l from hown) HLEN.out (by omega); have HROW := Lib.hid hrow; have HBa := Lib.hid (below_own ((Below.refl wr.heap.size wr).alloc (Nat.le_refl _) _) hgrow (by simp) HO.out.at); have HI4 := Lib.hid (HIr.out.below HBa.out (Nat.le_refl _)); obtain ⟨b, off, rfl, hbb, hcell⟩ := HI4.out.at hlt; have hf := hrow.frozenAt k; have hz := hrow.cellAt k (by omega); rw [List.getElem?_map, nthI_some (by rw [HLEN.out]; exact hlt)] at hz; simp only [Option.map_some] at hz; have HST := Lib.hid (hrow.stored k (.int .i64 ((nthI l k + 1) % 16777213))); have hbg : b ≠ g := (by omega); clear hown hgrow hrow)
          have HO5 := Lib.hid (show OwnI (w4.setCell ⟨g, k, none⟩ (.int .i64 ((nthI l k + 1) % 16777213))) wr.heap.size (.slice (some ⟨g, 0, none⟩) m c2) (l.set k ((nthI l k + 1) % 16777213)) by
            have := HST.out.1
            unfold OwnI
            rw [List.length_set, HLEN.out, List.map_set]
            exact this)
          have HBb := Lib.hid (show Below wr.heap.size wr (w4.setCell ⟨g, k, none⟩ (.int .i64 ((nthI l k + 1) % 16777213))) from HBa.out.setCell (p := ⟨g, k, none⟩) hgb _)
          have HI5 := Lib.hid (HIr.out.below HBb.out (Nat.le_refl _))
          clear hz hf hcell
          generalize hW5 : w4.setCell ⟨g, k, none⟩ (.int .i64 ((nthI l k + 1) % 16777213)) = W5 at *
          clear HST hW5
          have hcell5 : W5.cell? ⟨b, off + k, none⟩ = some (.int .i64 (nthI l k)) := by
            obtain ⟨b', off', e, _, h5⟩ := HI5.out.at hlt
            simp only [Option.some.injEq, Addr.mk.injEq, and_true] at e
            obtain ⟨rfl, rfl⟩ := e
            exact h5
          have HI5o := Lib.hid (show Ints W5.drew W5.drew.heap.size (some ⟨g, 0, none⟩) m c2 (l.set k ((nthI l k + 1) % 16777213)) from HO5.out.ints'.drew)
          have HI5d := Lib.hid (show Ints W5.drew wr.heap.size (some ⟨b, off, none⟩) m c l from HI5.out.drew)
          have HBd := Lib.hid (below_drewN HBb.out 1)
          have hne : (rootB (l.set k ((nthI l k + 1) % 16777213)) == rootB l) = false := by simpa using HNE.out
          have hkc : ¬ c = k := by omega
          have hs0 : (0 : Int) ≤ (k : Int) + 1 := by omega
          have hs3 : (k : Int) + 1 ≤ (c : Int) := by omega
          have hs4 : (k : Int) ≤ (k : Int) + 1 := by omega
          have hs1 : IntKind.i64.wrap ((k : Int) + 1) = (k : Int) + 1 := IntWalk.i64_in _ (by omega)
          have hs2 : ((k : Int) + 1).toNat = k + 1 := by omega
          have hon := HON.out
          have HBB := Lib.hid (show b < W5.drew.heap.size from Nat.lt_of_lt_of_le hbb HBd.out.size)
          have HC5 := Lib.hid (show W5.drew.cell? ⟨b, off + k, none⟩ = some (.int .i64 (nthI l k)) from hcell5)
          clear hcell5
          -- REGION 14
          clear hne hs1 hs2 hon
          have HNEQ := Lib.hid (show (rootB (l.set k ((nthI l k + 1) % 16777213)) == rootB l) = false by simpa using HNE.out)
          have HIO := Lib.hid (show Ints W5.drew W5.drew.heap.size (some ⟨g, 0, none⟩) m c2 (l.set k ((nthI l k + 1) % 16777213)) from HI5o.out)
          have HII := Lib.hid (HI5d.out.more HBd.out.size)
          have hGe : ∀ (L L' : Nat → Bool) w', (∀ j, j < 17 → L j = L' j) → Below W5.drew.heap.size W5.drew w' → Below W5.drew.heap.size W5.drew w' := fun _ _ _ _ h => h
          have HGE := Lib.hid hGe; clear hGe
          refine region_vals (fun _ w' => Below W5.drew.heap.size W5.drew w') (fun j => match j with | 0 => .slice (some ⟨g, 0, none⟩) m c2 | 1 => .int .i64 (rootB (l.set k ((nthI l k + 1) % 16777213))) | 2 => .int .i64 (rootB l) | 3 => .bool false | 4 => .bool false | 5 => .slice (some ⟨b, off, none⟩) m c | 6 => .int .i64 (k : Int) | 7 => .int .i64 (k : Int) | 8 => .int .i64 ((k : Int) + 1) | 9 => .slice (some ⟨b, off + k, none⟩) 1 (c - k) | 10 => .int .i64 (nthI l k) | 11 => .slice (some ⟨b, off, none⟩) m c | 12 => .int .i64 (k : Int) | 13 => .pointer (some ⟨b, off + k, none⟩) | 14 => .int .i64 (nthI l k) | 15 => .bool false | _ => .bool false) (by kernel_rfl) (by kernel_rfl) (by kernel_rfl) (Below.refl _ _) ?_ ?_ HGE.out
          · refine ⟨?_, ?_, ?_, ?_, ?_, ?_, ?_, ?_, ?_, ?_, ?_, ?_, ?_, ?_, ?_, ?_, ?_, trivial⟩
            · intro L aa ww hV hA hG hl hd K hK
              have HK := Lib.hid hK; have HG := Lib.hid hG; clear hK hG hl
              have k6 := hA 6 (.slice (some ⟨g, 0, none⟩) m c2) rfl rfl
              clear hV hA hd
              go_simp
              exact HK.out _ _ ⟨rfl, HG.out⟩
            · intro L aa ww hV hA hG hl hd K hK
              have HK := Lib.hid hK; have HG := Lib.hid hG; clear hK hG hl
              have v43 := hV 0 _ 43 rfl rfl rfl (by have h := hd; simp [Region.binds] at h; simp [h])
              clear hV hA hd
              go_simp
              go_at_call 16
              refine (treeRoot_any _ _ _ (l.set k ((nthI l k + 1) % 16777213)) ww (HIO.out.below HG.out (Nat.le_refl _) |>.more HG.out.size)).mono ?_
              rintro e w6 ⟨rfl, hb6⟩
              exact HK.out _ _ ⟨rfl, HG.out.trans (hb6.mono HG.out.size)⟩
            · intro L aa ww hV hA hG hl hd K hK
              have HK := Lib.hid hK; have HG := Lib.hid hG; clear hK hG hl
              have k4 := hA 4 (.int .i64 (rootB l)) rfl rfl
              clear hV hA hd
              go_simp
              exact HK.out _ _ ⟨rfl, HG.out⟩
            · intro L aa ww hV hA hG hl hd K hK
              have HK := Lib.hid hK; have HG := Lib.hid hG; clear hK hG hl
              have v44 := hV 1 _ 44 rfl rfl rfl (by have h := hd; simp [Region.binds] at h; simp [h])
              have v45 := hV 2 _ 45 rfl rfl rfl (by have h := hd; simp [Region.binds] at h; simp [h])
              clear hV hA hd
              have hne := HNEQ.out
              go_simp
              exact HK.out _ _ ⟨rfl, HG.out⟩
            · intro L aa ww hV hA hG hl hd K hK
              have HK := Lib.hid hK; have HG := Lib.hid hG; clear hK hG hl
              have v46 := hV 3 _ 46 rfl rfl rfl (by have h := hd; simp [Region.binds] at h; simp [h])
              clear hV hA hd
              go_simp
              exact HK.out _ _ ⟨rfl, HG.out⟩
            · intro L aa ww hV hA hG hl hd K hK
              have HK := Lib.hid hK; have HG := Lib.hid hG; clear hK hG hl
              have v47 := hV 4 _ 47 rfl rfl rfl (by have h := hd; simp [Region.binds] at h; simp [h])
              have k3 := hA 3 (.slice (some ⟨b, off, none⟩) m c) rfl rfl
              clear hV hA hd
              go_simp
              exact HK.out _ _ ⟨rfl, HG.out⟩
            · intro L aa ww hV hA hG hl hd K hK
              have HK := Lib.hid hK; have HG := Lib.hid hG; clear hK hG hl
              have v47 := hV 4 _ 47 rfl rfl rfl (by have h := hd; simp [Region.binds] at h; simp [h])
              have k5 := hA 5 (.int .i64 (k : Int)) rfl rfl
              clear hV hA hd
              go_simp
              exact HK.out _ _ ⟨rfl, HG.out⟩
            · intro L aa ww hV hA hG hl hd K hK
              have HK := Lib.hid hK; have HG := Lib.hid hG; clear hK hG hl
              have v47 := hV 4 _ 47 rfl rfl rfl (by have h := hd; simp [Region.binds] at h; simp [h])
              have k5 := hA 5 (.int .i64 (k : Int)) rfl rfl
              clear hV hA hd
              go_simp
              exact HK.out _ _ ⟨rfl, HG.out⟩
            · intro L aa ww hV hA hG hl hd K hK
              have HK := Lib.hid hK; have HG := Lib.hid hG; clear hK hG hl
              have v50 := hV 7 _ 50 rfl rfl rfl (by have h := hd; simp [Region.binds] at h; simp [h])
              have v47 := hV 4 _ 47 rfl rfl rfl (by have h := hd; simp [Region.binds] at h; simp [h])
              clear hV hA hd
              have hs1 : IntKind.i64.wrap ((k : Int) + 1) = (k : Int) + 1 := IntWalk.i64_in _ (by omega)
              go_simp
              exact HK.out _ _ ⟨rfl, HG.out⟩
            · intro L aa ww hV hA hG hl hd K hK
              have HK := Lib.hid hK; have HG := Lib.hid hG; clear hK hG hl
              have v48 := hV 5 _ 48 rfl rfl rfl (by have h := hd; simp [Region.binds] at h; simp [h])
              have v49 := hV 6 _ 49 rfl rfl rfl (by have h := hd; simp [Region.binds] at h; simp [h])
              have v51 := hV 8 _ 51 rfl rfl rfl (by have h := hd; simp [Region.binds] at h; simp [h])
              have v47 := hV 4 _ 47 rfl rfl rfl (by have h := hd; simp [Region.binds] at h; simp [h])
              clear hV hA hd
              have hs2 : ((k : Int) + 1).toNat = k + 1 := by omega
              have hs5 : k + 1 - k = 1 := by omega
              go_simp
              exact HK.out _ _ ⟨rfl, HG.out⟩
            · intro L aa ww hV hA hG hl hd K hK
              have HK := Lib.hid hK; have HG := Lib.hid hG; clear hK hG hl
              have v52 := hV 9 _ 52 rfl rfl rfl (by have h := hd; simp [Region.binds] at h; simp [h])
              have v47 := hV 4 _ 47 rfl rfl rfl (by have h := hd; simp [Region.binds] at h; simp [h])
              clear hV hA hd
              go_simp
              go_at_call 16
              refine (treeRoot_any _ _ _ [nthI l k] ww (Ints.one (HII.out.below HG.out (Nat.le_refl _) |>.more HG.out.size) hlt)).mono ?_
              rintro e w6 ⟨rfl, hb6⟩
              rw [HON.out]
              exact HK.out _ _ ⟨rfl, HG.out.trans (hb6.mono HG.out.size)⟩
            · intro L aa ww hV hA hG hl hd K hK
              have HK := Lib.hid hK; have HG := Lib.hid hG; clear hK hG hl
              have v47 := hV 4 _ 47 rfl rfl rfl (by have h := hd; simp [Region.binds] at h; simp [h])
              have k3 := hA 3 (.slice (some ⟨b, off, none⟩) m c) rfl rfl
              clear hV hA hd
              go_simp
              exact HK.out _ _ ⟨rfl, HG.out⟩
            · intro L aa ww hV hA hG hl hd K hK
              have HK := Lib.hid hK; have HG := Lib.hid hG; clear hK hG hl
              have v47 := hV 4 _ 47 rfl rfl rfl (by have h := hd; simp [Region.binds] at h; simp [h])
              have k5 := hA 5 (.int .i64 (k : Int)) rfl rfl
              clear hV hA hd
              go_simp
              exact HK.out _ _ ⟨rfl, HG.out⟩
            · intro L aa ww hV hA hG hl hd K hK
              have HK := Lib.hid hK; have HG := Lib.hid hG; clear hK hG hl
              have v54 := hV 11 _ 54 rfl rfl rfl (by have h := hd; simp [Region.binds] at h; simp [h])
              have v55 := hV 12 _ 55 rfl rfl rfl (by have h := hd; simp [Region.binds] at h; simp [h])
              have v47 := hV 4 _ 47 rfl rfl rfl (by have h := hd; simp [Region.binds] at h; simp [h])
              clear hV hA hd
              go_simp
              exact HK.out _ _ ⟨rfl, HG.out⟩
            · intro L aa ww hV hA hG hl hd K hK
              have HK := Lib.hid hK; have HG := Lib.hid hG; clear hK hG hl
              have v56 := hV 13 _ 56 rfl rfl rfl (by have h := hd; simp [Region.binds] at h; simp [h])
              have v47 := hV 4 _ 47 rfl rfl rfl (by have h := hd; simp [Region.binds] at h; simp [h])
              clear hV hA hd
              have hcell := cell_below HG.out HC5.out HBB.out
              go_simp
              exact HK.out _ _ ⟨rfl, HG.out⟩
            · intro L aa ww hV hA hG hl hd K hK
              have HK := Lib.hid hK; have HG := Lib.hid hG; clear hK hG hl
              have v53 := hV 10 _ 53 rfl rfl rfl (by have h := hd; simp [Region.binds] at h; simp [h])
              have v57 := hV 14 _ 57 rfl rfl rfl (by have h := hd; simp [Region.binds] at h; simp [h])
              have v47 := hV 4 _ 47 rfl rfl rfl (by have h := hd; simp [Region.binds] at h; simp [h])
              clear hV hA hd
              go_simp
              exact HK.out _ _ ⟨rfl, HG.out⟩
            · intro L aa ww hV hA hG hl hd K hK
              have HK := Lib.hid hK; have HG := Lib.hid hG; clear hK hG hl
              have v58 := hV 15 _ 58 rfl rfl rfl (by have h := hd; simp [Region.binds] at h; simp [h])
              have v47 := hV 4 _ 47 rfl rfl rfl (by have h := hd; simp [Region.binds] at h; simp [h])
              clear hV hA hd
              go_simp
              exact HK.out _ _ ⟨rfl, HG.out⟩
          · intro w6 hG
            have HB6 := Lib.hid (HBr.out.trans (HBd.out.trans (hG.mono HBd.out.size) |>.mono hszr))
            have HI6 := Lib.hid (HI5d.out.below hG HBd.out.size)
            have hsz6 := HBd.out.trans (hG.mono HBd.out.size) |>.size
            clear hG
            simp only [frameOf, Act.put, List.setIfInBounds_toArray, List.set_cons_succ, List.set_cons_zero]
            go_wp2
            go_roundw
            case rel => exact ⟨k + 1, by omega, by go_num, HI6.out.more hsz6, HB6.out⟩
            case measure => simp [intOf]; omega
        · go_wp2
          go_ret
          exact ⟨rfl, HBr.out⟩
end Go.Proofs.Ytlbebbkkpjgboaa
