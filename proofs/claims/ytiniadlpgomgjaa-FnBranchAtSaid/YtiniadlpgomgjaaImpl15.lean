/-
  Contracts of chapter 15's program: branches are copied, sought, put in and taken out.
-/
import Derived.Test.YtiniadlpgomgjaaModel15b
import Derived.Test.YtiniadlpgomgjaaHelp
import Derived.Test.YtiniadlpgomgjaaFold3
namespace Go.Proofs.Ytiniadlpgomgjaa
open Go.RowKit
set_option linter.unusedVariables false
/-- An entry and its copy. -/
theorem copyBranch_any (p : Ent) (w : World) (hz : p.1.size ≤ 2000000) : Calls Try.prog 43 #[.agg #[.string p.1, .int .i64 p.2]] w fun e w' => e = .returned (.agg #[.string p.1, .int .i64 p.2]) ∧ Below w.heap.size w w' := by
  have hlay : ∀ w2, Below ((w.alloc (.cells #[.string p.1, .int .i64 p.2] 29)).alloc (.cells #[.string ⟨#[]⟩, .int .i64 0] 29)).drew.heap.size ((w.alloc (.cells #[.string p.1, .int .i64 p.2] 29)).alloc (.cells #[.string ⟨#[]⟩, .int .i64 0] 29)).drew w2 →
      w2.heap[w.heap.size]? = some (.cells #[.string p.1, .int .i64 p.2] 29 (0, 0)) ∧ w2.heap[w.heap.size + 1]? = some (.cells #[.string ⟨#[]⟩, .int .i64 0] 29 (0, 0)) ∧ Below w.heap.size w w2 := fun w2 hb => by
    have e0 : ((w.alloc (.cells #[.string p.1, .int .i64 p.2] 29)).alloc (.cells #[.string ⟨#[]⟩, .int .i64 0] 29)).drew.heap.size = w.heap.size + 2 := by simp [World.drew]
    refine ⟨(hb.block _ (by omega)).trans ?_, (hb.block _ (by omega)).trans ?_, ?_⟩
    · show ((w.alloc _).alloc _).heap[w.heap.size]? = _
      rw [Below.heap_alloc _ _ _ (by simp), heap_alloc_new]
    · show ((w.alloc _).alloc _).heap[w.heap.size + 1]? = _
      have := heap_alloc_new (w.alloc (.cells #[.string p.1, .int .i64 p.2] 29)) (.cells #[.string ⟨#[]⟩, .int .i64 0] 29)
      simpa using this
    · exact below_drewn (((Below.refl _ _).alloc (Nat.le_refl _) _).alloc (by simp) _) hb (by simp; omega)
  have HLAY := Lib.hid hlay
  clear hlay
  go_enter Try.func43, Try.ntmps43
  go_wp2
  go_region_with (go_at_call 54; refine (cloneN_any _ _ hz).mono ?_; rintro e w2 ⟨rfl, hb2⟩; obtain ⟨h1, h2, h3⟩ := HLAY.out _ hb2; obtain ⟨c0, c1, f0, f1⟩ := two_at h1; obtain ⟨d0, d1, g0, g1⟩ := two_at h2; have HB2 := Lib.hid h3; clear hb2 h1 h2 h3)
  all_goals
    go_wp2
    refine bodyPost_ret (v := .agg #[.string p.1, .int .i64 p.2]) ?_ rfl ⟨rfl, (HB2.out.setCell (p := ⟨w.heap.size + 1, 0, none⟩) (by simp) _).setCell (p := ⟨w.heap.size + 1, 1, none⟩) (by simp) _⟩
    simp [results, Try.results43, go_sem, d0, d1]
theorem copyBranches_any (x : Option Addr) (n cap : Nat) (l : List Ent) (B : Nat) (w : World) (h : Ents w B x n cap l) (hB : B ≤ w.heap.size) (hz : ∀ k, (nthE l k).1.size ≤ 2000000) (hn : n ≤ 1000000) : Calls Try.prog 40 #[.slice x n cap] w (NewBr l w) := by
  have HL := Lib.hid h.len
  have HH := Lib.hid h
  have HZ := Lib.hid hz
  have hmx := h.max
  have hle := h.le
  clear h hz
  unfold maxLen at hmx
  go_enter Try.func40, Try.ntmps40
  go_wp2
  go_loopw [3, 5, 8] (fun v _ i wr => ∃ k : Nat, k ≤ n ∧ i = .int .i64 k ∧ OwnBr wr w.heap.size v (l.take k) ∧ Below w.heap.size w wr) (fun _ _ i _ => n - (intOf i).toNat)
  case atStart => exact ⟨0, by omega, rfl, OwnL.nil _ _ _ _ _, Below.refl _ _⟩
  case round =>
    obtain ⟨k, hk, rfl, ho, hb⟩ := hrel
    have HO := Lib.hid ho; have HB := Lib.hid hb; clear ho hb
    have hsz := HB.out.size
    by_cases hlt : k < n
    · obtain ⟨b0, off, rfl, hb0, hc0, hc1⟩ := (HH.out.below HB.out hB).atE hlt
      have HT := Lib.hid (take_snocE (l := l) (k := k) (by have := HL.out; omega))
      have hlen : (l.take k).length ≤ 2000000 := by rw [List.length_take]; omega
      have hzk := HZ.out k
      obtain ⟨q, hq⟩ : ∃ q, q = nthE l k := ⟨_, rfl⟩
      rw [← hq] at hc0 hc1 hzk HT
      clear hq
      go_wp2_with (first
        | (go_at_call 43; refine (copyBranch_any q _ hzk).mono ?_; rintro e w2 ⟨rfl, hb2⟩; have HO2 := Lib.hid ((HO.out.alloc (.cells #[.string q.1, .int .i64 q.2] 29)).below hb2); have HB2 := Lib.hid ((HB.out.alloc hsz (.cells #[.string q.1, .int .i64 q.2] 29)).trans (hb2.mono (by simp; omega))); have hsz2 := HB2.out.size; clear hb2)
        | (at_builtin; refine wpList_app1L eltBr encEn q _ rfl HO2.out hlen hsz2 rfl _ _ rfl rfl rfl ?_; intro v' w' hown hgrow; have HW := Lib.hid hown; have HG := Lib.hid hgrow; clear hown hgrow))
      go_roundw
      case rel => exact ⟨k + 1, by omega, by go_num, by rw [HT.out]; exact HW.out, HB2.out.grown HG.out hsz2 HO2.out.at⟩
      case measure => simp [intOf]; omega
    · have HX := Lib.hid (show l.take k = l from List.take_of_length_le (by have := HL.out; omega))
      go_wp2
      go_ret
      exact ⟨_, rfl, by rw [← HX.out]; exact HO.out, HB.out⟩
theorem overlapsBr_no (w : World) (a b : Addr) (la ca lb cb : Nat) (hne : a.block ≠ b.block) (cs1 cs2 : Array Value) (h1 : w.heap[a.block]? = some (.cells cs1 29 (0, 0))) (h2 : w.heap[b.block]? = some (.cells cs2 29 (0, 0))) (hz : cs2.size ≠ 0) :
    (callFunc 52 #[.slice (some a) la ca, .slice (some b) lb cb]).run Try.prog w = .ok (.value (.bool false)) w := by
  obtain ⟨i, hi, _, hsz, _⟩ := eltBr.info
  rw [run_callFunc_extern Try.func52 (by kernel_rfl) (by kernel_rfl) (by kernel_rfl) (e := Extern.SlicesOverlaps.overlaps #[23, 23] #[4]) (by kernel_rfl),
    Lib.run_overlaps_apart w 23 4 29 eltBr.und 2 (fun w => by simp [sizeOf, typeInfo, hi, hsz]) a b la ca lb cb hne 29 29 cs1.size cs2.size (by simp [World.shape?, h1]) (by simp [World.shape?, h2]) hz (by simp [World.frozen?, h1]) (by simp [World.frozen?, h1])]
  rfl
/-- What putting an element in leaves. -/
def PutInBr (l : List Ent) (base : Nat) (w : World) (e : Ending) (w' : World) : Prop := ∃ v', e = .returned v' ∧ OwnBr w' base v' l ∧ Below base w w'
theorem own_partsBr {w : World} {base n cap : Nat} {x : Option Addr} {l : List Ent} (h : OwnBr w base (.slice x n cap) l) (hn : 0 < n) : ∃ g cur, x = some ⟨g, 0, none⟩ ∧ base ≤ g ∧ RowIs w g 29 cur ∧ l.length = n ∧ n ≤ cap ∧ cap ≤ maxLen ∧ cur.length = cap * 2 ∧ cur.take (n * 2) = l.flatMap enG := by
  obtain ⟨hl, h2⟩ := h
  rcases h2 with ⟨e, e'⟩ | ⟨g, cap', cur, e, hb, hg, hle, hm, hs, ht⟩
  · simp only [Value.slice.injEq] at e; omega
  · simp only [Value.slice.injEq] at e
    obtain ⟨rfl, rfl, rfl⟩ := e
    exact ⟨g, cur.toList, rfl, hb, by unfold RowIs; rw [Array.toArray_toList]; exact hg, rfl, hle, hm, by rw [Array.length_toList]; exact hs, ht⟩
set_option maxHeartbeats 4000000 in
set_option maxRecDepth 100000 in
theorem insertBr_any (x : Option Addr) (n cap k kE base : Nat) (l : List Ent) (q : Ent) (w : World) (ho : OwnBr w base (.slice x n cap) l) (hl : l.length = n) (hE : OneAt enG 29 w kE q) (hne : (Value.slice x n cap).ownBlock ≠ some kE) (hk : k ≤ n) (hn : n ≤ 1000) (hbase : base ≤ w.heap.size) :
    Calls Try.prog 42 #[.slice x n cap, .int .i64 k, .slice (some ⟨kE, 0, none⟩) 1 1] w (PutInBr (l.take k ++ q :: l.drop k) base w) := by
  have hlst := ho.lst'
  have hle := hlst.le
  have hmx := hlst.max
  clear hlst
  unfold maxLen at hmx
  by_cases hkn : k = n
  · subst hkn
    have HF := Lib.hid (show l.take k ++ q :: l.drop k = l ++ [q] by rw [List.take_of_length_le (by omega), List.drop_of_length_le (by omega)])
    have HO := Lib.hid ho
    have HE := Lib.hid hE
    have hln : l.length ≤ 2000000 := by omega
    clear hl hE hne ho
    go_enter Try.func42, Try.ntmps42
    go_wp2_with (at_builtin; refine wpList_appL eltBr encEn HO.out HE.out.lst hln (by decide) hbase rfl _ _ rfl rfl rfl ?_; intro v' w' hown hgrow hat; have HOWN := Lib.hid hown; have HGR := Lib.hid hgrow; clear hown hgrow hat)
    all_goals
      go_ret
      exact ⟨_, rfl, by rw [HF.out]; exact HOWN.out, (Below.refl _ _).grown HGR.out hbase (fun j e => HO.out.at j e)⟩
  · obtain ⟨g, cur, rfl, hg, hrow, _, _, _, hcl, hct⟩ := own_partsBr ho (by omega)
    have hkn' : k < n := by omega
    have htl : ((l.drop k).flatMap enG).length = (n - k) * 2 := by rw [encEn.length, List.length_drop, hl]
    have hcur : ∀ j u, (l.flatMap enG)[j]? = some u → cur[j]? = some u := fun j u h1 => by
      rw [← hct, List.getElem?_take] at h1
      split at h1
      · exact h1
      · cases h1
    have hcurD : ∀ j u, ((l.drop k).flatMap enG)[j]? = some u → cur[k * 2 + j]? = some u := fun j u hj => hcur _ _ (by
      rw [← List.getElem?_drop, flat_drop encEn]; exact hj)
    have hcurT : ∀ j u, ((l.take k).flatMap enG)[j]? = some u → cur[j]? = some u := fun j u hj => hcur _ _ (by
      have h2 : l.flatMap enG = (l.take k).flatMap enG ++ (l.drop k).flatMap enG := by rw [← List.flatMap_append, List.take_append_drop]
      rw [h2, List.getElem?_append_left (List.getElem?_eq_some_iff.1 hj).1]; exact hj)
    have HROW := Lib.hid hrow
    have mixed : Try.prog.follows Departure.mixedOrders = true := by kernel_rfl
    have hw1 : IntKind.i64.wrap ((k : Int) + 1) = (k : Int) + 1 := by rw [IntKind.wrap_i64]; omega
    have htn : ((k : Int) + 1).toNat = k + 1 := by omega
    have h11 := encEn.oneAll (l.drop k)
    have h12 := encEn.one q
    have hz2 : ¬ ((k : Int) = (n : Int)) := by omega
    have hb4 : ¬ (cap = k) := by omega
    have hb5 : (0 : Int) ≤ (k : Int) + 1 := by omega
    obtain ⟨cs1, hc1, hE1⟩ := hE
    have hgE : kE ≠ g := fun e => hne (by rw [e]; rfl)
    have hb6 : k ≤ n := hk
    by_cases hroom : cap < n + 1
    · have hz3 : (cap : Int) < (n : Int) + 1 := by omega
      have hb3 : (k : Int) ≤ (n : Int) := by omega
      have HKK := Lib.hid (show (n : Int) + 1 - (k : Int) = ((n + 1 - k : Nat) : Int) by omega)
      have htl0 : ((l.take k).flatMap enG).length = k * 2 := by rw [encEn.length, List.length_take, Nat.min_eq_left (by omega)]
      have hold : ∀ j v, ((l.take k).flatMap enG)[j]? = some v → w.cell? ((⟨g, 0, none⟩ : Addr).add j) = some v := fun j v hj => by
        rw [addr_add, Nat.zero_add]; exact RowIs.cell HROW.out (hcurT j v hj)
      have hkpos : 0 < n + 1 - k := by omega
      have hroomZ : cap < k + (n + 1 - k) := by omega
      have hsumZ : k + (n + 1 - k) ≤ 2000000 := by omega
      have hgw : g < w.heap.size := (Array.getElem?_eq_some_iff.1 hrow).1
      have hkw : kE < w.heap.size := (Array.getElem?_eq_some_iff.1 hE1).1
      have HTL := Lib.hid htl; have HTL0 := Lib.hid htl0; have HOLD := Lib.hid hold; have HCD := Lib.hid hcurD
      have hik : k + (n + 1 - k) = n + 1 := by omega
      have hgN : g ≠ w.heap.size := by omega
      have hkN : kE ≠ w.heap.size := by omega
      have HS2 := Lib.hid (show ∀ W : World, W.heap[kE]? = w.heap[kE]? → ∀ j v, (enG q)[j]? = some v → W.cell? ((⟨kE, 0, none⟩ : Addr).add j) = some v from fun W hW j v hj => by
        rw [addr_add, Nat.zero_add, cell_of_row W kE j cs1 29 (0, 0) (hW.trans hE1)]
        rw [← hc1] at hj; simpa using hj)
      have HS3 := Lib.hid (show ∀ W : World, W.heap[g]? = w.heap[g]? → ∀ j v, ((l.drop k).flatMap enG)[j]? = some v → W.cell? ((⟨g, k * 2, none⟩ : Addr).add j) = some v from fun W hW j v hj => by
        rw [addr_add]; exact RowIs.cell (show RowIs W g 29 cur from hW.trans HROW.out) (hcurD j v hj))
      have HFIN := Lib.hid (show ∀ (rest : List Value) (G : Nat) (w' : World), rest.length = (G - k) * 2 → n + 1 ≤ G → G ≤ maxLen → RowIs w' w.heap.size 29 (laid (laid ((l.take k).flatMap enG ++ rest) (k * 2) (enG q)) ((k + 1) * 2) ((l.drop k).flatMap enG)) → OwnBr w' base (.slice (some ⟨w.heap.size, 0, none⟩) (n + 1) G) (l.take k ++ q :: l.drop k) from fun rest G w' hr hG hGm hrow' => by
        obtain ⟨A, X, Y, Z, hL, hAt, hA, hX, hY⟩ := parts4 ((l.take k).flatMap enG ++ rest) (k * 2) 2 ((n - k) * 2) (by rw [List.length_append, htl0, hr]; omega)
        have hAl : A = (l.take k).flatMap enG := by rw [hAt, List.take_left' htl0]
        have hfin : laid (laid ((l.take k).flatMap enG ++ rest) (k * 2) (enG q)) ((k + 1) * 2) ((l.drop k).flatMap enG) = A ++ enG q ++ (l.drop k).flatMap enG ++ Z := by
          rw [hL]; exact laid_head hA (by omega) (by rw [hX]; rfl) (by rw [htl, hY])
        have hLl := congrArg List.length hL
        simp only [List.length_append, htl0, hr, hA, hX, hY] at hLl
        refine ⟨by rw [encEn.length], .inr ⟨w.heap.size, G, _, ?_, hbase, hrow', by simp; omega, hGm, ?_, ?_⟩⟩
        · simp; omega
        · rw [hfin]; simp [hA, htl, enG]; omega
        · rw [hfin, hAl]
          have e : (l.take k ++ q :: l.drop k).flatMap enG = (l.take k).flatMap enG ++ enG q ++ (l.drop k).flatMap enG := by rw [List.flatMap_append, List.flatMap_cons, List.append_assoc]
          rw [e]
          refine List.take_left' ?_
          rw [← e, encEn.length])
      have hn2 : (enG q).length = Nat.min 1 (n + 1 - k) * 2 := by show 2 = min 1 (n + 1 - k) * 2; omega
      have hn3 : ((l.drop k).flatMap enG).length = Nat.min (n - k) (n + 1 - (k + 1)) * 2 := by rw [htl]; show _ = min (n - k) (n + 1 - (k + 1)) * 2; omega
      clear htl htl0 hold hcurD hcurT hcur hrow hct ho hne
      go_enter Try.func42, Try.ntmps42
      go_wp2_with (first
        | (at_builtin; refine wpList_appZ eltBr Try.underlying3 (x := ⟨g, 0, none⟩) (m := k) (c := cap) (k := n + 1 - k) HTL0.out HOLD.out hkpos hroomZ hsumZ HKK.out rfl _ _ rfl rfl rfl ?_; intro w1 G rest hr1 hlr hGn hGm hg1; rw [hik] at hGn; rw [hik]; have HR1 := Lib.hid hr1; have HG1 := Lib.hid hg1; have HLR := Lib.hid hlr; have hG1 : ¬ (G = k) := (by omega); have hG2 : ¬ (G = k + 1) := (by omega); have HGM := Lib.hid hGm; have hsrc2 := HS2.out w1 (HG1.out.block kE hkw (by simp)); have hfit2 : k * 2 + (enG q).length ≤ ((l.take k).flatMap enG ++ rest).length := (by rw [List.length_append, HTL0.out, HLR.out]; show k * 2 + 2 ≤ _; omega); clear hr1 hlr hGm hg1)
        | (refine wpList_copyK eltBr (g := w.heap.size) (off := k * 2) (dLen := n + 1 - k) (sLen := 1) (ad := ⟨kE, 0, none⟩) (cs := enG q) (cur := (l.take k).flatMap enG ++ rest) (te := 29) HR1.out hn2 hsrc2 hfit2 h12 rfl _ _ rfl rfl rfl ?_; intro w2 _ hr2 hg2; have HR2 := Lib.hid hr2; have HG2 := Lib.hid hg2; clear hr2 hg2))
      have hsrc3 := HS3.out w2.drew ((HG2.out.block g (by have := HG1.out.size; omega) (by simpa using hgN)).trans (HG1.out.block g hgw (by simp)))
      have hfit3 : (k + 1) * 2 + ((l.drop k).flatMap enG).length ≤ (laid ((l.take k).flatMap enG ++ rest) (k * 2) (enG q)).length := by
        rw [laid_len hfit2, List.length_append, HTL0.out, HLR.out, HTL.out]; omega
      have hb7 : (k : Int) ≤ (n : Int) + 1 := by omega
      go_region_law_o (refine step_copyK eltBr (g := w.heap.size) (off := (k + 1) * 2) (dLen := n + 1 - (k + 1)) (sLen := n - k) (dCap := G - (k + 1)) (sCap := cap - k) (ad := ⟨g, k * 2, none⟩) (cs := (l.drop k).flatMap enG) (cur := laid ((l.take k).flatMap enG ++ rest) (k * 2) (enG q)) (te := 29) HR2.out hn3 hsrc3 hfit3 h11 rfl _ _ rfl (by simp [Act.eval, Act.put]) (by simp [Act.eval, Act.put]) ?_; intro w3 _ hr3 hg3; have HR3 := Lib.hid hr3; have HG3 := Lib.hid hg3; clear hr3 hg3)
      go_wp2
      go_ret
      exact ⟨_, rfl, HFIN.out _ _ _ HLR.out hGn HGM.out HR3.out, (show Below base w w2.drew from below_drewN (((Below.refl base w).grown HG1.out hbase (fun j e => by simp at e)).grown HG2.out (Nat.le_trans hbase HG1.out.size) (fun j e => by simp at e; omega)) 1).grown HG3.out (Nat.le_trans hbase (Nat.le_trans HG1.out.size HG2.out.size)) (fun j e => by simp at e; omega)⟩
    · obtain ⟨A, X, Y, Z, hL, hAt, hA, hX, hY⟩ := parts4 cur (k * 2) 2 ((n - k) * 2) (by omega)
      have hfin : laid (laid cur ((k + 1) * 2) ((l.drop k).flatMap enG)) (k * 2) (enG q) = A ++ enG q ++ (l.drop k).flatMap enG ++ Z := by
        rw [hL]; exact laid_tail hA (by omega) (by rw [hX]; rfl) (by rw [htl, hY])
      have hAl : A = (l.take k).flatMap enG := by
        rw [hAt]
        have h1 : cur.take (k * 2) = (cur.take (n * 2)).take (k * 2) := by rw [List.take_take, Nat.min_eq_left (by omega)]
        rw [h1, hct]
        have h2 : l.flatMap enG = (l.take k).flatMap enG ++ (l.drop k).flatMap enG := by rw [← List.flatMap_append, List.take_append_drop]
        rw [h2, List.take_left' (by rw [encEn.length, List.length_take]; omega)]
      have hend : ∀ w', RowIs w' g 29 (laid (laid cur ((k + 1) * 2) ((l.drop k).flatMap enG)) (k * 2) (enG q)) → OwnBr w' base (.slice (some ⟨g, 0, none⟩) (n + 1) cap) (l.take k ++ q :: l.drop k) := fun w' hr => by
        refine ⟨by rw [encEn.length], .inr ⟨g, cap, _, ?_, hg, hr, by simp; omega, by unfold maxLen; omega, ?_, ?_⟩⟩
        · simp; omega
        · have hLl := congrArg List.length hL
          simp only [List.length_append, hA, hX, hY] at hLl
          rw [hfin]; simp [hA, htl, enG]; omega
        · rw [hfin, hAl]
          have e : (l.take k ++ q :: l.drop k).flatMap enG = (l.take k).flatMap enG ++ enG q ++ (l.drop k).flatMap enG := by rw [List.flatMap_append, List.flatMap_cons, List.append_assoc]
          rw [e]
          refine List.take_left' ?_
          rw [← e, encEn.length]
      have hov : ∀ W lb cb, (W.heap[kE]? = w.heap[kE]?) → (W.heap[g]? = w.heap[g]?) → (callFunc 52 #[.slice (some ⟨kE, 0, none⟩) 1 1, .slice (some ⟨g, (k + 1) * 2, none⟩) lb cb]).run Try.prog W = .ok (.value (.bool false)) W := fun W lb cb h1 h2 =>
        overlapsBr_no W _ _ _ _ _ _ hgE cs1 cur.toArray (h1.trans hE1) (h2.trans hrow) (by simp [hcl]; omega)
      have HEND := Lib.hid hend
      have HCUR := Lib.hid hcurD
      have HTL := Lib.hid htl
      clear hend hAl hfin hcur hcurD hcurT htl hL hAt hA hX hY hne
      have hb2 : ¬ (cap = k + 1) := by omega
      have hz3 : ¬ ((cap : Int) < (n : Int) + 1) := by omega
      have hb3 : (k : Int) ≤ (n : Int) + 1 := by omega
      have hn1 : ((l.drop k).flatMap enG).length = Nat.min (n + 1 - k) (n + 1 - (k + 1)) * 2 := by
        rw [HTL.out]; show _ = min (n + 1 - k) (n + 1 - (k + 1)) * 2; omega
      have hsrc1 : ∀ j v, ((l.drop k).flatMap enG)[j]? = some v → w.drew.cell? ((⟨g, k * 2, none⟩ : Addr).add j) = some v := fun j v hj => by
        rw [addr_add]; exact RowIs.cell HROW.out (HCUR.out j v hj)
      have hfit1 : (k + 1) * 2 + ((l.drop k).flatMap enG).length ≤ cur.length := by rw [HTL.out, hcl]; omega
      have hn2 : (enG q).length = Nat.min 1 (n + 1 - k) * 2 := by show 2 = min 1 (n + 1 - k) * 2; omega
      have hfit2 : k * 2 + (enG q).length ≤ (laid cur ((k + 1) * 2) ((l.drop k).flatMap enG)).length := by rw [laid_len hfit1, hcl]; show k * 2 + 2 ≤ _; omega
      clear hrow hct
      go_enter Try.func42, Try.ntmps42
      go_wp2_with (simp only [hov])
      go_region_law_o (go_loud (refine step_copyK eltBr (g := g) (off := (k + 1) * 2) (dLen := n + 1 - (k + 1)) (sLen := n + 1 - k) (dCap := cap - (k + 1)) (sCap := cap - k) (ad := ⟨g, k * 2, none⟩) (cs := (l.drop k).flatMap enG) (cur := cur) (te := 29) HROW.out hn1 hsrc1 hfit1 h11 rfl _ _ rfl (by simp [Act.eval, Act.put]) (by simp [Act.eval, Act.put]) ?_; intro w2 _ hr2 hg2; have HR2 := Lib.hid hr2; have HG2 := Lib.hid hg2; clear hr2 hg2))
      have hsrc2 : ∀ j v, (enG q)[j]? = some v → w2.cell? ((⟨kE, 0, none⟩ : Addr).add j) = some v := fun j v hj => by
        rw [addr_add, Nat.zero_add, cell_of_row w2 kE j cs1 29 (0, 0) ((HG2.out.block kE (Array.getElem?_eq_some_iff.1 hE1).1 (by simpa using hgE)).trans hE1)]
        rw [← hc1] at hj; simpa using hj
      go_wp2_with (refine wpList_copyK eltBr (g := g) (off := k * 2) (dLen := n + 1 - k) (sLen := 1) (ad := ⟨kE, 0, none⟩) (cs := enG q) (cur := laid cur ((k + 1) * 2) ((l.drop k).flatMap enG)) (te := 29) HR2.out hn2 hsrc2 hfit2 h12 rfl _ _ rfl rfl rfl ?_; intro w3 _ hr3 hg3; have HR3 := Lib.hid hr3; have HG3 := Lib.hid hg3; clear hr3 hg3)
      go_ret
      exact ⟨_, rfl, HEND.out _ HR3.out, ((show Below base w w.drew from ⟨rfl, rfl, rfl, Nat.le_refl _, fun _ _ => rfl⟩).grown HG2.out hbase (fun j e => by simp at e; omega)).grown HG3.out (Nat.le_trans hbase HG2.out.size) (fun j e => by simp at e; omega)⟩
theorem compareBranch_any (p : Ent) (y : ByteArray) (w : World) : Calls Try.prog 51 #[.agg #[.string p.1, .int .i64 p.2], .string y] w (BelowI (cmpS p.1 y) w) := by
  go_enter Try.func51, Try.ntmps51
  go_wp2_with (go_at_call 55; refine (compareS_any _ _ _).mono ?_; rintro e w' ⟨rfl, rfl⟩)
  go_ret
  exact ⟨rfl, (Below.refl _ _).alloc (Nat.le_refl _) _⟩
set_option maxHeartbeats 1000000 in
theorem searchBr_any (x : Option Addr) (n cap : Nat) (l : List Ent) (t : ByteArray) (B : Nat) (w : World) (h : Ents w B x n cap l) (hB : B ≤ w.heap.size) (hs : AscE l) (hn : n ≤ 1000000) :
    Calls Try.prog 50 #[.slice x n cap, .string t, .func (.func 51) #[] #[]] w fun e w' => e = .returned (.tuple #[.int .i64 (atE t l : Nat), .bool (hereE t l)]) ∧ Below w.heap.size w w' := by
  have HL := Lib.hid h.len
  have HH := Lib.hid h
  have HS := Lib.hid hs
  have hmx := h.max
  have hle := h.le
  clear h hs
  unfold maxLen at hmx
  go_enter Try.func50, Try.ntmps50
  go_wp2
  go_loopw [9, 10, 11] (fun i j _ wr => ∃ a b : Nat, a ≤ b ∧ b ≤ n ∧ i = .int .i64 a ∧ j = .int .i64 b ∧ (∀ k, k < a → ltN (nthE l k).1 t = true) ∧ (∀ k, b ≤ k → k < n → ltN (nthE l k).1 t = false) ∧ Below w.heap.size w wr) (fun i j _ _ => (intOf j).toNat - (intOf i).toNat)
  case atStart => exact ⟨0, n, by omega, Nat.le_refl _, rfl, rfl, fun k hk => by omega, fun k hk hk' => by omega, Below.refl _ _⟩
  case round =>
    obtain ⟨a, b, hab, hbn, rfl, rfl, hlo, hhi, hb⟩ := hrel
    have HLO := Lib.hid hlo; have HHI := Lib.hid hhi; have HB := Lib.hid hb; clear hlo hhi hb
    by_cases hlt : a < b
    · have hmb : (a + b) / 2 < n := by omega
      obtain ⟨b0, off, rfl, hb0, hc0, hc1⟩ := (HH.out.below HB.out hB).atE hmb
      obtain ⟨q, hq⟩ : ∃ q, q = nthE l ((a + b) / 2) := ⟨_, rfl⟩
      rw [← hq] at hc0 hc1
      cases hx : ltN q.1 t
      · have hc : ¬ cmpS q.1 t < 0 := fun h => by rw [cmpS_lt, hx] at h; cases h
        have HX := Lib.hid (show ∀ k, (a + b) / 2 ≤ k → k < n → ltN (nthE l k).1 t = false from fun k hk hkn => by
          rcases Nat.lt_or_eq_of_le hk with h | rfl
          · have h1 := HS.out _ k h (by have := HL.out; omega); rw [← hq] at h1
            cases h2 : ltN (nthE l k).1 t
            · rfl
            · rw [ltN_trans h1 h2] at hx; cases hx
          · rw [← hq]; exact hx)
        clear hq hx
        go_wp2_with (go_at_call 51; refine (compareBranch_any q _ _).mono ?_; rintro e w2 ⟨rfl, hb⟩; have HB2 := Lib.hid (HB.out.trans (hb.mono HB.out.size)); clear hb)
        go_roundw
        case rel => exact ⟨a, (a + b) / 2, by omega, by omega, rfl, by go_num, HLO.out, HX.out, HB2.out⟩
        case measure => simp [intOf]; omega
      · have hc : cmpS q.1 t < 0 := cmpS_lt.2 hx
        have HX := Lib.hid (show ∀ k, k < (a + b) / 2 + 1 → ltN (nthE l k).1 t = true from fun k hk => by
          rcases Nat.lt_succ_iff_lt_or_eq.1 hk with h | rfl
          · have h1 := HS.out k _ h (by have := HL.out; omega); rw [← hq] at h1; exact ltN_trans h1 hx
          · rw [← hq]; exact hx)
        clear hq hx
        go_wp2_with (go_at_call 51; refine (compareBranch_any q _ _).mono ?_; rintro e w2 ⟨rfl, hb⟩; have HB2 := Lib.hid (HB.out.trans (hb.mono HB.out.size)); clear hb)
        go_roundw
        case rel => exact ⟨(a + b) / 2 + 1, b, by omega, hbn, by go_num, rfl, HX.out, HHI.out, HB2.out⟩
        case measure => simp [intOf]; omega
    · obtain rfl : a = b := by omega
      have HA := Lib.hid (atE_eq (p := t) (l := l) (k := a) (by have := HL.out; omega) HLO.out (by
        rcases Nat.lt_or_ge a n with h | h
        · exact .inr (HHI.out a (Nat.le_refl _) h)
        · left; have := HL.out; omega))
      by_cases hlt2 : a < n
      · obtain ⟨b0, off, rfl, hb0, hc0, hc1⟩ := (HH.out.below HB.out hB).atE hlt2
        obtain ⟨q, hq⟩ : ∃ q, q = nthE l a := ⟨_, rfl⟩
        rw [← hq] at hc0 hc1
        have hd : ((a : Int) < (n : Int)) := by omega
        by_cases hx : q.1 = t
        · have hc : (cmpS q.1 t == 0) = true := by simpa using cmpS_eq.2 hx
          have HX := Lib.hid (hereE_yes HA.out (by have := HL.out; omega) (by rw [← hq]; exact hx))
          clear hq hx
          go_wp2_with (go_at_call 51; refine (compareBranch_any q _ _).mono ?_; rintro e w2 ⟨rfl, hb⟩; have HB2 := Lib.hid (HB.out.trans (hb.mono HB.out.size)); clear hb)
          go_ret2
          exact ⟨by rw [HA.out, HX.out]; rfl, HB2.out⟩
        · have hc : (cmpS q.1 t == 0) = false := by simpa using fun h => hx (cmpS_eq.1 h)
          have HX := Lib.hid (hereE_no2 HA.out (by rw [← hq]; exact hx))
          clear hq hx
          go_wp2_with (go_at_call 51; refine (compareBranch_any q _ _).mono ?_; rintro e w2 ⟨rfl, hb⟩; have HB2 := Lib.hid (HB.out.trans (hb.mono HB.out.size)); clear hb)
          go_ret2
          exact ⟨by rw [HA.out, HX.out]; rfl, HB2.out⟩
      · have hd : ¬ ((a : Int) < (n : Int)) := by omega
        have HX := Lib.hid (hereE_no1 HA.out (by have := HL.out; omega))
        go_wp2
        go_ret2
        exact ⟨by rw [HA.out, HX.out]; rfl, HB.out⟩
theorem placeOfBranch_any (x : Option Addr) (n cap : Nat) (l : List Ent) (t : ByteArray) (B : Nat) (w : World) (h : Ents w B x n cap l) (hB : B ≤ w.heap.size) (hs : AscE l) (hn : n ≤ 1000000) :
    Calls Try.prog 41 #[.slice x n cap, .string t] w fun e w' => e = .returned (.tuple #[.int .i64 (atE t l : Nat), .bool (hereE t l)]) ∧ Below w.heap.size w w' := by
  have HH := Lib.hid h
  clear h
  go_enter Try.func41, Try.ntmps41
  go_wp2_with (go_at_call 50; refine (searchBr_any _ _ _ _ _ _ _ HH.out hB hs hn).mono ?_; rintro e w' ⟨rfl, hb⟩)
  go_ret2
  exact ⟨rfl, hb⟩
theorem ownBr_row {w : World} {base g n cap : Nat} {cells : List Value} {l : List Ent} (hr : RowIs w g 29 cells) (hg : base ≤ g) (hn : l.length = n) (hc : n ≤ cap) (hm : cap ≤ maxLen) (hs : cells.length = cap * 2) (ht : cells.take (n * 2) = l.flatMap enG) : OwnBr w base (.slice (some ⟨g, 0, none⟩) n cap) l := by
  subst hn
  refine ⟨by rw [encEn.length], .inr ⟨g, cap, cells.toArray, rfl, hg, hr, hc, hm, by simpa using hs, ?_⟩⟩
  simpa using ht
theorem run_clearBr (w : World) (ty : TypeId) (g o c : Nat) (hc : ∀ j, j < 2 → (w.cell? ⟨g, o + j, none⟩).isSome = true) (hf : ∀ j, j < 2 → w.frozen? ⟨g, o + j, none⟩ = false) :
    (Builtin.clear_ #[23] ty #[.slice (some ⟨g, o, none⟩) 1 c]).run Try.prog w = .ok (.tuple #[]) (w.setCells g o [.string ByteArray.empty, .int .i64 0]) := by
  obtain ⟨i, hi, hz, hsz, _⟩ := eltBr.info
  have hst := run_storeCells_cells (P := Try.prog) g o [.string ByteArray.empty, .int .i64 0] 0 w (by simpa using hc) (by simpa using hf) (by simp [Value.oneCell'])
  simp only [Nat.add_zero] at hst
  have hzc : (Builtin.zeroCells #[.string ByteArray.empty, .int .i64 0] 1).toList = [.string ByteArray.empty, .int .i64 0] := by kernel_rfl
  simp [Builtin.clear_, run_underlying eltBr.und, zeroValue, typeInfo, hi, hz, Value.cells, hzc, hst]
set_option maxHeartbeats 4000000 in
set_option maxRecDepth 100000 in
theorem deleteBr_any (x : Option Addr) (n cap k base : Nat) (l : List Ent) (w : World) (ho : OwnBr w base (.slice x n cap) l) (hl : l.length = n) (hk : k < n) (hn : n ≤ 1000) (hbase : base ≤ w.heap.size) :
    Calls Try.prog 44 #[.slice x n cap, .int .i64 k, .int .i64 ((k : Int) + 1)] w (PutInBr (l.take k ++ l.drop (k + 1)) base w) := by
  have hlst := ho.lst'
  have hle := hlst.le
  have hmx := hlst.max
  clear hlst
  obtain ⟨g, cur, rfl, hg, hrow, _, _, hcm, hcl, hct⟩ := own_partsBr ho (by omega)
  unfold maxLen at hmx
  have hgw : g < w.heap.size := (Array.getElem?_eq_some_iff.1 hrow).1
  obtain ⟨news, hnews⟩ : ∃ news, news = (l.drop (k + 1)).flatMap enG := ⟨_, rfl⟩
  have hlen : news.length = (n - (k + 1)) * 2 := by rw [hnews, encEn.length, List.length_drop, hl]
  have hget : ∀ j u, news[j]? = some u → cur[(k + 1) * 2 + j]? = some u := fun j u hj => by
    have h1 : (l.flatMap enG)[(k + 1) * 2 + j]? = some u := by rw [← List.getElem?_drop, flat_drop encEn, ← hnews]; exact hj
    rw [← hct, List.getElem?_take] at h1
    split at h1
    · exact h1
    · cases h1
  obtain ⟨A, hA, hsrc⟩ : ∃ A : Addr, (if cap = k + 1 then (some ⟨g, 0, none⟩ : Option Addr) else some ⟨g, (k + 1) * 2, none⟩) = some A ∧ Hid (∀ t u, news[t]? = some u → w.drew.cell? (A.add t) = some u) := by
    by_cases h : cap = k + 1
    · refine ⟨⟨g, 0, none⟩, by simp [h], Lib.hid fun t u hu => ?_⟩
      have h0 : news.length = 0 := by rw [hlen]; omega
      rw [List.length_eq_zero_iff.1 h0] at hu
      simp at hu
    · refine ⟨⟨g, (k + 1) * 2, none⟩, by simp [h], Lib.hid fun t u hu => ?_⟩
      rw [addr_add]
      exact RowIs.cell (show RowIs w.drew g 29 cur from hrow) (hget t u hu)
  have h1c : ∀ u ∈ news, u.oneCell' = true := by rw [hnews]; exact encEn.oneAll _
  have hfit : k * 2 + news.length ≤ cur.length := by rw [hlen, hcl]; omega
  have H1 := setCells_row (w := w.drew) (g := g) (off := k * 2) (te := 29) (cur := cur) (cs := news) hrow hfit h1c
  obtain ⟨W1, hW1⟩ : ∃ W1, W1 = w.drew.setCells g (k * 2) news := ⟨_, rfl⟩
  rw [← hW1] at H1
  have hl1 : (laid cur (k * 2) news).length = cap * 2 := by rw [laid_len hfit, hcl]
  have hlow : k + (n - (k + 1)) = n - 1 := by omega
  have hfit2 : (n - 1) * 2 + ([.string ByteArray.empty, .int .i64 0] : List Value).length ≤ (laid cur (k * 2) news).length := by rw [hl1]; show (n - 1) * 2 + 2 ≤ _; omega
  have H2 := setCells_row (w := W1) (g := g) (off := (n - 1) * 2) (te := 29) (cur := laid cur (k * 2) news) (cs := [.string ByteArray.empty, .int .i64 0]) H1.1 hfit2 (by simp [Value.oneCell'])
  have hcl1 : ∀ ty c, (Builtin.clear_ #[23] ty #[.slice (some ⟨g, (n - 1) * 2, none⟩) 1 c]).run Try.prog W1 = .ok (.tuple #[]) (W1.setCells g ((n - 1) * 2) [.string ByteArray.empty, .int .i64 0]) := fun ty c =>
    run_clearBr W1 ty g _ c (fun j hj => by rw [RowIs.cell H1.1 (List.getElem?_eq_getElem (by rw [hl1]; omega))]; rfl) (fun j hj => by simp [World.frozen?, show W1.heap[g]? = _ from H1.1])
  have hclr : ∀ ty, (Builtin.clear_ #[23] ty #[.slice (some ⟨g, (k + (n - (k + 1))) * 2, none⟩) (n - (k + (n - (k + 1)))) (cap - (k + (n - (k + 1))))]).run Try.prog W1 = .ok (.tuple #[]) (W1.setCells g ((n - 1) * 2) [.string ByteArray.empty, .int .i64 0]) := fun ty => by
    rw [hlow, show n - (n - 1) = 1 by omega]; exact hcl1 _ _
  have hend : OwnBr (W1.setCells g ((n - 1) * 2) [.string ByteArray.empty, .int .i64 0]) base (.slice (some ⟨g, 0, none⟩) (n - 1) cap) (l.take k ++ l.drop (k + 1)) := by
    refine ownBr_row H2.1 hg (by simp; omega) (by omega) hcm (by rw [laid_len hfit2, hl1]) ?_
    have h5 : cur.take (k * 2) = (l.take k).flatMap enG := by
      have h1 : cur.take (k * 2) = (cur.take (n * 2)).take (k * 2) := by rw [List.take_take, Nat.min_eq_left (by omega)]
      rw [h1, hct]
      have h2 : l.flatMap enG = (l.take k).flatMap enG ++ (l.drop k).flatMap enG := by rw [← List.flatMap_append, List.take_append_drop]
      rw [h2, List.take_left' (by rw [encEn.length, List.length_take]; omega)]
    have h6 : (laid cur (k * 2) news).take ((n - 1) * 2) = cur.take (k * 2) ++ news := by
      unfold laid
      rw [List.take_left' (by rw [List.length_append, List.length_take, hlen, hcl]; omega)]
    rw [show laid (laid cur (k * 2) news) ((n - 1) * 2) [.string ByteArray.empty, .int .i64 0] = (laid cur (k * 2) news).take ((n - 1) * 2) ++ ([.string ByteArray.empty, .int .i64 0] ++ (laid cur (k * 2) news).drop ((n - 1) * 2 + 2)) by unfold laid; rw [List.append_assoc]; rfl,
      List.take_left' (by rw [List.length_take, hl1]; omega), h6, h5, hnews, List.flatMap_append]
  have hspare : ∀ j, j < news.length → (w.drew.cell? ⟨g, k * 2 + j, none⟩).isSome = true ∧ w.drew.frozen? ⟨g, k * 2 + j, none⟩ = false := fun j hj =>
    ⟨by rw [RowIs.cell (show RowIs w.drew g 29 cur from hrow) (List.getElem?_eq_getElem (by omega))]; rfl, by simp [World.frozen?, show w.drew.heap[g]? = _ from hrow]⟩
  have HB := Lib.hid (show Below base w (W1.setCells g ((n - 1) * 2) [.string ByteArray.empty, .int .i64 0]) from
    ((show Below base w w.drew from ⟨rfl, rfl, rfl, Nat.le_refl _, fun _ _ => rfl⟩).grown H1.2 hbase (fun j e => by simp at e; omega)).grown H2.2 (Nat.le_trans hbase H1.2.size) (fun j e => by simp at e; omega))
  obtain ⟨i0, hi0, _, hz0, _⟩ := eltBr.info
  have t0 := eltBr.und
  have mixed : Try.prog.follows Departure.mixedOrders = true := by kernel_rfl
  have HEND := Lib.hid hend; have HSP := Lib.hid hspare; have HLEN := Lib.hid hlen; have H1C := Lib.hid h1c
  have HW := Lib.hid hW1; have HLO := Lib.hid hlow
  have hic : k ≤ cap := by omega
  have hjc : k + 1 ≤ cap := by omega
  have hw1 : ((k : Int) + 1).toNat = k + 1 := by omega
  have hij : (k : Int) ≤ (k : Int) + 1 := by omega
  have hjn : (k : Int) + 1 ≤ (n : Int) := by omega
  have hjc' : (k : Int) + 1 ≤ (cap : Int) := by omega
  have hb5 : (0 : Int) ≤ (k : Int) + 1 := by omega
  have hne : ¬ ((k : Int) = (k : Int) + 1) := by omega
  have hne2 : ((k : Int) == (k : Int) + 1) = false := by simp; omega
  have hcn : ¬ (cap = k + (n - (k + 1))) := by omega
  have hln : ((k + (n - (k + 1)) : Nat) : Int) ≤ (n : Int) := by omega
  have hrk : k + (n - (k + 1)) ≤ cap := by omega
  clear hend hspare hlen h1c hW1 hlow H1 H2 hcl1 hget hfit hfit2 hl1 hct hcl hrow ho hnews
  go_enter Try.func44, Try.ntmps44
  go_wp2_with fail
  go_region_law_o (refine step_append_room rfl (.tmp 22) (.tmp 25) 23 rfl 29 i0 2 t0 hi0 hz0 g 0 k cap (by simp [Act.eval, Act.put]) A (n - (k + 1)) (cap - (k + 1)) news (by simp [Act.eval, Act.put]) HLEN.out hsrc.out H1C.out hrk (by simpa using HSP.out) ?_; rw [Nat.zero_add, ← HW.out])
  go_wp2
  go_ret
  exact ⟨_, rfl, by rw [HLO.out]; exact HEND.out, HB.out⟩
theorem own_setNumber {w : World} {base g n cap k : Nat} {l : List Ent} {p : Ent} (h : OwnBr w base (.slice (some ⟨g, 0, none⟩) n cap) l) (hl : l.length = n) (hk : k < n) (hn : (nthE l k).1 = p.1) :
    w.cell? ⟨g, k * 2 + 1, none⟩ = some (.int .i64 (nthE l k).2) ∧ w.frozen? ⟨g, k * 2 + 1, none⟩ = false ∧ OwnBr (w.setCell ⟨g, k * 2 + 1, none⟩ (.int .i64 p.2)) base (.slice (some ⟨g, 0, none⟩) n cap) (l.take k ++ p :: l.drop (k + 1)) ∧ w.grownBy (w.setCell ⟨g, k * 2 + 1, none⟩ (.int .i64 p.2)) (some g) := by
  have h' : w.ownsRow base 29 2 (.slice (some ⟨g, 0, none⟩) n cap) n (l.flatMap enG) := by have := h; unfold OwnBr OwnL at this; rwa [hl] at this
  have hs := h'.stored (k * 2 + 1) (.int .i64 p.2)
  have hc := h'.cellAt (k * 2 + 1) (by omega)
  have hg : (l.flatMap enG)[k * 2 + 1]? = some (.int .i64 (nthE l k).2) := by
    rw [encEn.get _ _ _ (ByteArray.empty, 0) (by omega) (by omega)]; rfl
  refine ⟨hc.trans hg, h'.frozenAt _, ?_, hs.2⟩
  have h1 := hs.1
  rw [setPrint_cells (by omega) hn] at h1
  show World.ownsRow _ _ _ _ _ _ _
  rw [show (l.take k ++ p :: l.drop (k + 1)).length = n by simp; omega]
  exact h1
theorem own_lstBr {w : World} {base : Nat} {v : Value} {l : List Ent} (h : OwnBr w base v l) : ∃ x n c, v = .slice x n c ∧ l.length = n ∧ Ents w w.heap.size x n c l := by
  obtain ⟨x, n, c, rfl, hl⟩ := h.lst
  exact ⟨x, n, c, rfl, hl.len, hl⟩
theorem newBrB_put {L : List Ent} {b : Bool} {pr : List Ent × Bool} {w w' : World} {v : Value} (h : pr = (L, b)) (ho : OwnBr w' w.heap.size v L) (hb : Below w.heap.size w w') : NewBrB pr.1 pr.2 w (.returned (.tuple #[v, .bool b])) w' := by
  rw [h]; exact ⟨v, rfl, ho, hb⟩
end Go.Proofs.Ytiniadlpgomgjaa
/-
  Contracts of chapter 15's program: valid branches.
-/
namespace Go.Proofs.Ytiniadlpgomgjaa
open Go.RowKit
set_option linter.unusedVariables false
set_option maxHeartbeats 2000000 in
theorem implBranchesValid_any (x : Option Addr) (n cap : Nat) (l : List Ent) (many : Int) (B : Nat) (w : World) (h : Ents w B x n cap l) (hB : B ≤ w.heap.size) (hz : ∀ k, (nthE l k).1.size ≤ maxLen) :
    Calls Try.prog 12 #[.slice x n cap, .int .i64 many] w (BelowB (brsB l many) w) := by
  have HL := Lib.hid h.len
  have HH := Lib.hid h
  have HZ := Lib.hid hz
  have hmx := h.max
  have hle := h.le
  clear h hz
  unfold maxLen at hmx
  by_cases hm0 : many < 0
  · have HF := Lib.hid (brsB_many (l := l) (in3_lo (n := many) (lo := 0) (hi := 12) (by omega)))
    go_enter Try.func12, Try.ntmps12
    go_wp2
    go_ret
    exact ⟨ret_bool HF.out.symm, Below.refl _ _⟩
  by_cases hm1 : 12 < many
  · have HF := Lib.hid (brsB_many (l := l) (in3_hi (n := many) (lo := 0) (hi := 12) (by omega)))
    go_enter Try.func12, Try.ntmps12
    go_wp2
    go_ret
    exact ⟨ret_bool HF.out.symm, Below.refl _ _⟩
  by_cases hbig : 6 < n
  · have HF := Lib.hid (show brsB l many = false by unfold brsB; rw [decide_eq_false (show ¬ l.length ≤ 6 by have := HL.out; omega), Bool.false_and, Bool.and_false])
    go_enter Try.func12, Try.ntmps12
    go_wp2
    go_ret
    exact ⟨ret_bool HF.out.symm, Below.refl _ _⟩
  have HM := Lib.hid (in3_yes (n := many) (lo := 0) (hi := 12) (by omega) (by omega))
  go_enter Try.func12, Try.ntmps12
  go_wp2
  go_loopw [5, 6, 20] (fun _ _ i wr => ∃ k : Nat, k ≤ n ∧ i = .int .i64 k ∧ (∀ j, j < k → okBr many l j = true) ∧ Below w.heap.size w wr) (fun _ _ i _ => n - (intOf i).toNat)
  case atStart => exact ⟨0, by omega, rfl, fun j hj => by omega, Below.refl _ _⟩
  case round =>
    obtain ⟨k, hk, rfl, ha, hb⟩ := hrel
    have HA := Lib.hid ha; have HB := Lib.hid hb; clear ha hb
    have hsz := HB.out.size
    by_cases hlt : k < n
    · have hkl : k < l.length := by have := HL.out; omega
      obtain ⟨b0, off, rfl, hb0, hc0, hc1⟩ := (HH.out.below HB.out hB).atE hlt
      have hzk := HZ.out k
      have HBAD := Lib.hid (brsB_bad (many := many) hkl)
      obtain ⟨W, hW⟩ : ∃ W, wr.alloc (.cells #[.string (nthE l k).1, .int .i64 (nthE l k).2] 29) = W := ⟨_, rfl⟩
      have HV := Lib.hid hW
      have hBW := HB.out.alloc hsz (.cells #[.string (nthE l k).1, .int .i64 (nthE l k).2] 29)
      have hnew := heap_alloc_new wr (.cells #[.string (nthE l k).1, .int .i64 (nthE l k).2] 29)
      rw [hW] at hBW hnew
      obtain ⟨p0, p1, p2, p3⟩ := two_at hnew
      have HBW := Lib.hid hBW
      have HHW := Lib.hid (HH.out.below hBW hB)
      clear hW hnew hBW p2 p3
      obtain ⟨q2, hq2⟩ : ∃ q2, q2 = (nthE l k).2 := ⟨_, rfl⟩
      rw [← hq2] at hc1 p1
      have HQ2 := Lib.hid hq2
      have HV2 := Lib.hid (show wr.alloc (.cells #[.string (nthE l k).1, .int .i64 q2] 29) = W by rw [hq2]; exact HV.out)
      clear hq2 HV
      cases ht : wordB (nthE l k).1
      · have HF := Lib.hid (HBAD.out (okBr_no1 ht))
        go_wp2_with (first | (go_at_call 35; refine (wordValid_any _ _ hzk).mono ?_; rintro e w2 ⟨rfl, rfl⟩; rw [ht]))
        first | rw [HV2.out] | skip
        go_ret
        exact ⟨ret_bool HF.out.symm, HBW.out⟩
      by_cases h2 : q2 < 0
      · have HF := Lib.hid (HBAD.out (okBr_no2 (in3_lo (by have := HQ2.out; omega))))
        go_wp2_with (first | (go_at_call 35; refine (wordValid_any _ _ hzk).mono ?_; rintro e w2 ⟨rfl, rfl⟩; rw [ht]))
        first | rw [HV2.out] | skip
        go_ret
        exact ⟨ret_bool HF.out.symm, HBW.out⟩
      by_cases h3 : many ≤ q2
      · have HF := Lib.hid (HBAD.out (okBr_no2 (in3_hi (by have := HQ2.out; omega))))
        go_wp2_with (first | (go_at_call 35; refine (wordValid_any _ _ hzk).mono ?_; rintro e w2 ⟨rfl, rfl⟩; rw [ht]))
        first | rw [HV2.out] | skip
        go_ret
        exact ⟨ret_bool HF.out.symm, HBW.out⟩
      have HIN := Lib.hid (show in3 (nthE l k).2 0 (many - 1) = true from in3_yes (by have := HQ2.out; omega) (by have := HQ2.out; omega))
      by_cases h0 : k = 0
      · have HR := Lib.hid (okBr_yes (many := many) ht HIN.out (.inl h0))
        have hd0 : (decide (0 < k)) = false := by simp; omega
        clear h0
        go_wp2_with (first | (go_at_call 35; refine (wordValid_any _ _ hzk).mono ?_; rintro e w2 ⟨rfl, rfl⟩; rw [ht]))
        rw [HV2.out]
        go_quiet (fail)
        go_wp2
        go_roundw
        case rel => exact ⟨k + 1, by omega, by go_num, fun j hj => by rcases Nat.lt_succ_iff_lt_or_eq.1 hj with h | rfl; exact HA.out j h; exact HR.out, below_drewN HBW.out _⟩
        case measure => simp [intOf]; omega
      · have hd0 : (decide (0 < k)) = true := by simp; omega
        have hcp := Lst.atPrevE HHW.out hlt (by omega)
        have hk1 : 1 ≤ k := by omega
        cases h3 : leB (nthE l k).1 (nthE l (k - 1)).1
        · have HR := Lib.hid (okBr_yes (many := many) ht HIN.out (.inr h3))
          unfold leB at h3
          rw [Bool.or_eq_false_iff] at h3
          obtain ⟨hx1, hx2⟩ := h3
          clear h0
          go_wp2_with (first | (go_at_call 35; refine (wordValid_any _ _ hzk).mono ?_; rintro e w2 ⟨rfl, rfl⟩; rw [ht]))
          rw [HV2.out]
          go_quiet (fail)
          go_wp2
          go_roundw
          case rel => exact ⟨k + 1, by omega, by go_num, fun j hj => by rcases Nat.lt_succ_iff_lt_or_eq.1 hj with h | rfl; exact HA.out j h; exact HR.out, below_drewN HBW.out _⟩
          case measure => simp [intOf]; omega
        · have HF := Lib.hid (HBAD.out (okBr_no3 h0 h3))
          unfold leB at h3
          clear h0
          go_wp2_with (first | (go_at_call 35; refine (wordValid_any _ _ hzk).mono ?_; rintro e w2 ⟨rfl, rfl⟩; rw [ht]))
          rw [HV2.out]
          go_quiet (fail)
          go_wp2
          go_ret
          exact ⟨ret_bool HF.out.symm, below_drewN HBW.out _⟩
    · have HF := Lib.hid (brsB_end (l := l) HM.out (fun j hj => HA.out j (by have := HL.out; omega)))
      go_wp2
      go_ret
      exact ⟨ret_bool (by rw [HF.out, HL.out]; simp; omega), HB.out⟩
end Go.Proofs.Ytiniadlpgomgjaa
/-
  Contracts of chapter 15's program: a branch is set.
-/
namespace Go.Proofs.Ytiniadlpgomgjaa
open Go.RowKit
set_option linter.unusedVariables false
set_option maxHeartbeats 2000000 in
theorem implSetBranch_any (x : Option Addr) (n cap : Nat) (l : List Ent) (many : Int) (p : Ent) (B : Nat) (w : World) (h : Ents w B x n cap l) (hB : B ≤ w.heap.size) (hz : ∀ k, (nthE l k).1.size ≤ maxLen) (hp : p.1.size ≤ 2000000) :
    Calls Try.prog 16 #[.slice x n cap, .int .i64 many, .agg #[.string p.1, .int .i64 p.2]] w (NewBrB (putBr l many p).1 (putBr l many p).2 w) := by
  obtain ⟨W, hW⟩ : ∃ W, w.alloc (.cells #[.string p.1, .int .i64 p.2] 29) = W := ⟨_, rfl⟩
  have HV := Lib.hid hW
  have hH := h.alloc hB (.cells #[.string p.1, .int .i64 p.2] 29)
  have hnew := heap_alloc_new w (.cells #[.string p.1, .int .i64 p.2] 29)
  have hB0 := (Below.refl w.heap.size w).alloc (Nat.le_refl _) (.cells #[.string p.1, .int .i64 p.2] 29)
  have hWs : W.heap.size = w.heap.size + 1 := by rw [← hW]; simp
  rw [hW] at hH hnew hB0
  have HN := Lib.hid hnew
  have HLL := Lib.hid h.len
  have hBW : B ≤ W.heap.size := by omega
  have HH := Lib.hid hH
  have HB0 := Lib.hid hB0
  have HK := Lib.hid (show ∀ w2, Below W.heap.size W w2 → Ents w2 B x n cap l ∧ w2.cell? ⟨w.heap.size, 0, none⟩ = some (.string p.1) ∧ w2.cell? ⟨w.heap.size, 1, none⟩ = some (.int .i64 p.2) ∧ Below w.heap.size w w2 from fun w2 hb => by
    have h1 : w2.heap[w.heap.size]? = _ := (hb.block _ (by omega)).trans HN.out
    exact ⟨HH.out.below hb hBW, (two_at h1).1, (two_at h1).2.1, HB0.out.trans (hb.mono (by omega))⟩)
  clear hnew hH hB0 h
  cases hs : brsB l many
  · have HF := Lib.hid (putBr_bad (e := p) hs)
    go_enter Try.func16, Try.ntmps16
    go_wp2_with fail
    refine (implBranchesValid_any _ _ _ _ many _ _ HH.out hBW hz).mono ?_
    rintro e w2 ⟨rfl, hb⟩
    have HB2 := Lib.hid (HK.out _ hb).2.2.2
    rw [hs]
    clear hb
    go_wp2_with fail
    go_ret2
    exact newBrB_put HF.out (OwnL.nil _ _ _ _ _) HB2.out
  have hn3 : n ≤ 6 := by have := (brsB_at hs).2.1; have := HLL.out; omega
  have HS8 := Lib.hid (show ∀ k, (nthE l k).1.size ≤ 2000000 from fun k => by
    by_cases hk : k < l.length
    · have := word_size (okBr_at ((brsB_at hs).2.2 k hk)).1; omega
    · unfold nthE; rw [List.getD_eq_getElem?_getD, List.getElem?_eq_none (by omega)]; simp)
  have HAS := Lib.hid (ascE_of (brs_asc hs))
  obtain ⟨L, hL⟩ : ∃ L, L = putInE l p := ⟨_, rfl⟩
  have hzL := put_sizes hL hz (show p.1.size ≤ maxLen by unfold maxLen; omega)
  have HLD := Lib.hid hL
  cases hh : hereE p.1 l
  · -- the name is new
    have HI := Lib.hid (show L = l.take (atE p.1 l) ++ p :: l.drop (atE p.1 l) from hL.trans (putInE_other rfl (by
      unfold hereE at hh
      rw [Bool.and_eq_false_iff, decide_eq_false_iff_not, decide_eq_false_iff_not] at hh
      exact hh)))
    have hat := atE_le p.1 l
    generalize hk : atE p.1 l = k at *
    have hkn : k ≤ n := by have := HLL.out; omega
    clear hL
    go_enter Try.func16, Try.ntmps16
    go_wp2_with fail
    refine (implBranchesValid_any _ _ _ _ many _ _ HH.out hBW hz).mono ?_
    rintro e w1 ⟨rfl, hb1⟩
    have HB1 := Lib.hid hb1
    have HH1 := Lib.hid (HK.out _ hb1).1
    have hs1 := hb1.size
    rw [hs]
    clear hb1
    go_wp2_with fail
    refine (copyBranches_any x n cap l B _ HH1.out (by omega) HS8.out (by omega)).mono ?_
    rintro e w2 ⟨v2, rfl, ho2, hb2⟩
    have ho2' := ho2.mono hs1
    obtain ⟨x2, n2, c2, rfl, hl2, hlst2⟩ := own_lstBr ho2'
    have HB2 := Lib.hid (HB1.out.trans (hb2.mono hs1))
    have hs2 := HB2.out.size
    have HL2 := Lib.hid hlst2
    have HO2 := Lib.hid ho2'
    have hc0 := (HK.out _ HB2.out).2.1
    clear hb2 ho2 ho2' hlst2
    go_wp2_with fail
    refine (placeOfBranch_any x2 n2 c2 l p.1 _ _ HL2.out (Nat.le_refl _) HAS.out (by have := HLL.out; omega)).mono ?_
    rintro e w3 ⟨rfl, hb3⟩
    have HB3 := Lib.hid (HB2.out.trans (hb3.mono hs2))
    have HO3 := Lib.hid (HO2.out.below hb3)
    have hs3 := HB3.out.size
    have hd0 := (HK.out _ HB3.out).2.1
    have hd1 := (HK.out _ HB3.out).2.2.1
    rw [hh, hk]
    clear hb3 hc0
    go_wp2_with fail
    refine (copyBranch_any p _ hp).mono ?_
    rintro e w4 ⟨rfl, hb4⟩
    have HB4 := Lib.hid (HB3.out.trans (hb4.mono hs3))
    have HO4 := Lib.hid (HO3.out.below hb4)
    have hs4 := HB4.out.size
    clear hb4 hd0 hd1
    go_wp2_with fail
    refine (insertBr_any x2 n2 c2 k w4.heap.size W.heap.size l p _ (HO4.out.alloc _) hl2 (OneAt.new enG 29 rfl _ _ rfl) (fun e => by have := (World.ownsRow.lt HO4.out _ e).2; omega) (by have := HLL.out; omega) (by have := HLL.out; omega) (by simp; omega)).mono ?_
    rintro e w5 ⟨v5, rfl, ho5, hb5⟩
    rw [← HI.out] at ho5
    obtain ⟨x5, n5, c5, rfl, hl5, hlst5⟩ := own_lstBr ho5
    have HB5 := Lib.hid ((HB4.out.alloc hs4 _).trans hb5)
    have hs5 := HB5.out.size
    have HO5 := Lib.hid ho5
    have HL5 := Lib.hid hlst5
    clear ho5 hb5 hlst5
    cases hq : brsB L many
    · have HF := Lib.hid (putBr_no hs (by rw [← HLD.out]; exact hq))
      go_wp2_with fail
      refine (implBranchesValid_any x5 n5 c5 L many _ _ HL5.out (Nat.le_refl _) hzL).mono ?_
      rintro e w6 ⟨rfl, hb6⟩
      have HB6 := Lib.hid (HB5.out.trans (hb6.mono hs5))
      have hs6 := HB6.out.size
      have HH6 := Lib.hid (HK.out _ HB6.out).1
      rw [hq]
      clear hb6
      go_wp2_with fail
      refine (copyBranches_any x n cap l B _ HH6.out (by omega) HS8.out (by omega)).mono ?_
      rintro e w7 ⟨v7, rfl, ho7, hb7⟩
      have HO7 := Lib.hid (ho7.mono (show w.heap.size ≤ _ by omega))
      have HB7 := Lib.hid (HB6.out.trans (hb7.mono hs6))
      clear ho7 hb7
      go_wp2_with fail
      go_ret2
      exact newBrB_put HF.out HO7.out (HK.out _ HB7.out).2.2.2
    · have HF := Lib.hid ((putBr_yes hs (by rw [← HLD.out]; exact hq)).trans (show (putInE l p, true) = (L, true) by rw [← HLD.out]))
      go_wp2_with fail
      refine (implBranchesValid_any x5 n5 c5 L many _ _ HL5.out (Nat.le_refl _) hzL).mono ?_
      rintro e w6 ⟨rfl, hb6⟩
      have HB6 := Lib.hid (HB5.out.trans (hb6.mono hs5))
      have HO6 := Lib.hid ((HO5.out.below hb6).mono (show w.heap.size ≤ _ by omega))
      rw [hq]
      clear hb6
      go_wp2_with fail
      go_ret2
      exact newBrB_put HF.out HO6.out (HK.out _ HB6.out).2.2.2
  · -- the name has a print
    have hk0 : atE p.1 l < l.length ∧ (nthE l (atE p.1 l)).1 = p.1 := by
      unfold hereE at hh
      rwa [Bool.and_eq_true, decide_eq_true_eq, decide_eq_true_eq] at hh
    have HI := Lib.hid (show L = l.take (atE p.1 l) ++ p :: l.drop (atE p.1 l + 1) from hL.trans (putInE_at rfl hk0.1 hk0.2))
    generalize hk : atE p.1 l = k at *
    obtain ⟨hkl, hkn⟩ := hk0
    have HKN := Lib.hid hkn
    clear hL hkn
    go_enter Try.func16, Try.ntmps16
    go_wp2_with fail
    refine (implBranchesValid_any _ _ _ _ many _ _ HH.out hBW hz).mono ?_
    rintro e w1 ⟨rfl, hb1⟩
    have HB1 := Lib.hid hb1
    have HH1 := Lib.hid (HK.out _ hb1).1
    have hs1 := hb1.size
    rw [hs]
    clear hb1
    go_wp2_with fail
    refine (copyBranches_any x n cap l B _ HH1.out (by omega) HS8.out (by omega)).mono ?_
    rintro e w2 ⟨v2, rfl, ho2, hb2⟩
    have ho2' := ho2.mono hs1
    obtain ⟨x2, n2, c2, rfl, hl2, hlst2⟩ := own_lstBr ho2'
    obtain ⟨g, cur, rfl, hg, _, _, hc2, hcm, _, _⟩ := own_partsBr ho2' (by omega)
    unfold maxLen at hcm
    have HB2 := Lib.hid (HB1.out.trans (hb2.mono hs1))
    have hs2 := HB2.out.size
    have HL2 := Lib.hid hlst2
    have HO2 := Lib.hid ho2'
    have hc0 := (HK.out _ HB2.out).2.1
    clear hb2 ho2 ho2' hlst2
    go_wp2_with fail
    refine (placeOfBranch_any (some ⟨g, 0, none⟩) n2 c2 l p.1 _ _ HL2.out (Nat.le_refl _) HAS.out (by have := HLL.out; omega)).mono ?_
    rintro e w3 ⟨rfl, hb3⟩
    have HB3 := Lib.hid (HB2.out.trans (hb3.mono hs2))
    have ho3 := HO2.out.below hb3
    have hs3 := HB3.out.size
    have hd1 := (HK.out _ HB3.out).2.2.1
    rw [hh, hk]
    obtain ⟨hcell, hfr, ho4, hg4⟩ := own_setNumber ho3 hl2 (by omega) HKN.out
    rw [← HI.out] at ho4
    obtain ⟨W4, hW4⟩ : ∃ W4, W4 = w3.setCell ⟨g, k * 2 + 1, none⟩ (.int .i64 p.2) := ⟨_, rfl⟩
    rw [← hW4] at ho4 hg4
    have HW4 := Lib.hid hW4
    have HB4 := Lib.hid (HB3.out.grown hg4 hs3 (fun j e => by simp at e; omega))
    have hs4 := HB4.out.size
    obtain ⟨x5, n5, c5, he5, hl5, hlst5⟩ := own_lstBr ho4
    simp only [Value.slice.injEq] at he5
    obtain ⟨rfl, rfl, rfl⟩ := he5
    have HL5 := Lib.hid hlst5
    have HO5 := Lib.hid ho4
    clear hb3 hc0 ho3 ho4 hg4 hW4 hlst5
    cases hq : brsB L many
    · have HF := Lib.hid (putBr_no hs (by rw [← HLD.out]; exact hq))
      go_wp2_with fail
      rw [← HW4.out]
      refine (implBranchesValid_any _ _ _ L many _ _ HL5.out (Nat.le_refl _) hzL).mono ?_
      rintro e w6 ⟨rfl, hb6⟩
      have HB6 := Lib.hid (HB4.out.trans (hb6.mono hs4))
      have hs6 := HB6.out.size
      have HH6 := Lib.hid (HK.out _ HB6.out).1
      rw [hq]
      clear hb6
      go_wp2_with fail
      refine (copyBranches_any x n cap l B _ HH6.out (by omega) HS8.out (by omega)).mono ?_
      rintro e w7 ⟨v7, rfl, ho7, hb7⟩
      have HO7 := Lib.hid (ho7.mono (show w.heap.size ≤ _ by omega))
      have HB7 := Lib.hid (HB6.out.trans (hb7.mono hs6))
      clear ho7 hb7
      go_wp2_with fail
      go_ret2
      exact newBrB_put HF.out HO7.out (HK.out _ HB7.out).2.2.2
    · have HF := Lib.hid ((putBr_yes hs (by rw [← HLD.out]; exact hq)).trans (show (putInE l p, true) = (L, true) by rw [← HLD.out]))
      go_wp2_with fail
      rw [← HW4.out]
      refine (implBranchesValid_any _ _ _ L many _ _ HL5.out (Nat.le_refl _) hzL).mono ?_
      rintro e w6 ⟨rfl, hb6⟩
      have HB6 := Lib.hid (HB4.out.trans (hb6.mono hs4))
      have HO6 := Lib.hid ((HO5.out.below hb6).mono (show w.heap.size ≤ _ by omega))
      rw [hq]
      clear hb6
      go_wp2_with fail
      go_ret2
      exact newBrB_put HF.out HO6.out (HK.out _ HB6.out).2.2.2
end Go.Proofs.Ytiniadlpgomgjaa
/-
  Contracts of chapter 15's program: a branch is dropped.
-/
namespace Go.Proofs.Ytiniadlpgomgjaa
open Go.RowKit
set_option linter.unusedVariables false
theorem dropBr_found {l : List Ent} {many : Int} {nm : ByteArray} {k : Nat} (h : brsB l many = true) (hk : k < l.length) (hn : (nthE l k).1 = nm) : dropBr l many nm = (l.take k ++ l.drop (k + 1), true) := by
  rw [dropBr_ok h, lessE_found (ascE_of (brs_asc h)) hk hn]
  congr 1
  rw [decide_eq_true_eq, List.length_append, List.length_take, List.length_drop]; omega
theorem dropBr_none {l : List Ent} {many : Int} {nm : ByteArray} (h : brsB l many = true) (hh : hereE nm l = false) : dropBr l many nm = (l, false) := by
  rw [dropBr_ok h, lessE_none (ascE_of (brs_asc h)) hh]
  congr 1
  rw [decide_eq_false_iff_not]; omega
set_option maxHeartbeats 2000000 in
theorem implDropBranch_any (x : Option Addr) (n cap : Nat) (l : List Ent) (many : Int) (nm : ByteArray) (B : Nat) (w : World) (h : Ents w B x n cap l) (hB : B ≤ w.heap.size) (hz : ∀ k, (nthE l k).1.size ≤ maxLen) (hp : nm.size ≤ maxLen) :
    Calls Try.prog 19 #[.slice x n cap, .int .i64 many, .string nm] w (NewBrB (dropBr l many nm).1 (dropBr l many nm).2 w) := by
  have HLL := Lib.hid h.len
  have HH := Lib.hid h
  clear h
  cases hs : brsB l many
  · have HF := Lib.hid (dropBr_bad (nm := nm) hs)
    go_enter Try.func19, Try.ntmps19
    go_wp2_with fail
    refine (implBranchesValid_any _ _ _ _ many _ _ HH.out hB hz).mono ?_
    rintro e w2 ⟨rfl, hb⟩
    have HB2 := Lib.hid hb
    rw [hs]
    clear hb
    go_wp2_with fail
    go_ret2
    exact newBrB_put HF.out (OwnL.nil _ _ _ _ _) HB2.out
  have hn3 : n ≤ 6 := by have := (brsB_at hs).2.1; have := HLL.out; omega
  have HS8 := Lib.hid (show ∀ k, (nthE l k).1.size ≤ 2000000 from fun k => by
    by_cases hk : k < l.length
    · have := word_size (okBr_at ((brsB_at hs).2.2 k hk)).1; omega
    · unfold nthE; rw [List.getD_eq_getElem?_getD, List.getElem?_eq_none (by omega)]; simp)
  have HAS := Lib.hid (ascE_of (brs_asc hs))
  cases hh : hereE nm l
  · have HF := Lib.hid (dropBr_none hs hh)
    go_enter Try.func19, Try.ntmps19
    go_wp2_with fail
    refine (implBranchesValid_any _ _ _ _ many _ _ HH.out hB hz).mono ?_
    rintro e w1 ⟨rfl, hb1⟩
    have HB1 := Lib.hid hb1
    have HH1 := Lib.hid (HH.out.below hb1 hB)
    have hs1 := hb1.size
    rw [hs]
    clear hb1
    go_wp2_with fail
    refine (copyBranches_any x n cap l B _ HH1.out (by omega) HS8.out (by omega)).mono ?_
    rintro e w2 ⟨v2, rfl, ho2, hb2⟩
    have ho2' := ho2.mono hs1
    obtain ⟨x2, n2, c2, rfl, hl2, hlst2⟩ := own_lstBr ho2'
    have HB2 := Lib.hid (HB1.out.trans (hb2.mono hs1))
    have hs2 := HB2.out.size
    have HL2 := Lib.hid hlst2
    have HO2 := Lib.hid ho2'
    clear hb2 ho2 ho2' hlst2
    go_wp2_with fail
    refine (placeOfBranch_any x2 n2 c2 l nm _ _ HL2.out (Nat.le_refl _) HAS.out (by have := HLL.out; omega)).mono ?_
    rintro e w3 ⟨rfl, hb3⟩
    have HB3 := Lib.hid (HB2.out.trans (hb3.mono hs2))
    have HO3 := Lib.hid (HO2.out.below hb3)
    rw [hh]
    clear hb3
    go_wp2_with fail
    go_ret2
    exact newBrB_put HF.out HO3.out HB3.out
  · have hk0 : atE nm l < l.length ∧ (nthE l (atE nm l)).1 = nm := by
      unfold hereE at hh
      rwa [Bool.and_eq_true, decide_eq_true_eq, decide_eq_true_eq] at hh
    have HF := Lib.hid (dropBr_found hs hk0.1 hk0.2)
    generalize hk : atE nm l = k at *
    obtain ⟨hkl, hkn⟩ := hk0
    clear hkn
    have hw1 : IntKind.i64.wrap ((k : Int) + 1) = (k : Int) + 1 := by rw [IntKind.wrap_i64]; have := HLL.out; omega
    go_enter Try.func19, Try.ntmps19
    go_wp2_with fail
    refine (implBranchesValid_any _ _ _ _ many _ _ HH.out hB hz).mono ?_
    rintro e w1 ⟨rfl, hb1⟩
    have HB1 := Lib.hid hb1
    have HH1 := Lib.hid (HH.out.below hb1 hB)
    have hs1 := hb1.size
    rw [hs]
    clear hb1
    go_wp2_with fail
    refine (copyBranches_any x n cap l B _ HH1.out (by omega) HS8.out (by omega)).mono ?_
    rintro e w2 ⟨v2, rfl, ho2, hb2⟩
    have ho2' := ho2.mono hs1
    obtain ⟨x2, n2, c2, rfl, hl2, hlst2⟩ := own_lstBr ho2'
    have HB2 := Lib.hid (HB1.out.trans (hb2.mono hs1))
    have hs2 := HB2.out.size
    have HL2 := Lib.hid hlst2
    have HO2 := Lib.hid ho2'
    clear hb2 ho2 ho2' hlst2
    go_wp2_with fail
    refine (placeOfBranch_any x2 n2 c2 l nm _ _ HL2.out (Nat.le_refl _) HAS.out (by have := HLL.out; omega)).mono ?_
    rintro e w3 ⟨rfl, hb3⟩
    have HB3 := Lib.hid (HB2.out.trans (hb3.mono hs2))
    have HO3 := Lib.hid (HO2.out.below hb3)
    have hs3 := HB3.out.size
    rw [hh, hk]
    clear hb3
    go_wp2_with fail
    refine (deleteBr_any x2 n2 c2 k w.heap.size l _ HO3.out hl2 (by omega) (by have := HLL.out; omega) hs3).mono ?_
    rintro e w4 ⟨v4, rfl, ho4, hb4⟩
    have HO4 := Lib.hid ho4
    have HB4 := Lib.hid (HB3.out.trans hb4)
    clear ho4 hb4
    go_wp2_with fail
    go_ret2
    exact newBrB_put HF.out HO4.out HB4.out
end Go.Proofs.Ytiniadlpgomgjaa
/-
  Contracts of chapter 15's program: the version of a branch.
-/
namespace Go.Proofs.Ytiniadlpgomgjaa
open Go.RowKit
set_option linter.unusedVariables false
theorem atBr_here {l : List Ent} {many : Int} {nm : ByteArray} (hv : brsB l many = true) (hk : atE nm l < l.length) (hn : (nthE l (atE nm l)).1 = nm) : atBr l many nm = (nthE l (atE nm l)).2 := by
  refine atBr_some hv (findE_in (brs_asc hv) ?_)
  have h := List.getElem_mem hk
  rw [← nthE_get hk] at h
  rwa [← show nthE l (atE nm l) = (nm, (nthE l (atE nm l)).2) from Prod.ext hn rfl]
theorem atBr_gone {l : List Ent} {many : Int} {nm : ByteArray} (hv : brsB l many = true) (hh : hereE nm l = false) : atBr l many nm = -1 := by
  refine atBr_none (findE_not fun q hq => ?_)
  have h := lessE_none (ascE_of (brs_asc hv)) hh
  rw [← h] at hq
  exact (mem_less.1 hq).2
set_option maxHeartbeats 1000000 in
theorem implBranchAt_any (x : Option Addr) (n cap : Nat) (l : List Ent) (many : Int) (nm : ByteArray) (B : Nat) (w : World) (h : Ents w B x n cap l) (hB : B ≤ w.heap.size) (hz : ∀ k, (nthE l k).1.size ≤ maxLen) (hp : nm.size ≤ maxLen) :
    Calls Try.prog 20 #[.slice x n cap, .int .i64 many, .string nm] w (BelowI (atBr l many nm) w) := by
  have HLL := Lib.hid h.len
  have HH := Lib.hid h
  have hmx := h.max
  have hle := h.le
  unfold maxLen at hmx
  clear h
  cases hs : brsB l many
  · have HF := Lib.hid (atBr_bad (nm := nm) hs)
    go_enter Try.func20, Try.ntmps20
    go_wp2_with fail
    refine (implBranchesValid_any _ _ _ _ many _ _ HH.out hB hz).mono ?_
    rintro e w2 ⟨rfl, hb⟩
    have HB2 := Lib.hid hb
    rw [hs]
    clear hb
    go_wp2_with fail
    go_ret
    exact ⟨ret_int HF.out.symm, HB2.out⟩
  have hn6 : n ≤ 6 := by have := (brsB_at hs).2.1; have := HLL.out; omega
  have HAS := Lib.hid (ascE_of (brs_asc hs))
  cases hh : hereE nm l
  · have HF := Lib.hid (atBr_gone hs hh)
    go_enter Try.func20, Try.ntmps20
    go_wp2_with fail
    refine (implBranchesValid_any _ _ _ _ many _ _ HH.out hB hz).mono ?_
    rintro e w2 ⟨rfl, hb⟩
    have HB2 := Lib.hid hb
    have HH2 := Lib.hid (HH.out.below hb hB)
    have hs2 := hb.size
    rw [hs]
    clear hb
    go_wp2_with fail
    refine (placeOfBranch_any x n cap l nm B _ HH2.out (by omega) HAS.out (by omega)).mono ?_
    rintro e w3 ⟨rfl, hb3⟩
    have HB3 := Lib.hid (HB2.out.trans (hb3.mono hs2))
    rw [hh]
    clear hb3
    go_wp2_with fail
    go_ret
    exact ⟨ret_int HF.out.symm, HB3.out⟩
  · have hk0 : atE nm l < l.length ∧ (nthE l (atE nm l)).1 = nm := by
      unfold hereE at hh
      rwa [Bool.and_eq_true, decide_eq_true_eq, decide_eq_true_eq] at hh
    have HF := Lib.hid (atBr_here hs hk0.1 hk0.2)
    generalize hk : atE nm l = k at *
    have hkn : k < n := by have := HLL.out; omega
    clear hk0
    go_enter Try.func20, Try.ntmps20
    go_wp2_with fail
    refine (implBranchesValid_any _ _ _ _ many _ _ HH.out hB hz).mono ?_
    rintro e w2 ⟨rfl, hb⟩
    have HB2 := Lib.hid hb
    have HH2 := Lib.hid (HH.out.below hb hB)
    have hs2 := hb.size
    rw [hs]
    clear hb
    go_wp2_with fail
    refine (placeOfBranch_any x n cap l nm B _ HH2.out (by omega) HAS.out (by omega)).mono ?_
    rintro e w3 ⟨rfl, hb3⟩
    have HB3 := Lib.hid (HB2.out.trans (hb3.mono hs2))
    obtain ⟨b0, off, rfl, hb0, hc0, hc1⟩ := (HH2.out.below hb3 (by omega)).atE hkn
    rw [hh, hk]
    clear hb3 hb0
    go_wp2_with fail
    go_ret
    exact ⟨ret_int HF.out.symm, HB3.out⟩
end Go.Proofs.Ytiniadlpgomgjaa
