/-
  Contracts of chapter 4's program: a piece is put in its place.
-/
import Derived.Test.YtpjndkiclfoanaaImpl4b
import Derived.Test.YtpjndkiclfoanaaCopy
import Derived.Test.YtpjndkiclfoanaaPieces2
import Derived.Laws.Externs
import Derived.Shelf.RegionOpenPlain
namespace Go.Proofs.Ytpjndkiclfoanaa
open Go.RowKit
set_option linter.unusedVariables false
theorem overlaps_no (w : World) (a b : Addr) (la ca lb cb : Nat) (hne : a.block ≠ b.block) (cs1 cs2 : Array Value) (h1 : w.heap[a.block]? = some (.cells cs1 28 (0, 0))) (h2 : w.heap[b.block]? = some (.cells cs2 28 (0, 0))) (hz : cs2.size ≠ 0) :
    (callFunc 66 #[.slice (some a) la ca, .slice (some b) lb cb]).run Try.prog w = .ok (.value (.bool false)) w := by
  obtain ⟨i, hi, _, hsz, _⟩ := eltPc.info
  rw [run_callFunc_extern Try.func66 (by kernel_rfl) (by kernel_rfl) (by kernel_rfl) (e := Extern.SlicesOverlaps.overlaps #[23, 23] #[4]) (by kernel_rfl),
    Lib.run_overlaps_apart w 23 4 28 eltPc.und 2 (fun w => by simp [sizeOf, typeInfo, hi, hsz]) a b la ca lb cb hne 28 28 cs1.size cs2.size (by simp [World.shape?, h1]) (by simp [World.shape?, h2]) hz (by simp [World.frozen?, h1]) (by simp [World.frozen?, h1])]
  rfl
/-- What putting an element in leaves. -/
def PutIn (l : List Pc) (base : Nat) (w : World) (e : Ending) (w' : World) : Prop := ∃ v', e = .returned v' ∧ OwnP w' base v' l ∧ Below base w w'
theorem own_parts {w : World} {base n cap : Nat} {x : Option Addr} {l : List Pc} (h : OwnP w base (.slice x n cap) l) (hn : 0 < n) : ∃ g cur, x = some ⟨g, 0, none⟩ ∧ base ≤ g ∧ RowIs w g 28 cur ∧ l.length = n ∧ n ≤ cap ∧ cap ≤ maxLen ∧ cur.length = cap * 2 ∧ cur.take (n * 2) = l.flatMap pcG := by
  obtain ⟨hl, h2⟩ := h
  rcases h2 with ⟨e, e'⟩ | ⟨g, cap', cur, e, hb, hg, hle, hm, hs, ht⟩
  · simp only [Value.slice.injEq] at e; omega
  · simp only [Value.slice.injEq] at e
    obtain ⟨rfl, rfl, rfl⟩ := e
    exact ⟨g, cur.toList, rfl, hb, by unfold RowIs; rw [Array.toArray_toList]; exact hg, rfl, hle, hm, by rw [Array.length_toList]; exact hs, ht⟩
set_option maxHeartbeats 4000000 in
set_option maxRecDepth 100000 in
theorem insert_any (x : Option Addr) (n cap k kE base : Nat) (l : List Pc) (q : Pc) (w : World) (ho : OwnP w base (.slice x n cap) l) (hl : l.length = n) (hE : OneAt pcG 28 w kE q) (hne : (Value.slice x n cap).ownBlock ≠ some kE) (hk : k ≤ n) (hn : n ≤ 1000) (hbase : base ≤ w.heap.size) :
    Calls Try.prog 57 #[.slice x n cap, .int .i64 k, .slice (some ⟨kE, 0, none⟩) 1 1] w (PutIn (l.take k ++ q :: l.drop k) base w) := by
  have hlst := ho.lst'
  have hle := hlst.le
  have hmx := hlst.max
  clear hlst
  unfold maxLen at hmx
  by_cases hkn : k = n
  · subst hkn
    have HF := Lib.hid (show l.take k ++ q :: l.drop k = l ++ [q] by rw [List.take_of_length_le (by omega), List.drop_of_length_le (by omega)])
    have HO := Lib.hid ho
    have HE := Lib.hid hE
    have hln : l.length ≤ 2000000 := by omega
    clear hl hE hne ho
    go_enter Try.func57, Try.ntmps57
    go_wp2_with (at_builtin; refine wpList_appL eltPc encPc HO.out HE.out.lst hln (by decide) hbase rfl _ _ rfl rfl rfl ?_; intro v' w' hown hgrow hat; have HOWN := Lib.hid hown; have HGR := Lib.hid hgrow; clear hown hgrow hat)
    all_goals
      go_ret
      exact ⟨_, rfl, by rw [HF.out]; exact HOWN.out, (Below.refl _ _).grown HGR.out hbase (fun j e => HO.out.at j e)⟩
  · obtain ⟨g, cur, rfl, hg, hrow, _, _, _, hcl, hct⟩ := own_parts ho (by omega)
    have hkn' : k < n := by omega
    have htl : ((l.drop k).flatMap pcG).length = (n - k) * 2 := by rw [encPc.length, List.length_drop, hl]
    have hcur : ∀ j u, (l.flatMap pcG)[j]? = some u → cur[j]? = some u := fun j u h1 => by
      rw [← hct, List.getElem?_take] at h1
      split at h1
      · exact h1
      · cases h1
    have hcurD : ∀ j u, ((l.drop k).flatMap pcG)[j]? = some u → cur[k * 2 + j]? = some u := fun j u hj => hcur _ _ (by
      rw [← List.getElem?_drop, flat_drop encPc]; exact hj)
    have hcurT : ∀ j u, ((l.take k).flatMap pcG)[j]? = some u → cur[j]? = some u := fun j u hj => hcur _ _ (by
      have h2 : l.flatMap pcG = (l.take k).flatMap pcG ++ (l.drop k).flatMap pcG := by rw [← List.flatMap_append, List.take_append_drop]
      rw [h2, List.getElem?_append_left (List.getElem?_eq_some_iff.1 hj).1]; exact hj)
    have HROW := Lib.hid hrow
    have mixed : Try.prog.follows Departure.mixedOrders = true := by kernel_rfl
    have hw1 : IntKind.i64.wrap ((k : Int) + 1) = (k : Int) + 1 := by rw [IntKind.wrap_i64]; omega
    have htn : ((k : Int) + 1).toNat = k + 1 := by omega
    have h11 := encPc.oneAll (l.drop k)
    have h12 := encPc.one q
    have hz2 : ¬ ((k : Int) = (n : Int)) := by omega
    have hb4 : ¬ (cap = k) := by omega
    have hb5 : (0 : Int) ≤ (k : Int) + 1 := by omega
    obtain ⟨cs1, hc1, hE1⟩ := hE
    have hgE : kE ≠ g := fun e => hne (by rw [e]; rfl)
    have hb6 : k ≤ n := hk
    by_cases hroom : cap < n + 1
    · have hz3 : (cap : Int) < (n : Int) + 1 := by omega
      have hb3 : (k : Int) ≤ (n : Int) := by omega
      have HKK := Lib.hid (show (n : Int) + 1 - (k : Int) = ((n + 1 - k : Nat) : Int) by omega)
      have htl0 : ((l.take k).flatMap pcG).length = k * 2 := by rw [encPc.length, List.length_take, Nat.min_eq_left (by omega)]
      have hold : ∀ j v, ((l.take k).flatMap pcG)[j]? = some v → w.cell? ((⟨g, 0, none⟩ : Addr).add j) = some v := fun j v hj => by
        rw [addr_add, Nat.zero_add]; exact RowIs.cell HROW.out (hcurT j v hj)
      have hkpos : 0 < n + 1 - k := by omega
      have hroomZ : cap < k + (n + 1 - k) := by omega
      have hsumZ : k + (n + 1 - k) ≤ 2000000 := by omega
      have hgw : g < w.heap.size := (Array.getElem?_eq_some_iff.1 hrow).1
      have hkw : kE < w.heap.size := (Array.getElem?_eq_some_iff.1 hE1).1
      have HTL := Lib.hid htl; have HTL0 := Lib.hid htl0; have HOLD := Lib.hid hold; have HCD := Lib.hid hcurD
      have hik : k + (n + 1 - k) = n + 1 := by omega
      have hgN : g ≠ w.heap.size := by omega
      have hkN : kE ≠ w.heap.size := by omega
      have HS2 := Lib.hid (show ∀ W : World, W.heap[kE]? = w.heap[kE]? → ∀ j v, (pcG q)[j]? = some v → W.cell? ((⟨kE, 0, none⟩ : Addr).add j) = some v from fun W hW j v hj => by
        rw [addr_add, Nat.zero_add, cell_of_row W kE j cs1 28 (0, 0) (hW.trans hE1)]
        rw [← hc1] at hj; simpa using hj)
      have HS3 := Lib.hid (show ∀ W : World, W.heap[g]? = w.heap[g]? → ∀ j v, ((l.drop k).flatMap pcG)[j]? = some v → W.cell? ((⟨g, k * 2, none⟩ : Addr).add j) = some v from fun W hW j v hj => by
        rw [addr_add]; exact RowIs.cell (show RowIs W g 28 cur from hW.trans HROW.out) (hcurD j v hj))
      have HFIN := Lib.hid (show ∀ (rest : List Value) (G : Nat) (w' : World), rest.length = (G - k) * 2 → n + 1 ≤ G → G ≤ maxLen → RowIs w' w.heap.size 28 (laid (laid ((l.take k).flatMap pcG ++ rest) (k * 2) (pcG q)) ((k + 1) * 2) ((l.drop k).flatMap pcG)) → OwnP w' base (.slice (some ⟨w.heap.size, 0, none⟩) (n + 1) G) (l.take k ++ q :: l.drop k) from fun rest G w' hr hG hGm hrow' => by
        obtain ⟨A, X, Y, Z, hL, hAt, hA, hX, hY⟩ := parts4 ((l.take k).flatMap pcG ++ rest) (k * 2) 2 ((n - k) * 2) (by rw [List.length_append, htl0, hr]; omega)
        have hAl : A = (l.take k).flatMap pcG := by rw [hAt, List.take_left' htl0]
        have hfin : laid (laid ((l.take k).flatMap pcG ++ rest) (k * 2) (pcG q)) ((k + 1) * 2) ((l.drop k).flatMap pcG) = A ++ pcG q ++ (l.drop k).flatMap pcG ++ Z := by
          rw [hL]; exact laid_head hA (by omega) (by rw [hX]; rfl) (by rw [htl, hY])
        have hLl := congrArg List.length hL
        simp only [List.length_append, htl0, hr, hA, hX, hY] at hLl
        refine ⟨by rw [encPc.length], .inr ⟨w.heap.size, G, _, ?_, hbase, hrow', by simp; omega, hGm, ?_, ?_⟩⟩
        · simp; omega
        · rw [hfin]; simp [hA, htl, pcG]; omega
        · rw [hfin, hAl]
          have e : (l.take k ++ q :: l.drop k).flatMap pcG = (l.take k).flatMap pcG ++ pcG q ++ (l.drop k).flatMap pcG := by rw [List.flatMap_append, List.flatMap_cons, List.append_assoc]
          rw [e]
          refine List.take_left' ?_
          rw [← e, encPc.length])
      have hn2 : (pcG q).length = Nat.min 1 (n + 1 - k) * 2 := by show 2 = min 1 (n + 1 - k) * 2; omega
      have hn3 : ((l.drop k).flatMap pcG).length = Nat.min (n - k) (n + 1 - (k + 1)) * 2 := by rw [htl]; show _ = min (n - k) (n + 1 - (k + 1)) * 2; omega
      clear htl htl0 hold hcurD hcurT hcur hrow hct ho hne
      go_enter Try.func57, Try.ntmps57
      go_wp2_with (first
        | (at_builtin; refine wpList_appZ eltPc Try.underlying3 (x := ⟨g, 0, none⟩) (m := k) (c := cap) (k := n + 1 - k) HTL0.out HOLD.out hkpos hroomZ hsumZ HKK.out rfl _ _ rfl rfl rfl ?_; intro w1 G rest hr1 hlr hGn hGm hg1; rw [hik] at hGn; rw [hik]; have HR1 := Lib.hid hr1; have HG1 := Lib.hid hg1; have HLR := Lib.hid hlr; have hG1 : ¬ (G = k) := (by omega); have hG2 : ¬ (G = k + 1) := (by omega); have HGM := Lib.hid hGm; have hsrc2 := HS2.out w1 (HG1.out.block kE hkw (by simp)); have hfit2 : k * 2 + (pcG q).length ≤ ((l.take k).flatMap pcG ++ rest).length := (by rw [List.length_append, HTL0.out, HLR.out]; show k * 2 + 2 ≤ _; omega); clear hr1 hlr hGm hg1)
        | (refine wpList_copyK eltPc (g := w.heap.size) (off := k * 2) (dLen := n + 1 - k) (sLen := 1) (ad := ⟨kE, 0, none⟩) (cs := pcG q) (cur := (l.take k).flatMap pcG ++ rest) (te := 28) HR1.out hn2 hsrc2 hfit2 h12 rfl _ _ rfl rfl rfl ?_; intro w2 _ hr2 hg2; have HR2 := Lib.hid hr2; have HG2 := Lib.hid hg2; clear hr2 hg2))
      have hsrc3 := HS3.out w2.drew ((HG2.out.block g (by have := HG1.out.size; omega) (by simpa using hgN)).trans (HG1.out.block g hgw (by simp)))
      have hfit3 : (k + 1) * 2 + ((l.drop k).flatMap pcG).length ≤ (laid ((l.take k).flatMap pcG ++ rest) (k * 2) (pcG q)).length := by
        rw [laid_len hfit2, List.length_append, HTL0.out, HLR.out, HTL.out]; omega
      have hb7 : (k : Int) ≤ (n : Int) + 1 := by omega
      go_region_law_o (refine step_copyK eltPc (g := w.heap.size) (off := (k + 1) * 2) (dLen := n + 1 - (k + 1)) (sLen := n - k) (dCap := G - (k + 1)) (sCap := cap - k) (ad := ⟨g, k * 2, none⟩) (cs := (l.drop k).flatMap pcG) (cur := laid ((l.take k).flatMap pcG ++ rest) (k * 2) (pcG q)) (te := 28) HR2.out hn3 hsrc3 hfit3 h11 rfl _ _ rfl (by simp [Act.eval, Act.put]) (by simp [Act.eval, Act.put]) ?_; intro w3 _ hr3 hg3; have HR3 := Lib.hid hr3; have HG3 := Lib.hid hg3; clear hr3 hg3)
      go_wp2
      go_ret
      exact ⟨_, rfl, HFIN.out _ _ _ HLR.out hGn HGM.out HR3.out, (show Below base w w2.drew from below_drewN (((Below.refl base w).grown HG1.out hbase (fun j e => by simp at e)).grown HG2.out (Nat.le_trans hbase HG1.out.size) (fun j e => by simp at e; omega)) 1).grown HG3.out (Nat.le_trans hbase (Nat.le_trans HG1.out.size HG2.out.size)) (fun j e => by simp at e; omega)⟩
    · obtain ⟨A, X, Y, Z, hL, hAt, hA, hX, hY⟩ := parts4 cur (k * 2) 2 ((n - k) * 2) (by omega)
      have hfin : laid (laid cur ((k + 1) * 2) ((l.drop k).flatMap pcG)) (k * 2) (pcG q) = A ++ pcG q ++ (l.drop k).flatMap pcG ++ Z := by
        rw [hL]; exact laid_tail hA (by omega) (by rw [hX]; rfl) (by rw [htl, hY])
      have hAl : A = (l.take k).flatMap pcG := by
        rw [hAt]
        have h1 : cur.take (k * 2) = (cur.take (n * 2)).take (k * 2) := by rw [List.take_take, Nat.min_eq_left (by omega)]
        rw [h1, hct]
        have h2 : l.flatMap pcG = (l.take k).flatMap pcG ++ (l.drop k).flatMap pcG := by rw [← List.flatMap_append, List.take_append_drop]
        rw [h2, List.take_left' (by rw [encPc.length, List.length_take]; omega)]
      have hend : ∀ w', RowIs w' g 28 (laid (laid cur ((k + 1) * 2) ((l.drop k).flatMap pcG)) (k * 2) (pcG q)) → OwnP w' base (.slice (some ⟨g, 0, none⟩) (n + 1) cap) (l.take k ++ q :: l.drop k) := fun w' hr => by
        refine ⟨by rw [encPc.length], .inr ⟨g, cap, _, ?_, hg, hr, by simp; omega, by unfold maxLen; omega, ?_, ?_⟩⟩
        · simp; omega
        · have hLl := congrArg List.length hL
          simp only [List.length_append, hA, hX, hY] at hLl
          rw [hfin]; simp [hA, htl, pcG]; omega
        · rw [hfin, hAl]
          have e : (l.take k ++ q :: l.drop k).flatMap pcG = (l.take k).flatMap pcG ++ pcG q ++ (l.drop k).flatMap pcG := by rw [List.flatMap_append, List.flatMap_cons, List.append_assoc]
          rw [e]
          refine List.take_left' ?_
          rw [← e, encPc.length]
      have hov : ∀ W lb cb, (W.heap[kE]? = w.heap[kE]?) → (W.heap[g]? = w.heap[g]?) → (callFunc 66 #[.slice (some ⟨kE, 0, none⟩) 1 1, .slice (some ⟨g, (k + 1) * 2, none⟩) lb cb]).run Try.prog W = .ok (.value (.bool false)) W := fun W lb cb h1 h2 =>
        overlaps_no W _ _ _ _ _ _ hgE cs1 cur.toArray (h1.trans hE1) (h2.trans hrow) (by simp [hcl]; omega)
      have HEND := Lib.hid hend
      have HCUR := Lib.hid hcurD
      have HTL := Lib.hid htl
      clear hend hAl hfin hcur hcurD hcurT htl hL hAt hA hX hY hne
      have hb2 : ¬ (cap = k + 1) := by omega
      have hz3 : ¬ ((cap : Int) < (n : Int) + 1) := by omega
      have hb3 : (k : Int) ≤ (n : Int) + 1 := by omega
      have hn1 : ((l.drop k).flatMap pcG).length = Nat.min (n + 1 - k) (n + 1 - (k + 1)) * 2 := by
        rw [HTL.out]; show _ = min (n + 1 - k) (n + 1 - (k + 1)) * 2; omega
      have hsrc1 : ∀ j v, ((l.drop k).flatMap pcG)[j]? = some v → w.drew.cell? ((⟨g, k * 2, none⟩ : Addr).add j) = some v := fun j v hj => by
        rw [addr_add]; exact RowIs.cell HROW.out (HCUR.out j v hj)
      have hfit1 : (k + 1) * 2 + ((l.drop k).flatMap pcG).length ≤ cur.length := by rw [HTL.out, hcl]; omega
      have hn2 : (pcG q).length = Nat.min 1 (n + 1 - k) * 2 := by show 2 = min 1 (n + 1 - k) * 2; omega
      have hfit2 : k * 2 + (pcG q).length ≤ (laid cur ((k + 1) * 2) ((l.drop k).flatMap pcG)).length := by rw [laid_len hfit1, hcl]; show k * 2 + 2 ≤ _; omega
      clear hrow hct
      go_enter Try.func57, Try.ntmps57
      go_wp2_with (simp only [hov])
      go_region_law_o (go_loud (refine step_copyK eltPc (g := g) (off := (k + 1) * 2) (dLen := n + 1 - (k + 1)) (sLen := n + 1 - k) (dCap := cap - (k + 1)) (sCap := cap - k) (ad := ⟨g, k * 2, none⟩) (cs := (l.drop k).flatMap pcG) (cur := cur) (te := 28) HROW.out hn1 hsrc1 hfit1 h11 rfl _ _ rfl (by simp [Act.eval, Act.put]) (by simp [Act.eval, Act.put]) ?_; intro w2 _ hr2 hg2; have HR2 := Lib.hid hr2; have HG2 := Lib.hid hg2; clear hr2 hg2))
      have hsrc2 : ∀ j v, (pcG q)[j]? = some v → w2.cell? ((⟨kE, 0, none⟩ : Addr).add j) = some v := fun j v hj => by
        rw [addr_add, Nat.zero_add, cell_of_row w2 kE j cs1 28 (0, 0) ((HG2.out.block kE (Array.getElem?_eq_some_iff.1 hE1).1 (by simpa using hgE)).trans hE1)]
        rw [← hc1] at hj; simpa using hj
      go_wp2_with (refine wpList_copyK eltPc (g := g) (off := k * 2) (dLen := n + 1 - k) (sLen := 1) (ad := ⟨kE, 0, none⟩) (cs := pcG q) (cur := laid cur ((k + 1) * 2) ((l.drop k).flatMap pcG)) (te := 28) HR2.out hn2 hsrc2 hfit2 h12 rfl _ _ rfl rfl rfl ?_; intro w3 _ hr3 hg3; have HR3 := Lib.hid hr3; have HG3 := Lib.hid hg3; clear hr3 hg3)
      go_ret
      exact ⟨_, rfl, HEND.out _ HR3.out, ((show Below base w w.drew from ⟨rfl, rfl, rfl, Nat.le_refl _, fun _ _ => rfl⟩).grown HG2.out hbase (fun j e => by simp at e; omega)).grown HG3.out (Nat.le_trans hbase HG2.out.size) (fun j e => by simp at e; omega)⟩
end Go.Proofs.Ytpjndkiclfoanaa
