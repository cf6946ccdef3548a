/-
  Contracts of chapter 6's program: entries are copied, sought, put in and taken out.
-/
import Derived.Test.YtglajbmopiolhaaGreatDoorEntries2
import Derived.Test.YtglajbmopiolhaaGreatDoorImpl4
namespace Go.Proofs.YtglajbmopiolhaaGreatDoor
open Go.RowKit
set_option linter.unusedVariables false
def NewE (l : List Ent) (w : World) (e : Ending) (w' : World) : Prop := ∃ v, e = .returned v ∧ OwnE w' w.heap.size v l ∧ Below w.heap.size w w'
theorem cloneN_any (s : ByteArray) (w : World) (hs : s.size ≤ 2000000) : Calls Tryz.prog 97 #[.string s] w fun e w' => e = .returned (.string s) ∧ Below w.heap.size w w' := by
  go_enter Tryz.func97, Tryz.ntmps97
  go_wp2_with (go_at_call 120; refine (Tryz.stringslite_Clone s _ (by omega)).mono ?_; rintro e w' ⟨rfl, hb⟩; have HB := Lib.hid hb; clear hb)
  go_ret
  exact ⟨rfl, HB.out⟩
/-- An entry and its copy. -/
theorem copyEntry_any (p : Ent) (w : World) (hz : p.1.size ≤ 2000000) : Calls Tryz.prog 138 #[.agg #[.string p.1, .int .i64 p.2]] w fun e w' => e = .returned (.agg #[.string p.1, .int .i64 p.2]) ∧ Below w.heap.size w w' := by
  have hlay : ∀ w2, Below ((w.alloc (.cells #[.string p.1, .int .i64 p.2] 108)).alloc (.cells #[.string ⟨#[]⟩, .int .i64 0] 108)).drew.heap.size ((w.alloc (.cells #[.string p.1, .int .i64 p.2] 108)).alloc (.cells #[.string ⟨#[]⟩, .int .i64 0] 108)).drew w2 →
      w2.heap[w.heap.size]? = some (.cells #[.string p.1, .int .i64 p.2] 108 (0, 0)) ∧ w2.heap[w.heap.size + 1]? = some (.cells #[.string ⟨#[]⟩, .int .i64 0] 108 (0, 0)) ∧ Below w.heap.size w w2 := fun w2 hb => by
    have e0 : ((w.alloc (.cells #[.string p.1, .int .i64 p.2] 108)).alloc (.cells #[.string ⟨#[]⟩, .int .i64 0] 108)).drew.heap.size = w.heap.size + 2 := by simp [World.drew]
    refine ⟨(hb.block _ (by omega)).trans ?_, (hb.block _ (by omega)).trans ?_, ?_⟩
    · show ((w.alloc _).alloc _).heap[w.heap.size]? = _
      rw [Below.heap_alloc _ _ _ (by simp), heap_alloc_new]
    · show ((w.alloc _).alloc _).heap[w.heap.size + 1]? = _
      have := heap_alloc_new (w.alloc (.cells #[.string p.1, .int .i64 p.2] 108)) (.cells #[.string ⟨#[]⟩, .int .i64 0] 108)
      simpa using this
    · exact below_drewn (((Below.refl _ _).alloc (Nat.le_refl _) _).alloc (by simp) _) hb (by simp; omega)
  have HLAY := Lib.hid hlay
  clear hlay
  go_enter Tryz.func138, Tryz.ntmps138
  go_wp2
  go_region_with (go_at_call 97; refine (cloneN_any _ _ hz).mono ?_; rintro e w2 ⟨rfl, hb2⟩; obtain ⟨h1, h2, h3⟩ := HLAY.out _ hb2; obtain ⟨c0, c1, f0, f1⟩ := two_at h1; obtain ⟨d0, d1, g0, g1⟩ := two_at h2; have HB2 := Lib.hid h3; clear hb2 h1 h2 h3)
  all_goals
    go_wp2
    refine bodyPost_ret (v := .agg #[.string p.1, .int .i64 p.2]) ?_ rfl ⟨rfl, (HB2.out.setCell (p := ⟨w.heap.size + 1, 0, none⟩) (by simp) _).setCell (p := ⟨w.heap.size + 1, 1, none⟩) (by simp) _⟩
    simp [results, Tryz.results138, go_sem, d0, d1]
theorem copyEntries_any (x : Option Addr) (n cap : Nat) (l : List Ent) (B : Nat) (w : World) (h : Ents w B x n cap l) (hB : B ≤ w.heap.size) (hz : ∀ k, (nthE l k).1.size ≤ 2000000) (hn : n ≤ 1000000) : Calls Tryz.prog 123 #[.slice x n cap] w (NewE l w) := by
  have HL := Lib.hid h.len
  have HH := Lib.hid h
  have HZ := Lib.hid hz
  have hmx := h.max
  have hle := h.le
  clear h hz
  unfold maxLen at hmx
  go_enter Tryz.func123, Tryz.ntmps123
  go_wp2
  go_loopw [3, 5, 8] (fun v _ i wr => ∃ k : Nat, k ≤ n ∧ i = .int .i64 k ∧ OwnE wr w.heap.size v (l.take k) ∧ Below w.heap.size w wr) (fun _ _ i _ => n - (intOf i).toNat)
  case atStart => exact ⟨0, by omega, rfl, OwnL.nil _ _ _ _ _, Below.refl _ _⟩
  case round =>
    obtain ⟨k, hk, rfl, ho, hb⟩ := hrel
    have HO := Lib.hid ho; have HB := Lib.hid hb; clear ho hb
    have hsz := HB.out.size
    by_cases hlt : k < n
    · obtain ⟨b0, off, rfl, hb0, hc0, hc1⟩ := (HH.out.below HB.out hB).atE hlt
      have HT := Lib.hid (take_snocE (l := l) (k := k) (by have := HL.out; omega))
      have hlen : (l.take k).length ≤ 2000000 := by rw [List.length_take]; omega
      have hzk := HZ.out k
      obtain ⟨q, hq⟩ : ∃ q, q = nthE l k := ⟨_, rfl⟩
      rw [← hq] at hc0 hc1 hzk HT
      clear hq
      go_wp2_with (first
        | (go_at_call 138; refine (copyEntry_any q _ hzk).mono ?_; rintro e w2 ⟨rfl, hb2⟩; have HO2 := Lib.hid ((HO.out.alloc (.cells #[.string q.1, .int .i64 q.2] 108)).below hb2); have HB2 := Lib.hid ((HB.out.alloc hsz (.cells #[.string q.1, .int .i64 q.2] 108)).trans (hb2.mono (by simp; omega))); have hsz2 := HB2.out.size; clear hb2)
        | (at_builtin; refine wpList_app1L eltEn encEn q _ rfl HO2.out hlen hsz2 rfl _ _ rfl rfl rfl ?_; intro v' w' hown hgrow; have HW := Lib.hid hown; have HG := Lib.hid hgrow; clear hown hgrow))
      go_roundw
      case rel => exact ⟨k + 1, by omega, by go_num, by rw [HT.out]; exact HW.out, HB2.out.grown HG.out hsz2 HO2.out.at⟩
      case measure => simp [intOf]; omega
    · have HX := Lib.hid (show l.take k = l from List.take_of_length_le (by have := HL.out; omega))
      go_wp2
      go_ret
      exact ⟨_, rfl, by rw [← HX.out]; exact HO.out, HB.out⟩
theorem overlapsE_no (w : World) (a b : Addr) (la ca lb cb : Nat) (hne : a.block ≠ b.block) (cs1 cs2 : Array Value) (h1 : w.heap[a.block]? = some (.cells cs1 108 (0, 0))) (h2 : w.heap[b.block]? = some (.cells cs2 108 (0, 0))) (hz : cs2.size ≠ 0) :
    (callFunc 152 #[.slice (some a) la ca, .slice (some b) lb cb]).run Tryz.prog w = .ok (.value (.bool false)) w := by
  obtain ⟨i, hi, _, hsz, _⟩ := eltEn.info
  rw [run_callFunc_extern Tryz.func152 (by kernel_rfl) (by kernel_rfl) (by kernel_rfl) (e := Extern.SlicesOverlaps.overlaps #[104, 104] #[4]) (by kernel_rfl),
    Lib.run_overlaps_apart w 104 4 108 eltEn.und 2 (fun w => by simp [sizeOf, typeInfo, hi, hsz]) a b la ca lb cb hne 108 108 cs1.size cs2.size (by simp [World.shape?, h1]) (by simp [World.shape?, h2]) hz (by simp [World.frozen?, h1]) (by simp [World.frozen?, h1])]
  rfl
/-- What putting an element in leaves. -/
def PutInE (l : List Ent) (base : Nat) (w : World) (e : Ending) (w' : World) : Prop := ∃ v', e = .returned v' ∧ OwnE w' base v' l ∧ Below base w w'
theorem own_partsE {w : World} {base n cap : Nat} {x : Option Addr} {l : List Ent} (h : OwnE w base (.slice x n cap) l) (hn : 0 < n) : ∃ g cur, x = some ⟨g, 0, none⟩ ∧ base ≤ g ∧ RowIs w g 108 cur ∧ l.length = n ∧ n ≤ cap ∧ cap ≤ maxLen ∧ cur.length = cap * 2 ∧ cur.take (n * 2) = l.flatMap enG := by
  obtain ⟨hl, h2⟩ := h
  rcases h2 with ⟨e, e'⟩ | ⟨g, cap', cur, e, hb, hg, hle, hm, hs, ht⟩
  · simp only [Value.slice.injEq] at e; omega
  · simp only [Value.slice.injEq] at e
    obtain ⟨rfl, rfl, rfl⟩ := e
    exact ⟨g, cur.toList, rfl, hb, by unfold RowIs; rw [Array.toArray_toList]; exact hg, rfl, hle, hm, by rw [Array.length_toList]; exact hs, ht⟩
set_option maxHeartbeats 4000000 in
set_option maxRecDepth 100000 in
theorem insertE_any (x : Option Addr) (n cap k kE base : Nat) (l : List Ent) (q : Ent) (w : World) (ho : OwnE w base (.slice x n cap) l) (hl : l.length = n) (hE : OneAt enG 108 w kE q) (hne : (Value.slice x n cap).ownBlock ≠ some kE) (hk : k ≤ n) (hn : n ≤ 1000) (hbase : base ≤ w.heap.size) :
    Calls Tryz.prog 142 #[.slice x n cap, .int .i64 k, .slice (some ⟨kE, 0, none⟩) 1 1] w (PutInE (l.take k ++ q :: l.drop k) base w) := by
  have hlst := ho.lst'
  have hle := hlst.le
  have hmx := hlst.max
  clear hlst
  unfold maxLen at hmx
  by_cases hkn : k = n
  · subst hkn
    have HF := Lib.hid (show l.take k ++ q :: l.drop k = l ++ [q] by rw [List.take_of_length_le (by omega), List.drop_of_length_le (by omega)])
    have HO := Lib.hid ho
    have HE := Lib.hid hE
    have hln : l.length ≤ 2000000 := by omega
    clear hl hE hne ho
    go_enter Tryz.func142, Tryz.ntmps142
    go_wp2_with (at_builtin; refine wpList_appL eltEn encEn HO.out HE.out.lst hln (by decide) hbase rfl _ _ rfl rfl rfl ?_; intro v' w' hown hgrow hat; have HOWN := Lib.hid hown; have HGR := Lib.hid hgrow; clear hown hgrow hat)
    all_goals
      go_ret
      exact ⟨_, rfl, by rw [HF.out]; exact HOWN.out, (Below.refl _ _).grown HGR.out hbase (fun j e => HO.out.at j e)⟩
  · obtain ⟨g, cur, rfl, hg, hrow, _, _, _, hcl, hct⟩ := own_partsE ho (by omega)
    have hkn' : k < n := by omega
    have htl : ((l.drop k).flatMap enG).length = (n - k) * 2 := by rw [encEn.length, List.length_drop, hl]
    have hcur : ∀ j u, (l.flatMap enG)[j]? = some u → cur[j]? = some u := fun j u h1 => by
      rw [← hct, List.getElem?_take] at h1
      split at h1
      · exact h1
      · cases h1
    have hcurD : ∀ j u, ((l.drop k).flatMap enG)[j]? = some u → cur[k * 2 + j]? = some u := fun j u hj => hcur _ _ (by
      rw [← List.getElem?_drop, flat_drop encEn]; exact hj)
    have hcurT : ∀ j u, ((l.take k).flatMap enG)[j]? = some u → cur[j]? = some u := fun j u hj => hcur _ _ (by
      have h2 : l.flatMap enG = (l.take k).flatMap enG ++ (l.drop k).flatMap enG := by rw [← List.flatMap_append, List.take_append_drop]
      rw [h2, List.getElem?_append_left (List.getElem?_eq_some_iff.1 hj).1]; exact hj)
    have HROW := Lib.hid hrow
    have mixed : Tryz.prog.follows Departure.mixedOrders = true := by kernel_rfl
    have hw1 : IntKind.i64.wrap ((k : Int) + 1) = (k : Int) + 1 := by rw [IntKind.wrap_i64]; omega
    have htn : ((k : Int) + 1).toNat = k + 1 := by omega
    have h11 := encEn.oneAll (l.drop k)
    have h12 := encEn.one q
    have hz2 : ¬ ((k : Int) = (n : Int)) := by omega
    have hb4 : ¬ (cap = k) := by omega
    have hb5 : (0 : Int) ≤ (k : Int) + 1 := by omega
    obtain ⟨cs1, hc1, hE1⟩ := hE
    have hgE : kE ≠ g := fun e => hne (by rw [e]; rfl)
    have hb6 : k ≤ n := hk
    by_cases hroom : cap < n + 1
    · have hz3 : (cap : Int) < (n : Int) + 1 := by omega
      have hb3 : (k : Int) ≤ (n : Int) := by omega
      have HKK := Lib.hid (show (n : Int) + 1 - (k : Int) = ((n + 1 - k : Nat) : Int) by omega)
      have htl0 : ((l.take k).flatMap enG).length = k * 2 := by rw [encEn.length, List.length_take, Nat.min_eq_left (by omega)]
      have hold : ∀ j v, ((l.take k).flatMap enG)[j]? = some v → w.cell? ((⟨g, 0, none⟩ : Addr).add j) = some v := fun j v hj => by
        rw [addr_add, Nat.zero_add]; exact RowIs.cell HROW.out (hcurT j v hj)
      have hkpos : 0 < n + 1 - k := by omega
      have hroomZ : cap < k + (n + 1 - k) := by omega
      have hsumZ : k + (n + 1 - k) ≤ 2000000 := by omega
      have hgw : g < w.heap.size := (Array.getElem?_eq_some_iff.1 hrow).1
      have hkw : kE < w.heap.size := (Array.getElem?_eq_some_iff.1 hE1).1
      have HTL := Lib.hid htl; have HTL0 := Lib.hid htl0; have HOLD := Lib.hid hold; have HCD := Lib.hid hcurD
      have hik : k + (n + 1 - k) = n + 1 := by omega
      have hgN : g ≠ w.heap.size := by omega
      have hkN : kE ≠ w.heap.size := by omega
      have HS2 := Lib.hid (show ∀ W : World, W.heap[kE]? = w.heap[kE]? → ∀ j v, (enG q)[j]? = some v → W.cell? ((⟨kE, 0, none⟩ : Addr).add j) = some v from fun W hW j v hj => by
        rw [addr_add, Nat.zero_add, cell_of_row W kE j cs1 108 (0, 0) (hW.trans hE1)]
        rw [← hc1] at hj; simpa using hj)
      have HS3 := Lib.hid (show ∀ W : World, W.heap[g]? = w.heap[g]? → ∀ j v, ((l.drop k).flatMap enG)[j]? = some v → W.cell? ((⟨g, k * 2, none⟩ : Addr).add j) = some v from fun W hW j v hj => by
        rw [addr_add]; exact RowIs.cell (show RowIs W g 108 cur from hW.trans HROW.out) (hcurD j v hj))
      have HFIN := Lib.hid (show ∀ (rest : List Value) (G : Nat) (w' : World), rest.length = (G - k) * 2 → n + 1 ≤ G → G ≤ maxLen → RowIs w' w.heap.size 108 (laid (laid ((l.take k).flatMap enG ++ rest) (k * 2) (enG q)) ((k + 1) * 2) ((l.drop k).flatMap enG)) → OwnE w' base (.slice (some ⟨w.heap.size, 0, none⟩) (n + 1) G) (l.take k ++ q :: l.drop k) from fun rest G w' hr hG hGm hrow' => by
        obtain ⟨A, X, Y, Z, hL, hAt, hA, hX, hY⟩ := parts4 ((l.take k).flatMap enG ++ rest) (k * 2) 2 ((n - k) * 2) (by rw [List.length_append, htl0, hr]; omega)
        have hAl : A = (l.take k).flatMap enG := by rw [hAt, List.take_left' htl0]
        have hfin : laid (laid ((l.take k).flatMap enG ++ rest) (k * 2) (enG q)) ((k + 1) * 2) ((l.drop k).flatMap enG) = A ++ enG q ++ (l.drop k).flatMap enG ++ Z := by
          rw [hL]; exact laid_head hA (by omega) (by rw [hX]; rfl) (by rw [htl, hY])
        have hLl := congrArg List.length hL
        simp only [List.length_append, htl0, hr, hA, hX, hY] at hLl
        refine ⟨by rw [encEn.length], .inr ⟨w.heap.size, G, _, ?_, hbase, hrow', by simp; omega, hGm, ?_, ?_⟩⟩
        · simp; omega
        · rw [hfin]; simp [hA, htl, enG]; omega
        · rw [hfin, hAl]
          have e : (l.take k ++ q :: l.drop k).flatMap enG = (l.take k).flatMap enG ++ enG q ++ (l.drop k).flatMap enG := by rw [List.flatMap_append, List.flatMap_cons, List.append_assoc]
          rw [e]
          refine List.take_left' ?_
          rw [← e, encEn.length])
      have hn2 : (enG q).length = Nat.min 1 (n + 1 - k) * 2 := by show 2 = min 1 (n + 1 - k) * 2; omega
      have hn3 : ((l.drop k).flatMap enG).length = Nat.min (n - k) (n + 1 - (k + 1)) * 2 := by rw [htl]; show _ = min (n - k) (n + 1 - (k + 1)) * 2; omega
      clear htl htl0 hold hcurD hcurT hcur hrow hct ho hne
      go_enter Tryz.func142, Tryz.ntmps142
      go_wp2_with (first
        | (at_builtin; refine wpList_appZ eltEn Tryz.underlying3 (x := ⟨g, 0, none⟩) (m := k) (c := cap) (k := n + 1 - k) HTL0.out HOLD.out hkpos hroomZ hsumZ HKK.out rfl _ _ rfl rfl rfl ?_; intro w1 G rest hr1 hlr hGn hGm hg1; rw [hik] at hGn; rw [hik]; have HR1 := Lib.hid hr1; have HG1 := Lib.hid hg1; have HLR := Lib.hid hlr; have hG1 : ¬ (G = k) := (by omega); have hG2 : ¬ (G = k + 1) := (by omega); have HGM := Lib.hid hGm; have hsrc2 := HS2.out w1 (HG1.out.block kE hkw (by simp)); have hfit2 : k * 2 + (enG q).length ≤ ((l.take k).flatMap enG ++ rest).length := (by rw [List.length_append, HTL0.out, HLR.out]; show k * 2 + 2 ≤ _; omega); clear hr1 hlr hGm hg1)
        | (refine wpList_copyK eltEn (g := w.heap.size) (off := k * 2) (dLen := n + 1 - k) (sLen := 1) (ad := ⟨kE, 0, none⟩) (cs := enG q) (cur := (l.take k).flatMap enG ++ rest) (te := 108) HR1.out hn2 hsrc2 hfit2 h12 rfl _ _ rfl rfl rfl ?_; intro w2 _ hr2 hg2; have HR2 := Lib.hid hr2; have HG2 := Lib.hid hg2; clear hr2 hg2))
      have hsrc3 := HS3.out w2.drew ((HG2.out.block g (by have := HG1.out.size; omega) (by simpa using hgN)).trans (HG1.out.block g hgw (by simp)))
      have hfit3 : (k + 1) * 2 + ((l.drop k).flatMap enG).length ≤ (laid ((l.take k).flatMap enG ++ rest) (k * 2) (enG q)).length := by
        rw [laid_len hfit2, List.length_append, HTL0.out, HLR.out, HTL.out]; omega
      have hb7 : (k : Int) ≤ (n : Int) + 1 := by omega
      go_region_law_o (refine step_copyK eltEn (g := w.heap.size) (off := (k + 1) * 2) (dLen := n + 1 - (k + 1)) (sLen := n - k) (dCap := G - (k + 1)) (sCap := cap - k) (ad := ⟨g, k * 2, none⟩) (cs := (l.drop k).flatMap enG) (cur := laid ((l.take k).flatMap enG ++ rest) (k * 2) (enG q)) (te := 108) HR2.out hn3 hsrc3 hfit3 h11 rfl _ _ rfl (by simp [Act.eval, Act.put]) (by simp [Act.eval, Act.put]) ?_; intro w3 _ hr3 hg3; have HR3 := Lib.hid hr3; have HG3 := Lib.hid hg3; clear hr3 hg3)
      go_wp2
      go_ret
      exact ⟨_, rfl, HFIN.out _ _ _ HLR.out hGn HGM.out HR3.out, (show Below base w w2.drew from below_drewN (((Below.refl base w).grown HG1.out hbase (fun j e => by simp at e)).grown HG2.out (Nat.le_trans hbase HG1.out.size) (fun j e => by simp at e; omega)) 1).grown HG3.out (Nat.le_trans hbase (Nat.le_trans HG1.out.size HG2.out.size)) (fun j e => by simp at e; omega)⟩
    · obtain ⟨A, X, Y, Z, hL, hAt, hA, hX, hY⟩ := parts4 cur (k * 2) 2 ((n - k) * 2) (by omega)
      have hfin : laid (laid cur ((k + 1) * 2) ((l.drop k).flatMap enG)) (k * 2) (enG q) = A ++ enG q ++ (l.drop k).flatMap enG ++ Z := by
        rw [hL]; exact laid_tail hA (by omega) (by rw [hX]; rfl) (by rw [htl, hY])
      have hAl : A = (l.take k).flatMap enG := by
        rw [hAt]
        have h1 : cur.take (k * 2) = (cur.take (n * 2)).take (k * 2) := by rw [List.take_take, Nat.min_eq_left (by omega)]
        rw [h1, hct]
        have h2 : l.flatMap enG = (l.take k).flatMap enG ++ (l.drop k).flatMap enG := by rw [← List.flatMap_append, List.take_append_drop]
        rw [h2, List.take_left' (by rw [encEn.length, List.length_take]; omega)]
      have hend : ∀ w', RowIs w' g 108 (laid (laid cur ((k + 1) * 2) ((l.drop k).flatMap enG)) (k * 2) (enG q)) → OwnE w' base (.slice (some ⟨g, 0, none⟩) (n + 1) cap) (l.take k ++ q :: l.drop k) := fun w' hr => by
        refine ⟨by rw [encEn.length], .inr ⟨g, cap, _, ?_, hg, hr, by simp; omega, by unfold maxLen; omega, ?_, ?_⟩⟩
        · simp; omega
        · have hLl := congrArg List.length hL
          simp only [List.length_append, hA, hX, hY] at hLl
          rw [hfin]; simp [hA, htl, enG]; omega
        · rw [hfin, hAl]
          have e : (l.take k ++ q :: l.drop k).flatMap enG = (l.take k).flatMap enG ++ enG q ++ (l.drop k).flatMap enG := by rw [List.flatMap_append, List.flatMap_cons, List.append_assoc]
          rw [e]
          refine List.take_left' ?_
          rw [← e, encEn.length]
      have hov : ∀ W lb cb, (W.heap[kE]? = w.heap[kE]?) → (W.heap[g]? = w.heap[g]?) → (callFunc 152 #[.slice (some ⟨kE, 0, none⟩) 1 1, .slice (some ⟨g, (k + 1) * 2, none⟩) lb cb]).run Tryz.prog W = .ok (.value (.bool false)) W := fun W lb cb h1 h2 =>
        overlapsE_no W _ _ _ _ _ _ hgE cs1 cur.toArray (h1.trans hE1) (h2.trans hrow) (by simp [hcl]; omega)
      have HEND := Lib.hid hend
      have HCUR := Lib.hid hcurD
      have HTL := Lib.hid htl
      clear hend hAl hfin hcur hcurD hcurT htl hL hAt hA hX hY hne
      have hb2 : ¬ (cap = k + 1) := by omega
      have hz3 : ¬ ((cap : Int) < (n : Int) + 1) := by omega
      have hb3 : (k : Int) ≤ (n : Int) + 1 := by omega
      have hn1 : ((l.drop k).flatMap enG).length = Nat.min (n + 1 - k) (n + 1 - (k + 1)) * 2 := by
        rw [HTL.out]; show _ = min (n + 1 - k) (n + 1 - (k + 1)) * 2; omega
      have hsrc1 : ∀ j v, ((l.drop k).flatMap enG)[j]? = some v → w.drew.cell? ((⟨g, k * 2, none⟩ : Addr).add j) = some v := fun j v hj => by
        rw [addr_add]; exact RowIs.cell HROW.out (HCUR.out j v hj)
      have hfit1 : (k + 1) * 2 + ((l.drop k).flatMap enG).length ≤ cur.length := by rw [HTL.out, hcl]; omega
      have hn2 : (enG q).length = Nat.min 1 (n + 1 - k) * 2 := by show 2 = min 1 (n + 1 - k) * 2; omega
      have hfit2 : k * 2 + (enG q).length ≤ (laid cur ((k + 1) * 2) ((l.drop k).flatMap enG)).length := by rw [laid_len hfit1, hcl]; show k * 2 + 2 ≤ _; omega
      clear hrow hct
      go_enter Tryz.func142, Tryz.ntmps142
      go_wp2_with (simp only [hov])
      go_region_law_o (go_loud (refine step_copyK eltEn (g := g) (off := (k + 1) * 2) (dLen := n + 1 - (k + 1)) (sLen := n + 1 - k) (dCap := cap - (k + 1)) (sCap := cap - k) (ad := ⟨g, k * 2, none⟩) (cs := (l.drop k).flatMap enG) (cur := cur) (te := 108) HROW.out hn1 hsrc1 hfit1 h11 rfl _ _ rfl (by simp [Act.eval, Act.put]) (by simp [Act.eval, Act.put]) ?_; intro w2 _ hr2 hg2; have HR2 := Lib.hid hr2; have HG2 := Lib.hid hg2; clear hr2 hg2))
      have hsrc2 : ∀ j v, (enG q)[j]? = some v → w2.cell? ((⟨kE, 0, none⟩ : Addr).add j) = some v := fun j v hj => by
        rw [addr_add, Nat.zero_add, cell_of_row w2 kE j cs1 108 (0, 0) ((HG2.out.block kE (Array.getElem?_eq_some_iff.1 hE1).1 (by simpa using hgE)).trans hE1)]
        rw [← hc1] at hj; simpa using hj
      go_wp2_with (refine wpList_copyK eltEn (g := g) (off := k * 2) (dLen := n + 1 - k) (sLen := 1) (ad := ⟨kE, 0, none⟩) (cs := enG q) (cur := laid cur ((k + 1) * 2) ((l.drop k).flatMap enG)) (te := 108) HR2.out hn2 hsrc2 hfit2 h12 rfl _ _ rfl rfl rfl ?_; intro w3 _ hr3 hg3; have HR3 := Lib.hid hr3; have HG3 := Lib.hid hg3; clear hr3 hg3)
      go_ret
      exact ⟨_, rfl, HEND.out _ HR3.out, ((show Below base w w.drew from ⟨rfl, rfl, rfl, Nat.le_refl _, fun _ _ => rfl⟩).grown HG2.out hbase (fun j e => by simp at e; omega)).grown HG3.out (Nat.le_trans hbase HG2.out.size) (fun j e => by simp at e; omega)⟩
/-! ### the order of names -/
theorem less_trans : ∀ {a b c : List UInt8}, Op.bytesLess a b = true → Op.bytesLess b c = true → Op.bytesLess a c = true
  | _, [], _, h, _ => by simp [Op.bytesLess] at h
  | _, _ :: _, [], _, h => by simp [Op.bytesLess] at h
  | [], _ :: _, _ :: _, _, _ => by simp [Op.bytesLess]
  | x :: a, y :: b, z :: c, h, h' => by
    simp only [Op.bytesLess, Bool.or_eq_true, decide_eq_true_eq, Bool.and_eq_true, beq_iff_eq] at h h' ⊢
    rcases h with h | ⟨rfl, h⟩
    · rcases h' with h' | ⟨rfl, h'⟩
      · exact .inl (UInt8.lt_trans h h')
      · exact .inl h
    · rcases h' with h' | ⟨rfl, h'⟩
      · exact .inl h'
      · exact .inr ⟨rfl, less_trans h h'⟩
theorem less_irrefl : ∀ a : List UInt8, Op.bytesLess a a = false
  | [] => rfl
  | x :: a => by simp [Op.bytesLess, less_irrefl a]
theorem less_conn : ∀ {a b : List UInt8}, Op.bytesLess a b = false → Op.bytesLess b a = false → a = b
  | [], [], _, _ => rfl
  | [], _ :: _, h, _ => by simp [Op.bytesLess] at h
  | _ :: _, [], _, h => by simp [Op.bytesLess] at h
  | x :: a, y :: b, h, h' => by
    simp only [Op.bytesLess, Bool.or_eq_false_iff, decide_eq_false_iff_not, Bool.and_eq_false_iff, beq_eq_false_iff_ne] at h h'
    have e : x = y := UInt8.le_antisymm (UInt8.not_lt.1 h'.1) (UInt8.not_lt.1 h.1)
    subst e
    rw [less_conn (h.2.resolve_left fun k => k rfl) (h'.2.resolve_left fun k => k rfl)]
theorem ltN_trans {a b c : ByteArray} (h : ltN a b = true) (h' : ltN b c = true) : ltN a c = true := less_trans h h'
theorem ltN_irrefl (a : ByteArray) : ltN a a = false := less_irrefl _
theorem ltN_conn {a b : ByteArray} (h : ltN a b = false) (h' : ltN b a = false) : a = b := toList_inj' (less_conn h h')
theorem ltN_asymm {a b : ByteArray} (h : ltN a b = true) : ltN b a = false := by
  cases h' : ltN b a
  · rfl
  · have := ltN_trans h h'; rw [ltN_irrefl] at this; cases this
/-- -1, 0, 1 as a name stands before, is, stands behind another. -/
def cmpS (x y : ByteArray) : Int := if ltN x y = true then -1 else if ltN y x = true then 1 else 0
theorem cmpS_lt {x y : ByteArray} : (cmpS x y < 0) ↔ ltN x y = true := by unfold cmpS; (repeat' split) <;> simp_all
theorem cmpS_eq {x y : ByteArray} : (cmpS x y = 0) ↔ x = y := by
  unfold cmpS
  constructor
  · intro h
    split at h
    · omega
    · split at h
      · omega
      · rename_i h1 h2; exact ltN_conn (by simpa using h1) (by simpa using h2)
  · rintro rfl; simp [ltN_irrefl]
theorem isNaNS_any (x : ByteArray) (w : World) : Calls Tryz.prog 119 #[.string x] w fun e w' => e = .returned (.bool false) ∧ w = w' := by
  have h : (x.toList == x.toList) = true := by simp
  go_enter Tryz.func119, Tryz.ntmps119
  go_wp2
  go_ret
  exact ⟨rfl, rfl⟩
theorem compareS_any (x y : ByteArray) (w : World) : Calls Tryz.prog 150 #[.string x, .string y] w fun e w' => e = .returned (.int .i64 (cmpS x y)) ∧ w = w' := by
  cases h1 : Op.bytesLess x.toList y.toList
  · cases h2 : Op.bytesLess y.toList x.toList
    · have HF := Lib.hid (show cmpS x y = 0 by unfold cmpS ltN; rw [h1, h2]; rfl)
      have h3 : (x.toList == y.toList) = true := by rw [less_conn h1 h2]; simp
      go_enter Tryz.func150, Tryz.ntmps150
      go_wp2_with (go_at_call 119; refine (isNaNS_any _ _).mono ?_; rintro e w' ⟨rfl, rfl⟩)
      go_ret
      exact ⟨ret_int HF.out.symm, rfl⟩
    · have HF := Lib.hid (show cmpS x y = 1 by unfold cmpS ltN; rw [h1, h2]; rfl)
      have h3 : (x.toList == y.toList) = false := by
        cases h : (x.toList == y.toList)
        · rfl
        · rw [eq_of_beq h, less_irrefl] at h2; cases h2
      go_enter Tryz.func150, Tryz.ntmps150
      go_wp2_with (go_at_call 119; refine (isNaNS_any _ _).mono ?_; rintro e w' ⟨rfl, rfl⟩)
      go_ret
      exact ⟨ret_int HF.out.symm, rfl⟩
  · have HF := Lib.hid (show cmpS x y = -1 by unfold cmpS ltN; rw [h1]; rfl)
    go_enter Tryz.func150, Tryz.ntmps150
    go_wp2_with (go_at_call 119; refine (isNaNS_any _ _).mono ?_; rintro e w' ⟨rfl, rfl⟩)
    go_ret
    exact ⟨ret_int HF.out.symm, rfl⟩
theorem compareName_any (p : Ent) (y : ByteArray) (w : World) : Calls Tryz.prog 140 #[.agg #[.string p.1, .int .i64 p.2], .string y] w (BelowI (cmpS p.1 y) w) := by
  go_enter Tryz.func140, Tryz.ntmps140
  go_wp2_with (go_at_call 150; refine (compareS_any _ _ _).mono ?_; rintro e w' ⟨rfl, rfl⟩)
  go_ret
  exact ⟨rfl, (Below.refl _ _).alloc (Nat.le_refl _) _⟩
/-- Names ascend. -/
def AscE (l : List Ent) : Prop := ∀ i j, i < j → j < l.length → ltN (nthE l i).1 (nthE l j).1 = true
theorem leB_no {a b : ByteArray} (h : leB a b = false) : ltN b a = true := by
  unfold leB at h
  rw [Bool.or_eq_false_iff] at h
  cases h' : ltN b a
  · have := less_conn h.1 h'
    rw [this] at h; simp at h
  · rfl
theorem leB_of {a b : ByteArray} (h : ltN b a = true) : leB a b = false := by
  unfold leB
  have h1 : Op.bytesLess a.toList b.toList = false := ltN_asymm h
  rw [h1, Bool.false_or]
  cases h2 : (a.toList == b.toList)
  · rfl
  · unfold ltN at h; rw [eq_of_beq h2, less_irrefl] at h; cases h
theorem ents_asc {l : List Ent} (h : entsB l = true) : AscE l := by
  have h2 := (entsB_at h).2
  intro i j hij
  induction j with
  | zero => omega
  | succ j ih =>
    intro hj
    have h3 := h2 (j + 1) hj
    unfold okE at h3
    simp only [Bool.and_eq_true, Bool.or_eq_true, decide_eq_true_eq, Nat.add_eq_zero_iff, Nat.one_ne_zero, and_false, false_or, Bool.not_eq_true', Nat.add_sub_cancel] at h3
    have h4 := leB_no h3.2
    rcases Nat.lt_or_eq_of_le (Nat.le_of_lt_succ hij) with h5 | rfl
    · exact ltN_trans (ih h5 (by omega)) h4
    · exact h4
/-- Is a name there? -/
def hereE (p : ByteArray) (l : List Ent) : Bool := decide (atE p l < l.length) && decide ((nthE l (atE p l)).1 = p)
theorem hereE_yes {p : ByteArray} {l : List Ent} {k : Nat} (h : atE p l = k) (hk : k < l.length) (he : (nthE l k).1 = p) : hereE p l = true := by unfold hereE; rw [h, decide_eq_true hk, decide_eq_true he]; rfl
theorem hereE_no1 {p : ByteArray} {l : List Ent} {k : Nat} (h : atE p l = k) (hk : ¬ k < l.length) : hereE p l = false := by unfold hereE; rw [h, decide_eq_false hk]; rfl
theorem hereE_no2 {p : ByteArray} {l : List Ent} {k : Nat} (h : atE p l = k) (he : (nthE l k).1 ≠ p) : hereE p l = false := by unfold hereE; rw [h, decide_eq_false he, Bool.and_false]
set_option maxHeartbeats 1000000 in
theorem searchE_any (x : Option Addr) (n cap : Nat) (l : List Ent) (t : ByteArray) (B : Nat) (w : World) (h : Ents w B x n cap l) (hB : B ≤ w.heap.size) (hs : AscE l) (hn : n ≤ 1000000) :
    Calls Tryz.prog 139 #[.slice x n cap, .string t, .func (.func 140) #[] #[]] w fun e w' => e = .returned (.tuple #[.int .i64 (atE t l : Nat), .bool (hereE t l)]) ∧ Below w.heap.size w w' := by
  have HL := Lib.hid h.len
  have HH := Lib.hid h
  have HS := Lib.hid hs
  have hmx := h.max
  have hle := h.le
  clear h hs
  unfold maxLen at hmx
  go_enter Tryz.func139, Tryz.ntmps139
  go_wp2
  go_loopw [9, 10, 11] (fun i j _ wr => ∃ a b : Nat, a ≤ b ∧ b ≤ n ∧ i = .int .i64 a ∧ j = .int .i64 b ∧ (∀ k, k < a → ltN (nthE l k).1 t = true) ∧ (∀ k, b ≤ k → k < n → ltN (nthE l k).1 t = false) ∧ Below w.heap.size w wr) (fun i j _ _ => (intOf j).toNat - (intOf i).toNat)
  case atStart => exact ⟨0, n, by omega, Nat.le_refl _, rfl, rfl, fun k hk => by omega, fun k hk hk' => by omega, Below.refl _ _⟩
  case round =>
    obtain ⟨a, b, hab, hbn, rfl, rfl, hlo, hhi, hb⟩ := hrel
    have HLO := Lib.hid hlo; have HHI := Lib.hid hhi; have HB := Lib.hid hb; clear hlo hhi hb
    by_cases hlt : a < b
    · have hmb : (a + b) / 2 < n := by omega
      obtain ⟨b0, off, rfl, hb0, hc0, hc1⟩ := (HH.out.below HB.out hB).atE hmb
      obtain ⟨q, hq⟩ : ∃ q, q = nthE l ((a + b) / 2) := ⟨_, rfl⟩
      rw [← hq] at hc0 hc1
      cases hx : ltN q.1 t
      · have hc : ¬ cmpS q.1 t < 0 := fun h => by rw [cmpS_lt, hx] at h; cases h
        have HX := Lib.hid (show ∀ k, (a + b) / 2 ≤ k → k < n → ltN (nthE l k).1 t = false from fun k hk hkn => by
          rcases Nat.lt_or_eq_of_le hk with h | rfl
          · have h1 := HS.out _ k h (by have := HL.out; omega); rw [← hq] at h1
            cases h2 : ltN (nthE l k).1 t
            · rfl
            · rw [ltN_trans h1 h2] at hx; cases hx
          · rw [← hq]; exact hx)
        clear hq hx
        go_wp2_with (go_at_call 140; refine (compareName_any q _ _).mono ?_; rintro e w2 ⟨rfl, hb⟩; have HB2 := Lib.hid (HB.out.trans (hb.mono HB.out.size)); clear hb)
        go_roundw
        case rel => exact ⟨a, (a + b) / 2, by omega, by omega, rfl, by go_num, HLO.out, HX.out, HB2.out⟩
        case measure => simp [intOf]; omega
      · have hc : cmpS q.1 t < 0 := cmpS_lt.2 hx
        have HX := Lib.hid (show ∀ k, k < (a + b) / 2 + 1 → ltN (nthE l k).1 t = true from fun k hk => by
          rcases Nat.lt_succ_iff_lt_or_eq.1 hk with h | rfl
          · have h1 := HS.out k _ h (by have := HL.out; omega); rw [← hq] at h1; exact ltN_trans h1 hx
          · rw [← hq]; exact hx)
        clear hq hx
        go_wp2_with (go_at_call 140; refine (compareName_any q _ _).mono ?_; rintro e w2 ⟨rfl, hb⟩; have HB2 := Lib.hid (HB.out.trans (hb.mono HB.out.size)); clear hb)
        go_roundw
        case rel => exact ⟨(a + b) / 2 + 1, b, by omega, hbn, by go_num, rfl, HX.out, HHI.out, HB2.out⟩
        case measure => simp [intOf]; omega
    · obtain rfl : a = b := by omega
      have HA := Lib.hid (atE_eq (p := t) (l := l) (k := a) (by have := HL.out; omega) HLO.out (by
        rcases Nat.lt_or_ge a n with h | h
        · exact .inr (HHI.out a (Nat.le_refl _) h)
        · left; have := HL.out; omega))
      by_cases hlt2 : a < n
      · obtain ⟨b0, off, rfl, hb0, hc0, hc1⟩ := (HH.out.below HB.out hB).atE hlt2
        obtain ⟨q, hq⟩ : ∃ q, q = nthE l a := ⟨_, rfl⟩
        rw [← hq] at hc0 hc1
        have hd : ((a : Int) < (n : Int)) := by omega
        by_cases hx : q.1 = t
        · have hc : (cmpS q.1 t == 0) = true := by simpa using cmpS_eq.2 hx
          have HX := Lib.hid (hereE_yes HA.out (by have := HL.out; omega) (by rw [← hq]; exact hx))
          clear hq hx
          go_wp2_with (go_at_call 140; refine (compareName_any q _ _).mono ?_; rintro e w2 ⟨rfl, hb⟩; have HB2 := Lib.hid (HB.out.trans (hb.mono HB.out.size)); clear hb)
          go_ret2
          exact ⟨by rw [HA.out, HX.out]; rfl, HB2.out⟩
        · have hc : (cmpS q.1 t == 0) = false := by simpa using fun h => hx (cmpS_eq.1 h)
          have HX := Lib.hid (hereE_no2 HA.out (by rw [← hq]; exact hx))
          clear hq hx
          go_wp2_with (go_at_call 140; refine (compareName_any q _ _).mono ?_; rintro e w2 ⟨rfl, hb⟩; have HB2 := Lib.hid (HB.out.trans (hb.mono HB.out.size)); clear hb)
          go_ret2
          exact ⟨by rw [HA.out, HX.out]; rfl, HB2.out⟩
      · have hd : ¬ ((a : Int) < (n : Int)) := by omega
        have HX := Lib.hid (hereE_no1 HA.out (by have := HL.out; omega))
        go_wp2
        go_ret2
        exact ⟨by rw [HA.out, HX.out]; rfl, HB.out⟩
theorem placeOfName_any (x : Option Addr) (n cap : Nat) (l : List Ent) (t : ByteArray) (B : Nat) (w : World) (h : Ents w B x n cap l) (hB : B ≤ w.heap.size) (hs : AscE l) (hn : n ≤ 1000000) :
    Calls Tryz.prog 124 #[.slice x n cap, .string t] w fun e w' => e = .returned (.tuple #[.int .i64 (atE t l : Nat), .bool (hereE t l)]) ∧ Below w.heap.size w w' := by
  have HH := Lib.hid h
  clear h
  go_enter Tryz.func124, Tryz.ntmps124
  go_wp2_with (go_at_call 139; refine (searchE_any _ _ _ _ _ _ _ HH.out hB hs hn).mono ?_; rintro e w' ⟨rfl, hb⟩)
  go_ret2
  exact ⟨rfl, hb⟩
/-! ### rows -/
theorem setCells_row {w : World} {g off : Nat} {te : TypeId} {cur cs : List Value} (hg : RowIs w g te cur) (hfit : off + cs.length ≤ cur.length) (h1 : ∀ v ∈ cs, v.oneCell' = true) : RowIs (w.setCells g off cs) g te (laid cur off cs) ∧ w.grownBy (w.setCells g off cs) (some g) := by
  have hst := run_storeCells_at Tryz.prog g off te cs 0 cur.toArray w hg (by simpa using hfit) h1
  have hst2 := run_storeCells_cells (P := Tryz.prog) g off cs 0 w (fun j hj => by
    rw [Nat.add_zero, RowIs.cell hg (List.getElem?_eq_getElem (by omega))]; rfl) (fun j hj => by simp [World.frozen?, show w.heap[g]? = _ from hg]) h1
  rw [hst] at hst2
  have e : w.setRow g (cur.toArray.toList.take (off + 0) ++ cs ++ cur.toArray.toList.drop (off + 0 + cs.length)).toArray = w.setCells g off cs := by
    simpa using hst2
  rw [← e]
  exact ⟨setRow_heap w g _ _ te (0, 0) hg, rfl, rfl, rfl, by simp [World.setRow], fun k hk hr => setRow_other w g k _ (fun h => hr (by rw [h]))⟩
theorem ownE_row {w : World} {base g n cap : Nat} {cells : List Value} {l : List Ent} (hr : RowIs w g 108 cells) (hg : base ≤ g) (hn : l.length = n) (hc : n ≤ cap) (hm : cap ≤ maxLen) (hs : cells.length = cap * 2) (ht : cells.take (n * 2) = l.flatMap enG) : OwnE w base (.slice (some ⟨g, 0, none⟩) n cap) l := by
  subst hn
  refine ⟨by rw [encEn.length], .inr ⟨g, cap, cells.toArray, rfl, hg, hr, hc, hm, by simpa using hs, ?_⟩⟩
  simpa using ht
end Go.Proofs.YtglajbmopiolhaaGreatDoor
/-
  Contracts of chapter 6's program: an entry is taken out.
-/
namespace Go.Proofs.YtglajbmopiolhaaGreatDoor
open Go.RowKit
set_option linter.unusedVariables false
theorem run_clear1 (w : World) (ty : TypeId) (g o c : Nat) (hc : ∀ j, j < 2 → (w.cell? ⟨g, o + j, none⟩).isSome = true) (hf : ∀ j, j < 2 → w.frozen? ⟨g, o + j, none⟩ = false) :
    (Builtin.clear_ #[104] ty #[.slice (some ⟨g, o, none⟩) 1 c]).run Tryz.prog w = .ok (.tuple #[]) (w.setCells g o [.string ByteArray.empty, .int .i64 0]) := by
  obtain ⟨i, hi, hz, hsz, _⟩ := eltEn.info
  have hst := run_storeCells_cells (P := Tryz.prog) g o [.string ByteArray.empty, .int .i64 0] 0 w (by simpa using hc) (by simpa using hf) (by simp [Value.oneCell'])
  simp only [Nat.add_zero] at hst
  have hzc : (Builtin.zeroCells #[.string ByteArray.empty, .int .i64 0] 1).toList = [.string ByteArray.empty, .int .i64 0] := by kernel_rfl
  simp [Builtin.clear_, run_underlying eltEn.und, zeroValue, typeInfo, hi, hz, Value.cells, hzc, hst]
set_option maxHeartbeats 4000000 in
set_option maxRecDepth 100000 in
theorem deleteE_any (x : Option Addr) (n cap k base : Nat) (l : List Ent) (w : World) (ho : OwnE w base (.slice x n cap) l) (hl : l.length = n) (hk : k < n) (hn : n ≤ 1000) (hbase : base ≤ w.heap.size) :
    Calls Tryz.prog 125 #[.slice x n cap, .int .i64 k, .int .i64 ((k : Int) + 1)] w (PutInE (l.take k ++ l.drop (k + 1)) base w) := by
  have hlst := ho.lst'
  have hle := hlst.le
  have hmx := hlst.max
  clear hlst
  obtain ⟨g, cur, rfl, hg, hrow, _, _, hcm, hcl, hct⟩ := own_partsE ho (by omega)
  unfold maxLen at hmx
  have hgw : g < w.heap.size := (Array.getElem?_eq_some_iff.1 hrow).1
  obtain ⟨news, hnews⟩ : ∃ news, news = (l.drop (k + 1)).flatMap enG := ⟨_, rfl⟩
  have hlen : news.length = (n - (k + 1)) * 2 := by rw [hnews, encEn.length, List.length_drop, hl]
  have hget : ∀ j u, news[j]? = some u → cur[(k + 1) * 2 + j]? = some u := fun j u hj => by
    have h1 : (l.flatMap enG)[(k + 1) * 2 + j]? = some u := by rw [← List.getElem?_drop, flat_drop encEn, ← hnews]; exact hj
    rw [← hct, List.getElem?_take] at h1
    split at h1
    · exact h1
    · cases h1
  obtain ⟨A, hA, hsrc⟩ : ∃ A : Addr, (if cap = k + 1 then (some ⟨g, 0, none⟩ : Option Addr) else some ⟨g, (k + 1) * 2, none⟩) = some A ∧ Hid (∀ t u, news[t]? = some u → w.drew.cell? (A.add t) = some u) := by
    by_cases h : cap = k + 1
    · refine ⟨⟨g, 0, none⟩, by simp [h], Lib.hid fun t u hu => ?_⟩
      have h0 : news.length = 0 := by rw [hlen]; omega
      rw [List.length_eq_zero_iff.1 h0] at hu
      simp at hu
    · refine ⟨⟨g, (k + 1) * 2, none⟩, by simp [h], Lib.hid fun t u hu => ?_⟩
      rw [addr_add]
      exact RowIs.cell (show RowIs w.drew g 108 cur from hrow) (hget t u hu)
  have h1c : ∀ u ∈ news, u.oneCell' = true := by rw [hnews]; exact encEn.oneAll _
  have hfit : k * 2 + news.length ≤ cur.length := by rw [hlen, hcl]; omega
  have H1 := setCells_row (w := w.drew) (g := g) (off := k * 2) (te := 108) (cur := cur) (cs := news) hrow hfit h1c
  obtain ⟨W1, hW1⟩ : ∃ W1, W1 = w.drew.setCells g (k * 2) news := ⟨_, rfl⟩
  rw [← hW1] at H1
  have hl1 : (laid cur (k * 2) news).length = cap * 2 := by rw [laid_len hfit, hcl]
  have hlow : k + (n - (k + 1)) = n - 1 := by omega
  have hfit2 : (n - 1) * 2 + ([.string ByteArray.empty, .int .i64 0] : List Value).length ≤ (laid cur (k * 2) news).length := by rw [hl1]; show (n - 1) * 2 + 2 ≤ _; omega
  have H2 := setCells_row (w := W1) (g := g) (off := (n - 1) * 2) (te := 108) (cur := laid cur (k * 2) news) (cs := [.string ByteArray.empty, .int .i64 0]) H1.1 hfit2 (by simp [Value.oneCell'])
  have hcl1 : ∀ ty c, (Builtin.clear_ #[104] ty #[.slice (some ⟨g, (n - 1) * 2, none⟩) 1 c]).run Tryz.prog W1 = .ok (.tuple #[]) (W1.setCells g ((n - 1) * 2) [.string ByteArray.empty, .int .i64 0]) := fun ty c =>
    run_clear1 W1 ty g _ c (fun j hj => by rw [RowIs.cell H1.1 (List.getElem?_eq_getElem (by rw [hl1]; omega))]; rfl) (fun j hj => by simp [World.frozen?, show W1.heap[g]? = _ from H1.1])
  have hclr : ∀ ty, (Builtin.clear_ #[104] ty #[.slice (some ⟨g, (k + (n - (k + 1))) * 2, none⟩) (n - (k + (n - (k + 1)))) (cap - (k + (n - (k + 1))))]).run Tryz.prog W1 = .ok (.tuple #[]) (W1.setCells g ((n - 1) * 2) [.string ByteArray.empty, .int .i64 0]) := fun ty => by
    rw [hlow, show n - (n - 1) = 1 by omega]; exact hcl1 _ _
  have hend : OwnE (W1.setCells g ((n - 1) * 2) [.string ByteArray.empty, .int .i64 0]) base (.slice (some ⟨g, 0, none⟩) (n - 1) cap) (l.take k ++ l.drop (k + 1)) := by
    refine ownE_row H2.1 hg (by simp; omega) (by omega) hcm (by rw [laid_len hfit2, hl1]) ?_
    have h5 : cur.take (k * 2) = (l.take k).flatMap enG := by
      have h1 : cur.take (k * 2) = (cur.take (n * 2)).take (k * 2) := by rw [List.take_take, Nat.min_eq_left (by omega)]
      rw [h1, hct]
      have h2 : l.flatMap enG = (l.take k).flatMap enG ++ (l.drop k).flatMap enG := by rw [← List.flatMap_append, List.take_append_drop]
      rw [h2, List.take_left' (by rw [encEn.length, List.length_take]; omega)]
    have h6 : (laid cur (k * 2) news).take ((n - 1) * 2) = cur.take (k * 2) ++ news := by
      unfold laid
      rw [List.take_left' (by rw [List.length_append, List.length_take, hlen, hcl]; omega)]
    rw [show laid (laid cur (k * 2) news) ((n - 1) * 2) [.string ByteArray.empty, .int .i64 0] = (laid cur (k * 2) news).take ((n - 1) * 2) ++ ([.string ByteArray.empty, .int .i64 0] ++ (laid cur (k * 2) news).drop ((n - 1) * 2 + 2)) by unfold laid; rw [List.append_assoc]; rfl,
      List.take_left' (by rw [List.length_take, hl1]; omega), h6, h5, hnews, List.flatMap_append]
  have hspare : ∀ j, j < news.length → (w.drew.cell? ⟨g, k * 2 + j, none⟩).isSome = true ∧ w.drew.frozen? ⟨g, k * 2 + j, none⟩ = false := fun j hj =>
    ⟨by rw [RowIs.cell (show RowIs w.drew g 108 cur from hrow) (List.getElem?_eq_getElem (by omega))]; rfl, by simp [World.frozen?, show w.drew.heap[g]? = _ from hrow]⟩
  have HB := Lib.hid (show Below base w (W1.setCells g ((n - 1) * 2) [.string ByteArray.empty, .int .i64 0]) from
    ((show Below base w w.drew from ⟨rfl, rfl, rfl, Nat.le_refl _, fun _ _ => rfl⟩).grown H1.2 hbase (fun j e => by simp at e; omega)).grown H2.2 (Nat.le_trans hbase H1.2.size) (fun j e => by simp at e; omega))
  obtain ⟨i0, hi0, _, hz0, _⟩ := eltEn.info
  have t0 := eltEn.und
  have mixed : Tryz.prog.follows Departure.mixedOrders = true := by kernel_rfl
  have HEND := Lib.hid hend; have HSP := Lib.hid hspare; have HLEN := Lib.hid hlen; have H1C := Lib.hid h1c
  have HW := Lib.hid hW1; have HLO := Lib.hid hlow
  have hic : k ≤ cap := by omega
  have hjc : k + 1 ≤ cap := by omega
  have hw1 : ((k : Int) + 1).toNat = k + 1 := by omega
  have hij : (k : Int) ≤ (k : Int) + 1 := by omega
  have hjn : (k : Int) + 1 ≤ (n : Int) := by omega
  have hjc' : (k : Int) + 1 ≤ (cap : Int) := by omega
  have hb5 : (0 : Int) ≤ (k : Int) + 1 := by omega
  have hne : ¬ ((k : Int) = (k : Int) + 1) := by omega
  have hne2 : ((k : Int) == (k : Int) + 1) = false := by simp; omega
  have hcn : ¬ (cap = k + (n - (k + 1))) := by omega
  have hln : ((k + (n - (k + 1)) : Nat) : Int) ≤ (n : Int) := by omega
  have hrk : k + (n - (k + 1)) ≤ cap := by omega
  clear hend hspare hlen h1c hW1 hlow H1 H2 hcl1 hget hfit hfit2 hl1 hct hcl hrow ho hnews
  go_enter Tryz.func125, Tryz.ntmps125
  go_wp2_with fail
  go_region_law_o (refine step_append_room rfl (.tmp 22) (.tmp 25) 104 rfl 108 i0 2 t0 hi0 hz0 g 0 k cap (by simp [Act.eval, Act.put]) A (n - (k + 1)) (cap - (k + 1)) news (by simp [Act.eval, Act.put]) HLEN.out hsrc.out H1C.out hrk (by simpa using HSP.out) ?_; rw [Nat.zero_add, ← HW.out])
  go_wp2
  go_ret
  exact ⟨_, rfl, by rw [HLO.out]; exact HEND.out, HB.out⟩
end Go.Proofs.YtglajbmopiolhaaGreatDoor
