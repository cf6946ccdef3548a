/-
  Contracts of chapter 4's model: joined stores; the empty folder.
-/
import Derived.Test.YtpjndkiclfoanaaStores2
namespace Go.Proofs.Ytpjndkiclfoanaa
open Go.RowKit
set_option linter.unusedVariables false
/-- All texts of b put into out, one after the other. -/
def joinGo : List Pc → List Pc → Option (List Pc)
  | out, [] => some out
  | out, q :: r => if (putB out q.2).2.2 = true then joinGo (putB out q.2).1 r else none
def joinSL (a b : List Pc) : List Pc := if (storeB a && storeB b) = true then (joinGo a b).getD [] else []
def joinSO (a b : List Pc) : Bool := storeB a && storeB b && (joinGo a b).isSome
theorem joinS_no {a b : List Pc} (h : (storeB a && storeB b) = false) : joinSL a b = [] ∧ joinSO a b = false := by unfold joinSL joinSO; rw [h]; exact ⟨rfl, rfl⟩
theorem joinS_none {a b : List Pc} (h : joinGo a b = none) : joinSL a b = [] ∧ joinSO a b = false := by unfold joinSL joinSO; rw [h]; simp
theorem joinS_some {a b l : List Pc} (h : (storeB a && storeB b) = true) (h' : joinGo a b = some l) : joinSL a b = l ∧ joinSO a b = true := by unfold joinSL joinSO; rw [h, h']; exact ⟨rfl, rfl⟩
theorem dropP_cons {l : List Pc} {k : Nat} (h : k < l.length) : l.drop k = nthP l k :: l.drop (k + 1) := by rw [List.drop_eq_getElem_cons h, nthP_get h]
theorem joinGo_step {out b : List Pc} {k : Nat} (h : k < b.length) (ho : (putB out (nthP b k).2).2.2 = true) : joinGo out (b.drop k) = joinGo (putB out (nthP b k).2).1 (b.drop (k + 1)) := by rw [dropP_cons h, joinGo, if_pos ho]
theorem joinGo_stop {out b : List Pc} {k : Nat} (h : k < b.length) (ho : (putB out (nthP b k).2).2.2 = false) : joinGo out (b.drop k) = none := by rw [dropP_cons h, joinGo, if_neg (by rw [ho]; simp)]
/-- Texts of at most m bytes. -/
def Short (m : Nat) (l : List Pc) : Prop := ∀ p ∈ l, p.2.size ≤ m
theorem short_nth {m : Nat} {l : List Pc} (h : Short m l) (k : Nat) : (nthP l k).2.size ≤ m := by
  unfold nthP
  rw [List.getD_eq_getElem?_getD]
  cases hk : l[k]? with
  | none => simp
  | some p => exact h p (List.mem_of_getElem? hk)
theorem store_short {l : List Pc} (h : storeB l = true) : Short 60 l := fun p hp => by
  have h1 := (okPc_iff.1 ((storeB_iff.1 h).2.1 p hp)).1
  rcases Nat.lt_or_ge 60 p.2.size with h2 | h2
  · rw [textV_long _ h2] at h1; cases h1
  · exact h2
theorem put_short {m : Nat} {l : List Pc} {t : ByteArray} (h : Short m l) (ht : t.size ≤ m) : Short m (putB l t).1 := by
  unfold putB putL
  split
  · intro p hp; simp at hp
  split
  · exact h
  split
  · split <;> exact h
  split
  · exact h
  · intro p hp
    rcases List.mem_append.1 hp with h1 | h1
    · exact h p (List.mem_of_mem_take h1)
    · rcases List.mem_cons.1 h1 with rfl | h1
      · exact ht
      · exact h p (List.mem_of_mem_drop h1)
/-- A new row of pieces and a bool. -/
def NewPB (l : List Pc) (b : Bool) (w : World) (e : Ending) (w' : World) : Prop := ∃ v, e = .returned (.tuple #[v, .bool b]) ∧ OwnP w' w.heap.size v l ∧ Below w.heap.size w w'
theorem newPB_of {l l' : List Pc} {b b' : Bool} {w w' : World} {e : Ending} (h : l = l') (h' : b = b') (hx : NewPB l' b' w e w') : NewPB l b w e w' := by rw [h, h']; exact hx
theorem quiet_trans {w w1 w2 : World} (h : ∃ p, w1 = w.drewN p) (h' : ∃ q, w2 = w1.drewN q) : ∃ m, w2 = w.drewN m := by
  obtain ⟨p, rfl⟩ := h; obtain ⟨q, rfl⟩ := h'; exact ⟨_, by rw [World.drewN_drewN]⟩
theorem OwnL.quiet {α : Type} {g : α → List Value} {e : TypeId} {size : Nat} {w w' : World} {base : Nat} {v : Value} {l : List α} (h : OwnL g e size w base v l) (hq : ∃ m, w' = w.drewN m) : OwnL g e size w' base v l := by obtain ⟨m, rfl⟩ := hq; exact h.drewN m
set_option maxHeartbeats 1000000 in
theorem specJoinStores_any (x y : Option Addr) (n m c d : Nat) (a b : List Pc) (B : Nat) (w : World) (h : Pcs w B x n c a) (h' : Pcs w B y m d b) (hB : B ≤ w.heap.size) (hz : ∀ k, (nthP a k).2.size ≤ maxLen) (hz' : ∀ k, (nthP b k).2.size ≤ maxLen) :
    Calls Try.prog 25 #[.slice x n c, .slice y m d] w (NewPB (joinSL a b) (joinSO a b) w) := by
  cases ha : storeB a
  · have HF := Lib.hid (joinS_no (a := a) (b := b) (by rw [ha]; rfl))
    go_enter Try.func25, Try.ntmps25
    go_wp2_with fail
    refine (specStoreValid_any _ _ _ _ _ _ h hz).mono ?_
    rintro e w1 ⟨rfl, hq⟩
    have HQ := Lib.hid hq; clear hq
    go_wp2_with fail
    go_ret2
    exact newPB_of HF.out.1 HF.out.2 ⟨_, rfl, OwnL.newAt _ _ rfl (by rw [size_quiet HQ.out]; exact Nat.le_refl _), (below_quiet (Below.refl _ _) HQ.out).alloc (by rw [size_quiet HQ.out]; exact Nat.le_refl _) _⟩
  cases hb : storeB b
  · have HF := Lib.hid (joinS_no (a := a) (b := b) (by rw [ha, hb]; rfl))
    go_enter Try.func25, Try.ntmps25
    go_wp2_with fail
    refine (specStoreValid_any _ _ _ _ _ _ h hz).mono ?_
    rintro e w1 ⟨rfl, hq⟩
    have h1 := h'.quiet hq
    have HQ1 := Lib.hid hq; clear hq
    go_wp2_with fail
    refine (specStoreValid_any _ _ _ _ _ _ h1 hz').mono ?_
    rintro e w2 ⟨rfl, hq⟩
    have HQ := Lib.hid (quiet_trans HQ1.out hq)
    clear hq
    go_wp2_with fail
    go_ret2
    exact newPB_of HF.out.1 HF.out.2 ⟨_, rfl, OwnL.newAt _ _ rfl (by rw [size_quiet HQ.out]; exact Nat.le_refl _), (below_quiet (Below.refl _ _) HQ.out).alloc (by rw [size_quiet HQ.out]; exact Nat.le_refl _) _⟩
  have hab : (storeB a && storeB b) = true := by rw [ha, hb]; rfl
  have HAB := Lib.hid hab
  clear hab
  have HSA := Lib.hid (store_short ha)
  have HSB := Lib.hid (store_short hb)
  have HLB := Lib.hid h'.len
  have hm : m ≤ 40 := by have := (storeB_at hb).1; have := h'.len; omega
  have hn : n ≤ 40 := by have := (storeB_at ha).1; have := h.len; omega
  have hdm := h'.max
  have hmd := h'.le
  unfold maxLen at hdm
  go_enter Try.func25, Try.ntmps25
  go_wp2_with fail
  refine (specStoreValid_any _ _ _ _ _ _ h hz).mono ?_
  rintro e w1 ⟨rfl, hq⟩
  have h1 := h'.quiet hq
  have h0 := h.quiet hq
  have HQ1 := Lib.hid hq; clear hq
  go_wp2_with fail
  refine (specStoreValid_any _ _ _ _ _ _ h1 hz').mono ?_
  rintro e w2 ⟨rfl, hq⟩
  have HQ := Lib.hid (quiet_trans HQ1.out hq)
  have HB := Lib.hid (below_quiet (Below.refl w.heap.size w) HQ.out)
  have hw0 : w.heap.size ≤ w2.heap.size := HB.out.size
  have HA2 := Lib.hid ((h0.quiet hq).alloc (by omega) (.cells #[] 28))
  have HB2 := Lib.hid ((h1.quiet hq))
  have HN := Lib.hid (OwnL.newAt pcG 28 (size := 2) (w := w2) rfl hw0)
  clear hq h0 h1 h h'
  go_wp2_with (first
    | (at_builtin; refine wpList_appL eltPc encPc HN.out HA2.out (by decide) (by omega) (by simp; omega) rfl _ _ rfl rfl rfl ?_; intro v' w' hown hgrow hat; have HOWN := Lib.hid hown; have HGR := Lib.hid hgrow; clear hown hgrow hat))
  have HY := Lib.hid (HB2.out.keep (w' := w') fun k hk => (HGR.out.block k (by simp; have := hw0; omega) (by simp [Value.ownBlock]; omega)).trans (Below.heap_alloc _ _ _ (by omega)))
  have HB3 := Lib.hid ((HB.out.alloc hw0 (.cells #[] 28)).grown HGR.out (by simp; omega) (fun q e => HN.out.at q e))
  have HO3 := Lib.hid (show OwnP w' w.heap.size v' a by simpa using HOWN.out)
  clear HOWN HGR HN HA2 HB2
  go_loopw [6, 7, 8, 9, 10] (fun v i _ _ _ wr => ∃ (k : Nat) (out : List Pc), k ≤ m ∧ i = .int .i64 k ∧ joinGo a b = joinGo out (b.drop k) ∧ Short 60 out ∧ OwnP wr w.heap.size v out ∧ Pcs wr B y m d b ∧ Below w.heap.size w wr) (fun _ i _ _ _ _ => m - (intOf i).toNat)
  case atStart => exact ⟨0, a, by omega, rfl, by rw [List.drop_zero], HSA.out, HO3.out, HY.out, HB3.out⟩
  case round =>
    obtain ⟨k, out, hk, rfl, hg, hso, ho, hy, hb⟩ := hrel
    have HG := Lib.hid hg; have HSO := Lib.hid hso; have HY := Lib.hid hy; have HBW := Lib.hid hb; have HO := Lib.hid ho
    clear hg hso hy hb
    obtain ⟨xo, no, co, rfl, hlo⟩ := ho.lst
    have HLO := Lib.hid hlo
    have hwr := HBW.out.size
    by_cases hlt : k < m
    · obtain ⟨b0, off, rfl, hb0, hc0, hc1⟩ := HY.out.atP hlt
      have hkb : k < b.length := by have := HLB.out; omega
      have hz1 := short_nth HSB.out k
      go_wp2_with fail
      refine (specPutText_any _ _ _ _ _ _ _ HLO.out (Nat.le_refl _) (fun j => by have := short_nth HSO.out j; unfold maxLen; omega) (by unfold maxLen; omega)).mono ?_
      rintro e w4 ⟨v4, rfl, ho4, hb4⟩
      have HO4 := Lib.hid (ho4.mono hwr)
      have HB4 := Lib.hid (HBW.out.trans (hb4.mono hwr))
      have HY4 := Lib.hid (HY.out.below hb4 (by omega))
      clear ho4 hb4
      cases hok : (putB out (nthP b k).2).2.2
      · have HF := Lib.hid (joinS_none (HG.out.trans (joinGo_stop hkb hok)))
        go_wp2_with fail
        go_ret2
        exact newPB_of HF.out.1 HF.out.2 ⟨_, rfl, OwnL.newAt _ _ rfl HB4.out.size, HB4.out.alloc HB4.out.size _⟩
      · have HR := Lib.hid (HG.out.trans (joinGo_step hkb hok))
        have HSN := Lib.hid (put_short HSO.out hz1)
        go_wp2_with fail
        go_roundw
        case rel => exact ⟨k + 1, _, by omega, by go_num, HR.out, HSN.out, HO4.out, HY4.out, HB4.out⟩
        case measure => simp [intOf]; omega
    · have HF := Lib.hid (joinS_some HAB.out (show joinGo a b = some out by rw [HG.out, List.drop_of_length_le (by have := HLB.out; omega)]; rfl))
      go_wp2_with fail
      go_ret2
      exact newPB_of HF.out.1 HF.out.2 ⟨_, rfl, HO.out, HBW.out⟩
end Go.Proofs.Ytpjndkiclfoanaa
