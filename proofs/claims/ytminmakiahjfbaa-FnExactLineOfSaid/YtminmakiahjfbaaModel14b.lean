/-
  Chapter 14's model: a version added.
-/
import Derived.Test.YtminmakiahjfbaaModel14
import Derived.Test.YtminmakiahjfbaaDraw0
namespace Go.Proofs.Ytminmakiahjfbaa
open Go.RowKit
set_option linter.unusedVariables false
theorem newVrB_put {l l' : List Ver} {b b' : Bool} {w w' : World} {v : Value} (h : (l, b) = (l', b')) (ho : OwnVr w' w.heap.size v l') (hb : Below w.heap.size w w') : NewVrB l b w (.returned (.tuple #[v, .bool b'])) w' := by
  simp only [Prod.mk.injEq] at h
  obtain ⟨rfl, rfl⟩ := h
  exact ⟨v, rfl, ho, hb⟩
theorem vers_snoc_small {l : List Ver} {v : Ver} {m : Nat} (h : ∀ k, (nthV l k).2.2.size ≤ m) (hv : v.2.2.size ≤ m) : ∀ k, (nthV (l ++ [v]) k).2.2.size ≤ m := by
  intro k
  rcases Nat.lt_trichotomy k l.length with h1 | h1 | h1
  · rw [nthV_pre h1]; exact h k
  · subst h1; rw [nthV_last]; exact hv
  · unfold nthV
    rw [List.getD_eq_getElem?_getD, List.getElem?_eq_none (by rw [List.length_append, List.length_singleton]; omega)]
    show (ByteArray.empty).size ≤ m
    simp
theorem three_at {w : World} {k : Nat} {a b c : Value} {e : TypeId} {q : Nat × Nat} (h : w.heap[k]? = some (.cells #[a, b, c] e q)) : w.cell? ⟨k, 0, none⟩ = some a ∧ w.cell? ⟨k, 1, none⟩ = some b ∧ w.cell? ⟨k, 2, none⟩ = some c := by
  refine ⟨?_, ?_, ?_⟩
  · rw [cell_of_row w k 0 _ _ q h]; rfl
  · rw [cell_of_row w k 1 _ _ q h]; rfl
  · rw [cell_of_row w k 2 _ _ q h]; rfl
theorem three_full {w : World} {r : Nat} {u v z : Value} {t : TypeId} (h : w.heap[r]? = some (.cells #[u, v, z] t (0, 0))) :
    w.cell? ⟨r, 0, none⟩ = some u ∧ w.cell? ⟨r, 1, none⟩ = some v ∧ w.cell? ⟨r, 2, none⟩ = some z ∧ w.frozen? ⟨r, 0, none⟩ = false ∧ w.frozen? ⟨r, 1, none⟩ = false ∧ w.frozen? ⟨r, 2, none⟩ = false := by
  refine ⟨?_, ?_, ?_, ?_, ?_, ?_⟩ <;> simp [World.cell?, World.frozen?, h]
set_option maxHeartbeats 8000000 in
set_option maxRecDepth 100000 in
theorem specAddVersion_any (x : Option Addr) (n cap : Nat) (l : List Ver) (v : Ver) (B : Nat) (w : World) (h : Vers w B x n cap l) (hB : B ≤ w.heap.size) (hz : ∀ k, (nthV l k).2.2.size ≤ maxLen) (hv : v.2.2.size ≤ maxLen) :
    Calls Try.prog 19 #[.slice x n cap, .agg #[.int .i64 v.1, .int .i64 v.2.1, .string v.2.2]] w (NewVrB (addV l v).1 (addV l v).2 w) := by
  have HZ := Lib.hid hz
  have HZV := Lib.hid hv
  have HLEN := Lib.hid h.len
  obtain ⟨W, hW⟩ : ∃ W, w.alloc (.cells #[.int .i64 v.1, .int .i64 v.2.1, .string v.2.2] 27) = W := ⟨_, rfl⟩
  have HBW := Lib.hid (show Below w.heap.size w W by rw [← hW]; exact (Below.refl w.heap.size w).alloc (Nat.le_refl _) _)
  have hbx : w.heap.size < W.heap.size := by rw [← hW]; simp
  have HX := Lib.hid (show W.heap[w.heap.size]? = some (.cells #[.int .i64 v.1, .int .i64 v.2.1, .string v.2.2] 27 (0, 0)) by rw [← hW]; exact heap_alloc_new w _)
  have HL := Lib.hid (show Vers W W.heap.size x n cap l from (h.below HBW.out hB).more (Nat.le_trans hB (Nat.le_of_lt hbx)))
  have hle := h.le
  have hmx := h.max
  unfold maxLen at hmx
  have HW := Lib.hid hW
  clear h hz hv hW
  cases hvb : versB l
  · have HF := Lib.hid (addV_bad (v := v) hvb)
    go_enter Try.func19, Try.ntmps19
    have hW := HW.out
    go_wp2_with (go_at_call 15; refine (specVersionsValid_any x n cap l _ _ HL.out HZ.out).mono ?_; rintro e w' ⟨rfl, hw⟩; subst hw; rw [hvb])
    go_ret2
    exact newVrB_put (by rw [HF.out]) ((OwnL.new vrG 27 (size := 3) W).mono HBW.out.size) (HBW.out.alloc HBW.out.size _)
  have HVB := Lib.hid hvb
  have hn12 : n ≤ 12 := by have := (versB_at hvb).1; have := HLEN.out; omega
  clear hvb
  obtain ⟨p0, p1, p2⟩ := three_at HX.out
  have HBOX := Lib.hid (show ∀ w', Below W.heap.size W w' → w'.cell? ⟨w.heap.size, 0, none⟩ = some (.int .i64 v.1) ∧ w'.cell? ⟨w.heap.size, 1, none⟩ = some (.int .i64 v.2.1) ∧ w'.cell? ⟨w.heap.size, 2, none⟩ = some (.string v.2.2) from fun w' hb' => three_at ((hb'.block w.heap.size hbx).trans HX.out))
  have pa0 : ∀ (m : Nat) (o : Obj), ((W.drewN m).alloc o).cell? ⟨w.heap.size, 0, none⟩ = some (.int .i64 v.1) := fun m o => (HBOX.out _ ((below_drewN (Below.refl _ _) m).alloc (le_drewN (Nat.le_refl _)) o)).1
  have pa1 : ∀ (m : Nat) (o : Obj), ((W.drewN m).alloc o).cell? ⟨w.heap.size, 1, none⟩ = some (.int .i64 v.2.1) := fun m o => (HBOX.out _ ((below_drewN (Below.refl _ _) m).alloc (le_drewN (Nat.le_refl _)) o)).2.1
  have pa2 : ∀ (m : Nat) (o : Obj), ((W.drewN m).alloc o).cell? ⟨w.heap.size, 2, none⟩ = some (.string v.2.2) := fun m o => (HBOX.out _ ((below_drewN (Below.refl _ _) m).alloc (le_drewN (Nat.le_refl _)) o)).2.2
  have HYES := Lib.hid (addV_yes (l := l) (v := v) HVB.out); have HNO := Lib.hid (addV_no (l := l) (v := v) HVB.out)
  go_enter Try.func19, Try.ntmps19
  have hW := HW.out
  go_wp2_with (go_at_call 15; refine (specVersionsValid_any x n cap l _ _ HL.out HZ.out).mono ?_; rintro e w' ⟨rfl, hw⟩; subst hw; rw [HVB.out])
  clear hW
  go_region_law (first
    | (refine step_appBE eltVr encVr (w0 := W) (base := W.heap.size) (l := []) (l' := l) (u := v) (kE := W.heap.size + 1) (gv := W.heap.size) (nv := 0) (cv := 0) (x := x) (m := n) (c := cap) ?_ ?_ ?_ ?_ ?_ ?_ ?_ ?_ rfl (.tmp 11) (.tmp 12) (.tmp 15) rfl rfl rfl rfl ?_; (focus repeat (first | (with_reducible refine OwnL.newAt _ _ ?_ ?_; (focus repeat (first | rfl | with_reducible apply eq_drew | with_reducible apply eq_drewN | with_reducible apply eq_allocS | with_reducible apply eq_alloc)); (focus repeat (first | assumption | with_reducible exact Nat.le_refl _ | with_reducible apply le_drew | with_reducible apply le_drewN | with_reducible apply le_alloc | omega))) | with_reducible apply OwnL.drew | with_reducible apply OwnL.drewN | with_reducible apply OwnL.alloc)); (focus (refine Exists.intro W.heap.size ?_; refine Lst.below HL.out ?_ (Nat.le_refl _); (focus repeat (first | with_reducible exact Below.refl _ _ | with_reducible apply Below.drew | with_reducible apply below_drewN | (with_reducible refine Below.alloc ?_ ?_ _; rotate_left; (focus repeat (first | assumption | with_reducible exact Nat.le_refl _ | with_reducible apply le_drew | with_reducible apply le_drewN | with_reducible apply le_alloc | omega))))))); (focus repeat (first | with_reducible exact Below.refl _ _ | with_reducible apply Below.drew | with_reducible apply below_drewN | (with_reducible refine Below.alloc ?_ ?_ _; rotate_left; (focus repeat (first | assumption | with_reducible exact Nat.le_refl _ | with_reducible apply le_drew | with_reducible apply le_drewN | with_reducible apply le_alloc | omega))))); (focus repeat (first | (with_reducible refine OneAt.new _ _ ?_ _ _ rfl; (focus repeat (first | rfl | with_reducible apply eq_drew | with_reducible apply eq_drewN | with_reducible apply eq_allocS | with_reducible apply eq_alloc))) | with_reducible apply OneAt.drew | with_reducible apply OneAt.drewN | with_reducible apply OneAt.alloc)); (focus repeat (first | assumption | with_reducible exact Nat.le_refl _ | with_reducible apply le_drew | with_reducible apply le_drewN | with_reducible apply le_alloc | omega)); (focus omega); (focus (first | decide | (simp; done) | (have hl0 := HLEN.out; simp; omega))); (focus omega); intro v1 w5 hown hb2 hs2 he; obtain ⟨p0, p1, p2⟩ := HBOX.out _ hb2; have H1 := Lib.hid hown; have HB2 := Lib.hid hb2; have HE := Lib.hid he; clear hown hb2 he)
    | (refine step_appBE eltVr encVr (w0 := W) (base := W.heap.size) (l := []) (l' := l) (u := v) (kE := W.heap.size) (gv := W.heap.size + 1) (nv := 0) (cv := 0) (x := x) (m := n) (c := cap) ?_ ?_ ?_ ?_ ?_ ?_ ?_ ?_ rfl (.tmp 11) (.tmp 12) (.tmp 15) rfl rfl rfl rfl ?_; (focus repeat (first | (with_reducible refine OwnL.newAt _ _ ?_ ?_; (focus repeat (first | rfl | with_reducible apply eq_drew | with_reducible apply eq_drewN | with_reducible apply eq_allocS | with_reducible apply eq_alloc)); (focus repeat (first | assumption | with_reducible exact Nat.le_refl _ | with_reducible apply le_drew | with_reducible apply le_drewN | with_reducible apply le_alloc | omega))) | with_reducible apply OwnL.drew | with_reducible apply OwnL.drewN | with_reducible apply OwnL.alloc)); (focus (refine Exists.intro W.heap.size ?_; refine Lst.below HL.out ?_ (Nat.le_refl _); (focus repeat (first | with_reducible exact Below.refl _ _ | with_reducible apply Below.drew | with_reducible apply below_drewN | (with_reducible refine Below.alloc ?_ ?_ _; rotate_left; (focus repeat (first | assumption | with_reducible exact Nat.le_refl _ | with_reducible apply le_drew | with_reducible apply le_drewN | with_reducible apply le_alloc | omega))))))); (focus repeat (first | with_reducible exact Below.refl _ _ | with_reducible apply Below.drew | with_reducible apply below_drewN | (with_reducible refine Below.alloc ?_ ?_ _; rotate_left; (focus repeat (first | assumption | with_reducible exact Nat.le_refl _ | with_reducible apply le_drew | with_reducible apply le_drewN | with_reducible apply le_alloc | omega))))); (focus repeat (first | (with_reducible refine OneAt.new _ _ ?_ _ _ rfl; (focus repeat (first | rfl | with_reducible apply eq_drew | with_reducible apply eq_drewN | with_reducible apply eq_allocS | with_reducible apply eq_alloc))) | with_reducible apply OneAt.drew | with_reducible apply OneAt.drewN | with_reducible apply OneAt.alloc)); (focus repeat (first | assumption | with_reducible exact Nat.le_refl _ | with_reducible apply le_drew | with_reducible apply le_drewN | with_reducible apply le_alloc | omega)); (focus omega); (focus (first | decide | (simp; done) | (have hl0 := HLEN.out; simp; omega))); (focus omega); intro v1 w5 hown hb2 hs2 he; obtain ⟨p0, p1, p2⟩ := HBOX.out _ hb2; have H1 := Lib.hid hown; have HB2 := Lib.hid hb2; have HE := Lib.hid he; clear hown hb2 he)
    | (refine step_appB eltVr encVr (w0 := W) (base := W.heap.size) (l := []) (l' := l) (v := .slice (some ⟨W.heap.size, 0, none⟩) 0 0) (x := x) (m := n) (c := cap) ?_ ?_ ?_ ?_ ?_ ?_ rfl (.tmp 11) (.tmp 12) rfl rfl rfl ?_; (focus repeat (first | (with_reducible refine OwnL.newAt _ _ ?_ ?_; (focus repeat (first | rfl | with_reducible apply eq_drew | with_reducible apply eq_drewN | with_reducible apply eq_allocS | with_reducible apply eq_alloc)); (focus repeat (first | assumption | with_reducible exact Nat.le_refl _ | with_reducible apply le_drew | with_reducible apply le_drewN | with_reducible apply le_alloc | omega))) | with_reducible apply OwnL.drew | with_reducible apply OwnL.drewN | with_reducible apply OwnL.alloc)); (focus (refine Exists.intro W.heap.size ?_; refine Lst.below HL.out ?_ (Nat.le_refl _); (focus repeat (first | with_reducible exact Below.refl _ _ | with_reducible apply Below.drew | with_reducible apply below_drewN | (with_reducible refine Below.alloc ?_ ?_ _; rotate_left; (focus repeat (first | assumption | with_reducible exact Nat.le_refl _ | with_reducible apply le_drew | with_reducible apply le_drewN | with_reducible apply le_alloc | omega))))))); (focus repeat (first | with_reducible exact Below.refl _ _ | with_reducible apply Below.drew | with_reducible apply below_drewN | (with_reducible refine Below.alloc ?_ ?_ _; rotate_left; (focus repeat (first | assumption | with_reducible exact Nat.le_refl _ | with_reducible apply le_drew | with_reducible apply le_drewN | with_reducible apply le_alloc | omega))))); (focus repeat (first | assumption | with_reducible exact Nat.le_refl _ | with_reducible apply le_drew | with_reducible apply le_drewN | with_reducible apply le_alloc | omega)); (focus (first | decide | (simp; done) | (have hl0 := HLEN.out; simp; omega))); (focus omega); intro v1 w5 hown hb2 hs2; obtain ⟨p0, p1, p2⟩ := HBOX.out _ hb2; have H1 := Lib.hid hown; have HB2 := Lib.hid hb2; clear hown hb2)
    | (refine step_appB eltVr encVr (w0 := W) (base := W.heap.size) (l := [] ++ l) (l' := [v]) (v := v1) (x := some ⟨w5.heap.size, 0, none⟩) (m := 1) (c := 1) ?_ ?_ ?_ ?_ ?_ ?_ rfl (.tmp 13) (.tmp 15) rfl rfl rfl ?_; (focus repeat (first | with_reducible exact H1.out | with_reducible apply OwnL.drew | with_reducible apply OwnL.drewN | with_reducible apply OwnL.alloc)); (focus (refine ⟨_, OneAt.lst (e := 27) ?_⟩; (focus repeat (first | with_reducible exact HE.out | (with_reducible refine OneAt.new _ _ ?_ _ _ rfl; (focus repeat (first | rfl | with_reducible apply eq_drew | with_reducible apply eq_drewN | with_reducible apply eq_allocS | with_reducible apply eq_alloc))) | with_reducible apply OneAt.drew | with_reducible apply OneAt.drewN | with_reducible apply OneAt.alloc)))); (focus repeat (first | with_reducible exact HB2.out | with_reducible apply Below.drew | with_reducible apply below_drewN | (with_reducible refine Below.alloc ?_ ?_ _; rotate_left; (focus repeat (first | assumption | with_reducible exact Nat.le_refl _ | with_reducible apply le_drew | with_reducible apply le_drewN | with_reducible apply le_alloc | omega))))); (focus repeat (first | assumption | with_reducible exact Nat.le_refl _ | with_reducible apply le_drew | with_reducible apply le_drewN | with_reducible apply le_alloc | omega)); (focus (first | decide | (simp; done) | (have hl0 := HLEN.out; simp; omega))); (focus omega); intro v2 w6 hown hb3 hs3; obtain ⟨xo, no, co, rfl, _⟩ := hown.lst; rw [List.nil_append] at hown; have H2 := Lib.hid hown; have HB3 := Lib.hid hb3; clear hown hb3)
    | (refine step_appB eltVr encVr (w0 := W) (base := W.heap.size) (l := [] ++ l) (l' := [v]) (v := v1) (x := some ⟨W.heap.size + 1, 0, none⟩) (m := 1) (c := 1) ?_ ?_ ?_ ?_ ?_ ?_ rfl (.tmp 13) (.tmp 15) rfl rfl rfl ?_; (focus repeat (first | with_reducible exact H1.out | with_reducible apply OwnL.drew | with_reducible apply OwnL.drewN | with_reducible apply OwnL.alloc)); (focus (refine ⟨_, OneAt.lst (e := 27) ?_⟩; (focus repeat (first | with_reducible exact HE.out | (with_reducible refine OneAt.new _ _ ?_ _ _ rfl; (focus repeat (first | rfl | with_reducible apply eq_drew | with_reducible apply eq_drewN | with_reducible apply eq_allocS | with_reducible apply eq_alloc))) | with_reducible apply OneAt.drew | with_reducible apply OneAt.drewN | with_reducible apply OneAt.alloc)))); (focus repeat (first | with_reducible exact HB2.out | with_reducible apply Below.drew | with_reducible apply below_drewN | (with_reducible refine Below.alloc ?_ ?_ _; rotate_left; (focus repeat (first | assumption | with_reducible exact Nat.le_refl _ | with_reducible apply le_drew | with_reducible apply le_drewN | with_reducible apply le_alloc | omega))))); (focus repeat (first | assumption | with_reducible exact Nat.le_refl _ | with_reducible apply le_drew | with_reducible apply le_drewN | with_reducible apply le_alloc | omega)); (focus (first | decide | (simp; done) | (have hl0 := HLEN.out; simp; omega))); (focus omega); intro v2 w6 hown hb3 hs3; obtain ⟨xo, no, co, rfl, _⟩ := hown.lst; rw [List.nil_append] at hown; have H2 := Lib.hid hown; have HB3 := Lib.hid hb3; clear hown hb3)
    | (refine step_appB eltVr encVr (w0 := W) (base := W.heap.size) (l := [] ++ l) (l' := [v]) (v := v1) (x := some ⟨W.heap.size, 0, none⟩) (m := 1) (c := 1) ?_ ?_ ?_ ?_ ?_ ?_ rfl (.tmp 13) (.tmp 15) rfl rfl rfl ?_; (focus repeat (first | with_reducible exact H1.out | with_reducible apply OwnL.drew | with_reducible apply OwnL.drewN | with_reducible apply OwnL.alloc)); (focus (refine ⟨_, OneAt.lst (e := 27) ?_⟩; (focus repeat (first | with_reducible exact HE.out | (with_reducible refine OneAt.new _ _ ?_ _ _ rfl; (focus repeat (first | rfl | with_reducible apply eq_drew | with_reducible apply eq_drewN | with_reducible apply eq_allocS | with_reducible apply eq_alloc))) | with_reducible apply OneAt.drew | with_reducible apply OneAt.drewN | with_reducible apply OneAt.alloc)))); (focus repeat (first | with_reducible exact HB2.out | with_reducible apply Below.drew | with_reducible apply below_drewN | (with_reducible refine Below.alloc ?_ ?_ _; rotate_left; (focus repeat (first | assumption | with_reducible exact Nat.le_refl _ | with_reducible apply le_drew | with_reducible apply le_drewN | with_reducible apply le_alloc | omega))))); (focus repeat (first | assumption | with_reducible exact Nat.le_refl _ | with_reducible apply le_drew | with_reducible apply le_drewN | with_reducible apply le_alloc | omega)); (focus (first | decide | (simp; done) | (have hl0 := HLEN.out; simp; omega))); (focus omega); intro v2 w6 hown hb3 hs3; obtain ⟨xo, no, co, rfl, _⟩ := hown.lst; rw [List.nil_append] at hown; have H2 := Lib.hid hown; have HB3 := Lib.hid hb3; clear hown hb3))
  all_goals
    have HZ2 := Lib.hid (vers_snoc_small HZ.out HZV.out)
    have HBF := Lib.hid (HBW.out.trans (HB3.out.mono HBW.out.size))
    have hWs := HBW.out.size
    clear pa0 pa1 pa2
    cases hvb2 : versB (l ++ [v])
    · have HF := Lib.hid (HNO.out hvb2)
      have HV2 := Lib.hid hvb2
      have hn2 : n ≤ 2000000 := by omega
      clear hvb2
      go_wp2_with (first
        | (go_at_call 15; refine (specVersionsValid_any _ _ _ (l ++ [v]) _ _ H2.out.lst' HZ2.out).mono ?_; rintro e w' ⟨rfl, hw⟩; subst hw; rw [HV2.out])
        | (at_builtin; refine wpList_appL eltVr encVr (OwnL.newAt vrG 27 (size := 3) rfl (Nat.le_refl _)) ((HL.out.below HB3.out (Nat.le_refl _)).alloc HB3.out.size _) (by decide) hn2 (le_alloc (Nat.le_refl _) _) rfl _ _ rfl rfl rfl ?_; intro v7 w7 hown7 hgr7 hat7; have HO7 := Lib.hid hown7; have HG7 := Lib.hid hgr7; clear hown7 hgr7 hat7))
      go_ret2
      refine newVrB_put (by rw [HF.out]) (OwnL.mono (show OwnVr _ _ _ l by have := HO7.out; rwa [List.nil_append] at this) (Nat.le_trans hWs HB3.out.size)) ((HBF.out.alloc HBF.out.size _).grown HG7.out (le_alloc HBF.out.size _) (fun q e => ?_))
      simp [Value.ownBlock] at e
      have := HB3.out.size
      omega
    · have HF := Lib.hid (HYES.out hvb2)
      have HV2 := Lib.hid hvb2
      clear hvb2
      go_wp2_with (go_at_call 15; refine (specVersionsValid_any _ _ _ (l ++ [v]) _ _ H2.out.lst' HZ2.out).mono ?_; rintro e w' ⟨rfl, hw⟩; subst hw; rw [HV2.out])
      go_ret2
      exact newVrB_put (by rw [HF.out]) (H2.out.mono hWs) HBF.out
end Go.Proofs.Ytminmakiahjfbaa
