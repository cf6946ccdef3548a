/-
  Chapter 14's model: valid versions, lines, the nearest one, tips.
-/
import Derived.Test.YtminmakiahjfbaaMath14
import Derived.Test.YtminmakiahjfbaaHasInt
namespace Go.Proofs.Ytminmakiahjfbaa
open Go.RowKit
set_option linter.unusedVariables false
theorem specVersionsValid_any (x : Option Addr) (n cap : Nat) (l : List Ver) (B : Nat) (w : World) (h : Vers w B x n cap l) (hz : ∀ k, (nthV l k).2.2.size ≤ maxLen) :
    Calls Try.prog 15 #[.slice x n cap] w fun e w' => e = .returned (.bool (versB l)) ∧ w = w' := by
  have HL := Lib.hid h.len
  have HH := Lib.hid h
  have HZ := Lib.hid hz
  have hmx := h.max
  have hle := h.le
  clear h hz
  unfold maxLen at hmx
  go_enter Try.func15, Try.ntmps15
  go_wp2
  go_loop [3] (fun i => ∃ k : Nat, k ≤ n ∧ i = .int .i64 k ∧ ∀ j, j < k → okV l j = true) (fun i => n - (intOf i).toNat)
  case atStart => exact ⟨0, by omega, rfl, fun j hj => by omega⟩
  case round =>
    obtain ⟨k, hk, rfl, ha⟩ := hrel
    have HA := Lib.hid ha; clear ha
    by_cases hlt : k < n
    · have hkl : k < l.length := by have := HL.out; omega
      obtain ⟨b, off, rfl, hb, hc0, hc1, hc2⟩ := HH.out.atV hlt
      have hzk := HZ.out k
      have hw9 : IntKind.i64.wrap ((k : Int) - 1) = (k : Int) - 1 := by rw [IntKind.wrap_i64]; omega
      have HB := Lib.hid (versB_bad hkl)
      cases h1 : in3 (nthV l k).1 0 16777212
      · have HF := Lib.hid (HB.out (by unfold okV; rw [h1]; rfl))
        have H1 := Lib.hid h1
        clear h1
        go_wp2_with (go_at_call 46; refine (l1In_any _ _ _ _).mono ?_; rintro e w' ⟨rfl, hw⟩; subst hw; rw [H1.out])
        go_ret
        exact ⟨ret_bool HF.out.symm, rfl⟩
      cases h2 : in3 (nthV l k).2.1 (-1) ((k : Int) - 1)
      · have HF := Lib.hid (HB.out (by unfold okV; rw [h1, h2]; rfl))
        have H1 := Lib.hid h1; have H2 := Lib.hid h2
        clear h1 h2
        go_wp2_with (go_at_call 46; refine (l1In_any _ _ _ _).mono ?_; rintro e w' ⟨rfl, hw⟩; subst hw; first | rw [H1.out] | rw [H2.out])
        go_ret
        exact ⟨ret_bool HF.out.symm, rfl⟩
      cases h3 : wordB (nthV l k).2.2
      · have HF := Lib.hid (HB.out (by unfold okV; rw [h1, h2, h3]; rfl))
        have H1 := Lib.hid h1; have H2 := Lib.hid h2; have H3 := Lib.hid h3
        clear h1 h2 h3
        go_wp2_with (first
          | (go_at_call 46; refine (l1In_any _ _ _ _).mono ?_; rintro e w' ⟨rfl, hw⟩; subst hw; first | rw [H1.out] | rw [H2.out])
          | (go_at_call 47; refine (specWordValid_any _ _ hzk).mono ?_; rintro e w' ⟨rfl, hw⟩; subst hw; rw [H3.out]))
        go_ret
        exact ⟨ret_bool HF.out.symm, rfl⟩
      · have HR := Lib.hid (show okV l k = true by unfold okV; rw [h1, h2, h3]; rfl)
        have H1 := Lib.hid h1; have H2 := Lib.hid h2; have H3 := Lib.hid h3
        clear h1 h2 h3
        go_wp2_with (first
          | (go_at_call 46; refine (l1In_any _ _ _ _).mono ?_; rintro e w' ⟨rfl, hw⟩; subst hw; first | rw [H1.out] | rw [H2.out])
          | (go_at_call 47; refine (specWordValid_any _ _ hzk).mono ?_; rintro e w' ⟨rfl, hw⟩; subst hw; rw [H3.out]))
        go_round
        case rel => exact ⟨k + 1, by omega, by go_num, fun j hj => by rcases Nat.lt_succ_iff_lt_or_eq.1 hj with h | rfl; exact HA.out j h; exact HR.out⟩
        case measure => simp [intOf]; omega
    · have HF := Lib.hid (versB_end (l := l) (fun j hj => HA.out j (by have := HL.out; omega)))
      go_wp2
      go_ret
      exact ⟨ret_bool (by rw [HF.out, HL.out]; simp; omega), rfl⟩
set_option maxHeartbeats 1000000 in
theorem specLineOf_any (x : Option Addr) (n cap : Nat) (l : List Ver) (m : Int) (B : Nat) (w : World) (h : Vers w B x n cap l) (hB : B ≤ w.heap.size) (hz : ∀ k, (nthV l k).2.2.size ≤ maxLen) :
    Calls Try.prog 24 #[.slice x n cap, .int .i64 m] w (NewI (lineB l m) w) := by
  have HL := Lib.hid h.len
  have hmx := h.max
  have hle := h.le
  unfold maxLen at hmx
  have HH := Lib.hid (h.below ((Below.refl w.heap.size w).alloc (Nat.le_refl _) (.cells #[] 3)) hB)
  have HZ := Lib.hid hz; have HW0 := Lib.hid h
  have HO0 := Lib.hid (own_newI w)
  have HB0 := Lib.hid ((Below.refl w.heap.size w).alloc (Nat.le_refl _) (.cells #[] 3))
  have hw9 : IntKind.i64.wrap ((n : Int) - 1) = (n : Int) - 1 := by rw [IntKind.wrap_i64]; omega
  clear h hz
  cases hv : versB l
  · have HF := Lib.hid (lineB_no (l := l) (n := m) (.inl hv))
    go_enter Try.func24, Try.ntmps24
    go_wp2_with (go_at_call 15; refine (specVersionsValid_any x n cap l B _ HH.out HZ.out).mono ?_; rintro e w' ⟨rfl, hw⟩; subst hw; rw [hv])
    go_ret
    exact ⟨_, rfl, by rw [HF.out]; exact HO0.out, HB0.out⟩
  have HV := Lib.hid hv
  clear hv
  cases hi : in3 m 0 ((n : Int) - 1)
  · have HF := Lib.hid (lineB_no (l := l) (n := m) (.inr (by rw [HL.out]; exact hi)))
    have HI := Lib.hid hi
    clear hi
    go_enter Try.func24, Try.ntmps24
    go_wp2_with (first
      | (go_at_call 15; refine (specVersionsValid_any x n cap l B _ HH.out HZ.out).mono ?_; rintro e w' ⟨rfl, hw⟩; subst hw; rw [HV.out])
      | (go_at_call 46; refine (l1In_any _ _ _ _).mono ?_; rintro e w' ⟨rfl, hw⟩; subst hw; rw [HI.out]))
    go_ret
    exact ⟨_, rfl, by rw [HF.out]; exact HO0.out, HB0.out⟩
  have HI := Lib.hid hi
  have hbd : 0 ≤ m ∧ m ≤ (n : Int) - 1 := by unfold in3 at hi; exact of_decide_eq_true hi
  obtain ⟨m0, rfl⟩ : ∃ k : Nat, m = (k : Int) := ⟨m.toNat, by omega⟩
  have HF := Lib.hid (lineB_yes (l := l) (n := m0) HV.out (by have := HL.out; omega))
  have hlen12 := lineB_len l m0
  rw [HF.out] at hlen12
  have H12 := Lib.hid hlen12
  clear hi hlen12
  go_enter Try.func24, Try.ntmps24
  go_wp2_with (first
    | (go_at_call 15; refine (specVersionsValid_any x n cap l B _ HH.out HZ.out).mono ?_; rintro e w' ⟨rfl, hw⟩; subst hw; rw [HV.out])
    | (go_at_call 46; refine (l1In_any _ _ _ _).mono ?_; rintro e w' ⟨rfl, hw⟩; subst hw; rw [HI.out]))
  go_loopw [1, 5] (fun nv ov wr => ∃ (v : Int) (pre : List Int), nv = .int .i64 v ∧ -1 ≤ v ∧ v < (n : Int) ∧ OwnI wr w.heap.size ov pre ∧ pre ++ lineI l v = lineI l m0 ∧ Below w.heap.size w wr) (fun nv _ _ => (intOf nv + 1).toNat)
  case atStart => exact ⟨m0, [], rfl, by omega, by omega, HO0.out, rfl, HB0.out⟩
  case round =>
    obtain ⟨v, pre, rfl, hv0, hvn, ho, hp, hb⟩ := hrel
    have HO := Lib.hid ho; have HP := Lib.hid hp; have HB := Lib.hid hb
    have hsz := hb.size
    clear ho hp hb
    by_cases hneg : v < 0
    · have HE := Lib.hid (show pre = lineI l m0 by have := HP.out; rw [lineI_neg hneg, List.append_nil] at this; exact this)
      have hd : ¬ (0 : Int) ≤ v := by omega
      go_wp2
      go_ret
      exact ⟨_, rfl, by rw [HF.out, ← HE.out]; exact HO.out, HB.out⟩
    · obtain ⟨k, rfl⟩ : ∃ k : Nat, v = (k : Int) := ⟨v.toNat, by omega⟩
      have hkn : k < n := by omega
      have hkl : k < l.length := by have := HL.out; omega
      have HST := Lib.hid (lineI_step HV.out hkl)
      have hok := okV_at ((versB_at HV.out).2 k hkl)
      have hpre : pre.length ≤ 2000000 := by
        have h1 := congrArg List.length HP.out
        rw [List.length_append] at h1
        have := H12.out
        omega
      have hd : (0 : Int) ≤ (k : Int) := by omega
      obtain ⟨b, off, rfl, hbb, hc0, hc1, hc2⟩ := (HW0.out.below HB.out hB).atV hkn
      obtain ⟨u, hu⟩ : ∃ u, (nthV l k).2.1 = u := ⟨_, rfl⟩
      rw [hu] at HST hok
      have HU := Lib.hid hu
      clear hu hc0 hc1 hc2
      go_wp2_with (at_builtin; refine wpList_app1I (k : Int) HO.out hpre hsz rfl _ _ rfl rfl rfl ?_; intro v' w' hown hgrow; have HW := Lib.hid hown; have HBN := Lib.hid (HB.out.grown hgrow hsz HO.out.at); obtain ⟨b', off', e', _, d0, d1, d2⟩ := (HW0.out.below HBN.out hB).atV hkn; simp only [Option.some.injEq, Addr.mk.injEq, and_true] at e'; obtain ⟨rfl, rfl⟩ := e'; rw [HU.out] at d1; clear hown hgrow d0 d2)
      go_roundw
      case rel => exact ⟨u, pre ++ [(k : Int)], rfl, by omega, by omega, HW.out, by rw [← HP.out, HST.out, List.append_assoc]; rfl, HBN.out⟩
      case measure => simp [intOf]; omega
/-! ### the nearest one of both -/
theorem near_at {xs ys : List Int} {k : Nat} (h : k < xs.length) (hb : ∀ j, j < k → nthI xs j ∉ ys) (hin : nthI xs k ∈ ys) : (xs.find? fun v => decide (v ∈ ys)) = some (nthI xs k) := by
  rw [List.find?_eq_some_iff_getElem]
  refine ⟨by simpa using hin, k, h, (nthI_get h).symm, fun j hj => ?_⟩
  have := hb j hj
  rw [nthI_get (by omega)] at this
  simpa using this
theorem near_none {xs ys : List Int} (hb : ∀ j, j < xs.length → nthI xs j ∉ ys) : (xs.find? fun v => decide (v ∈ ys)) = none := by
  rw [List.find?_eq_none]
  intro v hv
  obtain ⟨j, hj, rfl⟩ := List.mem_iff_getElem.1 hv
  have := hb j hj
  rw [nthI_get hj] at this
  simpa using this
set_option maxHeartbeats 1000000 in
set_option maxRecDepth 100000 in
theorem specNearestBoth_any (x : Option Addr) (n cap : Nat) (l : List Ver) (p q : Int) (B : Nat) (w : World) (h : Vers w B x n cap l) (hB : B ≤ w.heap.size) (hz : ∀ k, (nthV l k).2.2.size ≤ maxLen) :
    Calls Try.prog 27 #[.slice x n cap, .int .i64 p, .int .i64 q] w (BelowI (nearB l p q) w) := by
  have HH := Lib.hid h; have HZ := Lib.hid hz
  clear h hz
  go_enter Try.func27, Try.ntmps27
  go_wp2_with fail
  refine (specLineOf_any x n cap l p B _ HH.out hB HZ.out).mono ?_
  rintro e w1 ⟨v1, rfl, ho, hb⟩
  obtain ⟨y1, m1, d1, rfl, hi1⟩ := ho.ints
  have HB1 := Lib.hid hb; have HX := Lib.hid hi1
  have hs1 := hb.size
  clear ho hb hi1
  go_wp2_with fail
  refine (specLineOf_any x n cap l q B _ (HH.out.below HB1.out hB) (Nat.le_trans hB hs1) HZ.out).mono ?_
  rintro e w2 ⟨v2, rfl, ho, hb⟩
  obtain ⟨y2, m2, d2, rfl, hi2⟩ := ho.ints
  have HB2 := Lib.hid (HB1.out.trans (hb.mono hs1)); have HX2 := Lib.hid ((HX.out.below hb (Nat.le_refl _)).more hb.size); have HY2 := Lib.hid hi2
  clear ho hb hi2 HX
  have HLX := Lib.hid HX2.out.len; have HLY := Lib.hid HY2.out.len
  have hm1 : m1 ≤ 12 := by have := lineB_len l p; have := HLX.out; omega
  have hm2 : m2 ≤ 12 := by have := lineB_len l q; have := HLY.out; omega
  have HAT := Lib.hid (show ∀ v, ((lineB l p).find? fun v => decide (v ∈ lineB l q)) = some v → nearB l p q = v from fun v e => by unfold nearB; rw [e]; rfl)
  have HNO := Lib.hid (show ((lineB l p).find? fun v => decide (v ∈ lineB l q)) = none → nearB l p q = -1 from fun e => by unfold nearB; rw [e]; rfl)
  obtain ⟨xs, hxs⟩ : ∃ xs, lineB l p = xs := ⟨_, rfl⟩
  obtain ⟨ys, hys⟩ : ∃ ys, lineB l q = ys := ⟨_, rfl⟩
  rw [hxs] at HX2 HLX HAT HNO
  rw [hys] at HY2 HLY HAT HNO
  clear hxs hys
  go_wp2_with fail
  go_loopw [9] (fun i wr => ∃ k : Nat, k ≤ m1 ∧ i = .int .i64 k ∧ (∀ j, j < k → nthI xs j ∉ ys) ∧ ∃ d, wr = w2.drewN d) (fun i _ => m1 - (intOf i).toNat)
  case atStart => exact ⟨0, by omega, rfl, (fun j hj => by omega), 0, rfl⟩
  case round =>
    obtain ⟨k, hk, rfl, hall, d, rfl⟩ := hrel
    have HALL := Lib.hid hall
    clear hall
    by_cases hlt : k < m1
    · have hkl : k < xs.length := by have := HLX.out; omega
      obtain ⟨b1, o1, rfl, hb1, hc1⟩ := HX2.out.at hlt
      go_wp2_with fail
      go_loopw [10] (fun i wr => ∃ j : Nat, j ≤ m2 ∧ i = .int .i64 j ∧ (∀ i, i < j → nthI ys i ≠ nthI xs k) ∧ ∃ d, wr = w2.drewN d) (fun i _ => m2 - (intOf i).toNat)
      case atStart => exact ⟨0, by omega, rfl, (fun j hj => by omega), d, rfl⟩
      case round =>
        obtain ⟨j, hj, rfl, hne, d', rfl⟩ := hrel
        have HNE := Lib.hid hne
        clear hne hc1
        by_cases hlt2 : j < m2
        · have hjl : j < ys.length := by have := HLY.out; omega
          obtain ⟨b', o', e', _, hc1⟩ := HX2.out.at hlt
          simp only [Option.some.injEq, Addr.mk.injEq, and_true] at e'
          obtain ⟨rfl, rfl⟩ := e'
          obtain ⟨b2, o2, rfl, hb2, hc2⟩ := HY2.out.at hlt2
          by_cases he : nthI xs k = nthI ys j
          · have hd : (nthI xs k == nthI ys j) = true := by simpa using he
            have HF := Lib.hid (HAT.out _ (near_at hkl HALL.out (by rw [he, nthI_get hjl]; exact List.getElem_mem _)))
            clear he
            go_wp2
            go_quiet (fail)
            go_wp2
            go_ret
            exact ⟨ret_int HF.out.symm, by first | exact below_drewN HB2.out _ | exact below_drewN (below_drewN HB2.out _) _⟩
          · have hd : (nthI xs k == nthI ys j) = false := by simpa using he
            have HE := Lib.hid he
            clear he
            go_wp2
            go_quiet (fail)
            go_wp2
            go_roundw
            case rel => exact ⟨j + 1, by omega, by go_num, fun i hi => by
              rcases Nat.lt_succ_iff_lt_or_eq.1 hi with h | rfl
              · exact HNE.out i h
              · exact fun e => HE.out e.symm, _, by first | rfl | rw [World.drewN_drewN]⟩
            case measure => simp [intOf]; omega
        · have HNK := Lib.hid (not_mem_of (ys := ys) (v := nthI xs k) fun i hi => HNE.out i (by have := HLY.out; omega))
          go_wp2_with fail
          go_roundw
          case rel => exact ⟨k + 1, by omega, by go_num, fun j hj => by
            rcases Nat.lt_succ_iff_lt_or_eq.1 hj with h | rfl
            · exact HALL.out j h
            · exact HNK.out, _, rfl⟩
          case measure => simp [intOf]; omega
    · have HF := Lib.hid (HNO.out (near_none fun j hj => HALL.out j (by have := HLX.out; omega)))
      go_wp2_with fail
      go_ret
      exact ⟨ret_int HF.out.symm, below_drewN HB2.out _⟩
/-! ### tips -/
def tipsK (l : List Ver) (k : Nat) : List Int := ((List.range k).filter fun j => !namedV l j).map Int.ofNat
theorem tipsK_yes {l : List Ver} {k : Nat} (h : namedV l k = false) : tipsK l (k + 1) = tipsK l k ++ [(k : Int)] := by
  unfold tipsK
  rw [List.range_succ, List.filter_append, List.map_append, List.filter_cons, if_pos (by rw [h]; rfl)]; rfl
theorem tipsK_no {l : List Ver} {k : Nat} (h : namedV l k = true) : tipsK l (k + 1) = tipsK l k := by
  unfold tipsK
  rw [List.range_succ, List.filter_append, List.filter_cons, if_neg (by rw [h]; simp)]; simp
theorem tipsK_len (l : List Ver) (k : Nat) : (tipsK l k).length ≤ k := by
  unfold tipsK
  rw [List.length_map]
  exact Nat.le_trans (List.length_filter_le _ _) (by simp)
def namedJ (l : List Ver) (k j : Nat) : Bool := (l.take j).any fun v => decide (v.2.1 = (k : Int))
theorem namedJ_step {l : List Ver} {k j : Nat} (h : j < l.length) : namedJ l k (j + 1) = (namedJ l k j || decide ((nthV l j).2.1 = (k : Int))) := by
  unfold namedJ
  rw [take_snocV h, List.any_append]; simp
set_option maxHeartbeats 1000000 in
set_option maxRecDepth 100000 in
theorem specTipsOf_any (x : Option Addr) (n cap : Nat) (l : List Ver) (B : Nat) (w : World) (h : Vers w B x n cap l) (hB : B ≤ w.heap.size) (hz : ∀ k, (nthV l k).2.2.size ≤ maxLen) :
    Calls Try.prog 31 #[.slice x n cap] w (NewI (tipsB l) w) := by
  have HL := Lib.hid h.len
  have hmx := h.max
  have hle := h.le
  unfold maxLen at hmx
  have HH := Lib.hid h; have HZ := Lib.hid hz
  have HO0 := Lib.hid (own_newI w)
  have HB0 := Lib.hid ((Below.refl w.heap.size w).alloc (Nat.le_refl _) (.cells #[] 3))
  have HNO := Lib.hid (show versB l = false → tipsB l = [] from fun e => by unfold tipsB; rw [if_neg (by rw [e]; simp)])
  have HYE := Lib.hid (show versB l = true → tipsB l = tipsK l n from fun e => by unfold tipsB; rw [if_pos e, ← HL.out]; rfl)
  have HFE := Lib.hid (show versB l = true → n ≤ 12 from fun e => by have := (versB_at e).1; rw [HL.out] at this; exact this)
  clear h hz
  go_enter Try.func31, Try.ntmps31
  go_wp2
  go_loopw [3, 4] (fun v i wr => ∃ k : Nat, k ≤ n ∧ i = .int .i64 k ∧ (versB l = false → k = 0) ∧ OwnI wr w.heap.size v (tipsK l k) ∧ Below w.heap.size w wr) (fun _ i _ => n - (intOf i).toNat)
  case atStart => exact ⟨0, by omega, rfl, fun _ => rfl, HO0.out, HB0.out⟩
  case round =>
    obtain ⟨k, hk, rfl, hk0, ho, hb⟩ := hrel
    have HO := Lib.hid ho; have HB := Lib.hid hb; have HK0 := Lib.hid hk0
    have hsz := hb.size
    clear ho hb hk0
    by_cases hlt : k < n
    · have hkl : k < l.length := by have := HL.out; omega
      cases hv : versB l
      · have hk0 := HK0.out hv
        subst hk0
        have HF := Lib.hid (HNO.out hv)
        have HV := Lib.hid hv
        clear hv
        go_wp2_with (go_at_call 15; refine (specVersionsValid_any x n cap l B _ (HH.out.below HB.out hB) HZ.out).mono ?_; rintro e w' ⟨rfl, hw⟩; subst hw; rw [HV.out])
        go_ret
        exact ⟨_, rfl, by rw [HF.out]; exact HO.out, HB.out⟩
      · have HV := Lib.hid hv
        have hn12 := HFE.out hv
        have HY := Lib.hid (tipsK_yes (l := l) (k := k)); have HN := Lib.hid (tipsK_no (l := l) (k := k))
        have htl : (tipsK l k).length ≤ 2000000 := by have := tipsK_len l k; omega
        have HTL := Lib.hid htl
        have HNM := Lib.hid (show namedJ l k n = namedV l k by unfold namedJ namedV; rw [List.take_of_length_le (by have := HL.out; omega)])
        clear hv htl
        go_wp2_with (go_at_call 15; refine (specVersionsValid_any x n cap l B _ (HH.out.below HB.out hB) HZ.out).mono ?_; rintro e w' ⟨rfl, hw⟩; subst hw; rw [HV.out])
        go_loopw [5, 6] (fun bv jv wr2 => ∃ j : Nat, j ≤ n ∧ jv = .int .i64 j ∧ bv = .bool (namedJ l k j) ∧ wr2 = wr) (fun _ jv _ => n - (intOf jv).toNat)
        case atStart => exact ⟨0, by omega, rfl, rfl, rfl⟩
        case round =>
          obtain ⟨j, hj, rfl, rfl, rfl⟩ := hrel
          by_cases hlt2 : j < n
          · have hjl : j < l.length := by have := HL.out; omega
            obtain ⟨b, off, rfl, hbb, hc0, hc1, hc2⟩ := (HH.out.below HB.out hB).atV hlt2
            have HS := Lib.hid (namedJ_step (k := k) hjl)
            obtain ⟨g, hg⟩ : ∃ g, namedJ l k j = g := ⟨_, rfl⟩
            rw [hg] at HS ⊢
            clear hg hc0 hc2
            cases g
            · by_cases he : (nthV l j).2.1 = (k : Int)
              · have hd : ((nthV l j).2.1 == (k : Int)) = true := by simpa using he
                have HE := Lib.hid (show namedJ l k (j + 1) = true by rw [HS.out, decide_eq_true he]; rfl)
                clear he
                go_wp2
                go_roundw
                case rel => exact ⟨j + 1, by omega, by go_num, by rw [HE.out], by first | rfl | trivial⟩
                case measure => simp [intOf]; omega
              · have hd : ((nthV l j).2.1 == (k : Int)) = false := by simpa using he
                have HE := Lib.hid (show namedJ l k (j + 1) = false by rw [HS.out, decide_eq_false he]; rfl)
                clear he
                go_wp2
                go_roundw
                case rel => exact ⟨j + 1, by omega, by go_num, by rw [HE.out], by first | rfl | trivial⟩
                case measure => simp [intOf]; omega
            · have HE := Lib.hid (show namedJ l k (j + 1) = true by rw [HS.out]; rfl)
              go_wp2
              go_roundw
              case rel => exact ⟨j + 1, by omega, by go_num, by rw [HE.out], by first | rfl | trivial⟩
              case measure => simp [intOf]; omega
          · obtain rfl : j = n := by omega
            cases hm : namedV l k
            · have HM := Lib.hid (HNM.out.trans hm); have HE := Lib.hid (HY.out hm)
              clear hm
              rw [HM.out]
              go_wp2_with (at_builtin; refine wpList_app1I (k : Int) HO.out HTL.out hsz rfl _ _ rfl rfl rfl ?_; intro v' w' hown hgrow; have HW := Lib.hid hown; have HBN := Lib.hid (HB.out.grown hgrow hsz HO.out.at); clear hown hgrow)
              go_roundw
              case rel => exact ⟨k + 1, by omega, by go_num, (fun e => by first | cases e | (rw [HV.out] at e; cases e)), by rw [HE.out]; exact HW.out, HBN.out⟩
              case measure => simp [intOf]; omega
            · have HM := Lib.hid (HNM.out.trans hm); have HE := Lib.hid (HN.out hm)
              clear hm
              rw [HM.out]
              go_wp2
              go_roundw
              case rel => exact ⟨k + 1, by omega, by go_num, (fun e => by first | cases e | (rw [HV.out] at e; cases e)), by rw [HE.out]; exact HO.out, HB.out⟩
              case measure => simp [intOf]; omega
    · obtain rfl : k = n := by omega
      have HF := Lib.hid (show tipsB l = tipsK l k by
        cases hv : versB l
        · have := HK0.out hv
          rw [HNO.out hv, this]; rfl
        · exact HYE.out hv)
      go_wp2
      go_ret
      exact ⟨_, rfl, by rw [HF.out]; exact HO.out, HB.out⟩
end Go.Proofs.Ytminmakiahjfbaa
