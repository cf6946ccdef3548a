/-
  Chapter 19's model, as far as draws need it: what is reached are at most as many prints as pieces; a swept store has pieces of the store alone.
-/
import Derived.Test.YtbbjpihlielpgaaGreatDoorFiles11
import Derived.BigRegion
import Derived.RegionTactic
import Derived.ChangeAlike
namespace Go.Proofs.YtbbjpihlielpgaaGreatDoor
open Go.RowKit
set_option linter.unusedVariables false
/-- A number is among numbers. -/
def hasB (l : List Int) (n : Int) : Bool := l.any fun x => decide (x = n)
theorem hasB_step {l : List Int} {n : Int} {k : Nat} (hk : k < l.length) (h : hasB (l.take k) n = false) : hasB (l.take (k + 1)) n = decide (nthI l k = n) := by
  unfold hasB at h ⊢
  rw [List.take_succ_eq_append_getElem hk, List.any_append, h, ← nthI_get hk]
  simp
theorem hasB_yes {l : List Int} {n : Int} {k : Nat} (hk : k < l.length) (h : nthI l k = n) : hasB l n = true := by
  unfold hasB
  exact List.any_eq_true.2 ⟨l[k], List.getElem_mem _, decide_eq_true (by rw [← nthI_get hk]; exact h)⟩
theorem specHas_any (y : Option Addr) (m c : Nat) (rs : List Int) (v : Int) (B : Nat) (w : World) (h : Ints w B y m c rs) : Calls Tryz.prog 134 #[.slice y m c, .int .i64 v] w fun e w' => e = .returned (.bool (hasB rs v)) ∧ w = w' := by
  have HL := Lib.hid h.len
  have HH := Lib.hid h
  have hle := h.le
  have hmx := h.max
  unfold maxLen at hmx
  clear h
  go_enter Tryz.func134, Tryz.ntmps134
  go_wp2
  go_loopw [5] (fun i wr => ∃ k : Nat, k ≤ m ∧ i = .int .i64 k ∧ hasB (rs.take k) v = false ∧ wr = w) (fun i _ => m - (intOf i).toNat)
  case atStart => exact ⟨0, by omega, rfl, rfl, rfl⟩
  case round =>
    obtain ⟨k, hk, rfl, hf, rfl⟩ := hrel
    by_cases hlt : k < m
    · obtain ⟨b, off, rfl, hb, hc⟩ := HH.out.at hlt
      have hkl : k < rs.length := by have := HL.out; omega
      by_cases hx : nthI rs k = v
      · have HX := Lib.hid (hasB_yes hkl hx)
        have hd : (nthI rs k == v) = true := by simpa using hx
        clear hx hf
        go_wp2
        go_ret
        exact ⟨ret_bool HX.out.symm, rfl⟩
      · have HX := Lib.hid (show hasB (rs.take (k + 1)) v = false by rw [hasB_step hkl hf]; exact decide_eq_false hx)
        have hd : (nthI rs k == v) = false := by simpa using hx
        clear hx hf
        go_wp2
        go_roundw
        case rel => exact ⟨k + 1, by omega, by go_num, HX.out, by first | rfl | trivial⟩
        case measure => simp [intOf]; omega
    · have HX := Lib.hid (show hasB rs v = false by rw [List.take_of_length_le (by have := HL.out; omega)] at hf; exact hf)
      clear hf
      go_wp2
      go_ret
      exact ⟨ret_bool HX.out.symm, rfl⟩
theorem Tryz.infoBo : (Tryz.prog.info? 4).map (fun i => (i.zero, i.size, i.bytes)) = some (some (.bool false), 1, 1) := by kernel_rfl
theorem eltBo : Elt 143 4 1 (.bool false) := elt_of Tryz.underlying143 Tryz.infoBo (by decide) rfl (by decide)
/-- A row of n bools of the call's own, in block g. -/
def BoRow (w : World) (base g n : Nat) : Prop := ∃ bs : List Bool, bs.length = n ∧ w.ownsRow base 4 1 (.slice (some ⟨g, 0, none⟩) n n) n (bs.map Value.bool)
theorem boRow_new (w : World) (n : Nat) (hn : n ≤ 2000000) {base : Nat} (hb : base ≤ w.heap.size) : BoRow (w.alloc (.cells (madeCells #[.bool false] n) 4)) base w.heap.size n := by
  refine ⟨List.replicate n false, by simp, ?_⟩
  have h := own_mk eltBo w n hn hb
  rw [Nat.mul_one] at h
  have e : (madeCells #[Value.bool false] n).toList = (List.replicate n false).map Value.bool := by rw [toList_madeCells_one, List.map_replicate]
  rw [← e]; exact h
theorem BoRow.below {w w' : World} {base g n : Nat} (h : BoRow w base g n) (hb : Below w.heap.size w w') : BoRow w' base g n := by
  obtain ⟨bs, h1, h2⟩ := h
  exact ⟨bs, h1, own_below h2 hb⟩
/-- A bool is read, and written. -/
theorem BoRow.at {w : World} {base g n : Nat} (h : BoRow w base g n) {k : Nat} (hk : k < n) :
    ∃ b : Bool, w.cell? ⟨g, k, none⟩ = some (.bool b) ∧ w.frozen? ⟨g, k, none⟩ = false ∧ g < w.heap.size ∧ base ≤ g ∧ ∀ u : Bool, BoRow (w.setCell ⟨g, k, none⟩ (.bool u)) base g n ∧ w.grownBy (w.setCell ⟨g, k, none⟩ (.bool u)) (some g) := by
  obtain ⟨bs, h1, h2⟩ := h
  have hz := h2.cellAt k (by omega)
  rw [List.getElem?_map, List.getElem?_eq_getElem (by omega)] at hz
  refine ⟨bs[k], hz, h2.frozenAt k, (h2.lt g rfl).2, own_at h2 rfl, fun u => ?_⟩
  obtain ⟨h3, h4⟩ := h2.stored k (.bool u)
  exact ⟨⟨bs.set k u, by simpa using h1, by rw [List.map_set]; exact h3⟩, h4⟩
/-- What holds while prints are reached: the row of bools, the answer's row, all else as it was. -/
def ReI (w : World) (g n : Nat) (wr : World) : Prop := BoRow wr w.heap.size g n ∧ OwnI wr w.heap.size (.slice (some ⟨w.heap.size, 0, none⟩) 0 0) [] ∧ Below w.heap.size w wr
theorem ReI.below {w wr w' : World} {g n : Nat} (h : ReI w g n wr) (hb : Below wr.heap.size wr w') : ReI w g n w' :=
  ⟨h.1.below hb, own_below h.2.1 hb, h.2.2.trans (hb.mono h.2.2.size)⟩
/-- A bool is written. -/
theorem ReI.at {w wr : World} {g n : Nat} (h : ReI w g n wr) {k : Nat} (hk : k < n) :
    ∃ b : Bool, wr.cell? ⟨g, k, none⟩ = some (.bool b) ∧ wr.frozen? ⟨g, k, none⟩ = false ∧ g < wr.heap.size ∧ w.heap.size ≤ g ∧ ∀ u : Bool, ReI w g n (wr.setCell ⟨g, k, none⟩ (.bool u)) ∧ wr.grownBy (wr.setCell ⟨g, k, none⟩ (.bool u)) (some g) := by
  obtain ⟨⟨bs, h1, h2⟩, ho, hb⟩ := h
  obtain ⟨b, h3, h4, h5, h6, h7⟩ := BoRow.at ⟨bs, h1, h2⟩ hk
  refine ⟨b, h3, h4, h5, h6, fun u => ⟨⟨(h7 u).1, ?_, ?_⟩, (h7 u).2⟩⟩
  · exact World.ownsRow.kept ho (h7 u).2 (own_ne ho h2 (by decide))
  · exact hb.grown (h7 u).2 hb.size (fun q e => by simp at e; omega)
def ReachOut (n : Nat) (w : World) (e : Ending) (w' : World) : Prop := ∃ (v : Value) (L : List Int), e = .returned v ∧ L.length ≤ n ∧ OwnI w' w.heap.size v L ∧ Below w.heap.size w w'
set_option maxHeartbeats 4000000 in
set_option maxRecDepth 100000 in
theorem specReach_any (x : Option Addr) (n cap : Nat) (l : List Pc) (y : Option Addr) (m c : Nat) (rs : List Int) (B B1 : Nat) (w : World) (h : Pcs w B x n cap l) (hB : B ≤ w.heap.size) (h1 : Ints w B1 y m c rs) (hB1 : B1 ≤ w.heap.size) (hz : ∀ k, (nthP l k).2.size ≤ 1048576) (hn : n ≤ 1000000) :
    Calls Tryz.prog 133 #[.slice x n cap, .slice y m c] w (ReachOut n w) := by
  have HH := Lib.hid h; have HR := Lib.hid h1; have HZ := Lib.hid hz
  have HLEN := Lib.hid h.len
  have hle := h.le
  have hmx := h.max
  unfold maxLen at hmx
  clear h h1 hz
  have HO0 := Lib.hid (own_newI w)
  have HB0 := Lib.hid ((Below.refl w.heap.size w).alloc (Nat.le_refl _) (.cells #[] 3))
  have hs0 := HB0.out.size
  have HMK := Lib.hid (run_mk eltBo n (by omega))
  go_enter Tryz.func133, Tryz.ntmps133
  go_wp2_with fail
  refine (specStoreValid_any x n cap l B _ (HH.out.below HB0.out hB) (mil_max HZ.out)).mono ?_
  rintro e w1 hq
  have hb := hq.below
  obtain ⟨rfl, _⟩ := hq
  have HB1 := Lib.hid (HB0.out.trans (hb.mono hs0)); have HO1 := Lib.hid (own_below HO0.out hb)
  have hs1 := HB1.out.size
  clear hb HO0 HB0
  cases hst : storeB l
  · go_wp2_with fail
    go_ret
    exact ⟨_, [], rfl, by simp, HO1.out, HB1.out⟩
  have hmk := HMK.out
  have HI := Lib.hid (show ReI w w1.heap.size n (w1.alloc (.cells (madeCells #[.bool false] n) 4)) from
    ⟨boRow_new w1 n (by omega) hs1, World.ownsRow.alloc HO1.out _, HB1.out.alloc hs1 _⟩)
  clear hst
  go_wp2_with fail
  clear hmk
  generalize w1.heap.size = g at *
  generalize hWW : (w1.alloc (.cells (madeCells #[.bool false] n) 4)) = W at *
  clear hWW
  go_loopw [7, 8, 9, 10, 11, 12] (fun r _ _ _ _ _ wr => ∃ q : Nat, q ≤ n + 1 ∧ r = .int .i64 q ∧ ReI w g n wr) (fun r _ _ _ _ _ _ => n + 1 - (intOf r).toNat)
  case atStart => exact ⟨0, by omega, rfl, HI.out⟩
  case round =>
    obtain ⟨q, hq, rfl, hi⟩ := hrel
    have HIW := Lib.hid hi
    clear hi HI
    by_cases hqn : q ≤ n
    · go_wp2
      go_loopw [8, 9, 10, 11, 12] (fun kv _ _ _ _ wr => ∃ k : Nat, k ≤ n ∧ kv = .int .i64 k ∧ ReI w g n wr) (fun kv _ _ _ _ _ => n - (intOf kv).toNat)
      case atStart => exact ⟨0, by omega, rfl, HIW.out⟩
      case round =>
        obtain ⟨k, hk, rfl, hi⟩ := hrel
        have HI2 := Lib.hid hi
        clear hi HIW
        by_cases hlt : k < n
        · obtain ⟨b, off, rfl, hb, hc0, hc1⟩ := (HH.out.below HI2.out.2.2 hB).atP hlt
          by_cases hq0 : q = 0
          · have hd : ((q : Int) == 0) = true := by simp; omega
            clear hq0
            go_wp2_with fail
            refine (specHas_any y m c rs _ B1 _ (HR.out.below HI2.out.2.2 hB1)).mono ?_
            rintro e w' ⟨rfl, hw⟩
            subst w'
            obtain ⟨b0, hcb, hfz, hgw, hwg, hst⟩ := HI2.out.at hlt
            have HST := Lib.hid (hst (hasB rs (nthP l k).1))
            clear hst
            go_wp2
            go_roundw
            case rel => exact ⟨k + 1, by omega, by go_num, HST.out.1⟩
            case measure => simp [intOf]; omega
          · have hd : ((q : Int) == 0) = false := by simp; omega
            clear hq0
            go_wp2_with fail
            refine (specReadFolder_any _ _ (HZ.out k)).mono ?_
            rintro e w3 ⟨v3, rfl, ho, hb3⟩
            obtain ⟨x3, ne, ce, rfl, hl3⟩ := ho.lst
            have HI3 := Lib.hid (HI2.out.below hb3); have HE3 := Lib.hid (ho.mono HI2.out.2.2.size)
            have hnm := hl3.max
            have hne := hl3.le
            unfold maxLen at hnm
            clear ho hb3 hc0 hc1 hb hl3 HI2
            obtain ⟨E, hE⟩ : ∃ E, foldL (nthP l k).2 = E := ⟨_, rfl⟩
            rw [hE] at HE3
            clear hE
            obtain ⟨fo, hfo⟩ : ∃ fo, isFold (nthP l k).2 = fo := ⟨_, rfl⟩
            rw [hfo]
            clear hfo
            go_wp2
            go_loopw [11, 12] (fun jv _ wr => ∃ j : Nat, j ≤ ne ∧ jv = .int .i64 j ∧ ReI w g n wr ∧ OwnE wr w.heap.size (.slice x3 ne ce) E) (fun jv _ _ => ne - (intOf jv).toNat)
            case atStart => exact ⟨0, by omega, rfl, HI3.out, HE3.out⟩
            case round =>
              obtain ⟨j, hj, rfl, hi, he⟩ := hrel
              have HI4 := Lib.hid hi; have HE4 := Lib.hid he
              clear hi he HI3 HE3
              obtain ⟨bk, hcb, _, hgw, hwg, _⟩ := HI4.out.at hlt
              by_cases hjl : j < ne
              · cases bk
                · go_wp2
                  go_roundw
                  case rel => exact ⟨k + 1, by omega, by go_num, HI4.out⟩
                  case measure => simp [intOf]; omega
                cases fo
                · go_wp2
                  go_roundw
                  case rel => exact ⟨k + 1, by omega, by go_num, HI4.out⟩
                  case measure => simp [intOf]; omega
                go_wp2
                clear hcb
                go_loopw [12] (fun iv wr => ∃ i : Nat, i ≤ n ∧ iv = .int .i64 i ∧ ReI w g n wr ∧ OwnE wr w.heap.size (.slice x3 ne ce) E) (fun iv _ => n - (intOf iv).toNat)
                case atStart => exact ⟨0, by omega, rfl, HI4.out, HE4.out⟩
                case round =>
                  obtain ⟨i, hi0, rfl, hi, he⟩ := hrel
                  have HI5 := Lib.hid hi; have HE5 := Lib.hid he
                  clear hi he HI4 HE4
                  by_cases hil : i < n
                  · obtain ⟨b2, off2, e2, hb2, hp0, hp1⟩ := (HH.out.below HI5.out.2.2 hB).atP hil
                    simp only [Option.some.injEq, Addr.mk.injEq, and_true] at e2
                    obtain ⟨rfl, rfl⟩ := e2
                    obtain ⟨be, oe, rfl, hbe, hn0, hn1⟩ := HE5.out.lst'.atE hjl
                    obtain ⟨bi, hci, hfi, hgw5, hwg5, hst⟩ := HI5.out.at hil
                    have HST := Lib.hid hst
                    have HKE := Lib.hid (show ∀ u : Bool, OwnE (wr.setCell ⟨g, i, none⟩ (.bool u)) w.heap.size (.slice (some ⟨be, oe, none⟩) ne ce) E from fun u => by
                      obtain ⟨⟨bs, _, h2⟩, _⟩ := HI5.out
                      exact World.ownsRow.kept HE5.out (HST.out u).2 (own_ne HE5.out h2 (by decide)))
                    clear hst hp1 hn0
                    cases bi
                    · by_cases hx : (nthP l i).1 = (nthE E j).2
                      · have hd2 : ((nthP l i).1 == (nthE E j).2) = true := by simpa using hx
                        clear hx
                        go_wp2
                        go_region
                        go_wp2
                        go_roundw
                        case rel => exact ⟨i + 1, by omega, by go_num, (HST.out true).1.below ((Below.refl _ _).drew), OwnL.below (HKE.out true) ((Below.refl _ _).drew)⟩
                        case measure => simp [intOf]; omega
                      · have hd2 : ((nthP l i).1 == (nthE E j).2) = false := by simpa using hx
                        clear hx
                        go_wp2
                        go_region
                        go_wp2
                        go_roundw
                        case rel => exact ⟨i + 1, by omega, by go_num, (HST.out false).1.below ((Below.refl _ _).drew), OwnL.below (HKE.out false) ((Below.refl _ _).drew)⟩
                        case measure => simp [intOf]; omega
                    · go_wp2
                      go_region
                      go_wp2
                      go_roundw
                      case rel => exact ⟨i + 1, by omega, by go_num, (HST.out true).1.below ((Below.refl _ _).drew), OwnL.below (HKE.out true) ((Below.refl _ _).drew)⟩
                      case measure => simp [intOf]; omega
                  · go_wp2
                    go_roundw
                    case rel => exact ⟨j + 1, by omega, by go_num, HI5.out, HE5.out⟩
                    case measure => simp [intOf]; omega
              · go_wp2
                go_roundw
                case rel => exact ⟨k + 1, by omega, by go_num, HI4.out⟩
                case measure => simp [intOf]; omega
        · go_wp2
          go_roundw
          case rel => exact ⟨q + 1, by omega, by go_num, HI2.out⟩
          case measure => simp [intOf]; omega
    · obtain rfl : q = n + 1 := by omega
      have hgt : ¬ ((n : Int) + 1 ≤ (n : Int)) := by omega
      go_wp2
      go_loopw [5, 13] (fun v kv wr => ∃ (k : Nat) (L : List Int), k ≤ n ∧ kv = .int .i64 k ∧ L.length ≤ k ∧ OwnI wr w.heap.size v L ∧ BoRow wr w.heap.size g n ∧ Below w.heap.size w wr) (fun _ kv _ => n - (intOf kv).toNat)
      case atStart => exact ⟨0, [], by omega, rfl, Nat.le_refl _, HIW.out.2.1, HIW.out.1, HIW.out.2.2⟩
      case round =>
        obtain ⟨k, L, hk, rfl, hLk, ho, hbo, hb⟩ := hrel
        have HO := Lib.hid ho; have HBO := Lib.hid hbo; have HB := Lib.hid hb; have HLK := Lib.hid hLk
        clear ho hbo hb hLk HIW
        by_cases hlt : k < n
        · obtain ⟨b, off, rfl, hb, hc0, hc1⟩ := (HH.out.below HB.out hB).atP hlt
          obtain ⟨bk, hcb, _, hgw, hwg, _⟩ := HBO.out.at hlt
          have hsz := HB.out.size
          cases bk
          · go_wp2
            go_roundw
            case rel => exact ⟨k + 1, L, by omega, by go_num, by have := HLK.out; omega, HO.out, HBO.out, HB.out⟩
            case measure => simp [intOf]; omega
          · go_wp2_with (at_builtin; refine wpList_app1I (nthP l k).1 HO.out (by have := HLK.out; omega) hsz rfl _ _ rfl rfl rfl ?_; intro v' w' hown hgrow; have HW := Lib.hid hown; have HGR := Lib.hid hgrow; clear hown hgrow)
            go_roundw
            case rel =>
              refine ⟨k + 1, L ++ [(nthP l k).1], by omega, by go_num, by have := HLK.out; simp; omega, HW.out, ?_, HB.out.grown HGR.out hsz (fun q e => own_at HO.out e)⟩
              obtain ⟨bs, h1, h2⟩ := HBO.out
              exact ⟨bs, h1, World.ownsRow.kept h2 HGR.out (own_ne h2 HO.out (by decide))⟩
            case measure => simp [intOf]; omega
        · go_wp2
          go_ret
          exact ⟨_, L, rfl, by have := HLK.out; omega, HO.out, HB.out⟩
/-- A slice that lies below a row of the call's own. -/
theorem Lst.kept_own {α : Type} {g : α → List Value} {w w' : World} {B : Nat} {x : Option Addr} {n cap : Nat} {l : List α} {r : Option Nat} (h : Lst g w B x n cap l) (hg : w.grownBy w' r) (hr : ∀ k, r = some k → B ≤ k) : Lst g w' B x n cap l := by
  refine ⟨h.len, h.le, h.max, fun j u hu => ?_⟩
  obtain ⟨b, off, rfl, hb, hc⟩ := h.rds j u hu
  refine ⟨b, off, rfl, hb, hg.cell (a := ⟨b, off + j, none⟩) hc ?_⟩
  intro e
  have := hr b e.symm
  omega
/-- A swept store: pieces of the store alone. -/
def SweptOut (l : List Pc) (n : Nat) (w : World) (e : Ending) (w' : World) : Prop := ∃ (v : Value) (L : List Pc), e = .returned v ∧ L.length ≤ n ∧ (∀ q ∈ L, q ∈ l) ∧ OwnP w' w.heap.size v L ∧ Below w.heap.size w w'
set_option maxHeartbeats 2000000 in
theorem specSweep_any (x : Option Addr) (n cap : Nat) (l : List Pc) (y : Option Addr) (m c : Nat) (rs : List Int) (B B1 : Nat) (w : World) (h : Pcs w B x n cap l) (hB : B ≤ w.heap.size) (h1 : Ints w B1 y m c rs) (hB1 : B1 ≤ w.heap.size) (hz : ∀ k, (nthP l k).2.size ≤ 1048576) (hn : n ≤ 1000000) :
    Calls Tryz.prog 104 #[.slice x n cap, .slice y m c] w (SweptOut l n w) := by
  have HO0 := Lib.hid (OwnL.new pcG 62 (size := 2) w)
  have HB0 := Lib.hid ((Below.refl w.heap.size w).alloc (Nat.le_refl _) (.cells #[] 62))
  have hs0 := HB0.out.size
  have HH := Lib.hid (h.below HB0.out hB); have HR := Lib.hid (h1.below HB0.out hB1); have HZ := Lib.hid hz
  have HLEN := Lib.hid h.len
  have hle := h.le
  have hmx := h.max
  unfold maxLen at hmx
  clear h h1 hz
  go_enter Tryz.func104, Tryz.ntmps104
  go_wp2_with fail
  refine (specReach_any x n cap l y m c rs B B1 _ HH.out (Nat.le_trans hB hs0) HR.out (Nat.le_trans hB1 hs0) HZ.out hn).mono ?_
  rintro e w1 ⟨v1, R, rfl, hRn, ho, hb⟩
  have HOP := Lib.hid (HO0.out.below hb); have HB1 := Lib.hid (HB0.out.trans (hb.mono hs0)); have HH1 := Lib.hid (HH.out.below hb (Nat.le_trans hB hs0))
  obtain ⟨x1, n1, c1, rfl, hi⟩ := ho.ints
  have HOR := Lib.hid (ho.mono hs0)
  clear hb ho hi HO0 HB0 HH
  go_wp2
  go_loopw [5, 7] (fun v kv wr => ∃ (k : Nat) (L : List Pc), k ≤ n ∧ kv = .int .i64 k ∧ L.length ≤ k ∧ (∀ q ∈ L, q ∈ l) ∧ OwnP wr w.heap.size v L ∧ OwnI wr w.heap.size (.slice x1 n1 c1) R ∧ Below w.heap.size w wr ∧ Pcs wr B x n cap l) (fun _ kv _ => n - (intOf kv).toNat)
  case atStart => exact ⟨0, [], by omega, rfl, Nat.le_refl _, (by intro q hq; cases hq), HOP.out, HOR.out, HB1.out, HH1.out⟩
  case round =>
    obtain ⟨k, L, hk, rfl, hLk, hin, hp, hr, hb, hh⟩ := hrel
    have HP := Lib.hid hp; have HRR := Lib.hid hr; have HB := Lib.hid hb; have HLK := Lib.hid hLk; have HIN := Lib.hid hin; have HHW := Lib.hid hh
    clear hp hr hb hLk hin hh HOP HOR HH1
    have hsz := HB.out.size
    by_cases hlt : k < n
    · obtain ⟨b, off, rfl, hb, hc0, hc1⟩ := HHW.out.atP hlt
      have hkl : k < l.length := by have := HLEN.out; omega
      go_wp2_with fail
      refine (specHas_any x1 n1 c1 R _ _ _ HRR.out.ints').mono ?_
      rintro e w' ⟨rfl, hw⟩
      subst w'
      cases hh : hasB R (nthP l k).1
      · clear hh
        go_wp2
        go_roundw
        case rel => exact ⟨k + 1, L, by omega, by go_num, by have := HLK.out; omega, HIN.out, HP.out, HRR.out, HB.out, HHW.out⟩
        case measure => simp [intOf]; omega
      · clear hh
        go_wp2_with (at_builtin; refine wpList_app1L eltPc encPc (nthP l k) _ rfl HP.out (by have := HLK.out; omega) hsz rfl _ _ rfl rfl rfl ?_; intro v' w' hown hgrow; have HW := Lib.hid hown; have HGR := Lib.hid hgrow; clear hown hgrow)
        go_roundw
        case rel =>
          refine ⟨k + 1, L ++ [nthP l k], by omega, by go_num, by have := HLK.out; simp; omega, ?_, HW.out, World.ownsRow.kept HRR.out HGR.out (own_ne HRR.out HP.out (by decide)), HB.out.grown HGR.out hsz HP.out.at, ?_⟩
          · intro q hq
            rcases List.mem_append.1 hq with h1 | h1
            · exact HIN.out q h1
            · rw [List.mem_singleton] at h1; subst h1; exact nthP_mem hkl
          · exact Lst.kept_own HHW.out HGR.out (fun q e => Nat.le_trans hB (HP.out.at q e))
        case measure => simp [intOf]; omega
    · go_wp2
      go_ret
      exact ⟨_, L, rfl, by have := HLK.out; omega, HIN.out, HP.out, HB.out⟩
end Go.Proofs.YtbbjpihlielpgaaGreatDoor
