/-
  Draws of chapter 14: versions.
-/
import Derived.Test.YtminmakiahjfbaaModel14b
import Derived.Test.YtminmakiahjfbaaPrints
import Derived.Test.YtminmakiahjfbaaChunks3
import Derived.Test.YtminmakiahjfbaaDraw0
import Derived.Test.YtminmakiahjfbaaDrop
import Derived.Test.YtminmakiahjfbaaStores
import Derived.Deep.RegionLaw
import Derived.Test.YtminmakiahjfbaaMem
import Derived.Test.YtminmakiahjfbaaChunks
import Derived.Test.YtminmakiahjfbaaArgs
import Derived.Laws.Externs
import Derived.Shelf.RegionOpenPlain
namespace Go.Proofs.Ytminmakiahjfbaa
open Go.RowKit
set_option linter.unusedVariables false
theorem vers_lit (w : World) (l : List Ver) (hl : l.length ≤ 1000) : OwnVr (w.alloc (.cells (l.flatMap vrG).toArray 27)) w.heap.size (.slice (some ⟨w.heap.size, 0, none⟩) l.length l.length) l := by
  have h := World.ownsRow_lit (base := w.heap.size) (e := 27) (size := 3) w (l.flatMap vrG).toArray l.length (Nat.le_refl _) (by unfold maxLen; omega) (by rw [List.size_toArray, encVr.length])
  unfold OwnVr OwnL
  simpa using h
theorem addV_valid {l : List Ver} (v : Ver) (h : versB l = true) : versB (addV l v).1 = true := by
  cases h2 : versB (l ++ [v])
  · rw [addV_no h h2]; exact h
  · rw [addV_yes h h2]; exact h2
theorem vers_notes {l : List Ver} (h : versB l = true) : ∀ k, (nthV l k).2.2.size ≤ 8 := by
  intro k
  by_cases hk : k < l.length
  · exact word_size (okV_at ((versB_at h).2 k hk)).2.2.1
  · unfold nthV
    rw [List.getD_eq_getElem?_getD, List.getElem?_eq_none (by omega)]
    decide
theorem max_of {l : List Ver} {m : Nat} (h : ∀ k, (nthV l k).2.2.size ≤ m) (hm : m ≤ 1048576) : ∀ k, (nthV l k).2.2.size ≤ maxLen := fun k => Nat.le_trans (h k) (by unfold maxLen; omega)
theorem words_nine : ∀ s ∈ words1 ++ words2, s.size ≤ 9 := by decide +kernel
/-- Drawn versions: a row of the call's own; the reader behind it. -/
def VersR (B r c : Nat) (w : World) (e : Ending) (w' : World) : Prop := ∃ (v : Value) (l : List Ver), e = .returned v ∧ OwnVr w' w.heap.size v l ∧ l.length ≤ 14 ∧ (∀ k, (nthV l k).2.2.size ≤ 8) ∧ Rd B w' r c ∧ w.grownBy w' (some r)
set_option maxHeartbeats 2000000 in
set_option maxRecDepth 100000 in
theorem l20Versions_any (B r c : Nat) (nn : Int) (w : World) (h : Rd B w r c) (hc : c ≤ 80000) (hn : nn ≤ 1000000) :
    Calls Try.prog 42 #[.pointer (some ⟨r, 0, none⟩), .int .i64 nn] w (VersR B r (c + 80) w) := by
  have hrw := h.lt
  have HR0 := Lib.hid (rd_alloc h (.cells #[] 27))
  have HG0 := Lib.hid (World.grownBy_alloc w (.cells #[] 27) (some r))
  have HO0 := Lib.hid (OwnL.new vrG 27 (size := 3) w)
  clear h
  go_enter Try.func42, Try.ntmps42
  go_wp2_with fail
  refine (pickN_any 8 B r c _ _ w HR0.out HG0.out rfl (by decide) (by decide) (by omega)).mono ?_
  rintro e w1 ⟨k0, rfl, hk0, hr, hg, hg2⟩
  have HR1 := Lib.hid hr; have HG1 := Lib.hid hg2; have HO1 := Lib.hid (own_keptL HO0.out hg hrw)
  clear hr hg hg2 HR0 HG0 HO0
  go_wp2_with fail
  go_loopw [5, 6] (fun ov kv wr => ∃ (m : Nat) (l : List Ver), m ≤ 7 ∧ kv = .int .i64 m ∧ Hid (versB l = true) ∧ OwnVr wr w.heap.size ov l ∧ Rd B wr r (c + 60 - 8 * m) ∧ w.grownBy wr (some r)) (fun _ kv _ => (intOf kv).toNat)
  case atStart => exact ⟨k0, [], by omega, rfl, Lib.hid (by decide), HO1.out, HR1.out.more (by omega), HG1.out⟩
  case round =>
    obtain ⟨m, l, hm, rfl, HV, ho, hr, hg⟩ := hrel
    obtain ⟨xo, no, co, rfl, hi⟩ := ho.lst
    have HO := Lib.hid ho; have HR := Lib.hid hr; have HG := Lib.hid hg; have HLEN := Lib.hid hi.len
    clear ho hr hg hi HR1 HG1 HO1
    have hn12 : no ≤ 12 := by have := (versB_at HV.out).1; have := HLEN.out; omega
    by_cases h0 : 0 < m
    · go_wp2_with fail
      refine (l20Print_any B r (c + 60 - 8 * m) _ _ HR.out (by omega) (by decide)).mono ?_
      rintro e w2 ⟨pr, rfl, _, _, hr, hg⟩
      have HR2 := Lib.hid hr; have HG2 := Lib.hid (grownBy_trans HG.out hg); have HO2 := Lib.hid (own_keptL HO.out hg hrw)
      clear hr hg HR HG HO
      have hw9 : IntKind.i64.wrap ((no : Int) + 1) = ((no + 1 : Nat) : Int) := by rw [IntKind.wrap_i64]; omega
      go_wp2_with fail
      refine (pickN_any (no + 1) B r _ _ _ w HR2.out HG2.out (by first | rfl | simp | omega) (by omega) (by omega) (by omega)).mono ?_
      rintro e w3 ⟨j, rfl, hj, hr, hg, hg2⟩
      have HR3 := Lib.hid hr; have HG3 := Lib.hid hg2; have HO3 := Lib.hid (own_keptL HO2.out hg hrw)
      clear hr hg hg2 HR2 HG2 HO2
      have hw8 : IntKind.i64.wrap ((j : Int) - 1) = (j : Int) - 1 := by rw [IntKind.wrap_i64]; omega
      go_wp2_with fail
      refine (l20Word_any B r _ _ _ HR3.out (by omega) (by decide)).mono ?_
      rintro e w4 ⟨s, rfl, hs, hr, hg⟩
      have hs9 := words_nine s hs
      have HR4 := Lib.hid hr; have HG4 := Lib.hid (grownBy_trans HG3.out hg); have HO4 := Lib.hid (own_keptL HO3.out hg hrw)
      have hw4 := HG4.out.size
      clear hr hg HR3 HG3 HO3 hs
      go_wp2_with fail
      refine (specAddVersion_any xo no co l (pr, (j : Int) - 1, s) _ _ HO4.out.lst' (Nat.le_refl _) (max_of (vers_notes HV.out) (by decide)) (by show s.size ≤ maxLen; unfold maxLen; omega)).mono ?_
      rintro e w5 ⟨v5, rfl, ho, hb⟩
      have HR5 := Lib.hid (HR4.out.below hb); have HG5 := Lib.hid (grownBy_join HG4.out hb); have HO5 := Lib.hid (ho.mono hw4); have HV5 := Lib.hid (addV_valid (pr, (j : Int) - 1, s) HV.out)
      clear ho hb HR4 HG4 HO4
      go_wp2_with fail
      go_roundw
      case rel => exact ⟨m - 1, _, by omega, by go_num, HV5, HO5.out, HR5.out.more (by omega), HG5.out⟩
      case measure => simp [intOf]; omega
    · obtain rfl : m = 0 := by omega
      go_wp2_with fail
      refine (odd_any B r _ _ _ HR.out (by omega) hn).mono ?_
      rintro e w2 ⟨b, rfl, _, _, hr, hg⟩
      have HR2 := Lib.hid hr; have HG2 := Lib.hid (grownBy_trans HG.out hg); have HO2 := Lib.hid (own_keptL HO.out hg hrw)
      have hw2 := HG2.out.size
      clear hr hg HR HG HO
      cases b
      · go_wp2_with fail
        go_ret
        exact ⟨_, l, rfl, HO2.out, by have := (versB_at HV.out).1; omega, vers_notes HV.out, HR2.out.more (by omega), HG2.out⟩
      · have HL4 := Lib.hid (vers_lit w2 [(0, -1, ByteArray.empty), (0, (no : Int), ⟨#[97]⟩), (-1, 0, ⟨#[97]⟩), (0, -2, ⟨#[97]⟩)] (by simp))
        have hr2 := HR2.out.lt
        go_wp2_with fail
        refine (pickN_any 4 B r _ _ _ w (rd_alloc HR2.out _) (grownBy_trans HG2.out (World.grownBy_alloc _ _ _)) rfl (by decide) (by decide) (by omega)).mono ?_
        rintro e w3 ⟨j, rfl, hj, hr, hg, hg2⟩
        have hL := own_keptL HL4.out hg hr2
        obtain ⟨b, off, e', hbb, q0, q1, q2⟩ := hL.lst'.atV (k := j) hj
        simp only [Option.some.injEq, Addr.mk.injEq, and_true] at e'
        obtain ⟨rfl, rfl⟩ := e'
        rw [Nat.zero_add] at q0 q1 q2
        have HR3 := Lib.hid hr; have HG3 := Lib.hid hg2; have HO3 := Lib.hid (own_keptL (HO2.out.alloc _) hg hrw)
        have hsm : (nthV [(0, -1, ByteArray.empty), (0, (no : Int), ⟨#[97]⟩), (-1, 0, ⟨#[97]⟩), (0, -2, ⟨#[97]⟩)] j).2.2.size ≤ 8 := by
          match j, hj with
          | 0, _ => show (ByteArray.empty).size ≤ 8; decide
          | 1, _ => show (ByteArray.mk #[97]).size ≤ 8; decide
          | 2, _ => show (ByteArray.mk #[97]).size ≤ 8; decide
          | 3, _ => show (ByteArray.mk #[97]).size ≤ 8; decide
        obtain ⟨q, hq⟩ : ∃ q, nthV [(0, -1, ByteArray.empty), (0, (no : Int), ⟨#[97]⟩), (-1, 0, ⟨#[97]⟩), (0, -2, ⟨#[97]⟩)] j = q := ⟨_, rfl⟩
        rw [hq] at q0 q1 q2 hsm
        have hw3 := HG3.out.size
        have HL2 := Lib.hid (vers_lit w3 [q, (0, 0, ⟨#[65]⟩)] (by simp))
        have hlen : l.length ≤ 2000000 := by have := HLEN.out; omega
        have HSM := Lib.hid hsm
        clear hr hg hg2 hL hq hsm HL4 HR2 HG2 HO2
        go_wp2_with (at_builtin; refine wpList_appL eltVr encVr (HO3.out.alloc _) HL2.out.lst' hlen (by simp) (le_alloc hw3 _) rfl _ _ rfl rfl rfl ?_; intro v7 w7 hown7 hgr7 hat7; have HO7 := Lib.hid hown7; have HG7 := Lib.hid hgr7; have HAT := Lib.hid (OwnL.at (HO3.out.alloc (.cells ([q, (0, 0, ⟨#[65]⟩)].flatMap vrG).toArray 27))); clear hown7 hgr7 hat7)
        go_ret
        refine ⟨_, l ++ [q, (0, 0, ⟨#[65]⟩)], rfl, HO7.out, ?_, ?_, (Rd.grown (rd_alloc HR3.out _) HG7.out (fun k e => ?_)).more (by omega), grownBy_into (grownBy_trans HG3.out (World.grownBy_alloc _ _ _)) HG7.out (fun k e => ?_)⟩
        · have := (versB_at HV.out).1; simp; omega
        · have h1 := vers_snoc_small (vers_snoc_small (vers_notes HV.out) HSM.out) (v := (0, 0, ⟨#[65]⟩)) (by decide)
          rw [List.append_assoc] at h1
          exact h1
        · have h1 := HAT.out k e
          have h2 := HR3.out.le
          omega
        · exact HAT.out k e
/-! ### at the laws -/
def VersOut (w : World) (e : Ending) (w' : World) : Prop := ∃ (x : Option Addr) (n c : Nat) (l : List Ver), e = .returned (.slice x n c) ∧ l.length ≤ 14 ∧ (∀ k, (nthV l k).2.2.size ≤ 8) ∧ Vers w' w'.heap.size x n c l ∧ Below w.heap.size w w'
theorem drawVersionsValid_any (x : Option Addr) (n cap : Nat) (w : World) (h : Bytes w.heap.size w x n) (hn : n ≤ cap) (hc : cap ≤ maxLen) :
    Calls Try.prog 13 #[.slice x n cap] w (VersOut w) := by
  go_enter Try.func13, Try.ntmps13
  go_wp2_with fail
  refine (open_any x n cap w h hn hc).mono ?_
  rintro e w1 ⟨rfl, hr, hb⟩
  have HR := Lib.hid hr; have HB := Lib.hid hb
  clear hr hb
  go_wp2_with fail
  refine (l20Versions_any w.heap.size w.heap.size 0 2 _ HR.out (by omega) (by decide)).mono ?_
  rintro e w2 ⟨v, l, rfl, ho, h14, hsm, hr, hg⟩
  obtain ⟨x2, n2, c2, rfl, hi⟩ := ho.lst
  have HI := Lib.hid hi; have HB2 := Lib.hid (HB.out.trans (below_grownBy hg HB.out.size (Nat.le_refl _))); have HSM := Lib.hid hsm
  clear ho hi hr hg hsm
  go_wp2_with fail
  go_ret
  exact ⟨x2, n2, c2, l, rfl, h14, HSM.out, HI.out, HB2.out⟩
theorem drawTipsOf_any (x : Option Addr) (n cap : Nat) (w : World) (h : Bytes w.heap.size w x n) (hn : n ≤ cap) (hc : cap ≤ maxLen) :
    Calls Try.prog 29 #[.slice x n cap] w (VersOut w) := by
  go_enter Try.func29, Try.ntmps29
  go_wp2_with fail
  refine (open_any x n cap w h hn hc).mono ?_
  rintro e w1 ⟨rfl, hr, hb⟩
  have HR := Lib.hid hr; have HB := Lib.hid hb
  clear hr hb
  go_wp2_with fail
  refine (l20Versions_any w.heap.size w.heap.size 0 9 _ HR.out (by omega) (by decide)).mono ?_
  rintro e w2 ⟨v, l, rfl, ho, h14, hsm, hr, hg⟩
  obtain ⟨x2, n2, c2, rfl, hi⟩ := ho.lst
  have HI := Lib.hid hi; have HB2 := Lib.hid (HB.out.trans (below_grownBy hg HB.out.size (Nat.le_refl _))); have HSM := Lib.hid hsm
  clear ho hi hr hg hsm
  go_wp2_with fail
  go_ret
  exact ⟨x2, n2, c2, l, rfl, h14, HSM.out, HI.out, HB2.out⟩
def LineOut (w : World) (e : Ending) (w' : World) : Prop := ∃ (x : Option Addr) (n c : Nat) (l : List Ver) (m : Int), e = .returned (.tuple #[.slice x n c, .int .i64 m]) ∧ l.length ≤ 14 ∧ (∀ k, (nthV l k).2.2.size ≤ 8) ∧ Vers w' w'.heap.size x n c l ∧ Below w.heap.size w w'
theorem drawLineOf_any (x : Option Addr) (n cap : Nat) (w : World) (h : Bytes w.heap.size w x n) (hn : n ≤ cap) (hc : cap ≤ maxLen) :
    Calls Try.prog 23 #[.slice x n cap] w (LineOut w) := by
  go_enter Try.func23, Try.ntmps23
  go_wp2_with fail
  refine (open_any x n cap w h hn hc).mono ?_
  rintro e w1 ⟨rfl, hr, hb⟩
  have HR := Lib.hid hr; have HB := Lib.hid hb
  have hr1 := hr.lt
  clear hr hb
  go_wp2_with fail
  refine (l20Versions_any w.heap.size w.heap.size 0 9 _ HR.out (by omega) (by decide)).mono ?_
  rintro e w2 ⟨v, l, rfl, ho, h14, hsm, hr, hg⟩
  obtain ⟨x2, n2, c2, rfl, hi⟩ := ho.lst
  have HO := Lib.hid ho; have HR2 := Lib.hid hr; have HB2 := Lib.hid (HB.out.trans (below_grownBy hg HB.out.size (Nat.le_refl _))); have HSM := Lib.hid hsm
  have hn2 : n2 ≤ 14 := by have := hi.len; omega
  clear ho hi hr hg hsm
  have hw1 : IntKind.i64.wrap ((n2 : Int) + 1) = ((n2 + 1 : Nat) : Int) := by rw [IntKind.wrap_i64]; omega
  go_wp2_with fail
  refine (pickN_any (n2 + 1) w.heap.size w.heap.size _ _ _ w2 HR2.out (grownBy_refl _ _) (by first | rfl | simp | omega) (by omega) (by omega) (by omega)).mono ?_
  rintro e w3 ⟨j, rfl, hj, hr, hg, _⟩
  have HR3 := Lib.hid hr; have HO3 := Lib.hid (own_keptL HO.out hg hr1); have HB3 := Lib.hid (HB2.out.trans (below_grownBy hg HB2.out.size (Nat.le_refl _)))
  clear hr hg
  go_wp2_with fail
  refine (pickN_any 14 w.heap.size w.heap.size _ _ _ w3 HR3.out (grownBy_refl _ _) rfl (by decide) (by decide) (by omega)).mono ?_
  rintro e w4 ⟨i, rfl, hi, hr, hg, _⟩
  have HO4 := Lib.hid (own_keptL HO3.out hg hr1); have HB4 := Lib.hid (HB3.out.trans (below_grownBy hg HB3.out.size (Nat.le_refl _)))
  clear hr hg
  go_wp2_with fail
  go_ret2
  exact ⟨x2, n2, c2, l, _, rfl, h14, HSM.out, HO4.out.lst', HB4.out⟩
def BothOut (w : World) (e : Ending) (w' : World) : Prop := ∃ (x : Option Addr) (n c : Nat) (l : List Ver) (p q : Int), e = .returned (.tuple #[.slice x n c, .int .i64 p, .int .i64 q]) ∧ l.length ≤ 14 ∧ (∀ k, (nthV l k).2.2.size ≤ 8) ∧ Vers w' w'.heap.size x n c l ∧ Below w.heap.size w w'
theorem drawNearestBoth_any (x : Option Addr) (n cap : Nat) (w : World) (h : Bytes w.heap.size w x n) (hn : n ≤ cap) (hc : cap ≤ maxLen) :
    Calls Try.prog 25 #[.slice x n cap] w (BothOut w) := by
  go_enter Try.func25, Try.ntmps25
  go_wp2_with fail
  refine (open_any x n cap w h hn hc).mono ?_
  rintro e w1 ⟨rfl, hr, hb⟩
  have HR := Lib.hid hr; have HB := Lib.hid hb
  have hr1 := hr.lt
  clear hr hb
  go_wp2_with fail
  refine (l20Versions_any w.heap.size w.heap.size 0 9 _ HR.out (by omega) (by decide)).mono ?_
  rintro e w2 ⟨v, l, rfl, ho, h14, hsm, hr, hg⟩
  obtain ⟨x2, n2, c2, rfl, hi⟩ := ho.lst
  have HO := Lib.hid ho; have HR2 := Lib.hid hr; have HB2 := Lib.hid (HB.out.trans (below_grownBy hg HB.out.size (Nat.le_refl _))); have HSM := Lib.hid hsm
  have hn2 : n2 ≤ 14 := by have := hi.len; omega
  clear ho hi hr hg hsm
  have hw1 : IntKind.i64.wrap ((n2 : Int) + 1) = ((n2 + 1 : Nat) : Int) := by rw [IntKind.wrap_i64]; omega
  go_wp2_with fail
  refine (pickN_any (n2 + 1) w.heap.size w.heap.size _ _ _ w2 HR2.out (grownBy_refl _ _) (by first | rfl | simp | omega) (by omega) (by omega) (by omega)).mono ?_
  rintro e w3 ⟨j, rfl, hj, hr, hg, _⟩
  have HR3 := Lib.hid hr; have HO3 := Lib.hid (own_keptL HO.out hg hr1); have HB3 := Lib.hid (HB2.out.trans (below_grownBy hg HB2.out.size (Nat.le_refl _)))
  clear hr hg
  go_wp2_with fail
  refine (pickN_any 14 w.heap.size w.heap.size _ _ _ w3 HR3.out (grownBy_refl _ _) rfl (by decide) (by decide) (by omega)).mono ?_
  rintro e w4 ⟨i, rfl, hi, hr, hg, _⟩
  have HR4 := Lib.hid hr; have HO4 := Lib.hid (own_keptL HO3.out hg hr1); have HB4 := Lib.hid (HB3.out.trans (below_grownBy hg HB3.out.size (Nat.le_refl _)))
  clear hr hg
  go_wp2_with fail
  refine (pickN_any (n2 + 1) w.heap.size w.heap.size _ _ _ w4 HR4.out (grownBy_refl _ _) (by first | rfl | simp | omega) (by omega) (by omega) (by omega)).mono ?_
  rintro e w5 ⟨j2, rfl, hj2, hr, hg, _⟩
  have HO5 := Lib.hid (own_keptL HO4.out hg hr1); have HB5 := Lib.hid (HB4.out.trans (below_grownBy hg HB4.out.size (Nat.le_refl _)))
  clear hr hg
  go_wp2_with fail
  go_ret3
  exact ⟨x2, n2, c2, l, _, _, rfl, h14, HSM.out, HO5.out.lst', HB5.out⟩
theorem grown_setV (w : World) (a : Addr) (u : Value) : w.grownBy (w.setCell a u) (some a.block) :=
  ⟨rfl, rfl, rfl, by simp [World.setCell], fun k hk hne => Below.heap_setCell _ _ _ _ (by intro e; exact hne (by rw [e]))⟩
def AddOut (w : World) (e : Ending) (w' : World) : Prop := ∃ (x : Option Addr) (n c : Nat) (l : List Ver) (v : Ver), e = .returned (.tuple #[.slice x n c, .agg #[.int .i64 v.1, .int .i64 v.2.1, .string v.2.2]]) ∧ l.length ≤ 14 ∧ (∀ k, (nthV l k).2.2.size ≤ 8) ∧ v.2.2.size ≤ 9 ∧ Vers w' w'.heap.size x n c l ∧ Below w.heap.size w w'
set_option maxHeartbeats 1000000 in
theorem drawAddVersion_any (x : Option Addr) (n cap : Nat) (w : World) (h : Bytes w.heap.size w x n) (hn : n ≤ cap) (hc : cap ≤ maxLen) :
    Calls Try.prog 17 #[.slice x n cap] w (AddOut w) := by
  obtain ⟨W, hW⟩ : ∃ W, w.alloc (.cells #[.int .i64 0, .int .i64 0, .string ⟨#[]⟩] 27) = W := ⟨_, rfl⟩
  have e0 : W.heap.size = w.heap.size + 1 := by rw [← hW]; simp
  have HX := Lib.hid (show W.heap[w.heap.size]? = some (.cells #[.int .i64 0, .int .i64 0, .string ⟨#[]⟩] 27 (0, 0)) by rw [← hW]; exact heap_alloc_new w _)
  have HBW := Lib.hid (show Below w.heap.size w W by rw [← hW]; exact (Below.refl w.heap.size w).alloc (Nat.le_refl _) _)
  have HBY := Lib.hid (show Bytes W.heap.size W x n from fun i hi => by
    obtain ⟨b, off, z, h1, h2, h3, h4⟩ := (h.keep fun k hk => HBW.out.block k hk) i hi
    exact ⟨b, off, z, h1, by omega, h3, h4⟩)
  have HE0 := Lib.hid e0
  clear h e0
  go_enter Try.func17, Try.ntmps17
  go_wp2_with fail
  refine (open_any x n cap W HBY.out hn hc).mono ?_
  rintro e w1 ⟨rfl, hr, hb⟩
  have HX1 := Lib.hid ((hb.block w.heap.size (by have := HE0.out; omega)).trans HX.out)
  have HR := Lib.hid hr; have HB := Lib.hid (HBW.out.trans (hb.mono HBW.out.size)); clear hr hb
  have hlt1 := HR.out.lt
  go_wp2_with fail
  refine (l20Versions_any W.heap.size W.heap.size 0 9 _ HR.out (by omega) (by decide)).mono ?_
  rintro e w2 ⟨v, l, rfl, ho, h14, hsm, hr, hg⟩
  obtain ⟨y, m, c, rfl, hi⟩ := ho.lst
  have hn2 : m ≤ 14 := by have := hi.len; omega
  have HO := Lib.hid ho; have HR2 := Lib.hid hr; have HG2 := Lib.hid hg; have HSM := Lib.hid hsm; clear ho hr hg hi hsm
  have hw1 : IntKind.i64.wrap ((m : Int) + 2) = ((m + 2 : Nat) : Int) := by rw [IntKind.wrap_i64]; omega
  go_wp2_with fail
  refine (pickN_any (m + 2) W.heap.size W.heap.size _ _ _ w2 HR2.out (grownBy_refl _ _) (by first | rfl | simp | omega) (by omega) (by omega) (by omega)).mono ?_
  rintro e w3 ⟨j, rfl, hj, hr, hg, _⟩
  have HR3 := Lib.hid hr; have HG3 := Lib.hid (grownBy_trans HG2.out hg); have HO3 := Lib.hid (own_keptL HO.out hg hlt1); clear hr hg
  have hw2 : IntKind.i64.wrap ((j : Int) - 1) = (j : Int) - 1 := by rw [IntKind.wrap_i64]; omega
  go_wp2_with fail
  refine (l20Print_any W.heap.size W.heap.size _ _ _ HR3.out (by omega) (by omega)).mono ?_
  rintro e w4 ⟨p, rfl, hp0, hp1, hr, hg⟩
  have HR4 := Lib.hid hr; have HG4 := Lib.hid (grownBy_trans HG3.out hg); have HO4 := Lib.hid (own_keptL HO3.out hg hlt1); clear hr hg
  go_wp2_with fail
  refine (l20Word_any W.heap.size W.heap.size _ _ _ HR4.out (by omega) (by omega)).mono ?_
  rintro e w5 ⟨s, rfl, hs, hr, hg⟩
  have hs9 := words_nine s hs
  have HG5 := Lib.hid (grownBy_trans HG4.out hg); have HO5 := Lib.hid (own_keptL HO4.out hg hlt1); clear hr hg hs
  obtain ⟨d0, d1, d2, g0, g1, g2⟩ := three_full ((HG5.out.block w.heap.size (by have := HE0.out; have := HB.out.size; omega) (by have := HE0.out; intro e; simp at e; omega)).trans HX1.out)
  have HB5 := Lib.hid (HB.out.trans (below_grownBy HG5.out HB.out.size (by have := HE0.out; omega)))
  go_wp2_with fail
  refine bodyPost_ret (v := .tuple #[.slice y m c, .agg #[.int .i64 p, .int .i64 ((j : Int) - 1), .string s]]) ?_ rfl ⟨y, m, c, l, (p, (j : Int) - 1, s), rfl, h14, HSM.out, hs9, ?_, ((HB5.out.setCell (p := ⟨w.heap.size, 0, none⟩) (by simp) _).setCell (p := ⟨w.heap.size, 1, none⟩) (by simp) _).setCell (p := ⟨w.heap.size, 2, none⟩) (by simp) _⟩
  · simp [results, Try.results17, go_sem, d0, d1, d2]
  · have hlt : w.heap.size < w1.heap.size := by have := HE0.out; omega
    exact (own_keptL (own_keptL (own_keptL HO5.out (grown_setV _ ⟨w.heap.size, 0, none⟩ _) hlt) (grown_setV _ ⟨w.heap.size, 1, none⟩ _) hlt) (grown_setV _ ⟨w.heap.size, 2, none⟩ _) hlt).lst'
end Go.Proofs.Ytminmakiahjfbaa
