/-
  Chapter 5: contracts of the proofs of trees.
-/
import Derived.Test.YtlbebbkkpjgboaaTrees2
import Derived.Test.YtlbebbkkpjgboaaDraw0
namespace Go.Proofs.Ytlbebbkkpjgboaa
open Go.RowKit
set_option linter.unusedVariables false
/-- A slice reads on, whatever the row v becomes. -/
def Apart (w : World) (v : Value) (y : Option Addr) (n c : Nat) (l : List Int) : Prop := ∀ w', w.grownBy w' v.ownBlock → Ints w' w'.heap.size y n c l
theorem apart_arg {w : World} {B : Nat} {v : Value} {y : Option Addr} {n c : Nat} {l : List Int} (h : Ints w B y n c l) (hB : B ≤ w.heap.size) (hv : ∀ k, v.ownBlock = some k → B ≤ k) : Apart w v y n c l := fun w' hg =>
  (h.keep (w' := w') fun k hk => hg.block k (by omega) (fun e => by have := hv k e.symm; omega)).more (Nat.le_trans hB hg.size)
theorem apart_new {w1 w2 : World} {base : Nat} {v : Value} {y : Option Addr} {n c : Nat} {out l : List Int} (hv : OwnI w1 base v out) (ho : OwnI w2 w1.heap.size (.slice y n c) l) : Apart w2 v y n c l := fun w3 hg =>
  OwnI.ints' (World.ownsRow.kept ho hg (by
    cases h1 : (Value.slice y n c).ownBlock with
    | none => exact .inl rfl
    | some k =>
      refine .inr fun e => ?_
      have := ho.at k h1
      have := (World.ownsRow.lt hv k e.symm).2
      omega))
theorem Apart.ints {w : World} {v : Value} {y : Option Addr} {n c : Nat} {l : List Int} (h : Apart w v y n c l) : Ints w w.heap.size y n c l := h w (grownBy_refl _ _)
theorem out_len {out l q : List Int} (n : Int) (h : out ++ q = provB l n) : out.length ≤ 4 := by
  have := provB_len l n
  rw [← h, List.length_append] at this
  omega
theorem treeProof_any (x : Option Addr) (m cap : Nat) (l : List Int) (n : Int) (w : World) (h : Ints w w.heap.size x m cap l) :
    Calls Try.prog 19 #[.slice x m cap, .int .i64 n] w (NewI (provB l n) w) := by
  have HL := Lib.hid h.len
  have hmx := h.max
  have hle := h.le
  unfold maxLen at hmx
  cases hv : leavesB l
  · have HF := Lib.hid (provB_no (n := n) (.inl hv))
    go_enter Try.func19, Try.ntmps19
    go_wp2_with (go_at_call 41; refine (areLeaves_any _ _ _ _ _ _ h).mono ?_; rintro e w' ⟨rfl, rfl⟩)
    go_ret
    exact ⟨_, rfl, by rw [HF.out]; exact OwnI.nil _ _, Below.refl _ _⟩
  · by_cases hn0 : n < 0
    · have HF := Lib.hid (provB_no (l := l) (n := n) (.inr (.inl hn0)))
      go_enter Try.func19, Try.ntmps19
      go_wp2_with (go_at_call 41; refine (areLeaves_any _ _ _ _ _ _ h).mono ?_; rintro e w' ⟨rfl, rfl⟩)
      go_ret
      exact ⟨_, rfl, by rw [HF.out]; exact OwnI.nil _ _, Below.refl _ _⟩
    · by_cases hnm : (m : Int) ≤ n
      · have HF := Lib.hid (provB_no (l := l) (n := n) (.inr (.inr (by rw [HL.out]; exact hnm))))
        go_enter Try.func19, Try.ntmps19
        go_wp2_with (go_at_call 41; refine (areLeaves_any _ _ _ _ _ _ h).mono ?_; rintro e w' ⟨rfl, rfl⟩)
        go_ret
        exact ⟨_, rfl, by rw [HF.out]; exact OwnI.nil _ _, Below.refl _ _⟩
      · obtain ⟨n, rfl⟩ := Int.eq_ofNat_of_zero_le (show 0 ≤ n by omega)
        have hnlt : n < m := by omega
        have HF := Lib.hid (provB_yes hv (by rw [HL.out]; exact hnlt))
        obtain ⟨_, h1, h16⟩ := leavesB_at hv
        rw [HL.out] at h1 h16
        have hd1 : decide ((n : Int) < 0) = false := by simp
        have hd2 : decide (m ≤ n) = false := by simpa using hnlt
        have hd3 : decide ((m : Int) ≤ (n : Int)) = false := by simpa using hnlt
        go_enter Try.func19, Try.ntmps19
        go_wp2_with (go_at_call 41; refine (areLeaves_any _ _ _ _ _ _ h).mono ?_; rintro e w' ⟨rfl, rfl⟩)
        go_loopw [1, 5, 6] (fun i v lv wr => ∃ (q : Nat) (y : Option Addr) (k c : Nat) (l' out : List Int), i = .int .i64 q ∧ lv = .slice y k c ∧ OwnI wr w.heap.size v out ∧ Apart wr v y k c l' ∧ 1 ≤ k ∧ k ≤ 16 ∧ q < k ∧ out ++ proofB l' q = provB l n ∧ Below w.heap.size w wr) (fun _ _ lv _ => lenV lv)
        case atStart => exact ⟨n, x, m, cap, l, [], rfl, rfl, OwnI.nil _ _, apart_arg h (Nat.le_refl _) (by intro k hk; simp [Value.ownBlock] at hk), h1, h16, hnlt, by rw [HF.out]; rfl, Below.refl _ _⟩
        case round =>
          obtain ⟨q, y, k, c, l', out, rfl, rfl, ho, ha, hk1, hk16, hqk, he, hb⟩ := hrel
          have HO := Lib.hid ho; have HA := Lib.hid ha; have HE := Lib.hid he; have HB := Lib.hid hb; have HI := Lib.hid ha.ints; have HL' := Lib.hid ha.ints.len
          have hle' := ha.ints.le
          have hmx' := ha.ints.max
          unfold maxLen at hmx'
          have hout := out_len _ he
          have hsz := hb.size
          clear ho ha he hb
          by_cases hlt : 1 < k
          · have HU := Lib.hid (proofB_up (l := l') q (by rw [HL'.out]; exact hlt))
            go_wp2_with (first
              | (go_at_call 45; refine (partnerPrint_any _ _ _ l' q _ _ HI.out hqk hk16).mono ?_; rintro e w' ⟨rfl, rfl⟩)
              | (at_builtin; refine wpList_app1I (partB l' q) HO.out (by omega) hsz rfl _ _ rfl rfl rfl ?_; intro v2 w2 hown hgrow; have HN := Lib.hid hown; have HI2 := Lib.hid (HA.out _ hgrow); have HB2 := Lib.hid (HB.out.grown hgrow hsz HO.out.at); clear hown hgrow)
              | (go_at_call 42; refine (levelAbove_any _ _ _ _ _ HI2.out hk16).mono ?_; rintro e w3 ⟨v3, rfl, ho, hb3⟩; obtain ⟨y3, n3, c3, rfl, hi3⟩ := ho.ints; have HA3 := Lib.hid (apart_new HN.out ho); have HO3 := Lib.hid (OwnI.below HN.out hb3); have HB3 := Lib.hid (HB2.out.trans (hb3.mono HB2.out.size)); have hn3 : n3 = (k + 1) / 2 := (by rw [← hi3.len, upB_len, HL'.out]); have hn31 : 1 ≤ n3 := (by omega); have hn32 : n3 < k := (by omega); have hn33 : q / 2 < n3 := (by omega); clear ho hb3 hi3 hn3))
            go_roundw
            case rel => exact ⟨q / 2, y3, n3, c3, upB l', out ++ [partB l' q], by go_num, rfl, HO3.out, HA3.out, hn31, by omega, hn33, by rw [List.append_assoc, List.singleton_append, ← HU.out]; exact HE.out, HB3.out⟩
            case measure => simp [lenV]; omega
          · have HU := Lib.hid (proofB_end (l := l') q (by rw [HL'.out]; exact hlt))
            go_wp2
            go_ret
            exact ⟨_, rfl, by have := HE.out; rw [HU.out, List.append_nil] at this; rw [← this]; exact HO.out, HB.out⟩
theorem mate_odd {q : Nat} (h : ¬ q % 2 = 0) : mateN q + 1 = q := by unfold mateN; rw [if_neg h]; omega
theorem mate_spec (q : Nat) : (q : Int) + 1 - (q : Int) % 2 * 2 = (mateN q : Int) := by
  unfold mateN; split <;> omega
theorem part_lt {l : List Int} {q k : Nat} (hl : l.length = k) (h : mateN q < k) : partB l q = nthI l (mateN q) := by unfold partB; rw [if_neg (by omega)]
theorem part_ge {l : List Int} {q k : Nat} (hl : l.length = k) (hq : q < k) (h : ¬ mateN q < k) : partB l q = -1 := by
  unfold partB
  rw [if_pos]
  unfold mateN at h ⊢
  split at h
  · rename_i h2; rw [if_pos h2]; omega
  · omega
theorem specTreeProof_any (x : Option Addr) (m cap : Nat) (l : List Int) (n : Int) (w : World) (h : Ints w w.heap.size x m cap l) (hn : -1000000 ≤ n ∧ n ≤ 1000000 ∨ True) :
    Calls Try.prog 21 #[.slice x m cap, .int .i64 n] w (NewI (provB l n) w) := by
  have HL := Lib.hid h.len
  have hmx := h.max
  have hle := h.le
  unfold maxLen at hmx
  have hI := h.alloc (Nat.le_refl _) (.cells #[] 3)
  have HW0 := Lib.hid (own_newI w)
  have HB0 := Lib.hid ((Below.refl w.heap.size w).alloc (Nat.le_refl _) (.cells #[] 3))
  clear hn
  cases hv : leavesB l
  · have HF := Lib.hid (provB_no (n := n) (.inl hv))
    go_enter Try.func21, Try.ntmps21
    go_wp2_with (go_at_call 43; refine (l5Valid_any _ _ _ _ _ _ hI).mono ?_; rintro e w' ⟨rfl, rfl⟩)
    go_ret
    exact ⟨_, rfl, by rw [HF.out]; exact HW0.out, HB0.out⟩
  · cases hin : in3 n 0 ((m : Int) - 1)
    · have HF := Lib.hid (provB_no (l := l) (n := n) (.inr (by rw [HL.out]; unfold in3 at hin; simp at hin; omega)))
      go_enter Try.func21, Try.ntmps21
      go_wp2_with (first
        | (go_at_call 43; refine (l5Valid_any _ _ _ _ _ _ hI).mono ?_; rintro e w' ⟨rfl, rfl⟩)
        | (go_at_call 46; refine (l1In_any _ _ _ _).mono ?_; rintro e w' ⟨rfl, rfl⟩))
      go_ret
      exact ⟨_, rfl, by rw [HF.out]; exact HW0.out, HB0.out⟩
    · have hb2 : 0 ≤ n ∧ n ≤ (m : Int) - 1 := by unfold in3 at hin; simpa using hin
      obtain ⟨n, rfl⟩ := Int.eq_ofNat_of_zero_le hb2.1
      have hnlt : n < m := by omega
      clear hb2
      have HF := Lib.hid (provB_yes hv (by rw [HL.out]; exact hnlt))
      obtain ⟨_, h1, h16⟩ := leavesB_at hv
      rw [HL.out] at h1 h16
      go_enter Try.func21, Try.ntmps21
      go_wp2_with (first
        | (go_at_call 43; refine (l5Valid_any _ _ _ _ _ _ hI).mono ?_; rintro e w' ⟨rfl, rfl⟩)
        | (go_at_call 46; refine (l1In_any _ _ _ _).mono ?_; rintro e w' ⟨rfl, rfl⟩))
      go_loopw [0, 1, 5] (fun lv i v wr => ∃ (q : Nat) (y : Option Addr) (k c : Nat) (l' out : List Int), i = .int .i64 q ∧ lv = .slice y k c ∧ OwnI wr w.heap.size v out ∧ Apart wr v y k c l' ∧ 1 ≤ k ∧ k ≤ 16 ∧ q < k ∧ out ++ proofB l' q = provB l n ∧ Below w.heap.size w wr) (fun lv _ _ _ => lenV lv)
      case atStart => exact ⟨n, x, m, cap, l, [], rfl, rfl, HW0.out, apart_arg hI HB0.out.size HW0.out.at, h1, h16, hnlt, by rw [HF.out]; rfl, HB0.out⟩
      case round =>
        obtain ⟨q, y, k, c, l', out, rfl, rfl, ho, ha, hk1, hk16, hqk, he, hb⟩ := hrel
        have HO := Lib.hid ho; have HA := Lib.hid ha; have HE := Lib.hid he; have HB := Lib.hid hb; have HI := Lib.hid ha.ints; have HL' := Lib.hid ha.ints.len
        have hle' := ha.ints.le
        have hmx' := ha.ints.max
        unfold maxLen at hmx'
        have hout := out_len _ he
        have hsz := hb.size
        have hmate := mate_spec q
        clear ho ha he hb
        by_cases hlt : 1 < k
        · have HU := Lib.hid (proofB_up (l := l') q (by rw [HL'.out]; exact hlt))
          by_cases hm2 : mateN q < k
          · obtain ⟨b, off, rfl, hb, hcell⟩ := HI.out.at hm2
            have HP := Lib.hid (part_lt HL'.out hm2)
            go_wp2_with (first
              | (at_builtin; refine wpList_app1I (nthI l' (mateN q)) HO.out (by omega) hsz rfl _ _ rfl rfl rfl ?_; intro v2 w2 hown hgrow; have HN := Lib.hid hown; have HI2 := Lib.hid (HA.out _ hgrow); have HB2 := Lib.hid (HB.out.grown hgrow hsz HO.out.at); clear hown hgrow)
              | (go_at_call 44; refine (l5Up_any _ _ _ _ _ HI2.out (by omega)).mono ?_; rintro e w3 ⟨v3, rfl, ho, hb3⟩; obtain ⟨y3, n3, c3, rfl, hi3⟩ := ho.ints; have HA3 := Lib.hid (apart_new HN.out ho); have HO3 := Lib.hid (OwnI.below HN.out hb3); have HB3 := Lib.hid (HB2.out.trans (hb3.mono HB2.out.size)); have hn3 : n3 = (k + 1) / 2 := (by rw [← hi3.len, upB_len, HL'.out]); have hn31 : 1 ≤ n3 := (by omega); have hn32 : n3 < k := (by omega); have hn33 : q / 2 < n3 := (by omega); clear ho hb3 hi3 hn3))
            go_roundw
            case rel => exact ⟨q / 2, y3, n3, c3, upB l', out ++ [partB l' q], by go_num, rfl, by rw [HP.out]; exact HO3.out, HA3.out, hn31, by omega, hn33, by rw [List.append_assoc, List.singleton_append, ← HU.out]; exact HE.out, HB3.out⟩
            case measure => simp [lenV]; omega
          · have HP := Lib.hid (part_ge HL'.out hqk hm2)
            go_wp2_with (first
              | (at_builtin; refine wpList_app1I (-1) HO.out (by omega) hsz rfl _ _ rfl rfl rfl ?_; intro v2 w2 hown hgrow; have HN := Lib.hid hown; have HI2 := Lib.hid (HA.out _ hgrow); have HB2 := Lib.hid (HB.out.grown hgrow hsz HO.out.at); clear hown hgrow)
              | (go_at_call 44; refine (l5Up_any _ _ _ _ _ HI2.out (by omega)).mono ?_; rintro e w3 ⟨v3, rfl, ho, hb3⟩; obtain ⟨y3, n3, c3, rfl, hi3⟩ := ho.ints; have HA3 := Lib.hid (apart_new HN.out ho); have HO3 := Lib.hid (OwnI.below HN.out hb3); have HB3 := Lib.hid (HB2.out.trans (hb3.mono HB2.out.size)); have hn3 : n3 = (k + 1) / 2 := (by rw [← hi3.len, upB_len, HL'.out]); have hn31 : 1 ≤ n3 := (by omega); have hn32 : n3 < k := (by omega); have hn33 : q / 2 < n3 := (by omega); clear ho hb3 hi3 hn3))
            go_roundw
            case rel => exact ⟨q / 2, y3, n3, c3, upB l', out ++ [partB l' q], by go_num, rfl, by rw [HP.out]; exact HO3.out, HA3.out, hn31, by omega, hn33, by rw [List.append_assoc, List.singleton_append, ← HU.out]; exact HE.out, HB3.out⟩
            case measure => simp [lenV]; omega
        · have HU := Lib.hid (proofB_end (l := l') q (by rw [HL'.out]; exact hlt))
          go_wp2
          go_ret
          exact ⟨_, rfl, by have := HE.out; rw [HU.out, List.append_nil] at this; rw [← this]; exact HO.out, HB.out⟩
end Go.Proofs.Ytlbebbkkpjgboaa
