/-
  Chapter 6's model: the folder of a text.
-/
import Derived.Test.YtlbebbkkpjgboaaFolders
import Derived.Test.YtlbebbkkpjgboaaRead
import Derived.BigRegion
import Derived.Test.YtlbebbkkpjgboaaStep
import Derived.Test.YtlbebbkkpjgboaaStores3
namespace Go.Proofs.Ytlbebbkkpjgboaa
open Go.RowKit
set_option linter.unusedVariables false
/-- New entries and a bool. -/
def NewEB (l : List Ent) (b : Bool) (w : World) (e : Ending) (w' : World) : Prop := ∃ v, e = .returned (.tuple #[v, .bool b]) ∧ OwnE w' w.heap.size v l ∧ Below w.heap.size w w'
theorem newEB_of {l l' : List Ent} {b b' : Bool} {w w' : World} {e : Ending} (h : l = l' ∧ b = b') (hx : NewEB l' b' w e w') : NewEB l b w e w' := by rw [h.1, h.2]; exact hx
theorem seek_cases (c : UInt8) (n : Int) (hn : (c.toNat : Int) = n) (s : ByteArray) (j : Nat) :
    (∃ h : j < s.size, ((((s[j]).toNat : Int) != n) = true) ∧ seekB c s j = seekB c s (j + 1)) ∨ ((∃ h : j < s.size, (((s[j]).toNat : Int) != n) = false) ∨ ¬ j < s.size) ∧ (j ≤ s.size → seekB c s j = j) := by
  by_cases h : j < s.size
  · by_cases hc : ((s[j]).toNat : Int) = n
    · refine .inr ⟨.inl ⟨h, by simpa using hc⟩, fun _ => seekB_stop h ?_⟩
      apply UInt8.toNat_inj.1; omega
    · refine .inl ⟨h, by simpa using hc, seekB_on h ?_⟩
      intro e; exact hc (by rw [e]; exact hn)
  · refine .inr ⟨.inr h, fun h' => ?_⟩
    obtain rfl : j = s.size := by omega
    exact seekB_end c s
theorem seek_is {c : UInt8} {s : ByteArray} {k i : Nat} (h : i < s.size) (e : seekB c s k = i) : s[i] = c := by subst e; exact seekB_at c h
theorem sign_lt {s : ByteArray} {k j m : Nat} (hj : seekB 61 s k = j) (hm : seekB 59 s j = m) (hjm : j ≤ m) (h : m < s.size) : j + 1 ≤ m := by
  rcases Nat.lt_or_eq_of_le hjm with h1 | rfl
  · exact h1
  · have h1 := seek_is h hj
    have h2 := seek_is h hm
    rw [h1] at h2
    exact absurd h2 (by decide)
theorem nthE_snoc_size {l : List Ent} {q : Ent} {n : Nat} (h : ∀ j, (nthE l j).1.size ≤ n) (hq : q.1.size ≤ n) (j : Nat) : (nthE (l ++ [q]) j).1.size ≤ n := by
  by_cases hj : j < l.length
  · have := h j
    unfold nthE at this ⊢
    rwa [List.getD_eq_getElem?_getD, List.getElem?_append_left hj, ← List.getD_eq_getElem?_getD]
  · unfold nthE
    rw [List.getD_eq_getElem?_getD, List.getElem?_append_right (by omega)]
    cases hk : j - l.length with
    | zero => exact hq
    | succ k => simp
set_option maxHeartbeats 2000000 in
theorem specReadFolder_any (s : ByteArray) (w : World) (hs : s.size ≤ 1048576) : Calls Try.prog 82 #[.string s] w (NewEB (foldL s) (isFold s) w) := by
  have HN := Lib.hid (OwnL.new enG 84 (size := 2) w)
  have HB := Lib.hid ((Below.refl w.heap.size w).alloc (Nat.le_refl _) (.cells #[] 84))
  go_enter Try.func82, Try.ntmps82
  go_wp2_with fail
  go_loopw [4, 5, 6, 7] (fun v a _ _ wr => ∃ (k : Nat) (out : List Ent), 1 ≤ k ∧ k ≤ s.size + 1 ∧ a = .int .i64 k ∧ readEs s (s.size + 1) 1 [] = readEs s (s.size + 1) k out ∧ out.length ≤ k ∧ (∀ j, (nthE out j).1.size ≤ s.size) ∧ OwnE wr w.heap.size v out ∧ Below w.heap.size w wr) (fun _ a _ _ _ => s.size + 1 - (intOf a).toNat)
  case atStart => exact ⟨1, [], by omega, by omega, rfl, rfl, by simp, fun j => by simp [nthE], HN.out, HB.out⟩
  case round =>
    obtain ⟨k, out, hk1, hk, rfl, hg, hl, hz, ho, hb⟩ := hrel
    have HG := Lib.hid hg; have HZ := Lib.hid hz; have HO := Lib.hid ho; have HBW := Lib.hid hb
    clear hg hz ho hb
    have hwr := HBW.out.size
    by_cases hlt : k < s.size
    · go_wp2
      go_loop [6] (fun sg => ∃ j : Nat, k ≤ j ∧ j ≤ s.size ∧ sg = .int .i64 j ∧ seekB 61 s k = seekB 61 s j) (fun sg => s.size - (intOf sg).toNat)
      case atStart => exact ⟨k, by omega, by omega, rfl, rfl⟩
      case round =>
        obtain ⟨j, hkj, hj, rfl, hsk⟩ := hrel
        have HSK := Lib.hid hsk; clear hsk
        rcases seek_cases 61 61 rfl s j with ⟨hjs, hd, hon⟩ | ⟨hst, hse⟩
        · have HON := Lib.hid hon; clear hon
          go_wp2
          go_round
          case rel => exact ⟨j + 1, by omega, by omega, by go_num, by rw [HSK.out, HON.out]⟩
          case measure => simp [intOf]; omega
        · have HJ := Lib.hid (HSK.out.trans (hse hj)); clear hse
          rcases hst with ⟨hjs, hd⟩ | hjs
          all_goals
            go_wp2
            go_loop [7] (fun en => ∃ m : Nat, j ≤ m ∧ m ≤ s.size ∧ en = .int .i64 m ∧ seekB 59 s j = seekB 59 s m) (fun en => s.size - (intOf en).toNat)
            case atStart => exact ⟨j, by omega, by omega, rfl, rfl⟩
            case round =>
              obtain ⟨m, hjm, hm, rfl, hsm⟩ := hrel
              have HSM := Lib.hid hsm; clear hsm
              rcases seek_cases 59 59 rfl s m with ⟨hms, hdm, hon⟩ | ⟨hst, hse⟩
              · have HON := Lib.hid hon; clear hon
                go_wp2
                go_round
                case rel => exact ⟨m + 1, by omega, by omega, by go_num, by rw [HSM.out, HON.out]⟩
                case measure => simp [intOf]; omega
              · have HM := Lib.hid (HSM.out.trans (hse hm)); clear hse
                rcases hst with ⟨hms, hdm⟩ | hms
                · have hdm2 : ((m : Int) == (s.size : Int)) = false := by simp; omega
                  by_cases hq : j < s.size
                  rotate_left
                  · exfalso; omega
                  have hol : out.length ≤ 2000000 := by omega
                  have hx1 : (s.extract (j + 1) m).size ≤ maxLen := by rw [ByteArray.size_extract]; unfold maxLen; omega
                  have hjm2 : j + 1 ≤ m := sign_lt HJ.out HM.out hjm hms
                  have HST := Lib.hid (show readEs s (s.size + 1) k out = readEs s (s.size + 1) (m + 1) (out ++ [(s.extract k j, readB (s.extract (j + 1) m))]) by
                    have h := entsOf_step (out := out) hlt (by rw [HJ.out, HM.out]; omega) (s.size + 1) (by omega)
                    rw [HJ.out, HM.out] at h; exact h)
                  have hw1 : IntKind.i64.wrap ((j : Int) + 1) = (j : Int) + 1 := by rw [IntKind.wrap_i64]; omega
                  have htn : ((j : Int) + 1).toNat = j + 1 := by omega
                  have hbb : (j : Int) + 1 ≤ (m : Int) := by omega
                  have hb0 : (0 : Int) ≤ (j : Int) + 1 := by omega
                  go_wp2
                  go_region_law (first
                    | (refine step_call1 (f := 86) (enters_of Try.func86 (by kernel_rfl) rfl) rfl _ 9 rfl (.string (s.extract (j + 1) m)) (by simp [Act.eval, Act.put]) (specReadHex_any _ _ hx1) ?_; rintro e w' ⟨rfl, rfl⟩; refine ⟨_, rfl, ?_⟩)
                    | (refine step_appL eltEn encEn (l := out) (l' := [(s.extract k j, readB (s.extract (j + 1) m))]) (OwnL.alloc (OwnL.drew HO.out) _) (OneAt.lst (OneAt.new enG 84 rfl _ _ rfl)) hol (by decide) (le_alloc (le_drew hwr) _) rfl _ _ rfl (by simp [Act.eval]) (by simp [Act.eval]) ?_; intro v' w' hown hgrow hat; have HOWN := Lib.hid hown; have HGR := Lib.hid hgrow; clear hown hgrow hat))
                  all_goals
                    go_wp2
                    go_roundw
                    case rel => exact ⟨m + 1, _, by omega, by omega, by go_num, HG.out.trans HST.out, by rw [List.length_append, List.length_singleton]; omega, nthE_snoc_size HZ.out (by rw [ByteArray.size_extract]; omega), HOWN.out, ((show Below w.heap.size w wr.drew from below_drewN HBW.out 1).alloc hwr _).grown HGR.out (le_alloc (le_drew hwr) _) (fun q e => HO.out.at q e)⟩
                    case measure => simp [intOf]; omega
                · have HF := Lib.hid (fold_none (s := s) (HG.out.trans (entsOf_stop hlt (by rw [HJ.out, HM.out]; omega) (s.size + 1) (by omega))))
                  have hmz : ((m : Int) == (s.size : Int)) = true := by simp; omega
                  go_wp2
                  go_ret2
                  exact newEB_of HF.out ⟨_, rfl, OwnL.newAt _ _ rfl hwr, HBW.out.alloc hwr _⟩
    · have HS := Lib.hid (show entsOf s = some out from HG.out.trans (entsOf_end hlt (s.size + 1) (by omega)))
      obtain ⟨x, n, c, rfl, hlo⟩ := HO.out.lst
      have HLO := Lib.hid hlo
      clear hlo
      by_cases hf : folderB out = s
      · have hd : ((folderB out).toList == s.toList) = true := by rw [hf]; simp
        by_cases h0 : s.size = 0
        · have HF := Lib.hid (fold_no HS.out (.inr h0))
          have he : s.toList.isEmpty = true := by rw [ByteArray.toList_eq, List.isEmpty_iff, ← List.length_eq_zero_iff, len_eq]; exact h0
          clear hf h0
          go_wp2_with (go_at_call 65; refine (specFolderText_any _ _ _ _ _ _ HLO.out (fun j => by have := HZ.out j; unfold maxLen; omega)).mono ?_; rintro e w2 ⟨rfl, hq⟩; have HQ := Lib.hid hq; clear hq)
          go_ret2
          exact newEB_of HF.out ⟨_, rfl, OwnL.newAt _ _ rfl (by rw [size_quiet HQ.out]; exact hwr), (below_quiet HBW.out HQ.out).alloc (by rw [size_quiet HQ.out]; exact hwr) _⟩
        · have HF := Lib.hid (fold_yes HS.out hf (by omega))
          have he : s.toList.isEmpty = false := by rw [ByteArray.toList_eq, List.isEmpty_eq_false_iff, ← List.length_pos_iff, len_eq]; omega
          clear hf h0
          go_wp2_with (go_at_call 65; refine (specFolderText_any _ _ _ _ _ _ HLO.out (fun j => by have := HZ.out j; unfold maxLen; omega)).mono ?_; rintro e w2 ⟨rfl, hq⟩; have HQ := Lib.hid hq; clear hq)
          go_ret2
          exact newEB_of HF.out ⟨_, rfl, HO.out.quiet HQ.out, below_quiet HBW.out HQ.out⟩
      · have hd : ((folderB out).toList == s.toList) = false := by rw [str_beq]; simpa using hf
        have HF := Lib.hid (fold_no HS.out (.inl hf))
        clear hf
        go_wp2_with (go_at_call 65; refine (specFolderText_any _ _ _ _ _ _ HLO.out (fun j => by have := HZ.out j; unfold maxLen; omega)).mono ?_; rintro e w2 ⟨rfl, hq⟩; have HQ := Lib.hid hq; clear hq)
        go_ret2
        exact newEB_of HF.out ⟨_, rfl, OwnL.newAt _ _ rfl (by rw [size_quiet HQ.out]; exact hwr), (below_quiet HBW.out HQ.out).alloc (by rw [size_quiet HQ.out]; exact hwr) _⟩
end Go.Proofs.Ytlbebbkkpjgboaa
