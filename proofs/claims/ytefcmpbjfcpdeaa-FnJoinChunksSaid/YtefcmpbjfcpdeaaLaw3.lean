/-
  Chapter 3's laws: what holds of chunks, and the walks.
-/
import Derived.Test.YtefcmpbjfcpdeaaDraw4
import Derived.Test.YtefcmpbjfcpdeaaMarksS
namespace Go.Proofs.Ytefcmpbjfcpdeaa
open Go.RowKit
set_option linter.unusedVariables false
/-- Ends l behind a, up to b: none too near, none too far. -/
def Gap (a b : Int) : List Int → Prop
  | [] => True
  | e :: r => a < e ∧ e ≤ a + 6 ∧ (r = [] → e = b) ∧ (r ≠ [] → a + 2 ≤ e) ∧ Gap e b r
theorem endsGo_ne {l : List UInt8} (h : l ≠ []) : ∀ k m, endsGo l k m ≠ [] := by
  induction l with
  | nil => exact absurd rfl h
  | cons c r ih =>
    intro k m
    rw [endsGo]
    split
    · simp
    · rename_i hc
      refine ih ?_ _ _
      intro e; subst e; simp at hc
theorem endsGo_gap : ∀ (l : List UInt8) (k m : Nat), m ≤ k → m ≤ 5 → Gap ((k : Int) - m) (k + l.length : Nat) (endsGo l k m)
  | [], k, m, h, h5 => trivial
  | c :: r, k, m, h, h5 => by
    rw [endsGo]
    have e : (k + (c :: r).length : Nat) = (k + 1) + r.length := by simp; omega
    rw [e]
    split
    · rename_i hc
      have ih := endsGo_gap r (k + 1) 0 (by omega) (by omega)
      refine ⟨by omega, by omega, fun h0 => ?_, fun h0 => ?_, by simpa using ih⟩
      · have : r = [] := by
          rcases r with _ | ⟨d, r⟩
          · rfl
          · exact absurd h0 (endsGo_ne (by simp) _ _)
        subst this; simp
      · have hr : r ≠ [] := by intro e; subst e; simp [endsGo] at h0
        have : r.isEmpty = false := by simpa using hr
        rw [this, Bool.or_false] at hc
        unfold whole at hc
        simp only [decide_eq_true_eq] at hc
        omega
    · rename_i hc
      simp only [Bool.or_eq_true, not_or] at hc
      have hm : m + 1 ≠ 6 := by intro e; exact hc.1 (by rw [e]; exact whole_six _)
      have ih := endsGo_gap r (k + 1) (m + 1) (by omega) (by omega)
      have e2 : ((k + 1 : Nat) : Int) - (m + 1 : Nat) = (k : Int) - m := by omega
      rwa [e2] at ih
theorem gap_at : ∀ {l : List Int} {a b : Int} {k : Nat}, Gap a b l → k < l.length →
    l.getD k 0 ≤ (if k = 0 then a else l.getD (k - 1) 0) + 6 ∧ (k + 1 < l.length → (if k = 0 then a else l.getD (k - 1) 0) + 2 ≤ l.getD k 0) ∧ (k + 1 = l.length → l.getD k 0 = b)
  | [], a, b, k, h, hk => by simp at hk
  | e :: r, a, b, 0, h, hk => by
    refine ⟨by simpa using h.2.1, fun h1 => ?_, fun h1 => ?_⟩
    · have := h.2.2.2.1 (by intro e; subst e; simp at h1); simpa using this
    · have := h.2.2.1 (by cases r with | nil => rfl | cons d r => simp at h1); simpa using this
  | e :: r, a, b, k + 1, h, hk => by
    have ih := gap_at h.2.2.2.2 (k := k) (by simpa using hk)
    cases k with
    | zero => simp at ih ⊢; exact ⟨ih.1, fun h => ih.2.1 (by omega), fun h => ih.2.2 (by omega)⟩
    | succ k => simp at ih ⊢; exact ⟨ih.1, fun h => ih.2.1 (by omega), fun h => ih.2.2 (by omega)⟩
theorem ends_gap {s : ByteArray} {k : Nat} (hk : k < (endsB s).length) : (endsB s).getD k 0 ≤ fromI (endsB s) k + 6 ∧ (k + 1 < (endsB s).length → fromI (endsB s) k + 2 ≤ (endsB s).getD k 0) ∧ (k + 1 = (endsB s).length → (endsB s).getD k 0 = s.size) := by
  have ht : textB s = true := by
    cases ht : textB s
    · rw [endsB_no ht] at hk; simp at hk
    · rfl
  have h := endsGo_gap s.data.toList 0 0 (by omega) (by omega)
  rw [Nat.zero_add, len_eq, ← endsB_yes ht] at h
  simp only [Int.natCast_zero, Int.sub_zero] at h
  exact gap_at h hk
theorem ends_last {s : ByteArray} {n : Nat} (hl : (endsB s).length = n) (h0 : n ≠ 0) : fromI (endsB s) n = s.size := by
  obtain ⟨m, rfl⟩ : ∃ m, n = m + 1 := ⟨n - 1, by omega⟩
  rw [fromI_succ]
  exact (ends_gap (by omega)).2.2 (by omega)
theorem fnChunkEnds_any (x : Option Addr) (n cap : Nat) (w : World) (h : Bytes w.heap.size w x n) (hn : n ≤ cap) (hc : cap ≤ maxLen) :
    Calls Try.prog 3 #[.slice x n cap] w fun e w' => e = .returned (.bool true) ∧ Below w.heap.size w w' := by
  by_cases hlong : 1048576 < (n : Int)
  · go_enter Try.func3, Try.ntmps3
    go_wp2
    go_ret
    exact ⟨rfl, Below.refl _ _⟩
  · have HB0 := Lib.hid h
    have HC := Lib.hid hc
    have HL := Lib.hid hn
    clear h hc hn
    go_enter Try.func3, Try.ntmps3
    go_wp2_with fail
    refine (drawChunkEnds_any x n cap w HB0.out HL.out HC.out).mono ?_
    rintro e w1 ⟨s, rfl, hs, hb⟩
    have HB := Lib.hid hb; clear hb
    have hsl : s.size ≤ maxLen := by unfold maxLen; omega
    go_wp2_with fail
    refine (chunkEnds_any s _ hsl).mono ?_
    rintro e w2 ⟨v, rfl, ho, hb⟩
    obtain ⟨y, m, c, rfl, hi⟩ := ho.ints
    have HB2 := Lib.hid (HB.out.trans (hb.mono HB.out.size)); clear hb ho
    go_wp2_with fail
    refine (specChunkEnds_any s _ hsl).mono ?_
    rintro e w3 ⟨v, rfl, ho, hb⟩
    obtain ⟨y3, m3, c3, rfl, hi3⟩ := ho.ints
    have HB3 := Lib.hid (HB2.out.trans (hb.mono HB2.out.size))
    have hi2 := (hi.below hb (Nat.le_refl _)).more hb.size
    clear hb ho hi
    go_wp2_with fail
    refine (sameInts_any _ _ _ _ _ _ _ _ _ _ hi2 hi3).mono ?_
    rintro e w4 ⟨rfl, q, rfl⟩
    have HI := Lib.hid (hi2.keep (w' := w3.drewN q) fun _ _ => rfl)
    have HB4 := Lib.hid (below_drewN HB3.out q)
    have HLEN := Lib.hid hi2.len
    have hm60 : m ≤ 60 := by have := HLEN.out; have := endsB_len s; omega
    clear hi2 hi3
    by_cases hm : m = 0
    · have hm0 : ((m : Int) == 0) = true := by simp; omega
      clear hm
      go_wp2_with (go_at_call 15; refine (alive_any _).mono ?_; rintro e w' ⟨rfl, rfl⟩)
      go_ret
      exact ⟨ret_bool (by first | rfl | simp), HB4.out⟩
    · have hm0 : ((m : Int) == 0) = false := by simp; omega
      have HF := Lib.hid (ends_last HLEN.out hm)
      clear hm
      go_wp2_with fail
      go_loopw [5, 6] (fun f i wr => ∃ k : Nat, k ≤ m ∧ i = .int .i64 k ∧ f = .int .i64 (fromI (endsB s) k) ∧ wr = w3.drewN q) (fun _ i _ => m - (intOf i).toNat)
      case atStart => exact ⟨0, by omega, rfl, rfl, rfl⟩
      case round =>
        obtain ⟨k, hk, rfl, rfl, rfl⟩ := hrel
        by_cases hlt : k < m
        · obtain ⟨a, b, ha, hb, hab, hbs, _, h60⟩ := ends_nat (s := s) (k := k) (by have := HLEN.out; omega)
          have hg := ends_gap (s := s) (k := k) (by have := HLEN.out; omega)
          have hb' : (endsB s).getD k 0 = b := hb
          rw [ha, hb', HLEN.out] at hg
          obtain ⟨hg1, hg2, _⟩ := hg
          obtain ⟨b0, off, rfl, hb0, hcell⟩ := HI.out.at hlt
          have HS := Lib.hid (show fromI (endsB s) (k + 1) = b by rw [fromI_succ]; exact hb)
          rw [hb] at hcell
          rw [ha]
          clear ha hb hb'
          by_cases hl1 : (k : Int) + 1 < (m : Int)
          · have hg3 := hg2 (by omega)
            clear hg2
            go_wp2
            go_roundw
            case rel => exact ⟨k + 1, by omega, by go_num, by rw [HS.out], by first | rfl | trivial⟩
            case measure => simp [intOf]; omega
          · clear hg2
            go_wp2
            go_roundw
            case rel => exact ⟨k + 1, by omega, by go_num, by rw [HS.out], by first | rfl | trivial⟩
            case measure => simp [intOf]; omega
        · obtain rfl : k = m := by omega
          rw [HF.out]
          go_wp2
          go_ret
          exact ⟨ret_bool (by first | rfl | simp), HB4.out⟩
/-! ### the chunks joined are the text -/
theorem extract_join (s : ByteArray) (a b c : Nat) (h : a ≤ b) (h' : b ≤ c) : s.extract a b ++ s.extract b c = s.extract a c := by
  rw [ByteArray.extract_append_extract]
  congr 1 <;> omega
theorem pieces_join (s : ByteArray) : ∀ (l : List Int) (a : Int), 0 ≤ a → Asc a s.size l → Gap a s.size l → joinB (piecesB s a l) = if l = [] then ByteArray.empty else s.extract a.toNat s.size
  | [], a, h0, ha, hg => rfl
  | e :: r, a, h0, ha, hg => by
    rw [piecesB, joinB_cons, pieces_join s r e (by have := ha.1; omega) ha.2 hg.2.2.2.2, if_neg (show ¬ e :: r = [] by simp)]
    have h1 := ha.1
    have h2 := ha.2.le
    by_cases hr : r = []
    · have := hg.2.2.1 hr
      rw [if_pos hr, ByteArray.append_empty]
      congr 1
      omega
    · rw [if_neg hr, extract_join s _ _ _ (by omega) (by omega)]
theorem chunks_join {s : ByteArray} (h : textB s = true) : joinB (chunksB s) = s := by
  have hg := endsGo_gap s.data.toList 0 0 (by omega) (by omega)
  rw [Nat.zero_add, len_eq, ← endsB_yes h] at hg
  simp only [Int.natCast_zero, Int.sub_zero] at hg
  unfold chunksB
  rw [pieces_join s _ 0 (by omega) (endsB_asc s) hg]
  split
  · rename_i he
    have : s.data.toList = [] := by
      rw [endsB_yes h] at he
      by_cases hne : s.data.toList = []
      · exact hne
      · exact absurd he (endsGo_ne hne _ _)
    have h0 : s.size = 0 := by rw [← len_eq, this]; rfl
    exact (size_nil h0).symm
  · show s.extract 0 s.size = s
    exact ByteArray.extract_zero_size
theorem chunks_joined {s : ByteArray} (h : textB s = true) : joinedB (chunksB s) = s ∧ joinOkB (chunksB s) = true := by
  unfold joinedB joinOkB
  rw [chunks_join h, h]
  exact ⟨rfl, rfl⟩
end Go.Proofs.Ytefcmpbjfcpdeaa
