/-
  Contracts of the laws' helpers on lists of numbers.
-/
import Derived.Test.YtlbebbkkpjgboaaMem
import Derived.Test.YtlbebbkkpjgboaaWords
namespace Go.Proofs.Ytlbebbkkpjgboaa
open Go.RowKit
set_option linter.unusedVariables false
/-- A new row of numbers is handed back. -/
def NewI (l : List Int) (w : World) (e : Ending) (w' : World) : Prop := ∃ v, e = .returned v ∧ OwnI w' w.heap.size v l ∧ Below w.heap.size w w'
theorem fillI {l : List Int} {k : Nat} (h : k < l.length) : (l.take k ++ List.replicate (l.length - k) 0).set k (nthI l k) = l.take (k + 1) ++ List.replicate (l.length - (k + 1)) 0 := by
  rw [List.set_append, if_neg (by simp; omega), List.length_take, Nat.min_eq_left (by omega), Nat.sub_self, show l.length - k = (l.length - (k + 1)) + 1 by omega, List.replicate_succ, List.set_cons_zero, nthI_get h, List.take_succ_eq_append_getElem h, List.append_assoc]
  rfl
theorem toIntS_any (x : Option Addr) (n cap : Nat) (l : List Int) (w : World) (h : Ints w w.heap.size x n cap l) (hn : n ≤ 1048576) : Calls Try.prog 25 #[.slice x n cap] w (NewI l w) := by
  have HL := Lib.hid h.len
  have hmx := h.max
  have hle := h.le
  unfold maxLen at hmx
  have hmk := run_mk eltInt n (by omega)
  have HO := Lib.hid (own_mkI w n (by omega) (Nat.le_refl _))
  go_enter Try.func25, Try.ntmps25
  go_wp2
  clear hmk
  go_loopw [4] (fun i wr => ∃ k : Nat, k ≤ n ∧ i = .int .i64 k ∧ wr.ownsRow w.heap.size 3 1 (.slice (some ⟨w.heap.size, 0, none⟩) n n) n ((l.take k ++ List.replicate (n - k) 0).map (Value.int .i64)) ∧ Below w.heap.size w wr) (fun i _ => n - (intOf i).toNat)
  case atStart =>
    refine ⟨0, by omega, rfl, ?_, (Below.refl _ _).alloc (Nat.le_refl _) _⟩
    rw [List.take_zero, List.nil_append, Nat.sub_zero]
    exact HO.out
  case round =>
    obtain ⟨k, hk, rfl, ho, hb⟩ := hrel
    have HB := Lib.hid hb; clear hb
    have HW := Lib.hid ho; clear ho
    by_cases hlt : k < n
    · obtain ⟨b, off, rfl, hb, hcell⟩ := (h.below HB.out (Nat.le_refl _)).at hlt
      have hf := HW.out.frozenAt k
      have hz := HW.out.cellAt k (by omega)
      have hlen : ((l.take k ++ List.replicate (n - k) 0).map (Value.int .i64)).length = n := by have := HL.out; simp; omega
      rw [List.getElem?_eq_getElem (by omega)] at hz
      generalize ((l.take k ++ List.replicate (n - k) 0).map (Value.int .i64))[k]'(by omega) = z at hz
      clear hlen
      go_wp2
      go_roundw
      case rel =>
        refine ⟨k + 1, by omega, by go_num, ?_, HB.out.setCell (p := ⟨w.heap.size, k, none⟩) (Nat.le_refl _) _⟩
        have h1 := (HW.out.stored k (.int .i64 (nthI l k))).1
        rw [← List.map_set] at h1
        have := HL.out
        subst this
        rw [fillI hlt] at h1
        exact h1
      case measure => simp [intOf]; omega
    · go_wp2
      go_ret
      refine ⟨_, rfl, ?_, HB.out⟩
      have h1 := HW.out
      have := HL.out
      have hkn : k = n := by omega
      subst hkn
      rw [List.take_of_length_le (by omega), Nat.sub_self] at h1
      simp only [List.replicate_zero, List.append_nil] at h1
      unfold OwnI
      rw [this]
      exact h1
/-- A bool is handed back; nothing but draws. -/
def QuietB (b : Bool) (w : World) (e : Ending) (w' : World) : Prop := e = .returned (.bool b) ∧ ∃ m, w' = w.drewN m
theorem QuietB.below {b : Bool} {w w' : World} {e : Ending} (h : QuietB b w e w') : Below w.heap.size w w' := by obtain ⟨_, m, rfl⟩ := h; exact below_drewN (Below.refl _ _) m
theorem take_eq_step {l l' : List Int} {k : Nat} (h : k < l.length) (h' : k < l'.length) (he : l.take k = l'.take k) (hx : nthI l k = nthI l' k) : l.take (k + 1) = l'.take (k + 1) := by
  rw [List.take_succ_eq_append_getElem h, List.take_succ_eq_append_getElem h', he, ← nthI_get h, ← nthI_get h', hx]
theorem ne_at {l l' : List Int} {k : Nat} (hx : nthI l k ≠ nthI l' k) : l ≠ l' := fun h => hx (by rw [h])
theorem eqIntS_any (x y : Option Addr) (n m c d : Nat) (l l' : List Int) (B : Nat) (w : World) (h : Ints w B x n c l) (h' : Ints w B y m d l') : Calls Try.prog 26 #[.slice x n c, .slice y m d] w (QuietB (decide (l = l')) w) := by
  have HL := Lib.hid h.len
  have HL' := Lib.hid h'.len
  have hmx := h.max
  have hle := h.le
  have hmx' := h'.max
  have hle' := h'.le
  unfold maxLen at hmx hmx'
  by_cases hnm : n = m
  · subst hnm
    go_enter Try.func26, Try.ntmps26
    go_wp2
    go_loopw [5] (fun i wr => ∃ k : Nat, k ≤ n ∧ i = .int .i64 k ∧ l.take k = l'.take k ∧ ∃ q, wr = w.drewN q) (fun i _ => n - (intOf i).toNat)
    case atStart => exact ⟨0, by omega, rfl, rfl, 0, rfl⟩
    case round =>
      obtain ⟨k, hk, rfl, he, q, rfl⟩ := hrel
      have HE := Lib.hid he; clear he
      by_cases hlt : k < n
      · obtain ⟨b, off, rfl, hb, hcell⟩ := h.at hlt
        obtain ⟨b', off', rfl, hb', hcell'⟩ := h'.at hlt
        by_cases hx : nthI l k = nthI l' k
        · have HX := Lib.hid hx
          have hd : (decide (nthI l k = nthI l' k)) = true := by simpa using hx
          go_wp2
          go_quiet (fail)
          go_wp2
          go_roundw
          case rel => exact ⟨k + 1, by omega, by go_num, take_eq_step (by have := HL.out; omega) (by have := HL'.out; omega) HE.out HX.out, _, by first | rfl | rw [World.drewN_drewN]⟩
          case measure => simp [intOf]; omega
        · have HX := Lib.hid (ne_at hx)
          go_wp2
          go_quiet (fail)
          go_wp2
          go_ret
          exact ⟨ret_bool (by simpa using HX.out), _, by first | rfl | rw [World.drewN_drewN]⟩
      · go_wp2
        go_ret
        have h1 := HE.out
        rw [List.take_of_length_le (by have := HL.out; omega), List.take_of_length_le (by have := HL'.out; omega)] at h1
        exact ⟨ret_bool (by simpa using h1), _, rfl⟩
  · have HX := Lib.hid (show l ≠ l' from fun e => hnm (by rw [← HL.out, ← HL'.out, e]))
    go_enter Try.func26, Try.ntmps26
    go_wp2
    go_ret
    exact ⟨ret_bool (by simpa using HX.out), 0, rfl⟩
end Go.Proofs.Ytlbebbkkpjgboaa
