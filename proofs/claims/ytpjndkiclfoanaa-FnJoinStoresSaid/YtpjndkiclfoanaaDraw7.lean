/-
  Draws of chapter 4.
-/
import Derived.Test.YtpjndkiclfoanaaDraw6
import Derived.Test.YtpjndkiclfoanaaStores3
import Derived.Test.YtpjndkiclfoanaaDraw3
namespace Go.Proofs.Ytpjndkiclfoanaa
open Go.RowKit
set_option linter.unusedVariables false
/-- A drawn store, at the law. -/
def StoreOut (w : World) (e : Ending) (w' : World) : Prop :=
  ∃ (x : Option Addr) (n cap : Nat) (l : List Pc), e = .returned (.slice x n cap) ∧ Pcs w' w'.heap.size x n cap l ∧ FineS l ∧ Below w.heap.size w w'
theorem drawStoreValid_any (x : Option Addr) (n cap : Nat) (w : World) (h : Bytes w.heap.size w x n) (hn : n ≤ cap) (hc : cap ≤ maxLen) :
    Calls Try.prog 11 #[.slice x n cap] w (StoreOut w) := by
  go_enter Try.func11, Try.ntmps11
  go_wp2_with (first
    | (go_at_call 32; refine (open_any x n cap w h hn hc).mono ?_; rintro e w1 ⟨rfl, hr, hb⟩; have HR := Lib.hid hr; have HB := Lib.hid hb; clear hr hb)
    | (go_at_call 31; refine (l20Store_any w.heap.size w.heap.size 0 _ _ HR.out (by omega) (by omega)).mono ?_; rintro e w2 ⟨x2, n2, c2, l2, p2, rfl, hl, hf, hr, hg⟩; have HL := Lib.hid hl; have HF := Lib.hid hf; have HG := Lib.hid hg; clear hl hf hr hg))
  go_ret
  exact ⟨x2, n2, c2, l2, rfl, HL.out, HF.out, HB.out.trans (below_grownBy HG.out HB.out.size (Nat.le_refl _))⟩
def TwoStoresOut (w : World) (e : Ending) (w' : World) : Prop :=
  ∃ (x : Option Addr) (n cap : Nat) (l : List Pc) (x1 : Option Addr) (n1 cap1 : Nat) (l1 : List Pc), e = .returned (.tuple #[.slice x n cap, .slice x1 n1 cap1]) ∧ Pcs w' w'.heap.size x n cap l ∧ FineS l ∧ Pcs w' w'.heap.size x1 n1 cap1 l1 ∧ FineS l1 ∧ Below w.heap.size w w'
theorem drawJoinStores_any (x : Option Addr) (n cap : Nat) (w : World) (h : Bytes w.heap.size w x n) (hn : n ≤ cap) (hc : cap ≤ maxLen) :
    Calls Try.prog 23 #[.slice x n cap] w (TwoStoresOut w) := by
  go_enter Try.func23, Try.ntmps23
  go_wp2_with (first
    | (go_at_call 32; refine (open_any x n cap w h hn hc).mono ?_; rintro e w1 ⟨rfl, hr, hb⟩; have HR := Lib.hid hr; have HB := Lib.hid hb; clear hr hb))
  refine (l20Store_any w.heap.size w.heap.size 0 _ _ HR.out (by omega) (by omega)).mono ?_
  rintro e w2 ⟨x2, n2, c2, l2, p2, rfl, hl, hf, hr, hg⟩
  have HL := Lib.hid hl; have HF := Lib.hid hf; have HR2 := Lib.hid hr; have HG := Lib.hid hg; clear hl hf hr hg
  go_wp2_with fail
  refine (l20Store_any w.heap.size w.heap.size 60 _ _ HR2.out (by omega) (by omega)).mono ?_
  rintro e w3 ⟨x3, n3, c3, l3, p3, rfl, hl, hf, hr, hg⟩
  have HL2 := Lib.hid (Lst.more (Lst.rd_kept HL.out HR2.out hg (Nat.le_refl _)) hg.size)
  have HL3 := Lib.hid hl; have HF3 := Lib.hid hf; have HR3 := Lib.hid hr; have HG3 := Lib.hid (grownBy_trans HG.out hg); clear hl hf hr hg
  go_wp2_with fail
  go_ret2
  exact ⟨x2, n2, c2, l2, x3, n3, c3, l3, rfl, HL2.out, HF.out, HL3.out, HF3.out, HB.out.trans (below_grownBy HG3.out HB.out.size (Nat.le_refl _))⟩
end Go.Proofs.Ytpjndkiclfoanaa
