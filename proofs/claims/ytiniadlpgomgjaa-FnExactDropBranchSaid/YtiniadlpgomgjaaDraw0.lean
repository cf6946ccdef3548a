/-
  The reader of drawn codes: what is known of it, and the contracts of its opening and of its picks.
-/
import Derived.Test.YtiniadlpgomgjaaWords
import Derived.Test.YtiniadlpgomgjaaMem
import Derived.WalkSpells
import Derived.Deep.QuietTactic
import Derived.BigQuiet
import Derived.Laws.Bits64
import Derived.Deep.RegionWith
namespace Go.Proofs.Ytiniadlpgomgjaa
open Go.RowKit
set_option linter.unusedVariables false
/-- The bytes of a slice that came in can be read. -/
def Bytes (B : Nat) (w : World) (x : Option Addr) (n : Nat) : Prop :=
  ∀ i, i < n → ∃ b off z, x = some ⟨b, off, none⟩ ∧ b < B ∧ w.cell? ⟨b, off + i, none⟩ = some (.int .u8 z) ∧ 0 ≤ z ∧ z ≤ 255
/-- The reader in block r: its bytes lie below B, it has picked at most c times. -/
def Rd (B : Nat) (w : World) (r c : Nat) : Prop :=
  ∃ x n cap p, w.heap[r]? = some (.cells #[.slice x n cap, .int .i64 p] 67 (0, 0)) ∧ B ≤ r ∧ 0 ≤ p ∧ p ≤ (c : Int) ∧ n ≤ 2000 ∧ Bytes B w x n
theorem Bytes.keep {B : Nat} {w w' : World} {x : Option Addr} {n : Nat} (h : Bytes B w x n) (hk : ∀ k, k < B → w'.heap[k]? = w.heap[k]?) : Bytes B w' x n := by
  intro i hi
  obtain ⟨b, off, z, h1, h2, h3, h4⟩ := h i hi
  exact ⟨b, off, z, h1, h2, (World.cell?_of_block (w := w) (w' := w') (a := ⟨b, off + i, none⟩) (hk b h2)).trans h3, h4⟩
theorem Rd.keep {B r c : Nat} {w w' : World} (h : Rd B w r c) (hk : ∀ k, k < B → w'.heap[k]? = w.heap[k]?) (hr : w'.heap[r]? = w.heap[r]?) : Rd B w' r c := by
  obtain ⟨x, n, cap, p, h1, h2, h3, h4, h5, h6⟩ := h
  exact ⟨x, n, cap, p, hr.trans h1, h2, h3, h4, h5, h6.keep hk⟩
theorem Rd.lt {B r c : Nat} {w : World} (h : Rd B w r c) : r < w.heap.size := by
  obtain ⟨x, n, cap, p, h1, _⟩ := h
  exact (Array.getElem?_eq_some_iff.1 h1).1
theorem Rd.le {B r c : Nat} {w : World} (h : Rd B w r c) : B ≤ r := h.choose_spec.choose_spec.choose_spec.choose_spec.2.1
theorem Rd.more {B r c c' : Nat} {w : World} (h : Rd B w r c) (hc : c ≤ c') : Rd B w r c' := by
  obtain ⟨x, n, cap, p, h1, h2, h3, h4, h5, h6⟩ := h
  exact ⟨x, n, cap, p, h1, h2, h3, by omega, h5, h6⟩
/-- Behind a call that writes nothing that was there. -/
theorem Rd.below {B r c : Nat} {w w' : World} (h : Rd B w r c) (hb : Below w.heap.size w w') : Rd B w' r c :=
  h.keep (fun k hk => hb.block k (by have := h.lt; have := h.le; omega)) (hb.block r h.lt)
theorem Rd.grown {B r c : Nat} {w w' : World} {row : Option Nat} (h : Rd B w r c) (hg : w.grownBy w' row) (hr : ∀ k, row = some k → B ≤ k ∧ k ≠ r) : Rd B w' r c :=
  h.keep (fun k hk => hg.block k (by have := h.lt; have := h.le; omega) (fun e => by have := (hr k e.symm).1; omega)) (hg.block r h.lt (fun e => (hr r e.symm).2 rfl))
theorem grownBy_trans {a b c : World} {r : Option Nat} (h : a.grownBy b r) (k : b.grownBy c r) : a.grownBy c r :=
  ⟨k.os.trans h.os, k.tape.trans h.tape, k.output.trans h.output, Nat.le_trans h.size k.size, fun i hi hr => (k.block i (Nat.lt_of_lt_of_le hi h.size) hr).trans (h.block i hi hr)⟩
theorem grownBy_refl (a : World) (r : Option Nat) : a.grownBy a r := ⟨rfl, rfl, rfl, Nat.le_refl _, fun _ _ _ => rfl⟩
theorem below_grownBy {B r : Nat} {a b : World} (h : a.grownBy b (some r)) (hB : B ≤ a.heap.size) (hr : B ≤ r) : Below B a b :=
  ⟨h.os, h.tape, h.output, h.size, fun k hk => h.block k (by omega) (fun e => by simp at e; omega)⟩
theorem grownBy_drewN {a b : World} {r : Option Nat} (h : a.grownBy b r) (n : Nat) : a.grownBy (b.drewN n) r := ⟨h.os, h.tape, h.output, h.size, h.block⟩
theorem xor_nonneg (a b : Nat) (ha : a < 9223372036854775808) (hb : b < 9223372036854775808) : 0 ≤ bits .xor .i64 (a : Int) (b : Int) := by
  have hx : a ^^^ b < 2 ^ 63 := Nat.xor_lt_two_pow (by omega) (by omega)
  have h1 : (BitVec.ofInt 64 (a : Int)).toNat = a := by
    rw [BitVec.ofInt_natCast, BitVec.toNat_ofNat]; exact Nat.mod_eq_of_lt (by omega)
  have h2 : (BitVec.ofInt 64 (b : Int)).toNat = b := by
    rw [BitVec.ofInt_natCast, BitVec.toNat_ofNat]; exact Nat.mod_eq_of_lt (by omega)
  show 0 ≤ IntKind.i64.wrap ((BitVec.ofInt 64 (a : Int) ^^^ BitVec.ofInt 64 (b : Int)).toNat : Int)
  rw [BitVec.toNat_xor, h1, h2, IntKind.wrap_i64]
  omega
theorem two_cells {w : World} {r : Nat} {u v : Value} {t : TypeId} (h : w.heap[r]? = some (.cells #[u, v] t (0, 0))) :
    w.cell? ⟨r, 0, none⟩ = some u ∧ w.cell? ⟨r, 1, none⟩ = some v ∧ w.frozen? ⟨r, 1, none⟩ = false := by
  refine ⟨?_, ?_, ?_⟩ <;> simp [World.cell?, World.frozen?, h]
theorem open_any (x : Option Addr) (n cap : Nat) (w : World) (h : Bytes w.heap.size w x n) (hn : n ≤ cap) (hc : cap ≤ maxLen) :
    Calls Try.prog 32 #[.slice x n cap] w fun e w' => e = .returned (.pointer (some ⟨w.heap.size, 0, none⟩)) ∧ Rd w.heap.size w' w.heap.size 0 ∧ Below w.heap.size w w' := by
  unfold maxLen at hc
  by_cases h2 : 2000 < n
  · go_enter Try.func32, Try.ntmps32
    go_wp2
    go_ret
    exact ⟨rfl, ⟨x, 2000, cap, 0, heap_alloc_new _ _, Nat.le_refl _, by omega, by omega, by omega, fun i hi => (h.keep fun k hk => Below.heap_alloc _ _ _ hk) i (by omega)⟩, (Below.refl _ _).alloc (Nat.le_refl _) _⟩
  · go_enter Try.func32, Try.ntmps32
    go_wp2
    go_ret
    exact ⟨rfl, ⟨x, n, cap, 0, heap_alloc_new _ _, Nat.le_refl _, by omega, by omega, by omega, h.keep fun k hk => Below.heap_alloc _ _ _ hk⟩, (Below.refl _ _).alloc (Nat.le_refl _) _⟩
theorem rd_set {B r c : Nat} {w : World} {x : Option Addr} {m cap : Nat} {p : Int} (h1 : w.heap[r]? = some (.cells #[.slice x m cap, .int .i64 p] 67 (0, 0))) (h2 : B ≤ r) (h3 : 0 ≤ p) (h4 : p ≤ (c : Int)) (h5 : m ≤ 2000) (h6 : Bytes B w x m) :
    Rd B (w.setCell ⟨r, 1, none⟩ (.int .i64 (p + 1))) r (c + 1) ∧ w.grownBy (w.setCell ⟨r, 1, none⟩ (.int .i64 (p + 1))) (some r) := by
  refine ⟨⟨x, m, cap, p + 1, ?_, h2, by omega, by omega, h5, h6.keep fun k hk => Below.heap_setCell _ _ _ _ (by simp; omega)⟩, rfl, rfl, rfl, by simp [World.setCell], fun k _ hk => Below.heap_setCell _ _ _ _ (by simpa using hk)⟩
  simp [World.setCell, Array.getElem?_modify, h1]
/-- What a pick leaves. -/
def Picked (B r c : Nat) (n : Int) (w : World) (e : Ending) (w' : World) : Prop :=
  ∃ k : Int, e = .returned (.int .i64 k) ∧ (0 ≤ k ∧ (1 ≤ n → k < n) ∧ (n < 1 → k = 0)) ∧ Rd B w' r (c + 1) ∧ w.grownBy w' (some r)
theorem picked_mk {B r c : Nat} {n k : Int} {w w1 : World} (h : Rd B w1 r (c + 1) ∧ w.grownBy w1 (some r)) (h0 : 0 ≤ k) (h1 : 1 ≤ n → k < n) (h2 : n < 1 → k = 0) : Picked B r c n w (.returned (.int .i64 k)) w1 := ⟨k, rfl, ⟨h0, h1, h2⟩, h⟩
theorem picked_drew {B r c : Nat} {n k : Int} {w w1 : World} (d : Nat) (h : Rd B w1 r (c + 1) ∧ w.grownBy w1 (some r)) (h0 : 0 ≤ k) (h1 : 1 ≤ n → k < n) (h2 : n < 1 → k = 0) : Picked B r c n w (.returned (.int .i64 k)) (w1.drewN d) :=
  ⟨k, rfl, ⟨h0, h1, h2⟩, h.1.keep (fun _ _ => rfl) rfl, grownBy_drewN h.2 d⟩
theorem mix_bd (X n : Int) (h : 0 ≤ X) (h1 : X ≤ 1000000000000) (hn : 1 ≤ n) : 0 ≤ bits .xor .i64 X (X / 64) ∧ 0 ≤ (bits .xor .i64 X (X / 64)) % n ∧ (bits .xor .i64 X (X / 64)) % n < n := by
  have h2 := xor_nonneg X.toNat (X.toNat / 64) (by omega) (by omega)
  have e1 : (X.toNat : Int) = X := by omega
  have e2 : ((X.toNat / 64 : Nat) : Int) = X / 64 := by omega
  rw [e1, e2] at h2
  exact ⟨h2, Int.emod_nonneg _ (by omega), Int.emod_lt_of_pos _ (by omega)⟩
theorem picked_mix {B r c : Nat} {n X : Int} {w w1 : World} {d : Nat} (h : Rd B w1 r (c + 1) ∧ w.grownBy w1 (some r)) (h0 : 0 ≤ X) (h1 : X ≤ 1000000000000) (hn : 1 ≤ n) :
    Picked B r c n w (.returned (.int .i64 ((bits .xor .i64 X (X / 64)).tmod n))) (w1.drewN d) := by
  obtain ⟨m1, m2, m3⟩ := mix_bd X n h0 h1 hn
  rw [Int.tmod_eq_emod_of_nonneg m1]
  exact picked_drew d h m2 (fun _ => m3) (fun h => by omega)
set_option maxHeartbeats 1000000 in
theorem pick_any (B r c : Nat) (n : Int) (w : World) (h : Rd B w r c) (hc : c ≤ 1000000) (hn : n ≤ 1000000) :
    Calls Try.prog 39 #[.pointer (some ⟨r, 0, none⟩), .int .i64 n] w (Picked B r c n w) := by
  obtain ⟨x, m, cap, p, h1, h2, h3, h4, h5, h6⟩ := h
  obtain ⟨c0, c1, f1⟩ := two_cells h1
  have HP := Lib.hid (rd_set h1 h2 h3 h4 h5 h6); clear h1
  obtain ⟨q, rfl⟩ : ∃ q : Nat, p = q := ⟨p.toNat, by omega⟩
  by_cases hn1 : n < 1
  · go_enter Try.func39, Try.ntmps39
    go_wp2
    go_ret
    exact picked_mk HP.out (by omega) (fun h => by omega) (fun _ => rfl)
  by_cases hm : m = 0
  · subst hm
    go_enter Try.func39, Try.ntmps39
    go_wp2
    go_ret
    exact picked_mk HP.out (by omega) (fun h => by omega) (fun _ => rfl)
  have hm0 : ((m : Int) == 0) = false := by simp; omega
  by_cases hq : q < m
  · obtain ⟨b, off, z, rfl, hb, hz, z0, z1⟩ := h6 q hq
    have hbr : b ≠ r := by omega
    clear h6
    go_enter Try.func39, Try.ntmps39
    go_wp2
    go_ret
    exact picked_mk HP.out (Int.emod_nonneg _ (by omega)) (fun _ => Int.emod_lt_of_pos _ (by omega)) (fun h => by omega)
  · have hm1 : 0 < m := by omega
    obtain ⟨b, off, z, rfl, hb, hz, z0, z1⟩ := h6 (q % m) (Nat.mod_lt _ hm1)
    obtain ⟨b', off', z', he, hb', hz', z0', z1'⟩ := h6 ((q * 7 + 3) % m) (Nat.mod_lt _ hm1)
    simp only [Option.some.injEq, Addr.mk.injEq, and_true] at he
    obtain ⟨rfl, rfl⟩ := he
    have hbr : b ≠ r := by omega
    clear h6
    have hqd : (0 : Int) ≤ (q : Int) / (m : Int) ∧ (q : Int) / (m : Int) ≤ (q : Int) := ⟨Int.ediv_nonneg (by omega) (by omega), Int.ediv_le_self _ (by omega)⟩
    obtain ⟨hqd0, hqd1⟩ := hqd
    have hk1 : (0 : Int) ≤ (q : Int) % (m : Int) ∧ (q : Int) % (m : Int) < (m : Int) := ⟨Int.emod_nonneg _ (by omega), Int.emod_lt_of_pos _ (by omega)⟩
    obtain ⟨hk1, hk2⟩ := hk1
    have hk3 : (0 : Int) ≤ ((q : Int) * 7 + 3) % (m : Int) ∧ ((q : Int) * 7 + 3) % (m : Int) < (m : Int) := ⟨Int.emod_nonneg _ (by omega), Int.emod_lt_of_pos _ (by omega)⟩
    obtain ⟨hk3, hk4⟩ := hk3
    go_enter Try.func39, Try.ntmps39
    go_wp2
    go_quiet (fail)
    go_wp2
    go_ret
    exact picked_mix HP.out (by omega) (by omega) hn1
/-- What 'odd' leaves: a bool; false where n is less than 1. -/
def Odd (B r c : Nat) (n : Int) (w : World) (e : Ending) (w' : World) : Prop :=
  ∃ b : Bool, e = .returned (.bool b) ∧ (n < 1 → b = false) ∧ (n = 1 → b = true) ∧ Rd B w' r (c + 1) ∧ w.grownBy w' (some r)
theorem odd_mk {B r c : Nat} {n k : Int} {w w1 : World} (hn : 1 ≤ n) (hk : 0 ≤ k ∧ (1 ≤ n → k < n) ∧ (n < 1 → k = 0)) (h : Rd B w1 r (c + 1)) (hg : w.grownBy w1 (some r)) : Odd B r c n w (.returned (.bool (k == n - 1))) w1 :=
  ⟨_, rfl, fun h => by omega, fun h1 => by have := hk.2.1 hn; simp; omega, h, hg⟩
theorem odd_any (B r c : Nat) (n : Int) (w : World) (h : Rd B w r c) (hc : c ≤ 1000000) (hn : n ≤ 1000000) :
    Calls Try.prog 47 #[.pointer (some ⟨r, 0, none⟩), .int .i64 n] w (Odd B r c n w) := by
  have H := Lib.hid h; clear h
  by_cases h0 : 0 < n
  · have h1 : 1 ≤ n := by omega
    have H1 := Lib.hid h1
    go_enter Try.func47, Try.ntmps47
    go_wp2_with (go_at_call 39; refine (pick_any B r c _ _ H.out hc hn).mono ?_; rintro e w' ⟨k, rfl, hk, hr, hg⟩; have HK := Lib.hid hk; have HR := Lib.hid hr; have HG := Lib.hid hg; clear hk hr hg)
    go_ret
    exact odd_mk H1.out HK.out HR.out HG.out
  · go_enter Try.func47, Try.ntmps47
    go_wp2
    go_ret
    exact ⟨false, rfl, fun _ => rfl, fun h => by omega, H.out.more (by omega), grownBy_refl _ _⟩
end Go.Proofs.Ytiniadlpgomgjaa
/-
  Contracts of the draws of chapter 1.
-/
namespace Go.Proofs.Ytiniadlpgomgjaa
open Go.RowKit
set_option linter.unusedVariables false
theorem str_cell {w w2 : World} {r t : Nat} (ss : List ByteArray) (cs : Array Value) (hcs : cs = (ss.map Value.string).toArray) (hg : (w.alloc (.cells cs t)).grownBy w2 (some r)) (hr : r < w.heap.size) (j : Nat) (hj : j < ss.length) :
    w2.cell? ⟨w.heap.size, j, none⟩ = some (.string (ss.getD j ByteArray.empty)) := by
  refine hg.cell (a := ⟨w.heap.size, j, none⟩) ?_ (by simp; omega)
  subst hcs
  have e := heap_alloc_new w (Obj.cells (ss.map Value.string).toArray t)
  unfold World.cell?
  rw [e]
  simp [hj]
theorem cell_new (w : World) (cs : Array Value) (t j : Nat) (v : Value) (h : cs[j]? = some v) : (w.alloc (.cells cs t)).cell? ⟨w.heap.size, j, none⟩ = some v := by
  have e := heap_alloc_new w (Obj.cells cs t)
  unfold World.cell?
  rw [e]
  simpa using h
theorem cell_alloc (w : World) (o : Obj) {a : Addr} {v : Value} (h : w.cell? a = some v) : (w.alloc o).cell? a = some v :=
  (World.grownBy_alloc w o none).cell h (by simp)
def words1 : List ByteArray := [⟨#[]⟩, ⟨#[49, 97]⟩, ⟨#[65]⟩, ⟨#[97, 32, 98]⟩, ⟨#[97, 98, 99, 100, 101, 102, 103, 104, 105]⟩]
def words2 : List ByteArray := [⟨#[97]⟩, ⟨#[98]⟩, ⟨#[99]⟩, ⟨#[114, 101, 100]⟩, ⟨#[120, 49]⟩]
/-- A drawn text is one of a list. -/
def StrIn (ss : List ByteArray) (B r c : Nat) (w : World) (e : Ending) (w' : World) : Prop :=
  ∃ s : ByteArray, e = .returned (.string s) ∧ s ∈ ss ∧ Rd B w' r c ∧ w.grownBy w' (some r)
theorem strIn_get {ss ss' : List ByteArray} {B r c : Nat} {w w' : World} {j : Nat} (hj : j < ss.length) (hs : ∀ s ∈ ss, s ∈ ss') (h : Rd B w' r c) (hg : w.grownBy w' (some r)) :
    StrIn ss' B r c w (.returned (.string (ss.getD j ByteArray.empty))) w' := by
  refine ⟨_, rfl, hs _ ?_, h, hg⟩
  rw [List.getD_eq_getElem?_getD, List.getElem?_eq_getElem hj]; simp
theorem rd_alloc {B r c : Nat} {w : World} (h : Rd B w r c) (o : Obj) : Rd B (w.alloc o) r c := h.below ((Below.refl _ _).alloc (Nat.le_refl _) _)
/-- A pick among the texts of a slice that was just made. -/
def PickedStr (ss : List ByteArray) (B r c : Nat) (w : World) (e : Ending) (w2 : World) : Prop :=
  ∃ j : Nat, e = .returned (.int .i64 j) ∧ j < ss.length ∧ w2.cell? ⟨w.heap.size, j, none⟩ = some (.string (ss.getD j ByteArray.empty)) ∧ Rd B w2 r (c + 1) ∧ w.grownBy w2 (some r)
theorem pickStr_any (ss : List ByteArray) (B r c : Nat) (n : Int) (cs : Array Value) (w : World) (h : Rd B w r c) (hcs : cs = (ss.map Value.string).toArray) (hn : n = ss.length) (hl : 1 ≤ ss.length) (hl2 : ss.length ≤ 1000) (hc : c ≤ 1000000) :
    Calls Try.prog 39 #[.pointer (some ⟨r, 0, none⟩), .int .i64 n] (w.alloc (.cells cs 9)) (PickedStr ss B r c w) := by
  refine (pick_any B r c n _ (rd_alloc h _) hc (by omega)).mono ?_
  rintro e w2 ⟨k, rfl, ⟨hk0, hk1, hk2⟩, hr, hg⟩
  obtain ⟨j, rfl⟩ := Int.eq_ofNat_of_zero_le hk0
  have hj : j < ss.length := by have := hk1 (by omega); omega
  exact ⟨j, rfl, hj, str_cell ss cs hcs hg h.lt j hj, hr, grownBy_trans (World.grownBy_alloc _ _ _) hg⟩
theorem l20Word_any (B r c : Nat) (n : Int) (w : World) (h : Rd B w r c) (hc : c ≤ 100000) (hn : n ≤ 1000000) :
    Calls Try.prog 38 #[.pointer (some ⟨r, 0, none⟩), .int .i64 n] w (StrIn (words1 ++ words2) B r (c + 2) w) := by
  have H := Lib.hid h; clear h
  go_enter Try.func38, Try.ntmps38
  go_wp2_with (first
    | (go_at_call 47; refine (odd_any B r c _ _ H.out (by omega) hn).mono ?_; rintro e w1 ⟨b, rfl, hb0, hb1, hr, hg⟩; have HR := Lib.hid hr; have HG := Lib.hid hg; clear hr hg hb0 hb1)
    | (go_at_call 39; (first | refine (pickStr_any words1 B r (c + 1) _ _ _ HR.out rfl rfl (by decide) (by decide) (by omega)).mono ?_ | refine (pickStr_any words2 B r (c + 1) _ _ _ HR.out rfl rfl (by decide) (by decide) (by omega)).mono ?_); rintro e w2 ⟨j, rfl, hj, hcell, hr, hg⟩; have HR2 := Lib.hid hr; have HG2 := Lib.hid hg; have HJ := Lib.hid hj; clear hr hg; simp only [words1, words2, List.length_cons, List.length_nil, Nat.zero_add, Nat.reduceAdd] at hj))
  · go_ret
    exact strIn_get HJ.out (fun s hs => List.mem_append_left _ hs) HR2.out (grownBy_trans HG.out HG2.out)
  · go_ret
    exact strIn_get HJ.out (fun s hs => List.mem_append_right _ hs) HR2.out (grownBy_trans HG.out HG2.out)
theorem alive_any (w : World) : Calls Try.prog 14 #[] w fun e w' => e = .returned (.bool true) ∧ w = w' := by
  have e1 : wordB ⟨#[97, 49]⟩ = true := by decide +kernel
  have e2 : wordB ⟨#[49, 97]⟩ = false := by decide +kernel
  go_enter Try.func14, Try.ntmps14
  go_wp2_with (go_at_call 35; refine (wordValid_any _ _ (by decide)).mono ?_; rintro e w' ⟨rfl, rfl⟩)
  go_ret
  exact ⟨rfl, rfl⟩
/-- A number that 'pick' hands back, with what stays known of the reader. -/
theorem pickN_any (N : Nat) (B r c : Nat) (n : Int) (w w0 : World) (h : Rd B w r c) (hg : w0.grownBy w (some r)) (hn : n = N) (hl : 1 ≤ N) (hl2 : N ≤ 1000000) (hc : c ≤ 1000000) :
    Calls Try.prog 39 #[.pointer (some ⟨r, 0, none⟩), .int .i64 n] w fun e w2 => ∃ j : Nat, e = .returned (.int .i64 j) ∧ j < N ∧ Rd B w2 r (c + 1) ∧ w.grownBy w2 (some r) ∧ w0.grownBy w2 (some r) := by
  refine (pick_any B r c n _ h hc (by omega)).mono ?_
  rintro e w2 ⟨k, rfl, ⟨hk0, hk1, hk2⟩, hr, hg2⟩
  obtain ⟨j, rfl⟩ := Int.eq_ofNat_of_zero_le hk0
  exact ⟨j, rfl, by have := hk1 (by omega); omega, hr, hg2, grownBy_trans hg hg2⟩
end Go.Proofs.Ytiniadlpgomgjaa
/-
  The draw of texts.
-/
namespace Go.Proofs.Ytiniadlpgomgjaa
open Go.RowKit
set_option linter.unusedVariables false
/-- Block b holds 61 zero bytes. -/
def HasZ (w : World) (b : Nat) : Prop := w.heap[b]? = some (.cells (Array.replicate 61 (.int .u8 0)) 5 (0, 0))
theorem HasZ.keep {w w' : World} {b r : Nat} (h : HasZ w b) (hg : w.grownBy w' (some r)) (hne : b ≠ r) : HasZ w' b :=
  (hg.block b (Array.getElem?_eq_some_iff.1 h).1 (by simp; omega)).trans h
end Go.Proofs.Ytiniadlpgomgjaa
