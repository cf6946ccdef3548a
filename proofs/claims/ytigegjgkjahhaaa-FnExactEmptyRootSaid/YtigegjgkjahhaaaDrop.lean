/-
  Chapter 10's model: a name is dropped.
-/
import Derived.Test.YtigegjgkjahhaaaSet
import Derived.Deep.CutBlock
namespace Go.Proofs.Ytigegjgkjahhaaa
open Go.RowKit
set_option linter.unusedVariables false
/-- The entries that are left of a folder. -/
def leftE (l : List Ent) (nm : ByteArray) (p : Int) : List Ent := if 0 ≤ p then (putE l (nm, p)).1 else (dropE l nm).1
def endB (l : List Pc) (r : List Ent) : List Pc × Int × Bool := if r = [] then (l, -1, true) else putB l (folderB r)
def dropB : List Pc → Int → List ByteArray → List Pc × Int × Bool
  | l, p, [] => (l, -1, false)
  | l, p, nm :: r =>
    if lastE nm (-1) (foldL (getT l p)) < 0 then (l, -1, false)
    else if r = [] then endB l (leftE (foldL (getT l p)) nm (-1))
    else if (dropB l (lastE nm (-1) (foldL (getT l p))) r).2.2 = false then (l, -1, false)
    else endB (dropB l (lastE nm (-1) (foldL (getT l p))) r).1 (leftE (foldL (getT l p)) nm (dropB l (lastE nm (-1) (foldL (getT l p))) r).2.1)
theorem end_short {m : Nat} (hm : 49 ≤ m) {l : List Pc} {r : List Ent} (h : Short m l) : Short m (endB l r).1 := by
  unfold endB
  split
  · exact h
  · exact put_short h (Nat.le_trans (folderB_size _) hm)
theorem drop_short {m : Nat} (hm : 49 ≤ m) : ∀ {ps : List ByteArray} {l : List Pc} {p : Int}, Short m l → Short m (dropB l p ps).1
  | [], l, p, h => h
  | nm :: r, l, p, h => by
    have ih := drop_short hm (ps := r) (p := lastE nm (-1) (foldL (getT l p))) h
    rw [dropB]
    split
    · exact h
    split
    · exact end_short hm h
    split
    · exact h
    · exact end_short hm ih
theorem drop_names {l : List Ent} {nm : ByteArray} {m : Nat} (hz : ∀ k, (nthE l k).1.size ≤ m) : ∀ k, (nthE (dropE l nm).1 k).1.size ≤ m := by
  unfold dropE
  split
  · exact nthE_all.2 fun q hq => nthE_all.1 hz q ((List.mem_filter.1 hq).1)
  · intro k; simp [nthE]
theorem foldL_no0 {s : ByteArray} (h : isFold s = false) : foldL s = [] := by unfold foldL; rw [h]; rfl
end Go.Proofs.Ytigegjgkjahhaaa
/-
  Chapter 10's model: writing and dropping at a path.
-/
namespace Go.Proofs.Ytigegjgkjahhaaa
open Go.RowKit
set_option linter.unusedVariables false
theorem specEmptyRoot_any (x : Option Addr) (n cap : Nat) (l : List Pc) (B : Nat) (w : World) (h : Pcs w B x n cap l) (hB : B ≤ w.heap.size) (hz : ∀ k, (nthP l k).2.size ≤ maxLen) : Calls Try.prog 5 #[.slice x n cap] w (RdPut (putB l (folderB [])) w) := by
  have hft : (folderB []).size ≤ maxLen := Nat.le_trans (folderB_size _) (by unfold maxLen; omega)
  have HLS := Lib.hid (h.alloc hB (.cells #[] 45))
  have HE := Lib.hid (OwnL.new enG 45 (size := 2) w)
  have HB0 := Lib.hid ((Below.refl w.heap.size w).alloc (Nat.le_refl _) (.cells #[] 45))
  go_enter Try.func5, Try.ntmps5
  go_wp2_with (first
    | (go_at_call 13; refine (specFolderText_any _ _ _ [] _ _ (OwnL.lst' HE.out) (fun k => by simp [nthE])).mono ?_; rintro e w1 ⟨rfl, q, rfl⟩)
    | (go_at_call 12; refine (specPutText_any x n cap l _ B _ (HLS.out.drewN _) (le_drewN (Nat.le_trans hB HB0.out.size)) hz hft).mono ?_; rintro e w2 ⟨v, rfl, ho, hb⟩; obtain ⟨x2, n2, c2, rfl, hlo⟩ := ho.lst; have HLO := Lib.hid hlo; have HB2 := Lib.hid ((below_drewN HB0.out _).trans (hb.mono (le_drewN HB0.out.size))); clear ho hb hlo))
  go_ret3
  exact ⟨_, _, _, rfl, HLO.out, HB2.out⟩
def writeB (l : List Pc) (root : Int) (path content : ByteArray) : List Pc × Int × Bool :=
  if (storeB l && isPath path && !decide (partsB path = []) && contentB content) = false then ([], -1, false)
  else if getO l root = false then (l, root, false)
  else if (setB (printB (fileB content)) l root (partsB path)).2.2 = false then (l, root, false)
  else if (putB (setB (printB (fileB content)) l root (partsB path)).1 (fileB content)).2.2 = false then (l, root, false)
  else ((putB (setB (printB (fileB content)) l root (partsB path)).1 (fileB content)).1, (setB (printB (fileB content)) l root (partsB path)).2.1, true)
def dropAtB (l : List Pc) (root : Int) (path : ByteArray) : List Pc × Int × Bool :=
  if (storeB l && isPath path && !decide (partsB path = [])) = false then ([], -1, false)
  else if (walkB l root (partsB path)).2 = false then (l, root, false)
  else if ((dropB l root (partsB path)).2.2 && decide ((dropB l root (partsB path)).2.1 < 0)) = true then
    (if (putB (dropB l root (partsB path)).1 (folderB [])).2.2 = false then (l, root, false) else ((putB (dropB l root (partsB path)).1 (folderB [])).1, (putB (dropB l root (partsB path)).1 (folderB [])).2.1, true))
  else if (dropB l root (partsB path)).2.2 = false then (l, root, false)
  else ((dropB l root (partsB path)).1, (dropB l root (partsB path)).2.1, true)
theorem nthS_all {l : List ByteArray} {m : Nat} (h : ∀ q ∈ l, q.size ≤ m) (k : Nat) : (nthS l k).size ≤ m := by
  by_cases hk : k < l.length
  · rw [nthS_get hk]; exact h _ (List.getElem_mem _)
  · unfold nthS; rw [List.getD_eq_getElem?_getD, List.getElem?_eq_none (by omega)]; simp
/-- The words of a path are few and short. -/
theorem parts_small {s : ByteArray} : (partsB s).length ≤ 3 ∧ ∀ k, (nthS (partsB s) k).size ≤ 8 := by
  unfold partsB
  split
  · exact ⟨by simp, fun k => by simp [nthS]⟩
  · split
    · rename_i h0 h1
      unfold isPath at h1
      rw [decide_eq_false h0, Bool.false_or, Bool.and_eq_true, decide_eq_true_eq, decide_eq_true_eq] at h1
      have h2 := h1.2
      unfold pathB at h2
      split at h2
      · rename_i h3; rw [h3]; exact ⟨by simp, fun k => by simp [nthS]⟩
      · split at h2
        · rename_i h4
          simp only [Bool.and_eq_true, decide_eq_true_eq] at h4
          exact ⟨h4.2, nthS_all fun q hq => word_size (List.all_eq_true.1 h4.1 q hq)⟩
        · rw [← h2] at h1; exact absurd h1.1 (by decide)
    · exact ⟨by simp, fun k => by simp [nthS]⟩
theorem text_size {s : ByteArray} (h : textB s = true) : s.size ≤ 60 := by
  rcases Nat.lt_or_ge 60 s.size with h2 | h2
  · rw [textV_long _ h2] at h; cases h
  · exact h2
theorem fileB_size (s : ByteArray) : (fileB s).size ≤ 61 := by
  cases h : contentB s
  · rw [fileB_no h]; decide
  · rw [fileB_yes h, ByteArray.size_append]
    unfold contentB at h
    rw [Bool.and_eq_true] at h
    have := text_size h.1
    show 1 + _ ≤ 61
    omega
theorem putB_few (l : List Pc) (t : ByteArray) : (putB l t).1.length ≤ 40 := by
  cases h : storeB l
  · rw [putB_bad h]; simp
  · have h40 := (storeB_at h).1
    have hat := atP_le (printB t) l
    unfold putB putL
    rw [if_neg (by rw [h]; simp)]
    repeat' split
    all_goals simp
    all_goals omega
section
variable {ops : Array Oper} {rest : List Oper} {o : Oper} {a : Act} {Q : Exit → Act → World → Prop}
variable {t e : TypeId} {size : Nat} {z : Value} {w : World}
/-- A list appended to a new row: a row of the call's own with the list in it. -/
theorem wpList_fresh {α : Type} {g : α → List Value} (T : Elt t e size z) (E : Enc g size) {B m c : Nat} {x : Option Addr} {l : List α} (hr : Lst g w B x m c l) (hB : B ≤ w.heap.size) (hm : m ≤ 2000000)
    (hgd : o.guard = none) (s y : Operand) (ho : o.op = .call { callee := .builtin .append, args := #[s, y], argTypes := #[t, t] }) (hs : a.eval s = .slice (some ⟨w.heap.size, 0, none⟩) 0 0) (hy : a.eval y = .slice x m c)
    (h : ∀ v' w', OwnL g e size w' w.heap.size v' l → Below w.heap.size w w' → wpList Try.prog ops Q rest (a.put o.dst v') w') : wpList Try.prog ops Q (o :: rest) a (w.alloc (.cells #[] e)) :=
  wpList_appL T E (OwnL.newAt g e (size := size) (base := w.heap.size) rfl (Nat.le_refl _)) (hr.alloc hB _) (Nat.zero_le _) hm (le_alloc (Nat.le_refl _) _) hgd s y ho hs hy fun v' w' hown hgr hat =>
    h v' w' (by simpa using hown) (((Below.refl w.heap.size w).alloc (Nat.le_refl _) _).grown hgr (le_alloc (Nat.le_refl _) _) (fun q e' => OwnL.at (OwnL.newAt g e (size := size) (base := w.heap.size) rfl (Nat.le_refl _)) q e'))
end
end Go.Proofs.Ytigegjgkjahhaaa
/-
  Chapter 10's model: dropping at a path.
-/
namespace Go.Proofs.Ytigegjgkjahhaaa
open Go.RowKit
set_option linter.unusedVariables false
theorem end_few {l : List Pc} {r : List Ent} (h : l.length ≤ 40) : (endB l r).1.length ≤ 40 := by
  unfold endB
  split
  · exact h
  · exact putB_few _ _
theorem drop_few : ∀ {ps : List ByteArray} {l : List Pc} {p : Int}, l.length ≤ 40 → (dropB l p ps).1.length ≤ 40
  | [], l, p, h => h
  | nm :: r, l, p, h => by
    have ih := drop_few (ps := r) (p := lastE nm (-1) (foldL (getT l p))) h
    rw [dropB]
    split
    · exact h
    split
    · exact end_few h
    split
    · exact h
    · exact end_few ih
end Go.Proofs.Ytigegjgkjahhaaa
