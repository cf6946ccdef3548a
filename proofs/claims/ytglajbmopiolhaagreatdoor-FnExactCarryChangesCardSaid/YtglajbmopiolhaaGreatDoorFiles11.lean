/-
  Chapter 11's model: the paths of all files below names.
-/
import Derived.Test.YtglajbmopiolhaaGreatDoorWalks9
import Derived.Test.YtglajbmopiolhaaGreatDoorRegion3
namespace Go.Proofs.YtglajbmopiolhaaGreatDoor
open Go.RowKit
set_option linter.unusedVariables false
/-- The paths of all files below names, at most d folders deep. -/
def filesB (l : List Pc) : Nat → Int → List ByteArray → List ByteArray
  | 0, p, ps => if (isFile (getT l p) && decide (0 < ps.length)) = true then [pathB ps] else []
  | d + 1, p, ps => if (isFile (getT l p) && decide (0 < ps.length)) = true then [pathB ps] else (foldL (getT l p)).flatMap fun q => filesB l d q.2 (ps ++ [q.1])
theorem get_none {l : List Pc} {p : Int} (h : getO l p = false) : getT l p = ByteArray.empty := by
  unfold getO at h; unfold getT
  cases hg : getB l p with
  | none => rfl
  | some q => rw [hg] at h; cases h
theorem file_has {l : List Pc} {p : Int} (h : isFile (getT l p) = true) : getO l p = true := by
  cases hg : getO l p
  · rw [get_none hg] at h; revert h; decide +kernel
  · rfl
theorem files_file {l : List Pc} {d : Nat} {p : Int} {ps : List ByteArray} (h : isFile (getT l p) = true) (h0 : 0 < ps.length) : filesB l d p ps = [pathB ps] := by
  cases d <;> (rw [filesB, h, decide_eq_true h0]; rfl)
theorem files_stop {l : List Pc} {p : Int} {ps : List ByteArray} (h : isFile (getT l p) = false ∨ ¬ 0 < ps.length) : filesB l 0 p ps = [] := by
  rw [filesB, if_neg (by rcases h with h | h <;> simp [h])]
theorem files_fold {l : List Pc} {d : Nat} {p : Int} {ps : List ByteArray} (h : isFile (getT l p) = false ∨ ¬ 0 < ps.length) : filesB l (d + 1) p ps = (foldL (getT l p)).flatMap fun q => filesB l d q.2 (ps ++ [q.1]) := by
  rw [filesB, if_neg (by rcases h with h | h <;> simp [h])]
theorem files_len {l : List Pc} : ∀ (d : Nat) (p : Int) (ps : List ByteArray), (filesB l d p ps).length ≤ 3 ^ d
  | 0, p, ps => by rw [filesB]; split <;> simp
  | d + 1, p, ps => by
    have key : ∀ L : List Ent, (L.flatMap fun q => filesB l d q.2 (ps ++ [q.1])).length ≤ L.length * 3 ^ d := by
      intro L
      induction L with
      | nil => simp
      | cons q L ih =>
        rw [List.flatMap_cons, List.length_append, List.length_cons, Nat.succ_mul]
        have := files_len (l := l) d q.2 (ps ++ [q.1])
        omega
    have h3 : (foldL (getT l p)).length * 3 ^ d ≤ 3 * 3 ^ d := Nat.mul_le_mul_right _ (foldL_len _)
    rw [filesB]
    split
    · simp [Nat.pow_succ]; have : 0 < 3 ^ d := Nat.pow_pos (by decide); omega
    · have := key (foldL (getT l p))
      rw [Nat.pow_succ]; omega
theorem files_many {l : List Pc} {d : Nat} {p : Int} {ps : List ByteArray} (h : d ≤ 3) : (filesB l d p ps).length ≤ 27 :=
  Nat.le_trans (files_len d p ps) (Nat.pow_le_pow_right (by decide) h)
theorem not_fold {s : ByteArray} (h : isFile s = true) : isFold s = false := by
  cases hf : isFold s
  · rfl
  · obtain ⟨r, hr, _⟩ := fold_pE hf
    unfold isFile at h
    rw [hr] at h
    cases h
theorem files_none {l : List Pc} {d : Nat} {p : Int} {ps : List ByteArray} (h : isFile (getT l p) = false ∨ ¬ 0 < ps.length) (h' : isFold (getT l p) = false) : filesB l d p ps = [] := by
  cases d with
  | zero => exact files_stop h
  | succ d => rw [files_fold h, foldL_no h']; rfl
theorem empty_none {l : List Pc} {p : Int} (h : getO l p = false) : isFile (getT l p) = false ∧ isFold (getT l p) = false := by
  rw [get_none h]; exact ⟨by decide +kernel, by decide +kernel⟩
/-- What the operations of the loop's statement yield. -/
def FiF (base : Nat) (xs : Option Addr) (ns cs : Nat) (be oe ne ce k : Nat) (q : Ent) (yp : Option Addr) (mp cp : Nat) (ps fs : List ByteArray) (vout : Value) (base0 : Nat) (acc : List ByteArray) (L : Nat → Bool) : Nat → Value → World → Prop
  | 0, v, _ => v = vout
  | 1, v, _ => v = .slice xs ns cs
  | 2, v, _ => v = .slice (some ⟨be, oe, none⟩) ne ce
  | 3, v, _ => v = .int .i64 (k : Int)
  | 4, v, _ => v = .pointer (some ⟨be, oe + k * 2, none⟩)
  | 5, v, _ => v = .pointer (some ⟨be, oe + k * 2 + 1, none⟩)
  | 6, v, _ => v = .int .i64 q.2
  | 7, v, w => ∃ b, v = .slice (some ⟨b, 0, none⟩) 0 0 ∧ (L 9 = false → w.heap[b]? = some (.cells #[] 9 (0, 0)) ∧ OwnS w base (.slice (some ⟨b, 0, none⟩) 0 0) [])
  | 8, v, _ => v = .slice yp mp cp
  | 9, v, w => L 16 = false → OwnS w base v ps
  | 10, v, _ => v = .slice (some ⟨be, oe, none⟩) ne ce
  | 11, v, _ => v = .int .i64 (k : Int)
  | 12, v, _ => v = .pointer (some ⟨be, oe + k * 2, none⟩)
  | 13, v, _ => v = .pointer (some ⟨be, oe + k * 2, none⟩)
  | 14, v, _ => v = .string q.1
  | 15, v, w => ∃ b, v = .slice (some ⟨b, 0, none⟩) 1 1 ∧ (L 16 = false → w.cell? ⟨b, 0, none⟩ = some (.string q.1) ∧ b < w.heap.size)
  | 16, v, w => L 18 = false → OwnS w base v (ps ++ [q.1])
  | 17, v, w => L 18 = false → OwnS w base v fs
  | 18, v, w => OwnS w base0 v (acc ++ fs)
  | 19, v, w => OwnS w base0 v (acc ++ fs)
  | _, _, _ => True
theorem or_no3 {a b : Bool} (h : (a || b) = false) : b = false := by cases b <;> simp_all
theorem one_str {w : World} {b : Nat} {s : ByteArray} (h : w.cell? ⟨b, 0, none⟩ = some (.string s)) (hb : b < w.heap.size) : Strs w w.heap.size (some ⟨b, 0, none⟩) 1 1 [s] := by
  refine ⟨rfl, Nat.le_refl _, by unfold maxLen; omega, fun j u hu => ?_⟩
  have hj := (List.getElem?_eq_some_iff.1 hu).1
  have e : ([s].flatMap strG) = [Value.string s] := rfl
  rw [e] at hu hj
  obtain rfl : j = 0 := by simpa using hj
  simp only [List.getElem?_cons_zero, Option.some.injEq] at hu
  subst hu
  exact ⟨b, 0, rfl, hb, h⟩
theorem fiF_below {base : Nat} {xs : Option Addr} {ns cs : Nat} {be oe ne ce k : Nat} {q : Ent} {yp : Option Addr} {mp cp : Nat} {ps fs : List ByteArray} {vout : Value} {base0 : Nat} {acc : List ByteArray} {L : Nat → Bool} {w w' : World} (hb : Below w.heap.size w w') (i : Nat) :
    ∀ (j : Nat) (v : Value), FiF base xs ns cs be oe ne ce k q yp mp cp ps fs vout base0 acc L j v w → FiF base xs ns cs be oe ne ce k q yp mp cp ps fs vout base0 acc (fun j => j == i || L j) j v w'
  | 0, v, h => h
  | 1, v, h => h
  | 2, v, h => h
  | 3, v, h => h
  | 4, v, h => h
  | 5, v, h => h
  | 6, v, h => h
  | 7, v, h => by
    obtain ⟨b, e, h1⟩ := h
    refine ⟨b, e, fun hl => ?_⟩
    obtain ⟨h2, h3⟩ := h1 (or_no3 hl)
    exact ⟨(hb.block b (Array.getElem?_eq_some_iff.1 h2).1).trans h2, h3.below hb⟩
  | 8, v, h => h
  | 9, v, h => fun hl => OwnL.below (h (or_no3 hl)) hb
  | 10, v, h => h
  | 11, v, h => h
  | 12, v, h => h
  | 13, v, h => h
  | 14, v, h => h
  | 15, v, h => by
    obtain ⟨b, e, h1⟩ := h
    refine ⟨b, e, fun hl => ?_⟩
    obtain ⟨h2, h3⟩ := h1 (or_no3 hl)
    exact ⟨(World.cell?_of_block (w := w) (w' := w') (a := ⟨b, 0, none⟩) (hb.block b h3)).trans h2, Nat.lt_of_lt_of_le h3 hb.size⟩
  | 16, v, h => fun hl => OwnL.below (h (or_no3 hl)) hb
  | 17, v, h => fun hl => OwnL.below (h (or_no3 hl)) hb
  | 18, v, h => OwnL.below h hb
  | 19, v, h => OwnL.below h hb
  | _ + 20, v, h => h
/-- The world, by what has run: until the last append nothing that lay there has turned; afterwards nothing below the call's own. The entries' row stays. -/
def FiG (wz w0 : World) (be oe ne ce : Nat) (E : List Ent) (L : Nat → Bool) (w : World) : Prop := (L 18 = false → Below wz.heap.size wz w) ∧ Below w0.heap.size w0 w ∧ OwnE w w0.heap.size (.slice (some ⟨be, oe, none⟩) ne ce) E
theorem fiG_below {wz w0 w w' : World} {be oe ne ce : Nat} {E : List Ent} {L : Nat → Bool} (h : FiG wz w0 be oe ne ce E L w) (hb : Below w.heap.size w w') (i : Nat) : FiG wz w0 be oe ne ce E (fun j => j == i || L j) w' :=
  ⟨fun hl => (h.1 (or_no3 hl)).trans (hb.mono (h.1 (or_no3 hl)).size), h.2.1.trans (hb.mono h.2.1.size), OwnL.below h.2.2 hb⟩
theorem fiF_app9 {base : Nat} {xs : Option Addr} {ns cs : Nat} {be oe ne ce k : Nat} {q : Ent} {yp : Option Addr} {mp cp : Nat} {ps fs : List ByteArray} {vout : Value} {base0 : Nat} {acc : List ByteArray} {L : Nat → Bool} {w w' : World} {b : Nat} (hb : w.heap[b]? = some (.cells #[] 9 (0, 0))) (hg : w.grownBy w' (some b)) (n9 : L 9 = false) (n16 : L 16 = false) (n17 : L 17 = false) (n18 : L 18 = false) (n19 : L 19 = false) :
    ∀ (j : Nat) (v : Value), L j = true → FiF base xs ns cs be oe ne ce k q yp mp cp ps fs vout base0 acc L j v w → FiF base xs ns cs be oe ne ce k q yp mp cp ps fs vout base0 acc (fun j => j == 9 || L j) j v w'
  | 0, v, hj, h => h
  | 1, v, hj, h => h
  | 2, v, hj, h => h
  | 3, v, hj, h => h
  | 4, v, hj, h => h
  | 5, v, hj, h => h
  | 6, v, hj, h => h
  | 7, v, hj, h => by obtain ⟨b, e, _⟩ := h; exact ⟨b, e, fun e => by simp at e⟩
  | 8, v, hj, h => h
  | 9, v, hj, h => by rw [n9] at hj; cases hj
  | 10, v, hj, h => h
  | 11, v, hj, h => h
  | 12, v, hj, h => h
  | 13, v, hj, h => h
  | 14, v, hj, h => h
  | 15, v, hj, h => by
    obtain ⟨b', e, h1⟩ := h
    refine ⟨b', e, fun hl => ?_⟩
    obtain ⟨h2, h3⟩ := h1 (or_no3 hl)
    have hne : b' ≠ b := fun e => by
      subst e
      rw [cell_of_row w b' 0 _ _ (0, 0) hb] at h2
      simp at h2
    exact ⟨hg.cell (a := ⟨b', 0, none⟩) h2 (by simpa using hne), Nat.lt_of_lt_of_le h3 hg.size⟩
  | 16, v, hj, h => by rw [n16] at hj; cases hj
  | 17, v, hj, h => by rw [n17] at hj; cases hj
  | 18, v, hj, h => by rw [n18] at hj; cases hj
  | 19, v, hj, h => by rw [n19] at hj; cases hj
  | _ + 20, v, hj, h => h
theorem fiF_app16 {base : Nat} {xs : Option Addr} {ns cs : Nat} {be oe ne ce k : Nat} {q : Ent} {yp : Option Addr} {mp cp : Nat} {ps fs : List ByteArray} {vout : Value} {base0 : Nat} {acc : List ByteArray} {L : Nat → Bool} {w w' : World} (t9 : L 9 = true) (n16 : L 16 = false) (n17 : L 17 = false) (n18 : L 18 = false) (n19 : L 19 = false) :
    ∀ (j : Nat) (v : Value), L j = true → FiF base xs ns cs be oe ne ce k q yp mp cp ps fs vout base0 acc L j v w → FiF base xs ns cs be oe ne ce k q yp mp cp ps fs vout base0 acc (fun j => j == 16 || L j) j v w'
  | 0, v, hj, h => h
  | 1, v, hj, h => h
  | 2, v, hj, h => h
  | 3, v, hj, h => h
  | 4, v, hj, h => h
  | 5, v, hj, h => h
  | 6, v, hj, h => h
  | 7, v, hj, h => by obtain ⟨b, e, _⟩ := h; exact ⟨b, e, fun e => by simp [t9] at e⟩
  | 8, v, hj, h => h
  | 9, v, hj, h => fun e => by simp at e
  | 10, v, hj, h => h
  | 11, v, hj, h => h
  | 12, v, hj, h => h
  | 13, v, hj, h => h
  | 14, v, hj, h => h
  | 15, v, hj, h => by obtain ⟨b, e, _⟩ := h; exact ⟨b, e, fun e => by simp at e⟩
  | 16, v, hj, h => by rw [n16] at hj; cases hj
  | 17, v, hj, h => by rw [n17] at hj; cases hj
  | 18, v, hj, h => by rw [n18] at hj; cases hj
  | 19, v, hj, h => by rw [n19] at hj; cases hj
  | _ + 20, v, hj, h => h
theorem fiF_app18 {base : Nat} {xs : Option Addr} {ns cs : Nat} {be oe ne ce k : Nat} {q : Ent} {yp : Option Addr} {mp cp : Nat} {ps fs : List ByteArray} {vout : Value} {base0 : Nat} {acc : List ByteArray} {L : Nat → Bool} {w w' : World} (t9 : L 9 = true) (t16 : L 16 = true) (n18 : L 18 = false) (n19 : L 19 = false) :
    ∀ (j : Nat) (v : Value), L j = true → FiF base xs ns cs be oe ne ce k q yp mp cp ps fs vout base0 acc L j v w → FiF base xs ns cs be oe ne ce k q yp mp cp ps fs vout base0 acc (fun j => j == 18 || L j) j v w'
  | 0, v, hj, h => h
  | 1, v, hj, h => h
  | 2, v, hj, h => h
  | 3, v, hj, h => h
  | 4, v, hj, h => h
  | 5, v, hj, h => h
  | 6, v, hj, h => h
  | 7, v, hj, h => by obtain ⟨b, e, _⟩ := h; exact ⟨b, e, fun e => by simp [t9] at e⟩
  | 8, v, hj, h => h
  | 9, v, hj, h => fun e => by simp [t16] at e
  | 10, v, hj, h => h
  | 11, v, hj, h => h
  | 12, v, hj, h => h
  | 13, v, hj, h => h
  | 14, v, hj, h => h
  | 15, v, hj, h => by obtain ⟨b, e, _⟩ := h; exact ⟨b, e, fun e => by simp [t16] at e⟩
  | 16, v, hj, h => fun e => by simp at e
  | 17, v, hj, h => fun e => by simp at e
  | 18, v, hj, h => by rw [n18] at hj; cases hj
  | 19, v, hj, h => by rw [n19] at hj; cases hj
  | _ + 20, v, hj, h => h
theorem flat_many {L : List Ent} {f : Ent → List ByteArray} (h : L.length ≤ 3) (hf : ∀ q, (f q).length ≤ 27) : (L.flatMap f).length ≤ 2000000 := by
  have key : ∀ L : List Ent, (L.flatMap f).length ≤ 27 * L.length := by
    intro L
    induction L with
    | nil => simp
    | cons q L ih => rw [List.flatMap_cons, List.length_append, List.length_cons]; have := hf q; omega
  have := key L; omega
theorem snoc_small {l : List ByteArray} {s : ByteArray} (h : ∀ k, (nthS l k).size ≤ maxLen) (hs : s.size ≤ maxLen) : ∀ k, (nthS (l ++ [s]) k).size ≤ maxLen := fun k => by
  unfold nthS at h ⊢
  rcases Nat.lt_or_ge k l.length with h1 | h1
  · have := h k
    rw [List.getD_eq_getElem?_getD] at this ⊢
    rwa [List.getElem?_append_left h1]
  · rw [List.getD_eq_getElem?_getD, List.getElem?_append_right h1]
    cases hk : k - l.length with
    | zero => simpa using hs
    | succ j => simp
set_option maxHeartbeats 4000000 in
set_option maxRecDepth 100000 in
theorem specFiles_any (l : List Pc) (x : Option Addr) (n cap : Nat) (hz : ∀ k, (nthP l k).2.size ≤ 1048576) : ∀ (d : Nat) (p : Int) (ps : List ByteArray) (y : Option Addr) (m c : Nat) (B : Nat) (w : World), ps.length + d = 3 → Pcs w B x n cap l → B ≤ w.heap.size → Strs w w.heap.size y m c ps → (∀ k, (nthS ps k).size ≤ maxLen) → Calls Tryz.prog 66 #[.slice x n cap, .int .i64 p, .slice y m c] w (NewS (filesB l d p ps) w) := by
  intro d
  induction d with
  | zero =>
    intro p ps y m c B w hd3 h hB hp hsz
    have HH := Lib.hid h; have HP := Lib.hid hp; have HSZ := Lib.hid hsz
    clear h hp hsz
    have HLP := Lib.hid HP.out.len
    have hgz := getT_size (p := p) hz
    have hmp : m ≤ 3 := by have := HLP.out; omega
    have hmc := HP.out.le
    cases hgo : getO l p
    · obtain ⟨hfi, hfo⟩ := empty_none hgo
      have HF := Lib.hid (files_none (d := 0) (ps := ps) (.inl hfi) hfo)
      have HG := Lib.hid hfo
      clear hfo
      go_enter Tryz.func66, Tryz.ntmps66
      go_wp2_with fail
      refine (specL4Get_any x n cap l p B _ HH.out).mono ?_
      rintro e w' ⟨rfl, hw⟩
      subst w'
      rw [hgo]
      go_wp2_with fail
      refine (specReadFile_any _ _ (by unfold maxLen; omega)).mono ?_
      rintro e w' ⟨rfl, hw⟩
      subst w'
      rw [hfi]
      have HO0 := Lib.hid (OwnL.new strG 9 (size := 1) w)
      have HB0 := Lib.hid ((Below.refl w.heap.size w).alloc (Nat.le_refl _) (.cells #[] 9))
      have hs0 := HB0.out.size
      go_wp2_with fail
      refine (specReadFolder_any _ _ hgz).mono ?_
      rintro e w3 ⟨v3, rfl, ho, hb⟩
      obtain ⟨x3, ne, ce, rfl, hi⟩ := ho.lst
      have HB3 := Lib.hid (HB0.out.trans (hb.mono hs0)); have HO3 := Lib.hid (HO0.out.below hb); have HE := Lib.hid hi; have HEO := Lib.hid (ho.mono hs0)
      clear hb ho hi
      have HLEN := Lib.hid HE.out.len
      rw [HG.out]
      have hz3 : ne = 0 := by have := HLEN.out; rw [foldL_no HG.out] at this; simpa using this.symm
      subst hz3
      go_wp2_with fail
      go_loopw [11, 14] (fun v i wr => v = .slice (some ⟨w.heap.size, 0, none⟩) 0 0 ∧ i = .int .i64 0 ∧ wr = w3) (fun _ _ _ => 0)
      case atStart => exact ⟨rfl, rfl, rfl⟩
      case round =>
        obtain ⟨rfl, rfl, rfl⟩ := hrel
        go_wp2
        go_ret
        exact ⟨_, rfl, by rw [HF.out]; exact HO3.out, HB3.out⟩
    cases hfi : isFile (getT l p)
    rotate_left
    · by_cases h0 : 0 < m
      · have HF := Lib.hid (files_file (d := 0) hfi (show 0 < ps.length by have := HLP.out; omega))
        go_enter Tryz.func66, Tryz.ntmps66
        go_wp2_with fail
        refine (specL4Get_any x n cap l p B _ HH.out).mono ?_
        rintro e w' ⟨rfl, hw⟩
        subst w'
        rw [hgo]
        go_wp2_with fail
        refine (specReadFile_any _ _ (by unfold maxLen; omega)).mono ?_
        rintro e w' ⟨rfl, hw⟩
        subst w'
        rw [hfi]
        go_wp2_with fail
        refine (specJoinPath_any y m c ps _ _ HP.out HSZ.out).mono ?_
        rintro e w' ⟨rfl, hw⟩
        subst w'
        go_wp2
        go_ret
        exact ⟨_, rfl, by rw [HF.out]; exact World.ownsRow_lit w #[.string (pathB ps)] 1 (Nat.le_refl _) (by decide) rfl, (Below.refl _ _).alloc (Nat.le_refl _) _⟩
      · have HG := Lib.hid (not_fold hfi)
        have HF := Lib.hid (files_none (d := 0) (ps := ps) (.inr (by have := HLP.out; omega)) HG.out)
        obtain rfl : m = 0 := by omega
        go_enter Tryz.func66, Tryz.ntmps66
        go_wp2_with fail
        refine (specL4Get_any x n cap l p B _ HH.out).mono ?_
        rintro e w' ⟨rfl, hw⟩
        subst w'
        rw [hgo]
        go_wp2_with fail
        refine (specReadFile_any _ _ (by unfold maxLen; omega)).mono ?_
        rintro e w' ⟨rfl, hw⟩
        subst w'
        rw [hfi]
        have HO0 := Lib.hid (OwnL.new strG 9 (size := 1) w)
        have HB0 := Lib.hid ((Below.refl w.heap.size w).alloc (Nat.le_refl _) (.cells #[] 9))
        have hs0 := HB0.out.size
        go_wp2_with fail
        refine (specReadFolder_any _ _ hgz).mono ?_
        rintro e w3 ⟨v3, rfl, ho, hb⟩
        obtain ⟨x3, ne, ce, rfl, hi⟩ := ho.lst
        have HB3 := Lib.hid (HB0.out.trans (hb.mono hs0)); have HO3 := Lib.hid (HO0.out.below hb); have HE := Lib.hid hi; have HEO := Lib.hid (ho.mono hs0)
        clear hb ho hi
        have HLEN := Lib.hid HE.out.len
        rw [HG.out]
        have hz3 : ne = 0 := by have := HLEN.out; rw [foldL_no HG.out] at this; simpa using this.symm
        subst hz3
        go_wp2_with fail
        go_loopw [11, 14] (fun v i wr => v = .slice (some ⟨w.heap.size, 0, none⟩) 0 0 ∧ i = .int .i64 0 ∧ wr = w3) (fun _ _ _ => 0)
        case atStart => exact ⟨rfl, rfl, rfl⟩
        case round =>
          obtain ⟨rfl, rfl, rfl⟩ := hrel
          go_wp2
          go_ret
          exact ⟨_, rfl, by rw [HF.out]; exact HO3.out, HB3.out⟩
    cases hfo : isFold (getT l p)
    · have HF := Lib.hid (files_none (d := 0) (ps := ps) (.inl hfi) hfo)
      have HG := Lib.hid hfo
      clear hfo
      go_enter Tryz.func66, Tryz.ntmps66
      go_wp2_with fail
      refine (specL4Get_any x n cap l p B _ HH.out).mono ?_
      rintro e w' ⟨rfl, hw⟩
      subst w'
      rw [hgo]
      go_wp2_with fail
      refine (specReadFile_any _ _ (by unfold maxLen; omega)).mono ?_
      rintro e w' ⟨rfl, hw⟩
      subst w'
      rw [hfi]
      have HO0 := Lib.hid (OwnL.new strG 9 (size := 1) w)
      have HB0 := Lib.hid ((Below.refl w.heap.size w).alloc (Nat.le_refl _) (.cells #[] 9))
      have hs0 := HB0.out.size
      go_wp2_with fail
      refine (specReadFolder_any _ _ hgz).mono ?_
      rintro e w3 ⟨v3, rfl, ho, hb⟩
      obtain ⟨x3, ne, ce, rfl, hi⟩ := ho.lst
      have HB3 := Lib.hid (HB0.out.trans (hb.mono hs0)); have HO3 := Lib.hid (HO0.out.below hb); have HE := Lib.hid hi; have HEO := Lib.hid (ho.mono hs0)
      clear hb ho hi
      have HLEN := Lib.hid HE.out.len
      rw [HG.out]
      have hz3 : ne = 0 := by have := HLEN.out; rw [foldL_no HG.out] at this; simpa using this.symm
      subst hz3
      go_wp2_with fail
      go_loopw [11, 14] (fun v i wr => v = .slice (some ⟨w.heap.size, 0, none⟩) 0 0 ∧ i = .int .i64 0 ∧ wr = w3) (fun _ _ _ => 0)
      case atStart => exact ⟨rfl, rfl, rfl⟩
      case round =>
        obtain ⟨rfl, rfl, rfl⟩ := hrel
        go_wp2
        go_ret
        exact ⟨_, rfl, by rw [HF.out]; exact HO3.out, HB3.out⟩
    have HG := Lib.hid hfo
    clear hfo
    have HF := Lib.hid (files_stop (l := l) (p := p) (ps := ps) (.inl hfi))
    obtain rfl : m = 3 := by have := HLP.out; omega
    go_enter Tryz.func66, Tryz.ntmps66
    go_wp2_with fail
    refine (specL4Get_any x n cap l p B _ HH.out).mono ?_
    rintro e w' ⟨rfl, hw⟩
    subst w'
    rw [hgo]
    go_wp2_with fail
    refine (specReadFile_any _ _ (by unfold maxLen; omega)).mono ?_
    rintro e w' ⟨rfl, hw⟩
    subst w'
    rw [hfi]
    have HO0 := Lib.hid (OwnL.new strG 9 (size := 1) w)
    have HB0 := Lib.hid ((Below.refl w.heap.size w).alloc (Nat.le_refl _) (.cells #[] 9))
    have hs0 := HB0.out.size
    go_wp2_with fail
    refine (specReadFolder_any _ _ hgz).mono ?_
    rintro e w3 ⟨v3, rfl, ho, hb⟩
    obtain ⟨x3, ne, ce, rfl, hi⟩ := ho.lst
    have HB3 := Lib.hid (HB0.out.trans (hb.mono hs0)); have HO3 := Lib.hid (HO0.out.below hb); have HE := Lib.hid hi; have HEO := Lib.hid (ho.mono hs0)
    clear hb ho hi
    have HLEN := Lib.hid HE.out.len
    rw [HG.out]
    by_cases h0 : 0 < ne
    · have h0i : (0 : Int) < (ne : Int) := by omega
      go_wp2_with fail
      go_loopw [11, 14] (fun v i wr => v = .slice (some ⟨w.heap.size, 0, none⟩) 0 0 ∧ i = .int .i64 0 ∧ wr = w3) (fun _ _ _ => 0)
      case atStart => exact ⟨rfl, rfl, rfl⟩
      case round =>
        obtain ⟨rfl, rfl, rfl⟩ := hrel
        go_wp2
        go_ret
        exact ⟨_, rfl, by rw [HF.out]; exact HO3.out, HB3.out⟩
    · obtain rfl : ne = 0 := by omega
      go_wp2_with fail
      go_loopw [11, 14] (fun v i wr => v = .slice (some ⟨w.heap.size, 0, none⟩) 0 0 ∧ i = .int .i64 0 ∧ wr = w3) (fun _ _ _ => 0)
      case atStart => exact ⟨rfl, rfl, rfl⟩
      case round =>
        obtain ⟨rfl, rfl, rfl⟩ := hrel
        go_wp2
        go_ret
        exact ⟨_, rfl, by rw [HF.out]; exact HO3.out, HB3.out⟩
  | succ d ih =>
    intro p ps y m c B w hd3 h hB hp hsz
    have HH := Lib.hid h; have HP := Lib.hid hp; have HSZ := Lib.hid hsz
    clear h hp hsz
    have HLP := Lib.hid HP.out.len
    have hgz := getT_size (p := p) hz
    have hmp : m ≤ 3 := by have := HLP.out; omega
    have hmc := HP.out.le
    cases hgo : getO l p
    · obtain ⟨hfi, hfo⟩ := empty_none hgo
      have HF := Lib.hid (files_none (d := (d + 1)) (ps := ps) (.inl hfi) hfo)
      have HG := Lib.hid hfo
      clear hfo
      go_enter Tryz.func66, Tryz.ntmps66
      go_wp2_with fail
      refine (specL4Get_any x n cap l p B _ HH.out).mono ?_
      rintro e w' ⟨rfl, hw⟩
      subst w'
      rw [hgo]
      go_wp2_with fail
      refine (specReadFile_any _ _ (by unfold maxLen; omega)).mono ?_
      rintro e w' ⟨rfl, hw⟩
      subst w'
      rw [hfi]
      have HO0 := Lib.hid (OwnL.new strG 9 (size := 1) w)
      have HB0 := Lib.hid ((Below.refl w.heap.size w).alloc (Nat.le_refl _) (.cells #[] 9))
      have hs0 := HB0.out.size
      go_wp2_with fail
      refine (specReadFolder_any _ _ hgz).mono ?_
      rintro e w3 ⟨v3, rfl, ho, hb⟩
      obtain ⟨x3, ne, ce, rfl, hi⟩ := ho.lst
      have HB3 := Lib.hid (HB0.out.trans (hb.mono hs0)); have HO3 := Lib.hid (HO0.out.below hb); have HE := Lib.hid hi; have HEO := Lib.hid (ho.mono hs0)
      clear hb ho hi
      have HLEN := Lib.hid HE.out.len
      rw [HG.out]
      have hz3 : ne = 0 := by have := HLEN.out; rw [foldL_no HG.out] at this; simpa using this.symm
      subst hz3
      go_wp2_with fail
      go_loopw [11, 14] (fun v i wr => v = .slice (some ⟨w.heap.size, 0, none⟩) 0 0 ∧ i = .int .i64 0 ∧ wr = w3) (fun _ _ _ => 0)
      case atStart => exact ⟨rfl, rfl, rfl⟩
      case round =>
        obtain ⟨rfl, rfl, rfl⟩ := hrel
        go_wp2
        go_ret
        exact ⟨_, rfl, by rw [HF.out]; exact HO3.out, HB3.out⟩
    cases hfi : isFile (getT l p)
    rotate_left
    · by_cases h0 : 0 < m
      · have HF := Lib.hid (files_file (d := (d + 1)) hfi (show 0 < ps.length by have := HLP.out; omega))
        go_enter Tryz.func66, Tryz.ntmps66
        go_wp2_with fail
        refine (specL4Get_any x n cap l p B _ HH.out).mono ?_
        rintro e w' ⟨rfl, hw⟩
        subst w'
        rw [hgo]
        go_wp2_with fail
        refine (specReadFile_any _ _ (by unfold maxLen; omega)).mono ?_
        rintro e w' ⟨rfl, hw⟩
        subst w'
        rw [hfi]
        go_wp2_with fail
        refine (specJoinPath_any y m c ps _ _ HP.out HSZ.out).mono ?_
        rintro e w' ⟨rfl, hw⟩
        subst w'
        go_wp2
        go_ret
        exact ⟨_, rfl, by rw [HF.out]; exact World.ownsRow_lit w #[.string (pathB ps)] 1 (Nat.le_refl _) (by decide) rfl, (Below.refl _ _).alloc (Nat.le_refl _) _⟩
      · have HG := Lib.hid (not_fold hfi)
        have HF := Lib.hid (files_none (d := (d + 1)) (ps := ps) (.inr (by have := HLP.out; omega)) HG.out)
        obtain rfl : m = 0 := by omega
        go_enter Tryz.func66, Tryz.ntmps66
        go_wp2_with fail
        refine (specL4Get_any x n cap l p B _ HH.out).mono ?_
        rintro e w' ⟨rfl, hw⟩
        subst w'
        rw [hgo]
        go_wp2_with fail
        refine (specReadFile_any _ _ (by unfold maxLen; omega)).mono ?_
        rintro e w' ⟨rfl, hw⟩
        subst w'
        rw [hfi]
        have HO0 := Lib.hid (OwnL.new strG 9 (size := 1) w)
        have HB0 := Lib.hid ((Below.refl w.heap.size w).alloc (Nat.le_refl _) (.cells #[] 9))
        have hs0 := HB0.out.size
        go_wp2_with fail
        refine (specReadFolder_any _ _ hgz).mono ?_
        rintro e w3 ⟨v3, rfl, ho, hb⟩
        obtain ⟨x3, ne, ce, rfl, hi⟩ := ho.lst
        have HB3 := Lib.hid (HB0.out.trans (hb.mono hs0)); have HO3 := Lib.hid (HO0.out.below hb); have HE := Lib.hid hi; have HEO := Lib.hid (ho.mono hs0)
        clear hb ho hi
        have HLEN := Lib.hid HE.out.len
        rw [HG.out]
        have hz3 : ne = 0 := by have := HLEN.out; rw [foldL_no HG.out] at this; simpa using this.symm
        subst hz3
        go_wp2_with fail
        go_loopw [11, 14] (fun v i wr => v = .slice (some ⟨w.heap.size, 0, none⟩) 0 0 ∧ i = .int .i64 0 ∧ wr = w3) (fun _ _ _ => 0)
        case atStart => exact ⟨rfl, rfl, rfl⟩
        case round =>
          obtain ⟨rfl, rfl, rfl⟩ := hrel
          go_wp2
          go_ret
          exact ⟨_, rfl, by rw [HF.out]; exact HO3.out, HB3.out⟩
    cases hfo : isFold (getT l p)
    · have HF := Lib.hid (files_none (d := (d + 1)) (ps := ps) (.inl hfi) hfo)
      have HG := Lib.hid hfo
      clear hfo
      go_enter Tryz.func66, Tryz.ntmps66
      go_wp2_with fail
      refine (specL4Get_any x n cap l p B _ HH.out).mono ?_
      rintro e w' ⟨rfl, hw⟩
      subst w'
      rw [hgo]
      go_wp2_with fail
      refine (specReadFile_any _ _ (by unfold maxLen; omega)).mono ?_
      rintro e w' ⟨rfl, hw⟩
      subst w'
      rw [hfi]
      have HO0 := Lib.hid (OwnL.new strG 9 (size := 1) w)
      have HB0 := Lib.hid ((Below.refl w.heap.size w).alloc (Nat.le_refl _) (.cells #[] 9))
      have hs0 := HB0.out.size
      go_wp2_with fail
      refine (specReadFolder_any _ _ hgz).mono ?_
      rintro e w3 ⟨v3, rfl, ho, hb⟩
      obtain ⟨x3, ne, ce, rfl, hi⟩ := ho.lst
      have HB3 := Lib.hid (HB0.out.trans (hb.mono hs0)); have HO3 := Lib.hid (HO0.out.below hb); have HE := Lib.hid hi; have HEO := Lib.hid (ho.mono hs0)
      clear hb ho hi
      have HLEN := Lib.hid HE.out.len
      rw [HG.out]
      have hz3 : ne = 0 := by have := HLEN.out; rw [foldL_no HG.out] at this; simpa using this.symm
      subst hz3
      go_wp2_with fail
      go_loopw [11, 14] (fun v i wr => v = .slice (some ⟨w.heap.size, 0, none⟩) 0 0 ∧ i = .int .i64 0 ∧ wr = w3) (fun _ _ _ => 0)
      case atStart => exact ⟨rfl, rfl, rfl⟩
      case round =>
        obtain ⟨rfl, rfl, rfl⟩ := hrel
        go_wp2
        go_ret
        exact ⟨_, rfl, by rw [HF.out]; exact HO3.out, HB3.out⟩
    have HG := Lib.hid hfo
    clear hfo
    have HF := Lib.hid (files_fold (d := d) (ps := ps) (.inl hfi))
    go_enter Tryz.func66, Tryz.ntmps66
    go_wp2_with fail
    refine (specL4Get_any x n cap l p B _ HH.out).mono ?_
    rintro e w' ⟨rfl, hw⟩
    subst w'
    rw [hgo]
    go_wp2_with fail
    refine (specReadFile_any _ _ (by unfold maxLen; omega)).mono ?_
    rintro e w' ⟨rfl, hw⟩
    subst w'
    rw [hfi]
    have HO0 := Lib.hid (OwnL.new strG 9 (size := 1) w)
    have HB0 := Lib.hid ((Below.refl w.heap.size w).alloc (Nat.le_refl _) (.cells #[] 9))
    have hs0 := HB0.out.size
    go_wp2_with fail
    refine (specReadFolder_any _ _ hgz).mono ?_
    rintro e w3 ⟨v3, rfl, ho, hb⟩
    obtain ⟨x3, ne, ce, rfl, hi⟩ := ho.lst
    have HB3 := Lib.hid (HB0.out.trans (hb.mono hs0)); have HO3 := Lib.hid (HO0.out.below hb); have HE := Lib.hid hi; have HEO := Lib.hid (ho.mono hs0)
    clear hb ho hi
    have HLEN := Lib.hid HE.out.len
    rw [HG.out]
    have h3 : ne ≤ 3 := by have := foldL_len (getT l p); have := HLEN.out; omega
    have HWS := Lib.hid (show ∀ q ∈ foldL (getT l p), q.1.size ≤ 8 from fun q hq => word_size (ents_ok (fold_is HG.out).1 q hq).1)
    obtain ⟨E, hE⟩ : ∃ E, foldL (getT l p) = E := ⟨_, rfl⟩
    rw [hE] at HE HLEN HF HWS HEO
    clear hE
    have hce := HE.out.le
    have hcx := HE.out.max
    unfold maxLen at hcx
    have hm3 : (m : Int) < 3 := by have := HLP.out; omega
    go_wp2_with fail
    go_loopw [11, 14] (fun v i wr => ∃ k : Nat, k ≤ ne ∧ i = .int .i64 k ∧ OwnS wr w.heap.size v ((E.take k).flatMap fun q => filesB l d q.2 (ps ++ [q.1])) ∧ Below w.heap.size w wr ∧ OwnE wr w.heap.size (.slice x3 ne ce) E) (fun _ i _ => ne - (intOf i).toNat)
    case atStart => exact ⟨0, by omega, rfl, HO3.out, HB3.out, HEO.out⟩
    case round =>
      obtain ⟨k, hk, rfl, ho, hb, he⟩ := hrel
      have hlw := he.lst'
      obtain ⟨yo, no, co, rfl, _⟩ := ho.lst
      have HOW := Lib.hid ho; have HB := Lib.hid hb; have HEW := Lib.hid he; have HLW := Lib.hid hlw
      clear ho hb he hlw
      have hsz0 := HB.out.size
      by_cases hlt : k < ne
      · obtain ⟨be, oe, rfl, hbe, hc0, hc1⟩ := HLW.out.atE hlt
        have HPS := Lib.hid ((HP.out.below HB.out (Nat.le_refl _)).more hsz0)
        have HACC := Lib.hid (show ((E.take k).flatMap fun q => filesB l d q.2 (ps ++ [q.1])).length ≤ 2000000 from flat_many (by rw [List.length_take]; omega) (fun q => files_many (by omega)))
        have hkE : k < E.length := by have := HLEN.out; omega
        obtain ⟨acc, hacc⟩ : ∃ acc, ((E.take k).flatMap fun q => filesB l d q.2 (ps ++ [q.1])) = acc := ⟨_, rfl⟩
        have HST := Lib.hid (show ((E.take (k + 1)).flatMap fun q => filesB l d q.2 (ps ++ [q.1])) = acc ++ filesB l d (nthE E k).2 (ps ++ [(nthE E k).1]) by rw [take_snocE hkE, List.flatMap_append, hacc]; simp)
        rw [hacc] at HOW HACC
        clear hacc
        have hq8 := HWS.out (nthE E k) (by rw [nthE_get hkE]; exact List.getElem_mem _)
        obtain ⟨q, hq⟩ : ∃ q, nthE E k = q := ⟨_, rfl⟩
        rw [hq] at hc0 hc1 HST hq8
        clear hq
        have HSM := Lib.hid (show ∀ j, (nthS (ps ++ [q.1]) j).size ≤ maxLen from snoc_small HSZ.out (Nat.le_trans hq8 (by unfold maxLen; omega)))
        have hps : ps.length ≤ 3 := by omega
        go_wp2
        refine region_rows (FiG wr w be oe ne ce E) (FiF wr.heap.size x n cap be oe ne ce k q y m c ps (filesB l d q.2 (ps ++ [q.1])) (.slice yo no co) w.heap.size acc) (by kernel_rfl) (by kernel_rfl) (by kernel_rfl) ⟨fun _ => (Below.refl _ _).drew, HB.out.drew, OwnL.drewN HEW.out 1⟩ ?_ ?_
        · refine ⟨?_, ?_, ?_, ?_, ?_, ?_, ?_, ?_, ?_, ?_, ?_, ?_, ?_, ?_, ?_, ?_, ?_, ?_, ?_, ?_, trivial⟩
          · intro L v aa ww hA hG hF hU hC hl hd K hK
            have HK := Lib.hid hK; have HGG := Lib.hid (show FiG wr w be oe ne ce E L ww from hG); have HFF := Lib.hid hF
            have n18 : L 18 = false := by
              cases e : L 18
              · rfl
              · exfalso
                have c18 := hC 18 _ rfl e
                simp [Region.binds] at c18
                have m0 : L 0 = true := by simp [c18]
                rw [hl] at m0; cases m0
            have n19 : L 19 = false := by
              cases e : L 19
              · rfl
              · exfalso
                have c19 := hC 19 _ rfl e
                simp [Region.binds] at c19
                have m18 : L 18 = true := by simp [c19]
                rw [n18] at m18; cases m18
            have b19 := hA.at' 19 _ 11 rfl rfl rfl
            rw [hU 19 _ rfl n19] at b19
            have b11 : aa.tmps[11]? = some (.slice yo no co) := b19
            clear b19 n18 n19
            clear hA hG hF hU hC hl hd hK
            go_simp
            exact HK.out _ _ ⟨_, rfl, fiG_below HGG.out (Below.refl _ _) 0, rfl, fun j hj => fiF_below (Below.refl _ _) 0 j _ (HFF.out j hj)⟩
          · intro L v aa ww hA hG hF hU hC hl hd K hK
            have HK := Lib.hid hK; have HGG := Lib.hid (show FiG wr w be oe ne ce E L ww from hG); have HFF := Lib.hid hF
            have k0 := hA.keep 0 (.slice x n cap) rfl rfl
            clear hA hG hF hU hC hl hd hK
            go_simp
            exact HK.out _ _ ⟨_, rfl, fiG_below HGG.out (Below.refl _ _) 1, rfl, fun j hj => fiF_below (Below.refl _ _) 1 j _ (HFF.out j hj)⟩
          · intro L v aa ww hA hG hF hU hC hl hd K hK
            have HK := Lib.hid hK; have HGG := Lib.hid (show FiG wr w be oe ne ce E L ww from hG); have HFF := Lib.hid hF
            have k12 := hA.keep 12 (.slice (some ⟨be, oe, none⟩) ne ce) rfl rfl
            clear hA hG hF hU hC hl hd hK
            go_simp
            exact HK.out _ _ ⟨_, rfl, fiG_below HGG.out (Below.refl _ _) 2, rfl, fun j hj => fiF_below (Below.refl _ _) 2 j _ (HFF.out j hj)⟩
          · intro L v aa ww hA hG hF hU hC hl hd K hK
            have HK := Lib.hid hK; have HGG := Lib.hid (show FiG wr w be oe ne ce E L ww from hG); have HFF := Lib.hid hF
            have k14 := hA.keep 14 (.int .i64 (k : Int)) rfl rfl
            clear hA hG hF hU hC hl hd hK
            go_simp
            exact HK.out _ _ ⟨_, rfl, fiG_below HGG.out (Below.refl _ _) 3, rfl, fun j hj => fiF_below (Below.refl _ _) 3 j _ (HFF.out j hj)⟩
          · intro L v aa ww hA hG hF hU hC hl hd K hK
            have HK := Lib.hid hK; have HGG := Lib.hid (show FiG wr w be oe ne ce E L ww from hG); have HFF := Lib.hid hF
            have l2 : L 2 = true := by have h := hd; simp [Region.binds] at h; simp [h]
            have f2 := hF 2 l2
            have b2 := hA.at' 2 _ 63 rfl rfl rfl
            have l3 : L 3 = true := by have h := hd; simp [Region.binds] at h; simp [h]
            have f3 := hF 3 l3
            have b3 := hA.at' 3 _ 64 rfl rfl rfl
            rw [show v 2 = _ from f2] at b2
            clear f2 l2
            rw [show v 3 = _ from f3] at b3
            clear f3 l3
            clear hA hG hF hU hC hl hd hK
            have hkn : (k : Int) < (ne : Int) := by omega
            go_simp
            exact HK.out _ _ ⟨_, rfl, fiG_below HGG.out (Below.refl _ _) 4, rfl, fun j hj => fiF_below (Below.refl _ _) 4 j _ (HFF.out j hj)⟩
          · intro L v aa ww hA hG hF hU hC hl hd K hK
            have HK := Lib.hid hK; have HGG := Lib.hid (show FiG wr w be oe ne ce E L ww from hG); have HFF := Lib.hid hF
            have l4 : L 4 = true := by have h := hd; simp [Region.binds] at h; simp [h]
            have f4 := hF 4 l4
            have b4 := hA.at' 4 _ 65 rfl rfl rfl
            rw [show v 4 = _ from f4] at b4
            clear f4 l4
            clear hA hG hF hU hC hl hd hK
            go_simp
            exact HK.out _ _ ⟨_, rfl, fiG_below HGG.out (Below.refl _ _) 5, rfl, fun j hj => fiF_below (Below.refl _ _) 5 j _ (HFF.out j hj)⟩
          · intro L v aa ww hA hG hF hU hC hl hd K hK
            have HK := Lib.hid hK; have HGG := Lib.hid (show FiG wr w be oe ne ce E L ww from hG); have HFF := Lib.hid hF
            have n18 : L 18 = false := by
              cases e : L 18
              · rfl
              · exfalso
                have c18 := hC 18 _ rfl e
                simp [Region.binds] at c18
                have m17 : L 17 = true := by simp [c18]
                have c17 := hC 17 _ rfl m17
                simp [Region.binds] at c17
                have m6 : L 6 = true := by simp [c17]
                rw [hl] at m6; cases m6
            have l5 : L 5 = true := by have h := hd; simp [Region.binds] at h; simp [h]
            have f5 := hF 5 l5
            have b5 := hA.at' 5 _ 66 rfl rfl rfl
            rw [show v 5 = _ from f5] at b5
            clear f5 l5
            have hce := (World.cell?_of_block (w := wr) (w' := ww) (a := ⟨be, oe + k * 2 + 1, none⟩) ((hG.1 n18).block be hbe)).trans hc1
            clear n18
            clear hA hG hF hU hC hl hd hK
            go_simp
            exact HK.out _ _ ⟨_, rfl, fiG_below HGG.out (Below.refl _ _) 6, rfl, fun j hj => fiF_below (Below.refl _ _) 6 j _ (HFF.out j hj)⟩
          · intro L v aa ww hA hG hF hU hC hl hd K hK
            have HK := Lib.hid hK; have HGG := Lib.hid (show FiG wr w be oe ne ce E L ww from hG); have HFF := Lib.hid hF
            have n18 : L 18 = false := by
              cases e : L 18
              · rfl
              · exfalso
                have c18 := hC 18 _ rfl e
                simp [Region.binds] at c18
                have m17 : L 17 = true := by simp [c18]
                have c17 := hC 17 _ rfl m17
                simp [Region.binds] at c17
                have m16 : L 16 = true := by simp [c17]
                have c16 := hC 16 _ rfl m16
                simp [Region.binds] at c16
                have m9 : L 9 = true := by simp [c16]
                have c9 := hC 9 _ rfl m9
                simp [Region.binds] at c9
                have m7 : L 7 = true := by simp [c9]
                rw [hl] at m7; cases m7
            have hsz1 := (hG.1 n18).size
            clear n18
            clear hA hG hF hU hC hl hd hK
            go_simp
            exact HK.out _ _ ⟨_, rfl, fiG_below HGG.out ((Below.refl _ _).alloc (Nat.le_refl _) _) 7, ⟨ww.heap.size, rfl, fun _ => ⟨heap_alloc_new _ _, (OwnL.new strG 9 (size := 1) ww).mono hsz1⟩⟩, fun j hj => fiF_below ((Below.refl _ _).alloc (Nat.le_refl _) _) 7 j _ (HFF.out j hj)⟩
          · intro L v aa ww hA hG hF hU hC hl hd K hK
            have HK := Lib.hid hK; have HGG := Lib.hid (show FiG wr w be oe ne ce E L ww from hG); have HFF := Lib.hid hF
            have k2 := hA.keep 2 (.slice y m c) rfl rfl
            clear hA hG hF hU hC hl hd hK
            go_simp
            exact HK.out _ _ ⟨_, rfl, fiG_below HGG.out (Below.refl _ _) 8, rfl, fun j hj => fiF_below (Below.refl _ _) 8 j _ (HFF.out j hj)⟩
          · intro L v aa ww hA hG hF hU hC hl hd K hK
            have HK := Lib.hid hK; have HGG := Lib.hid (show FiG wr w be oe ne ce E L ww from hG); have HFF := Lib.hid hF
            have n18 : L 18 = false := by
              cases e : L 18
              · rfl
              · exfalso
                have c18 := hC 18 _ rfl e
                simp [Region.binds] at c18
                have m17 : L 17 = true := by simp [c18]
                have c17 := hC 17 _ rfl m17
                simp [Region.binds] at c17
                have m16 : L 16 = true := by simp [c17]
                have c16 := hC 16 _ rfl m16
                simp [Region.binds] at c16
                have m9 : L 9 = true := by simp [c16]
                rw [hl] at m9; cases m9
            have n16 : L 16 = false := by
              cases e : L 16
              · rfl
              · exfalso
                have c16 := hC 16 _ rfl e
                simp [Region.binds] at c16
                have m9 : L 9 = true := by simp [c16]
                rw [hl] at m9; cases m9
            have n17 : L 17 = false := by
              cases e : L 17
              · rfl
              · exfalso
                have c17 := hC 17 _ rfl e
                simp [Region.binds] at c17
                have m16 : L 16 = true := by simp [c17]
                have c16 := hC 16 _ rfl m16
                simp [Region.binds] at c16
                have m9 : L 9 = true := by simp [c16]
                rw [hl] at m9; cases m9
            have n19 : L 19 = false := by
              cases e : L 19
              · rfl
              · exfalso
                have c19 := hC 19 _ rfl e
                simp [Region.binds] at c19
                have m18 : L 18 = true := by simp [c19]
                rw [n18] at m18; cases m18
            have l7 : L 7 = true := by have h := hd; simp [Region.binds] at h; simp [h]
            have f7 := hF 7 l7
            have b7 := hA.at' 7 _ 68 rfl rfl rfl
            have l8 : L 8 = true := by have h := hd; simp [Region.binds] at h; simp [h]
            have f8 := hF 8 l8
            have b8 := hA.at' 8 _ 69 rfl rfl rfl
            rw [show v 8 = _ from f8] at b8
            obtain ⟨b, e7, h7⟩ := (show ∃ b, v 7 = .slice (some ⟨b, 0, none⟩) 0 0 ∧ (L 9 = false → ww.heap[b]? = some (.cells #[] 9 (0, 0)) ∧ OwnS ww wr.heap.size (.slice (some ⟨b, 0, none⟩) 0 0) []) from f7)
            obtain ⟨h7a, h7b⟩ := h7 hl
            rw [e7] at b7
            have HS := Lib.hid (Lst.below HPS.out (hG.1 n18) (Nat.le_refl _))
            have hsz1 := (hG.1 n18).size
            have hbb := h7b.at b rfl
            have HGB := Lib.hid (hG.1 n18)
            rw [if_pos (by first | rfl | simp [Region.wanted, yielded])]
            refine wp_appL eltStr encStr h7b HS.out (by simp) (by omega) hsz1 (.tmp 68) (.tmp 69) rfl (by simp [Act.eval, b7]) (by simp [Act.eval, b8]) ?_
            intro v' w' hown hgr _
            refine HK.out _ _ ⟨v', rfl, ⟨fun _ => HGB.out.grown hgr hsz1 (fun q e => by simp [Value.ownBlock] at e; omega), HGG.out.2.1.grown hgr (Nat.le_trans hsz0 hsz1) (fun q e => by simp [Value.ownBlock] at e; omega), World.ownsRow.kept HGG.out.2.2 hgr (own_ne HGG.out.2.2 h7b (by decide))⟩, fun _ => by simpa using hown, fun j hj => fiF_app9 h7a hgr hl n16 n17 n18 n19 j _ hj (HFF.out j hj)⟩
          · intro L v aa ww hA hG hF hU hC hl hd K hK
            have HK := Lib.hid hK; have HGG := Lib.hid (show FiG wr w be oe ne ce E L ww from hG); have HFF := Lib.hid hF
            have k12 := hA.keep 12 (.slice (some ⟨be, oe, none⟩) ne ce) rfl rfl
            clear hA hG hF hU hC hl hd hK
            go_simp
            exact HK.out _ _ ⟨_, rfl, fiG_below HGG.out (Below.refl _ _) 10, rfl, fun j hj => fiF_below (Below.refl _ _) 10 j _ (HFF.out j hj)⟩
          · intro L v aa ww hA hG hF hU hC hl hd K hK
            have HK := Lib.hid hK; have HGG := Lib.hid (show FiG wr w be oe ne ce E L ww from hG); have HFF := Lib.hid hF
            have k14 := hA.keep 14 (.int .i64 (k : Int)) rfl rfl
            clear hA hG hF hU hC hl hd hK
            go_simp
            exact HK.out _ _ ⟨_, rfl, fiG_below HGG.out (Below.refl _ _) 11, rfl, fun j hj => fiF_below (Below.refl _ _) 11 j _ (HFF.out j hj)⟩
          · intro L v aa ww hA hG hF hU hC hl hd K hK
            have HK := Lib.hid hK; have HGG := Lib.hid (show FiG wr w be oe ne ce E L ww from hG); have HFF := Lib.hid hF
            have l10 : L 10 = true := by have h := hd; simp [Region.binds] at h; simp [h]
            have f10 := hF 10 l10
            have b10 := hA.at' 10 _ 71 rfl rfl rfl
            have l11 : L 11 = true := by have h := hd; simp [Region.binds] at h; simp [h]
            have f11 := hF 11 l11
            have b11 := hA.at' 11 _ 72 rfl rfl rfl
            rw [show v 10 = _ from f10] at b10
            clear f10 l10
            rw [show v 11 = _ from f11] at b11
            clear f11 l11
            clear hA hG hF hU hC hl hd hK
            have hkn : (k : Int) < (ne : Int) := by omega
            go_simp
            exact HK.out _ _ ⟨_, rfl, fiG_below HGG.out (Below.refl _ _) 12, rfl, fun j hj => fiF_below (Below.refl _ _) 12 j _ (HFF.out j hj)⟩
          · intro L v aa ww hA hG hF hU hC hl hd K hK
            have HK := Lib.hid hK; have HGG := Lib.hid (show FiG wr w be oe ne ce E L ww from hG); have HFF := Lib.hid hF
            have l12 : L 12 = true := by have h := hd; simp [Region.binds] at h; simp [h]
            have f12 := hF 12 l12
            have b12 := hA.at' 12 _ 73 rfl rfl rfl
            rw [show v 12 = _ from f12] at b12
            clear f12 l12
            clear hA hG hF hU hC hl hd hK
            go_simp
            exact HK.out _ _ ⟨_, rfl, fiG_below HGG.out (Below.refl _ _) 13, rfl, fun j hj => fiF_below (Below.refl _ _) 13 j _ (HFF.out j hj)⟩
          · intro L v aa ww hA hG hF hU hC hl hd K hK
            have HK := Lib.hid hK; have HGG := Lib.hid (show FiG wr w be oe ne ce E L ww from hG); have HFF := Lib.hid hF
            have n18 : L 18 = false := by
              cases e : L 18
              · rfl
              · exfalso
                have c18 := hC 18 _ rfl e
                simp [Region.binds] at c18
                have m17 : L 17 = true := by simp [c18]
                have c17 := hC 17 _ rfl m17
                simp [Region.binds] at c17
                have m16 : L 16 = true := by simp [c17]
                have c16 := hC 16 _ rfl m16
                simp [Region.binds] at c16
                have m15 : L 15 = true := by simp [c16]
                have c15 := hC 15 _ rfl m15
                simp [Region.binds] at c15
                have m14 : L 14 = true := by simp [c15]
                rw [hl] at m14; cases m14
            have l13 : L 13 = true := by have h := hd; simp [Region.binds] at h; simp [h]
            have f13 := hF 13 l13
            have b13 := hA.at' 13 _ 74 rfl rfl rfl
            rw [show v 13 = _ from f13] at b13
            clear f13 l13
            have hce := (World.cell?_of_block (w := wr) (w' := ww) (a := ⟨be, oe + k * 2, none⟩) ((hG.1 n18).block be hbe)).trans hc0
            clear n18
            clear hA hG hF hU hC hl hd hK
            go_simp
            exact HK.out _ _ ⟨_, rfl, fiG_below HGG.out (Below.refl _ _) 14, rfl, fun j hj => fiF_below (Below.refl _ _) 14 j _ (HFF.out j hj)⟩
          · intro L v aa ww hA hG hF hU hC hl hd K hK
            have HK := Lib.hid hK; have HGG := Lib.hid (show FiG wr w be oe ne ce E L ww from hG); have HFF := Lib.hid hF
            have l14 : L 14 = true := by have h := hd; simp [Region.binds] at h; simp [h]
            have f14 := hF 14 l14
            have b14 := hA.at' 14 _ 75 rfl rfl rfl
            rw [show v 14 = _ from f14] at b14
            clear f14 l14
            clear hA hG hF hU hC hl hd hK
            go_simp
            exact HK.out _ _ ⟨_, rfl, fiG_below HGG.out ((Below.refl _ _).alloc (Nat.le_refl _) _) 15, ⟨ww.heap.size, rfl, fun _ => ⟨cell_new _ _ _ 0 _ rfl, by simp⟩⟩, fun j hj => fiF_below ((Below.refl _ _).alloc (Nat.le_refl _) _) 15 j _ (HFF.out j hj)⟩
          · intro L v aa ww hA hG hF hU hC hl hd K hK
            have HK := Lib.hid hK; have HGG := Lib.hid (show FiG wr w be oe ne ce E L ww from hG); have HFF := Lib.hid hF
            have n18 : L 18 = false := by
              cases e : L 18
              · rfl
              · exfalso
                have c18 := hC 18 _ rfl e
                simp [Region.binds] at c18
                have m17 : L 17 = true := by simp [c18]
                have c17 := hC 17 _ rfl m17
                simp [Region.binds] at c17
                have m16 : L 16 = true := by simp [c17]
                rw [hl] at m16; cases m16
            have n17 : L 17 = false := by
              cases e : L 17
              · rfl
              · exfalso
                have c17 := hC 17 _ rfl e
                simp [Region.binds] at c17
                have m16 : L 16 = true := by simp [c17]
                rw [hl] at m16; cases m16
            have n19 : L 19 = false := by
              cases e : L 19
              · rfl
              · exfalso
                have c19 := hC 19 _ rfl e
                simp [Region.binds] at c19
                have m18 : L 18 = true := by simp [c19]
                rw [n18] at m18; cases m18
            have l9 : L 9 = true := by have h := hd; simp [Region.binds] at h; simp [h]
            have f9 := hF 9 l9
            have b9 := hA.at' 9 _ 70 rfl rfl rfl
            have l15 : L 15 = true := by have h := hd; simp [Region.binds] at h; simp [h]
            have f15 := hF 15 l15
            have b15 := hA.at' 15 _ 76 rfl rfl rfl
            have h9 := (show L 16 = false → OwnS ww wr.heap.size (v 9) ps from f9) hl
            obtain ⟨y9, m9, c9, e9, _⟩ := h9.lst
            rw [e9] at b9 h9
            obtain ⟨b, e15, h15⟩ := (show ∃ b, v 15 = .slice (some ⟨b, 0, none⟩) 1 1 ∧ (L 16 = false → ww.cell? ⟨b, 0, none⟩ = some (.string q.1) ∧ b < ww.heap.size) from f15)
            obtain ⟨h15a, h15b⟩ := h15 hl
            rw [e15] at b15
            have hsz1 := (hG.1 n18).size
            have hat9 := h9.at
            have HGB := Lib.hid (hG.1 n18)
            rw [if_pos (by first | rfl | simp [Region.wanted, yielded])]
            refine wp_appL eltStr encStr h9 (one_str h15a h15b) (by omega) (by omega) hsz1 (.tmp 70) (.tmp 76) rfl (by simp [Act.eval, b9]) (by simp [Act.eval, b15]) ?_
            intro v' w' hown hgr _
            refine HK.out _ _ ⟨v', rfl, ⟨fun _ => HGB.out.grown hgr hsz1 (fun q e => hat9 q e), HGG.out.2.1.grown hgr (Nat.le_trans hsz0 hsz1) (fun q e => Nat.le_trans hsz0 (hat9 q e)), World.ownsRow.kept HGG.out.2.2 hgr (own_ne HGG.out.2.2 h9 (by decide))⟩, fun _ => hown, fun j hj => fiF_app16 l9 hl n17 n18 n19 j _ hj (HFF.out j hj)⟩
          · intro L v aa ww hA hG hF hU hC hl hd K hK
            have HK := Lib.hid hK; have HGG := Lib.hid (show FiG wr w be oe ne ce E L ww from hG); have HFF := Lib.hid hF
            have n18 : L 18 = false := by
              cases e : L 18
              · rfl
              · exfalso
                have c18 := hC 18 _ rfl e
                simp [Region.binds] at c18
                have m17 : L 17 = true := by simp [c18]
                rw [hl] at m17; cases m17
            have l1 : L 1 = true := by have h := hd; simp [Region.binds] at h; simp [h]
            have f1 := hF 1 l1
            have b1 := hA.at' 1 _ 62 rfl rfl rfl
            have l6 : L 6 = true := by have h := hd; simp [Region.binds] at h; simp [h]
            have f6 := hF 6 l6
            have b6 := hA.at' 6 _ 67 rfl rfl rfl
            have l16 : L 16 = true := by have h := hd; simp [Region.binds] at h; simp [h]
            have f16 := hF 16 l16
            have b16 := hA.at' 16 _ 77 rfl rfl rfl
            rw [show v 1 = _ from f1] at b1
            clear f1 l1
            rw [show v 6 = _ from f6] at b6
            clear f6 l6
            have h16 := (show L 18 = false → OwnS ww wr.heap.size (v 16) (ps ++ [q.1]) from f16) n18
            obtain ⟨y6, m6, c6, e6, hi6⟩ := h16.lst
            rw [e6] at b16
            have HI6 := Lib.hid hi6
            have HLW := Lib.hid ((HH.out.below HB.out hB).below (hG.1 n18) (Nat.le_trans hB hsz0))
            have hsz1 := (hG.1 n18).size
            clear n18 f16 l16 e6 h16 hi6
            clear hA hG hF hU hC hl hd hK
            go_simp
            go_at_call 66
            refine (ih q.2 (ps ++ [q.1]) y6 m6 c6 B ww (by rw [List.length_append, List.length_singleton]; omega) HLW.out (Nat.le_trans hB (Nat.le_trans hsz0 hsz1)) HI6.out HSM.out).mono ?_
            rintro e w3 ⟨u, rfl, ho, hb⟩
            exact HK.out _ _ ⟨_, rfl, fiG_below HGG.out hb 17, fun _ => ho.mono hsz1, fun j hj => fiF_below hb 17 j _ (HFF.out j hj)⟩
          · intro L v aa ww hA hG hF hU hC hl hd K hK
            have HK := Lib.hid hK; have HGG := Lib.hid (show FiG wr w be oe ne ce E L ww from hG); have HFF := Lib.hid hF
            have hd0 := hd
            simp [Region.binds] at hd0
            have m17 : L 17 = true := by simp [hd0]
            have c17 := hC 17 _ rfl m17
            simp [Region.binds] at c17
            have t16 : L 16 = true := by simp [c17]
            have m17 : L 17 = true := by simp [hd0]
            have c17 := hC 17 _ rfl m17
            simp [Region.binds] at c17
            have m16 : L 16 = true := by simp [c17]
            have c16 := hC 16 _ rfl m16
            simp [Region.binds] at c16
            have t9 : L 9 = true := by simp [c16]
            have n19 : L 19 = false := by
              cases e : L 19
              · rfl
              · exfalso
                have c19 := hC 19 _ rfl e
                simp [Region.binds] at c19
                have m18 : L 18 = true := by simp [c19]
                rw [hl] at m18; cases m18
            have l0 : L 0 = true := by have h := hd; simp [Region.binds] at h; simp [h]
            have f0 := hF 0 l0
            have b0 := hA.at' 0 _ 61 rfl rfl rfl
            have l17 : L 17 = true := by have h := hd; simp [Region.binds] at h; simp [h]
            have f17 := hF 17 l17
            have b17 := hA.at' 17 _ 78 rfl rfl rfl
            rw [show v 0 = _ from f0] at b0
            have h17 := (show L 18 = false → OwnS ww wr.heap.size (v 17) (filesB l d q.2 (ps ++ [q.1])) from f17) hl
            obtain ⟨y7, m7, c7, e7, hi7⟩ := h17.lst
            rw [e7] at b17
            have hown := HOW.out.below (hG.1 hl)
            have hsz1 := (hG.1 hl).size
            have hm7 : m7 ≤ 2000000 := by rw [← hi7.len]; exact Nat.le_trans (files_many (by omega)) (by decide)
            rw [if_pos (by first | rfl | simp [Region.wanted, yielded])]
            refine wp_appL eltStr encStr hown hi7 HACC.out hm7 (Nat.le_trans hsz0 hsz1) (.tmp 61) (.tmp 78) rfl (by simp [Act.eval, b0]) (by simp [Act.eval, b17]) ?_
            intro v' w' hown2 hgr _
            refine HK.out _ _ ⟨v', rfl, ⟨fun e => by simp at e, HGG.out.2.1.grown hgr (Nat.le_trans hsz0 hsz1) (fun q e => OwnL.at hown q e), World.ownsRow.kept HGG.out.2.2 hgr (own_ne HGG.out.2.2 hown (by decide))⟩, hown2, fun j hj => fiF_app18 t9 t16 hl n19 j _ hj (HFF.out j hj)⟩
          · intro L v aa ww hA hG hF hU hC hl hd K hK
            have HK := Lib.hid hK; have HGG := Lib.hid (show FiG wr w be oe ne ce E L ww from hG); have HFF := Lib.hid hF
            have l18 : L 18 = true := by have h := hd; simp [Region.binds] at h; simp [h]
            have f18 := hF 18 l18
            have b18 := hA.at' 18 _ 79 rfl rfl rfl
            have h18 := (show OwnS ww w.heap.size (v 18) (acc ++ filesB l d q.2 (ps ++ [q.1])) from f18)
            obtain ⟨y8, m8, c8, e8, _⟩ := h18.lst
            rw [e8] at b18 h18
            have HO8 := Lib.hid h18
            clear f18 l18 e8 h18
            clear hA hG hF hU hC hl hd hK
            go_simp
            exact HK.out _ _ ⟨_, rfl, fiG_below HGG.out (Below.refl _ _) 19, HO8.out, fun j hj => fiF_below (Below.refl _ _) 19 j _ (HFF.out j hj)⟩
        · intro L v ww hF hL hG
          have h19 := (show OwnS ww w.heap.size (v 19) _ from hF 19 (by decide))
          obtain ⟨y9, m9, c9, e9, _⟩ := h19.lst
          rw [e9] at h19
          have HO9 := Lib.hid h19; have HBN := Lib.hid hG.2.1; have HEN := Lib.hid hG.2.2
          clear hF hL hG h19
          simp only [frameOf, Act.put, List.setIfInBounds_toArray, List.set_cons_succ, List.set_cons_zero]
          rw [e9]
          clear e9
          go_wp2
          go_roundw
          case rel => exact ⟨k + 1, by omega, by go_num, by rw [HST.out]; exact HO9.out, HBN.out, HEN.out⟩
          case measure => simp [intOf]; omega
      · obtain rfl : k = ne := by omega
        have HFF := Lib.hid HF.out
        go_wp2
        go_ret
        refine ⟨_, rfl, ?_, HB.out⟩
        rw [HFF.out]
        have := HOW.out
        rwa [List.take_of_length_le (by have := HLEN.out; omega)] at this
end Go.Proofs.YtglajbmopiolhaaGreatDoor
