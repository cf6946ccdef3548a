/-
  Slices of slices in memory: the entries of the folders on the way.
-/
import Derived.Test.YtglajbmopiolhaaGreatDoorMath10c
import Derived.Test.YtglajbmopiolhaaGreatDoorImpl9
import Derived.Deep.CutRange
import Derived.Deep.CutBlock
namespace Go.Proofs.YtglajbmopiolhaaGreatDoor
open Go.RowKit
set_option linter.unusedVariables false
/-- A slice, as a cell. -/
abbrev SV := Option Addr × Nat × Nat
def svG (s : SV) : List Value := [.slice s.1 s.2.1 s.2.2]
theorem encSv : Enc svG 1 := ⟨fun _ => rfl, fun s u hu => by simp only [svG, List.mem_singleton] at hu; subst hu; rfl, by decide⟩
theorem Tryz.infoSv : (Tryz.prog.info? 104).map (fun i => (i.zero, i.size, i.bytes)) = some (some (.slice none 0 0), 1, 24) := by kernel_rfl
theorem eltSv : Elt 114 104 1 (.slice none 0 0) := elt_of Tryz.underlying114 Tryz.infoSv (by decide) rfl (by decide)
def nthV (l : List SV) (k : Nat) : SV := l.getD k (none, 0, 0)
def nthF (Es : List (List Ent)) (k : Nat) : List Ent := Es.getD k []
theorem nthV_take {l : List SV} {m k : Nat} (h : k < m) : nthV (l.take m) k = nthV l k := by
  unfold nthV; rw [List.getD_eq_getElem?_getD, List.getD_eq_getElem?_getD, List.getElem?_take, if_pos h]
theorem nthF_take {l : List (List Ent)} {m k : Nat} (h : k < m) : nthF (l.take m) k = nthF l k := by
  unfold nthF; rw [List.getD_eq_getElem?_getD, List.getD_eq_getElem?_getD, List.getElem?_take, if_pos h]
theorem nthF_map {zs : List (List Ent × ByteArray)} {k : Nat} (h : k < zs.length) : nthF (zs.map (·.1)) k = (nthZ zs k).1 := by
  unfold nthF nthZ
  rw [List.getD_eq_getElem?_getD, List.getD_eq_getElem?_getD, List.getElem?_map, List.getElem?_eq_getElem h]; rfl
theorem nthS_map {zs : List (List Ent × ByteArray)} {k : Nat} (h : k < zs.length) : nthS (zs.map (·.2)) k = (nthZ zs k).2 := by
  unfold nthS nthZ
  rw [List.getD_eq_getElem?_getD, List.getD_eq_getElem?_getD, List.getElem?_map, List.getElem?_eq_getElem h]; rfl
/-- The slice (x, n, cap) reads as lists of entries. -/
def Fols (w : World) (B : Nat) (x : Option Addr) (n cap : Nat) (Es : List (List Ent)) : Prop :=
  ∃ vs : List SV, Lst svG w B x n cap vs ∧ Es.length = n ∧ ∀ k, k < n → Ents w B (nthV vs k).1 (nthV vs k).2.1 (nthV vs k).2.2 (nthF Es k)
section
variable {w w' : World} {B B' : Nat} {x : Option Addr} {n cap : Nat} {Es : List (List Ent)}
theorem Fols.below (h : Fols w B x n cap Es) (hb : Below B' w w') (hB : B ≤ B') : Fols w' B x n cap Es := by
  obtain ⟨vs, h1, h2, h3⟩ := h
  exact ⟨vs, h1.below hb hB, h2, fun k hk => (h3 k hk).below hb hB⟩
theorem Fols.more (h : Fols w B x n cap Es) (hB : B ≤ B') : Fols w B' x n cap Es := by
  obtain ⟨vs, h1, h2, h3⟩ := h
  exact ⟨vs, h1.more hB, h2, fun k hk => (h3 k hk).more hB⟩
theorem Fols.drewN (h : Fols w B x n cap Es) (m : Nat) : Fols (w.drewN m) B x n cap Es := by
  obtain ⟨vs, h1, h2, h3⟩ := h
  exact ⟨vs, h1.drewN m, h2, fun k hk => (h3 k hk).drewN m⟩
theorem Fols.cut (h : Fols w B x n cap Es) {m : Nat} (hm : m ≤ n) : Fols w B x m cap (Es.take m) := by
  obtain ⟨vs, h1, h2, h3⟩ := h
  exact ⟨vs.take m, h1.cut hm, by rw [List.length_take]; omega, fun k hk => by
    rw [nthV_take hk, nthF_take hk]; exact h3 k (by omega)⟩
theorem Fols.at (h : Fols w B x n cap Es) {k : Nat} (hk : k < n) : ∃ b off y m c, x = some ⟨b, off, none⟩ ∧ b < B ∧ w.cell? ⟨b, off + k, none⟩ = some (.slice y m c) ∧ Ents w B y m c (nthF Es k) := by
  obtain ⟨vs, h1, h2, h3⟩ := h
  obtain ⟨b, off, e, hb, hc⟩ := Lst.at encSv h1 (k := k) (j := 0) (v := .slice (nthV vs k).1 (nthV vs k).2.1 (nthV vs k).2.2) (none, 0, 0) hk (by decide) rfl
  rw [Nat.mul_one, Nat.add_zero] at hc
  exact ⟨b, off, _, _, _, e, hb, hc, h3 k hk⟩
theorem Fols.len (h : Fols w B x n cap Es) : Es.length = n := by obtain ⟨vs, h1, h2, h3⟩ := h; exact h2
theorem Fols.le (h : Fols w B x n cap Es) : n ≤ cap := by obtain ⟨vs, h1, h2, h3⟩ := h; exact h1.le
theorem Fols.max (h : Fols w B x n cap Es) : cap ≤ maxLen := by obtain ⟨vs, h1, h2, h3⟩ := h; exact h1.max
end
/-- A row of slices of the call's own, and their rows. -/
def OwnF (w : World) (base : Nat) (v : Value) (Es : List (List Ent)) : Prop :=
  ∃ vs : List SV, OwnL svG 104 1 w base v vs ∧ vs.length = Es.length ∧ ∀ k, k < Es.length → OwnE w base (.slice (nthV vs k).1 (nthV vs k).2.1 (nthV vs k).2.2) (nthF Es k)
section
variable {w w' : World} {base base' : Nat} {v : Value} {Es : List (List Ent)}
theorem OwnF.below (h : OwnF w base v Es) (hb : Below w.heap.size w w') : OwnF w' base v Es := by
  obtain ⟨vs, h1, h2, h3⟩ := h
  exact ⟨vs, h1.below hb, h2, fun k hk => (h3 k hk).below hb⟩
theorem OwnF.mono (h : OwnF w base v Es) (hb : base' ≤ base) : OwnF w base' v Es := by
  obtain ⟨vs, h1, h2, h3⟩ := h
  exact ⟨vs, h1.mono hb, h2, fun k hk => (h3 k hk).mono hb⟩
theorem OwnF.fols (h : OwnF w base v Es) : ∃ x n c, v = .slice x n c ∧ Fols w w.heap.size x n c Es := by
  obtain ⟨vs, h1, h2, h3⟩ := h
  obtain ⟨x, n, c, rfl, hl⟩ := h1.lst
  have hn : n = Es.length := by rw [← hl.len, h2]
  exact ⟨x, n, c, rfl, vs, hl, hn.symm, fun k hk => (h3 k (by omega)).lst'⟩
theorem OwnF.lit {x : Option Addr} {n c : Nat} {E : List Ent} (h : OwnE w base (.slice x n c) E) (hb : base ≤ w.heap.size) :
    OwnF (w.alloc (.cells #[.slice x n c] 104)) base (.slice (some ⟨w.heap.size, 0, none⟩) 1 1) [E] := by
  refine ⟨[(x, n, c)], OwnL.mono (World.ownsRow_lit (base := w.heap.size) (e := 104) (size := 1) w #[.slice x n c] 1 (Nat.le_refl _) (by decide) rfl) hb, rfl, fun k hk => ?_⟩
  have hk0 : k = 0 := by simp at hk; exact hk
  subst hk0
  exact OwnL.alloc h _
theorem OwnF.snoc {vs : List SV} {x : Option Addr} {n c : Nat} {E : List Ent} {v' : Value} (h1 : OwnL svG 104 1 w base v vs) (h2 : vs.length = Es.length) (h3 : ∀ k, k < Es.length → OwnE w base (.slice (nthV vs k).1 (nthV vs k).2.1 (nthV vs k).2.2) (nthF Es k))
    (hE : OwnE w base (.slice x n c) E) (hown : OwnL svG 104 1 w' base v' (vs ++ [(x, n, c)])) (hg : w.grownBy w' v.ownBlock) : OwnF w' base v' (Es ++ [E]) ∧ OwnE w' base (.slice x n c) E := by
  have key : ∀ (y : Option Addr) (m d : Nat) (F : List Ent), OwnE w base (.slice y m d) F → OwnE w' base (.slice y m d) F := fun y m d F hF => World.ownsRow.kept hF hg (own_ne hF h1 (by decide))
  refine ⟨⟨vs ++ [(x, n, c)], hown, by rw [List.length_append, List.length_append, h2]; rfl, fun k hk => ?_⟩, key _ _ _ _ hE⟩
  rw [List.length_append] at hk
  by_cases hlt : k < Es.length
  · have e1 : nthV (vs ++ [(x, n, c)]) k = nthV vs k := by
      unfold nthV; rw [List.getD_eq_getElem?_getD, List.getD_eq_getElem?_getD, List.getElem?_append_left (by omega)]
    have e2 : nthF (Es ++ [E]) k = nthF Es k := by
      unfold nthF; rw [List.getD_eq_getElem?_getD, List.getD_eq_getElem?_getD, List.getElem?_append_left (by omega)]
    rw [e1, e2]
    exact key _ _ _ _ (h3 k hlt)
  · have hk0 : k = Es.length := by simp at hk; omega
    have e1 : nthV (vs ++ [(x, n, c)]) k = (x, n, c) := by
      unfold nthV; rw [List.getD_eq_getElem?_getD, List.getElem?_append_right (by omega), show k - vs.length = 0 by omega]; rfl
    have e2 : nthF (Es ++ [E]) k = E := by
      unfold nthF; rw [List.getD_eq_getElem?_getD, List.getElem?_append_right (by omega), show k - Es.length = 0 by omega]; rfl
    rw [e1, e2]
    exact key _ _ _ _ hE
end
/-! ### the way, a step at a time -/
def openB (l : List Pc) (c : Int) : Bool := decide (c < 0) || isFold (getT l c)
theorem way_step {l : List Pc} {root : Int} {ps : List ByteArray} {k : Nat} {c : Int} (hk : k < ps.length) (h : (wayZ l root ps).drop k = wayZ l c (ps.drop k)) :
    (wayZ l root ps).drop (k + 1) = wayZ l (lastE (nthS ps k) (-1) (entsAt l c)) (ps.drop (k + 1)) ∧ waysB l c (ps.drop k) = (openB l c && waysB l (lastE (nthS ps k) (-1) (entsAt l c)) (ps.drop (k + 1))) := by
  have e : ps.drop k = nthS ps k :: ps.drop (k + 1) := by rw [List.drop_eq_getElem_cons hk, ← nthS_get hk]
  rw [e, wayZ] at h
  refine ⟨?_, by rw [e, waysB]; rfl⟩
  have : (wayZ l root ps).drop (k + 1) = ((wayZ l root ps).drop k).drop 1 := by rw [List.drop_drop]
  rw [this, h]; rfl
theorem way_take {l : List Pc} {root : Int} {ps : List ByteArray} {k : Nat} {c : Int} (hk : k < ps.length) (h : (wayZ l root ps).drop k = wayZ l c (ps.drop k)) :
    ((wayZ l root ps).take (k + 1)).map (·.1) = ((wayZ l root ps).take k).map (·.1) ++ [entsAt l c] := by
  have e : ps.drop k = nthS ps k :: ps.drop (k + 1) := by rw [List.drop_eq_getElem_cons hk, ← nthS_get hk]
  have hl : k < (wayZ l root ps).length := by rw [wayZ_len]; exact hk
  rw [e, wayZ, List.drop_eq_getElem_cons hl] at h
  rw [List.take_succ_eq_append_getElem hl, List.map_append, (List.cons.inj h).1]; rfl
theorem wayZ_map2 (l : List Pc) : ∀ (ps : List ByteArray) (p : Int), (wayZ l p ps).map (·.2) = ps
  | [], _ => rfl
  | nm :: r, p => by rw [wayZ, List.map_cons, wayZ_map2 l r]
theorem way_ents {l : List Pc} {p : Int} {ps : List ByteArray} : ∀ z ∈ wayZ l p ps, entsB z.1 = true := by
  intro z hz
  obtain ⟨k, hk, rfl⟩ := List.mem_iff_getElem.1 hz
  rw [← nthZ_get hk]
  exact wayZ_ents l ps p k
theorem place_last {E : List Ent} {nm : ByteArray} (hE : entsB E = true) : (hereE nm E = false → lastE nm (-1) E = -1) ∧ (hereE nm E = true → atE nm E < E.length ∧ (nthE E (atE nm E)).2 = lastE nm (-1) E ∧ 0 ≤ lastE nm (-1) E) := by
  constructor
  · intro h
    have h1 := lessE_none (ents_asc hE) h
    refine lastE_none fun q hq e => ?_
    rw [← h1] at hq
    exact (mem_less.1 hq).2 e
  · intro h
    obtain ⟨h1, h2⟩ := findE_here h
    have hm := findE_mem h2
    have hl := lastE_in (d := -1) (ascN_of hE) hm
    have hp := (ents_ok hE _ hm).2
    unfold isPr at hp
    rw [decide_eq_true_eq] at hp
    exact ⟨h1, hl.symm, by rw [hl]; exact hp.1⟩
theorem upO_none {l : List Pc} {t : ByteArray} : ∀ {zs : List (List Ent × ByteArray)} {k : Nat}, upO l t (zs.drop k) = none → upO l t zs = none
  | zs, 0, h => by rwa [List.drop_zero] at h
  | [], k + 1, h => by rwa [List.drop_nil] at h
  | z :: zs, k + 1, h => by
    rw [List.drop_succ_cons] at h
    rw [upO, upO_none h]; rfl
theorem upO_step {l : List Pc} {t : ByteArray} {zs : List (List Ent × ByteArray)} {k : Nat} (hk : k < zs.length) : upO l t (zs.drop k) = stepU (upO l t (zs.drop (k + 1))) (nthZ zs k).1 (nthZ zs k).2 := by
  rw [List.drop_eq_getElem_cons hk, upO, nthZ_get hk]
theorem ents_root {l : List Pc} {p : Int} (hs : storeB l = true) : foldL (gotT l p) = entsAt l p ∧ isFold (gotT l p) = isFold (getT l p) := by
  rw [(got_yes p hs).1]
  refine ⟨?_, rfl⟩
  unfold entsAt
  by_cases h : 0 ≤ p
  · rw [if_pos h]
  · rw [if_neg h]
    refine foldL_no ?_
    cases hf : isFold (getT l p)
    · rfl
    · have := (get_right hs (fold_get hf)).2.2; omega
theorem upO_store {l : List Pc} {t : ByteArray} : ∀ {zs : List (List Ent × ByteArray)} {s : List Pc} {q : Int}, upO l t zs = some (s, q) → storeB s = true
  | [], s, q, h => by
    obtain ⟨h1, h2, _⟩ := putO_some (show putO l t = some (s, q) from h)
    rw [← h2]; exact (put_yes h1).2.2.2.1
  | z :: zs, s, q, h => by
    obtain ⟨s1, q1, _, _, e3, e4, _⟩ := stepU_some (show stepU (upO l t zs) z.1 z.2 = some (s, q) from h)
    rw [← e4]; exact (put_yes e3).2.2.2.1
end Go.Proofs.YtglajbmopiolhaaGreatDoor
