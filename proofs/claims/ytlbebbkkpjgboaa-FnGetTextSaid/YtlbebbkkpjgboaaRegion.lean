/-
  A region that draws its order, by an invariant: each operation is looked at once, in whatever order it comes up.
-/
import Derived.Test.YtlbebbkkpjgboaaRows
import Derived.WalkKit
import Derived.Lib.Hide
import Derived.RegionTactic
import Derived.StillTail
namespace Go.Proofs.Ytlbebbkkpjgboaa
open Go.RowKit
set_option linter.unusedVariables false
def AllOps (R : Nat → Oper → Prop) : Nat → List Oper → Prop
  | _, [] => True
  | k, o :: t => R k o ∧ AllOps R (k + 1) t
theorem AllOps.get {R : Nat → Oper → Prop} : ∀ {l : List Oper} {k : Nat}, AllOps R k l → ∀ j o, l[j]? = some o → R (k + j) o
  | [], k, h, j, o, e => by simp at e
  | a :: l, k, h, 0, o, e => by
    simp only [List.getElem?_cons_zero, Option.some.injEq] at e
    subst e; exact h.1
  | a :: l, k, h, j + 1, o, e => by
    have := AllOps.get h.2 j o (by simpa using e)
    rw [show k + (j + 1) = k + 1 + j by omega]; exact this
/-- Every operation waits for earlier ones alone. -/
def backB (md : Region.Mode) (ops : Array Oper) : Bool := (List.range ops.size).all fun i => match ops[i]? with
  | some o => o.after.all fun e => !Region.binds md e || decide (e.on < i)
  | none => true
theorem all_listed {md : Region.Mode} {ops : Array Oper} {listed : Array Bool} (hb : backB md ops = true) (hs : listed.size = ops.size) (h : Region.ready md ops listed = []) : ∀ n j, j < n → j < ops.size → listed.getD j false = true := by
  intro n
  induction n with
  | zero => intro j h1; omega
  | succ n ih =>
    intro j h1 h2
    cases hl : listed.getD j false with
    | true => rfl
    | false =>
      exfalso
      have hm : j ∈ Region.ready md ops listed := by
        refine mem_ready.2 ⟨getD_in (by omega) hl, ops[j], Array.getElem?_eq_getElem h2, fun e he hbd => ?_⟩
        have h3 := List.all_eq_true.1 hb j (List.mem_range.2 h2)
        rw [Array.getElem?_eq_getElem h2] at h3
        simp only [Array.all_eq_true'] at h3
        have h4 := h3 e he
        rw [hbd] at h4
        simp only [Bool.not_true, Bool.false_or, decide_eq_true_eq] at h4
        exact ih e.on (by omega) (by omega)
      rw [h] at hm
      cases hm
theorem wpAny_inv {P : Program} {md : Region.Mode} {ops : Array Oper} {Q : Exit → Act → World → Prop} (I : (Nat → Bool) → Act → World → Prop) (hb : backB md ops = true)
    (hs : AllOps (fun k o => ∀ L a w, I L a w → L k = false → (o.after.all fun e => !Region.binds md e || L e.on) = true → ∀ K : Act → World → Prop, (∀ a w, I (fun j => j == k || L j) a w → K a w) →
      if Region.wanted o (yielded ops a.tmps) = true then Oper.wp P o a w K Q else K (a.put o.dst undef) w) 0 ops.toList)
    (he : ∀ L a w, (∀ j, j < ops.size → L j = true) → I L a w → Q .normal a w) :
    ∀ (fuel : Nat) (listed : Array Bool) (a : Act) (w : World), listed.size = ops.size → listed.toList.count false ≤ fuel → I (fun j => listed.getD j false) a w → wpAny P md ops Q fuel listed a w := by
  intro fuel
  induction fuel with
  | zero =>
    intro listed a w hsz hc hI
    have hall : ∀ j, j < ops.size → listed.getD j false = true := fun j hj => by
      have hj' : j < listed.size := by omega
      cases hl : listed.getD j false with
      | true => rfl
      | false =>
        have : false ∈ listed.toList := by
          rw [List.mem_iff_getElem]
          refine ⟨j, by simpa using hj', ?_⟩
          simpa [hj'] using hl
        have := List.count_pos_iff.2 this
        omega
    refine ⟨?_, he _ a w hall hI⟩
    rw [List.eq_nil_iff_forall_not_mem]
    intro i hi
    obtain ⟨h1, o, ho, _⟩ := mem_ready.1 hi
    have h2 := (Array.getElem?_eq_some_iff.1 ho).1
    have h3 := hall i h2
    have h4 := getD_both h1
    rw [h3] at h4; cases h4
  | succ fuel ih =>
    intro listed a w hsz hc hI
    refine ⟨fun h0 => he _ a w (fun j hj => all_listed hb hsz h0 (j + 1) j (by omega) hj) hI, fun i hi => ?_⟩
    obtain ⟨h1, o, ho, hd⟩ := mem_ready.1 hi
    have hlt := (Array.getElem?_eq_some_iff.1 ho).1
    have hf := getD_both h1
    have h2 := hs.get i o (by simpa using ho)
    rw [Nat.zero_add] at h2
    refine wpOp_step ho fun K hK => h2 _ a w hI hf ?_ K fun a' w' hI' => hK a' w' (ih _ a' w' (by simpa using hsz) ?_ ?_)
    · rw [Array.all_eq_true']
      intro e hem
      cases hbd : Region.binds md e with
      | false => rfl
      | true => simpa using hd e hem hbd
    · have hi' : i < listed.toList.length := by simp; omega
      have h3 : listed.toList[i] = false := by
        have : i < listed.size := by omega
        simpa [this] using hf
      have h5 : (listed.setIfInBounds i true).toList = listed.toList.set i true := by simp
      rw [h5, List.count_set hi', h3]
      have : 0 < listed.toList.count false := List.count_pos_iff.2 (by rw [← h3]; exact List.getElem_mem hi')
      rw [if_pos (by rfl), if_neg (by decide)]
      omega
    · have : (fun j => (listed.setIfInBounds i true).getD j false) = (fun j => j == i || listed.getD j false) := by
        funext j
        by_cases e : j = i
        · subst e
          have : j < listed.size := by omega
          simp [this]
        · rw [getD_set_ne false (fun h => e h.symm)]
          simp [e]
      rw [this]; exact hI'
/-- A region that draws its order, by an invariant. -/
theorem region_inv {P : Program} {ops : Array Oper} {Q : Exit → Act → World → Prop} {id : Nat} {a : Act} {w : World} (I : (Nat → Bool) → Act → World → Prop) (hm : P.follows .mixedOrders = true) (hb : backB .any ops = true)
    (h0 : I (fun _ => false) a w.drew)
    (hs : AllOps (fun k o => ∀ L a w, I L a w → L k = false → (o.after.all fun e => !Region.binds .any e || L e.on) = true → ∀ K : Act → World → Prop, (∀ a w, I (fun j => j == k || L j) a w → K a w) →
      if Region.wanted o (yielded ops a.tmps) = true then Oper.wp P o a w K Q else K (a.put o.dst undef) w) 0 ops.toList)
    (he : ∀ L a w, (∀ j, j < ops.size → L j = true) → I L a w → Q .normal a w) : (Code.region id ops true).wp P Q a w := by
  refine wp_region_any hm (wpAny_inv I hb hs he ops.size _ a _ (by simp) ?_ ?_)
  · have h1 : (Array.replicate ops.size false).toList.length = ops.size := by simp
    exact Nat.le_trans List.count_le_length (by rw [h1]; exact Nat.le_refl _)
  · have : (fun j => (Array.replicate ops.size false).getD j false) = fun _ => false := by funext j; exact getD_replicate_false _ _
    rw [this]; exact h0
/-! ### values and facts -/
/-- The frame in which operation k has yielded u k. -/
def frameOf : List Oper → Nat → (Nat → Value) → Act → Act
  | [], _, _, a => a
  | o :: t, k, u, a => frameOf t (k + 1) u (a.put o.dst (u k))
def distB : List Oper → Bool
  | [] => true
  | o :: t => t.all (fun p => o.dst.isNone || p.dst != o.dst) && distB t
theorem put_same (a : Act) (d : Option Tmp) (x v : Value) : (a.put d x).put d v = a.put d v := by
  cases d with
  | none => rfl
  | some d => simp [Act.put, Array.setIfInBounds_setIfInBounds]
theorem put_frame : ∀ (t : List Oper) (k : Nat) (u : Nat → Value) (b : Act) (d : Option Tmp) (v : Value), (t.all fun p => d.isNone || p.dst != d) = true → (frameOf t k u b).put d v = frameOf t k u (b.put d v)
  | [], k, u, b, d, v, h => rfl
  | o :: t, k, u, b, d, v, h => by
    simp only [List.all_cons, Bool.and_eq_true] at h
    rw [frameOf, frameOf, put_frame t (k + 1) u _ d v h.2]
    congr 1
    refine Act.put_comm b _ _ fun e he hd => ?_
    have h1 := h.1
    rw [hd, he] at h1
    simp at h1
theorem frame_ext : ∀ (t : List Oper) (k : Nat) (u u' : Nat → Value) (b : Act), (∀ j, k ≤ j → u j = u' j) → frameOf t k u b = frameOf t k u' b
  | [], k, u, u', b, h => rfl
  | o :: t, k, u, u', b, h => by rw [frameOf, frameOf, h k (Nat.le_refl _)]; exact frame_ext t (k + 1) u u' _ fun j hj => h j (by omega)
def upd (u : Nat → Value) (k : Nat) (v : Value) : Nat → Value := fun j => if j = k then v else u j
theorem frame_put : ∀ (l : List Oper) (k : Nat) (u : Nat → Value) (b : Act) (j : Nat) (o : Oper) (v : Value), distB l = true → l[j]? = some o → (frameOf l k u b).put o.dst v = frameOf l k (upd u (k + j) v) b
  | [], k, u, b, j, o, v, h, ho => by simp at ho
  | p :: t, k, u, b, 0, o, v, h, ho => by
    simp only [List.getElem?_cons_zero, Option.some.injEq] at ho
    subst ho
    simp only [distB, Bool.and_eq_true] at h
    rw [frameOf, frameOf, put_frame t (k + 1) u _ _ v h.1, put_same]
    have e : upd u (k + 0) v k = v := by unfold upd; rw [if_pos (by omega)]
    rw [e]
    exact frame_ext t (k + 1) u _ _ fun j hj => by unfold upd; rw [if_neg (by omega)]
  | p :: t, k, u, b, j + 1, o, v, h, ho => by
    simp only [distB, Bool.and_eq_true] at h
    have e : upd u (k + (j + 1)) v k = u k := by unfold upd; rw [if_neg (by omega)]
    rw [frameOf, frameOf, e, show k + (j + 1) = k + 1 + j by omega]
    exact frame_put t (k + 1) u _ j o v h.2 (by simpa using ho)
theorem put_get_ne {a : Act} {dst : Option Tmp} {v : Value} {d : Nat} (h : dst ≠ some d) : (a.put dst v).tmps.getD d undef = a.tmps.getD d undef := by
  cases dst with
  | none => rfl
  | some e =>
    have hne : e ≠ d := fun h1 => h (by rw [h1])
    simp [Act.put, Array.getElem?_setIfInBounds_ne hne]
theorem put_size (a : Act) (dst : Option Tmp) (v : Value) : (a.put dst v).tmps.size = a.tmps.size := by cases dst <;> simp [Act.put]
theorem frame_size : ∀ (l : List Oper) (k : Nat) (u : Nat → Value) (a : Act), (frameOf l k u a).tmps.size = a.tmps.size
  | [], k, u, a => rfl
  | o :: t, k, u, a => by rw [frameOf, frame_size t, put_size]
theorem frame_keep : ∀ (l : List Oper) (k : Nat) (u : Nat → Value) (a : Act) (d : Nat), (l.all fun o => o.dst != some d) = true → (frameOf l k u a).tmps.getD d undef = a.tmps.getD d undef
  | [], k, u, a, d, h => rfl
  | o :: t, k, u, a, d, h => by
    simp only [List.all_cons, Bool.and_eq_true] at h
    rw [frameOf, frame_keep t (k + 1) u _ d h.2]
    exact put_get_ne (by simpa using h.1)
theorem frame_at : ∀ (l : List Oper) (k : Nat) (u : Nat → Value) (a : Act) (j : Nat) (o : Oper) (d : Nat), distB l = true → l[j]? = some o → o.dst = some d → d < a.tmps.size → (frameOf l k u a).tmps.getD d undef = u (k + j)
  | [], k, u, a, j, o, d, h, ho, hd, hs => by simp at ho
  | p :: t, k, u, a, 0, o, d, h, ho, hd, hs => by
    simp only [List.getElem?_cons_zero, Option.some.injEq] at ho
    subst ho
    simp only [distB, Bool.and_eq_true, hd] at h
    rw [frameOf, frame_keep t (k + 1) u _ d (by
      rw [List.all_eq_true]
      intro q hq
      simpa using List.all_eq_true.1 h.1 q hq), hd]
    simp [Act.put, hs]
  | p :: t, k, u, a, j + 1, o, d, h, ho, hd, hs => by
    simp only [distB, Bool.and_eq_true] at h
    rw [frameOf, frame_at t (k + 1) u _ j o d h.2 (by simpa using ho) hd (by rw [put_size]; exact hs), show k + 1 + j = k + (j + 1) by omega]
/-- What a region's step knows of its frame: what the operations have yielded (u), what lay in the other slots (a0). -/
structure FrameIs (ops : Array Oper) (a0 : Act) (u : Nat → Value) (a : Act) : Prop where
  at' : ∀ (j : Nat) (o : Oper) (d : Nat), ops.toList[j]? = some o → o.dst = some d → decide (d < a0.tmps.size) = true → a.tmps[d]? = some (u j)
  keep : ∀ (d : Nat) (x : Value), (ops.toList.all fun o => o.dst != some d) = true → a0.tmps[d]? = some x → a.tmps[d]? = some x
def dstVal (a : Act) (o : Oper) : Value := match o.dst with
  | some d => a.tmps.getD d undef
  | none => undef
theorem put_own (a : Act) (o : Oper) : a.put o.dst (dstVal a o) = a := by
  unfold dstVal
  cases o.dst with
  | none => rfl
  | some d =>
    obtain ⟨tmps, defers⟩ := a
    simp only [Act.put, Act.mk.injEq, and_true]
    apply Array.ext
    · simp
    · intro i h1 h2
      rw [Array.getElem_setIfInBounds]
      · by_cases e : d = i
        · subst e; simp [h2]
        · simp [e]
      · exact h2
theorem frame_id : ∀ (l : List Oper) (k : Nat) (u : Nat → Value) (a : Act), (∀ j o, l[j]? = some o → u (k + j) = dstVal a o) → frameOf l k u a = a
  | [], k, u, a, h => rfl
  | o :: t, k, u, a, h => by
    have h1 := h 0 o rfl
    rw [Nat.add_zero] at h1
    rw [frameOf, h1, put_own]
    exact frame_id t (k + 1) u a fun j p hp => by rw [show k + 1 + j = k + (j + 1) by omega]; exact h (j + 1) p (by simpa using hp)
theorem frameIs (ops : Array Oper) (hd : distB ops.toList = true) (a0 : Act) (u : Nat → Value) : FrameIs ops a0 u (frameOf ops.toList 0 u a0) :=
  ⟨fun j o d ho hod hs => by
    have h1 := frame_at ops.toList 0 u a0 j o d hd ho hod (by simpa using hs)
    have h2 : d < (frameOf ops.toList 0 u a0).tmps.size := by rw [frame_size]; simpa using hs
    rw [Nat.zero_add] at h1
    rw [Array.getElem?_eq_getElem h2, ← h1]
    simp [h2], fun d x h hx => by
    have h1 := frame_keep ops.toList 0 u a0 d h
    have h3 := (Array.getElem?_eq_some_iff.1 hx).1
    have h2 : d < (frameOf ops.toList 0 u a0).tmps.size := by rw [frame_size]; exact h3
    rw [← hx, Array.getElem?_eq_getElem h2, Array.getElem?_eq_getElem h3]
    simpa [h2, h3] using h1⟩
/-- A region that draws its order: of each operation what holds of what it yields (F), whatever comes behind; of the world what holds by what has run (G). -/
theorem region_facts {P : Program} {ops : Array Oper} {Q : Exit → Act → World → Prop} {id : Nat} {a0 : Act} {w0 : World} (Ext : World → World → Prop) (G : (Nat → Bool) → World → Prop) (F : Nat → Value → World → Prop)
    (hm : P.follows .mixedOrders = true) (hb : backB .any ops = true) (hd : distB ops.toList = true) (hmono : ∀ k v w w', Ext w w' → F k v w → F k v w')
    (hG : G (fun _ => false) w0.drew)
    (hs : AllOps (fun k o => ∀ L u a w, FrameIs ops a0 u a → G L w → (∀ j, L j = true → F j (u j) w) → L k = false → (o.after.all fun e => !Region.binds .any e || L e.on) = true →
      ∀ K : Act → World → Prop, (∀ a' w', (∃ v, a' = a.put o.dst v ∧ Ext w w' ∧ G (fun j => j == k || L j) w' ∧ F k v w') → K a' w') →
      if Region.wanted o (yielded ops a.tmps) = true then Oper.wp P o a w K Q else K (a.put o.dst undef) w) 0 ops.toList)
    (he : ∀ L u w, (∀ j, j < ops.size → F j (u j) w) → (∀ j, j < ops.size → L j = true) → G L w → Q .normal (frameOf ops.toList 0 u a0) w) : (Code.region id ops true).wp P Q a0 w0 := by
  refine region_inv (fun L a w => G L w ∧ ∃ u, a = frameOf ops.toList 0 u a0 ∧ ∀ j, L j = true → F j (u j) w) hm hb ⟨hG, fun j => match ops.toList[j]? with | some o => dstVal a0 o | none => undef, (frame_id _ _ _ _ fun j o h => by rw [Nat.zero_add, h]).symm, fun j h => by cases h⟩ ?_ ?_
  · have hget := fun j o (h : ops.toList[j]? = some o) => AllOps.get hs j o h
    have key : ∀ (l : List Oper) (k : Nat), (∀ j o, l[j]? = some o → ops.toList[k + j]? = some o) → AllOps (fun k o => ∀ L a w, (G L w ∧ ∃ u, a = frameOf ops.toList 0 u a0 ∧ ∀ j, L j = true → F j (u j) w) → L k = false → (o.after.all fun e => !Region.binds .any e || L e.on) = true → ∀ K : Act → World → Prop, (∀ a w, (G (fun j => j == k || L j) w ∧ ∃ u, a = frameOf ops.toList 0 u a0 ∧ ∀ j, (j == k || L j) = true → F j (u j) w) → K a w) →
      if Region.wanted o (yielded ops a.tmps) = true then Oper.wp P o a w K Q else K (a.put o.dst undef) w) k l := by
      intro l
      induction l with
      | nil => intro k _; trivial
      | cons o t ih =>
        intro k hk
        refine ⟨?_, ih (k + 1) fun j p hp => by rw [show k + 1 + j = k + (j + 1) by omega]; exact hk (j + 1) p (by simpa using hp)⟩
        have ho := hk 0 o rfl
        rw [Nat.add_zero] at ho
        rintro L a w ⟨hg, u, rfl, hf⟩ hl hdep K hK
        have h1 := hget k o ho
        rw [Nat.zero_add] at h1
        refine h1 L u _ w (frameIs ops hd a0 u) hg hf hl hdep K ?_
        rintro a' w' ⟨v, rfl, hx, hg', hv⟩
        refine hK _ _ ⟨hg', upd u k v, ?_, ?_⟩
        · have := frame_put ops.toList 0 u a0 k o v hd ho
          rw [Nat.zero_add] at this
          exact this
        · intro j hj
          by_cases e : j = k
          · subst e; unfold upd; rw [if_pos rfl]; exact hv
          · have : L j = true := by simpa [e] using hj
            unfold upd; rw [if_neg e]; exact hmono _ _ _ _ hx (hf j this)
    exact key ops.toList 0 fun j o h => by rw [Nat.zero_add]; exact h
  · rintro L a w hall ⟨hg, u, rfl, hf⟩
    exact he L u w (fun j hj => hf j (hall j hj)) hall hg
/-- A region that draws its order, each of whose operations yields one value in whatever order. -/
theorem region_vals {P : Program} {ops : Array Oper} {Q : Exit → Act → World → Prop} {id : Nat} {a0 : Act} {w0 : World} (G : (Nat → Bool) → World → Prop) (val : Nat → Value)
    (hm : P.follows .mixedOrders = true) (hb : backB .any ops = true) (hd : distB ops.toList = true) (hG : G (fun _ => false) w0.drew)
    (hs : AllOps (fun k o => ∀ L a w, (∀ (j : Nat) (o : Oper) (d : Nat), ops.toList[j]? = some o → o.dst = some d → decide (d < a0.tmps.size) = true → L j = true → a.tmps[d]? = some (val j)) →
      (∀ (d : Nat) (x : Value), (ops.toList.all fun o => o.dst != some d) = true → a0.tmps[d]? = some x → a.tmps[d]? = some x) → G L w → L k = false → (o.after.all fun e => !Region.binds .any e || L e.on) = true →
      ∀ K : Act → World → Prop, (∀ a' w', a' = a.put o.dst (val k) ∧ G (fun j => j == k || L j) w' → K a' w') →
      if Region.wanted o (yielded ops a.tmps) = true then Oper.wp P o a w K Q else K (a.put o.dst undef) w) 0 ops.toList)
    (he : ∀ w, G (fun _ => true) w → Q .normal (frameOf ops.toList 0 val a0) w) (hGe : ∀ L L' w, (∀ j, j < ops.size → L j = L' j) → G L w → G L' w) : (Code.region id ops true).wp P Q a0 w0 := by
  refine region_facts (fun _ _ => True) G (fun k v _ => v = val k) hm hb hd (fun _ _ _ _ _ h => h) hG ?_ ?_
  · have key : ∀ (l : List Oper) (k : Nat), AllOps (fun k o => ∀ L a w, (∀ (j : Nat) (o : Oper) (d : Nat), ops.toList[j]? = some o → o.dst = some d → decide (d < a0.tmps.size) = true → L j = true → a.tmps[d]? = some (val j)) →
      (∀ (d : Nat) (x : Value), (ops.toList.all fun o => o.dst != some d) = true → a0.tmps[d]? = some x → a.tmps[d]? = some x) → G L w → L k = false → (o.after.all fun e => !Region.binds .any e || L e.on) = true →
      ∀ K : Act → World → Prop, (∀ a' w', a' = a.put o.dst (val k) ∧ G (fun j => j == k || L j) w' → K a' w') →
      if Region.wanted o (yielded ops a.tmps) = true then Oper.wp P o a w K Q else K (a.put o.dst undef) w) k l → AllOps (fun k o => ∀ L u a w, FrameIs ops a0 u a → G L w → (∀ j, L j = true → u j = val j) → L k = false → (o.after.all fun e => !Region.binds .any e || L e.on) = true →
      ∀ K : Act → World → Prop, (∀ a' w', (∃ v, a' = a.put o.dst v ∧ True ∧ G (fun j => j == k || L j) w' ∧ v = val k) → K a' w') →
      if Region.wanted o (yielded ops a.tmps) = true then Oper.wp P o a w K Q else K (a.put o.dst undef) w) k l := by
      intro l
      induction l with
      | nil => intro k _; trivial
      | cons o t ih =>
        rintro k ⟨h1, h2⟩
        refine ⟨?_, ih _ h2⟩
        intro L u a w hA hg hf hl hdep K hK
        refine h1 L a w (fun j o d ho hod hs hj => ?_) hA.keep hg hl hdep K ?_
        · rw [← hf j hj]; exact hA.at' j o d ho hod hs
        · rintro a' w' ⟨rfl, hg'⟩
          exact hK _ _ ⟨_, rfl, trivial, hg', rfl⟩
    exact key _ _ hs
  · intro L u w hf hL hg
    have e : frameOf ops.toList 0 u a0 = frameOf ops.toList 0 val a0 := by
      have key : ∀ (l : List Oper) (k : Nat) (b : Act), k + l.length = ops.size → frameOf l k u b = frameOf l k val b := by
        intro l
        induction l with
        | nil => intro k b _; rfl
        | cons o t ih =>
          intro k b hk
          simp only [List.length_cons] at hk
          rw [frameOf, frameOf, hf k (by omega)]
          exact ih (k + 1) _ (by omega)
      exact key ops.toList 0 a0 (by simp)
    rw [e]
    exact he w (hGe L _ w (fun j hj => by rw [hL j hj]) hg)
end Go.Proofs.Ytlbebbkkpjgboaa
