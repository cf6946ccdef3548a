/-
  A region that draws its order, whose operations also write into rows that others of its operations have made: what holds of what an operation has yielded may hang on what has run.
-/
import Derived.Test.YtminmakiahjfbaaMem
namespace Go.Proofs.Ytminmakiahjfbaa
open Go.RowKit
set_option linter.unusedVariables false
theorem region_rows {P : Program} {ops : Array Oper} {Q : Exit → Act → World → Prop} {id : Nat} {a0 : Act} {w0 : World} (G : (Nat → Bool) → World → Prop) (F : (Nat → Bool) → Nat → Value → World → Prop)
    (hm : P.follows .mixedOrders = true) (hb : backB .any ops = true) (hd : distB ops.toList = true)
    (hG : G (fun _ => false) w0.drew)
    (hs : AllOps (fun k o => ∀ L u a w, FrameIs ops a0 u a → G L w → (∀ j, L j = true → F L j (u j) w) → (∀ j p, ops.toList[j]? = some p → L j = false → u j = dstVal a0 p) → (∀ j p, ops.toList[j]? = some p → L j = true → (p.after.all fun e => !Region.binds .any e || L e.on) = true) → L k = false → (o.after.all fun e => !Region.binds .any e || L e.on) = true →
      ∀ K : Act → World → Prop, (∀ a' w', (∃ v, a' = a.put o.dst v ∧ G (fun j => j == k || L j) w' ∧ F (fun j => j == k || L j) k v w' ∧ ∀ j, L j = true → F (fun j => j == k || L j) j (u j) w') → K a' w') →
      if Region.wanted o (yielded ops a.tmps) = true then Oper.wp P o a w K Q else K (a.put o.dst undef) w) 0 ops.toList)
    (he : ∀ L u w, (∀ j, j < ops.size → F L j (u j) w) → (∀ j, j < ops.size → L j = true) → G L w → Q .normal (frameOf ops.toList 0 u a0) w) : (Code.region id ops true).wp P Q a0 w0 := by
  refine region_inv (fun L a w => G L w ∧ (∀ j p, ops.toList[j]? = some p → L j = true → (p.after.all fun e => !Region.binds .any e || L e.on) = true) ∧ ∃ u, a = frameOf ops.toList 0 u a0 ∧ (∀ j p, ops.toList[j]? = some p → L j = false → u j = dstVal a0 p) ∧ ∀ j, L j = true → F L j (u j) w) hm hb ⟨hG, (fun _ _ _ h => by cases h), (fun j => match ops.toList[j]? with | some o => dstVal a0 o | none => undef), (frame_id _ _ _ _ fun j o h => by rw [Nat.zero_add, h]).symm, (fun j p h _ => by simp only [h]), (fun j h => by cases h)⟩ ?_ ?_
  · have hget := fun j o (h : ops.toList[j]? = some o) => AllOps.get hs j o h
    have key : ∀ (l : List Oper) (k : Nat), (∀ j o, l[j]? = some o → ops.toList[k + j]? = some o) → AllOps (fun k o => ∀ L a w, (G L w ∧ (∀ j p, ops.toList[j]? = some p → L j = true → (p.after.all fun e => !Region.binds .any e || L e.on) = true) ∧ ∃ u, a = frameOf ops.toList 0 u a0 ∧ (∀ j p, ops.toList[j]? = some p → L j = false → u j = dstVal a0 p) ∧ ∀ j, L j = true → F L j (u j) w) → L k = false → (o.after.all fun e => !Region.binds .any e || L e.on) = true → ∀ K : Act → World → Prop, (∀ a w, (G (fun j => j == k || L j) w ∧ (∀ j p, ops.toList[j]? = some p → (j == k || L j) = true → (p.after.all fun e => !Region.binds .any e || (e.on == k || L e.on)) = true) ∧ ∃ u, a = frameOf ops.toList 0 u a0 ∧ (∀ j p, ops.toList[j]? = some p → (j == k || L j) = false → u j = dstVal a0 p) ∧ ∀ j, (j == k || L j) = true → F (fun j => j == k || L j) j (u j) w) → K a w) →
      if Region.wanted o (yielded ops a.tmps) = true then Oper.wp P o a w K Q else K (a.put o.dst undef) w) k l := by
      intro l
      induction l with
      | nil => intro k _; trivial
      | cons o t ih =>
        intro k hk
        refine ⟨?_, ih (k + 1) fun j p hp => by rw [show k + 1 + j = k + (j + 1) by omega]; exact hk (j + 1) p (by simpa using hp)⟩
        have ho := hk 0 o rfl
        rw [Nat.add_zero] at ho
        rintro L a w ⟨hg, hcl, u, rfl, hun, hf⟩ hl hdep K hK
        have h1 := hget k o ho
        rw [Nat.zero_add] at h1
        refine h1 L u _ w (frameIs ops hd a0 u) hg hf hun hcl hl hdep K ?_
        rintro a' w' ⟨v, rfl, hg', hv, hx⟩
        have hup : ∀ (q : Oper), (q.after.all fun e => !Region.binds .any e || L e.on) = true → (q.after.all fun e => !Region.binds .any e || (e.on == k || L e.on)) = true := fun q hq => by
          rw [Array.all_eq_true'] at hq ⊢
          intro e he
          have := hq e he
          rw [Bool.or_eq_true] at this ⊢
          rcases this with h | h
          · exact .inl h
          · exact .inr (by rw [h]; simp)
        refine hK _ _ ⟨hg', ?_, upd u k v, ?_, ?_, ?_⟩
        · intro j p hp hj
          by_cases e : j = k
          · subst e
            obtain rfl : o = p := by rw [ho] at hp; exact Option.some.inj hp
            exact hup o hdep
          · exact hup p (hcl j p hp (by simpa [e] using hj))
        · have := frame_put ops.toList 0 u a0 k o v hd ho
          rw [Nat.zero_add] at this
          exact this
        · intro j p hp hj
          have e : j ≠ k := fun e => by subst e; simp at hj
          unfold upd; rw [if_neg e]
          exact hun j p hp (by simpa [e] using hj)
        · intro j hj
          by_cases e : j = k
          · subst e; unfold upd; rw [if_pos rfl]; exact hv
          · have : L j = true := by simpa [e] using hj
            unfold upd; rw [if_neg e]; exact hx j this
    exact key ops.toList 0 fun j o h => by rw [Nat.zero_add]; exact h
  · rintro L a w hall ⟨hg, _, u, rfl, _, hf⟩
    exact he L u w (fun j hj => hf j (hall j hj)) hall hg
end Go.Proofs.Ytminmakiahjfbaa
