/-
  Contracts of chapter 3: prints of chunks; joined texts.
-/
import Derived.Test.YtefcmpbjfcpdeaaChunks2
import Derived.Lib.AppendStr
import Derived.Laws.BytesArg
namespace Go.Proofs.Ytefcmpbjfcpdeaa
open Go.RowKit
set_option linter.unusedVariables false
theorem pieces_size (s : ByteArray) : ∀ (l : List Int) (a : Int), ∀ t ∈ piecesB s a l, t.size ≤ s.size
  | [], a, t, h => by simp [piecesB] at h
  | e :: r, a, t, h => by
    rw [piecesB, List.mem_cons] at h
    rcases h with rfl | h
    · rw [ByteArray.size_extract]; omega
    · exact pieces_size s r e t h
theorem chunk_size {s : ByteArray} {k : Nat} : (nthS (chunksB s) k).size ≤ s.size := by
  unfold nthS
  rw [List.getD_eq_getElem?_getD]
  cases h : (chunksB s)[k]? with
  | none => simp
  | some t => exact pieces_size s _ _ t (List.mem_of_getElem? h)
theorem chunks_valid {s : ByteArray} {k : Nat} (h : k < (chunksB s).length) : s.size ≤ 60 := by
  rw [chunks_len] at h
  obtain ⟨_, _, _, _, _, _, _, h⟩ := ends_nat h
  exact h
/-- The prints of a text's chunks. -/
def cprintsB (s : ByteArray) : List Int := (chunksB s).map printB
theorem cprints_snoc {s : ByteArray} {k : Nat} (h : k < (chunksB s).length) : (cprintsB s).take (k + 1) = (cprintsB s).take k ++ [printB (nthS (chunksB s) k)] := by
  unfold cprintsB
  rw [← List.map_take, ← List.map_take, take_snocS h, List.map_append]; rfl
theorem cprints_end {s : ByteArray} {k : Nat} (h : ¬ k < (chunksB s).length) : (cprintsB s).take k = cprintsB s := List.take_of_length_le (by unfold cprintsB; rw [List.length_map]; omega)
theorem cprints_len (s : ByteArray) : (cprintsB s).length = (chunksB s).length := by unfold cprintsB; rw [List.length_map]
theorem chunkPrints_any (s : ByteArray) (w : World) (hs : s.size ≤ maxLen) : Calls Try.prog 25 #[.string s] w (NewI (cprintsB s) w) := by
  have hlen := chunks_count s
  go_enter Try.func25, Try.ntmps25
  go_wp2_with (go_at_call 17; refine (chunksOf_any _ _ hs).mono ?_; rintro e w1 ⟨v, rfl, ho, hb⟩; obtain ⟨x, n, c, rfl, hi⟩ := ho.lst; have HL := Lib.hid hi.len; have HI := Lib.hid hi; have HB0 := Lib.hid hb; clear ho hb)
  have hn : n ≤ 60 := by have := HL.out; omega
  have hmx := HI.out.max
  have hle := HI.out.le
  unfold maxLen at hmx hs
  go_loopw [3, 5, 9] (fun v _ i wr => ∃ k : Nat, k ≤ n ∧ i = .int .i64 k ∧ OwnI wr w1.heap.size v ((cprintsB s).take k) ∧ Below w1.heap.size w1 wr) (fun _ _ i _ => n - (intOf i).toNat)
  case atStart => exact ⟨0, by omega, rfl, OwnI.nil _ _, Below.refl _ _⟩
  case round =>
    obtain ⟨k, hk, rfl, ho, hb⟩ := hrel
    have HO := Lib.hid ho; have HB := Lib.hid hb; clear ho hb
    have hsz := HB.out.size
    have hct : ((cprintsB s).take k).length ≤ 60 := by rw [List.length_take, cprints_len]; omega
    by_cases hlt : k < n
    · have hk' : k < (chunksB s).length := by have := HL.out; omega
      have HT := Lib.hid (cprints_snoc hk')
      have h60 := chunks_valid hk'
      have hz := chunk_size (s := s) (k := k)
      have hz' : (nthS (chunksB s) k).size ≤ maxLen := by unfold maxLen; omega
      clear hk'
      obtain ⟨b0, off, rfl, hb0, hcell⟩ := (HI.out.below HB.out (Nat.le_refl _)).atS hlt
      go_wp2_with (first
        | (go_at_call 27; refine (printOf_any _ _ hz').mono ?_; rintro e w' ⟨rfl, rfl⟩)
        | (at_builtin; refine wpList_app1I (printB (nthS (chunksB s) k)) HO.out (by omega) hsz rfl _ _ rfl rfl rfl ?_; intro v' w' hown hgrow; have HW := Lib.hid hown; have HG := Lib.hid hgrow; clear hown hgrow))
      go_roundw
      case rel => exact ⟨k + 1, by omega, by go_num, by rw [HT.out]; exact HW.out, HB.out.grown HG.out hsz HO.out.at⟩
      case measure => simp [intOf]; omega
    · have HX := Lib.hid (cprints_end (s := s) (k := k) (by have := HL.out; omega))
      go_wp2
      go_ret
      exact ⟨_, rfl, by rw [← HX.out]; exact HO.out.mono HB0.out.size, HB0.out.trans (HB.out.mono HB0.out.size)⟩
theorem specChunkPrints_any (s : ByteArray) (w : World) (hs : s.size ≤ maxLen) : Calls Try.prog 26 #[.string s] w (NewI (cprintsB s) w) := by
  have hlen := chunks_count s
  have HO0 := Lib.hid (own_newI w)
  have HBn := Lib.hid ((Below.refl w.heap.size w).alloc (Nat.le_refl _) (.cells #[] 3))
  go_enter Try.func26, Try.ntmps26
  go_wp2_with (go_at_call 19; refine (specChunksOf_any _ _ hs).mono ?_; rintro e w1 ⟨v, rfl, ho, hb⟩; obtain ⟨x, n, c, rfl, hi⟩ := ho.lst; have HL := Lib.hid hi.len; have HI := Lib.hid ho; have HO1 := Lib.hid (HO0.out.below hb); have HB0 := Lib.hid (HBn.out.trans (hb.mono (by simp))); clear ho hb)
  have hn : n ≤ 60 := by have := HL.out; omega
  have hmx := hi.max
  have hle := hi.le
  clear hi
  unfold maxLen at hmx hs
  go_loopw [3, 5] (fun v i wr => ∃ k : Nat, k ≤ n ∧ i = .int .i64 k ∧ OwnI wr w.heap.size v ((cprintsB s).take k) ∧ OwnS wr 0 (.slice x n c) (chunksB s) ∧ Below w.heap.size w wr) (fun _ i _ => n - (intOf i).toNat)
  case atStart => exact ⟨0, by omega, rfl, HO1.out, HI.out.mono (Nat.zero_le _), HB0.out⟩
  case round =>
    obtain ⟨k, hk, rfl, ho, hi, hb⟩ := hrel
    have HO := Lib.hid ho; have HE := Lib.hid hi; have HB := Lib.hid hb; clear ho hb hi
    have hsz := HB.out.size
    have hct : ((cprintsB s).take k).length ≤ 60 := by rw [List.length_take, cprints_len]; omega
    by_cases hlt : k < n
    · have hk' : k < (chunksB s).length := by have := HL.out; omega
      have HT := Lib.hid (cprints_snoc hk')
      have h60 := chunks_valid hk'
      have hz := chunk_size (s := s) (k := k)
      have hz' : (nthS (chunksB s) k).size ≤ maxLen := by unfold maxLen; omega
      clear hk'
      obtain ⟨b0, off, rfl, hb0, hcell⟩ := HE.out.lst'.atS hlt
      go_wp2_with (first
        | (go_at_call 45; refine (specPrintOf_any _ _ hz').mono ?_; rintro e w' ⟨rfl, rfl⟩)
        | (at_builtin; refine wpList_app1I (printB (nthS (chunksB s) k)) HO.out (by omega) hsz rfl _ _ rfl rfl rfl ?_; intro v' w' hown hgrow; have HE2 := Lib.hid (World.ownsRow.kept HE.out hgrow (own_ne HE.out HO.out (by decide))); have HW := Lib.hid hown; have HG := Lib.hid hgrow; clear hown hgrow))
      go_roundw
      case rel => exact ⟨k + 1, by omega, by go_num, by rw [HT.out]; exact HW.out, HE2.out, HB.out.grown HG.out hsz HO.out.at⟩
      case measure => simp [intOf]; omega
    · have HX := Lib.hid (cprints_end (s := s) (k := k) (by have := HL.out; omega))
      go_wp2
      go_ret
      exact ⟨_, rfl, by rw [← HX.out]; exact HO.out, HB.out⟩
/-! ### joined texts -/
/-- A row of bytes of a call's own, that reads as the text t. -/
def OwnB (w : World) (base : Nat) (v : Value) (t : ByteArray) : Prop := w.ownsRow base 5 1 v t.size (Lib.strCells t)
theorem OwnB.nil (w : World) (base : Nat) : OwnB w base (.slice none 0 0) ByteArray.empty := World.ownsRow_nil w base _ 1
theorem OwnB.at {w : World} {base : Nat} {v : Value} {t : ByteArray} (h : OwnB w base v t) : ∀ k, v.ownBlock = some k → base ≤ k := fun k hk => own_at h hk
theorem Try.infoByte : (Try.prog.info? 5).map (fun i => (i.zero, i.size, i.bytes)) = some (some (.int .u8 0), 1, 1) := by kernel_rfl
theorem size_nil {t : ByteArray} (h1 : t.size = 0) : t = ByteArray.empty := by
  cases t with | mk d => simp [ByteArray.size] at h1; subst h1; rfl
/-- What 'string(b)' makes of such a row. -/
theorem OwnB.str {w : World} {base : Nat} {v : Value} {t : ByteArray} (h : OwnB w base v t) :
    ∃ x n c, v = .slice x n c ∧ t.size = n ∧ n ≤ c ∧ c ≤ maxLen ∧ (convert 22 9 (.slice x n c)).run Try.prog w = .ok (.string t) w := by
  obtain ⟨x, c, rfl, h1, h2, h3⟩ := own_reads h
  refine ⟨x, _, c, rfl, rfl, h1, h2, ?_⟩
  rcases h.2 with ⟨e, he⟩ | ⟨g, cap, cur, e, _⟩
  · simp only [Value.slice.injEq] at e
    obtain ⟨rfl, e2, rfl⟩ := e
    rw [size_nil he]
    exact run_convert_bytes_nil w 22 5 Try.underlying22 Try.underlying5 _ _ 9 Try.underlying9
  · simp only [Value.slice.injEq, true_and] at e
    obtain ⟨rfl, rfl⟩ := e
    have := run_convert_bytes_arg (P := Try.prog) w 22 5 Try.underlying22 Try.underlying5 g 0 t.size c (t.data.toList.map fun b => (b.toNat : Int)) (by simp) (fun i hi => by
      rw [Nat.zero_add, h.cellAt i (by omega)]
      unfold Lib.strCells
      have hi' : i < t.data.toList.length := by rw [len_eq]; exact hi
      rw [List.getElem?_map, List.getElem?_eq_getElem hi', List.getD_eq_getElem?_getD, List.getElem?_map, List.getElem?_eq_getElem hi']
      rfl) 9 Try.underlying9
    rw [this]
    congr 2
    unfold strOfNums
    rw [List.map_map]
    have e : ((fun n : Int => UInt8.ofNat n.toNat) ∘ fun b : UInt8 => (b.toNat : Int)) = id := by funext b; simp
    rw [e, List.map_id]
section
variable {ops : Array Oper} {rest : List Oper} {o : Oper} {a : Act} {Q : Exit → Act → World → Prop} {w : World}
/-- append of a text's bytes. -/
theorem wpList_appStr {base : Nat} {v : Value} {t u : ByteArray} (hown : OwnB w base v t) (hn : t.size + u.size ≤ 2000000) (hbase : base ≤ w.heap.size)
    (hgd : o.guard = none) (s x : Operand) (ho : o.op = .call { callee := .builtin .append, args := #[s, x], argTypes := #[22, 9] }) (hs : a.eval s = v) (hx : a.eval x = .string u)
    (h : ∀ v' w', OwnB w' base v' (t ++ u) → w.grownBy w' v.ownBlock → wpList Try.prog ops Q rest (a.put o.dst v') w') : wpList Try.prog ops Q (o :: rest) a w := by
  obtain ⟨i, hi, h2⟩ := Option.map_eq_some_iff.1 Try.infoByte
  simp only [Prod.mk.injEq] at h2
  refine Lib.wpList_append_own_string w hgd s x 22 9 ho base 5 i Try.underlying22 Try.underlying9 hi h2.1 h2.2.1 h2.2.2 v t.size _ hs hown u hx (by unfold maxLen; omega) (by omega) hbase fun v' w' h1 h2 _ => h v' w' ?_ h2
  unfold OwnB
  have e : Lib.strCells (t ++ u) = Lib.strCells t ++ Lib.strCells u := by unfold Lib.strCells; rw [ByteArray.data_append, Array.toList_append, List.map_append]
  rw [e, ByteArray.size_append]
  exact h1
end
/-- A text and whether there is one. -/
def StrOk (s : ByteArray) (b : Bool) (w : World) (e : Ending) (w' : World) : Prop := e = .returned (.tuple #[.string s, .bool b]) ∧ Below w.heap.size w w'
theorem joined_no {l : List ByteArray} (h : textB (joinB l) = false) : joinedB l = ByteArray.empty ∧ joinOkB l = false := by unfold joinedB joinOkB; rw [h]; exact ⟨rfl, rfl⟩
theorem joined_yes {l : List ByteArray} (h : textB (joinB l) = true) : joinedB l = joinB l ∧ joinOkB l = true := by unfold joinedB joinOkB; rw [h]; exact ⟨rfl, rfl⟩
theorem strOk_of {s t : ByteArray} {b c : Bool} {w w' : World} (h : s = t) (h' : b = c) (hb : Below w.heap.size w w') : StrOk s b w (.returned (.tuple #[.string t, .bool c])) w' := by subst h; subst h'; exact ⟨rfl, hb⟩
theorem join_take {l : List ByteArray} {k : Nat} (h : k < l.length) : joinB (l.take (k + 1)) = joinB (l.take k) ++ nthS l k := by rw [take_snocS h, joinB_snoc]
theorem joinChunks_any (x : Option Addr) (n cap : Nat) (l : List ByteArray) (B : Nat) (w : World) (h : Strs w B x n cap l) (hB : B ≤ w.heap.size) (hz : ∀ k, (nthS l k).size ≤ maxLen) :
    Calls Try.prog 21 #[.slice x n cap] w (StrOk (joinedB l) (joinOkB l) w) := by
  have HL := Lib.hid h.len
  have HH := Lib.hid h
  have hmx := h.max
  have hle := h.le
  clear h
  unfold maxLen at hmx hz
  go_enter Try.func21, Try.ntmps21
  go_wp2
  go_loopw [4, 6, 10] (fun v _ i wr => ∃ k : Nat, k ≤ n ∧ i = .int .i64 k ∧ (joinB (l.take k)).size ≤ 60 ∧ OwnB wr w.heap.size v (joinB (l.take k)) ∧ Below w.heap.size w wr) (fun _ _ i _ => n - (intOf i).toNat)
  case atStart => exact ⟨0, by omega, rfl, by simp [joinB], OwnB.nil _ _, Below.refl _ _⟩
  case round =>
    obtain ⟨k, hk, rfl, h60, ho, hb⟩ := hrel
    have HO := Lib.hid ho; have HB := Lib.hid hb; clear ho hb
    have hsz := HB.out.size
    obtain ⟨y, m, c, rfl, hm, hmc, hc, hcv⟩ := HO.out.str
    unfold maxLen at hc
    have HM := Lib.hid hm
    have hm60 : m ≤ 60 := by omega
    clear hm
    by_cases hlt : k < n
    · have HT := Lib.hid (join_take (l := l) (k := k) (by have := HL.out; omega))
      obtain ⟨b0, off, rfl, hb0, hcell⟩ := (HH.out.below HB.out hB).atS hlt
      have hzk := hz k
      clear hcv
      by_cases hbig : 60 - (m : Int) < ((nthS l k).size : Int)
      · have HX := Lib.hid (joined_no (joined_long (l := l) (k + 1) (by rw [HT.out, ByteArray.size_append, HM.out]; omega)))
        go_wp2
        go_ret2
        exact strOk_of HX.out.1 HX.out.2 HB.out
      · go_wp2_with (first
          | (at_builtin; refine wpList_appStr HO.out (by rw [HM.out]; omega) hsz rfl _ _ rfl rfl rfl ?_; intro v' w' hown hgrow; have HW := Lib.hid hown; have HG := Lib.hid hgrow; clear hown hgrow))
        go_roundw
        case rel => exact ⟨k + 1, by omega, by go_num, by rw [HT.out, ByteArray.size_append, HM.out]; omega, by rw [HT.out]; exact HW.out, HB.out.grown HG.out hsz HO.out.at⟩
        case measure => simp [intOf]; omega
    · have e : l.take k = l := List.take_of_length_le (by have := HL.out; omega)
      rw [e] at hcv HM h60
      have hjs : (joinB l).size ≤ maxLen := by unfold maxLen; omega
      cases ht : textB (joinB l)
      · have HX := Lib.hid (joined_no ht)
        go_wp2_with (go_at_call 20; refine (textValid_any _ _ hjs).mono ?_; rintro e w' ⟨rfl, rfl⟩)
        go_ret2
        exact strOk_of HX.out.1 HX.out.2 HB.out
      · have HX := Lib.hid (joined_yes ht)
        go_wp2_with (go_at_call 20; refine (textValid_any _ _ hjs).mono ?_; rintro e w' ⟨rfl, rfl⟩)
        go_ret2
        exact strOk_of HX.out.1 HX.out.2 HB.out
theorem join_take_size (l : List ByteArray) (k : Nat) : (joinB (l.take k)).size ≤ (joinB l).size := by
  rw [joinB_split l k, ByteArray.size_append]; omega
theorem specJoinChunks_any (x : Option Addr) (n cap : Nat) (l : List ByteArray) (B : Nat) (w : World) (h : Strs w B x n cap l) (hz : (joinB l).size ≤ 1000000000) :
    Calls Try.prog 23 #[.slice x n cap] w (StrOk (joinedB l) (joinOkB l) w) := by
  have HL := Lib.hid h.len
  have HH := Lib.hid h
  have hmx := h.max
  have hle := h.le
  clear h
  unfold maxLen at hmx
  go_enter Try.func23, Try.ntmps23
  go_wp2
  go_loopw [4, 5] (fun t i wr => ∃ k : Nat, k ≤ n ∧ i = .int .i64 k ∧ t = .string (joinB (l.take k)) ∧ wr = w) (fun _ i _ => n - (intOf i).toNat)
  case atStart => exact ⟨0, by omega, rfl, rfl, rfl⟩
  case round =>
    obtain ⟨k, hk, rfl, rfl, rfl⟩ := hrel
    have hz1 := join_take_size l k
    by_cases hlt : k < n
    · have HT := Lib.hid (join_take (l := l) (k := k) (by have := HL.out; omega))
      have hz2 := join_take_size l (k + 1)
      rw [HT.out, ByteArray.size_append] at hz2
      obtain ⟨b0, off, rfl, hb0, hcell⟩ := HH.out.atS hlt
      go_wp2
      go_roundw
      case rel => exact ⟨k + 1, by omega, by go_num, by rw [HT.out], by first | rfl | trivial⟩
      case measure => simp [intOf]; omega
    · have e : l.take k = l := List.take_of_length_le (by have := HL.out; omega)
      rw [e]
      have hjs : (joinB l).size ≤ maxLen := by unfold maxLen; omega
      clear e
      cases ht : textB (joinB l)
      · have HX := Lib.hid (joined_no ht)
        go_wp2_with (go_at_call 39; refine (specTextValid_any _ _ hjs).mono ?_; rintro e w' ⟨rfl, rfl⟩)
        go_ret2
        exact strOk_of HX.out.1 HX.out.2 (Below.refl _ _)
      · have HX := Lib.hid (joined_yes ht)
        go_wp2_with (go_at_call 39; refine (specTextValid_any _ _ hjs).mono ?_; rintro e w' ⟨rfl, rfl⟩)
        go_ret2
        exact strOk_of HX.out.1 HX.out.2 (Below.refl _ _)
end Go.Proofs.Ytefcmpbjfcpdeaa
