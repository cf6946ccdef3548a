/-
  The walk of chapter 6's law: PutEntry.
-/
import Derived.Test.YtjbkbbcogimaiaaLaw6
namespace Go.Proofs.Ytjbkbbcogimaiaa
open Go.RowKit
set_option linter.unusedVariables false
theorem box_at {w : World} {cs : Array Value} {t : TypeId} : (w.alloc (.cells cs t)).heap[w.heap.size]? = some (.cells cs t (0, 0)) := heap_alloc_new w _
theorem put_yes6 {l L : List Ent} {p : Ent} (h : putE l p = (L, true)) (hz : ∀ k, (nthE l k).1.size ≤ maxLen) (hp : p.1.size ≤ maxLen) :
    entsB L = true ∧ p ∈ L ∧ dropE L p.1 = ((dropE l p.1).1, true) ∧ ∀ k, (nthE L k).1.size ≤ maxLen := by
  rcases put_cases l p with (e | e) | ⟨h1, h2, e⟩
  · rw [h, Prod.mk.injEq] at e; cases e.2
  · rw [h, Prod.mk.injEq] at e; cases e.2
  · rw [h, Prod.mk.injEq] at e
    obtain rfl := e.1
    exact ⟨h2, put_mem l p, put_drop h1 h2, put_sizes rfl hz hp⟩
/-- An entry is among them. -/
def hasE (p : Ent) (l : List Ent) : Bool := l.any fun q => decide (q = p)
theorem hasE_mem {p : Ent} {l : List Ent} (h : p ∈ l) : hasE p l = true := List.any_eq_true.2 ⟨p, h, decide_eq_true rfl⟩
theorem mem_step {l : List Ent} {p : Ent} {k : Nat} (hk : k < l.length) (h : hasE p (l.take k) = false) : hasE p (l.take (k + 1)) = decide (nthE l k = p) := by
  unfold hasE at h ⊢
  rw [take_snocE hk, List.any_append, h]
  simp
theorem mem_keep {l : List Ent} {p : Ent} {k : Nat} (hk : k < l.length) (h : hasE p (l.take k) = true) : hasE p (l.take (k + 1)) = true := by
  unfold hasE at h ⊢
  rw [take_snocE hk, List.any_append, h]
  simp
set_option maxHeartbeats 4000000 in
set_option maxRecDepth 100000 in
theorem fnPutEntry_any (x : Option Addr) (n cap : Nat) (w : World) (h : Bytes w.heap.size w x n) (hn : n ≤ cap) (hc : cap ≤ maxLen) :
    Calls Try.prog 6 #[.slice x n cap] w fun e w' => e = .returned (.bool true) ∧ Below w.heap.size w w' := by
  by_cases hlong : 1048576 < (n : Int)
  · go_enter Try.func6, Try.ntmps6
    go_wp2
    go_ret
    exact ⟨rfl, Below.refl _ _⟩
  · have HB0 := Lib.hid h
    have HC := Lib.hid hc
    have HLE := Lib.hid hn
    clear h hc hn
    go_enter Try.func6, Try.ntmps6
    go_wp2_with fail
    refine (drawPutEntry_any x n cap w HB0.out HLE.out HC.out).mono ?_
    rintro e w0 ⟨y, m, c, l, p, rfl, hl4, hz, hp9, hl, hb⟩
    have HZ := Lib.hid (nines_max hz)
    have HPM := Lib.hid (show p.1.size ≤ maxLen by unfold maxLen; omega)
    obtain ⟨w1, hW⟩ : ∃ w1, w0.alloc (.cells #[.string p.1, .int .i64 p.2] 28) = w1 := ⟨_, rfl⟩
    have hs1 : w1.heap.size = w0.heap.size + 1 := by rw [← hW]; simp
    have hbx : w0.heap.size < w1.heap.size := by omega
    have HX1 := Lib.hid (show w1.heap[w0.heap.size]? = some (.cells #[.string p.1, .int .i64 p.2] 28 (0, 0)) by rw [← hW]; exact box_at)
    have HB := Lib.hid (show Below w.heap.size w w1 by rw [← hW]; exact hb.alloc hb.size _)
    have HL := Lib.hid (show Ents w1 w1.heap.size y m c l by rw [← hW]; exact (hl.alloc (Nat.le_refl _) _).more (by simp))
    have HLEN := Lib.hid HL.out.len
    have hm4 : m ≤ 4 := by have := HLEN.out; omega
    have hS1 := Lib.hid hs1
    clear hb hl hz hs1
    obtain ⟨d0, d1, g0, g1⟩ := two_at HX1.out
    go_wp2_with fail
    refine (implPutEntry_any _ _ _ l p _ _ HL.out (Nat.le_refl _) HZ.out (by omega)).mono ?_
    rintro e w2 ⟨v2, rfl, ho, hb⟩
    obtain ⟨x2, n2, c2, rfl, hx⟩ := ho.lst
    have HB2 := Lib.hid (HB.out.trans (hb.mono HB.out.size))
    have HL2 := Lib.hid ((HL.out.below hb (Nat.le_refl _)).more hb.size)
    have HX2 := Lib.hid hx
    have HK2 := Lib.hid ((hb.block _ hbx).trans HX1.out)
    have hbx2 : w0.heap.size < w2.heap.size := Nat.lt_of_lt_of_le hbx hb.size
    clear hb HL HB ho hx d0 d1 g0 g1 HX1 hbx hW
    obtain ⟨d0, d1, g0, g1⟩ := two_at HK2.out
    go_wp2_with fail
    refine (specPutEntry_any _ _ _ l p _ _ HL2.out (Nat.le_refl _) HZ.out HPM.out).mono ?_
    rintro e w3 ⟨v3, rfl, ho, hb⟩
    obtain ⟨x3, n3, c3, rfl, hx⟩ := ho.lst
    have HB3 := Lib.hid (HB2.out.trans (hb.mono HB2.out.size))
    have HL3 := Lib.hid ((HL2.out.below hb (Nat.le_refl _)).more hb.size)
    have HX3 := Lib.hid ((HX2.out.below hb (Nat.le_refl _)).more hb.size)
    have HY3 := Lib.hid hx
    have HK3 := Lib.hid ((hb.block _ hbx2).trans HK2.out)
    have hbx3 : w0.heap.size < w3.heap.size := Nat.lt_of_lt_of_le hbx2 hb.size
    clear hb HL2 HB2 HX2 ho hx d0 d1 g0 g1 HK2 hbx2
    have HPC := Lib.hid (put_cases l p); have HPY := Lib.hid (fun L => put_yes6 (l := l) (L := L) (p := p))
    obtain ⟨R, hR⟩ : ∃ R, putE l p = R := ⟨_, rfl⟩
    rw [hR] at HX3 HY3 HPC HPY ⊢
    have HR := Lib.hid hR
    clear hR
    obtain ⟨L, O⟩ := R
    go_wp2_with fail
    refine (sameEntries_any _ _ _ _ _ _ L L _ _ HX3.out HY3.out).mono ?_
    rintro e W hq
    have hb := hq.below
    obtain ⟨rfl, _⟩ := hq
    rw [decide_eq_true (show L = L from rfl)]
    have HB4 := Lib.hid (HB3.out.trans (hb.mono HB3.out.size))
    have HL4 := Lib.hid ((HL3.out.below hb (Nat.le_refl _)).more hb.size)
    have HX4 := Lib.hid ((HX3.out.below hb (Nat.le_refl _)).more hb.size)
    have HK4 := Lib.hid ((hb.block _ hbx3).trans HK3.out)
    have hbx4 : w0.heap.size < W.heap.size := Nat.lt_of_lt_of_le hbx3 hb.size
    clear hb HB3 HL3 HX3 HY3 HK3 hbx3
    have HLX := Lib.hid HX4.out.len
    cases O
    · have HZ0 := Lib.hid (show L ≠ l → (n2 : Int) = 0 from fun h => by
        rcases HPC.out with (e | e) | e
        · have h1 := HLX.out; rw [Prod.mk.injEq] at e; rw [e.1] at h1; simp at h1; omega
        · rw [Prod.mk.injEq] at e; exact absurd e.1 h
        · rw [Prod.mk.injEq] at e; cases e.2.2.2)
      clear HPC HPY HR
      by_cases hLl : L = l
      · clear HZ0
        go_wp2_with (first
          | (go_at_call 21; refine (sameEntries_any _ _ _ _ _ _ L l _ _ HX4.out HL4.out).mono ?_; rintro e w5 hq; have hb := hq.below; obtain ⟨rfl, _⟩ := hq; rw [decide_eq_true hLl]; have HB5 := Lib.hid (HB4.out.trans (hb.mono HB4.out.size)); clear hb)
          | (go_at_call 16; refine (alive_any _).mono ?_; rintro e w' ⟨rfl, rfl⟩))
        go_ret
        exact ⟨rfl, HB5.out⟩
      · obtain rfl : n2 = 0 := by have := HZ0.out hLl; omega
        clear HZ0
        go_wp2_with (first
          | (go_at_call 21; refine (sameEntries_any _ _ _ _ _ _ L l _ _ HX4.out HL4.out).mono ?_; rintro e w5 hq; have hb := hq.below; obtain ⟨rfl, _⟩ := hq; rw [decide_eq_false hLl]; have HB5 := Lib.hid (HB4.out.trans (hb.mono HB4.out.size)); clear hb)
          | (go_at_call 16; refine (alive_any _).mono ?_; rintro e w' ⟨rfl, rfl⟩))
        go_ret
        exact ⟨rfl, HB5.out⟩
    · obtain ⟨hev, hmem, hdr, hzl⟩ := HPY.out L rfl HZ.out HPM.out
      have HEV := Lib.hid hev; have HMEM := Lib.hid hmem; have HDR := Lib.hid hdr; have HZL := Lib.hid hzl
      clear HPC HPY HR hev hmem hdr hzl
      have hl3 : n2 ≤ 3 := by have h1 := (entsB_at HEV.out).1; have h2 := HLX.out; omega
      obtain ⟨d0, d1, g0, g1⟩ := two_at HK4.out
      have hle2 := HX4.out.le
      have hmx2 := HX4.out.max
      unfold maxLen at hmx2
      go_wp2_with fail
      go_loopw [9, 10] (fun fv kv wr => ∃ k : Nat, k ≤ n2 ∧ fv = .bool (hasE p (L.take k)) ∧ kv = .int .i64 k ∧ ∃ q, wr = W.drewN q) (fun _ kv _ => n2 - (intOf kv).toNat)
      case atStart => exact ⟨0, by omega, rfl, rfl, 0, rfl⟩
      case round =>
        obtain ⟨k, hk, rfl, rfl, q, rfl⟩ := hrel
        by_cases hlt : k < n2
        · have hkl : k < L.length := by have := HLX.out; omega
          obtain ⟨b, off, rfl, hbb, hc0, hc1⟩ := HX4.out.atE hlt
          cases hf : hasE p (L.take k)
          · have HM := Lib.hid (mem_step hkl hf)
            clear hf
            by_cases hx : nthE L k = p
            · rw [decide_eq_true hx] at HM
              have hd1 : ((nthE L k).1.toList == p.1.toList) = true := by rw [hx]; simp
              have hd2 : ((nthE L k).2 == p.2) = true := by rw [hx]; simp
              clear hx hkl
              go_wp2
              go_quiet (fail)
              go_wp2
              go_roundw
              case rel => exact ⟨k + 1, by omega, by rw [HM.out], by go_num, _, by first | rfl | rw [World.drewN_drewN]⟩
              case measure => simp [intOf]; omega
            · rw [decide_eq_false hx] at HM
              rcases ne_en hx with h1 | ⟨h1, h2⟩
              · have hd1 : ((nthE L k).1.toList == p.1.toList) = false := by rw [str_beq]; simpa using h1
                clear hx h1 hkl
                go_wp2
                go_quiet (fail)
                go_wp2
                go_roundw
                case rel => exact ⟨k + 1, by omega, by rw [HM.out], by go_num, _, by first | rfl | rw [World.drewN_drewN]⟩
                case measure => simp [intOf]; omega
              · have hd1 : ((nthE L k).1.toList == p.1.toList) = true := by rw [h1]; simp
                have hd2 : ((nthE L k).2 == p.2) = false := by simpa using h2
                clear hx h1 h2 hkl
                go_wp2
                go_quiet (fail)
                go_wp2
                go_roundw
                case rel => exact ⟨k + 1, by omega, by rw [HM.out], by go_num, _, by first | rfl | rw [World.drewN_drewN]⟩
                case measure => simp [intOf]; omega
          · have HM := Lib.hid (mem_keep hkl hf)
            clear hf hkl
            go_wp2
            go_quiet (fail)
            go_wp2
            go_roundw
            case rel => exact ⟨k + 1, by omega, by rw [HM.out], by go_num, _, by first | rfl | rw [World.drewN_drewN]⟩
            case measure => simp [intOf]; omega
        · obtain rfl : k = n2 := by omega
          have hf : hasE p (L.take k) = true := by rw [List.take_of_length_le (by have := HLX.out; omega)]; exact hasE_mem HMEM.out
          rw [hf]
          clear hf
          have HB5 := Lib.hid (below_drewN HB4.out q)
          have HX5 := Lib.hid (HX4.out.drewN q); have HL5 := Lib.hid (HL4.out.drewN q)
          have HK5 := Lib.hid (show (W.drewN q).heap[w0.heap.size]? = some (.cells #[.string p.1, .int .i64 p.2] 28 (0, 0)) from HK4.out)
          clear HB4 HX4 HL4 HK4
          go_wp2_with fail
          refine (implDropEntry_any _ _ _ L p.1 _ _ HX5.out (Nat.le_refl _) HZL.out).mono ?_
          rintro e w6 ⟨v6, rfl, ho, hb⟩
          rw [HDR.out] at ho ⊢
          obtain ⟨A, hA⟩ : ∃ A, (dropE l p.1).1 = A := ⟨_, rfl⟩
          dsimp only at ho
          rw [hA] at ho
          obtain ⟨x6, n6, c6, rfl, hx⟩ := ho.lst
          have HB6 := Lib.hid (HB5.out.trans (hb.mono HB5.out.size))
          have HX6 := Lib.hid ((HX5.out.below hb (Nat.le_refl _)).more hb.size)
          have HL6 := Lib.hid ((HL5.out.below hb (Nat.le_refl _)).more hb.size)
          have HA6 := Lib.hid hx
          have HK6 := Lib.hid ((hb.block _ hbx4).trans HK5.out)
          have HAA := Lib.hid hA
          clear hb HX5 HL5 HB5 HK5 ho hx d0 d1 g0 g1 hA
          obtain ⟨d0, d1, g0, g1⟩ := two_at HK6.out
          go_wp2_with fail
          refine (implDropEntry_any _ _ _ l p.1 _ _ HL6.out (Nat.le_refl _) HZ.out).mono ?_
          rintro e w7 ⟨v7, rfl, ho, hb⟩
          rw [HAA.out] at ho
          obtain ⟨x7, n7, c7, rfl, hx⟩ := ho.lst
          have HB7 := Lib.hid (HB6.out.trans (hb.mono HB6.out.size))
          have HX7 := Lib.hid ((HX6.out.below hb (Nat.le_refl _)).more hb.size)
          have HA7 := Lib.hid ((HA6.out.below hb (Nat.le_refl _)).more hb.size)
          have HC7 := Lib.hid hx
          clear hb HX6 HL6 HB6 HK6 ho hx d0 d1 g0 g1
          go_wp2_with fail
          refine (implEntriesValid_any _ _ _ L _ _ HX7.out (Nat.le_refl _) HZL.out).mono ?_
          rintro e w8 ⟨rfl, hb⟩
          rw [HEV.out]
          have HB8 := Lib.hid (HB7.out.trans (hb.mono HB7.out.size))
          have HA8 := Lib.hid ((HA7.out.below hb (Nat.le_refl _)).more hb.size)
          have HC8 := Lib.hid ((HC7.out.below hb (Nat.le_refl _)).more hb.size)
          clear hb HB7 HA7 HC7 HX7
          go_wp2_with (first
            | (go_at_call 21; refine (sameEntries_any _ _ _ _ _ _ A A _ _ HA8.out HC8.out).mono ?_; rintro e w9 hq; have hb := hq.below; obtain ⟨rfl, _⟩ := hq; rw [decide_eq_true (show A = A from rfl)]; have HB9 := Lib.hid (HB8.out.trans (hb.mono HB8.out.size)); clear hb))
          go_ret
          exact ⟨rfl, HB9.out⟩
end Go.Proofs.Ytjbkbbcogimaiaa
