/-
  Draws of chapters 9 to 12: a store, a root and a path.
-/
import Derived.Test.YtglajbmopiolhaaGreatDoorReach19
import Derived.Test.YtglajbmopiolhaaGreatDoorFold3
import Derived.Test.YtglajbmopiolhaaGreatDoorPrints
import Derived.Test.YtglajbmopiolhaaGreatDoorDraw0
import Derived.Test.YtglajbmopiolhaaGreatDoorChunks3
import Derived.Test.YtglajbmopiolhaaGreatDoorDraw5
namespace Go.Proofs.YtglajbmopiolhaaGreatDoor
open Go.RowKit
set_option linter.unusedVariables false
/-- The paths of all files. -/
def allB (l : List Pc) (root : Int) : List ByteArray := if storeB l = true then filesB l 3 root [] else []
theorem specAllFiles_any (x : Option Addr) (n cap : Nat) (l : List Pc) (root : Int) (B : Nat) (w : World) (h : Pcs w B x n cap l) (hB : B ≤ w.heap.size) (hz : ∀ k, (nthP l k).2.size ≤ 1048576) :
    Calls Tryz.prog 38 #[.slice x n cap, .int .i64 root] w (NewS (allB l root) w) := by
  have HH := Lib.hid h; have HZ := Lib.hid hz
  clear h hz
  cases hst : storeB l
  · have HF := Lib.hid (show allB l root = [] by unfold allB; rw [hst]; rfl)
    go_enter Tryz.func38, Tryz.ntmps38
    go_wp2_with fail
    refine (specStoreValid_any x n cap l B _ HH.out (mil_max HZ.out)).mono ?_
    rintro e w1 hq
    have hb := hq.below
    obtain ⟨rfl, _⟩ := hq
    have HB1 := Lib.hid hb
    have hs1 := hb.size
    rw [hst]
    clear hb
    go_wp2
    go_ret
    exact ⟨_, rfl, by rw [HF.out]; exact (OwnL.new strG 9 (size := 1) w1).mono hs1, HB1.out.alloc hs1 _⟩
  · have HF := Lib.hid (show allB l root = filesB l 3 root [] by unfold allB; rw [hst]; rfl)
    go_enter Tryz.func38, Tryz.ntmps38
    go_wp2_with fail
    refine (specStoreValid_any x n cap l B _ HH.out (mil_max HZ.out)).mono ?_
    rintro e w1 hq
    have hb := hq.below
    obtain ⟨rfl, _⟩ := hq
    have HB1 := Lib.hid hb; have HH1 := Lib.hid (HH.out.below hb hB)
    have hs1 := hb.size
    rw [hst]
    clear hb
    have HO := Lib.hid (OwnL.new strG 9 (size := 1) w1).lst'
    have HBA := Lib.hid ((Below.refl w1.heap.size w1).alloc (Nat.le_refl _) (.cells #[] 9))
    go_wp2_with fail
    refine (specFiles_any l x n cap HZ.out 3 root [] _ _ _ B _ rfl (HH1.out.below HBA.out (Nat.le_trans hB hs1)) (by simp; omega) HO.out (fun k => by simp [nthS])).mono ?_
    rintro e w2 ⟨v, rfl, ho, hb⟩
    obtain ⟨x2, n2, c2, rfl, _⟩ := ho.lst
    have HO2 := Lib.hid (ho.mono (Nat.le_trans hs1 HBA.out.size)); have HB2 := Lib.hid (HB1.out.trans ((HBA.out.trans (hb.mono HBA.out.size)).mono hs1))
    clear ho hb
    go_wp2
    go_ret
    exact ⟨_, rfl, by rw [HF.out]; exact HO2.out, HB2.out⟩
theorem files_small {l : List Pc} : ∀ (d : Nat) (p : Int) (ps : List ByteArray), (∀ s ∈ ps, s.size ≤ 9) → ps.length + d ≤ 3 → ∀ s ∈ filesB l d p ps, s.size ≤ 1000
  | 0, p, ps, h, hd, s, hs => by
    rw [filesB] at hs
    split at hs
    · rw [List.mem_singleton] at hs; subst hs; exact path_size ps h (by omega)
    · cases hs
  | d + 1, p, ps, h, hd, s, hs => by
    rw [filesB] at hs
    split at hs
    · rw [List.mem_singleton] at hs; subst hs; exact path_size ps h (by omega)
    · rw [List.mem_flatMap] at hs
      obtain ⟨q, hq, hs⟩ := hs
      refine files_small d q.2 (ps ++ [q.1]) ?_ (by simp; omega) s hs
      intro t ht
      rcases List.mem_append.1 ht with h1 | h1
      · exact h t h1
      · rw [List.mem_singleton] at h1
        subst h1
        have hf : isFold (getT l p) = true := by
          cases hx : isFold (getT l p)
          · rw [foldL_no hx] at hq; cases hq
          · rfl
        have := word_size (ents_ok (fold_is hf).1 q hq).1
        omega
theorem all_small {l : List Pc} {root : Int} : ∀ s ∈ allB l root, s.size ≤ 1000 := by
  unfold allB
  split
  · exact files_small 3 root [] (by intro s hs; cases hs) (by simp)
  · intro s hs; cases hs
theorem all_many {l : List Pc} {root : Int} : (allB l root).length ≤ 27 := by
  unfold allB
  split
  · exact files_many (by omega)
  · simp
theorem paths_size : ∀ s ∈ paths1 ++ paths2, s.size ≤ 60 := by decide +kernel
theorem short_mil {l : List Pc} (h : Short 60 l) : ∀ k, (nthP l k).2.size ≤ 1048576 := fun k => Nat.le_trans (short_nth h k) (by decide)
end Go.Proofs.YtglajbmopiolhaaGreatDoor
