/- The examples of the chapter: what the contracts say of them. -/
import Derived.Test.YtakhmjohncidoaaDoorRelAid2
namespace Go.Proofs.YtakhmjohncidoaaDoor
open Go.RowKit Go.Shelf

namespace Ex
def pr (a b : Nat) (ha : a < 48 := by decide) (hb : b < 48 := by decide) : It × It := (⟨a, ha⟩, ⟨b, hb⟩)
def rowF (l : List Nat) : Nat → Nat := fun i => l.getD i 0
theorem rowF_64 {l : List Nat} (h : l.all (fun x => decide (x < 2 ^ 64)) = true) : R64 (rowF l) := by
  intro i
  unfold rowF
  rw [List.getD_eq_getElem?_getD]
  rcases Nat.lt_or_ge i l.length with hi | hi
  · rw [List.getElem?_eq_getElem hi]
    exact of_decide_eq_true (List.all_eq_true.1 h _ (List.getElem_mem hi))
  · rw [List.getElem?_eq_none hi]
    exact Nat.two_pow_pos 64
def rF := rowF [2, 4, 9]
def sF := rowF [2, 4, 8]
def tF := rowF [4, 9, 2]
def pF := rowF [15, 15, 15]
def uF := rowF [2, 1, 4]
theorem r64 : R64 rF := rowF_64 (by decide)
theorem s64 : R64 sF := rowF_64 (by decide)
theorem t64 : R64 tF := rowF_64 (by decide)
theorem p64 : R64 pF := rowF_64 (by decide)
theorem u64 : R64 uF := rowF_64 (by decide)
def rP : List (It × It) := [pr 0 1, pr 1 2, pr 2 0, pr 2 3]
def sP : List (It × It) := [pr 0 1, pr 1 2, pr 2 3]
def tP : List (It × It) := [pr 0 2, pr 1 0, pr 1 3, pr 2 1]
def uP : List (It × It) := [pr 0 1, pr 1 0, pr 2 2]
def xP : List (It × It) := [pr 0 2]

theorem pairLit (l : List (It × It)) (W : World) (cs : Array Value) (hcs : cs = (pairCells l).toArray) (hm : l.length ≤ maxLen) (hl : (pairCells l).length = l.length * 2) :
    PairSl (W.heap.size + 1) (W.alloc (.cells cs 52)) (.slice (some ⟨W.heap.size, 0, none⟩) l.length l.length) (l.map itP) := by
  have h := World.ownsRow_lit (base := W.heap.size) (e := 52) (size := 2) W cs l.length (Nat.le_refl _) hm (by rw [hcs]; simpa using hl)
  have h2 := pairSl_of_row (l := l) (by rw [show pairCells l = cs.toList by rw [hcs]]; exact h) hm
  simpa using h2
theorem intLit (zs : List Nat) (W : World) (cs : Array Value) (hcs : cs = (zs.map intV).toArray) (hm : zs.length ≤ maxLen) :
    SlI (W.heap.size + 1) (W.alloc (.cells cs 3)) (.slice (some ⟨W.heap.size, 0, none⟩) zs.length zs.length) zs := by
  have h := World.ownsRow_lit (base := W.heap.size) (e := 3) (size := 1) W cs zs.length (Nat.le_refl _) hm (by rw [hcs]; simp)
  have h2 := slI_of_row (zs := zs) (by rw [show zs.map intV = cs.toList by rw [hcs]]; exact h) hm
  simpa using h2

theorem lt48 {f g : Nat → Nat} (h : ((List.range 48).all fun i => f i == g i) = true) : ∀ i, i < 48 → f i = g i := by
  intro i hi
  simpa using List.all_eq_true.1 h i (by simpa using hi)

theorem ofR : relC (ofN 4 (rP.map itP)) (ofF 4 (rP.map itP)) = relC 4 rF := by
  rw [show ofN 4 (rP.map itP) = 4 by decide +kernel]
  exact relC_congr (lt48 (by decide +kernel))
theorem ofS : relC (ofN 4 (sP.map itP)) (ofF 4 (sP.map itP)) = relC 4 sF := by
  rw [show ofN 4 (sP.map itP) = 4 by decide +kernel]
  exact relC_congr (lt48 (by decide +kernel))
theorem ofU : relC (ofN 3 (uP.map itP)) (ofF 3 (uP.map itP)) = relC 3 uF := by
  rw [show ofN 3 (uP.map itP) = 3 by decide +kernel]
  exact relC_congr (lt48 (by decide +kernel))
theorem thenT : combB 4 4 rF rF = true := by decide +kernel
theorem thenR : relC 4 (cutF 4 (thenF rF rF)) = relC 4 tF := relC_congr (lt48 (by decide +kernel))
theorem right_r : rightB 4 rF = true := by decide +kernel
theorem right_t : rightB 4 tF = true := by decide +kernel
theorem pairsT : (pairsK tF 4).map itP = tP.map itP := by decide +kernel
theorem fixP : Fixed 4 rF 2 := lt48 (by decide +kernel)
theorem plusR : relC 4 (plusF 4 rF) = relC 4 pF := relC_congr fun i hi => (plusF_at right_r fixP i hi).trans (lt48 (f := iterF 4 rF 2) (g := pF) (by decide +kernel) i hi)
theorem has1 : hasB 4 pF 0 0 = true := by decide +kernel
theorem has2 : hasB 4 pF 0 3 = true := by decide +kernel
theorem has3 : hasB 4 pF 3 3 = false := by decide +kernel
theorem topR : topF 4 rF = none := by decide +kernel
theorem topS : topF 4 sF = some [0, 1, 2, 3] := by decide +kernel
theorem ringR : ringF 4 rF = some [0, 1, 2] := by decide +kernel
theorem ringU : ringF 3 uF = some [2] := by decide +kernel
theorem ofX : ofB 2 (xP.map itP) = false := by decide +kernel
end Ex
end Go.Proofs.YtakhmjohncidoaaDoor
