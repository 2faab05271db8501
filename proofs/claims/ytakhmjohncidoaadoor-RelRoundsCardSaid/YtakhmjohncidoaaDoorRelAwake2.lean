/- The law's examples hold: the walk. -/
import Derived.Test.YtakhmjohncidoaaDoorRelAwake
namespace Go.Proofs.YtakhmjohncidoaaDoor
open Go.RowKit Go.Shelf

attribute [local go_sem] Oper.semAt_some

theorem SlI.on {W W' : World} {v : Value} {zs : List Nat} (h : SlI W.heap.size W v zs) (hb : Below W.heap.size W W') : SlI W'.heap.size W' v zs := (h.below hb).mono hb.size
theorem PairSl.on {W W' : World} {v : Value} {zs : List (Int × Int)} (h : PairSl W.heap.size W v zs) (hb : Below W.heap.size W W') : PairSl W'.heap.size W' v zs := (h.below hb).mono hb.size
theorem below_new (W : World) (o : Obj) : Below W.heap.size W (W.alloc o) := (Below.refl _ W).alloc (Nat.le_refl _) _
theorem thru {w W W' : World} (h : Below w.heap.size w W) (hb : Below W.heap.size W W') : Below w.heap.size w W' := h.trans (hb.mono h.size)

theorem ints_eq {va vb : Value} {zs : List Nat} {w : World} (ha : SlI w.heap.size w va zs) (hb : SlI w.heap.size w vb zs) :
    Calls Tryd.prog 36 #[va, vb] w fun e w' => e = .returned (.bool true) ∧ Below w.heap.size w w' :=
  (ints_same va vb zs _ w ha hb).mono fun _ _ h => ⟨h.1, h.2 _⟩
theorem pairs_eq {va vb : Value} {ps : List (Int × Int)} {w : World} (ha : PairSl w.heap.size w va ps) (hb : PairSl w.heap.size w vb ps) :
    Calls Tryd.prog 21 #[va, vb] w fun e w' => e = .returned (.bool true) ∧ Below w.heap.size w w' :=
  (pairs_same va vb ps _ w ha hb).mono fun _ _ h => ⟨h.1, h.2 _⟩

namespace Ex
/-- What the walk keeps. -/
def St (w W : World) (b1 b2 b3 b5 : Nat) : Prop := Below w.heap.size w W ∧ RelAt W b1 4 rF ∧ RelAt W b2 4 sF ∧ RelAt W b3 4 tF ∧ RelAt W b5 4 pF
theorem St.on {w W W' : World} {b1 b2 b3 b5 : Nat} (h : St w W b1 b2 b3 b5) (hb : Below W.heap.size W W') : St w W' b1 b2 b3 b5 :=
  ⟨thru h.1 hb, h.2.1.on hb, h.2.2.1.on hb, h.2.2.2.1.on hb, h.2.2.2.2.on hb⟩
theorem St.tab {w W : World} {b1 b2 b3 b5 : Nat} (h : St w W b1 b2 b3 b5) (hT : Tab w) : Tab W := hT.below h.1 hT.pos
end Ex

set_option maxRecDepth 100000 in
set_option maxHeartbeats 8000000 in
theorem awake_any (w : World) (hT : Tab w) : Calls Tryd.prog 5 #[] w fun e w' => e = .returned (.bool true) ∧ Below w.heap.size w w' := by
  have hp := hT.pos
  go_enter Tryd.func5, Tryd.ntmps5
  -- the first relation
  have hP := (Ex.pairLit Ex.rP w _ rfl (by decide) rfl).mono (n₁ := (w.alloc (.cells (pairCells Ex.rP).toArray 52)).heap.size) (by simp)
  have hB := below_new w (.cells (pairCells Ex.rP).toArray 52)
  go_wp2_with fail
  refine (Ex.callR _ _ hP).mono ?_
  rintro e w1 ⟨rfl, hb⟩
  replace hB := thru hB hb
  clear hP hb
  obtain ⟨W1, hs1, hR, hb, -⟩ := Ex.lay w1 4 Ex.rF
  replace hB := thru hB hb
  clear hb
  -- the second one
  have hP := (Ex.pairLit Ex.sP W1 _ rfl (by decide) rfl).mono (n₁ := (W1.alloc (.cells (pairCells Ex.sP).toArray 52)).heap.size) (by simp)
  have hb := below_new W1 (.cells (pairCells Ex.sP).toArray 52)
  replace hB := thru hB hb
  replace hR := hR.on hb
  clear hb
  go_wp2_with fail
  clear hs1
  refine (Ex.callS _ _ hP).mono ?_
  rintro e w2 ⟨rfl, hb⟩
  replace hB := thru hB hb
  replace hR := hR.on hb
  clear hP hb
  obtain ⟨W2, hs2, hS, hb, -⟩ := Ex.lay w2 4 Ex.sF
  replace hB := thru hB hb
  replace hR := hR.on hb
  clear hb
  -- the composition
  have l := hR.ld
  go_wp2_with fail
  clear hs2 l
  refine (Ex.callT _ (hT.below hB hp)).mono ?_
  rintro e w3 ⟨rfl, hb⟩
  replace hB := thru hB hb
  replace hR := hR.on hb
  replace hS := hS.on hb
  clear hb
  obtain ⟨W3, hs3, hTt, hb, -⟩ := Ex.lay w3 4 Ex.tF
  replace hB := thru hB hb
  replace hR := hR.on hb
  replace hS := hS.on hb
  clear hb
  -- the closure
  have l := hR.ld
  go_wp2_with fail
  clear hs3 l
  refine (Ex.callP _ (hT.below hB hp)).mono ?_
  rintro e w4 ⟨rfl, hb⟩
  replace hB := thru hB hb
  replace hR := hR.on hb
  replace hS := hS.on hb
  replace hTt := hTt.on hb
  clear hb
  obtain ⟨W4, hs4, hPp, hb, -⟩ := Ex.lay w4 4 Ex.pF
  have hX : Ex.St w W4 _ _ _ _ := ⟨thru hB hb, hR.on hb, hS.on hb, hTt.on hb, hPp⟩
  clear hb hB hR hS hTt hPp
  -- the orders
  have l := hX.2.1.ld
  go_wp2_with fail
  clear hs4 l
  refine (Ex.callTopR _ (hX.tab hT)).mono ?_
  rintro e w5 ⟨⟨v5, rfl⟩, hb⟩
  replace hX := hX.on hb
  clear hb
  have l := hX.2.2.1.ld
  go_wp2_with fail
  clear l
  refine (Ex.callTopS _ (hX.tab hT)).mono ?_
  rintro e w6 ⟨⟨v6, rfl, hV⟩, hb⟩
  replace hX := hX.on hb
  clear hb
  -- no relation
  have hP := (Ex.pairLit Ex.xP w6 _ rfl (by decide) rfl).mono (n₁ := (w6.alloc (.cells (pairCells Ex.xP).toArray 52)).heap.size) (by simp)
  have hb := below_new w6 (.cells (pairCells Ex.xP).toArray 52)
  replace hX := hX.on hb
  replace hV := hV.on hb
  clear hb
  go_wp2_with fail
  refine (Ex.callX _ _ hP).mono ?_
  rintro e w7 ⟨rfl, hb⟩
  replace hX := hX.on hb
  replace hV := hV.on hb
  clear hb hP
  obtain ⟨W7, hs7, -, hb, -⟩ := Ex.lay w7 0 zf
  replace hX := hX.on hb
  replace hV := hV.on hb
  clear hb
  -- the pairs
  have l := hX.2.2.2.1.ld
  go_wp2_with fail
  clear l hs7
  refine (Ex.callPairs _ (hX.tab hT)).mono ?_
  rintro e w8 ⟨⟨v8, rfl, hQ⟩, hb⟩
  replace hX := hX.on hb
  replace hV := hV.on hb
  clear hb
  have hL := (Ex.pairLit Ex.tP w8 _ rfl (by decide) rfl).mono (n₁ := (w8.alloc (.cells (pairCells Ex.tP).toArray 52)).heap.size) (by simp)
  have hb := below_new w8 (.cells (pairCells Ex.tP).toArray 52)
  replace hX := hX.on hb
  replace hV := hV.on hb
  replace hQ := hQ.on hb
  clear hb
  go_wp2_with fail
  refine (pairs_eq hQ hL).mono ?_
  rintro e w9 ⟨rfl, hb⟩
  replace hX := hX.on hb
  replace hV := hV.on hb
  clear hb hQ hL
  have l := hX.2.2.2.2.ld
  go_wp2_with fail
  clear l
  refine (Ex.callH1 _).mono ?_
  rintro e w10 ⟨rfl, hb⟩
  replace hX := hX.on hb
  replace hV := hV.on hb
  clear hb
  have l := hX.2.2.2.2.ld
  go_wp2_with fail
  clear l
  refine (Ex.callH2 _).mono ?_
  rintro e w11 ⟨rfl, hb⟩
  replace hX := hX.on hb
  replace hV := hV.on hb
  clear hb
  have l := hX.2.2.2.2.ld
  go_wp2_with fail
  clear l
  refine (Ex.callH3 _).mono ?_
  rintro e w12 ⟨rfl, hb⟩
  replace hX := hX.on hb
  replace hV := hV.on hb
  clear hb
  have l := hX.2.1.ld
  go_wp2_with fail
  clear l
  refine (Ex.callAc _ (hX.tab hT)).mono ?_
  rintro e w13 ⟨rfl, hb⟩
  replace hX := hX.on hb
  replace hV := hV.on hb
  clear hb
  have l := hX.2.1.ld
  go_wp2_with fail
  clear l
  refine (Ex.callRing _ (hX.tab hT)).mono ?_
  rintro e w14 ⟨⟨v14, rfl, hQ⟩, hb⟩
  replace hX := hX.on hb
  replace hV := hV.on hb
  clear hb
  have hL := (Ex.intLit [0, 1, 2] w14 _ rfl (by decide)).mono (n₁ := (w14.alloc (.cells (([0, 1, 2] : List Nat).map intV).toArray 3)).heap.size) (by simp)
  have hb := below_new w14 (.cells (([0, 1, 2] : List Nat).map intV).toArray 3)
  replace hX := hX.on hb
  replace hV := hV.on hb
  replace hQ := hQ.on hb
  clear hb
  go_wp2_with fail
  refine (ints_eq hQ hL).mono ?_
  rintro e w15 ⟨rfl, hb⟩
  replace hX := hX.on hb
  replace hV := hV.on hb
  clear hb hQ hL
  have hL := (Ex.intLit [0, 1, 2, 3] w15 _ rfl (by decide)).mono (n₁ := (w15.alloc (.cells (([0, 1, 2, 3] : List Nat).map intV).toArray 3)).heap.size) (by simp)
  have hb := below_new w15 (.cells (([0, 1, 2, 3] : List Nat).map intV).toArray 3)
  replace hX := hX.on hb
  replace hV := hV.on hb
  clear hb
  go_wp2_with fail
  refine (ints_eq hV hL).mono ?_
  rintro e w16 ⟨rfl, hb⟩
  replace hX := hX.on hb
  clear hb hV hL
  have hL := (Ex.pairLit Ex.uP w16 _ rfl (by decide) rfl).mono (n₁ := (w16.alloc (.cells (pairCells Ex.uP).toArray 52)).heap.size) (by simp)
  have hb := below_new w16 (.cells (pairCells Ex.uP).toArray 52)
  replace hX := hX.on hb
  clear hb
  go_wp2_with fail
  refine (Ex.callU _ _ hL).mono ?_
  rintro e w17 ⟨rfl, hb⟩
  replace hX := hX.on hb
  clear hb hL
  go_wp2_with fail
  refine (Ex.callRingU _ (hX.tab hT)).mono ?_
  rintro e w18 ⟨⟨v18, rfl, hQ⟩, hb⟩
  replace hX := hX.on hb
  clear hb
  have hL := (Ex.intLit [2] w18 _ rfl (by decide)).mono (n₁ := (w18.alloc (.cells (([2] : List Nat).map intV).toArray 3)).heap.size) (by simp)
  have hb := below_new w18 (.cells (([2] : List Nat).map intV).toArray 3)
  replace hX := hX.on hb
  replace hQ := hQ.on hb
  clear hb
  go_wp2_with fail
  refine (ints_eq hQ hL).mono ?_
  rintro e w19 ⟨rfl, hb⟩
  replace hX := hX.on hb
  clear hb hQ hL
  go_wp2
  go_ret
  exact ⟨rfl, hX.1⟩
end Go.Proofs.YtakhmjohncidoaaDoor
