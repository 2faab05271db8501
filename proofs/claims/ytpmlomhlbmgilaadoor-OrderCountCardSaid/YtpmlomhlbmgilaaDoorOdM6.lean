/- OrdAwake in one text, for the claim. -/
import Derived.Test.YtpmlomhlbmgilaaDoorOdM5

section
/- The examples of the orders' laws hold. -/
namespace Go.Proofs.YtpmlomhlbmgilaaDoor
open Go.RowKit Go.Shelf

attribute [local go_sem] Oper.semAt_some

set_option maxRecDepth 100000 in
set_option maxHeartbeats 16000000 in
theorem ordAwake_any (w : World) (hT : Tab w) : Calls Tryd.prog 50 #[] w fun e w' => e = .returned (.bool true) ∧ Below w.heap.size w w' := by
  have hp := hT.pos
  have hX := KS.nil w
  go_enter Tryd.func50, Tryd.ntmps50
  -- the first relation
  have hP := (Ex.pairLit ExO.aP w _ rfl (by decide) rfl).mono (n₁ := (w.alloc (.cells (pairCells ExO.aP).toArray 72)).heap.size) (by simp)
  replace hX := hX.alloc (.cells (pairCells ExO.aP).toArray 72)
  go_wp2_with fail
  refine (ExO.callA _ _ hP).mono ?_
  rintro e w1 ⟨rfl, hb⟩
  obtain ⟨W1, hs1, hX, -⟩ := hX.lay hb 3 ExO.aF
  clear hP hb
  -- its orders
  have l := (hX.rel (w1.heap.size, 3, ExO.aF) (by simp)).ld
  go_wp2_with fail
  clear hs1 l
  refine (ExO.callOrdA _ (hX.tab hT)).mono ?_
  rintro e w2 ⟨⟨v2, rfl, hv2⟩, hb⟩
  replace hX := (hX.on hb).addLs hv2
  clear hv2 hb
  -- their number
  have l := (hX.rel (w1.heap.size, 3, ExO.aF) (by simp)).ld
  go_wp2_with fail
  clear l
  refine (ExO.callCnt3 _ (hX.tab hT)).mono ?_
  rintro e w3 ⟨rfl, hb⟩
  replace hX := hX.on hb
  clear hb
  have l := (hX.rel (w1.heap.size, 3, ExO.aF) (by simp)).ld
  go_wp2_with fail
  clear l
  refine (ExO.callCnt2 _ (hX.tab hT)).mono ?_
  rintro e w4 ⟨rfl, hb⟩
  replace hX := hX.on hb
  clear hb
  -- a round
  have hP := (Ex.pairLit ExO.bP w4 _ rfl (by decide) rfl).mono (n₁ := (w4.alloc (.cells (pairCells ExO.bP).toArray 72)).heap.size) (by simp)
  replace hX := hX.alloc (.cells (pairCells ExO.bP).toArray 72)
  go_wp2_with fail
  refine (ExO.callB _ _ hP).mono ?_
  rintro e w5 ⟨rfl, hb⟩
  obtain ⟨W5, hs5, hX, -⟩ := hX.lay hb 2 ExO.bF
  clear hP hb
  have l := (hX.rel (w5.heap.size, 2, ExO.bF) (by simp)).ld
  go_wp2_with fail
  clear hs5 l
  refine (ExO.callOrdB _ (hX.tab hT)).mono ?_
  rintro e w6 ⟨⟨v6, rfl, hv6⟩, hb⟩
  obtain ⟨-, a6, c6, rfl, -⟩ := hv6
  replace hX := hX.on hb
  clear hb
  -- the relation of an order
  have hP := (Ex.intLit [2, 0, 1] w6 #[.int .i64 2, .int .i64 0, .int .i64 1] rfl (by decide)).mono (n₁ := (w6.alloc (.cells #[.int .i64 2, .int .i64 0, .int .i64 1] 3)).heap.size) (by simp)
  replace hX := hX.alloc (.cells #[.int .i64 2, .int .i64 0, .int .i64 1] 3)
  go_wp2_with fail
  refine (ExO.callTot _ _ hP).mono ?_
  rintro e w7 ⟨rfl, hb⟩
  obtain ⟨W7, hs7, hX, -⟩ := hX.lay hb 3 ExO.tF
  clear hP hb
  have hP := (Ex.intLit [0, 0] W7 #[.int .i64 0, .int .i64 0] rfl (by decide)).mono (n₁ := (W7.alloc (.cells #[.int .i64 0, .int .i64 0] 3)).heap.size) (by simp)
  replace hX := hX.alloc (.cells #[.int .i64 0, .int .i64 0] 3)
  go_wp2_with fail
  clear hs7
  refine (ExO.callTotX _ _ hP).mono ?_
  rintro e w8 ⟨⟨f8, rfl⟩, hb⟩
  obtain ⟨W8, hs8, hX, -⟩ := hX.lay hb 0 f8
  clear hP hb
  -- an order's own
  have hP := (Ex.pairLit ExO.aP W8 _ rfl (by decide) rfl).mono (n₁ := (W8.alloc (.cells (pairCells ExO.aP).toArray 72)).heap.size) (by simp)
  replace hX := hX.alloc (.cells (pairCells ExO.aP).toArray 72)
  go_wp2_with fail
  clear hs8
  refine (ExO.callC _ _ hP).mono ?_
  rintro e w9 ⟨rfl, hb⟩
  obtain ⟨W9, hs9, hX, -⟩ := hX.lay hb 2 ExO.aF
  clear hP hb
  have l := (hX.rel (w9.heap.size, 2, ExO.aF) (by simp)).ld
  go_wp2_with fail
  clear hs9 l
  refine (ExO.callOf _ (hX.tab hT)).mono ?_
  rintro e w10 ⟨⟨v10, rfl, hv10⟩, hb⟩
  replace hX := (hX.on hb).addSl hv10
  clear hb hv10
  go_wp2_with fail
  refine (ExO.callOfX _ (hX.tab hT)).mono ?_
  rintro e w11 ⟨⟨v11, rfl⟩, hb⟩
  replace hX := hX.on hb
  clear hb
  go_wp2_with fail
  refine (ExO.callOrdZ _ (hX.tab hT)).mono ?_
  rintro e w12 ⟨⟨v12, rfl, hv12⟩, hb⟩
  replace hX := (hX.on hb).addLs hv12
  clear hb hv12
  go_wp2_with fail
  -- the lists
  have i1 := (Ex.intLit [0, 1, 2] w12 #[.int .i64 0, .int .i64 1, .int .i64 2] rfl (by decide)).mono (n₁ := (w12.alloc (.cells #[.int .i64 0, .int .i64 1, .int .i64 2] 3)).heap.size) (by simp)
  replace hX := hX.alloc (.cells #[.int .i64 0, .int .i64 1, .int .i64 2] 3)
  replace hX := hX.addSl i1
  clear i1
  have i2 := (Ex.intLit [0, 2, 1] (w12.alloc (.cells #[.int .i64 0, .int .i64 1, .int .i64 2] 3)) #[.int .i64 0, .int .i64 2, .int .i64 1] rfl (by decide)).mono (n₁ := ((w12.alloc (.cells #[.int .i64 0, .int .i64 1, .int .i64 2] 3)).alloc (.cells #[.int .i64 0, .int .i64 2, .int .i64 1] 3)).heap.size) (by simp)
  replace hX := hX.alloc (.cells #[.int .i64 0, .int .i64 2, .int .i64 1] 3)
  replace hX := hX.addSl i2
  clear i2
  have i3 := (Ex.intLit [2, 0, 1] ((w12.alloc (.cells #[.int .i64 0, .int .i64 1, .int .i64 2] 3)).alloc (.cells #[.int .i64 0, .int .i64 2, .int .i64 1] 3)) #[.int .i64 2, .int .i64 0, .int .i64 1] rfl (by decide)).mono (n₁ := (((w12.alloc (.cells #[.int .i64 0, .int .i64 1, .int .i64 2] 3)).alloc (.cells #[.int .i64 0, .int .i64 2, .int .i64 1] 3)).alloc (.cells #[.int .i64 2, .int .i64 0, .int .i64 1] 3)).heap.size) (by simp)
  replace hX := hX.alloc (.cells #[.int .i64 2, .int .i64 0, .int .i64 1] 3)
  replace hX := hX.addSl i3
  clear i3
  simp only [World.size_alloc] at hX
  have hz : (((w12.alloc (.cells #[.int .i64 0, .int .i64 1, .int .i64 2] 3)).alloc (.cells #[.int .i64 0, .int .i64 2, .int .i64 1] 3)).alloc (.cells #[.int .i64 2, .int .i64 0, .int .i64 1] 3)).heap.size = w12.heap.size + 1 + 1 + 1 := by simp
  generalize ((w12.alloc (.cells #[.int .i64 0, .int .i64 1, .int .i64 2] 3)).alloc (.cells #[.int .i64 0, .int .i64 2, .int .i64 1] 3)).alloc (.cells #[.int .i64 2, .int .i64 0, .int .i64 1] 3) = W12 at *
  have hL := (ExO.listLit W12 [.slice (some ⟨w12.heap.size, 0, none⟩) 3 3, .slice (some ⟨w12.heap.size + 1, 0, none⟩) 3 3, .slice (some ⟨w12.heap.size + 1 + 1, 0, none⟩) 3 3] [[0, 1, 2], [0, 2, 1], [2, 0, 1]] rfl (by decide) (by
    intro j v l hv hl
    match j, hv, hl with
    | 0, hv, hl => cases hv; cases hl; exact hX.sl (_, [0, 1, 2]) (by simp)
    | 1, hv, hl => cases hv; cases hl; exact hX.sl (_, [0, 2, 1]) (by simp)
    | 2, hv, hl => cases hv; cases hl; exact hX.sl (_, [2, 0, 1]) (by simp)
    | j + 3, hv, hl => simp at hv)).mono (n₁ := (W12.alloc (.cells #[.slice (some ⟨w12.heap.size, 0, none⟩) 3 3, .slice (some ⟨w12.heap.size + 1, 0, none⟩) 3 3, .slice (some ⟨w12.heap.size + 1 + 1, 0, none⟩) 3 3] 46)).heap.size) (by simp)
  rw [hz] at hL
  replace hX := hX.alloc (.cells #[.slice (some ⟨w12.heap.size, 0, none⟩) 3 3, .slice (some ⟨w12.heap.size + 1, 0, none⟩) 3 3, .slice (some ⟨w12.heap.size + 1 + 1, 0, none⟩) 3 3] 46)
  refine (lists_same _ _ _ _ (hX.ls (v2, [[0, 1, 2], [0, 2, 1], [2, 0, 1]]) (by simp)) hL).mono ?_
  rintro e w13 ⟨rfl, hb⟩
  replace hX := hX.on hb
  clear hb hL hz
  -- the pairs of an order
  have l := (hX.rel (w7.heap.size, 3, ExO.tF) (by simp)).ld
  go_wp2_with fail
  clear l
  refine (ExO.callH 0 1 (by decide +kernel) _).mono ?_
  rintro e w14 ⟨rfl, hb⟩
  replace hX := hX.on hb
  clear hb
  have l := (hX.rel (w7.heap.size, 3, ExO.tF) (by simp)).ld
  go_wp2_with fail
  clear l
  refine (ExO.callH 2 0 (by decide +kernel) _).mono ?_
  rintro e w15 ⟨rfl, hb⟩
  replace hX := hX.on hb
  clear hb
  have l := (hX.rel (w7.heap.size, 3, ExO.tF) (by simp)).ld
  go_wp2_with fail
  clear l
  refine (ExO.callH 2 1 (by decide +kernel) _).mono ?_
  rintro e w16 ⟨rfl, hb⟩
  replace hX := hX.on hb
  clear hb
  have l := (hX.rel (w7.heap.size, 3, ExO.tF) (by simp)).ld
  go_wp2_with fail
  clear l
  refine (ExO.callPairs _ (hX.tab hT)).mono ?_
  rintro e w17 ⟨⟨a17, c17, rfl⟩, hb⟩
  replace hX := hX.on hb
  clear hb
  -- what keeps no relation
  have hP := (Ex.intLit [1, 0] w17 #[.int .i64 1, .int .i64 0] rfl (by decide)).mono (n₁ := (w17.alloc (.cells #[.int .i64 1, .int .i64 0] 3)).heap.size) (by simp)
  have l := (hX.rel (w9.heap.size, 2, ExO.aF) (by simp)).ld
  replace hX := hX.alloc (.cells #[.int .i64 1, .int .i64 0] 3)
  go_wp2_with fail
  clear l
  refine (ExO.callKeeps _ _ hP).mono ?_
  rintro e w18 ⟨rfl, hb⟩
  replace hX := hX.on hb
  clear hb hP
  have hP := (Ex.intLit [0, 1] w18 #[.int .i64 0, .int .i64 1] rfl (by decide)).mono (n₁ := (w18.alloc (.cells #[.int .i64 0, .int .i64 1] 3)).heap.size) (by simp)
  replace hX := hX.alloc (.cells #[.int .i64 0, .int .i64 1] 3)
  go_wp2_with fail
  refine (ints_eq (hX.sl (v10, [0, 1]) (by simp)) hP).mono ?_
  rintro e w19 ⟨rfl, hb⟩
  replace hX := hX.on hb
  clear hb hP
  have hP := (Ex.intLit [] w19 #[] rfl (by decide)).mono (n₁ := (w19.alloc (.cells #[] 3)).heap.size) (by simp)
  replace hX := hX.alloc (.cells #[] 3)
  have hL := (ExO.listLit (w19.alloc (.cells #[] 3)) [.slice (some ⟨w19.heap.size, 0, none⟩) 0 0] [[]] rfl (by decide) (by
    intro j v l hv hl
    match j, hv, hl with
    | 0, hv, hl => cases hv; cases hl; exact hP
    | j + 1, hv, hl => simp at hv)).mono (n₁ := ((w19.alloc (.cells #[] 3)).alloc (.cells #[.slice (some ⟨w19.heap.size, 0, none⟩) 0 0] 46)).heap.size) (by simp)
  replace hX := hX.alloc (.cells #[.slice (some ⟨w19.heap.size, 0, none⟩) 0 0] 46)
  have hz : (w19.alloc (.cells #[] 3)).heap.size = w19.heap.size + 1 := by simp
  go_wp2_with fail
  generalize w19.alloc (.cells #[] 3) = W19 at *
  rw [hz] at hL
  refine (lists_same _ _ _ _ (hX.ls (v12, [[]]) (by simp)) hL).mono ?_
  rintro e w20 ⟨rfl, hb⟩
  replace hX := hX.on hb
  clear hb hL hP
  go_wp2
  go_ret
  exact ⟨rfl, hX.below⟩
end Go.Proofs.YtpmlomhlbmgilaaDoor
end
