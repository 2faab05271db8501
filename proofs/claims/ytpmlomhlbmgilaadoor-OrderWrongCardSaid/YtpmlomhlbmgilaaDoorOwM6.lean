/- OrdEx, OrdAwake in one text, for the claim. -/
import Derived.Test.YtpmlomhlbmgilaaDoorOwM5

section
/- The examples of the orders' laws, call by call. -/
namespace Go.Proofs.YtpmlomhlbmgilaaDoor
open Go.RowKit Go.Shelf

attribute [local go_sem] Oper.semAt_some

theorem orders_ok (N : Nat) (f : Nat → Nat) (M : Nat) (hM : M ≤ 10000) (hf : R64 f) (hr : rightB N f = true) (hle : (ordL N f).length ≤ M) (w : World) (hT : Tab w) :
    Calls Tryd.prog 51 #[.agg (relC N f), .int .i64 (M : Int)] w fun e w' => (∃ v, e = .returned (.tuple #[v, .int .i64 0]) ∧ ListSl w'.heap.size w' v (ordL N f)) ∧ Below w.heap.size w w' :=
  callsIn_wide.1 (orders_in N f M hM hf hr hle w hT)

/-- Where Count answers an error, Orders does. -/
theorem orders_err (n : Int) (f : Nat → Nat) (most : Int) (k E : Int) (hE : (E != 0) = true) (w : World) (hT : Tab w)
    (hc : ∀ W, Tab W → Calls Tryd.prog 53 #[.agg (relC n f), .int .i64 most] W fun e w' => e = .returned (.tuple #[.int .i64 k, .int .i64 E]) ∧ Below W.heap.size W w') :
    Calls Tryd.prog 51 #[.agg (relC n f), .int .i64 most] w fun e w' => e = .returned (.tuple #[.slice none 0 0, .int .i64 E]) ∧ Below w.heap.size w w' := by
  have hA := RelAt.new w n f
  have hB := below_new w (.cells (relC n f) 26)
  have hT1 := tab_new hT (.cells (relC n f) 26)
  have l1 := hA.ld
  have HC := Lib.hid hc
  clear hc
  go_enter Tryd.func51, Tryd.ntmps51
  go_wp2_with fail
  refine (HC.out _ hT1).mono ?_
  rintro e w1 ⟨rfl, h1⟩
  go_wp2
  go_ret2
  exact ⟨rfl, thru hB h1⟩

namespace ExO
def aP : List (It × It) := [Ex.pr 0 1]
def bP : List (It × It) := [Ex.pr 0 1, Ex.pr 1 0]
def aF := Ex.rowF [2]
def bF := Ex.rowF [2, 1]
def tF := Ex.rowF [2, 0, 3]
theorem a64 : R64 aF := Ex.rowF_64 (by decide)
theorem b64 : R64 bF := Ex.rowF_64 (by decide)
theorem t64 : R64 tF := Ex.rowF_64 (by decide)
theorem z64 : R64 zf := fun _ => Nat.two_pow_pos 64
theorem a_ord : ordL 3 aF = [[0, 1, 2], [0, 2, 1], [2, 0, 1]] := by decide +kernel
theorem b_ord : ordL 2 bF = [] := by decide +kernel
theorem z_ord : ordL 0 zf = [[]] := by decide +kernel
theorem a_right : rightB (3 : Nat) aF = true := by decide +kernel
theorem b_right : rightB (2 : Nat) bF = true := by decide +kernel
theorem z_right : rightB (0 : Nat) zf = true := by decide +kernel
theorem t_right : rightB (3 : Nat) tF = true := by decide +kernel
theorem of_a : relC (ofN 3 (aP.map itP)) (ofF 3 (aP.map itP)) = relC 3 aF := by
  rw [show ofN 3 (aP.map itP) = 3 by decide +kernel]
  exact relC_congr (Ex.lt48 (by decide +kernel))
theorem of_b : relC (ofN 2 (bP.map itP)) (ofF 2 (bP.map itP)) = relC 2 bF := by
  rw [show ofN 2 (bP.map itP) = 2 by decide +kernel]
  exact relC_congr (Ex.lt48 (by decide +kernel))
theorem of_c : relC (ofN 2 (aP.map itP)) (ofF 2 (aP.map itP)) = relC 2 aF := by
  rw [show ofN 2 (aP.map itP) = 2 by decide +kernel]
  exact relC_congr (Ex.lt48 (by decide +kernel))
theorem tot_t : relC 3 (totF 3 [2, 0, 1]) = relC 3 tF := relC_congr (Ex.lt48 (by decide +kernel))
theorem callA (v : Value) (w : World) (h : PairSl w.heap.size w v (aP.map itP)) : Calls Tryd.prog 14 #[.int .i64 3, v] w fun e w' => e = .returned (.tuple #[.agg (relC 3 aF), .int .i64 0]) ∧ Below w.heap.size w w' := by
  have := relOf_any 3 v _ w h
  unfold OfPost at this
  rw [show ofB 3 (aP.map itP) = true by decide +kernel] at this
  change Calls _ _ _ _ fun e w' => e = .returned (.tuple #[.agg (relC (ofN 3 (aP.map itP)) (ofF 3 (aP.map itP))), .int .i64 0]) ∧ _ at this
  rwa [of_a] at this
theorem callB (v : Value) (w : World) (h : PairSl w.heap.size w v (bP.map itP)) : Calls Tryd.prog 14 #[.int .i64 2, v] w fun e w' => e = .returned (.tuple #[.agg (relC 2 bF), .int .i64 0]) ∧ Below w.heap.size w w' := by
  have := relOf_any 2 v _ w h
  unfold OfPost at this
  rw [show ofB 2 (bP.map itP) = true by decide +kernel] at this
  change Calls _ _ _ _ fun e w' => e = .returned (.tuple #[.agg (relC (ofN 2 (bP.map itP)) (ofF 2 (bP.map itP))), .int .i64 0]) ∧ _ at this
  rwa [of_b] at this
theorem callC (v : Value) (w : World) (h : PairSl w.heap.size w v (aP.map itP)) : Calls Tryd.prog 14 #[.int .i64 2, v] w fun e w' => e = .returned (.tuple #[.agg (relC 2 aF), .int .i64 0]) ∧ Below w.heap.size w w' := by
  have := relOf_any 2 v _ w h
  unfold OfPost at this
  rw [show ofB 2 (aP.map itP) = true by decide +kernel] at this
  change Calls _ _ _ _ fun e w' => e = .returned (.tuple #[.agg (relC (ofN 2 (aP.map itP)) (ofF 2 (aP.map itP))), .int .i64 0]) ∧ _ at this
  rwa [of_c] at this
theorem callOrdA (w : World) (hT : Tab w) : Calls Tryd.prog 51 #[.agg (relC 3 aF), .int .i64 3] w fun e w' => (∃ v, e = .returned (.tuple #[v, .int .i64 0]) ∧ ListSl w'.heap.size w' v [[0, 1, 2], [0, 2, 1], [2, 0, 1]]) ∧ Below w.heap.size w w' := by
  have := orders_ok 3 aF 3 (by omega) a64 a_right (by rw [a_ord]; decide) w hT
  rwa [a_ord] at this
theorem callOrdB (w : World) (hT : Tab w) : Calls Tryd.prog 51 #[.agg (relC 2 bF), .int .i64 5] w fun e w' => (∃ v, e = .returned (.tuple #[v, .int .i64 0]) ∧ ListSl w'.heap.size w' v []) ∧ Below w.heap.size w w' := by
  have := orders_ok 2 bF 5 (by omega) b64 b_right (by rw [b_ord]; decide) w hT
  rwa [b_ord] at this
theorem callOrdZ (w : World) (hT : Tab w) : Calls Tryd.prog 51 #[.agg (relC 0 zf), .int .i64 1] w fun e w' => (∃ v, e = .returned (.tuple #[v, .int .i64 0]) ∧ ListSl w'.heap.size w' v [[]]) ∧ Below w.heap.size w w' := by
  have := orders_ok 0 zf 1 (by omega) z64 z_right (by rw [z_ord]; decide) w hT
  rwa [z_ord] at this
theorem callCnt3 (w : World) (hT : Tab w) : Calls Tryd.prog 53 #[.agg (relC 3 aF), .int .i64 3] w fun e w' => e = .returned (.tuple #[.int .i64 3, .int .i64 0]) ∧ Below w.heap.size w w' := by
  have := count_ok 3 aF 3 (by omega) a64 a_right w hT
  rwa [show cntR 3 aF (3 : Nat) = .tuple #[.int .i64 3, .int .i64 0] by rw [cntR, a_ord]; rfl] at this
theorem callCnt2 (w : World) (hT : Tab w) : Calls Tryd.prog 53 #[.agg (relC 3 aF), .int .i64 2] w fun e w' => e = .returned (.tuple #[.int .i64 0, .int .i64 5]) ∧ Below w.heap.size w w' := by
  have := count_ok 3 aF 2 (by omega) a64 a_right w hT
  rwa [show cntR 3 aF (2 : Nat) = .tuple #[.int .i64 0, .int .i64 5] by rw [cntR, a_ord]; rfl] at this
theorem intSl_of {n₀ : Nat} {W : World} {v : Value} {zs : List Nat} (h : SlI n₀ W v zs) : IntSl n₀ W v (zs.map fun k : Nat => (k : Int)) := by
  obtain ⟨hl, a, cap, rfl, hc⟩ := h
  refine ⟨by rw [List.length_map]; exact hl, a, cap, by rw [List.length_map], fun h0 => ?_⟩
  rw [List.length_map] at h0
  obtain ⟨b, rfl, hb, hcc⟩ := hc h0
  refine ⟨b, 0, rfl, hb, fun j hj => ?_⟩
  rw [List.length_map] at hj
  rw [Nat.zero_add, hcc j hj]
  simp [hj]
theorem callTot (v : Value) (w : World) (h : SlI w.heap.size w v [2, 0, 1]) : Calls Tryd.prog 54 #[.int .i64 3, v] w fun e w' => e = .returned (.tuple #[.agg (relC 3 tF), .int .i64 0]) ∧ Below w.heap.size w w' := by
  have := total_any 3 v [2, 0, 1] w (intSl_of h)
  unfold TotalPost at this
  rw [show ordB 3 [2, 0, 1] = true by decide +kernel] at this
  change Calls _ _ _ _ fun e w' => e = .returned (.tuple #[.agg (relC 3 (totF 3 [2, 0, 1])), .int .i64 0]) ∧ _ at this
  rwa [tot_t] at this
theorem callTotX (v : Value) (w : World) (h : SlI w.heap.size w v [0, 0]) : Calls Tryd.prog 54 #[.int .i64 2, v] w fun e w' => (∃ f, e = .returned (.tuple #[.agg (relC 0 f), .int .i64 2])) ∧ Below w.heap.size w w' := by
  have := total_any 2 v [0, 0] w (intSl_of h)
  unfold TotalPost at this
  rw [show ordB 2 [0, 0] = false by decide +kernel] at this
  exact this.mono fun e w' h => ⟨⟨_, h.1⟩, h.2⟩
theorem callOf (w : World) (hT : Tab w) : Calls Tryd.prog 56 #[.agg (relC 2 aF)] w fun e w' => (∃ v, e = .returned (.tuple #[v, .bool true]) ∧ SlI w'.heap.size w' v [0, 1]) ∧ Below w.heap.size w w' := by
  have := ordOf_any 2 aF a64 w hT
  rw [show ofO 2 aF = some [0, 1] by decide +kernel] at this
  refine this.mono ?_
  rintro e w' ⟨v, h, ho, hb⟩
  exact ⟨⟨v, h, slI_of_row (zs := [0, 1]) ho (by decide)⟩, hb⟩
theorem callOfX (w : World) (hT : Tab w) : Calls Tryd.prog 56 #[.agg (relC 2 zf)] w fun e w' => (∃ v, e = .returned (.tuple #[v, .bool false])) ∧ Below w.heap.size w w' := by
  have := ordOf_any 2 zf z64 w hT
  rw [show ofO 2 zf = none by decide +kernel] at this
  refine this.mono ?_
  rintro e w' ⟨v, h, ho, hb⟩
  exact ⟨⟨v, h⟩, hb⟩
theorem callH (a b : Nat) (h : hasB 3 tF a b = true) (w : World) : Calls Tryd.prog 25 #[.agg (relC 3 tF), .int .i64 (a : Int), .int .i64 (b : Int)] w fun e w' => e = .returned (.bool true) ∧ Below w.heap.size w w' := by
  have := relHas_any 3 tF a b w t64
  rwa [h] at this
theorem callPairs (w : World) (hT : Tab w) : Calls Tryd.prog 28 #[.agg (relC 3 tF)] w fun e w' => (∃ a c, e = .returned (.slice a 3 c)) ∧ Below w.heap.size w w' := by
  have := relPairs_any 3 tF w t64 hT
  rw [show rightB 3 tF = true by decide +kernel] at this
  refine this.mono ?_
  rintro e w' ⟨v, h, ho, hb⟩
  have hl : (pairsK tF 3).length = 3 := by decide +kernel
  change w'.ownsRow w.heap.size _ 2 v (pairsK tF 3).length _ at ho
  rw [hl] at ho
  obtain ⟨a, c, rfl⟩ := ownsRow_slice ho
  exact ⟨⟨a, c, h⟩, hb⟩
theorem callKeeps (v : Value) (w : World) (h : SlI w.heap.size w v [1, 0]) : Calls Tryd.prog 59 #[.agg (relC 2 aF), v] w fun e w' => e = .returned (.bool false) ∧ Below w.heap.size w w' := by
  have := keeps_any 2 aF a64 v [1, 0] w (intSl_of h)
  rwa [show keepB 2 aF [1, 0] = false by decide +kernel] at this
/-- A literal of lists. -/
theorem listLit (W : World) (vs : List Value) (ls : List (List Nat)) (hl : vs.length = ls.length) (hm : ls.length ≤ maxLen) (h : ∀ (j : Nat) (v : Value) (l : List Nat), vs[j]? = some v → ls[j]? = some l → SlI W.heap.size W v l) :
    ListSl (W.heap.size + 1) (W.alloc (.cells vs.toArray 46)) (.slice (some ⟨W.heap.size, 0, none⟩) ls.length ls.length) ls := by
  refine ⟨hm, _, _, rfl, fun _ => ⟨_, rfl, Nat.lt_succ_self _, fun j l hj => ?_⟩⟩
  have hjl := (List.getElem?_eq_some_iff.1 hj).1
  obtain ⟨u, hu⟩ : ∃ u, vs[j]? = some u := ⟨vs[j]'(by rw [hl]; exact hjl), List.getElem?_eq_getElem _⟩
  refine ⟨u, ?_, ((h j u l hu hj).below (below_new W _)).mono (Nat.le_succ _)⟩
  rw [cell_of_row _ _ j _ _ _ (heap_alloc_new W (.cells vs.toArray 46))]
  simpa using hu
end ExO
end Go.Proofs.YtpmlomhlbmgilaaDoor
end

section
/- The examples of the orders' laws hold. -/
namespace Go.Proofs.YtpmlomhlbmgilaaDoor
open Go.RowKit Go.Shelf

attribute [local go_sem] Oper.semAt_some

set_option maxRecDepth 100000 in
set_option maxHeartbeats 16000000 in
theorem ordAwake_any (w : World) (hT : Tab w) : Calls Tryd.prog 50 #[] w fun e w' => e = .returned (.bool true) ∧ Below w.heap.size w w' := by
  have hp := hT.pos
  have hX := KS.nil w
  go_enter Tryd.func50, Tryd.ntmps50
  -- the first relation
  have hP := (Ex.pairLit ExO.aP w _ rfl (by decide) rfl).mono (n₁ := (w.alloc (.cells (pairCells ExO.aP).toArray 72)).heap.size) (by simp)
  replace hX := hX.alloc (.cells (pairCells ExO.aP).toArray 72)
  go_wp2_with fail
  refine (ExO.callA _ _ hP).mono ?_
  rintro e w1 ⟨rfl, hb⟩
  obtain ⟨W1, hs1, hX, -⟩ := hX.lay hb 3 ExO.aF
  clear hP hb
  -- its orders
  have l := (hX.rel (w1.heap.size, 3, ExO.aF) (by simp)).ld
  go_wp2_with fail
  clear hs1 l
  refine (ExO.callOrdA _ (hX.tab hT)).mono ?_
  rintro e w2 ⟨⟨v2, rfl, hv2⟩, hb⟩
  replace hX := (hX.on hb).addLs hv2
  clear hv2 hb
  -- their number
  have l := (hX.rel (w1.heap.size, 3, ExO.aF) (by simp)).ld
  go_wp2_with fail
  clear l
  refine (ExO.callCnt3 _ (hX.tab hT)).mono ?_
  rintro e w3 ⟨rfl, hb⟩
  replace hX := hX.on hb
  clear hb
  have l := (hX.rel (w1.heap.size, 3, ExO.aF) (by simp)).ld
  go_wp2_with fail
  clear l
  refine (ExO.callCnt2 _ (hX.tab hT)).mono ?_
  rintro e w4 ⟨rfl, hb⟩
  replace hX := hX.on hb
  clear hb
  -- a round
  have hP := (Ex.pairLit ExO.bP w4 _ rfl (by decide) rfl).mono (n₁ := (w4.alloc (.cells (pairCells ExO.bP).toArray 72)).heap.size) (by simp)
  replace hX := hX.alloc (.cells (pairCells ExO.bP).toArray 72)
  go_wp2_with fail
  refine (ExO.callB _ _ hP).mono ?_
  rintro e w5 ⟨rfl, hb⟩
  obtain ⟨W5, hs5, hX, -⟩ := hX.lay hb 2 ExO.bF
  clear hP hb
  have l := (hX.rel (w5.heap.size, 2, ExO.bF) (by simp)).ld
  go_wp2_with fail
  clear hs5 l
  refine (ExO.callOrdB _ (hX.tab hT)).mono ?_
  rintro e w6 ⟨⟨v6, rfl, hv6⟩, hb⟩
  obtain ⟨-, a6, c6, rfl, -⟩ := hv6
  replace hX := hX.on hb
  clear hb
  -- the relation of an order
  have hP := (Ex.intLit [2, 0, 1] w6 #[.int .i64 2, .int .i64 0, .int .i64 1] rfl (by decide)).mono (n₁ := (w6.alloc (.cells #[.int .i64 2, .int .i64 0, .int .i64 1] 3)).heap.size) (by simp)
  replace hX := hX.alloc (.cells #[.int .i64 2, .int .i64 0, .int .i64 1] 3)
  go_wp2_with fail
  refine (ExO.callTot _ _ hP).mono ?_
  rintro e w7 ⟨rfl, hb⟩
  obtain ⟨W7, hs7, hX, -⟩ := hX.lay hb 3 ExO.tF
  clear hP hb
  have hP := (Ex.intLit [0, 0] W7 #[.int .i64 0, .int .i64 0] rfl (by decide)).mono (n₁ := (W7.alloc (.cells #[.int .i64 0, .int .i64 0] 3)).heap.size) (by simp)
  replace hX := hX.alloc (.cells #[.int .i64 0, .int .i64 0] 3)
  go_wp2_with fail
  clear hs7
  refine (ExO.callTotX _ _ hP).mono ?_
  rintro e w8 ⟨⟨f8, rfl⟩, hb⟩
  obtain ⟨W8, hs8, hX, -⟩ := hX.lay hb 0 f8
  clear hP hb
  -- an order's own
  have hP := (Ex.pairLit ExO.aP W8 _ rfl (by decide) rfl).mono (n₁ := (W8.alloc (.cells (pairCells ExO.aP).toArray 72)).heap.size) (by simp)
  replace hX := hX.alloc (.cells (pairCells ExO.aP).toArray 72)
  go_wp2_with fail
  clear hs8
  refine (ExO.callC _ _ hP).mono ?_
  rintro e w9 ⟨rfl, hb⟩
  obtain ⟨W9, hs9, hX, -⟩ := hX.lay hb 2 ExO.aF
  clear hP hb
  have l := (hX.rel (w9.heap.size, 2, ExO.aF) (by simp)).ld
  go_wp2_with fail
  clear hs9 l
  refine (ExO.callOf _ (hX.tab hT)).mono ?_
  rintro e w10 ⟨⟨v10, rfl, hv10⟩, hb⟩
  replace hX := (hX.on hb).addSl hv10
  clear hb hv10
  go_wp2_with fail
  refine (ExO.callOfX _ (hX.tab hT)).mono ?_
  rintro e w11 ⟨⟨v11, rfl⟩, hb⟩
  replace hX := hX.on hb
  clear hb
  go_wp2_with fail
  refine (ExO.callOrdZ _ (hX.tab hT)).mono ?_
  rintro e w12 ⟨⟨v12, rfl, hv12⟩, hb⟩
  replace hX := (hX.on hb).addLs hv12
  clear hb hv12
  go_wp2_with fail
  -- the lists
  have i1 := (Ex.intLit [0, 1, 2] w12 #[.int .i64 0, .int .i64 1, .int .i64 2] rfl (by decide)).mono (n₁ := (w12.alloc (.cells #[.int .i64 0, .int .i64 1, .int .i64 2] 3)).heap.size) (by simp)
  replace hX := hX.alloc (.cells #[.int .i64 0, .int .i64 1, .int .i64 2] 3)
  replace hX := hX.addSl i1
  clear i1
  have i2 := (Ex.intLit [0, 2, 1] (w12.alloc (.cells #[.int .i64 0, .int .i64 1, .int .i64 2] 3)) #[.int .i64 0, .int .i64 2, .int .i64 1] rfl (by decide)).mono (n₁ := ((w12.alloc (.cells #[.int .i64 0, .int .i64 1, .int .i64 2] 3)).alloc (.cells #[.int .i64 0, .int .i64 2, .int .i64 1] 3)).heap.size) (by simp)
  replace hX := hX.alloc (.cells #[.int .i64 0, .int .i64 2, .int .i64 1] 3)
  replace hX := hX.addSl i2
  clear i2
  have i3 := (Ex.intLit [2, 0, 1] ((w12.alloc (.cells #[.int .i64 0, .int .i64 1, .int .i64 2] 3)).alloc (.cells #[.int .i64 0, .int .i64 2, .int .i64 1] 3)) #[.int .i64 2, .int .i64 0, .int .i64 1] rfl (by decide)).mono (n₁ := (((w12.alloc (.cells #[.int .i64 0, .int .i64 1, .int .i64 2] 3)).alloc (.cells #[.int .i64 0, .int .i64 2, .int .i64 1] 3)).alloc (.cells #[.int .i64 2, .int .i64 0, .int .i64 1] 3)).heap.size) (by simp)
  replace hX := hX.alloc (.cells #[.int .i64 2, .int .i64 0, .int .i64 1] 3)
  replace hX := hX.addSl i3
  clear i3
  simp only [World.size_alloc] at hX
  have hz : (((w12.alloc (.cells #[.int .i64 0, .int .i64 1, .int .i64 2] 3)).alloc (.cells #[.int .i64 0, .int .i64 2, .int .i64 1] 3)).alloc (.cells #[.int .i64 2, .int .i64 0, .int .i64 1] 3)).heap.size = w12.heap.size + 1 + 1 + 1 := by simp
  generalize ((w12.alloc (.cells #[.int .i64 0, .int .i64 1, .int .i64 2] 3)).alloc (.cells #[.int .i64 0, .int .i64 2, .int .i64 1] 3)).alloc (.cells #[.int .i64 2, .int .i64 0, .int .i64 1] 3) = W12 at *
  have hL := (ExO.listLit W12 [.slice (some ⟨w12.heap.size, 0, none⟩) 3 3, .slice (some ⟨w12.heap.size + 1, 0, none⟩) 3 3, .slice (some ⟨w12.heap.size + 1 + 1, 0, none⟩) 3 3] [[0, 1, 2], [0, 2, 1], [2, 0, 1]] rfl (by decide) (by
    intro j v l hv hl
    match j, hv, hl with
    | 0, hv, hl => cases hv; cases hl; exact hX.sl (_, [0, 1, 2]) (by simp)
    | 1, hv, hl => cases hv; cases hl; exact hX.sl (_, [0, 2, 1]) (by simp)
    | 2, hv, hl => cases hv; cases hl; exact hX.sl (_, [2, 0, 1]) (by simp)
    | j + 3, hv, hl => simp at hv)).mono (n₁ := (W12.alloc (.cells #[.slice (some ⟨w12.heap.size, 0, none⟩) 3 3, .slice (some ⟨w12.heap.size + 1, 0, none⟩) 3 3, .slice (some ⟨w12.heap.size + 1 + 1, 0, none⟩) 3 3] 46)).heap.size) (by simp)
  rw [hz] at hL
  replace hX := hX.alloc (.cells #[.slice (some ⟨w12.heap.size, 0, none⟩) 3 3, .slice (some ⟨w12.heap.size + 1, 0, none⟩) 3 3, .slice (some ⟨w12.heap.size + 1 + 1, 0, none⟩) 3 3] 46)
  refine (lists_same _ _ _ _ (hX.ls (v2, [[0, 1, 2], [0, 2, 1], [2, 0, 1]]) (by simp)) hL).mono ?_
  rintro e w13 ⟨rfl, hb⟩
  replace hX := hX.on hb
  clear hb hL hz
  -- the pairs of an order
  have l := (hX.rel (w7.heap.size, 3, ExO.tF) (by simp)).ld
  go_wp2_with fail
  clear l
  refine (ExO.callH 0 1 (by decide +kernel) _).mono ?_
  rintro e w14 ⟨rfl, hb⟩
  replace hX := hX.on hb
  clear hb
  have l := (hX.rel (w7.heap.size, 3, ExO.tF) (by simp)).ld
  go_wp2_with fail
  clear l
  refine (ExO.callH 2 0 (by decide +kernel) _).mono ?_
  rintro e w15 ⟨rfl, hb⟩
  replace hX := hX.on hb
  clear hb
  have l := (hX.rel (w7.heap.size, 3, ExO.tF) (by simp)).ld
  go_wp2_with fail
  clear l
  refine (ExO.callH 2 1 (by decide +kernel) _).mono ?_
  rintro e w16 ⟨rfl, hb⟩
  replace hX := hX.on hb
  clear hb
  have l := (hX.rel (w7.heap.size, 3, ExO.tF) (by simp)).ld
  go_wp2_with fail
  clear l
  refine (ExO.callPairs _ (hX.tab hT)).mono ?_
  rintro e w17 ⟨⟨a17, c17, rfl⟩, hb⟩
  replace hX := hX.on hb
  clear hb
  -- what keeps no relation
  have hP := (Ex.intLit [1, 0] w17 #[.int .i64 1, .int .i64 0] rfl (by decide)).mono (n₁ := (w17.alloc (.cells #[.int .i64 1, .int .i64 0] 3)).heap.size) (by simp)
  have l := (hX.rel (w9.heap.size, 2, ExO.aF) (by simp)).ld
  replace hX := hX.alloc (.cells #[.int .i64 1, .int .i64 0] 3)
  go_wp2_with fail
  clear l
  refine (ExO.callKeeps _ _ hP).mono ?_
  rintro e w18 ⟨rfl, hb⟩
  replace hX := hX.on hb
  clear hb hP
  have hP := (Ex.intLit [0, 1] w18 #[.int .i64 0, .int .i64 1] rfl (by decide)).mono (n₁ := (w18.alloc (.cells #[.int .i64 0, .int .i64 1] 3)).heap.size) (by simp)
  replace hX := hX.alloc (.cells #[.int .i64 0, .int .i64 1] 3)
  go_wp2_with fail
  refine (ints_eq (hX.sl (v10, [0, 1]) (by simp)) hP).mono ?_
  rintro e w19 ⟨rfl, hb⟩
  replace hX := hX.on hb
  clear hb hP
  have hP := (Ex.intLit [] w19 #[] rfl (by decide)).mono (n₁ := (w19.alloc (.cells #[] 3)).heap.size) (by simp)
  replace hX := hX.alloc (.cells #[] 3)
  have hL := (ExO.listLit (w19.alloc (.cells #[] 3)) [.slice (some ⟨w19.heap.size, 0, none⟩) 0 0] [[]] rfl (by decide) (by
    intro j v l hv hl
    match j, hv, hl with
    | 0, hv, hl => cases hv; cases hl; exact hP
    | j + 1, hv, hl => simp at hv)).mono (n₁ := ((w19.alloc (.cells #[] 3)).alloc (.cells #[.slice (some ⟨w19.heap.size, 0, none⟩) 0 0] 46)).heap.size) (by simp)
  replace hX := hX.alloc (.cells #[.slice (some ⟨w19.heap.size, 0, none⟩) 0 0] 46)
  have hz : (w19.alloc (.cells #[] 3)).heap.size = w19.heap.size + 1 := by simp
  go_wp2_with fail
  generalize w19.alloc (.cells #[] 3) = W19 at *
  rw [hz] at hL
  refine (lists_same _ _ _ _ (hX.ls (v12, [[]]) (by simp)) hL).mono ?_
  rintro e w20 ⟨rfl, hb⟩
  replace hX := hX.on hb
  clear hb hL hP
  go_wp2
  go_ret
  exact ⟨rfl, hX.below⟩
end Go.Proofs.YtpmlomhlbmgilaaDoor
end
