/- OrdLists, OrdEx, OrdInts, OrdAppend, OrdMixed, OrdAwake in one text, for the claim. -/
import Derived.Test.YtpmlomhlbmgilaaDoorOtM5
import Derived.Test.YtpmlomhlbmgilaaDoorRelAwake2
import Derived.Test.YtpmlomhlbmgilaaDoorOtM2
import Derived.Laws.AppendOwnNone
import Derived.Deep.RegionLaw
import Derived.Deep.RegionLawGrows
import Derived.Test.YtpmlomhlbmgilaaDoorOrdMarks
import Derived.Deep.DeepMust
import Derived.Deep.Onto

section
/- seisinlaw03.Lists on equal lists; what a law's walk carries. -/
namespace Go.Proofs.YtpmlomhlbmgilaaDoor
open Go.RowKit Go.Shelf

attribute [local go_sem] Oper.semAt_some

theorem ListSl.on {W W' : World} {v : Value} {zs : List (List Nat)} (h : ListSl W.heap.size W v zs) (hb : Below W.heap.size W W') : ListSl W'.heap.size W' v zs := (h.below hb).mono hb.size

/-- What a law's walk carries: relations in memory, lists, lists of lists. -/
structure KS (w W : World) (rels : List (Nat × Int × (Nat → Nat))) (sls : List (Value × List Nat)) (lls : List (Value × List (List Nat))) : Prop where
  below : Below w.heap.size w W
  rel : ∀ x ∈ rels, RelAt W x.1 x.2.1 x.2.2
  sl : ∀ x ∈ sls, SlI W.heap.size W x.1 x.2
  ls : ∀ x ∈ lls, ListSl W.heap.size W x.1 x.2
section
variable {w W W' : World} {rels : List (Nat × Int × (Nat → Nat))} {sls : List (Value × List Nat)} {lls : List (Value × List (List Nat))}
theorem KS.nil (w : World) : KS w w [] [] [] := ⟨Below.refl _ _, fun _ h => (by cases h), fun _ h => (by cases h), fun _ h => (by cases h)⟩
theorem KS.on (h : KS w W rels sls lls) (hb : Below W.heap.size W W') : KS w W' rels sls lls :=
  ⟨thru h.below hb, fun x hx => (h.rel x hx).on hb, fun x hx => (h.sl x hx).on hb, fun x hx => (h.ls x hx).on hb⟩
theorem KS.tab (h : KS w W rels sls lls) (hT : Tab w) : Tab W := hT.below h.below hT.pos
theorem KS.alloc (h : KS w W rels sls lls) (o : Obj) : KS w (W.alloc o) rels sls lls := h.on (below_new W o)
theorem KS.drew (h : KS w W rels sls lls) : KS w W.drew rels sls lls := h.on ((Below.refl _ W).drew)
theorem KS.addRel (h : KS w W rels sls lls) {b : Nat} {n : Int} {f : Nat → Nat} (hr : RelAt W b n f) : KS w W ((b, n, f) :: rels) sls lls :=
  ⟨h.below, fun x hx => by rcases List.mem_cons.1 hx with rfl | hx; exact hr; exact h.rel x hx, h.sl, h.ls⟩
theorem KS.addSl (h : KS w W rels sls lls) {v : Value} {zs : List Nat} (hr : SlI W.heap.size W v zs) : KS w W rels ((v, zs) :: sls) lls :=
  ⟨h.below, h.rel, fun x hx => by rcases List.mem_cons.1 hx with rfl | hx; exact hr; exact h.sl x hx, h.ls⟩
theorem KS.addLs (h : KS w W rels sls lls) {v : Value} {zs : List (List Nat)} (hr : ListSl W.heap.size W v zs) : KS w W rels sls ((v, zs) :: lls) :=
  ⟨h.below, h.rel, h.sl, fun x hx => by rcases List.mem_cons.1 hx with rfl | hx; exact hr; exact h.ls x hx⟩
/-- A call that returned a relation, laid into a new block. -/
theorem KS.lay (h : KS w W rels sls lls) (hb : Below W.heap.size W W') (n : Int) (f : Nat → Nat) :
    ∃ W2, (stRel (.pointer (some ⟨W'.heap.size, 0, none⟩)) (.agg (relC n f))).run Tryd.prog (W'.alloc (.cells (relC 0 zf) 26)) = .ok () W2 ∧ KS w W2 ((W'.heap.size, n, f) :: rels) sls lls ∧ W2.heap.size = W'.heap.size + 1 := by
  obtain ⟨W2, hs, hR, hb2, hz⟩ := Ex.lay W' n f
  exact ⟨W2, hs, ((h.on hb).on hb2).addRel hR, hz⟩
end

set_option maxRecDepth 100000 in
set_option maxHeartbeats 2000000 in
theorem lists_same (va vb : Value) (ls : List (List Nat)) (w : World) (ha : ListSl w.heap.size w va ls) (hb : ListSl w.heap.size w vb ls) :
    Calls Tryd.prog 58 #[va, vb] w fun e w' => e = .returned (.bool true) ∧ Below w.heap.size w w' := by
  obtain ⟨hl, a, ca, rfl, ha⟩ := ha
  obtain ⟨-, b, cb, rfl, hb⟩ := hb
  unfold maxLen at hl
  obtain ⟨K, hK⟩ : ∃ K, K = ls.length := ⟨_, rfl⟩
  have hKh := Lib.hid hK
  rw [← hK] at hl ha hb ⊢
  clear hK
  have hm : Tryd.prog.follows .mixedOrders = true := by kernel_rfl
  have HA := Lib.hid ha
  have HB := Lib.hid hb
  clear ha hb
  go_enter Tryd.func58, Tryd.ntmps58
  go_wp2
  go_loopw [13] (fun i W => ∃ k : Nat, k ≤ K ∧ i = .int .i64 k ∧ Below w.heap.size w W) (fun i _ => K - (intOf i).toNat)
  case atStart => exact ⟨0, Nat.zero_le _, rfl, Below.refl _ _⟩
  case round =>
    obtain ⟨k, hk, rfl, hB⟩ := hrel
    by_cases hlt : k < K
    · obtain ⟨x, rfl, hx1, hx2⟩ := HA.out (by omega)
      obtain ⟨y, rfl, hy1, hy2⟩ := HB.out (by omega)
      obtain ⟨l, hl2⟩ : ∃ l, ls[k]? = some l := ⟨ls[k]'(by rw [← hKh.out]; exact hlt), List.getElem?_eq_getElem _⟩
      obtain ⟨u1, hu1, hs1⟩ := hx2 k l hl2
      obtain ⟨u2, hu2, hs2⟩ := hy2 k l hl2
      have c1 := (hB.cell (p := ⟨x, k, none⟩) hx1).trans hu1
      have c2 := (hB.cell (p := ⟨y, k, none⟩) hy1).trans hu2
      have i1 := Lib.hid (((hs1.below hB).mono hB.size))
      have i2 := Lib.hid (((hs2.below hB).mono hB.size))
      clear hx2 hy2 hu1 hu2 hs1 hs2
      have t1 : decide (k < K) = true := by simpa using hlt
      have hBd := Lib.hid hB
      clear hB
      go_upto_region 6 with fail
      refine wp_region_tail 8 hm (by kernel_rfl) ?_
      simp only [List.take_succ_cons, List.take_zero, List.drop_succ_cons, List.drop_zero]
      repeat still_step
      refine wpStill_nil ?_
      go_wp2_with fail
      refine (ints_eq (w := wr.drew) i1.out i2.out).mono ?_
      rintro e w2 ⟨rfl, h2⟩
      go_wp2
      go_roundw
      case rel => exact ⟨k + 1, by omega, by go_num, thru hBd.out.drew h2⟩
      case measure => simp [intOf]; omega
    · obtain rfl : k = K := by omega
      go_wp2
      go_ret
      exact ⟨rfl, hB⟩
end Go.Proofs.YtpmlomhlbmgilaaDoor
end

section
/- The examples of the orders' laws, call by call. -/
namespace Go.Proofs.YtpmlomhlbmgilaaDoor
open Go.RowKit Go.Shelf

attribute [local go_sem] Oper.semAt_some

theorem orders_ok (N : Nat) (f : Nat → Nat) (M : Nat) (hM : M ≤ 10000) (hf : R64 f) (hr : rightB N f = true) (hle : (ordL N f).length ≤ M) (w : World) (hT : Tab w) :
    Calls Tryd.prog 51 #[.agg (relC N f), .int .i64 (M : Int)] w fun e w' => (∃ v, e = .returned (.tuple #[v, .int .i64 0]) ∧ ListSl w'.heap.size w' v (ordL N f)) ∧ Below w.heap.size w w' :=
  callsIn_wide.1 (orders_in N f M hM hf hr hle w hT)

/-- Where Count answers an error, Orders does. -/
theorem orders_err (n : Int) (f : Nat → Nat) (most : Int) (k E : Int) (hE : (E != 0) = true) (w : World) (hT : Tab w)
    (hc : ∀ W, Tab W → Calls Tryd.prog 53 #[.agg (relC n f), .int .i64 most] W fun e w' => e = .returned (.tuple #[.int .i64 k, .int .i64 E]) ∧ Below W.heap.size W w') :
    Calls Tryd.prog 51 #[.agg (relC n f), .int .i64 most] w fun e w' => e = .returned (.tuple #[.slice none 0 0, .int .i64 E]) ∧ Below w.heap.size w w' := by
  have hA := RelAt.new w n f
  have hB := below_new w (.cells (relC n f) 26)
  have hT1 := tab_new hT (.cells (relC n f) 26)
  have l1 := hA.ld
  have HC := Lib.hid hc
  clear hc
  go_enter Tryd.func51, Tryd.ntmps51
  go_wp2_with fail
  refine (HC.out _ hT1).mono ?_
  rintro e w1 ⟨rfl, h1⟩
  go_wp2
  go_ret2
  exact ⟨rfl, thru hB h1⟩

namespace ExO
def aP : List (It × It) := [Ex.pr 0 1]
def bP : List (It × It) := [Ex.pr 0 1, Ex.pr 1 0]
def aF := Ex.rowF [2]
def bF := Ex.rowF [2, 1]
def tF := Ex.rowF [2, 0, 3]
theorem a64 : R64 aF := Ex.rowF_64 (by decide)
theorem b64 : R64 bF := Ex.rowF_64 (by decide)
theorem t64 : R64 tF := Ex.rowF_64 (by decide)
theorem z64 : R64 zf := fun _ => Nat.two_pow_pos 64
theorem a_ord : ordL 3 aF = [[0, 1, 2], [0, 2, 1], [2, 0, 1]] := by decide +kernel
theorem b_ord : ordL 2 bF = [] := by decide +kernel
theorem z_ord : ordL 0 zf = [[]] := by decide +kernel
theorem a_right : rightB (3 : Nat) aF = true := by decide +kernel
theorem b_right : rightB (2 : Nat) bF = true := by decide +kernel
theorem z_right : rightB (0 : Nat) zf = true := by decide +kernel
theorem t_right : rightB (3 : Nat) tF = true := by decide +kernel
theorem of_a : relC (ofN 3 (aP.map itP)) (ofF 3 (aP.map itP)) = relC 3 aF := by
  rw [show ofN 3 (aP.map itP) = 3 by decide +kernel]
  exact relC_congr (Ex.lt48 (by decide +kernel))
theorem of_b : relC (ofN 2 (bP.map itP)) (ofF 2 (bP.map itP)) = relC 2 bF := by
  rw [show ofN 2 (bP.map itP) = 2 by decide +kernel]
  exact relC_congr (Ex.lt48 (by decide +kernel))
theorem of_c : relC (ofN 2 (aP.map itP)) (ofF 2 (aP.map itP)) = relC 2 aF := by
  rw [show ofN 2 (aP.map itP) = 2 by decide +kernel]
  exact relC_congr (Ex.lt48 (by decide +kernel))
theorem tot_t : relC 3 (totF 3 [2, 0, 1]) = relC 3 tF := relC_congr (Ex.lt48 (by decide +kernel))
theorem callA (v : Value) (w : World) (h : PairSl w.heap.size w v (aP.map itP)) : Calls Tryd.prog 14 #[.int .i64 3, v] w fun e w' => e = .returned (.tuple #[.agg (relC 3 aF), .int .i64 0]) ∧ Below w.heap.size w w' := by
  have := relOf_any 3 v _ w h
  unfold OfPost at this
  rw [show ofB 3 (aP.map itP) = true by decide +kernel] at this
  change Calls _ _ _ _ fun e w' => e = .returned (.tuple #[.agg (relC (ofN 3 (aP.map itP)) (ofF 3 (aP.map itP))), .int .i64 0]) ∧ _ at this
  rwa [of_a] at this
theorem callB (v : Value) (w : World) (h : PairSl w.heap.size w v (bP.map itP)) : Calls Tryd.prog 14 #[.int .i64 2, v] w fun e w' => e = .returned (.tuple #[.agg (relC 2 bF), .int .i64 0]) ∧ Below w.heap.size w w' := by
  have := relOf_any 2 v _ w h
  unfold OfPost at this
  rw [show ofB 2 (bP.map itP) = true by decide +kernel] at this
  change Calls _ _ _ _ fun e w' => e = .returned (.tuple #[.agg (relC (ofN 2 (bP.map itP)) (ofF 2 (bP.map itP))), .int .i64 0]) ∧ _ at this
  rwa [of_b] at this
theorem callC (v : Value) (w : World) (h : PairSl w.heap.size w v (aP.map itP)) : Calls Tryd.prog 14 #[.int .i64 2, v] w fun e w' => e = .returned (.tuple #[.agg (relC 2 aF), .int .i64 0]) ∧ Below w.heap.size w w' := by
  have := relOf_any 2 v _ w h
  unfold OfPost at this
  rw [show ofB 2 (aP.map itP) = true by decide +kernel] at this
  change Calls _ _ _ _ fun e w' => e = .returned (.tuple #[.agg (relC (ofN 2 (aP.map itP)) (ofF 2 (aP.map itP))), .int .i64 0]) ∧ _ at this
  rwa [of_c] at this
theorem callOrdA (w : World) (hT : Tab w) : Calls Tryd.prog 51 #[.agg (relC 3 aF), .int .i64 3] w fun e w' => (∃ v, e = .returned (.tuple #[v, .int .i64 0]) ∧ ListSl w'.heap.size w' v [[0, 1, 2], [0, 2, 1], [2, 0, 1]]) ∧ Below w.heap.size w w' := by
  have := orders_ok 3 aF 3 (by omega) a64 a_right (by rw [a_ord]; decide) w hT
  rwa [a_ord] at this
theorem callOrdB (w : World) (hT : Tab w) : Calls Tryd.prog 51 #[.agg (relC 2 bF), .int .i64 5] w fun e w' => (∃ v, e = .returned (.tuple #[v, .int .i64 0]) ∧ ListSl w'.heap.size w' v []) ∧ Below w.heap.size w w' := by
  have := orders_ok 2 bF 5 (by omega) b64 b_right (by rw [b_ord]; decide) w hT
  rwa [b_ord] at this
theorem callOrdZ (w : World) (hT : Tab w) : Calls Tryd.prog 51 #[.agg (relC 0 zf), .int .i64 1] w fun e w' => (∃ v, e = .returned (.tuple #[v, .int .i64 0]) ∧ ListSl w'.heap.size w' v [[]]) ∧ Below w.heap.size w w' := by
  have := orders_ok 0 zf 1 (by omega) z64 z_right (by rw [z_ord]; decide) w hT
  rwa [z_ord] at this
theorem callCnt3 (w : World) (hT : Tab w) : Calls Tryd.prog 53 #[.agg (relC 3 aF), .int .i64 3] w fun e w' => e = .returned (.tuple #[.int .i64 3, .int .i64 0]) ∧ Below w.heap.size w w' := by
  have := count_ok 3 aF 3 (by omega) a64 a_right w hT
  rwa [show cntR 3 aF (3 : Nat) = .tuple #[.int .i64 3, .int .i64 0] by rw [cntR, a_ord]; rfl] at this
theorem callCnt2 (w : World) (hT : Tab w) : Calls Tryd.prog 53 #[.agg (relC 3 aF), .int .i64 2] w fun e w' => e = .returned (.tuple #[.int .i64 0, .int .i64 5]) ∧ Below w.heap.size w w' := by
  have := count_ok 3 aF 2 (by omega) a64 a_right w hT
  rwa [show cntR 3 aF (2 : Nat) = .tuple #[.int .i64 0, .int .i64 5] by rw [cntR, a_ord]; rfl] at this
theorem intSl_of {n₀ : Nat} {W : World} {v : Value} {zs : List Nat} (h : SlI n₀ W v zs) : IntSl n₀ W v (zs.map fun k : Nat => (k : Int)) := by
  obtain ⟨hl, a, cap, rfl, hc⟩ := h
  refine ⟨by rw [List.length_map]; exact hl, a, cap, by rw [List.length_map], fun h0 => ?_⟩
  rw [List.length_map] at h0
  obtain ⟨b, rfl, hb, hcc⟩ := hc h0
  refine ⟨b, 0, rfl, hb, fun j hj => ?_⟩
  rw [List.length_map] at hj
  rw [Nat.zero_add, hcc j hj]
  simp [hj]
theorem callTot (v : Value) (w : World) (h : SlI w.heap.size w v [2, 0, 1]) : Calls Tryd.prog 54 #[.int .i64 3, v] w fun e w' => e = .returned (.tuple #[.agg (relC 3 tF), .int .i64 0]) ∧ Below w.heap.size w w' := by
  have := total_any 3 v [2, 0, 1] w (intSl_of h)
  unfold TotalPost at this
  rw [show ordB 3 [2, 0, 1] = true by decide +kernel] at this
  change Calls _ _ _ _ fun e w' => e = .returned (.tuple #[.agg (relC 3 (totF 3 [2, 0, 1])), .int .i64 0]) ∧ _ at this
  rwa [tot_t] at this
theorem callTotX (v : Value) (w : World) (h : SlI w.heap.size w v [0, 0]) : Calls Tryd.prog 54 #[.int .i64 2, v] w fun e w' => (∃ f, e = .returned (.tuple #[.agg (relC 0 f), .int .i64 2])) ∧ Below w.heap.size w w' := by
  have := total_any 2 v [0, 0] w (intSl_of h)
  unfold TotalPost at this
  rw [show ordB 2 [0, 0] = false by decide +kernel] at this
  exact this.mono fun e w' h => ⟨⟨_, h.1⟩, h.2⟩
theorem callOf (w : World) (hT : Tab w) : Calls Tryd.prog 56 #[.agg (relC 2 aF)] w fun e w' => (∃ v, e = .returned (.tuple #[v, .bool true]) ∧ SlI w'.heap.size w' v [0, 1]) ∧ Below w.heap.size w w' := by
  have := ordOf_any 2 aF a64 w hT
  rw [show ofO 2 aF = some [0, 1] by decide +kernel] at this
  refine this.mono ?_
  rintro e w' ⟨v, h, ho, hb⟩
  exact ⟨⟨v, h, slI_of_row (zs := [0, 1]) ho (by decide)⟩, hb⟩
theorem callOfX (w : World) (hT : Tab w) : Calls Tryd.prog 56 #[.agg (relC 2 zf)] w fun e w' => (∃ v, e = .returned (.tuple #[v, .bool false])) ∧ Below w.heap.size w w' := by
  have := ordOf_any 2 zf z64 w hT
  rw [show ofO 2 zf = none by decide +kernel] at this
  refine this.mono ?_
  rintro e w' ⟨v, h, ho, hb⟩
  exact ⟨⟨v, h⟩, hb⟩
theorem callH (a b : Nat) (h : hasB 3 tF a b = true) (w : World) : Calls Tryd.prog 25 #[.agg (relC 3 tF), .int .i64 (a : Int), .int .i64 (b : Int)] w fun e w' => e = .returned (.bool true) ∧ Below w.heap.size w w' := by
  have := relHas_any 3 tF a b w t64
  rwa [h] at this
theorem callPairs (w : World) (hT : Tab w) : Calls Tryd.prog 28 #[.agg (relC 3 tF)] w fun e w' => (∃ a c, e = .returned (.slice a 3 c)) ∧ Below w.heap.size w w' := by
  have := relPairs_any 3 tF w t64 hT
  rw [show rightB 3 tF = true by decide +kernel] at this
  refine this.mono ?_
  rintro e w' ⟨v, h, ho, hb⟩
  have hl : (pairsK tF 3).length = 3 := by decide +kernel
  change w'.ownsRow w.heap.size _ 2 v (pairsK tF 3).length _ at ho
  rw [hl] at ho
  obtain ⟨a, c, rfl⟩ := ownsRow_slice ho
  exact ⟨⟨a, c, h⟩, hb⟩
theorem callKeeps (v : Value) (w : World) (h : SlI w.heap.size w v [1, 0]) : Calls Tryd.prog 59 #[.agg (relC 2 aF), v] w fun e w' => e = .returned (.bool false) ∧ Below w.heap.size w w' := by
  have := keeps_any 2 aF a64 v [1, 0] w (intSl_of h)
  rwa [show keepB 2 aF [1, 0] = false by decide +kernel] at this
/-- A literal of lists. -/
theorem listLit (W : World) (vs : List Value) (ls : List (List Nat)) (hl : vs.length = ls.length) (hm : ls.length ≤ maxLen) (h : ∀ (j : Nat) (v : Value) (l : List Nat), vs[j]? = some v → ls[j]? = some l → SlI W.heap.size W v l) :
    ListSl (W.heap.size + 1) (W.alloc (.cells vs.toArray 46)) (.slice (some ⟨W.heap.size, 0, none⟩) ls.length ls.length) ls := by
  refine ⟨hm, _, _, rfl, fun _ => ⟨_, rfl, Nat.lt_succ_self _, fun j l hj => ?_⟩⟩
  have hjl := (List.getElem?_eq_some_iff.1 hj).1
  obtain ⟨u, hu⟩ : ∃ u, vs[j]? = some u := ⟨vs[j]'(by rw [hl]; exact hjl), List.getElem?_eq_getElem _⟩
  refine ⟨u, ?_, ((h j u l hu hj).below (below_new W _)).mono (Nat.le_succ _)⟩
  rw [cell_of_row _ _ j _ _ _ (heap_alloc_new W (.cells vs.toArray 46))]
  simpa using hu
end ExO
end Go.Proofs.YtpmlomhlbmgilaaDoor
end

section
/- The laws' own comparisons of two lists of numbers, whatever they hold. -/
namespace Go.Proofs.YtpmlomhlbmgilaaDoor
open Go.RowKit Go.Shelf

attribute [local go_sem] Oper.semAt_some

theorem drop_at {l : List Nat} {k x : Nat} (h : l[k]? = some x) : l.drop k = x :: l.drop (k + 1) := by
  have hk := (List.getElem?_eq_some_iff.1 h).1
  rw [List.drop_eq_getElem_cons hk, (List.getElem?_eq_some_iff.1 h).2]

set_option maxHeartbeats 1000000 in
set_option maxRecDepth 100000 in
theorem ints_any (va vb : Value) (xs ys : List Nat) (n₀ : Nat) (w : World) (ha : SlI n₀ w va xs) (hb : SlI n₀ w vb ys) :
    Calls Tryd.prog 42 #[va, vb] w fun e w' => e = .returned (.bool (decide (xs = ys))) ∧ ∀ B, Below B w w' := by
  obtain ⟨hm, a, ca, rfl, ha⟩ := ha
  obtain ⟨hm2, b, cb, rfl, hb⟩ := hb
  unfold maxLen at hm hm2
  by_cases hl : xs.length = ys.length
  · have t0 : ((xs.length : Int) != (ys.length : Int)) = false := by simp [hl]
    replace hl := Lib.hid hl
    go_enter Tryd.func42, Tryd.ntmps42
    go_wp2
    go_loopw [5, 13] (fun _ i wr => ∃ k : Nat, k ≤ xs.length ∧ i = .int .i64 k ∧ (xs.drop k = ys.drop k ↔ xs = ys) ∧ ∀ B, Below B w wr) (fun _ i _ => xs.length - (intOf i).toNat)
    case atStart => exact ⟨0, Nat.zero_le _, rfl, by simp, fun B => Below.refl B w⟩
    case round =>
      obtain ⟨k, hk, rfl, hi, hB⟩ := hrel
      by_cases hlt : k < xs.length
      · obtain ⟨b1, rfl, hb1, hc1⟩ := ha (by omega)
        obtain ⟨b2, rfl, hb2, hc2⟩ := hb (by have := hl.out; omega)
        have hlt2 : k < ys.length := by have := hl.out; omega
        obtain ⟨x, hx⟩ : ∃ x, xs[k]? = some x := ⟨xs[k]'hlt, List.getElem?_eq_getElem _⟩
        obtain ⟨y, hy⟩ : ∃ y, ys[k]? = some y := ⟨ys[k]'hlt2, List.getElem?_eq_getElem _⟩
        have d1 := ((hB n₀).cell (p := ⟨b1, k, none⟩) hb1).trans (hc1 k hlt)
        have d2 := ((hB n₀).cell (p := ⟨b2, k, none⟩) hb2).trans (hc2 k hlt2)
        rw [hx, Option.getD_some] at d1
        rw [hy, Option.getD_some] at d2
        rw [drop_at hx, drop_at hy, List.cons.injEq] at hi
        have t1 : decide (k < xs.length) = true := by simpa using hlt
        have u1 : decide ((k : Int) < (ys.length : Int)) = true := by simpa using hlt2
        replace hi := Lib.hid hi
        replace hB := Lib.hid hB
        clear hc1 hc2 hx hy ha hb
        by_cases hxy : x = y
        · have t2 : ((x : Int) != (y : Int)) = false := by simp [hxy]
          have hi2 := Lib.hid (show (xs.drop (k + 1) = ys.drop (k + 1) ↔ xs = ys) from ⟨fun h => hi.out.1 ⟨hxy, h⟩, fun h => (hi.out.2 h).2⟩)
          replace hxy := Lib.hid hxy
          go_wp2
          go_region
          all_goals
            go_wp2
            go_roundw
            case rel => exact ⟨k + 1, by omega, rfl, hi2.out, fun B => (hB.out B).drew⟩
            case measure => simp [intOf]; omega
        · have t2 : ((x : Int) != (y : Int)) = true := by simp; omega
          have hd : decide (xs = ys) = false := by
            rw [decide_eq_false_iff_not]
            exact fun h => hxy (hi.out.2 h).1
          replace hxy := Lib.hid hxy
          replace hd := Lib.hid hd
          go_wp2
          go_region
          all_goals
            go_wp2
            go_ret
            exact ⟨by rw [hd.out]; rfl, fun B => (hB.out B).drew⟩
      · obtain rfl : k = xs.length := by omega
        have hd := Lib.hid (show decide (xs = ys) = true by
          rw [decide_eq_true_iff]
          refine hi.1 ?_
          rw [List.drop_length, hl.out, List.drop_length])
        replace hi := Lib.hid hi
        replace hB := Lib.hid hB
        go_wp2
        go_ret
        exact ⟨by rw [hd.out]; rfl, fun B => hB.out B⟩
  · have t0 : ((xs.length : Int) != (ys.length : Int)) = true := by simp; omega
    have hd := Lib.hid (show decide (xs = ys) = false by
      rw [decide_eq_false_iff_not]
      exact fun h => hl (by rw [h]))
    replace hl := Lib.hid hl
    go_enter Tryd.func42, Tryd.ntmps42
    go_wp2
    go_ret
    exact ⟨by rw [hd.out]; rfl, fun B => Below.refl B w⟩

set_option maxHeartbeats 1000000 in
set_option maxRecDepth 100000 in
theorem ahead_any (va vb : Value) (xs ys : List Nat) (n₀ : Nat) (w : World) (hl : xs.length = ys.length) (ha : SlI n₀ w va xs) (hb : SlI n₀ w vb ys) :
    Calls Tryd.prog 63 #[va, vb] w fun e w' => e = .returned (.bool (aheadB xs ys)) ∧ ∀ B, Below B w w' := by
  obtain ⟨hm, a, ca, rfl, ha⟩ := ha
  obtain ⟨hm2, b, cb, rfl, hb⟩ := hb
  unfold maxLen at hm hm2
  replace hl := Lib.hid hl
  go_enter Tryd.func63, Tryd.ntmps63
  go_wp2
  go_loopw [5, 8] (fun _ i wr => ∃ k : Nat, k ≤ xs.length ∧ i = .int .i64 k ∧ aheadB (xs.drop k) (ys.drop k) = aheadB xs ys ∧ ∀ B, Below B w wr) (fun _ i _ => xs.length - (intOf i).toNat)
  case atStart => exact ⟨0, Nat.zero_le _, rfl, by simp, fun B => Below.refl B w⟩
  case round =>
    obtain ⟨k, hk, rfl, hi, hB⟩ := hrel
    by_cases hlt : k < xs.length
    · obtain ⟨b1, rfl, hb1, hc1⟩ := ha (by omega)
      obtain ⟨b2, rfl, hb2, hc2⟩ := hb (by have := hl.out; omega)
      have hlt2 : k < ys.length := by have := hl.out; omega
      obtain ⟨x, hx⟩ : ∃ x, xs[k]? = some x := ⟨xs[k]'hlt, List.getElem?_eq_getElem _⟩
      obtain ⟨y, hy⟩ : ∃ y, ys[k]? = some y := ⟨ys[k]'hlt2, List.getElem?_eq_getElem _⟩
      have d1 := Lib.hid (fun W (h : ∀ B, Below B w W) => ((h n₀).cell (p := ⟨b1, k, none⟩) hb1).trans (hc1 k hlt))
      have d2 := Lib.hid (fun W (h : ∀ B, Below B w W) => ((h n₀).cell (p := ⟨b2, k, none⟩) hb2).trans (hc2 k hlt2))
      rw [hx, Option.getD_some] at d1
      rw [hy, Option.getD_some] at d2
      rw [drop_at hx, drop_at hy, aheadB] at hi
      have t1 : decide (k < xs.length) = true := by simpa using hlt
      have t3 : decide (k < ys.length) = true := by simpa using hlt2
      have c1 := d1.out wr hB
      have c2 := d2.out wr hB
      replace hB := Lib.hid hB
      clear hc1 hc2 hx hy ha hb
      by_cases hxy : x = y
      · have t2 : ((x : Int) != (y : Int)) = false := by simp [hxy]
        rw [if_pos hxy] at hi
        replace hi := Lib.hid hi
        replace hxy := Lib.hid hxy
        go_wp2
        go_region
        all_goals
          go_wp2
          go_roundw
          case rel => exact ⟨k + 1, by omega, rfl, hi.out, fun B => (hB.out B).drew⟩
          case measure => simp [intOf]; omega
      · have t2 : ((x : Int) != (y : Int)) = true := by simp; omega
        rw [if_neg hxy] at hi
        replace hi := Lib.hid hi
        replace hxy := Lib.hid hxy
        go_wp2
        go_cut [25] (fun v W => v = .bool true ∧ ∀ B, Below B w W)
        case first => --LIVE
          go_region
          all_goals
            go_wp2
            go_meet
            exact ⟨rfl, fun B => (hB.out B).drew⟩
        case rest =>
          obtain ⟨rfl, hB2⟩ := hcut
          have c1 := d1.out _ hB2
          have c2 := d2.out _ hB2
          replace hB2 := Lib.hid hB2
          go_wp2
          go_region
          all_goals
            go_wp2
            go_ret
            exact ⟨by rw [← hi.out]; rfl, fun B => (hB2.out B).drew⟩
    · obtain rfl : k = xs.length := by omega
      have hd := Lib.hid (show aheadB xs ys = false by
        rw [← hi, List.drop_length]
        rfl)
      replace hi := Lib.hid hi
      replace hB := Lib.hid hB
      go_wp2
      go_ret
      exact ⟨by rw [hd.out]; rfl, fun B => hB.out B⟩
end Go.Proofs.YtpmlomhlbmgilaaDoor
end

section
/- Appends of slices of integers in a region that draws its order, for stage 3's laws. -/
namespace Go.Proofs.YtpmlomhlbmgilaaDoor
open Go.RowKit Go.Shelf

/-- The same law inside a region that draws its order, the slice that is appended to being the call's own. -/
theorem step_append_num {P : Program} {ops : Array Oper} {o : Oper} {a : Act} {w : World} {K : Act → World → Prop} {Q : Exit → Act → World → Prop} {E : Prop}
    (hg : o.guard = none) (s x : Operand) (t : TypeId) (hop : o.op = Op.call { callee := Callee.builtin Builtin.append, args := #[s, x], argTypes := #[t, t] })
    (base : Nat) (e : TypeId) (i : TypeInfo) (z : Value) (bytes : Nat) (ht : P.underlying t = some (.slice e)) (hi : P.info? e = some i) (hz : i.zero = some z)
    (hsize : i.size = 1) (hby : i.bytes = bytes) (hzs : z.cells.size = 1)
    (v : Value) (n : Nat) (xs : List Value) (hs : a.eval s = v) (hown : w.ownsRow base e 1 v n xs)
    (ad : Addr) (m c : Nat) (news : List Value) (hx : a.eval x = .slice (some ad) m c) (hl : news.length = m) (hnews : ∀ j u, news[j]? = some u → w.cell? (ad.add j) = some u) (h1 : ∀ u ∈ news, u.oneCell' = true)
    (h63 : n + m ≤ maxLen) (hbytes : (n + m) * bytes ≤ 140737488355328) (hbase : base ≤ w.heap.size)
    (h : ∀ v' w', w'.ownsRow base e 1 v' (n + m) (xs ++ news) → w.grownBy w' v.ownBlock → (v' = .slice none 0 0 ↔ v = .slice none 0 0 ∧ m = 0) → K (a.put o.dst v') w') :
    if Region.wanted o (yielded ops a.tmps) = true then Oper.wp P o a w K Q else E := by
  have hw : Region.wanted o (yielded ops a.tmps) = true := by simp [Region.wanted, hg]
  rw [if_pos hw]
  exact wp_append_own w s x t hop base e i z 1 bytes ht hi hz hsize hby hzs (by decide) v n xs hs hown ad m c news hx (by omega) hnews h1 h63 hbytes hbase h

theorem elemInts : Tryd.prog.underlying 46 = some (.slice (Tryd.prog.elem 46)) := by kernel_rfl
theorem sizeInts (w : World) : (sizeOf (Tryd.prog.elem 46)).run Tryd.prog w = .ok 1 w := by kernel_rfl
def backAt (g c k : Nat) : Addr := if c = k then ⟨g, 0, none⟩ else ⟨g, k, none⟩
/-- 'xs[:k:k]' -/
theorem slice_front (g N c k : Nat) (hk : k ≤ c) (w : World) :
    (Instr.slice 46 (.slice (some ⟨g, 0, none⟩) N c) none (some (.int .i64 (k : Int))) (some (.int .i64 (k : Int)))).run Tryd.prog w = .ok (.slice (some ⟨g, 0, none⟩) k k) w := by
  rw [run_slice_hm w 46 (some ⟨g, 0, none⟩) N c elemInts .i64 .i64 (k : Int) (k : Int) (by omega) (by omega) (by omega), sizeInts]
  simp [Result.andThen, sliced, Addr.add]
/-- 'xs[k:]' -/
theorem slice_back (g N c k : Nat) (hk : k ≤ N) (w : World) :
    (Instr.slice 46 (.slice (some ⟨g, 0, none⟩) N c) (some (.int .i64 (k : Int))) none none).run Tryd.prog w = .ok (.slice (some (backAt g c k)) (N - k) (c - k)) w := by
  rw [run_slice_l w 46 (some ⟨g, 0, none⟩) N c elemInts .i64 (k : Int) (by omega) (by omega), sizeInts]
  unfold backAt
  by_cases h : c = k
  · simp [Result.andThen, sliced, h]
  · by_cases h0 : k = 0
    · simp [Result.andThen, sliced, Addr.add, h0]
    · simp [Result.andThen, sliced, Addr.add, h, h0]
theorem oneCells (l : List Int) : ∀ u ∈ l.map (Value.int .i64), u.oneCell' = true := by
  intro u hu
  obtain ⟨y, _, rfl⟩ := List.mem_map.1 hu
  rfl
theorem oneCells2 (z : Int) (l : List Int) : ∀ u ∈ [Value.int .i64 z] ++ l.map (Value.int .i64), u.oneCell' = true := by
  intro u hu
  rcases List.mem_append.1 hu with h | h
  · simp at h; subst h; rfl
  · exact oneCells l u h
/-- A slice that a call owns, and that holds something or came of an append to one that was not nil. -/
theorem ownsRow_some {W : World} {b : Nat} {e : TypeId} {n : Nat} {v : Value} {xs : List Value} (h : W.ownsRow b e 1 v n xs) (hv : v ≠ .slice none 0 0) :
    ∃ g cap, v = .slice (some ⟨g, 0, none⟩) n cap ∧ n ≤ cap ∧ g < W.heap.size ∧ b ≤ g ∧ cap ≤ maxLen := by
  rcases h.2 with ⟨rfl, _⟩ | ⟨g, cap, cur, rfl, hg, hh, hle, hm, _⟩
  · exact absurd rfl hv
  · exact ⟨g, cap, rfl, hle, (Array.getElem?_eq_some_iff.1 hh).1, hg, hm⟩

/-- An append of the nil slice in a region that draws its order. -/
theorem step_append_none {P : Program} {ops : Array Oper} {o : Oper} {a : Act} {w : World} {K : Act → World → Prop} {Q : Exit → Act → World → Prop} {E : Prop}
    (hg : o.guard = none) (s x : Operand) (t : TypeId) (hop : o.op = Op.call { callee := Callee.builtin Builtin.append, args := #[s, x], argTypes := #[t, t] })
    (base : Nat) (e : TypeId) (i : TypeInfo) (size : Nat) (ht : P.underlying t = some (.slice e)) (hi : P.info? e = some i)
    (v : Value) (n : Nat) (xs : List Value) (hs : a.eval s = v) (hown : w.ownsRow base e size v n xs) (hx : a.eval x = .slice none 0 0)
    (h : K (a.put o.dst v) w) : if Region.wanted o (yielded ops a.tmps) = true then Oper.wp P o a w K Q else E := by
  have hw : Region.wanted o (yielded ops a.tmps) = true := by simp [Region.wanted, hg]
  rw [if_pos hw]
  have hrun := run_append_owned_none (P := P) (w := w) base t o.type e i size ht hi v n xs hown
  unfold Oper.wp
  simp [execOp, hop, resolve, invoke, builtin, hs, hx, hrun, Result.andThen]
  exact h
/-- 'nil[:0:0]' and 'nil[0:]' -/
theorem slice_nil_front (w : World) : (Instr.slice 46 (.slice none 0 0) none (some (.int .i64 0)) (some (.int .i64 0))).run Tryd.prog w = .ok (.slice none 0 0) w := by
  have := run_slice_hm (P := Tryd.prog) w 46 none 0 0 elemInts .i64 .i64 0 0 (by omega) (by omega) (by omega)
  rw [this, sizeInts]
  simp [Result.andThen, sliced]
theorem slice_nil_back (w : World) : (Instr.slice 46 (.slice none 0 0) (some (.int .i64 0)) none none).run Tryd.prog w = .ok (.slice none 0 0) w := by
  have := run_slice_l (P := Tryd.prog) w 46 none 0 0 elemInts .i64 0 (by omega) (by omega)
  rw [this, sizeInts]
  simp [Result.andThen, sliced]
end Go.Proofs.YtpmlomhlbmgilaaDoor
end

section
/- The laws' own order of n things. -/
namespace Go.Proofs.YtpmlomhlbmgilaaDoor
open Go.RowKit Go.Shelf

attribute [local go_sem] Oper.semAt_some

theorem IsOrd.put {i p : Nat} {L : List Nat} (h : IsOrd i L) : IsOrd (i + 1) (L.take p ++ i :: L.drop p) := by
  have hp : (L.take p ++ i :: L.drop p).Perm (i :: L) := by
    have := List.perm_middle (a := i) (l₁ := L.take p) (l₂ := L.drop p)
    rwa [List.take_append_drop] at this
  refine ⟨hp.nodup_iff.2 (List.nodup_cons.2 ⟨fun hm => by have := (h.mem i).1 hm; omega, h.nodup⟩), fun x => ?_⟩
  rw [hp.mem_iff, List.mem_cons, h.mem]
  omega

set_option maxRecDepth 100000 in
set_option maxHeartbeats 2000000 in
theorem mixed_any (N : Nat) (hN : N ≤ 48) (v : Value) (zs : List Int) (hz : ∀ z ∈ zs, 0 ≤ z ∧ z ≤ 255) (w : World) (hs : NumSl .u8 w.heap.size w v zs) :
    Calls Tryd.prog 62 #[.int .i64 (N : Int), v] w fun e w' => ∃ (v' : Value) (L : List Nat), e = .returned v' ∧ IsOrd N L ∧ SlI w'.heap.size w' v' L ∧ Below w.heap.size w w' := by
  obtain ⟨i0, hi, hz0, hz1, hz2⟩ := infoIntC
  obtain ⟨hm, a, cv, rfl, hc⟩ := hs
  unfold maxLen at hm
  go_enter Tryd.func62, Tryd.ntmps62
  go_wp2
  go_loopw [5, 6, 7, 9] (fun l _ _ i W => ∃ (k : Nat) (L : List Nat), k ≤ N ∧ i = .int .i64 k ∧ IsOrd k L ∧ W.ownsRow w.heap.size 3 1 l k (L.map intV) ∧ Below w.heap.size w W) (fun _ _ _ i _ => N - (intOf i).toNat)
  case atStart => exact ⟨0, [], Nat.zero_le _, rfl, ⟨List.nodup_nil, fun x => by simp⟩, World.ownsRow_nil _ _ _ _, Below.refl _ _⟩
  case round =>
    obtain ⟨k, L, hk, rfl, hL, hown, hB⟩ := hrel
    by_cases hlt : k < N
    · have t1 : decide (k < N) = true := by simpa using hlt
      by_cases h0 : 0 < zs.length
      · obtain ⟨b, off, rfl, hb, hcl⟩ := hc h0
        have t0 : decide (0 < zs.length) = true := by simpa using h0
        have hj : k % zs.length < zs.length := Nat.mod_lt _ h0
        obtain ⟨z, hzz⟩ : ∃ z, zs[k % zs.length]? = some z := ⟨zs[k % zs.length]'hj, List.getElem?_eq_getElem _⟩
        have hz2' := hz z (List.mem_of_getElem? hzz)
        have cz := (hB.cell (p := ⟨b, off + k % zs.length, none⟩) hb).trans (hcl _ hj)
        rw [hzz, Option.getD_some] at cz
        obtain ⟨p, hp⟩ : ∃ p : Nat, z % ((k : Int) + 1) = (p : Int) := ⟨(z % ((k : Int) + 1)).toNat, by have := Int.emod_nonneg z (show ((k : Int) + 1) ≠ 0 by omega); omega⟩
        have hpk : p ≤ k := by have := Int.emod_lt_of_pos z (show 0 < ((k : Int) + 1) by omega); omega
        clear hcl hzz
        go_upto_region 8 with fail
        rw [hp]
        clear hp cz hj hc
        rcases hown.2 with ⟨rfl, hk0⟩ | ⟨g, c, cur, hv5, hgB, hgh, hkc, hcm, -⟩
        · subst hk0
          obtain rfl : p = 0 := by omega
          have hrow1 : ∀ w : World, (w.alloc (.cells #[.int .i64 0] 3)).ownsRow w.heap.size 3 1 (.slice (some ⟨w.heap.size, 0, none⟩) 1 1) 1 [.int .i64 0] := fun w => World.ownsRow_lit w _ 1 (Nat.le_refl _) (by decide) rfl
          replace hrow1 := Lib.hid hrow1
          have hsf := fun W => slice_nil_front W
          have hsb := fun W => slice_nil_back W
          have hll := hL.len
          obtain rfl : L = [] := List.eq_nil_of_length_eq_zero hll
          have hL0 := Lib.hid (show IsOrd 1 [0] from hL.put (p := 0))
          rw [show ((0 : Nat) : Int) = 0 from rfl]
          replace hL := Lib.hid hL
          replace hown := Lib.hid hown
          have hBw := hB.size
          replace hB := Lib.hid hB
          go_region_law (first
            | (refine step_append_none rfl (.tmp 32) (.tmp 35) 46 rfl wr.heap.size 3 i0 1 Tryd.underlying46 hi (.slice (some ⟨wr.heap.size, 0, none⟩) 1 1) 1 [.int .i64 0] rfl (hrow1.out wr).drew rfl ?_)
            | (refine step_append_grows rfl (.tmp 30) (.tmp 36) 46 rfl 3 i0 (.int .i64 0) 1 8 Tryd.underlying46 hi hz0 hz1 hz2 rfl (by decide) none 0 0 [] rfl (fun _ => ⟨rfl, rfl⟩) rfl (fun b hb => by cases hb) ⟨wr.heap.size, 0, none⟩ 1 1 [.int .i64 0] rfl rfl ((hrow1.out wr).drew.cells rfl) (by simp [Value.oneCell']) (by omega) (by decide) (by decide) ?_
               intro v2 w5 hown2 hgrow2))
          have hown5 := Lib.hid (show w5.ownsRow w.heap.size 3 1 v2 (0 + 1) (([0] : List Nat).map intV) from World.ownsRow.mono hown2 (by have := hB.out.size; simp; omega))
          have hB5 := Lib.hid (((hB.out.alloc hB.out.size (.cells #[.int .i64 0] 3)).drew).grown hgrow2 (by have := hB.out.size; simp; omega) (fun j hj => by cases hj))
          clear hown2 hgrow2 hrow1 hsf hsb
          go_wp2
          go_roundw
          case rel => exact ⟨1, [0], by omega, rfl, hL0.out, hown5.out, hB5.out⟩
          case measure => simp [intOf]; omega
        · subst hv5
          have hL1 := Lib.hid (hL.put (p := p))
          have hg3 : g < wr.heap.size := (Array.getElem?_eq_some_iff.1 hgh).1
          have hlen := hL.len
          have hrow1 : ∀ w : World, (w.alloc (.cells #[.int .i64 (k : Int)] 3)).ownsRow w.heap.size 3 1 (.slice (some ⟨w.heap.size, 0, none⟩) 1 1) 1 [.int .i64 (k : Int)] := fun w => World.ownsRow_lit w _ 1 (Nat.le_refl _) (by decide) rfl
          replace hrow1 := Lib.hid hrow1
          have hsf := slice_front g k c p (by omega)
          have hsb := slice_back g k c p hpk
          have hcell : ∀ j y, L[j]? = some y → wr.cell? ⟨g, j, none⟩ = some (intV y) := by
            intro j y hy
            have hj : j < L.length := (List.getElem?_eq_some_iff.1 hy).1
            rw [hown.cellAt j (by omega), List.getElem?_map, hy]
            rfl
          have hfront : ∀ W, Below wr.heap.size wr W → ∀ j u, ((L.take p).map intV)[j]? = some u → W.cell? ((⟨g, 0, none⟩ : Addr).add j) = some u := by
            intro W hW j u hu
            rw [List.getElem?_map] at hu
            obtain ⟨y, hy, rfl⟩ := Option.map_eq_some_iff.1 hu
            rw [Go.WideShapes.add_plain, Nat.zero_add]
            have hj : j < p := by have := (List.getElem?_eq_some_iff.1 hy).1; rw [List.length_take] at this; omega
            rw [List.getElem?_take_of_lt hj] at hy
            exact (hW.cell (p := ⟨g, j, none⟩) hg3).trans (hcell j y hy)
          have hback : ∀ W, Below wr.heap.size wr W → ∀ j u, ((L.drop p).map intV)[j]? = some u → W.cell? ((backAt g c p).add j) = some u := by
            intro W hW j u hu
            rw [List.getElem?_map] at hu
            obtain ⟨y, hy, rfl⟩ := Option.map_eq_some_iff.1 hu
            rw [List.getElem?_drop] at hy
            have hj : p + j < L.length := (List.getElem?_eq_some_iff.1 hy).1
            unfold backAt
            rw [if_neg (by omega), Go.WideShapes.add_plain]
            exact (hW.cell (p := ⟨g, p + j, none⟩) hg3).trans (hcell _ y hy)
          replace hfront := Lib.hid hfront
          replace hback := Lib.hid hback
          clear hcell hgh
          have oneI : ∀ l : List Nat, ∀ u ∈ l.map intV, u.oneCell' = true := by
            intro l u hu
            obtain ⟨y, _, rfl⟩ := List.mem_map.1 hu
            rfl
          have oneI2 : ∀ l : List Nat, ∀ u ∈ [Value.int .i64 (k : Int)] ++ l.map intV, u.oneCell' = true := by
            intro l u hu
            rcases List.mem_append.1 hu with h | h
            · simp at h; subst h; rfl
            · exact oneI l u h
          replace oneI := Lib.hid oneI
          replace oneI2 := Lib.hid oneI2
          have hld : (L.drop p).length = k - p := by rw [List.length_drop]; omega
          have hlt' : (L.take p).length = p := by rw [List.length_take]; omega
          replace hld := Lib.hid hld
          replace hlt' := Lib.hid hlt'
          generalize backAt g c p = ab at hsb hback
          have hgW := Lib.hid (fun (w4 : World) (hgr : ((wr.alloc (.cells #[.int .i64 (k : Int)] 3)).drew).grownBy w4 (some wr.heap.size)) => ((Below.refl wr.heap.size wr).alloc (Nat.le_refl _) (.cells #[.int .i64 (k : Int)] 3)).drew.grown hgr (by simp) (fun j hj => by cases hj; exact Nat.le_refl _))
          clear hown
          replace hL := Lib.hid hL
          replace hlen := Lib.hid hlen
          have hBw := hB.size
          replace hB := Lib.hid hB
          go_region_law (first
            | (refine step_append_num rfl (.tmp 32) (.tmp 35) 46 rfl wr.heap.size 3 i0 (.int .i64 0) 8 Tryd.underlying46 hi hz0 hz1 hz2 rfl (.slice (some ⟨wr.heap.size, 0, none⟩) 1 1) 1 [.int .i64 (k : Int)] rfl (hrow1.out wr).drew ab (k - p) _ ((L.drop p).map intV) rfl (by rw [List.length_map]; exact hld.out) (hback.out _ ((Below.refl wr.heap.size wr).alloc (Nat.le_refl _) _).drew) (oneI.out _) (by unfold maxLen; omega) (by omega) (by simp) ?_
               intro v1 w4 hown1 hgrow1 hne1
               have hW4 := hgW.out w4 hgrow1
               obtain ⟨g1, c1, hv1, _, _, _, _⟩ := ownsRow_some hown1 (fun h => by have h2 := (hne1.1 h).1; cases h2)
               rw [hv1] at hown1 ⊢
               clear hv1 hne1 hgrow1
               replace hown1 := Lib.hid hown1)
            | (refine step_append_grows rfl (.tmp 30) (.tmp 36) 46 rfl 3 i0 (.int .i64 0) 1 8 Tryd.underlying46 hi hz0 hz1 hz2 rfl (by decide) (some ⟨g, 0, none⟩) p p ((L.take p).map intV) rfl (fun h => by cases h) (by rw [List.length_map, hlt'.out]; omega) (fun b hb => by cases hb; exact hfront.out _ hW4) ⟨g1, 0, none⟩ (1 + (k - p)) c1 ([.int .i64 (k : Int)] ++ (L.drop p).map intV) rfl (by have := hld.out; simp only [List.length_append, List.length_map, List.length_singleton]; omega) (hown1.out.cells rfl) (oneI2.out _) (by omega) (by unfold maxLen; omega) (by omega) ?_
               intro v2 w5 hown2 hgrow2))
          have hw4 : w.heap.size ≤ w4.heap.size := Nat.le_trans hBw hW4.size
          have hB5 := Lib.hid ((hB.out.trans (hW4.mono hBw)).grown hgrow2 hw4 (fun j hj => by cases hj))
          rw [show p + (1 + (k - p)) = k + 1 by omega] at hown2
          have hown5 := Lib.hid (show w5.ownsRow w.heap.size 3 1 v2 (k + 1) ((L.take p ++ k :: L.drop p).map intV) from by
            have := World.ownsRow.mono hown2 hw4
            simpa [intV] using this)
          clear hown2 hgrow2 hrow1 hsf hsb hown1 hgW hfront hback
          go_wp2
          go_roundw
          case rel => exact ⟨k + 1, _, by omega, rfl, hL1.out, hown5.out, hB5.out⟩
          case measure => simp [intOf]; omega
      · have t0 : decide (0 < zs.length) = false := by simpa using h0
        go_upto_region 8 with fail
        have hpk : k ≤ k := Nat.le_refl k
        clear hc
        rcases hown.2 with ⟨rfl, hk0⟩ | ⟨g, c, cur, hv5, hgB, hgh, hkc, hcm, -⟩
        · subst hk0
          have hrow1 : ∀ w : World, (w.alloc (.cells #[.int .i64 0] 3)).ownsRow w.heap.size 3 1 (.slice (some ⟨w.heap.size, 0, none⟩) 1 1) 1 [.int .i64 0] := fun w => World.ownsRow_lit w _ 1 (Nat.le_refl _) (by decide) rfl
          replace hrow1 := Lib.hid hrow1
          have hsf := fun W => slice_nil_front W
          have hsb := fun W => slice_nil_back W
          have hll := hL.len
          obtain rfl : L = [] := List.eq_nil_of_length_eq_zero hll
          have hL0 := Lib.hid (show IsOrd 1 [0] from hL.put (p := 0))
          rw [show ((0 : Nat) : Int) = 0 from rfl]
          replace hL := Lib.hid hL
          replace hown := Lib.hid hown
          have hBw := hB.size
          replace hB := Lib.hid hB
          go_region_law (first
            | (refine step_append_none rfl (.tmp 32) (.tmp 35) 46 rfl wr.heap.size 3 i0 1 Tryd.underlying46 hi (.slice (some ⟨wr.heap.size, 0, none⟩) 1 1) 1 [.int .i64 0] rfl (hrow1.out wr).drew rfl ?_)
            | (refine step_append_grows rfl (.tmp 30) (.tmp 36) 46 rfl 3 i0 (.int .i64 0) 1 8 Tryd.underlying46 hi hz0 hz1 hz2 rfl (by decide) none 0 0 [] rfl (fun _ => ⟨rfl, rfl⟩) rfl (fun b hb => by cases hb) ⟨wr.heap.size, 0, none⟩ 1 1 [.int .i64 0] rfl rfl ((hrow1.out wr).drew.cells rfl) (by simp [Value.oneCell']) (by omega) (by decide) (by decide) ?_
               intro v2 w5 hown2 hgrow2))
          have hown5 := Lib.hid (show w5.ownsRow w.heap.size 3 1 v2 (0 + 1) (([0] : List Nat).map intV) from World.ownsRow.mono hown2 (by have := hB.out.size; simp; omega))
          have hB5 := Lib.hid (((hB.out.alloc hB.out.size (.cells #[.int .i64 0] 3)).drew).grown hgrow2 (by have := hB.out.size; simp; omega) (fun j hj => by cases hj))
          clear hown2 hgrow2 hrow1 hsf hsb
          go_wp2
          go_roundw
          case rel => exact ⟨1, [0], by omega, rfl, hL0.out, hown5.out, hB5.out⟩
          case measure => simp [intOf]; omega
        · subst hv5
          have hL1 := Lib.hid (hL.put (p := k))
          have hg3 : g < wr.heap.size := (Array.getElem?_eq_some_iff.1 hgh).1
          have hlen := hL.len
          have hrow1 : ∀ w : World, (w.alloc (.cells #[.int .i64 (k : Int)] 3)).ownsRow w.heap.size 3 1 (.slice (some ⟨w.heap.size, 0, none⟩) 1 1) 1 [.int .i64 (k : Int)] := fun w => World.ownsRow_lit w _ 1 (Nat.le_refl _) (by decide) rfl
          replace hrow1 := Lib.hid hrow1
          have hsf := slice_front g k c k (by omega)
          have hsb := slice_back g k c k hpk
          simp only [Nat.sub_self] at hsb
          have hcell : ∀ j y, L[j]? = some y → wr.cell? ⟨g, j, none⟩ = some (intV y) := by
            intro j y hy
            have hj : j < L.length := (List.getElem?_eq_some_iff.1 hy).1
            rw [hown.cellAt j (by omega), List.getElem?_map, hy]
            rfl
          have hfront : ∀ W, Below wr.heap.size wr W → ∀ j u, ((L.take k).map intV)[j]? = some u → W.cell? ((⟨g, 0, none⟩ : Addr).add j) = some u := by
            intro W hW j u hu
            rw [List.getElem?_map] at hu
            obtain ⟨y, hy, rfl⟩ := Option.map_eq_some_iff.1 hu
            rw [Go.WideShapes.add_plain, Nat.zero_add]
            have hj : j < k := by have := (List.getElem?_eq_some_iff.1 hy).1; rw [List.length_take] at this; omega
            rw [List.getElem?_take_of_lt hj] at hy
            exact (hW.cell (p := ⟨g, j, none⟩) hg3).trans (hcell j y hy)
          have hback : ∀ W, Below wr.heap.size wr W → ∀ j u, ((L.drop k).map intV)[j]? = some u → W.cell? ((backAt g c k).add j) = some u := by
            intro W hW j u hu
            rw [List.getElem?_map] at hu
            obtain ⟨y, hy, rfl⟩ := Option.map_eq_some_iff.1 hu
            rw [List.getElem?_drop] at hy
            have hj : k + j < L.length := (List.getElem?_eq_some_iff.1 hy).1
            unfold backAt
            rw [if_neg (by omega), Go.WideShapes.add_plain]
            exact (hW.cell (p := ⟨g, k + j, none⟩) hg3).trans (hcell _ y hy)
          replace hfront := Lib.hid hfront
          replace hback := Lib.hid hback
          clear hcell hgh
          have oneI : ∀ l : List Nat, ∀ u ∈ l.map intV, u.oneCell' = true := by
            intro l u hu
            obtain ⟨y, _, rfl⟩ := List.mem_map.1 hu
            rfl
          have oneI2 : ∀ l : List Nat, ∀ u ∈ [Value.int .i64 (k : Int)] ++ l.map intV, u.oneCell' = true := by
            intro l u hu
            rcases List.mem_append.1 hu with h | h
            · simp at h; subst h; rfl
            · exact oneI l u h
          replace oneI := Lib.hid oneI
          replace oneI2 := Lib.hid oneI2
          have hld : (L.drop k).length = 0 := by rw [List.length_drop]; omega
          have hlt' : (L.take k).length = k := by rw [List.length_take]; omega
          replace hld := Lib.hid hld
          replace hlt' := Lib.hid hlt'
          generalize backAt g c k = ab at hsb hback
          have hgW := Lib.hid (fun (w4 : World) (hgr : ((wr.alloc (.cells #[.int .i64 (k : Int)] 3)).drew).grownBy w4 (some wr.heap.size)) => ((Below.refl wr.heap.size wr).alloc (Nat.le_refl _) (.cells #[.int .i64 (k : Int)] 3)).drew.grown hgr (by simp) (fun j hj => by cases hj; exact Nat.le_refl _))
          clear hown
          replace hL := Lib.hid hL
          replace hlen := Lib.hid hlen
          have hBw := hB.size
          replace hB := Lib.hid hB
          go_region_law (first
            | (refine step_append_num rfl (.tmp 32) (.tmp 35) 46 rfl wr.heap.size 3 i0 (.int .i64 0) 8 Tryd.underlying46 hi hz0 hz1 hz2 rfl (.slice (some ⟨wr.heap.size, 0, none⟩) 1 1) 1 [.int .i64 (k : Int)] rfl (hrow1.out wr).drew ab 0 _ ((L.drop k).map intV) rfl (by rw [List.length_map]; exact hld.out) (hback.out _ ((Below.refl wr.heap.size wr).alloc (Nat.le_refl _) _).drew) (oneI.out _) (by unfold maxLen; omega) (by omega) (by simp) ?_
               intro v1 w4 hown1 hgrow1 hne1
               have hW4 := hgW.out w4 hgrow1
               obtain ⟨g1, c1, hv1, _, _, _, _⟩ := ownsRow_some hown1 (fun h => by have h2 := (hne1.1 h).1; cases h2)
               rw [hv1] at hown1 ⊢
               clear hv1 hne1 hgrow1
               replace hown1 := Lib.hid hown1)
            | (refine step_append_grows rfl (.tmp 30) (.tmp 36) 46 rfl 3 i0 (.int .i64 0) 1 8 Tryd.underlying46 hi hz0 hz1 hz2 rfl (by decide) (some ⟨g, 0, none⟩) k k ((L.take k).map intV) rfl (fun h => by cases h) (by rw [List.length_map, hlt'.out]; omega) (fun b hb => by cases hb; exact hfront.out _ hW4) ⟨g1, 0, none⟩ (1 + 0) c1 ([.int .i64 (k : Int)] ++ (L.drop k).map intV) rfl (by have := hld.out; simp only [List.length_append, List.length_map, List.length_singleton]; omega) (hown1.out.cells rfl) (oneI2.out _) (by omega) (by unfold maxLen; omega) (by omega) ?_
               intro v2 w5 hown2 hgrow2))
          have hw4 : w.heap.size ≤ w4.heap.size := Nat.le_trans hBw hW4.size
          have hB5 := Lib.hid ((hB.out.trans (hW4.mono hBw)).grown hgrow2 hw4 (fun j hj => by cases hj))
          rw [show k + (1 + 0) = k + 1 by omega] at hown2
          have hown5 := Lib.hid (show w5.ownsRow w.heap.size 3 1 v2 (k + 1) ((L.take k ++ k :: L.drop k).map intV) from by
            have := World.ownsRow.mono hown2 hw4
            simpa [intV] using this)
          clear hown2 hgrow2 hrow1 hsf hsb hown1 hgW hfront hback
          go_wp2
          go_roundw
          case rel => exact ⟨k + 1, _, by omega, rfl, hL1.out, hown5.out, hB5.out⟩
          case measure => simp [intOf]; omega
    · obtain rfl : k = N := by omega
      have hlen := hL.len
      have hsl : SlI wr.heap.size wr u5 L := slI_of_row (base := w.heap.size) (by rw [hlen]; exact hown) (by rw [hlen]; unfold maxLen; omega)
      replace hown := Lib.hid hown
      go_wp2
      go_ret
      exact ⟨_, L, rfl, hL, hsl, hB⟩
end Go.Proofs.YtpmlomhlbmgilaaDoor
end

section
/- The examples of the orders' laws hold. -/
namespace Go.Proofs.YtpmlomhlbmgilaaDoor
open Go.RowKit Go.Shelf

attribute [local go_sem] Oper.semAt_some

set_option maxRecDepth 100000 in
set_option maxHeartbeats 16000000 in
theorem ordAwake_any (w : World) (hT : Tab w) : Calls Tryd.prog 50 #[] w fun e w' => e = .returned (.bool true) ∧ Below w.heap.size w w' := by
  have hp := hT.pos
  have hX := KS.nil w
  go_enter Tryd.func50, Tryd.ntmps50
  -- the first relation
  have hP := (Ex.pairLit ExO.aP w _ rfl (by decide) rfl).mono (n₁ := (w.alloc (.cells (pairCells ExO.aP).toArray 72)).heap.size) (by simp)
  replace hX := hX.alloc (.cells (pairCells ExO.aP).toArray 72)
  go_wp2_with fail
  refine (ExO.callA _ _ hP).mono ?_
  rintro e w1 ⟨rfl, hb⟩
  obtain ⟨W1, hs1, hX, -⟩ := hX.lay hb 3 ExO.aF
  clear hP hb
  -- its orders
  have l := (hX.rel (w1.heap.size, 3, ExO.aF) (by simp)).ld
  go_wp2_with fail
  clear hs1 l
  refine (ExO.callOrdA _ (hX.tab hT)).mono ?_
  rintro e w2 ⟨⟨v2, rfl, hv2⟩, hb⟩
  replace hX := (hX.on hb).addLs hv2
  clear hv2 hb
  -- their number
  have l := (hX.rel (w1.heap.size, 3, ExO.aF) (by simp)).ld
  go_wp2_with fail
  clear l
  refine (ExO.callCnt3 _ (hX.tab hT)).mono ?_
  rintro e w3 ⟨rfl, hb⟩
  replace hX := hX.on hb
  clear hb
  have l := (hX.rel (w1.heap.size, 3, ExO.aF) (by simp)).ld
  go_wp2_with fail
  clear l
  refine (ExO.callCnt2 _ (hX.tab hT)).mono ?_
  rintro e w4 ⟨rfl, hb⟩
  replace hX := hX.on hb
  clear hb
  -- a round
  have hP := (Ex.pairLit ExO.bP w4 _ rfl (by decide) rfl).mono (n₁ := (w4.alloc (.cells (pairCells ExO.bP).toArray 72)).heap.size) (by simp)
  replace hX := hX.alloc (.cells (pairCells ExO.bP).toArray 72)
  go_wp2_with fail
  refine (ExO.callB _ _ hP).mono ?_
  rintro e w5 ⟨rfl, hb⟩
  obtain ⟨W5, hs5, hX, -⟩ := hX.lay hb 2 ExO.bF
  clear hP hb
  have l := (hX.rel (w5.heap.size, 2, ExO.bF) (by simp)).ld
  go_wp2_with fail
  clear hs5 l
  refine (ExO.callOrdB _ (hX.tab hT)).mono ?_
  rintro e w6 ⟨⟨v6, rfl, hv6⟩, hb⟩
  obtain ⟨-, a6, c6, rfl, -⟩ := hv6
  replace hX := hX.on hb
  clear hb
  -- the relation of an order
  have hP := (Ex.intLit [2, 0, 1] w6 #[.int .i64 2, .int .i64 0, .int .i64 1] rfl (by decide)).mono (n₁ := (w6.alloc (.cells #[.int .i64 2, .int .i64 0, .int .i64 1] 3)).heap.size) (by simp)
  replace hX := hX.alloc (.cells #[.int .i64 2, .int .i64 0, .int .i64 1] 3)
  go_wp2_with fail
  refine (ExO.callTot _ _ hP).mono ?_
  rintro e w7 ⟨rfl, hb⟩
  obtain ⟨W7, hs7, hX, -⟩ := hX.lay hb 3 ExO.tF
  clear hP hb
  have hP := (Ex.intLit [0, 0] W7 #[.int .i64 0, .int .i64 0] rfl (by decide)).mono (n₁ := (W7.alloc (.cells #[.int .i64 0, .int .i64 0] 3)).heap.size) (by simp)
  replace hX := hX.alloc (.cells #[.int .i64 0, .int .i64 0] 3)
  go_wp2_with fail
  clear hs7
  refine (ExO.callTotX _ _ hP).mono ?_
  rintro e w8 ⟨⟨f8, rfl⟩, hb⟩
  obtain ⟨W8, hs8, hX, -⟩ := hX.lay hb 0 f8
  clear hP hb
  -- an order's own
  have hP := (Ex.pairLit ExO.aP W8 _ rfl (by decide) rfl).mono (n₁ := (W8.alloc (.cells (pairCells ExO.aP).toArray 72)).heap.size) (by simp)
  replace hX := hX.alloc (.cells (pairCells ExO.aP).toArray 72)
  go_wp2_with fail
  clear hs8
  refine (ExO.callC _ _ hP).mono ?_
  rintro e w9 ⟨rfl, hb⟩
  obtain ⟨W9, hs9, hX, -⟩ := hX.lay hb 2 ExO.aF
  clear hP hb
  have l := (hX.rel (w9.heap.size, 2, ExO.aF) (by simp)).ld
  go_wp2_with fail
  clear hs9 l
  refine (ExO.callOf _ (hX.tab hT)).mono ?_
  rintro e w10 ⟨⟨v10, rfl, hv10⟩, hb⟩
  replace hX := (hX.on hb).addSl hv10
  clear hb hv10
  go_wp2_with fail
  refine (ExO.callOfX _ (hX.tab hT)).mono ?_
  rintro e w11 ⟨⟨v11, rfl⟩, hb⟩
  replace hX := hX.on hb
  clear hb
  go_wp2_with fail
  refine (ExO.callOrdZ _ (hX.tab hT)).mono ?_
  rintro e w12 ⟨⟨v12, rfl, hv12⟩, hb⟩
  replace hX := (hX.on hb).addLs hv12
  clear hb hv12
  go_wp2_with fail
  -- the lists
  have i1 := (Ex.intLit [0, 1, 2] w12 #[.int .i64 0, .int .i64 1, .int .i64 2] rfl (by decide)).mono (n₁ := (w12.alloc (.cells #[.int .i64 0, .int .i64 1, .int .i64 2] 3)).heap.size) (by simp)
  replace hX := hX.alloc (.cells #[.int .i64 0, .int .i64 1, .int .i64 2] 3)
  replace hX := hX.addSl i1
  clear i1
  have i2 := (Ex.intLit [0, 2, 1] (w12.alloc (.cells #[.int .i64 0, .int .i64 1, .int .i64 2] 3)) #[.int .i64 0, .int .i64 2, .int .i64 1] rfl (by decide)).mono (n₁ := ((w12.alloc (.cells #[.int .i64 0, .int .i64 1, .int .i64 2] 3)).alloc (.cells #[.int .i64 0, .int .i64 2, .int .i64 1] 3)).heap.size) (by simp)
  replace hX := hX.alloc (.cells #[.int .i64 0, .int .i64 2, .int .i64 1] 3)
  replace hX := hX.addSl i2
  clear i2
  have i3 := (Ex.intLit [2, 0, 1] ((w12.alloc (.cells #[.int .i64 0, .int .i64 1, .int .i64 2] 3)).alloc (.cells #[.int .i64 0, .int .i64 2, .int .i64 1] 3)) #[.int .i64 2, .int .i64 0, .int .i64 1] rfl (by decide)).mono (n₁ := (((w12.alloc (.cells #[.int .i64 0, .int .i64 1, .int .i64 2] 3)).alloc (.cells #[.int .i64 0, .int .i64 2, .int .i64 1] 3)).alloc (.cells #[.int .i64 2, .int .i64 0, .int .i64 1] 3)).heap.size) (by simp)
  replace hX := hX.alloc (.cells #[.int .i64 2, .int .i64 0, .int .i64 1] 3)
  replace hX := hX.addSl i3
  clear i3
  simp only [World.size_alloc] at hX
  have hz : (((w12.alloc (.cells #[.int .i64 0, .int .i64 1, .int .i64 2] 3)).alloc (.cells #[.int .i64 0, .int .i64 2, .int .i64 1] 3)).alloc (.cells #[.int .i64 2, .int .i64 0, .int .i64 1] 3)).heap.size = w12.heap.size + 1 + 1 + 1 := by simp
  generalize ((w12.alloc (.cells #[.int .i64 0, .int .i64 1, .int .i64 2] 3)).alloc (.cells #[.int .i64 0, .int .i64 2, .int .i64 1] 3)).alloc (.cells #[.int .i64 2, .int .i64 0, .int .i64 1] 3) = W12 at *
  have hL := (ExO.listLit W12 [.slice (some ⟨w12.heap.size, 0, none⟩) 3 3, .slice (some ⟨w12.heap.size + 1, 0, none⟩) 3 3, .slice (some ⟨w12.heap.size + 1 + 1, 0, none⟩) 3 3] [[0, 1, 2], [0, 2, 1], [2, 0, 1]] rfl (by decide) (by
    intro j v l hv hl
    match j, hv, hl with
    | 0, hv, hl => cases hv; cases hl; exact hX.sl (_, [0, 1, 2]) (by simp)
    | 1, hv, hl => cases hv; cases hl; exact hX.sl (_, [0, 2, 1]) (by simp)
    | 2, hv, hl => cases hv; cases hl; exact hX.sl (_, [2, 0, 1]) (by simp)
    | j + 3, hv, hl => simp at hv)).mono (n₁ := (W12.alloc (.cells #[.slice (some ⟨w12.heap.size, 0, none⟩) 3 3, .slice (some ⟨w12.heap.size + 1, 0, none⟩) 3 3, .slice (some ⟨w12.heap.size + 1 + 1, 0, none⟩) 3 3] 46)).heap.size) (by simp)
  rw [hz] at hL
  replace hX := hX.alloc (.cells #[.slice (some ⟨w12.heap.size, 0, none⟩) 3 3, .slice (some ⟨w12.heap.size + 1, 0, none⟩) 3 3, .slice (some ⟨w12.heap.size + 1 + 1, 0, none⟩) 3 3] 46)
  refine (lists_same _ _ _ _ (hX.ls (v2, [[0, 1, 2], [0, 2, 1], [2, 0, 1]]) (by simp)) hL).mono ?_
  rintro e w13 ⟨rfl, hb⟩
  replace hX := hX.on hb
  clear hb hL hz
  -- the pairs of an order
  have l := (hX.rel (w7.heap.size, 3, ExO.tF) (by simp)).ld
  go_wp2_with fail
  clear l
  refine (ExO.callH 0 1 (by decide +kernel) _).mono ?_
  rintro e w14 ⟨rfl, hb⟩
  replace hX := hX.on hb
  clear hb
  have l := (hX.rel (w7.heap.size, 3, ExO.tF) (by simp)).ld
  go_wp2_with fail
  clear l
  refine (ExO.callH 2 0 (by decide +kernel) _).mono ?_
  rintro e w15 ⟨rfl, hb⟩
  replace hX := hX.on hb
  clear hb
  have l := (hX.rel (w7.heap.size, 3, ExO.tF) (by simp)).ld
  go_wp2_with fail
  clear l
  refine (ExO.callH 2 1 (by decide +kernel) _).mono ?_
  rintro e w16 ⟨rfl, hb⟩
  replace hX := hX.on hb
  clear hb
  have l := (hX.rel (w7.heap.size, 3, ExO.tF) (by simp)).ld
  go_wp2_with fail
  clear l
  refine (ExO.callPairs _ (hX.tab hT)).mono ?_
  rintro e w17 ⟨⟨a17, c17, rfl⟩, hb⟩
  replace hX := hX.on hb
  clear hb
  -- what keeps no relation
  have hP := (Ex.intLit [1, 0] w17 #[.int .i64 1, .int .i64 0] rfl (by decide)).mono (n₁ := (w17.alloc (.cells #[.int .i64 1, .int .i64 0] 3)).heap.size) (by simp)
  have l := (hX.rel (w9.heap.size, 2, ExO.aF) (by simp)).ld
  replace hX := hX.alloc (.cells #[.int .i64 1, .int .i64 0] 3)
  go_wp2_with fail
  clear l
  refine (ExO.callKeeps _ _ hP).mono ?_
  rintro e w18 ⟨rfl, hb⟩
  replace hX := hX.on hb
  clear hb hP
  have hP := (Ex.intLit [0, 1] w18 #[.int .i64 0, .int .i64 1] rfl (by decide)).mono (n₁ := (w18.alloc (.cells #[.int .i64 0, .int .i64 1] 3)).heap.size) (by simp)
  replace hX := hX.alloc (.cells #[.int .i64 0, .int .i64 1] 3)
  go_wp2_with fail
  refine (ints_eq (hX.sl (v10, [0, 1]) (by simp)) hP).mono ?_
  rintro e w19 ⟨rfl, hb⟩
  replace hX := hX.on hb
  clear hb hP
  have hP := (Ex.intLit [] w19 #[] rfl (by decide)).mono (n₁ := (w19.alloc (.cells #[] 3)).heap.size) (by simp)
  replace hX := hX.alloc (.cells #[] 3)
  have hL := (ExO.listLit (w19.alloc (.cells #[] 3)) [.slice (some ⟨w19.heap.size, 0, none⟩) 0 0] [[]] rfl (by decide) (by
    intro j v l hv hl
    match j, hv, hl with
    | 0, hv, hl => cases hv; cases hl; exact hP
    | j + 1, hv, hl => simp at hv)).mono (n₁ := ((w19.alloc (.cells #[] 3)).alloc (.cells #[.slice (some ⟨w19.heap.size, 0, none⟩) 0 0] 46)).heap.size) (by simp)
  replace hX := hX.alloc (.cells #[.slice (some ⟨w19.heap.size, 0, none⟩) 0 0] 46)
  have hz : (w19.alloc (.cells #[] 3)).heap.size = w19.heap.size + 1 := by simp
  go_wp2_with fail
  generalize w19.alloc (.cells #[] 3) = W19 at *
  rw [hz] at hL
  refine (lists_same _ _ _ _ (hX.ls (v12, [[]]) (by simp)) hL).mono ?_
  rintro e w20 ⟨rfl, hb⟩
  replace hX := hX.on hb
  clear hb hL hP
  go_wp2
  go_ret
  exact ⟨rfl, hX.below⟩
end Go.Proofs.YtpmlomhlbmgilaaDoor
end
