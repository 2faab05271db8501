/- The law of pairs: the walk. -/
import Derived.Deep.RegionWith
import Derived.Deep.QuietTactic
import Derived.Deep.DeepCutAuto
import Derived.Deep.RegionLaw
import Derived.Deep.CutBlock
import Derived.Deep.AppendLies
import Derived.Deep.RegionHeld3
import Derived.Deep.DrawnRows
import Derived.Test.YtnfkedcbhjbhkaaDoorAppendKeeps
import Derived.Test.YtnfkedcbhjbhkaaDoorRelPairsAlg
import Derived.Test.YtnfkedcbhjbhkaaDoorRelPlusAlg
import Derived.Test.YtnfkedcbhjbhkaaDoorRelAwake2
namespace Go.Proofs.YtnfkedcbhjbhkaaDoor
open Go.RowKit Go.Shelf Go.BigFrame

attribute [local go_sem] Oper.semAt_some
attribute [local go_sem ↓] Go.wp_at_zero Go.wp_at_succ

theorem relPairs_ok {N : Nat} {f : Nat → Nat} (h1 : R64 f) (hf : Rgt N f) (w : World) (hT : Tab w) :
    Calls Tryd.prog 32 #[.agg (relC N f)] w fun e w' => ∃ v, e = .returned v ∧ w'.ownsRow w.heap.size 53 2 v (pairsK f N).length (pairCells (pairsK f N)) ∧ Below w.heap.size w w' := by
  have := relPairs_any N f w h1 hT
  rwa [show rightB (N : Int) f = true from hf, if_pos rfl, Int.toNat_natCast] at this
theorem elemPairs : Tryd.prog.underlying 27 = some (.slice (Tryd.prog.elem 27)) := by kernel_rfl
theorem sizePairs (w : World) : (sizeOf (Tryd.prog.elem 27)).run Tryd.prog w = .ok 2 w := by kernel_rfl
def frontAt (g c k : Nat) : Addr := if c = k then ⟨g, 0, none⟩ else ⟨g, k * 2, none⟩
/-- 'l[k:]' -/
theorem pairs_back (g N c k : Nat) (hk : k ≤ N) (w : World) :
    (Instr.slice 27 (.slice (some ⟨g, 0, none⟩) N c) (some (.int .i64 (k : Int))) none none).run Tryd.prog w = .ok (.slice (some (frontAt g c k)) (N - k) (c - k)) w := by
  rw [run_slice_l w 27 (some ⟨g, 0, none⟩) N c elemPairs .i64 (k : Int) (by omega) (by omega), sizePairs]
  unfold frontAt
  by_cases h : c = k
  · simp [Result.andThen, sliced, h]
  · by_cases h0 : k = 0
    · simp [Result.andThen, sliced, Addr.add, h0]
    · have h2 : k * 2 ≠ 0 := by omega
      simp [Result.andThen, sliced, Addr.add, h, h2]
/-- 'l[:k]' -/
theorem pairs_front (g N c k : Nat) (hk : k ≤ c) (w : World) :
    (Instr.slice 27 (.slice (some ⟨g, 0, none⟩) N c) none (some (.int .i64 (k : Int))) none).run Tryd.prog w = .ok (.slice (some ⟨g, 0, none⟩) k c) w := by
  rw [run_slice_h w 27 (some ⟨g, 0, none⟩) N c elemPairs .i64 (k : Int) (by omega) (by omega), sizePairs]
  simp [Result.andThen, sliced, Addr.add]

theorem pairCells_append (l m : List (It × It)) : pairCells (l ++ m) = pairCells l ++ pairCells m := by simp [pairCells, List.flatMap_append]
theorem pairCells_length (l : List (It × It)) : (pairCells l).length = l.length * 2 := by
  induction l with
  | nil => rfl
  | cons a l ih => rw [← List.singleton_append, pairCells_append, List.length_append, ih]; simp [pairCells]; omega
theorem pairCells_one (l : List (It × It)) : ∀ u ∈ pairCells l, u.oneCell' = true := by
  intro u hu
  obtain ⟨x, _, hx⟩ := List.mem_flatMap.1 hu
  simp at hx
  rcases hx with rfl | rfl <;> rfl
theorem pairCells_get (l : List (It × It)) (j : Nat) (h : j < l.length) : (pairCells l)[j * 2]? = some (.int .i64 (l[j].1.1 : Int)) ∧ (pairCells l)[j * 2 + 1]? = some (.int .i64 (l[j].2.1 : Int)) := by
  have := pairCells_at l j h
  rw [List.getElem?_map, List.getElem?_eq_getElem h] at this
  exact this
theorem pairCells_drop (l : List (It × It)) : ∀ k, pairCells (l.drop k) = (pairCells l).drop (k * 2) := by
  induction l with
  | nil => intro k; simp [pairCells]
  | cons a l ih =>
    intro k
    cases k with
    | zero => simp
    | succ k => rw [List.drop_succ_cons, ih, show (k + 1) * 2 = k * 2 + 1 + 1 by omega]; rfl
theorem pairCells_take (l : List (It × It)) : ∀ k, pairCells (l.take k) = (pairCells l).take (k * 2) := by
  induction l with
  | nil => intro k; simp [pairCells]
  | cons a l ih =>
    intro k
    cases k with
    | zero => simp [pairCells]
    | succ k => rw [List.take_succ_cons, show (k + 1) * 2 = k * 2 + 1 + 1 by omega, ← List.singleton_append, pairCells_append, ih]; rfl

set_option maxRecDepth 100000 in
set_option maxHeartbeats 8000000 in
theorem pairs_law (na nb : Int) (fa fb : Nat → Nat) (ha : R64 fa) (hb : R64 fb) (tu : Int) (t0 : 0 ≤ tu) (t1 : tu < 65536) (w : World) (hT : Tab w) :
    Calls Tryd.prog 8 #[.agg (relC na fa), .agg (relC nb fb), .int .u16 tu] w fun e w' => e = .returned (.bool true) ∧ Below w.heap.size w w' := by
  have hp := hT.pos
  obtain ⟨N, -, hN20, A64, Ar, HA⟩ := fine_ok na (most := 20) fa ha (by decide) (by decide)
  generalize fineF fa N = A at *
  obtain ⟨B64, Br, HB⟩ := fine_keep N (most := 20) fb hb hN20 (by decide)
  generalize fineF fb N = B at *
  replace HA := Lib.hid HA
  replace HB := Lib.hid HB
  have hA := (RelAt.new w na fa).alloc (.cells (relC nb fb) 26)
  have hM := RelAt.new (w.alloc (.cells (relC na fa) 26)) nb fb
  rw [World.size_alloc] at hM
  have hBl := thru (below_new w (.cells (relC na fa) 26)) (below_new _ (.cells (relC nb fb) 26))
  have ne1 : w.heap.size ≠ w.heap.size + 1 := by omega
  have ne2 : w.heap.size + 1 ≠ w.heap.size := by omega
  have le1 : w.heap.size ≤ w.heap.size + 1 := by omega
  have l1 := hA.ld
  go_enter Tryd.func8, Tryd.ntmps8
  go_wp2_with fail
  refine (HA.out _).mono ?_
  rintro e w1 ⟨rfl, h⟩
  clear l1
  obtain ⟨W1, hs1, hf1, hO1⟩ := (hA.on h).put N A
  have hM1 := (hM.on h).only hO1 ne2
  have hB1 := below_only (thru hBl h) hO1 (Nat.le_refl _)
  have n1 := hf1.num
  have hfr := hM1.free 0
  have n2 := hM1.num
  have hM2 := hM1.setN N
  have hX : Kept w (W1.setCell ⟨w.heap.size + 1, 0, none⟩ (.int .i64 (N : Int))) [(w.heap.size + 1, (N : Int), fb), (w.heap.size, (N : Int), A)] := by
    refine ⟨hB1.setCell le1 _, ?_⟩
    simp only [List.mem_cons, List.not_mem_nil, or_false]
    rintro p (rfl | rfl)
    · exact hM2
    · exact hf1.other _ _ ne1
  clear h hO1 hA hM hBl hM1 hB1
  have l1 := (hX.at (b := w.heap.size + 1) (n := N) (f := fb) (by simp)).ld
  go_wp2_with fail
  clear l1 hs1 n1 n2 hfr
  refine (HB.out _).mono ?_
  rintro e w2 ⟨rfl, h⟩
  replace hX := hX.on h
  clear h
  obtain ⟨W2, hs2, hf2, hO2⟩ := (hX.at (b := w.heap.size + 1) (n := N) (f := fb) (by simp)).put N B
  replace hX := ((hX.less (l' := [(w.heap.size, (N : Int), A)]) (by simp)).only hO2 le1 (by simp)).cons hf2
  clear hf2 hO2
  have l1 := (hX.at (b := w.heap.size) (n := N) (f := A) (by simp)).ld
  go_wp2_with fail
  clear l1 hs2
  refine (relPairs_ok A64 Ar _ (hX.tab hT)).mono ?_
  rintro e w3 ⟨v, rfl, hrow, h⟩
  have hsz := hX.1.size
  replace hX := hX.on h
  clear h
  replace hrow := ownsRow_base hrow (b' := w.heap.size) hsz
  clear hsz
  have hLle := pairsK_le A N (by omega)
  have hLs : SameP A N (pairsK A N) := fun _ => Iff.rfl
  have hLt := sameP_turn A N
  generalize pairsK A N = L at *
  obtain ⟨i0, hi, hz0, hz1, hz2⟩ := info_parts infoPair
  obtain ⟨av, cv, rfl⟩ := ownsRow_slice hrow
  go_upto_if 32 with fail
  go_cut [7] (fun v7 W => ∃ L' : List (It × It), SameP A N L' ∧ L'.length ≤ 48 * N ∧ W.ownsRow w.heap.size 53 2 v7 L'.length (pairCells L') ∧ Kept w W [(w.heap.size + 1, (N : Int), B), (w.heap.size, (N : Int), A)])
  case first =>
    by_cases h0 : L.length = 0
    · have hrow' := Lib.hid hrow
      have hX' := Lib.hid hX
      clear hrow hX
      rw [h0]
      replace h0 := Lib.hid h0
      go_wp2_with fail
      go_meet
      exact ⟨L, hLs, hLle, by have := hrow'.out; rw [h0.out] at this ⊢; exact this, hX'.out⟩
    · obtain ⟨g, c, hv, hgb, hglt⟩ := hrow.form (by omega)
      obtain ⟨rfl, _, rfl⟩ := Value.slice.inj hv
      clear hv
      obtain ⟨k, hk⟩ : ∃ k : Nat, tu % (L.length : Int) = (k : Int) := ⟨(tu % (L.length : Int)).toNat, by have := Int.emod_nonneg tu (show ((L.length : Int)) ≠ 0 by omega); omega⟩
      have hkN : k < L.length := by have := Int.emod_lt_of_pos tu (show 0 < (L.length : Int) by omega); omega
      have hpos : 0 < L.length := by omega
      have hc : L.length ≤ cv ∧ cv ≤ maxLen := by
        rcases hrow.2 with ⟨h, _⟩ | ⟨g', cap, cur, h, _, _, hle, hm, _⟩
        · cases h
        · obtain ⟨_, _, rfl⟩ := Value.slice.inj h; exact ⟨hle, hm⟩
      have hsb := pairs_back g L.length cv k (by omega)
      have hsf := pairs_front g L.length cv k (by omega)
      have hcell : ∀ j u, (pairCells L)[j]? = some u → w3.cell? ⟨g, j, none⟩ = some u := by
        intro j u hu
        have := hrow.cells (g := g) rfl j u hu
        rwa [Go.WideShapes.add_plain, Nat.zero_add] at this
      have hfront : ∀ W, Below w3.heap.size w3 W → ∀ j u, (pairCells (L.take k))[j]? = some u → W.cell? ((⟨g, 0, none⟩ : Addr).add j) = some u := by
        intro W hW j u hu
        rw [Go.WideShapes.add_plain, Nat.zero_add]
        have hj : j < k * 2 := by have := (List.getElem?_eq_some_iff.1 hu).1; rw [pairCells_length, List.length_take] at this; omega
        rw [pairCells_take, List.getElem?_take_of_lt hj] at hu
        exact (hW.cell (p := ⟨g, j, none⟩) hglt).trans (hcell j u hu)
      have hback : ∀ W, Below w3.heap.size w3 W → ∀ j u, (pairCells (L.drop k))[j]? = some u → W.cell? ((frontAt g cv k).add j) = some u := by
        intro W hW j u hu
        rw [pairCells_drop, List.getElem?_drop] at hu
        unfold frontAt
        rw [if_neg (by omega), Go.WideShapes.add_plain]
        exact (hW.cell (p := ⟨g, k * 2 + j, none⟩) hglt).trans (hcell _ u hu)
      replace hfront := Lib.hid hfront
      replace hback := Lib.hid hback
      clear hcell
      generalize frontAt g cv k = ab at hsb hback
      have hrow' := Lib.hid hrow
      have hX' := Lib.hid hX
      clear hrow hX
      go_upto_region 7 with fail
      rw [hk]
      have hW0 : ∀ W, Below w3.heap.size w3 W → W.ownsRow w.heap.size 53 2 (.slice (some ⟨g, 0, none⟩) L.length cv) L.length (pairCells L) := fun W hW => by
        have h := hrow'.out
        refine ⟨h.1, ?_⟩
        rcases h.2 with h0 | ⟨g', cap, cur, hv, hb, hh, r⟩
        · exact .inl h0
        · obtain ⟨h1, _, h3⟩ := Value.slice.inj hv
          cases h1
          exact .inr ⟨g, cap, cur, hv, hb, (hW.block g hglt).trans hh, r⟩
      clear hW0
      have hlit := Lib.hid (fun W : World => (World.ownsRow_lit W (base := w3.heap.size) (e := 53) (size := 2) #[] 0))
      go_region_law (first
        | (refine step_append_keeps rfl (.tmp 38) (.tmp 41) 27 rfl w3.heap.size 53 i0 (.agg #[.int .i64 0, .int .i64 0]) 2 16 Tryd.underlying27 hi hz0 hz1 hz2 rfl (by decide) (.slice (some ⟨w3.heap.size, 0, none⟩) 0 0) 0 [] rfl ?row ab (L.length - k) _ (pairCells (L.drop k)) rfl (by rw [pairCells_length, List.length_drop]) (hback.out _ ((Below.refl w3.heap.size w3).alloc (Nat.le_refl _) _).drew) (pairCells_one _) (by unfold maxLen; omega) (by omega) (by simp) ?_
           case row => exact (World.ownsRow_lit w3 #[] 0 (Nat.le_refl _) (by decide) rfl)
           intro v1 w4 hown1 hgrow1 _
           have hgr := ((Below.refl w3.heap.size w3).alloc (Nat.le_refl _) (.cells #[] 53)).drew.grown hgrow1 (by simp) (fun j hj => by cases hj; exact Nat.le_refl _)
           replace hown1 := Lib.hid hown1
           replace hgrow1 := Lib.hid hgrow1)
        | (refine step_append_keeps rfl (.tmp 42) (.tmp 45) 27 rfl w3.heap.size 53 i0 (.agg #[.int .i64 0, .int .i64 0]) 2 16 Tryd.underlying27 hi hz0 hz1 hz2 rfl (by decide) v1 (0 + (L.length - k)) ([] ++ pairCells (L.drop k)) rfl hown1.out ⟨g, 0, none⟩ k _ (pairCells (L.take k)) rfl (by rw [pairCells_length, List.length_take]; congr 1; omega) (hfront.out _ hgr) (pairCells_one _) (by unfold maxLen; omega) (by omega) hgr.size ?_
           intro v2 w5 hown2 hgrow2 _
           replace hown2 := Lib.hid hown2))
      all_goals
        go_wp2_with fail
        go_meet
        refine ⟨_, hLt k, ?_, ?_, ?_⟩
        · rw [List.length_append, List.length_drop, List.length_take]; omega
        · have := ownsRow_base hown2.out (b' := w.heap.size) hX'.out.1.size
          rw [List.length_append, List.length_drop, List.length_take, pairCells_append, Nat.min_eq_left (by omega)]
          rwa [Nat.zero_add, List.nil_append] at this
        · have h1 := (hX'.out.on (below_new w3 (.cells #[] 53))).drew
          have hr1 := World.ownsRow_lit w3 (e := 53) (size := 2) (base := w.heap.size) #[] 0 hX'.out.1.size (by decide) rfl
          have h2 := h1.grown (by decide) (v := .slice (some ⟨w3.heap.size, 0, none⟩) 0 0) hr1 hgrow1.out
          exact h2.grown (by decide) (ownsRow_base hown1.out (b' := w.heap.size) hX'.out.1.size) hgrow2
  case rest =>
    clear hLt hLs hLle hX hrow
    obtain ⟨L', hS, hlen, hrow, hX⟩ := hcut
    have hS2 := hS.twice
    have g2 : ofB N ((L' ++ L').map itP) = true := hS2.good Ar
    have e2 : relB N N (ofL ((L' ++ L').map itP)) A = true := hS2.of Ar
    have cOf := Lib.hid (fun W v (h : PairSl W.heap.size W v ((L' ++ L').map itP)) => show Calls Tryd.prog 18 #[.int .i64 N, v] W fun e w' => e = .returned (.tuple #[.agg (relC N (ofL ((L' ++ L').map itP))), .int .i64 0]) ∧ Below W.heap.size W w' by
      have := relOf_any N v _ W h
      unfold OfPost at this
      rw [g2] at this
      exact this)
    clear g2
    generalize hF : ofL ((L' ++ L').map itP) = F at cOf e2
    clear hF
    go_upto_region 8 with fail
    have nq := (hX.at (b := w.heap.size) (n := N) (f := A) (by simp)).num
    have nqa := ((hX.on (below_new wc (.cells (relC 0 zf) 26))).drew.at (b := w.heap.size) (n := N) (f := A) (by simp)).num
    have hX' := Lib.hid hX
    have hrow' := Lib.hid hrow
    clear hX hrow
    have hsz := hX'.out.1.size
    have hltA := Lib.hid (hX'.out.lts)
    have hnz : ∀ p ∈ [(w.heap.size + 1, (N : Int), B), (w.heap.size, (N : Int), A)], p.1 ≠ wc.heap.size := fun p hp => Nat.ne_of_lt (hltA.out p hp)
    replace hnz := Lib.hid hnz
    go_cut [9, 10] (fun v9 v10 W => ∃ b', v9 = .pointer (some ⟨b', 0, none⟩) ∧ v10 = .int .i64 0 ∧ Kept w W [(b', (N : Int), F), (w.heap.size + 1, (N : Int), B), (w.heap.size, (N : Int), A)] ∧ W.ownsRow w.heap.size 53 2 u7 L'.length (pairCells L'))
    case first =>
      go_region_law (first
        | (refine step_append_self rfl (.tmp 50) (.tmp 51) 27 rfl w.heap.size 53 i0 (.agg #[.int .i64 0, .int .i64 0]) 2 16 Tryd.underlying27 hi hz0 hz1 hz2 rfl (by decide) u7 L'.length (pairCells L') rfl rfl ?row (pairCells_one _) (by unfold maxLen; omega) (by omega) (by simp; omega) ?_
           case row => first | exact hrow'.out.drew | exact (hrow'.out.alloc _).drew
           intro v8 w8 hown8 hg8 hold8
           first
             | (have hX8 := hX'.out.drew.grown (by decide) hrow'.out.drew hg8
                have nq8 := (hX8.at (b := w.heap.size) (n := N) (f := A) (by simp)).num
                have nq9 := ((hX8.on (below_new w8 (.cells (relC 0 zf) 26))).at (b := w.heap.size) (n := N) (f := A) (by simp)).num
                replace hX8 := Lib.hid hX8)
             | (have hX8a := ((hX'.out.on (below_new wc (.cells (relC 0 zf) 26))).cons (RelAt.new wc 0 zf)).drew.grown (by decide) (hrow'.out.alloc _).drew hg8
                have nq8 := (hX8a.at (b := w.heap.size) (n := N) (f := A) (by simp)).num
                replace hX8a := Lib.hid hX8a)
           have hP8 := pairSl_of_row (l := L' ++ L') (by rw [List.length_append, pairCells_append]; exact hown8) (by rw [List.length_append]; unfold maxLen; omega)
           replace hown8 := Lib.hid hown8
           replace hold8 := Lib.hid hold8
           replace hg8 := Lib.hid hg8
           replace hP8 := Lib.hid hP8
           skip)
        | (go_simp
           go_at_call 18
           first
             | (refine (cOf.out _ _ hP8.out).mono ?_
                rintro e w9 ⟨rfl, h9⟩
                first
                  | (have hX9 := hX8a.out.on h9
                     have hold9 := ownsRow_below hold8.out h9
                     obtain ⟨Wf, hsf, hfin, hO⟩ := (hX9.at (b := wc.heap.size) (n := 0) (f := zf) (by simp)).put N F
                     have hXf := ((hX9.less (l' := [(w.heap.size + 1, (N : Int), B), (w.heap.size, (N : Int), A)]) (by simp)).only hO hsz hnz.out).cons hfin
                     have hrowf := ownsRow_only (by decide) hold9 (hX9.at (b := wc.heap.size) (n := 0) (f := zf) (by simp)) hO)
                  | (have hX9 := hX8.out.on h9
                     have hold9 := ownsRow_below hold8.out h9
                     obtain ⟨Wf, hsf, hfin, hB9, -⟩ := Ex.lay w9 N F
                     have hXf := (hX9.on hB9).cons hfin
                     have hrowf := ownsRow_below hold9 hB9))
             | (refine (cOf.out _ _ (hP8.out.on (below_new w8 (.cells (relC 0 zf) 26)))).mono ?_
                rintro e w9 ⟨rfl, h9⟩
                obtain ⟨Wf, hsf, hXf, hrf⟩ := hX8.out.lay h9 N F
                have hrowf := hrf _ _ _ _ _ _ (by decide) hold8.out
                clear hrf)))
      all_goals (go_wp2_with fail; go_meet; exact ⟨_, rfl, rfl, hXf, hrowf⟩)
    case rest =>
      clear nq nqa hX' hrow' hltA hnz hsz cOf
      obtain ⟨b', rfl, rfl, hX, hrow⟩ := hcut
      obtain ⟨UF, hUF⟩ : ∃ F, F = unionF A B := ⟨_, rfl⟩
      obtain ⟨BF, hBF⟩ : ∃ F, F = bothF A B := ⟨_, rfl⟩
      obtain ⟨LF, hLF⟩ : ∃ F, F = lessF A B := ⟨_, rfl⟩
      have U64 : R64 UF := by rw [hUF]; exact union_64 A64 B64
      have Y64 : R64 BF := by rw [hBF]; exact both_64 A64
      have Z64 : R64 LF := by rw [hLF]; exact less_64 A64
      have Ur : Rgt N UF := by rw [hUF]; exact rgt_union Ar Br
      have Yr : Rgt N BF := by rw [hBF]; exact rgt_both Ar
      have Zr : Rgt N LF := by rw [hLF]; exact rgt_less Ar
      have cU := Lib.hid (fun w => union_ok A64 B64 Ar Br w)
      rw [← hUF] at cU
      have cB := Lib.hid (fun w => both_ok A64 B64 Ar Br w)
      rw [← hBF] at cB
      have cL := Lib.hid (fun w => less_ok A64 B64 Ar Br w)
      rw [← hLF] at cL
      have i1 := Lib.hid (in_ok Ar Ur A64 U64 (fun i j hi hx => by rw [hUF, bt_union]; exact .inl hx))
      have i2 := Lib.hid (in_ok Yr Br Y64 B64 (fun i j hi hx => by rw [hBF, bt_both] at hx; exact hx.2))
      have i3 := Lib.hid (in_ok Zr Ar Z64 A64 (fun i j hi hx => by rw [hLF, bt_less A64 B64] at hx; exact hx.1))
      have q1 := pairs_or A B N (by omega)
      have q2 := pairs_less A B A64 B64 N (by omega)
      rw [← hUF, ← hBF] at q1
      rw [← hLF, ← hBF] at q2
      clear hUF hBF hLF
      have l1 := (hX.at (b := w.heap.size) (n := N) (f := A) (by simp)).ld
      have l2 := (hX.at (b := w.heap.size + 1) (n := N) (f := B) (by simp)).ld
      go_wp2_with fail
      clear l1 l2
      refine (cU.out _).mono ?_
      rintro e w4 ⟨rfl, h⟩
      replace hX := hX.on h
      replace hrow := ownsRow_below hrow h
      clear h
      obtain ⟨W4, hs4, hu, h, -⟩ := Ex.lay w4 N UF
      replace hX := (hX.on h).cons hu
      replace hrow := ownsRow_below hrow h
      clear h hu
      have l1 := (hX.at (b := w.heap.size) (n := N) (f := A) (by simp)).ld
      have l2 := (hX.at (b := w.heap.size + 1) (n := N) (f := B) (by simp)).ld
      go_wp2_with fail
      clear l1 l2 hs4
      refine (cB.out _).mono ?_
      rintro e w5 ⟨rfl, h⟩
      replace hX := hX.on h
      replace hrow := ownsRow_below hrow h
      clear h
      obtain ⟨W5, hs5, hu, h, -⟩ := Ex.lay w5 N BF
      replace hX := (hX.on h).cons hu
      replace hrow := ownsRow_below hrow h
      clear h hu
      have l1 := (hX.at (b := w.heap.size) (n := N) (f := A) (by simp)).ld
      have l2 := (hX.at (b := w.heap.size + 1) (n := N) (f := B) (by simp)).ld
      go_wp2_with fail
      clear l1 l2 hs5
      refine (cL.out _).mono ?_
      rintro e w6 ⟨rfl, h⟩
      replace hX := hX.on h
      replace hrow := ownsRow_below hrow h
      clear h
      obtain ⟨W6, hs6, hu, h, -⟩ := Ex.lay w6 N LF
      replace hX := (hX.on h).cons hu
      replace hrow := ownsRow_below hrow h
      clear h hu
      go_upto_region 12 with fail
      clear hs6
      have cP := Lib.hid (fun W (F : Nat → Nat) (h1 : R64 F) (hr : Rgt N F) (hT : Tab W) => show Calls Tryd.prog 32 #[.agg (relC N F)] W fun e w' => (∃ a c, e = .returned (.slice a (pairsK F N).length c)) ∧ Below W.heap.size W w' by
        refine (relPairs_ok h1 hr W hT).mono ?_
        rintro e w' ⟨v, rfl, hr, hb⟩
        obtain ⟨a, c, rfl⟩ := ownsRow_slice hr
        exact ⟨⟨a, c, rfl⟩, hb⟩)
      have x1 := pairsK_le UF N (by omega)
      have x2 := pairsK_le BF N (by omega)
      have x3 := pairsK_le LF N (by omega)
      have x4 := pairsK_le A N (by omega)
      have x5 := pairsK_le B N (by omega)
      have cPU := Lib.hid (cP.out · UF U64 Ur)
      have cPB := Lib.hid (cP.out · BF Y64 Yr)
      have cPL := Lib.hid (cP.out · LF Z64 Zr)
      have cPA := Lib.hid (cP.out · A A64 Ar)
      have cPC := Lib.hid (cP.out · B B64 Br)
      clear cP
      generalize (pairsK UF N).length = p1 at *
      generalize (pairsK BF N).length = p2 at *
      generalize (pairsK LF N).length = p3 at *
      generalize (pairsK A N).length = p4 at *
      generalize (pairsK B N).length = p5 at *
      obtain ⟨S, hS1⟩ : ∃ S, S = p1 + p2 := ⟨_, rfl⟩
      have s1 : IntKind.i64.wrap ((p1 : Int) + (p2 : Int)) = (S : Int) := by rw [hS1, IntWalk.i64_in _ (by omega)]; omega
      have s2 : IntKind.i64.wrap ((p4 : Int) + (p5 : Int)) = (S : Int) := by rw [hS1, IntWalk.i64_in _ (by omega)]; omega
      have s3 : IntKind.i64.wrap ((p3 : Int) + (p2 : Int)) = (p4 : Int) := by rw [IntWalk.i64_in _ (by omega)]; omega
      have s4 : ((S : Int) != (S : Int)) = false := by simp
      have s5 : ((p4 : Int) != (p4 : Int)) = false := by simp
      clear hS1 x1 x2 x3 x4 x5
      have hKS : ∀ W, Kept w W [(w6.heap.size, (N : Int), LF), (w5.heap.size, (N : Int), BF), (w4.heap.size, (N : Int), UF), (b', (N : Int), F), (w.heap.size + 1, (N : Int), B), (w.heap.size, (N : Int), A)] →
          (ldRel (.pointer (some ⟨w6.heap.size, 0, none⟩))).run Tryd.prog W = .ok (.agg (relC N LF)) W ∧ (ldRel (.pointer (some ⟨w5.heap.size, 0, none⟩))).run Tryd.prog W = .ok (.agg (relC N BF)) W ∧
          (ldRel (.pointer (some ⟨w4.heap.size, 0, none⟩))).run Tryd.prog W = .ok (.agg (relC N UF)) W ∧ (ldRel (.pointer (some ⟨b', 0, none⟩))).run Tryd.prog W = .ok (.agg (relC N F)) W ∧
          (ldRel (.pointer (some ⟨w.heap.size + 1, 0, none⟩))).run Tryd.prog W = .ok (.agg (relC N B)) W ∧ (ldRel (.pointer (some ⟨w.heap.size, 0, none⟩))).run Tryd.prog W = .ok (.agg (relC N A)) W := fun W hK =>
        ⟨(hK.at (b := w6.heap.size) (n := N) (f := LF) (by simp)).ld, (hK.at (b := w5.heap.size) (n := N) (f := BF) (by simp)).ld, (hK.at (b := w4.heap.size) (n := N) (f := UF) (by simp)).ld, (hK.at (b := b') (n := N) (f := F) (by simp)).ld,
          (hK.at (b := w.heap.size + 1) (n := N) (f := B) (by simp)).ld, (hK.at (b := w.heap.size) (n := N) (f := A) (by simp)).ld⟩
      replace hKS := Lib.hid hKS
      clear q1 q2
      go_cut [134] (fun v W => v = .bool false ∧ Kept w W [(w6.heap.size, (N : Int), LF), (w5.heap.size, (N : Int), BF), (w4.heap.size, (N : Int), UF), (b', (N : Int), F), (w.heap.size + 1, (N : Int), B), (w.heap.size, (N : Int), A)] ∧ W.ownsRow w.heap.size 53 2 u7 L'.length (pairCells L'))
      case first =>
        have hXd := Lib.hid hX.drew
        have hrd := Lib.hid hrow.drew
        clear hX hrow
        go_region_held3 (fun W => (ldRel (.pointer (some ⟨w6.heap.size, 0, none⟩))).run Tryd.prog W = .ok (.agg (relC N LF)) W ∧ (ldRel (.pointer (some ⟨w5.heap.size, 0, none⟩))).run Tryd.prog W = .ok (.agg (relC N BF)) W ∧
          (ldRel (.pointer (some ⟨w4.heap.size, 0, none⟩))).run Tryd.prog W = .ok (.agg (relC N UF)) W ∧ (ldRel (.pointer (some ⟨b', 0, none⟩))).run Tryd.prog W = .ok (.agg (relC N F)) W ∧
          (ldRel (.pointer (some ⟨w.heap.size + 1, 0, none⟩))).run Tryd.prog W = .ok (.agg (relC N B)) W ∧ (ldRel (.pointer (some ⟨w.heap.size, 0, none⟩))).run Tryd.prog W = .ok (.agg (relC N A)) W)
          (exact hKS.out _ hXd.out)
          (first
            | (go_at_call_of 32 (Value.agg (relC (N : Int) UF))
               refine (cPU.out _ (hXd.out.tab hT)).mono ?_
               rintro e wq ⟨⟨aq, cq, rfl⟩, hq⟩
               replace hXd := Lib.hid (hXd.out.on hq)
               replace hrd := Lib.hid (ownsRow_below hrd.out hq)
               clear hq)
            | (go_at_call_of 32 (Value.agg (relC (N : Int) BF))
               refine (cPB.out _ (hXd.out.tab hT)).mono ?_
               rintro e wq ⟨⟨aq, cq, rfl⟩, hq⟩
               replace hXd := Lib.hid (hXd.out.on hq)
               replace hrd := Lib.hid (ownsRow_below hrd.out hq)
               clear hq)
            | (go_at_call_of 32 (Value.agg (relC (N : Int) LF))
               refine (cPL.out _ (hXd.out.tab hT)).mono ?_
               rintro e wq ⟨⟨aq, cq, rfl⟩, hq⟩
               replace hXd := Lib.hid (hXd.out.on hq)
               replace hrd := Lib.hid (ownsRow_below hrd.out hq)
               clear hq)
            | (go_at_call_of 32 (Value.agg (relC (N : Int) A))
               refine (cPA.out _ (hXd.out.tab hT)).mono ?_
               rintro e wq ⟨⟨aq, cq, rfl⟩, hq⟩
               replace hXd := Lib.hid (hXd.out.on hq)
               replace hrd := Lib.hid (ownsRow_below hrd.out hq)
               clear hq)
            | (go_at_call_of 32 (Value.agg (relC (N : Int) B))
               refine (cPC.out _ (hXd.out.tab hT)).mono ?_
               rintro e wq ⟨⟨aq, cq, rfl⟩, hq⟩
               replace hXd := Lib.hid (hXd.out.on hq)
               replace hrd := Lib.hid (ownsRow_below hrd.out hq)
               clear hq)
            | (go_at_call_of 55 (Value.agg (relC (N : Int) BF))
               refine (i2.out _).mono ?_
               rintro e wq ⟨rfl, hq⟩
               replace hXd := Lib.hid (hXd.out.on hq)
               replace hrd := Lib.hid (ownsRow_below hrd.out hq)
               clear hq)
            | (go_at_call_of 55 (Value.agg (relC (N : Int) LF))
               refine (i3.out _).mono ?_
               rintro e wq ⟨rfl, hq⟩
               replace hXd := Lib.hid (hXd.out.on hq)
               replace hrd := Lib.hid (ownsRow_below hrd.out hq)
               clear hq)
            | (go_at_call_of 55 (Value.agg (relC (N : Int) A))
               refine (i1.out _).mono ?_
               rintro e wq ⟨rfl, hq⟩
               replace hXd := Lib.hid (hXd.out.on hq)
               replace hrd := Lib.hid (ownsRow_below hrd.out hq)
               clear hq))
        all_goals (go_wp2_with fail; go_meet; exact ⟨rfl, hXd.out, hrd.out⟩)
      case rest =>
        clear hX hrow hKS s1 s2 s3 s4 s5 cU cB cL i1 i2 i3 cPU cPB cPL cPA cPC
        obtain ⟨rfl, hX, hrow⟩ := hcut
        obtain ⟨a7, c7, rfl⟩ := ownsRow_slice hrow
        have hX1 := hX.less (l' := [(w.heap.size, (N : Int), A)]) (by simp)
        clear hX
        have cH := Lib.hid (fun W (x : It × It) (hx : x ∈ L') => show Calls Tryd.prog 29 #[.agg (relC N A), .int .i64 (x.1.1 : Int), .int .i64 (x.2.1 : Int)] W fun e w' => e = .returned (.bool true) ∧ Below W.heap.size W w' by
          have := relHas_any N A (x.1.1 : Int) (x.2.1 : Int) W A64
          rwa [hS.has Ar x hx] at this)
        have cFr := Lib.hid (fun W => show Calls Tryd.prog 40 #[.agg (relC N A)] W fun e w' => e = .returned (.int .u64 (fstS L' : Int)) ∧ Below W.heap.size W w' by
          have := from_any N A W A64
          rwa [show rightB (N : Int) A = true from Ar, if_pos rfl, Int.toNat_natCast, hS.from Ar] at this)
        have cIn := Lib.hid (fun W (hT : Tab W) => show Calls Tryd.prog 42 #[.agg (relC N A)] W fun e w' => e = .returned (.int .u64 (sndS L' : Int)) ∧ Below W.heap.size W w' by
          have := into_any N A W A64 hT
          rwa [show rightB (N : Int) A = true from Ar, if_pos rfl, hS.into Ar] at this)
        clear hS
        go_wp2_with fail
        go_loopw [17, 18, 137] (fun v17 v18 i W => ∃ k : Nat, k ≤ L'.length ∧ i = .int .i64 k ∧ v17 = .int .u64 (fstS (L'.take k) : Int) ∧ v18 = .int .u64 (sndS (L'.take k) : Int) ∧ Kept w W [(w.heap.size, (N : Int), A)] ∧ W.ownsRow w.heap.size 53 2 (.slice a7 L'.length c7) L'.length (pairCells L')) (fun _ _ i _ => L'.length - (intOf i).toNat)
        case atStart => exact ⟨0, Nat.zero_le _, rfl, rfl, rfl, hX1, hrow⟩
        case round =>
          clear hX1 hrow
          obtain ⟨k, hk, rfl, rfl, rfl, hX, hrow⟩ := hrel
          have hXh := Lib.hid hX
          have hrowh := Lib.hid hrow
          by_cases hlt : k < L'.length
          · obtain ⟨g, c, hv, hgb, hglt⟩ := hrow.form (by omega)
            obtain ⟨rfl, _, rfl⟩ := Value.slice.inj hv
            clear hv
            have hcell : ∀ j u, (pairCells L')[j]? = some u → wr.cell? ⟨g, j, none⟩ = some u := by
              intro j u hu
              have := hrow.cells (g := g) rfl j u hu
              rwa [Go.WideShapes.add_plain, Nat.zero_add] at this
            obtain ⟨c1, c2⟩ := pairCells_get L' k hlt
            replace c1 := hcell _ _ c1
            replace c2 := hcell _ _ c2
            have ht : L'.take (k + 1) = L'.take k ++ [L'[k]] := List.take_succ_eq_append_getElem hlt
            have hmem : L'[k] ∈ L' := List.getElem_mem hlt
            replace ht := Lib.hid ht
            have hcx := Lib.hid (fun W => cH.out W _ hmem)
            clear hcell hmem hX hrow
            have hF1 : fstS (L'.take (k + 1)) = fstS (L'.take k) ||| 2 ^ L'[k].1.1 := by rw [ht.out, fstS_snoc]
            have hF2 : sndS (L'.take (k + 1)) = sndS (L'.take k) ||| 2 ^ L'[k].2.1 := by rw [ht.out, sndS_snoc]
            have b1 := fstS_lt (L'.take k)
            have b2 := sndS_lt (L'.take k)
            have y1 := L'[k].1.2
            have y2 := L'[k].2.2
            clear ht
            generalize L'[k].1.1 = x1 at *
            generalize L'[k].2.1 = x2 at *
            generalize fstS (L'.take k) = f1 at *
            generalize sndS (L'.take k) = f2 at *
            obtain ⟨q1, hq1⟩ : ∃ q, q = 2 ^ x1 := ⟨_, rfl⟩
            obtain ⟨q2, hq2⟩ : ∃ q, q = 2 ^ x2 := ⟨_, rfl⟩
            have hs1 : IntKind.u64.wrap (2 ^ x1) = (q1 : Int) := by rw [hq1]; exact shl1_nat x1 (by omega)
            have hs2 : IntKind.u64.wrap (2 ^ x2) = (q2 : Int) := by rw [hq2]; exact shl1_nat x2 (by omega)
            have hq164 : q1 < 2 ^ 64 := by rw [hq1]; exact Nat.pow_lt_pow_right (by omega) (by omega)
            have hq264 : q2 < 2 ^ 64 := by rw [hq2]; exact Nat.pow_lt_pow_right (by omega) (by omega)
            rw [← hq1] at hF1
            rw [← hq2] at hF2
            have ho1 : bits BinOp.or IntKind.u64 (f1 : Int) (q1 : Int) = ((f1 ||| q1 : Nat) : Int) := u64_or_nat _ _ (by omega) hq164
            have ho2 : bits BinOp.or IntKind.u64 (f2 : Int) (q2 : Int) = ((f2 ||| q2 : Nat) : Int) := u64_or_nat _ _ (by omega) hq264
            clear hq1 hq2 hq164 hq264
            generalize f1 ||| q1 = g1 at ho1 hF1
            generalize f2 ||| q2 = g2 at ho2 hF2
            have z1 : (x1 : Int) < 64 := by omega
            have z2 : (x2 : Int) < 64 := by omega
            replace hF1 := Lib.hid hF1
            replace hF2 := Lib.hid hF2
            replace hcx := Lib.hid hcx.out
            have hXn := Lib.hid (hXh.out.on (below_new wr (.cells #[.int .i64 (x1 : Int), .int .i64 (x2 : Int)] 53))).drew
            have ldA := Lib.hid (hXn.out.at (b := w.heap.size) (n := N) (f := A) (by simp)).ld
            go_upto_region 18 with fail
            go_region
            all_goals
              have ldA' := ldA.out
              go_wp2_with fail
              clear ldA'
              refine (hcx.out _).mono ?_
              rintro e w8 ⟨rfl, h8⟩
              have hX8 := hXn.out.on h8
              have hrow8 := ownsRow_below ((hrowh.out.alloc (.cells #[.int .i64 (x1 : Int), .int .i64 (x2 : Int)] 53)).drew) h8
              clear h8
              go_wp2
              go_roundw
              case rel => exact ⟨k + 1, by omega, by go_num, by rw [hF1.out], by rw [hF2.out], hX8, hrow8⟩
              case measure => simp [intOf]; omega
          · obtain rfl : k = L'.length := by omega
            rw [List.take_length]
            have hsame1 : ((fstS L' : Int) == (fstS L' : Int)) = true := by simp
            have hsame2 : ((sndS L' : Int) == (sndS L' : Int)) = true := by simp
            have ldA := (hX.at (b := w.heap.size) (n := N) (f := A) (by simp)).ld
            clear hX hrow
            go_wp2_with fail
            clear ldA
            refine (cFr.out _).mono ?_
            rintro e w8 ⟨rfl, h8⟩
            have hX8 := hXh.out.on h8
            clear h8
            have ldA := (hX8.at (b := w.heap.size) (n := N) (f := A) (by simp)).ld
            go_wp2_with fail
            clear ldA
            refine (cIn.out _ (hX8.tab hT)).mono ?_
            rintro e w9 ⟨rfl, h9⟩
            replace hX8 := hX8.on h9
            clear h9
            go_wp2_with fail
            refine (awake_any _ (hX8.tab hT)).mono ?_
            rintro e w10 ⟨rfl, h10⟩
            replace hX8 := hX8.on h10
            go_wp2
            go_ret
            exact ⟨rfl, hX8.1⟩
end Go.Proofs.YtnfkedcbhjbhkaaDoor
