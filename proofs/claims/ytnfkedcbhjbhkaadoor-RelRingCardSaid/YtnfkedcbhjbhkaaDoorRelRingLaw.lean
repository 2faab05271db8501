/- The law of rings: the walk. -/
import Derived.Deep.RegionWith
import Derived.Deep.QuietTactic
import Derived.Deep.DeepCutAuto
import Derived.Deep.RegionHeld3
import Derived.Deep.AppendLies
import Derived.Deep.DrawnRows
import Derived.Test.YtnfkedcbhjbhkaaDoorAppendKeeps
import Derived.Test.YtnfkedcbhjbhkaaDoorRelPairsAid
import Derived.Test.YtnfkedcbhjbhkaaDoorCycle
import Derived.Test.YtnfkedcbhjbhkaaDoorRelAwake2
namespace Go.Proofs.YtnfkedcbhjbhkaaDoor
open Go.RowKit Go.Shelf Go.BigFrame

attribute [local go_sem] Oper.semAt_some
attribute [local go_sem ↓] Go.wp_at_zero Go.wp_at_succ

/-- The set of a list's items. -/
def itemS (l : List Nat) : Nat := l.foldl (fun s x => s ||| 2 ^ x) 0
theorem itemS_snoc (l : List Nat) (x : Nat) : itemS (l ++ [x]) = itemS l ||| 2 ^ x := by simp [itemS, List.foldl_append]
theorem itemS_bit (l : List Nat) (j : Nat) : (itemS l).testBit j = true ↔ j ∈ l := by
  have key : ∀ (l : List Nat) (s : Nat), ((l.foldl (fun s x => s ||| 2 ^ x) s).testBit j = true ↔ s.testBit j = true ∨ j ∈ l) := by
    intro l
    induction l with
    | nil => intro s; simp
    | cons a l ih =>
      intro s
      rw [List.foldl_cons, ih, Nat.testBit_or, Nat.testBit_two_pow, Bool.or_eq_true, decide_eq_true_iff, List.mem_cons, or_assoc]
      constructor
      · rintro (h | h | h)
        · exact .inl h
        · exact .inr (.inl h.symm)
        · exact .inr (.inr h)
      · rintro (h | h | h)
        · exact .inl h
        · exact .inr (.inl h.symm)
        · exact .inr (.inr h)
  have := key l 0
  unfold itemS
  simpa using this
theorem itemS_lt {l : List Nat} {n : Nat} (h : ∀ x ∈ l, x < n) : itemS l < 2 ^ n := lt_of_bits fun j hj => h j ((itemS_bit l j).1 hj)

set_option maxRecDepth 100000 in
set_option maxHeartbeats 8000000 in
theorem ring_lawA (na : Int) (fa : Nat → Nat) (N : Nat) (A : Nat → Nat) (hN20 : (N : Int) ≤ 20) (A64 : R64 A) (Ar : Rgt N A) (T : List Nat) (hT1 : topF N A = some T) (hT2 : TopOK N A T) (hR : ringF N A = none) (hc : ¬ Cyc N A)
    (HA : Hid (∀ w : World, Calls Tryd.prog 54 #[.agg (relC na fa), .int .i64 20] w fun e w' => e = .returned (.agg (relC N A)) ∧ Below w.heap.size w w')) (w : World) (hT : Tab w) :
    Calls Tryd.prog 6 #[.agg (relC na fa)] w fun e w' => e = .returned (.bool true) ∧ Below w.heap.size w w' := by
  have hp := hT.pos
  have cRing := Lib.hid (fun W (hT : Tab W) => show Calls Tryd.prog 47 #[.agg (relC N A)] W fun e w' => e = .returned (.slice none 0 0) ∧ Below W.heap.size W w' by
    have := ring_any N A W A64 hT
    rw [hR] at this
    refine this.mono ?_
    rintro e w' ⟨v, rfl, _, hb, hv⟩
    rw [hv rfl]
    exact ⟨rfl, hb⟩)
  have hI : irrK (plusF N A) N = true := (irr_plus Ar).2 hc
  have cIrr := Lib.hid (fun W => show Calls Tryd.prog 50 #[.agg (relC N (plusF N A))] W fun e w' => e = .returned (.bool true) ∧ Below W.heap.size W w' by
    have := irr_ok (plus_64 (N := N) A64) (rgt_plus Ar) W; rwa [hI] at this)
  have cPlus := Lib.hid (fun W (hT : Tab W) => plus_ok A64 Ar W hT)
  have cAc := Lib.hid (fun W (hT : Tab W) => show Calls Tryd.prog 52 #[.agg (relC N A)] W fun e w' => e = .returned (.bool true) ∧ Below W.heap.size W w' by
    have := acyclic_any N A W A64 hT; rwa [hT1] at this)
  have cTop := Lib.hid (fun W (hT : Tab W) => show Calls Tryd.prog 44 #[.agg (relC N A)] W fun e w' => ∃ v, e = .returned (.tuple #[v, .bool true]) ∧ w'.ownsRow W.heap.size 3 1 v T.length (T.map intV) ∧ Below W.heap.size W w' by
    have := top_any N A W A64 hT; rwa [hT1] at this)
  have cPairs := Lib.hid (fun W (hT : Tab W) => relPairs_ok A64 Ar W hT)
  have hlen : T.length = N := by
    have h1 := nodup_le N T hT2.nodup (fun x hx => (hT2.mem x).1 hx)
    have h2 := nodup_le T.length ((List.range N).map fun x => T.idxOf x) (by
      rw [List.nodup_iff_pairwise_ne, List.pairwise_map]
      refine List.Pairwise.imp_of_mem ?_ (List.pairwise_lt_range (n := N))
      intro a b ha hb hab he
      have h1 := List.idxOf_lt_length_iff.2 ((hT2.mem a).2 (List.mem_range.1 ha))
      have h2 := List.idxOf_lt_length_iff.2 ((hT2.mem b).2 (List.mem_range.1 hb))
      have e1 := List.getElem_idxOf h1
      have e2 := List.getElem_idxOf h2
      have : a = b := by rw [← e1, ← e2]; congr 1
      omega) (fun y hy => by
      obtain ⟨x, hx, rfl⟩ := List.mem_map.1 hy
      exact List.idxOf_lt_length_iff.2 ((hT2.mem x).2 (List.mem_range.1 hx)))
    rw [List.length_map, List.length_range] at h2
    omega
  generalize plusF N A = P at *
  clear hR hT1 hI
  replace hT2 := Lib.hid hT2
  replace hc := Lib.hid hc
  have hA := RelAt.new w na fa
  have l1 := hA.ld
  have hBl := below_new w (.cells (relC na fa) 26)
  go_enter Tryd.func6, Tryd.ntmps6
  go_wp2_with fail
  refine (HA.out _).mono ?_
  rintro e w1 ⟨rfl, h⟩
  clear l1
  obtain ⟨W1, hs1, hf1, hO1⟩ := (hA.on h).put N A
  have hX : Kept w W1 [(w.heap.size, (N : Int), A)] := ⟨below_only (thru hBl h) hO1 (Nat.le_refl _), by simp only [List.mem_cons, List.not_mem_nil, or_false]; rintro p rfl; exact hf1⟩
  clear h hO1 hf1 hA hBl
  have l1 := (hX.at (b := w.heap.size) (n := N) (f := A) (by simp)).ld
  go_wp2_with fail
  clear hs1 l1
  refine (cRing.out _ (hX.tab hT)).mono ?_
  rintro e w2 ⟨rfl, h⟩
  replace hX := hX.on h
  clear h
  have l1 := (hX.at (b := w.heap.size) (n := N) (f := A) (by simp)).ld
  go_wp2_with fail
  clear l1
  refine (cPlus.out _ (hX.tab hT)).mono ?_
  rintro e w3 ⟨rfl, h⟩
  replace hX := hX.on h
  clear h
  go_wp2_with fail
  refine (cIrr.out _).mono ?_
  rintro e w4 ⟨rfl, h⟩
  replace hX := hX.on h
  clear h
  have l1 := (hX.at (b := w.heap.size) (n := N) (f := A) (by simp)).ld
  go_wp2_with fail
  clear l1
  refine (cAc.out _ (hX.tab hT)).mono ?_
  rintro e w5 ⟨rfl, h⟩
  replace hX := hX.on h
  clear h
  have l1 := (hX.at (b := w.heap.size) (n := N) (f := A) (by simp)).ld
  go_wp2_with fail
  clear l1
  refine (cTop.out _ (hX.tab hT)).mono ?_
  rintro e w6 ⟨v, rfl, hrow, h⟩
  have hsz := hX.1.size
  replace hX := hX.on h
  clear h
  replace hrow := ownsRow_base hrow (b' := w.heap.size) hsz
  clear hsz
  obtain ⟨av, cv, rfl⟩ := ownsRow_slice hrow
  go_wp2_with fail
  go_loopw [7, 49] (fun m i W => ∃ k : Nat, k ≤ T.length ∧ i = .int .i64 k ∧ m = .int .u64 (itemS (T.take k) : Int) ∧ Kept w W [(w.heap.size, (N : Int), A)] ∧ W.ownsRow w.heap.size 3 1 (.slice av T.length cv) T.length (T.map intV)) (fun _ i _ => T.length - (intOf i).toNat)
  case atStart => exact ⟨0, Nat.zero_le _, rfl, rfl, hX, hrow⟩
  case round =>
    clear hX hrow
    obtain ⟨k, hk, rfl, rfl, hX, hrow⟩ := hrel
    by_cases hlt : k < T.length
    · obtain ⟨g, c, hv, hgb, hglt⟩ := hrow.form (by omega)
      obtain ⟨rfl, _, rfl⟩ := Value.slice.inj hv
      clear hv
      have c1 : wr.cell? ⟨g, k, none⟩ = some (.int .i64 (T[k] : Int)) := by
        rw [hrow.cellAt k (by omega), List.getElem?_map, List.getElem?_eq_getElem hlt]; rfl
      have ht : T.take (k + 1) = T.take k ++ [T[k]] := List.take_succ_eq_append_getElem hlt
      have hbN := (hT2.out.mem T[k]).1 (List.getElem_mem hlt)
      have hnot : T[k] ∉ T.take k := fun h => by
        obtain ⟨j, hj1, hj2⟩ := List.mem_iff_getElem.1 h
        rw [List.length_take] at hj1
        rw [List.getElem_take] at hj2
        have := (List.getElem_inj hT2.out.nodup).1 hj2
        omega
      have hpred := hT2.out.pred k T[k] (List.getElem?_eq_getElem hlt)
      have hMlt : itemS (T.take k) < 2 ^ 48 := itemS_lt fun x hx => by have := (hT2.out.mem x).1 (List.mem_of_mem_take hx); omega
      have hbit : (itemS (T.take k)).testBit T[k] = false := by rw [Bool.eq_false_iff]; exact fun h => hnot ((itemS_bit _ _).1 h)
      have hpb : ∀ i, i < 48 → Bt A i T[k] → (itemS (T.take k)).testBit i = true := fun i hi hb => (itemS_bit _ _).2 (hpred i hi hb)
      have hM2 : itemS (T.take (k + 1)) = itemS (T.take k) ||| 2 ^ T[k] := by rw [ht, itemS_snoc]
      clear ht hnot hpred
      generalize T[k] = b at *
      generalize itemS (T.take k) = M at *
      have hM64 : M < 2 ^ 64 := by omega
      have hsb := bit_is1 M b hM64
      rw [hbit] at hsb
      have n1 := (hX.at (b := w.heap.size) (n := N) (f := A) (by simp)).num
      have l1 := (hX.at (b := w.heap.size) (n := N) (f := A) (by simp)).ld
      have z1 : (b : Int) < (N : Int) := by omega
      have z2 : (b : Int) < 64 := by omega
      obtain ⟨q, hq⟩ : ∃ q, q = 2 ^ b := ⟨_, rfl⟩
      have hs1 : IntKind.u64.wrap (2 ^ b) = (q : Int) := by rw [hq]; exact shl1_nat b (by omega)
      have hq64 : q < 2 ^ 64 := by rw [hq]; exact Nat.pow_lt_pow_right (by omega) (by omega)
      rw [← hq] at hM2
      have ho := u64_or_nat M q hM64 hq64
      clear hq
      replace hM2 := Lib.hid hM2
      replace hpb := Lib.hid hpb
      replace hbit := Lib.hid hbit
      have hXh := Lib.hid hX
      have hrowh := Lib.hid hrow
      clear hX hrow
      go_wp2_with fail
      clear n1 l1 c1
      refine (cPairs.out _ (hXh.out.tab hT)).mono ?_
      rintro e w7 ⟨pv, rfl, prow, h⟩
      have hX7 := hXh.out.on h
      have hr7 := ownsRow_below hrowh.out h
      replace prow := ownsRow_base prow (b' := w.heap.size) hXh.out.1.size
      clear h
      have hmem : ∀ x ∈ pairsK A N, Bt A x.1.1 x.2.1 := fun x hx => (mem_pairsK.1 hx).2
      have hLle := pairsK_le A N (by omega)
      generalize pairsK A N = L at *
      replace hmem := Lib.hid hmem
      obtain ⟨ap, cp, rfl⟩ := ownsRow_slice prow
      go_wp2_with fail
      go_loopw [71] (fun i W => ∃ j : Nat, j ≤ L.length ∧ i = .int .i64 j ∧ Kept w W [(w.heap.size, (N : Int), A)] ∧ W.ownsRow w.heap.size 3 1 (.slice (some ⟨g, 0, none⟩) T.length cv) T.length (T.map intV) ∧ W.ownsRow w.heap.size 53 2 (.slice ap L.length cp) L.length (pairCells L)) (fun i _ => L.length - (intOf i).toNat)
      case atStart => exact ⟨0, Nat.zero_le _, rfl, hX7, hr7, prow⟩
      case round =>
        clear hX7 hr7 prow
        obtain ⟨j, hj, rfl, hX, hrow, prow⟩ := hrel
        by_cases hjl : j < L.length
        · obtain ⟨g2, c2, hv, hgb2, hglt2⟩ := prow.form (by omega)
          obtain ⟨rfl, _, rfl⟩ := Value.slice.inj hv
          clear hv
          obtain ⟨d1, d2⟩ := pairCells_get L j hjl
          have hcell : ∀ m u, (pairCells L)[m]? = some u → wr.cell? ⟨g2, m, none⟩ = some u := by
            intro m u hu
            have := prow.cells (g := g2) rfl m u hu
            rwa [Go.WideShapes.add_plain, Nat.zero_add] at this
          replace d1 := hcell _ _ d1
          replace d2 := hcell _ _ d2
          have hbx := hmem.out _ (List.getElem_mem hjl)
          have y1 := L[j].1.2
          clear hcell
          generalize L[j].1.1 = x1 at *
          generalize L[j].2.1 = x2 at *
          have z3 : (x1 : Int) < 64 := by omega
          have hXn := Lib.hid (hX.on (below_new wr (.cells #[.int .i64 (x1 : Int), .int .i64 (x2 : Int)] 53)))
          have hrn := Lib.hid (hrow.alloc (.cells #[.int .i64 (x1 : Int), .int .i64 (x2 : Int)] 53))
          have hpn := Lib.hid (prow.alloc (.cells #[.int .i64 (x1 : Int), .int .i64 (x2 : Int)] 53))
          clear hX hrow prow
          by_cases he : x2 = b
          · subst he
            have e1 : ((x2 : Int) == (x2 : Int)) = true := by simp
            have e2 := bit_is0 M x1 hM64
            rw [hpb.out x1 y1 hbx] at e2
            replace hbx := Lib.hid hbx
            go_wp2_with fail
            go_roundw
            case rel => exact ⟨j + 1, by omega, by go_num, hXn.out, hrn.out, hpn.out⟩
            case measure => simp [intOf]; omega
          · have e1 : ((x2 : Int) == (b : Int)) = false := by rw [Bool.eq_false_iff]; intro h; rw [beq_iff_eq] at h; omega
            replace hbx := Lib.hid hbx
            go_wp2_with fail
            go_roundw
            case rel => exact ⟨j + 1, by omega, by go_num, hXn.out, hrn.out, hpn.out⟩
            case measure => simp [intOf]; omega
        · obtain rfl : j = L.length := by omega
          have hXh2 := Lib.hid hX
          have hrowh2 := Lib.hid hrow
          clear hX hrow prow
          go_wp2_with fail
          go_roundw
          case rel => exact ⟨k + 1, by omega, by go_num, by rw [hM2.out], hXh2.out, hrowh2.out⟩
          case measure => simp [intOf]; omega
    · obtain rfl : k = T.length := by omega
      have n1 := (hX.at (b := w.heap.size) (n := N) (f := A) (by simp)).num
      have e1 : ((T.length : Int) == (N : Int)) = true := by rw [hlen]; simp
      have hXh := Lib.hid hX
      clear hX hrow
      go_wp2_with fail
      refine (awake_any _ (hXh.out.tab hT)).mono ?_
      rintro e w8 ⟨rfl, h⟩
      have hX8 := hXh.out.on h
      go_wp2
      go_ret
      exact ⟨rfl, hX8.1⟩

set_option maxRecDepth 100000 in
set_option maxHeartbeats 8000000 in
theorem ring_lawB (na : Int) (fa : Nat → Nat) (N : Nat) (A : Nat → Nat) (hN20 : (N : Int) ≤ 20) (A64 : R64 A) (Ar : Rgt N A) (hT1 : topF N A = none) (l : List Nat) (a0 : Nat) (hR : ringF N A = some l) (hlN : l.length ≤ N) (hO : RingOK N A a0 l)
    (HA : Hid (∀ w : World, Calls Tryd.prog 54 #[.agg (relC na fa), .int .i64 20] w fun e w' => e = .returned (.agg (relC N A)) ∧ Below w.heap.size w w')) (w : World) (hT : Tab w) :
    Calls Tryd.prog 6 #[.agg (relC na fa)] w fun e w' => e = .returned (.bool true) ∧ Below w.heap.size w w' := by
  have hp := hT.pos
  have cRing := Lib.hid (fun W (hT : Tab W) => show Calls Tryd.prog 47 #[.agg (relC N A)] W fun e w' => ∃ v, e = .returned v ∧ w'.ownsRow W.heap.size 3 1 v l.length (l.map intV) ∧ Below W.heap.size W w' by
    have := ring_any N A W A64 hT
    rw [hR] at this
    refine this.mono ?_
    rintro e w' ⟨v, rfl, hr, hb, -⟩
    exact ⟨v, rfl, hr, hb⟩)
  have hI : irrK (plusF N A) N = false := by
    rw [Bool.eq_false_iff]
    exact fun h => (irr_plus Ar).1 h hO.cyc
  have cIrr := Lib.hid (fun W => show Calls Tryd.prog 50 #[.agg (relC N (plusF N A))] W fun e w' => e = .returned (.bool false) ∧ Below W.heap.size W w' by
    have := irr_ok (plus_64 (N := N) A64) (rgt_plus Ar) W; rwa [hI] at this)
  have cPlus := Lib.hid (fun W (hT : Tab W) => plus_ok A64 Ar W hT)
  have cAc := Lib.hid (fun W (hT : Tab W) => show Calls Tryd.prog 52 #[.agg (relC N A)] W fun e w' => e = .returned (.bool false) ∧ Below W.heap.size W w' by
    have := acyclic_any N A W A64 hT; rwa [hT1] at this)
  have cTop := Lib.hid (fun W (hT : Tab W) => show Calls Tryd.prog 44 #[.agg (relC N A)] W fun e w' => (∃ v, e = .returned (.tuple #[v, .bool false])) ∧ Below W.heap.size W w' by
    have := top_any N A W A64 hT
    rw [hT1] at this
    refine this.mono ?_
    rintro e w' ⟨v, rfl, _, hb⟩
    exact ⟨⟨v, rfl⟩, hb⟩)
  have cHas := Lib.hid (fun W (x y : Nat) (h : hasB N A (x : Int) (y : Int) = true) => show Calls Tryd.prog 29 #[.agg (relC N A), .int .i64 (x : Int), .int .i64 (y : Int)] W fun e w' => e = .returned (.bool true) ∧ Below W.heap.size W w' by
    have := relHas_any N A (x : Int) (y : Int) W A64; rwa [h] at this)
  have cPow := Lib.hid (fun W k (hk : k < l.length) => show Calls Tryd.prog 50 #[.agg (relC N (powF A k))] W fun e w' => e = .returned (.bool (decide (k + 1 < l.length))) ∧ Below W.heap.size W w' by
    have := irr_ok (pow_64 A64 k) (rgt_pow Ar k) W; rwa [hO.irr Ar k hk] at this)
  have cThen := Lib.hid (fun W k (hT : Tab W) => show Calls Tryd.prog 27 #[.agg (relC N (powF A k)), .agg (relC N A)] W fun e w' => e = .returned (.tuple #[.agg (relC N (powF A (k + 1))), .int .i64 0]) ∧ Below W.heap.size W w' from
    then_ok (pow_64 A64 k) A64 (rgt_pow Ar k) Ar W hT)
  have hpos := hO.ring.pos
  generalize plusF N A = P at *
  clear hR hT1 hI
  replace hO := Lib.hid hO
  have hA := RelAt.new w na fa
  have l1 := hA.ld
  have hBl := below_new w (.cells (relC na fa) 26)
  go_enter Tryd.func6, Tryd.ntmps6
  go_wp2_with fail
  refine (HA.out _).mono ?_
  rintro e w1 ⟨rfl, h⟩
  clear l1
  obtain ⟨W1, hs1, hf1, hO1⟩ := (hA.on h).put N A
  have hX : Kept w W1 [(w.heap.size, (N : Int), A)] := ⟨below_only (thru hBl h) hO1 (Nat.le_refl _), by simp only [List.mem_cons, List.not_mem_nil, or_false]; rintro p rfl; exact hf1⟩
  clear h hO1 hf1 hA hBl
  have l1 := (hX.at (b := w.heap.size) (n := N) (f := A) (by simp)).ld
  go_wp2_with fail
  clear hs1 l1
  refine (cRing.out _ (hX.tab hT)).mono ?_
  rintro e w2 ⟨v, rfl, hrow, h⟩
  have hsz := hX.1.size
  replace hX := hX.on h
  clear h
  replace hrow := ownsRow_base hrow (b' := w.heap.size) hsz
  clear hsz
  obtain ⟨g, cv, rfl, hgb, hglt⟩ := World.ownsRow.form hrow hpos
  have l1 := (hX.at (b := w.heap.size) (n := N) (f := A) (by simp)).ld
  go_wp2_with fail
  clear l1
  refine (cPlus.out _ (hX.tab hT)).mono ?_
  rintro e w3 ⟨rfl, h⟩
  replace hX := hX.on h
  replace hrow := ownsRow_below hrow h
  clear h
  go_wp2_with fail
  refine (cIrr.out _).mono ?_
  rintro e w4 ⟨rfl, h⟩
  replace hX := hX.on h
  replace hrow := ownsRow_below hrow h
  clear h
  have l1 := (hX.at (b := w.heap.size) (n := N) (f := A) (by simp)).ld
  go_wp2_with fail
  clear l1
  refine (cAc.out _ (hX.tab hT)).mono ?_
  rintro e w5 ⟨rfl, h⟩
  replace hX := hX.on h
  replace hrow := ownsRow_below hrow h
  clear h
  have l1 := (hX.at (b := w.heap.size) (n := N) (f := A) (by simp)).ld
  go_wp2_with fail
  clear l1
  refine (cTop.out _ (hX.tab hT)).mono ?_
  rintro e w6 ⟨⟨tv, rfl⟩, h⟩
  replace hX := hX.on h
  replace hrow := ownsRow_below hrow h
  clear h hgb hglt
  go_wp2_with fail
  go_loopw [12, 103] (fun m i W => ∃ k : Nat, k ≤ l.length ∧ i = .int .i64 k ∧ m = .int .u64 (itemS (l.take k) : Int) ∧ Kept w W [(w.heap.size, (N : Int), A)] ∧ W.ownsRow w.heap.size 3 1 (.slice (some ⟨g, 0, none⟩) l.length cv) l.length (l.map intV)) (fun _ i _ => l.length - (intOf i).toNat)
  case atStart => exact ⟨0, Nat.zero_le _, rfl, rfl, hX, hrow⟩
  case round =>
    clear hX hrow
    obtain ⟨k, hk, rfl, rfl, hX, hrow⟩ := hrel
    by_cases hlt : k < l.length
    · have hmod : (k + 1) % l.length < l.length := Nat.mod_lt _ hpos
      have hget : ∀ j, (hj : j < l.length) → wr.cell? ⟨g, j, none⟩ = some (.int .i64 (l[j] : Int)) := fun j hj => by
        rw [hrow.cellAt j (by omega), List.getElem?_map, List.getElem?_eq_getElem hj]; rfl
      have c1 := hget k hlt
      have c2 := hget _ hmod
      have c3 := hget 0 hpos
      have hiN := hO.out.ring.item l[k] (List.getElem_mem hlt)
      have hst := hO.out.step (List.getElem?_eq_getElem hlt) (List.getElem?_eq_getElem hmod)
      have hyN := hO.out.ring.item _ (List.getElem_mem hmod)
      have hhead : l[0] = a0 := by have := hO.out.ring.head; rw [List.getElem?_eq_getElem hpos] at this; exact Option.some.inj this
      rw [hhead] at c3
      have hge := hO.out.first Ar (List.getElem?_eq_getElem hlt)
      have hnot : l[k] ∉ l.take k := fun h => by
        obtain ⟨j, hj1, hj2⟩ := List.mem_iff_getElem.1 h
        rw [List.length_take] at hj1
        rw [List.getElem_take] at hj2
        exact hO.out.nodup Ar (i := j) (j := k) (x := l[k]) (by omega) (by rw [List.getElem?_eq_getElem (by omega), hj2]) (List.getElem?_eq_getElem hlt)
      have hMlt : itemS (l.take k) < 2 ^ 48 := itemS_lt fun x hx => by have := hO.out.ring.item x (List.mem_of_mem_take hx); omega
      have hbit : (itemS (l.take k)).testBit l[k] = false := by rw [Bool.eq_false_iff]; exact fun h => hnot ((itemS_bit _ _).1 h)
      have hM2 : itemS (l.take (k + 1)) = itemS (l.take k) ||| 2 ^ l[k] := by rw [List.take_succ_eq_append_getElem hlt, itemS_snoc]
      have hmodZ : ((k : Int) + 1) % (l.length : Int) = (((k + 1) % l.length : Nat) : Int) := by simp
      have hmodT : ((k : Int) + 1).tmod (l.length : Int) = (((k + 1) % l.length : Nat) : Int) := by rw [Int.tmod_eq_emod_of_nonneg (by omega), hmodZ]
      have hne0 : ¬ l.length = 0 := by omega
      have hne1 : ((l.length : Int) == 0) = false := by rw [Bool.eq_false_iff]; intro h; rw [beq_iff_eq] at h; omega
      have hix : ((k + 1) % l.length : Nat) < l.length := hmod
      clear hget hnot hhead
      generalize l[k] = b at *
      generalize l[(k + 1) % l.length] = y at *
      generalize (k + 1) % l.length = ix at *
      generalize itemS (l.take k) = M at *
      have hHas : hasB N A (b : Int) (y : Int) = true := by
        unfold hasB
        rw [show rightB (N : Int) A = true from Ar, itemB_iff.2 ⟨by omega, by omega⟩, itemB_iff.2 ⟨by omega, by omega⟩, Int.toNat_natCast, Int.toNat_natCast]
        simpa using hst
      have cH := Lib.hid (fun W => cHas.out W b y hHas)
      have hM64 : M < 2 ^ 64 := by omega
      have hsb := bit_is1 M b hM64
      rw [hbit] at hsb
      have z2 : (b : Int) < 64 := by omega
      have z3 : ¬ (b : Int) < (a0 : Int) := by omega
      have w1e : IntKind.i64.wrap ((k : Int) + 1) = (k : Int) + 1 := IntWalk.i64_in _ (by omega)
      obtain ⟨q, hq⟩ : ∃ q, q = 2 ^ b := ⟨_, rfl⟩
      have hs1 : IntKind.u64.wrap (2 ^ b) = (q : Int) := by rw [hq]; exact shl1_nat b (by omega)
      have hq64 : q < 2 ^ 64 := by rw [hq]; exact Nat.pow_lt_pow_right (by omega) (by omega)
      rw [← hq] at hM2
      have ho := u64_or_nat M q hM64 hq64
      clear hq hHas hst
      replace hM2 := Lib.hid hM2
      replace hbit := Lib.hid hbit
      have l1 := (hX.at (b := w.heap.size) (n := N) (f := A) (by simp)).ld
      have hKS : ∀ W, Below wr.heap.size wr W → (ldRel (.pointer (some ⟨w.heap.size, 0, none⟩))).run Tryd.prog W = .ok (.agg (relC N A)) W ∧ W.cell? ⟨g, ix, none⟩ = some (.int .i64 (y : Int)) ∧ W.cell? ⟨g, 0, none⟩ = some (.int .i64 (a0 : Int)) := fun W hW =>
        ⟨((hX.on hW).at (b := w.heap.size) (n := N) (f := A) (by simp)).ld, (hW.cell (World.block_lt_of_cell? wr _ c2)).trans c2, (hW.cell (World.block_lt_of_cell? wr _ c3)).trans c3⟩
      replace hKS := Lib.hid hKS
      have hXh := Lib.hid hX
      have hrowh := Lib.hid hrow
      clear hX hrow c2 c3 l1
      go_upto_region 29 with fail
      have hBd := Lib.hid ((Below.refl wr.heap.size wr).drew)
      go_region_held3 (fun W => (ldRel (.pointer (some ⟨w.heap.size, 0, none⟩))).run Tryd.prog W = .ok (.agg (relC N A)) W ∧ W.cell? ⟨g, ix, none⟩ = some (.int .i64 (y : Int)) ∧ W.cell? ⟨g, 0, none⟩ = some (.int .i64 (a0 : Int)))
        (exact hKS.out _ hBd.out)
        (first
          | (go_at_call 29
             refine (cH.out _).mono ?_
             rintro e wq ⟨rfl, hq⟩
             replace hBd := Lib.hid (thru hBd.out hq)
             clear hq))
      all_goals
        go_wp2_with fail
        go_roundw
        case rel => exact ⟨k + 1, by omega, by go_num, by rw [hM2.out], hXh.out.on hBd.out, ownsRow_below hrowh.out hBd.out⟩
        case measure => simp [intOf]; omega
    · obtain rfl : k = l.length := by omega
      rw [List.take_length]
      obtain ⟨W2, hs2, hu, h, -⟩ := Ex.lay wr N A
      have l1 := (hX.at (b := w.heap.size) (n := N) (f := A) (by simp)).ld
      have hXh := (hX.on h)
      have bne : wr.heap.size ≠ w.heap.size := by have := (hX.at (b := w.heap.size) (n := N) (f := A) (by simp)).lt; omega
      have ble := hX.1.size
      clear hX hrow h
      go_wp2_with fail
      clear hs2 l1
      generalize wr.heap.size = bw at *
      go_loopw [143] (fun i W => ∃ k : Nat, k + 1 ≤ l.length ∧ i = .int .i64 k ∧ RelAt W bw N (powF A k) ∧ Kept w W [(w.heap.size, (N : Int), A)]) (fun i _ => l.length - (intOf i).toNat)
      case atStart => exact ⟨0, hpos, rfl, hu, hXh⟩
      case round =>
        clear hXh hu
        obtain ⟨k, hk, rfl, hu, hX⟩ := hrel
        have c1 := Lib.hid (fun W => cPow.out W k (by omega))
        have w1e : IntKind.i64.wrap ((l.length : Int) - 1) = (l.length : Int) - 1 := IntWalk.i64_in _ (by omega)
        have l1 := hu.ld
        by_cases hkl : k + 1 < l.length
        · have z1 : (k : Int) < (l.length : Int) - 1 := by omega
          rw [decide_eq_true hkl] at c1
          have huh := Lib.hid hu
          have hXh := Lib.hid hX
          clear hu hX
          go_wp2_with fail
          clear l1
          refine (c1.out _).mono ?_
          rintro e w8 ⟨rfl, h⟩
          replace huh := huh.out.on h
          replace hXh := hXh.out.on h
          clear h
          have l1 := huh.ld
          have l2 := (hXh.at (b := w.heap.size) (n := N) (f := A) (by simp)).ld
          go_wp2_with fail
          clear l1 l2
          refine (cThen.out _ k (hXh.tab hT)).mono ?_
          rintro e w9 ⟨rfl, h⟩
          replace huh := huh.on h
          replace hXh := hXh.on h
          clear h
          obtain ⟨W9, hs9, hv, h, -⟩ := Ex.lay w9 N (powF A (k + 1))
          replace huh := huh.on h
          replace hXh := hXh.on h
          clear h
          have l3 := hv.ld
          obtain ⟨W10, hs10, hf, hO10⟩ := huh.put N (powF A (k + 1))
          have hX10 := hXh.only hO10 ble (by simp only [List.mem_cons, List.not_mem_nil, or_false]; rintro p rfl; exact Ne.symm bne)
          clear huh hXh hO10 hv
          go_wp2_with fail
          go_roundw
          case rel => exact ⟨k + 1, by omega, by go_num, hf, hX10⟩
          case measure => simp [intOf]; omega
        · have hke : k + 1 = l.length := by omega
          have z1 : ¬ (k : Int) < (l.length : Int) - 1 := by omega
          rw [decide_eq_false hkl] at c1
          have hXh := Lib.hid hX
          clear hu hX
          replace hke := Lib.hid hke
          go_wp2_with fail
          clear l1
          refine (c1.out _).mono ?_
          rintro e w8 ⟨rfl, h⟩
          replace hXh := hXh.out.on h
          clear h
          go_wp2_with fail
          refine (awake_any _ (hXh.tab hT)).mono ?_
          rintro e w9 ⟨rfl, h⟩
          replace hXh := hXh.on h
          go_wp2
          go_ret
          exact ⟨rfl, hXh.1⟩

theorem ring_law (na : Int) (fa : Nat → Nat) (ha : R64 fa) (w : World) (hT : Tab w) :
    Calls Tryd.prog 6 #[.agg (relC na fa)] w fun e w' => e = .returned (.bool true) ∧ Below w.heap.size w w' := by
  obtain ⟨N, -, hN20, A64, Ar, HA⟩ := fine_ok na (most := 20) fa ha (by decide) (by decide)
  rcases top_cyc Ar with ⟨T, h1, h2⟩ | ⟨h1, hc⟩
  · have hno := h2.acyclic Ar
    rcases ring_cyc Ar with ⟨a, l, g1, _, g2⟩ | ⟨g1, _⟩
    · exact absurd g2.cyc hno
    · exact ring_lawA na fa N _ hN20 A64 Ar T h1 h2 g1 hno (Lib.hid HA) w hT
  · rcases ring_cyc Ar with ⟨a, l, g1, gl, g2⟩ | ⟨_, g2⟩
    · exact ring_lawB na fa N _ hN20 A64 Ar h1 l a g1 gl g2 (Lib.hid HA) w hT
    · exact absurd hc g2
end Go.Proofs.YtnfkedcbhjbhkaaDoor
