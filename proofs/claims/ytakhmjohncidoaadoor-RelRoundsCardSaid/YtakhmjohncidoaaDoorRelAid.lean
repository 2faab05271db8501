/- The laws' own comparisons of two lists, and their small helpers. -/
import Derived.BigQuiet
import Derived.Deep.QuietTactic
import Derived.Test.YtakhmjohncidoaaDoorRelRing3
namespace Go.Proofs.YtakhmjohncidoaaDoor
open Go.RowKit Go.Shelf

attribute [local go_sem] Oper.semAt_some

/-- The value v holds the numbers zs, in a block below n₀. -/
def SlI (n₀ : Nat) (W : World) (v : Value) (zs : List Nat) : Prop :=
  zs.length ≤ maxLen ∧ ∃ a cap, v = .slice a zs.length cap ∧ (0 < zs.length → ∃ b, a = some ⟨b, 0, none⟩ ∧ b < n₀ ∧ ∀ j, j < zs.length → W.cell? ⟨b, j, none⟩ = some (.int .i64 (zs[j]?.getD 0 : Int)))
theorem SlI.below {n₀ : Nat} {W W' : World} {v : Value} {ps : List Nat} (h : SlI n₀ W v ps) (hb : Below n₀ W W') : SlI n₀ W' v ps := by
  obtain ⟨hl, a, cap, rfl, h⟩ := h
  refine ⟨hl, a, cap, rfl, fun h0 => ?_⟩
  obtain ⟨b, rfl, hbn, hc⟩ := h h0
  exact ⟨b, rfl, hbn, fun j hj => (hb.cell (p := ⟨b, j, none⟩) hbn).trans (hc j hj)⟩
theorem SlI.mono {n₀ n₁ : Nat} {W : World} {v : Value} {ps : List Nat} (h : SlI n₀ W v ps) (hn : n₀ ≤ n₁) : SlI n₁ W v ps := by
  obtain ⟨hl, a, cap, rfl, h⟩ := h
  refine ⟨hl, a, cap, rfl, fun h0 => ?_⟩
  obtain ⟨b, rfl, hbn, hc⟩ := h h0
  exact ⟨b, rfl, by omega, hc⟩
theorem slI_of_row {W : World} {base : Nat} {v : Value} {zs : List Nat} (h : W.ownsRow base 3 1 v zs.length (zs.map intV)) (hm : zs.length ≤ maxLen) : SlI W.heap.size W v zs := by
  refine ⟨hm, ?_⟩
  have hh := h
  rcases h.2 with ⟨rfl, h0⟩ | ⟨g, cap, cur, rfl, hg, hheap, _⟩
  · exact ⟨none, 0, by rw [h0], fun hp => by omega⟩
  · refine ⟨_, cap, rfl, fun _ => ⟨g, rfl, (Array.getElem?_eq_some_iff.1 hheap).1, fun j hj => ?_⟩⟩
    have := hh.cellAt j (by omega)
    rw [this, List.getElem?_map]
    simp [hj, intV]

def itP (x : It × It) : Int × Int := ((x.1.1 : Int), (x.2.1 : Int))
theorem pairCells_at : ∀ (l : List (It × It)) (j : Nat), j < l.length → (pairCells l)[j * 2]? = some (.int .i64 ((l.map itP)[j]?.getD (0, 0)).1) ∧ (pairCells l)[j * 2 + 1]? = some (.int .i64 ((l.map itP)[j]?.getD (0, 0)).2)
  | [], j, h => by simp at h
  | x :: l, 0, _ => by simp [pairCells, itP]
  | x :: l, j + 1, h => by
    have := pairCells_at l j (by simpa using h)
    simp only [List.map_cons, List.getElem?_cons_succ]
    rw [show (j + 1) * 2 = j * 2 + 1 + 1 by omega]
    simpa [pairCells] using this
theorem pairSl_of_row {W : World} {base : Nat} {v : Value} {l : List (It × It)} (h : W.ownsRow base 52 2 v l.length (pairCells l)) (hm : l.length ≤ maxLen) : PairSl W.heap.size W v (l.map itP) := by
  have hm' : (l.map itP).length = l.length := by simp
  refine ⟨by rw [hm']; exact hm, ?_⟩
  rw [hm']
  have hh := h
  rcases h.2 with ⟨rfl, h0⟩ | ⟨g, cap, cur, rfl, hg, hheap, _⟩
  · exact ⟨none, 0, by rw [h0], fun hp => by omega⟩
  · refine ⟨_, cap, rfl, fun _ => ⟨g, 0, rfl, (Array.getElem?_eq_some_iff.1 hheap).1, fun j hj => ?_⟩⟩
    obtain ⟨e1, e2⟩ := pairCells_at l j hj
    have c1 := hh.cellAt (j * 2) (by omega)
    have c2 := hh.cellAt (j * 2 + 1) (by omega)
    rw [e1] at c1
    rw [e2] at c2
    simp only [Nat.zero_add]
    exact ⟨c1, c2⟩

set_option maxHeartbeats 1000000 in
set_option maxRecDepth 100000 in
theorem ints_same (va vb : Value) (zs : List Nat) (n₀ : Nat) (w : World) (ha : SlI n₀ w va zs) (hb : SlI n₀ w vb zs) :
    Calls Tryd.prog 36 #[va, vb] w fun e w' => e = .returned (.bool true) ∧ ∀ B, Below B w w' := by
  obtain ⟨hm, a, ca, rfl, ha⟩ := ha
  obtain ⟨-, b, cb, rfl, hb⟩ := hb
  unfold maxLen at hm
  have t0 : ((zs.length : Int) != (zs.length : Int)) = false := by simp
  go_enter Tryd.func36, Tryd.ntmps36
  go_wp2
  go_loopw [5, 13] (fun _ i wr => ∃ k : Nat, k ≤ zs.length ∧ i = .int .i64 k ∧ ∀ B, Below B w wr) (fun _ i _ => zs.length - (intOf i).toNat)
  case atStart => exact ⟨0, Nat.zero_le _, rfl, fun B => Below.refl B w⟩
  case round =>
    obtain ⟨k, hk, rfl, hB⟩ := hrel
    by_cases hlt : k < zs.length
    · obtain ⟨b1, rfl, hb1, hc1⟩ := ha (by omega)
      obtain ⟨b2, rfl, hb2, hc2⟩ := hb (by omega)
      have d1 := ((hB n₀).cell (p := ⟨b1, k, none⟩) hb1).trans (hc1 k hlt)
      have d2 := ((hB n₀).cell (p := ⟨b2, k, none⟩) hb2).trans (hc2 k hlt)
      generalize (zs[k]?.getD 0 : Int) = z at d1 d2
      have HB := Lib.hid hB
      clear ha hb hc1 hc2 hB
      go_wp2
      go_quiet (fail)
      go_wp2
      go_roundw
      case rel => exact ⟨k + 1, by omega, by go_num, fun B => below_drewN (HB.out B) nq⟩
      case measure => simp [intOf]; omega
    · obtain rfl : k = zs.length := by omega
      have HB := Lib.hid hB
      clear hB
      go_wp2
      go_ret
      exact ⟨rfl, HB.out⟩

theorem intCells : Tryd.prog.cellsOf 3 = 1 := by kernel_rfl
theorem eqPair (z y : Int) (W : World) : (Op.equalIn 10000 52 (.agg #[.int .i64 z, .int .i64 y]) (.agg #[.int .i64 z, .int .i64 y])).run Tryd.prog W = .ok true W := by
  obtain ⟨ti, hti⟩ := info_of_underlying Tryd.underlying3
  have hE := run_equalIn_array (P := Tryd.prog) W 9999 (t := 52) (e := 3) (n := 2) #[.int .i64 z, .int .i64 y] #[.int .i64 z, .int .i64 y] Tryd.underlying52 hti
  have h0 : (part 3 #[.int .i64 z, .int .i64 y] 0).run Tryd.prog W = .ok (.int .i64 z) W := by simp [part]
  have h1 : (part 3 #[.int .i64 z, .int .i64 y] 1).run Tryd.prog W = .ok (.int .i64 y) W := by simp [part]
  rw [show List.range 2 = [0, 1] by rfl, intCells] at hE
  rw [show (10000 : Nat) = 9999 + 1 by rfl, hE]
  simp [Op.eqItems, h0, h1, run_equalIn_int W 9998 3 .i64 .i64 _ _ Tryd.underlying3]

set_option maxHeartbeats 1000000 in
set_option maxRecDepth 100000 in
theorem pairs_same (va vb : Value) (ps : List (Int × Int)) (n₀ : Nat) (w : World) (ha : PairSl n₀ w va ps) (hb : PairSl n₀ w vb ps) :
    Calls Tryd.prog 21 #[va, vb] w fun e w' => e = .returned (.bool true) ∧ ∀ B, Below B w w' := by
  obtain ⟨hm, a, ca, rfl, ha⟩ := ha
  obtain ⟨-, b, cb, rfl, hb⟩ := hb
  unfold maxLen at hm
  have t0 : ((ps.length : Int) != (ps.length : Int)) = false := by simp
  go_enter Tryd.func21, Tryd.ntmps21
  go_wp2
  go_loopw [5, 13] (fun _ i wr => ∃ k : Nat, k ≤ ps.length ∧ i = .int .i64 k ∧ ∀ B, Below B w wr) (fun _ i _ => ps.length - (intOf i).toNat)
  case atStart => exact ⟨0, Nat.zero_le _, rfl, fun B => Below.refl B w⟩
  case round =>
    obtain ⟨k, hk, rfl, hB⟩ := hrel
    by_cases hlt : k < ps.length
    · obtain ⟨b1, o1, rfl, hb1, hc1⟩ := ha (by omega)
      obtain ⟨b2, o2, rfl, hb2, hc2⟩ := hb (by omega)
      have d1 := ((hB n₀).cell (p := ⟨b1, o1 + k * 2, none⟩) hb1).trans (hc1 k hlt).1
      have d2 := ((hB n₀).cell (p := ⟨b1, o1 + k * 2 + 1, none⟩) hb1).trans (hc1 k hlt).2
      have d3 := ((hB n₀).cell (p := ⟨b2, o2 + k * 2, none⟩) hb2).trans (hc2 k hlt).1
      have d4 := ((hB n₀).cell (p := ⟨b2, o2 + k * 2 + 1, none⟩) hb2).trans (hc2 k hlt).2
      generalize (ps[k]?.getD (0, 0)).1 = z at d1 d3
      generalize (ps[k]?.getD (0, 0)).2 = y at d2 d4
      have HB := Lib.hid hB
      clear ha hb hc1 hc2 hB
      have hq := eqPair z y wr.drew
      go_wp2
      refine wp_region_tail 8 (by kernel_rfl) (by kernel_rfl) ?_
      simp only [List.take_succ_cons, List.take_zero, List.drop_succ_cons, List.drop_zero]
      repeat still_step
      refine wpStill_nil ?_
      go_wp2
      go_roundw
      case rel => exact ⟨k + 1, by omega, by go_num, fun B => (HB.out B).drew⟩
      case measure => simp [intOf]; omega
    · obtain rfl : k = ps.length := by omega
      have HB := Lib.hid hB
      clear hB
      go_wp2
      go_ret
      exact ⟨rfl, HB.out⟩
end Go.Proofs.YtakhmjohncidoaaDoor
