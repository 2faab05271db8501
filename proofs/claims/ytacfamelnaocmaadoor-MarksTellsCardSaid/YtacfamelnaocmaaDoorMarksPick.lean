/- marks.Pick. -/
import Derived.Test.YtacfamelnaocmaaDoorMarksNext
namespace Go.Proofs.YtacfamelnaocmaaDoor
open Go.RowKit Go.Shelf

attribute [local go_sem] Oper.semAt_some

/-- The element with exactly k smaller ones. -/
def pickOf (l : List Nat) (k : Int) : Option Nat := if 0 ≤ k then l[k.toNat]? else none

theorem pickOf_stop {l pre : List Nat} {k : Int} {e : Nat} (h : pre ++ [e] <+: l) (hk : (pre.length : Int) = k) : pickOf l k = some e := by
  obtain ⟨r, rfl⟩ := h
  unfold pickOf
  rw [if_pos (by omega), ← hk, Int.toNat_natCast, List.append_assoc, List.getElem?_append_right (Nat.le_refl _)]
  simp

theorem pickOf_none {l : List Nat} {k : Int} (hk : k < 0 ∨ (l.length : Int) ≤ k) : pickOf l k = none := by
  unfold pickOf
  split
  · rw [List.getElem?_eq_none]; omega
  · rfl

def lenV (pre : List Nat) : Value := .int .i64 (pre.length : Int)
theorem lenV_snoc (pre : List Nat) (k : Nat) : lenV (pre ++ [k]) = .int .i64 ((pre.length : Int) + 1) := by simp [lenV]

set_option maxRecDepth 100000 in
set_option maxHeartbeats 1000000 in
theorem pick_in (x k : Int) (h0 : 0 ≤ x) (h1 : x < 18446744073709551616) (w : World) (hT : Tab w) :
    CallsIn Fence.wide 5 Tryd.prog 24 #[.int .u64 x, .int .i64 k] w fun e w' => e = .returned (optV (pickOf (MM.els x.toNat) k)) ∧ Below w.heap.size w w' := by
  refine callsIn_of_wp_marks Tryd.func24 rfl trivial ?_ rfl
  simp only [Tryd.ntmps24, List.size_toArray, List.length_cons, List.length_nil, Nat.reduceAdd, Nat.reduceSub, Array.replicate_succ, Array.replicate_zero, List.push_toArray, List.append_toArray, List.nil_append, List.cons_append]
  gi_wp2_with fail
  refine ⟨trivial, ?_⟩
  refine (callsIn_wide.2 (elements_any x _)).mono ?_
  rintro e w' ⟨rfl, rfl⟩
  gi_wp2_with fail
  have b0 := Boxed.new w 3 (.int .i64 k)
  have b1 := Boxed.new (w.alloc (.cells #[.int .i64 k] 3)) 3 (.int .i64 0)
  have b2 := Boxed.new ((w.alloc (.cells #[.int .i64 k] 3)).alloc (.cells #[.int .i64 0] 3)) 4 (.bool false)
  have b3 := Boxed.new (((w.alloc (.cells #[.int .i64 k] 3)).alloc (.cells #[.int .i64 0] 3)).alloc (.cells #[.bool false] 4)) 3 (.int .i64 0)
  have b4 := Boxed.new ((((w.alloc (.cells #[.int .i64 k] 3)).alloc (.cells #[.int .i64 0] 3)).alloc (.cells #[.bool false] 4)).alloc (.cells #[.int .i64 0] 3)) 23 (.int .u64 x)
  simp only [World.size_alloc] at b1 b2 b3 b4
  have hB : Below w.heap.size w (((((w.alloc (.cells #[.int .i64 k] 3)).alloc (.cells #[.int .i64 0] 3)).alloc (.cells #[.bool false] 4)).alloc (.cells #[.int .i64 0] 3)).alloc (.cells #[.int .u64 x] 23)) :=
    (((((Below.refl _ w).alloc (Nat.le_refl _) _).alloc (by simp) _).alloc (by simp; omega) _).alloc (by simp; omega) _).alloc (by simp; omega) _
  refine wpIn_rangeFunc_ownF rfl (by omega) (gf := 41) (lb := #[.pointer (some ⟨w.heap.size + 1 + 1 + 1 + 1, 0, none⟩)]) rfl trivial (enters_of Tryd.func41 (by kernel_rfl) rfl)
    (elements_stops _ (by omega) (w.heap.size + 1 + 1 + 1 + 1) w.heap.size hT.pos x h0 h1 _ (hT.below hB hT.pos) (by simp) b4.cell) belowK_t (belowK_b (by simp; omega)) (Below.refl _ _) (fun _ => rfl)
    (fun pre W => (k < 0 ∨ (pre.length : Int) ≤ k) ∧ Boxed W w.heap.size 3 (.int .i64 k) ∧ Boxed W (w.heap.size + 1) 3 (.int .i64 0) ∧ Boxed W (w.heap.size + 1 + 1) 4 (.bool false) ∧ Boxed W (w.heap.size + 1 + 1 + 1) 3 (lenV pre) ∧ Below w.heap.size w W)
    (fun c pre W => (c = .ret ∧ ∃ (pre' : List Nat) (y : Nat), pre = pre' ++ [y] ∧ (pre'.length : Int) = k) ∧ Boxed W (w.heap.size + 1) 3 (lastV pre) ∧ Boxed W (w.heap.size + 1 + 1) 4 (.bool true) ∧ Below w.heap.size w W)
    (OwnFrom.and (ownFrom_pure _ _) (OwnFrom.and ((boxed_own _ _ (fun _ => _)).from _) (OwnFrom.and ((boxed_own _ _ (fun _ => _)).from _) (OwnFrom.and ((boxed_own _ _ (fun _ => _)).from _) (OwnFrom.and ((boxed_own _ _ lenV).from _) (ownFrom_below (Nat.le_refl _) (by simp; omega)))))))
    (fun c => OwnFrom.and (ownFrom_pure _ _) (OwnFrom.and ((boxed_own _ _ lastV).from _) (OwnFrom.and ((boxed_own _ _ (fun _ => _)).from _) (ownFrom_below (Nat.le_refl _) (by simp; omega)))))
    ⟨by simp; omega, (((b0.alloc _).alloc _).alloc _).alloc _, ((b1.alloc _).alloc _).alloc _, (b2.alloc _).alloc _, b3.alloc _, hB⟩
    (fun y => { tmps := #[.int .u64 x, .int .i64 k, undef, .pointer (some ⟨w.heap.size, 0, none⟩), .pointer (some ⟨w.heap.size + 1, 0, none⟩), .pointer (some ⟨w.heap.size + 1 + 1, 0, none⟩), .pointer (some ⟨w.heap.size + 1 + 1 + 1, 0, none⟩), .int .i64 (y : Int), .int .u64 x, .func (.func 41) #[] #[.pointer (some ⟨w.heap.size + 1 + 1 + 1 + 1, 0, none⟩)], .int .i64 (y : Int), undef, undef, undef, undef, undef, undef], defers := [] }) ?assign ?body ?done ?stop
  case assign =>
    intro l x W K hK
    gi_wp2
    exact hK
  case body =>
    rintro l pre y W ⟨hp, c0, c1, c2, c3, hBW⟩ hlen
    have hl64 := MM.els_length x.toNat
    have d0 := c0.cell
    have f1 := c1.frozen
    have f2 := c2.frozen
    have f3 := c3.frozen
    have d1 := c1.cell
    have d2 := c2.cell
    have d3 := c3.cell
    unfold lenV at d3
    gi_wp2
    · have hk : (pre.length : Int) = k := by first | assumption | (apply eq_of_beq; assumption)
      refine ⟨(KeepsOthers.setCell _ _ _).trans (KeepsOthers.setCell _ _ _), ⟨rfl, pre, y, rfl, hk⟩, ?_, ?_, (hBW.setCell (p := ⟨w.heap.size + 1, 0, none⟩) (by simp) _).setCell (p := ⟨w.heap.size + 1 + 1, 0, none⟩) (by simp; omega) _⟩
      · rw [lastV_snoc]; exact (c1.set _).other (by omega) _
      · exact (c2.other (by omega) _).set _
    · have hk : (pre.length : Int) ≠ k := by first | assumption | (intro e; simp_all)
      refine ⟨KeepsOthers.setCell _ _ _, (Below.refl _ _).setCell (p := ⟨w.heap.size + 1 + 1 + 1, 0, none⟩) (by simp; omega) _, ?_, c0.other (by omega) _, c1.other (by omega) _, c2.other (by omega) _, ?_, hBW.setCell (p := ⟨w.heap.size + 1 + 1 + 1, 0, none⟩) (by simp; omega) _⟩
      · simp only [List.length_append, List.length_cons, List.length_nil]; omega
      · rw [lenV_snoc]; exact c3.set _
  case done =>
    rintro D ys W hD rfl ⟨hp, c0, c1, c2, c3, hBW⟩ hK
    have f1 := c1.frozen
    have f2 := c2.frozen
    have d1 := c1.cell
    have d2 := c2.cell
    gi_wp2
    have hKK := ((KeepsOthers.setCell W ⟨w.heap.size + 1, 0, none⟩ (.int .i64 0)).trans (KeepsOthers.setCell _ ⟨w.heap.size + 1 + 1, 0, none⟩ (.bool false))).same D _ hK rfl
    have c1' := (c1.set (.int .i64 0)).other (B' := w.heap.size + 1 + 1) (by omega) (.bool false)
    have c2' := (c2.other (B' := w.heap.size + 1) (by omega) (.int .i64 0)).set (.bool false)
    have k1 := cell_kept c1'.cell (grownBy_putObj' _ D (.deferred none)) (fun r e => by cases e; exact ⟨_, hKK, rfl⟩)
    have k2 := cell_kept c2'.cell (grownBy_putObj' _ D (.deferred none)) (fun r e => by cases e; exact ⟨_, hKK, rfl⟩)
    refine ⟨by simp, .inl ⟨_, _, rfl, run_takeDeferred hKK, ?_⟩⟩
    refine ⟨.tuple #[.int .i64 0, .bool false], ?_, by rw [pickOf_none hp]; rfl, ((hBW.setCell (p := ⟨w.heap.size + 1, 0, none⟩) (by simp) _).setCell (p := ⟨w.heap.size + 1 + 1, 0, none⟩) (by simp; omega) _).trans (belowK_b (w := w) (Nat.le_refl _) _ D _ _ (by simp at hD; omega) hKK rfl rfl)⟩
    simp [results, Tryd.f24, go_sem, k1, k2]
  case stop =>
    rintro D c pre W hD hpre ⟨⟨rfl, pre', y, rfl, hk⟩, c1, c2, hBW⟩ hK
    have Hk := Lib.hid hk
    clear hk
    gi_wp2
    rw [lastV_snoc] at c1
    have k1 := cell_kept c1.cell (grownBy_putObj' _ D (.deferred none)) (fun r e => by cases e; exact ⟨_, hK, rfl⟩)
    have k2 := cell_kept c2.cell (grownBy_putObj' _ D (.deferred none)) (fun r e => by cases e; exact ⟨_, hK, rfl⟩)
    refine ⟨by simp, .inl ⟨_, _, rfl, run_takeDeferred hK, ?_⟩⟩
    refine ⟨.tuple #[.int .i64 y, .bool true], ?_, by rw [pickOf_stop hpre Hk.out]; rfl, hBW.trans (belowK_b (w := w) (Nat.le_refl _) _ D _ _ (by simp at hD; omega) hK rfl rfl)⟩
    simp [results, Tryd.f24, go_sem, k1, k2]

theorem pick_any (x k : Int) (h0 : 0 ≤ x) (h1 : x < 18446744073709551616) (w : World) (hT : Tab w) :
    Calls Tryd.prog 24 #[.int .u64 x, .int .i64 k] w fun e w' => e = .returned (optV (pickOf (MM.els x.toNat) k)) ∧ Below w.heap.size w w' :=
  callsIn_wide.1 (pick_in x k h0 h1 w hT)
end Go.Proofs.YtacfamelnaocmaaDoor
