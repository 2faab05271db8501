/- marks.Next, marks.First. -/
import Derived.Test.YtakhmjohncidoaaDoorMarksIter
namespace Go.Proofs.YtakhmjohncidoaaDoor
open Go.RowKit Go.Shelf

attribute [local go_sem] Oper.semAt_some

/-- The answer 'a number, and whether there is one'. -/
def optV : Option Nat → Value
  | some k => .tuple #[.int .i64 k, .bool true]
  | none => .tuple #[.int .i64 0, .bool false]

/-- The smallest element greater than i. -/
def nextOf (l : List Nat) (i : Int) : Option Nat := l.find? fun k : Nat => decide (i < (k : Int))

theorem nextOf_stop {l pre : List Nat} {i : Int} {k : Nat} (h : pre ++ [k] <+: l) (hp : ∀ y ∈ pre, (y : Int) ≤ i) (hk : i < (k : Int)) : nextOf l i = some k := by
  obtain ⟨r, rfl⟩ := h
  unfold nextOf
  rw [List.append_assoc, List.find?_append]
  have : pre.find? (fun k : Nat => decide (i < (k : Int))) = none := by rw [List.find?_eq_none]; intro y hy; have := hp y hy; simpa using this
  rw [this]
  simp [hk]

theorem nextOf_none {l : List Nat} {i : Int} (hp : ∀ y ∈ l, (y : Int) ≤ i) : nextOf l i = none := by
  unfold nextOf; rw [List.find?_eq_none]; intro y hy; have := hp y hy; simpa using this

def lastV (pre : List Nat) : Value := .int .i64 ((pre.getLast?.getD 0 : Nat) : Int)
theorem lastV_snoc (pre : List Nat) (k : Nat) : lastV (pre ++ [k]) = .int .i64 (k : Int) := by simp [lastV]

set_option maxRecDepth 100000 in
set_option maxHeartbeats 1000000 in
theorem next_in (x i : Int) (h0 : 0 ≤ x) (h1 : x < 18446744073709551616) (w : World) (hT : Tab w) :
    CallsIn Fence.wide 5 Tryd.prog 72 #[.int .u64 x, .int .i64 i] w fun e w' => e = .returned (optV (nextOf (MM.els x.toNat) i)) ∧ Below w.heap.size w w' := by
  refine callsIn_of_wp_marks Tryd.func72 rfl trivial ?_ rfl
  simp only [Tryd.ntmps72, List.size_toArray, List.length_cons, List.length_nil, Nat.reduceAdd, Nat.reduceSub, Array.replicate_succ, Array.replicate_zero, List.push_toArray, List.append_toArray, List.nil_append, List.cons_append]
  gi_wp2_with fail
  refine ⟨trivial, ?_⟩
  refine (callsIn_wide.2 (elements_any x _)).mono ?_
  rintro e w' ⟨rfl, rfl⟩
  gi_wp2_with fail
  have b0 := Boxed.new w 3 (.int .i64 i)
  have b1 := Boxed.new (w.alloc (.cells #[.int .i64 i] 3)) 3 (.int .i64 0)
  have b2 := Boxed.new ((w.alloc (.cells #[.int .i64 i] 3)).alloc (.cells #[.int .i64 0] 3)) 4 (.bool false)
  have b3 := Boxed.new (((w.alloc (.cells #[.int .i64 i] 3)).alloc (.cells #[.int .i64 0] 3)).alloc (.cells #[.bool false] 4)) 23 (.int .u64 x)
  simp only [World.size_alloc] at b1 b2 b3
  have hB : Below w.heap.size w ((((w.alloc (.cells #[.int .i64 i] 3)).alloc (.cells #[.int .i64 0] 3)).alloc (.cells #[.bool false] 4)).alloc (.cells #[.int .u64 x] 23)) :=
    ((((Below.refl _ w).alloc (Nat.le_refl _) _).alloc (by simp) _).alloc (by simp; omega) _).alloc (by simp; omega) _
  refine wpIn_rangeFunc_ownF rfl (by omega) (gf := 74) (lb := #[.pointer (some ⟨w.heap.size + 1 + 1 + 1, 0, none⟩)]) rfl trivial (enters_of Tryd.func74 (by kernel_rfl) rfl)
    (elements_stops _ (by omega) (w.heap.size + 1 + 1 + 1) w.heap.size hT.pos x h0 h1 _ (hT.below hB hT.pos) (by simp) b3.cell) belowK_t (belowK_b (by simp; omega)) (Below.refl _ _) (fun _ => rfl)
    (fun pre W => (∀ y ∈ pre, (y : Int) ≤ i) ∧ Boxed W w.heap.size 3 (.int .i64 i) ∧ Boxed W (w.heap.size + 1) 3 (.int .i64 0) ∧ Boxed W (w.heap.size + 1 + 1) 4 (.bool false) ∧ Below w.heap.size w W)
    (fun c pre W => (c = .ret ∧ ∃ (pre' : List Nat) (k : Nat), pre = pre' ++ [k] ∧ (∀ y ∈ pre', (y : Int) ≤ i) ∧ i < (k : Int)) ∧ Boxed W (w.heap.size + 1) 3 (lastV pre) ∧ Boxed W (w.heap.size + 1 + 1) 4 (.bool true) ∧ Below w.heap.size w W)
    (OwnFrom.and (ownFrom_pure _ _) (OwnFrom.and ((boxed_own _ _ (fun _ => _)).from _) (OwnFrom.and ((boxed_own _ _ (fun _ => _)).from _) (OwnFrom.and ((boxed_own _ _ (fun _ => _)).from _) (ownFrom_below (Nat.le_refl _) (by simp; omega))))))
    (fun c => OwnFrom.and (ownFrom_pure _ _) (OwnFrom.and ((boxed_own _ _ lastV).from _) (OwnFrom.and ((boxed_own _ _ (fun _ => _)).from _) (ownFrom_below (Nat.le_refl _) (by simp; omega)))))
    ⟨by simp, ((b0.alloc _).alloc _).alloc _, (b1.alloc _).alloc _, b2.alloc _, hB⟩
    (fun k => { tmps := #[.int .u64 x, .int .i64 i, undef, .pointer (some ⟨w.heap.size, 0, none⟩), .pointer (some ⟨w.heap.size + 1, 0, none⟩), .pointer (some ⟨w.heap.size + 1 + 1, 0, none⟩), .int .i64 (k : Int), .int .u64 x, .func (.func 74) #[] #[.pointer (some ⟨w.heap.size + 1 + 1 + 1, 0, none⟩)], .int .i64 (k : Int), undef, undef, undef, undef], defers := [] }) ?assign ?body ?done ?stop
  case assign =>
    intro l x W K hK
    gi_wp2
    exact hK
  case body =>
    rintro l pre k W ⟨hp, c0, c1, c2, hBW⟩ _
    have d0 := c0.cell
    have f1 := c1.frozen
    have f2 := c2.frozen
    have d1 := c1.cell
    have d2 := c2.cell
    gi_wp2
    · have hk : i < (k : Int) := by assumption
      refine ⟨(KeepsOthers.setCell _ _ _).trans (KeepsOthers.setCell _ _ _), ⟨rfl, pre, k, rfl, hp, hk⟩, ?_, ?_, (hBW.setCell (p := ⟨w.heap.size + 1, 0, none⟩) (by simp) _).setCell (p := ⟨w.heap.size + 1 + 1, 0, none⟩) (by simp; omega) _⟩
      · rw [lastV_snoc]; exact (c1.set _).other (by omega) _
      · exact (c2.other (by omega) _).set _
    · have hk : (k : Int) ≤ i := by assumption
      refine ⟨KeepsOthers.refl _, Below.refl _ _, ?_, c0, c1, c2, hBW⟩
      intro y hy
      rcases List.mem_append.1 hy with h | h
      · exact hp y h
      · simp at h; omega
  case done =>
    rintro D ys W hD rfl ⟨hp, c0, c1, c2, hBW⟩ hK
    have f1 := c1.frozen
    have f2 := c2.frozen
    have d1 := c1.cell
    have d2 := c2.cell
    gi_wp2
    have hKK := ((KeepsOthers.setCell W ⟨w.heap.size + 1, 0, none⟩ (.int .i64 0)).trans (KeepsOthers.setCell _ ⟨w.heap.size + 1 + 1, 0, none⟩ (.bool false))).same D _ hK rfl
    have c1' := (c1.set (.int .i64 0)).other (B' := w.heap.size + 1 + 1) (by omega) (.bool false)
    have c2' := (c2.other (B' := w.heap.size + 1) (by omega) (.int .i64 0)).set (.bool false)
    have k1 := cell_kept c1'.cell (grownBy_putObj' _ D (.deferred none)) (fun r e => by cases e; exact ⟨_, hKK, rfl⟩)
    have k2 := cell_kept c2'.cell (grownBy_putObj' _ D (.deferred none)) (fun r e => by cases e; exact ⟨_, hKK, rfl⟩)
    refine ⟨by simp, .inl ⟨_, _, rfl, run_takeDeferred hKK, ?_⟩⟩
    refine ⟨.tuple #[.int .i64 0, .bool false], ?_, by rw [nextOf_none hp]; rfl, ((hBW.setCell (p := ⟨w.heap.size + 1, 0, none⟩) (by simp) _).setCell (p := ⟨w.heap.size + 1 + 1, 0, none⟩) (by simp; omega) _).trans (belowK_b (w := w) (Nat.le_refl _) _ D _ _ (by simp at hD; omega) hKK rfl rfl)⟩
    simp [results, Tryd.f72, go_sem, k1, k2]
  case stop =>
    rintro D c pre W hD hpre ⟨⟨rfl, pre', k, rfl, hp, hk⟩, c1, c2, hBW⟩ hK
    gi_wp2
    rw [lastV_snoc] at c1
    have k1 := cell_kept c1.cell (grownBy_putObj' _ D (.deferred none)) (fun r e => by cases e; exact ⟨_, hK, rfl⟩)
    have k2 := cell_kept c2.cell (grownBy_putObj' _ D (.deferred none)) (fun r e => by cases e; exact ⟨_, hK, rfl⟩)
    refine ⟨by simp, .inl ⟨_, _, rfl, run_takeDeferred hK, ?_⟩⟩
    refine ⟨.tuple #[.int .i64 k, .bool true], ?_, by rw [nextOf_stop hpre hp hk]; rfl, hBW.trans (belowK_b (w := w) (Nat.le_refl _) _ D _ _ (by simp at hD; omega) hK rfl rfl)⟩
    simp [results, Tryd.f72, go_sem, k1, k2]

theorem next_any (x i : Int) (h0 : 0 ≤ x) (h1 : x < 18446744073709551616) (w : World) (hT : Tab w) :
    Calls Tryd.prog 72 #[.int .u64 x, .int .i64 i] w fun e w' => e = .returned (optV (nextOf (MM.els x.toNat) i)) ∧ Below w.heap.size w w' :=
  callsIn_wide.1 (next_in x i h0 h1 w hT)

theorem tup_of (o : Option Nat) : ∃ (k : Int) (b : Bool), optV o = .tuple #[.int .i64 k, .bool b] := by
  cases o <;> exact ⟨_, _, rfl⟩

set_option maxHeartbeats 400000 in
theorem first_any (x : Int) (h0 : 0 ≤ x) (h1 : x < 18446744073709551616) (w : World) (hT : Tab w) :
    Calls Tryd.prog 71 #[.int .u64 x] w fun e w' => e = .returned (optV (nextOf (MM.els x.toNat) (-1))) ∧ Below w.heap.size w w' := by
  obtain ⟨k, b, hkb⟩ := tup_of (nextOf (MM.els x.toNat) (-1))
  have H := next_any x (-1) h0 h1 w hT
  rw [hkb] at H ⊢
  clear hkb
  have HH := Lib.hid H
  clear H
  go_enter Tryd.func71, Tryd.ntmps71
  go_wp2_with fail
  refine HH.out.mono ?_
  rintro e w' ⟨rfl, hb⟩
  go_wp2
  go_ret2
  exact ⟨rfl, hb⟩
end Go.Proofs.YtakhmjohncidoaaDoor
