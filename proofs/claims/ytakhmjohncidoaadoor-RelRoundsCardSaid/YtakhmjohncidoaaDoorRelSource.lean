/- rel.source. -/
import Derived.Test.YtakhmjohncidoaaDoorRelStar
namespace Go.Proofs.YtakhmjohncidoaaDoor
open Go.RowKit Go.Shelf

attribute [local go_sem] Oper.semAt_some

/-- The first of a list's items with no predecessor in the set s, g being the inverse relation's rows. -/
def srcOf (g : Nat → Nat) (s : Nat) (l : List Nat) : Option Nat := l.find? fun a => decide (g a &&& s = 0)
theorem srcOf_stop {g : Nat → Nat} {s : Nat} {l pre : List Nat} {k : Nat} (h : pre ++ [k] <+: l) (hp : ∀ y ∈ pre, g y &&& s ≠ 0) (hk : g k &&& s = 0) : srcOf g s l = some k := by
  obtain ⟨r, rfl⟩ := h
  unfold srcOf
  rw [List.append_assoc, List.find?_append]
  have : pre.find? (fun a => decide (g a &&& s = 0)) = none := by rw [List.find?_eq_none]; intro y hy; have := hp y hy; simpa using this
  rw [this]
  simp [hk]
theorem srcOf_none {g : Nat → Nat} {s : Nat} {l : List Nat} (hp : ∀ y ∈ l, g y &&& s ≠ 0) : srcOf g s l = none := by
  unfold srcOf; rw [List.find?_eq_none]; intro y hy; have := hp y hy; simpa using this

def lastI (pre : List It) : Value := lastV (vals pre)
theorem lastI_snoc (pre : List It) (y : It) : lastI (pre ++ [y]) = .int .i64 (y.1 : Int) := by unfold lastI; rw [vals_snoc, lastV_snoc]

set_option maxRecDepth 100000 in
set_option maxHeartbeats 2000000 in
theorem source_in (b : Nat) (n : Int) (g : Nat → Nat) (hg : R64 g) (s : Nat) (hs : s < 2 ^ 48) (w : World) (hR : RelAt w b n g) (hT : Tab w) :
    CallsIn Fence.wide 6 Tryd.prog 64 #[.pointer (some ⟨b, 0, none⟩), .int .u64 (s : Int)] w fun e w' => e = .returned (optV (srcOf g s (MM.els s))) ∧ Below w.heap.size w w' := by
  refine callsIn_of_wp_marks Tryd.func64 rfl trivial ?_ rfl
  simp only [Tryd.ntmps64, List.size_toArray, List.length_cons, List.length_nil, Nat.reduceAdd, Nat.reduceSub, Array.replicate_succ, Array.replicate_zero, List.push_toArray, List.append_toArray, List.nil_append, List.cons_append]
  have hlt := hR.lt
  gi_wp2_with fail
  refine ⟨trivial, ?_⟩
  refine (callsIn_wide.2 (relElements_any (s : Int) _)).mono ?_
  rintro e w' ⟨rfl, rfl⟩
  gi_wp2_with fail
  have b0 := Boxed.new w 62 (.pointer (some ⟨b, 0, none⟩))
  have b1 := Boxed.new (w.alloc (.cells #[.pointer (some ⟨b, 0, none⟩)] 62)) 23 (.int .u64 (s : Int))
  have b2 := Boxed.new ((w.alloc (.cells #[.pointer (some ⟨b, 0, none⟩)] 62)).alloc (.cells #[.int .u64 (s : Int)] 23)) 3 (.int .i64 0)
  have b3 := Boxed.new (((w.alloc (.cells #[.pointer (some ⟨b, 0, none⟩)] 62)).alloc (.cells #[.int .u64 (s : Int)] 23)).alloc (.cells #[.int .i64 0] 3)) 4 (.bool false)
  have b4 := Boxed.new ((((w.alloc (.cells #[.pointer (some ⟨b, 0, none⟩)] 62)).alloc (.cells #[.int .u64 (s : Int)] 23)).alloc (.cells #[.int .i64 0] 3)).alloc (.cells #[.bool false] 4)) 23 (.int .u64 (s : Int))
  simp only [World.size_alloc] at b1 b2 b3 b4
  have hB : Below w.heap.size w (((((w.alloc (.cells #[.pointer (some ⟨b, 0, none⟩)] 62)).alloc (.cells #[.int .u64 (s : Int)] 23)).alloc (.cells #[.int .i64 0] 3)).alloc (.cells #[.bool false] 4)).alloc (.cells #[.int .u64 (s : Int)] 23)) :=
    (((((Below.refl _ w).alloc (Nat.le_refl _) _).alloc (by simp) _).alloc (by simp; omega) _).alloc (by simp; omega) _).alloc (by simp; omega) _
  have hst := relElements_stops 5 (by omega) (w.heap.size + 1 + 1 + 1 + 1) w.heap.size hT.pos (s : Int) (by omega) (by omega) _ (hT.below hB hT.pos) (by simp; omega) (by simp) b4.cell (fun k => k < 48) (fun k hk => els_48 hs (by rwa [Int.toNat_natCast] at hk))
  rw [Int.toNat_natCast] at hst
  refine wpIn_rangeFunc_ownF rfl (by omega) (gf := 70) (lb := #[.pointer (some ⟨w.heap.size + 1 + 1 + 1 + 1, 0, none⟩)]) rfl trivial (enters_of Tryd.func70 (by kernel_rfl) rfl)
    hst belowK_t (belowK_b (by simp; omega)) (Below.refl _ _) (fun _ => rfl)
    (fun pre W => (∀ y ∈ vals pre, g y &&& s ≠ 0) ∧ Boxed W w.heap.size 62 (.pointer (some ⟨b, 0, none⟩)) ∧ Boxed W (w.heap.size + 1) 23 (.int .u64 (s : Int)) ∧ Boxed W (w.heap.size + 1 + 1) 3 (.int .i64 0) ∧ Boxed W (w.heap.size + 1 + 1 + 1) 4 (.bool false) ∧ Below w.heap.size w W)
    (fun c pre W => (c = .ret ∧ ∃ (pre' : List It) (k : It), pre = pre' ++ [k] ∧ (∀ y ∈ vals pre', g y &&& s ≠ 0) ∧ g k.1 &&& s = 0) ∧ Boxed W (w.heap.size + 1 + 1) 3 (lastI pre) ∧ Boxed W (w.heap.size + 1 + 1 + 1) 4 (.bool true) ∧ Below w.heap.size w W)
    (OwnFrom.and (ownFrom_pure _ _) (OwnFrom.and ((boxed_own _ _ (fun _ => _)).from _) (OwnFrom.and ((boxed_own _ _ (fun _ => _)).from _) (OwnFrom.and ((boxed_own _ _ (fun _ => _)).from _) (OwnFrom.and ((boxed_own _ _ (fun _ => _)).from _) (ownFrom_below (Nat.le_refl _) (by simp; omega)))))))
    (fun c => OwnFrom.and (ownFrom_pure _ _) (OwnFrom.and ((boxed_own _ _ lastI).from _) (OwnFrom.and ((boxed_own _ _ (fun _ => _)).from _) (ownFrom_below (Nat.le_refl _) (by simp; omega)))))
    ⟨by simp [vals], (((b0.alloc _).alloc _).alloc _).alloc _, ((b1.alloc _).alloc _).alloc _, (b2.alloc _).alloc _, b3.alloc _, hB⟩
    (fun k : It => { tmps := #[.pointer (some ⟨b, 0, none⟩), .int .u64 (s : Int), .pointer (some ⟨w.heap.size, 0, none⟩), .pointer (some ⟨w.heap.size + 1, 0, none⟩), .pointer (some ⟨w.heap.size + 1 + 1, 0, none⟩), .pointer (some ⟨w.heap.size + 1 + 1 + 1, 0, none⟩), .int .i64 (k.1 : Int), .int .u64 (s : Int), .func (.func 70) #[] #[.pointer (some ⟨w.heap.size + 1 + 1 + 1 + 1, 0, none⟩)], .int .i64 (k.1 : Int), undef, undef, undef, undef, undef, undef, undef, undef, undef, undef], defers := [] }) ?assign ?body ?done ?stop
  case assign =>
    intro l x W K hK
    gi_wp2
    exact hK
  case body =>
    rintro l pre ⟨k, hk⟩ W ⟨hp, c0, c1, c2, c3, hBW⟩ _
    have d0 := c0.cell
    have d1 := c1.cell
    have f2 := c2.frozen
    have f3 := c3.frozen
    have d2 := c2.cell
    have d3 := c3.cell
    have hrow := (hR.below hBW hlt).row k hk
    have k1 : (k : Int) < 48 := by omega
    have hm : Tryd.prog.follows .mixedOrders = true := by kernel_rfl
    have hs64 : s < 18446744073709551616 := by omega
    have hand := u64_and_nat (g k) s (hg k) hs64
    clear hs64
    have Hp := Lib.hid hp
    clear hp
    by_cases hz : g k &&& s = 0
    · have t0 : (bits BinOp.and IntKind.u64 (g k : Int) (s : Int) == 0) = true := by rw [hand, hz]; rfl
      have Hz := Lib.hid hz
      clear hz hand
      gi_wp2
      refine wpIn_round_tail 8 hm (by kernel_rfl) (by kernel_rfl) ?_
      simp only [List.take_succ_cons, List.take_zero, List.drop_succ_cons, List.drop_zero]
      repeat still_step
      refine wpStill_nil ?_
      gi_wp2
      refine ⟨((KeepsOthers.drew _).trans (KeepsOthers.setCell _ _ _)).trans (KeepsOthers.setCell _ _ _), ⟨rfl, pre, ⟨k, hk⟩, rfl, Hp.out, Hz.out⟩, ?_, ?_, (hBW.drew.setCell (p := ⟨w.heap.size + 1 + 1, 0, none⟩) (by simp; omega) _).setCell (p := ⟨w.heap.size + 1 + 1 + 1, 0, none⟩) (by simp; omega) _⟩
      · rw [lastI_snoc]; exact (c2.set _).other (by omega) _
      · exact (c3.other (by omega) _).set _
    · have t0 : (bits BinOp.and IntKind.u64 (g k : Int) (s : Int) == 0) = false := by rw [hand]; simp; omega
      have Hz := Lib.hid hz
      clear hz hand
      gi_wp2
      refine wpIn_round_tail 8 hm (by kernel_rfl) (by kernel_rfl) ?_
      simp only [List.take_succ_cons, List.take_zero, List.drop_succ_cons, List.drop_zero]
      repeat still_step
      refine wpStill_nil ?_
      gi_wp2
      refine ⟨KeepsOthers.drew _, (Below.refl _ _).drew, ?_, c0, c1, c2, c3, hBW.drew⟩
      intro y hy
      rw [vals_snoc] at hy
      rcases List.mem_append.1 hy with h | h
      · exact Hp.out y h
      · obtain rfl : y = k := by simpa using h
        exact Hz.out
  case done =>
    rintro D ys W hD hys ⟨hp, c0, c1, c2, c3, hBW⟩ hK
    have f2 := c2.frozen
    have f3 := c3.frozen
    have d2 := c2.cell
    have d3 := c3.cell
    have Hys := Lib.hid hys
    have Hp := Lib.hid hp
    clear hys hp
    gi_wp2
    have hKK := ((KeepsOthers.setCell W ⟨w.heap.size + 1 + 1, 0, none⟩ (.int .i64 0)).trans (KeepsOthers.setCell _ ⟨w.heap.size + 1 + 1 + 1, 0, none⟩ (.bool false))).same D _ hK rfl
    have c1' := (c2.set (.int .i64 0)).other (B' := w.heap.size + 1 + 1 + 1) (by omega) (.bool false)
    have c2' := (c3.other (B' := w.heap.size + 1 + 1) (by omega) (.int .i64 0)).set (.bool false)
    have k1 := cell_kept c1'.cell (grownBy_putObj' _ D (.deferred none)) (fun r e => by cases e; exact ⟨_, hKK, rfl⟩)
    have k2 := cell_kept c2'.cell (grownBy_putObj' _ D (.deferred none)) (fun r e => by cases e; exact ⟨_, hKK, rfl⟩)
    refine ⟨by simp, .inl ⟨_, _, rfl, run_takeDeferred hKK, ?_⟩⟩
    refine ⟨.tuple #[.int .i64 0, .bool false], ?_, by rw [srcOf_none (by rw [← Hys.out]; exact Hp.out)]; rfl, ((hBW.setCell (p := ⟨w.heap.size + 1 + 1, 0, none⟩) (by simp; omega) _).setCell (p := ⟨w.heap.size + 1 + 1 + 1, 0, none⟩) (by simp; omega) _).trans (belowK_b (w := w) (Nat.le_refl _) _ D _ _ (by simp at hD; omega) hKK rfl rfl)⟩
    simp [results, Tryd.f64, go_sem, k1, k2]
  case stop =>
    rintro D c pre W hD hpre ⟨⟨rfl, pre', ⟨k, hk⟩, rfl, hp, hz⟩, c1, c2, hBW⟩ hK
    have Hz := Lib.hid hz
    have Hp := Lib.hid hp
    have Hpre := Lib.hid hpre
    clear hz hp hpre
    gi_wp2
    rw [lastI_snoc] at c1
    have k1 := cell_kept c1.cell (grownBy_putObj' _ D (.deferred none)) (fun r e => by cases e; exact ⟨_, hK, rfl⟩)
    have k2 := cell_kept c2.cell (grownBy_putObj' _ D (.deferred none)) (fun r e => by cases e; exact ⟨_, hK, rfl⟩)
    refine ⟨by simp, .inl ⟨_, _, rfl, run_takeDeferred hK, ?_⟩⟩
    refine ⟨.tuple #[.int .i64 k, .bool true], ?_, by rw [srcOf_stop (by have := Hpre.out; rwa [List.map_append] at this) Hp.out Hz.out]; rfl, hBW.trans (belowK_b (w := w) (Nat.le_refl _) _ D _ _ (by simp at hD; omega) hK rfl rfl)⟩
    simp [results, Tryd.f64, go_sem, k1, k2]

theorem source_any (b : Nat) (n : Int) (g : Nat → Nat) (hg : R64 g) (s : Nat) (hs : s < 2 ^ 48) (w : World) (hR : RelAt w b n g) (hT : Tab w) :
    Calls Tryd.prog 64 #[.pointer (some ⟨b, 0, none⟩), .int .u64 (s : Int)] w fun e w' => e = .returned (optV (srcOf g s (MM.els s))) ∧ Below w.heap.size w w' :=
  callsIn_wide.1 (source_in b n g hg s hs w hR hT)
end Go.Proofs.YtakhmjohncidoaaDoor
