/- rel.image. -/
import Derived.BigRegionIn
import Derived.Test.YtakhmjohncidoaaDoorRelElems
namespace Go.Proofs.YtakhmjohncidoaaDoor
open Go.RowKit Go.Shelf

attribute [local go_sem] Oper.semAt_some

/-- The union of the rows of a list of items. -/
def imgL (f : Nat → Nat) (l : List Nat) : Nat := l.foldl (fun s i => s ||| f i) 0
theorem imgL_snoc (f : Nat → Nat) (l : List Nat) (k : Nat) : imgL f (l ++ [k]) = imgL f l ||| f k := by simp [imgL, List.foldl_append]
theorem imgL_lt (f : Nat → Nat) (hf : R64 f) (l : List Nat) : imgL f l < 2 ^ 64 := by
  suffices h : ∀ (l : List Nat) (s : Nat), s < 2 ^ 64 → l.foldl (fun s i => s ||| f i) s < 2 ^ 64 from h l 0 (Nat.two_pow_pos 64)
  intro l
  induction l with
  | nil => exact fun s h => h
  | cons i l ih => exact fun s h => ih _ (Nat.or_lt_two_pow h (hf i))
/-- The image of a set. -/
def imgF (f : Nat → Nat) (s : Nat) : Nat := imgL f (MM.els s)
/-- An item. -/
abbrev It := {k : Nat // k < 48}
/-- The items as numbers. -/
def vals (l : List It) : List Nat := l.map Subtype.val
theorem vals_snoc (l : List It) (y : It) : vals (l ++ [y]) = vals l ++ [y.1] := by simp [vals]
def imgV (f : Nat → Nat) (l : List It) : Value := .int .u64 (imgL f (vals l) : Int)
theorem imgV_snoc (f : Nat → Nat) (hf : R64 f) (l : List It) (y : It) : imgV f (l ++ [y]) = .int .u64 (bits BinOp.or IntKind.u64 (imgL f (vals l) : Int) (f y.1 : Int)) := by
  unfold imgV
  rw [vals_snoc, imgL_snoc, u64_or_nat _ _ (imgL_lt f hf _) (hf _)]

set_option maxRecDepth 100000 in
set_option maxHeartbeats 2000000 in
theorem image_in (b : Nat) (n : Int) (f : Nat → Nat) (hf : R64 f) (s : Int) (h0 : 0 ≤ s) (h1 : s < 18446744073709551616) (h48 : ∀ i ∈ MM.els s.toNat, i < 48) (w : World) (hR : RelAt w b n f) (hT : Tab w) :
    CallsIn Fence.wide 6 Tryd.prog 59 #[.pointer (some ⟨b, 0, none⟩), .int .u64 s] w fun e w' => e = .returned (.int .u64 (imgF f s.toNat : Int)) ∧ Below w.heap.size w w' := by
  refine callsIn_of_wp_marks Tryd.func59 rfl trivial ?_ rfl
  simp only [Tryd.ntmps59, List.size_toArray, List.length_cons, List.length_nil, Nat.reduceAdd, Nat.reduceSub, Array.replicate_succ, Array.replicate_zero, List.push_toArray, List.append_toArray, List.nil_append, List.cons_append]
  have H48 := Lib.hid h48
  clear h48
  have hlt := hR.lt
  gi_wp2_with fail
  refine ⟨trivial, ?_⟩
  refine (callsIn_wide.2 (relElements_any s _)).mono ?_
  rintro e w' ⟨rfl, rfl⟩
  gi_wp2_with fail
  have b0 := Boxed.new w 62 (.pointer (some ⟨b, 0, none⟩))
  have b1 := Boxed.new (w.alloc (.cells #[.pointer (some ⟨b, 0, none⟩)] 62)) 23 (.int .u64 0)
  have b2 := Boxed.new ((w.alloc (.cells #[.pointer (some ⟨b, 0, none⟩)] 62)).alloc (.cells #[.int .u64 0] 23)) 23 (.int .u64 s)
  simp only [World.size_alloc] at b1 b2
  have hB : Below w.heap.size w (((w.alloc (.cells #[.pointer (some ⟨b, 0, none⟩)] 62)).alloc (.cells #[.int .u64 0] 23)).alloc (.cells #[.int .u64 s] 23)) :=
    (((Below.refl _ w).alloc (Nat.le_refl _) _).alloc (by simp) _).alloc (by simp; omega) _
  refine wpIn_rangeFunc_ownF rfl (by omega) (gf := 70) (lb := #[.pointer (some ⟨w.heap.size + 1 + 1, 0, none⟩)]) rfl trivial (enters_of Tryd.func70 (by kernel_rfl) rfl)
    (relElements_stops _ (by omega) (w.heap.size + 1 + 1) w.heap.size hT.pos s h0 h1 _ (hT.below hB hT.pos) (by simp; omega) (by simp) b2.cell (fun k => k < 48) H48.out) belowK_t (belowK_b (by simp; omega)) (Below.refl _ _) (fun _ => rfl)
    (fun pre W => Boxed W w.heap.size 62 (.pointer (some ⟨b, 0, none⟩)) ∧ Boxed W (w.heap.size + 1) 23 (imgV f pre) ∧ Below w.heap.size w W)
    (fun _ _ _ => False)
    (OwnFrom.and ((boxed_own _ _ (fun _ => _)).from _) (OwnFrom.and ((boxed_own _ _ (imgV f)).from _) (ownFrom_below (Nat.le_refl _) (by simp; omega))))
    (fun _ _ _ _ _ hs _ _ => hs)
    ⟨(b0.alloc _).alloc _, b1.alloc _, hB⟩
    (fun y : It => { tmps := #[.pointer (some ⟨b, 0, none⟩), .int .u64 s, .pointer (some ⟨w.heap.size, 0, none⟩), undef, .int .u64 0, .pointer (some ⟨w.heap.size + 1, 0, none⟩), .int .i64 (y.1 : Int), .int .u64 s, .func (.func 70) #[] #[.pointer (some ⟨w.heap.size + 1 + 1, 0, none⟩)], .int .i64 (y.1 : Int), undef, undef, undef, undef, undef, undef, undef, undef, undef], defers := [] }) ?assign ?body ?done ?stop
  case assign =>
    intro l x W K hK
    gi_wp2
    exact hK
  case body =>
    rintro l pre ⟨y, hy⟩ W ⟨c0, c1, hBW⟩ hlen
    have d0 := c0.cell
    have d1 := c1.cell
    have f1 := c1.frozen
    have d2 := (hR.below hBW hlt).row y hy
    have y1 : (y : Int) < 48 := by omega
    have hm : Tryd.prog.follows .mixedOrders = true := by kernel_rfl
    unfold imgV at d1
    gi_wp2
    gi_region_o
    all_goals
      gi_wp2
      refine ⟨(KeepsOthers.setCell _ _ _).trans (KeepsOthers.drew _), ((Below.refl _ _).setCell (p := ⟨w.heap.size + 1, 0, none⟩) (by simp) _).drew, c0.other (by omega) _, ?_, (hBW.setCell (p := ⟨w.heap.size + 1, 0, none⟩) (by simp) _).drew⟩
      rw [imgV_snoc f hf]
      exact c1.set _
  case done =>
    rintro D ys W hD hys ⟨c0, c1, hBW⟩ hK
    have d1 := c1.cell
    gi_wp2
    refine ⟨by simp, .inl ⟨_, _, rfl, run_takeDeferred hK, ?_⟩⟩
    refine ⟨_, results_tmp rfl _ _ _, ?_, hBW.trans (belowK_b (w := w) (Nat.le_refl _) _ D _ _ (by simp at hD; omega) hK rfl rfl)⟩
    unfold imgF
    rw [← hys]
    rfl
  case stop =>
    rintro D c pre W _ _ h _
    exact h.elim

theorem image_any (b : Nat) (n : Int) (f : Nat → Nat) (hf : R64 f) (s : Nat) (hs : s < 2 ^ 48) (w : World) (hR : RelAt w b n f) (hT : Tab w) :
    Calls Tryd.prog 59 #[.pointer (some ⟨b, 0, none⟩), .int .u64 (s : Int)] w fun e w' => e = .returned (.int .u64 (imgF f s : Int)) ∧ Below w.heap.size w w' := by
  have := callsIn_wide.1 (image_in b n f hf (s : Int) (by omega) (by omega) (fun i hi => by
    rw [MM.mem_els] at hi
    apply Decidable.byContradiction
    intro h
    rw [Int.toNat_natCast, Nat.testBit_lt_two_pow (Nat.lt_of_lt_of_le hs (Nat.pow_le_pow_right (by omega) (by omega)))] at hi
    cases hi.2) w hR hT)
  rwa [Int.toNat_natCast] at this
end Go.Proofs.YtakhmjohncidoaaDoor
