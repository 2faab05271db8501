/- marks.elements: what its range function hands to a loop's body. -/
import Derived.RangeFuncBox
import Derived.RangeFuncNested
import Derived.RangeFuncBound
import Derived.RangeFuncCalls
import Derived.RangeFuncLeaves
import Derived.Shelf.Abstract
import Derived.Shelf.RegionOpen
import Derived.WalkKit
import Derived.OwnWalkIn
import Derived.TacticsInMore
import Derived.LoopNIn
import Derived.LoopIn
import Derived.Lib.Hide
import Derived.Outline
import Derived.Test.YtakhmjohncidoaaDoorMarksBits
namespace Go.Proofs.YtakhmjohncidoaaDoor
open Go.RowKit Go.Shelf

attribute [local go_sem] Oper.semAt_some

/-- A set's value. -/
def setOf (x : Int) : Value := .int .u64 x

set_option maxRecDepth 100000 in
set_option maxHeartbeats 1000000 in
theorem elements1_in (n : Nat) (hn : 1 ≤ n) (l Bn n₀ : Nat) (hn₀ : 0 < n₀) (x0 : Int) (h0 : 0 ≤ x0) (h1 : x0 < 18446744073709551616) (J Jx : List Nat → World → Prop)
    (hY : ∀ pre (x : Nat) W, J pre W → pre.length < (MM.els x0.toNat).length → YieldAt Fence.wide (n - 1) Tryd.prog l #[.int .i64 x] W fun e W' =>
      (e = .returned (.bool true) ∧ J (pre ++ [x]) W' ∧ Below n₀ W W') ∨ (e = .returned (.bool false) ∧ Jx (pre ++ [x]) W'))
    (W : World) (hT : Tab W) (hBn : W.cell? ⟨Bn, 0, none⟩ = some (.int .u64 x0)) (hJ0 : J [] W) :
    CallsIn Fence.wide n Tryd.prog 74 #[.func (.yield l) #[] #[], .pointer (some ⟨Bn, 0, none⟩)] W fun e W' => (∃ v, e = .returned v) ∧
      ((∃ ys, ys = MM.els x0.toNat ∧ J ys W') ∨ (∃ pre, pre <+: MM.els x0.toNat ∧ Jx pre W')) := by
  refine callsIn_of_wp Tryd.func74 rfl trivial ?_ rfl
  simp only [Tryd.ntmps74, List.size_toArray, List.length_cons, List.length_nil, Nat.reduceAdd, Nat.reduceSub, Array.replicate_succ, Array.replicate_zero, List.push_toArray, List.append_toArray, List.nil_append, List.cons_append]
  gi_wp2
  gi_loopw [3] (fun p wr => ∃ (pre : List Nat) (x : Int), p = .int .u64 x ∧ 0 ≤ x ∧ x < 18446744073709551616 ∧ MM.els x0.toNat = pre ++ MM.els x.toNat ∧ J pre wr ∧ Below n₀ W wr)
    (fun p _ => (MM.els (intOf p).toNat).length)
  case atStart =>
    exact ⟨[], x0, rfl, h0, h1, rfl, hJ0, Below.refl _ _⟩
  case round =>
    obtain ⟨pre, x, rfl, hx0, hx1, hx, hJs, hB⟩ := hrel
    by_cases hz : x = 0
    · subst hz
      gi_wp2
      go_end0
      exact ⟨⟨_, rfl⟩, .inl ⟨pre, by rw [hx]; simp [MM.els_zero], hJs⟩⟩
    · obtain ⟨k, hk, he, hi0, hi1, ht, hr0, hr1⟩ := MM.low x (by omega) hx1
      have hne : (x != 0) = true := by simp; exact hz
      have hpos : 0 < x := by omega
      have hT' : Tab wr := hT.below hB hn₀
      have hcell := hT' _ _ ht
      obtain ⟨fn, tmps, assign, body, hy, hR⟩ := hY pre k wr hJs (by rw [hx, he]; simp)
      have Hx := Lib.hid hx
      have He := Lib.hid he
      have Hc := Lib.hid hcell
      have Ht := Lib.hid ht
      clear hx he hcell ht hz
      gi_wp2_with fail
      refine ⟨trivial, ?_⟩
      refine (callsIn_wide.2 (tz_any x k _ hpos hx1 hi0 hi1 Hc.out hk)).mono ?_
      rintro e w' ⟨rfl, rfl⟩
      gi_wp2
      refine hR.mono ?_
      rintro e W3 (⟨rfl, hJ3, hk3⟩ | ⟨rfl, hJx3⟩)
      · gi_wp2
        go_roundw
        case rel => exact ⟨pre ++ [k], _, rfl, hr0, hr1, by rw [Hx.out, He.out]; simp, hJ3, hB.trans hk3⟩
        case measure => simp only [intOf]; rw [He.out]; simp
      · gi_wp2
        refine bodyPost_ret (results_none rfl _ _ _) rfl ?_
        exact ⟨⟨_, rfl⟩, .inr ⟨pre ++ [k], ⟨MM.els (bits BinOp.and IntKind.u64 x (x - 1)).toNat, by rw [Hx.out, He.out]; simp⟩, hJx3⟩⟩

set_option maxHeartbeats 400000 in
theorem elements_any (x : Int) (w : World) :
    Calls Tryd.prog 73 #[.int .u64 x] w fun e w' => e = .returned (.func (.func 74) #[] #[.pointer (some ⟨w.heap.size, 0, none⟩)]) ∧ w.alloc (.cells #[.int .u64 x] 23) = w' := by
  go_enter Tryd.func73, Tryd.ntmps73
  go_wp2
  go_ret
  exact ⟨rfl, rfl⟩

theorem elements_stops (n : Nat) (hn : 1 ≤ n) (Bn n₀ : Nat) (hn₀ : 0 < n₀) (x : Int) (h0 : 0 ≤ x) (h1 : x < 18446744073709551616) (w : World) (hT : Tab w) (hBn : Bn < w.heap.size)
    (hc : w.cell? ⟨Bn, 0, none⟩ = some (.int .u64 x)) :
    SeqStopsK Fence.wide n Tryd.prog 74 #[.pointer (some ⟨Bn, 0, none⟩)] (fun k : Nat => #[Value.int .i64 k]) (Below n₀) (fun ys => ys = MM.els x.toNat) (fun pre => pre <+: MM.els x.toNat) (MM.els x.toNat).length w :=
  fun l J Jx W hW _ _ hY hJ => elements1_in n hn l Bn n₀ hn₀ x h0 h1 J Jx hY W (hT.below hW hT.pos) ((hW.cell (p := ⟨Bn, 0, none⟩) hBn).trans hc) hJ
end Go.Proofs.YtakhmjohncidoaaDoor
