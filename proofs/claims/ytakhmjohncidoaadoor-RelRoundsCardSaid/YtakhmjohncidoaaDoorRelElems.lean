/- rel.elements: what its range function hands to a loop's body. -/
import Derived.Test.YtakhmjohncidoaaDoorRelOps
namespace Go.Proofs.YtakhmjohncidoaaDoor
open Go.RowKit Go.Shelf

attribute [local go_sem] Oper.semAt_some

theorem grownBy_of_below {W W' : World} (h : Below W.heap.size W W') : W.grownBy W' none :=
  ⟨h.os, h.tape, h.output, h.size, fun k hk _ => h.block k hk⟩

theorem nextOf_head (k : Nat) (l : List Nat) : nextOf (k :: l) (-1) = some k := by
  have : decide ((-1 : Int) < (k : Int)) = true := by simp; omega
  simp [nextOf, this]

theorem first_low (x : Int) (k : Nat) (l : List Nat) (h0 : 0 ≤ x) (h1 : x < 18446744073709551616) (he : MM.els x.toNat = k :: l) (w : World) (hT : Tab w) :
    Calls Tryd.prog 71 #[.int .u64 x] w fun e w' => e = .returned (.tuple #[.int .i64 (k : Int), .bool true]) ∧ Below w.heap.size w w' := by
  have := first_any x h0 h1 w hT
  rw [he, nextOf_head] at this
  exact this

set_option maxRecDepth 100000 in
set_option maxHeartbeats 1000000 in
theorem relElements1_in (n : Nat) (hn : 1 ≤ n) (l Bn n₀ : Nat) (hn₀ : 0 < n₀) (x0 : Int) (h0 : 0 ≤ x0) (h1 : x0 < 18446744073709551616) (p : Nat → Prop) (hp : ∀ k ∈ MM.els x0.toNat, p k) (J Jx : List {k : Nat // p k} → World → Prop)
    (hJ : ∀ s W W', J s W → W.grownBy W' none → J s W')
    (hY : ∀ pre (x : {k : Nat // p k}) W, J pre W → pre.length < (MM.els x0.toNat).length → YieldAt Fence.wide (n - 1) Tryd.prog l #[.int .i64 (x.1 : Int)] W fun e W' =>
      (e = .returned (.bool true) ∧ J (pre ++ [x]) W' ∧ Below n₀ W W') ∨ (e = .returned (.bool false) ∧ Jx (pre ++ [x]) W'))
    (W : World) (hsz : n₀ ≤ W.heap.size) (hT : Tab W) (hBn : W.cell? ⟨Bn, 0, none⟩ = some (.int .u64 x0)) (hJ0 : J [] W) :
    CallsIn Fence.wide n Tryd.prog 70 #[.func (.yield l) #[] #[], .pointer (some ⟨Bn, 0, none⟩)] W fun e W' => (∃ v, e = .returned v) ∧
      ((∃ ys, ys.map Subtype.val = MM.els x0.toNat ∧ J ys W') ∨ (∃ pre, pre.map Subtype.val <+: MM.els x0.toNat ∧ Jx pre W')) := by
  refine callsIn_of_wp Tryd.func70 rfl trivial ?_ rfl
  simp only [Tryd.ntmps70, List.size_toArray, List.length_cons, List.length_nil, Nat.reduceAdd, Nat.reduceSub, Array.replicate_succ, Array.replicate_zero, List.push_toArray, List.append_toArray, List.nil_append, List.cons_append]
  gi_wp2
  gi_loopw [3] (fun v wr => ∃ (pre : List {k : Nat // p k}) (x : Int), v = .int .u64 x ∧ 0 ≤ x ∧ x < 18446744073709551616 ∧ MM.els x0.toNat = pre.map Subtype.val ++ MM.els x.toNat ∧ J pre wr ∧ Below n₀ W wr)
    (fun v _ => (MM.els (intOf v).toNat).length)
  case atStart =>
    exact ⟨[], x0, rfl, h0, h1, rfl, hJ0, Below.refl _ _⟩
  case round =>
    obtain ⟨pre, x, rfl, hx0, hx1, hx, hJs, hB⟩ := hrel
    by_cases hz : x = 0
    · subst hz
      gi_wp2
      go_end0
      exact ⟨⟨_, rfl⟩, .inl ⟨pre, by rw [hx]; simp [MM.els_zero], hJs⟩⟩
    · obtain ⟨k, hk, he, hi0, hi1, ht, hr0, hr1⟩ := MM.low x (by omega) hx1
      have hne : (x != 0) = true := by simp; exact hz
      have hpos : 0 < x := by omega
      have hT' : Tab wr := hT.below hB hn₀
      have CF := Lib.hid (first_low x k _ hx0 hx1 he wr hT')
      have hpk : p k := hp k (by rw [hx, he]; simp)
      have Hx := Lib.hid hx
      have He := Lib.hid he
      clear hx he ht hz hi0 hi1
      gi_wp2_with fail
      refine ⟨trivial, ?_⟩
      refine (callsIn_wide.2 CF.out).mono ?_
      rintro e w' ⟨rfl, hb⟩
      have hsz2 := Nat.le_trans hsz hB.size
      obtain ⟨fn, tmps, assign, body, hy, hR⟩ := hY pre ⟨k, hpk⟩ w' (hJ _ _ _ hJs (grownBy_of_below hb)) (by rw [Hx.out, He.out]; simp)
      replace hB := hB.trans (hb.mono hsz2)
      clear hb
      gi_wp2
      refine hR.mono ?_
      rintro e W3 (⟨rfl, hJ3, hk3⟩ | ⟨rfl, hJx3⟩)
      · gi_wp2
        go_roundw
        case rel => exact ⟨pre ++ [⟨k, hpk⟩], _, rfl, hr0, hr1, by rw [Hx.out, He.out]; simp, hJ3, hB.trans hk3⟩
        case measure => simp only [intOf]; rw [He.out]; simp
      · gi_wp2
        refine bodyPost_ret (results_none rfl _ _ _) rfl ?_
        exact ⟨⟨_, rfl⟩, .inr ⟨pre ++ [⟨k, hpk⟩], ⟨MM.els (bits BinOp.and IntKind.u64 x (x - 1)).toNat, by rw [Hx.out, He.out]; simp⟩, hJx3⟩⟩

set_option maxHeartbeats 400000 in
set_option maxRecDepth 100000 in
theorem relElements_any (x : Int) (w : World) :
    Calls Tryd.prog 67 #[.int .u64 x] w fun e w' => e = .returned (.func (.func 70) #[] #[.pointer (some ⟨w.heap.size, 0, none⟩)]) ∧ w.alloc (.cells #[.int .u64 x] 23) = w' := by
  go_enter Tryd.func67, Tryd.ntmps67
  go_wp2
  go_ret
  exact ⟨rfl, rfl⟩

theorem relElements_stops (n : Nat) (hn : 1 ≤ n) (Bn n₀ : Nat) (hn₀ : 0 < n₀) (x : Int) (h0 : 0 ≤ x) (h1 : x < 18446744073709551616) (w : World) (hT : Tab w) (hsz : n₀ ≤ w.heap.size) (hBn : Bn < w.heap.size)
    (hc : w.cell? ⟨Bn, 0, none⟩ = some (.int .u64 x)) (p : Nat → Prop) (hp : ∀ k ∈ MM.els x.toNat, p k) :
    SeqStopsK Fence.wide n Tryd.prog 70 #[.pointer (some ⟨Bn, 0, none⟩)] (fun k : {k : Nat // p k} => #[Value.int .i64 (k.1 : Int)]) (Below n₀) (fun ys => ys.map Subtype.val = MM.els x.toNat) (fun pre => pre.map Subtype.val <+: MM.els x.toNat) (MM.els x.toNat).length w :=
  fun l J Jx W hW hA _ hY hJ => relElements1_in n hn l Bn n₀ hn₀ x h0 h1 p hp J Jx (fun s W1 W2 hj hg => hA s W1 W2 none hj hg (fun r hr => by cases hr)) hY W (Nat.le_trans hsz hW.size) (hT.below hW hT.pos) ((hW.cell (p := ⟨Bn, 0, none⟩) hBn).trans hc) hJ
end Go.Proofs.YtakhmjohncidoaaDoor
