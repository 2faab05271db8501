/- marks.count, marks.Len, marks.Rank. -/
import Derived.Test.YtacfamelnaocmaaDoorMarksPick
namespace Go.Proofs.YtacfamelnaocmaaDoor
open Go.RowKit Go.Shelf

attribute [local go_sem] Oper.semAt_some

/-- How many elements fit. -/
def cnt (p : Nat → Bool) (pre : List Nat) : Nat := (pre.filter p).length
def cntV (p : Nat → Bool) (pre : List Nat) : Value := .int .i64 (cnt p pre : Int)
theorem cnt_le (p : Nat → Bool) (pre : List Nat) : cnt p pre ≤ pre.length := List.length_filter_le _ _
theorem cnt_hit (p : Nat → Bool) (pre : List Nat) {k : Nat} (h : p k = true) : cnt p (pre ++ [k]) = cnt p pre + 1 := by simp [cnt, h]
theorem cnt_miss (p : Nat → Bool) (pre : List Nat) {k : Nat} (h : p k = false) : cnt p (pre ++ [k]) = cnt p pre := by simp [cnt, h]

set_option maxRecDepth 100000 in
set_option maxHeartbeats 1000000 in
theorem count_in (g : Nat) (lb : Array Value) (p : Nat → Bool) (x : Int) (h0 : 0 ≤ x) (h1 : x < 18446744073709551616) (w : World) (hT : Tab w)
    (heg : ∀ args w, (callFunc g args).run Tryd.prog w = .ok (.enter g args) w)
    (hg : ∀ (W : World) (k : Nat), Below w.heap.size w W → Calls Tryd.prog g (#[.int .i64 (k : Int)] ++ lb) W fun e W' => e = .returned (.bool (p k)) ∧ W = W') :
    CallsIn Fence.wide 5 Tryd.prog 34 #[.int .u64 x, .func (.func g) #[] lb] w fun e w' => e = .returned (cntV p (MM.els x.toNat)) ∧ Below w.heap.size w w' := by
  have HG := Lib.hid hg
  clear hg
  refine callsIn_of_wp_marks Tryd.func34 rfl trivial ?_ rfl
  simp only [Tryd.ntmps34, List.size_toArray, List.length_cons, List.length_nil, Nat.reduceAdd, Nat.reduceSub, Array.replicate_succ, Array.replicate_zero, List.push_toArray, List.append_toArray, List.nil_append, List.cons_append]
  gi_wp2_with fail
  refine ⟨trivial, ?_⟩
  refine (callsIn_wide.2 (elements_any x _)).mono ?_
  rintro e w' ⟨rfl, rfl⟩
  gi_wp2_with fail
  have b0 := Boxed.new w 60 (.func (.func g) #[] lb)
  have b1 := Boxed.new (w.alloc (.cells #[.func (.func g) #[] lb] 60)) 3 (.int .i64 0)
  have b2 := Boxed.new ((w.alloc (.cells #[.func (.func g) #[] lb] 60)).alloc (.cells #[.int .i64 0] 3)) 23 (.int .u64 x)
  simp only [World.size_alloc] at b1 b2
  have hB : Below w.heap.size w (((w.alloc (.cells #[.func (.func g) #[] lb] 60)).alloc (.cells #[.int .i64 0] 3)).alloc (.cells #[.int .u64 x] 23)) :=
    (((Below.refl _ w).alloc (Nat.le_refl _) _).alloc (by simp) _).alloc (by simp; omega) _
  refine wpIn_rangeFunc_ownF rfl (by omega) (gf := 41) (lb := #[.pointer (some ⟨w.heap.size + 1 + 1, 0, none⟩)]) rfl trivial (enters_of Tryd.func41 (by kernel_rfl) rfl)
    (elements_stops _ (by omega) (w.heap.size + 1 + 1) w.heap.size hT.pos x h0 h1 _ (hT.below hB hT.pos) (by simp) b2.cell) belowK_t (belowK_b (by simp; omega)) (Below.refl _ _) (fun _ => rfl)
    (fun pre W => Boxed W w.heap.size 60 (.func (.func g) #[] lb) ∧ Boxed W (w.heap.size + 1) 3 (cntV p pre) ∧ Below w.heap.size w W)
    (fun _ _ _ => False)
    (OwnFrom.and ((boxed_own _ _ (fun _ => _)).from _) (OwnFrom.and ((boxed_own _ _ (cntV p)).from _) (ownFrom_below (Nat.le_refl _) (by simp; omega))))
    (fun _ _ _ _ _ hs _ _ => hs)
    ⟨(b0.alloc _).alloc _, b1.alloc _, hB⟩
    (fun y => { tmps := #[.int .u64 x, .func (.func g) #[] lb, undef, .pointer (some ⟨w.heap.size, 0, none⟩), .int .i64 0, .pointer (some ⟨w.heap.size + 1, 0, none⟩), .int .i64 (y : Int), .int .u64 x, .func (.func 41) #[] #[.pointer (some ⟨w.heap.size + 1 + 1, 0, none⟩)], .int .i64 (y : Int), undef, undef, undef, undef, undef, undef], defers := [] }) ?assign ?body ?done ?stop
  case assign =>
    intro l x W K hK
    gi_wp2
    exact hK
  case body =>
    rintro l pre y W ⟨c0, c1, hBW⟩ hlen
    have hl64 := MM.els_length x.toNat
    have hcl := cnt_le p pre
    have d0 := c0.cell
    have f1 := c1.frozen
    have d1 := c1.cell
    unfold cntV at d1
    have Hcall := Lib.hid (HG.out W y hBW)
    cases hp : p y
    all_goals
      have Hp := Lib.hid hp
      clear hp
      gi_wp2_with fail
      refine ⟨trivial, ?_⟩
      refine (CallsIn.inRound l (callsIn_wide.2 Hcall.out)).mono ?_
      rw [Hp.out]
      rintro e w' ⟨rfl, rfl⟩
      gi_wp2
    · exact ⟨KeepsOthers.refl _, Below.refl _ _, c0, by unfold cntV; rw [cnt_miss p pre Hp.out]; exact c1, hBW⟩
    · exact ⟨KeepsOthers.setCell _ _ _, (Below.refl _ _).setCell (p := ⟨w.heap.size + 1, 0, none⟩) (by simp) _, c0.other (by omega) _, by unfold cntV; rw [cnt_hit p pre Hp.out]; exact c1.set _, hBW.setCell (p := ⟨w.heap.size + 1, 0, none⟩) (by simp) _⟩
  case done =>
    rintro D ys W hD rfl ⟨c0, c1, hBW⟩ hK
    have d1 := c1.cell
    gi_wp2
    refine ⟨by simp, .inl ⟨_, _, rfl, run_takeDeferred hK, ?_⟩⟩
    exact ⟨_, results_tmp rfl _ _ _, rfl, hBW.trans (belowK_b (w := w) (Nat.le_refl _) _ D _ _ (by simp at hD; omega) hK rfl rfl)⟩
  case stop =>
    rintro D c pre W _ _ h _
    exact h.elim

theorem len1_any (k : Int) (w : World) : Calls Tryd.prog 35 #[.int .i64 k] w fun e w' => e = .returned (.bool true) ∧ w = w' := by
  go_enter Tryd.func35, Tryd.ntmps35
  go_wp2
  go_ret
  exact ⟨rfl, rfl⟩

theorem rank1_any (k i : Int) (b : Nat) (w : World) (hc : w.cell? ⟨b, 0, none⟩ = some (.int .i64 i)) :
    Calls Tryd.prog 36 #[.int .i64 k, .pointer (some ⟨b, 0, none⟩)] w fun e w' => e = .returned (.bool (decide (k < i))) ∧ w = w' := by
  go_enter Tryd.func36, Tryd.ntmps36
  go_wp2
  go_ret
  exact ⟨rfl, rfl⟩

def lenOf (l : List Nat) : Int := l.length
theorem cntV_len (l : List Nat) : cntV (fun _ => true) l = .int .i64 (lenOf l) := by unfold cntV cnt lenOf; rw [List.filter_eq_self.2 (by simp)]
def rankOf (l : List Nat) (i : Int) : Int := (l.filter fun k : Nat => decide ((k : Int) < i)).length
theorem cntV_rank (l : List Nat) (i : Int) : cntV (fun k : Nat => decide ((k : Int) < i)) l = .int .i64 (rankOf l i) := rfl

theorem len_any (x : Int) (h0 : 0 ≤ x) (h1 : x < 18446744073709551616) (w : World) (hT : Tab w) :
    Calls Tryd.prog 18 #[.int .u64 x] w fun e w' => e = .returned (.int .i64 (lenOf (MM.els x.toNat))) ∧ Below w.heap.size w w' := by
  have H := Lib.hid (callsIn_wide.1 (count_in 35 #[] (fun _ => true) x h0 h1 w hT (enters_of Tryd.func35 (by kernel_rfl) rfl) (fun W k _ => len1_any k W)))
  go_enter Tryd.func18, Tryd.ntmps18
  go_wp2_with fail
  refine H.out.mono ?_
  rw [cntV_len]
  rintro e w' ⟨rfl, hb⟩
  go_wp2
  go_ret
  exact ⟨rfl, hb⟩

theorem rank_any (x i : Int) (h0 : 0 ≤ x) (h1 : x < 18446744073709551616) (w : World) (hT : Tab w) :
    Calls Tryd.prog 19 #[.int .u64 x, .int .i64 i] w fun e w' => e = .returned (.int .i64 (rankOf (MM.els x.toNat) i)) ∧ Below w.heap.size w w' := by
  have b0 := Boxed.new w 3 (.int .i64 i)
  have hB : Below w.heap.size w (w.alloc (.cells #[.int .i64 i] 3)) := (Below.refl _ w).alloc (Nat.le_refl _) _
  have H := Lib.hid (callsIn_wide.1 (count_in 36 #[.pointer (some ⟨w.heap.size, 0, none⟩)] (fun k : Nat => decide ((k : Int) < i)) x h0 h1 _ (hT.below hB hT.pos) (enters_of Tryd.func36 (by kernel_rfl) rfl)
    (fun W k hW => rank1_any k i w.heap.size W ((hW.cell (p := ⟨w.heap.size, 0, none⟩) (by simp)).trans b0.cell))))
  go_enter Tryd.func19, Tryd.ntmps19
  go_wp2_with fail
  refine H.out.mono ?_
  rw [cntV_rank]
  rintro e w' ⟨rfl, hb⟩
  go_wp2
  go_ret
  exact ⟨rfl, hB.trans (hb.mono (by simp))⟩
end Go.Proofs.YtacfamelnaocmaaDoor
