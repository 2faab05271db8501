/- The chapter's examples, as the laws check them. -/
import Derived.Test.YtacfamelnaocmaaDoorMarksSubs2
import Derived.Test.YtacfamelnaocmaaDoorMarksEq
namespace Go.Proofs.YtacfamelnaocmaaDoor
open Go.RowKit Go.Shelf

theorem numSl_new (q : IntKind) (W : World) (e : TypeId) (zs : List Int) (cs : Array Value) (hcs : cs = (zs.map (Value.int q)).toArray) (hm : zs.length ≤ maxLen) :
    NumSl q (W.heap.size + 1) (W.alloc (.cells cs e)) (.slice (some ⟨W.heap.size, 0, none⟩) zs.length zs.length) zs := by
  have h := World.ownsRow_lit (base := W.heap.size) (e := e) (size := 1) W cs zs.length (Nat.le_refl _) hm (by rw [hcs]; simp)
  have h2 := numSl_of_row (q := q) (zs := zs) (by rw [show zs.map (Value.int q) = cs.toList by rw [hcs]]; exact h) hm
  simpa using h2

namespace Ex
theorem e34 : MM.els (34 : Int).toNat = [1, 5] := by decide +kernel
theorem e7 : MM.els (7 : Int).toNat = [0, 1, 2] := by decide +kernel

theorem sub4 (w : World) (hT : Tab w) : Calls Tryd.prog 26 #[.int .u64 34, .int .i64 4] w fun e w' => ∃ v, e = .returned (.tuple #[v, .int .i64 0]) ∧ NumSl .u64 w'.heap.size w' v [0, 2, 32, 34] ∧ Below w.heap.size w w' := by
  refine (subsets_ok 34 4 (by decide) (by decide) (by decide) 2 4 (by rw [e34]; rfl) rfl (by decide) w hT).mono ?_
  rintro e w' ⟨v, rfl, hr, hb⟩
  refine ⟨v, rfl, numSl_of_row (e := 23) (base := w.heap.size) ?_ (by decide), hb⟩
  have h : subsV (34 : Int).toNat 4 = ([0, 2, 32, 34] : List Int).map (Value.int .u64) := by
    unfold subsV subV
    rw [e34]
    rfl
  rw [← h]
  exact hr
theorem sub3 (w : World) (hT : Tab w) : Calls Tryd.prog 26 #[.int .u64 34, .int .i64 3] w fun e w' => e = .returned (.tuple #[.slice none 0 0, .int .i64 5]) ∧ Below w.heap.size w w' :=
  subsets_many 34 3 (by decide) (by decide) (by decide) (by decide) (by rw [e34]; decide) w hT
theorem all3 (w : World) : Calls Tryd.prog 13 #[.int .i64 3] w fun e w' => e = .returned (.int .u64 7) ∧ w = w' := all_any 3 w
theorem allN (w : World) : Calls Tryd.prog 13 #[.int .i64 (-1)] w fun e w' => e = .returned (.int .u64 0) ∧ w = w' := all_any (-1) w

theorem list_num (x : Int) (h0 : 0 ≤ x) (h1 : x < 18446744073709551616) (w : World) (hT : Tab w) :
    Calls Tryd.prog 16 #[.int .u64 x] w fun e W' => ∃ v, e = .returned v ∧ IntSl W'.heap.size W' v ((MM.els x.toNat).map fun k : Nat => (k : Int)) ∧ Below w.heap.size w W' := by
  refine (list_any x h0 h1 w hT).mono ?_
  rintro e w' ⟨v, rfl, hr, hb⟩
  have hl := MM.els_length x.toNat
  refine ⟨v, rfl, numSl_of_row (e := 3) (base := w.heap.size) ?_ (by rw [List.length_map]; unfold maxLen; omega), hb⟩
  rw [List.length_map, List.map_map]
  exact hr
theorem list7 (w : World) (hT : Tab w) : Calls Tryd.prog 16 #[.int .u64 7] w fun e W' => ∃ v, e = .returned v ∧ IntSl W'.heap.size W' v [0, 1, 2] ∧ Below w.heap.size w W' := by
  have := list_num 7 (by decide) (by decide) w hT
  rw [e7] at this
  exact this
theorem first (w : World) (hT : Tab w) : Calls Tryd.prog 21 #[.int .u64 34] w fun e w' => e = .returned (.tuple #[.int .i64 1, .bool true]) ∧ Below w.heap.size w w' := by
  have := first_any 34 (by decide) (by decide) w hT
  rw [e34] at this
  exact this
theorem next (i : Int) (o : Option Nat) (h : nextOf [1, 5] i = o) (w : World) (hT : Tab w) : Calls Tryd.prog 23 #[.int .u64 34, .int .i64 i] w fun e w' => e = .returned (optV o) ∧ Below w.heap.size w w' := by
  have := next_any 34 i (by decide) (by decide) w hT
  rw [e34, h] at this
  exact this
theorem next1 (w : World) (hT : Tab w) : Calls Tryd.prog 23 #[.int .u64 34, .int .i64 1] w fun e w' => e = .returned (.tuple #[.int .i64 5, .bool true]) ∧ Below w.heap.size w w' := next 1 (some 5) (by decide) w hT
theorem nextN (w : World) (hT : Tab w) : Calls Tryd.prog 23 #[.int .u64 34, .int .i64 (-9)] w fun e w' => e = .returned (.tuple #[.int .i64 1, .bool true]) ∧ Below w.heap.size w w' := next (-9) (some 1) (by decide) w hT
theorem next5 (w : World) (hT : Tab w) : Calls Tryd.prog 23 #[.int .u64 34, .int .i64 5] w fun e w' => e = .returned (.tuple #[.int .i64 0, .bool false]) ∧ Below w.heap.size w w' := next 5 none (by decide) w hT
theorem pick1 (w : World) (hT : Tab w) : Calls Tryd.prog 24 #[.int .u64 34, .int .i64 1] w fun e w' => e = .returned (.tuple #[.int .i64 5, .bool true]) ∧ Below w.heap.size w w' := by
  have := pick_any 34 1 (by decide) (by decide) w hT
  rw [e34] at this
  exact this
theorem rank5 (w : World) (hT : Tab w) : Calls Tryd.prog 19 #[.int .u64 34, .int .i64 5] w fun e w' => e = .returned (.int .i64 1) ∧ Below w.heap.size w w' := by
  have := rank_any 34 5 (by decide) (by decide) w hT
  rw [e34] at this
  exact this
theorem rank99 (w : World) (hT : Tab w) : Calls Tryd.prog 19 #[.int .u64 34, .int .i64 99] w fun e w' => e = .returned (.int .i64 2) ∧ Below w.heap.size w w' := by
  have := rank_any 34 99 (by decide) (by decide) w hT
  rw [e34] at this
  exact this
theorem of_lit (zs : List Int) (s e0 : Int) (v : Value) (w : World) (h : IntSl w.heap.size w v zs) (hz : (okInts zs = true ∧ setL zs = s ∧ e0 = 0) ∨ (okInts zs = false ∧ s = 0 ∧ e0 = 2)) :
    Calls Tryd.prog 11 #[v] w fun e w' => e = .returned (.tuple #[.int .u64 s, .int .i64 e0]) ∧ Below w.heap.size w w' := by
  rcases hz with ⟨h1, rfl, rfl⟩ | ⟨h1, rfl, rfl⟩
  · exact (of_good v zs _ w h h1).mono fun e w' ⟨he, hw⟩ => ⟨he, hw ▸ Below.refl _ _⟩
  · exact (of_bad v zs _ w h h1).mono fun e w' ⟨he, hw⟩ => ⟨he, hw ▸ Below.refl _ _⟩
/-- A literal slice in new memory. -/
theorem lit (q : IntKind) (zs : List Int) (W : World) (e : TypeId) (cs : Array Value) (hcs : cs = (zs.map (Value.int q)).toArray) (hm : zs.length ≤ maxLen) :
    NumSl q (W.alloc (.cells cs e)).heap.size (W.alloc (.cells cs e)) (.slice (some ⟨W.heap.size, 0, none⟩) zs.length zs.length) zs := by
  have := numSl_new q W e zs cs hcs hm
  rwa [World.size_alloc]
end Ex

set_option maxRecDepth 100000 in
set_option maxHeartbeats 2000000 in
theorem awake_any (w : World) (hT : Tab w) : Calls Tryd.prog 10 #[] w fun e w' => e = .returned (.bool true) ∧ Below w.heap.size w w' := by
  have hp := hT.pos
  go_enter Tryd.func10, Tryd.ntmps10
  go_wp2_with fail
  refine (Ex.of_lit [5, 1, 5] 34 0 _ _ (Ex.lit .i64 [5, 1, 5] w _ _ rfl (by decide)) (.inl ⟨rfl, by decide, rfl⟩)).mono ?_
  rintro e w1 ⟨rfl, hb⟩
  have hB := ((Below.refl w.heap.size w).alloc (Nat.le_refl _) _).trans (hb.mono (by simp))
  clear hb
  go_wp2_with fail
  refine (Ex.of_lit [64] 0 2 _ _ (Ex.lit .i64 [64] w1 _ _ rfl (by decide)) (.inr ⟨rfl, rfl, rfl⟩)).mono ?_
  rintro e w2 ⟨rfl, hb⟩
  have hB := (hB.alloc hB.size _).trans (hb.mono (by have := hB.size; simp; omega))
  clear hb
  go_wp2_with fail
  refine (Ex.sub4 _ (hT.below hB hp)).mono ?_
  rintro e w3 ⟨v, rfl, hv, hb⟩
  have hB := hB.trans (hb.mono hB.size)
  clear hb
  go_wp2_with fail
  refine (Ex.sub3 _ (hT.below hB hp)).mono ?_
  rintro e w4 ⟨rfl, hb⟩
  have hB := hB.trans (hb.mono hB.size)
  have hv := (hv.below hb).mono hb.size
  clear hb
  go_wp2_with fail
  refine (sets_same _ _ [0, 2, 32, 34] (w4.heap.size + 1) _ ((hv.below ((Below.refl _ w4).alloc (Nat.le_refl _) _)).mono (by omega)) (numSl_new .u64 w4 _ [0, 2, 32, 34] _ rfl (by decide))).mono ?_
  rintro e w5 ⟨rfl, hb⟩
  have hB := (hB.alloc hB.size _).trans (hb _)
  clear hb hv
  go_wp2_with fail
  refine (Ex.all3 _).mono ?_
  rintro e w6 ⟨rfl, rfl⟩
  go_wp2_with fail
  refine (Ex.list7 _ (hT.below hB hp)).mono ?_
  rintro e w6 ⟨v, rfl, hv, hb⟩
  have hB := hB.trans (hb.mono hB.size)
  clear hb
  go_wp2_with fail
  refine (ints_same _ _ [0, 1, 2] (w6.heap.size + 1) _ ((hv.below ((Below.refl _ w6).alloc (Nat.le_refl _) _)).mono (by omega)) (numSl_new .i64 w6 _ [0, 1, 2] _ rfl (by decide))).mono ?_
  rintro e w5 ⟨rfl, hb⟩
  have hB := (hB.alloc hB.size _).trans (hb _)
  clear hb hv
  go_wp2_with fail
  refine (Ex.allN _).mono ?_
  rintro e w6 ⟨rfl, rfl⟩
  go_wp2_with fail
  refine (is_any 1 _).mono ?_
  rintro e w' ⟨rfl, rfl⟩
  have hB := hB.alloc hB.size (.cells #[.int .i64 1] 3)
  go_wp2_with fail
  refine (Ex.first _ (hT.below hB hp)).mono ?_
  rintro e w6 ⟨rfl, hb⟩
  have hc := (hb.cell (p := ⟨w5.heap.size, 0, none⟩) (by simp)).trans (Boxed.new w5 3 (.int .i64 1)).cell
  have hB := hB.trans (hb.mono hB.size)
  clear hb
  go_wp2_with fail
  refine (is1_some 1 _ _ (by decide) hc).mono ?_
  rintro e w7 ⟨rfl, rfl⟩
  clear hc
  go_wp2_with fail
  refine (is_any 5 _).mono ?_
  rintro e w' ⟨rfl, rfl⟩
  have hB := hB.alloc hB.size (.cells #[.int .i64 5] 3)
  go_wp2_with fail
  refine (Ex.next1 _ (hT.below hB hp)).mono ?_
  rintro e w7 ⟨rfl, hb⟩
  have hc := (hb.cell (p := ⟨w6.heap.size, 0, none⟩) (by simp)).trans (Boxed.new w6 3 (.int .i64 5)).cell
  have hB := hB.trans (hb.mono hB.size)
  clear hb
  go_wp2_with fail
  refine (is1_some 5 _ _ (by decide) hc).mono ?_
  rintro e w' ⟨rfl, rfl⟩
  clear hc
  go_wp2_with fail
  refine (is_any 1 _).mono ?_
  rintro e w' ⟨rfl, rfl⟩
  have hB := hB.alloc hB.size (.cells #[.int .i64 1] 3)
  go_wp2_with fail
  refine (Ex.nextN _ (hT.below hB hp)).mono ?_
  rintro e w8 ⟨rfl, hb⟩
  have hc := (hb.cell (p := ⟨w7.heap.size, 0, none⟩) (by simp)).trans (Boxed.new w7 3 (.int .i64 1)).cell
  have hB := hB.trans (hb.mono hB.size)
  clear hb
  go_wp2_with fail
  refine (is1_some 1 _ _ (by decide) hc).mono ?_
  rintro e w' ⟨rfl, rfl⟩
  clear hc
  go_wp2_with fail
  refine (is_any (-1) _).mono ?_
  rintro e w' ⟨rfl, rfl⟩
  have hB := hB.alloc hB.size (.cells #[.int .i64 (-1)] 3)
  go_wp2_with fail
  refine (Ex.next5 _ (hT.below hB hp)).mono ?_
  rintro e w9 ⟨rfl, hb⟩
  have hc := (hb.cell (p := ⟨w8.heap.size, 0, none⟩) (by simp)).trans (Boxed.new w8 3 (.int .i64 (-1))).cell
  have hB := hB.trans (hb.mono hB.size)
  clear hb
  go_wp2_with fail
  refine (is1_none (-1) _ _ (by decide) hc).mono ?_
  rintro e w' ⟨rfl, rfl⟩
  clear hc
  go_wp2_with fail
  refine (is_any 5 _).mono ?_
  rintro e w' ⟨rfl, rfl⟩
  have hB := hB.alloc hB.size (.cells #[.int .i64 5] 3)
  go_wp2_with fail
  refine (Ex.pick1 _ (hT.below hB hp)).mono ?_
  rintro e w10 ⟨rfl, hb⟩
  have hc := (hb.cell (p := ⟨w9.heap.size, 0, none⟩) (by simp)).trans (Boxed.new w9 3 (.int .i64 5)).cell
  have hB := hB.trans (hb.mono hB.size)
  clear hb
  go_wp2_with fail
  refine (is1_some 5 _ _ (by decide) hc).mono ?_
  rintro e w' ⟨rfl, rfl⟩
  clear hc
  go_wp2_with fail
  refine (Ex.rank5 _ (hT.below hB hp)).mono ?_
  rintro e w11 ⟨rfl, hb⟩
  have hB := hB.trans (hb.mono hB.size)
  clear hb
  go_wp2_with fail
  refine (Ex.rank99 _ (hT.below hB hp)).mono ?_
  rintro e w12 ⟨rfl, hb⟩
  have hB := hB.trans (hb.mono hB.size)
  clear hb
  go_wp2
  go_ret
  exact ⟨rfl, hB⟩
end Go.Proofs.YtacfamelnaocmaaDoor
