/- The document's answers for layer 2: Cross, Id. -/
import Derived.Test.YtnfkedcbhjbhkaaDoorRefRel1
namespace Go.Proofs.YtnfkedcbhjbhkaaDoor
open Go.RowKit Go.Shelf

attribute [local go_sem] Oper.semAt_some

/-- The pairs of a set with another. -/
def crossP (s t : Nat) : Nat → Nat → Bool := fun a b => s.testBit a && t.testBit b
def idP (s : Nat) : Nat → Nat → Bool := fun a b => s.testBit a && decide (a = b)
theorem wstep {n : Int} {p : Nat → Nat → Bool} {N a b : Nat} (hN : N ≤ 48) (ha : a < N) (hb : b < N) (h : p a b = true) (w : World) :
    Calls Tryd.prog 77 #[.agg (relC n (fillF p N a b)), .int .i64 (a : Int), .int .i64 (b : Int)] w fun e w' => e = .returned (.agg (relC n (fillF p N a (b + 1)))) ∧ Below w.heap.size w w' := by
  have := refwith_any n (fillF p N a b) (fill_64 p hN (by omega)) a b (by omega) (by omega) w
  rwa [fill_yes p N a b h] at this

set_option maxRecDepth 100000 in
set_option maxHeartbeats 4000000 in
theorem refCross_bad (n : Int) (s t : Nat) (h01 : n < 0 ∨ 48 < n) (w : World) :
    Calls Tryd.prog 23 #[.int .i64 n, .int .u64 (s : Int), .int .u64 (t : Int)] w fun e w' => e = .returned (.agg (relC 0 zf)) ∧ Below w.heap.size w w' := by
  have hZ := RelAt.new w 0 zf
  have hB := below_new w (.cells (relC 0 zf) 26)
  obtain ⟨W3, hs3, hR3, hO3⟩ := hZ.put 0 zf
  have hB3 := below_only hB hO3 (Nat.le_refl _)
  clear hZ hB hO3
  rcases h01 with h0 | h0
  all_goals
    go_enter Tryd.func23, Tryd.ntmps23
    go_wp2
    refine bodyPost_ret (results_rel rfl _ _ _ _ _ rfl hR3) rfl ?_
    exact ⟨rfl, hB3⟩
set_option maxRecDepth 100000 in
set_option maxHeartbeats 4000000 in
theorem refCross_ok (N s t : Nat) (hN : N ≤ 48) (hs : s < 2 ^ 64) (ht : t < 2 ^ 64) (w : World) :
    Calls Tryd.prog 23 #[.int .i64 (N : Int), .int .u64 (s : Int), .int .u64 (t : Int)] w fun e w' => e = .returned (.agg (relC N (fillF (crossP s t) N N 0))) ∧ Below w.heap.size w w' := by
  have hZ := RelAt.new w 0 zf
  have hB := below_new w (.cells (relC 0 zf) 26)
  have CS := Lib.hid (fun w b (hb : b < 64) => refHas s b hs hb w)
  have CT := Lib.hid (fun w b (hb : b < 64) => refHas t b ht hb w)
  obtain ⟨W3, hs3, hR3, h3, hz3⟩ := Ex.lay (w.alloc (.cells (relC 0 zf) 26)) N zf
  have hX : Kept w W3 [(w.heap.size + 1, (N : Int), fillF (crossP s t) N 0 0), (w.heap.size, 0, zf)] := by
    refine ⟨thru hB h3, ?_⟩
    simp only [List.mem_cons, List.not_mem_nil, or_false]
    rintro p (rfl | rfl)
    · rw [fill_start]; rwa [World.size_alloc] at hR3
    · exact hZ.on h3
  rw [World.size_alloc] at hs3
  clear hR3 h3 hz3 hZ hB
  have t1 : decide ((N : Int) < 0) = false := by simp
  have t2 : decide (48 < (N : Int)) = false := by simp; omega
  have le1 : w.heap.size ≤ w.heap.size + 1 := by omega
  have ne1 : w.heap.size ≠ w.heap.size + 1 := by omega
  go_enter Tryd.func23, Tryd.ntmps23
  go_wp2
  clear hs3
  go_loopw [8] (fun i W => ∃ k : Nat, k ≤ N ∧ i = .int .i64 k ∧ Kept w W [(w.heap.size + 1, (N : Int), fillF (crossP s t) N k 0), (w.heap.size, 0, zf)]) (fun i _ => N - (intOf i).toNat)
  case atStart => exact ⟨0, by omega, rfl, hX⟩
  case round =>
    clear hX
    obtain ⟨k, hk, rfl, hX⟩ := hrel
    by_cases hkN : k < N
    · have tk : decide (k < N) = true := by simpa using hkN
      go_wp2
      go_loopw [9] (fun j W => ∃ m : Nat, m ≤ N ∧ j = .int .i64 m ∧ Kept w W [(w.heap.size + 1, (N : Int), fillF (crossP s t) N k m), (w.heap.size, 0, zf)]) (fun j _ => N - (intOf j).toNat)
      case atStart => exact ⟨0, by omega, rfl, hX⟩
      case round =>
        clear hX
        obtain ⟨m, hm, rfl, hX⟩ := hrel
        by_cases hmN : m < N
        · have tm : decide (m < N) = true := by simpa using hmN
          have cS := CS.out wr k (by omega)
          have cT := CT.out wr m (by omega)
          have cW := Lib.hid (fun h w => wstep (n := (N : Int)) (p := crossP s t) hN hkN hmN h w)
          have hno := Lib.hid (fill_no (crossP s t) N k m)
          have hl := (hX.at (b := w.heap.size + 1) (n := N) (f := fillF (crossP s t) N k m) (by simp))
          have l1 := hl.ld
          have hcr : crossP s t k m = (s.testBit k && t.testBit m) := rfl
          rw [hcr] at cW hno
          have hXh := Lib.hid hX
          have hlh := Lib.hid hl
          clear hX hl hcr
          cases hb1 : s.testBit k
          · rw [hb1] at cS cW hno
            have e := Lib.hid (hno.out rfl)
            replace cS := Lib.hid cS
            clear hb1 cW hno cT
            go_wp2_with fail
            refine cS.out.mono ?_
            rintro e w1 ⟨rfl, rfl⟩
            go_wp2
            go_roundw
            case rel => exact ⟨m + 1, by omega, by go_num, by rw [← e.out]; exact hXh.out⟩
            case measure => simp [intOf]; omega
          · rw [hb1] at cS cW hno
            replace cS := Lib.hid cS
            clear hb1
            cases hb2 : t.testBit m
            · rw [hb2] at cT cW hno
              have e := Lib.hid (hno.out rfl)
              replace cT := Lib.hid cT
              clear hb2 cW hno
              go_wp2_with fail
              refine cS.out.mono ?_
              rintro e w1 ⟨rfl, rfl⟩
              go_wp2_with fail
              refine cT.out.mono ?_
              rintro e w1 ⟨rfl, rfl⟩
              go_wp2
              go_roundw
              case rel => exact ⟨m + 1, by omega, by go_num, by rw [← e.out]; exact hXh.out⟩
              case measure => simp [intOf]; omega
            · rw [hb2] at cT cW
              replace cT := Lib.hid cT
              have cW' := Lib.hid (cW.out rfl)
              clear hb2 cW hno
              go_wp2_with fail
              refine cS.out.mono ?_
              rintro e w1 ⟨rfl, rfl⟩
              go_wp2_with fail
              refine cT.out.mono ?_
              rintro e w1 ⟨rfl, rfl⟩
              go_wp2_with fail
              clear l1
              refine (cW'.out _).mono ?_
              rintro e w1 ⟨rfl, h⟩
              obtain ⟨W4, hs4, hR4, hO4⟩ := (hlh.out.on h).put N (fillF (crossP s t) N k (m + 1))
              have hX4 := (((hXh.out.on h).less (l' := [(w.heap.size, 0, zf)]) (by simp)).only hO4 le1 (by simp)).cons hR4
              clear h hR4 hO4
              go_wp2
              go_roundw
              case rel => exact ⟨m + 1, by omega, by go_num, hX4⟩
              case measure => simp [intOf]; omega
        · obtain rfl : m = N := by omega
          go_wp2
          go_roundw
          case rel => exact ⟨k + 1, by omega, by go_num, by rw [← fill_next]; exact hX⟩
          case measure => simp [intOf]; omega
    · obtain rfl : k = N := by omega
      have l1 := (hX.at (b := w.heap.size + 1) (n := k) (f := fillF (crossP s t) k k 0) (by simp)).ld
      obtain ⟨W4, hs4, hR4, hO4⟩ := (hX.at (b := w.heap.size) (n := 0) (f := zf) (by simp)).put k (fillF (crossP s t) k k 0)
      have hB4 := below_only hX.1 hO4 (Nat.le_refl _)
      clear hX hO4
      go_wp2
      refine bodyPost_ret (results_rel rfl _ _ _ _ _ rfl hR4) rfl ?_
      exact ⟨rfl, hB4⟩

theorem cut_skip {F : Nat → Nat} {k : Nat} (h : F k = 0) : cutF (k : Int) F = cutF ((k + 1 : Nat) : Int) F := by
  funext i
  unfold cutF
  by_cases h1 : (i : Int) < k
  · rw [if_pos h1, if_pos (by omega)]
  · rw [if_neg h1]
    by_cases h2 : i = k
    · subst h2; rw [if_pos (by omega), h]
    · rw [if_neg (by omega)]
set_option maxRecDepth 100000 in
theorem refId_bad (n : Int) (s : Nat) (h01 : n < 0 ∨ 48 < n) (w : World) :
    Calls Tryd.prog 21 #[.int .i64 n, .int .u64 (s : Int)] w fun e w' => e = .returned (.agg (relC 0 zf)) ∧ Below w.heap.size w w' := by
  have hZ := RelAt.new w 0 zf
  have hB := below_new w (.cells (relC 0 zf) 26)
  obtain ⟨W3, hs3, hR3, hO3⟩ := hZ.put 0 zf
  have hB3 := below_only hB hO3 (Nat.le_refl _)
  clear hZ hB hO3
  rcases h01 with h0 | h0
  all_goals
    go_enter Tryd.func21, Tryd.ntmps21
    go_wp2
    refine bodyPost_ret (results_rel rfl _ _ _ _ _ rfl hR3) rfl ?_
    exact ⟨rfl, hB3⟩
set_option maxRecDepth 100000 in
set_option maxHeartbeats 4000000 in
theorem refId_ok (N s : Nat) (hN : N ≤ 48) (hs : s < 2 ^ 64) (w : World) :
    Calls Tryd.prog 21 #[.int .i64 (N : Int), .int .u64 (s : Int)] w fun e w' => e = .returned (.agg (relC N (cutF N (idF s)))) ∧ Below w.heap.size w w' := by
  have hZ := RelAt.new w 0 zf
  have hB := below_new w (.cells (relC 0 zf) 26)
  have CS := Lib.hid (fun w b (hb : b < 64) => refHas s b hs hb w)
  obtain ⟨W3, hs3, hR3, h3, hz3⟩ := Ex.lay (w.alloc (.cells (relC 0 zf) 26)) N zf
  have hX : Kept w W3 [(w.heap.size + 1, (N : Int), cutF ((0 : Nat) : Int) (idF s)), (w.heap.size, 0, zf)] := by
    refine ⟨thru hB h3, ?_⟩
    simp only [List.mem_cons, List.not_mem_nil, or_false]
    rintro p (rfl | rfl)
    · rw [show ((0 : Nat) : Int) = 0 by rfl, cutF_zero]; rwa [World.size_alloc] at hR3
    · exact hZ.on h3
  rw [World.size_alloc] at hs3
  clear hR3 h3 hz3 hZ hB
  have t1 : decide ((N : Int) < 0) = false := by simp
  have t2 : decide (48 < (N : Int)) = false := by simp; omega
  have le1 : w.heap.size ≤ w.heap.size + 1 := by omega
  have ne1 : w.heap.size ≠ w.heap.size + 1 := by omega
  go_enter Tryd.func21, Tryd.ntmps21
  go_wp2
  clear hs3
  go_loopw [6] (fun i W => ∃ k : Nat, k ≤ N ∧ i = .int .i64 k ∧ Kept w W [(w.heap.size + 1, (N : Int), cutF (k : Int) (idF s)), (w.heap.size, 0, zf)]) (fun i _ => N - (intOf i).toNat)
  case atStart => exact ⟨0, by omega, rfl, hX⟩
  case round =>
    clear hX
    obtain ⟨k, hk, rfl, hX⟩ := hrel
    by_cases hkN : k < N
    · have tk : decide (k < N) = true := by simpa using hkN
      have cS := CS.out wr k (by omega)
      have hl := (hX.at (b := w.heap.size + 1) (n := N) (f := cutF (k : Int) (idF s)) (by simp))
      have l1 := hl.ld
      have hXh := Lib.hid hX
      have hlh := Lib.hid hl
      clear hX hl
      cases hb1 : s.testBit k
      · rw [hb1] at cS
        have e := Lib.hid (cut_skip (F := idF s) (k := k) (by simp [idF, hb1]))
        replace cS := Lib.hid cS
        clear hb1
        go_wp2_with fail
        refine cS.out.mono ?_
        rintro e w1 ⟨rfl, rfl⟩
        go_wp2
        go_roundw
        case rel => exact ⟨k + 1, by omega, by go_num, by rw [← e.out]; exact hXh.out⟩
        case measure => simp [intOf]; omega
      · rw [hb1] at cS
        replace cS := Lib.hid cS
        obtain ⟨G, hG⟩ : ∃ G, G = cutF ((k + 1 : Nat) : Int) (idF s) := ⟨_, rfl⟩
        have cW := Lib.hid (fun w => show Calls Tryd.prog 77 #[.agg (relC N (cutF (k : Int) (idF s))), .int .i64 (k : Int), .int .i64 (k : Int)] w fun e w' => e = .returned (.agg (relC N G)) ∧ Below w.heap.size w w' by
          rw [hG]
          have := refwith_any N (cutF (k : Int) (idF s)) (idF_48 s k (by omega)) k k (by omega) (by omega) w
          rw [show cutF (k : Int) (idF s) k ||| 2 ^ k = idF s k by unfold cutF idF; rw [if_neg (by omega), if_pos hb1, Nat.zero_or], cutF_upd] at this
          exact this)
        clear hb1
        replace hG := Lib.hid hG
        go_wp2_with fail
        refine cS.out.mono ?_
        rintro e w1 ⟨rfl, rfl⟩
        go_wp2_with fail
        clear l1
        refine (cW.out _).mono ?_
        rintro e w1 ⟨rfl, h⟩
        obtain ⟨W4, hs4, hR4, hO4⟩ := (hlh.out.on h).put N G
        have hX4 := (((hXh.out.on h).less (l' := [(w.heap.size, 0, zf)]) (by simp)).only hO4 le1 (by simp)).cons hR4
        clear h hR4 hO4
        go_wp2
        go_roundw
        case rel => exact ⟨k + 1, by omega, by go_num, by rw [← hG.out]; exact hX4⟩
        case measure => simp [intOf]; omega
    · obtain rfl : k = N := by omega
      have l1 := (hX.at (b := w.heap.size + 1) (n := k) (f := cutF (k : Int) (idF s)) (by simp)).ld
      obtain ⟨W4, hs4, hR4, hO4⟩ := (hX.at (b := w.heap.size) (n := 0) (f := zf) (by simp)).put k (cutF (k : Int) (idF s))
      have hB4 := below_only hX.1 hO4 (Nat.le_refl _)
      clear hX hO4
      go_wp2
      refine bodyPost_ret (results_rel rfl _ _ _ _ _ rfl hR4) rfl ?_
      exact ⟨rfl, hB4⟩

/-! ### through, Back -/
/-- Is there an item between the two? -/
def thruK (f g : Nat → Nat) (a c k : Nat) : Bool := (List.range k).any fun b => (f a).testBit b && (g b).testBit c
theorem thruK_succ (f g : Nat → Nat) (a c k : Nat) : thruK f g a c (k + 1) = (thruK f g a c k || ((f a).testBit k && (g k).testBit c)) := by simp [thruK, List.range_succ]
theorem thruK_mono (f g : Nat → Nat) (a c : Nat) {k m : Nat} (h : k ≤ m) (hk : thruK f g a c k = true) : thruK f g a c m = true := by
  unfold thruK at *
  rw [List.any_eq_true] at *
  obtain ⟨x, hx, hp⟩ := hk
  exact ⟨x, List.mem_range.2 (by have := List.mem_range.1 hx; omega), hp⟩
set_option maxRecDepth 100000 in
set_option maxHeartbeats 4000000 in
theorem refThrough_ok (N : Nat) (f g : Nat → Nat) (hN : N ≤ 48) (hf : R64 f) (hg : R64 g) (a c : Nat) (ha : a < 48) (hc : c < 48) (m : Int) (w : World) :
    Calls Tryd.prog 85 #[.agg (relC N f), .agg (relC m g), .int .i64 (a : Int), .int .i64 (c : Int)] w fun e w' => e = .returned (.bool (thruK f g a c N)) ∧ Below w.heap.size w w' := by
  have hA := (RelAt.new w N f).alloc (.cells (relC m g) 26)
  have hM := RelAt.new (w.alloc (.cells (relC N f) 26)) m g
  rw [World.size_alloc] at hM
  have hB := thru (below_new w (.cells (relC N f) 26)) (below_new _ (.cells (relC m g) 26))
  have CF := Lib.hid (fun w b (hb : b < 64) => refHas (f a) b (hf a) hb w)
  have CG := Lib.hid (fun w b => refHas (g b) c (hg b) (by omega) w)
  have c1 := hA.row a ha
  have n1 := hA.num
  have za : (a : Int) < 48 := by omega
  have Hr := Lib.hid (fun b (hb : b < 48) => hM.row b hb)
  clear hA hM
  go_enter Tryd.func85, Tryd.ntmps85
  go_wp2
  generalize (w.alloc (.cells (relC N f) 26)).alloc (.cells (relC m g) 26) = W0 at *
  go_loopw [9] (fun i W => ∃ k : Nat, k ≤ N ∧ i = .int .i64 k ∧ W0 = W ∧ Hid (thruK f g a c k = false)) (fun i _ => N - (intOf i).toNat)
  case atStart => exact ⟨0, by omega, rfl, by first | rfl | trivial, Lib.hid (by simp [thruK])⟩
  case round =>
    obtain ⟨k, hk, rfl, rfl, hno⟩ := hrel
    by_cases hkN : k < N
    · have tk : decide (k < N) = true := by simpa using hkN
      have zk : (k : Int) < 48 := by omega
      have r1 := Hr.out k (by omega)
      have cF := CF.out W0 k (by omega)
      have cG := CG.out W0 k
      have hsucc := thruK_succ f g a c k
      rw [hno.out, Bool.false_or] at hsucc
      cases hb1 : (f a).testBit k
      · rw [hb1] at cF hsucc
        replace cF := Lib.hid cF
        replace hsucc := Lib.hid hsucc
        clear hb1 cG
        go_wp2_with fail
        refine cF.out.mono ?_
        rintro e w1 ⟨rfl, rfl⟩
        go_wp2
        go_roundw
        case rel => exact ⟨k + 1, by omega, by go_num, trivial, Lib.hid hsucc.out⟩
        case measure => simp [intOf]; omega
      · rw [hb1] at cF hsucc
        replace cF := Lib.hid cF
        clear hb1
        cases hb2 : (g k).testBit c
        · rw [hb2] at cG hsucc
          replace cG := Lib.hid cG
          replace hsucc := Lib.hid hsucc
          clear hb2
          go_wp2_with fail
          refine cF.out.mono ?_
          rintro e w1 ⟨rfl, rfl⟩
          go_wp2_with fail
          refine cG.out.mono ?_
          rintro e w1 ⟨rfl, rfl⟩
          go_wp2
          go_roundw
          case rel => exact ⟨k + 1, by omega, by go_num, trivial, Lib.hid hsucc.out⟩
          case measure => simp [intOf]; omega
        · rw [hb2] at cG hsucc
          replace cG := Lib.hid cG
          have hv := Lib.hid (thruK_mono f g a c (show k + 1 ≤ N by omega) hsucc)
          clear hb2 hsucc
          go_wp2_with fail
          refine cF.out.mono ?_
          rintro e w1 ⟨rfl, rfl⟩
          go_wp2_with fail
          refine cG.out.mono ?_
          rintro e w1 ⟨rfl, rfl⟩
          go_wp2
          go_ret
          rw [hv.out]
          exact ⟨rfl, hB⟩
    · obtain rfl : k = N := by omega
      go_wp2
      go_ret
      rw [hno.out]
      exact ⟨rfl, hB⟩

def backP (f : Nat → Nat) : Nat → Nat → Bool := fun a b => (f b).testBit a
set_option maxRecDepth 100000 in
set_option maxHeartbeats 4000000 in
theorem refBack_bad (n : Int) (f : Nat → Nat) (hf : R64 f) (hb : rightB n f = false) (w : World) :
    Calls Tryd.prog 35 #[.agg (relC n f)] w fun e w' => e = .returned (.agg (relC 0 zf)) ∧ Below w.heap.size w w' := by
  have HR := Lib.hid (fun w => show Calls Tryd.prog 17 #[.agg (relC n f)] w fun e w' => e = .returned (.bool false) ∧ Below w.heap.size w w' by have := refRight_any n f hf w; rwa [hb] at this)
  have hA := (RelAt.new w n f).alloc (.cells (relC 0 zf) 26)
  have hZ := RelAt.new (w.alloc (.cells (relC n f) 26)) 0 zf
  rw [World.size_alloc] at hZ
  have hB := thru (below_new w (.cells (relC n f) 26)) (below_new _ (.cells (relC 0 zf) 26))
  have l1 := hA.ld
  go_enter Tryd.func35, Tryd.ntmps35
  go_wp2_with fail
  refine (HR.out _).mono ?_
  rintro e w1 ⟨rfl, h⟩
  obtain ⟨W3, hs3, hR3, hO3⟩ := (hZ.on h).put 0 zf
  have hB3 := below_only (thru hB h) hO3 (by omega)
  clear hA hZ hB hO3 h l1
  go_wp2
  refine bodyPost_ret (results_rel rfl _ _ _ _ _ rfl hR3) rfl ?_
  exact ⟨rfl, hB3⟩
set_option maxRecDepth 100000 in
set_option maxHeartbeats 4000000 in
theorem refBack_ok (N : Nat) (f : Nat → Nat) (hf : R64 f) (hr : Rgt N f) (w : World) :
    Calls Tryd.prog 35 #[.agg (relC N f)] w fun e w' => e = .returned (.agg (relC N (fillF (backP f) N N 0))) ∧ Below w.heap.size w w' := by
  have hN := hr.le
  have HR := Lib.hid (fun w => show Calls Tryd.prog 17 #[.agg (relC N f)] w fun e w' => e = .returned (.bool true) ∧ Below w.heap.size w w' by have := refRight_any N f hf w; rwa [show rightB (N : Int) f = true from hr] at this)
  have CF := Lib.hid (fun w a b (hb : b < 64) => refHas (f a) b (hf a) hb w)
  have hA := (RelAt.new w N f).alloc (.cells (relC 0 zf) 26)
  have hZ := RelAt.new (w.alloc (.cells (relC N f) 26)) 0 zf
  rw [World.size_alloc] at hZ
  have hB := thru (below_new w (.cells (relC N f) 26)) (below_new _ (.cells (relC 0 zf) 26))
  have l1 := hA.ld
  go_enter Tryd.func35, Tryd.ntmps35
  go_wp2_with fail
  refine (HR.out _).mono ?_
  rintro e w1 ⟨rfl, h⟩
  have hX : Kept w w1 [(w.heap.size + 1, (0 : Int), zf), (w.heap.size, (N : Int), f)] := by
    refine ⟨thru hB h, ?_⟩
    simp only [List.mem_cons, List.not_mem_nil, or_false]
    rintro p (rfl | rfl)
    · exact hZ.on h
    · exact hA.on h
  clear h l1 hA hZ hB
  have n1 := (hX.at (b := w.heap.size) (n := N) (f := f) (by simp)).num
  obtain ⟨W3, hs3, hu, h3, -⟩ := Ex.lay w1 N zf
  have hlt1 := (hX.at (b := w.heap.size + 1) (n := 0) (f := zf) (by simp)).lt
  have hsz := hX.1.size
  rw [← fill_start (backP f) N] at hu
  replace hX := (hX.on h3).cons hu
  have hs3' := hs3
  clear h3 hu
  generalize hbr : w1.heap.size = br at *
  have ne1 : w.heap.size + 1 ≠ br := by omega
  have ne2 : w.heap.size ≠ br := by omega
  go_wp2
  clear hs3 hs3' n1
  go_loopw [4] (fun i W => ∃ k : Nat, k ≤ N ∧ i = .int .i64 k ∧ Kept w W [(br, (N : Int), fillF (backP f) N k 0), (w.heap.size + 1, 0, zf), (w.heap.size, (N : Int), f)]) (fun i _ => N - (intOf i).toNat)
  case atStart => exact ⟨0, by omega, rfl, hX⟩
  case round =>
    clear hX
    obtain ⟨k, hk, rfl, hX⟩ := hrel
    have n1 := (hX.at (b := w.heap.size) (n := N) (f := f) (by simp)).num
    by_cases hkN : k < N
    · have tk : decide (k < N) = true := by simpa using hkN
      go_wp2
      clear n1
      go_loopw [5] (fun j W => ∃ m : Nat, m ≤ N ∧ j = .int .i64 m ∧ Kept w W [(br, (N : Int), fillF (backP f) N k m), (w.heap.size + 1, 0, zf), (w.heap.size, (N : Int), f)]) (fun j _ => N - (intOf j).toNat)
      case atStart => exact ⟨0, by omega, rfl, hX⟩
      case round =>
        clear hX
        obtain ⟨m, hm, rfl, hX⟩ := hrel
        have n1 := (hX.at (b := w.heap.size) (n := N) (f := f) (by simp)).num
        by_cases hmN : m < N
        · have tm : decide (m < N) = true := by simpa using hmN
          have zm : (m : Int) < 48 := by omega
          have r1 := (hX.at (b := w.heap.size) (n := N) (f := f) (by simp)).row m (by omega)
          have cF := CF.out wr m k (by omega)
          have cW := Lib.hid (fun h w => wstep (n := (N : Int)) (p := backP f) hN hkN hmN h w)
          have hno := Lib.hid (fill_no (backP f) N k m)
          have hl := (hX.at (b := br) (n := N) (f := fillF (backP f) N k m) (by simp))
          have l1 := hl.ld
          have hcr : backP f k m = (f m).testBit k := rfl
          rw [hcr] at cW hno
          have hXh := Lib.hid hX
          have hlh := Lib.hid hl
          clear hX hl hcr
          cases hb1 : (f m).testBit k
          · rw [hb1] at cF cW hno
            have e := Lib.hid (hno.out rfl)
            replace cF := Lib.hid cF
            clear hb1 cW hno
            go_wp2_with fail
            refine cF.out.mono ?_
            rintro e w1 ⟨rfl, rfl⟩
            go_wp2
            go_roundw
            case rel => exact ⟨m + 1, by omega, by go_num, by rw [← e.out]; exact hXh.out⟩
            case measure => simp [intOf]; omega
          · rw [hb1] at cF cW
            replace cF := Lib.hid cF
            have cW' := Lib.hid (cW.out rfl)
            clear hb1 cW hno
            go_wp2_with fail
            refine cF.out.mono ?_
            rintro e w1 ⟨rfl, rfl⟩
            go_wp2_with fail
            clear l1 n1 r1
            refine (cW'.out _).mono ?_
            rintro e w1 ⟨rfl, h⟩
            obtain ⟨W4, hs4, hR4, hO4⟩ := (hlh.out.on h).put N (fillF (backP f) N k (m + 1))
            have hX4 := (((hXh.out.on h).less (l' := [(w.heap.size + 1, 0, zf), (w.heap.size, (N : Int), f)]) (by simp)).only hO4 (by omega) (by simp only [List.mem_cons, List.not_mem_nil, or_false]; rintro p (rfl | rfl) <;> assumption)).cons hR4
            clear h hR4 hO4
            go_wp2
            go_roundw
            case rel => exact ⟨m + 1, by omega, by go_num, hX4⟩
            case measure => simp [intOf]; omega
        · obtain rfl : m = N := by omega
          go_wp2
          go_roundw
          case rel => exact ⟨k + 1, by omega, by go_num, by rw [← fill_next]; exact hX⟩
          case measure => simp [intOf]; omega
    · obtain rfl : k = N := by omega
      have l1 := (hX.at (b := br) (n := k) (f := fillF (backP f) k k 0) (by simp)).ld
      obtain ⟨W4, hs4, hR4, hO4⟩ := (hX.at (b := w.heap.size + 1) (n := 0) (f := zf) (by simp)).put k (fillF (backP f) k k 0)
      have hB4 := below_only hX.1 hO4 (by omega)
      clear hX hO4
      go_wp2
      refine bodyPost_ret (results_rel rfl _ _ _ _ _ rfl hR4) rfl ?_
      exact ⟨rfl, hB4⟩
end Go.Proofs.YtnfkedcbhjbhkaaDoor
