/- RefRel1, RefRel2, RelPairsAlg, RelPairsAid, RefRel3 in one text, for the claim. -/
import Derived.Test.YtpbljciblgcgfaaDoorOt4
import Derived.Test.YtpbljciblgcgfaaDoorOt1
import Derived.Test.YtpbljciblgcgfaaDoorRelAid2
import Derived.Deep.DeepCutAuto
import Derived.Deep.RegionWith
import Derived.Test.YtpbljciblgcgfaaDoorOt2

section
/- The document's answers for layer 2: Right, Has, Cross, Id. -/
namespace Go.Proofs.YtpbljciblgcgfaaDoor
open Go.RowKit Go.Shelf

attribute [local go_sem] Oper.semAt_some

theorem rightB_of {n : Int} {f : Nat → Nat} (hf : R64 f) : rightB n f = true ↔ (0 ≤ n ∧ n ≤ 48) ∧ ∀ a, a < 48 → ∀ b, b < 64 → (f a).testBit b = true → (a : Int) < n ∧ (b : Int) < n := by
  constructor
  · intro h
    have h0 := (rightB_iff.1 h).1
    refine ⟨h0, fun a ha b _ hb => ?_⟩
    have hr : Rgt n.toNat f := by unfold Rgt; rwa [Int.toNat_of_nonneg h0.1]
    have := (rgt_iff.1 hr).2 a ha b hb
    omega
  · rintro ⟨h0, h⟩
    have hr : Rgt n.toNat f := rgt_iff.2 ⟨by omega, fun a ha b hb => by
      have := h a ha b (bit_lt (hf a) hb) hb
      omega⟩
    unfold Rgt at hr
    rwa [Int.toNat_of_nonneg h0.1] at hr

set_option maxRecDepth 100000 in
set_option maxHeartbeats 4000000 in
theorem refRight_any (n : Int) (f : Nat → Nat) (hf : R64 f) (w : World) :
    Calls Tryd.prog 13 #[.agg (relC n f)] w fun e w' => e = .returned (.bool (rightB n f)) ∧ Below w.heap.size w w' := by
  have hr := Lib.hid (rightB_of (n := n) hf)
  have hA := RelAt.new w n f
  have hB := below_new w (.cells (relC n f) 26)
  have n1 := hA.num
  by_cases h0 : n < 0
  · have hv := Lib.hid (show rightB n f = false by rw [Bool.eq_false_iff]; intro h; have := (hr.out.1 h).1; omega)
    go_enter Tryd.func13, Tryd.ntmps13
    go_wp2
    go_ret
    rw [hv.out]
    exact ⟨rfl, hB⟩
  · by_cases h1 : 48 < n
    · have hv := Lib.hid (show rightB n f = false by rw [Bool.eq_false_iff]; intro h; have := (hr.out.1 h).1; omega)
      go_enter Tryd.func13, Tryd.ntmps13
      go_wp2
      go_ret
      rw [hv.out]
      exact ⟨rfl, hB⟩
    · obtain ⟨N, rfl⟩ : ∃ N : Nat, n = (N : Int) := ⟨n.toNat, by omega⟩
      have hN : N ≤ 48 := by omega
      have CH := Lib.hid (fun w a b (hb : b < 64) => refHas (f a) b (hf a) hb w)
      have hAh := Lib.hid hA
      clear hA h0 h1
      generalize hW : w.alloc (.cells (relC N f) 26) = W0 at *
      have hAW : RelAt W0 w.heap.size N f := hAh.out
      have Hh := Lib.hid hAW
      clear hAh hAW
      have hn : W0.cell? ⟨w.heap.size, 0, none⟩ = some (.int .i64 (N : Int)) := Hh.out.num
      go_enter Tryd.func13, Tryd.ntmps13
      go_wp2
      go_loopw [3] (fun i W => ∃ k : Nat, k ≤ 48 ∧ i = .int .i64 k ∧ W0 = W ∧ Hid (∀ a, a < k → ∀ b, b < 64 → (f a).testBit b = true → (a : Int) < N ∧ (b : Int) < N)) (fun i _ => 48 - (intOf i).toNat)
      case atStart => exact ⟨0, by omega, rfl, rfl, Lib.hid (fun a h => by omega)⟩
      case round =>
        obtain ⟨k, hk, rfl, rfl, hall⟩ := hrel
        by_cases hk48 : k < 48
        · have c1 := Hh.out.row k hk48
          have t1 : decide ((k : Int) < 48) = true := by simp; omega
          have CK := Lib.hid (fun w b hb => CH.out w k b hb)
          go_wp2
          go_loopw [4] (fun j W => ∃ m : Nat, m ≤ 64 ∧ j = .int .i64 m ∧ W0 = W ∧ Hid (∀ b, b < m → (f k).testBit b = true → (k : Int) < N ∧ (b : Int) < N)) (fun j _ => 64 - (intOf j).toNat)
          case atStart => exact ⟨0, by omega, rfl, rfl, Lib.hid (fun a h => by omega)⟩
          case round =>
            obtain ⟨m, hm, rfl, rfl, hrow⟩ := hrel
            by_cases hm64 : m < 64
            · have cH := CK.out W0 m hm64
              have hstep : ∀ (h : (f k).testBit m = true → (k : Int) < N ∧ (m : Int) < N), Hid (∀ b, b < m + 1 → (f k).testBit b = true → (k : Int) < N ∧ (b : Int) < N) := fun h => Lib.hid fun b hb => by
                by_cases he : b = m
                · subst he; exact h
                · exact hrow.out b (by omega)
              have hbad : (f k).testBit m = true → ¬ ((k : Int) < N ∧ (m : Int) < N) → rightB N f = false := fun h1 h2 => by
                rw [Bool.eq_false_iff]; intro h; exact h2 ((hr.out.1 h).2 k hk48 m hm64 h1)
              replace hstep := Lib.hid hstep
              replace hbad := Lib.hid hbad
              cases hb : (f k).testBit m
              · rw [hb] at cH hstep hbad
                have hs := Lib.hid (hstep.out (fun h => by cases h))
                replace cH := Lib.hid cH
                clear hb hbad hstep
                go_wp2_with fail
                refine cH.out.mono ?_
                rintro e w1 ⟨rfl, rfl⟩
                go_wp2
                go_roundw
                case rel => exact ⟨m + 1, by omega, by go_num, trivial, hs.out⟩
                case measure => simp [intOf]; omega
              · rw [hb] at cH hstep hbad
                replace cH := Lib.hid cH
                clear hb
                by_cases h1 : N ≤ k
                · have hv := Lib.hid (hbad.out rfl (by omega))
                  clear hbad hstep
                  go_wp2_with fail
                  refine cH.out.mono ?_
                  rintro e w1 ⟨rfl, rfl⟩
                  go_wp2
                  go_ret
                  rw [hv.out]
                  exact ⟨rfl, hB⟩
                · by_cases h2 : N ≤ m
                  · have hv := Lib.hid (hbad.out rfl (by omega))
                    clear hbad hstep
                    go_wp2_with fail
                    refine cH.out.mono ?_
                    rintro e w1 ⟨rfl, rfl⟩
                    go_wp2
                    go_ret
                    rw [hv.out]
                    exact ⟨rfl, hB⟩
                  · have hs := Lib.hid (hstep.out (fun _ => by omega))
                    clear hbad hstep
                    go_wp2_with fail
                    refine cH.out.mono ?_
                    rintro e w1 ⟨rfl, rfl⟩
                    go_wp2
                    go_roundw
                    case rel => exact ⟨m + 1, by omega, by go_num, trivial, hs.out⟩
                    case measure => simp [intOf]; omega
            · obtain rfl : m = 64 := by omega
              go_wp2
              go_roundw
              case rel => exact ⟨k + 1, by omega, by go_num, trivial, Lib.hid (fun a ha b hb => by
                by_cases he : a = k
                · subst he; exact hrow.out b hb
                · exact hall.out a (by omega) b hb)⟩
              case measure => simp [intOf]; omega
        · obtain rfl : k = 48 := by omega
          have hv := Lib.hid (hr.out.2 ⟨by omega, hall.out⟩)
          go_wp2
          go_ret
          rw [hv.out]
          exact ⟨rfl, hB⟩
end Go.Proofs.YtpbljciblgcgfaaDoor
end

section
/- The document's answers for layer 2: Cross, Id. -/
namespace Go.Proofs.YtpbljciblgcgfaaDoor
open Go.RowKit Go.Shelf

attribute [local go_sem] Oper.semAt_some

/-- The pairs of a set with another. -/
def crossP (s t : Nat) : Nat → Nat → Bool := fun a b => s.testBit a && t.testBit b
def idP (s : Nat) : Nat → Nat → Bool := fun a b => s.testBit a && decide (a = b)
theorem wstep {n : Int} {p : Nat → Nat → Bool} {N a b : Nat} (hN : N ≤ 48) (ha : a < N) (hb : b < N) (h : p a b = true) (w : World) :
    Calls Tryd.prog 72 #[.agg (relC n (fillF p N a b)), .int .i64 (a : Int), .int .i64 (b : Int)] w fun e w' => e = .returned (.agg (relC n (fillF p N a (b + 1)))) ∧ Below w.heap.size w w' := by
  have := refwith_any n (fillF p N a b) (fill_64 p hN (by omega)) a b (by omega) (by omega) w
  rwa [fill_yes p N a b h] at this

set_option maxRecDepth 100000 in
set_option maxHeartbeats 4000000 in
theorem refCross_bad (n : Int) (s t : Nat) (h01 : n < 0 ∨ 48 < n) (w : World) :
    Calls Tryd.prog 19 #[.int .i64 n, .int .u64 (s : Int), .int .u64 (t : Int)] w fun e w' => e = .returned (.agg (relC 0 zf)) ∧ Below w.heap.size w w' := by
  have hZ := RelAt.new w 0 zf
  have hB := below_new w (.cells (relC 0 zf) 26)
  obtain ⟨W3, hs3, hR3, hO3⟩ := hZ.put 0 zf
  have hB3 := below_only hB hO3 (Nat.le_refl _)
  clear hZ hB hO3
  rcases h01 with h0 | h0
  all_goals
    go_enter Tryd.func19, Tryd.ntmps19
    go_wp2
    refine bodyPost_ret (results_rel rfl _ _ _ _ _ rfl hR3) rfl ?_
    exact ⟨rfl, hB3⟩
set_option maxRecDepth 100000 in
set_option maxHeartbeats 4000000 in
theorem refCross_ok (N s t : Nat) (hN : N ≤ 48) (hs : s < 2 ^ 64) (ht : t < 2 ^ 64) (w : World) :
    Calls Tryd.prog 19 #[.int .i64 (N : Int), .int .u64 (s : Int), .int .u64 (t : Int)] w fun e w' => e = .returned (.agg (relC N (fillF (crossP s t) N N 0))) ∧ Below w.heap.size w w' := by
  have hZ := RelAt.new w 0 zf
  have hB := below_new w (.cells (relC 0 zf) 26)
  have CS := Lib.hid (fun w b (hb : b < 64) => refHas s b hs hb w)
  have CT := Lib.hid (fun w b (hb : b < 64) => refHas t b ht hb w)
  obtain ⟨W3, hs3, hR3, h3, hz3⟩ := Ex.lay (w.alloc (.cells (relC 0 zf) 26)) N zf
  have hX : Kept w W3 [(w.heap.size + 1, (N : Int), fillF (crossP s t) N 0 0), (w.heap.size, 0, zf)] := by
    refine ⟨thru hB h3, ?_⟩
    simp only [List.mem_cons, List.not_mem_nil, or_false]
    rintro p (rfl | rfl)
    · rw [fill_start]; rwa [World.size_alloc] at hR3
    · exact hZ.on h3
  rw [World.size_alloc] at hs3
  clear hR3 h3 hz3 hZ hB
  have t1 : decide ((N : Int) < 0) = false := by simp
  have t2 : decide (48 < (N : Int)) = false := by simp; omega
  have le1 : w.heap.size ≤ w.heap.size + 1 := by omega
  have ne1 : w.heap.size ≠ w.heap.size + 1 := by omega
  go_enter Tryd.func19, Tryd.ntmps19
  go_wp2
  clear hs3
  go_loopw [8] (fun i W => ∃ k : Nat, k ≤ N ∧ i = .int .i64 k ∧ Kept w W [(w.heap.size + 1, (N : Int), fillF (crossP s t) N k 0), (w.heap.size, 0, zf)]) (fun i _ => N - (intOf i).toNat)
  case atStart => exact ⟨0, by omega, rfl, hX⟩
  case round =>
    clear hX
    obtain ⟨k, hk, rfl, hX⟩ := hrel
    by_cases hkN : k < N
    · have tk : decide (k < N) = true := by simpa using hkN
      go_wp2
      go_loopw [9] (fun j W => ∃ m : Nat, m ≤ N ∧ j = .int .i64 m ∧ Kept w W [(w.heap.size + 1, (N : Int), fillF (crossP s t) N k m), (w.heap.size, 0, zf)]) (fun j _ => N - (intOf j).toNat)
      case atStart => exact ⟨0, by omega, rfl, hX⟩
      case round =>
        clear hX
        obtain ⟨m, hm, rfl, hX⟩ := hrel
        by_cases hmN : m < N
        · have tm : decide (m < N) = true := by simpa using hmN
          have cS := CS.out wr k (by omega)
          have cT := CT.out wr m (by omega)
          have cW := Lib.hid (fun h w => wstep (n := (N : Int)) (p := crossP s t) hN hkN hmN h w)
          have hno := Lib.hid (fill_no (crossP s t) N k m)
          have hl := (hX.at (b := w.heap.size + 1) (n := N) (f := fillF (crossP s t) N k m) (by simp))
          have l1 := hl.ld
          have hcr : crossP s t k m = (s.testBit k && t.testBit m) := rfl
          rw [hcr] at cW hno
          have hXh := Lib.hid hX
          have hlh := Lib.hid hl
          clear hX hl hcr
          cases hb1 : s.testBit k
          · rw [hb1] at cS cW hno
            have e := Lib.hid (hno.out rfl)
            replace cS := Lib.hid cS
            clear hb1 cW hno cT
            go_wp2_with fail
            refine cS.out.mono ?_
            rintro e w1 ⟨rfl, rfl⟩
            go_wp2
            go_roundw
            case rel => exact ⟨m + 1, by omega, by go_num, by rw [← e.out]; exact hXh.out⟩
            case measure => simp [intOf]; omega
          · rw [hb1] at cS cW hno
            replace cS := Lib.hid cS
            clear hb1
            cases hb2 : t.testBit m
            · rw [hb2] at cT cW hno
              have e := Lib.hid (hno.out rfl)
              replace cT := Lib.hid cT
              clear hb2 cW hno
              go_wp2_with fail
              refine cS.out.mono ?_
              rintro e w1 ⟨rfl, rfl⟩
              go_wp2_with fail
              refine cT.out.mono ?_
              rintro e w1 ⟨rfl, rfl⟩
              go_wp2
              go_roundw
              case rel => exact ⟨m + 1, by omega, by go_num, by rw [← e.out]; exact hXh.out⟩
              case measure => simp [intOf]; omega
            · rw [hb2] at cT cW
              replace cT := Lib.hid cT
              have cW' := Lib.hid (cW.out rfl)
              clear hb2 cW hno
              go_wp2_with fail
              refine cS.out.mono ?_
              rintro e w1 ⟨rfl, rfl⟩
              go_wp2_with fail
              refine cT.out.mono ?_
              rintro e w1 ⟨rfl, rfl⟩
              go_wp2_with fail
              clear l1
              refine (cW'.out _).mono ?_
              rintro e w1 ⟨rfl, h⟩
              obtain ⟨W4, hs4, hR4, hO4⟩ := (hlh.out.on h).put N (fillF (crossP s t) N k (m + 1))
              have hX4 := (((hXh.out.on h).less (l' := [(w.heap.size, 0, zf)]) (by simp)).only hO4 le1 (by simp)).cons hR4
              clear h hR4 hO4
              go_wp2
              go_roundw
              case rel => exact ⟨m + 1, by omega, by go_num, hX4⟩
              case measure => simp [intOf]; omega
        · obtain rfl : m = N := by omega
          go_wp2
          go_roundw
          case rel => exact ⟨k + 1, by omega, by go_num, by rw [← fill_next]; exact hX⟩
          case measure => simp [intOf]; omega
    · obtain rfl : k = N := by omega
      have l1 := (hX.at (b := w.heap.size + 1) (n := k) (f := fillF (crossP s t) k k 0) (by simp)).ld
      obtain ⟨W4, hs4, hR4, hO4⟩ := (hX.at (b := w.heap.size) (n := 0) (f := zf) (by simp)).put k (fillF (crossP s t) k k 0)
      have hB4 := below_only hX.1 hO4 (Nat.le_refl _)
      clear hX hO4
      go_wp2
      refine bodyPost_ret (results_rel rfl _ _ _ _ _ rfl hR4) rfl ?_
      exact ⟨rfl, hB4⟩

theorem cut_skip {F : Nat → Nat} {k : Nat} (h : F k = 0) : cutF (k : Int) F = cutF ((k + 1 : Nat) : Int) F := by
  funext i
  unfold cutF
  by_cases h1 : (i : Int) < k
  · rw [if_pos h1, if_pos (by omega)]
  · rw [if_neg h1]
    by_cases h2 : i = k
    · subst h2; rw [if_pos (by omega), h]
    · rw [if_neg (by omega)]
set_option maxRecDepth 100000 in
theorem refId_bad (n : Int) (s : Nat) (h01 : n < 0 ∨ 48 < n) (w : World) :
    Calls Tryd.prog 17 #[.int .i64 n, .int .u64 (s : Int)] w fun e w' => e = .returned (.agg (relC 0 zf)) ∧ Below w.heap.size w w' := by
  have hZ := RelAt.new w 0 zf
  have hB := below_new w (.cells (relC 0 zf) 26)
  obtain ⟨W3, hs3, hR3, hO3⟩ := hZ.put 0 zf
  have hB3 := below_only hB hO3 (Nat.le_refl _)
  clear hZ hB hO3
  rcases h01 with h0 | h0
  all_goals
    go_enter Tryd.func17, Tryd.ntmps17
    go_wp2
    refine bodyPost_ret (results_rel rfl _ _ _ _ _ rfl hR3) rfl ?_
    exact ⟨rfl, hB3⟩
set_option maxRecDepth 100000 in
set_option maxHeartbeats 4000000 in
theorem refId_ok (N s : Nat) (hN : N ≤ 48) (hs : s < 2 ^ 64) (w : World) :
    Calls Tryd.prog 17 #[.int .i64 (N : Int), .int .u64 (s : Int)] w fun e w' => e = .returned (.agg (relC N (cutF N (idF s)))) ∧ Below w.heap.size w w' := by
  have hZ := RelAt.new w 0 zf
  have hB := below_new w (.cells (relC 0 zf) 26)
  have CS := Lib.hid (fun w b (hb : b < 64) => refHas s b hs hb w)
  obtain ⟨W3, hs3, hR3, h3, hz3⟩ := Ex.lay (w.alloc (.cells (relC 0 zf) 26)) N zf
  have hX : Kept w W3 [(w.heap.size + 1, (N : Int), cutF ((0 : Nat) : Int) (idF s)), (w.heap.size, 0, zf)] := by
    refine ⟨thru hB h3, ?_⟩
    simp only [List.mem_cons, List.not_mem_nil, or_false]
    rintro p (rfl | rfl)
    · rw [show ((0 : Nat) : Int) = 0 by rfl, cutF_zero]; rwa [World.size_alloc] at hR3
    · exact hZ.on h3
  rw [World.size_alloc] at hs3
  clear hR3 h3 hz3 hZ hB
  have t1 : decide ((N : Int) < 0) = false := by simp
  have t2 : decide (48 < (N : Int)) = false := by simp; omega
  have le1 : w.heap.size ≤ w.heap.size + 1 := by omega
  have ne1 : w.heap.size ≠ w.heap.size + 1 := by omega
  go_enter Tryd.func17, Tryd.ntmps17
  go_wp2
  clear hs3
  go_loopw [6] (fun i W => ∃ k : Nat, k ≤ N ∧ i = .int .i64 k ∧ Kept w W [(w.heap.size + 1, (N : Int), cutF (k : Int) (idF s)), (w.heap.size, 0, zf)]) (fun i _ => N - (intOf i).toNat)
  case atStart => exact ⟨0, by omega, rfl, hX⟩
  case round =>
    clear hX
    obtain ⟨k, hk, rfl, hX⟩ := hrel
    by_cases hkN : k < N
    · have tk : decide (k < N) = true := by simpa using hkN
      have cS := CS.out wr k (by omega)
      have hl := (hX.at (b := w.heap.size + 1) (n := N) (f := cutF (k : Int) (idF s)) (by simp))
      have l1 := hl.ld
      have hXh := Lib.hid hX
      have hlh := Lib.hid hl
      clear hX hl
      cases hb1 : s.testBit k
      · rw [hb1] at cS
        have e := Lib.hid (cut_skip (F := idF s) (k := k) (by simp [idF, hb1]))
        replace cS := Lib.hid cS
        clear hb1
        go_wp2_with fail
        refine cS.out.mono ?_
        rintro e w1 ⟨rfl, rfl⟩
        go_wp2
        go_roundw
        case rel => exact ⟨k + 1, by omega, by go_num, by rw [← e.out]; exact hXh.out⟩
        case measure => simp [intOf]; omega
      · rw [hb1] at cS
        replace cS := Lib.hid cS
        obtain ⟨G, hG⟩ : ∃ G, G = cutF ((k + 1 : Nat) : Int) (idF s) := ⟨_, rfl⟩
        have cW := Lib.hid (fun w => show Calls Tryd.prog 72 #[.agg (relC N (cutF (k : Int) (idF s))), .int .i64 (k : Int), .int .i64 (k : Int)] w fun e w' => e = .returned (.agg (relC N G)) ∧ Below w.heap.size w w' by
          rw [hG]
          have := refwith_any N (cutF (k : Int) (idF s)) (idF_48 s k (by omega)) k k (by omega) (by omega) w
          rw [show cutF (k : Int) (idF s) k ||| 2 ^ k = idF s k by unfold cutF idF; rw [if_neg (by omega), if_pos hb1, Nat.zero_or], cutF_upd] at this
          exact this)
        clear hb1
        replace hG := Lib.hid hG
        go_wp2_with fail
        refine cS.out.mono ?_
        rintro e w1 ⟨rfl, rfl⟩
        go_wp2_with fail
        clear l1
        refine (cW.out _).mono ?_
        rintro e w1 ⟨rfl, h⟩
        obtain ⟨W4, hs4, hR4, hO4⟩ := (hlh.out.on h).put N G
        have hX4 := (((hXh.out.on h).less (l' := [(w.heap.size, 0, zf)]) (by simp)).only hO4 le1 (by simp)).cons hR4
        clear h hR4 hO4
        go_wp2
        go_roundw
        case rel => exact ⟨k + 1, by omega, by go_num, by rw [← hG.out]; exact hX4⟩
        case measure => simp [intOf]; omega
    · obtain rfl : k = N := by omega
      have l1 := (hX.at (b := w.heap.size + 1) (n := k) (f := cutF (k : Int) (idF s)) (by simp)).ld
      obtain ⟨W4, hs4, hR4, hO4⟩ := (hX.at (b := w.heap.size) (n := 0) (f := zf) (by simp)).put k (cutF (k : Int) (idF s))
      have hB4 := below_only hX.1 hO4 (Nat.le_refl _)
      clear hX hO4
      go_wp2
      refine bodyPost_ret (results_rel rfl _ _ _ _ _ rfl hR4) rfl ?_
      exact ⟨rfl, hB4⟩

/-! ### through, Back -/
/-- Is there an item between the two? -/
def thruK (f g : Nat → Nat) (a c k : Nat) : Bool := (List.range k).any fun b => (f a).testBit b && (g b).testBit c
theorem thruK_succ (f g : Nat → Nat) (a c k : Nat) : thruK f g a c (k + 1) = (thruK f g a c k || ((f a).testBit k && (g k).testBit c)) := by simp [thruK, List.range_succ]
theorem thruK_mono (f g : Nat → Nat) (a c : Nat) {k m : Nat} (h : k ≤ m) (hk : thruK f g a c k = true) : thruK f g a c m = true := by
  unfold thruK at *
  rw [List.any_eq_true] at *
  obtain ⟨x, hx, hp⟩ := hk
  exact ⟨x, List.mem_range.2 (by have := List.mem_range.1 hx; omega), hp⟩
set_option maxRecDepth 100000 in
set_option maxHeartbeats 4000000 in
theorem refThrough_ok (N : Nat) (f g : Nat → Nat) (hN : N ≤ 48) (hf : R64 f) (hg : R64 g) (a c : Nat) (ha : a < 48) (hc : c < 48) (m : Int) (w : World) :
    Calls Tryd.prog 80 #[.agg (relC N f), .agg (relC m g), .int .i64 (a : Int), .int .i64 (c : Int)] w fun e w' => e = .returned (.bool (thruK f g a c N)) ∧ Below w.heap.size w w' := by
  have hA := (RelAt.new w N f).alloc (.cells (relC m g) 26)
  have hM := RelAt.new (w.alloc (.cells (relC N f) 26)) m g
  rw [World.size_alloc] at hM
  have hB := thru (below_new w (.cells (relC N f) 26)) (below_new _ (.cells (relC m g) 26))
  have CF := Lib.hid (fun w b (hb : b < 64) => refHas (f a) b (hf a) hb w)
  have CG := Lib.hid (fun w b => refHas (g b) c (hg b) (by omega) w)
  have c1 := hA.row a ha
  have n1 := hA.num
  have za : (a : Int) < 48 := by omega
  have Hr := Lib.hid (fun b (hb : b < 48) => hM.row b hb)
  clear hA hM
  go_enter Tryd.func80, Tryd.ntmps80
  go_wp2
  generalize (w.alloc (.cells (relC N f) 26)).alloc (.cells (relC m g) 26) = W0 at *
  go_loopw [9] (fun i W => ∃ k : Nat, k ≤ N ∧ i = .int .i64 k ∧ W0 = W ∧ Hid (thruK f g a c k = false)) (fun i _ => N - (intOf i).toNat)
  case atStart => exact ⟨0, by omega, rfl, by first | rfl | trivial, Lib.hid (by simp [thruK])⟩
  case round =>
    obtain ⟨k, hk, rfl, rfl, hno⟩ := hrel
    by_cases hkN : k < N
    · have tk : decide (k < N) = true := by simpa using hkN
      have zk : (k : Int) < 48 := by omega
      have r1 := Hr.out k (by omega)
      have cF := CF.out W0 k (by omega)
      have cG := CG.out W0 k
      have hsucc := thruK_succ f g a c k
      rw [hno.out, Bool.false_or] at hsucc
      cases hb1 : (f a).testBit k
      · rw [hb1] at cF hsucc
        replace cF := Lib.hid cF
        replace hsucc := Lib.hid hsucc
        clear hb1 cG
        go_wp2_with fail
        refine cF.out.mono ?_
        rintro e w1 ⟨rfl, rfl⟩
        go_wp2
        go_roundw
        case rel => exact ⟨k + 1, by omega, by go_num, trivial, Lib.hid hsucc.out⟩
        case measure => simp [intOf]; omega
      · rw [hb1] at cF hsucc
        replace cF := Lib.hid cF
        clear hb1
        cases hb2 : (g k).testBit c
        · rw [hb2] at cG hsucc
          replace cG := Lib.hid cG
          replace hsucc := Lib.hid hsucc
          clear hb2
          go_wp2_with fail
          refine cF.out.mono ?_
          rintro e w1 ⟨rfl, rfl⟩
          go_wp2_with fail
          refine cG.out.mono ?_
          rintro e w1 ⟨rfl, rfl⟩
          go_wp2
          go_roundw
          case rel => exact ⟨k + 1, by omega, by go_num, trivial, Lib.hid hsucc.out⟩
          case measure => simp [intOf]; omega
        · rw [hb2] at cG hsucc
          replace cG := Lib.hid cG
          have hv := Lib.hid (thruK_mono f g a c (show k + 1 ≤ N by omega) hsucc)
          clear hb2 hsucc
          go_wp2_with fail
          refine cF.out.mono ?_
          rintro e w1 ⟨rfl, rfl⟩
          go_wp2_with fail
          refine cG.out.mono ?_
          rintro e w1 ⟨rfl, rfl⟩
          go_wp2
          go_ret
          rw [hv.out]
          exact ⟨rfl, hB⟩
    · obtain rfl : k = N := by omega
      go_wp2
      go_ret
      rw [hno.out]
      exact ⟨rfl, hB⟩

def backP (f : Nat → Nat) : Nat → Nat → Bool := fun a b => (f b).testBit a
set_option maxRecDepth 100000 in
set_option maxHeartbeats 4000000 in
theorem refBack_bad (n : Int) (f : Nat → Nat) (hf : R64 f) (hb : rightB n f = false) (w : World) :
    Calls Tryd.prog 31 #[.agg (relC n f)] w fun e w' => e = .returned (.agg (relC 0 zf)) ∧ Below w.heap.size w w' := by
  have HR := Lib.hid (fun w => show Calls Tryd.prog 13 #[.agg (relC n f)] w fun e w' => e = .returned (.bool false) ∧ Below w.heap.size w w' by have := refRight_any n f hf w; rwa [hb] at this)
  have hA := (RelAt.new w n f).alloc (.cells (relC 0 zf) 26)
  have hZ := RelAt.new (w.alloc (.cells (relC n f) 26)) 0 zf
  rw [World.size_alloc] at hZ
  have hB := thru (below_new w (.cells (relC n f) 26)) (below_new _ (.cells (relC 0 zf) 26))
  have l1 := hA.ld
  go_enter Tryd.func31, Tryd.ntmps31
  go_wp2_with fail
  refine (HR.out _).mono ?_
  rintro e w1 ⟨rfl, h⟩
  obtain ⟨W3, hs3, hR3, hO3⟩ := (hZ.on h).put 0 zf
  have hB3 := below_only (thru hB h) hO3 (by omega)
  clear hA hZ hB hO3 h l1
  go_wp2
  refine bodyPost_ret (results_rel rfl _ _ _ _ _ rfl hR3) rfl ?_
  exact ⟨rfl, hB3⟩
set_option maxRecDepth 100000 in
set_option maxHeartbeats 4000000 in
theorem refBack_ok (N : Nat) (f : Nat → Nat) (hf : R64 f) (hr : Rgt N f) (w : World) :
    Calls Tryd.prog 31 #[.agg (relC N f)] w fun e w' => e = .returned (.agg (relC N (fillF (backP f) N N 0))) ∧ Below w.heap.size w w' := by
  have hN := hr.le
  have HR := Lib.hid (fun w => show Calls Tryd.prog 13 #[.agg (relC N f)] w fun e w' => e = .returned (.bool true) ∧ Below w.heap.size w w' by have := refRight_any N f hf w; rwa [show rightB (N : Int) f = true from hr] at this)
  have CF := Lib.hid (fun w a b (hb : b < 64) => refHas (f a) b (hf a) hb w)
  have hA := (RelAt.new w N f).alloc (.cells (relC 0 zf) 26)
  have hZ := RelAt.new (w.alloc (.cells (relC N f) 26)) 0 zf
  rw [World.size_alloc] at hZ
  have hB := thru (below_new w (.cells (relC N f) 26)) (below_new _ (.cells (relC 0 zf) 26))
  have l1 := hA.ld
  go_enter Tryd.func31, Tryd.ntmps31
  go_wp2_with fail
  refine (HR.out _).mono ?_
  rintro e w1 ⟨rfl, h⟩
  have hX : Kept w w1 [(w.heap.size + 1, (0 : Int), zf), (w.heap.size, (N : Int), f)] := by
    refine ⟨thru hB h, ?_⟩
    simp only [List.mem_cons, List.not_mem_nil, or_false]
    rintro p (rfl | rfl)
    · exact hZ.on h
    · exact hA.on h
  clear h l1 hA hZ hB
  have n1 := (hX.at (b := w.heap.size) (n := N) (f := f) (by simp)).num
  obtain ⟨W3, hs3, hu, h3, -⟩ := Ex.lay w1 N zf
  have hlt1 := (hX.at (b := w.heap.size + 1) (n := 0) (f := zf) (by simp)).lt
  have hsz := hX.1.size
  rw [← fill_start (backP f) N] at hu
  replace hX := (hX.on h3).cons hu
  have hs3' := hs3
  clear h3 hu
  generalize hbr : w1.heap.size = br at *
  have ne1 : w.heap.size + 1 ≠ br := by omega
  have ne2 : w.heap.size ≠ br := by omega
  go_wp2
  clear hs3 hs3' n1
  go_loopw [4] (fun i W => ∃ k : Nat, k ≤ N ∧ i = .int .i64 k ∧ Kept w W [(br, (N : Int), fillF (backP f) N k 0), (w.heap.size + 1, 0, zf), (w.heap.size, (N : Int), f)]) (fun i _ => N - (intOf i).toNat)
  case atStart => exact ⟨0, by omega, rfl, hX⟩
  case round =>
    clear hX
    obtain ⟨k, hk, rfl, hX⟩ := hrel
    have n1 := (hX.at (b := w.heap.size) (n := N) (f := f) (by simp)).num
    by_cases hkN : k < N
    · have tk : decide (k < N) = true := by simpa using hkN
      go_wp2
      clear n1
      go_loopw [5] (fun j W => ∃ m : Nat, m ≤ N ∧ j = .int .i64 m ∧ Kept w W [(br, (N : Int), fillF (backP f) N k m), (w.heap.size + 1, 0, zf), (w.heap.size, (N : Int), f)]) (fun j _ => N - (intOf j).toNat)
      case atStart => exact ⟨0, by omega, rfl, hX⟩
      case round =>
        clear hX
        obtain ⟨m, hm, rfl, hX⟩ := hrel
        have n1 := (hX.at (b := w.heap.size) (n := N) (f := f) (by simp)).num
        by_cases hmN : m < N
        · have tm : decide (m < N) = true := by simpa using hmN
          have zm : (m : Int) < 48 := by omega
          have r1 := (hX.at (b := w.heap.size) (n := N) (f := f) (by simp)).row m (by omega)
          have cF := CF.out wr m k (by omega)
          have cW := Lib.hid (fun h w => wstep (n := (N : Int)) (p := backP f) hN hkN hmN h w)
          have hno := Lib.hid (fill_no (backP f) N k m)
          have hl := (hX.at (b := br) (n := N) (f := fillF (backP f) N k m) (by simp))
          have l1 := hl.ld
          have hcr : backP f k m = (f m).testBit k := rfl
          rw [hcr] at cW hno
          have hXh := Lib.hid hX
          have hlh := Lib.hid hl
          clear hX hl hcr
          cases hb1 : (f m).testBit k
          · rw [hb1] at cF cW hno
            have e := Lib.hid (hno.out rfl)
            replace cF := Lib.hid cF
            clear hb1 cW hno
            go_wp2_with fail
            refine cF.out.mono ?_
            rintro e w1 ⟨rfl, rfl⟩
            go_wp2
            go_roundw
            case rel => exact ⟨m + 1, by omega, by go_num, by rw [← e.out]; exact hXh.out⟩
            case measure => simp [intOf]; omega
          · rw [hb1] at cF cW
            replace cF := Lib.hid cF
            have cW' := Lib.hid (cW.out rfl)
            clear hb1 cW hno
            go_wp2_with fail
            refine cF.out.mono ?_
            rintro e w1 ⟨rfl, rfl⟩
            go_wp2_with fail
            clear l1 n1 r1
            refine (cW'.out _).mono ?_
            rintro e w1 ⟨rfl, h⟩
            obtain ⟨W4, hs4, hR4, hO4⟩ := (hlh.out.on h).put N (fillF (backP f) N k (m + 1))
            have hX4 := (((hXh.out.on h).less (l' := [(w.heap.size + 1, 0, zf), (w.heap.size, (N : Int), f)]) (by simp)).only hO4 (by omega) (by simp only [List.mem_cons, List.not_mem_nil, or_false]; rintro p (rfl | rfl) <;> assumption)).cons hR4
            clear h hR4 hO4
            go_wp2
            go_roundw
            case rel => exact ⟨m + 1, by omega, by go_num, hX4⟩
            case measure => simp [intOf]; omega
        · obtain rfl : m = N := by omega
          go_wp2
          go_roundw
          case rel => exact ⟨k + 1, by omega, by go_num, by rw [← fill_next]; exact hX⟩
          case measure => simp [intOf]; omega
    · obtain rfl : k = N := by omega
      have l1 := (hX.at (b := br) (n := k) (f := fillF (backP f) k k 0) (by simp)).ld
      obtain ⟨W4, hs4, hR4, hO4⟩ := (hX.at (b := w.heap.size + 1) (n := 0) (f := zf) (by simp)).put k (fillF (backP f) k k 0)
      have hB4 := below_only hX.1 hO4 (by omega)
      clear hX hO4
      go_wp2
      refine bodyPost_ret (results_rel rfl _ _ _ _ _ rfl hR4) rfl ?_
      exact ⟨rfl, hB4⟩
end Go.Proofs.YtpbljciblgcgfaaDoor
end

section
/- Lists of pairs, counted and turned: what the law of pairs says. -/
namespace Go.Proofs.YtpbljciblgcgfaaDoor
open Go.RowKit Go.Shelf

theorem count_or (l : List It) (p q : It → Bool) : (l.filter fun i => p i || q i).length + (l.filter fun i => p i && q i).length = (l.filter p).length + (l.filter q).length := by
  induction l with
  | nil => rfl
  | cons i l ih => simp only [List.filter_cons]; cases p i <;> cases q i <;> simp <;> omega
theorem count_diff (l : List It) (p q : It → Bool) : (l.filter fun i => p i && !q i).length + (l.filter fun i => p i && q i).length = (l.filter p).length := by
  induction l with
  | nil => rfl
  | cons i l ih => simp only [List.filter_cons]; cases p i <;> cases q i <;> simp <;> omega
theorem rowP_cnt (f : Nat → Nat) (a : It) : (rowP f a).length = (allIt.filter fun b => (f a.1).testBit b.1).length := by
  unfold rowP itS
  rw [List.length_map]
theorem pairs_or (f g : Nat → Nat) : ∀ k, k ≤ 48 → (pairsK (unionF f g) k).length + (pairsK (bothF f g) k).length = (pairsK f k).length + (pairsK g k).length
  | 0, _ => by simp [pairsK_zero]
  | k + 1, h => by
    have ih := pairs_or f g k (by omega)
    have hc := count_or allIt (fun b => (f k).testBit b.1) (fun b => (g k).testBit b.1)
    rw [pairsK_succ _ k (by omega), pairsK_succ _ k (by omega), pairsK_succ _ k (by omega), pairsK_succ _ k (by omega)]
    simp only [List.length_append, rowP_cnt, unionF, bothF, Nat.testBit_or, Nat.testBit_and]
    omega
theorem pairs_less (f g : Nat → Nat) (hf : R64 f) (hg : R64 g) : ∀ k, k ≤ 48 → (pairsK (lessF f g) k).length + (pairsK (bothF f g) k).length = (pairsK f k).length
  | 0, _ => by simp [pairsK_zero]
  | k + 1, h => by
    have ih := pairs_less f g hf hg k (by omega)
    have hc := count_diff allIt (fun b => (f k).testBit b.1) (fun b => (g k).testBit b.1)
    have hl : ∀ b : It, (lessF f g k).testBit b.1 = ((f k).testBit b.1 && !(g k).testBit b.1) := by
      intro b
      have := bt_less hf hg k b.1
      unfold Bt at this
      rw [Bool.eq_iff_iff, this]
      simp
    rw [pairsK_succ _ k (by omega), pairsK_succ _ k (by omega), pairsK_succ _ k (by omega)]
    simp only [List.length_append, rowP_cnt, bothF, Nat.testBit_and, hl]
    omega

theorem bt_ofL (l : List (It × It)) (i j : Nat) : Bt (ofL (l.map itP)) i j ↔ ∃ x ∈ l, x.1.1 = i ∧ x.2.1 = j := by
  unfold ofL
  rw [List.foldl_map]
  have key : ∀ (l : List (It × It)) (g : Nat → Nat), (Bt (l.foldl (fun g x => upd g (itP x).1.toNat (g (itP x).1.toNat ||| 2 ^ (itP x).2.toNat)) g) i j ↔ Bt g i j ∨ ∃ x ∈ l, x.1.1 = i ∧ x.2.1 = j) := by
    intro l
    induction l with
    | nil => intro g; simp
    | cons a l ih =>
      intro g
      rw [List.foldl_cons, ih]
      have hu : Bt (upd g (itP a).1.toNat (g (itP a).1.toNat ||| 2 ^ (itP a).2.toNat)) i j ↔ Bt g i j ∨ (a.1.1 = i ∧ a.2.1 = j) := by
        unfold Bt upd itP
        rw [Int.toNat_natCast, Int.toNat_natCast]
        by_cases hi : i = a.1.1
        · subst hi
          rw [if_pos rfl, Nat.testBit_or, Nat.testBit_two_pow]
          simp
        · rw [if_neg hi]
          constructor
          · exact .inl
          · rintro (h | ⟨h, _⟩)
            · exact h
            · exact absurd h.symm hi
      rw [hu]
      constructor
      · rintro ((h | h) | ⟨x, hx, h⟩)
        · exact .inl h
        · exact .inr ⟨a, List.mem_cons_self, h⟩
        · exact .inr ⟨x, List.mem_cons_of_mem _ hx, h⟩
      · rintro (h | ⟨x, hx, h⟩)
        · exact .inl (.inl h)
        · rcases List.mem_cons.1 hx with rfl | hx
          · exact .inl (.inr h)
          · exact .inr ⟨x, hx, h⟩
  have := key l zf
  simpa [Bt, zf] using this

/-- A list of the pairs of a relation, in any order. -/
def SameP (A : Nat → Nat) (N : Nat) (l : List (It × It)) : Prop := ∀ x, x ∈ l ↔ x ∈ pairsK A N
theorem SameP.good {N : Nat} {A : Nat → Nat} {l : List (It × It)} (hA : Rgt N A) (h : SameP A N l) : ofB N (l.map itP) = true := by
  unfold ofB
  rw [Bool.and_eq_true]
  refine ⟨sizedB_iff.2 ⟨by omega, by have := hA.le; omega⟩, ?_⟩
  rw [List.all_eq_true]
  intro p hp
  obtain ⟨x, hx, rfl⟩ := List.mem_map.1 hp
  have h1 := mem_pairsK.1 ((h x).1 hx)
  have h2 := hA.snd x.1.2 h1.2
  unfold goodP itP
  rw [Bool.and_eq_true]
  exact ⟨itemB_iff.2 ⟨by simp, by simpa using h1.1⟩, itemB_iff.2 ⟨by simp, by simpa using h2⟩⟩
theorem SameP.twice {N : Nat} {A : Nat → Nat} {l : List (It × It)} (h : SameP A N l) : SameP A N (l ++ l) := fun x => by
  rw [List.mem_append, or_self]; exact h x
theorem SameP.of {N : Nat} {A : Nat → Nat} {l : List (It × It)} (hA : Rgt N A) (h : SameP A N l) : relB N N (ofL (l.map itP)) A = true :=
  relB_bits fun i j hi => by
    rw [bt_ofL]
    constructor
    · rintro ⟨x, hx, rfl, rfl⟩
      exact (mem_pairsK.1 ((h x).1 hx)).2
    · intro hb
      have h2 := hA.snd48 hi hb
      exact ⟨(⟨i, hi⟩, ⟨j, h2⟩), (h _).2 (mem_pairsK.2 ⟨hA.fst hi hb, hb⟩), rfl, rfl⟩
theorem sameP_turn (A : Nat → Nat) (N k : Nat) : SameP A N ((pairsK A N).drop k ++ (pairsK A N).take k) := fun x => by
  rw [List.mem_append, or_comm, ← List.mem_append, List.take_append_drop]
/-- The items that occur first, second. -/
def fstS (l : List (It × It)) : Nat := l.foldl (fun s x => s ||| 2 ^ x.1.1) 0
def sndS (l : List (It × It)) : Nat := l.foldl (fun s x => s ||| 2 ^ x.2.1) 0
theorem fold_bit (g : It × It → Nat) (l : List (It × It)) (j : Nat) : (l.foldl (fun s x => s ||| 2 ^ g x) 0).testBit j = true ↔ ∃ x ∈ l, g x = j := by
  have key : ∀ (l : List (It × It)) (s : Nat), ((l.foldl (fun s x => s ||| 2 ^ g x) s).testBit j = true ↔ s.testBit j = true ∨ ∃ x ∈ l, g x = j) := by
    intro l
    induction l with
    | nil => intro s; simp
    | cons a l ih =>
      intro s
      rw [List.foldl_cons, ih, Nat.testBit_or, Nat.testBit_two_pow]
      constructor
      · rintro (h | ⟨x, hx, h⟩)
        · rw [Bool.or_eq_true, decide_eq_true_iff] at h
          rcases h with h | h
          · exact .inl h
          · exact .inr ⟨a, List.mem_cons_self, h⟩
        · exact .inr ⟨x, List.mem_cons_of_mem _ hx, h⟩
      · rintro (h | ⟨x, hx, h⟩)
        · exact .inl (by rw [h]; rfl)
        · rcases List.mem_cons.1 hx with rfl | hx
          · exact .inl (by rw [Bool.or_eq_true, decide_eq_true_iff]; exact .inr h)
          · exact .inr ⟨x, hx, h⟩
  simpa using key l 0
theorem fstS_snoc (l : List (It × It)) (x : It × It) : fstS (l ++ [x]) = fstS l ||| 2 ^ x.1.1 := by simp [fstS, List.foldl_append]
theorem sndS_snoc (l : List (It × It)) (x : It × It) : sndS (l ++ [x]) = sndS l ||| 2 ^ x.2.1 := by simp [sndS, List.foldl_append]
theorem fstS_lt (l : List (It × It)) : fstS l < 2 ^ 48 := lt_of_bits fun j hj => by
  obtain ⟨x, _, rfl⟩ := (fold_bit (fun x => x.1.1) l j).1 hj
  exact x.1.2
theorem sndS_lt (l : List (It × It)) : sndS l < 2 ^ 48 := lt_of_bits fun j hj => by
  obtain ⟨x, _, rfl⟩ := (fold_bit (fun x => x.2.1) l j).1 hj
  exact x.2.2
theorem SameP.from {N : Nat} {A : Nat → Nat} {l : List (It × It)} (hA : Rgt N A) (h : SameP A N l) : fromK A N = fstS l := by
  apply Nat.eq_of_testBit_eq
  intro j
  rw [fromK_bit, Bool.eq_iff_iff]
  unfold fstS
  rw [fold_bit (fun x => x.1.1), Bool.and_eq_true, decide_eq_true_iff, decide_eq_true_iff]
  constructor
  · rintro ⟨hj, hne⟩
    have hj48 : j < 48 := by have := hA.le; omega
    have hex : ∃ k, Bt A j k := by
      refine Classical.byContradiction fun hn => hne (Nat.eq_of_testBit_eq fun k => ?_)
      rw [Nat.zero_testBit, Bool.eq_false_iff]
      exact fun hb => hn ⟨k, hb⟩
    obtain ⟨k, hk⟩ := hex
    exact ⟨(⟨j, hj48⟩, ⟨k, hA.snd48 hj48 hk⟩), (h _).2 (mem_pairsK.2 ⟨hj, hk⟩), rfl⟩
  · rintro ⟨x, hx, rfl⟩
    have hm := mem_pairsK.1 ((h x).1 hx)
    refine ⟨hm.1, fun h0 => ?_⟩
    have hb := hm.2
    unfold Bt at hb
    rw [h0, Nat.zero_testBit] at hb
    cases hb
theorem SameP.into {N : Nat} {A : Nat → Nat} {l : List (It × It)} (hA : Rgt N A) (h : SameP A N l) : imgF A (allOf (N : Int)).toNat = sndS l := by
  apply Nat.eq_of_testBit_eq
  intro j
  rw [Bool.eq_iff_iff, bt_img]
  unfold sndS
  rw [fold_bit (fun x => x.2.1)]
  constructor
  · rintro ⟨k, _, hk, hb⟩
    rw [allOf_bits N k hA.le, decide_eq_true_iff] at hk
    have hk48 : k < 48 := by have := hA.le; omega
    exact ⟨(⟨k, hk48⟩, ⟨j, hA.snd48 hk48 hb⟩), (h _).2 (mem_pairsK.2 ⟨hk, hb⟩), rfl⟩
  · rintro ⟨x, hx, rfl⟩
    have hm := mem_pairsK.1 ((h x).1 hx)
    exact ⟨x.1.1, by have := x.1.2; omega, by rw [allOf_bits N _ hA.le, decide_eq_true_iff]; exact hm.1, hm.2⟩
theorem SameP.has {N : Nat} {A : Nat → Nat} {l : List (It × It)} (hA : Rgt N A) (h : SameP A N l) (x : It × It) (hx : x ∈ l) : hasB N A (x.1.1 : Int) (x.2.1 : Int) = true := by
  have hm := mem_pairsK.1 ((h x).1 hx)
  have h2 := hA.snd x.1.2 hm.2
  unfold hasB
  rw [show rightB (N : Int) A = true from hA, itemB_iff.2 ⟨by omega, by have := hm.1; omega⟩, itemB_iff.2 ⟨by omega, by omega⟩, Int.toNat_natCast, Int.toNat_natCast]
  simpa using hm.2
end Go.Proofs.YtpbljciblgcgfaaDoor
end

section
/- Pairs of a right relation, and their cells. -/
namespace Go.Proofs.YtpbljciblgcgfaaDoor
open Go.RowKit Go.Shelf

theorem relPairs_ok {N : Nat} {f : Nat → Nat} (h1 : R64 f) (hf : Rgt N f) (w : World) (hT : Tab w) :
    Calls Tryd.prog 28 #[.agg (relC N f)] w fun e w' => ∃ v, e = .returned v ∧ w'.ownsRow w.heap.size 72 2 v (pairsK f N).length (pairCells (pairsK f N)) ∧ Below w.heap.size w w' := by
  have := relPairs_any N f w h1 hT
  rwa [show rightB (N : Int) f = true from hf, if_pos rfl, Int.toNat_natCast] at this
theorem pairCells_append (l m : List (It × It)) : pairCells (l ++ m) = pairCells l ++ pairCells m := by simp [pairCells, List.flatMap_append]
theorem pairCells_length (l : List (It × It)) : (pairCells l).length = l.length * 2 := by
  induction l with
  | nil => rfl
  | cons a l ih => rw [← List.singleton_append, pairCells_append, List.length_append, ih]; simp [pairCells]; omega
theorem pairCells_one (l : List (It × It)) : ∀ u ∈ pairCells l, u.oneCell' = true := by
  intro u hu
  obtain ⟨x, _, hx⟩ := List.mem_flatMap.1 hu
  simp at hx
  rcases hx with rfl | rfl <;> rfl
theorem pairCells_get (l : List (It × It)) (j : Nat) (h : j < l.length) : (pairCells l)[j * 2]? = some (.int .i64 (l[j].1.1 : Int)) ∧ (pairCells l)[j * 2 + 1]? = some (.int .i64 (l[j].2.1 : Int)) := by
  have := pairCells_at l j h
  rw [List.getElem?_map, List.getElem?_eq_getElem h] at this
  exact this
end Go.Proofs.YtpbljciblgcgfaaDoor
end

section
/- The document's answers for layer 2: Has, Of, Pairs, From, Into. -/
namespace Go.Proofs.YtpbljciblgcgfaaDoor
open Go.RowKit Go.Shelf

attribute [local go_sem] Oper.semAt_some

set_option maxRecDepth 100000 in
set_option maxHeartbeats 4000000 in
theorem refRelHas_any (n : Int) (f : Nat → Nat) (a b : Int) (hf : R64 f) (w : World) :
    Calls Tryd.prog 26 #[.agg (relC n f), .int .i64 a, .int .i64 b] w fun e w' => e = .returned (.bool (hasB n f a b)) ∧ Below w.heap.size w w' := by
  have hA := RelAt.new w n f
  have hB := below_new w (.cells (relC n f) 26)
  have l1 := hA.ld
  have HR := Lib.hid (refRight_any n f hf)
  cases hr : rightB n f
  · rw [hr] at HR
    have hv := Lib.hid (show hasB n f a b = false by simp [hasB, hr])
    clear hr
    go_enter Tryd.func26, Tryd.ntmps26
    go_wp2_with fail
    refine (HR.out _).mono ?_
    rintro e w1 ⟨rfl, h⟩
    go_wp2
    go_ret
    rw [hv.out]
    exact ⟨rfl, thru hB h⟩
  · rw [hr] at HR
    obtain ⟨⟨n0, n1⟩, -⟩ := rightB_iff.1 hr
    by_cases h1 : 0 ≤ a ∧ a < n ∧ 0 ≤ b ∧ b < n
    · obtain ⟨a0, a1, b0, b1⟩ := h1
      obtain ⟨x, rfl⟩ : ∃ x : Nat, a = (x : Int) := ⟨a.toNat, by omega⟩
      obtain ⟨y, rfl⟩ : ∃ y : Nat, b = (y : Int) := ⟨b.toNat, by omega⟩
      have hv := Lib.hid (show hasB n f (x : Int) (y : Int) = (f x).testBit y by
        unfold hasB
        rw [hr, itemB_iff.2 ⟨a0, a1⟩, itemB_iff.2 ⟨b0, b1⟩]
        simp)
      have CH := Lib.hid (fun w => refHas (f x) y (hf x) (by omega) w)
      have zx : (x : Int) < 48 := by omega
      clear hr
      go_enter Tryd.func26, Tryd.ntmps26
      go_wp2_with fail
      refine (HR.out _).mono ?_
      rintro e w1 ⟨rfl, h⟩
      clear l1
      have m1 := (hA.on h).num
      have r1 := (hA.on h).row x (by omega)
      go_wp2_with fail
      refine (CH.out _).mono ?_
      rintro e w2 ⟨rfl, rfl⟩
      go_wp2
      go_ret
      rw [hv.out]
      exact ⟨rfl, thru hB h⟩
    · have hv := Lib.hid (show hasB n f a b = false by
        rw [Bool.eq_false_iff]
        intro h
        unfold hasB at h
        simp only [Bool.and_eq_true] at h
        have h2 := itemB_iff.1 h.2.1
        have h3 := itemB_iff.1 h.2.2.1
        exact h1 ⟨h2.1, h2.2, h3.1, h3.2⟩)
      have hcase : a < 0 ∨ (0 ≤ a ∧ n ≤ a) ∨ (0 ≤ a ∧ a < n ∧ b < 0) ∨ (0 ≤ a ∧ a < n ∧ 0 ≤ b ∧ n ≤ b) := by omega
      clear h1 hr
      rcases hcase with h1 | ⟨h1, h2⟩ | ⟨h1, h2, h3⟩ | ⟨h1, h2, h3, h4⟩
      all_goals
        go_enter Tryd.func26, Tryd.ntmps26
        go_wp2_with fail
        refine (HR.out _).mono ?_
        rintro e w1 ⟨rfl, h⟩
        clear l1
        have m1 := (hA.on h).num
        go_wp2
        go_ret
        rw [hv.out]
        exact ⟨rfl, thru hB h⟩

def RefOfPost (n : Int) (ps : List (Int × Int)) (w : World) (e : Ending) (w' : World) : Prop :=
  e = .returned (.tuple #[.agg (relC (opN (ofB n ps) n) (if ofB n ps then ofL ps else zf)), .bool (ofB n ps)]) ∧ Below w.heap.size w w'
set_option maxRecDepth 100000 in
set_option maxHeartbeats 4000000 in
theorem refOf_any (n : Int) (v : Value) (ps : List (Int × Int)) (w : World) (hs : PairSl w.heap.size w v ps) :
    Calls Tryd.prog 15 #[.int .i64 n, v] w (RefOfPost n ps w) := by
  obtain ⟨hm, av, cap, rfl, hcells⟩ := hs
  unfold maxLen at hm
  have hZ := RelAt.new w 0 zf
  have hB := below_new w (.cells (relC 0 zf) 26)
  have Hcells := Lib.hid hcells
  clear hcells
  by_cases h01 : n < 0 ∨ 48 < n
  · have ho := Lib.hid (show ofB n ps = false by
      unfold ofB
      rw [show sizedB n = false by rw [Bool.eq_false_iff]; intro h; have := sizedB_iff.1 h; omega]
      rfl)
    obtain ⟨W3, hs3, hR3, hO3⟩ := hZ.put 0 zf
    have hB3 := below_only hB hO3 (Nat.le_refl _)
    clear hZ hB hO3
    rcases h01 with h0 | h0
    all_goals
      go_enter Tryd.func15, Tryd.ntmps15
      go_wp2
      refine bodyPost_ret (results_rel2 rfl _ _ _ _ _ rfl hR3) rfl ?_
      unfold RefOfPost
      rw [ho.out]
      exact ⟨rfl, hB3⟩
  · obtain ⟨N, rfl⟩ : ∃ N : Nat, n = (N : Int) := ⟨n.toNat, by omega⟩
    have hN : N ≤ 48 := by omega
    have ho := Lib.hid (show ofB N ps = ps.all (goodP N) by
      unfold ofB
      rw [sizedB_iff.2 ⟨by omega, by omega⟩, Bool.true_and])
    obtain ⟨W3, hs3, hR3, h3, hz3⟩ := Ex.lay (w.alloc (.cells (relC 0 zf) 26)) N zf
    have hX : Kept w W3 [(w.heap.size + 1, (N : Int), ofL (ps.take 0)), (w.heap.size, 0, zf)] := by
      refine ⟨thru hB h3, ?_⟩
      simp only [List.mem_cons, List.not_mem_nil, or_false]
      rintro p (rfl | rfl)
      · rwa [World.size_alloc] at hR3
      · exact hZ.on h3
    rw [World.size_alloc] at hs3
    clear hR3 h3 hz3 hZ hB h01
    have t1 : decide ((N : Int) < 0) = false := by simp
    have t2 : decide (48 < (N : Int)) = false := by simp; omega
    have le1 : w.heap.size ≤ w.heap.size + 1 := by omega
    have ne1 : w.heap.size ≠ w.heap.size + 1 := by omega
    go_enter Tryd.func15, Tryd.ntmps15
    go_wp2
    clear hs3
    go_loopw [7] (fun i W => ∃ k : Nat, k ≤ ps.length ∧ i = .int .i64 k ∧ Hid ((ps.take k).all (goodP N) = true) ∧ Kept w W [(w.heap.size + 1, (N : Int), ofL (ps.take k)), (w.heap.size, 0, zf)]) (fun i _ => ps.length - (intOf i).toNat)
    case atStart => exact ⟨0, by omega, rfl, Lib.hid (by simp), hX⟩
    case round =>
      clear hX
      obtain ⟨k, hk, rfl, hall, hX⟩ := hrel
      by_cases hlt : k < ps.length
      · have tk : decide (k < ps.length) = true := by simpa using hlt
        obtain ⟨b, off, rfl, hbn, hc⟩ := Hcells.out (by omega)
        obtain ⟨c1, c2⟩ := hc k hlt
        replace c1 := (hX.1.cell (p := ⟨b, off + k * 2, none⟩) hbn).trans c1
        replace c2 := (hX.1.cell (p := ⟨b, off + k * 2 + 1, none⟩) hbn).trans c2
        have ht := take_snocP ps k hlt
        have hmem : ps[k]?.getD (0, 0) ∈ ps := by simp [hlt]
        generalize ps[k]?.getD (0, 0) = p at *
        obtain ⟨x, y⟩ := p
        have hgood : goodP N (x, y) = true → ofL (ps.take (k + 1)) = upd (ofL (ps.take k)) x.toNat (ofL (ps.take k) x.toNat ||| 2 ^ y.toNat) ∧ (ps.take (k + 1)).all (goodP N) = true := fun h => by
          rw [ht, ofL_snoc, List.all_append, hall.out]
          exact ⟨rfl, by simpa using h⟩
        have hbad : goodP N (x, y) = false → ofB N ps = false := fun h => by
          rw [ho.out, Bool.eq_false_iff]; intro hcc; rw [List.all_eq_true] at hcc; have := hcc _ hmem; rw [h] at this; cases this
        have hL48 := ofL_lt N (by omega) _ hall.out
        replace hgood := Lib.hid hgood
        replace hbad := Lib.hid hbad
        have hXh := Lib.hid hX
        clear hc hmem ht hX
        go_upto_region 7 with fail
        go_region
        all_goals
          by_cases hxy : 0 ≤ x ∧ x < N ∧ 0 ≤ y ∧ y < N
          · obtain ⟨x0, x1, y0, y1⟩ := hxy
            obtain ⟨e1, e2⟩ := hgood.out (by unfold goodP; rw [itemB_iff.2 ⟨x0, x1⟩, itemB_iff.2 ⟨y0, y1⟩]; rfl)
            obtain ⟨X, rfl⟩ : ∃ X : Nat, x = (X : Int) := ⟨x.toNat, by omega⟩
            obtain ⟨Y, rfl⟩ : ∃ Y : Nat, y = (Y : Int) := ⟨y.toNat, by omega⟩
            rw [Int.toNat_natCast, Int.toNat_natCast] at e1
            have cW := Lib.hid (fun w => refWith (ofL (ps.take k) X) Y (Nat.lt_of_lt_of_le (hL48 X) (by decide)) (by omega) w)
            have hXd := Lib.hid hXh.out.drew
            have r1 := (hXd.out.at (b := w.heap.size + 1) (n := N) (f := ofL (ps.take k)) (by simp)).row X (by omega)
            have f1 := (hXd.out.at (b := w.heap.size + 1) (n := N) (f := ofL (ps.take k)) (by simp)).free (1 + X)
            have zX : (X : Int) < 48 := by omega
            have hR2 := (hXd.out.at (b := w.heap.size + 1) (n := N) (f := ofL (ps.take k)) (by simp)).set X (ofL (ps.take k) X ||| 2 ^ Y) (by omega)
            rw [← e1] at hR2
            have hX2 := ((hXd.out.less (l' := [(w.heap.size, 0, zf)]) (by simp)).set ⟨w.heap.size + 1, 1 + X, none⟩ (.int .u64 ((ofL (ps.take k) X ||| 2 ^ Y : Nat) : Int)) le1 (by simp)).cons hR2
            replace hX2 := Lib.hid hX2
            replace e2 := Lib.hid e2
            clear e1 hR2 hL48
            generalize ofL (ps.take k) X ||| 2 ^ Y = z at *
            generalize ofL (ps.take k) X = z0 at *
            go_wp2_with fail
            refine (cW.out _).mono ?_
            rintro e w5 ⟨rfl, rfl⟩
            go_wp2
            go_roundw
            case rel => exact ⟨k + 1, by omega, by go_num, e2, hX2.out⟩
            case measure => simp [intOf]; omega
          · have ho2 := Lib.hid (hbad.out (by
              rw [Bool.eq_false_iff]; intro h; unfold goodP at h; rw [Bool.and_eq_true] at h
              have h2 := itemB_iff.1 h.1
              have h3 := itemB_iff.1 h.2
              exact hxy ⟨h2.1, h2.2, h3.1, h3.2⟩))
            have hXd := hXh.out.drew
            obtain ⟨W4, hs4, hR4, hO4⟩ := (hXd.at (b := w.heap.size) (n := 0) (f := zf) (by simp)).put 0 zf
            have hB4 := below_only hXd.1 hO4 (Nat.le_refl _)
            have hcase : x < 0 ∨ (0 ≤ x ∧ (N : Int) ≤ x) ∨ (0 ≤ x ∧ x < N ∧ y < 0) ∨ (0 ≤ x ∧ x < N ∧ 0 ≤ y ∧ (N : Int) ≤ y) := by omega
            clear hXd hO4 hxy
            rcases hcase with h1 | ⟨h1, h2⟩ | ⟨h1, h2, h3⟩ | ⟨h1, h2, h3, h4⟩
            all_goals
              go_wp2
              refine bodyPost_ret (results_rel2 rfl _ _ _ _ _ rfl hR4) rfl ?_
              unfold RefOfPost
              rw [ho2.out]
              exact ⟨rfl, hB4⟩
      · obtain rfl : k = ps.length := by omega
        rw [List.take_length] at hall hX
        have l1 := (hX.at (b := w.heap.size + 1) (n := N) (f := ofL ps) (by simp)).ld
        obtain ⟨W4, hs4, hR4, hO4⟩ := (hX.at (b := w.heap.size) (n := 0) (f := zf) (by simp)).put N (ofL ps)
        have hB4 := below_only hX.1 hO4 (Nat.le_refl _)
        have ho2 := Lib.hid (show ofB N ps = true by rw [ho.out, hall.out])
        clear hX hO4
        go_wp2
        refine bodyPost_ret (results_rel2 rfl _ _ _ _ _ rfl hR4) rfl ?_
        unfold RefOfPost
        rw [ho2.out]
        exact ⟨rfl, hB4⟩

/-- The pairs of a row, as far as m. -/
def rowM (f : Nat → Nat) (a : It) (m : Nat) : List (It × It) := ((allIt.filter fun b => decide (b.1 < m)).filter fun b => (f a.1).testBit b.1).map fun b => (a, b)
theorem rowM_zero (f : Nat → Nat) (a : It) : rowM f a 0 = [] := by
  have h : (allIt.filter fun b => decide (b.1 < 0)) = [] := List.filter_eq_nil_iff.2 (by intro a _; simp)
  unfold rowM
  rw [h]
  rfl
theorem rowM_succ (f : Nat → Nat) (a : It) (m : Nat) (h : m < 48) : rowM f a (m + 1) = rowM f a m ++ if (f a.1).testBit m then [(a, ⟨m, h⟩)] else [] := by
  unfold rowM
  rw [allIt_below m h, List.filter_append, List.map_append]
  congr 1
  by_cases hb : (f a.1).testBit m = true
  · simp [hb]
  · simp [hb]
theorem rowM_all {N : Nat} {f : Nat → Nat} (hr : Rgt N f) (a : It) : rowM f a N = rowP f a := by
  unfold rowM rowP itS
  rw [List.filter_filter]
  congr 1
  apply List.filter_congr
  intro b _
  cases hb : (f a.1).testBit b.1
  · rfl
  · have := hr.snd a.2 hb
    simpa using this
theorem rowM_le (f : Nat → Nat) (a : It) (m : Nat) : (rowM f a m).length ≤ 48 := by
  unfold rowM
  rw [List.length_map]
  refine Nat.le_trans (List.length_filter_le _ _) (Nat.le_trans (List.length_filter_le _ _) ?_)
  have := congrArg List.length allIt_vals
  unfold vals at this
  simpa using Nat.le_of_eq this

set_option maxRecDepth 100000 in
set_option maxHeartbeats 4000000 in
theorem refPairs_bad (n : Int) (f : Nat → Nat) (hf : R64 f) (hb : rightB n f = false) (w : World) :
    Calls Tryd.prog 29 #[.agg (relC n f)] w fun e w' => e = .returned (.slice none 0 0) ∧ Below w.heap.size w w' := by
  have HR := Lib.hid (fun w => show Calls Tryd.prog 13 #[.agg (relC n f)] w fun e w' => e = .returned (.bool false) ∧ Below w.heap.size w w' by have := refRight_any n f hf w; rwa [hb] at this)
  have hA := RelAt.new w n f
  have hB := below_new w (.cells (relC n f) 26)
  have l1 := hA.ld
  go_enter Tryd.func29, Tryd.ntmps29
  go_wp2_with fail
  refine (HR.out _).mono ?_
  rintro e w1 ⟨rfl, h⟩
  go_wp2
  go_ret
  exact ⟨rfl, thru hB h⟩
set_option maxRecDepth 100000 in
set_option maxHeartbeats 4000000 in
theorem refPairs_ok (N : Nat) (f : Nat → Nat) (hf : R64 f) (hr : Rgt N f) (w : World) :
    Calls Tryd.prog 29 #[.agg (relC N f)] w fun e w' => ∃ v, e = .returned v ∧ w'.ownsRow w.heap.size 72 2 v (pairsK f N).length (pairCells (pairsK f N)) ∧ Below w.heap.size w w' := by
  have hN := hr.le
  obtain ⟨i0, hi, hz0, hz1, hz2⟩ := info_parts infoPair
  have HR := Lib.hid (fun w => show Calls Tryd.prog 13 #[.agg (relC N f)] w fun e w' => e = .returned (.bool true) ∧ Below w.heap.size w w' by have := refRight_any N f hf w; rwa [show rightB (N : Int) f = true from hr] at this)
  have CF := Lib.hid (fun w a b (hb : b < 64) => refHas (f a) b (hf a) hb w)
  have hA := RelAt.new w N f
  have hB := below_new w (.cells (relC N f) 26)
  have l1 := hA.ld
  go_enter Tryd.func29, Tryd.ntmps29
  go_wp2_with fail
  refine (HR.out _).mono ?_
  rintro e w1 ⟨rfl, h⟩
  have hX : Kept w w1 [(w.heap.size, (N : Int), f)] := ⟨thru hB h, by simp only [List.mem_cons, List.not_mem_nil, or_false]; rintro p rfl; exact hA.on h⟩
  clear h l1 hA hB
  have n1 := (hX.at (b := w.heap.size) (n := N) (f := f) (by simp)).num
  go_wp2
  clear n1
  go_loopw [3, 4] (fun v i W => ∃ k : Nat, k ≤ N ∧ i = .int .i64 k ∧ Kept w W [(w.heap.size, (N : Int), f)] ∧ W.ownsRow w.heap.size 72 2 v (pairsK f k).length (pairCells (pairsK f k))) (fun _ i _ => N - (intOf i).toNat)
  case atStart => exact ⟨0, by omega, rfl, hX, by rw [pairsK_zero]; exact World.ownsRow_nil _ _ _ _⟩
  case round =>
    clear hX
    obtain ⟨k, hk, rfl, hX, hrow⟩ := hrel
    have n1 := (hX.at (b := w.heap.size) (n := N) (f := f) (by simp)).num
    have hple := pairsK_le f k (by omega)
    by_cases hkN : k < N
    · have tk : decide (k < N) = true := by simpa using hkN
      have hrow0 : wr.ownsRow w.heap.size 72 2 u3 (pairsK f k ++ rowM f ⟨k, by omega⟩ 0).length (pairCells (pairsK f k ++ rowM f ⟨k, by omega⟩ 0)) := by rw [rowM_zero, List.append_nil]; exact hrow
      go_wp2
      clear n1
      go_loopw [3, 5] (fun v j W => ∃ m : Nat, m ≤ N ∧ j = .int .i64 m ∧ Kept w W [(w.heap.size, (N : Int), f)] ∧ W.ownsRow w.heap.size 72 2 v (pairsK f k ++ rowM f ⟨k, by omega⟩ m).length (pairCells (pairsK f k ++ rowM f ⟨k, by omega⟩ m))) (fun _ j _ => N - (intOf j).toNat)
      case atStart => exact ⟨0, by omega, rfl, hX, hrow0⟩
      case round =>
        clear hX hrow hrow0
        obtain ⟨m, hm, rfl, hX, hrow⟩ := hrel
        have n1 := (hX.at (b := w.heap.size) (n := N) (f := f) (by simp)).num
        by_cases hmN : m < N
        · have tm : decide (m < N) = true := by simpa using hmN
          have zk : (k : Int) < 48 := by omega
          have r1 := (hX.at (b := w.heap.size) (n := N) (f := f) (by simp)).row k (by omega)
          have cF := CF.out wr k m (by omega)
          have hs := rowM_succ f ⟨k, by omega⟩ m (by omega)
          change rowM f _ (m + 1) = rowM f _ m ++ (if (f k).testBit m then _ else _) at hs
          have hle := rowM_le f ⟨k, by omega⟩ m
          have hXh := Lib.hid hX
          clear hX
          cases hb1 : (f k).testBit m
          · rw [hb1] at cF hs
            replace cF := Lib.hid cF
            rw [if_neg (by simp), List.append_nil] at hs
            rw [← hs] at hrow
            replace hrow := Lib.hid hrow
            clear hb1 hs
            go_wp2_with fail
            refine cF.out.mono ?_
            rintro e w1 ⟨rfl, rfl⟩
            go_wp2
            go_roundw
            case rel => exact ⟨m + 1, by omega, by go_num, hXh.out, hrow.out⟩
            case measure => simp [intOf]; omega
          · rw [hb1] at cF hs
            replace cF := Lib.hid cF
            rw [if_pos rfl] at hs
            have hlen : (pairsK f k ++ rowM f ⟨k, by omega⟩ m).length ≤ 2400 := by rw [List.length_append]; omega
            have hsn : pairCells (pairsK f k ++ rowM f ⟨k, by omega⟩ (m + 1)) = pairCells (pairsK f k ++ rowM f ⟨k, by omega⟩ m) ++ [.int .i64 (k : Int), .int .i64 (m : Int)] := by rw [hs, ← List.append_assoc, pairCells_snoc]
            have hsl : (pairsK f k ++ rowM f ⟨k, by omega⟩ (m + 1)).length = (pairsK f k ++ rowM f ⟨k, by omega⟩ m).length + 1 := by rw [hs, ← List.append_assoc]; simp; omega
            replace hsn := Lib.hid hsn
            replace hsl := Lib.hid hsl
            clear hb1 hs hle
            have hbase := hXh.out.1.size
            generalize (pairsK f k ++ rowM f ⟨k, by omega⟩ m).length = len at *
            generalize pairCells (pairsK f k ++ rowM f ⟨k, by omega⟩ m) = cells at *
            go_wp2_with fail
            refine cF.out.mono ?_
            rintro e w1 ⟨rfl, rfl⟩
            go_wp2_with (at_builtin; refine wpList_append_own _ rfl _ _ 27 rfl w.heap.size 72 i0 (.agg #[.int .i64 0, .int .i64 0]) 2 16 Tryd.underlying27 hi hz0 hz1 hz2 rfl (by decide) _ _ _ rfl (hrow.alloc _) ⟨wr.heap.size, 0, none⟩ 1 1 [.int .i64 (k : Int), .int .i64 (m : Int)] rfl rfl (cell_two_new _ _ _ _) (by simp [Value.oneCell']) (by unfold maxLen; omega) (by omega) (by simp; omega) ?_; intro v' w2 hown' hgrow _; have hX2 := (hXh.out.on (below_new wr (.cells #[.int .i64 (k : Int), .int .i64 (m : Int)] 72))).grown (by decide) (hrow.alloc (.cells #[.int .i64 (k : Int), .int .i64 (m : Int)] 72)) hgrow)
            replace hown' := Lib.hid hown'
            replace hX2 := Lib.hid hX2
            clear hgrow hrow
            go_roundw
            case rel => exact ⟨m + 1, by omega, by go_num, hX2.out, by rw [hsn.out, hsl.out]; exact hown'.out⟩
            case measure => simp [intOf]; omega
        · obtain rfl : m = N := by omega
          rw [rowM_all hr, ← pairsK_succ] at hrow
          have hXh := Lib.hid hX
          have hrowh := Lib.hid hrow
          clear hX hrow
          go_wp2
          go_roundw
          case rel => exact ⟨k + 1, by omega, by go_num, hXh.out, hrowh.out⟩
          case measure => simp [intOf]; omega
    · obtain rfl : k = N := by omega
      have hXh := Lib.hid hX
      have hrowh := Lib.hid hrow
      clear hX hrow
      go_wp2
      go_ret
      exact ⟨_, rfl, hrowh.out, hXh.out.1⟩
end Go.Proofs.YtpbljciblgcgfaaDoor
end
