/- The document's answers for layer 2: Right, Has, Cross, Id. -/
import Derived.Test.YtnfkedcbhjbhkaaDoorRefBits
namespace Go.Proofs.YtnfkedcbhjbhkaaDoor
open Go.RowKit Go.Shelf

attribute [local go_sem] Oper.semAt_some

theorem rightB_of {n : Int} {f : Nat → Nat} (hf : R64 f) : rightB n f = true ↔ (0 ≤ n ∧ n ≤ 48) ∧ ∀ a, a < 48 → ∀ b, b < 64 → (f a).testBit b = true → (a : Int) < n ∧ (b : Int) < n := by
  constructor
  · intro h
    have h0 := (rightB_iff.1 h).1
    refine ⟨h0, fun a ha b _ hb => ?_⟩
    have hr : Rgt n.toNat f := by unfold Rgt; rwa [Int.toNat_of_nonneg h0.1]
    have := (rgt_iff.1 hr).2 a ha b hb
    omega
  · rintro ⟨h0, h⟩
    have hr : Rgt n.toNat f := rgt_iff.2 ⟨by omega, fun a ha b hb => by
      have := h a ha b (bit_lt (hf a) hb) hb
      omega⟩
    unfold Rgt at hr
    rwa [Int.toNat_of_nonneg h0.1] at hr

set_option maxRecDepth 100000 in
set_option maxHeartbeats 4000000 in
theorem refRight_any (n : Int) (f : Nat → Nat) (hf : R64 f) (w : World) :
    Calls Tryd.prog 17 #[.agg (relC n f)] w fun e w' => e = .returned (.bool (rightB n f)) ∧ Below w.heap.size w w' := by
  have hr := Lib.hid (rightB_of (n := n) hf)
  have hA := RelAt.new w n f
  have hB := below_new w (.cells (relC n f) 26)
  have n1 := hA.num
  by_cases h0 : n < 0
  · have hv := Lib.hid (show rightB n f = false by rw [Bool.eq_false_iff]; intro h; have := (hr.out.1 h).1; omega)
    go_enter Tryd.func17, Tryd.ntmps17
    go_wp2
    go_ret
    rw [hv.out]
    exact ⟨rfl, hB⟩
  · by_cases h1 : 48 < n
    · have hv := Lib.hid (show rightB n f = false by rw [Bool.eq_false_iff]; intro h; have := (hr.out.1 h).1; omega)
      go_enter Tryd.func17, Tryd.ntmps17
      go_wp2
      go_ret
      rw [hv.out]
      exact ⟨rfl, hB⟩
    · obtain ⟨N, rfl⟩ : ∃ N : Nat, n = (N : Int) := ⟨n.toNat, by omega⟩
      have hN : N ≤ 48 := by omega
      have CH := Lib.hid (fun w a b (hb : b < 64) => refHas (f a) b (hf a) hb w)
      have hAh := Lib.hid hA
      clear hA h0 h1
      generalize hW : w.alloc (.cells (relC N f) 26) = W0 at *
      have hAW : RelAt W0 w.heap.size N f := hAh.out
      have Hh := Lib.hid hAW
      clear hAh hAW
      have hn : W0.cell? ⟨w.heap.size, 0, none⟩ = some (.int .i64 (N : Int)) := Hh.out.num
      go_enter Tryd.func17, Tryd.ntmps17
      go_wp2
      go_loopw [3] (fun i W => ∃ k : Nat, k ≤ 48 ∧ i = .int .i64 k ∧ W0 = W ∧ Hid (∀ a, a < k → ∀ b, b < 64 → (f a).testBit b = true → (a : Int) < N ∧ (b : Int) < N)) (fun i _ => 48 - (intOf i).toNat)
      case atStart => exact ⟨0, by omega, rfl, rfl, Lib.hid (fun a h => by omega)⟩
      case round =>
        obtain ⟨k, hk, rfl, rfl, hall⟩ := hrel
        by_cases hk48 : k < 48
        · have c1 := Hh.out.row k hk48
          have t1 : decide ((k : Int) < 48) = true := by simp; omega
          have CK := Lib.hid (fun w b hb => CH.out w k b hb)
          go_wp2
          go_loopw [4] (fun j W => ∃ m : Nat, m ≤ 64 ∧ j = .int .i64 m ∧ W0 = W ∧ Hid (∀ b, b < m → (f k).testBit b = true → (k : Int) < N ∧ (b : Int) < N)) (fun j _ => 64 - (intOf j).toNat)
          case atStart => exact ⟨0, by omega, rfl, rfl, Lib.hid (fun a h => by omega)⟩
          case round =>
            obtain ⟨m, hm, rfl, rfl, hrow⟩ := hrel
            by_cases hm64 : m < 64
            · have cH := CK.out W0 m hm64
              have hstep : ∀ (h : (f k).testBit m = true → (k : Int) < N ∧ (m : Int) < N), Hid (∀ b, b < m + 1 → (f k).testBit b = true → (k : Int) < N ∧ (b : Int) < N) := fun h => Lib.hid fun b hb => by
                by_cases he : b = m
                · subst he; exact h
                · exact hrow.out b (by omega)
              have hbad : (f k).testBit m = true → ¬ ((k : Int) < N ∧ (m : Int) < N) → rightB N f = false := fun h1 h2 => by
                rw [Bool.eq_false_iff]; intro h; exact h2 ((hr.out.1 h).2 k hk48 m hm64 h1)
              replace hstep := Lib.hid hstep
              replace hbad := Lib.hid hbad
              cases hb : (f k).testBit m
              · rw [hb] at cH hstep hbad
                have hs := Lib.hid (hstep.out (fun h => by cases h))
                replace cH := Lib.hid cH
                clear hb hbad hstep
                go_wp2_with fail
                refine cH.out.mono ?_
                rintro e w1 ⟨rfl, rfl⟩
                go_wp2
                go_roundw
                case rel => exact ⟨m + 1, by omega, by go_num, trivial, hs.out⟩
                case measure => simp [intOf]; omega
              · rw [hb] at cH hstep hbad
                replace cH := Lib.hid cH
                clear hb
                by_cases h1 : N ≤ k
                · have hv := Lib.hid (hbad.out rfl (by omega))
                  clear hbad hstep
                  go_wp2_with fail
                  refine cH.out.mono ?_
                  rintro e w1 ⟨rfl, rfl⟩
                  go_wp2
                  go_ret
                  rw [hv.out]
                  exact ⟨rfl, hB⟩
                · by_cases h2 : N ≤ m
                  · have hv := Lib.hid (hbad.out rfl (by omega))
                    clear hbad hstep
                    go_wp2_with fail
                    refine cH.out.mono ?_
                    rintro e w1 ⟨rfl, rfl⟩
                    go_wp2
                    go_ret
                    rw [hv.out]
                    exact ⟨rfl, hB⟩
                  · have hs := Lib.hid (hstep.out (fun _ => by omega))
                    clear hbad hstep
                    go_wp2_with fail
                    refine cH.out.mono ?_
                    rintro e w1 ⟨rfl, rfl⟩
                    go_wp2
                    go_roundw
                    case rel => exact ⟨m + 1, by omega, by go_num, trivial, hs.out⟩
                    case measure => simp [intOf]; omega
            · obtain rfl : m = 64 := by omega
              go_wp2
              go_roundw
              case rel => exact ⟨k + 1, by omega, by go_num, trivial, Lib.hid (fun a ha b hb => by
                by_cases he : a = k
                · subst he; exact hrow.out b hb
                · exact hall.out a (by omega) b hb)⟩
              case measure => simp [intOf]; omega
        · obtain rfl : k = 48 := by omega
          have hv := Lib.hid (hr.out.2 ⟨by omega, hall.out⟩)
          go_wp2
          go_ret
          rw [hv.out]
          exact ⟨rfl, hB⟩
end Go.Proofs.YtnfkedcbhjbhkaaDoor
