/- The document's answers for layer 2: Star. -/
import Derived.Deep.DeepCutAuto
import Derived.Test.YtnfkedcbhjbhkaaDoorRefRel4
namespace Go.Proofs.YtnfkedcbhjbhkaaDoor
open Go.RowKit Go.Shelf

attribute [local go_sem] Oper.semAt_some

def pw : Nat → Nat := fun i => 2 ^ i
/-- A relation and the first k items with themselves. -/
def starK (P : Nat → Nat) (k : Nat) : Nat → Nat := unionF P (cutF (k : Int) pw)
theorem starK_zero (P : Nat → Nat) : starK P 0 = P := by
  unfold starK
  rw [show ((0 : Nat) : Int) = 0 by rfl, cutF_zero]
  funext i; simp [unionF, zf]
theorem starK_succ (P : Nat → Nat) (k : Nat) : upd (starK P k) k (starK P k k ||| 2 ^ k) = starK P (k + 1) := by
  funext i
  unfold upd starK unionF cutF pw
  by_cases h : i = k
  · subst h
    rw [if_pos rfl, if_neg (by omega), if_pos (by omega), Nat.or_zero]
  · rw [if_neg h]
    by_cases h2 : (i : Int) < k
    · rw [if_pos h2, if_pos (by omega)]
    · rw [if_neg h2, if_neg (by omega)]
theorem starK_64 {P : Nat → Nat} (h : R64 P) {k : Nat} (hk : k ≤ 48) : R64 (starK P k) := union_64 h fun i => by
  unfold cutF pw
  split
  · exact Nat.pow_lt_pow_right (by omega) (by omega)
  · exact Nat.two_pow_pos 64
set_option maxRecDepth 100000 in
set_option maxHeartbeats 4000000 in
theorem refStar_of (n : Int) (f : Nat → Nat) (N : Nat) (hN : N ≤ 48) (P : Nat → Nat) (hP : R64 P)
    (CP : Hid (∀ w : World, Calls Tryd.prog 37 #[.agg (relC n f)] w fun e w' => e = .returned (.agg (relC N P)) ∧ Below w.heap.size w w')) (w : World) :
    Calls Tryd.prog 39 #[.agg (relC n f)] w fun e w' => e = .returned (.agg (relC N (starK P N))) ∧ Below w.heap.size w w' := by
  have hA := (RelAt.new w n f).alloc (.cells (relC 0 zf) 26)
  have hZ := RelAt.new (w.alloc (.cells (relC n f) 26)) 0 zf
  rw [World.size_alloc] at hZ
  have hB := thru (below_new w (.cells (relC n f) 26)) (below_new _ (.cells (relC 0 zf) 26))
  have l1 := hA.ld
  go_enter Tryd.func39, Tryd.ntmps39
  go_wp2_with fail
  refine (CP.out _).mono ?_
  rintro e w1 ⟨rfl, h⟩
  obtain ⟨W3, hs3, hu, h3, -⟩ := Ex.lay w1 N P
  have hlt := (hZ.on h).lt
  have hX : Kept w W3 [(w1.heap.size, (N : Int), starK P 0), (w.heap.size + 1, 0, zf)] := by
    refine ⟨thru (thru hB h) h3, ?_⟩
    simp only [List.mem_cons, List.not_mem_nil, or_false]
    rintro p (rfl | rfl)
    · rw [starK_zero]; exact hu
    · exact (hZ.on h).on h3
  have hsz : w.heap.size ≤ w1.heap.size := by omega
  clear h h3 hu l1 hA hZ hB
  generalize hbw : w1.heap.size = bw at *
  have ne1 : w.heap.size + 1 ≠ bw := by omega
  go_wp2
  clear hs3
  replace hbw := Lib.hid hbw
  go_loopw [4] (fun i W => ∃ k : Nat, k ≤ N ∧ i = .int .i64 k ∧ Kept w W [(bw, (N : Int), starK P k), (w.heap.size + 1, 0, zf)]) (fun i _ => N - (intOf i).toNat)
  case atStart => exact ⟨0, by omega, rfl, hX⟩
  case round =>
    clear hX
    obtain ⟨k, hk, rfl, hX⟩ := hrel
    have n1 := (hX.at (b := bw) (n := N) (f := starK P k) (by simp)).num
    have l1 := (hX.at (b := bw) (n := N) (f := starK P k) (by simp)).ld
    by_cases hkN : k < N
    · have tk : decide (k < N) = true := by simpa using hkN
      have cW := Lib.hid (fun w => show Calls Tryd.prog 77 #[.agg (relC N (starK P k)), .int .i64 (k : Int), .int .i64 (k : Int)] w fun e w' => e = .returned (.agg (relC N (starK P (k + 1)))) ∧ Below w.heap.size w w' by
        have := refwith_any N (starK P k) (starK_64 hP (by omega)) k k (by omega) (by omega) w
        rwa [starK_succ] at this)
      have hXh := Lib.hid hX
      clear hX
      go_wp2_with fail
      clear l1 n1
      refine (cW.out _).mono ?_
      rintro e w1 ⟨rfl, h⟩
      obtain ⟨W4, hs4, hR4, hO4⟩ := ((hXh.out.on h).at (b := bw) (n := N) (f := starK P k) (by simp)).put N (starK P (k + 1))
      have hX4 := (((hXh.out.on h).less (l' := [(w.heap.size + 1, 0, zf)]) (by simp)).only hO4 hsz (by simp only [List.mem_cons, List.not_mem_nil, or_false]; rintro p rfl; assumption)).cons hR4
      clear h hR4 hO4
      go_wp2
      go_roundw
      case rel => exact ⟨k + 1, by omega, by go_num, hX4⟩
      case measure => simp [intOf]; omega
    · obtain rfl : k = N := by omega
      obtain ⟨W4, hs4, hR4, hO4⟩ := (hX.at (b := w.heap.size + 1) (n := 0) (f := zf) (by simp)).put k (starK P k)
      have hB4 := below_only hX.1 hO4 (by omega)
      clear hX hO4
      go_wp2
      refine bodyPost_ret (results_rel rfl _ _ _ _ _ rfl hR4) rfl ?_
      exact ⟨rfl, hB4⟩
theorem refStar_ok (N : Nat) (f : Nat → Nat) (hf : R64 f) (hr : Rgt N f) (w : World) :
    Calls Tryd.prog 39 #[.agg (relC N f)] w fun e w' => e = .returned (.agg (relC N (starK (warK f N N) N))) ∧ Below w.heap.size w w' :=
  refStar_of N f N hr.le _ (war_64 hr.le hf N) (Lib.hid (refPlus_ok N f hf hr)) w
theorem refStar_bad (n : Int) (f : Nat → Nat) (hf : R64 f) (hb : rightB n f = false) (w : World) :
    Calls Tryd.prog 39 #[.agg (relC n f)] w fun e w' => e = .returned (.agg (relC 0 zf)) ∧ Below w.heap.size w w' := by
  have := refStar_of n f 0 (by omega) zf (fun _ => Nat.two_pow_pos 64) (Lib.hid (refPlus_bad n f hf hb)) w
  rwa [starK_zero] at this
end Go.Proofs.YtnfkedcbhjbhkaaDoor
