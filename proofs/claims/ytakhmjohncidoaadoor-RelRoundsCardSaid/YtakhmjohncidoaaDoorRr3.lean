/- RefRel5, RefTwo, RelBad in one text, for the claim. -/
import Derived.Deep.DeepCutAuto
import Derived.Test.YtakhmjohncidoaaDoorRr2
import Derived.Deep.QuietTactic
import Derived.Deep.RegionWith
import Derived.Test.YtakhmjohncidoaaDoorRr1

section
/- The document's answers for layer 2: Star. -/
namespace Go.Proofs.YtakhmjohncidoaaDoor
open Go.RowKit Go.Shelf

attribute [local go_sem] Oper.semAt_some

def pw : Nat → Nat := fun i => 2 ^ i
/-- A relation and the first k items with themselves. -/
def starK (P : Nat → Nat) (k : Nat) : Nat → Nat := unionF P (cutF (k : Int) pw)
theorem starK_zero (P : Nat → Nat) : starK P 0 = P := by
  unfold starK
  rw [show ((0 : Nat) : Int) = 0 by rfl, cutF_zero]
  funext i; simp [unionF, zf]
theorem starK_succ (P : Nat → Nat) (k : Nat) : upd (starK P k) k (starK P k k ||| 2 ^ k) = starK P (k + 1) := by
  funext i
  unfold upd starK unionF cutF pw
  by_cases h : i = k
  · subst h
    rw [if_pos rfl, if_neg (by omega), if_pos (by omega), Nat.or_zero]
  · rw [if_neg h]
    by_cases h2 : (i : Int) < k
    · rw [if_pos h2, if_pos (by omega)]
    · rw [if_neg h2, if_neg (by omega)]
theorem starK_64 {P : Nat → Nat} (h : R64 P) {k : Nat} (hk : k ≤ 48) : R64 (starK P k) := union_64 h fun i => by
  unfold cutF pw
  split
  · exact Nat.pow_lt_pow_right (by omega) (by omega)
  · exact Nat.two_pow_pos 64
set_option maxRecDepth 100000 in
set_option maxHeartbeats 4000000 in
theorem refStar_of (n : Int) (f : Nat → Nat) (N : Nat) (hN : N ≤ 48) (P : Nat → Nat) (hP : R64 P)
    (CP : Hid (∀ w : World, Calls Tryd.prog 27 #[.agg (relC n f)] w fun e w' => e = .returned (.agg (relC N P)) ∧ Below w.heap.size w w')) (w : World) :
    Calls Tryd.prog 29 #[.agg (relC n f)] w fun e w' => e = .returned (.agg (relC N (starK P N))) ∧ Below w.heap.size w w' := by
  have hA := (RelAt.new w n f).alloc (.cells (relC 0 zf) 26)
  have hZ := RelAt.new (w.alloc (.cells (relC n f) 26)) 0 zf
  rw [World.size_alloc] at hZ
  have hB := thru (below_new w (.cells (relC n f) 26)) (below_new _ (.cells (relC 0 zf) 26))
  have l1 := hA.ld
  go_enter Tryd.func29, Tryd.ntmps29
  go_wp2_with fail
  refine (CP.out _).mono ?_
  rintro e w1 ⟨rfl, h⟩
  obtain ⟨W3, hs3, hu, h3, -⟩ := Ex.lay w1 N P
  have hlt := (hZ.on h).lt
  have hX : Kept w W3 [(w1.heap.size, (N : Int), starK P 0), (w.heap.size + 1, 0, zf)] := by
    refine ⟨thru (thru hB h) h3, ?_⟩
    simp only [List.mem_cons, List.not_mem_nil, or_false]
    rintro p (rfl | rfl)
    · rw [starK_zero]; exact hu
    · exact (hZ.on h).on h3
  have hsz : w.heap.size ≤ w1.heap.size := by omega
  clear h h3 hu l1 hA hZ hB
  generalize hbw : w1.heap.size = bw at *
  have ne1 : w.heap.size + 1 ≠ bw := by omega
  go_wp2
  clear hs3
  replace hbw := Lib.hid hbw
  go_loopw [4] (fun i W => ∃ k : Nat, k ≤ N ∧ i = .int .i64 k ∧ Kept w W [(bw, (N : Int), starK P k), (w.heap.size + 1, 0, zf)]) (fun i _ => N - (intOf i).toNat)
  case atStart => exact ⟨0, by omega, rfl, hX⟩
  case round =>
    clear hX
    obtain ⟨k, hk, rfl, hX⟩ := hrel
    have n1 := (hX.at (b := bw) (n := N) (f := starK P k) (by simp)).num
    have l1 := (hX.at (b := bw) (n := N) (f := starK P k) (by simp)).ld
    by_cases hkN : k < N
    · have tk : decide (k < N) = true := by simpa using hkN
      have cW := Lib.hid (fun w => show Calls Tryd.prog 52 #[.agg (relC N (starK P k)), .int .i64 (k : Int), .int .i64 (k : Int)] w fun e w' => e = .returned (.agg (relC N (starK P (k + 1)))) ∧ Below w.heap.size w w' by
        have := refwith_any N (starK P k) (starK_64 hP (by omega)) k k (by omega) (by omega) w
        rwa [starK_succ] at this)
      have hXh := Lib.hid hX
      clear hX
      go_wp2_with fail
      clear l1 n1
      refine (cW.out _).mono ?_
      rintro e w1 ⟨rfl, h⟩
      obtain ⟨W4, hs4, hR4, hO4⟩ := ((hXh.out.on h).at (b := bw) (n := N) (f := starK P k) (by simp)).put N (starK P (k + 1))
      have hX4 := (((hXh.out.on h).less (l' := [(w.heap.size + 1, 0, zf)]) (by simp)).only hO4 hsz (by simp only [List.mem_cons, List.not_mem_nil, or_false]; rintro p rfl; assumption)).cons hR4
      clear h hR4 hO4
      go_wp2
      go_roundw
      case rel => exact ⟨k + 1, by omega, by go_num, hX4⟩
      case measure => simp [intOf]; omega
    · obtain rfl : k = N := by omega
      obtain ⟨W4, hs4, hR4, hO4⟩ := (hX.at (b := w.heap.size + 1) (n := 0) (f := zf) (by simp)).put k (starK P k)
      have hB4 := below_only hX.1 hO4 (by omega)
      clear hX hO4
      go_wp2
      refine bodyPost_ret (results_rel rfl _ _ _ _ _ rfl hR4) rfl ?_
      exact ⟨rfl, hB4⟩
theorem refStar_ok (N : Nat) (f : Nat → Nat) (hf : R64 f) (hr : Rgt N f) (w : World) :
    Calls Tryd.prog 29 #[.agg (relC N f)] w fun e w' => e = .returned (.agg (relC N (starK (warK f N N) N))) ∧ Below w.heap.size w w' :=
  refStar_of N f N hr.le _ (war_64 hr.le hf N) (Lib.hid (refPlus_ok N f hf hr)) w
theorem refStar_bad (n : Int) (f : Nat → Nat) (hf : R64 f) (hb : rightB n f = false) (w : World) :
    Calls Tryd.prog 29 #[.agg (relC n f)] w fun e w' => e = .returned (.agg (relC 0 zf)) ∧ Below w.heap.size w w' := by
  have := refStar_of n f 0 (by omega) zf (fun _ => Nat.two_pow_pos 64) (Lib.hid (refPlus_bad n f hf hb)) w
  rwa [starK_zero] at this
end Go.Proofs.YtakhmjohncidoaaDoor
end

section
/- The document's answers for layer 2: Two. -/
namespace Go.Proofs.YtakhmjohncidoaaDoor
open Go.RowKit Go.Shelf Go.BigFrame

attribute [local go_sem] Oper.semAt_some

/-- The pairs that Two gives. -/
def twoP (i : Nat) (f g : Nat → Nat) (N : Nat) : Nat → Nat → Bool := fun a b =>
  match i with
  | 0 => (f a).testBit b || (g a).testBit b
  | 1 => (f a).testBit b && (g a).testBit b
  | 2 => (f a).testBit b && !(g a).testBit b
  | _ => thruK f g a b N
set_option maxRecDepth 100000 in
set_option maxHeartbeats 4000000 in
theorem refTwo_bad (i : Nat) (n m : Int) (f g : Nat → Nat) (hf : R64 f) (hg : R64 g) (hb : combB n m f g = false) (w : World) :
    Calls Tryd.prog 18 #[.int .i64 (i : Int), .agg (relC n f), .agg (relC m g)] w fun e w' => e = .returned (.tuple #[.agg (relC 0 zf), .bool false]) ∧ Below w.heap.size w w' := by
  have hA := ((RelAt.new w n f).alloc (.cells (relC m g) 26)).alloc (.cells (relC 0 zf) 26)
  have hM := (RelAt.new (w.alloc (.cells (relC n f) 26)) m g).alloc (.cells (relC 0 zf) 26)
  have hZ := RelAt.new ((w.alloc (.cells (relC n f) 26)).alloc (.cells (relC m g) 26)) 0 zf
  have hB := thru (thru (below_new w (.cells (relC n f) 26)) (below_new _ (.cells (relC m g) 26))) (below_new _ (.cells (relC 0 zf) 26))
  simp only [World.size_alloc] at hM hZ
  have HR := Lib.hid (refRight_any n f hf)
  have HS := Lib.hid (refRight_any m g hg)
  cases hr : rightB n f
  · rw [hr] at HR
    have l1 := hA.ld
    go_enter Tryd.func18, Tryd.ntmps18
    go_wp2_with fail
    refine (HR.out _).mono ?_
    rintro e w1 ⟨rfl, h⟩
    obtain ⟨W3, hs3, hR3, hO3⟩ := (hZ.on h).put 0 zf
    have hB3 := below_only (thru hB h) hO3 (by omega)
    clear hA hM hZ hB hO3 h l1 hb hr
    go_wp2
    refine bodyPost_ret (results_rel2 rfl _ _ _ _ _ rfl hR3) rfl ?_
    exact ⟨rfl, hB3⟩
  · rw [hr] at HR
    have l1 := hA.ld
    cases hs : rightB m g
    · rw [hs] at HS
      go_enter Tryd.func18, Tryd.ntmps18
      go_wp2_with fail
      refine (HR.out _).mono ?_
      rintro e w1 ⟨rfl, h⟩
      clear l1
      have l2 := (hM.on h).ld
      go_wp2_with fail
      refine (HS.out _).mono ?_
      rintro e w2 ⟨rfl, h2⟩
      clear l2
      obtain ⟨W3, hs3, hR3, hO3⟩ := ((hZ.on h).on h2).put 0 zf
      have hB3 := below_only (thru (thru hB h) h2) hO3 (by omega)
      clear hA hM hZ hB hO3 h h2 hb hr hs
      go_wp2
      refine bodyPost_ret (results_rel2 rfl _ _ _ _ _ rfl hR3) rfl ?_
      exact ⟨rfl, hB3⟩
    · rw [hs] at HS
      have hne : ¬ n = m := fun e => by simp [combB, e, hr, hs] at hb; subst e; rw [hr] at hb; cases hb
      have hne2 : (n != m) = true := by simpa using hne
      go_enter Tryd.func18, Tryd.ntmps18
      go_wp2_with fail
      refine (HR.out _).mono ?_
      rintro e w1 ⟨rfl, h⟩
      clear l1
      have l2 := (hM.on h).ld
      go_wp2_with fail
      refine (HS.out _).mono ?_
      rintro e w2 ⟨rfl, h2⟩
      clear l2
      have n1 := ((hA.on h).on h2).num
      have n2 := ((hM.on h).on h2).num
      obtain ⟨W3, hs3, hR3, hO3⟩ := ((hZ.on h).on h2).put 0 zf
      have hB3 := below_only (thru (thru hB h) h2) hO3 (by omega)
      clear hA hM hZ hB hO3 h h2 hb hr hs
      go_wp2
      refine bodyPost_ret (results_rel2 rfl _ _ _ _ _ rfl hR3) rfl ?_
      exact ⟨rfl, hB3⟩

set_option maxRecDepth 100000 in
set_option maxHeartbeats 8000000 in
theorem refTwo_ok0 (N : Nat) (f g : Nat → Nat) (hf : R64 f) (hg : R64 g) (hr : Rgt N f) (hs : Rgt N g) (w : World) :
    Calls Tryd.prog 18 #[.int .i64 0, .agg (relC N f), .agg (relC N g)] w fun e w' => e = .returned (.tuple #[.agg (relC N (fillF (twoP 0 f g N) N N 0)), .bool true]) ∧ Below w.heap.size w w' := by
  have hN := hr.le
  have HR := Lib.hid (fun w => show Calls Tryd.prog 7 #[.agg (relC N f)] w fun e w' => e = .returned (.bool true) ∧ Below w.heap.size w w' by have := refRight_any N f hf w; rwa [show rightB (N : Int) f = true from hr] at this)
  have HS := Lib.hid (fun w => show Calls Tryd.prog 7 #[.agg (relC N g)] w fun e w' => e = .returned (.bool true) ∧ Below w.heap.size w w' by have := refRight_any N g hg w; rwa [show rightB (N : Int) g = true from hs] at this)
  have CF := Lib.hid (fun w a b (hb : b < 64) => refHas (f a) b (hf a) hb w)
  have CG := Lib.hid (fun w a b (hb : b < 64) => refHas (g a) b (hg a) hb w)
  have CT := Lib.hid (fun w a c (ha : a < 48) (hc : c < 48) => refThrough_ok N f g hN hf hg a c ha hc (N : Int) w)
  have hA := ((RelAt.new w N f).alloc (.cells (relC N g) 26)).alloc (.cells (relC 0 zf) 26)
  have hM := (RelAt.new (w.alloc (.cells (relC N f) 26)) N g).alloc (.cells (relC 0 zf) 26)
  have hZ := RelAt.new ((w.alloc (.cells (relC N f) 26)).alloc (.cells (relC N g) 26)) 0 zf
  have hB := thru (thru (below_new w (.cells (relC N f) 26)) (below_new _ (.cells (relC N g) 26))) (below_new _ (.cells (relC 0 zf) 26))
  simp only [World.size_alloc] at hM hZ
  have l1 := hA.ld
  have hnn : ((N : Int) != (N : Int)) = false := by simp
  go_enter Tryd.func18, Tryd.ntmps18
  go_wp2_with fail
  refine (HR.out _).mono ?_
  rintro e w1 ⟨rfl, h⟩
  clear l1
  have l2 := (hM.on h).ld
  go_wp2_with fail
  refine (HS.out _).mono ?_
  rintro e w2 ⟨rfl, h2⟩
  clear l2
  have hX : Kept w w2 [(w.heap.size + 1 + 1, (0 : Int), zf), (w.heap.size + 1, (N : Int), g), (w.heap.size, (N : Int), f)] := by
    refine ⟨thru (thru hB h) h2, ?_⟩
    simp only [List.mem_cons, List.not_mem_nil, or_false]
    rintro p (rfl | rfl | rfl)
    · exact (hZ.on h).on h2
    · exact (hM.on h).on h2
    · exact (hA.on h).on h2
  clear h h2 hA hM hZ hB
  have n1 := (hX.at (b := w.heap.size) (n := N) (f := f) (by simp)).num
  have n2 := (hX.at (b := w.heap.size + 1) (n := N) (f := g) (by simp)).num
  obtain ⟨W3, hs3, hu, h3, -⟩ := Ex.lay w2 N zf
  have hlt1 := (hX.at (b := w.heap.size + 1 + 1) (n := 0) (f := zf) (by simp)).lt
  have hsz := hX.1.size
  rw [← fill_start (twoP 0 f g N) N] at hu
  replace hX := (hX.on h3).cons hu
  clear h3 hu
  generalize hbr : w2.heap.size = br at *
  have ne1 : w.heap.size + 1 ≠ br := by omega
  have ne2 : w.heap.size ≠ br := by omega
  have ne3 : w.heap.size + 1 + 1 ≠ br := by omega
  go_wp2
  clear hs3 n1 n2
  go_loopw [9] (fun i W => ∃ k : Nat, k ≤ N ∧ i = .int .i64 k ∧ Kept w W [(br, (N : Int), fillF (twoP 0 f g N) N k 0), (w.heap.size + 1 + 1, 0, zf), (w.heap.size + 1, (N : Int), g), (w.heap.size, (N : Int), f)]) (fun i _ => N - (intOf i).toNat)
  case atStart => exact ⟨0, by omega, rfl, hX⟩
  case round =>
    clear hX
    obtain ⟨k, hk, rfl, hX⟩ := hrel
    have n1 := (hX.at (b := w.heap.size) (n := N) (f := f) (by simp)).num
    by_cases hkN : k < N
    · have tk : decide (k < N) = true := by simpa using hkN
      go_wp2
      clear n1
      go_loopw [10] (fun j W => ∃ m : Nat, m ≤ N ∧ j = .int .i64 m ∧ Kept w W [(br, (N : Int), fillF (twoP 0 f g N) N k m), (w.heap.size + 1 + 1, 0, zf), (w.heap.size + 1, (N : Int), g), (w.heap.size, (N : Int), f)]) (fun j _ => N - (intOf j).toNat)
      case atStart => exact ⟨0, by omega, rfl, hX⟩
      case round =>
        clear hX
        obtain ⟨m, hm, rfl, hX⟩ := hrel
        have n1 := (hX.at (b := w.heap.size) (n := N) (f := f) (by simp)).num
        by_cases hmN : m < N
        · have tm : decide (m < N) = true := by simpa using hmN
          have zk : (k : Int) < 48 := by omega
          have cF := Lib.hid (fun W => CF.out W k m (by omega))
          have cG := Lib.hid (fun W => CG.out W k m (by omega))
          have cT := Lib.hid (fun W => CT.out W k m (by omega) (by omega))
          have cW := Lib.hid (fun h w => wstep (n := (N : Int)) (p := twoP 0 f g N) hN hkN hmN h w)
          have hno := Lib.hid (fill_no (twoP 0 f g N) N k m)
          have r1 := Lib.hid (fun W (h : Below wr.heap.size wr W) => ((hX.on h).at (b := w.heap.size) (n := N) (f := f) (by simp)).row k (by omega))
          have r2 := Lib.hid (fun W (h : Below wr.heap.size wr W) => ((hX.on h).at (b := w.heap.size + 1) (n := N) (f := g) (by simp)).row k (by omega))
          have hXh := Lib.hid hX
          clear hX
          have hcr : twoP 0 f g N k m = ((f k).testBit m || (g k).testBit m) := rfl
          rw [hcr] at cW hno
          clear hcr
          generalize (f k).testBit m = p at *
          generalize (g k).testBit m = q at *
          generalize thruK f g k m N = z at *
          go_upto_region 10 with fail
          go_cut [11, 12] (fun v11 v12 W => v11 = .bool p ∧ v12 = .bool q ∧ Below wr.heap.size wr W)
          case first =>
            refine wp_region_below wr.heap.size wr (by kernel_rfl) (by kernel_rfl) (Below.refl _ _) ?_
            repeat (first
              | go_big_quiet_step (first
                | (intro _; exact rfl)
                | (intro hW; go_at_call_of 47 (Value.int .u64 (f k : Int)); exact Calls.below_same hW (cF.out _))
                | (intro hW; go_at_call_of 47 (Value.int .u64 (g k : Int)); exact Calls.below_same hW (cG.out _)))
              | (refine wpQuiet_want rfl fun K hK => ?_
                 first
                   | refine quiet_load 23 (.tmp 46) rfl _ rfl _ setAgg r1.out (hK _ ?_)
                   | refine quiet_load 23 (.tmp 52) rfl _ rfl _ setAgg r2.out (hK _ ?_)
                 clear hK K
                 simp only [Act.put, List.setIfInBounds_toArray, List.set_cons_succ, List.set_cons_zero]))
            refine wpQuiet_nil ?_
            intro w4 hB4
            go_wp2
            go_meet
            exact ⟨rfl, rfl, hB4⟩
          case rest =>
            obtain ⟨rfl, rfl, hBc⟩ := hcut
            have hXc := hXh.out.on hBc
            clear r1 r2 cF cG n1 hXh hBc
            have l1 := (hXc.at (b := br) (n := N) (f := fillF (twoP 0 f g N) N k m) (by simp)).ld
            replace hXc := Lib.hid hXc
            cases p <;> cases q
            all_goals
              first
              | (have cW' := Lib.hid (cW.out rfl)
                 clear cW hno
                 go_wp2_with fail
                 clear l1
                 refine (cW'.out _).mono ?_
                 rintro e w5 ⟨rfl, h⟩
                 obtain ⟨W4, hs4, hR4, hO4⟩ := ((hXc.out.on h).at (b := br) (n := N) (f := fillF (twoP 0 f g N) N k m) (by simp)).put N (fillF (twoP 0 f g N) N k (m + 1))
                 have hX4 := (((hXc.out.on h).less (l' := [(w.heap.size + 1 + 1, 0, zf), (w.heap.size + 1, (N : Int), g), (w.heap.size, (N : Int), f)]) (by simp)).only hO4 (by omega) (by simp only [List.mem_cons, List.not_mem_nil, or_false]; rintro p (rfl | rfl | rfl) <;> assumption)).cons hR4
                 clear h hR4 hO4
                 go_wp2
                 go_roundw
                 case rel => exact ⟨m + 1, by omega, by go_num, hX4⟩
                 case measure => simp [intOf]; omega)
              | (have e := Lib.hid (hno.out rfl)
                 clear cW hno
                 go_wp2
                 go_roundw
                 case rel => exact ⟨m + 1, by omega, by go_num, by rw [← e.out]; exact hXc.out⟩
                 case measure => simp [intOf]; omega)
        · obtain rfl : m = N := by omega
          go_wp2
          go_roundw
          case rel => exact ⟨k + 1, by omega, by go_num, by rw [← fill_next]; exact hX⟩
          case measure => simp [intOf]; omega
    · obtain rfl : k = N := by omega
      have l1 := (hX.at (b := br) (n := k) (f := fillF (twoP 0 f g k) k k 0) (by simp)).ld
      obtain ⟨W4, hs4, hR4, hO4⟩ := (hX.at (b := w.heap.size + 1 + 1) (n := 0) (f := zf) (by simp)).put k (fillF (twoP 0 f g k) k k 0)
      have hB4 := below_only hX.1 hO4 (by omega)
      clear hX hO4
      go_wp2
      refine bodyPost_ret (results_rel2 rfl _ _ _ _ _ rfl hR4) rfl ?_
      exact ⟨rfl, hB4⟩

set_option maxRecDepth 100000 in
set_option maxHeartbeats 8000000 in
theorem refTwo_ok1 (N : Nat) (f g : Nat → Nat) (hf : R64 f) (hg : R64 g) (hr : Rgt N f) (hs : Rgt N g) (w : World) :
    Calls Tryd.prog 18 #[.int .i64 1, .agg (relC N f), .agg (relC N g)] w fun e w' => e = .returned (.tuple #[.agg (relC N (fillF (twoP 1 f g N) N N 0)), .bool true]) ∧ Below w.heap.size w w' := by
  have hN := hr.le
  have HR := Lib.hid (fun w => show Calls Tryd.prog 7 #[.agg (relC N f)] w fun e w' => e = .returned (.bool true) ∧ Below w.heap.size w w' by have := refRight_any N f hf w; rwa [show rightB (N : Int) f = true from hr] at this)
  have HS := Lib.hid (fun w => show Calls Tryd.prog 7 #[.agg (relC N g)] w fun e w' => e = .returned (.bool true) ∧ Below w.heap.size w w' by have := refRight_any N g hg w; rwa [show rightB (N : Int) g = true from hs] at this)
  have CF := Lib.hid (fun w a b (hb : b < 64) => refHas (f a) b (hf a) hb w)
  have CG := Lib.hid (fun w a b (hb : b < 64) => refHas (g a) b (hg a) hb w)
  have CT := Lib.hid (fun w a c (ha : a < 48) (hc : c < 48) => refThrough_ok N f g hN hf hg a c ha hc (N : Int) w)
  have hA := ((RelAt.new w N f).alloc (.cells (relC N g) 26)).alloc (.cells (relC 0 zf) 26)
  have hM := (RelAt.new (w.alloc (.cells (relC N f) 26)) N g).alloc (.cells (relC 0 zf) 26)
  have hZ := RelAt.new ((w.alloc (.cells (relC N f) 26)).alloc (.cells (relC N g) 26)) 0 zf
  have hB := thru (thru (below_new w (.cells (relC N f) 26)) (below_new _ (.cells (relC N g) 26))) (below_new _ (.cells (relC 0 zf) 26))
  simp only [World.size_alloc] at hM hZ
  have l1 := hA.ld
  have hnn : ((N : Int) != (N : Int)) = false := by simp
  go_enter Tryd.func18, Tryd.ntmps18
  go_wp2_with fail
  refine (HR.out _).mono ?_
  rintro e w1 ⟨rfl, h⟩
  clear l1
  have l2 := (hM.on h).ld
  go_wp2_with fail
  refine (HS.out _).mono ?_
  rintro e w2 ⟨rfl, h2⟩
  clear l2
  have hX : Kept w w2 [(w.heap.size + 1 + 1, (0 : Int), zf), (w.heap.size + 1, (N : Int), g), (w.heap.size, (N : Int), f)] := by
    refine ⟨thru (thru hB h) h2, ?_⟩
    simp only [List.mem_cons, List.not_mem_nil, or_false]
    rintro p (rfl | rfl | rfl)
    · exact (hZ.on h).on h2
    · exact (hM.on h).on h2
    · exact (hA.on h).on h2
  clear h h2 hA hM hZ hB
  have n1 := (hX.at (b := w.heap.size) (n := N) (f := f) (by simp)).num
  have n2 := (hX.at (b := w.heap.size + 1) (n := N) (f := g) (by simp)).num
  obtain ⟨W3, hs3, hu, h3, -⟩ := Ex.lay w2 N zf
  have hlt1 := (hX.at (b := w.heap.size + 1 + 1) (n := 0) (f := zf) (by simp)).lt
  have hsz := hX.1.size
  rw [← fill_start (twoP 1 f g N) N] at hu
  replace hX := (hX.on h3).cons hu
  clear h3 hu
  generalize hbr : w2.heap.size = br at *
  have ne1 : w.heap.size + 1 ≠ br := by omega
  have ne2 : w.heap.size ≠ br := by omega
  have ne3 : w.heap.size + 1 + 1 ≠ br := by omega
  go_wp2
  clear hs3 n1 n2
  go_loopw [9] (fun i W => ∃ k : Nat, k ≤ N ∧ i = .int .i64 k ∧ Kept w W [(br, (N : Int), fillF (twoP 1 f g N) N k 0), (w.heap.size + 1 + 1, 0, zf), (w.heap.size + 1, (N : Int), g), (w.heap.size, (N : Int), f)]) (fun i _ => N - (intOf i).toNat)
  case atStart => exact ⟨0, by omega, rfl, hX⟩
  case round =>
    clear hX
    obtain ⟨k, hk, rfl, hX⟩ := hrel
    have n1 := (hX.at (b := w.heap.size) (n := N) (f := f) (by simp)).num
    by_cases hkN : k < N
    · have tk : decide (k < N) = true := by simpa using hkN
      go_wp2
      clear n1
      go_loopw [10] (fun j W => ∃ m : Nat, m ≤ N ∧ j = .int .i64 m ∧ Kept w W [(br, (N : Int), fillF (twoP 1 f g N) N k m), (w.heap.size + 1 + 1, 0, zf), (w.heap.size + 1, (N : Int), g), (w.heap.size, (N : Int), f)]) (fun j _ => N - (intOf j).toNat)
      case atStart => exact ⟨0, by omega, rfl, hX⟩
      case round =>
        clear hX
        obtain ⟨m, hm, rfl, hX⟩ := hrel
        have n1 := (hX.at (b := w.heap.size) (n := N) (f := f) (by simp)).num
        by_cases hmN : m < N
        · have tm : decide (m < N) = true := by simpa using hmN
          have zk : (k : Int) < 48 := by omega
          have cF := Lib.hid (fun W => CF.out W k m (by omega))
          have cG := Lib.hid (fun W => CG.out W k m (by omega))
          have cT := Lib.hid (fun W => CT.out W k m (by omega) (by omega))
          have cW := Lib.hid (fun h w => wstep (n := (N : Int)) (p := twoP 1 f g N) hN hkN hmN h w)
          have hno := Lib.hid (fill_no (twoP 1 f g N) N k m)
          have r1 := Lib.hid (fun W (h : Below wr.heap.size wr W) => ((hX.on h).at (b := w.heap.size) (n := N) (f := f) (by simp)).row k (by omega))
          have r2 := Lib.hid (fun W (h : Below wr.heap.size wr W) => ((hX.on h).at (b := w.heap.size + 1) (n := N) (f := g) (by simp)).row k (by omega))
          have hXh := Lib.hid hX
          clear hX
          have hcr : twoP 1 f g N k m = ((f k).testBit m && (g k).testBit m) := rfl
          rw [hcr] at cW hno
          clear hcr
          generalize (f k).testBit m = p at *
          generalize (g k).testBit m = q at *
          generalize thruK f g k m N = z at *
          go_upto_region 10 with fail
          go_cut [11, 12] (fun v11 v12 W => v11 = .bool p ∧ v12 = .bool q ∧ Below wr.heap.size wr W)
          case first =>
            refine wp_region_below wr.heap.size wr (by kernel_rfl) (by kernel_rfl) (Below.refl _ _) ?_
            repeat (first
              | go_big_quiet_step (first
                | (intro _; exact rfl)
                | (intro hW; go_at_call_of 47 (Value.int .u64 (f k : Int)); exact Calls.below_same hW (cF.out _))
                | (intro hW; go_at_call_of 47 (Value.int .u64 (g k : Int)); exact Calls.below_same hW (cG.out _)))
              | (refine wpQuiet_want rfl fun K hK => ?_
                 first
                   | refine quiet_load 23 (.tmp 46) rfl _ rfl _ setAgg r1.out (hK _ ?_)
                   | refine quiet_load 23 (.tmp 52) rfl _ rfl _ setAgg r2.out (hK _ ?_)
                 clear hK K
                 simp only [Act.put, List.setIfInBounds_toArray, List.set_cons_succ, List.set_cons_zero]))
            refine wpQuiet_nil ?_
            intro w4 hB4
            go_wp2
            go_meet
            exact ⟨rfl, rfl, hB4⟩
          case rest =>
            obtain ⟨rfl, rfl, hBc⟩ := hcut
            have hXc := hXh.out.on hBc
            clear r1 r2 cF cG n1 hXh hBc
            have l1 := (hXc.at (b := br) (n := N) (f := fillF (twoP 1 f g N) N k m) (by simp)).ld
            replace hXc := Lib.hid hXc
            cases p <;> cases q
            all_goals
              first
              | (have cW' := Lib.hid (cW.out rfl)
                 clear cW hno
                 go_wp2_with fail
                 clear l1
                 refine (cW'.out _).mono ?_
                 rintro e w5 ⟨rfl, h⟩
                 obtain ⟨W4, hs4, hR4, hO4⟩ := ((hXc.out.on h).at (b := br) (n := N) (f := fillF (twoP 1 f g N) N k m) (by simp)).put N (fillF (twoP 1 f g N) N k (m + 1))
                 have hX4 := (((hXc.out.on h).less (l' := [(w.heap.size + 1 + 1, 0, zf), (w.heap.size + 1, (N : Int), g), (w.heap.size, (N : Int), f)]) (by simp)).only hO4 (by omega) (by simp only [List.mem_cons, List.not_mem_nil, or_false]; rintro p (rfl | rfl | rfl) <;> assumption)).cons hR4
                 clear h hR4 hO4
                 go_wp2
                 go_roundw
                 case rel => exact ⟨m + 1, by omega, by go_num, hX4⟩
                 case measure => simp [intOf]; omega)
              | (have e := Lib.hid (hno.out rfl)
                 clear cW hno
                 go_wp2
                 go_roundw
                 case rel => exact ⟨m + 1, by omega, by go_num, by rw [← e.out]; exact hXc.out⟩
                 case measure => simp [intOf]; omega)
        · obtain rfl : m = N := by omega
          go_wp2
          go_roundw
          case rel => exact ⟨k + 1, by omega, by go_num, by rw [← fill_next]; exact hX⟩
          case measure => simp [intOf]; omega
    · obtain rfl : k = N := by omega
      have l1 := (hX.at (b := br) (n := k) (f := fillF (twoP 1 f g k) k k 0) (by simp)).ld
      obtain ⟨W4, hs4, hR4, hO4⟩ := (hX.at (b := w.heap.size + 1 + 1) (n := 0) (f := zf) (by simp)).put k (fillF (twoP 1 f g k) k k 0)
      have hB4 := below_only hX.1 hO4 (by omega)
      clear hX hO4
      go_wp2
      refine bodyPost_ret (results_rel2 rfl _ _ _ _ _ rfl hR4) rfl ?_
      exact ⟨rfl, hB4⟩

set_option maxRecDepth 100000 in
set_option maxHeartbeats 8000000 in
theorem refTwo_ok2 (N : Nat) (f g : Nat → Nat) (hf : R64 f) (hg : R64 g) (hr : Rgt N f) (hs : Rgt N g) (w : World) :
    Calls Tryd.prog 18 #[.int .i64 2, .agg (relC N f), .agg (relC N g)] w fun e w' => e = .returned (.tuple #[.agg (relC N (fillF (twoP 2 f g N) N N 0)), .bool true]) ∧ Below w.heap.size w w' := by
  have hN := hr.le
  have HR := Lib.hid (fun w => show Calls Tryd.prog 7 #[.agg (relC N f)] w fun e w' => e = .returned (.bool true) ∧ Below w.heap.size w w' by have := refRight_any N f hf w; rwa [show rightB (N : Int) f = true from hr] at this)
  have HS := Lib.hid (fun w => show Calls Tryd.prog 7 #[.agg (relC N g)] w fun e w' => e = .returned (.bool true) ∧ Below w.heap.size w w' by have := refRight_any N g hg w; rwa [show rightB (N : Int) g = true from hs] at this)
  have CF := Lib.hid (fun w a b (hb : b < 64) => refHas (f a) b (hf a) hb w)
  have CG := Lib.hid (fun w a b (hb : b < 64) => refHas (g a) b (hg a) hb w)
  have CT := Lib.hid (fun w a c (ha : a < 48) (hc : c < 48) => refThrough_ok N f g hN hf hg a c ha hc (N : Int) w)
  have hA := ((RelAt.new w N f).alloc (.cells (relC N g) 26)).alloc (.cells (relC 0 zf) 26)
  have hM := (RelAt.new (w.alloc (.cells (relC N f) 26)) N g).alloc (.cells (relC 0 zf) 26)
  have hZ := RelAt.new ((w.alloc (.cells (relC N f) 26)).alloc (.cells (relC N g) 26)) 0 zf
  have hB := thru (thru (below_new w (.cells (relC N f) 26)) (below_new _ (.cells (relC N g) 26))) (below_new _ (.cells (relC 0 zf) 26))
  simp only [World.size_alloc] at hM hZ
  have l1 := hA.ld
  have hnn : ((N : Int) != (N : Int)) = false := by simp
  go_enter Tryd.func18, Tryd.ntmps18
  go_wp2_with fail
  refine (HR.out _).mono ?_
  rintro e w1 ⟨rfl, h⟩
  clear l1
  have l2 := (hM.on h).ld
  go_wp2_with fail
  refine (HS.out _).mono ?_
  rintro e w2 ⟨rfl, h2⟩
  clear l2
  have hX : Kept w w2 [(w.heap.size + 1 + 1, (0 : Int), zf), (w.heap.size + 1, (N : Int), g), (w.heap.size, (N : Int), f)] := by
    refine ⟨thru (thru hB h) h2, ?_⟩
    simp only [List.mem_cons, List.not_mem_nil, or_false]
    rintro p (rfl | rfl | rfl)
    · exact (hZ.on h).on h2
    · exact (hM.on h).on h2
    · exact (hA.on h).on h2
  clear h h2 hA hM hZ hB
  have n1 := (hX.at (b := w.heap.size) (n := N) (f := f) (by simp)).num
  have n2 := (hX.at (b := w.heap.size + 1) (n := N) (f := g) (by simp)).num
  obtain ⟨W3, hs3, hu, h3, -⟩ := Ex.lay w2 N zf
  have hlt1 := (hX.at (b := w.heap.size + 1 + 1) (n := 0) (f := zf) (by simp)).lt
  have hsz := hX.1.size
  rw [← fill_start (twoP 2 f g N) N] at hu
  replace hX := (hX.on h3).cons hu
  clear h3 hu
  generalize hbr : w2.heap.size = br at *
  have ne1 : w.heap.size + 1 ≠ br := by omega
  have ne2 : w.heap.size ≠ br := by omega
  have ne3 : w.heap.size + 1 + 1 ≠ br := by omega
  go_wp2
  clear hs3 n1 n2
  go_loopw [9] (fun i W => ∃ k : Nat, k ≤ N ∧ i = .int .i64 k ∧ Kept w W [(br, (N : Int), fillF (twoP 2 f g N) N k 0), (w.heap.size + 1 + 1, 0, zf), (w.heap.size + 1, (N : Int), g), (w.heap.size, (N : Int), f)]) (fun i _ => N - (intOf i).toNat)
  case atStart => exact ⟨0, by omega, rfl, hX⟩
  case round =>
    clear hX
    obtain ⟨k, hk, rfl, hX⟩ := hrel
    have n1 := (hX.at (b := w.heap.size) (n := N) (f := f) (by simp)).num
    by_cases hkN : k < N
    · have tk : decide (k < N) = true := by simpa using hkN
      go_wp2
      clear n1
      go_loopw [10] (fun j W => ∃ m : Nat, m ≤ N ∧ j = .int .i64 m ∧ Kept w W [(br, (N : Int), fillF (twoP 2 f g N) N k m), (w.heap.size + 1 + 1, 0, zf), (w.heap.size + 1, (N : Int), g), (w.heap.size, (N : Int), f)]) (fun j _ => N - (intOf j).toNat)
      case atStart => exact ⟨0, by omega, rfl, hX⟩
      case round =>
        clear hX
        obtain ⟨m, hm, rfl, hX⟩ := hrel
        have n1 := (hX.at (b := w.heap.size) (n := N) (f := f) (by simp)).num
        by_cases hmN : m < N
        · have tm : decide (m < N) = true := by simpa using hmN
          have zk : (k : Int) < 48 := by omega
          have cF := Lib.hid (fun W => CF.out W k m (by omega))
          have cG := Lib.hid (fun W => CG.out W k m (by omega))
          have cT := Lib.hid (fun W => CT.out W k m (by omega) (by omega))
          have cW := Lib.hid (fun h w => wstep (n := (N : Int)) (p := twoP 2 f g N) hN hkN hmN h w)
          have hno := Lib.hid (fill_no (twoP 2 f g N) N k m)
          have r1 := Lib.hid (fun W (h : Below wr.heap.size wr W) => ((hX.on h).at (b := w.heap.size) (n := N) (f := f) (by simp)).row k (by omega))
          have r2 := Lib.hid (fun W (h : Below wr.heap.size wr W) => ((hX.on h).at (b := w.heap.size + 1) (n := N) (f := g) (by simp)).row k (by omega))
          have hXh := Lib.hid hX
          clear hX
          have hcr : twoP 2 f g N k m = ((f k).testBit m && !(g k).testBit m) := rfl
          rw [hcr] at cW hno
          clear hcr
          generalize (f k).testBit m = p at *
          generalize (g k).testBit m = q at *
          generalize thruK f g k m N = z at *
          go_upto_region 10 with fail
          go_cut [11, 12] (fun v11 v12 W => v11 = .bool p ∧ v12 = .bool q ∧ Below wr.heap.size wr W)
          case first =>
            refine wp_region_below wr.heap.size wr (by kernel_rfl) (by kernel_rfl) (Below.refl _ _) ?_
            repeat (first
              | go_big_quiet_step (first
                | (intro _; exact rfl)
                | (intro hW; go_at_call_of 47 (Value.int .u64 (f k : Int)); exact Calls.below_same hW (cF.out _))
                | (intro hW; go_at_call_of 47 (Value.int .u64 (g k : Int)); exact Calls.below_same hW (cG.out _)))
              | (refine wpQuiet_want rfl fun K hK => ?_
                 first
                   | refine quiet_load 23 (.tmp 46) rfl _ rfl _ setAgg r1.out (hK _ ?_)
                   | refine quiet_load 23 (.tmp 52) rfl _ rfl _ setAgg r2.out (hK _ ?_)
                 clear hK K
                 simp only [Act.put, List.setIfInBounds_toArray, List.set_cons_succ, List.set_cons_zero]))
            refine wpQuiet_nil ?_
            intro w4 hB4
            go_wp2
            go_meet
            exact ⟨rfl, rfl, hB4⟩
          case rest =>
            obtain ⟨rfl, rfl, hBc⟩ := hcut
            have hXc := hXh.out.on hBc
            clear r1 r2 cF cG n1 hXh hBc
            have l1 := (hXc.at (b := br) (n := N) (f := fillF (twoP 2 f g N) N k m) (by simp)).ld
            replace hXc := Lib.hid hXc
            cases p <;> cases q
            all_goals
              first
              | (have cW' := Lib.hid (cW.out rfl)
                 clear cW hno
                 go_wp2_with fail
                 clear l1
                 refine (cW'.out _).mono ?_
                 rintro e w5 ⟨rfl, h⟩
                 obtain ⟨W4, hs4, hR4, hO4⟩ := ((hXc.out.on h).at (b := br) (n := N) (f := fillF (twoP 2 f g N) N k m) (by simp)).put N (fillF (twoP 2 f g N) N k (m + 1))
                 have hX4 := (((hXc.out.on h).less (l' := [(w.heap.size + 1 + 1, 0, zf), (w.heap.size + 1, (N : Int), g), (w.heap.size, (N : Int), f)]) (by simp)).only hO4 (by omega) (by simp only [List.mem_cons, List.not_mem_nil, or_false]; rintro p (rfl | rfl | rfl) <;> assumption)).cons hR4
                 clear h hR4 hO4
                 go_wp2
                 go_roundw
                 case rel => exact ⟨m + 1, by omega, by go_num, hX4⟩
                 case measure => simp [intOf]; omega)
              | (have e := Lib.hid (hno.out rfl)
                 clear cW hno
                 go_wp2
                 go_roundw
                 case rel => exact ⟨m + 1, by omega, by go_num, by rw [← e.out]; exact hXc.out⟩
                 case measure => simp [intOf]; omega)
        · obtain rfl : m = N := by omega
          go_wp2
          go_roundw
          case rel => exact ⟨k + 1, by omega, by go_num, by rw [← fill_next]; exact hX⟩
          case measure => simp [intOf]; omega
    · obtain rfl : k = N := by omega
      have l1 := (hX.at (b := br) (n := k) (f := fillF (twoP 2 f g k) k k 0) (by simp)).ld
      obtain ⟨W4, hs4, hR4, hO4⟩ := (hX.at (b := w.heap.size + 1 + 1) (n := 0) (f := zf) (by simp)).put k (fillF (twoP 2 f g k) k k 0)
      have hB4 := below_only hX.1 hO4 (by omega)
      clear hX hO4
      go_wp2
      refine bodyPost_ret (results_rel2 rfl _ _ _ _ _ rfl hR4) rfl ?_
      exact ⟨rfl, hB4⟩

set_option maxRecDepth 100000 in
set_option maxHeartbeats 8000000 in
theorem refTwo_ok3 (N : Nat) (f g : Nat → Nat) (hf : R64 f) (hg : R64 g) (hr : Rgt N f) (hs : Rgt N g) (w : World) :
    Calls Tryd.prog 18 #[.int .i64 3, .agg (relC N f), .agg (relC N g)] w fun e w' => e = .returned (.tuple #[.agg (relC N (fillF (twoP 3 f g N) N N 0)), .bool true]) ∧ Below w.heap.size w w' := by
  have hN := hr.le
  have HR := Lib.hid (fun w => show Calls Tryd.prog 7 #[.agg (relC N f)] w fun e w' => e = .returned (.bool true) ∧ Below w.heap.size w w' by have := refRight_any N f hf w; rwa [show rightB (N : Int) f = true from hr] at this)
  have HS := Lib.hid (fun w => show Calls Tryd.prog 7 #[.agg (relC N g)] w fun e w' => e = .returned (.bool true) ∧ Below w.heap.size w w' by have := refRight_any N g hg w; rwa [show rightB (N : Int) g = true from hs] at this)
  have CF := Lib.hid (fun w a b (hb : b < 64) => refHas (f a) b (hf a) hb w)
  have CG := Lib.hid (fun w a b (hb : b < 64) => refHas (g a) b (hg a) hb w)
  have CT := Lib.hid (fun w a c (ha : a < 48) (hc : c < 48) => refThrough_ok N f g hN hf hg a c ha hc (N : Int) w)
  have hA := ((RelAt.new w N f).alloc (.cells (relC N g) 26)).alloc (.cells (relC 0 zf) 26)
  have hM := (RelAt.new (w.alloc (.cells (relC N f) 26)) N g).alloc (.cells (relC 0 zf) 26)
  have hZ := RelAt.new ((w.alloc (.cells (relC N f) 26)).alloc (.cells (relC N g) 26)) 0 zf
  have hB := thru (thru (below_new w (.cells (relC N f) 26)) (below_new _ (.cells (relC N g) 26))) (below_new _ (.cells (relC 0 zf) 26))
  simp only [World.size_alloc] at hM hZ
  have l1 := hA.ld
  have hnn : ((N : Int) != (N : Int)) = false := by simp
  go_enter Tryd.func18, Tryd.ntmps18
  go_wp2_with fail
  refine (HR.out _).mono ?_
  rintro e w1 ⟨rfl, h⟩
  clear l1
  have l2 := (hM.on h).ld
  go_wp2_with fail
  refine (HS.out _).mono ?_
  rintro e w2 ⟨rfl, h2⟩
  clear l2
  have hX : Kept w w2 [(w.heap.size + 1 + 1, (0 : Int), zf), (w.heap.size + 1, (N : Int), g), (w.heap.size, (N : Int), f)] := by
    refine ⟨thru (thru hB h) h2, ?_⟩
    simp only [List.mem_cons, List.not_mem_nil, or_false]
    rintro p (rfl | rfl | rfl)
    · exact (hZ.on h).on h2
    · exact (hM.on h).on h2
    · exact (hA.on h).on h2
  clear h h2 hA hM hZ hB
  have n1 := (hX.at (b := w.heap.size) (n := N) (f := f) (by simp)).num
  have n2 := (hX.at (b := w.heap.size + 1) (n := N) (f := g) (by simp)).num
  obtain ⟨W3, hs3, hu, h3, -⟩ := Ex.lay w2 N zf
  have hlt1 := (hX.at (b := w.heap.size + 1 + 1) (n := 0) (f := zf) (by simp)).lt
  have hsz := hX.1.size
  rw [← fill_start (twoP 3 f g N) N] at hu
  replace hX := (hX.on h3).cons hu
  clear h3 hu
  generalize hbr : w2.heap.size = br at *
  have ne1 : w.heap.size + 1 ≠ br := by omega
  have ne2 : w.heap.size ≠ br := by omega
  have ne3 : w.heap.size + 1 + 1 ≠ br := by omega
  go_wp2
  clear hs3 n1 n2
  go_loopw [9] (fun i W => ∃ k : Nat, k ≤ N ∧ i = .int .i64 k ∧ Kept w W [(br, (N : Int), fillF (twoP 3 f g N) N k 0), (w.heap.size + 1 + 1, 0, zf), (w.heap.size + 1, (N : Int), g), (w.heap.size, (N : Int), f)]) (fun i _ => N - (intOf i).toNat)
  case atStart => exact ⟨0, by omega, rfl, hX⟩
  case round =>
    clear hX
    obtain ⟨k, hk, rfl, hX⟩ := hrel
    have n1 := (hX.at (b := w.heap.size) (n := N) (f := f) (by simp)).num
    by_cases hkN : k < N
    · have tk : decide (k < N) = true := by simpa using hkN
      go_wp2
      clear n1
      go_loopw [10] (fun j W => ∃ m : Nat, m ≤ N ∧ j = .int .i64 m ∧ Kept w W [(br, (N : Int), fillF (twoP 3 f g N) N k m), (w.heap.size + 1 + 1, 0, zf), (w.heap.size + 1, (N : Int), g), (w.heap.size, (N : Int), f)]) (fun j _ => N - (intOf j).toNat)
      case atStart => exact ⟨0, by omega, rfl, hX⟩
      case round =>
        clear hX
        obtain ⟨m, hm, rfl, hX⟩ := hrel
        have n1 := (hX.at (b := w.heap.size) (n := N) (f := f) (by simp)).num
        by_cases hmN : m < N
        · have tm : decide (m < N) = true := by simpa using hmN
          have zk : (k : Int) < 48 := by omega
          have cF := Lib.hid (fun W => CF.out W k m (by omega))
          have cG := Lib.hid (fun W => CG.out W k m (by omega))
          have cT := Lib.hid (fun W => CT.out W k m (by omega) (by omega))
          have cW := Lib.hid (fun h w => wstep (n := (N : Int)) (p := twoP 3 f g N) hN hkN hmN h w)
          have hno := Lib.hid (fill_no (twoP 3 f g N) N k m)
          have r1 := Lib.hid (fun W (h : Below wr.heap.size wr W) => ((hX.on h).at (b := w.heap.size) (n := N) (f := f) (by simp)).row k (by omega))
          have r2 := Lib.hid (fun W (h : Below wr.heap.size wr W) => ((hX.on h).at (b := w.heap.size + 1) (n := N) (f := g) (by simp)).row k (by omega))
          have hXh := Lib.hid hX
          clear hX
          have hcr : twoP 3 f g N k m = thruK f g k m N := rfl
          rw [hcr] at cW hno
          clear hcr
          generalize (f k).testBit m = p at *
          generalize (g k).testBit m = q at *
          generalize thruK f g k m N = z at *
          go_upto_region 10 with fail
          go_cut [11, 12] (fun v11 v12 W => v11 = .bool p ∧ v12 = .bool q ∧ Below wr.heap.size wr W)
          case first =>
            refine wp_region_below wr.heap.size wr (by kernel_rfl) (by kernel_rfl) (Below.refl _ _) ?_
            repeat (first
              | go_big_quiet_step (first
                | (intro _; exact rfl)
                | (intro hW; go_at_call_of 47 (Value.int .u64 (f k : Int)); exact Calls.below_same hW (cF.out _))
                | (intro hW; go_at_call_of 47 (Value.int .u64 (g k : Int)); exact Calls.below_same hW (cG.out _)))
              | (refine wpQuiet_want rfl fun K hK => ?_
                 first
                   | refine quiet_load 23 (.tmp 46) rfl _ rfl _ setAgg r1.out (hK _ ?_)
                   | refine quiet_load 23 (.tmp 52) rfl _ rfl _ setAgg r2.out (hK _ ?_)
                 clear hK K
                 simp only [Act.put, List.setIfInBounds_toArray, List.set_cons_succ, List.set_cons_zero]))
            refine wpQuiet_nil ?_
            intro w4 hB4
            go_wp2
            go_meet
            exact ⟨rfl, rfl, hB4⟩
          case rest =>
            obtain ⟨rfl, rfl, hBc⟩ := hcut
            have hXc := hXh.out.on hBc
            clear r1 r2 cF cG n1 hXh hBc
            have l1 := (hXc.at (b := br) (n := N) (f := fillF (twoP 3 f g N) N k m) (by simp)).ld
            replace hXc := Lib.hid hXc
            have l2 := (hXc.out.at (b := w.heap.size) (n := N) (f := f) (by simp)).ld
            have l3 := (hXc.out.at (b := w.heap.size + 1) (n := N) (f := g) (by simp)).ld
            go_wp2_with fail
            clear l1 l2 l3
            refine (cT.out _).mono ?_
            rintro e w6 ⟨rfl, h6⟩
            replace hXc := Lib.hid (hXc.out.on h6)
            clear h6
            have l1 := (hXc.out.at (b := br) (n := N) (f := fillF (twoP 3 f g N) N k m) (by simp)).ld
            cases z
            all_goals
              first
              | (have cW' := Lib.hid (cW.out rfl)
                 clear cW hno
                 go_wp2_with fail
                 clear l1
                 refine (cW'.out _).mono ?_
                 rintro e w5 ⟨rfl, h⟩
                 obtain ⟨W4, hs4, hR4, hO4⟩ := ((hXc.out.on h).at (b := br) (n := N) (f := fillF (twoP 3 f g N) N k m) (by simp)).put N (fillF (twoP 3 f g N) N k (m + 1))
                 have hX4 := (((hXc.out.on h).less (l' := [(w.heap.size + 1 + 1, 0, zf), (w.heap.size + 1, (N : Int), g), (w.heap.size, (N : Int), f)]) (by simp)).only hO4 (by omega) (by simp only [List.mem_cons, List.not_mem_nil, or_false]; rintro p (rfl | rfl | rfl) <;> assumption)).cons hR4
                 clear h hR4 hO4
                 go_wp2
                 go_roundw
                 case rel => exact ⟨m + 1, by omega, by go_num, hX4⟩
                 case measure => simp [intOf]; omega)
              | (have e := Lib.hid (hno.out rfl)
                 clear cW hno
                 go_wp2
                 go_roundw
                 case rel => exact ⟨m + 1, by omega, by go_num, by rw [← e.out]; exact hXc.out⟩
                 case measure => simp [intOf]; omega)
        · obtain rfl : m = N := by omega
          go_wp2
          go_roundw
          case rel => exact ⟨k + 1, by omega, by go_num, by rw [← fill_next]; exact hX⟩
          case measure => simp [intOf]; omega
    · obtain rfl : k = N := by omega
      have l1 := (hX.at (b := br) (n := k) (f := fillF (twoP 3 f g k) k k 0) (by simp)).ld
      obtain ⟨W4, hs4, hR4, hO4⟩ := (hX.at (b := w.heap.size + 1 + 1) (n := 0) (f := zf) (by simp)).put k (fillF (twoP 3 f g k) k k 0)
      have hB4 := below_only hX.1 hO4 (by omega)
      clear hX hO4
      go_wp2
      refine bodyPost_ret (results_rel2 rfl _ _ _ _ _ rfl hR4) rfl ?_
      exact ⟨rfl, hB4⟩
end Go.Proofs.YtakhmjohncidoaaDoor
end

section
/- The contracts of the operations on a relation that is not right. -/
namespace Go.Proofs.YtakhmjohncidoaaDoor
open Go.RowKit Go.Shelf

attribute [local go_sem] Oper.semAt_some

section
variable {n : Int} {f : Nat → Nat} (hb : rightB n f = false) (hf : R64 f) (w : World)
include hb hf
theorem bad_right : Calls Tryd.prog 6 #[.agg (relC n f)] w fun e w' => e = .returned (.bool false) ∧ Below w.heap.size w w' := by
  have := right_any n f w hf
  rwa [hb] at this
theorem bad_top (hT : Tab w) : Calls Tryd.prog 34 #[.agg (relC n f)] w fun e w' => (∃ v, e = .returned (.tuple #[v, .bool false])) ∧ Below w.heap.size w w' := by
  have := top_any n f w hf hT
  rw [show topF n f = none by simp [topF, hb]] at this
  refine this.mono ?_
  rintro e w' ⟨v, h, _, hb⟩
  exact ⟨⟨v, h⟩, hb⟩
theorem bad_ring (hT : Tab w) : Calls Tryd.prog 37 #[.agg (relC n f)] w fun e w' => e = .returned (.slice none 0 0) ∧ Below w.heap.size w w' := by
  have := ring_any n f w hf hT
  rw [show ringF n f = none by simp [ringF, hb]] at this
  refine this.mono ?_
  rintro e w' ⟨v, h, _, hb, hv⟩
  rw [hv rfl] at h
  exact ⟨h, hb⟩
theorem bad_union (m : Int) (g : Nat → Nat) (hg : R64 g) : Calls Tryd.prog 14 #[.agg (relC n f), .agg (relC m g)] w fun e w' => e = .returned (.tuple #[.agg (relC 0 zf), .int .i64 2]) ∧ Below w.heap.size w w' := by
  have := union_any n m f g hf hg w
  unfold CombPost at this
  rwa [show combB n m f g = false by simp [combB, hb]] at this
theorem bad_then (m : Int) (g : Nat → Nat) (hg : R64 g) (hT : Tab w) : Calls Tryd.prog 17 #[.agg (relC m g), .agg (relC n f)] w fun e w' => e = .returned (.tuple #[.agg (relC 0 zf), .int .i64 2]) ∧ Below w.heap.size w w' := by
  have := thens_any m n g f hg hf w hT
  unfold CombPost at this
  rwa [show combB m n g f = false by simp [combB, hb]] at this
theorem bad_pairs (hT : Tab w) : Calls Tryd.prog 22 #[.agg (relC n f)] w fun e w' => (∃ a c, e = .returned (.slice a 0 c)) ∧ Below w.heap.size w w' := by
  have := relPairs_any n f w hf hT
  rw [hb] at this
  refine this.mono ?_
  rintro e w' ⟨v, h, ho, hb⟩
  obtain ⟨a, c, hv⟩ := ownsRow_slice ho
  rw [hv] at h
  exact ⟨⟨a, c, h⟩, hb⟩
theorem bad_nil : Calls Tryd.prog 22 #[.agg (relC n f)] w fun e w' => e = .returned (.slice none 0 0) ∧ Below w.heap.size w w' := by
  have hA := RelAt.new w n f
  have l1 := hA.ld
  have HR := Lib.hid (bad_right (n := n) (f := f) hb hf (w.alloc (.cells (relC n f) 26)))
  go_enter Tryd.func22, Tryd.ntmps22
  go_wp2_with fail
  refine HR.out.mono ?_
  rintro e w1 ⟨rfl, h⟩
  go_wp2
  go_ret
  exact ⟨rfl, thru (below_new w _) h⟩
theorem bad_empty : Calls Tryd.prog 39 #[.agg (relC n f)] w fun e w' => e = .returned (.bool false) ∧ Below w.heap.size w w' := by
  have := empty_any n f w hf
  rwa [hb] at this
theorem bad_irr : Calls Tryd.prog 40 #[.agg (relC n f)] w fun e w' => e = .returned (.bool false) ∧ Below w.heap.size w w' := by
  have := irr_any n f w hf
  rwa [hb] at this
theorem bad_acyclic (hT : Tab w) : Calls Tryd.prog 42 #[.agg (relC n f)] w fun e w' => e = .returned (.bool false) ∧ Below w.heap.size w w' := by
  have := acyclic_any n f w hf hT
  rwa [show topF n f = none by simp [topF, hb]] at this
theorem bad_plus (hT : Tab w) : Calls Tryd.prog 26 #[.agg (relC n f)] w fun e w' => e = .returned (.agg (relC 0 zf)) ∧ Below w.heap.size w w' := by
  have := plus_any n f w hf hT
  rwa [hb] at this
theorem bad_back (hT : Tab w) : Calls Tryd.prog 24 #[.agg (relC n f)] w fun e w' => e = .returned (.agg (relC 0 zf)) ∧ Below w.heap.size w w' := by
  have := back_any n f w hf hT
  rwa [hb] at this
theorem bad_from : Calls Tryd.prog 30 #[.agg (relC n f)] w fun e w' => e = .returned (.int .u64 0) ∧ Below w.heap.size w w' := by
  have := from_any n f w hf
  rwa [hb] at this
theorem bad_into (hT : Tab w) : Calls Tryd.prog 32 #[.agg (relC n f)] w fun e w' => e = .returned (.int .u64 0) ∧ Below w.heap.size w w' := by
  have := into_any n f w hf hT
  rwa [hb] at this
theorem bad_star (hT : Tab w) : Calls Tryd.prog 28 #[.agg (relC n f)] w fun e w' => e = .returned (.agg (relC 0 zf)) ∧ Below w.heap.size w w' := by
  have := star_any n f w hf hT
  rwa [show starR n f = zf by unfold starR; rw [hb]; exact cutF_zero _, hb] at this
theorem bad_has (a b : Int) : Calls Tryd.prog 19 #[.agg (relC n f), .int .i64 a, .int .i64 b] w fun e w' => e = .returned (.bool false) ∧ Below w.heap.size w w' := by
  have := relHas_any n f a b w hf
  rwa [show hasB n f a b = false by simp [hasB, hb]] at this
end
theorem wrong_low (n : Int) (f : Nat → Nat) (h : n < 0) : rightB n f = false := by
  rw [Bool.eq_false_iff]
  intro hc
  have := (rightB_iff.1 hc).1
  omega
theorem wrong_high (n : Int) (f : Nat → Nat) (h : 48 < n) : rightB n f = false := by
  rw [Bool.eq_false_iff]
  intro hc
  have := (rightB_iff.1 hc).1
  omega
theorem wrong_row {N : Nat} (f : Nat → Nat) (h : N ≤ 40) : rightB N (upd f N 1) = false := by
  rw [Bool.eq_false_iff]
  intro hc
  have := ((rgt_iff (f := upd f N 1)).1 hc).2 N (by omega) 0 (by simp [Bt, upd])
  omega
theorem wrong_item {N : Nat} (f : Nat → Nat) : rightB N (upd f 0 (f 0 ||| 2 ^ N)) = false := by
  rw [Bool.eq_false_iff]
  intro hc
  have := ((rgt_iff (f := upd f 0 (f 0 ||| 2 ^ N))).1 hc).2 0 (by omega) N (by simp [Bt, upd])
  omega
theorem wrongs_both {N : Nat} {A : Nat → Nat} (_Ar : Rgt N A) (A64 : R64 A) (w : World) : Calls Tryd.prog 15 #[.agg (relC N A), .agg (relC ((N : Int) + 1) zf)] w fun e w' => e = .returned (.tuple #[.agg (relC 0 zf), .int .i64 2]) ∧ Below w.heap.size w w' := by
  have := both_any N ((N : Int) + 1) A zf A64 zf_64 w
  unfold CombPost at this
  rwa [show combB N ((N : Int) + 1) A zf = false by simp only [combB]; rw [decide_eq_false (by omega)]; rfl] at this
theorem wrongs_less {N : Nat} {A : Nat → Nat} (_Ar : Rgt N A) (A64 : R64 A) (w : World) : Calls Tryd.prog 16 #[.agg (relC ((N : Int) + 1) zf), .agg (relC N A)] w fun e w' => e = .returned (.tuple #[.agg (relC 0 zf), .int .i64 2]) ∧ Below w.heap.size w w' := by
  have := less_any ((N : Int) + 1) N zf A zf_64 A64 w
  unfold CombPost at this
  rwa [show combB ((N : Int) + 1) N zf A = false by simp only [combB]; rw [decide_eq_false (by omega)]; rfl] at this
end Go.Proofs.YtakhmjohncidoaaDoor
end
