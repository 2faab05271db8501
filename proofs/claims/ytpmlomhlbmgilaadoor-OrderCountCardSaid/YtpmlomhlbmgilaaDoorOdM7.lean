/- OrdCountLaw in one text, for the claim. -/
import Derived.Deep.RegionWith
import Derived.Deep.DeepCutAuto
import Derived.Test.YtpmlomhlbmgilaaDoorOdM4
import Derived.Test.YtpmlomhlbmgilaaDoorOdM6
import Derived.Test.YtpmlomhlbmgilaaDoorOdM3

section
/- The law OrderCount: the walk. -/
namespace Go.Proofs.YtpmlomhlbmgilaaDoor
open Go.RowKit Go.Shelf

attribute [local go_sem] Oper.semAt_some

theorem hasB_two {N : Nat} {f : Nat → Nat} (hr : Rgt N f) {a b : Nat} (ha : a < N) (hb : b < N) : hasB N f (a : Int) (b : Int) = decide (Bt f a b) := by
  unfold hasB itemB
  rw [show rightB (N : Int) f = true from hr]
  have h1 : decide ((0 : Int) ≤ (a : Int)) = true := by simp
  simp [Bt, ha, hb]

set_option maxRecDepth 100000 in
set_option maxHeartbeats 8000000 in
theorem orderCount_law (n a b : Int) (f : Nat → Nat) (hf : R64 f) (a0 : 0 ≤ a) (a1 : a < 256) (b0 : 0 ≤ b) (b1 : b < 256) (w : World) (hT : Tab w) :
    Calls Tryd.prog 9 #[.agg (relC n f), .int .u8 a, .int .u8 b] w fun e w' => e = .returned (.bool true) ∧ Below w.heap.size w w' := by
  obtain ⟨N, hNe, hN6, g64, gR, HFn⟩ := fine_ok n (most := 6) f hf (by omega) (by omega)
  clear hNe
  generalize fineF f N = F at *
  have hN6' : N ≤ 6 := by omega
  have hle := ordL_le gR hN6'
  obtain ⟨K, hK⟩ : ∃ K, K = (ordL N F).length := ⟨_, rfl⟩
  rw [← hK] at hle
  have HK := Lib.hid hK
  have HF := Lib.hid HFn
  have HC : ∀ M : Nat, M ≤ 10000 → Hid (∀ W, Tab W → Calls Tryd.prog 53 #[.agg (relC N F), .int .i64 (M : Int)] W fun e w' => e = .returned (cntR N F M) ∧ Below W.heap.size W w') := fun M hM => Lib.hid fun W hT => count_ok N F M hM g64 gR W hT
  have hc1 : cntR N F ((720 : Nat) : Int) = .tuple #[.int .i64 (K : Int), .int .i64 0] := by rw [cntR, ← hK, if_pos (by omega)]
  have hc2 : cntR N F (K : Int) = .tuple #[.int .i64 (K : Int), .int .i64 0] := by rw [cntR, ← hK, if_pos (by omega)]
  have C1 := HC 720 (by omega)
  rw [hc1] at C1
  have C2 := HC K (by omega)
  rw [hc2] at C2
  have hA := RelAt.new w n f
  have hX0 := KS.nil w
  have l1 := hA.ld
  have hB := below_new w (.cells (relC n f) 26)
  have C3 : 0 < K → Hid (∀ W, Tab W → Calls Tryd.prog 53 #[.agg (relC N F), .int .i64 ((K : Int) - 1)] W fun e w' => e = .returned (.tuple #[.int .i64 0, .int .i64 5]) ∧ Below W.heap.size W w') := fun h0 => by
    have := HC (K - 1) (by omega)
    rw [show ((K - 1 : Nat) : Int) = (K : Int) - 1 by omega, show cntR N F ((K : Int) - 1) = .tuple #[.int .i64 0, .int .i64 5] by rw [cntR, ← hK, if_neg (by omega)]] at this
    exact this
  clear HC hc1 hc2 hK HFn
  have Aw := Lib.hid (fun W hT => ordAwake_any W hT)
  go_enter Tryd.func9, Tryd.ntmps9
  go_wp2_with fail
  refine (HF.out _).mono ?_
  rintro e w1 ⟨rfl, h1⟩
  obtain ⟨W1, hs1, hR, hO1⟩ := (hA.on h1).put N F
  have hB1 := below_only (thru hB h1) hO1 (Nat.le_refl _)
  have hX : KS w W1 [(w.heap.size, (N : Int), F)] [] [] := ⟨hB1, fun x hx => by simp at hx; subst hx; exact hR, fun _ h => (by cases h), fun _ h => (by cases h)⟩
  clear hX0 l1 hA hB h1 hR hO1 hB1
  have l := (hX.rel (w.heap.size, (N : Int), F) (by simp)).ld
  go_wp2_with fail
  clear l hs1
  refine (C1.out _ (hX.tab hT)).mono ?_
  rintro e w2 ⟨rfl, hb⟩
  replace hX := hX.on hb
  clear hb
  have l := (hX.rel (w.heap.size, (N : Int), F) (by simp)).ld
  go_wp2_with fail
  clear l
  refine (C2.out _ (hX.tab hT)).mono ?_
  rintro e w3 ⟨rfl, hb⟩
  replace hX := hX.on hb
  clear hb
  rcases Nat.eq_zero_or_pos K with h0 | h0
  · have tt : decide ((0 : Int) < (K : Int)) = false := by simp; omega
    have t1 : decide (0 < K) = false := by simp; omega
    replace h0 := Lib.hid h0
    go_upto_region 10 with fail
    generalize w3 = w4 at *
    clear C3 C2 C1 HF
    have c0 := (hX.rel (w.heap.size, (N : Int), F) (by simp)).num
    by_cases hN2 : N < 2
    · have t2 : decide ((N : Int) < 2) = true := by simp; omega
      go_wp2_with fail
      refine (Aw.out _ (hX.tab hT)).mono ?_
      rintro e w5 ⟨rfl, hb⟩
      go_wp2
      go_ret
      exact ⟨rfl, (hX.on hb).below⟩
    · have t2 : decide ((N : Int) < 2) = false := by simp; omega
      have c1 : w4.drew.cell? ⟨w.heap.size, 0, none⟩ = some (.int .i64 (N : Int)) := c0
      have hNz : ((N : Int) == 0) = false := by simp; omega
      have hNz' : (N : Int) ≠ 0 := by omega
      obtain ⟨X, hXe⟩ : ∃ X : Nat, a % (N : Int) = X := ⟨(a % (N : Int)).toNat, by have := Int.emod_nonneg a hNz'; omega⟩
      obtain ⟨Y, hYe⟩ : ∃ Y : Nat, b % (N : Int) = Y := ⟨(b % (N : Int)).toNat, by have := Int.emod_nonneg b hNz'; omega⟩
      have hXN : X < N := by have := Int.emod_lt_of_pos a (show (0 : Int) < N by omega); omega
      have hYN : Y < N := by have := Int.emod_lt_of_pos b (show (0 : Int) < N by omega); omega
      go_upto_region 12 with fail
      go_region
      simp only [hXe, hYe]
      replace hX := hX.drew
      generalize w4.drew = w5 at *
      have c2 := (hX.rel (w.heap.size, (N : Int), F) (by simp)).num
      clear c0 c1 hXe hYe
      by_cases hXY : X = Y
      · have t3 : ((X : Int) == (Y : Int)) = true := by simp [hXY]
        replace hXY := Lib.hid hXY
        obtain ⟨Z, hZe⟩ : ∃ Z : Nat, ((X : Int) + 1) % (N : Int) = Z := ⟨(X + 1) % N, by simp⟩
        have hZN : Z < N := by have := Int.emod_lt_of_pos ((X : Int) + 1) (show (0 : Int) < N by omega); omega
        have hne : X ≠ Z := by
          rintro rfl
          rcases Nat.lt_or_ge (X + 1) N with h | h
          · rw [Int.emod_eq_of_lt (by omega) (by omega)] at hZe; omega
          · obtain rfl : N = X + 1 := by omega
            rw [show ((X : Int) + 1) = ((X + 1 : Nat) : Int) by simp, Int.emod_self] at hZe
            omega
        go_upto_region 15 with fail
        simp only [hZe]
        clear hZe
        as_aux_lemma =>
          have h1a := add_64 g64 (x := X) (y := Z) (by omega)
          have h1b := rgt_add gR hXN hZN
          have h2a := add_64 g64 (x := Z) (y := X) (by omega)
          have h2b := rgt_add gR hZN hXN
          have hXr := hX.rel (w.heap.size, (N : Int), F) (by simp)
          have hz0 : RelAt ((w5.drew.alloc (.cells (relC 0 zf) 26)).alloc (.cells (relC 0 zf) 26)) (w5.heap.size + 1) 0 zf := by
            have := RelAt.new (w5.drew.alloc (.cells (relC 0 zf) 26)) 0 zf
            rw [World.size_alloc] at this
            exact this
          obtain ⟨Wa, s1', r1', o1⟩ := RelAt.put (b := w5.heap.size) ((RelAt.new w5.drew 0 zf).alloc (.cells (relC 0 zf) 26)) (N : Int) F
          have hq1 := RelAt.only (c := w5.heap.size) hz0 o1 (show w5.heap.size + 1 ≠ w5.heap.size by omega)
          obtain ⟨Wb, s2', r2, o2⟩ := hq1.put (N : Int) F
          have r1 : RelAt Wb w5.heap.size (N : Int) F := r1'.only o2 (show w5.heap.size ≠ w5.heap.size + 1 by omega)
          have hbw' : Below w5.heap.size w5.drew Wb := below_only (below_only (((Below.refl _ w5.drew).alloc (Nat.le_refl _) _).alloc (by simp) _) o1 (Nat.le_refl _)) o2 (show w5.heap.size ≤ w5.heap.size + 1 by omega)
          obtain ⟨Wc, s3', r3, o3⟩ := hz0.put (N : Int) F
          have hq := RelAt.only (c := w5.heap.size + 1) ((RelAt.new w5.drew 0 zf).alloc (.cells (relC 0 zf) 26)) o3 (show w5.heap.size ≠ w5.heap.size + 1 by omega)
          obtain ⟨Wd, s4', r4, o4⟩ := hq.put (N : Int) F
          have r3x : RelAt Wd (w5.heap.size + 1) (N : Int) F := r3.only o4 (show w5.heap.size + 1 ≠ w5.heap.size by omega)
          have hb5 : Below w5.heap.size w5 Wd := undrew (below_only (below_only (((Below.refl _ w5.drew).alloc (Nat.le_refl _) _).alloc (by simp) _) o3 (show w5.heap.size ≤ w5.heap.size + 1 by omega)) o4 (Nat.le_refl _))
          have hb6 : Below w5.heap.size w5 Wb := undrew hbw'
          have e1 : (ldRel (.pointer (some ⟨w.heap.size, 0, none⟩))).run Tryd.prog w5.drew = .ok (.agg (relC (N : Int) F)) w5.drew := hXr.drew.ld
          have e2 : (ldRel (.pointer (some ⟨w.heap.size, 0, none⟩))).run Tryd.prog (w5.alloc (.cells (relC 0 zf) 26)).drew = .ok (.agg (relC (N : Int) F)) (w5.alloc (.cells (relC 0 zf) 26)).drew := (hXr.alloc (.cells (relC 0 zf) 26)).drew.ld
          have e3 : (ldRel (.pointer (some ⟨w.heap.size, 0, none⟩))).run Tryd.prog ((w5.alloc (.cells (relC 0 zf) 26)).alloc (.cells (relC 0 zf) 26)).drew = .ok (.agg (relC (N : Int) F)) ((w5.alloc (.cells (relC 0 zf) 26)).alloc (.cells (relC 0 zf) 26)).drew := ((hXr.alloc (.cells (relC 0 zf) 26)).alloc (.cells (relC 0 zf) 26)).drew.ld
          have s1 : (stRel (.pointer (some ⟨w5.heap.size, 0, none⟩)) (.agg (relC (N : Int) F))).run Tryd.prog ((w5.alloc (.cells (relC 0 zf) 26)).alloc (.cells (relC 0 zf) 26)).drew = .ok () Wa := s1'
          have s2 : (stRel (.pointer (some ⟨w5.heap.size + 1, 0, none⟩)) (.agg (relC (N : Int) F))).run Tryd.prog Wa = .ok () Wb := s2'
          have s3 : (stRel (.pointer (some ⟨w5.heap.size + 1, 0, none⟩)) (.agg (relC (N : Int) F))).run Tryd.prog ((w5.alloc (.cells (relC 0 zf) 26)).alloc (.cells (relC 0 zf) 26)).drew = .ok () Wc := s3'
          have s4 : (stRel (.pointer (some ⟨w5.heap.size, 0, none⟩)) (.agg (relC (N : Int) F))).run Tryd.prog Wc = .ok () Wd := s4'
          have hsz5 := hXr.lt
          have e4 := (((hXr.drew.alloc (.cells (relC 0 zf) 26)).alloc (.cells (relC 0 zf) 26)).only o1 (by omega)).ld
          have e5 := (((hXr.drew.alloc (.cells (relC 0 zf) 26)).alloc (.cells (relC 0 zf) 26)).only o3 (by omega)).ld
          have hX6 := ((hX.on hb6).addRel r2).addRel r1
          have hX7 := ((hX.on hb5).addRel r4).addRel r3x
          clear hq1 r1' o1 o2 s1' s2' s3' s4' hbw' hz0 hq o3 o4 r3
          go_cut [15, 16] (fun v15 v16 W => ∃ b1 b2, v15 = .pointer (some ⟨b1, 0, none⟩) ∧ v16 = .pointer (some ⟨b2, 0, none⟩) ∧ b1 ≠ b2 ∧ w.heap.size < b1 ∧ w.heap.size < b2 ∧ KS w W [(b1, (N : Int), F), (b2, (N : Int), F), (w.heap.size, (N : Int), F)] [] [])
          case first =>
            go_region
            · go_wp2_with fail
              go_meet
              exact ⟨_, _, rfl, rfl, by omega, by omega, by omega, hX6⟩
            · go_wp2_with fail
              go_meet
              exact ⟨_, _, rfl, rfl, by omega, by omega, by omega, hX7⟩
          case rest =>
            obtain ⟨p1, p2, rfl, rfl, h12, hp1, hp2, hX⟩ := hcut
            clear hX6 hX7 e1 e2 e3 e4 e5 s1 s2 s3 s4 r1 r2 r4 r3x hb5 hb6 hXr c2
            have HX := Lib.hid hX
            have q1 := (hX.rel (p1, (N : Int), F) (by simp)).drew
            have d1 := q1.row X (by omega)
            have fr1 := q1.free (1 + X)
            have x48 : (X : Int) < 48 := by omega
            have z48 : (Z : Int) < 48 := by omega
            have x64 : (X : Int) < 64 := by omega
            have z64 : (Z : Int) < 64 := by omega
            have hor1 := Lib.hid (show bits BinOp.or IntKind.u64 (F X : Int) (IntKind.u64.wrap (2 ^ Z)) = ((F X ||| 2 ^ Z : Nat) : Int) by
              have hp : 2 ^ Z < 2 ^ 64 := Nat.pow_lt_pow_right (by omega) (by omega)
              rw [shl1_nat Z (by omega), u64_or_nat _ _ (g64 X) hp])
            have hor2 := Lib.hid (show bits BinOp.or IntKind.u64 (F Z : Int) (IntKind.u64.wrap (2 ^ X)) = ((F Z ||| 2 ^ X : Nat) : Int) by
              have hp : 2 ^ X < 2 ^ 64 := Nat.pow_lt_pow_right (by omega) (by omega)
              rw [shl1_nat X (by omega), u64_or_nat _ _ (g64 Z) hp])
            clear hX
            go_upto_region 16 with fail
            go_region
            rw [hor1.out]
            have hX : KS w (wc.setCell ⟨p1, 1 + X, none⟩ (.int .u64 ((F X ||| 2 ^ Z : Nat) : Int))).drew [(p1, (N : Int), addF F X Z), (p2, (N : Int), F), (w.heap.size, (N : Int), F)] [] [] :=
              ⟨(HX.out.below.setCell (show w.heap.size ≤ p1 by omega) _).drew, fun x hx => by
                simp only [List.mem_cons, List.not_mem_nil, or_false] at hx
                rcases hx with rfl | rfl | rfl
                · exact (RelAt.set (HX.out.rel (p1, (N : Int), F) (by simp)) X (F X ||| 2 ^ Z) (by omega)).drew
                · exact (RelAt.other (HX.out.rel (p2, (N : Int), F) (by simp)) _ _ (show p2 ≠ p1 by omega)).drew
                · exact (RelAt.other (HX.out.rel (w.heap.size, (N : Int), F) (by simp)) _ _ (show w.heap.size ≠ p1 by omega)).drew, fun _ h => (by cases h), fun _ h => (by cases h)⟩
            clear HX q1 d1 fr1
            generalize (wc.setCell ⟨p1, 1 + X, none⟩ (.int .u64 ((F X ||| 2 ^ Z : Nat) : Int))).drew = w6 at *
            have HX := Lib.hid hX
            have q1 := (hX.rel (p2, (N : Int), F) (by simp)).drew
            have d1 := q1.row Z (by omega)
            have fr1 := q1.free (1 + Z)
            clear hX
            go_upto_region 17 with fail
            go_region
            rw [hor2.out]
            have hX : KS w (w6.setCell ⟨p2, 1 + Z, none⟩ (.int .u64 ((F Z ||| 2 ^ X : Nat) : Int))).drew [(p2, (N : Int), addF F Z X), (p1, (N : Int), addF F X Z), (w.heap.size, (N : Int), F)] [] [] :=
              ⟨(HX.out.below.setCell (show w.heap.size ≤ p2 by omega) _).drew, fun x hx => by
                simp only [List.mem_cons, List.not_mem_nil, or_false] at hx
                rcases hx with rfl | rfl | rfl
                · exact (RelAt.set (HX.out.rel (p2, (N : Int), F) (by simp)) Z (F Z ||| 2 ^ X) (by omega)).drew
                · exact (RelAt.other (HX.out.rel (p1, (N : Int), addF F X Z) (by simp)) _ _ (show p1 ≠ p2 by omega)).drew
                · exact (RelAt.other (HX.out.rel (w.heap.size, (N : Int), F) (by simp)) _ _ (show w.heap.size ≠ p2 by omega)).drew, fun _ h => (by cases h), fun _ h => (by cases h)⟩
            clear HX q1 d1 fr1 hor1 hor2
            generalize (w6.setCell ⟨p2, 1 + Z, none⟩ (.int .u64 ((F Z ||| 2 ^ X : Nat) : Int))).drew = w7 at *
            have hsum := split_len gR hXN hZN hne
            have hfree := split_free gR hXN hZN hne
            have hle1 := ordL_le h1b (by omega)
            have hle2 := ordL_le h2b (by omega)
            have C4 := Lib.hid (fun W hT => count_ok N (addF F X Z) 720 (by omega) h1a h1b W hT)
            have C5 := Lib.hid (fun W hT => count_ok N (addF F Z X) 720 (by omega) h2a h2b W hT)
            rw [show cntR N (addF F X Z) ((720 : Nat) : Int) = .tuple #[.int .i64 ((ordL N (addF F X Z)).length : Int), .int .i64 0] by rw [cntR, if_pos (by omega)]] at C4
            rw [show cntR N (addF F Z X) ((720 : Nat) : Int) = .tuple #[.int .i64 ((ordL N (addF F Z X)).length : Int), .int .i64 0] by rw [cntR, if_pos (by omega)]] at C5
            have C6 := Lib.hid (fun W hT => plus_ok g64 gR W hT)
            have hpR := rgt_plus gR
            have hp64 : R64 (plusF N F) := plus_64 g64
            have C7 := Lib.hid (fun W => relHas_any N (plusF N F) (X : Int) (Z : Int) W hp64)
            have C8 := Lib.hid (fun W => relHas_any N (plusF N F) (Z : Int) (X : Int) W hp64)
            rw [hasB_two hpR hXN hZN] at C7
            rw [hasB_two hpR hZN hXN] at C8
            rw [← HK.out] at hsum hfree
            generalize hk1 : (ordL N (addF F X Z)).length = K1 at *
            generalize hk2 : (ordL N (addF F Z X)).length = K2 at *
            generalize decide (Bt (plusF N F) X Z) = p at *
            generalize decide (Bt (plusF N F) Z X) = q at *
            generalize addF F X Z = G1 at *
            generalize addF F Z X = G2 at *
            generalize plusF N F = P at *
            clear hk1 hk2 hpR hp64 h1a h1b h2a h2b
            have Hfree := Lib.hid hfree
            clear hfree
            have l := (hX.rel (p1, (N : Int), G1) (by simp)).ld
            go_wp2_with fail
            clear l
            refine (C4.out _ (hX.tab hT)).mono ?_
            rintro e w8 ⟨rfl, hb⟩
            replace hX := hX.on hb
            clear hb
            have l := (hX.rel (p2, (N : Int), G2) (by simp)).ld
            go_wp2_with fail
            clear l
            refine (C5.out _ (hX.tab hT)).mono ?_
            rintro e w9 ⟨rfl, hb⟩
            replace hX := hX.on hb
            clear hb
            have l := (hX.rel (w.heap.size, (N : Int), F) (by simp)).ld
            go_wp2_with fail
            clear l
            refine (C6.out _ (hX.tab hT)).mono ?_
            rintro e w10 ⟨rfl, hb⟩
            obtain ⟨W10, hs10, hX, -⟩ := hX.lay hb (N : Int) P
            clear hb
            go_upto_region 21 with fail
            clear hs10
            go_cut [22] (fun v W => v = .bool (decide (0 < K1) && decide (0 < K2)) ∧ KS w W [] [] [])
            case first =>
              have l := (hX.rel (w10.heap.size, (N : Int), P) (by simp)).ld
              go_wp2_with fail
              clear l
              refine (C7.out _).mono ?_
              rintro e w11 ⟨rfl, hb⟩
              replace hX := hX.on hb
              clear hb
              cases p
              · have l := (hX.rel (w10.heap.size, (N : Int), P) (by simp)).ld
                go_wp2_with fail
                clear l
                refine (C8.out _).mono ?_
                rintro e w12 ⟨rfl, hb⟩
                replace hX := hX.on hb
                clear hb
                cases q
                · go_wp2_with fail
                  go_meet
                  exact ⟨by rw [Hfree.out, t1]; rfl, hX.below, fun _ h => (by cases h), fun _ h => (by cases h), fun _ h => (by cases h)⟩
                · go_wp2_with fail
                  go_meet
                  exact ⟨by rw [Hfree.out]; rfl, hX.below, fun _ h => (by cases h), fun _ h => (by cases h), fun _ h => (by cases h)⟩
              · go_wp2_with fail
                go_meet
                exact ⟨by rw [Hfree.out]; rfl, hX.below, fun _ h => (by cases h), fun _ h => (by cases h), fun _ h => (by cases h)⟩
            case rest =>
              obtain ⟨rfl, hX'⟩ := hcut
              clear hX C4 C5 C6 C7 C8 Hfree
              have hs : ((K1 : Int) + (K2 : Int) == (K : Int)) = true := by simp; omega
              cases j1 : decide (0 < K1) <;> cases j2 : decide (0 < K2) <;>
              · go_wp2_with fail
                refine (Aw.out _ (hX'.tab hT)).mono ?_
                rintro e w13 ⟨rfl, hb⟩
                go_wp2
                go_ret
                exact ⟨rfl, (hX'.on hb).below⟩
      · have t3 : ((X : Int) == (Y : Int)) = false := by simp; omega
        go_upto_region 15 with fail
        have hne := hXY
        have hZN := hYN
        clear hYN hXY t3
        generalize Y = Z at *
        as_aux_lemma =>
          have h1a := add_64 g64 (x := X) (y := Z) (by omega)
          have h1b := rgt_add gR hXN hZN
          have h2a := add_64 g64 (x := Z) (y := X) (by omega)
          have h2b := rgt_add gR hZN hXN
          have hXr := hX.rel (w.heap.size, (N : Int), F) (by simp)
          have hz0 : RelAt ((w5.drew.alloc (.cells (relC 0 zf) 26)).alloc (.cells (relC 0 zf) 26)) (w5.heap.size + 1) 0 zf := by
            have := RelAt.new (w5.drew.alloc (.cells (relC 0 zf) 26)) 0 zf
            rw [World.size_alloc] at this
            exact this
          obtain ⟨Wa, s1', r1', o1⟩ := RelAt.put (b := w5.heap.size) ((RelAt.new w5.drew 0 zf).alloc (.cells (relC 0 zf) 26)) (N : Int) F
          have hq1 := RelAt.only (c := w5.heap.size) hz0 o1 (show w5.heap.size + 1 ≠ w5.heap.size by omega)
          obtain ⟨Wb, s2', r2, o2⟩ := hq1.put (N : Int) F
          have r1 : RelAt Wb w5.heap.size (N : Int) F := r1'.only o2 (show w5.heap.size ≠ w5.heap.size + 1 by omega)
          have hbw' : Below w5.heap.size w5.drew Wb := below_only (below_only (((Below.refl _ w5.drew).alloc (Nat.le_refl _) _).alloc (by simp) _) o1 (Nat.le_refl _)) o2 (show w5.heap.size ≤ w5.heap.size + 1 by omega)
          obtain ⟨Wc, s3', r3, o3⟩ := hz0.put (N : Int) F
          have hq := RelAt.only (c := w5.heap.size + 1) ((RelAt.new w5.drew 0 zf).alloc (.cells (relC 0 zf) 26)) o3 (show w5.heap.size ≠ w5.heap.size + 1 by omega)
          obtain ⟨Wd, s4', r4, o4⟩ := hq.put (N : Int) F
          have r3x : RelAt Wd (w5.heap.size + 1) (N : Int) F := r3.only o4 (show w5.heap.size + 1 ≠ w5.heap.size by omega)
          have hb5 : Below w5.heap.size w5 Wd := undrew (below_only (below_only (((Below.refl _ w5.drew).alloc (Nat.le_refl _) _).alloc (by simp) _) o3 (show w5.heap.size ≤ w5.heap.size + 1 by omega)) o4 (Nat.le_refl _))
          have hb6 : Below w5.heap.size w5 Wb := undrew hbw'
          have e1 : (ldRel (.pointer (some ⟨w.heap.size, 0, none⟩))).run Tryd.prog w5.drew = .ok (.agg (relC (N : Int) F)) w5.drew := hXr.drew.ld
          have e2 : (ldRel (.pointer (some ⟨w.heap.size, 0, none⟩))).run Tryd.prog (w5.alloc (.cells (relC 0 zf) 26)).drew = .ok (.agg (relC (N : Int) F)) (w5.alloc (.cells (relC 0 zf) 26)).drew := (hXr.alloc (.cells (relC 0 zf) 26)).drew.ld
          have e3 : (ldRel (.pointer (some ⟨w.heap.size, 0, none⟩))).run Tryd.prog ((w5.alloc (.cells (relC 0 zf) 26)).alloc (.cells (relC 0 zf) 26)).drew = .ok (.agg (relC (N : Int) F)) ((w5.alloc (.cells (relC 0 zf) 26)).alloc (.cells (relC 0 zf) 26)).drew := ((hXr.alloc (.cells (relC 0 zf) 26)).alloc (.cells (relC 0 zf) 26)).drew.ld
          have s1 : (stRel (.pointer (some ⟨w5.heap.size, 0, none⟩)) (.agg (relC (N : Int) F))).run Tryd.prog ((w5.alloc (.cells (relC 0 zf) 26)).alloc (.cells (relC 0 zf) 26)).drew = .ok () Wa := s1'
          have s2 : (stRel (.pointer (some ⟨w5.heap.size + 1, 0, none⟩)) (.agg (relC (N : Int) F))).run Tryd.prog Wa = .ok () Wb := s2'
          have s3 : (stRel (.pointer (some ⟨w5.heap.size + 1, 0, none⟩)) (.agg (relC (N : Int) F))).run Tryd.prog ((w5.alloc (.cells (relC 0 zf) 26)).alloc (.cells (relC 0 zf) 26)).drew = .ok () Wc := s3'
          have s4 : (stRel (.pointer (some ⟨w5.heap.size, 0, none⟩)) (.agg (relC (N : Int) F))).run Tryd.prog Wc = .ok () Wd := s4'
          have hsz5 := hXr.lt
          have e4 := (((hXr.drew.alloc (.cells (relC 0 zf) 26)).alloc (.cells (relC 0 zf) 26)).only o1 (by omega)).ld
          have e5 := (((hXr.drew.alloc (.cells (relC 0 zf) 26)).alloc (.cells (relC 0 zf) 26)).only o3 (by omega)).ld
          have hX6 := ((hX.on hb6).addRel r2).addRel r1
          have hX7 := ((hX.on hb5).addRel r4).addRel r3x
          clear hq1 r1' o1 o2 s1' s2' s3' s4' hbw' hz0 hq o3 o4 r3
          go_cut [15, 16] (fun v15 v16 W => ∃ b1 b2, v15 = .pointer (some ⟨b1, 0, none⟩) ∧ v16 = .pointer (some ⟨b2, 0, none⟩) ∧ b1 ≠ b2 ∧ w.heap.size < b1 ∧ w.heap.size < b2 ∧ KS w W [(b1, (N : Int), F), (b2, (N : Int), F), (w.heap.size, (N : Int), F)] [] [])
          case first =>
            go_region
            · go_wp2_with fail
              go_meet
              exact ⟨_, _, rfl, rfl, by omega, by omega, by omega, hX6⟩
            · go_wp2_with fail
              go_meet
              exact ⟨_, _, rfl, rfl, by omega, by omega, by omega, hX7⟩
          case rest =>
            obtain ⟨p1, p2, rfl, rfl, h12, hp1, hp2, hX⟩ := hcut
            clear hX6 hX7 e1 e2 e3 e4 e5 s1 s2 s3 s4 r1 r2 r4 r3x hb5 hb6 hXr c2
            have HX := Lib.hid hX
            have q1 := (hX.rel (p1, (N : Int), F) (by simp)).drew
            have d1 := q1.row X (by omega)
            have fr1 := q1.free (1 + X)
            have x48 : (X : Int) < 48 := by omega
            have z48 : (Z : Int) < 48 := by omega
            have x64 : (X : Int) < 64 := by omega
            have z64 : (Z : Int) < 64 := by omega
            have hor1 := Lib.hid (show bits BinOp.or IntKind.u64 (F X : Int) (IntKind.u64.wrap (2 ^ Z)) = ((F X ||| 2 ^ Z : Nat) : Int) by
              have hp : 2 ^ Z < 2 ^ 64 := Nat.pow_lt_pow_right (by omega) (by omega)
              rw [shl1_nat Z (by omega), u64_or_nat _ _ (g64 X) hp])
            have hor2 := Lib.hid (show bits BinOp.or IntKind.u64 (F Z : Int) (IntKind.u64.wrap (2 ^ X)) = ((F Z ||| 2 ^ X : Nat) : Int) by
              have hp : 2 ^ X < 2 ^ 64 := Nat.pow_lt_pow_right (by omega) (by omega)
              rw [shl1_nat X (by omega), u64_or_nat _ _ (g64 Z) hp])
            clear hX
            go_upto_region 16 with fail
            go_region
            rw [hor1.out]
            have hX : KS w (wc.setCell ⟨p1, 1 + X, none⟩ (.int .u64 ((F X ||| 2 ^ Z : Nat) : Int))).drew [(p1, (N : Int), addF F X Z), (p2, (N : Int), F), (w.heap.size, (N : Int), F)] [] [] :=
              ⟨(HX.out.below.setCell (show w.heap.size ≤ p1 by omega) _).drew, fun x hx => by
                simp only [List.mem_cons, List.not_mem_nil, or_false] at hx
                rcases hx with rfl | rfl | rfl
                · exact (RelAt.set (HX.out.rel (p1, (N : Int), F) (by simp)) X (F X ||| 2 ^ Z) (by omega)).drew
                · exact (RelAt.other (HX.out.rel (p2, (N : Int), F) (by simp)) _ _ (show p2 ≠ p1 by omega)).drew
                · exact (RelAt.other (HX.out.rel (w.heap.size, (N : Int), F) (by simp)) _ _ (show w.heap.size ≠ p1 by omega)).drew, fun _ h => (by cases h), fun _ h => (by cases h)⟩
            clear HX q1 d1 fr1
            generalize (wc.setCell ⟨p1, 1 + X, none⟩ (.int .u64 ((F X ||| 2 ^ Z : Nat) : Int))).drew = w6 at *
            have HX := Lib.hid hX
            have q1 := (hX.rel (p2, (N : Int), F) (by simp)).drew
            have d1 := q1.row Z (by omega)
            have fr1 := q1.free (1 + Z)
            clear hX
            go_upto_region 17 with fail
            go_region
            rw [hor2.out]
            have hX : KS w (w6.setCell ⟨p2, 1 + Z, none⟩ (.int .u64 ((F Z ||| 2 ^ X : Nat) : Int))).drew [(p2, (N : Int), addF F Z X), (p1, (N : Int), addF F X Z), (w.heap.size, (N : Int), F)] [] [] :=
              ⟨(HX.out.below.setCell (show w.heap.size ≤ p2 by omega) _).drew, fun x hx => by
                simp only [List.mem_cons, List.not_mem_nil, or_false] at hx
                rcases hx with rfl | rfl | rfl
                · exact (RelAt.set (HX.out.rel (p2, (N : Int), F) (by simp)) Z (F Z ||| 2 ^ X) (by omega)).drew
                · exact (RelAt.other (HX.out.rel (p1, (N : Int), addF F X Z) (by simp)) _ _ (show p1 ≠ p2 by omega)).drew
                · exact (RelAt.other (HX.out.rel (w.heap.size, (N : Int), F) (by simp)) _ _ (show w.heap.size ≠ p2 by omega)).drew, fun _ h => (by cases h), fun _ h => (by cases h)⟩
            clear HX q1 d1 fr1 hor1 hor2
            generalize (w6.setCell ⟨p2, 1 + Z, none⟩ (.int .u64 ((F Z ||| 2 ^ X : Nat) : Int))).drew = w7 at *
            have hsum := split_len gR hXN hZN hne
            have hfree := split_free gR hXN hZN hne
            have hle1 := ordL_le h1b (by omega)
            have hle2 := ordL_le h2b (by omega)
            have C4 := Lib.hid (fun W hT => count_ok N (addF F X Z) 720 (by omega) h1a h1b W hT)
            have C5 := Lib.hid (fun W hT => count_ok N (addF F Z X) 720 (by omega) h2a h2b W hT)
            rw [show cntR N (addF F X Z) ((720 : Nat) : Int) = .tuple #[.int .i64 ((ordL N (addF F X Z)).length : Int), .int .i64 0] by rw [cntR, if_pos (by omega)]] at C4
            rw [show cntR N (addF F Z X) ((720 : Nat) : Int) = .tuple #[.int .i64 ((ordL N (addF F Z X)).length : Int), .int .i64 0] by rw [cntR, if_pos (by omega)]] at C5
            have C6 := Lib.hid (fun W hT => plus_ok g64 gR W hT)
            have hpR := rgt_plus gR
            have hp64 : R64 (plusF N F) := plus_64 g64
            have C7 := Lib.hid (fun W => relHas_any N (plusF N F) (X : Int) (Z : Int) W hp64)
            have C8 := Lib.hid (fun W => relHas_any N (plusF N F) (Z : Int) (X : Int) W hp64)
            rw [hasB_two hpR hXN hZN] at C7
            rw [hasB_two hpR hZN hXN] at C8
            rw [← HK.out] at hsum hfree
            generalize hk1 : (ordL N (addF F X Z)).length = K1 at *
            generalize hk2 : (ordL N (addF F Z X)).length = K2 at *
            generalize decide (Bt (plusF N F) X Z) = p at *
            generalize decide (Bt (plusF N F) Z X) = q at *
            generalize addF F X Z = G1 at *
            generalize addF F Z X = G2 at *
            generalize plusF N F = P at *
            clear hk1 hk2 hpR hp64 h1a h1b h2a h2b
            have Hfree := Lib.hid hfree
            clear hfree
            have l := (hX.rel (p1, (N : Int), G1) (by simp)).ld
            go_wp2_with fail
            clear l
            refine (C4.out _ (hX.tab hT)).mono ?_
            rintro e w8 ⟨rfl, hb⟩
            replace hX := hX.on hb
            clear hb
            have l := (hX.rel (p2, (N : Int), G2) (by simp)).ld
            go_wp2_with fail
            clear l
            refine (C5.out _ (hX.tab hT)).mono ?_
            rintro e w9 ⟨rfl, hb⟩
            replace hX := hX.on hb
            clear hb
            have l := (hX.rel (w.heap.size, (N : Int), F) (by simp)).ld
            go_wp2_with fail
            clear l
            refine (C6.out _ (hX.tab hT)).mono ?_
            rintro e w10 ⟨rfl, hb⟩
            obtain ⟨W10, hs10, hX, -⟩ := hX.lay hb (N : Int) P
            clear hb
            go_upto_region 21 with fail
            clear hs10
            go_cut [22] (fun v W => v = .bool (decide (0 < K1) && decide (0 < K2)) ∧ KS w W [] [] [])
            case first =>
              have l := (hX.rel (w10.heap.size, (N : Int), P) (by simp)).ld
              go_wp2_with fail
              clear l
              refine (C7.out _).mono ?_
              rintro e w11 ⟨rfl, hb⟩
              replace hX := hX.on hb
              clear hb
              cases p
              · have l := (hX.rel (w10.heap.size, (N : Int), P) (by simp)).ld
                go_wp2_with fail
                clear l
                refine (C8.out _).mono ?_
                rintro e w12 ⟨rfl, hb⟩
                replace hX := hX.on hb
                clear hb
                cases q
                · go_wp2_with fail
                  go_meet
                  exact ⟨by rw [Hfree.out, t1]; rfl, hX.below, fun _ h => (by cases h), fun _ h => (by cases h), fun _ h => (by cases h)⟩
                · go_wp2_with fail
                  go_meet
                  exact ⟨by rw [Hfree.out]; rfl, hX.below, fun _ h => (by cases h), fun _ h => (by cases h), fun _ h => (by cases h)⟩
              · go_wp2_with fail
                go_meet
                exact ⟨by rw [Hfree.out]; rfl, hX.below, fun _ h => (by cases h), fun _ h => (by cases h), fun _ h => (by cases h)⟩
            case rest =>
              obtain ⟨rfl, hX'⟩ := hcut
              clear hX C4 C5 C6 C7 C8 Hfree
              have hs : ((K1 : Int) + (K2 : Int) == (K : Int)) = true := by simp; omega
              cases j1 : decide (0 < K1) <;> cases j2 : decide (0 < K2) <;>
              · go_wp2_with fail
                refine (Aw.out _ (hX'.tab hT)).mono ?_
                rintro e w13 ⟨rfl, hb⟩
                go_wp2
                go_ret
                exact ⟨rfl, (hX'.on hb).below⟩
  · have t1 : decide (0 < K) = true := by simpa using h0
    have l := (hX.rel (w.heap.size, (N : Int), F) (by simp)).ld
    go_wp2_with fail
    clear l
    refine ((C3 h0).out _ (hX.tab hT)).mono ?_
    rintro e w4 ⟨rfl, hb⟩
    replace hX := hX.on hb
    clear hb
    go_upto_region 10 with fail
    clear C3 C2 C1 HF
    have c0 := (hX.rel (w.heap.size, (N : Int), F) (by simp)).num
    by_cases hN2 : N < 2
    · have t2 : decide ((N : Int) < 2) = true := by simp; omega
      go_wp2_with fail
      refine (Aw.out _ (hX.tab hT)).mono ?_
      rintro e w5 ⟨rfl, hb⟩
      go_wp2
      go_ret
      exact ⟨rfl, (hX.on hb).below⟩
    · have t2 : decide ((N : Int) < 2) = false := by simp; omega
      have c1 : w4.drew.cell? ⟨w.heap.size, 0, none⟩ = some (.int .i64 (N : Int)) := c0
      have hNz : ((N : Int) == 0) = false := by simp; omega
      have hNz' : (N : Int) ≠ 0 := by omega
      obtain ⟨X, hXe⟩ : ∃ X : Nat, a % (N : Int) = X := ⟨(a % (N : Int)).toNat, by have := Int.emod_nonneg a hNz'; omega⟩
      obtain ⟨Y, hYe⟩ : ∃ Y : Nat, b % (N : Int) = Y := ⟨(b % (N : Int)).toNat, by have := Int.emod_nonneg b hNz'; omega⟩
      have hXN : X < N := by have := Int.emod_lt_of_pos a (show (0 : Int) < N by omega); omega
      have hYN : Y < N := by have := Int.emod_lt_of_pos b (show (0 : Int) < N by omega); omega
      go_upto_region 12 with fail
      go_region
      simp only [hXe, hYe]
      replace hX := hX.drew
      generalize w4.drew = w5 at *
      have c2 := (hX.rel (w.heap.size, (N : Int), F) (by simp)).num
      clear c0 c1 hXe hYe
      by_cases hXY : X = Y
      · have t3 : ((X : Int) == (Y : Int)) = true := by simp [hXY]
        replace hXY := Lib.hid hXY
        obtain ⟨Z, hZe⟩ : ∃ Z : Nat, ((X : Int) + 1) % (N : Int) = Z := ⟨(X + 1) % N, by simp⟩
        have hZN : Z < N := by have := Int.emod_lt_of_pos ((X : Int) + 1) (show (0 : Int) < N by omega); omega
        have hne : X ≠ Z := by
          rintro rfl
          rcases Nat.lt_or_ge (X + 1) N with h | h
          · rw [Int.emod_eq_of_lt (by omega) (by omega)] at hZe; omega
          · obtain rfl : N = X + 1 := by omega
            rw [show ((X : Int) + 1) = ((X + 1 : Nat) : Int) by simp, Int.emod_self] at hZe
            omega
        go_upto_region 15 with fail
        simp only [hZe]
        clear hZe
        as_aux_lemma =>
          have h1a := add_64 g64 (x := X) (y := Z) (by omega)
          have h1b := rgt_add gR hXN hZN
          have h2a := add_64 g64 (x := Z) (y := X) (by omega)
          have h2b := rgt_add gR hZN hXN
          have hXr := hX.rel (w.heap.size, (N : Int), F) (by simp)
          have hz0 : RelAt ((w5.drew.alloc (.cells (relC 0 zf) 26)).alloc (.cells (relC 0 zf) 26)) (w5.heap.size + 1) 0 zf := by
            have := RelAt.new (w5.drew.alloc (.cells (relC 0 zf) 26)) 0 zf
            rw [World.size_alloc] at this
            exact this
          obtain ⟨Wa, s1', r1', o1⟩ := RelAt.put (b := w5.heap.size) ((RelAt.new w5.drew 0 zf).alloc (.cells (relC 0 zf) 26)) (N : Int) F
          have hq1 := RelAt.only (c := w5.heap.size) hz0 o1 (show w5.heap.size + 1 ≠ w5.heap.size by omega)
          obtain ⟨Wb, s2', r2, o2⟩ := hq1.put (N : Int) F
          have r1 : RelAt Wb w5.heap.size (N : Int) F := r1'.only o2 (show w5.heap.size ≠ w5.heap.size + 1 by omega)
          have hbw' : Below w5.heap.size w5.drew Wb := below_only (below_only (((Below.refl _ w5.drew).alloc (Nat.le_refl _) _).alloc (by simp) _) o1 (Nat.le_refl _)) o2 (show w5.heap.size ≤ w5.heap.size + 1 by omega)
          obtain ⟨Wc, s3', r3, o3⟩ := hz0.put (N : Int) F
          have hq := RelAt.only (c := w5.heap.size + 1) ((RelAt.new w5.drew 0 zf).alloc (.cells (relC 0 zf) 26)) o3 (show w5.heap.size ≠ w5.heap.size + 1 by omega)
          obtain ⟨Wd, s4', r4, o4⟩ := hq.put (N : Int) F
          have r3x : RelAt Wd (w5.heap.size + 1) (N : Int) F := r3.only o4 (show w5.heap.size + 1 ≠ w5.heap.size by omega)
          have hb5 : Below w5.heap.size w5 Wd := undrew (below_only (below_only (((Below.refl _ w5.drew).alloc (Nat.le_refl _) _).alloc (by simp) _) o3 (show w5.heap.size ≤ w5.heap.size + 1 by omega)) o4 (Nat.le_refl _))
          have hb6 : Below w5.heap.size w5 Wb := undrew hbw'
          have e1 : (ldRel (.pointer (some ⟨w.heap.size, 0, none⟩))).run Tryd.prog w5.drew = .ok (.agg (relC (N : Int) F)) w5.drew := hXr.drew.ld
          have e2 : (ldRel (.pointer (some ⟨w.heap.size, 0, none⟩))).run Tryd.prog (w5.alloc (.cells (relC 0 zf) 26)).drew = .ok (.agg (relC (N : Int) F)) (w5.alloc (.cells (relC 0 zf) 26)).drew := (hXr.alloc (.cells (relC 0 zf) 26)).drew.ld
          have e3 : (ldRel (.pointer (some ⟨w.heap.size, 0, none⟩))).run Tryd.prog ((w5.alloc (.cells (relC 0 zf) 26)).alloc (.cells (relC 0 zf) 26)).drew = .ok (.agg (relC (N : Int) F)) ((w5.alloc (.cells (relC 0 zf) 26)).alloc (.cells (relC 0 zf) 26)).drew := ((hXr.alloc (.cells (relC 0 zf) 26)).alloc (.cells (relC 0 zf) 26)).drew.ld
          have s1 : (stRel (.pointer (some ⟨w5.heap.size, 0, none⟩)) (.agg (relC (N : Int) F))).run Tryd.prog ((w5.alloc (.cells (relC 0 zf) 26)).alloc (.cells (relC 0 zf) 26)).drew = .ok () Wa := s1'
          have s2 : (stRel (.pointer (some ⟨w5.heap.size + 1, 0, none⟩)) (.agg (relC (N : Int) F))).run Tryd.prog Wa = .ok () Wb := s2'
          have s3 : (stRel (.pointer (some ⟨w5.heap.size + 1, 0, none⟩)) (.agg (relC (N : Int) F))).run Tryd.prog ((w5.alloc (.cells (relC 0 zf) 26)).alloc (.cells (relC 0 zf) 26)).drew = .ok () Wc := s3'
          have s4 : (stRel (.pointer (some ⟨w5.heap.size, 0, none⟩)) (.agg (relC (N : Int) F))).run Tryd.prog Wc = .ok () Wd := s4'
          have hsz5 := hXr.lt
          have e4 := (((hXr.drew.alloc (.cells (relC 0 zf) 26)).alloc (.cells (relC 0 zf) 26)).only o1 (by omega)).ld
          have e5 := (((hXr.drew.alloc (.cells (relC 0 zf) 26)).alloc (.cells (relC 0 zf) 26)).only o3 (by omega)).ld
          have hX6 := ((hX.on hb6).addRel r2).addRel r1
          have hX7 := ((hX.on hb5).addRel r4).addRel r3x
          clear hq1 r1' o1 o2 s1' s2' s3' s4' hbw' hz0 hq o3 o4 r3
          go_cut [15, 16] (fun v15 v16 W => ∃ b1 b2, v15 = .pointer (some ⟨b1, 0, none⟩) ∧ v16 = .pointer (some ⟨b2, 0, none⟩) ∧ b1 ≠ b2 ∧ w.heap.size < b1 ∧ w.heap.size < b2 ∧ KS w W [(b1, (N : Int), F), (b2, (N : Int), F), (w.heap.size, (N : Int), F)] [] [])
          case first =>
            go_region
            · go_wp2_with fail
              go_meet
              exact ⟨_, _, rfl, rfl, by omega, by omega, by omega, hX6⟩
            · go_wp2_with fail
              go_meet
              exact ⟨_, _, rfl, rfl, by omega, by omega, by omega, hX7⟩
          case rest =>
            obtain ⟨p1, p2, rfl, rfl, h12, hp1, hp2, hX⟩ := hcut
            clear hX6 hX7 e1 e2 e3 e4 e5 s1 s2 s3 s4 r1 r2 r4 r3x hb5 hb6 hXr c2
            have HX := Lib.hid hX
            have q1 := (hX.rel (p1, (N : Int), F) (by simp)).drew
            have d1 := q1.row X (by omega)
            have fr1 := q1.free (1 + X)
            have x48 : (X : Int) < 48 := by omega
            have z48 : (Z : Int) < 48 := by omega
            have x64 : (X : Int) < 64 := by omega
            have z64 : (Z : Int) < 64 := by omega
            have hor1 := Lib.hid (show bits BinOp.or IntKind.u64 (F X : Int) (IntKind.u64.wrap (2 ^ Z)) = ((F X ||| 2 ^ Z : Nat) : Int) by
              have hp : 2 ^ Z < 2 ^ 64 := Nat.pow_lt_pow_right (by omega) (by omega)
              rw [shl1_nat Z (by omega), u64_or_nat _ _ (g64 X) hp])
            have hor2 := Lib.hid (show bits BinOp.or IntKind.u64 (F Z : Int) (IntKind.u64.wrap (2 ^ X)) = ((F Z ||| 2 ^ X : Nat) : Int) by
              have hp : 2 ^ X < 2 ^ 64 := Nat.pow_lt_pow_right (by omega) (by omega)
              rw [shl1_nat X (by omega), u64_or_nat _ _ (g64 Z) hp])
            clear hX
            go_upto_region 16 with fail
            go_region
            rw [hor1.out]
            have hX : KS w (wc.setCell ⟨p1, 1 + X, none⟩ (.int .u64 ((F X ||| 2 ^ Z : Nat) : Int))).drew [(p1, (N : Int), addF F X Z), (p2, (N : Int), F), (w.heap.size, (N : Int), F)] [] [] :=
              ⟨(HX.out.below.setCell (show w.heap.size ≤ p1 by omega) _).drew, fun x hx => by
                simp only [List.mem_cons, List.not_mem_nil, or_false] at hx
                rcases hx with rfl | rfl | rfl
                · exact (RelAt.set (HX.out.rel (p1, (N : Int), F) (by simp)) X (F X ||| 2 ^ Z) (by omega)).drew
                · exact (RelAt.other (HX.out.rel (p2, (N : Int), F) (by simp)) _ _ (show p2 ≠ p1 by omega)).drew
                · exact (RelAt.other (HX.out.rel (w.heap.size, (N : Int), F) (by simp)) _ _ (show w.heap.size ≠ p1 by omega)).drew, fun _ h => (by cases h), fun _ h => (by cases h)⟩
            clear HX q1 d1 fr1
            generalize (wc.setCell ⟨p1, 1 + X, none⟩ (.int .u64 ((F X ||| 2 ^ Z : Nat) : Int))).drew = w6 at *
            have HX := Lib.hid hX
            have q1 := (hX.rel (p2, (N : Int), F) (by simp)).drew
            have d1 := q1.row Z (by omega)
            have fr1 := q1.free (1 + Z)
            clear hX
            go_upto_region 17 with fail
            go_region
            rw [hor2.out]
            have hX : KS w (w6.setCell ⟨p2, 1 + Z, none⟩ (.int .u64 ((F Z ||| 2 ^ X : Nat) : Int))).drew [(p2, (N : Int), addF F Z X), (p1, (N : Int), addF F X Z), (w.heap.size, (N : Int), F)] [] [] :=
              ⟨(HX.out.below.setCell (show w.heap.size ≤ p2 by omega) _).drew, fun x hx => by
                simp only [List.mem_cons, List.not_mem_nil, or_false] at hx
                rcases hx with rfl | rfl | rfl
                · exact (RelAt.set (HX.out.rel (p2, (N : Int), F) (by simp)) Z (F Z ||| 2 ^ X) (by omega)).drew
                · exact (RelAt.other (HX.out.rel (p1, (N : Int), addF F X Z) (by simp)) _ _ (show p1 ≠ p2 by omega)).drew
                · exact (RelAt.other (HX.out.rel (w.heap.size, (N : Int), F) (by simp)) _ _ (show w.heap.size ≠ p2 by omega)).drew, fun _ h => (by cases h), fun _ h => (by cases h)⟩
            clear HX q1 d1 fr1 hor1 hor2
            generalize (w6.setCell ⟨p2, 1 + Z, none⟩ (.int .u64 ((F Z ||| 2 ^ X : Nat) : Int))).drew = w7 at *
            have hsum := split_len gR hXN hZN hne
            have hfree := split_free gR hXN hZN hne
            have hle1 := ordL_le h1b (by omega)
            have hle2 := ordL_le h2b (by omega)
            have C4 := Lib.hid (fun W hT => count_ok N (addF F X Z) 720 (by omega) h1a h1b W hT)
            have C5 := Lib.hid (fun W hT => count_ok N (addF F Z X) 720 (by omega) h2a h2b W hT)
            rw [show cntR N (addF F X Z) ((720 : Nat) : Int) = .tuple #[.int .i64 ((ordL N (addF F X Z)).length : Int), .int .i64 0] by rw [cntR, if_pos (by omega)]] at C4
            rw [show cntR N (addF F Z X) ((720 : Nat) : Int) = .tuple #[.int .i64 ((ordL N (addF F Z X)).length : Int), .int .i64 0] by rw [cntR, if_pos (by omega)]] at C5
            have C6 := Lib.hid (fun W hT => plus_ok g64 gR W hT)
            have hpR := rgt_plus gR
            have hp64 : R64 (plusF N F) := plus_64 g64
            have C7 := Lib.hid (fun W => relHas_any N (plusF N F) (X : Int) (Z : Int) W hp64)
            have C8 := Lib.hid (fun W => relHas_any N (plusF N F) (Z : Int) (X : Int) W hp64)
            rw [hasB_two hpR hXN hZN] at C7
            rw [hasB_two hpR hZN hXN] at C8
            rw [← HK.out] at hsum hfree
            generalize hk1 : (ordL N (addF F X Z)).length = K1 at *
            generalize hk2 : (ordL N (addF F Z X)).length = K2 at *
            generalize decide (Bt (plusF N F) X Z) = p at *
            generalize decide (Bt (plusF N F) Z X) = q at *
            generalize addF F X Z = G1 at *
            generalize addF F Z X = G2 at *
            generalize plusF N F = P at *
            clear hk1 hk2 hpR hp64 h1a h1b h2a h2b
            have Hfree := Lib.hid hfree
            clear hfree
            have l := (hX.rel (p1, (N : Int), G1) (by simp)).ld
            go_wp2_with fail
            clear l
            refine (C4.out _ (hX.tab hT)).mono ?_
            rintro e w8 ⟨rfl, hb⟩
            replace hX := hX.on hb
            clear hb
            have l := (hX.rel (p2, (N : Int), G2) (by simp)).ld
            go_wp2_with fail
            clear l
            refine (C5.out _ (hX.tab hT)).mono ?_
            rintro e w9 ⟨rfl, hb⟩
            replace hX := hX.on hb
            clear hb
            have l := (hX.rel (w.heap.size, (N : Int), F) (by simp)).ld
            go_wp2_with fail
            clear l
            refine (C6.out _ (hX.tab hT)).mono ?_
            rintro e w10 ⟨rfl, hb⟩
            obtain ⟨W10, hs10, hX, -⟩ := hX.lay hb (N : Int) P
            clear hb
            go_upto_region 21 with fail
            clear hs10
            go_cut [22] (fun v W => v = .bool (decide (0 < K1) && decide (0 < K2)) ∧ KS w W [] [] [])
            case first =>
              have l := (hX.rel (w10.heap.size, (N : Int), P) (by simp)).ld
              go_wp2_with fail
              clear l
              refine (C7.out _).mono ?_
              rintro e w11 ⟨rfl, hb⟩
              replace hX := hX.on hb
              clear hb
              cases p
              · have l := (hX.rel (w10.heap.size, (N : Int), P) (by simp)).ld
                go_wp2_with fail
                clear l
                refine (C8.out _).mono ?_
                rintro e w12 ⟨rfl, hb⟩
                replace hX := hX.on hb
                clear hb
                cases q
                · go_wp2_with fail
                  go_meet
                  exact ⟨by rw [Hfree.out, t1]; rfl, hX.below, fun _ h => (by cases h), fun _ h => (by cases h), fun _ h => (by cases h)⟩
                · go_wp2_with fail
                  go_meet
                  exact ⟨by rw [Hfree.out]; rfl, hX.below, fun _ h => (by cases h), fun _ h => (by cases h), fun _ h => (by cases h)⟩
              · go_wp2_with fail
                go_meet
                exact ⟨by rw [Hfree.out]; rfl, hX.below, fun _ h => (by cases h), fun _ h => (by cases h), fun _ h => (by cases h)⟩
            case rest =>
              obtain ⟨rfl, hX'⟩ := hcut
              clear hX C4 C5 C6 C7 C8 Hfree
              have hs : ((K1 : Int) + (K2 : Int) == (K : Int)) = true := by simp; omega
              cases j1 : decide (0 < K1) <;> cases j2 : decide (0 < K2) <;>
              · go_wp2_with fail
                refine (Aw.out _ (hX'.tab hT)).mono ?_
                rintro e w13 ⟨rfl, hb⟩
                go_wp2
                go_ret
                exact ⟨rfl, (hX'.on hb).below⟩
      · have t3 : ((X : Int) == (Y : Int)) = false := by simp; omega
        go_upto_region 15 with fail
        have hne := hXY
        have hZN := hYN
        clear hYN hXY t3
        generalize Y = Z at *
        as_aux_lemma =>
          have h1a := add_64 g64 (x := X) (y := Z) (by omega)
          have h1b := rgt_add gR hXN hZN
          have h2a := add_64 g64 (x := Z) (y := X) (by omega)
          have h2b := rgt_add gR hZN hXN
          have hXr := hX.rel (w.heap.size, (N : Int), F) (by simp)
          have hz0 : RelAt ((w5.drew.alloc (.cells (relC 0 zf) 26)).alloc (.cells (relC 0 zf) 26)) (w5.heap.size + 1) 0 zf := by
            have := RelAt.new (w5.drew.alloc (.cells (relC 0 zf) 26)) 0 zf
            rw [World.size_alloc] at this
            exact this
          obtain ⟨Wa, s1', r1', o1⟩ := RelAt.put (b := w5.heap.size) ((RelAt.new w5.drew 0 zf).alloc (.cells (relC 0 zf) 26)) (N : Int) F
          have hq1 := RelAt.only (c := w5.heap.size) hz0 o1 (show w5.heap.size + 1 ≠ w5.heap.size by omega)
          obtain ⟨Wb, s2', r2, o2⟩ := hq1.put (N : Int) F
          have r1 : RelAt Wb w5.heap.size (N : Int) F := r1'.only o2 (show w5.heap.size ≠ w5.heap.size + 1 by omega)
          have hbw' : Below w5.heap.size w5.drew Wb := below_only (below_only (((Below.refl _ w5.drew).alloc (Nat.le_refl _) _).alloc (by simp) _) o1 (Nat.le_refl _)) o2 (show w5.heap.size ≤ w5.heap.size + 1 by omega)
          obtain ⟨Wc, s3', r3, o3⟩ := hz0.put (N : Int) F
          have hq := RelAt.only (c := w5.heap.size + 1) ((RelAt.new w5.drew 0 zf).alloc (.cells (relC 0 zf) 26)) o3 (show w5.heap.size ≠ w5.heap.size + 1 by omega)
          obtain ⟨Wd, s4', r4, o4⟩ := hq.put (N : Int) F
          have r3x : RelAt Wd (w5.heap.size + 1) (N : Int) F := r3.only o4 (show w5.heap.size + 1 ≠ w5.heap.size by omega)
          have hb5 : Below w5.heap.size w5 Wd := undrew (below_only (below_only (((Below.refl _ w5.drew).alloc (Nat.le_refl _) _).alloc (by simp) _) o3 (show w5.heap.size ≤ w5.heap.size + 1 by omega)) o4 (Nat.le_refl _))
          have hb6 : Below w5.heap.size w5 Wb := undrew hbw'
          have e1 : (ldRel (.pointer (some ⟨w.heap.size, 0, none⟩))).run Tryd.prog w5.drew = .ok (.agg (relC (N : Int) F)) w5.drew := hXr.drew.ld
          have e2 : (ldRel (.pointer (some ⟨w.heap.size, 0, none⟩))).run Tryd.prog (w5.alloc (.cells (relC 0 zf) 26)).drew = .ok (.agg (relC (N : Int) F)) (w5.alloc (.cells (relC 0 zf) 26)).drew := (hXr.alloc (.cells (relC 0 zf) 26)).drew.ld
          have e3 : (ldRel (.pointer (some ⟨w.heap.size, 0, none⟩))).run Tryd.prog ((w5.alloc (.cells (relC 0 zf) 26)).alloc (.cells (relC 0 zf) 26)).drew = .ok (.agg (relC (N : Int) F)) ((w5.alloc (.cells (relC 0 zf) 26)).alloc (.cells (relC 0 zf) 26)).drew := ((hXr.alloc (.cells (relC 0 zf) 26)).alloc (.cells (relC 0 zf) 26)).drew.ld
          have s1 : (stRel (.pointer (some ⟨w5.heap.size, 0, none⟩)) (.agg (relC (N : Int) F))).run Tryd.prog ((w5.alloc (.cells (relC 0 zf) 26)).alloc (.cells (relC 0 zf) 26)).drew = .ok () Wa := s1'
          have s2 : (stRel (.pointer (some ⟨w5.heap.size + 1, 0, none⟩)) (.agg (relC (N : Int) F))).run Tryd.prog Wa = .ok () Wb := s2'
          have s3 : (stRel (.pointer (some ⟨w5.heap.size + 1, 0, none⟩)) (.agg (relC (N : Int) F))).run Tryd.prog ((w5.alloc (.cells (relC 0 zf) 26)).alloc (.cells (relC 0 zf) 26)).drew = .ok () Wc := s3'
          have s4 : (stRel (.pointer (some ⟨w5.heap.size, 0, none⟩)) (.agg (relC (N : Int) F))).run Tryd.prog Wc = .ok () Wd := s4'
          have hsz5 := hXr.lt
          have e4 := (((hXr.drew.alloc (.cells (relC 0 zf) 26)).alloc (.cells (relC 0 zf) 26)).only o1 (by omega)).ld
          have e5 := (((hXr.drew.alloc (.cells (relC 0 zf) 26)).alloc (.cells (relC 0 zf) 26)).only o3 (by omega)).ld
          have hX6 := ((hX.on hb6).addRel r2).addRel r1
          have hX7 := ((hX.on hb5).addRel r4).addRel r3x
          clear hq1 r1' o1 o2 s1' s2' s3' s4' hbw' hz0 hq o3 o4 r3
          go_cut [15, 16] (fun v15 v16 W => ∃ b1 b2, v15 = .pointer (some ⟨b1, 0, none⟩) ∧ v16 = .pointer (some ⟨b2, 0, none⟩) ∧ b1 ≠ b2 ∧ w.heap.size < b1 ∧ w.heap.size < b2 ∧ KS w W [(b1, (N : Int), F), (b2, (N : Int), F), (w.heap.size, (N : Int), F)] [] [])
          case first =>
            go_region
            · go_wp2_with fail
              go_meet
              exact ⟨_, _, rfl, rfl, by omega, by omega, by omega, hX6⟩
            · go_wp2_with fail
              go_meet
              exact ⟨_, _, rfl, rfl, by omega, by omega, by omega, hX7⟩
          case rest =>
            obtain ⟨p1, p2, rfl, rfl, h12, hp1, hp2, hX⟩ := hcut
            clear hX6 hX7 e1 e2 e3 e4 e5 s1 s2 s3 s4 r1 r2 r4 r3x hb5 hb6 hXr c2
            have HX := Lib.hid hX
            have q1 := (hX.rel (p1, (N : Int), F) (by simp)).drew
            have d1 := q1.row X (by omega)
            have fr1 := q1.free (1 + X)
            have x48 : (X : Int) < 48 := by omega
            have z48 : (Z : Int) < 48 := by omega
            have x64 : (X : Int) < 64 := by omega
            have z64 : (Z : Int) < 64 := by omega
            have hor1 := Lib.hid (show bits BinOp.or IntKind.u64 (F X : Int) (IntKind.u64.wrap (2 ^ Z)) = ((F X ||| 2 ^ Z : Nat) : Int) by
              have hp : 2 ^ Z < 2 ^ 64 := Nat.pow_lt_pow_right (by omega) (by omega)
              rw [shl1_nat Z (by omega), u64_or_nat _ _ (g64 X) hp])
            have hor2 := Lib.hid (show bits BinOp.or IntKind.u64 (F Z : Int) (IntKind.u64.wrap (2 ^ X)) = ((F Z ||| 2 ^ X : Nat) : Int) by
              have hp : 2 ^ X < 2 ^ 64 := Nat.pow_lt_pow_right (by omega) (by omega)
              rw [shl1_nat X (by omega), u64_or_nat _ _ (g64 Z) hp])
            clear hX
            go_upto_region 16 with fail
            go_region
            rw [hor1.out]
            have hX : KS w (wc.setCell ⟨p1, 1 + X, none⟩ (.int .u64 ((F X ||| 2 ^ Z : Nat) : Int))).drew [(p1, (N : Int), addF F X Z), (p2, (N : Int), F), (w.heap.size, (N : Int), F)] [] [] :=
              ⟨(HX.out.below.setCell (show w.heap.size ≤ p1 by omega) _).drew, fun x hx => by
                simp only [List.mem_cons, List.not_mem_nil, or_false] at hx
                rcases hx with rfl | rfl | rfl
                · exact (RelAt.set (HX.out.rel (p1, (N : Int), F) (by simp)) X (F X ||| 2 ^ Z) (by omega)).drew
                · exact (RelAt.other (HX.out.rel (p2, (N : Int), F) (by simp)) _ _ (show p2 ≠ p1 by omega)).drew
                · exact (RelAt.other (HX.out.rel (w.heap.size, (N : Int), F) (by simp)) _ _ (show w.heap.size ≠ p1 by omega)).drew, fun _ h => (by cases h), fun _ h => (by cases h)⟩
            clear HX q1 d1 fr1
            generalize (wc.setCell ⟨p1, 1 + X, none⟩ (.int .u64 ((F X ||| 2 ^ Z : Nat) : Int))).drew = w6 at *
            have HX := Lib.hid hX
            have q1 := (hX.rel (p2, (N : Int), F) (by simp)).drew
            have d1 := q1.row Z (by omega)
            have fr1 := q1.free (1 + Z)
            clear hX
            go_upto_region 17 with fail
            go_region
            rw [hor2.out]
            have hX : KS w (w6.setCell ⟨p2, 1 + Z, none⟩ (.int .u64 ((F Z ||| 2 ^ X : Nat) : Int))).drew [(p2, (N : Int), addF F Z X), (p1, (N : Int), addF F X Z), (w.heap.size, (N : Int), F)] [] [] :=
              ⟨(HX.out.below.setCell (show w.heap.size ≤ p2 by omega) _).drew, fun x hx => by
                simp only [List.mem_cons, List.not_mem_nil, or_false] at hx
                rcases hx with rfl | rfl | rfl
                · exact (RelAt.set (HX.out.rel (p2, (N : Int), F) (by simp)) Z (F Z ||| 2 ^ X) (by omega)).drew
                · exact (RelAt.other (HX.out.rel (p1, (N : Int), addF F X Z) (by simp)) _ _ (show p1 ≠ p2 by omega)).drew
                · exact (RelAt.other (HX.out.rel (w.heap.size, (N : Int), F) (by simp)) _ _ (show w.heap.size ≠ p2 by omega)).drew, fun _ h => (by cases h), fun _ h => (by cases h)⟩
            clear HX q1 d1 fr1 hor1 hor2
            generalize (w6.setCell ⟨p2, 1 + Z, none⟩ (.int .u64 ((F Z ||| 2 ^ X : Nat) : Int))).drew = w7 at *
            have hsum := split_len gR hXN hZN hne
            have hfree := split_free gR hXN hZN hne
            have hle1 := ordL_le h1b (by omega)
            have hle2 := ordL_le h2b (by omega)
            have C4 := Lib.hid (fun W hT => count_ok N (addF F X Z) 720 (by omega) h1a h1b W hT)
            have C5 := Lib.hid (fun W hT => count_ok N (addF F Z X) 720 (by omega) h2a h2b W hT)
            rw [show cntR N (addF F X Z) ((720 : Nat) : Int) = .tuple #[.int .i64 ((ordL N (addF F X Z)).length : Int), .int .i64 0] by rw [cntR, if_pos (by omega)]] at C4
            rw [show cntR N (addF F Z X) ((720 : Nat) : Int) = .tuple #[.int .i64 ((ordL N (addF F Z X)).length : Int), .int .i64 0] by rw [cntR, if_pos (by omega)]] at C5
            have C6 := Lib.hid (fun W hT => plus_ok g64 gR W hT)
            have hpR := rgt_plus gR
            have hp64 : R64 (plusF N F) := plus_64 g64
            have C7 := Lib.hid (fun W => relHas_any N (plusF N F) (X : Int) (Z : Int) W hp64)
            have C8 := Lib.hid (fun W => relHas_any N (plusF N F) (Z : Int) (X : Int) W hp64)
            rw [hasB_two hpR hXN hZN] at C7
            rw [hasB_two hpR hZN hXN] at C8
            rw [← HK.out] at hsum hfree
            generalize hk1 : (ordL N (addF F X Z)).length = K1 at *
            generalize hk2 : (ordL N (addF F Z X)).length = K2 at *
            generalize decide (Bt (plusF N F) X Z) = p at *
            generalize decide (Bt (plusF N F) Z X) = q at *
            generalize addF F X Z = G1 at *
            generalize addF F Z X = G2 at *
            generalize plusF N F = P at *
            clear hk1 hk2 hpR hp64 h1a h1b h2a h2b
            have Hfree := Lib.hid hfree
            clear hfree
            have l := (hX.rel (p1, (N : Int), G1) (by simp)).ld
            go_wp2_with fail
            clear l
            refine (C4.out _ (hX.tab hT)).mono ?_
            rintro e w8 ⟨rfl, hb⟩
            replace hX := hX.on hb
            clear hb
            have l := (hX.rel (p2, (N : Int), G2) (by simp)).ld
            go_wp2_with fail
            clear l
            refine (C5.out _ (hX.tab hT)).mono ?_
            rintro e w9 ⟨rfl, hb⟩
            replace hX := hX.on hb
            clear hb
            have l := (hX.rel (w.heap.size, (N : Int), F) (by simp)).ld
            go_wp2_with fail
            clear l
            refine (C6.out _ (hX.tab hT)).mono ?_
            rintro e w10 ⟨rfl, hb⟩
            obtain ⟨W10, hs10, hX, -⟩ := hX.lay hb (N : Int) P
            clear hb
            go_upto_region 21 with fail
            clear hs10
            go_cut [22] (fun v W => v = .bool (decide (0 < K1) && decide (0 < K2)) ∧ KS w W [] [] [])
            case first =>
              have l := (hX.rel (w10.heap.size, (N : Int), P) (by simp)).ld
              go_wp2_with fail
              clear l
              refine (C7.out _).mono ?_
              rintro e w11 ⟨rfl, hb⟩
              replace hX := hX.on hb
              clear hb
              cases p
              · have l := (hX.rel (w10.heap.size, (N : Int), P) (by simp)).ld
                go_wp2_with fail
                clear l
                refine (C8.out _).mono ?_
                rintro e w12 ⟨rfl, hb⟩
                replace hX := hX.on hb
                clear hb
                cases q
                · go_wp2_with fail
                  go_meet
                  exact ⟨by rw [Hfree.out, t1]; rfl, hX.below, fun _ h => (by cases h), fun _ h => (by cases h), fun _ h => (by cases h)⟩
                · go_wp2_with fail
                  go_meet
                  exact ⟨by rw [Hfree.out]; rfl, hX.below, fun _ h => (by cases h), fun _ h => (by cases h), fun _ h => (by cases h)⟩
              · go_wp2_with fail
                go_meet
                exact ⟨by rw [Hfree.out]; rfl, hX.below, fun _ h => (by cases h), fun _ h => (by cases h), fun _ h => (by cases h)⟩
            case rest =>
              obtain ⟨rfl, hX'⟩ := hcut
              clear hX C4 C5 C6 C7 C8 Hfree
              have hs : ((K1 : Int) + (K2 : Int) == (K : Int)) = true := by simp; omega
              cases j1 : decide (0 < K1) <;> cases j2 : decide (0 < K2) <;>
              · go_wp2_with fail
                refine (Aw.out _ (hX'.tab hT)).mono ?_
                rintro e w13 ⟨rfl, hb⟩
                go_wp2
                go_ret
                exact ⟨rfl, (hX'.on hb).below⟩
end Go.Proofs.YtpmlomhlbmgilaaDoor
end
