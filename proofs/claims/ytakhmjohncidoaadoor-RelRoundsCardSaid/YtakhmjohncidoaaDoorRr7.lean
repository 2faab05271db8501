/- RelRoundsLaw in one text, for the claim. -/
import Derived.Deep.RegionWith
import Derived.Deep.QuietTactic
import Derived.Deep.DeepCutAuto
import Derived.Deep.RegionHeld3
import Derived.Deep.DrawnRows
import Derived.Test.YtakhmjohncidoaaDoorRr4
import Derived.Test.YtakhmjohncidoaaDoorRelAwake2
import Derived.Test.YtakhmjohncidoaaDoorRr5
import Derived.Test.YtakhmjohncidoaaDoorRr6

section
/- The law of rounds: the walk. -/
namespace Go.Proofs.YtakhmjohncidoaaDoor
open Go.RowKit Go.Shelf Go.BigFrame

attribute [local go_sem] Oper.semAt_some
attribute [local go_sem ↓] Go.wp_at_zero Go.wp_at_succ
/-- The document's Ring answers as the program's. -/
theorem refRing_any (n : Int) (f : Nat → Nat) (hf : R64 f) (w : World) : Calls Tryd.prog 38 #[.agg (relC n f)] w (RingPost (ringF n f) w) := by
  cases hb : rightB n f
  · rw [show ringF n f = none by simp [ringF, hb]]
    refine (refRing_bad n f hf hb w).mono ?_
    rintro e w' ⟨rfl, h⟩
    exact ⟨_, rfl, World.ownsRow_nil _ _ _ _, h, fun _ => rfl⟩
  · obtain ⟨⟨n0, n1⟩, -⟩ := rightB_iff.1 hb
    obtain ⟨N, rfl⟩ : ∃ N : Nat, n = (N : Int) := ⟨n.toNat, by omega⟩
    have hr : Rgt N f := hb
    rcases ring_cyc hr with ⟨a, l, h1, h2, h3⟩ | ⟨h1, h2⟩
    · rw [h1]
      exact refRing_yes N f hf hr a l h3 h2 (ring_lo hr h1 h3.ring) w
    · rw [h1]
      refine (refRing_no N f hf hr h2 w).mono ?_
      rintro e w' ⟨rfl, h⟩
      exact ⟨_, rfl, World.ownsRow_nil _ _ _ _, h, fun _ => rfl⟩
theorem refAcyclic_any (n : Int) (f : Nat → Nat) (hf : R64 f) (w : World) : Calls Tryd.prog 43 #[.agg (relC n f)] w fun e w' => e = .returned (.bool (topF n f).isSome) ∧ Below w.heap.size w w' := by
  cases hb : rightB n f
  · rw [show topF n f = none by simp [topF, hb]]
    exact refAcyclic_bad n f hf hb w
  · obtain ⟨⟨n0, n1⟩, -⟩ := rightB_iff.1 hb
    obtain ⟨N, rfl⟩ : ∃ N : Nat, n = (N : Int) := ⟨n.toNat, by omega⟩
    have hr : Rgt N f := hb
    have hA := refAcyclic_ok N f hf hr w
    rw [irr_war hr] at hA
    rcases top_cyc hr with ⟨l, h1, h2⟩ | ⟨h1, h2⟩
    · rw [(irr_plus hr).2 (h2.acyclic hr)] at hA
      rw [h1]; exact hA
    · have h3 : irrK (plusF N f) N = false := by
        rw [Bool.eq_false_iff]
        intro h
        exact (irr_plus hr).1 h h2
      rw [h3] at hA
      rw [h1]; exact hA
theorem row_len {W : World} {b n size : Nat} {e : TypeId} {v : Value} {xs : List Value} (h : W.ownsRow b e size v n xs) : n ≤ maxLen := by
  rcases h.2 with ⟨_, rfl⟩ | ⟨g, cap, cur, rfl, _, _, h1, h2, _⟩
  · simp
  · omega
theorem none_pairs {N : Nat} {f : Nat → Nat} (hr : Rgt N f) : ((((pairsK f N).length : Nat) : Int) == 0) = decide (fromK f N = 0) := by
  have hle := hr.le
  rw [Bool.eq_iff_iff, beq_iff_eq, decide_eq_true_iff]
  constructor
  · intro h
    have hl : pairsK f N = [] := List.eq_nil_of_length_eq_zero (by omega)
    apply Nat.eq_of_testBit_eq
    intro j
    rw [fromK_bit, Nat.zero_testBit, Bool.eq_false_iff]
    intro hb
    rw [Bool.and_eq_true, decide_eq_true_iff, decide_eq_true_iff] at hb
    obtain ⟨h1, h2⟩ := hb
    obtain ⟨i, hi⟩ : ∃ i, (f j).testBit i = true := Nat.exists_testBit_of_ne_zero h2
    have hi48 := hr.snd48 (by omega) hi
    have : ((⟨j, by omega⟩, ⟨i, hi48⟩) : It × It) ∈ pairsK f N := mem_pairsK.2 ⟨h1, hi⟩
    rw [hl] at this
    simp at this
  · intro h
    have hl : pairsK f N = [] := by
      rw [List.eq_nil_iff_forall_not_mem]
      intro x hx
      obtain ⟨h1, h2⟩ := mem_pairsK.1 hx
      have hb := fromK_bit f N x.1.1
      rw [h, Nat.zero_testBit] at hb
      have hz : f x.1.1 = 0 := by
        have : decide (x.1.1 < N) = true := by simpa using h1
        rw [this, Bool.true_and] at hb
        simpa using hb.symm
      unfold Bt at h2
      rw [hz] at h2
      simp at h2
    rw [hl]; rfl

set_option maxRecDepth 100000 in
set_option maxHeartbeats 8000000 in
theorem rounds_law (n : Int) (f : Nat → Nat) (hf : R64 f) (w : World) (hT : Tab w) :
    Calls Tryd.prog 4 #[.agg (relC n f)] w fun e w' => e = .returned (.bool true) ∧ Below w.heap.size w w' := by
  have hX : Kept w (w.alloc (.cells (relC n f) 26)) [(w.heap.size, n, f)] := by
    refine ⟨below_new w _, ?_⟩
    simp only [List.mem_cons, List.not_mem_nil, or_false]
    rintro p rfl
    exact RelAt.new w n f
  have hXh := Lib.hid hX
  have n1 := (hX.at (b := w.heap.size) (n := n) (f := f) (by simp)).num
  clear hX
  by_cases h12 : 12 < n
  · have t1 : decide (12 < n) = true := by simpa using h12
    go_enter Tryd.func4, Tryd.ntmps4
    go_wp2_with fail
    refine (awake_any _ (hXh.out.tab hT)).mono ?_
    rintro e w1 ⟨rfl, h⟩
    have hX2 := hXh.out.on h
    go_wp2
    go_ret
    exact ⟨rfl, hX2.1⟩
  · have t1 : decide (12 < n) = false := by simpa using h12
    have c1 := Lib.hid (fun W h => top_any n f W hf h)
    have c2 := Lib.hid (fun W => refTop_any n f hf W)
    unfold TopPost at c1 c2
    have c3 := Lib.hid (fun W h => ring_any n f W hf h)
    have c4 := Lib.hid (fun W => refRing_any n f hf W)
    unfold RingPost at c3 c4
    have c5 := Lib.hid (fun W => empty_any n f W hf)
    have c6 := Lib.hid (fun W => refRight_any n f hf W)
    have c8 := Lib.hid (fun W => irr_any n f W hf)
    have c9 := Lib.hid (fun W => refIrr_any n f hf W)
    have cA := Lib.hid (fun W h => acyclic_any n f W hf h)
    have cB := Lib.hid (fun W => refAcyclic_any n f hf W)
    have hcase : (rightB n f = false) ∨ (rightB n f = true ∧ ∃ N : Nat, n = (N : Int) ∧ Rgt N f) := by
      cases hb : rightB n f
      · exact .inl rfl
      · obtain ⟨⟨n0, n1⟩, -⟩ := rightB_iff.1 hb
        exact .inr ⟨rfl, n.toNat, by omega, by have : (n.toNat : Int) = n := by omega
                                               unfold Rgt; rw [this]; exact hb⟩
    generalize (rightB n f && irrK f n.toNat) = ib at *
    generalize (topF n f).isSome = tb at *
    generalize (topF n f).getD [] = T at *
    generalize (ringF n f).getD [] = R at *
    have e1 : (ib == ib) = true := by simp
    have e2 : (tb == tb) = true := by simp
    have hT0 := Lib.hid (hXh.out.tab hT)
    go_enter Tryd.func4, Tryd.ntmps4
    have l1 := (hXh.out.at (b := w.heap.size) (n := n) (f := f) (by simp)).ld
    go_wp2_with fail
    generalize w.alloc (.cells (relC n f) 26) = w0 at *
    clear l1 n1
    refine (c1.out w0 hT0.out).mono ?_
    rintro e w1 ⟨v1, rfl, hr1, hb⟩
    replace hXh := Lib.hid (hXh.out.on hb)
    have hs1 := slI_of_row hr1 (row_len hr1)
    clear hb hr1
    have l1 := (hXh.out.at (b := w.heap.size) (n := n) (f := f) (by simp)).ld
    go_wp2_with fail
    clear l1
    refine (c2.out w1).mono ?_
    rintro e w2 ⟨v2, rfl, hr2, hb⟩
    replace hXh := Lib.hid (hXh.out.on hb)
    replace hs1 := hs1.on hb
    have hs2 := slI_of_row hr2 (row_len hr2)
    clear hb hr2
    replace hs1 := Lib.hid hs1
    replace hs2 := Lib.hid hs2
    have hKS : ∀ W, Below w2.heap.size w2 W → (ldRel (.pointer (some ⟨w.heap.size, 0, none⟩))).run Tryd.prog W = .ok (.agg (relC n f)) W := fun W hW => ((hXh.out.on hW).at (b := w.heap.size) (n := n) (f := f) (by simp)).ld
    replace hKS := Lib.hid hKS
    have hTr := Lib.hid (hXh.out.tab hT)
    go_upto_region 5 with fail
    rcases hcase with hb | ⟨hb, N, rfl, hr⟩
    · have hno : ringF n f = none := by simp [ringF, hb]
      rw [hb] at c5 c6
      rw [Bool.false_and] at c5
      have c3' : Hid (∀ W, Tab W → Calls Tryd.prog 37 #[.agg (relC n f)] W fun e w' => e = .returned (.slice none 0 0) ∧ Below W.heap.size W w') := Lib.hid fun W h => (c3.out W h).mono (by
        rintro e w' ⟨v, rfl, _, h2, h3⟩
        exact ⟨by rw [h3 hno], h2⟩)
      have c4' : Hid (∀ W, Calls Tryd.prog 38 #[.agg (relC n f)] W fun e w' => e = .returned (.slice none 0 0) ∧ Below W.heap.size W w') := Lib.hid fun W => (c4.out W).mono (by
        rintro e w' ⟨v, rfl, _, h2, h3⟩
        exact ⟨by rw [h3 hno], h2⟩)
      have hnil : ∀ W : World, SlI W.heap.size W (.slice none 0 0) [] := fun W => slI_of_row (World.ownsRow_nil W 0 _ _) (by simp)
      have r1 := Lib.hid (fun (W : World) (h : Below w2.heap.size w2 W) => (hXh.out.on h).at (b := w.heap.size) (n := n) (f := f) (by simp))
      clear hb c3 c4
      refine wp_region_below w2.heap.size w2 (by kernel_rfl) (by kernel_rfl) (Below.refl _ _) ?_
      repeat (first
        | go_big_quiet_step (first
          | (intro _; exact rfl)
          | (intro hW; go_at_call 36; first | exact Calls.below_of hW (ints_eq (hnil _) (hnil _)) | exact Calls.below_of hW (ints_eq (hs1.out.on hW) (hs2.out.on hW)))
          | (intro hW; go_at_call 37; exact Calls.below_of hW (c3'.out _ (tab_on hTr.out hW)))
          | (intro hW; go_at_call 38; exact Calls.below_of hW (c4'.out _))
          | (intro hW; go_at_call 39; exact Calls.below_of hW (c5.out _))
          | (intro hW; go_at_call 7; exact Calls.below_of hW (c6.out _))
          | (intro hW; go_at_call 40; exact Calls.below_of hW (c8.out _))
          | (intro hW; go_at_call 41; exact Calls.below_of hW (c9.out _))
          | (intro hW; go_at_call 42; exact Calls.below_of hW (cA.out _ (tab_on hTr.out hW)))
          | (intro hW; go_at_call 43; exact Calls.below_of hW (cB.out _))
          | (intro hW; go_at_call 5; exact Calls.below_of hW (awake_any _ (tab_on hTr.out hW))))
        | (refine wpQuiet_want rfl fun K hK => ?_
           refine quiet_loadRel (.tmp 1) rfl _ rfl _ _ r1.out (hK _ ?_)
           clear hK K
           simp only [Act.put, List.setIfInBounds_toArray, List.set_cons_succ, List.set_cons_zero]))
      refine wpQuiet_nil ?_
      intro w4 hB4
      go_wp2
      go_ret
      exact ⟨rfl, hXh.out.1.trans (hB4.mono hXh.out.1.size)⟩
    · replace hs1 := Lib.hid (hs1.out.on (Below.refl w2.heap.size w2).drew)
      replace hs2 := Lib.hid (hs2.out.on (Below.refl w2.heap.size w2).drew)
      rw [hb] at c5 c6
      rw [Bool.true_and, Int.toNat_natCast, ← none_pairs hr] at c5
      have c7 := Lib.hid (fun W => refPairs_ok N f hf hr W)
      generalize (pairsK f N).length = m at *
      have e3 : (((m : Int) == 0) == ((m : Int) == 0)) = true := by simp
      clear hb hr
      have hBd := Lib.hid ((Below.refl w2.heap.size w2).drew)
      go_region_held3 (fun W => (ldRel (.pointer (some ⟨w.heap.size, 0, none⟩))).run Tryd.prog W = .ok (.agg (relC (N : Int) f)) W)
        (exact hKS.out _ hBd.out)
        (first
        | (go_at_call 36
           first
             | (refine (ints_eq hs1.out hs2.out).mono ?_
                rintro e wq ⟨rfl, hq⟩
                replace hBd := Lib.hid (thru hBd.out hq)
                clear hs1 hs2 hq)
             | (refine (ints_eq hs3.out hs4.out).mono ?_
                rintro e wq ⟨rfl, hq⟩
                replace hBd := Lib.hid (thru hBd.out hq)
                clear hs3 hs4 hq))
        | (go_at_call 37
           refine (c3.out _ (tab_on hTr.out hBd.out)).mono ?_
           rintro e wq ⟨v3, rfl, hr3, hq, -⟩
           replace hBd := Lib.hid (thru hBd.out hq)
           have hs3 := Lib.hid (slI_of_row hr3 (row_len hr3))
           clear hq hr3)
        | (go_at_call 38
           refine (c4.out _).mono ?_
           rintro e wq ⟨v4, rfl, hr4, hq, -⟩
           replace hBd := Lib.hid (thru hBd.out hq)
           have hs4 := Lib.hid (slI_of_row hr4 (row_len hr4))
           replace hs3 := Lib.hid (hs3.out.on hq)
           clear hq hr4)
        | (go_at_call 39
           refine (c5.out _).mono ?_
           rintro e wq ⟨rfl, hq⟩
           replace hBd := Lib.hid (thru hBd.out hq)
           clear hq)
        | (go_at_call 7
           refine (c6.out _).mono ?_
           rintro e wq ⟨rfl, hq⟩
           replace hBd := Lib.hid (thru hBd.out hq)
           clear hq)
        | (go_at_call 23
           refine (c7.out _).mono ?_
           rintro e wq ⟨v7, rfl, hr7, hq⟩
           replace hBd := Lib.hid (thru hBd.out hq)
           obtain ⟨a7, k7, hv7⟩ := ownsRow_slice hr7
           subst hv7
           clear hq hr7)
        | (go_at_call 40
           refine (c8.out _).mono ?_
           rintro e wq ⟨rfl, hq⟩
           replace hBd := Lib.hid (thru hBd.out hq)
           clear hq)
        | (go_at_call 41
           refine (c9.out _).mono ?_
           rintro e wq ⟨rfl, hq⟩
           replace hBd := Lib.hid (thru hBd.out hq)
           clear hq)
        | (go_at_call 42
           refine (cA.out _ (tab_on hTr.out hBd.out)).mono ?_
           rintro e wq ⟨rfl, hq⟩
           replace hBd := Lib.hid (thru hBd.out hq)
           clear hq)
        | (go_at_call 43
           refine (cB.out _).mono ?_
           rintro e wq ⟨rfl, hq⟩
           replace hBd := Lib.hid (thru hBd.out hq)
           clear hq)
        | (go_at_call 5
           refine (awake_any _ (tab_on hTr.out hBd.out)).mono ?_
           rintro e wq ⟨rfl, hq⟩
           replace hBd := Lib.hid (thru hBd.out hq)
           clear hq))
      all_goals
        go_wp2
        go_ret
        exact ⟨rfl, hXh.out.1.trans (hBd.out.mono hXh.out.1.size)⟩
end Go.Proofs.YtakhmjohncidoaaDoor
end
