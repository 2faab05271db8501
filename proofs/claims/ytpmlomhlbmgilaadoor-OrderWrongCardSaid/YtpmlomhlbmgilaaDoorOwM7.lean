/- OrdWrongLaw in one text, for the claim. -/
import Derived.Deep.RegionWith
import Derived.Deep.DeepCutAuto
import Derived.Test.YtpmlomhlbmgilaaDoorOwM5
import Derived.Test.YtpmlomhlbmgilaaDoorOwM6

section
/- The law OrderWrong: the walk. -/
namespace Go.Proofs.YtpmlomhlbmgilaaDoor
open Go.RowKit Go.Shelf Go.Maps

attribute [local go_sem] Oper.semAt_some

theorem total_ex (n : Int) (zs : List Int) : ∃ (N' : Int) (F' : Nat → Nat) (E' : Int), (∀ (v : Value) (w : World), IntSl w.heap.size w v zs →
    Calls Tryd.prog 54 #[.int .i64 n, v] w fun e w' => e = .returned (.tuple #[.agg (relC N' F'), .int .i64 E']) ∧ Below w.heap.size w w') ∧
    ((ordB n zs = true ∧ E' = 0) ∨ (ordB n zs = false ∧ E' = 2 ∧ N' = 0 ∧ F' = zf)) := by
  cases h : ordB n zs with
  | true => exact ⟨n, totF n zs, 0, fun v w hs => by
      have := total_any n v zs w hs
      unfold TotalPost at this
      rw [h] at this
      exact this, .inl ⟨rfl, rfl⟩⟩
  | false => exact ⟨0, zf, 2, fun v w hs => by
      have := total_any n v zs w hs
      unfold TotalPost totF at this
      rw [h] at this
      exact this, .inr ⟨rfl, rfl, rfl, rfl⟩⟩
theorem keep_notRight {n : Int} {f : Nat → Nat} (h : rightB n f = false) (zs : List Int) : keepB n f zs = false := by
  unfold keepB inB combB
  rw [h]
  simp
theorem keep_len {n : Int} {f : Nat → Nat} {zs : List Int} (h : n ≠ (zs.length : Int)) : keepB n f zs = false := by
  unfold keepB ordB
  simp [h]

theorem Lookup2 {zs : List Int} {k : Nat} {W : World} {b : Nat} {D : DataW HU} (h : CntAt zs k W b D) {z : Int} (hz : (Lit.int .i64 z).wf = true) {c : Nat} (hc : (zs.take k).count z = c + 1) :
    (Instr.lookup 69 (.map (some b)) (.int .i64 z) false).run Tryd.prog W = .ok (.int .i64 ((c : Int) + 1)) W := by
  have := h.look hz
  rw [hc] at this
  exact this

set_option maxRecDepth 100000 in
set_option maxHeartbeats 8000000 in
theorem orderWrong_law (nr n : Int) (f : Nat → Nat) (hf : R64 f) (v : Value) (zs : List Int) (hwf : ∀ z ∈ zs, (Lit.int .i64 z).wf = true) (w : World) (hs : IntSl w.heap.size w v zs) (hT : Tab w) :
    Calls Tryd.prog 10 #[.agg (relC nr f), v, .int .i64 n] w fun e w' => e = .returned (.bool true) ∧ Below w.heap.size w w' := by
  have hmm := @run_makeMap Tryd.prog
  have Aw := Lib.hid (fun W hT => ordAwake_any W hT)
  have HS := Lib.hid hs
  obtain ⟨hl, a, cap, rfl, hc⟩ := hs
  unfold maxLen at hl
  have HC := Lib.hid hc
  have HW := Lib.hid hwf
  clear hc hwf
  have hR0 := (RelAt.new w nr f).alloc (.map #[] 0)
  have hB0 := (below_new w (.cells (relC nr f) 26)).alloc (by simp) (.map #[] 0)
  have hM0 := cnt_new zs (w.alloc (.cells (relC nr f) 26))
  rw [World.size_alloc] at hM0
  go_enter Tryd.func10, Tryd.ntmps10
  go_upto_region 2 with fail
  generalize (w.alloc (.cells (relC nr f) 26)).alloc (.map #[] 0) = W1 at *
  go_cut [8] (fun v8 W => v8 = .bool (fineU n zs 0) ∧ W = W1)
  case first =>
    go_wp2
    all_goals (go_meet; refine ⟨?_, rfl⟩)
    all_goals (rw [Value.bool.injEq, Bool.eq_iff_iff]; simp [fineU]; try omega)
  case rest =>
    obtain ⟨rfl, rfl⟩ := hcut
    clear hmm
    have HM0 := Lib.hid hM0
    have HR0 := Lib.hid hR0
    have HB0 := Lib.hid hB0
    clear hM0 hR0 hB0
    go_wp2
    go_loopw [8, 38] (fun u i W => ∃ (k : Nat) (D : DataW HU), k ≤ zs.length ∧ i = .int .i64 k ∧ u = .bool (fineU n zs k) ∧ CntAt zs k W (w.heap.size + 1) D ∧ RelAt W w.heap.size nr f ∧ Below w.heap.size w W) (fun _ i _ => zs.length - (intOf i).toNat)
    case atStart => exact ⟨0, _, Nat.zero_le _, rfl, rfl, HM0.out, HR0.out, HB0.out⟩
    case round =>
      clear HM0 HR0 HB0
      obtain ⟨k, D, hk, rfl, rfl, hM, hR, hB⟩ := hrel
      by_cases hlt : k < zs.length
      · obtain ⟨bl, off, rfl, hbl, hcl⟩ := HC.out (by omega)
        have cz := (hB.cell (p := ⟨bl, off + k, none⟩) hbl).trans (hcl k hlt)
        obtain ⟨z, hz⟩ : ∃ z, zs[k]? = some z := ⟨zs[k]'hlt, List.getElem?_eq_getElem _⟩
        rw [hz, Option.getD_some] at cz
        have hwz := HW.out z (List.mem_of_getElem? hz)
        have hlk := hM.look hwz
        have hstep := Lib.hid (fun W' h => hM.step (W' := W') hz h)
        have hf1 := Lib.hid (show fineU n zs (k + 1) = (fineU n zs k && (decide (0 ≤ z) && (decide (z < n) && decide ((zs.take k).count z = 0)))) by rw [fineU, hz, Option.getD_some])
        have hcnt : (zs.take k).count z ≤ k := Nat.le_trans List.count_le_length (by simp; omega)
        have hown := hM.own
        have hcnt2 := Lib.hid (show (zs.take (k + 1)).count z = (zs.take k).count z + 1 by rw [take_one hz, List.count_append]; simp)
        have hkey := keyOf_int_mk Tryd.underlying3 hwz
        have t1 : decide (k < zs.length) = true := by simpa using hlt
        have hRM := Lib.hid (And.intro hR hB)
        have hmlt := hM.own.lt
        have hRl := hR.lt
        clear hcl hM hR hB hz
        generalize (zs.take k).count z = c at *
        have hwc := Lib.hid (show (Lit.int .i64 ((c : Int) + 1)).wf = true by
          have hk0 : k ≤ zs.length := hk
          have hc0 : c ≤ k := hcnt
          have hl0 : zs.length ≤ 2 ^ 63 - 1 := hl
          simp only [Lit.wf, Bool.and_eq_true, decide_eq_true_eq, show IntKind.min .i64 = -9223372036854775808 from by decide, show IntKind.max .i64 = 9223372036854775807 from by decide]
          omega)
        replace hwz := Lib.hid hwz
        replace hkey := Lib.hid hkey
        replace hown := Lib.hid hown
        have hc1 : (c : Int) + 1 ≤ 9223372036854775807 := by omega
        go_upto_region 7 with (at_mapUpdate; refine wpList_mapUpdate_own _ rfl _ _ _ 69 rfl 3 3 law_int Tryd.underlying69 _ (w.heap.size + 1) k D rfl hown.out (by unfold maxLen; omega) _ _ _ rfl rfl hkey.out _ [] (plainElem_int Tryd.underlying3 hwc.out) ?_; intro w1 hown1 hgrow1; replace hgrow1 := Lib.hid hgrow1; replace hown1 := Lib.hid hown1)
        have hlk2 := Lookup2 (hstep.out _ hown1.out) hwz.out hcnt2.out
        have hM2 := Lib.hid (hstep.out _ hown1.out)
        have hR2 := Lib.hid (show RelAt w1 w.heap.size nr f from (hgrow1.out.block _ hRM.out.1.lt (by simp)).trans hRM.out.1)
        have hB2 := Lib.hid (hRM.out.2.grown hgrow1.out (Nat.le_of_lt hRM.out.1.lt) (by intro j hj; injection hj with hj; omega))
        clear hstep hown1 hown hgrow1 hRM hlk hkey hwc cz hRl hmlt
        cases hp : fineU n zs k with
        | false =>
          have hv := Lib.hid (show Value.bool false = Value.bool (fineU n zs (k + 1)) by rw [hf1.out, hp]; rfl)
          go_wp2
          go_roundw
          case rel => exact ⟨k + 1, _, by omega, rfl, hv.out, hM2.out, hR2.out, hB2.out⟩
          case measure => simp [intOf]; omega
        | true =>
          by_cases h0 : 0 ≤ z
          · have d0 : decide (0 ≤ z) = true := by simpa using h0
            by_cases h1 : z < n
            · have d1 : decide (z < n) = true := by simpa using h1
              by_cases h2 : c = 0
              · subst h2
                have hv := Lib.hid (show Value.bool true = Value.bool (fineU n zs (k + 1)) by rw [hf1.out, hp, d0, d1]; rfl)
                go_wp2
                go_roundw
                case rel => exact ⟨k + 1, _, by omega, rfl, hv.out, hM2.out, hR2.out, hB2.out⟩
                case measure => simp [intOf]; omega
              · have d2 : decide (c = 0) = false := by simpa using h2
                have d3 : ((c : Int) + 1 == 1) = false := by rw [beq_eq_false_iff_ne]; omega
                have hv := Lib.hid (show Value.bool false = Value.bool (fineU n zs (k + 1)) by rw [hf1.out, hp, d0, d1, d2]; rfl)
                go_wp2
                go_roundw
                case rel => exact ⟨k + 1, _, by omega, rfl, hv.out, hM2.out, hR2.out, hB2.out⟩
                case measure => simp [intOf]; omega
            · have d1 : decide (z < n) = false := by simpa using h1
              have hv := Lib.hid (show Value.bool false = Value.bool (fineU n zs (k + 1)) by rw [hf1.out, hp, d0, d1]; rfl)
              go_wp2
              go_roundw
              case rel => exact ⟨k + 1, _, by omega, rfl, hv.out, hM2.out, hR2.out, hB2.out⟩
              case measure => simp [intOf]; omega
          · have d0 : decide (0 ≤ z) = false := by simpa using h0
            have hv := Lib.hid (show Value.bool false = Value.bool (fineU n zs (k + 1)) by rw [hf1.out, hp, d0]; rfl)
            go_wp2
            go_roundw
            case rel => exact ⟨k + 1, _, by omega, rfl, hv.out, hM2.out, hR2.out, hB2.out⟩
            case measure => simp [intOf]; omega
      · obtain rfl : k = zs.length := by omega
        have t1 : decide (zs.length < zs.length) = false := by simp
        have hfo := fine_ord n zs
        have HI := Lib.hid ((HS.out.below hB).mono (n₁ := wr.heap.size) hB.size)
        have hbw := hR.lt
        have HX := Lib.hid (And.intro hR hB)
        clear hM hR hB hk hlt
        rw [hfo]
        clear hfo
        obtain ⟨N', F', E', CT, hC⟩ := total_ex n zs
        replace CT := Lib.hid CT
        replace hC := Lib.hid hC
        go_wp2_with fail
        refine (CT.out _ _ HI.out).mono ?_
        rintro e w6 ⟨rfl, h6⟩
        obtain ⟨W6, hs6, hR6, h66, -⟩ := Ex.lay w6 N' F'
        have hX := Lib.hid (show RelAt W6 w.heap.size nr f from (HX.out.1.below h6 hbw).below h66 (Nat.lt_of_lt_of_le hbw h6.size))
        have hB := Lib.hid ((HX.out.2.trans (h6.mono (by omega))).trans (h66.mono (by have := h6.size; omega)))
        have hI := Lib.hid ((((HI.out.below h6).mono h6.size).below h66).mono h66.size)
        have hbw6 : w.heap.size < W6.heap.size := by have := h6.size; have := h66.size; omega
        clear HX HI h6 h66
        go_upto_region 10 with fail
        have ht := hR6.ld
        clear hs6
        go_cut [8, 85] (fun v8 v W => v8 = .bool (ordB n zs) ∧ v = .bool false ∧ W = W6)
        case first => --LIVE
          rcases hC.out with ⟨h1, h2⟩ | ⟨h1, h2, h3, h4⟩
          · rw [h1]
            subst h2
            go_wp2
            all_goals go_meet
            all_goals exact ⟨by rw [h1], rfl, rfl⟩
          · rw [h1]
            subst h2 h3 h4
            go_wp2
            all_goals go_meet
            all_goals exact ⟨by rw [h1], rfl, rfl⟩
        case rest =>
          obtain ⟨rfl, rfl, hWc⟩ := hcut
          replace hWc := hWc.symm
          subst hWc
          clear hC ht hR6
          go_upto_region 12 with fail
          go_cut [88, 89, 90] (fun v88 v89 v90 W => ∃ m : Int, m < 0 ∧ v88 = .slice (some ⟨W6.heap.size, 0, none⟩) 3 3 ∧ v89 = .int .i64 3 ∧ v90 = .int .i64 0 ∧ W = W6.alloc (.cells #[.int .i64 (-1), .int .i64 m, .int .i64 10001] 3))
          case first => --LIVE
            go_wp2
            · go_meet
              exact ⟨-1, by omega, rfl, rfl, rfl, rfl⟩
            · go_meet
              exact ⟨n, by omega, rfl, rfl, rfl, rfl⟩
          case rest =>
            obtain ⟨m, hm, rfl, rfl, rfl, hWc⟩ := hcut
            subst hWc
            have hcell : ∀ k, k < 3 → ∃ m' : Int, (W6.alloc (.cells #[.int .i64 (-1), .int .i64 m, .int .i64 10001] 3)).cell? ⟨W6.heap.size, k, none⟩ = some (.int .i64 m') ∧ cntOk nr f m' = false := by
              intro k hk
              have h : k = 0 ∨ k = 1 ∨ k = 2 := by omega
              rcases h with rfl | rfl | rfl
              · exact ⟨-1, by rw [cell_of_row _ W6.heap.size _ _ _ _ (heap_alloc_new W6 _)]; rfl, by simp [cntOk]⟩
              · refine ⟨m, by rw [cell_of_row _ W6.heap.size _ _ _ _ (heap_alloc_new W6 _)]; rfl, ?_⟩
                have : decide (0 ≤ m) = false := by simpa using hm
                simp [cntOk, this]
              · exact ⟨10001, by rw [cell_of_row _ W6.heap.size _ _ _ _ (heap_alloc_new W6 _)]; rfl, by simp [cntOk]⟩
            have HX := Lib.hid (And.intro (hX.out.alloc (.cells #[.int .i64 (-1), .int .i64 m, .int .i64 10001] 3)) (hB.out.alloc (Nat.le_of_lt hbw6) (.cells #[.int .i64 (-1), .int .i64 m, .int .i64 10001] 3)))
            have HI := Lib.hid (show IntSl W6.heap.size (W6.alloc (.cells #[.int .i64 (-1), .int .i64 m, .int .i64 10001] 3)) (.slice a zs.length cap) zs from hI.out.below (below_new W6 _))
            have hsz := Lib.hid (show (W6.alloc (.cells #[.int .i64 (-1), .int .i64 m, .int .i64 10001] 3)).heap.size = W6.heap.size + 1 by simp)
            clear hX hB hI
            generalize (W6.alloc (.cells #[.int .i64 (-1), .int .i64 m, .int .i64 10001] 3)) = W7 at *
            replace hcell := Lib.hid hcell
            go_wp2
            go_loopw [90] (fun i W => ∃ (k : Nat), k ≤ 3 ∧ i = .int .i64 k ∧ RelAt W w.heap.size nr f ∧ Below w.heap.size w W ∧ Below W7.heap.size W7 W) (fun i _ => 3 - (intOf i).toNat)
            case atStart => exact ⟨0, by omega, rfl, HX.out.1, HX.out.2, Below.refl _ _⟩
            case round =>
              clear HX
              obtain ⟨k, hk, rfl, hR, hB, hB7⟩ := hrel
              by_cases hlt : k < 3
              · obtain ⟨m', hc', hbad⟩ := hcell.out k hlt
                have c1 := (hB7.cell (p := ⟨W6.heap.size, k, none⟩) (by rw [hsz.out]; exact Nat.lt_succ_self _)).trans hc'
                have t1 : decide ((k : Int) < 3) = true := by simpa using (by omega : (k : Int) < 3)
                have hH := Lib.hid (And.intro hB hB7)
                have hRl := hR.lt
                have l1 := hR.ld
                have hT' := Lib.hid (show Tab wr from hT.below hB hT.pos)
                clear hB hB7 hc'
                go_wp2_with fail
                refine (orders_err nr f m' 0 2 (by decide) wr hT'.out (fun W _ => count_bad nr f m' hf hbad W)).mono ?_
                rintro e w8 ⟨rfl, h8⟩
                have hR8 := Lib.hid (hR.below h8 hRl)
                have hB8 := Lib.hid (hH.out.1.trans (h8.mono (Nat.le_of_lt hRl)))
                have h78 := Lib.hid (hH.out.2.trans (h8.mono hH.out.2.size))
                clear h8 hR l1 hH
                go_wp2
                go_roundw
                case rel => exact ⟨k + 1, by omega, rfl, hR8.out, hB8.out, h78.out⟩
                case measure => simp [intOf]; omega
              · obtain rfl : k = 3 := by omega
                have t1 : decide (((3 : Nat) : Int) < 3) = false := by simp
                have HI7 := Lib.hid ((HI.out.below (hB7.mono (by have := hsz.out; omega))).mono (n₁ := wr.heap.size) (by have := hB7.size; have := hsz.out; omega))
                have hbw := hR.lt
                have HX := Lib.hid (And.intro hR hB)
                have l1 := hR.ld
                clear hB7 hcell HI hR hB hlt hk
                go_wp2_with fail
                refine (right_any nr f wr hf).mono ?_
                rintro e w9 ⟨rfl, h9⟩
                have hB9 := Lib.hid (HX.out.2.trans (h9.mono (Nat.le_of_lt hbw)))
                have hR9 := Lib.hid (HX.out.1.below h9 hbw)
                have tb := Lib.hid (show Tab w9 from hT.below hB9.out hT.pos)
                have rR := Lib.hid (fun W (h : Below w9.heap.size w9 W) => hR9.out.below h hR9.out.lt)
                have rN := Lib.hid (fun W (h : Below w9.heap.size w9 W) => (hR9.out.below h hR9.out.lt).num)
                have sI := Lib.hid (fun W (h : Below w9.heap.size w9 W) => (((HI7.out.below h9).mono h9.size).below h).mono h.size)
                clear HI7 HX l1 h9
                have l9 := hR9.out.ld
                have c9 := hR9.out.num
                cases hr : rightB nr f with
                | true =>
                  have CK : Hid (nr ≠ (zs.length : Int) → ∀ v W, IntSl W.heap.size W v zs → Calls Tryd.prog 59 #[.agg (relC nr f), v] W fun e w' => e = .returned (.bool false) ∧ Below W.heap.size W w') :=
                    Lib.hid (fun hn v W h => by have := keeps_any nr f hf v zs W h; rwa [keep_len hn] at this)
                  by_cases hn : nr = (zs.length : Int)
                  · have e1 : (nr == (zs.length : Int)) = true := by rw [beq_iff_eq]; exact hn
                    have e2 : decide (nr = (zs.length : Int)) = true := by simpa using hn
                    clear CK
                    replace hn := Lib.hid hn
                    go_wp2_with fail
                    refine (Aw.out _ tb.out).mono ?_
                    rintro e w10 ⟨rfl, h10⟩
                    go_wp2_with fail
                    go_ret
                    exact ⟨rfl, thru hB9.out h10⟩
                  · have e1 : (nr == (zs.length : Int)) = false := by rw [beq_eq_false_iff_ne]; exact hn
                    have e2 : decide (nr = (zs.length : Int)) = false := by simpa using hn
                    replace CK := Lib.hid (CK.out hn)
                    replace hn := Lib.hid hn
                    go_wp2_with fail
                    refine (CK.out _ _ (sI.out _ (Below.refl _ _))).mono ?_
                    rintro e w10 ⟨rfl, h10⟩
                    go_wp2_with fail
                    refine (Aw.out _ (tab_on tb.out h10)).mono ?_
                    rintro e w11 ⟨rfl, h11⟩
                    go_wp2_with fail
                    go_ret
                    exact ⟨rfl, thru hB9.out (thru h10 h11)⟩
                | false =>
                  have hb5 : cntOk nr f 5 = false := by simp [cntOk, hr]
                  have CK : Hid (∀ v W, IntSl W.heap.size W v zs → Calls Tryd.prog 59 #[.agg (relC nr f), v] W fun e w' => e = .returned (.bool false) ∧ Below W.heap.size W w') :=
                    Lib.hid (fun v W h => by have := keeps_any nr f hf v zs W h; rwa [keep_notRight hr] at this)
                  have CO : Hid (∀ W, Tab W → Calls Tryd.prog 56 #[.agg (relC nr f)] W fun e w' => (∃ v, e = .returned (.tuple #[v, .bool false])) ∧ Below W.heap.size W w') :=
                    Lib.hid (fun W hT => (ordOf_any nr f hf W hT).mono fun e W' ⟨v, h1, h2, h3⟩ => ⟨⟨v, by rw [h1, show ofO nr f = none by simp [ofO, topF, hr]]; rfl⟩, h3⟩)
                  have CC := Lib.hid (fun W => count_bad nr f 5 hf hb5 W)
                  clear hr hb5
                  go_wp2_with fail
                  refine (orders_err nr f 5 0 2 (by decide) w9 tb.out (fun W _ => CC.out W)).mono ?_
                  rintro e w10 ⟨rfl, h10⟩
                  have l10 := (rR.out _ h10).ld
                  replace h10 := Lib.hid h10
                  clear l9 c9
                  go_wp2_with fail
                  refine (CC.out _).mono ?_
                  rintro e w11 ⟨rfl, h11⟩
                  replace h11 := Lib.hid (thru h10.out h11)
                  clear l10 h10
                  have l11 := (rR.out _ h11.out).ld
                  go_wp2_with fail
                  refine (CO.out _ (tab_on tb.out h11.out)).mono ?_
                  rintro e w12 ⟨⟨v12, rfl⟩, h12⟩
                  replace h12 := Lib.hid (thru h11.out h12)
                  clear l11 h11
                  have l12 := (rR.out _ h12.out).ld
                  go_wp2_with fail
                  refine (CK.out _ _ (sI.out _ h12.out)).mono ?_
                  rintro e w13 ⟨rfl, h13⟩
                  replace h13 := Lib.hid (thru h12.out h13)
                  clear l12 h12
                  go_wp2_with fail
                  refine (Aw.out _ (tab_on tb.out h13.out)).mono ?_
                  rintro e w14 ⟨rfl, h14⟩
                  go_wp2_with fail
                  go_ret
                  exact ⟨rfl, thru hB9.out (thru h13.out h14)⟩
end Go.Proofs.YtpmlomhlbmgilaaDoor
end
