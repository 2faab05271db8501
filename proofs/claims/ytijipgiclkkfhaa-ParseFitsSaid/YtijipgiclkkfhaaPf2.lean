/- ParFitLaw in one text, for the claim. -/
import Derived.Test.YtijipgiclkkfhaaPf1
import Derived.Test.YtijipgiclkkfhaaLexName

section
/- ParseFits is true of any text. -/
namespace Go.Proofs.Ytijipgiclkkfhaa
open Go.RowKit Go.Shelf
open Go.BigFrame

attribute [local go_sem] Oper.semAt_some
namespace PP
set_option maxRecDepth 100000 in
set_option maxHeartbeats 16000000 in
theorem fits_law (s : ByteArray) (w : World) : Calls Try.prog 5 #[.string s] w fun e w' => e = .returned (.bool true) ∧ Below w.heap.size w w' := by
  by_cases hbig : 4000 < s.size
  · have t1 : decide (4000 < (s.size : Int)) = true := by simp; omega
    replace hbig := Lib.hid hbig
    go_enter Try.func5, Try.ntmps5
    go_wp2_with fail
    refine (awake_any w).mono ?_
    rintro e w1 ⟨rfl, B1⟩
    replace B1 := Lib.hid B1
    go_wp2
    go_ret
    exact ⟨rfl, B1.out⟩
  have t1 : decide (4000 < (s.size : Int)) = false := by simp; omega
  have hbad := parse_bad s (by omega)
  have hfit := parse_fit s
  have CP := parse_pv s
  cases hp : PX.parse s with
  | bad p x =>
    rw [hp] at CP
    simp only at CP
    have t2 : (x != 0) = true := by simpa using hbad p x hp
    clear hfit hbad hp
    replace CP := Lib.hid CP
    replace hbig := Lib.hid hbig
    go_enter Try.func5, Try.ntmps5
    go_wp2_with fail
    refine (awake_any w).mono ?_
    rintro e w1 ⟨rfl, B1⟩
    replace B1 := Lib.hid B1
    go_wp2_with fail
    refine (CP.out w1).mono ?_
    rintro e w2 ⟨B2, rfl⟩
    have H2 := Lib.hid (B1.out.trans (B2.mono B1.out.size))
    have H3 := Lib.hid ((H2.out.alloc H2.out.size (.cells (pvC pgZ pvZ) 37)))
    unfold pvC pgZ pvZ at H3
    unfold pvC pgZ pvZ
    simp only at H3 ⊢
    clear B2
    go_wp2
    go_ret
    exact ⟨rfl, H3.out⟩
  | ok u st =>
    rw [hp] at CP
    simp only at CP
    have F := hfit u st hp
    generalize pgD st = d at *
    clear hfit hbad hp
    replace CP := Lib.hid CP
    replace hbig := Lib.hid hbig
    replace F := Lib.hid F
    go_enter Try.func5, Try.ntmps5
    go_wp2_with fail
    refine (awake_any w).mono ?_
    rintro e w1 ⟨rfl, B1⟩
    replace B1 := Lib.hid B1
    go_wp2_with fail
    refine (CP.out w1).mono ?_
    rintro e w2 ⟨B2, v, rfl, R⟩
    have A2 := (Below.refl w2.heap.size w2).alloc (Nat.le_refl _) (.cells (pvC d v) 37)
    have H3 := Lib.hid (B1.out.trans ((B2.trans (A2.mono B2.size)).mono B1.out.size))
    have z3 := pv_row w2 d v
    have R3 := R.below A2
    obtain ⟨c0, c1, c2, c3, c4, c5, c6, c7, c8, c9⟩ := pv_cells z3
    obtain ⟨name, locs, init, threads, ask, cond⟩ := d
    obtain ⟨a2, n2, p2, a6, n6, p6, a7, n7, p7, xk, xt, xn, xv, xa, xl, xp⟩ := v
    have CD := Lib.hid fun W (B : Below _ _ W) => deep_any 20 cond _ W F.out.dp (by decide) (R3.cond.below B)
    unfold condV at CD
    have e2 := R3.locs.len
    have e6 := R3.init.len
    obtain ⟨vs, T1, T2⟩ := R3.thr
    have e7 := T1.len
    have L1 := R3.locs
    have f1 := F.out.l6
    have f2 := F.out.il
    have f3 := F.out.t1
    have f4 := F.out.t4
    have f5 := F.out.ask
    have f6 := F.out.dp
    have f7 := F.out.nm
    simp only at e2 e6 e7 f1 f2 f3 f4 f5 f6 f7 CD L1 T1 T2 c0 c1 c2 c3 c4 c5 c6 c7 c8 c9
    have W3 := lt_of_heap z3
    have hn2 : n2 ≤ 6 := by omega
    have hn7 : n7 ≤ 4 := by omega
    have hvs : vs.length = n7 := by obtain ⟨_, h, _⟩ := T1; omega
    have hlk : locs.length = n2 := by omega
    have hth : threads.length = n7 := by omega
    obtain ⟨s2, s2', K2⟩ := L1.at
    obtain ⟨s7, s7', K7⟩ := T1.at
    unfold maxLen at s2' s7'
    have u1 : decide (6 < (n2 : Int)) = false := by simp; omega
    have u2 : ((n6 : Int) != (n2 : Int)) = false := by simp; omega
    have u3 : decide ((n7 : Int) < 1) = false := by simp; omega
    have u4 : decide (4 < (n7 : Int)) = false := by simp; omega
    have u5 : decide (ask < 1) = false := by simp; omega
    have u6 : decide (3 < ask) = false := by simp; omega
    have u7 : decide (20 < (PX.deep cond : Int)) = false := by simp; omega
    have u8 : name.toList.isEmpty = false := by
      rw [toList_bs]
      cases hb : bsOf name with
      | nil => exact absurd (by rw [← bsOf_length, hb]; rfl) f7
      | cons b l => rfl
    replace K2 := Lib.hid K2
    replace K7 := Lib.hid K7
    replace T2 := Lib.hid T2
    replace z3 := Lib.hid z3
    unfold pvC
    simp only
    clear L1 T1 R R3 A2 B2 e2 e6 e7 f1 f2 f3 f4 f5 f6 f7
    go_wp2_with (first
      | (go_at_call 9; refine (CD.out _ (Below.refl _ _)).mono ?_; rintro e w5 ⟨rfl, B5⟩
         have H5 := Lib.hid (H3.out.trans (B5.mono H3.out.size))
         have z5 := Lib.hid ((B5.block _ (lt_of_heap z3.out)).trans z3.out)
         obtain ⟨d0, d1, d2, d3, d4, d5, d6, d7, d8, d9⟩ := pv_cells z5.out
         simp only at d0 d1 d2 d3 d4 d5 d6 d7 d8 d9
         replace B5 := Lib.hid B5))
    clear CD H3 CP z3 c0 c1 c2 c3 c4 c5 c6 c7 c8 c9 d0 d1 d2 d3 d4 d5 d6 d7 d8 d9
    go_loopw [6] (fun i wr => ∃ q : Nat, q ≤ n2 ∧ i = .int .i64 (q : Int) ∧ Hid (Below w5.heap.size w5 wr)) (fun i _ => n2 - (intOf i).toNat)
    case atStart => exact ⟨0, by omega, rfl, Lib.hid (Below.refl _ _)⟩
    case round =>
      obtain ⟨q, hq, rfl, hB⟩ := hrel
      obtain ⟨d0, d1, d2, d3, d4, d5, d6, d7, d8, d9⟩ := pv_cells ((hB.out.block _ (lt_of_heap z5.out)).trans z5.out)
      simp only at d0 d1 d2 d3 d4 d5 d6 d7 d8 d9
      by_cases hlt : q < n2
      · obtain ⟨g, off, rfl, hc⟩ := K2.out (by omega)
        obtain ⟨x, hx0⟩ : ∃ x, locs[q]? = some x := ⟨locs[q]'(by omega), List.getElem?_eq_getElem (by omega)⟩
        have e1 := cell_on (hc q (.string x) (by rw [List.getElem?_map, hx0]; rfl) w5 B5.out) hB.out
        have hnx := F.out.names x (List.mem_of_getElem? hx0)
        have CN : Hid (∀ W, Calls Try.prog 16 #[.string x] W fun e w' => e = .returned (.bool true) ∧ Below W.heap.size W w') := Lib.hid fun W => by
          have := name_any x W (by
            unfold LX.nameB at hnx
            simp only [Bool.and_eq_true, decide_eq_true_eq] at hnx
            have h16 := hnx.1.1.1.1
            rw [bsOf_length] at h16
            unfold maxLen; omega)
          rw [hnx] at this
          exact this
        have t2 : decide (q < n2) = true := by simpa using hlt
        replace hc := Lib.hid hc
        replace hx0 := Lib.hid hx0
        clear hnx
        go_wp2_with fail
        refine (CN.out _).mono ?_
        rintro e w6 ⟨rfl, B6⟩
        have H6 := Lib.hid (hB.out.trans (B6.mono hB.out.size))
        clear B6 CN d0 d1 d2 d3 d4 d5 d6 d7 d8 d9 e1
        go_wp2
        go_loopw [7] (fun k wr2 => ∃ p : Nat, p ≤ q ∧ k = .int .i64 (p : Int) ∧ Hid (Below w5.heap.size w5 wr2)) (fun k _ => q - (intOf k).toNat)
        case atStart => exact ⟨0, by omega, rfl, H6⟩
        case round =>
          clear hB
          obtain ⟨p, hp, rfl, hB⟩ := hrel
          by_cases hlt2 : p < q
          · obtain ⟨d0, d1, d2, d3, d4, d5, d6, d7, d8, d9⟩ := pv_cells ((hB.out.block _ (lt_of_heap z5.out)).trans z5.out)
            simp only at d1
            obtain ⟨y, hy0⟩ : ∃ x, locs[p]? = some x := ⟨locs[p]'(by omega), List.getElem?_eq_getElem (by omega)⟩
            have e1 := cell_on (hc.out q (.string x) (by rw [List.getElem?_map, hx0.out]; rfl) w5 B5.out) hB.out
            have e2 := cell_on (hc.out p (.string y) (by rw [List.getElem?_map, hy0]; rfl) w5 B5.out) hB.out
            have hne : y ≠ x := fun e => by
              subst e
              exact absurd ((List.getElem?_inj (show p < locs.length by omega) F.out.nodup).1 (hy0.trans hx0.out.symm)) (by omega)
            have y1 : (y.toList == x.toList) = false := by
              rw [beq_eq_false_iff_ne]
              intro h
              rw [toList_bs, toList_bs] at h
              exact hne (bsOf_inj h)
            have y2 : (y == x) = false := by rw [bbeq]; simpa using hne
            have t3 : decide (p < q) = true := by simpa using hlt2
            have t4 : decide (p < n2) = true := by simp; omega
            clear hy0 hne d0 d2 d3 d4 d5 d6 d7 d8 d9 H6
            go_wp2_with fail
            go_quiet (fail)
            go_wp2
            have hB2 := hB.out.trans ((drewB wr nq).mono hB.out.size)
            go_roundw
            case rel => exact ⟨p + 1, by omega, by go_num, Lib.hid hB2⟩
            case measure => simp [intOf]; omega
          · have t3 : decide (p < q) = false := by simpa using hlt2
            clear H6
            go_wp2
            go_roundw
            case rel => exact ⟨q + 1, by omega, by go_num, hB⟩
            case measure => simp [intOf]; omega
      · have t2 : decide (q < n2) = false := by simpa using hlt
        go_wp2
        clear d0 d1 d2 d3 d4 d5 d6 d7 d8 d9 t2 hlt hq K2
        have HB := hB
        clear hB
        go_loopw [8] (fun i wr => ∃ q : Nat, q ≤ n7 ∧ i = .int .i64 (q : Int) ∧ Hid (Below w5.heap.size w5 wr)) (fun i _ => n7 - (intOf i).toNat)
        case atStart => exact ⟨0, by omega, rfl, HB⟩
        case round =>
          clear HB
          obtain ⟨r, hr, rfl, hB⟩ := hrel
          obtain ⟨d0, d1, d2, d3, d4, d5, d6, d7, d8, d9⟩ := pv_cells ((hB.out.block _ (lt_of_heap z5.out)).trans z5.out)
          simp only at d3
          by_cases hlt : r < n7
          · obtain ⟨g, off, rfl, hc⟩ := K7.out (by omega)
            obtain ⟨k, hk0⟩ : ∃ x, threads[r]? = some x := ⟨threads[r]'(by omega), List.getElem?_eq_getElem (by omega)⟩
            obtain ⟨y, hy0⟩ : ∃ x, vs[r]? = some x := ⟨vs[r]'(by omega), List.getElem?_eq_getElem (by omega)⟩
            have S := T2.out r y k hy0 hk0
            obtain ⟨_, _, ya, yc, rfl, _⟩ := id S
            obtain ⟨s9, s9', K9⟩ := S.at
            unfold maxLen at s9'
            have e1 := cell_on (hc r _ hy0 w5 B5.out) hB.out
            have h12 := F.out.i12 k (List.mem_of_getElem? hk0)
            have hins := F.out.ins k (List.mem_of_getElem? hk0)
            obtain ⟨m, hm⟩ : ∃ m, k.length = m := ⟨_, rfl⟩
            rw [hm] at e1 K9 s9 h12 hy0
            have u1 : decide (12 < (m : Int)) = false := decide_eq_false (by omega)
            have t2 : decide (r < n7) = true := decide_eq_true hlt
            replace K9 := Lib.hid K9
            replace hins := Lib.hid hins
            replace hc := Lib.hid hc
            replace hy0 := Lib.hid hy0
            replace hm := Lib.hid hm
            clear S hk0
            go_wp2
            clear e1 d0 d1 d2 d3 d4 d5 d6 d7 d8 d9 u1
            go_loopw [9] (fun i wr2 => ∃ p : Nat, p ≤ m ∧ i = .int .i64 (p : Int) ∧ Hid (Below w5.heap.size w5 wr2)) (fun i _ => m - (intOf i).toNat)
            case atStart => exact ⟨0, by omega, rfl, hB⟩
            case round =>
              clear hB
              obtain ⟨p, hp, rfl, hB⟩ := hrel
              have zq := (hB.out.block _ (lt_of_heap z5.out)).trans z5.out
              obtain ⟨d0, d1, d2, d3, d4, d5, d6, d7, d8, d9⟩ := pv_cells zq
              simp only at d1 d3
              have e1 := cell_on (hc.out r _ hy0.out w5 B5.out) hB.out
              by_cases hlt2 : p < m
              · obtain ⟨g2, off2, rfl, hc2⟩ := K9.out (by omega)
                have hm' := hm.out
                obtain ⟨x, hx0⟩ : ∃ x, k[p]? = some x := ⟨k[p]'(by omega), List.getElem?_eq_getElem (by omega)⟩
                have hx := hins.out x (List.mem_of_getElem? hx0)
                have cj : ∀ (j : Nat) (v : Value), j < 10 → (insC x)[j]? = some v → wr.cell? ⟨g2, off2 + p * 10 + j, none⟩ = some v := fun j v hj hv => by
                  have := cell_on (hc2 (p * 10 + j) v ((cellsI_at k p j x hx0 hj).trans hv) w5 B5.out) hB.out
                  rw [← Nat.add_assoc] at this
                  exact this
                have hA := (Below.refl wr.heap.size wr).alloc (Nat.le_refl _) (.cells (insC x) 48)
                have z1 := heap_alloc_new wr (.cells (insC x) 48)
                obtain ⟨v0, v1, v2, v3, v4, v5, v6, v7, v8, v9⟩ := row_ins z1
                obtain ⟨k0, k1, k2, k3, k4, k5, k6, k7, k8, k9⟩ := pv_cells ((hA.block _ (lt_of_heap zq)).trans zq)
                obtain ⟨⟨o1, o2⟩, ⟨o3, o4⟩, ⟨o5, o6⟩, o7, o8⟩ := hx
                obtain ⟨op, dst, loc, ⟨ar, an⟩, ⟨br, bn⟩, fn, mode, skip⟩ := x
                have i0 : wr.cell? ⟨g2, off2 + p * 10, none⟩ = some (.int .u8 op) := cj 0 _ (by omega) rfl
                have i1 : wr.cell? ⟨g2, off2 + p * 10 + 1, none⟩ = some (.int .u8 dst) := cj 1 _ (by omega) rfl
                have i2 : wr.cell? ⟨g2, off2 + p * 10 + 2, none⟩ = some (.int .u8 loc) := cj 2 _ (by omega) rfl
                have i3 : wr.cell? ⟨g2, off2 + p * 10 + 3, none⟩ = some (.bool ar) := cj 3 _ (by omega) rfl
                have i4 : wr.cell? ⟨g2, off2 + p * 10 + 4, none⟩ = some (.int .u8 an) := cj 4 _ (by omega) rfl
                have i5 : wr.cell? ⟨g2, off2 + p * 10 + 5, none⟩ = some (.bool br) := cj 5 _ (by omega) rfl
                have i6 : wr.cell? ⟨g2, off2 + p * 10 + 6, none⟩ = some (.int .u8 bn) := cj 6 _ (by omega) rfl
                have i7 : wr.cell? ⟨g2, off2 + p * 10 + 7, none⟩ = some (.int .u8 fn) := cj 7 _ (by omega) rfl
                have i8 : wr.cell? ⟨g2, off2 + p * 10 + 8, none⟩ = some (.int .u8 mode) := cj 8 _ (by omega) rfl
                have i9 : wr.cell? ⟨g2, off2 + p * 10 + 9, none⟩ = some (.int .u8 skip) := cj 9 _ (by omega) rfl
                unfold insC at hA k1 v0 v1 v2 v3 v4 v5 v6
                simp only at o1 o2 o3 o4 o5 o6 k1 v0 v1 v2 v3 v4 v5 v6
                have q1 : decide (op < 1) = false := decide_eq_false (by omega)
                have q2 : decide (8 < op) = false := decide_eq_false (by omega)
                have q3 : decide (8 ≤ dst) = false := decide_eq_false (by omega)
                have q4 : IntKind.i64.wrap loc = loc := IntWalk.i64_in _ (by omega)
                have t3 : decide (p < m) = true := decide_eq_true hlt2
                have H7 := Lib.hid (hB.out.trans (hA.mono hB.out.size))
                clear cj hx0 hm' hc2 zq z1 hA d0 d2 d4 d5 d6 d7 d8 d9 k0 k2 k3 k4 k5 k6 k7 k8 k9 v7 v8 v9
                by_cases hl : 0 < loc
                · have l1 : decide (0 < loc) = true := decide_eq_true hl
                  have l2 : decide ((n2 : Int) ≤ loc) = false := decide_eq_false (by have := o6 hl; omega)
                  cases ar <;> cases br
                  all_goals
                    try have q5 : decide (8 ≤ an) = false := decide_eq_false (by have h8 : an < 8 := (o7 rfl).2; omega)
                    try have q6 : decide (8 ≤ bn) = false := decide_eq_false (by have h8 : bn < 8 := (o8 rfl).2; omega)
                    go_wp2
                    go_roundw
                    case rel => exact ⟨p + 1, by omega, by go_num, H7⟩
                    case measure => simp [intOf]; omega
                · have l1 : decide (0 < loc) = false := decide_eq_false hl
                  cases ar <;> cases br
                  all_goals
                    try have q5 : decide (8 ≤ an) = false := decide_eq_false (by have h8 : an < 8 := (o7 rfl).2; omega)
                    try have q6 : decide (8 ≤ bn) = false := decide_eq_false (by have h8 : bn < 8 := (o8 rfl).2; omega)
                    go_wp2
                    go_roundw
                    case rel => exact ⟨p + 1, by omega, by go_num, H7⟩
                    case measure => simp [intOf]; omega
              · have t3 : decide (p < m) = false := decide_eq_false hlt2
                go_wp2
                go_roundw
                case rel => exact ⟨r + 1, by omega, by go_num, hB⟩
                case measure => simp [intOf]; omega
          · have t2 : decide (r < n7) = false := by simpa using hlt
            go_wp2
            go_ret
            exact ⟨rfl, H5.out.trans (hB.out.mono H5.out.size)⟩
end PP
end Go.Proofs.Ytijipgiclkkfhaa
end
