/- ParTypedLaw in one text, for the claim. -/
import Derived.Test.YtijipgiclkkfhaaPt9

section
/- ParseTyped is true of any text. -/
namespace Go.Proofs.Ytijipgiclkkfhaa
open Go.RowKit Go.Shelf
open Go.BigFrame

attribute [local go_sem] Oper.semAt_some
namespace PP
theorem parse_pv (s : ByteArray) (w : World) : Calls Try.prog 12 #[.string s] w fun e w' => Below w.heap.size w w' ∧ match PX.parse s with
    | .ok _ st => ∃ v, e = .returned (.tuple #[.agg (pvC (pgD st) v), .int .i64 0, .int .i64 0]) ∧ PgR w' (pgD st) v
    | .bad p x => e = .returned (.tuple #[.agg (pvC pgZ pvZ), .int .i64 p, .int .i64 x]) := by
  refine (parse_any s w).mono ?_
  rintro e w' ⟨B, h⟩
  refine ⟨B, ?_⟩
  cases hp : PX.parse s with
  | ok u st =>
    rw [hp] at h
    obtain ⟨b, hd, _, rfl, P⟩ := h
    obtain ⟨v, hv, R⟩ := P.toR
    exact ⟨v, by rw [hv], R⟩
  | bad p x =>
    rw [hp] at h
    exact h
/-- A program that has been laid in a new block. -/
theorem pv_row (W : World) (d : PgD) (v : PV) : (W.alloc (.cells (pvC d v) 37)).heap[W.heap.size]? = some (.cells (pvC d v) 37 (0, 0)) := heap_alloc_new W _
theorem pv_cells {W : World} {k : Nat} {d : PgD} {v : PV} (h : W.heap[k]? = some (.cells (pvC d v) 37 (0, 0))) : W.cell? ⟨k, 0, none⟩ = some (.string d.name) ∧ W.cell? ⟨k, 1, none⟩ = some (.slice v.a2 v.n2 v.p2) ∧ W.cell? ⟨k, 2, none⟩ = some (.slice v.a6 v.n6 v.p6) ∧ W.cell? ⟨k, 3, none⟩ = some (.slice v.a7 v.n7 v.p7) ∧ W.cell? ⟨k, 4, none⟩ = some (.int .u8 d.ask) ∧ W.cell? ⟨k, 5, none⟩ = some (.int .u8 v.xk) ∧ W.cell? ⟨k, 6, none⟩ = some (.int .u8 v.xt) ∧ W.cell? ⟨k, 7, none⟩ = some (.int .u8 v.xn) ∧ W.cell? ⟨k, 8, none⟩ = some (.int .u8 v.xv) ∧ W.cell? ⟨k, 9, none⟩ = some (.slice v.xa v.xl v.xp) :=
  ⟨cell_of_row _ _ 0 _ _ _ h, cell_of_row _ _ 1 _ _ _ h, cell_of_row _ _ 2 _ _ _ h, cell_of_row _ _ 3 _ _ _ h, cell_of_row _ _ 4 _ _ _ h, cell_of_row _ _ 5 _ _ _ h, cell_of_row _ _ 6 _ _ _ h, cell_of_row _ _ 7 _ _ _ h, cell_of_row _ _ 8 _ _ _ h, cell_of_row _ _ 9 _ _ _ h⟩
theorem same_zero (w : World) : Calls Try.prog 13 #[.agg (pvC pgZ pvZ), .agg (pvC pgZ pvZ)] w fun e w' => e = .returned (.bool true) ∧ Below w.heap.size w w' := sameProg_any pgZ pvZ pvZ w (pgR_zero w) (pgR_zero w)

set_option maxRecDepth 100000 in
set_option maxHeartbeats 16000000 in
theorem typed_law (s : ByteArray) (w : World) : Calls Try.prog 4 #[.string s] w fun e w' => e = .returned (.bool true) ∧ Below w.heap.size w w' := by
  have hee : ∀ z : Int, (z == z) = true := fun z => by simp
  have hne : ∀ z : Int, (z != z) = false := fun z => by simp
  have CZ := Lib.hid same_zero
  unfold pvC pgZ pvZ at CZ
  simp only at CZ
  obtain ⟨pl, hpl⟩ : ∃ pl, (LX.out (bsOf s)).2.1 = pl := ⟨_, rfl⟩
  obtain ⟨er, her⟩ : ∃ er, (LX.out (bsOf s)).2.2 = er := ⟨_, rfl⟩
  have CL := Lib.hid fun W => lexT s W
  rw [hpl, her] at CL
  by_cases he : er = 0
  · subst he
    have hn0 : ((0 : Int) != 0) = false := rfl
    by_cases hbig : 4000 < s.size
    · have t1 : decide (4000 < (s.size : Int)) = true := by simp; omega
      have CP := Lib.hid fun W => parse_any s W
      replace hbig := Lib.hid hbig
      go_enter Try.func4, Try.ntmps4
      go_wp2_with fail
      refine (awake_any w).mono ?_
      rintro e w1 ⟨rfl, B1⟩
      replace B1 := Lib.hid B1
      go_wp2_with fail
      refine (CL.out w1).mono ?_
      rintro e w2 ⟨v, rfl, hl, B2⟩
      have H2 := Lib.hid (B1.out.trans (B2.mono B1.out.size))
      clear hl B2
      go_wp2_with fail
      refine (parse_pv s w2).mono ?_
      rintro e w3 ⟨B3, hE⟩
      have H3 := Lib.hid (H2.out.trans (B3.mono H2.out.size))
      cases hp : PX.parse s with
      | ok u st =>
        rw [hp] at hE
        obtain ⟨v, rfl, R⟩ := hE
        unfold pvC
        have H4 := Lib.hid ((H3.out.alloc H3.out.size (.cells (pvC (pgD st) v) 37)))
        unfold pvC at H4
        clear B3 hp R
        go_wp2
        go_ret
        exact ⟨rfl, H4.out⟩
      | bad p x =>
        rw [hp] at hE
        obtain rfl := hE
        unfold pvC pgZ pvZ
        simp only
        have H4 := Lib.hid ((H3.out.alloc H3.out.size (.cells (pvC pgZ pvZ) 37)))
        unfold pvC pgZ pvZ at H4
        clear B3 hp
        go_wp2
        go_ret
        exact ⟨rfl, H4.out⟩
    · have t1 : decide (4000 < (s.size : Int)) = false := by simp; omega
      have hA := alike_typed s (by omega) her
      obtain ⟨hty, -⟩ := typed s (by omega) her
      have CP := Lib.hid fun W => parse_pv s W
      have CQ := Lib.hid fun W => parse_pv (typeS (toks s)) W
      have CT := Lib.hid fun v W (hv : TokSl W.heap.size W v (toks s)) => type_any v (toks s) W hv (by omega)
      unfold TypePost at CT
      have CB := Lib.hid fun v pl W (hv : TokSl W.heap.size W v (toks s)) h => begins_any v (toks s) pl (s.size : Int) W hv h
      replace hty := Lib.hid hty
      generalize typeS (toks s) = T at *
      cases hp : PX.parse s with
      | ok u st => cases hq : PX.parse T with
        | ok u' st' =>
          rw [hp, hq] at hA
          have hA' : pgD st = pgD st' := hA
          rw [hp] at CP
          rw [hq] at CQ
          simp only at CP CQ
          rw [← hA'] at CQ
          generalize pgD st = d at *
          clear hA hA' hp hq
          go_enter Try.func4, Try.ntmps4
          go_wp2_with fail
          refine (awake_any w).mono ?_
          rintro e w1 ⟨rfl, B1⟩
          replace B1 := Lib.hid B1
          go_wp2_with fail
          refine (CL.out w1).mono ?_
          rintro e w2 ⟨v, rfl, hl, B2⟩
          have H2 := Lib.hid (B1.out.trans (B2.mono B1.out.size))
          clear B2
          go_wp2_with fail
          refine (CP.out w2).mono ?_
          rintro e w3 ⟨B3, x, rfl, R3⟩
          have A3 := (Below.refl w3.heap.size w3).alloc (Nat.le_refl _) (.cells (pvC d x) 37)
          have l4 := (hl.on B3).on A3
          have H4 := Lib.hid (H2.out.trans ((B3.trans (A3.mono B3.size)).mono H2.out.size))
          have R4 := R3.below A3
          have z4 := pv_row w3 d x
          have cT := CT.out v _ l4
          unfold pvC at cT
          replace cT := Lib.hid cT
          unfold pvC
          clear hl B3 R3
          replace l4 := Lib.hid l4
          replace R4 := Lib.hid R4
          replace z4 := Lib.hid z4
          clear A3
          go_wp2_with fail
          refine (cT.out).mono ?_
          rintro e w5 ⟨rfl, B5⟩
          have H5 := Lib.hid (H4.out.trans (B5.mono H4.out.size))
          have R5 := Lib.hid (R4.out.below B5)
          have z5 := Lib.hid ((B5.block _ (lt_of_heap z4.out)).trans z4.out)
          clear B5 cT R4 z4 H4
          go_wp2_with fail
          refine (CQ.out w5).mono ?_
          rintro e w6 ⟨B6, y, rfl, R6⟩
          have A6 := (Below.refl w6.heap.size w6).alloc (Nat.le_refl _) (.cells (pvC d y) 37)
          have H7 := Lib.hid (H5.out.trans ((B6.trans (A6.mono B6.size)).mono H5.out.size))
          have z7 := (A6.block _ (lt_of_heap ((B6.block _ (lt_of_heap z5.out)).trans z5.out))).trans ((B6.block _ (lt_of_heap z5.out)).trans z5.out)
          have y7 := pv_row w6 d y
          have cS := sameProg_any d x y _ ((R5.out.below B6).below A6) (R6.below A6)
          obtain ⟨c0, c1, c2, c3, c4, c5, c6, c7, c8, c9⟩ := pv_cells z7
          obtain ⟨d0, d1, d2, d3, d4, d5, d6, d7, d8, d9⟩ := pv_cells y7
          unfold pvC at c0 c1 c2 c3 c4 c5 c6 c7 c8 c9 d0 d1 d2 d3 d4 d5 d6 d7 d8 d9 cS
          unfold pvC
          replace cS := Lib.hid cS
          clear A6 B6 R6 R5 z5 z7 y7 H5
          go_wp2_with (first
            | (go_at_call 13; refine (cS.out).mono ?_; rintro e w8 ⟨rfl, B8⟩
               have H8 := Lib.hid (H7.out.trans (B8.mono H7.out.size))))
          go_ret
          exact ⟨rfl, H8.out⟩
        | bad p e => rw [hp, hq] at hA; exact hA.elim
      | bad p x => cases hq : PX.parse T with
        | ok u' st' => rw [hp, hq] at hA; exact hA.elim
        | bad p' x' =>
          rw [hp, hq] at hA
          obtain ⟨hx, hpl, hx0⟩ := hA
          subst hx
          have t2 : (x == 0) = false := by simpa using hx0
          rw [hp] at CP
          rw [hq] at CQ
          simp only at CP CQ
          unfold pvC pgZ pvZ at CP CQ
          simp only at CP CQ
          clear hp hq hx0
          replace hpl := Lib.hid hpl
          go_enter Try.func4, Try.ntmps4
          go_wp2_with fail
          refine (awake_any w).mono ?_
          rintro e w1 ⟨rfl, B1⟩
          replace B1 := Lib.hid B1
          go_wp2_with fail
          refine (CL.out w1).mono ?_
          rintro e w2 ⟨v, rfl, hl, B2⟩
          have H2 := Lib.hid (B1.out.trans (B2.mono B1.out.size))
          clear B2
          go_wp2_with fail
          refine (CP.out w2).mono ?_
          rintro e w3 ⟨B3, rfl⟩
          have A3 := (Below.refl w3.heap.size w3).alloc (Nat.le_refl _) (.cells (pvC pgZ pvZ) 37)
          have l4 := (hl.on B3).on A3
          have H4 := Lib.hid (H2.out.trans ((B3.trans (A3.mono B3.size)).mono H2.out.size))
          have z4 := pv_row w3 pgZ pvZ
          have cT := CT.out v _ l4
          unfold pvC pgZ pvZ at cT
          simp only at cT
          replace cT := Lib.hid cT
          clear hl B3
          replace l4 := Lib.hid l4
          replace z4 := Lib.hid z4
          clear A3
          go_wp2_with fail
          refine (cT.out).mono ?_
          rintro e w5 ⟨rfl, B5⟩
          have H5 := Lib.hid (H4.out.trans (B5.mono H4.out.size))
          have l5 := Lib.hid (l4.out.on B5)
          have z5 := Lib.hid ((B5.block _ (lt_of_heap z4.out)).trans z4.out)
          clear B5 cT z4 H4 l4
          go_wp2_with fail
          refine (CQ.out w5).mono ?_
          rintro e w6 ⟨B6, rfl⟩
          have A6 := (Below.refl w6.heap.size w6).alloc (Nat.le_refl _) (.cells (pvC pgZ pvZ) 37)
          have H7 := Lib.hid (H5.out.trans ((B6.trans (A6.mono B6.size)).mono H5.out.size))
          have l7 := Lib.hid ((l5.out.on B6).on A6)
          have z7 := (A6.block _ (lt_of_heap ((B6.block _ (lt_of_heap z5.out)).trans z5.out))).trans ((B6.block _ (lt_of_heap z5.out)).trans z5.out)
          have y7 := pv_row w6 pgZ pvZ
          obtain ⟨c0, c1, c2, c3, c4, c5, c6, c7, c8, c9⟩ := pv_cells z7
          obtain ⟨d0, d1, d2, d3, d4, d5, d6, d7, d8, d9⟩ := pv_cells y7
          have Z7 := Lib.hid z7
          unfold pvC pgZ pvZ at c0 c1 c2 c3 c4 c5 c6 c7 c8 c9 d0 d1 d2 d3 d4 d5 d6 d7 d8 d9
          simp only at c0 c1 c2 c3 c4 c5 c6 c7 c8 c9 d0 d1 d2 d3 d4 d5 d6 d7 d8 d9
          clear A6 B6 z5 z7 y7 H5 l5
          go_wp2_with (first
            | (go_at_call 13; have V := H9; refine (CZ.out _).mono ?_; rintro e w10 ⟨rfl, B10⟩
               have H10 := Lib.hid (H9.out.trans (B10.mono H9.out.size)))
            | (go_at_call 13; refine (CZ.out _).mono ?_; rintro e w8 ⟨rfl, B8⟩
               have H8 := Lib.hid (H7.out.trans (B8.mono H7.out.size))
               have l8 := Lib.hid (l7.out.on B8)
               have Z8 := Lib.hid ((B8.block _ (lt_of_heap Z7.out)).trans Z7.out)
               clear B8)
            | (go_at_call 15; refine (CB.out v _ _ l8.out hpl.out).mono ?_; rintro e w9 ⟨rfl, B9⟩
               have H9 := Lib.hid (H8.out.trans (B9.mono H8.out.size))
               have z9 := (B9.block _ (lt_of_heap Z8.out)).trans Z8.out
               obtain ⟨e0, e1, e2, e3, e4, e5, e6, e7, e8, e9⟩ := pv_cells z9
               simp only [pgZ, pvZ] at e0 e1 e2 e3 e4 e5 e6 e7 e8 e9
               clear z9 B9))
          go_ret
          exact ⟨rfl, H10.out⟩
  · have hP : PX.parse s = .bad (pl : Int) (er : Int) := by rw [parse_eq, if_neg (by rw [her]; exact he), hpl, her]
    have t1 : ((er : Int) != 0) = true := by simp; omega
    replace he := Lib.hid he
    have CP := Lib.hid fun W => parse_pv s W
    rw [hP] at CP
    unfold pvC pgZ pvZ at CP
    simp only at CP
    clear hP
    go_enter Try.func4, Try.ntmps4
    go_wp2_with fail
    refine (awake_any w).mono ?_
    rintro e w1 ⟨rfl, B1⟩
    replace B1 := Lib.hid B1
    go_wp2_with fail
    refine (CL.out w1).mono ?_
    rintro e w2 ⟨v, rfl, hl, B2⟩
    have H2 := Lib.hid (B1.out.trans (B2.mono B1.out.size))
    clear hl B2
    go_wp2_with fail
    refine (CP.out w2).mono ?_
    rintro e w3 ⟨B3, rfl⟩
    have H3 := Lib.hid (H2.out.trans (B3.mono H2.out.size))
    have z := pv_row w3 pgZ pvZ
    obtain ⟨c0, c1, c2, c3, c4, c5, c6, c7, c8, c9⟩ := pv_cells z
    have H4 := Lib.hid ((H3.out.alloc H3.out.size (.cells (pvC pgZ pvZ) 37)))
    unfold pvC pgZ pvZ at c0 c1 c2 c3 c4 c5 c6 c7 c8 c9 H4
    simp only at c0 c1 c2 c3 c4 c5 c6 c7 c8 c9
    clear z B3
    go_wp2_with (first
      | (go_at_call 13; refine (CZ.out _).mono ?_; rintro e w4 ⟨rfl, B4⟩
         have H5 := Lib.hid (H4.out.trans (B4.mono H4.out.size))
         clear B4))
    go_ret
    exact ⟨rfl, H5.out⟩
end PP
end Go.Proofs.Ytijipgiclkkfhaa
end
