/- rel.Of. -/
import Derived.StillTailTactics
import Derived.Test.YtakhmjohncidoaaDoorRelPairs
namespace Go.Proofs.YtakhmjohncidoaaDoor
open Go.RowKit Go.Shelf

attribute [local go_sem] Oper.semAt_some

/-- The value v holds the pairs ps, in blocks below n₀. -/
def PairSl (n₀ : Nat) (W : World) (v : Value) (ps : List (Int × Int)) : Prop :=
  ps.length ≤ maxLen ∧ ∃ a cap, v = .slice a ps.length cap ∧ (0 < ps.length → ∃ b off, a = some ⟨b, off, none⟩ ∧ b < n₀ ∧
    ∀ j, j < ps.length → W.cell? ⟨b, off + j * 2, none⟩ = some (.int .i64 (ps[j]?.getD (0, 0)).1) ∧ W.cell? ⟨b, off + j * 2 + 1, none⟩ = some (.int .i64 (ps[j]?.getD (0, 0)).2))
theorem PairSl.below {n₀ : Nat} {W W' : World} {v : Value} {ps : List (Int × Int)} (h : PairSl n₀ W v ps) (hb : Below n₀ W W') : PairSl n₀ W' v ps := by
  obtain ⟨hl, a, cap, rfl, h⟩ := h
  refine ⟨hl, a, cap, rfl, fun h0 => ?_⟩
  obtain ⟨b, off, rfl, hbn, hc⟩ := h h0
  exact ⟨b, off, rfl, hbn, fun j hj => ⟨(hb.cell (p := ⟨b, off + j * 2, none⟩) hbn).trans (hc j hj).1, (hb.cell (p := ⟨b, off + j * 2 + 1, none⟩) hbn).trans (hc j hj).2⟩⟩
theorem PairSl.mono {n₀ n₁ : Nat} {W : World} {v : Value} {ps : List (Int × Int)} (h : PairSl n₀ W v ps) (hn : n₀ ≤ n₁) : PairSl n₁ W v ps := by
  obtain ⟨hl, a, cap, rfl, h⟩ := h
  refine ⟨hl, a, cap, rfl, fun h0 => ?_⟩
  obtain ⟨b, off, rfl, hbn, hc⟩ := h h0
  exact ⟨b, off, rfl, by omega, hc⟩

def goodP (n : Int) (p : Int × Int) : Bool := itemB n p.1 && itemB n p.2
/-- Is the list one of a relation's pairs? -/
def ofB (n : Int) (ps : List (Int × Int)) : Bool := sizedB n && ps.all (goodP n)
/-- The pairs, laid into rows. -/
def ofL (ps : List (Int × Int)) : Nat → Nat := ps.foldl (fun g p => upd g p.1.toNat (g p.1.toNat ||| 2 ^ p.2.toNat)) zf
theorem ofL_snoc (l : List (Int × Int)) (p : Int × Int) : ofL (l ++ [p]) = upd (ofL l) p.1.toNat (ofL l p.1.toNat ||| 2 ^ p.2.toNat) := by simp [ofL, List.foldl_append]
theorem ofL_lt (n : Int) (hn : n ≤ 48) (l : List (Int × Int)) (h : l.all (goodP n) = true) : ∀ j, ofL l j < 2 ^ 48 := by
  suffices hs : ∀ (l : List (Int × Int)) (g : Nat → Nat), (∀ p ∈ l, goodP n p = true) → (∀ j, g j < 2 ^ 48) → ∀ j, (l.foldl (fun g p => upd g p.1.toNat (g p.1.toNat ||| 2 ^ p.2.toNat)) g) j < 2 ^ 48 from
    hs l zf (fun p hp => List.all_eq_true.1 h p hp) (fun _ => Nat.two_pow_pos 48)
  intro l
  induction l with
  | nil => exact fun g _ h => h
  | cons x l ih =>
    intro g hx h
    refine ih _ (fun p hp => hx p (by simp [hp])) fun j => ?_
    show upd g x.1.toNat (g x.1.toNat ||| 2 ^ x.2.toNat) j < 2 ^ 48
    unfold upd
    split
    · have := hx x (by simp)
      simp only [goodP, Bool.and_eq_true, itemB_iff] at this
      exact Nat.or_lt_two_pow (h _) (Nat.pow_lt_pow_right (by omega) (by omega))
    · exact h j

/-- What Of answers. -/
def OfPost (n : Int) (ps : List (Int × Int)) (w : World) (e : Ending) (w' : World) : Prop :=
  e = .returned (.tuple #[.agg (relC (opN (ofB n ps) n) (if ofB n ps then ofL ps else zf)), .int .i64 (opE (ofB n ps))]) ∧ Below w.heap.size w w'

theorem take_snocP (ps : List (Int × Int)) (k : Nat) (h : k < ps.length) : ps.take (k + 1) = ps.take k ++ [ps[k]?.getD (0, 0)] := by
  rw [List.take_succ_eq_append_getElem h]; simp [h]

set_option maxHeartbeats 2000000 in
set_option maxRecDepth 100000 in
theorem relOf_any (n : Int) (v : Value) (ps : List (Int × Int)) (w : World) (hs : PairSl w.heap.size w v ps) :
    Calls Tryd.prog 8 #[.int .i64 n, v] w (OfPost n ps w) := by
  obtain ⟨hm, a, cap, rfl, hcells⟩ := hs
  unfold maxLen at hm
  have CS := Lib.hid (fun w => sized_any n w)
  have CI := Lib.hid (fun a w => isItem_any n a w)
  have hZ := RelAt.new w 0 zf
  have hB : Below w.heap.size w (w.alloc (.cells (relC 0 zf) 26)) := (Below.refl _ w).alloc (Nat.le_refl _) _
  have Hcells := Lib.hid hcells
  clear hcells
  cases hsz : sizedB n
  · have ho := Lib.hid (show ofB n ps = false by simp [ofB, hsz])
    rw [hsz] at CS
    clear hsz
    obtain ⟨W3, hs3, hR3, hO3⟩ := hZ.put 0 zf
    go_enter Tryd.func8, Tryd.ntmps8
    go_wp2_with fail
    refine (CS.out _).mono ?_
    rintro e w1 ⟨rfl, rfl⟩
    go_wp2
    refine bodyPost_ret (results_rel2 rfl _ _ _ _ _ rfl hR3) rfl ?_
    unfold OfPost
    rw [ho.out]
    exact ⟨rfl, below_only hB hO3 (Nat.le_refl _)⟩
  · obtain ⟨hn0, hn1⟩ := sizedB_iff.1 hsz
    have ho := Lib.hid (show ofB n ps = ps.all (goodP n) by simp [ofB, hsz])
    rw [hsz] at CS
    clear hsz
    obtain ⟨W3, hs3, hR3, hO3⟩ := (RelAt.new (w.alloc (.cells (relC 0 zf) 26)) 0 zf).put n zf
    rw [World.size_alloc] at hs3 hR3 hO3
    replace hZ := (hZ.alloc (.cells (relC 0 zf) 26)).only hO3 (by omega)
    replace hB := below_only (hB.alloc (by simp) (.cells (relC 0 zf) 26)) hO3 (by omega)
    have Hs3 := Lib.hid (show W3.heap.size = w.heap.size + 2 by rw [hO3.size]; simp)
    clear hO3
    go_enter Tryd.func8, Tryd.ntmps8
    go_wp2_with fail
    refine (CS.out _).mono ?_
    rintro e w1 ⟨rfl, rfl⟩
    go_wp2
    clear hs3
    go_loopw [17] (fun i W => ∃ k : Nat, k ≤ ps.length ∧ i = .int .i64 k ∧ (ps.take k).all (goodP n) = true ∧ RelAt W (w.heap.size + 1) n (ofL (ps.take k)) ∧ RelAt W w.heap.size 0 zf ∧ Below w.heap.size w W ∧ w.heap.size + 2 ≤ W.heap.size) (fun i _ => ps.length - (intOf i).toNat)
    case atStart => exact ⟨0, Nat.zero_le _, rfl, rfl, hR3, hZ, hB, by rw [Hs3.out]; exact Nat.le_refl _⟩
    case round =>
      obtain ⟨k, hk, rfl, hall, hR, hZ2, hBw, hszw⟩ := hrel
      have Hall := Lib.hid hall
      clear hall hR3 hZ hB
      by_cases hlt : k < ps.length
      · obtain ⟨b, off, rfl, hbn, hc⟩ := Hcells.out (by omega)
        obtain ⟨c1, c2⟩ := hc k hlt
        replace c1 := (hBw.cell (p := ⟨b, off + k * 2, none⟩) hbn).trans c1
        replace c2 := (hBw.cell (p := ⟨b, off + k * 2 + 1, none⟩) hbn).trans c2
        have ht := Lib.hid (take_snocP ps k hlt)
        have hmem : ps[k]?.getD (0, 0) ∈ ps := by simp [hlt]
        generalize ps[k]?.getD (0, 0) = p at *
        obtain ⟨x, y⟩ := p
        clear hc
        cases hx : itemB n x
        · have ho2 := Lib.hid (show ofB n ps = false by
            rw [ho.out, Bool.eq_false_iff]; intro hcc; rw [List.all_eq_true] at hcc; have := hcc _ hmem; simp [goodP, hx] at this)
          have CX := CI.out x
          rw [hx] at CX
          replace CX := Lib.hid CX
          clear hx
          obtain ⟨W4, hs4, hR4, hO4⟩ := (hZ2.alloc (.cells #[.int .i64 x, .int .i64 y] 52)).put 0 zf
          go_wp2_with fail
          refine (CX.out _).mono ?_
          rintro e w1 ⟨rfl, rfl⟩
          go_wp2
          refine bodyPost_ret (results_rel2 rfl _ _ _ _ _ rfl hR4) rfl ?_
          unfold OfPost
          rw [ho2.out]
          exact ⟨rfl, below_only (hBw.alloc (by omega) _) hO4 (Nat.le_refl _)⟩
        · have CX := CI.out x
          rw [hx] at CX
          replace CX := Lib.hid CX
          obtain ⟨x0, x1⟩ := itemB_iff.1 hx
          cases hy : itemB n y
          · have ho2 := Lib.hid (show ofB n ps = false by
              rw [ho.out, Bool.eq_false_iff]; intro hcc; rw [List.all_eq_true] at hcc; have := hcc _ hmem; simp [goodP, hy] at this)
            have CY := CI.out y
            rw [hy] at CY
            replace CY := Lib.hid CY
            clear hx hy
            obtain ⟨W4, hs4, hR4, hO4⟩ := (hZ2.alloc (.cells #[.int .i64 x, .int .i64 y] 52)).put 0 zf
            go_wp2_with fail
            refine (CX.out _).mono ?_
            rintro e w1 ⟨rfl, rfl⟩
            go_wp2_with fail
            refine (CY.out _).mono ?_
            rintro e w1 ⟨rfl, rfl⟩
            go_wp2
            refine bodyPost_ret (results_rel2 rfl _ _ _ _ _ rfl hR4) rfl ?_
            unfold OfPost
            rw [ho2.out]
            exact ⟨rfl, below_only (hBw.alloc (by omega) _) hO4 (Nat.le_refl _)⟩
          · have CY := CI.out y
            rw [hy] at CY
            replace CY := Lib.hid CY
            obtain ⟨y0, y1⟩ := itemB_iff.1 hy
            have Hall2 := Lib.hid (show (ps.take (k + 1)).all (goodP n) = true by
              rw [ht.out, List.all_append, Hall.out]; simp [goodP, hx, hy])
            clear hx hy
            obtain ⟨i, rfl⟩ := Int.eq_ofNat_of_zero_le x0
            obtain ⟨j, rfl⟩ := Int.eq_ofNat_of_zero_le y0
            have hlo := ofL_lt n hn1 (ps.take k) Hall.out i
            have i48 : (i : Int) < 48 := by omega
            have j64 : (j : Int) < 64 := by omega
            have hor := Lib.hid (show bits BinOp.or IntKind.u64 (ofL (ps.take k) i : Int) (IntKind.u64.wrap (2 ^ j)) = ((ofL (ps.take k) i ||| 2 ^ j : Nat) : Int) by
              have hp : 2 ^ j < 2 ^ 64 := Nat.pow_lt_pow_right (by omega) (by omega)
              rw [shl1_nat j (by omega), u64_or_nat _ _ (Nat.lt_of_lt_of_le hlo (by decide)) hp])
            clear hlo
            have hR2 := hR.alloc (.cells #[.int .i64 (i : Int), .int .i64 (j : Int)] 52)
            have r1 := hR2.row i (by omega)
            have f1 := hR2.free (1 + i)
            go_wp2_with fail
            refine (CX.out _).mono ?_
            rintro e w1 ⟨rfl, rfl⟩
            go_wp2_with fail
            refine (CY.out _).mono ?_
            rintro e w1 ⟨rfl, rfl⟩
            go_wp2
            refine wp_region_tail 11 (by kernel_rfl) (by kernel_rfl) ?_
            simp only [List.take_succ_cons, List.take_zero, List.drop_succ_cons, List.drop_zero]
            repeat still_step
            refine wpStill_nil ?_
            go_wp2
            go_roundw
            case rel =>
              refine ⟨k + 1, by omega, by go_num, Hall2.out, ?_, (hZ2.alloc _).drew.other _ _ (by simp), ((hBw.alloc (by omega) _).drew).setCell (by simp) _, by simpa using Nat.le_succ_of_le hszw⟩
              rw [ht.out, ofL_snoc]
              show RelAt _ _ _ (upd (ofL (ps.take k)) i (ofL (ps.take k) i ||| 2 ^ j))
              rw [hor.out]
              exact hR2.drew.set i _ (by omega)
            case measure => simp [intOf]; omega
      · obtain rfl : k = ps.length := by omega
        have ho2 := Lib.hid (show ofB n ps = true by have := Hall.out; rw [List.take_length] at this; rw [ho.out, this])
        rw [List.take_length] at hR
        have hL := hR.ld
        obtain ⟨W4, hs4, hR4, hO4⟩ := hZ2.put n (ofL ps)
        go_wp2
        refine bodyPost_ret (results_rel2 rfl _ _ _ _ _ rfl hR4) rfl ?_
        unfold OfPost
        rw [ho2.out]
        exact ⟨rfl, below_only hBw hO4 (Nat.le_refl _)⟩
end Go.Proofs.YtakhmjohncidoaaDoor
