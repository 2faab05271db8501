/- The law of products: the walk. -/
import Derived.Deep.RegionWith
import Derived.Deep.DeepCutAuto
import Derived.Test.YtedopmfbohnjmaaDoorRelKeep
namespace Go.Proofs.YtedopmfbohnjmaaDoor
open Go.RowKit Go.Shelf Go.BigFrame

attribute [local go_sem] Oper.semAt_some

/-- The items of a set among the first N. -/
def lowS (N b : Nat) : Nat := b &&& (2 ^ N - 1)
theorem lowS_bit (N b i : Nat) : (lowS N b).testBit i = (b.testBit i && decide (i < N)) := by
  unfold lowS; rw [Nat.testBit_and, Nat.testBit_two_pow_sub_one]
theorem lowS_zero {N b : Nat} : lowS N b = 0 ↔ ∀ i, i < N → b.testBit i = false := by
  constructor
  · intro h i hi
    have := lowS_bit N b i
    rw [h, Nat.zero_testBit] at this
    simpa [hi] using this.symm
  · intro h
    apply Nat.eq_of_testBit_eq
    intro i
    rw [lowS_bit, Nat.zero_testBit]
    by_cases hi : i < N
    · simp [h i hi]
    · simp [hi]
def wantF (N a b c : Nat) : Nat → Nat := if lowS N b = 0 then prodF N 0 0 else prodF N a c
theorem cross_union {N a b c : Nat} (h : N ≤ 48) : relB N N (unionF (prodF N a b) (prodF N a c)) (prodF N a (b ||| c)) = true :=
  relB_bits fun i j _ => by
    rw [bt_union, bt_prod h, bt_prod h, bt_prod h, Nat.testBit_or, Bool.or_eq_true]
    constructor
    · rintro (⟨h1, h2, h3, h4⟩ | ⟨h1, h2, h3, h4⟩)
      · exact ⟨h1, h2, h3, .inl h4⟩
      · exact ⟨h1, h2, h3, .inr h4⟩
    · rintro ⟨h1, h2, h3, h4 | h4⟩
      · exact .inl ⟨h1, h2, h3, h4⟩
      · exact .inr ⟨h1, h2, h3, h4⟩
theorem cross_less {N a b c : Nat} (h : N ≤ 48) (hb : b < 2 ^ 64) (hc : c < 2 ^ 64) : relB N N (lessF (prodF N a b) (prodF N a c)) (prodF N a (b &&& (18446744073709551615 - c))) = true :=
  relB_bits fun i j _ => by
    have hd := bt_less (f := fun _ => b) (g := fun _ => c) (fun _ => hb) (fun _ => hc) 0 j
    rw [bt_less (prod_64 hb) (prod_64 hc), bt_prod h, bt_prod h, bt_prod h]
    unfold lessF Bt at hd
    rw [hd]
    constructor
    · rintro ⟨⟨h1, h2, h3, h4⟩, h5⟩
      exact ⟨h1, h2, h3, h4, fun hx => h5 ⟨h1, h2, h3, hx⟩⟩
    · rintro ⟨h1, h2, h3, h4, h5⟩
      exact ⟨⟨h1, h2, h3, h4⟩, fun hx => h5 hx.2.2.2⟩
theorem cross_then {N a b c : Nat} (h : N ≤ 48) : relB N N (thenF (prodF N a b) (prodF N b c)) (wantF N a b c) = true :=
  relB_bits fun i j hi => by
    rw [bt_then (rgt_prod h) hi]
    unfold wantF
    split
    · rename_i hz
      rw [lowS_zero] at hz
      rw [bt_prod h]
      simp only [Nat.zero_testBit, Bool.false_eq_true, and_false, iff_false]
      rintro ⟨k, _, h1, h2⟩
      have h1 := (bt_prod h i k).1 h1
      have := hz k h1.2.1
      rw [this] at h1
      exact absurd h1.2.2.2 (by decide)
    · rename_i hz
      rw [bt_prod h]
      constructor
      · rintro ⟨k, _, h1, h2⟩
        have h1 := (bt_prod h i k).1 h1
        have h2 := (bt_prod h k j).1 h2
        exact ⟨h1.1, h2.2.1, h1.2.2.1, h2.2.2.2⟩
      · rintro ⟨h1, h2, h3, h4⟩
        rw [lowS_zero] at hz
        obtain ⟨k, hk⟩ := Classical.not_forall.1 hz
        obtain ⟨hk, hbk⟩ := Classical.not_imp.1 hk
        have hbk : b.testBit k = true := by simpa using hbk
        exact ⟨k, by omega, (bt_prod h i k).2 ⟨h1, hk, h3, hbk⟩, (bt_prod h k j).2 ⟨hk, h2, hbk, h4⟩⟩
theorem cross_irr {N a b : Nat} (h : N ≤ 48) : irrK (prodF N a b) N = decide (lowS N (a &&& b) = 0) := by
  rw [Bool.eq_iff_iff, irrK_iff, decide_eq_true_iff, lowS_zero]
  constructor
  · intro hx i hi
    have := hx i hi
    rw [bt_prod h] at this
    rw [Nat.testBit_and]
    cases h1 : a.testBit i <;> cases h2 : b.testBit i <;> simp_all
  · intro hx i hi hb
    have hb := (bt_prod h i i).1 hb
    have := hx i hi
    rw [Nat.testBit_and, hb.2.2.1, hb.2.2.2] at this
    cases this
theorem cross_back {N a b : Nat} (h : N ≤ 48) : relB N N (backF N (prodF N a b)) (prodF N b a) = true :=
  relB_bits fun j i hj => by
    rw [bt_back (rgt_prod h) hj, bt_prod h, bt_prod h]
    constructor
    · rintro ⟨_, h1, h2, h3, h4⟩
      exact ⟨h2, h1, h4, h3⟩
    · rintro ⟨h1, h2, h3, h4⟩
      exact ⟨by omega, h2, h1, h4, h3⟩

set_option maxRecDepth 100000 in
set_option maxHeartbeats 8000000 in
theorem cross_law (n : Int) (n0 : 0 ≤ n) (n1 : n < 256) (a b c : Nat) (ha : a < 2 ^ 64) (hb : b < 2 ^ 64) (hc : c < 2 ^ 64) (w : World) (hT : Tab w) :
    Calls Tryd.prog 9 #[.int .u8 n, .int .u64 (a : Int), .int .u64 (b : Int), .int .u64 (c : Int)] w fun e w' => e = .returned (.bool true) ∧ Below w.heap.size w w' := by
  have hp := hT.pos
  obtain ⟨N, hN⟩ : ∃ N : Nat, n % 49 = (N : Int) := ⟨(n % 49).toNat, by omega⟩
  have hN48 : N ≤ 48 := by omega
  have x64 := Lib.hid (prod_64 (N := N) (s := a) hb)
  have y64 := Lib.hid (prod_64 (N := N) (s := a) hc)
  have z64 := Lib.hid (prod_64 (N := N) (s := b) hc)
  have xr := Lib.hid (rgt_prod (N := N) (s := a) (t := b) hN48)
  have yr := Lib.hid (rgt_prod (N := N) (s := a) (t := c) hN48)
  have zr := Lib.hid (rgt_prod (N := N) (s := b) (t := c) hN48)
  have hX := Keeps.nil w N
  go_enter Tryd.func9, Tryd.ntmps9
  go_wp2_with fail
  refine (cross_ok hN48 ha hb _).mono ?_
  rintro e w1 ⟨rfl, h⟩
  replace hX := hX.on h
  clear h
  go_wp2_with fail
  refine (cross_ok hN48 ha hc _).mono ?_
  rintro e w2 ⟨rfl, h⟩
  replace hX := hX.on h
  clear h
  obtain ⟨W1, W2, hs1, hs2, hx, hy, h⟩ := lay2 w2 N (prodF N a b) (prodF N a c)
  replace hX := ((hX.on h).cons hx).cons hy
  clear h hx hy
  have l1 := (hX.at (b := w2.heap.size) (f := prodF N a b) (by simp)).ld
  have l2 := (hX.at (b := w2.heap.size + 1) (f := prodF N a c) (by simp)).ld
  go_wp2_with fail
  clear hs1 hs2 l1 l2
  refine (union_ok x64.out y64.out xr.out yr.out _).mono ?_
  rintro e w3 ⟨rfl, h⟩
  replace hX := hX.on h
  clear h
  obtain ⟨W3, hs3, hu, h, -⟩ := Ex.lay w3 N (unionF (prodF N a b) (prodF N a c))
  replace hX := (hX.on h).cons hu
  clear h hu
  have l1 := (hX.at (b := w2.heap.size) (f := prodF N a b) (by simp)).ld
  have l2 := (hX.at (b := w2.heap.size + 1) (f := prodF N a c) (by simp)).ld
  go_wp2_with fail
  clear hs3 l1 l2
  refine (less_ok x64.out y64.out xr.out yr.out _).mono ?_
  rintro e w4 ⟨rfl, h⟩
  replace hX := hX.on h
  clear h
  obtain ⟨W4, hs4, hl, h, -⟩ := Ex.lay w4 N (lessF (prodF N a b) (prodF N a c))
  replace hX := (hX.on h).cons hl
  clear h hl
  go_upto_region 5 with fail
  clear hs4
  have hTb := hX.tab hT
  have hXr := hX.at (b := w2.heap.size) (f := prodF N a b) (by simp)
  have l1 := hXr.drew.ld
  have l2 := (hXr.alloc (.cells (relC 0 zf) 26)).drew.ld
  go_cut [16, 17] (fun v16 v17 W => ∃ b', v16 = .pointer (some ⟨b', 0, none⟩) ∧ v17 = .int .i64 0 ∧ Below W4.heap.size W4 W ∧ RelAt W b' N (thenF (prodF N a b) (prodF N b c)))
  case first =>
    go_region_with (first
      | (go_at_call 18
         refine (cross_ok hN48 hb hc _).mono ?_
         rintro e wq ⟨rfl, hq⟩
         first
           | (have h4 : Below W4.heap.size W4 wq := undrew hq
              have tq := tab_on hTb h4
              have lq := (hXr.on h4).ld
              have lq2 := ((hXr.on h4).alloc (.cells (relC 0 zf) 26)).ld)
           | (have h5 : Below (W4.alloc (.cells (relC 0 zf) 26)).heap.size (W4.alloc (.cells (relC 0 zf) 26)) wq := undrew hq
              have hz := (RelAt.new W4 0 zf).on h5
              have h4 := thru (below_new W4 (.cells (relC 0 zf) 26)) h5
              have tq := tab_on hTb h4
              have lq := (hXr.on h4).ld))
      | (go_at_call 23
         refine (then_ok x64.out z64.out xr.out zr.out _ ?_).mono ?_
         · first | exact tq | exact tab_new tq _
         rintro e wr ⟨rfl, hr⟩
         first
           | (have hz2 := hz.on hr
              have h6 := thru h4 hr
              obtain ⟨Wf, hsf, hfin, hO⟩ := hz2.put N (thenF (prodF N a b) (prodF N b c))
              have hbf := below_only h6 hO (Nat.le_refl _))
           | (have hz2 := (RelAt.new wq 0 zf).on hr
              have h6 := thru (thru h4 (below_new wq (.cells (relC 0 zf) 26))) hr
              obtain ⟨Wf, hsf, hfin, hO⟩ := hz2.put N (thenF (prodF N a b) (prodF N b c))
              have hbf := below_only h6 hO h4.size)
           | (have h6 := thru h4 hr
              obtain ⟨Wf, hsf, hfin, hO, -⟩ := Ex.lay wr N (thenF (prodF N a b) (prodF N b c))
              have hbf := thru h6 hO)))
    all_goals (go_wp2_with fail; go_meet; exact ⟨_, rfl, rfl, hbf, hfin⟩)
  case rest =>
    obtain ⟨b', rfl, rfl, hbf, hfin⟩ := hcut
    replace hX := (hX.on hbf).cons hfin
    clear hbf hfin l1 l2 hTb hXr
    obtain ⟨q, hq⟩ : ∃ q, q = 2 ^ N := ⟨_, rfl⟩
    have hq0 : 0 < q := by rw [hq]; exact Nat.two_pow_pos N
    have hq1 : q < 2 ^ 49 := by rw [hq]; exact Nat.pow_lt_pow_right (by omega) (by omega)
    have hsh : IntKind.u64.wrap (2 ^ N) = (q : Int) := by rw [hq]; exact shl1_nat N (by omega)
    have hband : bits BinOp.and IntKind.u64 (b : Int) ((q : Int) - 1) = (lowS N b : Int) := by
      rw [show (q : Int) - 1 = ((q - 1 : Nat) : Int) by omega, u64_and_nat _ _ hb (by omega), hq]; rfl
    obtain ⟨d, hd⟩ : ∃ d, d = b ||| c := ⟨_, rfl⟩
    obtain ⟨d2, hd2⟩ : ∃ d, d = b &&& (18446744073709551615 - c) := ⟨_, rfl⟩
    obtain ⟨d3, hd3⟩ : ∃ d, d = a &&& b := ⟨_, rfl⟩
    have hab : bits BinOp.and IntKind.u64 (a : Int) (b : Int) = (d3 : Int) := by rw [hd3]; exact u64_and_nat _ _ ha hb
    have habq : bits BinOp.and IntKind.u64 (d3 : Int) ((q : Int) - 1) = (lowS N d3 : Int) := by
      rw [show (q : Int) - 1 = ((q - 1 : Nat) : Int) by omega, u64_and_nat _ _ (by rw [hd3]; exact Nat.lt_of_le_of_lt Nat.and_le_left ha) (by omega), hq]; rfl
    have hbc : bits BinOp.or IntKind.u64 (b : Int) (c : Int) = (d : Int) := by rw [hd]; exact u64_or_nat _ _ hb hc
    have hbn : bits BinOp.andNot IntKind.u64 (b : Int) (c : Int) = (d2 : Int) := by rw [hd2]; exact u64_andNot_nat _ _ hb hc
    have hN64 : (N : Int) < 64 := by omega
    obtain ⟨z, hz⟩ : ∃ z, z = decide (lowS N b = 0) := ⟨_, rfl⟩
    have hzz : ((lowS N b : Int) == 0) = z := by rw [hz, Bool.eq_iff_iff]; simp
    obtain ⟨y, hy⟩ : ∃ y, y = decide (lowS N d3 = 0) := ⟨_, rfl⟩
    have d64 : d < 2 ^ 64 := by rw [hd]; exact Nat.or_lt_two_pow hb hc
    have d264 : d2 < 2 ^ 64 := by rw [hd2]; exact Nat.lt_of_le_of_lt Nat.and_le_left hb
    have eU : relB N N (unionF (prodF N a b) (prodF N a c)) (prodF N a d) = true := by rw [hd]; exact cross_union hN48
    have eL : relB N N (lessF (prodF N a b) (prodF N a c)) (prodF N a d2) = true := by rw [hd2]; exact cross_less hN48 hb hc
    have eT : relB N N (thenF (prodF N a b) (prodF N b c)) (wantF N a b c) = true := cross_then hN48
    have eB : relB N N (backF N (prodF N a b)) (prodF N b a) = true := cross_back hN48
    have eI := Lib.hid (show irrK (prodF N a b) N = y by rw [cross_irr hN48, hy, hd3])
    have hyy : ((lowS N d3 : Int) == 0) = y := by rw [hy, Bool.eq_iff_iff]; simp
    have eY : (y == y) = true := by simp
    clear hd hd2 hd3
    replace hq := Lib.hid hq
    replace hz := Lib.hid hz
    replace hy := Lib.hid hy
    go_wp2_with fail
    refine (cross_ok hN48 ha hc _).mono ?_
    rintro e w5 ⟨rfl, h⟩
    replace hX := hX.on h
    clear h
    obtain ⟨W5, hs5, hw, h, -⟩ := Ex.lay w5 N (prodF N a c)
    have hlt := Lib.hid hX.lts
    have h5 := Lib.hid hX.1.size
    replace hX := hX.on h
    clear h
    go_upto_if 62 with fail
    clear hs5
    generalize hlist : [(b', thenF (prodF N a b) (prodF N b c)), (w4.heap.size, lessF (prodF N a b) (prodF N a c)), (w3.heap.size, unionF (prodF N a b) (prodF N a c)), (w2.heap.size + 1, prodF N a c), (w2.heap.size, prodF N a b)] = L at hX hlt
    go_cut [] (fun W => Keeps w W N ((w5.heap.size, wantF N a b c) :: L))
    case first =>
      cases z
      · have hwant : wantF N a b c = prodF N a c := by unfold wantF; rw [if_neg (by simpa using hz.out.symm)]
        go_wp2_with fail
        go_meet
        rw [hwant]
        exact hX.cons hw
      · have hwant : wantF N a b c = prodF N 0 0 := by unfold wantF; rw [if_pos (by simpa using hz.out.symm)]
        go_wp2_with fail
        refine (cross_ok (s := 0) (t := 0) hN48 (by decide) (by decide) _).mono ?_
        rintro e w6 ⟨rfl, h⟩
        replace hX := hX.on h
        replace hw := hw.on h
        clear h
        obtain ⟨W6, hs6, hR6, hO6⟩ := hw.put N (prodF N 0 0)
        go_wp2_with fail
        go_meet
        rw [hwant]
        exact (hX.only hO6 h5.out hlt.out).cons hR6
    case rest =>
      subst hlist
      clear hX hlt hw h5
      have tb := Lib.hid (hcut.tab hT)
      have rU := Lib.hid (fun W (h : Below wc.heap.size wc W) => (hcut.at (b := w3.heap.size) (f := unionF (prodF N a b) (prodF N a c)) (by simp)).on h)
      have rL := Lib.hid (fun W (h : Below wc.heap.size wc W) => (hcut.at (b := w4.heap.size) (f := lessF (prodF N a b) (prodF N a c)) (by simp)).on h)
      have rT := Lib.hid (fun W (h : Below wc.heap.size wc W) => (hcut.at (b := b') (f := thenF (prodF N a b) (prodF N b c)) (by simp)).on h)
      have rW := Lib.hid (fun W (h : Below wc.heap.size wc W) => (hcut.at (b := w5.heap.size) (f := wantF N a b c) (by simp)).on h)
      have rX := Lib.hid (fun W (h : Below wc.heap.size wc W) => (hcut.at (b := w2.heap.size) (f := prodF N a b) (by simp)).on h)
      have hIr := Lib.hid (fun W => show Calls Tryd.prog 46 #[.agg (relC N (prodF N a b))] W fun e w' => e = .returned (.bool y) ∧ Below W.heap.size W w' by have := irr_ok x64.out xr.out W; rwa [eI.out] at this)
      replace hcut := Lib.hid hcut
      go_upto_region 10 with fail
      refine wp_region_below wc.heap.size wc (by kernel_rfl) (by kernel_rfl) (Below.refl _ _) ?_
      repeat (first
        | go_big_quiet_step (first
          | (intro _; exact rfl)
          | (intro hW; go_at_call 18; exact Calls.below_of hW (cross_ok hN48 (by assumption) (by assumption) _))
          | (intro hW; go_at_call 46; exact Calls.below_of hW (hIr.out _))
          | (intro hW; go_at_call 30; exact Calls.below_of hW (turn_ok x64.out xr.out _ (tab_on tb.out hW)))
          | (intro hW; go_at_call 11; exact Calls.below_of hW (awake_any _ (tab_on tb.out hW))))
        | (refine wpQuiet_want rfl fun K hK => ?_
           first
             | refine quiet_loadRel (.tmp 12) rfl _ rfl _ _ rU.out (hK _ ?_)
             | refine quiet_loadRel (.tmp 14) rfl _ rfl _ _ rL.out (hK _ ?_)
             | refine quiet_loadRel (.tmp 16) rfl _ rfl _ _ rT.out (hK _ ?_)
             | refine quiet_loadRel (.tmp 19) rfl _ rfl _ _ rW.out (hK _ ?_)
             | refine quiet_loadRel (.tmp 10) rfl _ rfl _ _ rX.out (hK _ ?_)
           clear hK K
           simp only [Act.put, List.setIfInBounds_toArray, List.set_cons_succ, List.set_cons_zero]))
      refine wpQuiet_nil ?_
      intro wz hz2
      go_wp2
      go_ret
      exact ⟨rfl, thru hcut.out.1 hz2⟩
end Go.Proofs.YtedopmfbohnjmaaDoor
