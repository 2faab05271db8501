/- The law of wrong relations: the walk. -/
import Derived.Deep.RegionWith
import Derived.Deep.QuietTactic
import Derived.Deep.DeepCutAuto
import Derived.Deep.CutBlock
import Derived.Test.YtnfkedcbhjbhkaaDoorRelBad
import Derived.Test.YtnfkedcbhjbhkaaDoorRelKept
import Derived.Test.YtnfkedcbhjbhkaaDoorRelAwake2
namespace Go.Proofs.YtnfkedcbhjbhkaaDoor
open Go.RowKit Go.Shelf Go.BigFrame

attribute [local go_sem] Oper.semAt_some

set_option maxRecDepth 100000 in
set_option maxHeartbeats 8000000 in
theorem wrong_law (na nb : Int) (fa fb : Nat → Nat) (ha : R64 fa) (hb : R64 fb) (wh : Int) (wh0 : 0 ≤ wh) (wh1 : wh < 256) (n : Int) (w : World) (hT : Tab w) :
    Calls Tryd.prog 10 #[.agg (relC na fa), .agg (relC nb fb), .int .u8 wh, .int .i64 n] w fun e w' => e = .returned (.bool true) ∧ Below w.heap.size w w' := by
  have hp := hT.pos
  obtain ⟨N, -, hN, A64, Ar, HA⟩ := fine_ok na (most := 40) fa ha (by decide) (by decide)
  generalize fineF fa N = A at *
  replace HA := Lib.hid HA
  have hA := (RelAt.new w na fa).alloc (.cells (relC nb fb) 26)
  have hM := RelAt.new (w.alloc (.cells (relC na fa) 26)) nb fb
  rw [World.size_alloc] at hM
  have hBl := thru (below_new w (.cells (relC na fa) 26)) (below_new _ (.cells (relC nb fb) 26))
  have l1 := hA.ld
  go_enter Tryd.func10, Tryd.ntmps10
  go_wp2_with fail
  refine (HA.out _).mono ?_
  rintro e w1 ⟨rfl, h⟩
  clear l1
  obtain ⟨W1, hs1, hf1, hO1⟩ := (hA.on h).put N A
  have hX : Kept w W1 [(w.heap.size + 1, nb, fb), (w.heap.size, (N : Int), A)] := by
    refine ⟨below_only (thru hBl h) hO1 (Nat.le_refl _), ?_⟩
    simp only [List.mem_cons, List.not_mem_nil, or_false]
    rintro p (rfl | rfl)
    · exact (hM.on h).only hO1 (by simp)
    · exact hf1
  clear h hO1 hf1 hA hM hBl
  have l1 := (hX.at (b := w.heap.size) (n := N) (f := A) (by simp)).ld
  obtain ⟨W2, hs2, hu, h, -⟩ := Ex.lay W1 N A
  have hlt := (hX.at (b := w.heap.size + 1) (n := nb) (f := fb) (by simp)).lt
  have z1 : W1.heap.size ≠ w.heap.size + 1 := by omega
  have z0 : W1.heap.size ≠ w.heap.size := by omega
  have lw : w.heap.size ≤ W1.heap.size := by omega
  clear hlt
  replace hX := hX.on h
  clear h
  have z1' := Ne.symm z1
  have z0' := Ne.symm z0
  have hPut : ∀ a v m g, a.block = W1.heap.size → rightB m g = false → R64 g → RelAt (W2.setCell a v) W1.heap.size m g →
      ∃ n' f', rightB n' f' = false ∧ R64 f' ∧ Kept w (W2.setCell a v) [(W1.heap.size, n', f'), (w.heap.size + 1, nb, fb), (w.heap.size, (N : Int), A)] := fun a v m g ha hb h64 hR =>
    ⟨m, g, hb, h64, (hX.set a v (by rw [ha]; exact lw) (by
      rw [ha]
      simp only [List.mem_cons, List.not_mem_nil, or_false]
      rintro p (rfl | rfl) <;> assumption)).cons hR⟩
  obtain ⟨q, hq⟩ : ∃ q, q = 2 ^ N := ⟨_, rfl⟩
  obtain ⟨d, hd⟩ : ∃ d, d = A 0 ||| q := ⟨_, rfl⟩
  have hq64 : q < 2 ^ 64 := by rw [hq]; exact Nat.pow_lt_pow_right (by omega) (by omega)
  have hsh : IntKind.u64.wrap (2 ^ N) = (q : Int) := by rw [hq]; exact shl1_nat N (by omega)
  have hor : bits BinOp.or IntKind.u64 (A 0 : Int) (q : Int) = (d : Int) := by rw [hd]; exact u64_or_nat _ _ (A64 0) hq64
  have p0 := fun (m : Int) (hm : m < 0) => hPut ⟨W1.heap.size, 0, none⟩ (.int .i64 m) m A rfl (wrong_low m A hm) A64 (hu.setN m)
  have p1 := fun (m : Int) (hm : 48 < m) => hPut ⟨W1.heap.size, 0, none⟩ (.int .i64 m) m A rfl (wrong_high m A hm) A64 (hu.setN m)
  have p2 := hPut ⟨W1.heap.size, 1 + N, none⟩ (.int .u64 (1 : Nat)) N (upd A N 1) rfl (wrong_row A (by omega)) (by intro i; unfold upd; split; decide; exact A64 i) (hu.set N 1 (by omega))
  have p3 := hPut ⟨W1.heap.size, 1 + 0, none⟩ (.int .u64 (d : Nat)) N (upd A 0 d) rfl (by rw [hd, hq]; exact wrong_item A) (by intro i; unfold upd; split; (rw [hd]; exact Nat.or_lt_two_pow (A64 0) hq64); exact A64 i) (hu.set 0 d (by omega))
  replace hPut := Lib.hid hPut
  replace p0 := Lib.hid p0
  replace p1 := Lib.hid p1
  replace p2 := Lib.hid p2
  replace p3 := Lib.hid p3
  replace hq := Lib.hid hq
  replace hd := Lib.hid hd
  go_upto_block 0 with fail
  clear hs1 hs2 l1
  go_cut [25] (fun v25 W => ∃ n' f', rightB n' f' = false ∧ R64 f' ∧ Kept w W [(W1.heap.size, n', f'), (w.heap.size + 1, nb, fb), (w.heap.size, (N : Int), A)])
  case first =>
    have hN0 := (hX.at (b := w.heap.size) (n := N) (f := A) (by simp)).num
    have hn := hu.num
    have hr0 := hu.row 0 (by omega)
    have hrN := hu.row N (by omega)
    have hfr0 := hu.free 0
    have hfr1 := hu.free (1 + 0)
    have hfrN := hu.free (1 + N)
    have hN64 : (N : Int) < 64 := by omega
    have hN48 : (N : Int) < 48 := by omega
    have h4 : wh % 4 = 0 ∨ wh % 4 = 1 ∨ wh % 4 = 2 ∨ wh % 4 = 3 := by omega
    rcases h4 with h4 | h4 | h4 | h4
    · go_wp2_with fail
      all_goals (go_meet; exact p0.out _ (by omega))
    · go_wp2_with fail
      all_goals (go_meet; exact p1.out _ (by omega))
    · go_wp2_with fail
      go_meet
      exact p2.out
    · go_upto_region 11 with fail
      clear hX hu
      go_region
      all_goals (go_wp2_with fail; go_meet; obtain ⟨n', f', h1, h2, h3⟩ := p3.out; exact ⟨n', f', h1, h2, h3.drew⟩)
  case rest =>
    clear hPut p0 p1 p2 p3 hX hu
    obtain ⟨n', f', hbad, hf', hX⟩ := hcut
    clear hsh hor hq hd hq64
    have l1 := (hX.at (b := W1.heap.size) (n := n') (f := f') (by simp)).ld
    have tb := Lib.hid (bad_top hbad hf')
    have ub := Lib.hid (fun W => bad_union hbad hf' W nb fb hb)
    have nb' := Lib.hid (fun W => bad_then hbad hf' W nb fb hb)
    have rb := Lib.hid (fun W => bad_right hbad hf' W)
    have gb := Lib.hid (fun W => bad_ring hbad hf' W)
    have pb := Lib.hid (fun W => bad_nil hbad hf' W)
    have eb := Lib.hid (fun W => bad_empty hbad hf' W)
    have ib := Lib.hid (fun W => bad_irr hbad hf' W)
    have ab := Lib.hid (fun W => bad_acyclic hbad hf' W)
    have cb := Lib.hid (fun W => bad_plus hbad hf' W)
    have kb := Lib.hid (fun W => bad_back hbad hf' W)
    have fb' := Lib.hid (fun W => bad_from hbad hf' W)
    have tob := Lib.hid (fun W => bad_into hbad hf' W)
    have sb := Lib.hid (fun W => bad_star hbad hf' W)
    have hb' := Lib.hid (fun W => bad_has hbad hf' W 0 0)
    have eZ : relB 0 0 zf zf = true := relB_same (fun _ _ => rfl)
    have h00 : bits BinOp.or IntKind.u64 0 0 = 0 := by decide +kernel
    replace hbad := Lib.hid hbad
    go_wp2_with fail
    refine (tb.out _ (hX.tab hT)).mono ?_
    rintro e w2 ⟨⟨v, rfl⟩, h⟩
    replace hX := hX.on h
    clear h l1
    have l1 := (hX.at (b := W1.heap.size) (n := n') (f := f') (by simp)).ld
    have l2 := (hX.at (b := w.heap.size + 1) (n := nb) (f := fb) (by simp)).ld
    go_wp2_with fail
    refine (ub.out _).mono ?_
    rintro e w3 ⟨rfl, h⟩
    replace hX := hX.on h
    clear h l1 l2
    obtain ⟨W3, hs3, hu, h, -⟩ := Ex.lay w3 0 zf
    replace hX := (hX.on h).cons hu
    clear h hu
    have l1 := (hX.at (b := W1.heap.size) (n := n') (f := f') (by simp)).ld
    have l2 := (hX.at (b := w.heap.size + 1) (n := nb) (f := fb) (by simp)).ld
    go_wp2_with fail
    clear hs3
    refine (nb'.out _ (hX.tab hT)).mono ?_
    rintro e w4 ⟨rfl, h⟩
    replace hX := hX.on h
    clear h l1 l2
    obtain ⟨W4, hs4, hu, h, -⟩ := Ex.lay w4 0 zf
    replace hX := (hX.on h).cons hu
    clear h hu
    go_upto_region 15 with fail
    clear hs4
    have tq := Lib.hid (hX.tab hT)
    have r1 := Lib.hid (fun W (h : Below W4.heap.size W4 W) => (hX.at (b := W1.heap.size) (n := n') (f := f') (by simp)).on h)
    have r2 := Lib.hid (fun W (h : Below W4.heap.size W4 W) => (hX.at (b := w3.heap.size) (n := 0) (f := zf) (by simp)).on h)
    have r3 := Lib.hid (fun W (h : Below W4.heap.size W4 W) => (hX.at (b := w4.heap.size) (n := 0) (f := zf) (by simp)).on h)
    replace hX := Lib.hid hX
    refine wp_region_below W4.heap.size W4 (by kernel_rfl) (by kernel_rfl) (Below.refl _ _) ?_
    simp only [List.append_eq, List.cons_append, List.nil_append]
    repeat (first
      | go_big_quiet_step (first
        | (intro _; exact rfl)
        | (intro hW; go_at_call 16; exact Calls.below_of hW (rb.out _))
        | (intro hW; go_at_call 32; exact Calls.below_of hW (pb.out _))
        | (intro hW; go_at_call 47; exact Calls.below_of hW (gb.out _ (tab_on tq.out hW)))
        | (intro hW; go_at_call 49; exact Calls.below_of hW (eb.out _))
        | (intro hW; go_at_call 50; exact Calls.below_of hW (ib.out _))
        | (intro hW; go_at_call 52; exact Calls.below_of hW (ab.out _ (tab_on tq.out hW)))
        | (intro hW; go_at_call 36; exact Calls.below_of hW (cb.out _ (tab_on tq.out hW)))
        | (intro hW; go_at_call 38; exact Calls.below_of hW (sb.out _ (tab_on tq.out hW)))
        | (intro hW; go_at_call 34; exact Calls.below_of hW (kb.out _ (tab_on tq.out hW)))
        | (intro hW; go_at_call 40; exact Calls.below_of hW (fb'.out _))
        | (intro hW; go_at_call 42; exact Calls.below_of hW (tob.out _ (tab_on tq.out hW)))
        | (intro hW; go_at_call 29; exact Calls.below_of hW (hb'.out _)))
      | (refine wpQuiet_want rfl fun K hK => ?_
         first
           | refine quiet_loadRel (.tmp 9) rfl _ rfl _ _ r1.out (hK _ ?_)
           | refine quiet_loadRel (.tmp 12) rfl _ rfl _ _ r2.out (hK _ ?_)
           | refine quiet_loadRel (.tmp 14) rfl _ rfl _ _ r3.out (hK _ ?_)
         clear hK K
         simp only [Act.put, List.setIfInBounds_toArray, List.set_cons_succ, List.set_cons_zero]))
    refine wpQuiet_nil ?_
    intro w5 h
    replace hX := hX.out.on h
    clear h r1 r2 r3 tq tb ub nb' rb gb pb eb ib ab cb kb fb' tob sb hb'
    have l1 := (hX.at (b := w.heap.size) (n := N) (f := A) (by simp)).num
    obtain ⟨W5, hs5, hu, h, -⟩ := Ex.lay w5 ((N : Int) + 1) zf
    have c1 := Lib.hid (fun W => wrongs_both Ar A64 W)
    have c2 := Lib.hid (fun W => wrongs_less Ar A64 W)
    have c3 := Lib.hid (fun W => show Calls Tryd.prog 16 #[.agg (relC N A)] W fun e w' => e = .returned (.bool true) ∧ Below W.heap.size W w' by have := right_any N A W A64; rwa [show rightB (N : Int) A = true from Ar] at this)
    replace hX := (hX.on h).cons hu
    clear h hu
    have l2 := (hX.at (b := w.heap.size) (n := N) (f := A) (by simp)).ld
    have l3 := (hX.at (b := w5.heap.size) (n := (N : Int) + 1) (f := zf) (by simp)).ld
    go_wp2_with fail
    clear l1 l2 l3 hs5
    refine (c1.out _).mono ?_
    rintro e w6 ⟨rfl, h⟩
    replace hX := hX.on h
    clear h
    obtain ⟨W6, hs6, hu, h, -⟩ := Ex.lay w6 0 zf
    replace hX := hX.on h
    clear h hu
    have l2 := (hX.at (b := w.heap.size) (n := N) (f := A) (by simp)).ld
    have l3 := (hX.at (b := w5.heap.size) (n := (N : Int) + 1) (f := zf) (by simp)).ld
    go_wp2_with fail
    clear l2 l3 hs6
    refine (c2.out _).mono ?_
    rintro e w7 ⟨rfl, h⟩
    replace hX := hX.on h
    clear h
    obtain ⟨W7, hs7, hu, h, -⟩ := Ex.lay w7 0 zf
    replace hX := hX.on h
    clear h hu
    have l2 := (hX.at (b := w.heap.size) (n := N) (f := A) (by simp)).ld
    go_wp2_with fail
    clear l2 hs7
    refine (c3.out _).mono ?_
    rintro e w8 ⟨rfl, h⟩
    replace hX := hX.on h
    clear h
    go_wp2_with fail
    refine (awake_any _ (hX.tab hT)).mono ?_
    rintro e w9 ⟨rfl, h⟩
    replace hX := hX.on h
    clear h
    go_wp2
    go_ret
    exact ⟨rfl, hX.1⟩
end Go.Proofs.YtnfkedcbhjbhkaaDoor
