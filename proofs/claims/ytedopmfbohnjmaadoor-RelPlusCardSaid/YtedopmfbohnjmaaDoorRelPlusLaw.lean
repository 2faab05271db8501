/- The law of the transitive closure: the walk. -/
import Derived.Deep.RegionWith
import Derived.Deep.QuietTactic
import Derived.Deep.DeepCutAuto
import Derived.Test.YtedopmfbohnjmaaDoorRelPlusAlg
namespace Go.Proofs.YtedopmfbohnjmaaDoor
open Go.RowKit Go.Shelf Go.BigFrame

attribute [local go_sem] Oper.semAt_some

theorem Keeps.setCell {w W : World} {N b : Nat} {l : List (Nat × (Nat → Nat))} (h : Keeps w W N l) (v : Value) (hb : w.heap.size ≤ b) (hl : ∀ p ∈ l, p.1 ≠ b) : Keeps w (W.setCell ⟨b, 0, none⟩ v) N l :=
  ⟨h.1.setCell hb v, fun p hp => (h.2 p hp).other _ _ (hl p hp)⟩
theorem Keeps.only' {w W W' : World} {N b : Nat} {l : List (Nat × (Nat → Nat))} (h : Keeps w W N l) (hO : Only b W W') (hb : w.heap.size ≤ b) (hl : ∀ p ∈ l, p.1 ≠ b) : Keeps w W' N l :=
  ⟨below_only h.1 hO hb, fun p hp => (h.2 p hp).only hO (hl p hp)⟩

set_option maxRecDepth 100000 in
set_option maxHeartbeats 8000000 in
theorem plus_law (na nb : Int) (fa fb : Nat → Nat) (ha : R64 fa) (hb : R64 fb) (w : World) (hT : Tab w) :
    Calls Tryd.prog 5 #[.agg (relC na fa), .agg (relC nb fb)] w fun e w' => e = .returned (.bool true) ∧ Below w.heap.size w w' := by
  have hp := hT.pos
  obtain ⟨N, -, hN20, A64, Ar, HA⟩ := fine_ok na (most := 20) fa ha (by decide) (by decide)
  obtain ⟨M, -, -, B64, -, HB⟩ := fine_ok nb (most := 20) fb hb (by decide) (by decide)
  generalize fineF fa N = A at *
  generalize fineF fb M = B at *
  obtain ⟨C64, Cr, HC⟩ := fine_keep N (most := 20) B B64 hN20 (by decide)
  generalize fineF B N = C at *
  obtain ⟨P, hP⟩ : ∃ F, F = plusF N A := ⟨_, rfl⟩
  have P64 : R64 P := by rw [hP]; exact plus_64 A64
  have Pr : Rgt N P := by rw [hP]; exact rgt_plus Ar
  obtain ⟨TW, hTW⟩ : ∃ F, F = thenF P P := ⟨_, rfl⟩
  have TW64 : R64 TW := by rw [hTW]; exact thenF_64 _ P64
  have TWr : Rgt N TW := by rw [hTW]; exact rgt_then Pr Pr
  obtain ⟨PP, hPP⟩ : ∃ F, F = plusF N P := ⟨_, rfl⟩
  have PP64 : R64 PP := by rw [hPP]; exact plus_64 P64
  have PPr : Rgt N PP := by rw [hPP]; exact rgt_plus Pr
  obtain ⟨PC, hPC⟩ : ∃ F, F = plusF N C := ⟨_, rfl⟩
  have PC64 : R64 PC := by rw [hPC]; exact plus_64 C64
  have PCr : Rgt N PC := by rw [hPC]; exact rgt_plus Cr
  obtain ⟨MO, hMO⟩ : ∃ F, F = unionF A PC := ⟨_, rfl⟩
  have MO64 : R64 MO := by rw [hMO]; exact union_64 A64 PC64
  have MOr : Rgt N MO := by rw [hMO]; exact rgt_union Ar PCr
  obtain ⟨ON, hON⟩ : ∃ F, F = plusF N MO := ⟨_, rfl⟩
  have ON64 : R64 ON := by rw [hON]; exact plus_64 MO64
  have ONr : Rgt N ON := by rw [hON]; exact rgt_plus MOr
  obtain ⟨ST, hST⟩ : ∃ F, F = thenF ON ON := ⟨_, rfl⟩
  have ST64 : R64 ST := by rw [hST]; exact thenF_64 _ ON64
  have STr : Rgt N ST := by rw [hST]; exact rgt_then ONr ONr
  have e1 : relB N N PP P = true := by rw [hPP, hP]; exact plus_plus Ar
  have cPP := Lib.hid (fun w (hT : Tab w) => plus_ok P64 Pr w hT)
  rw [← hPP] at cPP
  have cP := Lib.hid (fun w (hT : Tab w) => plus_ok A64 Ar w hT)
  rw [← hP] at cP
  have cPC := Lib.hid (fun w (hT : Tab w) => plus_ok C64 Cr w hT)
  rw [← hPC] at cPC
  have cON := Lib.hid (fun w (hT : Tab w) => plus_ok MO64 MOr w hT)
  rw [← hON] at cON
  have cTW := Lib.hid (fun w (hT : Tab w) => then_ok P64 P64 Pr Pr w hT)
  rw [← hTW] at cTW
  have cST := Lib.hid (fun w (hT : Tab w) => then_ok ON64 ON64 ONr ONr w hT)
  rw [← hST] at cST
  have cMO := Lib.hid (fun w => union_ok A64 PC64 Ar PCr w)
  rw [← hMO] at cMO
  have i1 := Lib.hid (in_ok Ar Pr A64 P64 (fun i j hi hx => by rw [hP]; exact plus_base Ar hi hx))
  have i2 := Lib.hid (in_ok TWr Pr TW64 P64 (fun i j hi hx => by
    rw [hTW, bt_then Pr hi] at hx
    obtain ⟨m, hm, h1, h2⟩ := hx
    rw [hP] at h1 h2 ⊢
    exact plus_trans Ar hi hm h1 h2))
  have hMA : ∀ i j, i < 48 → Bt A i j → Bt ON i j := fun i j hi hx => by
    rw [hON]
    refine plus_base MOr hi ?_
    rw [hMO]
    exact (bt_union _ _ i j).2 (.inl hx)
  have hOT : ∀ i m j, i < 48 → m < 48 → Bt ON i m → Bt ON m j → Bt ON i j := fun i m j hi hm h1 h2 => by
    rw [hON] at h1 h2 ⊢
    exact plus_trans MOr hi hm h1 h2
  have i3 := Lib.hid (in_ok Pr ONr P64 ON64 (fun i j hi hx => by
    rw [hP] at hx
    exact plus_min Ar hMA hOT hi hx))
  have i4 := Lib.hid (in_ok STr ONr ST64 ON64 (fun i j hi hx => by
    rw [hST, bt_then ONr hi] at hx
    obtain ⟨m, hm, h1, h2⟩ := hx
    exact hOT i m j hi hm h1 h2))
  clear hMA hOT hP hTW hPP hPC hMO hON hST
  clear P64 Pr TW64 TWr PP64 PPr PC64 PCr MO64 MOr ON64 ONr ST64 STr C64 Cr A64 Ar B64 ha hb
  replace HA := Lib.hid HA
  replace HB := Lib.hid HB
  replace HC := Lib.hid HC
  have hA := (RelAt.new w na fa).alloc (.cells (relC nb fb) 26)
  have hM := RelAt.new (w.alloc (.cells (relC na fa) 26)) nb fb
  rw [World.size_alloc] at hM
  have hBl := thru (below_new w (.cells (relC na fa) 26)) (below_new _ (.cells (relC nb fb) 26))
  have ne1 : w.heap.size ≠ w.heap.size + 1 := by omega
  have ne2 : w.heap.size + 1 ≠ w.heap.size := by omega
  have le1 : w.heap.size ≤ w.heap.size + 1 := by omega
  have le0 : w.heap.size ≤ w.heap.size := by omega
  go_enter Tryd.func5, Tryd.ntmps5
  go_upto_region 1 with fail
  obtain ⟨wa, hwa⟩ : ∃ W, W = (w.alloc (.cells (relC na fa) 26)).alloc (.cells (relC nb fb) 26) := ⟨_, rfl⟩
  rw [← hwa] at hA hM hBl ⊢
  clear hwa
  have l1 := hA.drew.ld
  have l2 := hM.drew.ld
  go_cut [] (fun W => Keeps w W N [(w.heap.size, A)] ∧ RelAt W (w.heap.size + 1) M B)
  case first =>
    go_region_with (first
      | (go_at_call_of 50 (Value.agg (relC na fa))
         refine (HA.out _).mono ?_
         rintro e wq ⟨rfl, hq⟩
         have h4 : Below wa.heap.size wa wq := undrew hq
         have lq := (hM.on h4).ld)
      | (go_at_call_of 50 (Value.agg (relC nb fb))
         refine (HB.out _).mono ?_
         rintro e wr ⟨rfl, hr⟩
         have h6 := thru h4 hr
         obtain ⟨Wf, hsf, hf1, hO1⟩ := (hA.on h6).put N A
         obtain ⟨Wg, hsg, hg1, hO2⟩ := ((hM.on h6).only hO1 ne2).put M B
         have hA3 := hf1.only hO2 ne1
         have hBl3 := below_only (below_only (thru hBl h6) hO1 le0) hO2 le1))
    all_goals (go_wp2_with fail; go_meet; exact ⟨⟨hBl3, fun p hp => by simp at hp; subst hp; exact hA3⟩, hg1⟩)
  case rest =>
    obtain ⟨hX, hR3⟩ := hcut
    clear hA hM hBl l1 l2
    have l1 := (hX.at (b := w.heap.size) (f := A) (by simp)).ld
    go_wp2_with fail
    clear l1
    refine (cP.out _ (hX.tab hT)).mono ?_
    rintro e w2 ⟨rfl, h⟩
    replace hX := hX.on h
    replace hR3 := hR3.on h
    clear h
    have z2 : w2.heap.size ≠ w.heap.size + 1 := by have := hR3.lt; omega
    obtain ⟨W2, hs2, hu, h, -⟩ := Ex.lay w2 N P
    replace hX := (hX.on h).cons hu
    replace hR3 := hR3.on h
    clear h hu
    have l1 := (hX.at (b := w2.heap.size) (f := P) (by simp)).ld
    go_wp2_with fail
    clear hs2 l1
    refine (cTW.out _ (hX.tab hT)).mono ?_
    rintro e w3 ⟨rfl, h⟩
    replace hX := hX.on h
    replace hR3 := hR3.on h
    clear h
    have z3 : w3.heap.size ≠ w.heap.size + 1 := by have := hR3.lt; omega
    obtain ⟨W3, hs3, hu, h, -⟩ := Ex.lay w3 N TW
    replace hX := (hX.on h).cons hu
    replace hR3 := hR3.on h
    clear h hu
    go_upto_region 4 with fail
    clear hs3
    have tb := Lib.hid (hX.tab hT)
    have r1 := Lib.hid (fun W (h : Below W3.heap.size W3 W) => (hX.at (b := w.heap.size) (f := A) (by simp)).on h)
    have r2 := Lib.hid (fun W (h : Below W3.heap.size W3 W) => (hX.at (b := w2.heap.size) (f := P) (by simp)).on h)
    have r3 := Lib.hid (fun W (h : Below W3.heap.size W3 W) => (hX.at (b := w3.heap.size) (f := TW) (by simp)).on h)
    replace hX := Lib.hid hX
    replace hR3 := Lib.hid hR3
    refine wp_region_below W3.heap.size W3 (by kernel_rfl) (by kernel_rfl) (Below.refl _ _) ?_
    repeat (first
      | go_big_quiet_step (first
        | (intro _; exact rfl)
        | (intro hW; go_at_call_of 51 (Value.agg (relC (N : Int) A)); exact Calls.below_of hW (i1.out _))
        | (intro hW; go_at_call_of 51 (Value.agg (relC (N : Int) TW)); exact Calls.below_of hW (i2.out _))
        | (intro hW; go_at_call 32; exact Calls.below_of hW (cPP.out _ (tab_on tb.out hW))))
      | (refine wpQuiet_want rfl fun K hK => ?_
         first
           | refine quiet_loadRel (.tmp 2) rfl _ rfl _ _ r1.out (hK _ ?_)
           | refine quiet_loadRel (.tmp 5) rfl _ rfl _ _ r2.out (hK _ ?_)
           | refine quiet_loadRel (.tmp 6) rfl _ rfl _ _ r3.out (hK _ ?_)
         clear hK K
         simp only [Act.put, List.setIfInBounds_toArray, List.set_cons_succ, List.set_cons_zero]))
    refine wpQuiet_nil ?_
    intro w4 h
    replace hX := hX.out.on h
    replace hR3 := hR3.out.on h
    clear h r1 r2 r3 tb
    have n1 := (hX.at (b := w.heap.size) (f := A) (by simp)).num
    have n2 := hR3.num
    have n3 := hR3.free 0
    obtain ⟨w5, hw5⟩ : ∃ W, W = w4.setCell ⟨w.heap.size + 1, 0, none⟩ (.int .i64 (N : Int)) := ⟨_, rfl⟩
    have hX5 : Keeps w w5 N [(w3.heap.size, TW), (w2.heap.size, P), (w.heap.size, A)] := by rw [hw5]; exact hX.setCell _ le1 (by simp only [List.mem_cons, List.not_mem_nil, or_false]; rintro p (rfl | rfl | rfl) <;> assumption)
    have hR5 := hR3.setN N
    rw [← hw5] at hR5
    have l5 := hR5.ld
    replace hw5 := hw5.symm
    go_wp2_with fail
    clear l5 hw5 n1 n2 n3 hX hR3
    refine (HC.out _).mono ?_
    rintro e w6 ⟨rfl, h⟩
    replace hX5 := hX5.on h
    replace hR5 := hR5.on h
    clear h
    obtain ⟨W6, hs6, hR6, hO6⟩ := hR5.put N C
    have hX := (hX5.only' hO6 le1 (by simp only [List.mem_cons, List.not_mem_nil, or_false]; rintro p (rfl | rfl | rfl) <;> assumption)).cons hR6
    clear hX5 hR5 hO6 hR6
    go_upto_region 8 with fail
    clear hs6
    have hTb := hX.tab hT
    have rA := hX.at (b := w.heap.size) (f := A) (by simp)
    have rC := hX.at (b := w.heap.size + 1) (f := C) (by simp)
    have l1 := rA.drew.ld
    have l2 := (rA.alloc (.cells (relC 0 zf) 26)).drew.ld
    have l3 := rC.drew.ld
    have l4 := (rC.alloc (.cells (relC 0 zf) 26)).drew.ld
    go_cut [8, 9] (fun v8 v9 W => ∃ b', v8 = .pointer (some ⟨b', 0, none⟩) ∧ v9 = .int .i64 0 ∧ Below W6.heap.size W6 W ∧ RelAt W b' N MO)
    case first =>
      go_region_with (first
        | (go_at_call 32
           refine (cPC.out _ ?_).mono ?_
           · first | exact hTb | exact tab_new hTb _
           rintro e wq ⟨rfl, hq⟩
           first
             | (have h4 : Below W6.heap.size W6 wq := undrew hq
                have lq := (rA.on h4).ld
                have lq2 := ((rA.on h4).alloc (.cells (relC 0 zf) 26)).ld)
             | (have h5 : Below (W6.alloc (.cells (relC 0 zf) 26)).heap.size (W6.alloc (.cells (relC 0 zf) 26)) wq := undrew hq
                have hz := (RelAt.new W6 0 zf).on h5
                have h4 := thru (below_new W6 (.cells (relC 0 zf) 26)) h5
                have lq := (rA.on h4).ld))
        | (go_at_call 20
           refine (cMO.out _).mono ?_
           rintro e wr ⟨rfl, hr⟩
           first
             | (have hz2 := hz.on hr
                have h6 := thru h4 hr
                obtain ⟨Wf, hsf, hfin, hO⟩ := hz2.put N MO
                have hbf := below_only h6 hO (Nat.le_refl _))
             | (have hz2 := (RelAt.new wq 0 zf).on hr
                have h6 := thru (thru h4 (below_new wq (.cells (relC 0 zf) 26))) hr
                obtain ⟨Wf, hsf, hfin, hO⟩ := hz2.put N MO
                have hbf := below_only h6 hO h4.size)
             | (have h6 := thru h4 hr
                obtain ⟨Wf, hsf, hfin, hO, -⟩ := Ex.lay wr N MO
                have hbf := thru h6 hO)))
      all_goals (go_wp2_with fail; go_meet; exact ⟨_, rfl, rfl, hbf, hfin⟩)
    case rest =>
      obtain ⟨b', rfl, rfl, hbf, hfin⟩ := hcut
      replace hX := (hX.on hbf).cons hfin
      clear hbf hfin l1 l2 l3 l4 hTb rA rC
      have l1 := (hX.at (b := b') (f := MO) (by simp)).ld
      go_wp2_with fail
      clear l1
      refine (cON.out _ (hX.tab hT)).mono ?_
      rintro e w8 ⟨rfl, h⟩
      replace hX := hX.on h
      clear h
      obtain ⟨W8, hs8, hu, h, -⟩ := Ex.lay w8 N ON
      replace hX := (hX.on h).cons hu
      clear h hu
      have l1 := (hX.at (b := w2.heap.size) (f := P) (by simp)).ld
      have l2 := (hX.at (b := w8.heap.size) (f := ON) (by simp)).ld
      go_wp2_with fail
      clear hs8 l1 l2
      refine (i3.out _).mono ?_
      rintro e w9 ⟨rfl, h⟩
      replace hX := hX.on h
      clear h
      have l2 := (hX.at (b := w8.heap.size) (f := ON) (by simp)).ld
      go_wp2_with fail
      clear l2
      refine (cST.out _ (hX.tab hT)).mono ?_
      rintro e w10 ⟨rfl, h⟩
      replace hX := hX.on h
      clear h
      obtain ⟨W10, hs10, hu, h, -⟩ := Ex.lay w10 N ST
      replace hX := (hX.on h).cons hu
      clear h hu
      have l1 := (hX.at (b := w10.heap.size) (f := ST) (by simp)).ld
      have l2 := (hX.at (b := w8.heap.size) (f := ON) (by simp)).ld
      go_wp2_with fail
      clear hs10 l1 l2
      refine (i4.out _).mono ?_
      rintro e w11 ⟨rfl, h⟩
      replace hX := hX.on h
      clear h
      go_wp2_with fail
      refine (awake_any _ (hX.tab hT)).mono ?_
      rintro e w12 ⟨rfl, h⟩
      replace hX := hX.on h
      clear h
      go_wp2
      go_ret
      exact ⟨rfl, hX.1⟩
end Go.Proofs.YtedopmfbohnjmaaDoor
