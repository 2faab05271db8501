/- OrdCommonLaw in one text, for the claim. -/
import Derived.Deep.RegionWith
import Derived.Deep.DeepCutAuto
import Derived.Test.YtpmlomhlbmgilaaDoorOcM5
import Derived.Test.YtpmlomhlbmgilaaDoorOcM6
import Derived.Test.YtpmlomhlbmgilaaDoorOcM3

section
/- The law OrderCommon: the walk. -/
namespace Go.Proofs.YtpmlomhlbmgilaaDoor
open Go.RowKit Go.Shelf Go.BigFrame

attribute [local go_sem] Oper.semAt_some

theorem topPost_sl {N : Nat} {f : Nat → Nat} (hf : Rgt N f) {W : World} {e : Ending} {W' : World} (h : TopPost (topF N f) W e W') : ∃ v, e = .returned (.tuple #[v, .bool (topF N f).isSome]) ∧ SlI W'.heap.size W' v ((topF N f).getD []) ∧ Below W.heap.size W W' := by
  obtain ⟨v, h1, h2, h3⟩ := h
  refine ⟨v, h1, slI_of_row h2 ?_, h3⟩
  rcases top_cyc hf with ⟨l, e1, h⟩ | ⟨e1, _⟩
  · rw [e1]
    have := h.ord.len
    have := hf.le
    unfold maxLen
    simp only [Option.getD_some]
    omega
  · rw [e1]; decide

theorem total_ok {N : Nat} {l : List Nat} (hN : N ≤ 48) (ho : IsOrd N l) (v : Value) (w : World) (hs : SlI w.heap.size w v l) :
    Calls Tryd.prog 54 #[.int .i64 (N : Int), v] w fun e w' => e = .returned (.tuple #[.agg (relC N (totF N (iL l))), .int .i64 0]) ∧ Below w.heap.size w w' := by
  have := total_any N v (iL l) w (ExO.intSl_of hs)
  unfold TotalPost at this
  rw [ordB_of hN ho] at this
  exact this
theorem KS.put {w W W' : World} {b : Nat} {n m : Int} {f g : Nat → Nat} {rels : List (Nat × Int × (Nat → Nat))} (h : KS w W ((b, n, f) :: rels) [] []) (hO : Only b W W') (hR : RelAt W' b m g) (hb : w.heap.size ≤ b) (hne : ∀ x ∈ rels, x.1 ≠ b) : KS w W' ((b, m, g) :: rels) [] [] :=
  ⟨below_only h.below hO hb, fun x hx => by
    rcases List.mem_cons.1 hx with rfl | hx
    · exact hR
    · exact (h.rel x (by simp [hx])).only hO (hne x hx), fun _ h => (by cases h), fun _ h => (by cases h)⟩
theorem KS.rels {w W : World} {rels : List (Nat × Int × (Nat → Nat))} {sls : List (Value × List Nat)} {lls : List (Value × List (List Nat))} (h : KS w W rels sls lls) {rels' : List (Nat × Int × (Nat → Nat))} (hs : ∀ x ∈ rels', x ∈ rels) : KS w W rels' [] [] :=
  ⟨h.below, fun x hx => h.rel x (hs x hx), fun _ h => (by cases h), fun _ h => (by cases h)⟩

set_option maxRecDepth 100000 in
set_option maxHeartbeats 8000000 in
theorem orderCommon_law (n : Int) (f : Nat → Nat) (hf : R64 f) (w : World) (hT : Tab w) :
    Calls Tryd.prog 7 #[.agg (relC n f)] w fun e w' => e = .returned (.bool true) ∧ Below w.heap.size w w' := by
  obtain ⟨N, hNe, hN6, g64, gR, HFn⟩ := fine_ok n (most := 6) f hf (by omega) (by omega)
  clear hNe
  generalize fineF f N = F at *
  have hN6' : N ≤ 6 := by omega
  have hle := ordL_le gR hN6'
  have HF := Lib.hid HFn
  have CO := Lib.hid (fun W hT => orders_ok N F 720 (by omega) g64 gR hle W hT)
  have CT := Lib.hid (fun W hT => (top_any N F W g64 hT).mono fun e W' h => topPost_sl gR h)
  have hA := RelAt.new w n f
  have l1 := hA.ld
  have hB := below_new w (.cells (relC n f) 26)
  have Aw := Lib.hid (fun W hT => ordAwake_any W hT)
  have CC : Hid (∀ W, Calls Tryd.prog 18 #[.int .i64 (N : Int), .int .u64 18446744073709551615, .int .u64 18446744073709551615] W fun e w' => e = .returned (.agg (relC N (prodF N (2 ^ 64 - 1) (2 ^ 64 - 1)))) ∧ Below W.heap.size W w') := Lib.hid (fun W => cross_ok (N := N) (s := 2 ^ 64 - 1) (t := 2 ^ 64 - 1) gR.le (by decide) (by decide) W)
  have hcase : ((topF N F).isSome = true ∧ ordL N F ≠ []) ∨ ((topF N F).isSome = false ∧ ordL N F = []) := by
    rcases top_cyc gR with ⟨l, e1, h⟩ | ⟨e1, hc⟩
    · exact .inl ⟨by rw [e1]; rfl, (ordL_pos gR).2 (h.acyclic gR)⟩
    · exact .inr ⟨by rw [e1]; rfl, Classical.byContradiction fun hn => (ordL_pos gR).1 hn hc⟩
  clear HFn
  go_enter Tryd.func7, Tryd.ntmps7
  go_wp2_with fail
  refine (HF.out _).mono ?_
  rintro e w1 ⟨rfl, h1⟩
  obtain ⟨W1, hs1, hR, hO1⟩ := (hA.on h1).put N F
  have hB1 := below_only (thru hB h1) hO1 (Nat.le_refl _)
  have hX : KS w W1 [(w.heap.size, (N : Int), F)] [] [] := ⟨hB1, fun x hx => by simp at hx; subst hx; exact hR, fun _ h => (by cases h), fun _ h => (by cases h)⟩
  clear l1 hA hB h1 hR hO1 hB1
  have l := (hX.rel (w.heap.size, (N : Int), F) (by simp)).ld
  go_wp2_with fail
  clear l hs1
  refine (CO.out _ (hX.tab hT)).mono ?_
  rintro e w2 ⟨⟨v2, rfl, hv2⟩, hb⟩
  replace hX := (hX.on hb).addLs hv2
  obtain ⟨-, a2, c2, hve, -⟩ := id hv2
  subst hve
  clear hb hv2
  have l := (hX.rel (w.heap.size, (N : Int), F) (by simp)).ld
  go_wp2_with fail
  clear l
  refine (CT.out _ (hX.tab hT)).mono ?_
  rintro e w3 ⟨v3, rfl, hv3, hb⟩
  replace hX := (hX.on hb).addSl hv3
  clear hb hv3
  rcases hcase with ⟨hs, hne⟩ | ⟨hs, hne⟩
  · have t1 : decide (0 < (ordL N F).length) = true := by simpa [List.length_pos_iff] using hne
    rw [hs]
    have Hne := Lib.hid hne
    clear hne hs
    have c0 := (hX.rel (w.heap.size, (N : Int), F) (by simp)).num
    go_wp2_with fail
    refine (CC.out _).mono ?_
    rintro e w4 ⟨rfl, hb⟩
    have hbw : w.heap.size < w4.heap.size := by
      have := (hX.rel (w.heap.size, (N : Int), F) (by simp)).lt
      have := hb.size
      omega
    have hX4 := hX.on hb
    have hL4 := hX4.ls (.slice a2 (ordL N F).length c2, ordL N F) (by simp)
    have hS4 := hX4.sl (v3, (topF N F).getD []) (by simp)
    replace hX4 := hX4.rels (rels' := [(w.heap.size, (N : Int), F)]) (by simp)
    obtain ⟨W4, hs4, hR7, h47, hz4⟩ := Ex.lay w4 (N : Int) (prodF N (2 ^ 64 - 1) (2 ^ 64 - 1))
    have hX7 := (hX4.on h47).addRel hR7
    clear hb c0 hX
    obtain ⟨-, aL, cL, heL, hL⟩ := hL4
    have hm : Tryd.prog.follows .mixedOrders = true := by kernel_rfl
    have hK0 := comK_zero (N := N) (f := F) gR.le
    have HL := Lib.hid hL
    have HS := Lib.hid hS4
    have HX := Lib.hid hX7
    have H47 := Lib.hid h47
    cases heL
    clear hL hS4 hX4 hX7 h47 hR7
    go_wp2
    go_loopw [43] (fun i W => ∃ (k : Nat) (C : Nat → Nat), k ≤ (ordL N F).length ∧ i = .int .i64 k ∧ ComK N F k C ∧ KS w W [(w4.heap.size, (N : Int), C), (w.heap.size, (N : Int), F)] [] [] ∧ Below w4.heap.size w4 W) (fun i _ => (ordL N F).length - (intOf i).toNat)
    case atStart => exact ⟨0, _, Nat.zero_le _, rfl, hK0, HX.out, H47.out⟩
    case round =>
      clear HX hs4 hK0
      obtain ⟨k, C, hk, rfl, hC, hX, hB4⟩ := hrel
      by_cases hlt : k < (ordL N F).length
      · obtain ⟨x, hx⟩ : ∃ x, (ordL N F)[k]? = some x := ⟨(ordL N F)[k]'hlt, List.getElem?_eq_getElem _⟩
        obtain ⟨bl, rfl, hbl, hcl⟩ := HL.out (by omega)
        obtain ⟨u, hu, hsu⟩ := hcl k x hx
        have cu := (hB4.cell (p := ⟨bl, k, none⟩) hbl).trans hu
        have hsu2 := Lib.hid ((hsu.below hB4).mono (n₁ := wr.heap.size) hB4.size)
        have ho := ((mem_ordL gR).1 (List.mem_of_getElem? hx)).ord
        have CTt := Lib.hid (fun W v h => total_ok (l := x) gR.le ho v W h)
        have CB := Lib.hid (fun W => both_ok hC.r64 (totF_64 N (iL x)) hC.rgt (rgt_tot gR.le ho) W)
        have hC2 := Lib.hid (comK_step gR hC hx)
        have c0 := (hX.rel (w.heap.size, (N : Int), F) (by simp)).num
        have t1 : decide (k < (ordL N F).length) = true := by simpa using hlt
        have HX := Lib.hid hX
        have HB4 := Lib.hid hB4
        clear hcl hu hsu hx hX hB4 ho hC
        go_wp2_with fail
        refine (CTt.out _ _ hsu2.out).mono ?_
        rintro e w6 ⟨rfl, h6⟩
        obtain ⟨W6, hs6, hR6, h66, -⟩ := Ex.lay w6 (N : Int) (totF N (iL x))
        have hX := (((HX.out.on h6).on h66).addRel hR6)
        have hB4 := (HB4.out.trans (h6.mono (by have := HB4.out.size; omega))).trans (h66.mono (by have := HB4.out.size; have := h6.size; omega))
        have hne6 : w4.heap.size < w6.heap.size := by
          have := (HX.out.rel (w4.heap.size, (N : Int), C) (by simp)).lt
          have := h6.size
          omega
        clear HX HB4 h6 h66 hR6 c0
        have l1 := (hX.rel (w4.heap.size, (N : Int), C) (by simp)).ld
        have l2 := (hX.rel (w6.heap.size, (N : Int), totF N (iL x)) (by simp)).ld
        replace hX := Lib.hid (hX.rels (rels' := [(w4.heap.size, (N : Int), C), (w.heap.size, (N : Int), F)]) (by simp))
        replace hB4 := Lib.hid hB4
        generalize totF N (iL x) = T at *
        go_wp2_with fail
        clear l1 l2 hs6
        refine (CB.out _).mono ?_
        rintro e w8 ⟨rfl, h8⟩
        obtain ⟨W8, hs8, hR8, h88, -⟩ := Ex.lay w8 (N : Int) (bothF C T)
        have hX8 := ((hX.out.on h8).on h88)
        have hB8 := (hB4.out.trans (h8.mono (by have := hB4.out.size; omega))).trans (h88.mono (by have := hB4.out.size; have := h8.size; omega))
        have l3 := hR8.ld
        obtain ⟨W9, hs9, hR9, hO9⟩ := (hX8.rel (w4.heap.size, (N : Int), C) (by simp)).put (N : Int) (bothF C T)
        have hX9 := Lib.hid (KS.put hX8 hO9 hR9 (by omega) (by intro y hy; simp at hy; subst hy; simp; omega))
        have hB9 := Lib.hid (below_only hB8 hO9 (Nat.le_refl _))
        clear hX hX8 hB8 hB4 hO9 hR9 h8 h88 hR8
        go_wp2
        go_roundw
        case rel => exact ⟨k + 1, _, by omega, by go_num, hC2.out, hX9.out, hB9.out⟩
        case measure => simp [intOf]; omega
      · obtain rfl : k = (ordL N F).length := by omega
        have hlen : 0 < (ordL N F).length := List.length_pos_iff.2 Hne.out
        obtain ⟨bl, rfl, hbl, hcl⟩ := HL.out hlen
        obtain ⟨x, hx⟩ : ∃ x, (ordL N F)[0]? = some x := ⟨(ordL N F)[0]'hlen, List.getElem?_eq_getElem _⟩
        obtain ⟨u, hu, hsu⟩ := hcl 0 x hx
        have htop : (topF N F).getD [] = x := by
          rcases top_cyc gR with ⟨l, e1, _⟩ | ⟨_, hc⟩
          · have := ordL_head gR e1
            rw [List.head?_eq_getElem?, hx] at this
            rw [e1]
            exact (Option.some.inj this).symm
          · exact absurd hc ((ordL_pos gR).1 Hne.out)
        have HS2 := HS.out
        rw [htop] at HS2
        have hEq := comK_end gR Hne.out hC
        have rC : Hid (∀ W, Below wr.heap.size wr W → RelAt W w4.heap.size N C) := Lib.hid (fun W (h : Below wr.heap.size wr W) => (hX.rel (w4.heap.size, (N : Int), C) (by simp)).on h)
        have rF : Hid (∀ W, Below wr.heap.size wr W → RelAt W w.heap.size N F) := Lib.hid (fun W (h : Below wr.heap.size wr W) => (hX.rel (w.heap.size, (N : Int), F) (by simp)).on h)
        have hwr := hB4.size
        have rU := Lib.hid (fun W (h : Below wr.heap.size wr W) => ((hsu.below hB4).mono hwr).on h)
        have rV := Lib.hid (fun W (h : Below wr.heap.size wr W) => ((HS2.below hB4).mono hwr).on h)
        have rc := Lib.hid (fun W (h : Below wr.heap.size wr W) => (h.cell (p := ⟨bl, 0, none⟩) (show bl < wr.heap.size by omega)).trans ((hB4.cell (p := ⟨bl, 0, none⟩) hbl).trans hu))
        have tb := Lib.hid (hX.tab hT)
        have HX := Lib.hid hX
        have CP := Lib.hid (fun W hT => plus_ok g64 gR W hT)
        clear hX hB4 hcl hu hsu hx htop HS2 hC
        generalize plusF N F = P at *
        have t0 : decide (0 < (ordL N F).length) = true := by simpa using hlen
        go_upto_region 18 with fail
        refine wp_region_below wr.heap.size wr (by kernel_rfl) (by kernel_rfl) (Below.refl _ _) ?_
        repeat (first
          | go_big_quiet_step (first
            | (intro _; exact rfl)
            | (intro hW; go_at_call 32; exact Calls.below_of hW (CP.out _ (tab_on tb.out hW)))
            | (intro hW; go_at_call 42; exact Calls.below_of hW (ints_eq (rU.out _ hW) (rV.out _ hW)))
            | (intro hW; go_at_call 50; exact Calls.below_of hW (Aw.out _ (tab_on tb.out hW))))
          | (refine wpQuiet_want rfl fun K hK => ?_
             first
               | refine quiet_loadRel (.tmp 7) rfl _ rfl _ _ rC.out (hK _ ?_)
               | refine quiet_loadRel (.tmp 1) rfl _ rfl _ _ rF.out (hK _ ?_)
             clear hK K
             simp only [Act.put, List.setIfInBounds_toArray, List.set_cons_succ, List.set_cons_zero])
          | (refine wpQuiet_want rfl fun K hK => ?_
             refine quiet_load 46 (.tmp 74) rfl ⟨bl, 0, none⟩ rfl u (fun _ => by kernel_rfl) rc.out (hK _ ?_)
             clear hK K
             simp only [Act.put, List.setIfInBounds_toArray, List.set_cons_succ, List.set_cons_zero]))
        refine wpQuiet_nil ?_
        intro wz hz2
        go_wp2
        go_ret
        exact ⟨rfl, thru HX.out.below hz2⟩
  · have hl0 : (ordL N F).length = 0 := by rw [hne]; rfl
    rw [hs]
    clear hne
    go_wp2_with fail
    refine (Aw.out _ (hX.tab hT)).mono ?_
    rintro e w5 ⟨rfl, hb⟩
    go_wp2
    go_ret
    exact ⟨rfl, (hX.on hb).below⟩
end Go.Proofs.YtpmlomhlbmgilaaDoor
end
