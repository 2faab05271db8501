/- OrdTotLaw in one text, for the claim. -/
import Derived.Deep.RegionWith
import Derived.Deep.DeepCutAuto
import Derived.Test.YtpmlomhlbmgilaaDoorOtM2
import Derived.Test.YtpmlomhlbmgilaaDoorOtM1
import Derived.Test.YtpmlomhlbmgilaaDoorOtM5
import Derived.Test.YtpmlomhlbmgilaaDoorOtM6

section
/- The law OrderTotal: the walk. -/
namespace Go.Proofs.YtpmlomhlbmgilaaDoor
open Go.RowKit Go.Shelf Go.BigFrame

attribute [local go_sem] Oper.semAt_some

theorem total_ord {N : Nat} {l : List Nat} (hN : N ≤ 48) (ho : IsOrd N l) (v : Value) (w : World) (hs : SlI w.heap.size w v l) :
    Calls Tryd.prog 54 #[.int .i64 (N : Int), v] w fun e w' => e = .returned (.tuple #[.agg (relC N (totF N (iL l))), .int .i64 0]) ∧ Below w.heap.size w w' := by
  have := total_any N v (iL l) w (ExO.intSl_of hs)
  unfold TotalPost at this
  rw [ordB_of hN ho] at this
  exact this
theorem of_ord {N : Nat} {l : List Nat} (hN : N ≤ 48) (ho : IsOrd N l) (w : World) (hT : Tab w) :
    Calls Tryd.prog 56 #[.agg (relC N (totF N (iL l)))] w fun e w' => ∃ v, e = .returned (.tuple #[v, .bool true]) ∧ SlI w'.heap.size w' v l ∧ Below w.heap.size w w' := by
  have := ordOf_any N (totF N (iL l)) (totF_64 _ _) w hT
  rw [of_tot hN ho] at this
  exact this.mono fun e w' ⟨v, h1, h2, h3⟩ => ⟨v, h1, slI_of_row h2 (by have := ho.len; show l.length ≤ maxLen; unfold maxLen; omega), h3⟩
theorem rev_take {l : List Nat} {k x : Nat} (hk : k < l.length) (hx : l[l.length - 1 - k]? = some x) : l.reverse.take (k + 1) = l.reverse.take k ++ [x] := by
  have h : l.reverse[k]? = some x := by rw [List.getElem?_reverse hk, hx]
  have hk' := (List.getElem?_eq_some_iff.1 h).1
  rw [List.take_succ_eq_append_getElem hk', (List.getElem?_eq_some_iff.1 h).2]

set_option maxRecDepth 100000 in
set_option maxHeartbeats 8000000 in
theorem orderTotal_law (c : Int) (c0 : 0 ≤ c) (c1 : c ≤ 255) (va vb : Value) (za zb : List Int) (hza : ∀ z ∈ za, 0 ≤ z ∧ z ≤ 255) (hzb : ∀ z ∈ zb, 0 ≤ z ∧ z ≤ 255) (w : World)
    (ha : NumSl .u8 w.heap.size w va za) (hb : NumSl .u8 w.heap.size w vb zb) (hT : Tab w) :
    Calls Tryd.prog 8 #[.int .u8 c, va, vb] w fun e w' => e = .returned (.bool true) ∧ Below w.heap.size w w' := by
  obtain ⟨N, hNe⟩ : ∃ N : Nat, c % 49 = (N : Int) := ⟨(c % 49).toNat, by omega⟩
  have hN : N ≤ 48 := by omega
  obtain ⟨i0, hi, hz0, hz1, hz2⟩ := infoIntC
  have CA := Lib.hid (fun W h => mixed_any N hN va za hza W h)
  have CB := Lib.hid (fun W h => mixed_any N hN vb zb hzb W h)
  have HA := Lib.hid ha
  have HB := Lib.hid hb
  have Aw := Lib.hid (fun W hT => ordAwake_any W hT)
  clear ha hb
  go_enter Tryd.func8, Tryd.ntmps8
  go_wp2_with fail
  refine (CA.out _ HA.out).mono ?_
  rintro e w1 ⟨v1, L, rfl, hL, hs1, h1⟩
  obtain ⟨-, aL, cL, hve, -⟩ := id hs1
  subst hve
  have hX := ((KS.nil w).on h1).addSl hs1
  clear h1 hs1
  go_wp2_with fail
  refine (CB.out _ ((HB.out.below hX.below).mono hX.below.size)).mono ?_
  rintro e w2 ⟨v2, M, rfl, hM, hs2, h2⟩
  replace hX := (hX.on h2).addSl hs2
  clear h2 hs2 CA CB HA HB
  have hq : Hid (keepB N (totF N (iL L)) (iL M) = decide (L = M)) := Lib.hid (keep_tot hN hL hM)
  have CT := Lib.hid (fun v W h => total_ord hN hL v W h)
  have CO := Lib.hid (fun W hT => of_ord hN hL W hT)
  have CK := Lib.hid (fun v W (h : SlI W.heap.size W v M) => by have := keeps_any N (totF N (iL L)) (totF_64 _ _) v (iL M) W (ExO.intSl_of h); rw [hq.out] at this; exact this)
  have CP := Lib.hid (fun W hT => plus_ok (totF_64 N (iL L)) (rgt_tot hN hL) W hT)
  have CBk := Lib.hid (fun W hT => turn_ok (totF_64 N (iL L)) (rgt_tot hN hL) W hT)
  have CT2 := Lib.hid (fun v W h => total_ord hN (rev_ord hL) v W h)
  have eP := plus_tot hN hL
  have eB := back_tot hN hL
  have hlenL := Lib.hid hL.len
  clear hq
  generalize totF N (iL L) = T at *
  generalize totF N (iL L.reverse) = T' at *
  generalize plusF N T = P at *
  generalize backF N T = Bk at *
  go_wp2_with fail
  refine (CT.out _ _ (hX.sl (_, L) (by simp))).mono ?_
  rintro e w3 ⟨rfl, h3⟩
  obtain ⟨W3, hs3, hX3, hz3⟩ := hX.lay h3 (N : Int) T
  have hR := hX3.rel (w3.heap.size, (N : Int), T) (by simp)
  have l := hR.ld
  clear hX h3
  replace hz3 := Lib.hid hz3
  go_wp2_with fail
  clear hs3 l
  refine (CO.out _ (hX3.tab hT)).mono ?_
  rintro e w4 ⟨v4, rfl, hs4, h4⟩
  have hX := (hX3.on h4).addSl hs4
  have hX4 := Lib.hid hX
  clear hX3 hs4 h4 hR CO CT
  obtain ⟨-, aL', cL', heL, hcL⟩ := id (hX.sl (.slice aL L.length cL, L) (by simp))
  cases heL
  have hcL := Lib.hid hcL
  clear hX
  go_wp2
  go_loopw [14, 15, 42] (fun t _ i W => ∃ k : Nat, k ≤ L.length ∧ i = .int .i64 k ∧ W.ownsRow w4.heap.size 3 1 t k ((L.reverse.take k).map intV) ∧ Below w4.heap.size w4 W) (fun _ _ i _ => L.length - (intOf i).toNat)
  case atStart => exact ⟨0, Nat.zero_le _, rfl, World.ownsRow_nil _ _ _ _, Below.refl _ _⟩
  case round =>
    obtain ⟨k, hk, rfl, hown, hB⟩ := hrel
    by_cases hlt : k < L.length
    · have t1 : decide (k < L.length) = true := by simpa using hlt
      obtain ⟨b, rfl, hbl, hcl⟩ := hcL.out (by show 0 < L.length; omega)
      obtain ⟨x, hx⟩ : ∃ x, L[L.length - 1 - k]? = some x := ⟨L[L.length - 1 - k]'(by omega), List.getElem?_eq_getElem _⟩
      have cx := (hB.cell (p := ⟨b, L.length - 1 - k, none⟩) hbl).trans (hcl (L.length - 1 - k) (by show _ < L.length; omega))
      rw [hx, Option.getD_some] at cx
      have hrt := Lib.hid (rev_take hlt hx)
      have hL48 : L.length ≤ 48 := by have := hlenL.out; omega
      have hBs := hB.size
      replace hB := Lib.hid hB
      clear hcl hx
      go_wp2_with (at_builtin; refine wpList_append_own _ rfl _ _ 46 rfl w4.heap.size 3 i0 (.int .i64 0) 1 8 Tryd.underlying46 hi hz0 hz1 hz2 rfl (by decide) _ _ _ rfl (hown.alloc _) ⟨wr.heap.size, 0, none⟩ 1 1 [.int .i64 (x : Int)] rfl rfl (cell_one_new _ _ _) (by intro u hu; simp at hu; subst hu; rfl) (by unfold maxLen; omega) (by omega) (by simp; omega) ?_; intro v5 w5 hown1 hgrow1 _)
      have hown5 := Lib.hid (show w5.ownsRow w4.heap.size 3 1 v5 (k + 1) ((L.reverse.take (k + 1)).map intV) by
        rw [hrt.out, List.map_append]
        exact hown1)
      have hB5 := Lib.hid ((hB.out.alloc hBs (.cells #[.int .i64 (x : Int)] 3)).grown hgrow1 (by simp; omega) (fun j hj => by
        rcases hown.2 with ⟨rfl, _⟩ | ⟨g, cap, cur, rfl, hg, _⟩
        · cases hj
        · cases hj; exact hg))
      clear hown1 hgrow1
      go_roundw
      case rel => exact ⟨k + 1, by omega, by go_num, hown5.out, hB5.out⟩
      case measure => simp [intOf]; omega
    · obtain rfl : k = L.length := by omega
      have t1 : decide (L.length < L.length) = false := by simp
      have hsT : SlI wr.heap.size wr u14 L.reverse := slI_of_row (base := w4.heap.size) (by
        rw [List.length_reverse]
        have h := hown
        rw [show L.reverse.take L.length = L.reverse by rw [← List.length_reverse, List.take_length]] at h
        exact h) (by rw [List.length_reverse, hlenL.out]; unfold maxLen; omega)
      have hX := hX4.out.on hB
      clear hX4 hown hcL
      go_wp2_with fail
      refine (CT2.out _ _ hsT).mono ?_
      rintro e w5 ⟨rfl, h5⟩
      obtain ⟨W5, hs5, hX5, hz5⟩ := hX.lay h5 (N : Int) T'
      clear hX h5 hB hsT CT2 hz5
      generalize hd : decide (L = M) = q at *
      have hqq : (q == q) = true := by simp
      go_upto_region 14 with fail
      have tb := Lib.hid (hX5.tab hT)
      have rT : Hid (∀ W, Below W5.heap.size W5 W → RelAt W w3.heap.size N T) := Lib.hid (fun W (h : Below W5.heap.size W5 W) => (hX5.rel (w3.heap.size, (N : Int), T) (by simp)).on h)
      have rT' : Hid (∀ W, Below W5.heap.size W5 W → RelAt W w5.heap.size N T') := Lib.hid (fun W (h : Below W5.heap.size W5 W) => (hX5.rel (w5.heap.size, (N : Int), T') (by simp)).on h)
      have sL : Hid (∀ W, Below W5.heap.size W5 W → SlI W.heap.size W (.slice aL L.length cL) L) := Lib.hid (fun W (h : Below W5.heap.size W5 W) => (hX5.sl (.slice aL L.length cL, L) (by simp)).on h)
      have sM : Hid (∀ W, Below W5.heap.size W5 W → SlI W.heap.size W v2 M) := Lib.hid (fun W (h : Below W5.heap.size W5 W) => (hX5.sl (v2, M) (by simp)).on h)
      have s4 : Hid (∀ W, Below W5.heap.size W5 W → SlI W.heap.size W v4 L) := Lib.hid (fun W (h : Below W5.heap.size W5 W) => (hX5.sl (v4, L) (by simp)).on h)
      have CI : Hid (∀ W, Below W5.heap.size W5 W → Calls Tryd.prog 42 #[.slice aL L.length cL, v2] W fun e w' => e = .returned (.bool q) ∧ Below W.heap.size W w') :=
        Lib.hid (fun W h => (ints_any _ _ L M _ W (sL.out W h) (sM.out W h)).mono fun e w' ⟨h1, h2⟩ => ⟨by rw [h1, hd], h2 _⟩)
      have HX := Lib.hid hX5
      replace hd := Lib.hid hd
      clear hX5
      refine wp_region_below W5.heap.size W5 (by kernel_rfl) (by kernel_rfl) (Below.refl _ _) ?_
      repeat (first
        | go_big_quiet_step (first
          | (intro _; exact rfl)
          | (intro hW; go_at_call 32; exact Calls.below_of hW (CP.out _ (tab_on tb.out hW)))
          | (intro hW; go_at_call 30; exact Calls.below_of hW (CBk.out _ (tab_on tb.out hW)))
          | (intro hW; go_at_call 59; exact Calls.below_of hW (CK.out _ _ (sM.out _ hW)))
          | (intro hW; go_at_call 42; first | exact Calls.below_of hW (ints_eq (s4.out _ hW) (sL.out _ hW)) | exact Calls.below_of hW (CI.out _ hW))
          | (intro hW; go_at_call 50; exact Calls.below_of hW (Aw.out _ (tab_on tb.out hW))))
        | (refine wpQuiet_want rfl fun K hK => ?_
           first
             | refine quiet_loadRel (.tmp 10) rfl _ rfl _ _ rT.out (hK _ ?_)
             | refine quiet_loadRel (.tmp 16) rfl _ rfl _ _ rT'.out (hK _ ?_)
           clear hK K
           simp only [Act.put, List.setIfInBounds_toArray, List.set_cons_succ, List.set_cons_zero]))
      refine wpQuiet_nil ?_
      intro wz hz2
      go_wp2
      go_ret
      exact ⟨rfl, thru HX.out.below hz2⟩
end Go.Proofs.YtpmlomhlbmgilaaDoor
end
