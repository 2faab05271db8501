/- OrdTellsLaw in one text, for the claim. -/
import Derived.Deep.RegionWith
import Derived.Deep.DeepCutAuto
import Derived.Test.YtpbljciblgcgfaaDoorOt1
import Derived.Test.YtpbljciblgcgfaaDoorOt6
import Derived.Test.YtpbljciblgcgfaaDoorOt10

section
/- The law OrderTells: the walk. -/
namespace Go.Proofs.YtpbljciblgcgfaaDoor
open Go.RowKit Go.Shelf Go.BigFrame

attribute [local go_sem] Oper.semAt_some

theorem tot_both (n : Int) (zs : List Int) : ∃ (N' : Int) (F' : Nat → Nat) (q : Bool),
    (∀ v w, IntSl w.heap.size w v zs → Calls Tryd.prog 54 #[.int .i64 n, v] w fun e w' => e = .returned (.tuple #[.agg (relC N' F'), .int .i64 (opE q)]) ∧ Below w.heap.size w w') ∧
    (∀ v w, IntSl w.heap.size w v zs → Calls Tryd.prog 55 #[.int .i64 n, v] w fun e w' => e = .returned (.tuple #[.agg (relC N' F'), .bool q]) ∧ Below w.heap.size w w') := by
  refine ⟨_, _, ordB n zs, fun v w hs => ?_, fun v w hs => refTotal_any n v zs w hs⟩
  have := total_any n v zs w hs
  unfold TotalPost at this
  exact this

set_option maxRecDepth 100000 in
set_option maxHeartbeats 8000000 in
theorem orderTells_law (nr : Int) (f : Nat → Nat) (hf : R64 f) (most n : Int) (v : Value) (zs : List Int) (w : World) (hs : IntSl w.heap.size w v zs) (hT : Tab w) :
    Calls Tryd.prog 5 #[.agg (relC nr f), .int .i64 most, .int .i64 n, v] w fun e w' => e = .returned (.bool true) ∧ Below w.heap.size w w' := by
  have Aw := Lib.hid (fun W hT => ordAwake_any W hT)
  have HS := Lib.hid hs
  obtain ⟨hl, a, cap, rfl, hc⟩ := hs
  clear hc
  unfold maxLen at hl
  have hA := RelAt.new w nr f
  have hB := below_new w (.cells (relC nr f) 26)
  have n1 := hA.num
  by_cases h8 : 8 < nr
  · have t1 : decide (8 < nr) = true := by simpa using h8
    clear hA
    go_enter Tryd.func5, Tryd.ntmps5
    go_wp2_with fail
    refine (Aw.out _ (hT.below hB hT.pos)).mono ?_
    rintro e w1 ⟨rfl, h1⟩
    go_wp2
    go_ret
    exact ⟨rfl, thru hB h1⟩
  have t1 : decide (8 < nr) = false := by simpa using h8
  by_cases h10 : 10 < zs.length
  · have t2 : decide (10 < (zs.length : Int)) = true := by simp; omega
    clear hA
    go_enter Tryd.func5, Tryd.ntmps5
    go_wp2_with fail
    refine (Aw.out _ (hT.below hB hT.pos)).mono ?_
    rintro e w1 ⟨rfl, h1⟩
    go_wp2
    go_ret
    exact ⟨rfl, thru hB h1⟩
  have t2 : decide (10 < (zs.length : Int)) = false := by simp; omega
  have hX := ((KS.nil w).alloc (.cells (relC nr f) 26)).addRel hA
  clear hA hB h8 h10
  replace hX := Lib.hid hX
  go_enter Tryd.func5, Tryd.ntmps5
  go_upto_if 33 with fail
  clear t1 t2 n1
  generalize w.alloc (.cells (relC nr f) 26) = W1 at *
  go_cut [1] (fun v1 W => (∃ m : Int, v1 = .int .i64 m) ∧ W = W1)
  case first =>
    go_wp2
    all_goals go_meet
    all_goals exact ⟨⟨_, rfl⟩, rfl⟩
  case rest =>
    obtain ⟨⟨m, rfl⟩, hWc⟩ := hcut
    replace hWc := hWc.symm
    subst hWc
    obtain ⟨ls, E, hlm, CO, CR, CC⟩ := ord_both nr f m hf
    replace CO := Lib.hid CO
    replace CR := Lib.hid CR
    replace CC := Lib.hid CC
    obtain ⟨N', F', q, CT, CU⟩ := tot_both n zs
    replace CT := Lib.hid CT
    replace CU := Lib.hid CU
    replace hX := hX.out
    have l1 := (hX.rel (w.heap.size, nr, f) (by simp)).ld
    go_wp2_with fail
    clear l1
    refine (CO.out _ (hX.tab hT)).mono ?_
    rintro e w2 ⟨⟨va, rfl, hva⟩, h⟩
    replace hX := (hX.on h).addLs hva
    clear hva h CO
    have l1 := (hX.rel (w.heap.size, nr, f) (by simp)).ld
    go_wp2_with fail
    clear l1
    refine (CR.out _).mono ?_
    rintro e w3 ⟨⟨vb, rfl, hvb⟩, h⟩
    obtain ⟨-, ab, cb, hvbe, -⟩ := id hvb
    subst hvbe
    replace hX := (hX.on h).addLs hvb
    clear hvb h CR
    have l1 := (hX.rel (w.heap.size, nr, f) (by simp)).ld
    go_wp2_with fail
    clear l1
    refine (CC.out _ (hX.tab hT)).mono ?_
    rintro e w4 ⟨rfl, h⟩
    replace hX := hX.on h
    clear h CC
    go_wp2_with fail
    refine (CT.out _ _ ((HS.out.below hX.below).mono hX.below.size)).mono ?_
    rintro e w5 ⟨rfl, h⟩
    obtain ⟨W5, hs5, hX, hz5⟩ := hX.lay h N' F'
    clear h CT
    replace hz5 := Lib.hid hz5
    go_wp2_with fail
    clear hs5
    refine (CU.out _ _ ((HS.out.below hX.below).mono hX.below.size)).mono ?_
    rintro e w6 ⟨rfl, h⟩
    obtain ⟨W6, hs6, hX, hz6⟩ := hX.lay h N' F'
    clear h CU
    replace hz6 := Lib.hid hz6
    have l1 := (hX.rel (w.heap.size, nr, f) (by simp)).ld
    have CO := Lib.hid (fun W hT => ordOf_any nr f hf W hT)
    have CR := Lib.hid (fun W => refOrdOf_any nr f hf W)
    obtain ⟨lo, hlo⟩ : ∃ lo, lo = ofO nr f := ⟨_, rfl⟩
    rw [← hlo] at CO CR
    clear hlo
    generalize lo.getD [] = L at *
    generalize lo.isSome = o at *
    go_wp2_with fail
    clear l1 hs6
    refine (CO.out _ (hX.tab hT)).mono ?_
    rintro e w7 ⟨vj, rfl, hj, h⟩
    replace hX := hX.on h
    replace hj := Lib.hid hj
    clear h CO
    have l1 := (hX.rel (w.heap.size, nr, f) (by simp)).ld
    go_wp2_with fail
    clear l1
    refine (CR.out _).mono ?_
    rintro e w8 ⟨vk, rfl, hk, h⟩
    replace hX := ((hX.on h).addSl hk).addSl ((slI_of_row hj.out hk.1).on h)
    clear h hk CR hj
    have tb := Lib.hid (hX.tab hT)
    have rR : Hid (∀ W, Below w8.heap.size w8 W → RelAt W w.heap.size nr f) := Lib.hid (fun W (h : Below w8.heap.size w8 W) => (hX.rel (w.heap.size, nr, f) (by simp)).on h)
    have rT : Hid (∀ W, Below w8.heap.size w8 W → RelAt W w5.heap.size N' F') := Lib.hid (fun W (h : Below w8.heap.size w8 W) => (hX.rel (w5.heap.size, N', F') (by simp)).on h)
    have rU : Hid (∀ W, Below w8.heap.size w8 W → RelAt W w6.heap.size N' F') := Lib.hid (fun W (h : Below w8.heap.size w8 W) => (hX.rel (w6.heap.size, N', F') (by simp)).on h)
    have sJ : Hid (∀ W, Below w8.heap.size w8 W → SlI W.heap.size W vj L) := Lib.hid (fun W (h : Below w8.heap.size w8 W) => (hX.sl (vj, L) (by simp)).on h)
    have sK : Hid (∀ W, Below w8.heap.size w8 W → SlI W.heap.size W vk L) := Lib.hid (fun W (h : Below w8.heap.size w8 W) => (hX.sl (vk, L) (by simp)).on h)
    have sA : Hid (∀ W, Below w8.heap.size w8 W → ListSl W.heap.size W va ls) := Lib.hid (fun W (h : Below w8.heap.size w8 W) => (hX.ls (va, ls) (by simp)).on h)
    have sB : Hid (∀ W, Below w8.heap.size w8 W → ListSl W.heap.size W (.slice ab ls.length cb) ls) := Lib.hid (fun W (h : Below w8.heap.size w8 W) => (hX.ls (.slice ab ls.length cb, ls) (by simp)).on h)
    have CK : Hid (∀ W, Below w8.heap.size w8 W → Calls Tryd.prog 59 #[.agg (relC nr f), .slice a zs.length cap] W fun e w' => e = .returned (.bool (keepB nr f zs)) ∧ Below W.heap.size W w') :=
      Lib.hid (fun W h => keeps_any nr f hf _ zs W ((HS.out.below (thru hX.below h)).mono (thru hX.below h).size))
    have CQ : Hid (∀ W, Below w8.heap.size w8 W → Calls Tryd.prog 60 #[.agg (relC nr f), .slice a zs.length cap] W fun e w' => e = .returned (.bool (keepB nr f zs)) ∧ Below W.heap.size W w') :=
      Lib.hid (fun W h => refKeeps_any nr f hf _ zs W ((HS.out.below (thru hX.below h)).mono (thru hX.below h).size))
    have HX := Lib.hid hX
    generalize keepB nr f zs = kb at *
    have e1 : (E == E) = true := by simp
    have e2 : ((ls.length : Int) == (ls.length : Int)) = true := by simp
    have e3 : (o == o) = true := by simp
    have e4 : (kb == kb) = true := by simp
    have e5 : relB N' N' F' F' = true := relB_same fun _ _ => rfl
    clear hX HS hlm
    go_upto_region 12 with fail
    have o1 : opE true = 0 := rfl
    have o2 : opE false = 2 := rfl
    cases q
    all_goals
      refine wp_region_below w8.heap.size w8 (by kernel_rfl) (by kernel_rfl) (Below.refl _ _) ?_
      repeat (first
        | go_big_quiet_step (first
          | (intro _; exact rfl)
          | (intro hW; go_at_call 58; exact Calls.below_of hW (lists_same _ _ _ _ (sA.out _ hW) (sB.out _ hW)))
          | (intro hW; go_at_call 59; exact Calls.below_of hW (CK.out _ hW))
          | (intro hW; go_at_call 60; exact Calls.below_of hW (CQ.out _ hW))
          | (intro hW; go_at_call 42; exact Calls.below_of hW (ints_eq (sJ.out _ hW) (sK.out _ hW)))
          | (intro hW; go_at_call 50; exact Calls.below_of hW (Aw.out _ (tab_on tb.out hW))))
        | (refine wpQuiet_want rfl fun K hK => ?_
           first
             | refine quiet_loadRel (.tmp 15) rfl _ rfl _ _ rT.out (hK _ ?_)
             | refine quiet_loadRel (.tmp 17) rfl _ rfl _ _ rU.out (hK _ ?_)
             | refine quiet_loadRel (.tmp 4) rfl _ rfl _ _ rR.out (hK _ ?_)
           clear hK K
           simp only [Act.put, List.setIfInBounds_toArray, List.set_cons_succ, List.set_cons_zero]))
      refine wpQuiet_nil ?_
      intro wz hz2
      go_wp2
      go_ret
      exact ⟨rfl, thru HX.out.below hz2⟩
end Go.Proofs.YtpbljciblgcgfaaDoor
end
