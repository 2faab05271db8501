/- RefRingY in one text, for the claim. -/
import Derived.Deep.DeepCutAuto
import Derived.Test.YtakhmjohncidoaaDoorRegionBelow
import Derived.Test.YtakhmjohncidoaaDoorRelRing3
import Derived.Test.YtakhmjohncidoaaDoorRr5

section
/- The document's answers for layer 2: Ring, where there is one. -/
namespace Go.Proofs.YtakhmjohncidoaaDoor
open Go.RowKit Go.Shelf Go.BigFrame

attribute [local go_sem] Oper.semAt_some
/-- What loop 1 has found. -/
def RingM (a len x : Nat) (L fr : Int) : Prop := (x ≤ a ∧ (len : Int) < L ∧ L ≤ 100) ∨ (a < x ∧ L = (len : Int) ∧ fr = (a : Int))

set_option maxRecDepth 100000 in
set_option maxHeartbeats 8000000 in
theorem refRing_yes (N : Nat) (f : Nat → Nat) (hf : R64 f) (hr : Rgt N f) (a : Nat) (l : List Nat) (hO : RingOK N f a l) (hL : l.length ≤ N) (hlo : Lo f a l) (w : World) :
    Calls Tryd.prog 38 #[.agg (relC N f)] w (RingPost (some l) w) := by
  have hN := hr.le
  have haN := hO.ring.item a (List.mem_of_getElem? hO.ring.head)
  have hpos := hO.ring.pos
  have hA := RelAt.new w N f
  have hX : Kept w (w.alloc (.cells (relC N f) 26)) [(w.heap.size, (N : Int), f)] := by
    refine ⟨below_new w _, ?_⟩
    simp only [List.mem_cons, List.not_mem_nil, or_false]
    rintro p rfl
    exact hA
  have CA := refAcyclic_ok N f hf hr
  rw [irr_war hr, show irrK (plusF N f) N = false by rw [Bool.eq_false_iff]; intro h; exact (irr_plus hr).1 h hO.cyc] at CA
  have CR := refRight_any (N : Int) f hf
  rw [show rightB (N : Int) f = true from hr] at CR
  replace CA := Lib.hid CA
  replace CR := Lib.hid CR
  have CS := Lib.hid (fun x r (hx : x < N) (h : StepsIs N f a x r) W => refSteps N f hf hr x a r hx haN h W)
  have CX := Lib.hid (fun x r (hx : x < N) (h : StepsIs N f x x r) W => refSteps N f hf hr x x r hx hx h W)
  have CH := Lib.hid (fun x y (hx : x < N) (hy : y < N) w => show Calls Tryd.prog 20 #[.agg (relC N f), .int .i64 (x : Int), .int .i64 (y : Int)] w fun e w' => e = .returned (.bool ((f x).testBit y)) ∧ Below w.heap.size w w' by
    have := refRelHas_any N f (x : Int) (y : Int) hf w
    rwa [hasB_in hr hx hy] at this)
  replace hO := Lib.hid hO
  replace hlo := Lib.hid hlo
  replace hr := Lib.hid hr
  obtain ⟨i0, hi, hz0, hz1, hz2⟩ := info_parts infoInt
  clear hA
  have l1 := (hX.at (b := w.heap.size) (n := N) (f := f) (by simp)).ld
  have hXh := Lib.hid hX
  clear hX
  go_enter Tryd.func38, Tryd.ntmps38
  go_wp2_with fail
  generalize w.alloc (.cells (relC N f) 26) = w0 at *
  clear l1
  refine (CA.out w0).mono ?_
  rintro e w1 ⟨rfl, h⟩
  replace hXh := Lib.hid (hXh.out.on h)
  clear h
  have l1 := (hXh.out.at (b := w.heap.size) (n := N) (f := f) (by simp)).ld
  go_wp2_with fail
  clear l1
  refine (CR.out w1).mono ?_
  rintro e w2 ⟨rfl, h⟩
  replace hXh := Lib.hid (hXh.out.on h)
  clear h
  go_wp2_with fail
  go_loopw [3, 4, 5, 6] (fun L fr x _ W => ∃ (k : Nat) (l0 f0 : Int), k ≤ N ∧ x = .int .i64 (k : Int) ∧ L = .int .i64 l0 ∧ fr = .int .i64 f0 ∧ Hid (Kept w W [(w.heap.size, (N : Int), f)]) ∧ Hid (RingM a l.length k l0 f0)) (fun _ _ x _ _ => N - (intOf x).toNat)
  case atStart => exact ⟨0, 100, -1, by omega, rfl, rfl, rfl, hXh, Lib.hid (.inl ⟨by omega, by omega, by omega⟩)⟩
  case round =>
    clear hXh
    obtain ⟨k, l0, f0, hk, rfl, rfl, rfl, hXh, hM⟩ := hrel
    have n1 := (hXh.out.at (b := w.heap.size) (n := N) (f := f) (by simp)).num
    by_cases hkN : k < N
    · have t1 : decide ((k : Int) < (N : Int)) = true := by simp; omega
      obtain ⟨r, hst⟩ := steps_ex N f k k
      obtain ⟨q1, q2, q3⟩ := hO.out.low hr.out hL hkN hst
      have hr100 : r ≤ 100 := by rcases hst with ⟨_, h, _⟩ | ⟨h, _⟩ <;> omega
      have cS := Lib.hid (CX.out k r hkN hst)
      have l1 := (hXh.out.at (b := w.heap.size) (n := N) (f := f) (by simp)).ld
      by_cases hd : (r : Int) < l0
      · have t2 : decide ((r : Int) < l0) = true := by simpa using hd
        have hM2 : Hid (RingM a l.length (k + 1) (r : Int) (k : Int)) := Lib.hid (by
          rcases hM.out with ⟨h1, h2, h3⟩ | ⟨h1, h2, h3⟩
          · rcases Nat.lt_or_eq_of_le h1 with h4 | h4
            · have := q2 h4; exact .inl ⟨by omega, by omega, by omega⟩
            · have := q3 h4; exact .inr ⟨by omega, by omega, by omega⟩
          · omega)
        clear hM q2 q3 hst
        go_wp2_with fail
        clear l1 n1
        refine (cS.out _).mono ?_
        rintro e w3 ⟨rfl, h⟩
        replace hXh := Lib.hid (hXh.out.on h)
        clear h
        go_wp2
        go_roundw
        case rel => exact ⟨k + 1, (r : Int), (k : Int), by omega, by go_num, rfl, rfl, hXh, hM2⟩
        case measure => simp [intOf]; omega
      · have t2 : decide ((r : Int) < l0) = false := by simpa using hd
        have hM2 : Hid (RingM a l.length (k + 1) l0 f0) := Lib.hid (by
          rcases hM.out with ⟨h1, h2, h3⟩ | ⟨h1, h2, h3⟩
          · rcases Nat.lt_or_eq_of_le h1 with h4 | h4
            · exact .inl ⟨by omega, by omega, by omega⟩
            · have := q3 h4; omega
          · exact .inr ⟨by omega, h2, h3⟩)
        clear hM q2 q3 hst
        go_wp2_with fail
        clear l1 n1
        refine (cS.out _).mono ?_
        rintro e w3 ⟨rfl, h⟩
        replace hXh := Lib.hid (hXh.out.on h)
        clear h
        go_wp2
        go_roundw
        case rel => exact ⟨k + 1, l0, f0, by omega, by go_num, rfl, rfl, hXh, hM2⟩
        case measure => simp [intOf]; omega
    · have t1 : decide ((k : Int) < (N : Int)) = false := by simp; omega
      obtain ⟨rfl, rfl⟩ : l0 = (l.length : Int) ∧ f0 = (a : Int) := by
        rcases hM.out with ⟨h1, h2, h3⟩ | ⟨h1, h2, h3⟩
        · omega
        · exact ⟨h2, h3⟩
      clear hM
      have hlit := Lib.hid (World.ownsRow_lit wr (e := 3) (size := 1) (base := w.heap.size) #[.int .i64 (a : Int)] 1 (by have := hXh.out.1.size; omega) (by decide) rfl)
      have hXa := Lib.hid (hXh.out.on (below_new wr (.cells #[.int .i64 (a : Int)] 3)))
      have htk : Hid ((l.take 1).map intV = [Value.int .i64 (a : Int)]) := Lib.hid (by
        have h0 := hO.out.ring.head
        cases l with
        | nil => simp at h0
        | cons x l => simp at h0; subst h0; rfl)
      go_wp2_with fail
      go_loopw [7, 8, 9] (fun v d _ W => ∃ (n d0 : Nat), d = .int .i64 (d0 : Int) ∧ n + d0 = l.length ∧ 1 ≤ n ∧ Hid (Kept w W [(w.heap.size, (N : Int), f)]) ∧ Hid (W.ownsRow w.heap.size 3 1 v n ((l.take n).map intV))) (fun _ d _ _ => (intOf d).toNat)
      case atStart => exact ⟨1, l.length - 1, by first | rfl | (congr 1; omega) | skip, by omega, by omega, hXa, Lib.hid (by rw [htk.out]; exact hlit.out)⟩
      case round =>
        clear hXa hlit hXh htk
        obtain ⟨n, d0, rfl, hnd, hn1, hXh, hrow⟩ := hrel
        by_cases hd : 0 < d0
        · obtain ⟨d1, rfl⟩ : ∃ d1, d0 = d1 + 1 := ⟨d0 - 1, by omega⟩
          have t2 : decide ((0 : Int) < ((d1 + 1 : Nat) : Int)) = true := by simp
          obtain ⟨x, hx⟩ : ∃ x, l[n - 1]? = some x := ⟨l[n - 1]'(by omega), List.getElem?_eq_getElem (by omega)⟩
          obtain ⟨y, hy⟩ : ∃ y, l[n - 1 + 1]? = some y := ⟨l[n - 1 + 1]'(by omega), List.getElem?_eq_getElem (by omega)⟩
          have hxN := hO.out.ring.item x (List.mem_of_getElem? hx)
          have hyN := hO.out.ring.item y (List.mem_of_getElem? hy)
          have hay := hO.out.above hr.out (by omega) hy
          have hst := hO.out.steps hr.out hL hy
          rw [show l.length - (n - 1 + 1) = d1 + 1 by omega] at hst
          have hmiss := Lib.hid (fun b r (hb : b < y) (hx2 : Bt f x b) (hs : StepsIs N f a b r) => show r ≠ d1 + 1 by
            have := hO.out.miss hr.out hL hlo.out hx hy hb hx2 hs
            rwa [show l.length - 1 - (n - 1) = d1 + 1 by omega] at this)
          have hnext := Lib.hid (hO.out.ring.next _ x y hx hy)
          have htk2 : Hid ((l.take (n + 1)).map intV = (l.take n).map intV ++ [Value.int .i64 (y : Int)]) := Lib.hid (by
            rw [show n - 1 + 1 = n by omega] at hy
            obtain ⟨hlt, rfl⟩ := List.getElem?_eq_some_iff.1 hy
            rw [List.take_succ_eq_append_getElem hlt, List.map_append]; rfl)
          have cY := Lib.hid (CS.out y (d1 + 1) hyN hst)
          obtain ⟨g, cap, hv⟩ := ownsRow_succ (k := n - 1) (by rw [show n - 1 + 1 = n by omega]; exact hrow.out)
          rw [show n - 1 + 1 = n by omega] at hv
          subst hv
          have hcell : Hid (∀ W : World, W.ownsRow w.heap.size 3 1 (.slice (some ⟨g, 0, none⟩) n cap) n ((l.take n).map intV) → W.cell? ⟨g, n - 1, none⟩ = some (.int .i64 (x : Int))) := Lib.hid fun W hW => by
            rw [hW.cellAt (n - 1) (by omega), List.getElem?_map, List.getElem?_take_of_lt (by omega), hx]; rfl
          replace hst := Lib.hid hst
          clear hx hy
          go_wp2
          go_loopw [7, 9] (fun v b W => ∃ (b0 : Nat), a + 1 ≤ b0 ∧ b0 ≤ y ∧ v = .slice (some ⟨g, 0, none⟩) n cap ∧ b = .int .i64 (b0 : Int) ∧ Hid (Kept w W [(w.heap.size, (N : Int), f)]) ∧ Hid (W.ownsRow w.heap.size 3 1 (.slice (some ⟨g, 0, none⟩) n cap) n ((l.take n).map intV))) (fun _ b _ => N - (intOf b).toNat)
          case atStart => exact ⟨a + 1, by omega, by omega, rfl, by go_num, hXh, hrow⟩
          case round =>
            clear hXh hrow
            obtain ⟨b0, hb1, hb2, rfl, rfl, hXh, hrow⟩ := hrel
            have hbN : b0 < N := by omega
            have t3 : decide ((b0 : Int) < (N : Int)) = true := by simp; omega
            have n1 := (hXh.out.at (b := w.heap.size) (n := N) (f := f) (by simp)).num
            have r1 := Lib.hid (fun (W : World) (h : Below wr.heap.size wr W) => (hXh.out.on h).at (b := w.heap.size) (n := N) (f := f) (by simp))
            have r2 := Lib.hid (fun (W : World) (h : Below wr.heap.size wr W) => hcell.out W (ownsRow_below hrow.out h))
            have hxb : ((n : Int) - 1) = ((n - 1 : Nat) : Int) := by omega
            have hn63 : n ≤ 48 := by omega
            have cH := Lib.hid (CH.out x b0 hxN hbN)
            by_cases hby : b0 = y
            · subst hby
              have hbx : (f x).testBit b0 = true := hnext.out
              rw [hbx] at cH
              clear hbx
              go_wp2_with fail
              refine wp_region_below wr.heap.size wr (by kernel_rfl) (by kernel_rfl) (Below.refl _ _) ?_
              repeat (first
                | go_big_quiet_step (first
                  | (intro _; exact rfl)
                  | (intro hW; go_at_call 20; exact Calls.below_of hW (cH.out _))
                  | (intro hW; go_at_call 66; exact Calls.below_of hW (cY.out _)))
                | (refine wpQuiet_want rfl fun K hK => ?_
                   first
                     | refine quiet_loadRel (.tmp 1) rfl _ rfl _ _ r1.out (hK _ ?_)
                     | refine quiet_load 3 (.tmp 54) rfl _ rfl _ intAgg r2.out (hK _ ?_)
                   clear hK K
                   simp only [Act.put, List.setIfInBounds_toArray, List.set_cons_succ, List.set_cons_zero]))
              refine wpQuiet_nil ?_
              intro w4 hB4
              replace hXh := Lib.hid (hXh.out.on hB4)
              have hrow4 := Lib.hid (ownsRow_below hrow.out hB4)
              clear hrow r1 r2 hB4 n1
              have hbase := hXh.out.1.size
              go_wp2_with (at_builtin; refine wpList_append_own _ rfl _ _ 46 rfl w.heap.size 3 i0 (.int .i64 0) 1 8 Tryd.underlying46 hi hz0 hz1 hz2 rfl (by decide) _ _ _ rfl (hrow4.out.alloc _) ⟨w4.heap.size, 0, none⟩ 1 1 [.int .i64 (b0 : Int)] rfl rfl (cell_one_new _ _ _) (by intro u hu; simp at hu; subst hu; rfl) (by unfold maxLen; omega) (by omega) (by simp; omega) ?_; intro v1 w6 hown1 hgrow1 _; have hX2 := (hXh.out.on (below_new w4 (.cells #[.int .i64 (b0 : Int)] 3))).grown (by decide) (hrow4.out.alloc (.cells #[.int .i64 (b0 : Int)] 3)) hgrow1; replace hX2 := Lib.hid hX2; replace hown1 := Lib.hid hown1; clear hgrow1)
              go_roundw
              case rel =>
                refine ⟨n + 1, d1, by first | rfl | go_num, by omega, by omega, hX2, Lib.hid ?_⟩
                rw [htk2.out]
                exact hown1.out
              case measure => simp [intOf]
            · obtain ⟨p, hp⟩ : ∃ p, (f x).testBit b0 = p := ⟨_, rfl⟩
              rw [hp] at cH
              obtain ⟨r, hsr⟩ := steps_ex N f a b0
              have cS := Lib.hid (CS.out b0 r hbN hsr)
              cases p
              · clear hp hsr
                go_wp2_with fail
                refine wp_region_below wr.heap.size wr (by kernel_rfl) (by kernel_rfl) (Below.refl _ _) ?_
                repeat (first
                  | go_big_quiet_step (first
                    | (intro _; exact rfl)
                    | (intro hW; go_at_call 20; exact Calls.below_of hW (cH.out _)))
                  | (refine wpQuiet_want rfl fun K hK => ?_
                     first
                       | refine quiet_loadRel (.tmp 1) rfl _ rfl _ _ r1.out (hK _ ?_)
                       | refine quiet_load 3 (.tmp 54) rfl _ rfl _ intAgg r2.out (hK _ ?_)
                     clear hK K
                     simp only [Act.put, List.setIfInBounds_toArray, List.set_cons_succ, List.set_cons_zero]))
                refine wpQuiet_nil ?_
                intro w4 hB4
                replace hXh := Lib.hid (hXh.out.on hB4)
                have hrow4 := Lib.hid (ownsRow_below hrow.out hB4)
                clear hrow r1 r2 hB4 n1
                go_wp2
                go_roundw
                case rel => exact ⟨b0 + 1, by omega, by omega, rfl, by go_num, hXh, hrow4⟩
                case measure => simp [intOf]; omega
              · have hne := hmiss.out b0 r (by omega) hp hsr
                have te : ((r : Int) == ((d1 + 1 : Nat) : Int)) = false := by rw [Bool.eq_false_iff]; intro h; rw [beq_iff_eq] at h; omega
                have te2 : ((r : Int) == (d1 : Int) + 1) = false := by rw [Bool.eq_false_iff]; intro h; rw [beq_iff_eq] at h; omega
                replace hne := Lib.hid hne
                clear hp hsr
                go_wp2_with fail
                refine wp_region_below wr.heap.size wr (by kernel_rfl) (by kernel_rfl) (Below.refl _ _) ?_
                repeat (first
                  | go_big_quiet_step (first
                    | (intro _; exact rfl)
                    | (intro hW; go_at_call 20; exact Calls.below_of hW (cH.out _))
                    | (intro hW; go_at_call 66; exact Calls.below_of hW (cS.out _)))
                  | (refine wpQuiet_want rfl fun K hK => ?_
                     first
                       | refine quiet_loadRel (.tmp 1) rfl _ rfl _ _ r1.out (hK _ ?_)
                       | refine quiet_load 3 (.tmp 54) rfl _ rfl _ intAgg r2.out (hK _ ?_)
                     clear hK K
                     simp only [Act.put, List.setIfInBounds_toArray, List.set_cons_succ, List.set_cons_zero]))
                refine wpQuiet_nil ?_
                intro w4 hB4
                replace hXh := Lib.hid (hXh.out.on hB4)
                have hrow4 := Lib.hid (ownsRow_below hrow.out hB4)
                clear hrow r1 r2 hB4 n1
                go_wp2
                go_roundw
                case rel => exact ⟨b0 + 1, by omega, by omega, rfl, by go_num, hXh, hrow4⟩
                case measure => simp [intOf]; omega
        · obtain rfl : d0 = 0 := by omega
          obtain rfl : n = l.length := by omega
          have ho := hrow.out
          rw [List.take_length] at ho
          replace ho := Lib.hid ho
          clear hrow
          go_wp2
          go_ret
          exact ⟨_, rfl, ho.out, hXh.out.1, fun h => by cases h⟩
end Go.Proofs.YtakhmjohncidoaaDoor
end
