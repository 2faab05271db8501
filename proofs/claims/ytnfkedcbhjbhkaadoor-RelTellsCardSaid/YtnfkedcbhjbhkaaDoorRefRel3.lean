/- The document's answers for layer 2: Has, Of, Pairs, From, Into. -/
import Derived.Deep.DeepCutAuto
import Derived.Deep.RegionWith
import Derived.Test.YtnfkedcbhjbhkaaDoorRefRel2
import Derived.Test.YtnfkedcbhjbhkaaDoorAppendKeeps
import Derived.Test.YtnfkedcbhjbhkaaDoorRelPairsAid
namespace Go.Proofs.YtnfkedcbhjbhkaaDoor
open Go.RowKit Go.Shelf

attribute [local go_sem] Oper.semAt_some

set_option maxRecDepth 100000 in
set_option maxHeartbeats 4000000 in
theorem refRelHas_any (n : Int) (f : Nat → Nat) (a b : Int) (hf : R64 f) (w : World) :
    Calls Tryd.prog 30 #[.agg (relC n f), .int .i64 a, .int .i64 b] w fun e w' => e = .returned (.bool (hasB n f a b)) ∧ Below w.heap.size w w' := by
  have hA := RelAt.new w n f
  have hB := below_new w (.cells (relC n f) 26)
  have l1 := hA.ld
  have HR := Lib.hid (refRight_any n f hf)
  cases hr : rightB n f
  · rw [hr] at HR
    have hv := Lib.hid (show hasB n f a b = false by simp [hasB, hr])
    clear hr
    go_enter Tryd.func30, Tryd.ntmps30
    go_wp2_with fail
    refine (HR.out _).mono ?_
    rintro e w1 ⟨rfl, h⟩
    go_wp2
    go_ret
    rw [hv.out]
    exact ⟨rfl, thru hB h⟩
  · rw [hr] at HR
    obtain ⟨⟨n0, n1⟩, -⟩ := rightB_iff.1 hr
    by_cases h1 : 0 ≤ a ∧ a < n ∧ 0 ≤ b ∧ b < n
    · obtain ⟨a0, a1, b0, b1⟩ := h1
      obtain ⟨x, rfl⟩ : ∃ x : Nat, a = (x : Int) := ⟨a.toNat, by omega⟩
      obtain ⟨y, rfl⟩ : ∃ y : Nat, b = (y : Int) := ⟨b.toNat, by omega⟩
      have hv := Lib.hid (show hasB n f (x : Int) (y : Int) = (f x).testBit y by
        unfold hasB
        rw [hr, itemB_iff.2 ⟨a0, a1⟩, itemB_iff.2 ⟨b0, b1⟩]
        simp)
      have CH := Lib.hid (fun w => refHas (f x) y (hf x) (by omega) w)
      have zx : (x : Int) < 48 := by omega
      clear hr
      go_enter Tryd.func30, Tryd.ntmps30
      go_wp2_with fail
      refine (HR.out _).mono ?_
      rintro e w1 ⟨rfl, h⟩
      clear l1
      have m1 := (hA.on h).num
      have r1 := (hA.on h).row x (by omega)
      go_wp2_with fail
      refine (CH.out _).mono ?_
      rintro e w2 ⟨rfl, rfl⟩
      go_wp2
      go_ret
      rw [hv.out]
      exact ⟨rfl, thru hB h⟩
    · have hv := Lib.hid (show hasB n f a b = false by
        rw [Bool.eq_false_iff]
        intro h
        unfold hasB at h
        simp only [Bool.and_eq_true] at h
        have h2 := itemB_iff.1 h.2.1
        have h3 := itemB_iff.1 h.2.2.1
        exact h1 ⟨h2.1, h2.2, h3.1, h3.2⟩)
      have hcase : a < 0 ∨ (0 ≤ a ∧ n ≤ a) ∨ (0 ≤ a ∧ a < n ∧ b < 0) ∨ (0 ≤ a ∧ a < n ∧ 0 ≤ b ∧ n ≤ b) := by omega
      clear h1 hr
      rcases hcase with h1 | ⟨h1, h2⟩ | ⟨h1, h2, h3⟩ | ⟨h1, h2, h3, h4⟩
      all_goals
        go_enter Tryd.func30, Tryd.ntmps30
        go_wp2_with fail
        refine (HR.out _).mono ?_
        rintro e w1 ⟨rfl, h⟩
        clear l1
        have m1 := (hA.on h).num
        go_wp2
        go_ret
        rw [hv.out]
        exact ⟨rfl, thru hB h⟩

def RefOfPost (n : Int) (ps : List (Int × Int)) (w : World) (e : Ending) (w' : World) : Prop :=
  e = .returned (.tuple #[.agg (relC (opN (ofB n ps) n) (if ofB n ps then ofL ps else zf)), .bool (ofB n ps)]) ∧ Below w.heap.size w w'
set_option maxRecDepth 100000 in
set_option maxHeartbeats 4000000 in
theorem refOf_any (n : Int) (v : Value) (ps : List (Int × Int)) (w : World) (hs : PairSl w.heap.size w v ps) :
    Calls Tryd.prog 19 #[.int .i64 n, v] w (RefOfPost n ps w) := by
  obtain ⟨hm, av, cap, rfl, hcells⟩ := hs
  unfold maxLen at hm
  have hZ := RelAt.new w 0 zf
  have hB := below_new w (.cells (relC 0 zf) 26)
  have Hcells := Lib.hid hcells
  clear hcells
  by_cases h01 : n < 0 ∨ 48 < n
  · have ho := Lib.hid (show ofB n ps = false by
      unfold ofB
      rw [show sizedB n = false by rw [Bool.eq_false_iff]; intro h; have := sizedB_iff.1 h; omega]
      rfl)
    obtain ⟨W3, hs3, hR3, hO3⟩ := hZ.put 0 zf
    have hB3 := below_only hB hO3 (Nat.le_refl _)
    clear hZ hB hO3
    rcases h01 with h0 | h0
    all_goals
      go_enter Tryd.func19, Tryd.ntmps19
      go_wp2
      refine bodyPost_ret (results_rel2 rfl _ _ _ _ _ rfl hR3) rfl ?_
      unfold RefOfPost
      rw [ho.out]
      exact ⟨rfl, hB3⟩
  · obtain ⟨N, rfl⟩ : ∃ N : Nat, n = (N : Int) := ⟨n.toNat, by omega⟩
    have hN : N ≤ 48 := by omega
    have ho := Lib.hid (show ofB N ps = ps.all (goodP N) by
      unfold ofB
      rw [sizedB_iff.2 ⟨by omega, by omega⟩, Bool.true_and])
    obtain ⟨W3, hs3, hR3, h3, hz3⟩ := Ex.lay (w.alloc (.cells (relC 0 zf) 26)) N zf
    have hX : Kept w W3 [(w.heap.size + 1, (N : Int), ofL (ps.take 0)), (w.heap.size, 0, zf)] := by
      refine ⟨thru hB h3, ?_⟩
      simp only [List.mem_cons, List.not_mem_nil, or_false]
      rintro p (rfl | rfl)
      · rwa [World.size_alloc] at hR3
      · exact hZ.on h3
    rw [World.size_alloc] at hs3
    clear hR3 h3 hz3 hZ hB h01
    have t1 : decide ((N : Int) < 0) = false := by simp
    have t2 : decide (48 < (N : Int)) = false := by simp; omega
    have le1 : w.heap.size ≤ w.heap.size + 1 := by omega
    have ne1 : w.heap.size ≠ w.heap.size + 1 := by omega
    go_enter Tryd.func19, Tryd.ntmps19
    go_wp2
    clear hs3
    go_loopw [7] (fun i W => ∃ k : Nat, k ≤ ps.length ∧ i = .int .i64 k ∧ Hid ((ps.take k).all (goodP N) = true) ∧ Kept w W [(w.heap.size + 1, (N : Int), ofL (ps.take k)), (w.heap.size, 0, zf)]) (fun i _ => ps.length - (intOf i).toNat)
    case atStart => exact ⟨0, by omega, rfl, Lib.hid (by simp), hX⟩
    case round =>
      clear hX
      obtain ⟨k, hk, rfl, hall, hX⟩ := hrel
      by_cases hlt : k < ps.length
      · have tk : decide (k < ps.length) = true := by simpa using hlt
        obtain ⟨b, off, rfl, hbn, hc⟩ := Hcells.out (by omega)
        obtain ⟨c1, c2⟩ := hc k hlt
        replace c1 := (hX.1.cell (p := ⟨b, off + k * 2, none⟩) hbn).trans c1
        replace c2 := (hX.1.cell (p := ⟨b, off + k * 2 + 1, none⟩) hbn).trans c2
        have ht := take_snocP ps k hlt
        have hmem : ps[k]?.getD (0, 0) ∈ ps := by simp [hlt]
        generalize ps[k]?.getD (0, 0) = p at *
        obtain ⟨x, y⟩ := p
        have hgood : goodP N (x, y) = true → ofL (ps.take (k + 1)) = upd (ofL (ps.take k)) x.toNat (ofL (ps.take k) x.toNat ||| 2 ^ y.toNat) ∧ (ps.take (k + 1)).all (goodP N) = true := fun h => by
          rw [ht, ofL_snoc, List.all_append, hall.out]
          exact ⟨rfl, by simpa using h⟩
        have hbad : goodP N (x, y) = false → ofB N ps = false := fun h => by
          rw [ho.out, Bool.eq_false_iff]; intro hcc; rw [List.all_eq_true] at hcc; have := hcc _ hmem; rw [h] at this; cases this
        have hL48 := ofL_lt N (by omega) _ hall.out
        replace hgood := Lib.hid hgood
        replace hbad := Lib.hid hbad
        have hXh := Lib.hid hX
        clear hc hmem ht hX
        go_upto_region 7 with fail
        go_region
        all_goals
          by_cases hxy : 0 ≤ x ∧ x < N ∧ 0 ≤ y ∧ y < N
          · obtain ⟨x0, x1, y0, y1⟩ := hxy
            obtain ⟨e1, e2⟩ := hgood.out (by unfold goodP; rw [itemB_iff.2 ⟨x0, x1⟩, itemB_iff.2 ⟨y0, y1⟩]; rfl)
            obtain ⟨X, rfl⟩ : ∃ X : Nat, x = (X : Int) := ⟨x.toNat, by omega⟩
            obtain ⟨Y, rfl⟩ : ∃ Y : Nat, y = (Y : Int) := ⟨y.toNat, by omega⟩
            rw [Int.toNat_natCast, Int.toNat_natCast] at e1
            have cW := Lib.hid (fun w => refWith (ofL (ps.take k) X) Y (Nat.lt_of_lt_of_le (hL48 X) (by decide)) (by omega) w)
            have hXd := Lib.hid hXh.out.drew
            have r1 := (hXd.out.at (b := w.heap.size + 1) (n := N) (f := ofL (ps.take k)) (by simp)).row X (by omega)
            have f1 := (hXd.out.at (b := w.heap.size + 1) (n := N) (f := ofL (ps.take k)) (by simp)).free (1 + X)
            have zX : (X : Int) < 48 := by omega
            have hR2 := (hXd.out.at (b := w.heap.size + 1) (n := N) (f := ofL (ps.take k)) (by simp)).set X (ofL (ps.take k) X ||| 2 ^ Y) (by omega)
            rw [← e1] at hR2
            have hX2 := ((hXd.out.less (l' := [(w.heap.size, 0, zf)]) (by simp)).set ⟨w.heap.size + 1, 1 + X, none⟩ (.int .u64 ((ofL (ps.take k) X ||| 2 ^ Y : Nat) : Int)) le1 (by simp)).cons hR2
            replace hX2 := Lib.hid hX2
            replace e2 := Lib.hid e2
            clear e1 hR2 hL48
            generalize ofL (ps.take k) X ||| 2 ^ Y = z at *
            generalize ofL (ps.take k) X = z0 at *
            go_wp2_with fail
            refine (cW.out _).mono ?_
            rintro e w5 ⟨rfl, rfl⟩
            go_wp2
            go_roundw
            case rel => exact ⟨k + 1, by omega, by go_num, e2, hX2.out⟩
            case measure => simp [intOf]; omega
          · have ho2 := Lib.hid (hbad.out (by
              rw [Bool.eq_false_iff]; intro h; unfold goodP at h; rw [Bool.and_eq_true] at h
              have h2 := itemB_iff.1 h.1
              have h3 := itemB_iff.1 h.2
              exact hxy ⟨h2.1, h2.2, h3.1, h3.2⟩))
            have hXd := hXh.out.drew
            obtain ⟨W4, hs4, hR4, hO4⟩ := (hXd.at (b := w.heap.size) (n := 0) (f := zf) (by simp)).put 0 zf
            have hB4 := below_only hXd.1 hO4 (Nat.le_refl _)
            have hcase : x < 0 ∨ (0 ≤ x ∧ (N : Int) ≤ x) ∨ (0 ≤ x ∧ x < N ∧ y < 0) ∨ (0 ≤ x ∧ x < N ∧ 0 ≤ y ∧ (N : Int) ≤ y) := by omega
            clear hXd hO4 hxy
            rcases hcase with h1 | ⟨h1, h2⟩ | ⟨h1, h2, h3⟩ | ⟨h1, h2, h3, h4⟩
            all_goals
              go_wp2
              refine bodyPost_ret (results_rel2 rfl _ _ _ _ _ rfl hR4) rfl ?_
              unfold RefOfPost
              rw [ho2.out]
              exact ⟨rfl, hB4⟩
      · obtain rfl : k = ps.length := by omega
        rw [List.take_length] at hall hX
        have l1 := (hX.at (b := w.heap.size + 1) (n := N) (f := ofL ps) (by simp)).ld
        obtain ⟨W4, hs4, hR4, hO4⟩ := (hX.at (b := w.heap.size) (n := 0) (f := zf) (by simp)).put N (ofL ps)
        have hB4 := below_only hX.1 hO4 (Nat.le_refl _)
        have ho2 := Lib.hid (show ofB N ps = true by rw [ho.out, hall.out])
        clear hX hO4
        go_wp2
        refine bodyPost_ret (results_rel2 rfl _ _ _ _ _ rfl hR4) rfl ?_
        unfold RefOfPost
        rw [ho2.out]
        exact ⟨rfl, hB4⟩

/-- The pairs of a row, as far as m. -/
def rowM (f : Nat → Nat) (a : It) (m : Nat) : List (It × It) := ((allIt.filter fun b => decide (b.1 < m)).filter fun b => (f a.1).testBit b.1).map fun b => (a, b)
theorem rowM_zero (f : Nat → Nat) (a : It) : rowM f a 0 = [] := by
  have h : (allIt.filter fun b => decide (b.1 < 0)) = [] := List.filter_eq_nil_iff.2 (by intro a _; simp)
  unfold rowM
  rw [h]
  rfl
theorem rowM_succ (f : Nat → Nat) (a : It) (m : Nat) (h : m < 48) : rowM f a (m + 1) = rowM f a m ++ if (f a.1).testBit m then [(a, ⟨m, h⟩)] else [] := by
  unfold rowM
  rw [allIt_below m h, List.filter_append, List.map_append]
  congr 1
  by_cases hb : (f a.1).testBit m = true
  · simp [hb]
  · simp [hb]
theorem rowM_all {N : Nat} {f : Nat → Nat} (hr : Rgt N f) (a : It) : rowM f a N = rowP f a := by
  unfold rowM rowP itS
  rw [List.filter_filter]
  congr 1
  apply List.filter_congr
  intro b _
  cases hb : (f a.1).testBit b.1
  · rfl
  · have := hr.snd a.2 hb
    simpa using this
theorem rowM_le (f : Nat → Nat) (a : It) (m : Nat) : (rowM f a m).length ≤ 48 := by
  unfold rowM
  rw [List.length_map]
  refine Nat.le_trans (List.length_filter_le _ _) (Nat.le_trans (List.length_filter_le _ _) ?_)
  have := congrArg List.length allIt_vals
  unfold vals at this
  simpa using Nat.le_of_eq this

set_option maxRecDepth 100000 in
set_option maxHeartbeats 4000000 in
theorem refPairs_bad (n : Int) (f : Nat → Nat) (hf : R64 f) (hb : rightB n f = false) (w : World) :
    Calls Tryd.prog 33 #[.agg (relC n f)] w fun e w' => e = .returned (.slice none 0 0) ∧ Below w.heap.size w w' := by
  have HR := Lib.hid (fun w => show Calls Tryd.prog 17 #[.agg (relC n f)] w fun e w' => e = .returned (.bool false) ∧ Below w.heap.size w w' by have := refRight_any n f hf w; rwa [hb] at this)
  have hA := RelAt.new w n f
  have hB := below_new w (.cells (relC n f) 26)
  have l1 := hA.ld
  go_enter Tryd.func33, Tryd.ntmps33
  go_wp2_with fail
  refine (HR.out _).mono ?_
  rintro e w1 ⟨rfl, h⟩
  go_wp2
  go_ret
  exact ⟨rfl, thru hB h⟩
set_option maxRecDepth 100000 in
set_option maxHeartbeats 4000000 in
theorem refPairs_ok (N : Nat) (f : Nat → Nat) (hf : R64 f) (hr : Rgt N f) (w : World) :
    Calls Tryd.prog 33 #[.agg (relC N f)] w fun e w' => ∃ v, e = .returned v ∧ w'.ownsRow w.heap.size 53 2 v (pairsK f N).length (pairCells (pairsK f N)) ∧ Below w.heap.size w w' := by
  have hN := hr.le
  obtain ⟨i0, hi, hz0, hz1, hz2⟩ := info_parts infoPair
  have HR := Lib.hid (fun w => show Calls Tryd.prog 17 #[.agg (relC N f)] w fun e w' => e = .returned (.bool true) ∧ Below w.heap.size w w' by have := refRight_any N f hf w; rwa [show rightB (N : Int) f = true from hr] at this)
  have CF := Lib.hid (fun w a b (hb : b < 64) => refHas (f a) b (hf a) hb w)
  have hA := RelAt.new w N f
  have hB := below_new w (.cells (relC N f) 26)
  have l1 := hA.ld
  go_enter Tryd.func33, Tryd.ntmps33
  go_wp2_with fail
  refine (HR.out _).mono ?_
  rintro e w1 ⟨rfl, h⟩
  have hX : Kept w w1 [(w.heap.size, (N : Int), f)] := ⟨thru hB h, by simp only [List.mem_cons, List.not_mem_nil, or_false]; rintro p rfl; exact hA.on h⟩
  clear h l1 hA hB
  have n1 := (hX.at (b := w.heap.size) (n := N) (f := f) (by simp)).num
  go_wp2
  clear n1
  go_loopw [3, 4] (fun v i W => ∃ k : Nat, k ≤ N ∧ i = .int .i64 k ∧ Kept w W [(w.heap.size, (N : Int), f)] ∧ W.ownsRow w.heap.size 53 2 v (pairsK f k).length (pairCells (pairsK f k))) (fun _ i _ => N - (intOf i).toNat)
  case atStart => exact ⟨0, by omega, rfl, hX, by rw [pairsK_zero]; exact World.ownsRow_nil _ _ _ _⟩
  case round =>
    clear hX
    obtain ⟨k, hk, rfl, hX, hrow⟩ := hrel
    have n1 := (hX.at (b := w.heap.size) (n := N) (f := f) (by simp)).num
    have hple := pairsK_le f k (by omega)
    by_cases hkN : k < N
    · have tk : decide (k < N) = true := by simpa using hkN
      have hrow0 : wr.ownsRow w.heap.size 53 2 u3 (pairsK f k ++ rowM f ⟨k, by omega⟩ 0).length (pairCells (pairsK f k ++ rowM f ⟨k, by omega⟩ 0)) := by rw [rowM_zero, List.append_nil]; exact hrow
      go_wp2
      clear n1
      go_loopw [3, 5] (fun v j W => ∃ m : Nat, m ≤ N ∧ j = .int .i64 m ∧ Kept w W [(w.heap.size, (N : Int), f)] ∧ W.ownsRow w.heap.size 53 2 v (pairsK f k ++ rowM f ⟨k, by omega⟩ m).length (pairCells (pairsK f k ++ rowM f ⟨k, by omega⟩ m))) (fun _ j _ => N - (intOf j).toNat)
      case atStart => exact ⟨0, by omega, rfl, hX, hrow0⟩
      case round =>
        clear hX hrow hrow0
        obtain ⟨m, hm, rfl, hX, hrow⟩ := hrel
        have n1 := (hX.at (b := w.heap.size) (n := N) (f := f) (by simp)).num
        by_cases hmN : m < N
        · have tm : decide (m < N) = true := by simpa using hmN
          have zk : (k : Int) < 48 := by omega
          have r1 := (hX.at (b := w.heap.size) (n := N) (f := f) (by simp)).row k (by omega)
          have cF := CF.out wr k m (by omega)
          have hs := rowM_succ f ⟨k, by omega⟩ m (by omega)
          change rowM f _ (m + 1) = rowM f _ m ++ (if (f k).testBit m then _ else _) at hs
          have hle := rowM_le f ⟨k, by omega⟩ m
          have hXh := Lib.hid hX
          clear hX
          cases hb1 : (f k).testBit m
          · rw [hb1] at cF hs
            replace cF := Lib.hid cF
            rw [if_neg (by simp), List.append_nil] at hs
            rw [← hs] at hrow
            replace hrow := Lib.hid hrow
            clear hb1 hs
            go_wp2_with fail
            refine cF.out.mono ?_
            rintro e w1 ⟨rfl, rfl⟩
            go_wp2
            go_roundw
            case rel => exact ⟨m + 1, by omega, by go_num, hXh.out, hrow.out⟩
            case measure => simp [intOf]; omega
          · rw [hb1] at cF hs
            replace cF := Lib.hid cF
            rw [if_pos rfl] at hs
            have hlen : (pairsK f k ++ rowM f ⟨k, by omega⟩ m).length ≤ 2400 := by rw [List.length_append]; omega
            have hsn : pairCells (pairsK f k ++ rowM f ⟨k, by omega⟩ (m + 1)) = pairCells (pairsK f k ++ rowM f ⟨k, by omega⟩ m) ++ [.int .i64 (k : Int), .int .i64 (m : Int)] := by rw [hs, ← List.append_assoc, pairCells_snoc]
            have hsl : (pairsK f k ++ rowM f ⟨k, by omega⟩ (m + 1)).length = (pairsK f k ++ rowM f ⟨k, by omega⟩ m).length + 1 := by rw [hs, ← List.append_assoc]; simp; omega
            replace hsn := Lib.hid hsn
            replace hsl := Lib.hid hsl
            clear hb1 hs hle
            have hbase := hXh.out.1.size
            generalize (pairsK f k ++ rowM f ⟨k, by omega⟩ m).length = len at *
            generalize pairCells (pairsK f k ++ rowM f ⟨k, by omega⟩ m) = cells at *
            go_wp2_with fail
            refine cF.out.mono ?_
            rintro e w1 ⟨rfl, rfl⟩
            go_wp2_with (at_builtin; refine wpList_append_own _ rfl _ _ 27 rfl w.heap.size 53 i0 (.agg #[.int .i64 0, .int .i64 0]) 2 16 Tryd.underlying27 hi hz0 hz1 hz2 rfl (by decide) _ _ _ rfl (hrow.alloc _) ⟨wr.heap.size, 0, none⟩ 1 1 [.int .i64 (k : Int), .int .i64 (m : Int)] rfl rfl (cell_two_new _ _ _ _) (by simp [Value.oneCell']) (by unfold maxLen; omega) (by omega) (by simp; omega) ?_; intro v' w2 hown' hgrow _; have hX2 := (hXh.out.on (below_new wr (.cells #[.int .i64 (k : Int), .int .i64 (m : Int)] 53))).grown (by decide) (hrow.alloc (.cells #[.int .i64 (k : Int), .int .i64 (m : Int)] 53)) hgrow)
            replace hown' := Lib.hid hown'
            replace hX2 := Lib.hid hX2
            clear hgrow hrow
            go_roundw
            case rel => exact ⟨m + 1, by omega, by go_num, hX2.out, by rw [hsn.out, hsl.out]; exact hown'.out⟩
            case measure => simp [intOf]; omega
        · obtain rfl : m = N := by omega
          rw [rowM_all hr, ← pairsK_succ] at hrow
          have hXh := Lib.hid hX
          have hrowh := Lib.hid hrow
          clear hX hrow
          go_wp2
          go_roundw
          case rel => exact ⟨k + 1, by omega, by go_num, hXh.out, hrowh.out⟩
          case measure => simp [intOf]; omega
    · obtain rfl : k = N := by omega
      have hXh := Lib.hid hX
      have hrowh := Lib.hid hrow
      clear hX hrow
      go_wp2
      go_ret
      exact ⟨_, rfl, hrowh.out, hXh.out.1⟩
end Go.Proofs.YtnfkedcbhjbhkaaDoor
