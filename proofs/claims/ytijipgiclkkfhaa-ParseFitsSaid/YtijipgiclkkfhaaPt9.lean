/- ParSame, ParSame2, ParSame3, ParTyped in one text, for the claim. -/
import Derived.Test.YtijipgiclkkfhaaPt8
import Derived.Test.YtijipgiclkkfhaaPt7

section
/- Comparing the same texts, bytes, instructions: true. -/
namespace Go.Proofs.Ytijipgiclkkfhaa
open Go.RowKit Go.Shelf
open Go.BigFrame

attribute [local go_sem] Oper.semAt_some
namespace PP
/-- A slice that reads as xs, wherever it lies. -/
def SlR (W : World) (size : Nat) (v : Value) (n : Nat) (xs : List Value) : Prop :=
  n ≤ maxLen ∧ xs.length = n * size ∧ ∃ (a : Option Addr) (cap : Nat), v = .slice a n cap ∧ n ≤ cap ∧ cap ≤ maxLen ∧ (0 < n → ∃ g off, a = some ⟨g, off, none⟩ ∧ ∀ (j : Nat) (u : Value), xs[j]? = some u → W.cell? ⟨g, off + j, none⟩ = some u)
theorem SlR.below {W W' : World} {size n : Nat} {v : Value} {xs : List Value} (h : SlR W size v n xs) (B : Below W.heap.size W W') : SlR W' size v n xs := by
  obtain ⟨h1, h2, a, cap, h3, h4, h5, h6⟩ := h
  refine ⟨h1, h2, a, cap, h3, h4, h5, fun h0 => ?_⟩
  obtain ⟨g, off, e1, e2⟩ := h6 h0
  exact ⟨g, off, e1, fun j u hj => cell_on (e2 j u hj) B⟩
theorem slR_own {W : World} {base size n : Nat} {e : TypeId} {v : Value} {xs : List Value} (h : W.ownsRow base e size v n xs) : SlR W size v n xs := by
  rcases h.2 with ⟨rfl, h0⟩ | ⟨g, cap, cur, rfl, hg, hheap, hnc, hcm, hsz, htk⟩
  · exact ⟨by rw [h0]; exact Nat.zero_le _, h.1, none, 0, by rw [h0], by rw [h0]; exact Nat.le_refl _, Nat.zero_le _, fun h => by omega⟩
  · refine ⟨Nat.le_trans hnc hcm, h.1, _, cap, rfl, hnc, hcm, fun _ => ⟨g, 0, rfl, fun j u hu => ?_⟩⟩
    have hj : j < n * size := by rw [← h.1]; exact (List.getElem?_eq_some_iff.1 hu).1
    rw [Nat.zero_add, h.cellAt j hj]
    exact hu
theorem slR_nil (W : World) (size : Nat) : SlR W size (.slice none 0 0) 0 [] := ⟨Nat.zero_le _, by simp, none, 0, rfl, Nat.le_refl _, Nat.zero_le _, fun h => by omega⟩
set_option maxRecDepth 100000 in
set_option maxHeartbeats 8000000 in
theorem sameTexts_any (v u : Value) (l : List ByteArray) (w : World) (hv : SlR w 1 v l.length (l.map .string)) (hu : SlR w 1 u l.length (l.map .string)) :
    Calls Try.prog 23 #[v, u] w fun e w' => e = .returned (.bool true) ∧ Below w.heap.size w w' := by
  obtain ⟨h1, -, a, cap, rfl, h4, h5, h6⟩ := hv
  obtain ⟨-, -, a', cap', rfl, h4', h5', h6'⟩ := hu
  obtain ⟨N, hN⟩ : ∃ N, l.length = N := ⟨_, rfl⟩
  rw [hN] at h1 h4 h6 h4' h6' ⊢
  have hx : ∀ x : ByteArray, (x.toList != x.toList) = false := fun x => by simp
  have hx2 : ∀ x : ByteArray, (x != x) = false := fun x => by simp
  unfold maxLen at h1 h5 h5'
  replace h6 := Lib.hid h6
  replace h6' := Lib.hid h6'
  go_enter Try.func23, Try.ntmps23
  go_wp2_with fail
  go_loopw [5] (fun i wr => ∃ q : Nat, q ≤ N ∧ i = .int .i64 (q : Int) ∧ Hid (Below w.heap.size w wr)) (fun i _ => N - (intOf i).toNat)
  case atStart => exact ⟨0, by omega, rfl, Lib.hid (Below.refl _ _)⟩
  case round =>
    obtain ⟨q, hq, rfl, hB⟩ := hrel
    by_cases hlt : q < N
    · obtain ⟨g, off, rfl, hc⟩ := h6.out (by omega)
      obtain ⟨g', off', rfl, hc'⟩ := h6'.out (by omega)
      obtain ⟨x, hx0⟩ : ∃ x, l[q]? = some x := ⟨l[q]'(by omega), List.getElem?_eq_getElem (by omega)⟩
      have e1 := cell_on (hc q (.string x) (by rw [List.getElem?_map, hx0]; rfl)) hB.out
      have e2 := cell_on (hc' q (.string x) (by rw [List.getElem?_map, hx0]; rfl)) hB.out
      have t1 : decide (q < N) = true := by simpa using hlt
      have y1 := hx x
      have y2 := hx2 x
      clear hc hc' hx0 hx hx2
      go_wp2_with fail
      go_quiet (fail)
      go_wp2
      have hB2 := hB.out.trans ((drewB wr nq).mono hB.out.size)
      go_roundw
      case rel => exact ⟨q + 1, by omega, by go_num, Lib.hid hB2⟩
      case measure => simp [intOf]; omega
    · obtain rfl : q = N := by omega
      have t1 : decide (q < q) = false := by simp
      go_wp2
      go_ret
      exact ⟨rfl, hB.out⟩
set_option maxRecDepth 100000 in
set_option maxHeartbeats 8000000 in
theorem sameBytes_any (v u : Value) (l : List Int) (w : World) (hv : SlR w 1 v l.length (l.map (.int .u8))) (hu : SlR w 1 u l.length (l.map (.int .u8))) :
    Calls Try.prog 24 #[v, u] w fun e w' => e = .returned (.bool true) ∧ Below w.heap.size w w' := by
  obtain ⟨h1, -, a, cap, rfl, h4, h5, h6⟩ := hv
  obtain ⟨-, -, a', cap', rfl, h4', h5', h6'⟩ := hu
  obtain ⟨N, hN⟩ : ∃ N, l.length = N := ⟨_, rfl⟩
  rw [hN] at h1 h4 h6 h4' h6' ⊢
  have hx : ∀ x : Int, (x != x) = false := fun x => by simp
  have hx2 : ∀ x : Int, (x == x) = true := fun x => by simp
  unfold maxLen at h1 h5 h5'
  replace h6 := Lib.hid h6
  replace h6' := Lib.hid h6'
  go_enter Try.func24, Try.ntmps24
  go_wp2_with fail
  go_loopw [5] (fun i wr => ∃ q : Nat, q ≤ N ∧ i = .int .i64 (q : Int) ∧ Hid (Below w.heap.size w wr)) (fun i _ => N - (intOf i).toNat)
  case atStart => exact ⟨0, by omega, rfl, Lib.hid (Below.refl _ _)⟩
  case round =>
    obtain ⟨q, hq, rfl, hB⟩ := hrel
    by_cases hlt : q < N
    · obtain ⟨g, off, rfl, hc⟩ := h6.out (by omega)
      obtain ⟨g', off', rfl, hc'⟩ := h6'.out (by omega)
      obtain ⟨x, hx0⟩ : ∃ x, l[q]? = some x := ⟨l[q]'(by omega), List.getElem?_eq_getElem (by omega)⟩
      have e1 := cell_on (hc q (.int .u8 x) (by rw [List.getElem?_map, hx0]; rfl)) hB.out
      have e2 := cell_on (hc' q (.int .u8 x) (by rw [List.getElem?_map, hx0]; rfl)) hB.out
      have t1 : decide (q < N) = true := by simpa using hlt
      have y1 := hx x
      have y2 := hx2 x
      clear hc hc' hx0 hx hx2
      go_wp2_with fail
      go_quiet (fail)
      go_wp2
      have hB2 := hB.out.trans ((drewB wr nq).mono hB.out.size)
      go_roundw
      case rel => exact ⟨q + 1, by omega, by go_num, Lib.hid hB2⟩
      case measure => simp [intOf]; omega
    · obtain rfl : q = N := by omega
      have t1 : decide (q < q) = false := by simp
      go_wp2
      go_ret
      exact ⟨rfl, hB.out⟩
theorem cellsI_at : ∀ (ys : List PX.InsD) (i j : Nat) (y : PX.InsD), ys[i]? = some y → j < 10 → (cellsI ys)[i * 10 + j]? = (insC y)[j]?
  | [], i, j, y, h, _ => by simp at h
  | z :: zs, 0, j, y, h, hj => by
    simp at h; subst h
    unfold cellsI
    rw [List.flatMap_cons, List.getElem?_append_left (by show _ < 10; omega)]
    simp
  | z :: zs, i + 1, j, y, h, hj => by
    unfold cellsI
    rw [List.flatMap_cons, List.getElem?_append_right (by show 10 ≤ _; omega)]
    have e : (i + 1) * 10 + j - (insC z).toList.length = i * 10 + j := by show _ - 10 = _; omega
    rw [e]
    exact cellsI_at zs i j y (by simpa using h) hj
theorem argHeld : Try.prog.stoodInHeld 46 = false := by kernel_rfl
theorem insHeld : Try.prog.stoodInHeld 48 = false := by kernel_rfl
theorem u8Agg (w : World) : (isAgg 5).run Try.prog w = .ok false w := by kernel_rfl
theorem boolAgg (w : World) : (isAgg 4).run Try.prog w = .ok false w := by kernel_rfl
theorem argAgg (w : World) : (isAgg 46).run Try.prog w = .ok true w := by kernel_rfl
theorem argSize (w : World) : (sizeOf 46).run Try.prog w = .ok 2 w := by kernel_rfl
theorem eqArg (d : Nat) (r : Bool) (n : Int) (W : World) : (Op.equalIn (d + 1 + 1) 46 (.agg #[.bool r, .int .u8 n]) (.agg #[.bool r, .int .u8 n])).run Try.prog W = .ok true W := by
  rw [run_equalIn_agg W (d + 1) 46 _ _ (by rw [Program.fieldsOf, Try.underlying46]) argHeld]
  simp only [Program.fieldsOf, Try.underlying46, Op.eqFields]
  have hi : ∀ (n : Int) (W : World), (Op.equalIn (d + 1) 5 (.int .u8 n) (.int .u8 n)).run Try.prog W = .ok true W := fun n W => by rw [run_equalIn_int W d 5 .u8 .u8 _ _ Try.underlying5]; simp
  have hb : ∀ (r : Bool) (W : World), (Op.equalIn (d + 1) 4 (.bool r) (.bool r)).run Try.prog W = .ok true W := fun r W => by rw [run_equalIn_bool W d 4 _ _ Try.underlying4]; simp
  simp [part, u8Agg, boolAgg, hi, hb]
theorem eqIns (d : Nat) (x : PX.InsD) (W : World) : (Op.equalIn (d + 1 + 1 + 1) 48 (.agg (insC x)) (.agg (insC x))).run Try.prog W = .ok true W := by
  rw [run_equalIn_agg W (d + 1 + 1) 48 _ _ (by rw [Program.fieldsOf, Try.underlying48]) insHeld]
  simp only [Program.fieldsOf, Try.underlying48, Op.eqFields]
  have hi : ∀ (n : Int) (W : World), (Op.equalIn (d + 1 + 1) 5 (.int .u8 n) (.int .u8 n)).run Try.prog W = .ok true W := fun n W => by rw [run_equalIn_int W (d + 1) 5 .u8 .u8 _ _ Try.underlying5]; simp
  have ha := fun (r : Bool) (n : Int) W => eqArg d r n W
  have e1 : (insC x).extract 3 (3 + 2) = #[.bool x.a.r, .int .u8 x.a.n] := rfl
  have e2 : (insC x).extract 5 (5 + 2) = #[.bool x.b.r, .int .u8 x.b.n] := rfl
  have p0 : ∀ W, (part 5 (insC x) 0).run Try.prog W = .ok (.int .u8 x.op) W := fun W => by simp [part, u8Agg, insC]
  have p1 : ∀ W, (part 5 (insC x) 1).run Try.prog W = .ok (.int .u8 x.dst) W := fun W => by simp [part, u8Agg, insC]
  have p2 : ∀ W, (part 5 (insC x) 2).run Try.prog W = .ok (.int .u8 x.loc) W := fun W => by simp [part, u8Agg, insC]
  have p3 : ∀ W, (part 46 (insC x) 3).run Try.prog W = .ok (.agg #[.bool x.a.r, .int .u8 x.a.n]) W := fun W => by simp only [part, Sem.run_bind, argAgg, argSize, Result.andThen_ok, if_true, e1, Sem.run_pure]
  have p5 : ∀ W, (part 46 (insC x) 5).run Try.prog W = .ok (.agg #[.bool x.b.r, .int .u8 x.b.n]) W := fun W => by simp only [part, Sem.run_bind, argAgg, argSize, Result.andThen_ok, if_true, e2, Sem.run_pure]
  have p7 : ∀ W, (part 5 (insC x) 7).run Try.prog W = .ok (.int .u8 x.fn) W := fun W => by simp [part, u8Agg, insC]
  have p8 : ∀ W, (part 5 (insC x) 8).run Try.prog W = .ok (.int .u8 x.mode) W := fun W => by simp [part, u8Agg, insC]
  have p9 : ∀ W, (part 5 (insC x) 9).run Try.prog W = .ok (.int .u8 x.skip) W := fun W => by simp [part, u8Agg, insC]
  simp [p0, p1, p2, p3, p5, p7, p8, p9, hi, ha]
theorem ins_neq (x : PX.InsD) (U : World) : (binOp .neq 48 (.agg (insC x)) (.agg (insC x))).run Try.prog U = .ok (.bool false) U := by
  have this : (Op.equalIn Op.maxDepth 48 (.agg (insC x)) (.agg (insC x))).run Try.prog U = .ok true U := eqIns 9997 x U
  simp [binOp, Op.equal, this]
set_option maxRecDepth 100000 in
set_option maxHeartbeats 8000000 in
theorem sameInses_any (v u : Value) (l : List PX.InsD) (w : World) (hv : SlR w 10 v l.length (cellsI l)) (hu : SlR w 10 u l.length (cellsI l)) :
    Calls Try.prog 42 #[v, u] w fun e w' => e = .returned (.bool true) ∧ Below w.heap.size w w' := by
  obtain ⟨h1, -, a, cap, rfl, h4, h5, h6⟩ := hv
  obtain ⟨-, -, a', cap', rfl, h4', h5', h6'⟩ := hu
  obtain ⟨N, hN⟩ : ∃ N, l.length = N := ⟨_, rfl⟩
  rw [hN] at h1 h4 h6 h4' h6' ⊢
  unfold maxLen at h1 h5 h5'
  replace h6 := Lib.hid h6
  replace h6' := Lib.hid h6'
  go_enter Try.func42, Try.ntmps42
  go_wp2_with fail
  go_loopw [5] (fun i wr => ∃ q : Nat, q ≤ N ∧ i = .int .i64 (q : Int) ∧ Hid (Below w.heap.size w wr)) (fun i _ => N - (intOf i).toNat)
  case atStart => exact ⟨0, by omega, rfl, Lib.hid (Below.refl _ _)⟩
  case round =>
    obtain ⟨q, hq, rfl, hB⟩ := hrel
    by_cases hlt : q < N
    · obtain ⟨g, off, rfl, hc⟩ := h6.out (by omega)
      obtain ⟨g', off', rfl, hc'⟩ := h6'.out (by omega)
      obtain ⟨x, hx0⟩ : ∃ x, l[q]? = some x := ⟨l[q]'(by omega), List.getElem?_eq_getElem (by omega)⟩
      have s1 : Hid (∀ U, Below wr.heap.size wr U → ∀ j v, (insC x).toList[j]? = some v → U.cell? (Addr.add ⟨g, off + q * 10, none⟩ j) = some v) := Lib.hid fun U B j v hj => by
        have hj10 : j < 10 := (List.getElem?_eq_some_iff.1 hj).1
        rw [Go.WideShapes.add_plain]
        have := hc (q * 10 + j) v (by rw [cellsI_at l q j x hx0 hj10, ← Array.getElem?_toList]; exact hj)
        rw [← Nat.add_assoc] at this
        exact cell_on (cell_on this hB.out) B
      have s2 : Hid (∀ U, Below wr.heap.size wr U → ∀ j v, (insC x).toList[j]? = some v → U.cell? (Addr.add ⟨g', off' + q * 10, none⟩ j) = some v) := Lib.hid fun U B j v hj => by
        have hj10 : j < 10 := (List.getElem?_eq_some_iff.1 hj).1
        rw [Go.WideShapes.add_plain]
        have := hc' (q * 10 + j) v (by rw [cellsI_at l q j x hx0 hj10, ← Array.getElem?_toList]; exact hj)
        rw [← Nat.add_assoc] at this
        exact cell_on (cell_on this hB.out) B
      have t1 : decide (q < N) = true := by simpa using hlt
      have hq1 := ins_neq x
      unfold insC at hq1 s1 s2
      clear hc hc' hx0
      go_wp2_with fail
      refine wp_region_below wr.heap.size wr (by kernel_rfl) (by kernel_rfl) (Below.refl _ _) ?_
      repeat (first
        | (go_big_quiet_step (first | (intro _; exact rfl)))
        | (refine wpQuiet_want rfl fun K hK => ?_
           first
             | refine quiet_loadS 48 (.tmp 19) rfl ⟨g, off + q * 10, none⟩ rfl _ _ Try.underlying48 rfl (by kernel_rfl) s1.out (hK _ ?_)
             | refine quiet_loadS 48 (.tmp 23) rfl ⟨g', off' + q * 10, none⟩ rfl _ _ Try.underlying48 rfl (by kernel_rfl) s2.out (hK _ ?_)
           clear hK K
           simp only [Act.put, List.setIfInBounds_toArray, List.set_cons_succ, List.set_cons_zero]))
      refine wpQuiet_nil ?_
      intro wz hz
      have hB2 := Lib.hid (hB.out.trans (hz.mono hB.out.size))
      go_wp2
      go_roundw
      case rel => exact ⟨q + 1, by omega, by go_num, hB2⟩
      case measure => simp [intOf]; omega
    · obtain rfl : q = N := by omega
      have t1 : decide (q < q) = false := by simp
      go_wp2
      go_ret
      exact ⟨rfl, hB.out⟩
set_option maxRecDepth 100000 in
set_option maxHeartbeats 8000000 in
theorem sameThreads_any (v u : Value) (l : List (List PX.InsD)) (vs us : List Value) (w : World) (hv : SlR w 1 v l.length vs) (hu : SlR w 1 u l.length us) (ho : ∀ (i : Nat) (x y : Value) (k : List PX.InsD), vs[i]? = some x → us[i]? = some y → l[i]? = some k → SlR w 10 x k.length (cellsI k) ∧ SlR w 10 y k.length (cellsI k)) :
    Calls Try.prog 25 #[v, u] w fun e w' => e = .returned (.bool true) ∧ Below w.heap.size w w' := by
  obtain ⟨h1, hl1, a, cap, rfl, h4, h5, h6⟩ := hv
  obtain ⟨-, hl2, a', cap', rfl, h4', h5', h6'⟩ := hu
  obtain ⟨N, hN⟩ : ∃ N, l.length = N := ⟨_, rfl⟩
  rw [hN] at h1 h4 h6 h4' h6' ⊢
  have CS := Lib.hid fun v u l W a b => sameInses_any v u l W a b
  unfold maxLen at h1 h5 h5'
  replace h6 := Lib.hid h6
  replace h6' := Lib.hid h6'
  go_enter Try.func25, Try.ntmps25
  go_wp2_with fail
  go_loopw [5] (fun i wr => ∃ q : Nat, q ≤ N ∧ i = .int .i64 (q : Int) ∧ Hid (Below w.heap.size w wr)) (fun i _ => N - (intOf i).toNat)
  case atStart => exact ⟨0, by omega, rfl, Lib.hid (Below.refl _ _)⟩
  case round =>
    obtain ⟨q, hq, rfl, hB⟩ := hrel
    by_cases hlt : q < N
    · obtain ⟨g, off, rfl, hc⟩ := h6.out (by omega)
      obtain ⟨g', off', rfl, hc'⟩ := h6'.out (by omega)
      obtain ⟨k, hk0⟩ : ∃ x, l[q]? = some x := ⟨l[q]'(by omega), List.getElem?_eq_getElem (by omega)⟩
      obtain ⟨x, hx0⟩ : ∃ x, vs[q]? = some x := ⟨vs[q]'(by omega), List.getElem?_eq_getElem (by omega)⟩
      obtain ⟨y, hy0⟩ : ∃ x, us[q]? = some x := ⟨us[q]'(by omega), List.getElem?_eq_getElem (by omega)⟩
      have s1 : Hid (∀ U, Below wr.heap.size wr U → U.cell? ⟨g, off + q, none⟩ = some x) := Lib.hid fun U B => cell_on (cell_on (hc q x hx0) hB.out) B
      have s2 : Hid (∀ U, Below wr.heap.size wr U → U.cell? ⟨g', off' + q, none⟩ = some y) := Lib.hid fun U B => cell_on (cell_on (hc' q y hy0) hB.out) B
      obtain ⟨o1, o2⟩ := ho q x y k hx0 hy0 hk0
      have cs := Lib.hid fun W (B : Below wr.heap.size wr W) => CS.out x y k W ((o1.below hB.out).below B) ((o2.below hB.out).below B)
      have t1 : decide (q < N) = true := by simpa using hlt
      clear hc hc' hx0 hy0 hk0 o1 o2
      go_wp2_with fail
      refine wp_region_below wr.heap.size wr (by kernel_rfl) (by kernel_rfl) (Below.refl _ _) ?_
      repeat (first
        | (go_big_quiet_step (first
          | (intro _; exact rfl)
          | (intro hW; go_at_call 42; exact Calls.below_of hW (cs.out _ hW))))
        | (refine wpQuiet_want rfl fun K hK => ?_
           first
             | refine quiet_load 44 (.tmp 19) rfl ⟨g, off + q, none⟩ rfl _ (fun _ => by kernel_rfl) s1.out (hK _ ?_)
             | refine quiet_load 44 (.tmp 23) rfl ⟨g', off' + q, none⟩ rfl _ (fun _ => by kernel_rfl) s2.out (hK _ ?_)
           clear hK K
           simp only [Act.put, List.setIfInBounds_toArray, List.set_cons_succ, List.set_cons_zero]))
      refine wpQuiet_nil ?_
      intro wz hz
      have hB2 := Lib.hid (hB.out.trans (hz.mono hB.out.size))
      go_wp2
      go_roundw
      case rel => exact ⟨q + 1, by omega, by go_num, hB2⟩
      case measure => simp [intOf]; omega
    · obtain rfl : q = N := by omega
      have t1 : decide (q < q) = false := by simp
      go_wp2
      go_ret
      exact ⟨rfl, hB.out⟩
end PP
end Go.Proofs.Ytijipgiclkkfhaa
end

section
/- Comparing the same conditions, the same programs: true. -/
namespace Go.Proofs.Ytijipgiclkkfhaa
open Go.RowKit Go.Shelf
open Go.BigFrame

attribute [local go_sem] Oper.semAt_some
namespace PP
/-- A slice of conditions, wherever they lie. -/
def KidSl (W : World) (v : Value) (kids : List PX.CondD) : Prop :=
  ∃ (a : Option Addr) (cap : Nat), v = .slice a kids.length cap ∧ kids.length ≤ cap ∧ cap ≤ maxLen ∧
      (0 < kids.length → ∃ (g off : Nat) (C : Array Value) (ys : List CV), a = some ⟨g, off, none⟩ ∧ W.heap[g]? = some (.cells C 24 (0, 0)) ∧
        (∀ (i j : Nat) (y : CV), ys[i]? = some y → j < 5 → C[off + i * 5 + j]? = (condC y)[j]?) ∧ KidsR W ys kids)
theorem KidSl.at {W : World} {v : Value} {kids : List PX.CondD} (h : KidSl W v kids) : ∃ a cap, v = .slice a kids.length cap ∧ kids.length ≤ cap ∧ cap ≤ maxLen ∧ ∀ (i : Nat) (d : PX.CondD) (U : World), Below W.heap.size W U → kids[i]? = some d → ∃ g off y, a = some ⟨g, off, none⟩ ∧ CondR U y d ∧ ∀ U', Below U.heap.size U U' → ∀ j u, (condC y).toList[j]? = some u → U'.cell? (Addr.add ⟨g, off + i * 5, none⟩ j) = some u := by
  obtain ⟨a, cap, rfl, h1, h2, h3⟩ := h
  refine ⟨a, cap, rfl, h1, h2, fun i d U B hi => ?_⟩
  have h0 := (List.getElem?_eq_some_iff.1 hi).1
  obtain ⟨g, off, C, ys, rfl, e2, e3, e4⟩ := h3 (by omega)
  obtain ⟨y, hy, hR⟩ := KidsR.at kids ys e4 i d hi
  refine ⟨g, off, y, rfl, hR.below B, fun U' B' j u hj => ?_⟩
  have hj5 : j < 5 := (List.getElem?_eq_some_iff.1 hj).1
  rw [Go.WideShapes.add_plain]
  have := e3 i j y hy hj5
  refine cell_on (cell_on (W := W) ((cell_of_row _ g _ _ _ _ e2).trans ?_) B) B'
  rw [this, ← Array.getElem?_toList]
  exact hj
theorem KidSl.below {W W' : World} {v : Value} {kids : List PX.CondD} (h : KidSl W v kids) (B : Below W.heap.size W W') : KidSl W' v kids := by
  obtain ⟨a, cap, rfl, h1, h2, h3⟩ := h
  refine ⟨a, cap, rfl, h1, h2, fun h0 => ?_⟩
  obtain ⟨g, off, C, ys, e1, e2, e3, e4⟩ := h3 h0
  exact ⟨g, off, C, ys, e1, (B.block g (lt_of_heap e2)).trans e2, e3, KidsR.keep (fun g _ hg => (B.block g (lt_of_heap hg)).trans hg) _ _ e4⟩
def SameC (m : Nat) : Prop := ∀ (c : PX.CondD) (x y : CV) (W : World), PX.deep c ≤ m → CondR W x c → CondR W y c → Calls Try.prog 19 #[condV x, condV y] W fun e w' => e = .returned (.bool true) ∧ Below W.heap.size W w'
set_option maxRecDepth 100000 in
set_option maxHeartbeats 8000000 in
theorem sameConds_of (m : Nat) (hm : SameC m) (v u : Value) (l : List PX.CondD) (w : World) (hd : PX.deepL l ≤ m) (hv : KidSl w v l) (hu : KidSl w u l) :
    Calls Try.prog 34 #[v, u] w fun e w' => e = .returned (.bool true) ∧ Below w.heap.size w w' := by
  obtain ⟨a, cap, rfl, h4, h5, h6⟩ := hv.at
  obtain ⟨a', cap', rfl, h4', h5', h6'⟩ := hu.at
  obtain ⟨N, hN⟩ : ∃ N, l.length = N := ⟨_, rfl⟩
  rw [hN] at h4 h4' ⊢
  unfold maxLen at h5 h5'
  clear hv hu
  replace h6 := Lib.hid h6
  replace h6' := Lib.hid h6'
  replace hm := Lib.hid hm
  go_enter Try.func34, Try.ntmps34
  go_wp2_with fail
  go_loopw [5] (fun i wr => ∃ q : Nat, q ≤ N ∧ i = .int .i64 (q : Int) ∧ Hid (Below w.heap.size w wr)) (fun i _ => N - (intOf i).toNat)
  case atStart => exact ⟨0, by omega, rfl, Lib.hid (Below.refl _ _)⟩
  case round =>
    obtain ⟨q, hq, rfl, hB⟩ := hrel
    by_cases hlt : q < N
    · obtain ⟨d, hd0⟩ : ∃ x, l[q]? = some x := ⟨l[q]'(by omega), List.getElem?_eq_getElem (by omega)⟩
      obtain ⟨g, off, x, rfl, hx, hcx⟩ := h6.out q d wr hB.out hd0
      obtain ⟨g', off', y, rfl, hy, hcy⟩ := h6'.out q d wr hB.out hd0
      have hdd := deepL_le l q d hd0
      have cs := Lib.hid fun W (B : Below wr.heap.size wr W) => hm.out d x y W (by omega) (hx.below B) (hy.below B)
      have t1 : decide (q < N) = true := by simpa using hlt
      unfold condV at cs
      unfold condC at hcx hcy
      replace hcx := Lib.hid hcx
      replace hcy := Lib.hid hcy
      clear hd0 hx hy hdd
      go_wp2_with fail
      refine wp_region_below wr.heap.size wr (by kernel_rfl) (by kernel_rfl) (Below.refl _ _) ?_
      repeat (first
        | (go_big_quiet_step (first
          | (intro _; exact rfl)
          | (intro hW; go_at_call 19; exact Calls.below_of hW (cs.out _ hW))))
        | (refine wpQuiet_want rfl fun K hK => ?_
           first
             | refine quiet_loadS 24 (.tmp 19) rfl ⟨g, off + q * 5, none⟩ rfl _ _ Try.underlying24 rfl (by kernel_rfl) hcx.out (hK _ ?_)
             | refine quiet_loadS 24 (.tmp 23) rfl ⟨g', off' + q * 5, none⟩ rfl _ _ Try.underlying24 rfl (by kernel_rfl) hcy.out (hK _ ?_)
           clear hK K
           simp only [Act.put, List.setIfInBounds_toArray, List.set_cons_succ, List.set_cons_zero]))
      refine wpQuiet_nil ?_
      intro wz hz
      have hB2 := Lib.hid (hB.out.trans (hz.mono hB.out.size))
      go_wp2
      go_roundw
      case rel => exact ⟨q + 1, by omega, by go_num, hB2⟩
      case measure => simp [intOf]; omega
    · obtain rfl : q = N := by omega
      have t1 : decide (q < q) = false := by simp
      go_wp2
      go_ret
      exact ⟨rfl, hB.out⟩
theorem CondR.kids {W : World} {x : CV} {k t n v : Int} {kids : List PX.CondD} (h : CondR W x (.mk k t n v kids)) : KidSl W x.u kids := by
  obtain ⟨_, _, _, _, a, cap, h5, h6, h7, h8⟩ := h
  exact ⟨a, cap, h5, h6, h7, h8⟩
set_option maxRecDepth 100000 in
set_option maxHeartbeats 8000000 in
theorem sameCond_all : ∀ m, SameC m
  | 0 => fun c x y W hd _ _ => by cases c; simp [PX.deep] at hd
  | m + 1 => by
    intro c x y w hd hx hy
    have ih := sameCond_all m
    cases c with
    | mk k t n v kids =>
      have hdk : PX.deepL kids ≤ m := by simp only [PX.deep] at hd; omega
      have kx := hx.kids
      have ky := hy.kids
      obtain ⟨a1, a2, a3, a4, a, cap, a5, -⟩ := hx
      obtain ⟨b1, b2, b3, b4, a', cap', b5, -⟩ := hy
      obtain ⟨xk, xt, xn, xv, xu⟩ := x
      obtain ⟨yk, yt, yn, yv, yu⟩ := y
      simp only at a1 a2 a3 a4 a5 b1 b2 b3 b4 b5 kx ky
      subst a1 a2 a3 a4 a5 b1 b2 b3 b4 b5
      obtain ⟨N, hN⟩ : ∃ N, kids.length = N := ⟨_, rfl⟩
      rw [hN] at kx ky
      unfold condV
      simp only
      rw [hN]
      have A1 := ((Below.refl w.heap.size w).alloc (Nat.le_refl _) (.cells #[.int .u8 yk, .int .u8 yt, .int .u8 yn, .int .u8 yv, .slice a N cap] 24)).alloc (by simp) (.cells #[.int .u8 yk, .int .u8 yt, .int .u8 yn, .int .u8 yv, .slice a' N cap'] 24)
      have z1 := row_alloc (heap_alloc_new w (.cells #[.int .u8 yk, .int .u8 yt, .int .u8 yn, .int .u8 yv, .slice a N cap] 24)) (.cells #[.int .u8 yk, .int .u8 yt, .int .u8 yn, .int .u8 yv, .slice a' N cap'] 24)
      have z2 := heap_alloc_new (w.alloc (.cells #[.int .u8 yk, .int .u8 yt, .int .u8 yn, .int .u8 yv, .slice a N cap] 24)) (.cells #[.int .u8 yk, .int .u8 yt, .int .u8 yn, .int .u8 yv, .slice a' N cap'] 24)
      simp only [World.size_alloc] at z2
      have CS := Lib.hid fun W (B : Below w.heap.size w W) => sameConds_of m ih _ _ kids W hdk (kx.below B) (ky.below B)
      have cs := Lib.hid (CS.out _ A1)
      have e0 := cell_of_row _ _ 0 _ _ _ z1
      have e1 := cell_of_row _ _ 1 _ _ _ z1
      have e2 := cell_of_row _ _ 2 _ _ _ z1
      have e3 := cell_of_row _ _ 3 _ _ _ z1
      have e4 := cell_of_row _ _ 4 _ _ _ z1
      have g0 := cell_of_row _ _ 0 _ _ _ z2
      have g1 := cell_of_row _ _ 1 _ _ _ z2
      have g2 := cell_of_row _ _ 2 _ _ _ z2
      have g3 := cell_of_row _ _ 3 _ _ _ z2
      have g4 := cell_of_row _ _ 4 _ _ _ z2
      simp only [List.getElem?_toArray, List.getElem?_cons_zero, List.getElem?_cons_succ] at e0 e1 e2 e3 e4 g0 g1 g2 g3 g4
      have hxx : ∀ z : Int, (z == z) = true := fun z => by simp
      replace A1 := Lib.hid A1
      clear z1 z2 CS kx ky hd
      go_enter Try.func19, Try.ntmps19
      go_wp2_with (first
        | (go_at_call 34; refine (cs.out).mono ?_; rintro e w3 ⟨rfl, B3⟩))
      go_ret
      exact ⟨rfl, A1.out.trans (B3.mono A1.out.size)⟩
theorem sameCond_any (c : PX.CondD) (x y : CV) (W : World) (hx : CondR W x c) (hy : CondR W y c) : Calls Try.prog 19 #[condV x, condV y] W fun e w' => e = .returned (.bool true) ∧ Below W.heap.size W w' :=
  sameCond_all _ c x y W (Nat.le_refl _) hx hy
end PP
end Go.Proofs.Ytijipgiclkkfhaa
end

section
/- Comparing the same programs: true. -/
namespace Go.Proofs.Ytijipgiclkkfhaa
open Go.RowKit Go.Shelf
open Go.BigFrame

attribute [local go_sem] Oper.semAt_some
namespace PP
/-- What a program holds, as plain data. -/
structure PgD where
  name : ByteArray
  locs : List ByteArray
  init : List Int
  threads : List (List PX.InsD)
  ask : Int
  cond : PX.CondD
def pgD (st : PX.S) : PgD := ⟨st.name, st.locs, st.init, st.threads, st.ask, st.cond⟩
def pgZ : PgD := ⟨⟨#[]⟩, [], [], [], 0, .mk 0 0 0 0 []⟩
/-- A program's slices and condition, where they lie. -/
structure PV where
  a2 : Option Addr
  n2 : Nat
  p2 : Nat
  a6 : Option Addr
  n6 : Nat
  p6 : Nat
  a7 : Option Addr
  n7 : Nat
  p7 : Nat
  xk : Int
  xt : Int
  xn : Int
  xv : Int
  xa : Option Addr
  xl : Nat
  xp : Nat
def pvC (d : PgD) (v : PV) : Array Value := #[.string d.name, .slice v.a2 v.n2 v.p2, .slice v.a6 v.n6 v.p6, .slice v.a7 v.n7 v.p7, .int .u8 d.ask, .int .u8 v.xk, .int .u8 v.xt, .int .u8 v.xn, .int .u8 v.xv, .slice v.xa v.xl v.xp]
/-- The cells pvC d v read as the program d. -/
structure PgR (W : World) (d : PgD) (v : PV) : Prop where
  locs : SlR W 1 (.slice v.a2 v.n2 v.p2) d.locs.length (d.locs.map .string)
  init : SlR W 1 (.slice v.a6 v.n6 v.p6) d.init.length (d.init.map (.int .u8))
  thr : ∃ vs : List Value, SlR W 1 (.slice v.a7 v.n7 v.p7) d.threads.length vs ∧ ∀ (i : Nat) (x : Value) (k : List PX.InsD), vs[i]? = some x → d.threads[i]? = some k → SlR W 10 x k.length (cellsI k)
  cond : CondR W ⟨v.xk, v.xt, v.xn, v.xv, .slice v.xa v.xl v.xp⟩ d.cond
theorem PgR.below {W W' : World} {d : PgD} {v : PV} (h : PgR W d v) (B : Below W.heap.size W W') : PgR W' d v := by
  obtain ⟨vs, h1, h2⟩ := h.thr
  exact ⟨h.locs.below B, h.init.below B, ⟨vs, h1.below B, fun i x k a b => (h2 i x k a b).below B⟩, h.cond.below B⟩
theorem PgM.toR {W : World} {b : Nat} {st : PX.S} {h : Hd} (P : PgM W b st h) : ∃ v : PV, progV st h = .agg (pvC (pgD st) v) ∧ PgR W (pgD st) v := by
  obtain ⟨xc, k0, k1, k2, k3, k4, k5⟩ := P.cnd
  obtain ⟨xa, xl, xp, hu⟩ := k5.slice
  obtain ⟨a2, n2, p2, hvl⟩ : ∃ a n cap, h.vl = .slice a n cap := by
    rcases P.locs.2 with ⟨e, _⟩ | ⟨g, cap, cur, e, _⟩
    · exact ⟨_, _, _, e⟩
    · exact ⟨_, _, _, e⟩
  obtain ⟨a6, n6, p6, hvi⟩ : ∃ a n cap, h.vi = .slice a n cap := by
    rcases P.init.2 with ⟨e, _⟩ | ⟨g, cap, cur, e, _⟩
    · exact ⟨_, _, _, e⟩
    · exact ⟨_, _, _, e⟩
  obtain ⟨a7, p7, hvt⟩ := P.thr.sl
  obtain ⟨vs, t1, t2⟩ := P.thr
  refine ⟨⟨a2, n2, p2, a6, n6, p6, a7, st.threads.length, p7, xc.k, xc.t, xc.n, xc.v, xa, xl, xp⟩, ?_, ?_, ?_, ⟨vs, ?_, fun i x k a c => slR_own (t2.2.1 i x k a c)⟩, ?_⟩
  · unfold progV; rw [hvl, hvi, hvt, k0, k1, k2, k3, k4, hu]; rfl
  · have := slR_own P.locs
    rw [hvl] at this
    exact this
  · have h1 := slR_own P.init
    have hn : st.init.length = st.locs.length := by have := P.init.1; simpa using this
    rw [hvi, ← hn] at h1
    exact h1
  · have := slR_own t1
    rw [hvt] at this
    exact this
  · have := CondM.toR _ _ k5
    obtain ⟨yk, yt, yn, yv, yu⟩ := xc
    simp only at hu
    subst hu
    exact this
def pvZ : PV := ⟨none, 0, 0, none, 0, 0, none, 0, 0, 0, 0, 0, 0, none, 0, 0⟩
theorem pgR_zero (W : World) : PgR W pgZ pvZ :=
  ⟨slR_nil W 1, slR_nil W 1, ⟨[], slR_nil W 1, fun i x k a => by simp at a⟩, rfl, rfl, rfl, rfl, none, 0, rfl, Nat.le_refl _, Nat.zero_le _, fun h => by simp at h⟩
set_option maxRecDepth 100000 in
set_option maxHeartbeats 16000000 in
theorem sameProg_any (d : PgD) (v u : PV) (w : World) (hv : PgR w d v) (hu : PgR w d u) :
    Calls Try.prog 13 #[.agg (pvC d v), .agg (pvC d u)] w fun e w' => e = .returned (.bool true) ∧ Below w.heap.size w w' := by
  obtain ⟨name, locs, init, threads, ask, cond⟩ := d
  have C1 := Lib.hid fun W (B : Below w.heap.size w W) => sameTexts_any _ _ _ W (hv.locs.below B) (hu.locs.below B)
  have C2 := Lib.hid fun W (B : Below w.heap.size w W) => sameBytes_any _ _ _ W (hv.init.below B) (hu.init.below B)
  obtain ⟨vs, t1, t2⟩ := hv.thr
  obtain ⟨us, t3, t4⟩ := hu.thr
  have C3 := Lib.hid fun W (B : Below w.heap.size w W) => sameThreads_any _ _ _ vs us W (t1.below B) (t3.below B) (fun i x y k a b c => ⟨(t2 i x k a c).below B, (t4 i y k b c).below B⟩)
  have C4 := Lib.hid fun W (B : Below w.heap.size w W) => sameCond_any cond _ _ W (hv.cond.below B) (hu.cond.below B)
  unfold condV at C4
  obtain ⟨a2, n2, p2, a6, n6, p6, a7, n7, p7, xk, xt, xn, xv, xa, xl, xp⟩ := v
  obtain ⟨b2, m2, q2, b6, m6, q6, b7, m7, q7, yk, yt, yn, yv, ya, yl, yp⟩ := u
  unfold pvC
  simp only at C1 C2 C3 C4 ⊢
  have A1 := ((Below.refl w.heap.size w).alloc (Nat.le_refl _) (.cells #[.string name, .slice a2 n2 p2, .slice a6 n6 p6, .slice a7 n7 p7, .int .u8 ask, .int .u8 xk, .int .u8 xt, .int .u8 xn, .int .u8 xv, .slice xa xl xp] 37)).alloc (by simp) (.cells #[.string name, .slice b2 m2 q2, .slice b6 m6 q6, .slice b7 m7 q7, .int .u8 ask, .int .u8 yk, .int .u8 yt, .int .u8 yn, .int .u8 yv, .slice ya yl yp] 37)
  have z1 := row_alloc (heap_alloc_new w (.cells #[.string name, .slice a2 n2 p2, .slice a6 n6 p6, .slice a7 n7 p7, .int .u8 ask, .int .u8 xk, .int .u8 xt, .int .u8 xn, .int .u8 xv, .slice xa xl xp] 37)) (.cells #[.string name, .slice b2 m2 q2, .slice b6 m6 q6, .slice b7 m7 q7, .int .u8 ask, .int .u8 yk, .int .u8 yt, .int .u8 yn, .int .u8 yv, .slice ya yl yp] 37)
  have z2 := heap_alloc_new (w.alloc (.cells #[.string name, .slice a2 n2 p2, .slice a6 n6 p6, .slice a7 n7 p7, .int .u8 ask, .int .u8 xk, .int .u8 xt, .int .u8 xn, .int .u8 xv, .slice xa xl xp] 37)) (.cells #[.string name, .slice b2 m2 q2, .slice b6 m6 q6, .slice b7 m7 q7, .int .u8 ask, .int .u8 yk, .int .u8 yt, .int .u8 yn, .int .u8 yv, .slice ya yl yp] 37)
  simp only [World.size_alloc] at z2
  have hxx : ∀ z : Int, (z == z) = true := fun z => by simp
  have hss : ∀ z : ByteArray, (z.toList == z.toList) = true := fun z => by simp
  have hsz : ((w.alloc (.cells #[.string name, .slice a2 n2 p2, .slice a6 n6 p6, .slice a7 n7 p7, .int .u8 ask, .int .u8 xk, .int .u8 xt, .int .u8 xn, .int .u8 xv, .slice xa xl xp] 37)).alloc (.cells #[.string name, .slice b2 m2 q2, .slice b6 m6 q6, .slice b7 m7 q7, .int .u8 ask, .int .u8 yk, .int .u8 yt, .int .u8 yn, .int .u8 yv, .slice ya yl yp] 37)).heap.size = w.heap.size + 2 := by simp
  have E0 : ∀ U, Below (w.heap.size + 2) ((w.alloc (.cells #[.string name, .slice a2 n2 p2, .slice a6 n6 p6, .slice a7 n7 p7, .int .u8 ask, .int .u8 xk, .int .u8 xt, .int .u8 xn, .int .u8 xv, .slice xa xl xp] 37)).alloc (.cells #[.string name, .slice b2 m2 q2, .slice b6 m6 q6, .slice b7 m7 q7, .int .u8 ask, .int .u8 yk, .int .u8 yt, .int .u8 yn, .int .u8 yv, .slice ya yl yp] 37)) U → U.heap[w.heap.size]? = some (.cells #[.string name, .slice a2 n2 p2, .slice a6 n6 p6, .slice a7 n7 p7, .int .u8 ask, .int .u8 xk, .int .u8 xt, .int .u8 xn, .int .u8 xv, .slice xa xl xp] 37 (0, 0)) ∧ U.heap[w.heap.size + 1]? = some (.cells #[.string name, .slice b2 m2 q2, .slice b6 m6 q6, .slice b7 m7 q7, .int .u8 ask, .int .u8 yk, .int .u8 yt, .int .u8 yn, .int .u8 yv, .slice ya yl yp] 37 (0, 0)) := fun U B => ⟨(B.block _ (by omega)).trans z1, (B.block _ (by omega)).trans z2⟩
  have rd : ∀ (U : World), U.heap[w.heap.size]? = some (.cells #[.string name, .slice a2 n2 p2, .slice a6 n6 p6, .slice a7 n7 p7, .int .u8 ask, .int .u8 xk, .int .u8 xt, .int .u8 xn, .int .u8 xv, .slice xa xl xp] 37 (0, 0)) ∧ U.heap[w.heap.size + 1]? = some (.cells #[.string name, .slice b2 m2 q2, .slice b6 m6 q6, .slice b7 m7 q7, .int .u8 ask, .int .u8 yk, .int .u8 yt, .int .u8 yn, .int .u8 yv, .slice ya yl yp] 37 (0, 0)) → (U.cell? ⟨w.heap.size, 0, none⟩ = some (.string name) ∧ U.cell? ⟨w.heap.size, 1, none⟩ = some (.slice a2 n2 p2) ∧ U.cell? ⟨w.heap.size, 2, none⟩ = some (.slice a6 n6 p6) ∧ U.cell? ⟨w.heap.size, 3, none⟩ = some (.slice a7 n7 p7) ∧ U.cell? ⟨w.heap.size, 4, none⟩ = some (.int .u8 ask) ∧ U.cell? ⟨w.heap.size, 5, none⟩ = some (.int .u8 xk) ∧ U.cell? ⟨w.heap.size, 6, none⟩ = some (.int .u8 xt) ∧ U.cell? ⟨w.heap.size, 7, none⟩ = some (.int .u8 xn) ∧ U.cell? ⟨w.heap.size, 8, none⟩ = some (.int .u8 xv) ∧ U.cell? ⟨w.heap.size, 9, none⟩ = some (.slice xa xl xp)) ∧
      (U.cell? ⟨w.heap.size + 1, 0, none⟩ = some (.string name) ∧ U.cell? ⟨w.heap.size + 1, 1, none⟩ = some (.slice b2 m2 q2) ∧ U.cell? ⟨w.heap.size + 1, 2, none⟩ = some (.slice b6 m6 q6) ∧ U.cell? ⟨w.heap.size + 1, 3, none⟩ = some (.slice b7 m7 q7) ∧ U.cell? ⟨w.heap.size + 1, 4, none⟩ = some (.int .u8 ask) ∧ U.cell? ⟨w.heap.size + 1, 5, none⟩ = some (.int .u8 yk) ∧ U.cell? ⟨w.heap.size + 1, 6, none⟩ = some (.int .u8 yt) ∧ U.cell? ⟨w.heap.size + 1, 7, none⟩ = some (.int .u8 yn) ∧ U.cell? ⟨w.heap.size + 1, 8, none⟩ = some (.int .u8 yv) ∧ U.cell? ⟨w.heap.size + 1, 9, none⟩ = some (.slice ya yl yp)) := fun U h =>
    ⟨⟨cell_of_row _ _ 0 _ _ _ h.1, cell_of_row _ _ 1 _ _ _ h.1, cell_of_row _ _ 2 _ _ _ h.1, cell_of_row _ _ 3 _ _ _ h.1, cell_of_row _ _ 4 _ _ _ h.1, cell_of_row _ _ 5 _ _ _ h.1, cell_of_row _ _ 6 _ _ _ h.1, cell_of_row _ _ 7 _ _ _ h.1, cell_of_row _ _ 8 _ _ _ h.1, cell_of_row _ _ 9 _ _ _ h.1⟩,
     ⟨cell_of_row _ _ 0 _ _ _ h.2, cell_of_row _ _ 1 _ _ _ h.2, cell_of_row _ _ 2 _ _ _ h.2, cell_of_row _ _ 3 _ _ _ h.2, cell_of_row _ _ 4 _ _ _ h.2, cell_of_row _ _ 5 _ _ _ h.2, cell_of_row _ _ 6 _ _ _ h.2, cell_of_row _ _ 7 _ _ _ h.2, cell_of_row _ _ 8 _ _ _ h.2, cell_of_row _ _ 9 _ _ _ h.2⟩⟩
  obtain ⟨⟨c0, c1, c2, c3, c4, c5, c6, c7, c8, c9⟩, d0, d1, d2, d3, d4, d5, d6, d7, d8, d9⟩ := rd _ ⟨z1, z2⟩
  replace A1 := Lib.hid A1
  replace E0 := Lib.hid E0
  replace rd := Lib.hid rd
  clear z1 z2 t1 t2 t3 t4 hv hu hsz
  go_enter Try.func13, Try.ntmps13
  go_wp2_with (first
    | (go_at_call 23; refine (C1.out _ A1.out).mono ?_; rintro e w1 ⟨rfl, B1⟩
       simp only [World.size_alloc] at B1
       have G1 := Lib.hid B1
       have H1 := Lib.hid (A1.out.trans (B1.mono (by omega)))
       obtain ⟨⟨k0, k1, k2, k3, k4, k5, k6, k7, k8, k9⟩, l0, l1, l2, l3, l4, l5, l6, l7, l8, l9⟩ := rd.out _ (E0.out _ B1)
       clear B1)
    | (go_at_call 24; refine (C2.out _ H1.out).mono ?_; rintro e w2 ⟨rfl, B2⟩
       have G2 := Lib.hid (G1.out.trans (B2.mono (by have := G1.out.size; simp at this; omega)))
       have H2 := Lib.hid (H1.out.trans (B2.mono H1.out.size))
       obtain ⟨⟨r0, r1, r2, r3, r4, r5, r6, r7, r8, r9⟩, s0, s1, s2, s3, s4, s5, s6, s7, s8, s9⟩ := rd.out _ (E0.out _ G2.out)
       clear B2)
    | (go_at_call 25; refine (C3.out _ H2.out).mono ?_; rintro e w3 ⟨rfl, B3⟩
       have G3 := Lib.hid (G2.out.trans (B3.mono (by have := G2.out.size; simp at this; omega)))
       have H3 := Lib.hid (H2.out.trans (B3.mono H2.out.size))
       obtain ⟨⟨u0, u1, u2, u3, u4, u5, u6, u7, u8, u9⟩, v0, v1, v2, v3, v4, v5, v6, v7, v8, v9⟩ := rd.out _ (E0.out _ G3.out)
       clear B3)
    | (go_at_call 19; refine (C4.out _ H3.out).mono ?_; rintro e w4 ⟨rfl, B4⟩
       have H4 := Lib.hid (H3.out.trans (B4.mono H3.out.size))))
  go_ret
  exact ⟨rfl, H4.out⟩
end PP
end Go.Proofs.Ytijipgiclkkfhaa
end

section
/- Parsing a source and its formatted tokens: the same, but for offsets. An error's offset is a token's, or the end. -/
namespace Go.Proofs.Ytijipgiclkkfhaa
open Go.RowKit Go.Shelf
open Go.BigFrame

attribute [local go_sem] Oper.semAt_some
namespace PX
theorem sameT_of {A : Int → Prop} : ∀ (l m : List TokD), l.map shoD = m.map shoD → (∀ t ∈ l, A t.p) → SameT A l m
  | [], [], _, _ => trivial
  | [], _ :: _, h, _ => by simp at h
  | _ :: _, [], h, _ => by simp at h
  | t :: l, u :: m, h, ha => by
    simp only [List.map_cons, List.cons.injEq] at h
    have h1 : (t.k, t.x) = (u.k, u.x) := h.1
    exact ⟨⟨(Prod.mk.injEq .. ▸ h1).1, (Prod.mk.injEq .. ▸ h1).2, ha t List.mem_cons_self⟩, sameT_of l m h.2 fun v hv => ha v (List.mem_cons_of_mem _ hv)⟩
end PX
namespace PP
/-- The same result but for the offset; an error's offset is a token's, or the end. -/
def Alike (s : ByteArray) : PX.R Unit → PX.R Unit → Prop
  | .ok _ st, .ok _ st' => pgD st = pgD st'
  | .bad p e, .bad _ e' => e = e' ∧ ((∃ t ∈ toks s, t.p = p) ∨ p = (s.size : Int)) ∧ e ≠ 0
  | _, _ => False
theorem alike_typed (s : ByteArray) (hs : s.size ≤ 5000) (h : (LX.out (bsOf s)).2.2 = 0) : Alike s (PX.parse s) (PX.parse (typeS (toks s))) := by
  obtain ⟨_, h2, h3, _⟩ := typed s hs h
  rw [parse_eq, if_pos h, parse_eq, if_pos (by rw [h2])]
  have hlen : (toks (typeS (toks s))).length = (toks s).length := by
    have := congrArg List.length h3
    simpa using this
  rw [hlen]
  have hsim : PX.Sim (fun p => (∃ t ∈ toks s, t.p = p) ∨ p = (s.size : Int)) (PX.start s [] true) (PX.start (typeS (toks s)) [] true) :=
    ⟨PX.sameT_of _ _ h3.symm fun t ht => .inl ⟨t, ht, rfl⟩, .inr rfl, rfl, rfl, rfl, rfl, rfl, rfl, rfl, rfl⟩
  have hr := PX.sim_prog ((toks s).length + 1) hsim
  generalize PX.prog ((toks s).length + 1) (PX.start s [] true) = a at *
  generalize PX.prog ((toks s).length + 1) (PX.start (typeS (toks s)) [] true) = b at *
  cases a with
  | ok u st => cases b with
    | ok u' st' =>
      obtain ⟨_, hh⟩ := hr
      show pgD st = pgD st'
      unfold pgD
      rw [hh.name, hh.locs, hh.init, hh.threads, hh.ask, hh.cond]
    | bad p e => exact hr.elim
  | bad p e => cases b with
    | ok u' st' => exact hr.elim
    | bad p' e' => exact hr
set_option maxRecDepth 100000 in
set_option maxHeartbeats 8000000 in
theorem begins_any (v : Value) (ts : List TokD) (pl en : Int) (w : World) (hv : TokSl w.heap.size w v ts) (h : (∃ t ∈ ts, t.p = pl) ∨ pl = en) :
    Calls Try.prog 15 #[v, .int .i64 pl, .int .i64 en] w fun e w' => e = .returned (.bool true) ∧ Below w.heap.size w w' := by
  obtain ⟨hm, a, cap, rfl, hc⟩ := hv
  obtain ⟨N, hN⟩ : ∃ N, ts.length = N := ⟨_, rfl⟩
  rw [hN] at hm hc ⊢
  unfold maxLen at hm
  replace hc := Lib.hid hc
  replace h := Lib.hid h
  go_enter Try.func15, Try.ntmps15
  go_wp2_with fail
  go_loopw [7] (fun i wr => ∃ q : Nat, q ≤ N ∧ i = .int .i64 (q : Int) ∧ Hid (∀ j t, j < q → ts[j]? = some t → t.p ≠ pl) ∧ Hid (Below w.heap.size w wr)) (fun i _ => N - (intOf i).toNat)
  case atStart => exact ⟨0, by omega, rfl, Lib.hid (fun j t hj => by omega), Lib.hid (Below.refl _ _)⟩
  case round =>
    obtain ⟨q, hq, rfl, hno, hB⟩ := hrel
    by_cases hlt : q < N
    · obtain ⟨b, rfl, hb, hcc⟩ := hc.out (by omega)
      obtain ⟨t, ht⟩ : ∃ t, ts[q]? = some t := ⟨ts[q]'(by omega), List.getElem?_eq_getElem (by omega)⟩
      obtain ⟨_, _, e3⟩ := hcc q t ht
      replace e3 := (hB.out.cell (p := ⟨b, q * 3 + 2, none⟩) hb).trans e3
      have t1 : decide (q < N) = true := by simpa using hlt
      obtain ⟨tp, htp⟩ : ∃ tp, t.p = tp := ⟨_, rfl⟩
      rw [htp] at e3
      by_cases hp : tp = pl
      · have t2 : (tp == pl) = true := by simpa using hp
        replace hp := Lib.hid hp
        go_wp2
        go_ret
        exact ⟨rfl, hB.out⟩
      · have t2 : (tp == pl) = false := by simpa using hp
        replace hp := Lib.hid hp
        have hno2 : Hid (∀ j t, j < q + 1 → ts[j]? = some t → t.p ≠ pl) := Lib.hid fun j u hj hu => by
          by_cases hjq : j = q
          · subst hjq
            rw [ht] at hu
            cases hu
            rw [htp]
            exact hp.out
          · exact hno.out j u (by omega) hu
        go_wp2
        go_roundw
        case rel => exact ⟨q + 1, by omega, by go_num, hno2, hB⟩
        case measure => simp [intOf]; omega
    · obtain rfl : q = N := by omega
      have t1 : decide (q < q) = false := by simp
      have hpe : (pl == en) = true := by
        rcases h.out with ⟨t, ht, htp⟩ | e
        · obtain ⟨j, hj, rfl⟩ := List.getElem_of_mem ht
          exact absurd htp (hno.out j _ (by omega) (List.getElem?_eq_getElem hj))
        · simpa using e
      go_wp2
      go_ret
      exact ⟨rfl, hB.out⟩
end PP
end Go.Proofs.Ytijipgiclkkfhaa
end
