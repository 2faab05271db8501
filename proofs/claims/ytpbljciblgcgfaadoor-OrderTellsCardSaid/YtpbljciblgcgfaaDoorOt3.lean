/- OrdCount, WideTake, OrdClone, OrdList, OrdAll, OrdLists in one text, for the claim. -/
import Derived.Test.YtpbljciblgcgfaaDoorOt2
import Derived.Test.YtpbljciblgcgfaaDoorOt1
import Derived.Laws.AppendOwn
import Derived.Test.YtpbljciblgcgfaaDoorRelAid
import Derived.Test.YtpbljciblgcgfaaDoorRelAwake2

section
/- order.Count. -/
namespace Go.Proofs.YtpbljciblgcgfaaDoor
open Go.RowKit Go.Shelf

attribute [local go_sem] Oper.semAt_some

theorem isO_put {N g : Nat} {x : List Nat} {W : World} {l : Nat} {o o' : Obj} (h : isO N g x W) (hl : W.heap[l]? = some o) (ho : o.isCells = false) : isO N g x (W.putObj l o') := by
  obtain ⟨⟨cur, h1, h2⟩, h3⟩ := h
  refine ⟨⟨cur, (World.putObj_heap_other (by rintro rfl; rw [hl] at h1; cases h1; cases ho)).trans h1, h2⟩, h3⟩
theorem Chg.boxed {ex : Nat → Nat → Obj → Prop} {B g b : Nat} {W W' : World} {t : TypeId} {v : Value} (h : Chg ex B g W W') (hb : Boxed W b t v) (hB : b < B) : Boxed W' b t v := h.block b _ (.inl hB) hb
theorem Chg.below {ex : Nat → Nat → Obj → Prop} {B g n : Nat} {w W W' : World} (h : Chg ex B g W W') (hb : Below n w W) (hB : n ≤ B) (hn : n ≤ w.heap.size) : Below n w W' :=
  ⟨h.os.trans hb.os, h.tape.trans hb.tape, h.output.trans hb.output, Nat.le_trans hb.size h.size, fun k hk => by
    obtain ⟨o, ho⟩ : ∃ o, W.heap[k]? = some o := ⟨W.heap[k]'(by have := hb.size; omega), Array.getElem?_eq_getElem (by have := hb.size; omega)⟩
    rw [h.block k o (.inl (by omega)) ho, ← ho, hb.block k hk]⟩
/-- May Count go by this relation and this limit? -/
def cntOk (n : Int) (f : Nat → Nat) (most : Int) : Bool := rightB n f && decide (0 ≤ most) && decide (most ≤ 10000)
/-- What Count answers then. -/
noncomputable def cntR (N : Nat) (f : Nat → Nat) (most : Int) : Value :=
  if ((ordL N f).length : Int) ≤ most then .tuple #[.int .i64 ((ordL N f).length : Int), .int .i64 0] else .tuple #[.int .i64 0, .int .i64 5]

set_option maxRecDepth 100000 in
set_option maxHeartbeats 1000000 in
theorem count_bad (n : Int) (f : Nat → Nat) (most : Int) (hf : R64 f) (h : cntOk n f most = false) (w : World) :
    Calls Tryd.prog 53 #[.agg (relC n f), .int .i64 most] w fun e w' => e = .returned (.tuple #[.int .i64 0, .int .i64 2]) ∧ Below w.heap.size w w' := by
  have hA := RelAt.new w n f
  have HR := Lib.hid (fun W => right_any n f W hf)
  have l1 := (((hA.alloc (.cells #[.int .i64 most] 3)).alloc (.cells #[.int .i64 0] 3)).alloc (.cells #[.int .i64 0] 30)).ld
  have b1 := Boxed.new (w.alloc (.cells (relC n f) 26)) 3 (.int .i64 most)
  have b2 := Boxed.new ((w.alloc (.cells (relC n f) 26)).alloc (.cells #[.int .i64 most] 3)) 3 (.int .i64 0)
  have b3 := Boxed.new (((w.alloc (.cells (relC n f) 26)).alloc (.cells #[.int .i64 most] 3)).alloc (.cells #[.int .i64 0] 3)) 30 (.int .i64 0)
  simp only [World.size_alloc] at b1 b2 b3
  replace b1 := (b1.alloc (.cells #[.int .i64 0] 3)).alloc (.cells #[.int .i64 0] 30)
  replace b2 := b2.alloc (.cells #[.int .i64 0] 30)
  have hB4 : Below w.heap.size w ((((w.alloc (.cells (relC n f) 26)).alloc (.cells #[.int .i64 most] 3)).alloc (.cells #[.int .i64 0] 3)).alloc (.cells #[.int .i64 0] 30)) :=
    ((((Below.refl _ w).alloc (Nat.le_refl _) _).alloc (by simp) _).alloc (by simp; omega) _).alloc (by simp; omega) _
  have res : ∀ W, Boxed W (w.heap.size + 1 + 1) 3 (.int .i64 0) → Boxed W (w.heap.size + 1 + 1 + 1) 30 (.int .i64 2) → ∀ tmps : Array Value, tmps[4]?.getD undef = .pointer (some ⟨w.heap.size + 1 + 1, 0, none⟩) → tmps[5]?.getD undef = .pointer (some ⟨w.heap.size + 1 + 1 + 1, 0, none⟩) →
      (results Tryd.f53 tmps).run Tryd.prog W = .ok (.tuple #[.int .i64 0, .int .i64 2]) W := by
    intro W h1 h2 tmps t1 t2
    have k1 := h1.cell
    have k2 := h2.cell
    simp [results, Tryd.f53, go_sem, t1, t2, k1, k2]
  have fin : ∀ W, Below w.heap.size w W → Boxed W (w.heap.size + 1 + 1) 3 (.int .i64 0) → Boxed W (w.heap.size + 1 + 1 + 1) 30 (.int .i64 0) →
      Boxed ((W.setCell ⟨w.heap.size + 1 + 1, 0, none⟩ (.int .i64 0)).setCell ⟨w.heap.size + 1 + 1 + 1, 0, none⟩ (.int .i64 2)) (w.heap.size + 1 + 1) 3 (.int .i64 0) ∧
      Boxed ((W.setCell ⟨w.heap.size + 1 + 1, 0, none⟩ (.int .i64 0)).setCell ⟨w.heap.size + 1 + 1 + 1, 0, none⟩ (.int .i64 2)) (w.heap.size + 1 + 1 + 1) 30 (.int .i64 2) ∧
      Below w.heap.size w ((W.setCell ⟨w.heap.size + 1 + 1, 0, none⟩ (.int .i64 0)).setCell ⟨w.heap.size + 1 + 1 + 1, 0, none⟩ (.int .i64 2)) := fun W hB h1 h2 =>
    ⟨(h1.set _).other (by omega) _, (h2.other (by omega) _).set _, (hB.setCell (by simp; omega) _).setCell (by simp; omega) _⟩
  have RES := Lib.hid res
  have FIN := Lib.hid fin
  clear res fin
  have d1 := b1.cell
  go_enter Tryd.func53, Tryd.ntmps53
  go_wp2_with fail
  generalize (((w.alloc (.cells (relC n f) 26)).alloc (.cells #[.int .i64 most] 3)).alloc (.cells #[.int .i64 0] 3)).alloc (.cells #[.int .i64 0] 30) = W1 at *
  refine (HR.out _).mono ?_
  rintro e w1 ⟨rfl, h1⟩
  replace b1 := boxed_on b1 h1
  replace b2 := boxed_on b2 h1
  replace b3 := boxed_on b3 h1
  have hB1 := thru hB4 h1
  have d2 := b1.cell
  have f2 := b2.frozen
  have f3 := b3.frozen
  have c2 := b2.cell
  have c3 := b3.cell
  obtain ⟨x1, x2, x3⟩ := FIN.out w1 hB1 b2 b3
  have hR := RES.out _ x1 x2
  clear l1 d1 hA h1 hB4 b1
  cases hr : rightB n f
  · go_wp2
    refine bodyPost_ret (hR _ rfl rfl) rfl ?_
    exact ⟨rfl, x3⟩
  · by_cases h0 : most < 0
    · have t1 : decide (most < 0) = true := by simpa using h0
      go_wp2
      refine bodyPost_ret (hR _ rfl rfl) rfl ?_
      exact ⟨rfl, x3⟩
    · have t1 : decide (most < 0) = false := by simpa using h0
      have h2 : 10000 < most := by
        apply Decidable.byContradiction
        intro hh
        have : cntOk n f most = true := by simp [cntOk, hr]; omega
        rw [this] at h
        cases h
      have t2 : decide (10000 < most) = true := by simpa using h2
      go_wp2
      refine bodyPost_ret (hR _ rfl rfl) rfl ?_
      exact ⟨rfl, x3⟩

set_option maxRecDepth 100000 in
set_option maxHeartbeats 2000000 in
theorem count_in (N : Nat) (f : Nat → Nat) (M : Nat) (hM : M ≤ 10000) (hf : R64 f) (hr : rightB N f = true) (w : World) (hT : Tab w) :
    CallsIn Fence.wide 6 Tryd.prog 53 #[.agg (relC N f), .int .i64 (M : Int)] w fun e w' => e = .returned (cntR N f M) ∧ Below w.heap.size w w' := by
  have HR := Lib.hid (fun W => right_any N f W hf)
  rw [hr] at HR
  have hA := ((((RelAt.new w N f).alloc (.cells #[.int .i64 (M : Int)] 3)).alloc (.cells #[.int .i64 0] 3)).alloc (.cells #[.int .i64 0] 30))
  have b1 := Boxed.new (w.alloc (.cells (relC N f) 26)) 3 (.int .i64 (M : Int))
  have b2 := Boxed.new ((w.alloc (.cells (relC N f) 26)).alloc (.cells #[.int .i64 (M : Int)] 3)) 3 (.int .i64 0)
  have b3 := Boxed.new (((w.alloc (.cells (relC N f) 26)).alloc (.cells #[.int .i64 (M : Int)] 3)).alloc (.cells #[.int .i64 0] 3)) 30 (.int .i64 0)
  simp only [World.size_alloc] at b1 b2 b3
  replace b1 := (b1.alloc (.cells #[.int .i64 0] 3)).alloc (.cells #[.int .i64 0] 30)
  replace b2 := b2.alloc (.cells #[.int .i64 0] 30)
  have hB4 : Below w.heap.size w ((((w.alloc (.cells (relC N f) 26)).alloc (.cells #[.int .i64 (M : Int)] 3)).alloc (.cells #[.int .i64 0] 3)).alloc (.cells #[.int .i64 0] 30)) :=
    ((((Below.refl _ w).alloc (Nat.le_refl _) _).alloc (by simp) _).alloc (by simp; omega) _).alloc (by simp; omega) _
  have hz4 : ((((w.alloc (.cells (relC N f) 26)).alloc (.cells #[.int .i64 (M : Int)] 3)).alloc (.cells #[.int .i64 0] 3)).alloc (.cells #[.int .i64 0] 30)).heap.size = w.heap.size + 4 := by simp
  have l1 := hA.ld
  have d1 := b1.cell
  have t1 : decide ((M : Int) < 0) = false := by simp
  have t2 : decide ((M : Int) > 10000) = false := by simp; omega
  have t3 : decide ((10000 : Int) < (M : Int)) = false := by simp; omega
  refine callsIn_of_wp_marks Tryd.func53 rfl trivial ?_ rfl
  simp only [Tryd.ntmps53, List.size_toArray, List.length_cons, List.length_nil, Nat.reduceAdd, Nat.reduceSub, Array.replicate_succ, Array.replicate_zero, List.push_toArray, List.append_toArray, List.nil_append, List.cons_append]
  gi_wp2_with fail
  generalize (((w.alloc (.cells (relC N f) 26)).alloc (.cells #[.int .i64 (M : Int)] 3)).alloc (.cells #[.int .i64 0] 3)).alloc (.cells #[.int .i64 0] 30) = W1 at *
  refine ⟨trivial, ?_⟩
  refine (callsIn_wide.2 (HR.out _)).mono ?_
  rintro e w1 ⟨rfl, h1⟩
  have hA1 := hA.on h1
  replace b1 := boxed_on b1 h1
  replace b2 := boxed_on b2 h1
  replace b3 := boxed_on b3 h1
  have hB1 := thru hB4 h1
  have hs1 := h1.size
  have l2 := hA1.alloc (.cells #[.int .i64 0] 3)
  replace l2 := l2.ld
  have d2 := b1.cell
  have g4 := Boxed.new w1 3 (.int .i64 0)
  clear l1 d1 hA h1 hB4
  gi_wp2_with fail
  replace b1 := b1.alloc (.cells #[.int .i64 0] 3)
  replace b2 := b2.alloc (.cells #[.int .i64 0] 3)
  replace b3 := b3.alloc (.cells #[.int .i64 0] 3)
  have hB2 : Below w.heap.size w (w1.alloc (.cells #[.int .i64 0] 3)) := hB1.alloc (by omega) _
  have hz2 : (w1.alloc (.cells #[.int .i64 0] 3)).heap.size = w1.heap.size + 1 := by simp
  clear l2 d2 hA1 hB1
  generalize w1.alloc (.cells #[.int .i64 0] 3) = w2 at *
  refine ⟨trivial, ?_⟩
  refine (callsIn_wide.2 (orders_any _ _ _)).mono ?_
  rintro e w3 ⟨rfl, h3⟩
  have hR3 : RelAt w3 w2.heap.size N f := by rw [← h3]; exact RelAt.new w2 N f
  have h23 : Below w2.heap.size w2 w3 := by rw [← h3]; exact below_new w2 _
  have hz3 : w3.heap.size = w2.heap.size + 1 := by rw [← h3]; simp
  replace b1 := boxed_on b1 h23
  replace b2 := boxed_on b2 h23
  replace b3 := boxed_on b3 h23
  replace g4 := boxed_on g4 h23
  have hB3 := thru hB2 h23
  have hT3 := hT.below hB3 hT.pos
  clear h3 h23 hB2
  rw [hz2] at hR3 hz3
  have hws := hB3.size
  have HB3 := Lib.hid hB3
  have hTp := hT.pos
  clear hB3
  gi_wp2_with fail
  refine range_some rfl (by omega) (gf := 96) (lb := #[.pointer (some ⟨w1.heap.size + 1, 0, none⟩)]) rfl trivial (enters_of Tryd.func96 (by kernel_rfl) rfl)
    (orders1_gives 5 (w1.heap.size + 1) w.heap.size hTp N f hf hr w3 hT3 hws hR3 (by omega)) (fun k hk => by omega) (fun _ _ => rfl) (fun _ _ _ _ _ _ h hl ho => isO_put h hl ho)
    (fun _ pre W => pre.length ≤ M ∧ Boxed W w1.heap.size 3 (.int .i64 (pre.length : Int)) ∧ Boxed W (w.heap.size + 1) 3 (.int .i64 (M : Int)) ∧ Boxed W (w.heap.size + 1 + 1) 3 (.int .i64 0) ∧ Boxed W (w.heap.size + 1 + 1 + 1) 30 (.int .i64 0) ∧ Below w.heap.size w W)
    (fun c _ pre W => c = .ret ∧ pre.length = M + 1 ∧ Boxed W (w.heap.size + 1 + 1) 3 (.int .i64 0) ∧ Boxed W (w.heap.size + 1 + 1 + 1) 30 (.int .i64 5) ∧ Below w.heap.size w W)
    ?clI ?clX (fun _ _ => ⟨by simp, g4, b1, b2, b3, HB3.out⟩)
    (fun g _ => { tmps := #[.agg (relC N f), .int .i64 (M : Int), .pointer (some ⟨w.heap.size, 0, none⟩), .pointer (some ⟨w.heap.size + 1, 0, none⟩), .pointer (some ⟨w.heap.size + 1 + 1, 0, none⟩), .pointer (some ⟨w.heap.size + 1 + 1 + 1, 0, none⟩), .pointer (some ⟨w1.heap.size, 0, none⟩), .agg (relC N f), .bool true, .bool false, .bool false, .int .i64 (M : Int), .bool false, .bool false, .bool false, .int .i64 (M : Int), .bool false, .bool false, .agg (relC N f), .func (.func 96) #[] #[.pointer (some ⟨w1.heap.size + 1, 0, none⟩)], .slice (some ⟨g, 0, none⟩) N N, undef, undef, undef, undef, undef, undef], defers := [] }) ?assign ?body ?done ?stop
  case clI =>
    rintro g' pre A A' ⟨h1, h2, h3, h4, h5, h6⟩ hc
    exact ⟨h1, hc.boxed h2 (by omega), hc.boxed h3 (by omega), hc.boxed h4 (by omega), hc.boxed h5 (by omega), hc.below h6 hws (Nat.le_refl _)⟩
  case clX =>
    rintro c g' pre A A' ⟨h0, h1, h4, h5, h6⟩ hc
    exact ⟨h0, h1, hc.boxed h4 (by omega), hc.boxed h5 (by omega), hc.below h6 hws (Nat.le_refl _)⟩
  case assign =>
    intro l2 g' x W' K hK
    simp only [encO]
    gi_wp2
    first
      | exact hK
      | (simp; exact hK)
      | (rw [show ((#[20] : Array Tmp).zip #[Value.slice (some ⟨g', 0, none⟩) N N]) = #[(20, Value.slice (some ⟨g', 0, none⟩) N N)] by rfl]; exact hK)
      | (simp [Array.zip]; exact hK)
  case body =>
    rintro l2 g' pre x W hg ⟨h1, h2, h3, h4, h5, h6⟩ - -
    have c2 := h2.cell
    have c3 := h3.cell
    have f2 := h2.frozen
    have f4 := h4.frozen
    have f5 := h5.frozen
    have c4 := h4.cell
    have c5 := h5.cell
    by_cases hk : pre.length = M
    · have hk1 : ((pre.length : Int) == (M : Int)) = true := by simp [hk]
      have Hk := Lib.hid hk
      clear hk
      gi_wp2
      refine ⟨(KeepK.setCell _ _ _ (by simp; omega) (by simp; omega)).trans (KeepK.setCell _ _ _ (by simp; omega) (by simp; omega)), rfl, by simp [Hk.out], (h4.set _).other (by omega) _, (h5.other (by omega) _).set _, (h6.setCell (by simp; omega) _).setCell (by simp; omega) _⟩
    · have hk1 : ((pre.length : Int) == (M : Int)) = false := by simp; omega
      have Hk := Lib.hid hk
      clear hk
      gi_wp2
      refine ⟨KeepK.setCell _ _ _ (by simp; omega) (by simp; omega), by have := Hk.out; simp; omega, ?_, h3.other (by omega) _, h4.other (by omega) _, h5.other (by omega) _, h6.setCell (by simp; omega) _⟩
      rw [show (((pre ++ [x]).length : Nat) : Int) = (pre.length : Int) + 1 by simp]
      exact h2.set _
  case done =>
    rintro D g' W hD ⟨h1, h2, h3, h4, h5, h6⟩ hDf
    have c2 := h2.cell
    have f4 := h4.frozen
    have f5 := h5.frozen
    have c4 := h4.cell
    have c5 := h5.cell
    have hD5 : ((W.setCell ⟨w.heap.size + 1 + 1, 0, none⟩ (.int .i64 ((ordL N f).length : Int))).setCell ⟨w.heap.size + 1 + 1 + 1, 0, none⟩ (.int .i64 0)).heap[D]? = some (.deferred (some [])) :=
      (Below.heap_setCell _ _ _ D (by simp; omega)).trans ((Below.heap_setCell W _ _ D (by simp; omega)).trans hDf)
    have e4 := Boxed.other (h4.set (.int .i64 ((ordL N f).length : Int))) (B' := w.heap.size + 1 + 1 + 1) (by omega) (Value.int .i64 0)
    have e5 := (h5.other (B' := w.heap.size + 1 + 1) (by omega) (Value.int .i64 ((ordL N f).length : Int))).set (Value.int .i64 0)
    have k1 := Boxed.cell (show Boxed (World.putObj _ D (.deferred none)) _ _ _ from (World.putObj_heap_other (by omega)).trans e4)
    have k2 := Boxed.cell (show Boxed (World.putObj _ D (.deferred none)) _ _ _ from (World.putObj_heap_other (by omega)).trans e5)
    gi_wp2
    refine ⟨by simp, .inl ⟨_, _, rfl, run_takeDeferred hD5, ?_⟩⟩
    refine ⟨.tuple #[.int .i64 ((ordL N f).length : Int), .int .i64 0], ?_, by rw [cntR, if_pos (by omega)], ((h6.setCell (by simp; omega) _).setCell (by simp; omega) _).trans (belowK_b (w := w) (Nat.le_refl _) _ D _ _ (by omega) hD5 rfl rfl)⟩
    simp [results, Tryd.f53, go_sem, k1, k2]
  case stop =>
    rintro D g' c pre W hD hpre ⟨rfl, h1, h4, h5, h6⟩ hDf
    have k1 := Boxed.cell (show Boxed (World.putObj W D (.deferred none)) _ _ _ from (World.putObj_heap_other (by omega)).trans h4)
    have k2 := Boxed.cell (show Boxed (World.putObj W D (.deferred none)) _ _ _ from (World.putObj_heap_other (by omega)).trans h5)
    gi_wp2
    refine ⟨by simp, .inl ⟨_, _, rfl, run_takeDeferred hDf, ?_⟩⟩
    have hle := hpre.length_le
    refine ⟨.tuple #[.int .i64 0, .int .i64 5], ?_, by rw [cntR, if_neg (by omega)], h6.trans (belowK_b (w := w) (Nat.le_refl _) _ D _ _ (by omega) hDf rfl rfl)⟩
    simp [results, Tryd.f53, go_sem, k1, k2]

theorem count_ok (N : Nat) (f : Nat → Nat) (M : Nat) (hM : M ≤ 10000) (hf : R64 f) (hr : rightB N f = true) (w : World) (hT : Tab w) :
    Calls Tryd.prog 53 #[.agg (relC N f), .int .i64 (M : Int)] w fun e w' => e = .returned (cntR N f M) ∧ Below w.heap.size w w' :=
  callsIn_wide.1 (count_in N f M hM hf hr w hT)
end Go.Proofs.YtpbljciblgcgfaaDoor
end

section
/- A region that draws its order at a fence that bars no function: an operation that looks may be taken first if all that can come ahead of it keeps what it looks at. -/
namespace Go.Proofs.YtpbljciblgcgfaaDoor
section
variable {F : Fence} {m : Nat} {P : Program} {ops : Array Oper} {md : Region.Mode} {Q : Exit → Act → World → Prop} {C : World → Prop}

/-- The class is owed for t operations more. -/
def wpAnyT (F : Fence) (m : Nat) (P : Program) (md : Region.Mode) (ops : Array Oper) (C : World → Prop) (Q : Exit → Act → World → Prop) : Nat → Nat → Array Bool → Act → World → Prop
  | 0, f, listed, a, w => wpAnyIn F m P md ops Q f listed a w
  | _ + 1, 0, _, _, _ => False
  | t + 1, f + 1, listed, a, w => (Region.ready md ops listed = [] → Q .normal a w) ∧ ∀ i ∈ Region.ready md ops listed, wpOpIn F m P ops Q i (fun a' w' => C w' ∧ wpAnyT F m P md ops C Q t f (listed.setIfInBounds i true) a' w') a w
theorem wpAnyT.any : ∀ {t f : Nat} {listed : Array Bool} {a : Act} {w : World}, wpAnyT F m P md ops C Q t f listed a w → wpAnyIn F m P md ops Q f listed a w
  | 0, _, _, _, _, h => h
  | _ + 1, 0, _, _, _, h => h.elim
  | _ + 1, _ + 1, _, _, _, h => ⟨h.1, fun i hi => wpOpIn_mono (fun _ _ h' => h'.2.any) (h.2 i hi)⟩
/-- Operation i comes up after t others at the latest. -/
def Region.mustBy (md : Region.Mode) (ops : Array Oper) (i : Nat) : Nat → Array Bool → Bool
  | 0, listed => decide (Region.ready md ops listed = [i])
  | t + 1, listed => (Region.ready md ops listed).all fun j => decide (j = i) || Region.mustBy md ops i t (listed.setIfInBounds j true)

theorem wpAnyT_first {i : Nat} {oi : Oper} {v : Value} (hF : ∀ f, F.fn f) (hd : ∀ (j : Nat) (o : Oper) c, ops[j]? = some o → o.op ≠ .defer c) (hi : ops[i]? = some oi) (hsel : ∀ (j : Nat) (o : Oper) cs b, ops[j]? = some o → o.op ≠ .select cs b)
    (hQ : ∀ c a w, Q (.panic c) (a.put oi.dst v) w → Q (.panic c) a w) :
    ∀ (t fuel : Nat) (listed : Array Bool) (a : Act) (w : World), Region.mustBy md ops i t listed = true →
      (∀ j oj, ops[j]? = some oj → j ≠ i → listed.getD j true = false → (∀ e ∈ oj.after, Region.binds md e = true → e.on ≠ i) → oi.apart ops oj = true) →
      i ∈ Region.ready md ops listed → YieldsC P ops C oi v a → C w →
      wpAnyT F m P md ops C Q t fuel (listed.setIfInBounds i true) (a.put oi.dst v) w → wpAnyIn F m P md ops Q (fuel + 1) listed a w := by
  intro t
  induction t with
  | zero =>
    intro fuel listed a w hm _ hr hy hC H
    simp only [Region.mustBy, decide_eq_true_eq] at hm
    refine ⟨fun h => (by rw [h] at hr; cases hr), fun j hj => ?_⟩
    rw [hm] at hj
    obtain rfl : j = i := by simpa using hj
    exact hy.wpOpIn hF (hd j oi · hi) hi hC H
  | succ t ih =>
    intro fuel listed a w hm hfree hr hy hC H
    refine ⟨fun h => (by rw [h] at hr; cases hr), fun j hj => ?_⟩
    by_cases hji : j = i
    · subst hji; exact hy.wpOpIn hF (hd j oi · hi) hi hC H.any
    · cases fuel with
      | zero => exact H.elim
      | succ fuel =>
        have h1 := H.2 j (ready_mono hj hji)
        have hmj : Region.mustBy md ops i t (listed.setIfInBounds j true) = true := by
          have := List.all_eq_true.1 hm j hj
          simpa [hji] using this
        obtain ⟨hjun, oj, hoj, hall⟩ := mem_ready.1 hj
        have hnot : ∀ e ∈ oj.after, Region.binds md e = true → e.on ≠ i := fun e he hb heq => by
          have h1 := hall e he hb
          have h0 := (mem_ready.1 hr).1
          rw [heq] at h1
          rcases Nat.lt_or_ge i listed.size with h' | h'
          · simp [h'] at h0 h1; rw [h0] at h1; cases h1
          · simp [Array.getElem?_eq_none h'] at h1
        have h2 := wpOpIn_putC hF (hd j oj · hoj) hoj (hfree j oj hoj hji hjun hnot) (fun cs b => hsel i oi cs b hi) (fun cs b => hsel j oj cs b hoj) hQ hy h1
        have hfree' : ∀ k ok, ops[k]? = some ok → k ≠ i → (listed.setIfInBounds j true).getD k true = false →
            (∀ e ∈ ok.after, Region.binds md e = true → e.on ≠ i) → oi.apart ops ok = true := fun k ok hk hki hun hno => by
          refine hfree k ok hk hki ?_ hno
          by_cases hjk : j = k
          · subst hjk; exact hjun
          · rw [getD_set_ne true hjk] at hun; exact hun
        refine wpOpIn_mono (fun a' w' h3 => ih fuel (listed.setIfInBounds j true) a' w' hmj hfree' (ready_mono hr (Ne.symm hji)) h3.1 h3.2.1 ?_) h2
        rw [Array.setIfInBounds_comm _ _ hji]
        exact h3.2.2

/-- Operation i is taken first: after it the class is owed for t operations. -/
theorem wpAnyIn_take_by {i : Nat} {oi : Oper} {d : Tmp} {v : Value} (t : Nat) {fuel : Nat} {listed : Array Bool} {a : Act} {w : World} (C : World → Prop) (hF : ∀ f, F.fn f) (hd : noDefer ops = true) (hs : Region.noSelect ops = true)
    (hQ : ∀ c a d v w, Q (.panic c) (Act.put a d v) w → Q (.panic c) a w) (hi : ops[i]? = some oi) (ht : oi.dst = some d)
    (hf : (Region.free md ops listed i && (Region.ready md ops listed).contains i && Region.wanted oi (yielded ops a.tmps) && Region.mustBy md ops i t listed) = true)
    (hy : ∀ W, C W → (execOp a.eval oi).run P W = .ok (.value v) W) (hC : C w)
    (h : wpAnyT F m P md ops C Q t fuel (listed.setIfInBounds i true) (a.put (some d) v) w) : wpAnyIn F m P md ops Q (fuel + 1) listed a w := by
  rw [← ht] at h
  simp only [Bool.and_eq_true] at hf
  exact wpAnyT_first hF (noDefer_spec hd) hi (Region.noSelect_spec hs) (fun c a w => hQ c a _ _ w) t fuel listed a w hf.2 (Region.free_spec hi hf.1.1.1) (by simpa using hf.1.1.2) (.inl ⟨hf.1.2, hy⟩) hC h
/-- The one operation that is ready, while the class is owed. -/
theorem wpAnyT_one {i : Nat} {oi : Oper} {t fuel : Nat} {listed : Array Bool} {a : Act} {w : World} (hi : ops[i]? = some oi) (hr : Region.ready md ops listed = [i])
    (hw : Region.wanted oi (yielded ops a.tmps) = true) (h : oi.wpIn F m P a w (fun a' w' => C w' ∧ wpAnyT F m P md ops C Q t fuel (listed.setIfInBounds i true) a' w') Q) : wpAnyT F m P md ops C Q (t + 1) (fuel + 1) listed a w := by
  refine ⟨fun h0 => (by rw [hr] at h0; cases h0), fun j hj => ?_⟩
  rw [hr] at hj
  obtain rfl : j = i := by simpa using hj
  unfold wpOpIn
  simp only [hi, hw, if_true]
  exact h
theorem wpAnyT_zero {fuel : Nat} {listed : Array Bool} {a : Act} {w : World} (h : wpAnyIn F m P md ops Q fuel listed a w) : wpAnyT F m P md ops C Q 0 fuel listed a w := h
theorem wpAnyIn_one {i : Nat} {oi : Oper} {fuel : Nat} {listed : Array Bool} {a : Act} {w : World} (hi : ops[i]? = some oi) (hr : Region.ready md ops listed = [i])
    (hw : Region.wanted oi (yielded ops a.tmps) = true) (h : oi.wpIn F m P a w (wpAnyIn F m P md ops Q fuel (listed.setIfInBounds i true)) Q) : wpAnyIn F m P md ops Q (fuel + 1) listed a w := by
  refine ⟨fun h0 => (by rw [hr] at h0; cases h0), fun j hj => ?_⟩
  rw [hr] at hj
  obtain rfl : j = i := by simpa using hj
  unfold wpOpIn
  simp only [hi, hw, if_true]
  exact h
theorem wpIn_region_lit_any {id : Nat} {a : Act} {w : World} {os : List Oper} (hm : P.follows .mixedOrders = true)
    (h : wpAnyIn F m P .any os.toArray Q os.length (Array.replicate os.length false) a w.drew) : (Code.region id os.toArray true).wpIn F m P Q a w := by
  refine wpIn_region_any hm ?_
  simpa using h
end
end Go.Proofs.YtpbljciblgcgfaaDoor
end

section
/- slices.Clone of an order. -/
namespace Go.Proofs.YtpbljciblgcgfaaDoor
open Go.RowKit Go.Shelf

attribute [local go_sem] Oper.semAt_some

set_option maxRecDepth 100000 in
set_option maxHeartbeats 1000000 in
theorem clone_any (g N : Nat) (hN : N ≤ 48) (x : List Nat) (W : World) (h : isO N g x W) :
    Calls Tryd.prog 88 #[.slice (some ⟨g, 0, none⟩) N N] W fun e W' => ∃ v, e = .returned v ∧ W'.ownsRow W.heap.size 3 1 v N (x.map intV) ∧ Below W.heap.size W W' := by
  obtain ⟨i, hi, hz, hsz, hby⟩ := infoIntC
  obtain ⟨⟨cur, hg, hc, hx⟩, hxl⟩ := h
  have hcell : ∀ j u, (x.map intV)[j]? = some u → W.cell? ⟨g, j, none⟩ = some u := by
    intro j u hu
    rw [cell_of_row W g j _ _ _ hg, ← Array.getElem?_toList, ← hu, ← hx, hxl, List.getElem?_take]
    have : j < (x.map intV).length := (List.getElem?_eq_some_iff.1 hu).1
    rw [if_pos (by rw [List.length_map, hxl] at this; omega)]
  have hgl := (Array.getElem?_eq_some_iff.1 hg).1
  have Hcell := Lib.hid hcell
  clear hcell hx hg
  go_enter Tryd.func88, Tryd.ntmps88
  have hnil : (binOp BinOp.eql 46 (.slice (some ⟨g, 0, none⟩) N N) (.slice none 0 0)).run Tryd.prog W = .ok (.bool false) W := by
    kernel_rfl
  have hown : (W.alloc (.cells #[] 3)).ownsRow W.heap.size 3 1 (.slice (some ⟨W.heap.size, 0, none⟩) 0 0) 0 [] :=
    ⟨rfl, .inr ⟨W.heap.size, 0, #[], rfl, Nat.le_refl _, heap_alloc_new W _, Nat.le_refl _, by unfold maxLen; omega, rfl, rfl⟩⟩
  have hnews : ∀ j u, (x.map intV)[j]? = some u → (W.alloc (.cells #[] 3)).cell? ((⟨g, 0, none⟩ : Addr).add j) = some u := fun j u hu => by
    have h1 := Hcell.out j u hu
    have hb := below_new W (.cells #[] 3)
    have : (⟨g, 0, none⟩ : Addr).add j = ⟨g, j, none⟩ := by rw [Go.WideShapes.add_plain, Nat.zero_add]
    rw [this]
    exact (hb.cell (p := ⟨g, j, none⟩) hgl).trans h1
  have hbl := below_new W (.cells #[] 3)
  go_wp2_with (at_builtin; refine wpList_append_own _ rfl _ _ 46 rfl W.heap.size 3 i (.int .i64 0) 1 8 undInts hi hz hsz hby rfl (by decide) _ 0 [] rfl hown ⟨g, 0, none⟩ N N (x.map intV) rfl (by simp [hxl]) hnews (by intro u hu; obtain ⟨y, _, rfl⟩ := List.mem_map.1 hu; rfl) (by unfold maxLen; omega) (by omega) (by simp) ?_; intro v1 w2 hown1 hgrow1 _)
  go_ret
  rw [Nat.zero_add, List.nil_append] at hown1
  exact ⟨_, rfl, hown1, hbl.grown hgrow1 (by simp) (fun k hk => by cases hk; exact Nat.le_refl _)⟩

end Go.Proofs.YtpbljciblgcgfaaDoor
end

section
/- order.Orders. -/
namespace Go.Proofs.YtpbljciblgcgfaaDoor
open Go.RowKit Go.Shelf

attribute [local go_sem] Oper.semAt_some

theorem infoRowC : ∃ i : TypeInfo, Tryd.prog.info? 46 = some i ∧ i.zero = some (.slice none 0 0) ∧ i.size = 1 ∧ i.bytes = 24 := by
  have h : (Tryd.prog.info? 46).map (fun i => (i.zero, i.size, i.bytes)) = some (some (.slice none 0 0), 1, 24) := by kernel_rfl
  cases hi : Tryd.prog.info? 46 with
  | none => rw [hi] at h; cases h
  | some i =>
    rw [hi] at h
    simp at h
    exact ⟨i, rfl, h.1, h.2.1, h.2.2⟩
theorem undRows : Tryd.prog.underlying 51 = some (.slice 46) := by kernel_rfl

/-- Block b is a row of cap slices that begins with vs. -/
def RowV (W : World) (b cap : Nat) (vs : List Value) : Prop := ∃ cur : Array Value, W.heap[b]? = some (.cells cur 46 (0, 0)) ∧ cur.size = cap ∧ cur.toList.take vs.length = vs
theorem RowV.lt {W : World} {b cap : Nat} {vs : List Value} (h : RowV W b cap vs) : b < W.heap.size := by obtain ⟨cur, h, _⟩ := h; exact (Array.getElem?_eq_some_iff.1 h).1
theorem RowV.same {W W' : World} {b cap : Nat} {vs : List Value} (h : RowV W b cap vs) (hs : ∀ o, W.heap[b]? = some o → W'.heap[b]? = some o) : RowV W' b cap vs := by
  obtain ⟨cur, h1, h2⟩ := h
  exact ⟨cur, hs _ h1, h2⟩
theorem RowV.on {W W' : World} {b cap : Nat} {vs : List Value} (h : RowV W b cap vs) (hb : Below W.heap.size W W') : RowV W' b cap vs := h.same fun o ho => (hb.block b h.lt).trans ho
theorem rowV_make (W : World) (N : Nat) (hN : N ≤ 10000) : ∃ W', (Instr.makeSlice 51 (.int .i64 0) (.int .i64 (N : Int))).run Tryd.prog W = .ok (.slice (some ⟨W.heap.size, 0, none⟩) 0 N) W' ∧ RowV W' W.heap.size N [] ∧ Below W.heap.size W W' := by
  obtain ⟨i, hi, hz, hsz, hby⟩ := infoRowC
  obtain ⟨W', hr, h1, h2⟩ := run_make_own (P := Tryd.prog) W 0 51 46 i (.slice none 0 0) 1 undRows hi hz hsz .i64 .i64 N (by rw [hby]; omega) (by unfold maxLen; omega) (Nat.zero_le _)
  refine ⟨W', hr, ?_, ⟨h2.os, h2.tape, h2.output, h2.size, fun k hk => h2.block k hk (by simp)⟩⟩
  rcases h1.2 with ⟨he, _⟩ | ⟨g, cap, cur, he, _, hg, _, _, hc, ht⟩
  · cases he
  · cases he
    exact ⟨cur, hg, by omega, by simp⟩
theorem RowV.push {W : World} {b cap : Nat} {vs : List Value} (h : RowV W b cap vs) (hlt : vs.length < cap) (ad : Addr) (c : Nat) (v : Value) (hv : v.oneCell' = true) (hc : W.cell? ad = some v) :
    ∃ W', (Builtin.append_ #[51, 51] 51 #[.slice (some ⟨b, 0, none⟩) vs.length cap, .slice (some ad) 1 c]).run Tryd.prog W = .ok (.slice (some ⟨b, 0, none⟩) (vs.length + 1) cap) W' ∧ RowV W' b cap (vs ++ [v]) ∧ Only b W W' := by
  obtain ⟨cur, h1, h2, h3⟩ := h
  obtain ⟨i, hi, hz, hsz, hby⟩ := infoRowC
  have hr := run_append_room (P := Tryd.prog) W 51 51 46 i undRows hi b vs.length cap cur h1 ad 1 c [v] (by rw [hsz]; rfl) (by
    intro j u hu
    cases j with
    | zero => simp at hu; subst hu; simpa [Addr.add] using hc
    | succ j => simp at hu) (by intro u hu; simp at hu; subst hu; exact hv) (by omega) (by rw [hsz]; simp; omega)
  refine ⟨_, hr, ⟨_, setRow_heap W b cur _ _ _ h1, ?_, ?_⟩, ⟨rfl, rfl, rfl, by simp, fun k hk => Go.setRow_other W b k _ hk⟩⟩
  · simp [hsz]
    omega
  · rw [hsz, Nat.mul_one, h3]
    exact List.take_left

/-- The values vs are rows that hold the lists ls, from m on, none of them block g. -/
def RowsOf (W : World) (m g : Nat) (vs : List Value) (ls : List (List Nat)) : Prop :=
  vs.length = ls.length ∧ ∀ (j : Nat) (v : Value) (l : List Nat), vs[j]? = some v → ls[j]? = some l → W.ownsRow m 3 1 v l.length (l.map intV) ∧ v.ownBlock ≠ some g
theorem rowsOf_nil (W : World) (m g : Nat) : RowsOf W m g [] [] := ⟨rfl, fun j v l h => by simp at h⟩
theorem ownsRow_same {W W' : World} {m : Nat} {v : Value} {l : List Nat} (h : W.ownsRow m 3 1 v l.length (l.map intV)) (hs : ∀ b cur, v.ownBlock = some b → m ≤ b → W.heap[b]? = some (.cells cur 3 (0, 0)) → W'.heap[b]? = some (.cells cur 3 (0, 0))) :
    W'.ownsRow m 3 1 v l.length (l.map intV) := by
  refine ⟨h.1, h.2.imp id ?_⟩
  rintro ⟨g, cap, cur, rfl, h1, h2, h3⟩
  exact ⟨g, cap, cur, rfl, h1, hs g cur rfl h1 h2, h3⟩
theorem RowsOf.same {W W' : World} {m g : Nat} {vs : List Value} {ls : List (List Nat)} (h : RowsOf W m g vs ls) (hs : ∀ b cur, b ≠ g → m ≤ b → W.heap[b]? = some (.cells cur 3 (0, 0)) → W'.heap[b]? = some (.cells cur 3 (0, 0))) : RowsOf W' m g vs ls :=
  ⟨h.1, fun j v l hv hl => ⟨ownsRow_same (h.2 j v l hv hl).1 fun b cur hb hm hh => hs b cur (fun e => (h.2 j v l hv hl).2 (by rw [hb, e])) hm hh, (h.2 j v l hv hl).2⟩⟩
theorem RowsOf.push {W : World} {m g : Nat} {vs : List Value} {ls : List (List Nat)} (h : RowsOf W m g vs ls) {v : Value} {l : List Nat} (hv : W.ownsRow m 3 1 v l.length (l.map intV)) (hg : v.ownBlock ≠ some g) : RowsOf W m g (vs ++ [v]) (ls ++ [l]) := by
  refine ⟨by simp [h.1], fun j u x hu hx => ?_⟩
  by_cases hj : j < vs.length
  · rw [List.getElem?_append_left hj] at hu
    rw [List.getElem?_append_left (by rw [← h.1]; exact hj)] at hx
    exact h.2 j u x hu hx
  · rw [List.getElem?_append_right (by omega)] at hu
    rw [List.getElem?_append_right (by rw [← h.1]; omega), ← h.1] at hx
    have hz : j - vs.length = 0 := by
      have := (List.getElem?_eq_some_iff.1 hu).1
      simp at this
      omega
    rw [hz] at hu hx
    simp at hu hx
    subst hu hx
    exact ⟨hv, hg⟩

/-- The value v holds a list of lists. -/
def ListSl (n₀ : Nat) (W : World) (v : Value) (ls : List (List Nat)) : Prop :=
  ls.length ≤ maxLen ∧ ∃ a cap, v = .slice a ls.length cap ∧ (0 < ls.length → ∃ b, a = some ⟨b, 0, none⟩ ∧ b < n₀ ∧ ∀ (j : Nat) (l : List Nat), ls[j]? = some l → ∃ u, W.cell? ⟨b, j, none⟩ = some u ∧ SlI n₀ W u l)
theorem ListSl.below {n₀ : Nat} {W W' : World} {v : Value} {ps : List (List Nat)} (h : ListSl n₀ W v ps) (hb : Below n₀ W W') : ListSl n₀ W' v ps := by
  obtain ⟨hl, a, cap, rfl, h⟩ := h
  refine ⟨hl, a, cap, rfl, fun h0 => ?_⟩
  obtain ⟨b, rfl, hbn, hc⟩ := h h0
  refine ⟨b, rfl, hbn, fun j l hj => ?_⟩
  obtain ⟨u, hu, hs⟩ := hc j l hj
  exact ⟨u, (hb.cell (p := ⟨b, j, none⟩) hbn).trans hu, hs.below hb⟩
theorem ListSl.mono {n₀ n₁ : Nat} {W : World} {v : Value} {ps : List (List Nat)} (h : ListSl n₀ W v ps) (hn : n₀ ≤ n₁) : ListSl n₁ W v ps := by
  obtain ⟨hl, a, cap, rfl, h⟩ := h
  refine ⟨hl, a, cap, rfl, fun h0 => ?_⟩
  obtain ⟨b, rfl, hbn, hc⟩ := h h0
  refine ⟨b, rfl, by omega, fun j l hj => ?_⟩
  obtain ⟨u, hu, hs⟩ := hc j l hj
  exact ⟨u, hu, hs.mono hn⟩
theorem listSl_of {W : World} {b cap m g : Nat} {vs : List Value} {ls : List (List Nat)} (h : RowV W b cap vs) (hr : RowsOf W m g vs ls) (hm : ls.length ≤ maxLen) (h48 : ∀ l ∈ ls, l.length ≤ maxLen) : ListSl W.heap.size W (.slice (some ⟨b, 0, none⟩) ls.length cap) ls := by
  obtain ⟨cur, h1, h2, h3⟩ := h
  refine ⟨hm, _, _, rfl, fun _ => ⟨b, rfl, (Array.getElem?_eq_some_iff.1 h1).1, fun j l hj => ?_⟩⟩
  have hjl := (List.getElem?_eq_some_iff.1 hj).1
  obtain ⟨u, hu⟩ : ∃ u, vs[j]? = some u := ⟨vs[j]'(by rw [hr.1]; exact hjl), List.getElem?_eq_getElem _⟩
  refine ⟨u, ?_, slI_of_row (hr.2 j u l hu hj).1 (h48 l (List.mem_of_getElem? hj))⟩
  rw [cell_of_row W b j _ _ _ h1, ← Array.getElem?_toList]
  rw [← h3, List.getElem?_take, if_pos (by rw [hr.1]; exact hjl)] at hu
  exact hu
end Go.Proofs.YtpbljciblgcgfaaDoor
end

section
/- order.Orders: the walk. -/
namespace Go.Proofs.YtpbljciblgcgfaaDoor
open Go.RowKit Go.Shelf

attribute [local go_sem] Oper.semAt_some

theorem wpListIn_value {F : Fence} {n : Nat} {P : Program} {ops : Array Oper} {Q : Exit → Act → World → Prop} {o : Oper} {rest : List Oper} {a : Act} {w w' : World} {v : Value} (hF : ∀ f, F.fn f) (hg : o.guard = none) (hd : ∀ c, o.op ≠ .defer c)
    (hr : (execOp a.eval o).run P w = .ok (.value v) w') (h : wpListIn F n P ops Q rest (a.put o.dst v) w') : wpListIn F n P ops Q (o :: rest) a w := by
  have hw : Region.wanted o (yielded ops a.tmps) = true := by simp [Region.wanted, hg]
  simp only [wpListIn, hw, if_true]
  exact wpIn_value_run hF hd hr h
theorem compl_len (B : Nat → Nat) : ∀ (d s : Nat) (xs : List Nat), ∀ l ∈ compl B d s xs, l.length = xs.length + d
  | 0, _, xs, l, h => by simp [compl] at h; rw [h]; rfl
  | d + 1, s, xs, l, h => by
    simp only [compl, List.mem_flatMap] at h
    obtain ⟨a, _, ha⟩ := h
    have := compl_len B d _ _ l ha
    rw [List.length_append] at this
    simp at this
    omega
theorem ordL_len {N : Nat} {f : Nat → Nat} {l : List Nat} (h : l ∈ ordL N f) : l.length = N := by
  unfold ordL at h
  split at h
  · simpa using compl_len _ _ _ _ l h
  · cases h

set_option maxRecDepth 100000 in
set_option maxHeartbeats 2000000 in
theorem orders_in (N : Nat) (f : Nat → Nat) (M : Nat) (hM : M ≤ 10000) (hf : R64 f) (hr : rightB N f = true) (hle : (ordL N f).length ≤ M) (w : World) (hT : Tab w) :
    CallsIn Fence.wide 6 Tryd.prog 51 #[.agg (relC N f), .int .i64 (M : Int)] w fun e w' => (∃ v, e = .returned (.tuple #[v, .int .i64 0]) ∧ ListSl w'.heap.size w' v (ordL N f)) ∧ Below w.heap.size w w' := by
  have HC := Lib.hid (fun W hT => count_ok N f M hM hf hr W hT)
  rw [show cntR N f M = .tuple #[.int .i64 ((ordL N f).length : Int), .int .i64 0] by rw [cntR, if_pos (by omega)]] at HC
  have hA := RelAt.new w N f
  have hB := below_new w (.cells (relC N f) 26)
  have hT1 := tab_new hT (.cells (relC N f) 26)
  have l1 := hA.ld
  obtain ⟨K, hK⟩ : ∃ K, K = (ordL N f).length := ⟨_, rfl⟩
  rw [← hK] at HC hle
  have hKh := Lib.hid hK
  clear hK
  have hz : (w.alloc (.cells (relC N f) 26)).heap.size = w.heap.size + 1 := by simp
  refine callsIn_of_wp_marks Tryd.func51 rfl trivial ?_ rfl
  simp only [Tryd.ntmps51, List.size_toArray, List.length_cons, List.length_nil, Nat.reduceAdd, Nat.reduceSub, Array.replicate_succ, Array.replicate_zero, List.push_toArray, List.append_toArray, List.nil_append, List.cons_append]
  gi_wp2_with fail
  generalize w.alloc (.cells (relC N f) 26) = W1 at *
  refine ⟨trivial, ?_⟩
  refine (callsIn_wide.2 (HC.out _ hT1)).mono ?_
  rintro e w1 ⟨rfl, h1⟩
  have hA1 := hA.on h1
  have hB1 := thru hB h1
  have hs1 := h1.size
  obtain ⟨W2, hr2, hV2, h2⟩ := rowV_make w1 K (by omega)
  have hs2 := h2.size
  have hA2 := (hA1.on h2).alloc (.cells #[.slice (some ⟨w1.heap.size, 0, none⟩) 0 K] 51)
  have l2 := hA2.ld
  have g8 := Boxed.new W2 51 (.slice (some ⟨w1.heap.size, 0, none⟩) 0 K)
  have hB2 := (thru hB1 h2).alloc (by have := hA1.lt; omega) (.cells #[.slice (some ⟨w1.heap.size, 0, none⟩) 0 K] 51)
  have hV := hV2.on (below_new W2 (.cells #[.slice (some ⟨w1.heap.size, 0, none⟩) 0 K] 51))
  have hVl := hV2.lt
  have hz3 : (W2.alloc (.cells #[.slice (some ⟨w1.heap.size, 0, none⟩) 0 K] 51)).heap.size = W2.heap.size + 1 := by simp
  clear l1 hA hB h1 hB1 h2 hV2
  gi_wp2_with (gi_at_make; refine wpListIn_value (fun _ => trivial) rfl (fun c h => by cases h) (v := .slice (some ⟨w1.heap.size, 0, none⟩) 0 K) (w' := W2) (make_run rfl rfl hr2) ?_)
  generalize W2.alloc (.cells #[.slice (some ⟨w1.heap.size, 0, none⟩) 0 K] 51) = W3 at *
  refine ⟨trivial, ?_⟩
  refine (callsIn_wide.2 (orders_any _ _ _)).mono ?_
  rintro e w4 ⟨rfl, h4⟩
  have hR4 : RelAt w4 W3.heap.size N f := by rw [← h4]; exact RelAt.new W3 N f
  have h34 : Below W3.heap.size W3 w4 := by rw [← h4]; exact below_new W3 _
  have hz4 : w4.heap.size = W3.heap.size + 1 := by rw [← h4]; simp
  replace g8 := boxed_on g8 h34
  replace hV := hV.on h34
  have hB4 := thru hB2 h34
  have hT4 := hT.below hB4 hT.pos
  have hws := hB4.size
  have HB4 := Lib.hid hB4
  have hTp := hT.pos
  rw [hz3] at hR4 hz4
  clear h4 h34 hB2 hB4 l2 hA2 hA1
  gi_wp2_with fail
  have hws4 : w1.heap.size < w4.heap.size := by omega
  refine range_some rfl (by omega) (gf := 96) (lb := #[.pointer (some ⟨W2.heap.size + 1, 0, none⟩)]) rfl trivial (enters_of Tryd.func96 (by kernel_rfl) rfl)
    (orders1_gives 5 (W2.heap.size + 1) w.heap.size hTp N f hf hr w4 hT4 hws hR4 (by omega)) (fun k hk => by omega) (fun _ _ => rfl) (fun _ _ _ _ _ _ h hl ho => isO_put h hl ho)
    (fun g pre W => ∃ vs, RowV W w1.heap.size K vs ∧ RowsOf W w.heap.size g vs pre ∧ Boxed W W2.heap.size 51 (.slice (some ⟨w1.heap.size, 0, none⟩) pre.length K) ∧ Below w.heap.size w W)
    (fun _ _ _ _ => False) ?clI (fun _ _ _ _ _ h _ => h) (fun _ _ => ⟨[], hV, rowsOf_nil _ _ _, g8, HB4.out⟩)
    (fun g _ => { tmps := #[.agg (relC N f), .int .i64 (M : Int), .pointer (some ⟨w.heap.size, 0, none⟩), undef, .slice none 0 0, .int .i64 0, .int .i64 (K : Int), .int .i64 0, .pointer (some ⟨W2.heap.size, 0, none⟩), .slice (some ⟨g, 0, none⟩) N N, .tuple #[.int .i64 (K : Int), .int .i64 0], .agg (relC N f), .int .i64 (M : Int), .tuple #[.int .i64 (K : Int), .int .i64 0], .int .i64 (K : Int), .int .i64 0, .int .i64 0, .bool false, undef, .int .i64 (K : Int), .slice (some ⟨w1.heap.size, 0, none⟩) 0 K, .agg (relC N f), .func (.func 96) #[] #[.pointer (some ⟨W2.heap.size + 1, 0, none⟩)], .slice (some ⟨g, 0, none⟩) N N, undef, undef, undef, undef, undef, undef], defers := [] }) ?assign ?body ?done ?stop
  case clI =>
    rintro g' pre A A' ⟨vs, h1, h2, h3, h4⟩ hc
    refine ⟨vs, h1.same fun o ho => hc.block _ _ (.inl hws4) ho, h2.same fun b cur hb hm hh => hc.block _ _ (.inr ⟨rfl, ?_⟩) hh, hc.boxed h3 (by omega), hc.below h4 hws (Nat.le_refl _)⟩
    rintro (⟨cs, fr, he⟩ | he)
    · cases he
    · exact hb he
  case assign =>
    intro l2 g' x W' K hK
    simp only [encO]
    gi_wp2
    exact hK
  case body =>
    rintro l2 g' pre x W hg ⟨vs, h1, h2, h3, h4⟩ hx hpre
    have hm : Tryd.prog.follows .mixedOrders = true := by kernel_rfl
    have hN48 : N ≤ 48 := by
      obtain ⟨⟨-, h⟩, -⟩ := rightB_iff.1 hr
      omega
    have hlt : pre.length < K := by
      have := hpre.length_le
      rw [List.length_append, ← hKh.out] at this
      simp at this
      omega
    have c8 := h3.cell
    have hvs := h2.1
    have hW1 := h1.lt
    gi_wp2
    refine wpIn_region_lit_any hm ?_
    simp only [List.length_cons, List.length_nil, Nat.reduceAdd]
    refine wpAnyIn_take_by (i := 0) 3 (v := .slice (some ⟨w1.heap.size, 0, none⟩) pre.length K) (fun W' => W'.cell? ⟨W2.heap.size, 0, none⟩ = some (.slice (some ⟨w1.heap.size, 0, none⟩) pre.length K)) (fun _ => trivial) (by kernel_rfl) (by kernel_rfl) (fun _ _ _ _ _ h => h) rfl rfl (by kernel_rfl) (fun W' hC => by go_simp) c8 ?_
    simp only [Act.put, List.setIfInBounds_toArray, List.set_cons_succ, List.set_cons_zero]
    refine wpAnyT_one (i := 1) rfl (by kernel_rfl) (by kernel_rfl) ?_
    refine wpIn_value_run (fun _ => trivial) (fun c h => by cases h) (v := .slice (some ⟨g', 0, none⟩) N N) (w' := W.drew) (by go_simp) ⟨c8, ?_⟩
    simp only [Act.put, List.setIfInBounds_toArray, List.set_cons_succ, List.set_cons_zero]
    have hxd : isO N g' x W.drew := ⟨hx.1.same fun o ho => ho, hx.2⟩
    refine wpAnyT_one (i := 2) rfl (by kernel_rfl) (by kernel_rfl) ?_
    refine wpIn_call_run (fun _ => trivial) rfl (fun c h => by cases h) (f := 88) (args := #[.slice (some ⟨g', 0, none⟩) N N]) (by go_simp) (CallsIn.inRound l2 (callsIn_wide.2 (clone_any g' N hN48 x W.drew hxd))) ?_
    rintro e W5 ⟨v, rfl, hown, hb5⟩
    have hS : Below W.heap.size W W5 := ((Below.refl _ W).drew).trans hb5
    have h1' := h1.on hS
    have h2' : RowsOf W5 w.heap.size g' vs pre := h2.same fun b cur _ _ hh => (hS.block b (Array.getElem?_eq_some_iff.1 hh).1).trans hh
    have h3' := boxed_on h3 hS
    have h4' := thru h4 hS
    have hsz := hS.size
    have hg' : g' < W.heap.size := hx.1.lt
    have hwW := h4.size
    obtain ⟨av, cv, hve⟩ := ownsRow_slice hown
    have hvg : v.ownBlock ≠ some g' := by
      rcases hown.2 with ⟨rfl, _⟩ | ⟨gg, cap, cur, rfl, hbg, _⟩
      · simp [Value.ownBlock]
      · simp only [Value.ownBlock, ne_eq, Option.some.injEq]
        have : W.drew.heap.size = W.heap.size := rfl
        omega
    have hrowv : W5.ownsRow w.heap.size 3 1 v x.length (x.map intV) := by rw [hx.2]; exact ownsRow_base hown hwW
    have hv1 : v.oneCell' = true := by rw [hve]; rfl
    have c8' := h3'.cell
    refine ⟨v, rfl, c8', ?_⟩
    simp only [Act.put, List.setIfInBounds_toArray, List.set_cons_succ, List.set_cons_zero]
    subst hve
    have hb6 : Below W5.heap.size W5 (W5.alloc (.cells #[.slice av N cv] 46)) := below_new W5 _
    have hc6 : (W5.alloc (.cells #[.slice av N cv] 46)).cell? ⟨W5.heap.size, 0, none⟩ = some (.slice av N cv) := by
      rw [cell_of_row _ _ 0 _ _ _ (heap_alloc_new W5 (.cells #[.slice av N cv] 46))]
      rfl
    refine wpAnyT_one (i := 3) rfl (by kernel_rfl) (by kernel_rfl) ?_
    refine wpIn_value_run (fun _ => trivial) (fun c h => by cases h) (v := .slice (some ⟨W5.heap.size, 0, none⟩) 1 1) (w' := W5.alloc (.cells #[.slice av N cv] 46)) (by go_simp) ⟨(boxed_on h3' hb6).cell, ?_⟩
    simp only [Act.put, List.setIfInBounds_toArray, List.set_cons_succ, List.set_cons_zero]
    have h1x := h1'.on hb6
    have h2x : RowsOf (W5.alloc (.cells #[.slice av N cv] 46)) w.heap.size g' vs pre := h2'.same fun b cur _ _ hh => (hb6.block b (Array.getElem?_eq_some_iff.1 hh).1).trans hh
    have h3x := boxed_on h3' hb6
    have h4x := thru h4' hb6
    have hrx := ownsRow_same hrowv (fun b cur _ _ hh => (hb6.block b (Array.getElem?_eq_some_iff.1 hh).1).trans hh)
    have hz6 : (W5.alloc (.cells #[.slice av N cv] 46)).heap.size = W5.heap.size + 1 := by simp
    have hS6 := thru hS hb6
    generalize W5.alloc (.cells #[.slice av N cv] 46) = W6 at *
    obtain ⟨W7, hr7, h7, hO7⟩ := h1x.push (by omega) ⟨W5.heap.size, 0, none⟩ 1 (.slice av N cv) hv1 hc6
    rw [hvs] at hr7
    have h2y : RowsOf W7 w.heap.size g' (vs ++ [.slice av N cv]) (pre ++ [x]) := by
      have hne : ∀ b (cur : Array Value), W6.heap[b]? = some (Obj.cells cur 3 (0, 0)) → W7.heap[b]? = some (Obj.cells cur 3 (0, 0)) := fun b cur hh => (hO7.block b (by
        rintro rfl
        obtain ⟨cur2, hh2, _⟩ := h1x
        rw [hh] at hh2
        cases hh2)).trans hh
      exact (h2x.same fun b cur _ _ hh => hne b cur hh).push (ownsRow_same hrx fun b cur _ _ hh => hne b cur hh) hvg
    have h3y : Boxed W7 W2.heap.size 51 (.slice (some ⟨w1.heap.size, 0, none⟩) pre.length K) := (hO7.block _ (by omega)).trans h3x
    have f7 := h3y.frozen
    have c7 := h3y.cell
    have h4y := below_only h4x hO7 (by omega)
    refine wpAnyT_zero ?_
    refine wpAnyIn_one (i := 4) rfl (by kernel_rfl) (by kernel_rfl) ?_
    refine wpIn_append_run (fun _ => trivial) (.tmp 24) (.tmp 27) 51 rfl rfl rfl hr7 ?_
    simp only [Act.put, List.setIfInBounds_toArray, List.set_cons_succ, List.set_cons_zero]
    refine wpAnyIn_one (i := 5) rfl (by kernel_rfl) (by kernel_rfl) ?_
    refine ⟨fun _ _ => trivial, ?_⟩
    rw [Oper.semAt_eq _ _ _ (fun c h => by cases h)]
    go_simp
    refine wpAnyIn_done (by kernel_rfl) ?_ _
    gi_wp2
    have hK1 : KeepK (fun k => k < w.heap.size ∨ k = W2.heap.size + 1) w4.heap.size W W7 :=
      ⟨hO7.os.trans hS6.os, hO7.tape.trans hS6.tape, hO7.output.trans hS6.output, by have := hS6.size; have := hO7.size; omega, fun k o hk ho => (hO7.block k (by omega)).trans ((hS6.block k (Array.getElem?_eq_some_iff.1 ho).1).trans ho)⟩
    refine ⟨hK1.trans (KeepK.setCell _ _ _ (by simp; omega) (by simp; omega)), vs ++ [.slice av N cv], h7.same fun o ho => (Below.heap_setCell W7 _ _ _ (by simp; omega)).trans ho, h2y.same fun b cur _ _ hh => (Below.heap_setCell W7 _ _ _ (by
        intro e
        rw [e] at hh
        rw [show W7.heap[W2.heap.size]? = _ from h3y] at hh
        cases hh)).trans hh, ?_, h4y.setCell (by simp; omega) _⟩
    rw [show (pre ++ [x]).length = pre.length + 1 by simp]
    exact h3y.set _
  case done =>
    rintro D g' W hD ⟨vs, h1, h2, h3, h4⟩ hDf
    have c8 := h3.cell
    gi_wp2
    refine ⟨by simp, .inl ⟨_, _, rfl, run_takeDeferred hDf, ?_⟩⟩
    have hP : ∀ k o, k ≠ D → W.heap[k]? = some o → (W.putObj D (.deferred none)).heap[k]? = some o := fun k o hk ho => (World.putObj_heap_other hk).trans ho
    have hbD := h4.trans (belowK_b (w := w) (Nat.le_refl _) _ D _ (.deferred none) (by omega) hDf rfl rfl)
    have hL := listSl_of (W := W.putObj D (.deferred none)) (b := w1.heap.size) (cap := K) (m := w.heap.size) (g := g') (vs := vs) (ls := ordL N f)
      (h1.same fun o ho => hP _ o (by omega) ho) (h2.same fun b cur _ _ hh => hP _ _ (by rintro rfl; rw [hDf] at hh; cases hh) hh)
      (by rw [← hKh.out]; unfold maxLen; omega) (fun l hl => by
        rw [ordL_len hl]
        obtain ⟨⟨-, h⟩, -⟩ := rightB_iff.1 hr
        unfold maxLen
        omega)
    refine ⟨.tuple #[.slice (some ⟨w1.heap.size, 0, none⟩) (ordL N f).length K, .int .i64 0], by simp [results, Tryd.f51, go_sem], ⟨_, rfl, hL⟩, hbD⟩
  case stop =>
    intro D g' c pre W _ _ h
    exact h.elim
end Go.Proofs.YtpbljciblgcgfaaDoor
end

section
/- seisinlaw03.Lists on equal lists; what a law's walk carries. -/
namespace Go.Proofs.YtpbljciblgcgfaaDoor
open Go.RowKit Go.Shelf

attribute [local go_sem] Oper.semAt_some

theorem ListSl.on {W W' : World} {v : Value} {zs : List (List Nat)} (h : ListSl W.heap.size W v zs) (hb : Below W.heap.size W W') : ListSl W'.heap.size W' v zs := (h.below hb).mono hb.size

/-- What a law's walk carries: relations in memory, lists, lists of lists. -/
structure KS (w W : World) (rels : List (Nat × Int × (Nat → Nat))) (sls : List (Value × List Nat)) (lls : List (Value × List (List Nat))) : Prop where
  below : Below w.heap.size w W
  rel : ∀ x ∈ rels, RelAt W x.1 x.2.1 x.2.2
  sl : ∀ x ∈ sls, SlI W.heap.size W x.1 x.2
  ls : ∀ x ∈ lls, ListSl W.heap.size W x.1 x.2
section
variable {w W W' : World} {rels : List (Nat × Int × (Nat → Nat))} {sls : List (Value × List Nat)} {lls : List (Value × List (List Nat))}
theorem KS.nil (w : World) : KS w w [] [] [] := ⟨Below.refl _ _, fun _ h => (by cases h), fun _ h => (by cases h), fun _ h => (by cases h)⟩
theorem KS.on (h : KS w W rels sls lls) (hb : Below W.heap.size W W') : KS w W' rels sls lls :=
  ⟨thru h.below hb, fun x hx => (h.rel x hx).on hb, fun x hx => (h.sl x hx).on hb, fun x hx => (h.ls x hx).on hb⟩
theorem KS.tab (h : KS w W rels sls lls) (hT : Tab w) : Tab W := hT.below h.below hT.pos
theorem KS.alloc (h : KS w W rels sls lls) (o : Obj) : KS w (W.alloc o) rels sls lls := h.on (below_new W o)
theorem KS.drew (h : KS w W rels sls lls) : KS w W.drew rels sls lls := h.on ((Below.refl _ W).drew)
theorem KS.addRel (h : KS w W rels sls lls) {b : Nat} {n : Int} {f : Nat → Nat} (hr : RelAt W b n f) : KS w W ((b, n, f) :: rels) sls lls :=
  ⟨h.below, fun x hx => by rcases List.mem_cons.1 hx with rfl | hx; exact hr; exact h.rel x hx, h.sl, h.ls⟩
theorem KS.addSl (h : KS w W rels sls lls) {v : Value} {zs : List Nat} (hr : SlI W.heap.size W v zs) : KS w W rels ((v, zs) :: sls) lls :=
  ⟨h.below, h.rel, fun x hx => by rcases List.mem_cons.1 hx with rfl | hx; exact hr; exact h.sl x hx, h.ls⟩
theorem KS.addLs (h : KS w W rels sls lls) {v : Value} {zs : List (List Nat)} (hr : ListSl W.heap.size W v zs) : KS w W rels sls ((v, zs) :: lls) :=
  ⟨h.below, h.rel, h.sl, fun x hx => by rcases List.mem_cons.1 hx with rfl | hx; exact hr; exact h.ls x hx⟩
/-- A call that returned a relation, laid into a new block. -/
theorem KS.lay (h : KS w W rels sls lls) (hb : Below W.heap.size W W') (n : Int) (f : Nat → Nat) :
    ∃ W2, (stRel (.pointer (some ⟨W'.heap.size, 0, none⟩)) (.agg (relC n f))).run Tryd.prog (W'.alloc (.cells (relC 0 zf) 26)) = .ok () W2 ∧ KS w W2 ((W'.heap.size, n, f) :: rels) sls lls ∧ W2.heap.size = W'.heap.size + 1 := by
  obtain ⟨W2, hs, hR, hb2, hz⟩ := Ex.lay W' n f
  exact ⟨W2, hs, ((h.on hb).on hb2).addRel hR, hz⟩
end

set_option maxRecDepth 100000 in
set_option maxHeartbeats 2000000 in
theorem lists_same (va vb : Value) (ls : List (List Nat)) (w : World) (ha : ListSl w.heap.size w va ls) (hb : ListSl w.heap.size w vb ls) :
    Calls Tryd.prog 58 #[va, vb] w fun e w' => e = .returned (.bool true) ∧ Below w.heap.size w w' := by
  obtain ⟨hl, a, ca, rfl, ha⟩ := ha
  obtain ⟨-, b, cb, rfl, hb⟩ := hb
  unfold maxLen at hl
  obtain ⟨K, hK⟩ : ∃ K, K = ls.length := ⟨_, rfl⟩
  have hKh := Lib.hid hK
  rw [← hK] at hl ha hb ⊢
  clear hK
  have hm : Tryd.prog.follows .mixedOrders = true := by kernel_rfl
  have HA := Lib.hid ha
  have HB := Lib.hid hb
  clear ha hb
  go_enter Tryd.func58, Tryd.ntmps58
  go_wp2
  go_loopw [13] (fun i W => ∃ k : Nat, k ≤ K ∧ i = .int .i64 k ∧ Below w.heap.size w W) (fun i _ => K - (intOf i).toNat)
  case atStart => exact ⟨0, Nat.zero_le _, rfl, Below.refl _ _⟩
  case round =>
    obtain ⟨k, hk, rfl, hB⟩ := hrel
    by_cases hlt : k < K
    · obtain ⟨x, rfl, hx1, hx2⟩ := HA.out (by omega)
      obtain ⟨y, rfl, hy1, hy2⟩ := HB.out (by omega)
      obtain ⟨l, hl2⟩ : ∃ l, ls[k]? = some l := ⟨ls[k]'(by rw [← hKh.out]; exact hlt), List.getElem?_eq_getElem _⟩
      obtain ⟨u1, hu1, hs1⟩ := hx2 k l hl2
      obtain ⟨u2, hu2, hs2⟩ := hy2 k l hl2
      have c1 := (hB.cell (p := ⟨x, k, none⟩) hx1).trans hu1
      have c2 := (hB.cell (p := ⟨y, k, none⟩) hy1).trans hu2
      have i1 := Lib.hid (((hs1.below hB).mono hB.size))
      have i2 := Lib.hid (((hs2.below hB).mono hB.size))
      clear hx2 hy2 hu1 hu2 hs1 hs2
      have t1 : decide (k < K) = true := by simpa using hlt
      have hBd := Lib.hid hB
      clear hB
      go_upto_region 6 with fail
      refine wp_region_tail 8 hm (by kernel_rfl) ?_
      simp only [List.take_succ_cons, List.take_zero, List.drop_succ_cons, List.drop_zero]
      repeat still_step
      refine wpStill_nil ?_
      go_wp2_with fail
      refine (ints_eq (w := wr.drew) i1.out i2.out).mono ?_
      rintro e w2 ⟨rfl, h2⟩
      go_wp2
      go_roundw
      case rel => exact ⟨k + 1, by omega, by go_num, thru hBd.out.drew h2⟩
      case measure => simp [intOf]; omega
    · obtain rfl : k = K := by omega
      go_wp2
      go_ret
      exact ⟨rfl, hB⟩
end Go.Proofs.YtpbljciblgcgfaaDoor
end
