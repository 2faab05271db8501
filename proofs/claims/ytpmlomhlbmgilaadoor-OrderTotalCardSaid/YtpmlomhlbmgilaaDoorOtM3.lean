/- WideTail, OrdReady, AppendKeeps, OrdComplete in one text, for the claim. -/
import Derived.StillTailTactics
import Derived.TacticsIn
import Derived.OrdersIn
import Derived.CallsIn
import Derived.Test.YtpmlomhlbmgilaaDoorRoundTail
import Derived.Sort.CutIn
import Derived.Test.YtpmlomhlbmgilaaDoorOtM2
import Derived.Test.YtpmlomhlbmgilaaDoorRelSets2
import Derived.Test.YtpmlomhlbmgilaaDoorMarksNext
import Derived.Laws.AppendOwnNone
import Derived.Deep.RegionLaw
import Derived.Test.YtpmlomhlbmgilaaDoorOtM1
import Derived.Test.YtpmlomhlbmgilaaDoorOrdMarks
import Derived.Test.YtpmlomhlbmgilaaDoorRelTop

section
/- A region that draws its order, at the wide fence: all but its last operations only look, and the last ones wait for all the others; and what a walk without a fence shows. -/
namespace Go.Proofs.YtpmlomhlbmgilaaDoor

section
variable {P : Program} {ops : Array Oper} {md : Region.Mode} {w : World} {l m : Nat} {Q : Exit → Act → World → Prop}

theorem wpOpIn_of_stOp_w {i : Nat} {a : Act} {K : Act → Prop} {K' : Act → World → Prop} (hd : ∀ o, ops[i]? = some o → ∀ c, o.op ≠ .defer c)
    (h : ∀ a, K a → K' a w) (hh : stOp P ops w i K a) : wpOpIn Fence.wide m P ops Q i K' a w := by
  unfold stOp at hh
  unfold wpOpIn
  split
  · rename_i ho; simp only [ho] at hh; exact h _ hh
  · rename_i o ho
    simp only [ho] at hh
    split
    · rename_i hw
      simp only [hw, if_true] at hh
      refine ⟨fun _ _ => trivial, ?_⟩
      rw [Oper.semAt_eq _ _ _ (hd o ho)]
      unfold Oper.still at hh
      generalize (execOp a.eval o).run P w = r at *
      cases r with
      | ok x w' =>
        cases x <;> simp only [Oper.stillUpon] at hh
        case value v => obtain ⟨rfl, hk⟩ := hh; exact h _ hk
        case skip => obtain ⟨rfl, hk⟩ := hh; exact h _ hk
        case enter f args =>
          obtain ⟨rfl, v, hc, hk⟩ := hh
          refine ⟨(fun hx => nomatch hx), callsIn_wide.2 (hc.mono ?_)⟩
          rintro e w'' ⟨rfl, rfl⟩
          exact h _ hk
      | halt x w' => simp [Oper.stillUpon] at hh
    · rename_i hw
      simp only [hw] at hh
      exact ⟨fun _ _ => trivial, h _ hh⟩

theorem wpAnyIn_of_head_w {n g : Nat} {L : Array Bool → Act → Prop} (hd : ∀ (i : Nat) o, ops[i]? = some o → ∀ c, o.op ≠ .defer c)
    (hL : ∀ listed a, L listed a → wpAnyIn Fence.wide m P md ops Q g listed a w) :
    ∀ (f : Nat) (listed : Array Bool) (a : Act), wpAnyL P md ops w n L f listed a → wpAnyIn Fence.wide m P md ops Q (f + g) listed a w
  | 0, listed, a, h => by rw [Nat.zero_add]; exact hL _ _ h
  | f + 1, listed, a, h => by
    rw [show f + 1 + g = (f + g) + 1 by omega]
    exact ⟨fun h0 => absurd h0 h.1, fun i hi => wpOpIn_of_stOp_w (hd i) (fun a' h' => wpAnyIn_of_head_w hd hL f _ a' h') (h.2 i hi).2⟩

/-- The law: n operations look, in whatever order; what follows them is one by one. -/
theorem wpIn_wide_tail {id : Nat} {a : Act} {w : World} {os : List Oper} (n : Nat) (hm : P.follows .mixedOrders = true) (hB : Region.lexTailB .any os.toArray n = true)
    (hd : (os.all fun o => match o.op with | .defer _ => false | _ => true) = true)
    (h : wpStill P os.toArray w.drew (fun a' => wpListIn Fence.wide m P os.toArray Q (os.drop n) a' w.drew) (os.take n) a) :
    (Code.region id os.toArray true).wpIn Fence.wide m P Q a w := by
  simp only [Region.lexTailB, Bool.and_eq_true, decide_eq_true_eq] at hB
  obtain ⟨⟨⟨⟨hsel, hn⟩, hs⟩, hc⟩, hlex⟩ := hB
  have hn' : n < os.length := by simpa using hn
  have htl : (os.take n).length = n := by simp; omega
  have hdl : (os.drop n).length = os.toArray.size - n := by simp
  have hdef : ∀ (i : Nat) o, os.toArray[i]? = some o → ∀ c, o.op ≠ .defer c := by
    intro i o ho c hop
    have ho' : os[i]? = some o := by simpa using ho
    have := List.all_eq_true.1 hd o (List.mem_of_getElem? ho')
    rw [hop] at this
    cases this
  have inv0 : HeadInv .any os.toArray n (Array.replicate os.toArray.size false) :=
    ⟨by simp, fun j oj _ hl => (by rw [getD_replicate_false] at hl; cases hl), fun t _ ht => getD_in (by simpa using ht) (getD_replicate_false _ _)⟩
  have H := wpAnyL_lex (md := .any) (g := os.toArray.size - n) hsel hs hc hn (os.take n) 0 _ a (fun j hj => by
    have hj' : j < n := by rw [htl] at hj; exact hj
    simp [hj']) (by simpa using htl) inv0 (by rw [htl]; exact hlex) h
  refine wpIn_region_any hm ?_
  have := wpAnyIn_of_head_w (Q := Q) (g := os.toArray.size - n) hdef (fun listed a' hL => by
    have := wpAnyIn_of_seq (F := Fence.wide) (md := .any) (Q := Q) (os.drop n) n listed a' w.drew (fun j => by simp [List.getElem?_drop]) (by rw [hdl]; exact hL.1) hL.2
    rwa [hdl] at this) _ _ _ H
  rw [htl, show n + (os.toArray.size - n) = os.toArray.size by omega] at this
  exact this

end
/-! A region that draws its order at a fence that bars no function, in a round or not: an operation that only looks, and sees the same as long as the class C of worlds is kept, may be taken first. -/
section
variable {F : Fence} {m : Nat} {P : Program} {ops : Array Oper} {md : Region.Mode} {Q : Exit → Act → World → Prop} {C : World → Prop}

def wpAnyC (F : Fence) (m : Nat) (P : Program) (md : Region.Mode) (ops : Array Oper) (C : World → Prop) (Q : Exit → Act → World → Prop) : Nat → Array Bool → Act → World → Prop
  | 0, listed, a, w => C w ∧ Region.ready md ops listed = [] ∧ Q .normal a w
  | f + 1, listed, a, w => C w ∧ (Region.ready md ops listed = [] → Q .normal a w) ∧ ∀ i ∈ Region.ready md ops listed, wpOpIn F m P ops Q i (wpAnyC F m P md ops C Q f (listed.setIfInBounds i true)) a w
theorem wpAnyC.cls : ∀ {f : Nat} {listed : Array Bool} {a : Act} {w : World}, wpAnyC F m P md ops C Q f listed a w → C w
  | 0, _, _, _, h => h.1
  | _ + 1, _, _, _, h => h.1
theorem wpAnyC.any : ∀ {f : Nat} {listed : Array Bool} {a : Act} {w : World}, wpAnyC F m P md ops C Q f listed a w → wpAnyIn F m P md ops Q f listed a w
  | 0, _, _, _, h => h.2
  | _ + 1, _, _, _, h => ⟨h.2.1, fun i hi => wpOpIn_mono (fun _ _ h' => h'.any) (h.2.2 i hi)⟩

/-- What an operation yields in whatever world of the class. -/
def YieldsC (P : Program) (ops : Array Oper) (C : World → Prop) (o : Oper) (v : Value) (a : Act) : Prop :=
  (Region.wanted o (yielded ops a.tmps) = true ∧ ∀ W, C W → (execOp a.eval o).run P W = .ok (.value v) W) ∨ (Region.wanted o (yielded ops a.tmps) = false ∧ v = undef)
theorem YieldsC.wpOpIn {i : Nat} {o : Oper} {v : Value} {a : Act} (hF : ∀ f, F.fn f) (hd : ∀ c, o.op ≠ .defer c) (hi : ops[i]? = some o) (hy : YieldsC P ops C o v a)
    {K : Act → World → Prop} {w : World} (hC : C w) (h : K (a.put o.dst v) w) : wpOpIn F m P ops Q i K a w := by
  unfold Go.wpOpIn
  simp only [hi]
  rcases hy with ⟨hw, hv⟩ | ⟨hw, rfl⟩
  · simp only [hw, if_true, Oper.wpIn, Oper.semAt_eq _ _ _ hd, hv w hC, Oper.uponIn]; exact ⟨fun f _ => hF f, h⟩
  · simp only [hw, Bool.false_eq_true, if_false]; exact ⟨fun f _ => hF f, h⟩
theorem YieldsC.of_same {o : Oper} {v : Value} {a a' : Act} (hy : YieldsC P ops C o v a) (he : execOp a'.eval o = execOp a.eval o)
    (hw : Region.wanted o (yielded ops a'.tmps) = Region.wanted o (yielded ops a.tmps)) : YieldsC P ops C o v a' := by
  unfold YieldsC at *
  rw [he, hw]
  exact hy

theorem wpOpIn_putC {j : Nat} {oi oj : Oper} {v : Value} (hF : ∀ f, F.fn f) (hd : ∀ c, oj.op ≠ .defer c) (hj : ops[j]? = some oj) (hap : oi.apart ops oj = true)
    (hsi : ∀ cs b, oi.op ≠ .select cs b) (hsj : ∀ cs b, oj.op ≠ .select cs b)
    (hQ : ∀ c a w, Q (.panic c) (a.put oi.dst v) w → Q (.panic c) a w) {K : Act → World → Prop} {a : Act} {w : World}
    (hy : YieldsC P ops C oi v a) (h : wpOpIn F m P ops Q j K (a.put oi.dst v) w) :
    wpOpIn F m P ops Q j (fun a' w' => YieldsC P ops C oi v a' ∧ K (a'.put oi.dst v) w') a w := by
  obtain ⟨h1, h2, h3⟩ := Oper.apart_spec hap
  have keep : ∀ (a : Act), YieldsC P ops C oi v a → ∀ u, YieldsC P ops C oi v (a.put oj.dst u) := fun a hy u =>
    hy.of_same (execOp_put oi hsi a oj.dst u h3) (wanted_put oi a oj.dst u h3)
  unfold wpOpIn at *
  simp only [hj] at *
  rw [wanted_put oj a oi.dst v h1] at h
  split
  · rename_i hw
    simp only [hw, if_true] at h
    unfold Oper.wpIn at *
    refine ⟨fun f _ => hF f, ?_⟩
    have h := h.2
    rw [Oper.semAt_eq _ _ _ hd, execOp_put oj hsj a oi.dst v h1] at h
    rw [Oper.semAt_eq _ _ _ hd]
    generalize (execOp a.eval oj).run P w = r at *
    cases r with
    | ok x w' =>
      cases x <;> simp only [Oper.uponIn] at h ⊢
      case value u => exact ⟨keep a hy u, by rw [← Act.put_comm a v u h2]; exact h⟩
      case skip => exact ⟨keep a hy _, by rw [← Act.put_comm a v undef h2]; exact h⟩
      case defer d =>
        refine ⟨keep _ (hy.of_same (a' := { a with defers := d :: a.defers }) rfl rfl) _, ?_⟩
        rw [← Act.put_comm _ v undef h2, ← Act.put_defers]
        exact h
      case enter f args =>
        refine ⟨h.1, CallsIn.mono h.2 fun e w'' he => ?_⟩
        cases e with
        | returned u => exact ⟨keep a hy u, by rw [← Act.put_comm a v u h2]; exact he⟩
        | panicked c => exact hQ _ _ _ he
        | outgrown => exact he
      case row row args => exact ⟨h.1, RowsIn.mono h.2 fun u w'' he => ⟨keep a hy u, by rw [← Act.put_comm a v u h2]; exact he⟩⟩
      case round l f tmps assign body =>
        refine ⟨h.1, RoundIn.mono h.2 fun e w'' he => ?_⟩
        cases e with
        | returned u => exact ⟨keep a hy u, by rw [← Act.put_comm a v u h2]; exact he⟩
        | panicked c => exact hQ _ _ _ he
        | outgrown => exact he
    | halt x w' =>
      cases x <;> simp only [Oper.uponIn] at h ⊢
      case panic u => exact hQ _ _ _ h
  · rename_i hw
    simp only [hw] at h
    exact ⟨fun f _ => hF f, keep a hy _, by rw [← Act.put_comm a v undef h2]; exact h.2⟩

theorem wpAnyC_first {i : Nat} {oi : Oper} {v : Value} (hF : ∀ f, F.fn f) (hd : ∀ (j : Nat) (o : Oper) c, ops[j]? = some o → o.op ≠ .defer c) (hi : ops[i]? = some oi) (hsel : ∀ (j : Nat) (o : Oper) cs b, ops[j]? = some o → o.op ≠ .select cs b)
    (hQ : ∀ c a w, Q (.panic c) (a.put oi.dst v) w → Q (.panic c) a w) :
    ∀ (fuel : Nat) (listed : Array Bool) (a : Act) (w : World),
      (∀ j oj, ops[j]? = some oj → j ≠ i → listed.getD j true = false → (∀ e ∈ oj.after, Region.binds md e = true → e.on ≠ i) → oi.apart ops oj = true) →
      i ∈ Region.ready md ops listed → YieldsC P ops C oi v a →
      wpAnyC F m P md ops C Q fuel (listed.setIfInBounds i true) (a.put oi.dst v) w → wpAnyC F m P md ops C Q (fuel + 1) listed a w := by
  intro fuel
  induction fuel with
  | zero =>
    intro listed a w _ hr hy H
    refine ⟨H.1, fun h => (by rw [h] at hr; cases hr), fun j hj => ?_⟩
    by_cases hji : j = i
    · subst hji; exact hy.wpOpIn hF (hd j oi · hi) hi H.1 H
    · have := ready_mono hj hji
      rw [H.2.1] at this
      cases this
  | succ fuel ih =>
    intro listed a w hfree hr hy H
    refine ⟨H.1, fun h => (by rw [h] at hr; cases hr), fun j hj => ?_⟩
    by_cases hji : j = i
    · subst hji; exact hy.wpOpIn hF (hd j oi · hi) hi H.1 H
    · have h1 := H.2.2 j (ready_mono hj hji)
      obtain ⟨hjun, oj, hoj, hall⟩ := mem_ready.1 hj
      have hnot : ∀ e ∈ oj.after, Region.binds md e = true → e.on ≠ i := fun e he hb heq => by
        have h1 := hall e he hb
        have h0 := (mem_ready.1 hr).1
        rw [heq] at h1
        rcases Nat.lt_or_ge i listed.size with h' | h'
        · simp [h'] at h0 h1; rw [h0] at h1; cases h1
        · simp [Array.getElem?_eq_none h'] at h1
      have h2 := wpOpIn_putC hF (hd j oj · hoj) hoj (hfree j oj hoj hji hjun hnot) (fun cs b => hsel i oi cs b hi) (fun cs b => hsel j oj cs b hoj) hQ hy h1
      have hfree' : ∀ k ok, ops[k]? = some ok → k ≠ i → (listed.setIfInBounds j true).getD k true = false →
          (∀ e ∈ ok.after, Region.binds md e = true → e.on ≠ i) → oi.apart ops ok = true := fun k ok hk hki hun hno => by
        refine hfree k ok hk hki ?_ hno
        by_cases hjk : j = k
        · subst hjk; exact hjun
        · rw [getD_set_ne true hjk] at hun; exact hun
      refine wpOpIn_mono (fun a' w' h3 => ih (listed.setIfInBounds j true) a' w' hfree' (ready_mono hr (Ne.symm hji)) h3.1 ?_) h2
      rw [Array.setIfInBounds_comm _ _ hji]
      exact h3.2

def noDefer (ops : Array Oper) : Bool := ops.all fun o => match o.op with | .defer _ => false | _ => true
theorem noDefer_spec (h : noDefer ops = true) : ∀ (j : Nat) (o : Oper) c, ops[j]? = some o → o.op ≠ .defer c := by
  intro j o c ho hop
  have := Array.all_eq_true_iff_forall_mem.1 h o (Array.mem_of_getElem? ho)
  simp only [hop] at this
  cases this
/-- An operation that only looks is taken first. -/
theorem heldIn_take {i : Nat} {oi : Oper} {t : Tmp} {v : Value} {fuel : Nat} {listed : Array Bool} {a : Act} {w : World} (hF : ∀ f, F.fn f) (hd : noDefer ops = true) (hs : Region.noSelect ops = true)
    (hQ : ∀ c a d v w, Q (.panic c) (Act.put a d v) w → Q (.panic c) a w) (hi : ops[i]? = some oi) (ht : oi.dst = some t)
    (hf : (Region.free md ops listed i && (Region.ready md ops listed).contains i && Region.wanted oi (yielded ops a.tmps)) = true)
    (hy : ∀ W, C W → (execOp a.eval oi).run P W = .ok (.value v) W)
    (h : wpAnyC F m P md ops C Q fuel (listed.setIfInBounds i true) (a.put (some t) v) w) : wpAnyC F m P md ops C Q (fuel + 1) listed a w := by
  rw [← ht] at h
  simp only [Bool.and_eq_true] at hf
  exact wpAnyC_first hF (noDefer_spec hd) hi (Region.noSelect_spec hs) (fun c a w => hQ c a _ _ w) fuel listed a w (Region.free_spec hi hf.1.1) (by simpa using hf.1.2) (.inl ⟨hf.2, hy⟩) h
/-- The one operation that is ready. -/
theorem heldIn_one {i : Nat} {oi : Oper} {fuel : Nat} {listed : Array Bool} {a : Act} {w : World} (hi : ops[i]? = some oi) (hC : C w) (hr : Region.ready md ops listed = [i])
    (hw : Region.wanted oi (yielded ops a.tmps) = true) (h : oi.wpIn F m P a w (wpAnyC F m P md ops C Q fuel (listed.setIfInBounds i true)) Q) : wpAnyC F m P md ops C Q (fuel + 1) listed a w := by
  refine ⟨hC, fun h0 => (by rw [hr] at h0; cases h0), fun j hj => ?_⟩
  rw [hr] at hj
  obtain rfl : j = i := by simpa using hj
  unfold wpOpIn
  simp only [hi, hw, if_true]
  exact h
/-- append, its run known. -/
theorem wpIn_append_run {n : Nat} {o : Oper} {a : Act} {w : World} {K : Act → World → Prop} (hF : ∀ f, F.fn f) (s x : Operand) (t : TypeId) (hop : o.op = Op.call { callee := Callee.builtin Builtin.append, args := #[s, x], argTypes := #[t, t] }) {v1 v2 v : Value} {w' : World}
    (hs : a.eval s = v1) (hx : a.eval x = v2) (hr : (Builtin.append_ #[t, t] o.type #[v1, v2]).run P w = .ok v w') (h : K (a.put o.dst v) w') : o.wpIn F n P a w K Q := by
  refine ⟨fun f _ => hF f, ?_⟩
  rw [Oper.semAt_eq _ _ _ (fun c h => by rw [hop] at h; cases h)]
  unfold execOp
  simp only [hop, resolve, invoke, builtin, Sem.run_bind, Sem.run_pure, Result.andThen_ok, List.map_toArray, List.map_cons, List.map_nil, hs, hx, hr]
  exact h
/-- A call of a Go function, by its contract. -/
theorem wpIn_call_run {n : Nat} {o : Oper} {a : Act} {w : World} {K : Act → World → Prop} (hF : ∀ f, F.fn f) (hdp : F.depth = none) (hd : ∀ c, o.op ≠ .defer c) {f : FuncId} {args : Array Value}
    (hr : (execOp a.eval o).run P w = .ok (.enter f args) w) {R : Ending → World → Prop} (hc : CallsIn F (n - 1) P f args w R) (h : ∀ e w', R e w' → ∃ v, e = .returned v ∧ K (a.put o.dst v) w') : o.wpIn F n P a w K Q := by
  refine ⟨fun f _ => hF f, ?_⟩
  rw [Oper.semAt_eq _ _ _ hd, hr]
  refine ⟨fun h => (by rw [hdp] at h; cases h), hc.mono fun e w' he => ?_⟩
  obtain ⟨v, rfl, hk⟩ := h e w' he
  exact hk
theorem wpIn_value_run {n : Nat} {o : Oper} {a : Act} {w : World} {K : Act → World → Prop} (hF : ∀ f, F.fn f) (hd : ∀ c, o.op ≠ .defer c) {v : Value} {w' : World}
    (hr : (execOp a.eval o).run P w = .ok (.value v) w') (h : K (a.put o.dst v) w') : o.wpIn F n P a w K Q := by
  refine ⟨fun f _ => hF f, ?_⟩
  rw [Oper.semAt_eq _ _ _ hd, hr]
  exact h
/-- The two operations that are ready. -/
theorem heldIn_two {i j : Nat} {oi oj : Oper} {fuel : Nat} {listed : Array Bool} {a : Act} {w : World} (hi : ops[i]? = some oi) (hj : ops[j]? = some oj) (hC : C w) (hr : Region.ready md ops listed = [i, j])
    (hw : Region.wanted oi (yielded ops a.tmps) = true) (hw' : Region.wanted oj (yielded ops a.tmps) = true) (h : oi.wpIn F m P a w (wpAnyC F m P md ops C Q fuel (listed.setIfInBounds i true)) Q)
    (h' : oj.wpIn F m P a w (wpAnyC F m P md ops C Q fuel (listed.setIfInBounds j true)) Q) : wpAnyC F m P md ops C Q (fuel + 1) listed a w := by
  refine ⟨hC, fun h0 => (by rw [hr] at h0; cases h0), fun k hk => ?_⟩
  rw [hr] at hk
  rcases List.mem_cons.1 hk with rfl | hk
  · unfold wpOpIn
    simp only [hi, hw, if_true]
    exact h
  · obtain rfl : k = j := by simpa using hk
    unfold wpOpIn
    simp only [hj, hw', if_true]
    exact h'
theorem heldIn_done {listed : Array Bool} {a : Act} {w : World} (hC : C w) (hr : Region.ready md ops listed = []) (h : Q .normal a w) : wpAnyC F m P md ops C Q 0 listed a w := ⟨hC, hr, h⟩
/-- A call that leaves the world, and an operation that yields, in either order. -/
theorem heldIn_call_or {i j : Nat} {oi oj : Oper} {fuel : Nat} {listed : Array Bool} {a : Act} {w w' : World} {v u : Value} {ti tj : Tmp} {f : FuncId} {args : Array Value} (hF : ∀ f, F.fn f) (hdp : F.depth = none)
    (hdi : ∀ c, oi.op ≠ .defer c) (hdj : ∀ c, oj.op ≠ .defer c) (hi : ops[i]? = some oi) (hj : ops[j]? = some oj) (hti : oi.dst = some ti) (htj : oj.dst = some tj) (hC : C w) (hC' : C w')
    (hr : Region.ready md ops listed = [i, j]) (hri : Region.ready md ops (listed.setIfInBounds i true) = [j]) (hrj : Region.ready md ops (listed.setIfInBounds j true) = [i])
    (hwi : oi.guard = none) (hwj : oj.guard = none)
    (hci : (execOp a.eval oi).run P w = .ok (.enter f args) w) (hci' : (execOp (a.put (some tj) u).eval oi).run P w' = .ok (.enter f args) w')
    (hcall : ∀ W, CallsIn F (m - 1) P f args W fun e W' => e = .returned v ∧ W = W')
    (hvj : (execOp a.eval oj).run P w = .ok (.value u) w') (hvj' : (execOp (a.put (some ti) v).eval oj).run P w = .ok (.value u) w')
    (hcomm : (a.put (some tj) u).put (some ti) v = (a.put (some ti) v).put (some tj) u) (hl : (listed.setIfInBounds j true).setIfInBounds i true = (listed.setIfInBounds i true).setIfInBounds j true)
    (h : wpAnyC F m P md ops C Q fuel ((listed.setIfInBounds i true).setIfInBounds j true) ((a.put (some ti) v).put (some tj) u) w') : wpAnyC F m P md ops C Q (fuel + 2) listed a w := by
  have wi : ∀ t, Region.wanted oi (yielded ops t) = true := fun t => by simp [Region.wanted, hwi]
  have wj : ∀ t, Region.wanted oj (yielded ops t) = true := fun t => by simp [Region.wanted, hwj]
  refine heldIn_two hi hj hC hr (wi _) (wj _) ?_ ?_
  · refine wpIn_call_run hF hdp hdi hci (hcall w) ?_
    rintro e W' ⟨rfl, rfl⟩
    refine ⟨_, rfl, ?_⟩
    rw [hti]
    refine heldIn_one hj hC hri (wj _) (wpIn_value_run hF hdj hvj' ?_)
    rw [htj]
    exact h
  · refine wpIn_value_run hF hdj hvj ?_
    rw [htj]
    refine heldIn_one hi hC' hrj (wi _) (wpIn_call_run hF hdp hdi hci' (hcall w') ?_)
    rintro e W' ⟨rfl, rfl⟩
    refine ⟨_, rfl, ?_⟩
    rw [hti, hcomm, hl]
    exact h
/-- Q, but 'False' at a panic. -/
def NoP (Q : Exit → Act → World → Prop) : Exit → Act → World → Prop
  | .panic _, _, _ => False
  | e, a, w => Q e a w
theorem NoP.imp {Q : Exit → Act → World → Prop} : ∀ (e : Exit) (a : Act) (w : World), NoP Q e a w → Q e a w := fun e a w h => by
  cases e <;> first | exact h | exact (h : False).elim
theorem heldIn_doneP {listed : Array Bool} {a : Act} {w : World} (hC : C w) (hr : Region.ready md ops listed = []) (h : Q .normal a w) : wpAnyC F m P md ops C (NoP Q) 0 listed a w := ⟨hC, hr, h⟩
theorem wpIn_region_held {id : Nat} {a : Act} {w : World} {os : List Oper} (C : World → Prop) (hm : P.follows .mixedOrders = true)
    (h : wpAnyC F m P .any os.toArray C Q os.length (Array.replicate os.length false) a w.drew) : (Code.region id os.toArray true).wpIn F m P Q a w := by
  refine wpIn_region_any hm ?_
  have := h.any
  simpa using this
/-- The same where the post hangs on the frame at a panic. -/
theorem wpIn_region_heldP {id : Nat} {a : Act} {w : World} {os : List Oper} (C : World → Prop) (hm : P.follows .mixedOrders = true)
    (h : wpAnyC F m P .any os.toArray C (NoP Q) os.length (Array.replicate os.length false) a w.drew) : (Code.region id os.toArray true).wpIn F m P Q a w :=
  wpIn_mono (wpIn_region_held C hm h) NoP.imp
end
end Go.Proofs.YtpmlomhlbmgilaaDoor
end

section
/- order.ready: the items of a set with no predecessor in it, in order. -/
namespace Go.Proofs.YtpmlomhlbmgilaaDoor
open Go.RowKit Go.Shelf

attribute [local go_sem] Oper.semAt_some

/-- The items of t with no predecessor in s, B being the predecessors' rows. -/
def readyT (B : Nat → Nat) (s t : Nat) : List Nat := (MM.els t).filter fun a => decide (B a &&& s = 0)
def readyL (B : Nat → Nat) (s : Nat) : List Nat := readyT B s s

/-- The blocks of kp lie as they lay. -/
structure KeepS (kp : Nat → Prop) (W W' : World) : Prop where
  os : W'.os = W.os
  tape : W'.tape = W.tape
  output : W'.output = W.output
  size : W.heap.size ≤ W'.heap.size
  block : ∀ k o, kp k → W.heap[k]? = some o → W'.heap[k]? = some o
section
variable {kp : Nat → Prop} {W W' W2 : World}
theorem KeepS.refl (W : World) : KeepS kp W W := ⟨rfl, rfl, rfl, Nat.le_refl _, fun _ _ _ h => h⟩
theorem KeepS.trans (h : KeepS kp W W') (k : KeepS kp W' W2) : KeepS kp W W2 :=
  ⟨k.os.trans h.os, k.tape.trans h.tape, k.output.trans h.output, Nat.le_trans h.size k.size, fun i o hi hs => k.block i o hi (h.block i o hi hs)⟩
theorem KeepS.of_below (h : Below W.heap.size W W') : KeepS kp W W' := ⟨h.os, h.tape, h.output, h.size, fun k _ _ hs => (h.block k (Array.getElem?_eq_some_iff.1 hs).1).trans hs⟩
theorem KeepS.below {n : Nat} (h : KeepS kp W W') (hk : ∀ k, k < n → kp k) (hn : n ≤ W.heap.size) : Below n W W' :=
  ⟨h.os, h.tape, h.output, h.size, fun k hlt => by
    obtain ⟨o, ho⟩ : ∃ o, W.heap[k]? = some o := ⟨W.heap[k]'(by omega), Array.getElem?_eq_getElem (by omega)⟩
    rw [h.block k o (hk k hlt) ho, ho]⟩
theorem KeepK.toS {m : Nat} (h : KeepK kp m W W') {kp' : Nat → Prop} (hk : ∀ k, kp' k → (kp k ∨ m ≤ k)) : KeepS kp' W W' := ⟨h.os, h.tape, h.output, h.size, fun k o hk' => h.block k o (hk k hk')⟩
theorem keepS_b {w : World} (hk : ∀ k, kp k → k < w.heap.size) (W : World) (l : Nat) (o o' : Obj) (hl : w.heap.size ≤ l) (_ : W.heap[l]? = some o) (_ : o.isCells = false) (_ : o.isWalk = false) : KeepS kp W (W.putObj l o') :=
  ⟨rfl, rfl, rfl, by simp, fun k o' hk' h => (World.putObj_heap_other (by rintro rfl; have := hk _ hk'; omega)).trans h⟩
theorem boxed_on {W W' : World} {B : Nat} {t : TypeId} {v : Value} (h : Boxed W B t v) (hb : Below W.heap.size W W') : Boxed W' B t v := (hb.block B (Array.getElem?_eq_some_iff.1 h).1).trans h
theorem grown_of_below (h : Below W.heap.size W W') : W.grownBy W' none := ⟨h.os, h.tape, h.output, h.size, fun k hk _ => h.block k hk⟩
end

set_option maxHeartbeats 400000 in
theorem ready_any (bp : Addr) (x : Int) (w : World) :
    Calls Tryd.prog 101 #[.pointer (some bp), .int .u64 x] w fun e w' => e = .returned (.func (.func 103) #[] #[.pointer (some ⟨w.heap.size + 1, 0, none⟩), .pointer (some ⟨w.heap.size, 0, none⟩)]) ∧ (w.alloc (.cells #[.pointer (some bp)] 82)).alloc (.cells #[.int .u64 x] 23) = w' := by
  go_enter Tryd.func101, Tryd.ntmps101
  go_wp2
  go_ret
  exact ⟨rfl, rfl⟩

set_option maxRecDepth 100000 in
set_option maxHeartbeats 1000000 in
theorem ready1_gives (n : Nat) (hn : 1 ≤ n) (B1 B2 Bn n₀ : Nat) (hn₀ : 0 < n₀) (N : Int) (B : Nat → Nat) (hB : R64 B) (s : Nat) (hs : s < 2 ^ 48) (w : World) (hT : Tab w) (hsz : n₀ ≤ w.heap.size)
    (hb1 : Boxed w B1 23 (.int .u64 (s : Int))) (hb2 : Boxed w B2 82 (.pointer (some ⟨Bn, 0, none⟩))) (hR : RelAt w Bn N B) :
    GivesSome Fence.wide n Tryd.prog 103 #[.pointer (some ⟨B1, 0, none⟩), .pointer (some ⟨B2, 0, none⟩)] (fun (_ : Nat) (k : Nat) => #[Value.int .i64 k]) exN (fun k => k < n₀ ∨ k = Bn ∨ k = B1 ∨ k = B2) (fun _ _ _ => True) (readyL B s) w := by
  intro l J' Jx' W hW hA' hAx' hY' hJ0'
  have hA := hA' W.heap.size
  have hJ0 := hJ0' W.heap.size (Nat.le_refl _)
  have hY : ∀ pre (x : Nat) W1, J' W.heap.size pre W1 → pre ++ [x] <+: readyL B s → YieldAt Fence.wide (n - 1) Tryd.prog l #[.int .i64 x] W1 fun en W' => KeepS (fun k => k < n₀ ∨ k = Bn ∨ k = B1 ∨ k = B2) W1 W' ∧
      ((en = .returned (.bool true) ∧ J' W.heap.size (pre ++ [x]) W') ∨ (en = .returned (.bool false) ∧ Jx' W.heap.size (pre ++ [x]) W')) := fun pre x W1 hj hp =>
    (hY' _ pre x W1 hj trivial (Nat.le_refl _) hp).mono fun e W' h => ⟨h.1.toS fun k hk => .inl hk, h.2⟩
  clear hY' hJ0' hA' hAx'
  suffices H : CallsIn Fence.wide n Tryd.prog 103 (#[.func (.yield l) #[] #[]] ++ #[.pointer (some ⟨B1, 0, none⟩), .pointer (some ⟨B2, 0, none⟩)]) W fun e W' => (∃ v, e = .returned v) ∧ ((∃ ys, ys = readyL B s ∧ J' W.heap.size ys W') ∨ (∃ pre, pre <+: readyL B s ∧ Jx' W.heap.size pre W')) from
    H.mono fun e W' ⟨h1, h2⟩ => ⟨h1, by
      rcases h2 with ⟨ys, rfl, h⟩ | ⟨pre, hp, h⟩
      · exact .inl ⟨_, h⟩
      · exact .inr ⟨_, pre, hp, h⟩⟩
  generalize J' W.heap.size = J at *
  generalize Jx' W.heap.size = Jx at *
  replace hT := hT.below hW hT.pos
  replace hR := hR.below hW hR.lt
  replace hb1 := boxed_on hb1 hW
  replace hb2 := boxed_on hb2 hW
  refine callsIn_of_wp Tryd.func103 rfl trivial ?_ rfl
  simp only [Tryd.ntmps103, List.size_toArray, List.length_cons, List.length_nil, Nat.reduceAdd, Nat.reduceSub, Array.replicate_succ, Array.replicate_zero, List.push_toArray, List.append_toArray, List.nil_append, List.cons_append]
  have c1 := hb1.cell
  gi_wp2
  gi_loopw [4] (fun p wr => ∃ (pre : List Nat) (x : Int), p = .int .u64 x ∧ 0 ≤ x ∧ x < 18446744073709551616 ∧ MM.els s = pre ++ MM.els x.toNat ∧ J (pre.filter fun a => decide (B a &&& s = 0)) wr ∧ KeepS (fun k => k < n₀ ∨ k = Bn ∨ k = B1 ∨ k = B2) W wr)
    (fun p _ => (MM.els (intOf p).toNat).length)
  case atStart => exact ⟨[], s, rfl, by omega, by omega, rfl, hJ0, KeepS.refl _⟩
  case round =>
    obtain ⟨pre, x, rfl, hx0, hx1, hx, hJs, hK⟩ := hrel
    by_cases hz : x = 0
    · subst hz
      gi_wp2
      go_end0
      refine ⟨⟨_, rfl⟩, .inl ⟨_, ?_, hJs⟩⟩
      rw [readyL, readyT, hx]
      simp [MM.els_zero]
    · obtain ⟨k, hk, he, hi0, hi1, ht, hr0, hr1⟩ := MM.low x (by omega) hx1
      have hne : (x != 0) = true := by simp; exact hz
      have hpos : 0 < x := by omega
      have hT' : Tab wr := hT.below (hK.below (n := n₀) (fun k h => .inl h) (Nat.le_trans hsz hW.size)) hn₀
      have hks : k < 48 ∧ s.testBit k = true := by
        have h1 : k ∈ MM.els s := by rw [hx, he]; simp
        refine ⟨Decidable.byContradiction fun h => ?_, (MM.mem_els.1 h1).2⟩
        have h2 := (MM.mem_els.1 h1).2
        rw [Nat.testBit_lt_two_pow (Nat.lt_of_lt_of_le hs (Nat.pow_le_pow_right (by omega) (by omega)))] at h2
        cases h2
      have hF := first_any x hx0 hx1 wr hT'
      rw [show nextOf (MM.els x.toNat) (-1) = some k by rw [he, nextOf, List.find?_cons_of_pos (by simp; omega)]] at hF
      have Hx := Lib.hid hx
      have He := Lib.hid he
      have HF := Lib.hid hF
      clear hx he ht hz hF
      gi_wp2_with fail
      refine ⟨trivial, ?_⟩
      refine (callsIn_wide.2 HF.out).mono ?_
      rintro e w1 ⟨rfl, h1⟩
      have hK1 := hK.trans (KeepS.of_below h1)
      have hJ1 := hA _ _ _ hJs (Chg.of_below h1)
      have c1 := Boxed.cell (show Boxed w1 B1 23 (.int .u64 (s : Int)) from hK1.block _ _ (.inr (.inr (.inl rfl))) hb1)
      have c2 := Boxed.cell (show Boxed w1 B2 82 (.pointer (some ⟨Bn, 0, none⟩)) from hK1.block _ _ (.inr (.inr (.inr rfl))) hb2)
      have hR1 : RelAt w1 Bn N B := hK1.block _ _ (.inr (.inl rfl)) hR
      have c3 := hR1.row k hks.1
      have k48 : (k : Int) < 48 := by omega
      have hand := u64_and (B k : Int) (s : Int) (by omega) (by have := hB k; omega) (by omega) (by omega)
      rw [Int.toNat_natCast, Int.toNat_natCast] at hand
      simp only [optV]
      have hm : Tryd.prog.follows .mixedOrders = true := by kernel_rfl
      have hK2 : KeepS (fun k => k < n₀ ∨ k = Bn ∨ k = B1 ∨ k = B2) W w1.drew := hK1.trans ⟨rfl, rfl, rfl, Nat.le_refl _, fun _ _ _ h => h⟩
      have hJ2 := hA _ _ w1.drew hJ1 (Chg.drew _)
      have hall : readyL B s = (pre.filter fun a => decide (B a &&& s = 0)) ++ (k :: MM.els (bits BinOp.and IntKind.u64 x (x - 1)).toNat).filter fun a => decide (B a &&& s = 0) := by
        rw [readyL, readyT, Hx.out, He.out, List.filter_append]
      replace hall := Lib.hid hall
      replace hK2 := Lib.hid hK2
      replace hJ2 := Lib.hid hJ2
      clear hK1 hJ1 hK hJs
      cases hq : decide (B k &&& s = 0)
      · have ha : (bits BinOp.and IntKind.u64 (B k : Int) (s : Int) == 0) = false := by rw [hand]; simpa using hq
        clear hand
        gi_upto_region 4 with fail
        refine wpIn_wide_tail 12 hm (by kernel_rfl) (by kernel_rfl) ?_
        simp only [List.take_succ_cons, List.take_zero, List.drop_succ_cons, List.drop_zero]
        repeat still_step
        refine wpStill_nil ?_
        refine wpListIn_skip ?g1 ?g2 ?_
        case g1 => rfl
        case g2 => rfl
        refine wpListIn_skip ?g1 ?g2 ?_
        case g1 => rfl
        case g2 => rfl
        simp only [Act.put, List.setIfInBounds_toArray, List.set_cons_succ, List.set_cons_zero]
        gi_wp2
        go_roundw
        case rel => exact ⟨pre ++ [k], _, rfl, hr0, hr1, by rw [Hx.out, He.out]; simp, by rw [List.filter_append, show [k].filter (fun a => decide (B a &&& s = 0)) = [] by simp [hq], List.append_nil]; exact hJ2.out, hK2.out⟩
        case measure => simp only [intOf]; rw [He.out]; simp
      · have ha : (bits BinOp.and IntKind.u64 (B k : Int) (s : Int) == 0) = true := by rw [hand]; simpa using hq
        clear hand
        obtain ⟨fn, tmps, assign, body, hy, hRd⟩ := hY _ k _ hJ2.out (by rw [hall.out, List.filter_cons_of_pos (by simpa using hq)]; exact ⟨(MM.els (bits BinOp.and IntKind.u64 x (x - 1)).toNat).filter fun a => decide (B a &&& s = 0), by simp⟩)
        gi_upto_region 4 with fail
        refine wpIn_wide_tail 12 hm (by kernel_rfl) (by kernel_rfl) ?_
        simp only [List.take_succ_cons, List.take_zero, List.drop_succ_cons, List.drop_zero]
        repeat still_step
        refine wpStill_nil ?_
        gi_wp2
        refine hRd.mono ?_
        rintro e W3 ⟨hk3, ⟨rfl, hJ3⟩ | ⟨rfl, hJx3⟩⟩
        · gi_wp2
          go_roundw
          case rel => exact ⟨pre ++ [k], _, rfl, hr0, hr1, by rw [Hx.out, He.out]; simp, by rw [List.filter_append, show [k].filter (fun a => decide (B a &&& s = 0)) = [k] by simp [hq]]; exact hJ3, hK2.out.trans hk3⟩
          case measure => simp only [intOf]; rw [He.out]; simp
        · gi_wp2
          refine bodyPost_ret (results_none rfl _ _ _) rfl ?_
          refine ⟨⟨_, rfl⟩, .inr ⟨_, ?_, hJx3⟩⟩
          rw [hall.out, List.filter_cons_of_pos (by simpa using hq)]
          exact ⟨(MM.els (bits BinOp.and IntKind.u64 x (x - 1)).toNat).filter fun a => decide (B a &&& s = 0), by simp⟩
end Go.Proofs.YtpmlomhlbmgilaaDoor
end

section
/- append to a row that the call owns: the old slice still reads as it did. -/
namespace Go.Proofs.YtpmlomhlbmgilaaDoor
open Go.RowKit Go.Shelf

theorem run_append_keeps {P : Program} (w : World) (base : Nat) (t ty e : TypeId) (i : TypeInfo) (z : Value) (size bytes : Nat) (ht : P.underlying t = some (.slice e)) (hi : P.info? e = some i) (hz : i.zero = some z)
    (hsize : i.size = size) (hby : i.bytes = bytes) (hzs : z.cells.size = size) (hsz : 0 < size) (v : Value) (n : Nat) (xs : List Value) (hown : w.ownsRow base e size v n xs)
    (a : Addr) (m c : Nat) (news : List Value) (hl : news.length = m * size) (hnews : ∀ j u, news[j]? = some u → w.cell? (a.add j) = some u) (h1 : ∀ u ∈ news, u.oneCell' = true)
    (h63 : n + m ≤ maxLen) (hbytes : (n + m) * bytes ≤ 140737488355328) (hbase : base ≤ w.heap.size) :
    ∃ v' w', (Builtin.append_ #[t, t] ty #[v, .slice (some a) m c]).run P w = .ok v' w' ∧ w'.ownsRow base e size v' (n + m) (xs ++ news) ∧ w.grownBy w' v.ownBlock ∧ w'.ownsRow base e size v n xs := by
  obtain ⟨v', w', hr, h2, h3, -⟩ := run_append_own (P := P) w base t ty e i z size bytes ht hi hz hsize hby hzs hsz v n xs hown a m c news hl hnews h1 h63 hbytes hbase
  refine ⟨v', w', hr, h2, h3, hown.1, ?_⟩
  rcases hown.2 with h | ⟨g, cap, cur, rfl, hbg, hg, hnc, hcm, hcs, htake⟩
  · exact .inl h
  · right
    by_cases hroom : n + m ≤ cap
    · have hfit : n * i.size + news.length ≤ cur.size := by rw [hl, hcs, hsize, ← Nat.add_mul]; exact Nat.mul_le_mul_right _ hroom
      have hr2 := run_append_room (P := P) w t ty e i ht hi g n cap cur hg a m c news (by rw [hl, hsize]) hnews h1 hroom hfit
      rw [hr] at hr2
      obtain ⟨rfl, rfl⟩ := Result.ok.inj hr2
      refine ⟨g, cap, _, rfl, hbg, setRow_heap w g cur _ e _ hg, hnc, hcm, ?_, ?_⟩
      · simp only [List.size_toArray, List.length_append, List.length_take, List.length_drop, Array.length_toList]
        omega
      · rw [hsize, htake, List.append_assoc, ← hown.1]
        exact List.take_left
    · have hr2 := run_append_grow (P := P) w t ty e i z ht hi hz ⟨g, 0, none⟩ n cap xs (by rw [hsize]; exact hown.1) (hown.cells (g := g) rfl) a m c news (by rw [hl, hsize]) hnews (by omega) (by unfold maxLen at h63; omega) (growslice_fits (by omega) (by rw [hby]; exact hbytes))
      rw [hr] at hr2
      obtain ⟨rfl, rfl⟩ := Result.ok.inj hr2
      exact ⟨g, cap, cur, rfl, hbg, ((World.grownBy_alloc w.drew _ none).block g (Array.getElem?_eq_some_iff.1 hg).1 (by simp)).trans hg, hnc, hcm, hcs, htake⟩

/-- The same at a step of a region that draws its order. -/
theorem step_append_keeps {P : Program} {ops : Array Oper} {o : Oper} {a : Act} {w : World} {K : Act → World → Prop} {Q : Exit → Act → World → Prop} {E : Prop}
    (hg : o.guard = none) (s x : Operand) (t : TypeId) (hop : o.op = Op.call { callee := Callee.builtin Builtin.append, args := #[s, x], argTypes := #[t, t] })
    (base : Nat) (e : TypeId) (i : TypeInfo) (z : Value) (size bytes : Nat) (ht : P.underlying t = some (.slice e)) (hi : P.info? e = some i) (hz : i.zero = some z)
    (hsize : i.size = size) (hby : i.bytes = bytes) (hzs : z.cells.size = size) (hsz : 0 < size)
    (v : Value) (n : Nat) (xs : List Value) (hs : a.eval s = v) (hown : w.ownsRow base e size v n xs)
    (ad : Addr) (m c : Nat) (news : List Value) (hx : a.eval x = .slice (some ad) m c) (hl : news.length = m * size) (hnews : ∀ j u, news[j]? = some u → w.cell? (ad.add j) = some u) (h1 : ∀ u ∈ news, u.oneCell' = true)
    (h63 : n + m ≤ maxLen) (hbytes : (n + m) * bytes ≤ 140737488355328) (hbase : base ≤ w.heap.size)
    (h : ∀ v' w', w'.ownsRow base e size v' (n + m) (xs ++ news) → w.grownBy w' v.ownBlock → w'.ownsRow base e size v n xs → K (a.put o.dst v') w') :
    if Region.wanted o (yielded ops a.tmps) = true then Oper.wp P o a w K Q else E := by
  have hw : Region.wanted o (yielded ops a.tmps) = true := by simp [Region.wanted, hg]
  rw [if_pos hw]
  obtain ⟨v', w', hr, h2, h3, h4⟩ := run_append_keeps (P := P) w base t o.type e i z size bytes ht hi hz hsize hby hzs hsz v n xs hown ad m c news hl hnews h1 h63 hbytes hbase
  unfold Oper.wp execOp
  simp only [hop, resolve, invoke, builtin, Sem.run_bind, Sem.run_pure, Result.andThen_ok, List.map_toArray, List.map_cons, List.map_nil, hs, hx, hr]
  exact h v' w' h2 h3 h4

/-- 'append(l, l...)' -/
theorem run_append_self {P : Program} (w : World) (base : Nat) (t ty e : TypeId) (i : TypeInfo) (z : Value) (size bytes : Nat) (ht : P.underlying t = some (.slice e)) (hi : P.info? e = some i) (hz : i.zero = some z)
    (hsize : i.size = size) (hby : i.bytes = bytes) (hzs : z.cells.size = size) (hsz : 0 < size) (v : Value) (n : Nat) (xs : List Value) (hown : w.ownsRow base e size v n xs) (h1 : ∀ u ∈ xs, u.oneCell' = true)
    (h63 : n + n ≤ maxLen) (hbytes : (n + n) * bytes ≤ 140737488355328) (hbase : base ≤ w.heap.size) :
    ∃ v' w', (Builtin.append_ #[t, t] ty #[v, v]).run P w = .ok v' w' ∧ w'.ownsRow base e size v' (n + n) (xs ++ xs) ∧ w.grownBy w' v.ownBlock ∧ w'.ownsRow base e size v n xs := by
  rcases hown.2 with ⟨rfl, rfl⟩ | ⟨g, cap, cur, rfl, _⟩
  · have hx : xs = [] := List.eq_nil_of_length_eq_zero (by simpa using hown.1)
    subst hx
    exact ⟨_, w, run_append_owned_none w base t ty e i size ht hi _ 0 [] hown, by simpa using hown, ⟨rfl, rfl, rfl, Nat.le_refl _, fun _ _ _ => rfl⟩, hown⟩
  · exact run_append_keeps w base t ty e i z size bytes ht hi hz hsize hby hzs hsz _ n xs hown ⟨g, 0, none⟩ n cap xs hown.1 (hown.cells (g := g) rfl) h1 h63 hbytes hbase
theorem step_append_self {P : Program} {ops : Array Oper} {o : Oper} {a : Act} {w : World} {K : Act → World → Prop} {Q : Exit → Act → World → Prop} {E : Prop}
    (hg : o.guard = none) (s x : Operand) (t : TypeId) (hop : o.op = Op.call { callee := Callee.builtin Builtin.append, args := #[s, x], argTypes := #[t, t] })
    (base : Nat) (e : TypeId) (i : TypeInfo) (z : Value) (size bytes : Nat) (ht : P.underlying t = some (.slice e)) (hi : P.info? e = some i) (hz : i.zero = some z)
    (hsize : i.size = size) (hby : i.bytes = bytes) (hzs : z.cells.size = size) (hsz : 0 < size)
    (v : Value) (n : Nat) (xs : List Value) (hs : a.eval s = v) (hx : a.eval x = v) (hown : w.ownsRow base e size v n xs) (h1 : ∀ u ∈ xs, u.oneCell' = true)
    (h63 : n + n ≤ maxLen) (hbytes : (n + n) * bytes ≤ 140737488355328) (hbase : base ≤ w.heap.size)
    (h : ∀ v' w', w'.ownsRow base e size v' (n + n) (xs ++ xs) → w.grownBy w' v.ownBlock → w'.ownsRow base e size v n xs → K (a.put o.dst v') w') :
    if Region.wanted o (yielded ops a.tmps) = true then Oper.wp P o a w K Q else E := by
  have hw : Region.wanted o (yielded ops a.tmps) = true := by simp [Region.wanted, hg]
  rw [if_pos hw]
  obtain ⟨v', w', hr, h2, h3, h4⟩ := run_append_self (P := P) w base t o.type e i z size bytes ht hi hz hsize hby hzs hsz v n xs hown h1 h63 hbytes hbase
  unfold Oper.wp execOp
  simp only [hop, resolve, invoke, builtin, Sem.run_bind, Sem.run_pure, Result.andThen_ok, List.map_toArray, List.map_cons, List.map_nil, hs, hx, hr]
  exact h v' w' h2 h3 h4
/-- A row stays when only a relation's block changes. -/
theorem ownsRow_only {W W' : World} {b : Nat} {m : Int} {f : Nat → Nat} {e : TypeId} (he : 26 ≠ e) {base size n : Nat} {v : Value} {xs : List Value} (h : W.ownsRow base e size v n xs) (hR : RelAt W b m f) (hO : Only b W W') : W'.ownsRow base e size v n xs := by
  refine ⟨h.1, ?_⟩
  rcases h.2 with h0 | ⟨g, cap, cur, rfl, hb, hh, r⟩
  · exact .inl h0
  · have hne := relAt_not_row hR he h
    exact .inr ⟨g, cap, cur, rfl, hb, (hO.block g (by rintro rfl; exact hne rfl)).trans hh, r⟩

/-- Relations stay where they are when a row of another type grows. -/
theorem Kept.grown {w W W' : World} {l : List (Nat × Int × (Nat → Nat))} (h : Kept w W l) {e : TypeId} (he : 26 ≠ e) {size k : Nat} {v : Value} {xs : List Value} (hr : W.ownsRow w.heap.size e size v k xs) (hg : W.grownBy W' v.ownBlock) : Kept w W' l :=
  ⟨h.1.grown hg h.1.size (fun j hj => (hr.lt j hj).1), fun p hp => by
    have hR := h.2 p hp
    exact (hg.block p.1 hR.lt (relAt_not_row hR he hr)).trans hR⟩
/-- A relation laid into a block that was made before a call. -/
theorem Kept.lay {w W W' : World} {l : List (Nat × Int × (Nat → Nat))} (h : Kept w W l) (h9 : Below (W.alloc (.cells (relC 0 zf) 26)).heap.size (W.alloc (.cells (relC 0 zf) 26)) W') (n : Int) (F : Nat → Nat) :
    ∃ Wf, (stRel (.pointer (some ⟨W.heap.size, 0, none⟩)) (.agg (relC n F))).run Tryd.prog W' = .ok () Wf ∧ Kept w Wf ((W.heap.size, n, F) :: l) ∧
      ∀ (base : Nat) (e : TypeId) (size k : Nat) (v : Value) (xs : List Value), 26 ≠ e → W.ownsRow base e size v k xs → Wf.ownsRow base e size v k xs := by
  have hX9 := (h.on (below_new W (.cells (relC 0 zf) 26))).on h9
  have hz := (RelAt.new W 0 zf).on h9
  obtain ⟨Wf, hsf, hfin, hO⟩ := hz.put n F
  have hlt := h.lts
  exact ⟨Wf, hsf, (hX9.only hO h.1.size (fun p hp => Nat.ne_of_lt (hlt p hp))).cons hfin, fun base e size k v xs he hr => ownsRow_only he (ownsRow_below (hr.alloc _) h9) hz hO⟩
end Go.Proofs.YtpmlomhlbmgilaaDoor
end

section
/- order.complete: the orders that begin so. -/
namespace Go.Proofs.YtpmlomhlbmgilaaDoor
open Go.RowKit Go.Shelf

attribute [local go_sem] Oper.semAt_some

/-- All lists that begin with xs and go on with the d items of s, none ahead of its predecessors. -/
def compl (B : Nat → Nat) : Nat → Nat → List Nat → List (List Nat)
  | 0, _, xs => [xs]
  | d + 1, s, xs => (readyL B s).flatMap fun a => compl B d (clr s a) (xs ++ [a])

/-- Block g is a row of N numbers that begins with xs. -/
def RowP (W : World) (g N : Nat) (xs : List Nat) : Prop := ∃ cur : Array Value, W.heap[g]? = some (.cells cur 3 (0, 0)) ∧ cur.size = N ∧ cur.toList.take xs.length = xs.map intV
theorem RowP.lt {W : World} {g N : Nat} {xs : List Nat} (h : RowP W g N xs) : g < W.heap.size := by obtain ⟨cur, h, _⟩ := h; exact (Array.getElem?_eq_some_iff.1 h).1
theorem RowP.same {W W' : World} {g N : Nat} {xs : List Nat} (h : RowP W g N xs) (hs : ∀ o, W.heap[g]? = some o → W'.heap[g]? = some o) : RowP W' g N xs := by
  obtain ⟨cur, h1, h2⟩ := h
  exact ⟨cur, hs _ h1, h2⟩
theorem RowP.on {W W' : World} {g N : Nat} {xs : List Nat} (h : RowP W g N xs) (hb : Below W.heap.size W W') : RowP W' g N xs := h.same fun o ho => (hb.block g h.lt).trans ho
theorem RowP.le {W : World} {g N : Nat} {xs : List Nat} (h : RowP W g N xs) : xs.length ≤ N := by
  obtain ⟨cur, _, h2, h3⟩ := h
  have := congrArg List.length h3
  simp at this
  omega
theorem RowP.front {W : World} {g N : Nat} {xs ys : List Nat} (h : RowP W g N (xs ++ ys)) : RowP W g N xs := by
  obtain ⟨cur, h1, h2, h3⟩ := h
  refine ⟨cur, h1, h2, ?_⟩
  have := congrArg (List.take xs.length) h3
  rw [List.take_take, List.map_append, List.take_append_of_le_length (by simp)] at this
  rw [Nat.min_eq_left (by simp)] at this
  rw [this, List.take_of_length_le (by simp)]
theorem infoIntC : ∃ i : TypeInfo, Tryd.prog.info? 3 = some i ∧ i.zero = some (.int .i64 0) ∧ i.size = 1 ∧ i.bytes = 8 := by
  have h : (Tryd.prog.info? 3).map (fun i => (i.zero, i.size, i.bytes)) = some (some (.int .i64 0), 1, 8) := by kernel_rfl
  cases hi : Tryd.prog.info? 3 with
  | none => rw [hi] at h; cases h
  | some i =>
    rw [hi] at h
    simp at h
    exact ⟨i, rfl, h.1, h.2.1, h.2.2⟩
theorem undInts : Tryd.prog.underlying 46 = some (.slice 3) := by kernel_rfl
theorem RowP.push {W : World} {g N : Nat} {xs : List Nat} (h : RowP W g N xs) (hlt : xs.length < N) (ad : Addr) (c : Nat) (a : Nat) (hc : W.cell? ad = some (.int .i64 (a : Int))) :
    ∃ W', (Builtin.append_ #[46, 46] 46 #[.slice (some ⟨g, 0, none⟩) xs.length N, .slice (some ad) 1 c]).run Tryd.prog W = .ok (.slice (some ⟨g, 0, none⟩) (xs.length + 1) N) W' ∧ RowP W' g N (xs ++ [a]) ∧ Only g W W' := by
  obtain ⟨cur, h1, h2, h3⟩ := h
  obtain ⟨i, hi, hz, hsz, hby⟩ := infoIntC
  have hr := run_append_room (P := Tryd.prog) W 46 46 3 i undInts hi g xs.length N cur h1 ad 1 c [.int .i64 (a : Int)] (by rw [hsz]; rfl) (by
    intro j u hu
    cases j with
    | zero => simp at hu; subst hu; simpa [Addr.add] using hc
    | succ j => simp at hu) (by simp [Value.oneCell']) (by omega) (by rw [hsz]; simp; omega)
  refine ⟨_, hr, ⟨_, setRow_heap W g cur _ _ _ h1, ?_, ?_⟩, ⟨rfl, rfl, rfl, by simp, fun k hk => Go.setRow_other W g k _ hk⟩⟩
  · simp [hsz]
    omega
  · rw [hsz, Nat.mul_one, h3]
    have hl : (xs ++ [a]).length = (List.map intV xs ++ [Value.int .i64 (a : Int)]).length := by simp
    rw [hl, List.map_append]
    exact List.take_left

/-- The exceptions of the orders' iterator: results, and its own row. -/
def exO : Nat → Nat → Obj → Prop := fun g k o => soft 4 o ∨ k = g
end Go.Proofs.YtpmlomhlbmgilaaDoor
end
