/- ParSim, ParCut, ParCut2, ParCut3, ParLine in one text, for the claim. -/
import Derived.Test.YtglbmiadgdadfaaPj4

section
/- Parsing goes by the tokens' kinds and texts: their offsets change nothing but an error's own offset. Pure. -/
namespace Go.Proofs.Ytglbmiadgdadfaa
open Go Go.RowKit
namespace PX
/-- The same token, but for its offset; the first one's offset is among A. -/
def TkS (A : Int → Prop) (t t' : TokD) : Prop := t.k = t'.k ∧ t.x = t'.x ∧ A t.p
def SameT (A : Int → Prop) : List TokD → List TokD → Prop
  | [], [] => True
  | t :: l, t' :: l' => TkS A t t' ∧ SameT A l l'
  | _, _ => False
theorem SameT.length {A : Int → Prop} : ∀ {l l' : List TokD}, SameT A l l' → l.length = l'.length
  | [], [], _ => rfl
  | _ :: l, _ :: l', h => by simp [SameT.length h.2]
  | [], _ :: _, h => h.elim
  | _ :: _, [], h => h.elim
theorem SameT.tail {A : Int → Prop} : ∀ {l l' : List TokD}, SameT A l l' → SameT A l.tail l'.tail
  | [], [], h => h
  | _ :: _, _ :: _, h => h.2
  | [], _ :: _, h => h.elim
  | _ :: _, [], h => h.elim
structure Sim (A : Int → Prop) (s s' : S) : Prop where
  rest : SameT A s.rest s'.rest
  size : A s.size
  locs : s.locs = s'.locs
  opn : s.opn = s'.opn
  name : s.name = s'.name
  init : s.init = s'.init
  threads : s.threads = s'.threads
  ask : s.ask = s'.ask
  cond : s.cond = s'.cond
  done : s.done = s'.done
def RR {α : Type} (A : Int → Prop) (V : α → α → Prop) : R α → R α → Prop
  | .ok a s, .ok a' s' => V a a' ∧ Sim A s s'
  | .bad p e, .bad _ e' => e = e' ∧ A p ∧ e ≠ 0
  | _, _ => False
theorem RR.bind {α β : Type} {A : Int → Prop} {V : α → α → Prop} {V' : β → β → Prop} {r r' : R α} {f f' : α → S → R β} (h : RR A V r r') (hf : ∀ a a' s s', V a a' → Sim A s s' → RR A V' (f a s) (f' a' s')) : RR A V' (r.bind f) (r'.bind f') := by
  cases r with
  | ok a s => cases r' with
    | ok a' s' => exact hf a a' s s' h.1 h.2
    | bad p e => exact h.elim
  | bad p e => cases r' with
    | ok a' s' => exact h.elim
    | bad p' e' => exact h
theorem RR.bindE {α β : Type} {A : Int → Prop} {V' : β → β → Prop} {r r' : R α} {f f' : α → S → R β} (h : RR A Eq r r') (hf : ∀ a s s', Sim A s s' → RR A V' (f a s) (f' a s')) : RR A V' (r.bind f) (r'.bind f') :=
  h.bind fun a a' s s' e k => by subst e; exact hf a s s' k
section
variable {A : Int → Prop}
theorem Sim.next {s s' : S} (h : Sim A s s') : TkS A (PX.next s) (PX.next s') := by
  unfold PX.next
  have := h.rest
  rcases hs : s.rest with _ | ⟨t, l⟩ <;> rcases hs' : s'.rest with _ | ⟨t', l'⟩ <;> rw [hs, hs'] at this
  · exact ⟨rfl, rfl, h.size⟩
  · exact this.elim
  · exact this.elim
  · exact this.1
theorem TkS.sy {t t' : TokD} (h : TkS A t t') : PX.sy t = PX.sy t' := by
  obtain ⟨k, x, p⟩ := t; obtain ⟨k', x', p'⟩ := t'
  obtain ⟨h1, h2, -⟩ := h
  simp only at h1 h2
  subst h1; subst h2; rfl
theorem Sim.sy {s s' : S} (h : Sim A s s') : PX.sy (PX.next s) = PX.sy (PX.next s') := h.next.sy
theorem Sim.len {s s' : S} (h : Sim A s s') : s.rest.length = s'.rest.length := h.rest.length
theorem sim_bad {α : Type} {V : α → α → Prop} {s s' : S} (h : Sim A s s') (e : Int) (he : e ≠ 0) : RR A V (.bad (PX.next s).p e) (.bad (PX.next s').p e) := ⟨rfl, h.next.2.2, he⟩
theorem sim_isS (l : List ByteArray) {s s' : S} (h : Sim A s s') : isS l s = isS l s' := by unfold isS; rw [h.sy]
theorem sim_takeIf {f f' : Bool} (hf : f = f') {s s' : S} (h : Sim A s s') : RR A (TkS A) (takeIf f s) (takeIf f' s') := by
  subst hf
  unfold takeIf
  split
  · exact ⟨h.next, h.rest.tail, h.size, h.locs, h.opn, h.name, h.init, h.threads, h.ask, h.cond, h.done⟩
  · exact sim_bad h 50 (by decide)
theorem sim_take (l : List ByteArray) {s s' : S} (h : Sim A s s') : RR A (TkS A) (take l s) (take l s') := sim_takeIf (sim_isS l h) h
theorem sim_takes (x : ByteArray) {s s' : S} (h : Sim A s s') : RR A Eq (takes x s) (takes x s') := by
  unfold takes
  rw [← sim_isS [x] h]
  split
  · exact (sim_take _ h).bind fun _ _ _ _ _ k => ⟨rfl, k⟩
  · exact ⟨rfl, h⟩
theorem sim_takeWord {s s' : S} (h : Sim A s s') : RR A (TkS A) (takeWord s) (takeWord s') := sim_takeIf (by rw [h.next.1]) h
theorem sim_takeLast {s s' : S} (h : Sim A s s') : RR A Eq (takeLast s) (takeLast s') := (sim_take _ h).bind fun _ _ s s' _ k => by
  have he : s.rest.isEmpty = s'.rest.isEmpty := by
    have := k.len
    cases h1 : s.rest <;> cases h2 : s'.rest <;> rw [h1, h2] at this <;> simp_all
  rw [← he]
  split
  · exact ⟨rfl, k⟩
  · exact sim_bad k 50 (by decide)
theorem sim_num {s s' : S} (h : Sim A s s') : RR A Eq (num s) (num s') := (sim_take _ h).bind fun _ _ _ _ v k => ⟨by rw [v.2.1], k⟩
theorem sim_reg {s s' : S} (h : Sim A s s') : RR A Eq (reg s) (reg s') := (sim_take _ h).bind fun _ _ _ _ v k => ⟨by rw [v.2.1], k⟩
theorem sim_arg {s s' : S} (h : Sim A s s') : RR A Eq (arg s) (arg s') := by
  unfold arg
  rw [← sim_isS _ h]
  split
  · exact (sim_reg h).bindE fun _ _ _ k => ⟨rfl, k⟩
  · exact (sim_num h).bindE fun _ _ _ k => ⟨rfl, k⟩
theorem sim_addLoc {x x' : ByteArray} (hx : x = x') {p p' : Int} (hp : A p) {s s' : S} (h : Sim A s s') : RR A Eq (addLoc x p s) (addLoc x' p' s') := by
  subst hx
  unfold addLoc
  rw [← h.opn, ← h.locs]
  split
  · split
    · exact ⟨rfl, hp, by decide⟩
    · exact ⟨rfl, h.rest, h.size, rfl, rfl, h.name, by rw [h.init], h.threads, h.ask, h.cond, h.done⟩
  · exact ⟨rfl, hp, by decide⟩
theorem sim_loc {s s' : S} (h : Sim A s s') : RR A Eq (loc s) (loc s') := (sim_take _ h).bind fun t t' s s' v k => by
  rw [← v.2.1, ← k.locs]
  split
  · exact ⟨rfl, k⟩
  · exact (sim_addLoc rfl v.2.2 k).bindE fun _ _ _ k => ⟨rfl, k⟩
theorem sim_operation (l : List ByteArray) {s s' : S} (h : Sim A s s') : RR A Eq (operation l s) (operation l s') :=
  (sim_arg h).bindE fun _ _ _ h => (sim_take l h).bind fun _ _ _ _ v h => (sim_arg h).bindE fun _ _ _ h => ⟨by rw [v.2.1], h⟩
theorem sim_store {s s' : S} (h : Sim A s s') : RR A Eq (store s) (store s') :=
  (sim_loc h).bindE fun _ _ _ h => (sim_take _ h).bind fun _ _ _ _ _ h => (sim_arg h).bindE fun _ _ _ h => (sim_takes _ h).bindE fun _ _ _ h => ⟨rfl, h⟩
theorem sim_fence {s s' : S} (h : Sim A s s') : RR A Eq (fence s) (fence s') :=
  (sim_take _ h).bind fun _ _ _ _ _ h => (sim_takes _ h).bindE fun _ _ _ h => by
    split
    · exact ⟨rfl, h⟩
    · exact (sim_takes _ h).bindE fun _ _ _ h => ⟨rfl, h⟩
theorem sim_skip {s s' : S} (h : Sim A s s') : RR A Eq (skip s) (skip s') :=
  (sim_take _ h).bind fun _ _ _ _ _ h => (sim_num h).bindE fun _ _ _ h => (sim_take _ h).bind fun _ _ _ _ _ h => (sim_operation _ h).bindE fun _ _ _ h => ⟨rfl, h⟩
theorem sim_load {s s' : S} (h : Sim A s s') : RR A Eq (load s) (load s') := (sim_loc h).bindE fun _ _ _ h => (sim_takes _ h).bindE fun _ _ _ h => ⟨rfl, h⟩
theorem sim_move {s s' : S} (h : Sim A s s') : RR A Eq (move s) (move s') := (sim_operation _ h).bindE fun _ _ _ h => ⟨rfl, h⟩
theorem sim_swap {s s' : S} (h : Sim A s s') : RR A Eq (swap s) (swap s') :=
  (sim_take _ h).bind fun _ _ _ _ _ h => (sim_loc h).bindE fun _ _ _ h => (sim_arg h).bindE fun _ _ _ h => ⟨rfl, h⟩
theorem sim_fetch {s s' : S} (h : Sim A s s') : RR A Eq (fetch s) (fetch s') :=
  (sim_take _ h).bind fun _ _ _ _ _ h => (sim_loc h).bindE fun _ _ _ h => (sim_arg h).bindE fun _ _ _ h => ⟨rfl, h⟩
theorem sim_cas {s s' : S} (h : Sim A s s') : RR A Eq (cas s) (cas s') :=
  (sim_take _ h).bind fun _ _ _ _ _ h => (sim_loc h).bindE fun _ _ _ h => (sim_arg h).bindE fun _ _ _ h => (sim_arg h).bindE fun _ _ _ h => ⟨rfl, h⟩
theorem sim_wrong {α : Type} {V : α → α → Prop} {s s' : S} (h : Sim A s s') : RR A V (wrong s) (wrong s') := sim_bad h 50 (by decide)
theorem sim_source {s s' : S} (h : Sim A s s') : RR A Eq (source s) (source s') := by
  unfold source
  simp only
  rw [← h.sy]
  split
  · exact sim_load h
  split
  · exact sim_move h
  split
  · exact sim_move h
  split
  · exact sim_swap h
  split
  · exact sim_fetch h
  split
  · exact sim_cas h
  · exact sim_wrong h
theorem sim_assignment {s s' : S} (h : Sim A s s') : RR A Eq (assignment s) (assignment s') :=
  (sim_reg h).bindE fun _ _ _ h => (sim_take _ h).bind fun _ _ _ _ _ h => (sim_source h).bindE fun _ _ _ h => ⟨rfl, h⟩
theorem sim_ins {s s' : S} (h : Sim A s s') : RR A Eq (ins s) (ins s') := by
  unfold ins
  simp only
  rw [← h.sy]
  split
  · exact sim_store h
  split
  · exact sim_assignment h
  split
  · exact sim_fence h
  split
  · exact sim_skip h
  · exact sim_wrong h
theorem sim_more {kid : S → R CondD} (hk : ∀ {s s'}, Sim A s s' → RR A Eq (kid s) (kid s')) (g : ByteArray) : ∀ (n : Nat) (acc : List CondD) {s s' : S}, Sim A s s' → RR A Eq (more kid g n acc s) (more kid g n acc s')
  | 0, acc, s, s', h => ⟨rfl, h⟩
  | n + 1, acc, s, s', h => (sim_takes g h).bindE fun b s s' h => by
    split
    · exact (hk h).bindE fun c s s' h => sim_more hk g n _ h
    · exact ⟨rfl, h⟩
theorem sim_series {kid : S → R CondD} (hk : ∀ {s s'}, Sim A s s' → RR A Eq (kid s) (kid s')) (g : ByteArray) (kind : Int) {s s' : S} (h : Sim A s s') : RR A Eq (series kid g kind s) (series kid g kind s') := by
  unfold series
  rw [← h.len]
  exact (hk h).bindE fun _ _ _ h => (sim_more hk g _ _ h).bindE fun _ _ _ h => ⟨rfl, h⟩
theorem sim_regCond {s s' : S} (h : Sim A s s') : RR A Eq (regCond s) (regCond s') :=
  (sim_num h).bindE fun _ _ _ h => (sim_take _ h).bind fun _ _ _ _ _ h => (sim_reg h).bindE fun _ _ _ h => (sim_take _ h).bind fun _ _ _ _ _ h => (sim_num h).bindE fun _ _ _ h => ⟨rfl, h⟩
theorem sim_locCond {s s' : S} (h : Sim A s s') : RR A Eq (locCond s) (locCond s') :=
  (sim_loc h).bindE fun _ _ _ h => (sim_take _ h).bind fun _ _ _ _ _ h => (sim_num h).bindE fun _ _ _ h => ⟨rfl, h⟩
theorem sim_truth {s s' : S} (h : Sim A s s') : RR A Eq (truth s) (truth s') := (sim_take _ h).bind fun _ _ _ _ _ h => ⟨rfl, h⟩
theorem sim_factor : ∀ (n : Nat) {s s' : S}, Sim A s s' → RR A Eq (factor n s) (factor n s')
  | 0, s, s', h => sim_wrong h
  | n + 1, s, s', h => by
    unfold factor
    simp only
    rw [← h.sy]
    split
    · exact (sim_take _ h).bind fun _ _ _ _ _ h => (sim_factor n h).bindE fun _ _ _ h => ⟨rfl, h⟩
    split
    · exact (sim_take _ h).bind fun _ _ _ _ _ h => (sim_series (fun h => sim_series (fun h => sim_factor n h) _ _ h) _ _ h).bindE fun _ _ _ h => (sim_take _ h).bind fun _ _ _ _ _ h => ⟨rfl, h⟩
    split
    · exact sim_regCond h
    split
    · exact sim_locCond h
    split
    · exact sim_truth h
    · exact sim_wrong h
theorem sim_disj (n : Nat) {s s' : S} (h : Sim A s s') : RR A Eq (disj n s) (disj n s') := sim_series (fun h => sim_series (fun h => sim_factor n h) _ _ h) _ _ h
theorem sim_lastCond {p p' : Int} (hp : A p) {s s' : S} (h : Sim A s s') : RR A Eq (lastCond p s) (lastCond p' s') := by
  unfold lastCond
  rw [← h.len]
  exact (sim_disj _ h).bindE fun c _ _ h => (sim_takeLast h).bindE fun _ _ _ h => by
    split
    · exact ⟨rfl, hp, by decide⟩
    · exact ⟨rfl, h⟩
theorem sim_onlyIns {s s' : S} (h : Sim A s s') : RR A Eq (onlyIns s) (onlyIns s') := (sim_ins h).bindE fun _ _ _ h => (sim_takeLast h).bindE fun _ _ _ h => ⟨rfl, h⟩
theorem sim_onlyCond {s s' : S} (h : Sim A s s') : RR A Eq (onlyCond s) (onlyCond s') := sim_lastCond h.next.2.2 h
theorem sim_titleLine {s s' : S} (h : Sim A s s') : RR A Eq (titleLine s) (titleLine s') :=
  (sim_take _ h).bind fun _ _ _ _ _ h => (sim_takeWord h).bind fun t t' s s' v h => by
    have h2 : Sim A { s with name := t.x } { s' with name := t'.x } := ⟨h.rest, h.size, h.locs, h.opn, v.2.1, h.init, h.threads, h.ask, h.cond, h.done⟩
    exact (sim_take [sEND] h2).bind fun _ _ s s' _ h => ⟨rfl, h.rest, h.size, h.locs, h.opn, h.name, h.init, h.threads, h.ask, h.cond, rfl⟩
theorem sim_value {s s' : S} (h : Sim A s s') : RR A Eq (value s) (value s') := (sim_loc h).bindE fun l a a' k => by
  rw [← h.locs]
  split
  · exact sim_bad h 51 (by decide)
  · exact (sim_take _ k).bind fun _ _ _ _ _ h => (sim_num h).bindE fun _ _ _ h => ⟨rfl, h.rest, h.size, h.locs, h.opn, h.name, by rw [h.init], h.threads, h.ask, h.cond, h.done⟩
theorem sim_values : ∀ (n : Nat) {s s' : S}, Sim A s s' → RR A Eq (values n s) (values n s')
  | 0, s, s', h => ⟨rfl, h⟩
  | n + 1, s, s', h => (sim_takes _ h).bindE fun b s s' h => by
    split
    · exact ⟨rfl, h⟩
    · exact (sim_value h).bindE fun _ _ _ h => sim_values n h
theorem sim_initLine {s s' : S} (h : Sim A s s') : RR A Eq (initLine s) (initLine s') := (sim_take _ h).bind fun _ _ s s' _ h => by
  rw [← h.len]
  exact (sim_value h).bindE fun _ _ _ h => (sim_values _ h).bindE fun _ _ _ h => ⟨rfl, h.rest, h.size, h.locs, h.opn, h.name, h.init, h.threads, h.ask, h.cond, rfl⟩
theorem sim_threadLine {s s' : S} (h : Sim A s s') : RR A Eq (threadLine s) (threadLine s') := (sim_take _ h).bind fun _ _ s s' v h => by
  rw [← h.threads]
  split
  · exact ⟨rfl, v.2.2, by decide⟩
  · exact (sim_take _ h).bind fun _ _ _ _ _ h => ⟨rfl, h.rest, h.size, h.locs, h.opn, h.name, h.init, by rw [h.threads], h.ask, h.cond, rfl⟩
theorem sim_insLine {s s' : S} (h : Sim A s s') : RR A Eq (insLine s) (insLine s') := by
  unfold insLine
  rw [← h.threads]
  split
  · exact sim_bad h 5 (by decide)
  · exact (sim_ins h).bindE fun x s s' h => by
      have h2 : Sim A { s with threads := s.threads.dropLast ++ [s.threads.getLastD [] ++ [x]] } { s' with threads := s'.threads.dropLast ++ [s'.threads.getLastD [] ++ [x]] } := ⟨h.rest, h.size, h.locs, h.opn, h.name, h.init, by rw [h.threads], h.ask, h.cond, h.done⟩
      exact (sim_take [sEND] h2).bind fun _ _ _ _ _ h => ⟨rfl, h⟩
theorem sim_queryLine {s s' : S} (h : Sim A s s') : RR A Eq (queryLine s) (queryLine s') := (sim_take _ h).bind fun t t' s s' v h => by
  have h2 : Sim A { s with ask := if askOf t.x = 0 then s.ask else askOf t.x } { s' with ask := if askOf t'.x = 0 then s'.ask else askOf t'.x } := ⟨h.rest, h.size, h.locs, h.opn, h.name, h.init, h.threads, by rw [v.2.1, h.ask], h.cond, h.done⟩
  exact (sim_lastCond v.2.2 h2).bindE fun _ s s' h => ⟨rfl, h.rest, h.size, h.locs, h.opn, h.name, h.init, h.threads, h.ask, rfl, rfl⟩
theorem RR.ite {α : Type} {V : α → α → Prop} {c : Prop} [Decidable c] {a a' b b' : R α} (h : RR A V a a') (k : RR A V b b') : RR A V (if c then a else b) (if c then a' else b') := by
  by_cases hc : c
  · rw [if_pos hc, if_pos hc]; exact h
  · rw [if_neg hc, if_neg hc]; exact k
def lineB (y : ByteArray) (d : Int) (s : S) : R Unit :=
  if d = 0 then (if y == kTest then titleLine s else wrong s)
  else if d = 1 then (if y == kInit then initLine s else if y == kThread then threadLine s else wrong s)
  else if d = 2 then (if y == kThread then threadLine s else wrong s)
  else if y == kThread then threadLine s else if y == kFence then insLine s else if y == kSkip then insLine s else if y == sNAME then insLine s else if y == sREG then insLine s
  else if y == kSome then queryLine s else if y == kNone then queryLine s else if y == kAll then queryLine s else wrong s
theorem line_eq (s : S) : line s = lineB (PX.sy (PX.next s)) s.done s := rfl
theorem sim_line {s s' : S} (h : Sim A s s') : RR A Eq (line s) (line s') := by
  rw [line_eq, line_eq, ← h.sy, ← h.done]
  generalize PX.sy (PX.next s) = y
  generalize s.done = d
  exact .ite (.ite (sim_titleLine h) (sim_wrong h)) (.ite (.ite (sim_initLine h) (.ite (sim_threadLine h) (sim_wrong h))) (.ite (.ite (sim_threadLine h) (sim_wrong h))
    (.ite (sim_threadLine h) (.ite (sim_insLine h) (.ite (sim_insLine h) (.ite (sim_insLine h) (.ite (sim_insLine h) (.ite (sim_queryLine h) (.ite (sim_queryLine h) (.ite (sim_queryLine h) (sim_wrong h)))))))))))
theorem sim_prog : ∀ (n : Nat) {s s' : S}, Sim A s s' → RR A Eq (prog n s) (prog n s')
  | 0, s, s', h => ⟨rfl, h⟩
  | n + 1, s, s', h => by
    unfold prog
    rw [← h.done]
    split
    · exact ⟨rfl, h⟩
    · exact (sim_line h).bindE fun _ _ _ h => sim_prog n h
end
end PX
end Go.Proofs.Ytglbmiadgdadfaa
end

section
/- A condition's tokens in another text: what is read there. Pure. -/
namespace Go.Proofs.Ytglbmiadgdadfaa
open Go Go.RowKit
namespace PX
abbrev AnyP : Int → Prop := fun _ => True
/-- Behind the same tokens stands a line's end in s, and X in s'. -/
structure Cut (X : List TokD) (s s' : S) : Prop where
  rest : ∃ (r r' : List TokD) (e : TokD), s.rest = r ++ [e] ∧ sy e = sEND ∧ s'.rest = r' ++ X ∧ SameT AnyP r r'
  locs : s.locs = s'.locs
  opn : s.opn = false ∧ s'.opn = false
/-- What follows goes on with neither & nor |. -/
def Stop (X : List TokD) : Prop := ∃ x l, X = x :: l ∧ sy x ≠ gAnd ∧ sy x ≠ gOr
/-- If r reads a, r' reads the same. -/
def OKR {α : Type} (X : List TokD) (V : α → α → Prop) (r r' : R α) : Prop := ∀ a s, r = .ok a s → ∃ a' s', r' = .ok a' s' ∧ V a a' ∧ Cut X s s'
theorem OKR.bind {α β : Type} {X : List TokD} {V : α → α → Prop} {V' : β → β → Prop} {r r' : R α} {f f' : α → S → R β} (h : OKR X V r r') (hf : ∀ a a' s s', V a a' → Cut X s s' → OKR X V' (f a s) (f' a' s')) : OKR X V' (r.bind f) (r'.bind f') := by
  intro b t e
  cases r with
  | ok a s =>
    obtain ⟨a', s', rfl, hv, hc⟩ := h a s rfl
    exact hf a a' s s' hv hc b t e
  | bad p x => cases e
theorem OKR.ok {α : Type} {X : List TokD} {V : α → α → Prop} {a a' : α} {s s' : S} (h : V a a') (hc : Cut X s s') : OKR X V (.ok a s) (.ok a' s') := fun _ _ e => by cases e; exact ⟨a', s', rfl, h, hc⟩
theorem OKR.bad {α : Type} {X : List TokD} {V : α → α → Prop} {p x : Int} {r' : R α} : OKR X V (.bad p x : R α) r' := fun _ _ e => by cases e
theorem Cut.next {X : List TokD} {s s' : S} (h : Cut X s s') : (sy (next s) = sEND ∧ ∃ e, s.rest = [e] ∧ s'.rest = X) ∨ (TkS AnyP (next s) (next s') ∧ Cut X { s with rest := s.rest.tail } { s' with rest := s'.rest.tail }) := by
  obtain ⟨r, r', e, h1, h2, h3, h4⟩ := h.rest
  rcases r with _ | ⟨t, r⟩ <;> rcases r' with _ | ⟨t', r'⟩
  · left
    refine ⟨?_, e, h1, h3⟩
    unfold PX.next; rw [h1]; exact h2
  · exact h4.elim
  · exact h4.elim
  · right
    refine ⟨?_, ⟨r, r', e, ?_, h2, ?_, h4.2⟩, h.locs, h.opn⟩
    · unfold PX.next; rw [h1, h3]; exact h4.1
    · show s.rest.tail = _; rw [h1]; rfl
    · show s'.rest.tail = _; rw [h3]; rfl
theorem isS_end {l : List ByteArray} (hl : l.any (fun x => x == sEND) = false) {s : S} (h : sy (PX.next s) = sEND) : isS l s = false := by unfold isS; rw [h]; exact hl
theorem cut_take {X : List TokD} (l : List ByteArray) (hl : l.any (fun x => x == sEND) = false) {s s' : S} (h : Cut X s s') : OKR X (TkS AnyP) (take l s) (take l s') := by
  unfold take takeIf
  rcases h.next with ⟨h1, _⟩ | ⟨h1, h2⟩
  · rw [isS_end hl h1]
    exact OKR.bad
  · have : isS l s' = isS l s := by unfold isS; rw [h1.sy]
    rw [this]
    split
    · exact OKR.ok h1 h2
    · exact OKR.bad
theorem cut_takes {X : List TokD} (hX : Stop X) (g : ByteArray) (hg : g = gAnd ∨ g = gOr) {s s' : S} (h : Cut X s s') : OKR X Eq (takes g s) (takes g s') := by
  have hge : [g].any (fun x => x == sEND) = false := by rcases hg with rfl | rfl <;> decide
  unfold takes
  rcases h.next with ⟨h1, e, h2, h3⟩ | ⟨h1, h2⟩
  · rw [isS_end hge h1]
    have hn : isS [g] s' = false := by
      obtain ⟨x, l, rfl, n1, n2⟩ := hX
      unfold isS PX.next
      rw [h3]
      simp only [List.any_cons, List.any_nil, Bool.or_false, List.headD_cons, PP.bbeq, decide_eq_false_iff_not]
      rcases hg with rfl | rfl
      · exact fun e => n1 e.symm
      · exact fun e => n2 e.symm
    rw [hn]
    exact OKR.ok rfl h
  · have : isS [g] s' = isS [g] s := by unfold isS; rw [h1.sy]
    rw [this]
    split
    · exact (cut_take [g] hge h).bind fun _ _ _ _ _ k => OKR.ok rfl k
    · exact OKR.ok rfl h
section
variable {X : List TokD} {s s' : S}
theorem cut_num (h : Cut X s s') : OKR X Eq (num s) (num s') := (cut_take _ (by decide) h).bind fun _ _ _ _ v k => OKR.ok (by rw [v.2.1]) k
theorem cut_reg (h : Cut X s s') : OKR X Eq (reg s) (reg s') := (cut_take _ (by decide) h).bind fun _ _ _ _ v k => OKR.ok (by rw [v.2.1]) k
theorem cut_loc (h : Cut X s s') : OKR X Eq (loc s) (loc s') := (cut_take _ (by decide) h).bind fun t t' s s' v k => by
  rw [← v.2.1, ← k.locs]
  split
  · exact OKR.ok rfl k
  · unfold addLoc
    rw [k.opn.1]
    exact OKR.bad
theorem cut_regCond (h : Cut X s s') : OKR X Eq (regCond s) (regCond s') :=
  (cut_num h).bind fun a a' _ _ e k => by
    subst e
    exact (cut_take _ (by decide) k).bind fun _ _ _ _ _ k => (cut_reg k).bind fun b b' _ _ e k => by
      subst e
      exact (cut_take _ (by decide) k).bind fun _ _ _ _ _ k => (cut_num k).bind fun c c' _ _ e k => by
        subst e
        exact OKR.ok rfl k
theorem cut_locCond (h : Cut X s s') : OKR X Eq (locCond s) (locCond s') :=
  (cut_loc h).bind fun a a' _ _ e k => by
    subst e
    exact (cut_take _ (by decide) k).bind fun _ _ _ _ _ k => (cut_num k).bind fun c c' _ _ e k => by
      subst e
      exact OKR.ok rfl k
theorem cut_truth (h : Cut X s s') : OKR X Eq (truth s) (truth s') := (cut_take _ (by decide) h).bind fun _ _ _ _ _ k => OKR.ok rfl k
end
/-- kid reads no more than there is. -/
def Sh (kid : S → R CondD) : Prop := ∀ s, Post (fun _ s' => s'.rest.length ≤ s.rest.length) (kid s)
theorem takes_le (x : ByteArray) (s : S) : Post (fun _ s' => s'.rest.length ≤ s.rest.length) (takes x s) := keep_takes (len_stb s.rest.length) x s (Nat.le_refl _)
theorem takes_one {x : ByteArray} {s s1 : S} (hne : s.rest ≠ []) (e : takes x s = .ok true s1) : s1.rest.length < s.rest.length := by
  unfold takes take takeIf at e
  split at e
  · simp only [R.bind] at e
    cases e
    show s.rest.tail.length < s.rest.length
    rw [List.length_tail]
    have := List.length_pos_iff.2 hne
    omega
  · cases e
theorem sh_factor (n : Nat) : Sh (factor n) := fun s => keep_factor (len_stb s.rest.length) n s (Nat.le_refl _)
theorem sh_conj (n : Nat) : Sh (series (factor n) gAnd 3) := fun s => keep_series (len_stb s.rest.length) (fun s h => keep_factor (len_stb _) n s h) _ _ s (Nat.le_refl _)
theorem Cut.ne {X : List TokD} {s s' : S} (h : Cut X s s') : s.rest ≠ [] := by
  obtain ⟨r, _, e, h1, _⟩ := h.rest
  rw [h1]; simp
theorem Cut.len {X : List TokD} (hX : Stop X) {s s' : S} (h : Cut X s s') : s.rest.length ≤ s'.rest.length := by
  obtain ⟨r, r', e, h1, _, h3, h4⟩ := h.rest
  obtain ⟨x, l, rfl, _⟩ := hX
  have := h4.length
  rw [h1, h3]; simp; omega
theorem cut_more {X : List TokD} (hX : Stop X) {kid kid' : S → R CondD} (hs : Sh kid) (hk : ∀ {s s'}, Cut X s s' → OKR X Eq (kid s) (kid' s')) (g : ByteArray) (hg : g = gAnd ∨ g = gOr) :
    ∀ (n m : Nat) (acc : List CondD) {s s' : S}, Cut X s s' → s.rest.length ≤ n → n ≤ m → OKR X Eq (more kid g n acc s) (more kid' g m acc s')
  | 0, m, acc, s, s', h, hn, _ => absurd (List.length_pos_iff.2 h.ne) (by omega)
  | n + 1, 0, acc, s, s', h, hn, hm => by omega
  | n + 1, m + 1, acc, s, s', h, hn, hm => by
    unfold more
    intro l t e
    cases ht : takes g s with
    | bad p x => rw [ht] at e; cases e
    | ok b s1 =>
      obtain ⟨b', s1', ht', rfl, hc⟩ := cut_takes hX g hg h b s1 ht
      rw [ht] at e
      rw [ht']
      simp only [R.bind] at e ⊢
      cases b with
      | false => 
        simp only [Bool.false_eq_true, if_false] at e ⊢
        exact OKR.ok rfl hc l t e
      | true =>
        simp only [if_true] at e ⊢
        have hlt := takes_one h.ne ht
        cases hkd : kid s1 with
        | bad p x => rw [hkd] at e; cases e
        | ok c s2 =>
          obtain ⟨c', s2', hkd', rfl, hc2⟩ := hk hc c s2 hkd
          rw [hkd] at e
          rw [hkd']
          have := hs s1 c s2 hkd
          exact cut_more hX hs hk g hg n m _ hc2 (by omega) (by omega) l t e
theorem cut_series {X : List TokD} (hX : Stop X) {kid kid' : S → R CondD} (hs : Sh kid) (hk : ∀ {s s'}, Cut X s s' → OKR X Eq (kid s) (kid' s')) (g : ByteArray) (hg : g = gAnd ∨ g = gOr) (kind : Int) {s s' : S} (h : Cut X s s') : OKR X Eq (series kid g kind s) (series kid' g kind s') := by
  unfold series
  intro l t e
  cases hkd : kid s with
  | bad p x => rw [hkd] at e; cases e
  | ok c s1 =>
    obtain ⟨c', s1', hkd', rfl, hc⟩ := hk h c s1 hkd
    rw [hkd] at e
    rw [hkd']
    have := hs s c s1 hkd
    exact ((cut_more hX hs hk g hg _ _ [c] hc this (h.len hX)).bind fun l l' _ _ e k => by subst e; exact OKR.ok rfl k) l t e
theorem cut_factor {X : List TokD} (hX : Stop X) : ∀ (n m : Nat) {s s' : S}, n ≤ m → Cut X s s' → OKR X Eq (factor n s) (factor m s')
  | 0, _, _, _, _, _ => OKR.bad
  | n + 1, 0, _, _, h, _ => by omega
  | n + 1, m + 1, s, s', hn, h => by
    unfold factor
    simp only
    rcases h.next with ⟨h1, _⟩ | ⟨h1, h2⟩
    · rw [h1]
      exact OKR.bad
    · rw [← h1.sy]
      have ih : ∀ {s s' : S}, Cut X s s' → OKR X Eq (factor n s) (factor m s') := fun h => cut_factor hX n m (by omega) h
      split
      · exact (cut_take _ (by decide) h).bind fun _ _ _ _ _ k => (ih k).bind fun c c' _ _ e k => by subst e; exact OKR.ok rfl k
      · split
        · exact (cut_take _ (by decide) h).bind fun _ _ _ _ _ k => (cut_series hX (sh_conj n) (fun k => cut_series hX (sh_factor n) ih gAnd (.inl rfl) 3 k) gOr (.inr rfl) 4 k).bind fun c c' _ _ e k => by
            subst e
            exact (cut_take _ (by decide) k).bind fun _ _ _ _ _ k => OKR.ok rfl k
        · split
          · exact cut_regCond h
          · split
            · exact cut_locCond h
            · split
              · exact cut_truth h
              · exact OKR.bad
theorem cut_disj {X : List TokD} (hX : Stop X) (n m : Nat) (hn : n ≤ m) {s s' : S} (h : Cut X s s') : OKR X Eq (disj n s) (disj m s') :=
  cut_series hX (sh_conj n) (fun k => cut_series hX (sh_factor n) (fun k => cut_factor hX n m hn k) gAnd (.inl rfl) 3 k) gOr (.inr rfl) 4 h
end PX
end Go.Proofs.Ytglbmiadgdadfaa
end

section
/- A condition that is read whole: its tokens; two such conditions, joined. Pure. -/
namespace Go.Proofs.Ytglbmiadgdadfaa
open Go Go.RowKit
namespace PX
/-- What taking a token that is no line's end leaves as it is, of the tokens that remain. -/
def Ne (Q : List TokD → Prop) : Prop := ∀ t l, Q (t :: l) → sy t ≠ sEND → Q l
section
variable {Q : List TokD → Prop} (st : Ne Q)
include st
theorem ne_take (l : List ByteArray) (hl : l.any (fun x => x == sEND) = false) (s : S) (h : Q s.rest) : Post (fun _ s' => Q s'.rest) (take l s) := by
  unfold take takeIf
  split
  · rename_i hf
    refine .ok ?_
    show Q s.rest.tail
    cases hr : s.rest with
    | nil => rw [hr] at h; exact h
    | cons t r =>
      rw [hr] at h
      refine st t r h fun e => ?_
      have hs : sy (next s) = sEND := by unfold next; rw [hr]; exact e
      rw [isS_end hl hs] at hf
      cases hf
  · exact .bad
theorem ne_takes (x : ByteArray) (hl : [x].any (fun x => x == sEND) = false) (s : S) (h : Q s.rest) : Post (fun _ s' => Q s'.rest) (takes x s) := by
  unfold takes
  split
  · exact (ne_take st [x] hl s h).bind fun _ _ h => .ok h
  · exact .ok h
theorem ne_num (s : S) (h : Q s.rest) : Post (fun _ s' => Q s'.rest) (num s) := (ne_take st _ (by decide) s h).bind fun _ _ h => .ok h
theorem ne_reg (s : S) (h : Q s.rest) : Post (fun _ s' => Q s'.rest) (reg s) := (ne_take st _ (by decide) s h).bind fun _ _ h => .ok h
theorem ne_loc (s : S) (h : Q s.rest) : Post (fun _ s' => Q s'.rest) (loc s) := (ne_take st _ (by decide) s h).bind fun t s h => by
  split
  · exact .ok h
  · refine Post.bind (Q := fun _ s' => Q s'.rest) ?_ fun _ _ h => .ok h
    unfold addLoc
    split
    · split
      · exact .bad
      · exact .ok h
    · exact .bad
theorem ne_more {kid : S → R CondD} (hk : ∀ s, Q s.rest → Post (fun _ s' => Q s'.rest) (kid s)) (g : ByteArray) (hl : [g].any (fun x => x == sEND) = false) : ∀ (n : Nat) (acc : List CondD) (s : S), Q s.rest → Post (fun _ s' => Q s'.rest) (more kid g n acc s)
  | 0, acc, s, h => .ok h
  | n + 1, acc, s, h => (ne_takes st g hl s h).bind fun b s h => by
    split
    · exact (hk s h).bind fun c s h => ne_more hk g hl n _ s h
    · exact .ok h
theorem ne_series {kid : S → R CondD} (hk : ∀ s, Q s.rest → Post (fun _ s' => Q s'.rest) (kid s)) (g : ByteArray) (hl : [g].any (fun x => x == sEND) = false) (kind : Int) (s : S) (h : Q s.rest) : Post (fun _ s' => Q s'.rest) (series kid g kind s) :=
  (hk s h).bind fun _ s h => (ne_more st hk g hl _ _ s h).bind fun _ _ h => .ok h
theorem ne_regCond (s : S) (h : Q s.rest) : Post (fun _ s' => Q s'.rest) (regCond s) :=
  (ne_num st s h).bind fun _ s h => (ne_take st _ (by decide) s h).bind fun _ s h => (ne_reg st s h).bind fun _ s h => (ne_take st _ (by decide) s h).bind fun _ s h => (ne_num st s h).bind fun _ _ h => .ok h
theorem ne_locCond (s : S) (h : Q s.rest) : Post (fun _ s' => Q s'.rest) (locCond s) :=
  (ne_loc st s h).bind fun _ s h => (ne_take st _ (by decide) s h).bind fun _ s h => (ne_num st s h).bind fun _ _ h => .ok h
theorem ne_truth (s : S) (h : Q s.rest) : Post (fun _ s' => Q s'.rest) (truth s) := (ne_take st _ (by decide) s h).bind fun _ _ h => .ok h
theorem ne_factor : ∀ (n : Nat) (s : S), Q s.rest → Post (fun _ s' => Q s'.rest) (factor n s)
  | 0, s, h => .bad
  | n + 1, s, h => by
    unfold factor
    simp only
    split
    · exact (ne_take st _ (by decide) s h).bind fun _ s h => (ne_factor n s h).bind fun _ _ h => .ok h
    · split
      · exact (ne_take st _ (by decide) s h).bind fun _ s h => (ne_series st (fun s h => ne_series st (ne_factor n) _ (by decide) _ s h) _ (by decide) _ s h).bind fun _ s h => (ne_take st _ (by decide) s h).bind fun _ _ h => .ok h
      · split
        · exact ne_regCond st s h
        · split
          · exact ne_locCond st s h
          · split
            · exact ne_truth st s h
            · exact .bad
theorem ne_disj (n : Nat) (s : S) (h : Q s.rest) : Post (fun _ s' => Q s'.rest) (disj n s) := ne_series st (fun s h => ne_series st (ne_factor st n) _ (by decide) _ s h) _ (by decide) _ s h
end
/-- A condition that is read whole: its tokens, and what is read of them in another text. -/
theorem whole {s : S} {c : CondD} {st : S} (ho : s.opn = false) (h : onlyCond s = .ok c st) : ∃ (r : List TokD) (e : TokD), s.rest = r ++ [e] ∧ sy e = sEND ∧ (∀ t ∈ r, sy t ≠ sEND) ∧ deep c ≤ 20 ∧
    ∀ (X r' : List TokD) (s' : S) (m : Nat), Stop X → s'.rest = r' ++ X → SameT AnyP r r' → s'.locs = s.locs → s'.opn = false → s.rest.length < m → ∃ s1, disj m s' = .ok c s1 ∧ s1.rest = X ∧ s1.locs = s.locs ∧ s1.opn = false := by
  unfold onlyCond lastCond at h
  cases hd : disj (s.rest.length + 1) s with
  | bad p x => rw [hd] at h; cases h
  | ok c1 s1 =>
    rw [hd] at h
    simp only [R.bind] at h
    cases ht : takeLast s1 with
    | bad p x => rw [ht] at h; cases h
    | ok u s2 =>
      rw [ht] at h
      simp only at h
      split at h
      · cases h
      rename_i h20
      have hcc : c1 = c := by injection h
      subst hcc
      clear h
      obtain ⟨e, he1, he2⟩ : ∃ e, s1.rest = [e] ∧ sy e = sEND := by
        unfold takeLast take takeIf at ht
        split at ht
        · rename_i hf
          simp only [R.bind] at ht
          split at ht
          · rename_i hem
            have hsy : sy (next s1) = sEND := by
              unfold isS at hf
              simp only [List.any_cons, List.any_nil, Bool.or_false] at hf
              exact (by rw [PP.bbeq] at hf; exact (of_decide_eq_true hf).symm)
            cases hr : s1.rest with
            | nil =>
              rw [next_empty hr] at hsy; exact absurd hsy (by decide)
            | cons t l =>
              have hl : l = [] := by
                have : s1.rest.tail.isEmpty = true := hem
                rw [hr] at this
                simpa using this
              subst hl
              refine ⟨t, rfl, ?_⟩
              unfold next at hsy; rw [hr] at hsy; exact hsy
          · cases ht
        · cases ht
      obtain ⟨r, hr1, hr2⟩ := ne_disj (Q := fun l => ∃ pre, s.rest = pre ++ l ∧ ∀ t ∈ pre, sy t ≠ sEND) (fun t l ⟨pre, h1, h2⟩ hne => ⟨pre ++ [t], by rw [h1]; simp, fun u hu => by
        rcases List.mem_append.1 hu with hu | hu
        · exact h2 u hu
        · rw [List.mem_singleton.1 hu]; exact hne⟩) (s.rest.length + 1) s ⟨[], rfl, fun t ht => by cases ht⟩ c1 s1 hd
      rw [he1] at hr1
      refine ⟨r, e, hr1, he2, hr2, by omega, fun X r' s' m hX hs' hsame hloc hopn hm => ?_⟩
      have hc : Cut X s s' := ⟨⟨r, r', e, hr1, he2, hs', hsame⟩, hloc.symm, ho, hopn⟩
      obtain ⟨c', s1', hd', rfl, hc1⟩ := cut_disj hX (s.rest.length + 1) m hm hc c1 s1 hd
      obtain ⟨q, q', e', g1, g2, g3, g4⟩ := hc1.rest
      have hq : q = [] := by
        have := congrArg List.length (he1.symm.trans g1)
        simp at this
        exact this
      subst hq
      have hq' : q' = [] := by
        have := g4.length
        exact List.eq_nil_of_length_eq_zero this.symm
      subst hq'
      have hloc1 : s1.locs = s.locs := by
        have := keep_disj (P := fun z => z.opn = false ∧ z.locs = s.locs) ⟨fun z hz => hz, fun z hz _ _ ho _ _ => by rw [hz.1] at ho; cases ho⟩ (s.rest.length + 1) s ⟨ho, rfl⟩ c1 s1 hd
        exact this.2
      exact ⟨s1', hd', g3, by rw [← hc1.locs]; exact hloc1, hc1.opn.2⟩
end PX
end Go.Proofs.Ytglbmiadgdadfaa
end

section
/- Two conditions in parentheses, joined. Pure. -/
namespace Go.Proofs.Ytglbmiadgdadfaa
open Go Go.RowKit
namespace PX
/-- A closed parser before the tokens Y. -/
def At (l : List ByteArray) (Y : List TokD) (s : S) : Prop := s.rest = Y ∧ s.locs = l ∧ s.opn = false
/-- k reads c before Y and stops before Z. -/
def Rd (l : List ByteArray) (Y : List TokD) {α : Type} (k : S → R α) (a : α) (Z : List TokD) : Prop := ∀ s, At l Y s → ∃ s1, k s = .ok a s1 ∧ At l Z s1
theorem at_next {l : List ByteArray} {t : TokD} {Y : List TokD} {s : S} (h : At l (t :: Y) s) : next s = t := by unfold next; rw [h.1]; rfl
theorem isS_one {g : ByteArray} {s : S} : isS [g] s = decide (sy (next s) = g) := by
  unfold isS
  simp only [List.any_cons, List.any_nil, Bool.or_false, PP.bbeq]
  congr 1
  exact propext eq_comm
theorem rd_take {l : List ByteArray} {t : TokD} {Y : List TokD} {g : ByteArray} (h : sy t = g) : Rd l (t :: Y) (take [g]) t Y := fun s hs => by
  unfold take takeIf
  rw [isS_one, at_next hs, decide_eq_true h, if_pos rfl]
  exact ⟨_, rfl, by show s.rest.tail = Y; rw [hs.1]; rfl, hs.2⟩
theorem rd_takes {l : List ByteArray} {t : TokD} {Y : List TokD} {g : ByteArray} (h : sy t = g) : Rd l (t :: Y) (takes g) true Y := fun s hs => by
  obtain ⟨s1, e, h1⟩ := rd_take (g := g) h s hs
  unfold takes
  rw [isS_one, at_next hs, decide_eq_true h, if_pos rfl, e]
  exact ⟨s1, rfl, h1⟩
theorem takes_no {l : List ByteArray} {t : TokD} {Y : List TokD} {g : ByteArray} (h : sy t ≠ g) {s : S} (hs : At l (t :: Y) s) : takes g s = .ok false s := by
  unfold takes
  rw [isS_one, at_next hs, decide_eq_false h, if_neg (by simp)]
theorem more_no {l : List ByteArray} {t : TokD} {Y : List TokD} {g : ByteArray} (h : sy t ≠ g) (kid : S → R CondD) (acc : List CondD) {s : S} (hs : At l (t :: Y) s) : ∀ n, more kid g n acc s = .ok acc s
  | 0 => rfl
  | n + 1 => by
    unfold more
    rw [takes_no h hs]
    rfl
theorem rd_one {l : List ByteArray} {t : TokD} {Y Z : List TokD} {kid : S → R CondD} {c : CondD} {g : ByteArray} {kind : Int} (h : Rd l Y kid c (t :: Z)) (hn : sy t ≠ g) : Rd l Y (series kid g kind) c (t :: Z) := fun s hs => by
  obtain ⟨s1, e, h1⟩ := h s hs
  refine ⟨s1, ?_, h1⟩
  unfold series
  rw [e]
  simp only [R.bind]
  rw [more_no hn kid [c] h1]
theorem rd_two {l : List ByteArray} {t u : TokD} {Y Y2 Z : List TokD} {kid : S → R CondD} {c d : CondD} {g : ByteArray} {kind : Int} (h : Rd l Y kid c (t :: Y2)) (ht : sy t = g) (h2 : Rd l Y2 kid d (u :: Z)) (hn : sy u ≠ g) (hY : Y ≠ []) : Rd l Y (series kid g kind) (.mk kind 0 0 0 [c, d]) (u :: Z) := fun s hs => by
  obtain ⟨s1, e, h1⟩ := h s hs
  obtain ⟨s2, e2, h2'⟩ := rd_takes (g := g) ht s1 h1
  obtain ⟨s3, e3, h3⟩ := h2 s2 h2'
  refine ⟨s3, ?_, h3⟩
  unfold series
  rw [e]
  simp only [R.bind]
  obtain ⟨n, hn'⟩ : ∃ n, s.rest.length = n + 1 := ⟨s.rest.length - 1, by have := List.length_pos_iff.2 hY; rw [hs.1]; omega⟩
  rw [hn']
  unfold more
  rw [e2]
  simp only [R.bind, if_true]
  rw [e3]
  simp only
  rw [more_no hn kid _ h3]
  rfl
theorem rd_group {l : List ByteArray} {P C : TokD} {M Y : List TokD} {c : CondD} {m : Nat} (hP : sy P = gOpen) (hC : sy C = gClose) (h : Rd l (M ++ C :: Y) (disj m) c (C :: Y)) : Rd l (P :: (M ++ C :: Y)) (factor (m + 1)) c Y := fun s hs => by
  obtain ⟨s1, e1, h1⟩ := rd_take (g := gOpen) hP s hs
  obtain ⟨s2, e2, h2⟩ := h s1 h1
  obtain ⟨s3, e3, h3⟩ := rd_take (g := gClose) hC s2 h2
  refine ⟨s3, ?_, h3⟩
  have d1 : (gOpen == gNot) = false := by decide
  have d2 : (gOpen == gOpen) = true := by decide
  unfold factor
  rw [at_next hs, hP]
  simp only [d1, d2, Bool.false_eq_true, if_false, if_true]
  rw [e1]
  simp only [R.bind]
  have e2' : series (series (factor m) gAnd 3) gOr 4 s1 = .ok c s2 := e2
  rw [e2']
  simp only
  rw [e3]
theorem rd_not {l : List ByteArray} {N : TokD} {Y Z : List TokD} {c : CondD} {m : Nat} (hN : sy N = gNot) (h : Rd l Y (factor m) c Z) : Rd l (N :: Y) (factor (m + 1)) (.mk 5 0 0 0 [c]) Z := fun s hs => by
  obtain ⟨s1, e1, h1⟩ := rd_take (g := gNot) hN s hs
  obtain ⟨s2, e2, h2⟩ := h s1 h1
  refine ⟨s2, ?_, h2⟩
  have d1 : (gNot == gNot) = true := by decide
  unfold factor
  rw [at_next hs, hN]
  simp only [d1, if_true]
  rw [e1]
  simp only [R.bind]
  rw [e2]
/-- The whole of a text's tokens, up to its end. -/
theorem rd_whole {l : List ByteArray} {Y : List TokD} {E : TokD} {c : CondD} {s : S} (hE : sy E = sEND) (hs : At l Y s) (h : Rd l Y (disj (Y.length + 1)) c [E]) : ∃ s2, onlyCond s = if 20 < deep c then .bad (next s).p 5 else .ok c s2 := by
  obtain ⟨s1, e1, h1⟩ := h s hs
  refine ⟨{ s1 with rest := [] }, ?_⟩
  unfold onlyCond lastCond
  rw [hs.1, e1]
  simp only [R.bind]
  have ht : takeLast s1 = .ok () { s1 with rest := [] } := by
    unfold takeLast take takeIf
    rw [isS_one, at_next h1, decide_eq_true hE, if_pos rfl]
    simp only [R.bind, h1.1, List.tail_cons, List.isEmpty_nil, if_true]
  rw [ht]
variable {l : List ByteArray} {s sa sb : S} {c d : CondD} {sta stb : S} {ra rb : List TokD} {ea eb : TokD}
/-- What a condition that is read whole is in parentheses. -/
theorem rd_in {ra' : List TokD} {P C : TokD} {Y : List TokD} {m : Nat} (hl : sa.locs = l) (hoa : sa.opn = false) (ha : onlyCond sa = .ok c sta) (hra : sa.rest = ra ++ [ea]) (hsa : SameT AnyP ra ra') (hP : sy P = gOpen) (hC : sy C = gClose) (hm : sa.rest.length < m) : Rd l (P :: (ra' ++ C :: Y)) (factor (m + 1)) c Y := by
  obtain ⟨r, e, h1, _, _, _, h⟩ := whole hoa ha
  obtain ⟨rfl, h2⟩ : r = ra ∧ [e] = [ea] := List.append_inj' (h1.symm.trans hra) rfl
  refine rd_group hP hC fun s hs => ?_
  obtain ⟨s1, e1, r1, l1, o1⟩ := h (C :: Y) ra' s m ⟨C, Y, rfl, by rw [hC]; decide, by rw [hC]; decide⟩ hs.1 hsa (hs.2.1.trans hl.symm) hs.2.2 hm
  exact ⟨s1, e1, r1, l1.trans hl, o1⟩
section
variable (hla : sa.locs = l) (hoa : sa.opn = false) (ha : onlyCond sa = .ok c sta) (hra : sa.rest = ra ++ [ea])
include hla hoa ha hra
theorem join_not {ra' : List TokD} {N P C E : TokD} (hs : At l (N :: P :: (ra' ++ [C, E])) s) (hsa : SameT AnyP ra ra') (hN : sy N = gNot) (hP : sy P = gOpen) (hC : sy C = gClose) (hE : sy E = sEND) :
    (deep c < 20 → ∃ s1, onlyCond s = .ok (.mk 5 0 0 0 [c]) s1) ∧ (20 ≤ deep c → ∃ p, onlyCond s = .bad p 5) := by
  have hlen : sa.rest.length = ra'.length + 1 := by rw [hra, ← hsa.length]; simp
  have R1 : Rd l (P :: (ra' ++ C :: [E])) (factor (ra'.length + 4)) c [E] := rd_in hla hoa ha hra hsa hP hC (by omega)
  have R2 : Rd l (N :: P :: (ra' ++ [C, E])) (disj ((N :: P :: (ra' ++ [C, E])).length + 1)) (.mk 5 0 0 0 [c]) [E] := by
    have e : (N :: P :: (ra' ++ [C, E])).length + 1 = ra'.length + 4 + 1 := by simp
    rw [e]
    exact rd_one (rd_one (rd_not hN R1) (by rw [hE]; decide)) (by rw [hE]; decide)
  obtain ⟨s2, hw⟩ := rd_whole hE hs R2
  have hd : deep (.mk 5 0 0 0 [c]) = deep c + 1 := by simp [deep, deepL]
  rw [hd] at hw
  exact ⟨fun h => ⟨_, by rw [hw, if_neg (by omega)]⟩, fun h => ⟨_, by rw [hw, if_pos (by omega)]⟩⟩
variable (hlb : sb.locs = l) (hob : sb.opn = false) (hb : onlyCond sb = .ok d stb) (hrb : sb.rest = rb ++ [eb])
include hlb hob hb hrb
theorem join_two {ra' rb' : List TokD} {P C A P2 C2 E : TokD} (hs : At l (P :: (ra' ++ C :: A :: P2 :: (rb' ++ [C2, E]))) s) (hsa : SameT AnyP ra ra') (hsb : SameT AnyP rb rb') (hP : sy P = gOpen) (hC : sy C = gClose) (hP2 : sy P2 = gOpen) (hC2 : sy C2 = gClose) (hE : sy E = sEND)
    (k : Int) (hA : (sy A = gAnd ∧ k = 3) ∨ (sy A = gOr ∧ k = 4)) :
    (max (deep c) (deep d) < 20 → ∃ s1, onlyCond s = .ok (.mk k 0 0 0 [c, d]) s1) ∧ (20 ≤ max (deep c) (deep d) → ∃ p, onlyCond s = .bad p 5) := by
  have hlen : sa.rest.length = ra'.length + 1 := by rw [hra, ← hsa.length]; simp
  have hlen2 : sb.rest.length = rb'.length + 1 := by rw [hrb, ← hsb.length]; simp
  have e : (P :: (ra' ++ C :: A :: P2 :: (rb' ++ [C2, E]))).length + 1 = (ra'.length + rb'.length + 6) + 1 := by simp; omega
  have R1 : Rd l (P :: (ra' ++ C :: A :: P2 :: (rb' ++ [C2, E]))) (factor ((ra'.length + rb'.length + 6) + 1)) c (A :: P2 :: (rb' ++ [C2, E])) := rd_in hla hoa ha hra hsa hP hC (by omega)
  have R2 : Rd l (P2 :: (rb' ++ C2 :: [E])) (factor ((ra'.length + rb'.length + 6) + 1)) d [E] := rd_in hlb hob hb hrb hsb hP2 hC2 (by omega)
  have R3 : Rd l (P :: (ra' ++ C :: A :: P2 :: (rb' ++ [C2, E]))) (disj ((P :: (ra' ++ C :: A :: P2 :: (rb' ++ [C2, E]))).length + 1)) (.mk k 0 0 0 [c, d]) [E] := by
    rw [e]
    rcases hA with ⟨hA, rfl⟩ | ⟨hA, rfl⟩
    · exact rd_one (rd_two R1 hA R2 (by rw [hE]; decide) (by simp)) (by rw [hE]; decide)
    · exact rd_two (rd_one R1 (by rw [hA]; decide)) hA (rd_one R2 (by rw [hE]; decide)) (by rw [hE]; decide) (by simp)
  obtain ⟨s2, hw⟩ := rd_whole hE hs R3
  have hd : deep (.mk k 0 0 0 [c, d]) = max (deep c) (deep d) + 1 := by simp [deep, deepL]
  rw [hd] at hw
  exact ⟨fun h => ⟨_, by rw [hw, if_neg (by omega)]⟩, fun h => ⟨_, by rw [hw, if_pos (by omega)]⟩⟩
end
end PX
end Go.Proofs.Ytglbmiadgdadfaa
end

section
/- The parser's lines: what stands of the program that has been read. -/
namespace Go.Proofs.Ytglbmiadgdadfaa
open Go.RowKit Go.Shelf

attribute [local go_sem] Oper.semAt_some
namespace PP
/-- The types of the rows that the reading of a line makes. -/
def T2 : List TypeId := [9, 5, 42, 46]
theorem T1_T2 : ∀ t ∈ T1, t ∈ T2 := fun t h => by
  simp only [T1, List.mem_cons, List.not_mem_nil, or_false] at h
  rcases h with rfl | rfl <;> simp [T2]
theorem condT2 : 24 ∉ T2 := by simp [T2]
def cellsI (l : List PX.InsD) : List Value := l.flatMap fun x => (insC x).toList
theorem cellsI_length : ∀ l : List PX.InsD, (cellsI l).length = l.length * 10
  | [] => rfl
  | y :: ys => by
    have := cellsI_length ys
    unfold cellsI at *
    rw [List.flatMap_cons, List.length_append, this, List.length_cons]
    show 10 + _ = _
    omega
theorem cellsI_snoc (l : List PX.InsD) (x : PX.InsD) : cellsI (l ++ [x]) = cellsI l ++ (insC x).toList := by unfold cellsI; simp
/-- The threads' rows: each its own. -/
def ThrR (W : World) (base : Nat) (vs : List Value) (l : List (List PX.InsD)) : Prop :=
  vs.length = l.length ∧ (∀ (i : Nat) (u : Value) (k : List PX.InsD), vs[i]? = some u → l[i]? = some k → W.ownsRow base 46 10 u k.length (cellsI k)) ∧
    ∀ (i j : Nat) (u u' : Value) (g : Nat), i < j → vs[i]? = some u → vs[j]? = some u' → u.ownBlock = some g → u'.ownBlock ≠ some g
def ThrM (W : World) (base : Nat) (v : Value) (l : List (List PX.InsD)) : Prop :=
  ∃ vs : List Value, W.ownsRow base 42 1 v l.length vs ∧ ThrR W base vs l
theorem ThrR.keep {W W' : World} {base : Nat} {vs : List Value} {l : List (List PX.InsD)} (h : ThrR W base vs l) (hW : ∀ (g : Nat) (cur : Array Value), base ≤ g → W.heap[g]? = some (.cells cur 46 (0, 0)) → W'.heap[g]? = some (.cells cur 46 (0, 0))) : ThrR W' base vs l :=
  ⟨h.1, fun i u k hu hk => own_sameT (h.2.1 i u k hu hk) hW, h.2.2⟩
theorem ThrM.keep {W W' : World} {base : Nat} {v : Value} {l : List (List PX.InsD)} (h : ThrM W base v l) (hW : ∀ (g : Nat) (cur : Array Value) (t : TypeId), t ∈ [42, 46] → base ≤ g → W.heap[g]? = some (.cells cur t (0, 0)) → W'.heap[g]? = some (.cells cur t (0, 0))) : ThrM W' base v l := by
  obtain ⟨vs, h1, h2⟩ := h
  exact ⟨vs, own_sameT h1 fun g cur hg hh => hW g cur _ (by simp) hg hh, h2.keep fun g cur hg hh => hW g cur _ (by simp) hg hh⟩
theorem ThrM.up {W W' : World} {b : Nat} {T : List TypeId} {v : Value} {l : List (List PX.InsD)} (h : ThrM W (b + 1) v l) (F : Fr T b W W') (h1 : 42 ∉ T) (h2 : 46 ∉ T) : ThrM W' (b + 1) v l :=
  h.keep fun g cur t ht hg hh => F.box hh (by omega) (by
    simp only [List.mem_cons, List.not_mem_nil, or_false] at ht
    rcases ht with rfl | rfl
    · exact h1
    · exact h2)
theorem ThrM.zero (W : World) (base : Nat) : ThrM W base (.slice none 0 0) [] :=
  ⟨[], World.ownsRow_nil _ _ _ _, rfl, fun i u k hu => by simp at hu, fun i j u u' g _ hu => by simp at hu⟩
/-- A thread more, without instructions. -/
theorem ThrR.push {W : World} {base : Nat} {vs : List Value} {l : List (List PX.InsD)} (h : ThrR W base vs l) : ThrR W base (vs ++ [.slice none 0 0]) (l ++ [[]]) := by
  refine ⟨by simp [h.1], fun i u k hu hk => ?_, fun i j u u' g hij hu hu' hg => ?_⟩
  · by_cases hi : i < vs.length
    · rw [List.getElem?_append_left hi] at hu
      rw [List.getElem?_append_left (by rw [← h.1]; exact hi)] at hk
      exact h.2.1 i u k hu hk
    · have e1 : i = vs.length := by
        have := (List.getElem?_eq_some_iff.1 hu).1
        simp at this; omega
      subst e1
      rw [List.getElem?_append_right (Nat.le_refl _)] at hu
      rw [h.1, List.getElem?_append_right (Nat.le_refl _)] at hk
      simp at hu hk
      subst hu; subst hk
      exact World.ownsRow_nil _ _ _ _
  · by_cases hj : j < vs.length
    · rw [List.getElem?_append_left hj] at hu'
      rw [List.getElem?_append_left (by omega)] at hu
      exact h.2.2 i j u u' g hij hu hu' hg
    · have e1 : j = vs.length := by
        have := (List.getElem?_eq_some_iff.1 hu').1
        simp at this; omega
      subst e1
      rw [List.getElem?_append_right (Nat.le_refl _)] at hu'
      simp at hu'
      subst hu'
      simp [Value.ownBlock]
/-- An instruction more in the last thread. -/
theorem ThrR.last {W W' : World} {base : Nat} {vs : List Value} {u u' : Value} {l : List (List PX.InsD)} {k k' : List PX.InsD} (h : ThrR W base (vs ++ [u]) (l ++ [k])) (hlen : vs.length = l.length)
    (hG : ∀ (g : Nat) (cur : Array Value), base ≤ g → u.ownBlock ≠ some g → W.heap[g]? = some (.cells cur 46 (0, 0)) → W'.heap[g]? = some (.cells cur 46 (0, 0)))
    (hB : u'.ownBlock = u.ownBlock ∨ ∃ n, u'.ownBlock = some n ∧ W.heap.size ≤ n) (ho : W'.ownsRow base 46 10 u' k'.length (cellsI k')) : ThrR W' base (vs ++ [u']) (l ++ [k']) := by
  have hu : (vs ++ [u])[vs.length]? = some u := by rw [List.getElem?_append_right (Nat.le_refl _)]; simp
  refine ⟨by simp [hlen], fun i v m hv hm => ?_, fun i j v v' g hij hv hv' hg => ?_⟩
  · by_cases hi : i < vs.length
    · rw [List.getElem?_append_left hi] at hv
      rw [List.getElem?_append_left (by omega)] at hm
      have hv2 : (vs ++ [u])[i]? = some v := by rw [List.getElem?_append_left hi]; exact hv
      have hm2 : (l ++ [k])[i]? = some m := by rw [List.getElem?_append_left (by omega)]; exact hm
      have o1 := h.2.1 i v m hv2 hm2
      refine ⟨o1.1, o1.2.imp id ?_⟩
      rintro ⟨g, cap, cur, rfl, h1, h2, h3⟩
      exact ⟨g, cap, cur, rfl, h1, hG g cur h1 (h.2.2 i vs.length _ u g hi hv2 hu rfl) h2, h3⟩
    · have e1 : i = vs.length := by
        have := (List.getElem?_eq_some_iff.1 hv).1
        simp at this; omega
      subst e1
      rw [List.getElem?_append_right (Nat.le_refl _)] at hv
      rw [hlen, List.getElem?_append_right (Nat.le_refl _)] at hm
      simp at hv hm
      subst hv; subst hm
      exact ho
  · by_cases hj : j < vs.length
    · rw [List.getElem?_append_left hj] at hv'
      rw [List.getElem?_append_left (by omega)] at hv
      exact h.2.2 i j v v' g hij (by rw [List.getElem?_append_left (by omega)]; exact hv) (by rw [List.getElem?_append_left hj]; exact hv') hg
    · have e1 : j = vs.length := by
        have := (List.getElem?_eq_some_iff.1 hv').1
        simp at this; omega
      subst e1
      rw [List.getElem?_append_right (Nat.le_refl _)] at hv'
      simp at hv'
      subst hv'
      rw [List.getElem?_append_left (by omega)] at hv
      have hv2 : (vs ++ [u])[i]? = some v := by rw [List.getElem?_append_left (by omega)]; exact hv
      rcases hB with e | ⟨n, e, hn⟩
      · rw [e]; exact h.2.2 i vs.length v u g hij hv2 hu hg
      · rw [e]
        have hm : ∃ m, (l ++ [k])[i]? = some m := ⟨_, List.getElem?_eq_getElem (by simp; omega)⟩
        obtain ⟨m, hm⟩ := hm
        have := (h.2.1 i v m hv2 hm).lt g hg
        intro e2
        cases e2
        omega
/-- Block b holds the parser of a program; all that it has read stands. -/
structure LT (W : World) (b : Nat) (s : PX.S) (h : Hd) : Prop where
  ls : LS W b s h
  opn : s.opn = true
  thr : ThrM W (b + 1) h.vt s.threads
  cnd : ∃ x : CV, h.c0 = .int .u8 x.k ∧ h.c1 = .int .u8 x.t ∧ h.c2 = .int .u8 x.n ∧ h.c3 = .int .u8 x.v ∧ h.c4 = x.u ∧ CondM W (fun g => b < g) x s.cond
theorem LT.up {W W' : World} {b : Nat} {T : List TypeId} {s s' : PX.S} {h : Hd} {vl vi : Value} (L : LT W b s h) (F : Fr T b W W') (h1 : 42 ∉ T) (h2 : 46 ∉ T) (h3 : 24 ∉ T) (m : PX.Lv s s') (P : LS W' b s' { h with vl := vl, vi := vi }) : LT W' b s' { h with vl := vl, vi := vi } := by
  obtain ⟨x, a0, a1, a2, a3, a4, a5⟩ := L.cnd
  refine ⟨P, by rw [m.1]; exact L.opn, ?_, x, a0, a1, a2, a3, a4, ?_⟩
  · rw [m.2.2.1]; exact L.thr.up F h1 h2
  · rw [m.2.2.2.2.1]
    exact CondM.mono (fun g C hg hh => F.box hh (Nat.ne_of_gt hg) h3) (fun _ hg => hg) _ _ a5
/-- What the reading of a line answers. -/
def EndsP (W : World) (b : Nat) (h : Hd) (r : PX.R Unit) (e : Ending) (W' : World) : Prop :=
  Fr T2 b W W' ∧ match r with
    | .ok _ s => e = .returned (.tuple #[]) ∧ ∃ h', h'.g = h.g ∧ LT W' b s h'
    | .bad p x => e = failE p x
/-- What has come about since the world w: the parser of a program stands at s. -/
structure TP (w : World) (b : Nat) (h : Hd) (W : World) (s : PX.S) (g : Hd) : Prop where
  fr : Fr T2 b w W
  lt : LT W b s g
  hg : g.g = h.g
theorem TP.start {w : World} {b : Nat} {s : PX.S} {h : Hd} (L : LT w b s h) : TP w b h w s h := ⟨.refl _ _ _, L, rfl⟩
theorem TP.step0 {w W W' : World} {b : Nat} {s s' : PX.S} {h g : Hd} (T : TP w b h W s g) (F : Fr [] b W W') (m : Mv s s') (P : PS W' b s' g) : TP w b h W' s' g :=
  ⟨T.fr.trans F.up, T.lt.up (vl := g.vl) (vi := g.vi) F (by simp) (by simp) (by simp) (by obtain ⟨l, rfl⟩ := m; exact ⟨rfl, rfl, rfl, rfl, rfl, rfl, rfl⟩) (T.lt.ls.up F m P), T.hg⟩
theorem TP.below {w W W' : World} {b : Nat} {s : PX.S} {h g : Hd} (T : TP w b h W s g) (B : Below W.heap.size W W') : TP w b h W' s g :=
  T.step0 (.of_below B) (Mv.refl s) (T.lt.ls.ps.below B)
theorem TP.alloc {w W : World} {b : Nat} {s : PX.S} {h g : Hd} (T : TP w b h W s g) (o : Obj) : TP w b h (W.alloc o) s g := T.below ((Below.refl _ W).alloc (Nat.le_refl _) o)
theorem TP.step1 {w W W' : World} {b : Nat} {s s' : PX.S} {h g : Hd} {vl vi : Value} (T : TP w b h W s g) (F : Fr T1 b W W') (m : PX.Lv s s') (P : LS W' b s' { g with vl := vl, vi := vi }) : TP w b h W' s' { g with vl := vl, vi := vi } :=
  ⟨T.fr.trans (F.mono T1_T2), T.lt.up F (by simp [T1]) (by simp [T1]) condT1 m P, T.hg⟩
theorem TP.ok {w W : World} {b : Nat} {s : PX.S} {h g : Hd} {r : PX.R Unit} (T : TP w b h W s g) (hr : r = .ok () s) : EndsP w b h r (.returned (.tuple #[])) W := by
  subst hr
  exact ⟨T.fr, rfl, g, T.hg, T.lt⟩
theorem EndsP.bad {w W : World} {b : Nat} {h : Hd} {r : PX.R Unit} {p x : Int} (F : Fr T2 b w W) (hr : r = .bad p x) : EndsP w b h r (failE p x) W := by
  subst hr; exact ⟨F, rfl⟩
/-- A call of a part that reads a line. -/
theorem callP {P : Program} {f : Nat} {args : Array Value} {W : World} {b : Nat} {g : Hd} {r : PX.R Unit} {Q : Ending → World → Prop} (hc : Calls P f args W (EndsP W b g r))
    (hok : ∀ s' W' g', r = .ok () s' → Fr T2 b W W' → g'.g = g.g → LT W' b s' g' → Q (.returned (.tuple #[])) W') (hbad : ∀ p x W', r = .bad p x → Fr T2 b W W' → Q (failE p x) W') : Calls P f args W Q := by
  refine hc.mono ?_
  rintro e W' ⟨F, E⟩
  rcases r with ⟨a, s'⟩ | ⟨p, x⟩
  · obtain ⟨rfl, g', hg, L⟩ := E; exact hok s' W' g' rfl F hg L
  · have E' : e = failE p x := E
    subst E'; exact hbad p x W' rfl F
/-- A cell of the parser is written. -/
theorem PS.row {W : World} {b : Nat} {s s' : PX.S} {h h' : Hd} (p : PS W b s h) (j : Nat) (v : Value) (hr : s'.rest = s.rest) (hg : h'.g = h.g) (hC : ∀ vr, (psC vr s h).setIfInBounds j v = psC vr s' h') : PS (W.setCell ⟨b, j, none⟩ v) b s' h' := by
  obtain ⟨vr, h1, h2, h3, h4⟩ := p
  refine ⟨vr, ?_, ?_, by rw [hr]; exact h3, by rw [hg]; simpa using h4⟩
  · rw [heap_setCell_same _ b j _ _ v h1, hC]
  · rw [hr, hg]
    exact h2.same fun C hC' => (Below.heap_setCell W ⟨b, j, none⟩ v h.g (by rintro rfl; rw [h1] at hC'; cases hC')).trans hC'
theorem LS.row {W : World} {b : Nat} {s s' : PX.S} {h h' : Hd} (L : LS W b s h) (j : Nat) (v : Value) (hr : s'.rest = s.rest) (hg : h'.g = h.g) (hC : ∀ vr, (psC vr s h).setIfInBounds j v = psC vr s' h') (h1 : s'.locs = s.locs) (h2 : s'.opn = s.opn) (h3 : s'.init = s.init) (h4 : h'.vl = h.vl) (h5 : h'.vi = h.vi) : LS (W.setCell ⟨b, j, none⟩ v) b s' h' := by
  refine ⟨L.ps.row j v hr hg hC, ?_, fun ho => ?_⟩
  · rw [h1, h2, h4]
    refine ⟨fun ho => ⟨own_sameT (L.locs.1 ho).1 fun g cur hg hh => (Below.heap_setCell W ⟨b, j, none⟩ v g (by show g ≠ b; omega)).trans hh, (L.locs.1 ho).2⟩, fun ho => ?_⟩
    obtain ⟨e1, a, cap, e2, e3⟩ := L.locs.2 ho
    refine ⟨e1, a, cap, e2, fun h0 => ?_⟩
    obtain ⟨i, off, D, e4, e5, e6, e7⟩ := e3 h0
    exact ⟨i, off, D, e4, e5, (Below.heap_setCell W ⟨b, j, none⟩ v i (by show i ≠ b; omega)).trans e6, e7⟩
  · rw [h1, h3, h5]
    exact own_sameT (L.init (h2 ▸ ho)) fun g cur hg hh => (Below.heap_setCell W ⟨b, j, none⟩ v g (by show g ≠ b; omega)).trans hh
theorem TP.row {w W : World} {b : Nat} {s s' : PX.S} {h g g' : Hd} (T : TP w b h W s g) (j : Nat) (v : Value) (hr : s'.rest = s.rest) (hg : g'.g = g.g) (hC : ∀ vr, (psC vr s g).setIfInBounds j v = psC vr s' g') (h1 : s'.locs = s.locs) (h2 : s'.opn = s.opn) (h3 : s'.init = s.init) (h4 : g'.vl = g.vl) (h5 : g'.vi = g.vi)
    (h6 : s'.threads = s.threads) (h7 : g'.vt = g.vt) (h8 : s'.cond = s.cond) (h9 : g'.c0 = g.c0 ∧ g'.c1 = g.c1 ∧ g'.c2 = g.c2 ∧ g'.c3 = g.c3 ∧ g'.c4 = g.c4) : TP w b h (W.setCell ⟨b, j, none⟩ v) s' g' := by
  obtain ⟨x, a0, a1, a2, a3, a4, a5⟩ := T.lt.cnd
  refine ⟨T.fr.setB j v, ⟨T.lt.ls.row j v hr hg hC h1 h2 h3 h4 h5, by rw [h2]; exact T.lt.opn, ?_, x, ?_, ?_, ?_, ?_, ?_, ?_⟩, hg.trans T.hg⟩
  · rw [h6, h7]
    exact T.lt.thr.keep fun i cur t _ hi hh => (Below.heap_setCell W ⟨b, j, none⟩ v i (by show i ≠ b; omega)).trans hh
  · rw [h9.1]; exact a0
  · rw [h9.2.1]; exact a1
  · rw [h9.2.2.1]; exact a2
  · rw [h9.2.2.2.1]; exact a3
  · rw [h9.2.2.2.2]; exact a4
  · rw [h8]
    exact CondM.mono (fun i C hi hh => (Below.heap_setCell W ⟨b, j, none⟩ v i (Nat.ne_of_gt hi)).trans hh) (fun _ hi => hi) _ _ a5
end PP
end Go.Proofs.Ytglbmiadgdadfaa
end
