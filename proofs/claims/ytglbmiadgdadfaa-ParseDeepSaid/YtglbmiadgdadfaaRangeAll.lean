/- A range over a function whose body never leaves the loop, over an iterator that itself ranges over functions: the caller's invariant may be carried through the iterator's own book-keeping. -/
import Derived.RangeFuncNested
import Derived.RangeFuncBound
import Derived.RangeFuncLeaves
import Derived.Test.YtglbmiadgdadfaaProg
namespace Go.Proofs.Ytglbmiadgdadfaa
open Go.RowKit

/-- A row of elements of type e: what a loop's body may write into though it was laid while the loop ran. -/
def soft (e : TypeId) (o : Obj) : Prop := ∃ cs fr, o = .cells cs e fr
/-- The blocks of kp, and those from m on that are no rows of e, lie as they lay. -/
structure Keep (e : TypeId) (kp : Nat → Prop) (m : Nat) (W W' : World) : Prop where
  os : W'.os = W.os
  tape : W'.tape = W.tape
  output : W'.output = W.output
  size : W.heap.size ≤ W'.heap.size
  block : ∀ k o, (kp k ∨ (m ≤ k ∧ ¬ soft e o)) → W.heap[k]? = some o → W'.heap[k]? = some o

variable {e : TypeId} {kp : Nat → Prop} {m : Nat}
theorem Keep.refl (W : World) : Keep e kp m W W := ⟨rfl, rfl, rfl, Nat.le_refl _, fun _ _ _ h => h⟩
theorem Keep.trans {A B C : World} (h : Keep e kp m A B) (k : Keep e kp m B C) : Keep e kp m A C :=
  ⟨k.os.trans h.os, k.tape.trans h.tape, k.output.trans h.output, Nat.le_trans h.size k.size, fun i o hi hs => k.block i o hi (h.block i o hi hs)⟩
theorem Keep.mono {A B : World} (h : Keep e kp m A B) {m' : Nat} (hm : m ≤ m') : Keep e kp m' A B :=
  ⟨h.os, h.tape, h.output, h.size, fun i o hi hs => h.block i o (hi.imp_right (And.imp_left (Nat.le_trans hm))) hs⟩
theorem Keep.weaken {A B : World} (h : Keep e kp m A B) {kp' : Nat → Prop} {m' : Nat} (hk : ∀ k, kp' k → kp k) (hm : m ≤ m') : Keep e kp' m' A B :=
  ⟨h.os, h.tape, h.output, h.size, fun i o hi hs => h.block i o (hi.imp (hk i) (And.imp_left (Nat.le_trans hm))) hs⟩
theorem Keep.below {A B : World} (h : Keep e kp m A B) {n : Nat} (hk : ∀ k, k < n → kp k) (hn : n ≤ A.heap.size) : Below n A B :=
  ⟨h.os, h.tape, h.output, h.size, fun k hlt => by
    obtain ⟨o, ho⟩ : ∃ o, A.heap[k]? = some o := ⟨A.heap[k]'(by omega), Array.getElem?_eq_getElem (by omega)⟩
    rw [h.block k o (.inl (hk k hlt)) ho, ho]⟩
theorem Keep.putObj (W : World) (l : Nat) (o : Obj) (h1 : ¬ kp l) (h2 : l < m) : Keep e kp m W (W.putObj l o) :=
  ⟨rfl, rfl, rfl, by simp, fun k o' hk h => (World.putObj_heap_other (by rintro rfl; rcases hk with hk | hk; exact h1 hk; omega)).trans h⟩
theorem Keep.setCell (W : World) (a : Addr) (v : Value) (h1 : ¬ kp a.block) (h2 : a.block < m) : Keep e kp m W (W.setCell a v) :=
  ⟨rfl, rfl, rfl, by simp [World.setCell], fun k o' hk h => (Below.heap_setCell W a v k (by rintro rfl; rcases hk with hk | hk; exact h1 hk; omega)).trans h⟩
theorem Keep.alloc (W : World) (o : Obj) : Keep e kp m W (W.alloc o) :=
  ⟨rfl, rfl, rfl, by simp, fun k _ _ h => (Below.heap_alloc W o k (Array.getElem?_eq_some_iff.1 h).1).trans h⟩
theorem Keep.drew (W : World) : Keep e kp m W W.drew := ⟨rfl, rfl, rfl, Nat.le_refl _, fun _ _ _ h => h⟩
theorem Keep.of_below {W W' : World} (h : Below W.heap.size W W') : Keep e kp m W W' := ⟨h.os, h.tape, h.output, h.size, fun k _ _ hs => (h.block k (Array.getElem?_eq_some_iff.1 hs).1).trans hs⟩
/-- What an append leaves: its own row alone may have turned, a row of e. -/
theorem Keep.of_grown {W W' : World} {row : Option Nat} (h : W.grownBy W' row) (hr : ∀ k, row = some k → ¬ kp k ∧ ∀ o, W.heap[k]? = some o → soft e o) : Keep e kp m W W' :=
  ⟨h.os, h.tape, h.output, h.size, fun k o hk hs => (h.block k (Array.getElem?_eq_some_iff.1 hs).1 (fun e' => by
    obtain ⟨h1, h2⟩ := hr k e'.symm
    rcases hk with hk | hk
    · exact h1 hk
    · exact hk.2 (h2 o hs))).trans hs⟩
theorem Keep.boxed {A B : World} (h : Keep e kp m A B) {b : Nat} {t : TypeId} {v : Value} (hb : Boxed A b t v) (hm : m ≤ b) (ht : t ≠ e) : Boxed B b t v :=
  h.block b _ (.inr ⟨hm, fun ⟨_, _, h⟩ => ht (by cases h; rfl)⟩) hb
theorem Keep.deferred {A B : World} (h : Keep e kp m A B) {b : Nat} {x : Option (List Deferred)} (hb : A.heap[b]? = some (.deferred x)) (hm : m ≤ b) : B.heap[b]? = some (.deferred x) :=
  h.block b _ (.inr ⟨hm, fun ⟨_, _, h⟩ => by cases h⟩) hb
theorem Keep.loop {A B : World} (h : Keep e kp m A B) {b : Nat} {x : Loop} (hb : A.heap[b]? = some (.loop x)) (hm : m ≤ b) : B.heap[b]? = some (.loop x) :=
  h.block b _ (.inr ⟨hm, fun ⟨_, _, h⟩ => by cases h⟩) hb

theorem OwnFrom.mono {β : Type} {B B' : Nat} {I : β → World → Prop} (h : OwnFrom B I) (hB : B ≤ B') : OwnFrom B' I :=
  fun s W W' row hs hg hr => h s W W' row hs hg fun r e => ⟨Nat.le_trans hB (hr r e).1, (hr r e).2⟩

/-- What an iterator promises that hands over the whole list L. -/
def GivesAll {α : Type} (F : Fence) (n : Nat) (P : Program) (gf : Nat) (lb : Array Value) (encs : α → Array Value) (e : TypeId) (kp : Nat → Prop) (L : List α) (w : World) : Prop :=
  ∀ (l : Nat) (J : List α → World → Prop) (W : World), Below w.heap.size w W → OwnFrom W.heap.size J →
    (∀ pre x W1, J pre W1 → pre.length < L.length → YieldAt F (n - 1) P l (encs x) W1 fun en W' => en = .returned (.bool true) ∧ J (pre ++ [x]) W' ∧ Keep e kp W.heap.size W1 W') → J [] W →
    CallsIn F n P gf (#[.func (.yield l) #[] #[]] ++ lb) W fun e W' => (∃ v, e = .returned v) ∧ J L W'

/-- How a round of such a loop ends. -/
def roundEnd {α : Type} (e : TypeId) (kp : Nat → Prop) (m : Nat) (I : List α → World → Prop) (xs : List α) (W : World) : Exit → Act → World → Prop
  | .normal, _, W' => Keep e kp m W W' ∧ I xs W'
  | _, _, _ => False

theorem range_all {F : Fence} {n : Nat} {P : Program} {w : World} {α : Type} {g : Operand} {ps : Array Tmp} {assign body : Code} {Q : Exit → Act → World → Prop} {a : Act}
    (hro : F.round = none) (h1 : 1 ≤ n) {gf : Nat} {lb : Array Value} (hg : a.eval g = .func (.func gf) #[] lb) (hFg : F.fn gf) (eg : ∀ args w, (callFunc gf args).run P w = .ok (.enter gf args) w)
    {encs : α → Array Value} {e : TypeId} {kp : Nat → Prop} {L : List α} (hseq : GivesAll F (n - 1) P gf lb encs e kp L w) (hkp : ∀ k, kp k → k < w.heap.size) (hps : ∀ x, (encs x).size = ps.size)
    (I : List α → World → Prop) (hI : OwnFrom w.heap.size I) (h0 : I [] w) (a₁ : α → Act)
    (hassign : ∀ (l : Nat) (x : α) (W : World) (K : Act → World → Prop), K (a₁ x) W →
      assign.wpIn (F.inRound l) (n - 1 - 1) P (Exit.then K (fun _ _ _ => False)) { tmps := (ps.zip (encs x)).foldl (fun t (p, v) => t.setIfInBounds p v) a.tmps, defers := [] } W)
    (hbody : ∀ (l : Nat) (pre : List α) (x : α) (W : World), I pre W → pre.length < L.length → body.wpIn (F.inRound l) (n - 1 - 1) P (roundEnd e kp w.heap.size I (pre ++ [x]) W) (a₁ x) W)
    (hdone : ∀ (D : Nat) (W : World), w.heap.size ≤ D → I L W → W.heap[D]? = some (.deferred (some [])) → Q .normal { a with defers := { target := .collected D, args := #[] } :: a.defers } W) :
    (Code.rangeFunc g ps assign body).wpIn F n P Q a w := by
  refine wpIn_rangeFunc fun fn hfn => ?_
  rw [hro]
  obtain ⟨rc, hrc⟩ : ∃ rc : LoopState → Loop, rc = fun st => { state := st, pending := none, fn, tmps := a.tmps, params := ps, assign, body, defers := w.heap.size } := ⟨_, rfl⟩
  have hen := run_enterLoop_outer (P := P) (w := w) fn a.tmps ps assign body
  have hloop : ((w.alloc (.deferred (some []))).alloc (.loop (rc .ready))).heap[w.heap.size + 1]? = some (.loop (rc .ready)) := by
    have := World.alloc_heap_new (w.alloc (.deferred (some []))) (.loop (rc .ready)); rwa [World.size_alloc] at this
  have hdef : ((w.alloc (.deferred (some []))).alloc (.loop (rc .ready))).heap[w.heap.size]? = some (.deferred (some [])) :=
    (Below.heap_alloc _ _ _ (by simp)).trans (World.alloc_heap_new w _)
  have hIn : I [] ((w.alloc (.deferred (some []))).alloc (.loop (rc .ready))) := hI.alloc _ (hI.alloc _ h0)
  have hbl : Below w.heap.size w ((w.alloc (.deferred (some []))).alloc (.loop (rc .ready))) := ((Below.refl _ w).alloc (Nat.le_refl _) _).alloc (by simp) _
  have hsz : ((w.alloc (.deferred (some []))).alloc (.loop (rc .ready))).heap.size = w.heap.size + 2 := by simp
  rw [show ({ state := .ready, pending := none, fn, tmps := a.tmps, params := ps, assign, body, defers := w.heap.size } : Loop) = rc .ready by rw [hrc]] at hen
  generalize (w.alloc (.deferred (some []))).alloc (.loop (rc .ready)) = W1 at *
  refine ⟨_, _, W1, { target := .fn (.func gf) lb, args := #[.func (.yield (w.heap.size + 1)) #[] #[]] }, W1, gf, #[.func (.yield (w.heap.size + 1)) #[] #[]] ++ lb, W1, hen, ?_, ?_, ?_, fun _ => h1, ?_⟩
  · simp only [resolve, hg]
    simp [go_sem]
  · intro f' hf'
    simp [Target.leads] at hf'
    subst hf'
    exact hFg
  · simp [invoke, go_sem, eg]
  · refine (hseq (w.heap.size + 1) (fun pre W => I pre W ∧ W.heap[w.heap.size + 1]? = some (.loop (rc .ready)) ∧ W.heap[w.heap.size]? = some (.deferred (some []))) W1 hbl ?_ ?_ ⟨hIn, hloop, hdef⟩).mono ?_
    · rintro s A B row ⟨hi, hl, hd⟩ hgr hr
      have hne : ∀ k, k < W1.heap.size → k < A.heap.size → B.heap[k]? = A.heap[k]? := fun k hk hk2 => hgr.block k hk2 (fun e => by have := (hr k e.symm).1; omega)
      exact ⟨hI s A B row hi hgr fun r e => ⟨by have := (hr r e).1; omega, (hr r e).2⟩, (hne _ (by omega) (Array.getElem?_eq_some_iff.1 hl).1).trans hl, (hne _ (by omega) (Array.getElem?_eq_some_iff.1 hd).1).trans hd⟩
    · rintro pre x W ⟨hi, hl, hd⟩ hlen
      have hlt := (Array.getElem?_eq_some_iff.1 hl).1
      have hy := run_yield (P := P) (args := encs x) hl (by rw [hrc]; exact hps x)
      rw [hrc] at hy
      refine ⟨fn, _, assign, body, hy, roundIn_of_wpIn hfn (hassign _ x W _ ⟨_, run_beginRound hl (by rw [hrc]), ?_⟩)⟩
      have hst : ({ rc .ready with state := .busy } : Loop) = rc .busy := by rw [hrc]
      rw [hst]
      have k1 : ¬ kp (w.heap.size + 1) := fun h => by have := hkp _ h; omega
      refine wpIn_mono (hbody _ pre x _ (hI.putObj _ hi (by omega) hl rfl) hlen) ?_
      rintro en a3 W3 hp
      cases en with
      | normal =>
        obtain ⟨hk, hi3⟩ := hp
        have hl3 : W3.heap[w.heap.size + 1]? = some (.loop (rc .busy)) := hk.loop (World.putObj_heap_same hlt) (by omega)
        have hd3 : W3.heap[w.heap.size]? = some (.deferred (some [])) := hk.deferred ((World.putObj_heap_other (by omega)).trans hd) (Nat.le_refl _)
        have hend := run_endRound (P := P) none hl3
        have hst2 : ({ rc .busy with state := .ready, pending := none } : Loop) = rc .ready := by rw [hrc]
        refine ⟨_, _, hend, rfl, ⟨hI.putObj _ hi3 (by omega) hl3 rfl, ?_, (World.putObj_heap_other (by omega)).trans hd3⟩, ?_⟩
        · rw [World.putObj_heap_same (Array.getElem?_eq_some_iff.1 hl3).1]
          exact congrArg (fun r => some (Obj.loop r)) hst2
        · exact ((Keep.putObj W _ _ k1 (by omega)).trans (hk.mono (by omega))).trans (Keep.putObj W3 _ _ k1 (by omega))
      | ret => exact hp.elim
      | exit id => exact hp.elim
      | goto t => exact hp.elim
      | panic ch => exact hp.elim
      | outgrown => exact hp.elim
    · rintro en W2 ⟨⟨v, rfl⟩, hi, hl, hd⟩
      have hend := run_endLoop (P := P) hl (by rw [hrc]; simp)
      rw [show (rc .ready).pending = none by rw [hrc]] at hend
      exact ⟨none, _, hend, hdone _ _ (Nat.le_refl _) (hI.putObj _ hi (by omega) hl rfl) ((World.putObj_heap_other (by omega)).trans hd)⟩

/-! What a frame's own facts owe: a turn of a block that is no cells leaves cells as they lay. -/
theorem heap_kept {W W' : World} {row : Option Nat} {B k : Nat} {o : Obj} (hg : W.grownBy W' row) (hr : ∀ r, row = some r → B ≤ r ∧ ∃ o : Obj, W.heap[r]? = some o ∧ o.isCells = false)
    (hk : W.heap[k]? = some o) (h : o.isCells = true ∨ k < B) : W'.heap[k]? = some o := by
  refine (hg.block k (Array.getElem?_eq_some_iff.1 hk).1 fun e => ?_).trans hk
  obtain ⟨h1, o', h2, h3⟩ := hr k e.symm
  rcases h with h | h
  · rw [hk] at h2; cases h2; rw [h] at h3; cases h3
  · omega
theorem OwnFrom.comp {α β : Type} {B : Nat} {J : β → World → Prop} (h : OwnFrom B J) (g : α → β) : OwnFrom B (fun s W => J (g s) W) :=
  fun s W W' row hs hg hr => h (g s) W W' row hs hg hr
end Go.Proofs.Ytglbmiadgdadfaa
