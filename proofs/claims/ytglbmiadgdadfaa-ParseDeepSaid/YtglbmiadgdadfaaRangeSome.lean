/- A range over a function whose body may leave the loop, over an iterator that itself ranges over functions, calls itself and writes rows of its own: the caller's invariant may be carried through all that. -/
import Derived.Test.YtglbmiadgdadfaaRangeAll
namespace Go.Proofs.Ytglbmiadgdadfaa
open Go.RowKit

/-- What an iterator may do to a caller's invariant: blocks below B, and those from B on that are cells and no exceptions, lie as they lay. -/
structure Chg (ex : Nat → Nat → Obj → Prop) (B g : Nat) (W W' : World) : Prop where
  os : W'.os = W.os
  tape : W'.tape = W.tape
  output : W'.output = W.output
  size : W.heap.size ≤ W'.heap.size
  block : ∀ k o, (k < B ∨ (o.isCells = true ∧ ¬ ex g k o)) → W.heap[k]? = some o → W'.heap[k]? = some o
section
variable {ex : Nat → Nat → Obj → Prop} {B g : Nat} {W W' W2 : World}
theorem Chg.refl (W : World) : Chg ex B g W W := ⟨rfl, rfl, rfl, Nat.le_refl _, fun _ _ _ h => h⟩
theorem Chg.trans (h : Chg ex B g W W') (k : Chg ex B g W' W2) : Chg ex B g W W2 :=
  ⟨k.os.trans h.os, k.tape.trans h.tape, k.output.trans h.output, Nat.le_trans h.size k.size, fun i o hi hs => k.block i o hi (h.block i o hi hs)⟩
theorem Chg.weaken {B' : Nat} (h : Chg ex B' g W W') (hB : B ≤ B') : Chg ex B g W W' :=
  ⟨h.os, h.tape, h.output, h.size, fun k o hk hs => h.block k o (hk.imp_left fun x => Nat.lt_of_lt_of_le x hB) hs⟩
/-- A step that has no exceptions from B' on. -/
theorem Chg.sharper {ex' : Nat → Nat → Obj → Prop} {B' g' : Nat} (h : Chg ex' B' g' W W') (hB : B ≤ B') (he : ∀ k o, B' ≤ k → ex' g' k o → ex g k o) : Chg ex B g W W' :=
  ⟨h.os, h.tape, h.output, h.size, fun k o hk hs => by
    by_cases hl : k < B'
    · exact h.block k o (.inl hl) hs
    · rcases hk with hk | ⟨hk, hx⟩
      · omega
      · exact h.block k o (.inr ⟨hk, fun hh => hx (he k o (by omega) hh)⟩) hs⟩
theorem Chg.of_below (h : Below W.heap.size W W') : Chg ex B g W W' :=
  ⟨h.os, h.tape, h.output, h.size, fun k _ _ hs => (h.block k (Array.getElem?_eq_some_iff.1 hs).1).trans hs⟩
theorem Chg.drew (W : World) : Chg ex B g W W.drew := ⟨rfl, rfl, rfl, Nat.le_refl _, fun _ _ _ h => h⟩
theorem Chg.alloc (W : World) (o : Obj) : Chg ex B g W (W.alloc o) := .of_below ((Below.refl _ W).alloc (Nat.le_refl _) _)
theorem Chg.putObj (W : World) (l : Nat) {o : Obj} (o' : Obj) (hl : W.heap[l]? = some o) (h1 : B ≤ l) (h2 : o.isCells = false) : Chg ex B g W (W.putObj l o') :=
  ⟨rfl, rfl, rfl, by simp, fun k o2 hk h => (World.putObj_heap_other (by
    rintro rfl
    rw [hl] at h; cases h
    rcases hk with hk | ⟨hk, _⟩
    · omega
    · rw [h2] at hk; cases hk)).trans h⟩
theorem Chg.setCell (W : World) (a : Addr) (v : Value) (h1 : B ≤ a.block) (h2 : ∀ o, W.heap[a.block]? = some o → ex g a.block o) : Chg ex B g W (W.setCell a v) :=
  ⟨rfl, rfl, rfl, by simp [World.setCell], fun k o hk h => (Below.heap_setCell W a v k (by
    rintro rfl
    rcases hk with hk | ⟨_, hk⟩
    · omega
    · exact hk (h2 o h))).trans h⟩
theorem Chg.setRow (W : World) (b : Nat) (cs : Array Value) (h1 : B ≤ b) (h2 : ∀ o, W.heap[b]? = some o → ex g b o) : Chg ex B g W (W.setRow b cs) :=
  ⟨rfl, rfl, rfl, by simp, fun k o hk h => (Go.setRow_other W b k cs (by
    rintro rfl
    rcases hk with hk | ⟨_, hk⟩
    · omega
    · exact hk (h2 o h))).trans h⟩
theorem Chg.of_own {row : Option Nat} (hg : W.grownBy W' row) (hr : ∀ r, row = some r → B ≤ r ∧ ∃ o : Obj, W.heap[r]? = some o ∧ o.isCells = false) : Chg ex B g W W' :=
  ⟨hg.os, hg.tape, hg.output, hg.size, fun k o hk h => (hg.block k (Array.getElem?_eq_some_iff.1 h).1 (fun e => by
    obtain ⟨h1, o', h2, h3⟩ := hr k e.symm
    rw [h] at h2; cases h2
    rcases hk with hk | ⟨hk, _⟩
    · omega
    · rw [h3] at hk; cases hk)).trans h⟩
end
/-- A caller's invariant that bears it. -/
def Cl {β : Type} (ex : Nat → Nat → Obj → Prop) (B : Nat) (J : Nat → β → World → Prop) : Prop := ∀ g s W W', J g s W → Chg ex B g W W' → J g s W'
theorem Cl.up {β : Type} {ex : Nat → Nat → Obj → Prop} {B B' : Nat} {J : Nat → β → World → Prop} (h : Cl ex B J) (hB : B ≤ B') : Cl ex B' J := fun g s W W' hs hc => h g s W W' hs (hc.weaken hB)
theorem Cl.and {β : Type} {ex : Nat → Nat → Obj → Prop} {B : Nat} {J K : Nat → β → World → Prop} (h : Cl ex B J) (k : Cl ex B K) : Cl ex B (fun g s W => J g s W ∧ K g s W) := fun g s W W' hs hc => ⟨h g s W W' hs.1 hc, k g s W W' hs.2 hc⟩
/-- No exceptions. -/
def exN : Nat → Nat → Obj → Prop := fun _ _ _ => False

/-- The blocks of kp, and those from m on, lie as they lay. -/
structure KeepK (kp : Nat → Prop) (m : Nat) (W W' : World) : Prop where
  os : W'.os = W.os
  tape : W'.tape = W.tape
  output : W'.output = W.output
  size : W.heap.size ≤ W'.heap.size
  block : ∀ k o, (kp k ∨ m ≤ k) → W.heap[k]? = some o → W'.heap[k]? = some o
section
variable {kp : Nat → Prop} {m : Nat} {W W' W2 : World}
theorem KeepK.refl (W : World) : KeepK kp m W W := ⟨rfl, rfl, rfl, Nat.le_refl _, fun _ _ _ h => h⟩
theorem KeepK.trans (h : KeepK kp m W W') (k : KeepK kp m W' W2) : KeepK kp m W W2 :=
  ⟨k.os.trans h.os, k.tape.trans h.tape, k.output.trans h.output, Nat.le_trans h.size k.size, fun i o hi hs => k.block i o hi (h.block i o hi hs)⟩
theorem KeepK.weaken (h : KeepK kp m W W') {kp' : Nat → Prop} {m' : Nat} (hk : ∀ k, (kp' k ∨ m' ≤ k) → (kp k ∨ m ≤ k)) : KeepK kp' m' W W' :=
  ⟨h.os, h.tape, h.output, h.size, fun i o hi hs => h.block i o (hk i hi) hs⟩
theorem KeepK.of_below (h : Below W.heap.size W W') : KeepK kp m W W' := ⟨h.os, h.tape, h.output, h.size, fun k _ _ hs => (h.block k (Array.getElem?_eq_some_iff.1 hs).1).trans hs⟩
theorem KeepK.putObj (W : World) (l : Nat) (o : Obj) (h1 : ¬ kp l) (h2 : l < m) : KeepK kp m W (W.putObj l o) :=
  ⟨rfl, rfl, rfl, by simp, fun k o' hk h => (World.putObj_heap_other (by rintro rfl; rcases hk with hk | hk; exact h1 hk; omega)).trans h⟩
theorem KeepK.setCell (W : World) (a : Addr) (v : Value) (h1 : ¬ kp a.block) (h2 : a.block < m) : KeepK kp m W (W.setCell a v) :=
  ⟨rfl, rfl, rfl, by simp [World.setCell], fun k o' hk h => (Below.heap_setCell W a v k (by rintro rfl; rcases hk with hk | hk; exact h1 hk; omega)).trans h⟩
theorem KeepK.alloc (W : World) (o : Obj) : KeepK kp m W (W.alloc o) := .of_below ((Below.refl _ W).alloc (Nat.le_refl _) _)
end

/-- What an iterator promises that hands over the list L as long as the body wants more. -/
def GivesSome {α : Type} (F : Fence) (n : Nat) (P : Program) (gf : Nat) (lb : Array Value) (encs : Nat → α → Array Value) (ex : Nat → Nat → Obj → Prop) (kp : Nat → Prop) (X : Nat → α → World → Prop) (L : List α) (w : World) : Prop :=
  ∀ (l : Nat) (J Jx : Nat → List α → World → Prop) (W : World), Below w.heap.size w W → Cl ex W.heap.size J → Cl ex W.heap.size Jx →
    (∀ g pre x W1, J g pre W1 → X g x W1 → W.heap.size ≤ g → pre ++ [x] <+: L → YieldAt F (n - 1) P l (encs g x) W1 fun en W' => KeepK kp W.heap.size W1 W' ∧
      ((en = .returned (.bool true) ∧ J g (pre ++ [x]) W') ∨ (en = .returned (.bool false) ∧ Jx g (pre ++ [x]) W'))) →
    (∀ g, W.heap.size ≤ g → J g [] W) →
    CallsIn F n P gf (#[.func (.yield l) #[] #[]] ++ lb) W fun en W' => (∃ v, en = .returned v) ∧ ((∃ g, J g L W') ∨ ∃ g pre, pre <+: L ∧ Jx g pre W')

/-- How a round of such a loop ends. -/
def someEnd {α : Type} (kp : Nat → Prop) (m : Nat) (I : Nat → List α → World → Prop) (Ix : Code → Nat → List α → World → Prop) (g : Nat) (xs : List α) (W : World) : Exit → Act → World → Prop
  | .normal, _, W' => KeepK kp m W W' ∧ I g xs W'
  | .ret, _, W' => KeepK kp m W W' ∧ Ix .ret g xs W'
  | .exit id, _, W' => KeepK kp m W W' ∧ Ix (.exit id) g xs W'
  | .goto t, _, W' => KeepK kp m W W' ∧ Ix (.goto t) g xs W'
  | _, _, _ => False

theorem range_some {F : Fence} {n : Nat} {P : Program} {w : World} {α : Type} {gx : Operand} {ps : Array Tmp} {assign body : Code} {Q : Exit → Act → World → Prop} {a : Act}
    (hro : F.round = none) (h1 : 1 ≤ n) {gf : Nat} {lb : Array Value} (hg : a.eval gx = .func (.func gf) #[] lb) (hFg : F.fn gf) (eg : ∀ args w, (callFunc gf args).run P w = .ok (.enter gf args) w)
    {encs : Nat → α → Array Value} {ex : Nat → Nat → Obj → Prop} {kp : Nat → Prop} {X : Nat → α → World → Prop} {L : List α} (hseq : GivesSome F (n - 1) P gf lb encs ex kp X L w) (hkp : ∀ k, kp k → k < w.heap.size) (hps : ∀ g x, (encs g x).size = ps.size)
    (hX : ∀ g x W l o o', X g x W → W.heap[l]? = some o → o.isCells = false → X g x (W.putObj l o'))
    (I : Nat → List α → World → Prop) (Ix : Code → Nat → List α → World → Prop) (hI : Cl ex w.heap.size I) (hIx : ∀ c, Cl ex w.heap.size (Ix c)) (h0 : ∀ g, w.heap.size ≤ g → I g [] w) (a₁ : Nat → α → Act)
    (hassign : ∀ (l g : Nat) (x : α) (W : World) (K : Act → World → Prop), K (a₁ g x) W →
      assign.wpIn (F.inRound l) (n - 1 - 1) P (Exit.then K (fun _ _ _ => False)) { tmps := (ps.zip (encs g x)).foldl (fun t (p, v) => t.setIfInBounds p v) a.tmps, defers := [] } W)
    (hbody : ∀ (l g : Nat) (pre : List α) (x : α) (W : World), w.heap.size ≤ g → I g pre W → X g x W → pre ++ [x] <+: L → body.wpIn (F.inRound l) (n - 1 - 1) P (someEnd kp w.heap.size I Ix g (pre ++ [x]) W) (a₁ g x) W)
    (hdone : ∀ (D g : Nat) (W : World), w.heap.size ≤ D → I g L W → W.heap[D]? = some (.deferred (some [])) → Q .normal { a with defers := { target := .collected D, args := #[] } :: a.defers } W)
    (hstop : ∀ (D g : Nat) (c : Code) (pre : List α) (W : World), w.heap.size ≤ D → pre <+: L → Ix c g pre W → W.heap[D]? = some (.deferred (some [])) → c.wpIn F n P Q { a with defers := { target := .collected D, args := #[] } :: a.defers } W) :
    (Code.rangeFunc gx ps assign body).wpIn F n P Q a w := by
  refine wpIn_rangeFunc fun fn hfn => ?_
  rw [hro]
  obtain ⟨rc, hrc⟩ : ∃ rc : LoopState → Option Code → Loop, rc = fun st pe => { state := st, pending := pe, fn, tmps := a.tmps, params := ps, assign, body, defers := w.heap.size } := ⟨_, rfl⟩
  have hen := run_enterLoop_outer (P := P) (w := w) fn a.tmps ps assign body
  have hloop : ((w.alloc (.deferred (some []))).alloc (.loop (rc .ready none))).heap[w.heap.size + 1]? = some (.loop (rc .ready none)) := by
    have := World.alloc_heap_new (w.alloc (.deferred (some []))) (.loop (rc .ready none)); rwa [World.size_alloc] at this
  have hdef : ((w.alloc (.deferred (some []))).alloc (.loop (rc .ready none))).heap[w.heap.size]? = some (.deferred (some [])) :=
    (Below.heap_alloc _ _ _ (by simp)).trans (World.alloc_heap_new w _)
  have hIn : ∀ g, w.heap.size + 2 ≤ g → I g [] ((w.alloc (.deferred (some []))).alloc (.loop (rc .ready none))) := fun g hg => hI _ _ _ _ (hI _ _ _ _ (h0 g (by omega)) (.alloc _ _)) (.alloc _ _)
  have hbl : Below w.heap.size w ((w.alloc (.deferred (some []))).alloc (.loop (rc .ready none))) := ((Below.refl _ w).alloc (Nat.le_refl _) _).alloc (by simp) _
  have hsz : ((w.alloc (.deferred (some []))).alloc (.loop (rc .ready none))).heap.size = w.heap.size + 2 := by simp
  rw [show ({ state := .ready, pending := none, fn, tmps := a.tmps, params := ps, assign, body, defers := w.heap.size } : Loop) = rc .ready none by rw [hrc]] at hen
  generalize (w.alloc (.deferred (some []))).alloc (.loop (rc .ready none)) = W1 at *
  refine ⟨_, _, W1, { target := .fn (.func gf) lb, args := #[.func (.yield (w.heap.size + 1)) #[] #[]] }, W1, gf, #[.func (.yield (w.heap.size + 1)) #[] #[]] ++ lb, W1, hen, ?_, ?_, ?_, fun _ => h1, ?_⟩
  · simp only [resolve, hg]
    simp [go_sem]
  · intro f' hf'
    simp [Target.leads] at hf'
    subst hf'
    exact hFg
  · simp [invoke, go_sem, eg]
  · refine (hseq (w.heap.size + 1) (fun g pre W => I g pre W ∧ W.heap[w.heap.size + 1]? = some (.loop (rc .ready none)) ∧ W.heap[w.heap.size]? = some (.deferred (some [])))
      (fun g pre W => ∃ c, Ix c g pre W ∧ W.heap[w.heap.size + 1]? = some (.loop (rc .done (some c))) ∧ W.heap[w.heap.size]? = some (.deferred (some []))) W1 hbl ?_ ?_ ?_ (fun g hg => ⟨hIn g (by omega), hloop, hdef⟩)).mono ?_
    · rintro g s A B ⟨hi, hl, hd⟩ hc
      exact ⟨hI g s A B hi (hc.weaken (by omega)), hc.block _ _ (.inl (by omega)) hl, hc.block _ _ (.inl (by omega)) hd⟩
    · rintro g s A B ⟨c, hi, hl, hd⟩ hc
      exact ⟨c, hIx c g s A B hi (hc.weaken (by omega)), hc.block _ _ (.inl (by omega)) hl, hc.block _ _ (.inl (by omega)) hd⟩
    · rintro g pre x W ⟨hi, hl, hd⟩ hx hg hlen
      have hlt := (Array.getElem?_eq_some_iff.1 hl).1
      have hy := run_yield (P := P) (args := encs g x) hl (by rw [hrc]; exact hps g x)
      rw [hrc] at hy
      refine ⟨fn, _, assign, body, hy, roundIn_of_wpIn hfn (hassign _ g x W _ ⟨_, run_beginRound hl (by rw [hrc]), ?_⟩)⟩
      have hst : ({ rc .ready none with state := .busy } : Loop) = rc .busy none := by rw [hrc]
      rw [hst]
      have k1 : ¬ kp (w.heap.size + 1) := fun h => by have := hkp _ h; omega
      refine wpIn_mono (hbody _ g pre x _ (by omega) (hI _ _ _ _ hi (Chg.putObj W _ _ hl (by omega) rfl)) (hX _ _ _ _ _ _ hx hl rfl) hlen) ?_
      have fin : ∀ (jump : Option Code) (W3 : World), KeepK kp w.heap.size (W.putObj (w.heap.size + 1) (.loop (rc .busy none))) W3 →
          (Instr.endRound (w.heap.size + 1) jump).run P W3 = .ok (.bool jump.isNone) (W3.putObj (w.heap.size + 1) (.loop (rc (if jump.isNone then .ready else .done) jump))) ∧
          W3.heap[w.heap.size + 1]? = some (.loop (rc .busy none)) ∧
          (W3.putObj (w.heap.size + 1) (.loop (rc (if jump.isNone then .ready else .done) jump))).heap[w.heap.size + 1]? = some (.loop (rc (if jump.isNone then .ready else .done) jump)) ∧
          (W3.putObj (w.heap.size + 1) (.loop (rc (if jump.isNone then .ready else .done) jump))).heap[w.heap.size]? = some (.deferred (some [])) ∧
          KeepK kp W1.heap.size W (W3.putObj (w.heap.size + 1) (.loop (rc (if jump.isNone then .ready else .done) jump))) := fun jump W3 hk => by
        have hl3 : W3.heap[w.heap.size + 1]? = some (.loop (rc .busy none)) := hk.block _ _ (.inr (by omega)) (World.putObj_heap_same hlt)
        have hd3 : W3.heap[w.heap.size]? = some (.deferred (some [])) := hk.block _ _ (.inr (by omega)) ((World.putObj_heap_other (by omega)).trans hd)
        have := run_endRound (P := P) jump hl3
        rw [hrc] at this hl3 ⊢
        exact ⟨this, hl3, World.putObj_heap_same (Array.getElem?_eq_some_iff.1 hl3).1, (World.putObj_heap_other (by omega)).trans hd3,
          ((KeepK.putObj W _ _ k1 (by omega)).trans ((by rw [hrc] at hk; exact hk.weaken fun k h => h.imp_right (by omega)))).trans (KeepK.putObj W3 _ _ k1 (by omega))⟩
      rintro en a3 W3 hp
      cases en with
      | normal =>
        obtain ⟨hk, hi3⟩ := hp
        obtain ⟨hr, hl3, hl4, hk4, hK⟩ := fin none W3 hk
        exact ⟨_, _, hr, hK, .inl ⟨rfl, hI _ _ _ _ hi3 (Chg.putObj W3 _ _ hl3 (by omega) rfl), hl4, hk4⟩⟩
      | ret =>
        obtain ⟨hk, hi3⟩ := hp
        obtain ⟨hr, hl3, hl4, hk4, hK⟩ := fin (some .ret) W3 hk
        exact ⟨_, _, hr, hK, .inr ⟨rfl, .ret, hIx _ _ _ _ _ hi3 (Chg.putObj W3 _ _ hl3 (by omega) rfl), hl4, hk4⟩⟩
      | exit id =>
        obtain ⟨hk, hi3⟩ := hp
        obtain ⟨hr, hl3, hl4, hk4, hK⟩ := fin (some (.exit id)) W3 hk
        exact ⟨_, _, hr, hK, .inr ⟨rfl, .exit id, hIx _ _ _ _ _ hi3 (Chg.putObj W3 _ _ hl3 (by omega) rfl), hl4, hk4⟩⟩
      | goto t =>
        obtain ⟨hk, hi3⟩ := hp
        obtain ⟨hr, hl3, hl4, hk4, hK⟩ := fin (some (.goto t)) W3 hk
        exact ⟨_, _, hr, hK, .inr ⟨rfl, .goto t, hIx _ _ _ _ _ hi3 (Chg.putObj W3 _ _ hl3 (by omega) rfl), hl4, hk4⟩⟩
      | panic ch => exact hp.elim
      | outgrown => exact hp.elim
    · rintro en W2 ⟨⟨v, rfl⟩, ⟨g, hi, hl, hd⟩ | ⟨g, pre, hpre, c, hi, hl, hd⟩⟩
      · exact ⟨none, _, by have := run_endLoop (P := P) hl (by rw [hrc]; simp); rw [hrc] at this; exact this, hdone _ g _ (Nat.le_refl _) (hI _ _ _ _ hi (Chg.putObj W2 _ _ hl (by omega) rfl)) ((World.putObj_heap_other (by omega)).trans hd)⟩
      · exact ⟨some c, _, by have := run_endLoop (P := P) hl (by rw [hrc]; simp); rw [hrc] at this; exact this, hstop _ g c pre _ (Nat.le_refl _) hpre (hIx _ _ _ _ _ hi (Chg.putObj W2 _ _ hl (by omega) rfl)) ((World.putObj_heap_other (by omega)).trans hd)⟩
end Go.Proofs.Ytglbmiadgdadfaa
