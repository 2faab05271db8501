/- A range over a function whose body may leave the loop and may grow rows of its own (of type e), over an iterator that keeps a block of its own; no row parameter. -/
import Derived.Test.YtglbmiadgdadfaaRangeSome
namespace Go.Proofs.Ytglbmiadgdadfaa
open Go.RowKit

/-- A caller's invariant that bears what the iterator does. -/
def Cl1 {β : Type} (ex : Nat → Nat → Obj → Prop) (B : Nat) (J : β → World → Prop) : Prop := ∀ s W W', J s W → Chg ex B 0 W W' → J s W'
theorem Cl1.up {β : Type} {ex : Nat → Nat → Obj → Prop} {B B' : Nat} {J : β → World → Prop} (h : Cl1 ex B J) (hB : B ≤ B') : Cl1 ex B' J := fun s W W' hs hc => h s W W' hs (hc.weaken hB)
theorem Cl1.and {β : Type} {ex : Nat → Nat → Obj → Prop} {B : Nat} {J K : β → World → Prop} (h : Cl1 ex B J) (k : Cl1 ex B K) : Cl1 ex B (fun s W => J s W ∧ K s W) := fun s W W' hs hc => ⟨h s W W' hs.1 hc, k s W W' hs.2 hc⟩

/-- What an iterator promises that hands over the list L as long as the body wants more. -/
def GivesTill {α : Type} (F : Fence) (n : Nat) (P : Program) (gf : Nat) (lb : Array Value) (encs : α → Array Value) (ex : Nat → Nat → Obj → Prop) (e : TypeId) (kp : Nat → Prop) (L : List α) (w : World) : Prop :=
  ∀ (l : Nat) (J Jx : List α → World → Prop) (W : World), Below w.heap.size w W → Cl1 ex W.heap.size J → Cl1 ex W.heap.size Jx →
    (∀ pre x W1, J pre W1 → pre ++ [x] <+: L → YieldAt F (n - 1) P l (encs x) W1 fun en W' => Keep e kp W.heap.size W1 W' ∧
      ((en = .returned (.bool true) ∧ J (pre ++ [x]) W') ∨ (en = .returned (.bool false) ∧ Jx (pre ++ [x]) W'))) →
    J [] W →
    CallsIn F n P gf (#[.func (.yield l) #[] #[]] ++ lb) W fun en W' => (∃ v, en = .returned v) ∧ (J L W' ∨ ∃ pre, pre <+: L ∧ Jx pre W')

/-- How a round of such a loop ends. -/
def tillEnd {α : Type} (e : TypeId) (kp : Nat → Prop) (m : Nat) (I : List α → World → Prop) (Ix : Code → List α → World → Prop) (xs : List α) (W : World) : Exit → Act → World → Prop
  | .normal, _, W' => Keep e kp m W W' ∧ I xs W'
  | .ret, _, W' => Keep e kp m W W' ∧ Ix .ret xs W'
  | .exit id, _, W' => Keep e kp m W W' ∧ Ix (.exit id) xs W'
  | .goto t, _, W' => Keep e kp m W W' ∧ Ix (.goto t) xs W'
  | _, _, _ => False

theorem range_till {F : Fence} {n : Nat} {P : Program} {w : World} {α : Type} {gx : Operand} {ps : Array Tmp} {assign body : Code} {Q : Exit → Act → World → Prop} {a : Act}
    (hro : F.round = none) (h1 : 1 ≤ n) {gf : Nat} {lb : Array Value} (hg : a.eval gx = .func (.func gf) #[] lb) (hFg : F.fn gf) (eg : ∀ args w, (callFunc gf args).run P w = .ok (.enter gf args) w)
    {encs : α → Array Value} {ex : Nat → Nat → Obj → Prop} {e : TypeId} {kp : Nat → Prop} {L : List α} (hseq : GivesTill F (n - 1) P gf lb encs ex e kp L w) (hkp : ∀ k, kp k → k < w.heap.size) (hps : ∀ x, (encs x).size = ps.size)
    (I : List α → World → Prop) (Ix : Code → List α → World → Prop) (hI : Cl1 ex w.heap.size I) (hIx : ∀ c, Cl1 ex w.heap.size (Ix c)) (h0 : I [] w) (wA : α → World → World) (hwA : ∀ x W, Below W.heap.size W (wA x W)) (a₁ : α → World → Act)
    (hassign : ∀ (l : Nat) (x : α) (W : World) (K : Act → World → Prop), K (a₁ x W) (wA x W) →
      assign.wpIn (F.inRound l) (n - 1 - 1) P (Exit.then K (fun _ _ _ => False)) { tmps := (ps.zip (encs x)).foldl (fun t (p, v) => t.setIfInBounds p v) a.tmps, defers := [] } W)
    (hbody : ∀ (l : Nat) (pre : List α) (x : α) (W0 W : World), I pre W → pre ++ [x] <+: L → W.heap.size = (wA x W0).heap.size → (∀ (k : Nat) (o : Obj), (wA x W0).heap[k]? = some o → o.isCells = true → W.heap[k]? = some o) → w.heap.size ≤ W0.heap.size →
      body.wpIn (F.inRound l) (n - 1 - 1) P (tillEnd e kp w.heap.size I Ix (pre ++ [x]) W) (a₁ x W0) W)
    (hdone : ∀ (D : Nat) (W : World), w.heap.size ≤ D → I L W → W.heap[D]? = some (.deferred (some [])) → Q .normal { a with defers := { target := .collected D, args := #[] } :: a.defers } W)
    (hstop : ∀ (D : Nat) (c : Code) (pre : List α) (W : World), w.heap.size ≤ D → pre <+: L → Ix c pre W → W.heap[D]? = some (.deferred (some [])) → c.wpIn F n P Q { a with defers := { target := .collected D, args := #[] } :: a.defers } W) :
    (Code.rangeFunc gx ps assign body).wpIn F n P Q a w := by
  refine wpIn_rangeFunc fun fn hfn => ?_
  rw [hro]
  obtain ⟨rc, hrc⟩ : ∃ rc : LoopState → Option Code → Loop, rc = fun st pe => { state := st, pending := pe, fn, tmps := a.tmps, params := ps, assign, body, defers := w.heap.size } := ⟨_, rfl⟩
  have hen := run_enterLoop_outer (P := P) (w := w) fn a.tmps ps assign body
  have hloop : ((w.alloc (.deferred (some []))).alloc (.loop (rc .ready none))).heap[w.heap.size + 1]? = some (.loop (rc .ready none)) := by
    have := World.alloc_heap_new (w.alloc (.deferred (some []))) (.loop (rc .ready none)); rwa [World.size_alloc] at this
  have hdef : ((w.alloc (.deferred (some []))).alloc (.loop (rc .ready none))).heap[w.heap.size]? = some (.deferred (some [])) :=
    (Below.heap_alloc _ _ _ (by simp)).trans (World.alloc_heap_new w _)
  have hIn : I [] ((w.alloc (.deferred (some []))).alloc (.loop (rc .ready none))) := hI _ _ _ (hI _ _ _ h0 (.alloc _ _)) (.alloc _ _)
  have hbl : Below w.heap.size w ((w.alloc (.deferred (some []))).alloc (.loop (rc .ready none))) := ((Below.refl _ w).alloc (Nat.le_refl _) _).alloc (by simp) _
  have hsz : ((w.alloc (.deferred (some []))).alloc (.loop (rc .ready none))).heap.size = w.heap.size + 2 := by simp
  rw [show ({ state := .ready, pending := none, fn, tmps := a.tmps, params := ps, assign, body, defers := w.heap.size } : Loop) = rc .ready none by rw [hrc]] at hen
  generalize (w.alloc (.deferred (some []))).alloc (.loop (rc .ready none)) = W1 at *
  refine ⟨_, _, W1, { target := .fn (.func gf) lb, args := #[.func (.yield (w.heap.size + 1)) #[] #[]] }, W1, gf, #[.func (.yield (w.heap.size + 1)) #[] #[]] ++ lb, W1, hen, ?_, ?_, ?_, fun _ => h1, ?_⟩
  · simp only [resolve, hg]
    simp [go_sem]
  · intro f' hf'
    simp [Target.leads] at hf'
    subst hf'
    exact hFg
  · simp [invoke, go_sem, eg]
  · refine (hseq (w.heap.size + 1) (fun pre W => I pre W ∧ W.heap[w.heap.size + 1]? = some (.loop (rc .ready none)) ∧ W.heap[w.heap.size]? = some (.deferred (some [])))
      (fun pre W => ∃ c, Ix c pre W ∧ W.heap[w.heap.size + 1]? = some (.loop (rc .done (some c))) ∧ W.heap[w.heap.size]? = some (.deferred (some []))) W1 hbl ?_ ?_ ?_ ⟨hIn, hloop, hdef⟩).mono ?_
    · rintro s A B ⟨hi, hl, hd⟩ hc
      exact ⟨hI s A B hi (hc.weaken (by omega)), hc.block _ _ (.inl (by omega)) hl, hc.block _ _ (.inl (by omega)) hd⟩
    · rintro s A B ⟨c, hi, hl, hd⟩ hc
      exact ⟨c, hIx c s A B hi (hc.weaken (by omega)), hc.block _ _ (.inl (by omega)) hl, hc.block _ _ (.inl (by omega)) hd⟩
    · rintro pre x W ⟨hi, hl, hd⟩ hlen
      have hlt := (Array.getElem?_eq_some_iff.1 hl).1
      have hy := run_yield (P := P) (args := encs x) hl (by rw [hrc]; exact hps x)
      rw [hrc] at hy
      have hbA := hwA x W
      have hlA : (wA x W).heap[w.heap.size + 1]? = some (.loop (rc .ready none)) := (hbA.block _ hlt).trans hl
      have hdA : (wA x W).heap[w.heap.size]? = some (.deferred (some [])) := (hbA.block _ (Array.getElem?_eq_some_iff.1 hd).1).trans hd
      have hltA := (Array.getElem?_eq_some_iff.1 hlA).1
      have hiA : I pre (wA x W) := hI _ _ _ hi (Chg.of_below hbA)
      refine ⟨fn, _, assign, body, hy, roundIn_of_wpIn hfn (hassign _ x W _ ⟨_, run_beginRound hlA (by rw [hrc]), ?_⟩)⟩
      have hst : ({ rc .ready none with state := .busy } : Loop) = rc .busy none := by rw [hrc]
      rw [hst]
      have k1 : ¬ kp (w.heap.size + 1) := fun h => by have := hkp _ h; omega
      refine wpIn_mono (hbody _ pre x W _ (hI _ _ _ hiA (Chg.putObj _ _ _ hlA (by omega) rfl)) hlen (by simp) (fun (k : Nat) (o : Obj) hk hc => by
        by_cases he : k = w.heap.size + 1
        · subst he; rw [hlA] at hk; cases hk; cases hc
        · exact (World.putObj_heap_other (by omega)).trans hk) (Nat.le_of_lt (Array.getElem?_eq_some_iff.1 hd).1)) ?_
      have fin : ∀ (jump : Option Code) (W3 : World), Keep e kp w.heap.size ((wA x W).putObj (w.heap.size + 1) (.loop (rc .busy none))) W3 →
          (Instr.endRound (w.heap.size + 1) jump).run P W3 = .ok (.bool jump.isNone) (W3.putObj (w.heap.size + 1) (.loop (rc (if jump.isNone then .ready else .done) jump))) ∧
          W3.heap[w.heap.size + 1]? = some (.loop (rc .busy none)) ∧
          (W3.putObj (w.heap.size + 1) (.loop (rc (if jump.isNone then .ready else .done) jump))).heap[w.heap.size + 1]? = some (.loop (rc (if jump.isNone then .ready else .done) jump)) ∧
          (W3.putObj (w.heap.size + 1) (.loop (rc (if jump.isNone then .ready else .done) jump))).heap[w.heap.size]? = some (.deferred (some [])) ∧
          Keep e kp W1.heap.size W (W3.putObj (w.heap.size + 1) (.loop (rc (if jump.isNone then .ready else .done) jump))) := fun jump W3 hk => by
        have hl3 : W3.heap[w.heap.size + 1]? = some (.loop (rc .busy none)) := hk.loop (World.putObj_heap_same hltA) (by omega)
        have hd3 : W3.heap[w.heap.size]? = some (.deferred (some [])) := hk.deferred ((World.putObj_heap_other (by omega)).trans hdA) (Nat.le_refl _)
        have := run_endRound (P := P) jump hl3
        rw [hrc] at this hl3 ⊢
        exact ⟨this, hl3, World.putObj_heap_same (Array.getElem?_eq_some_iff.1 hl3).1, (World.putObj_heap_other (by omega)).trans hd3,
          (((Keep.of_below hbA).trans (Keep.putObj (wA x W) _ _ k1 (by omega))).trans ((by rw [hrc] at hk; exact hk.mono (by omega)))).trans (Keep.putObj W3 _ _ k1 (by omega))⟩
      rintro en a3 W3 hp
      cases en with
      | normal =>
        obtain ⟨hk, hi3⟩ := hp
        obtain ⟨hr, hl3, hl4, hk4, hK⟩ := fin none W3 hk
        exact ⟨_, _, hr, hK, .inl ⟨rfl, hI _ _ _ hi3 (Chg.putObj W3 _ _ hl3 (by omega) rfl), hl4, hk4⟩⟩
      | ret =>
        obtain ⟨hk, hi3⟩ := hp
        obtain ⟨hr, hl3, hl4, hk4, hK⟩ := fin (some .ret) W3 hk
        exact ⟨_, _, hr, hK, .inr ⟨rfl, .ret, hIx _ _ _ _ hi3 (Chg.putObj W3 _ _ hl3 (by omega) rfl), hl4, hk4⟩⟩
      | exit id =>
        obtain ⟨hk, hi3⟩ := hp
        obtain ⟨hr, hl3, hl4, hk4, hK⟩ := fin (some (.exit id)) W3 hk
        exact ⟨_, _, hr, hK, .inr ⟨rfl, .exit id, hIx _ _ _ _ hi3 (Chg.putObj W3 _ _ hl3 (by omega) rfl), hl4, hk4⟩⟩
      | goto t =>
        obtain ⟨hk, hi3⟩ := hp
        obtain ⟨hr, hl3, hl4, hk4, hK⟩ := fin (some (.goto t)) W3 hk
        exact ⟨_, _, hr, hK, .inr ⟨rfl, .goto t, hIx _ _ _ _ hi3 (Chg.putObj W3 _ _ hl3 (by omega) rfl), hl4, hk4⟩⟩
      | panic ch => exact hp.elim
      | outgrown => exact hp.elim
    · rintro en W2 ⟨⟨v, rfl⟩, ⟨hi, hl, hd⟩ | ⟨pre, hpre, c, hi, hl, hd⟩⟩
      · exact ⟨none, _, by have := run_endLoop (P := P) hl (by rw [hrc]; simp); rw [hrc] at this; exact this, hdone _ _ (Nat.le_refl _) (hI _ _ _ hi (Chg.putObj W2 _ _ hl (by omega) rfl)) ((World.putObj_heap_other (by omega)).trans hd)⟩
      · exact ⟨some c, _, by have := run_endLoop (P := P) hl (by rw [hrc]; simp); rw [hrc] at this; exact this, hstop _ c pre _ (Nat.le_refl _) hpre (hIx _ _ _ _ hi (Chg.putObj W2 _ _ hl (by omega) rfl)) ((World.putObj_heap_other (by omega)).trans hd)⟩
end Go.Proofs.Ytglbmiadgdadfaa
