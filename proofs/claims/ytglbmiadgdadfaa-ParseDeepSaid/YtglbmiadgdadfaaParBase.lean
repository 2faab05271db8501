/- The parser's memory; frames; what a part of the parser answers. -/
import Derived.WalkLawsBesides
import Derived.BigQuiet
import Derived.Test.YtglbmiadgdadfaaParMath
import Derived.Test.YtglbmiadgdadfaaFr
namespace Go.Proofs.Ytglbmiadgdadfaa
open Go.RowKit Go.Shelf

attribute [local go_sem] Oper.semAt_some
namespace PP
/-- A token as a value. -/
def tokV (t : TokD) : Value := .agg #[.int .u8 t.k, .string t.x, .int .i64 t.p]
/-- A slice of tokens in block g, wherever in it. -/
def TkR (W : World) (g : Nat) (v : Value) (ts : List TokD) : Prop :=
  ts.length ≤ maxLen ∧ ∃ (a : Option Addr) (cap : Nat), v = .slice a ts.length cap ∧ ts.length ≤ cap ∧ cap ≤ maxLen ∧ (0 < ts.length → ∃ (off : Nat) (C : Array Value), a = some ⟨g, off, none⟩ ∧ W.heap[g]? = some (.cells C 61 (0, 0)) ∧
    ∀ (j : Nat) (t : TokD), ts[j]? = some t → C[off + j * 3]? = some (.int .u8 t.k) ∧ C[off + j * 3 + 1]? = some (.string t.x) ∧ C[off + j * 3 + 2]? = some (.int .i64 t.p))
theorem TkR.same {W W' : World} {g : Nat} {v : Value} {ts : List TokD} (h : TkR W g v ts) (hs : ∀ (C : Array Value), W.heap[g]? = some (.cells C 61 (0, 0)) → W'.heap[g]? = some (.cells C 61 (0, 0))) : TkR W' g v ts := by
  obtain ⟨h1, a, cap, rfl, h2, h3, h4⟩ := h
  refine ⟨h1, a, cap, rfl, h2, h3, fun h0 => ?_⟩
  obtain ⟨off, C, rfl, hg, hc⟩ := h4 h0
  exact ⟨off, C, rfl, hs C hg, hc⟩
/-- What else the parser holds: the tokens' block; the slices of its locations, their values and the threads; the condition's cells. -/
structure Hd where
  g : Nat
  vl : Value
  vi : Value
  vt : Value
  c0 : Value
  c1 : Value
  c2 : Value
  c3 : Value
  c4 : Value
def psC (vr : Value) (s : PX.S) (h : Hd) : Array Value := #[vr, .int .i64 s.size, h.vl, .bool s.opn, .string s.name, .slice none 0 0, h.vi, h.vt, .int .u8 s.ask, h.c0, h.c1, h.c2, h.c3, h.c4, .int .u8 s.done]
def okTok (t : TokD) : Prop := t.x.size ≤ 100000 ∧ 0 ≤ t.k ∧ t.k ≤ 4
/-- Block b holds the parser. -/
def PS (W : World) (b : Nat) (s : PX.S) (h : Hd) : Prop := ∃ vr, W.heap[b]? = some (.cells (psC vr s h) 54 (0, 0)) ∧ TkR W h.g vr s.rest ∧ (∀ t ∈ s.rest, okTok t) ∧ h.g < W.heap.size
theorem PS.lt {W : World} {b : Nat} {s : PX.S} {h : Hd} (p : PS W b s h) : b < W.heap.size := by
  obtain ⟨vr, hb, _⟩ := p; exact lt_of_heap hb
theorem PS.below {W W' : World} {b : Nat} {s : PX.S} {h : Hd} (p : PS W b s h) (hb : Below W.heap.size W W') : PS W' b s h := by
  obtain ⟨vr, h1, h2, h3, h4⟩ := p
  exact ⟨vr, (hb.block b (lt_of_heap h1)).trans h1, h2.same fun C hg => (hb.block _ (lt_of_heap hg)).trans hg, h3, Nat.lt_of_lt_of_le h4 hb.size⟩
theorem PS.g_lt {W : World} {b : Nat} {s : PX.S} {h : Hd} (p : PS W b s h) : h.g < W.heap.size := by
  obtain ⟨vr, _, _, _, hg⟩ := p; exact hg
theorem PS.setOther {W : World} {b k : Nat} {s : PX.S} {h : Hd} (p : PS W b s h) (hk : k ≠ b) (hg : k ≠ h.g) (j : Nat) (v : Value) : PS (W.setCell ⟨k, j, none⟩ v) b s h := by
  obtain ⟨vr, h1, h2, h3, h4⟩ := p
  have e : ∀ i, i ≠ k → (W.setCell ⟨k, j, none⟩ v).heap[i]? = W.heap[i]? := fun i hi => Below.heap_setCell W _ v i hi
  exact ⟨vr, (e b hk.symm).trans h1, h2.same fun C hC => (e _ hg.symm).trans hC, h3, by simpa using h4⟩
theorem PS.next_ok {W : World} {b : Nat} {s : PX.S} {h : Hd} (p : PS W b s h) : okTok (PX.next s) := by
  obtain ⟨vr, _, _, h3, _⟩ := p
  unfold PX.next
  rcases hr : s.rest with _ | ⟨t, l⟩
  · exact ⟨by show (0 : Nat) ≤ _; omega, Int.le_refl _, by show (0 : Int) ≤ 4; omega⟩
  · exact h3 t (by rw [hr]; exact List.mem_cons_self)
/-- The panic of fail. -/
def failE (p e : Int) : Ending := .panicked [{ v := .iface 67 (.agg #[.int .i64 p, .int .i64 e]), recovered := false }]
/-- What a part of the cursor answers. -/
def Ends {α : Type} (W : World) (b : Nat) (h : Hd) (enc : α → Value) (r : PX.R α) (e : Ending) (W' : World) : Prop :=
  Fr [] b W W' ∧ match r with
    | .ok a s => e = .returned (enc a) ∧ PS W' b s h
    | .bad p x => e = failE p x

set_option maxRecDepth 100000 in
set_option maxHeartbeats 4000000 in
theorem next_any (b : Nat) (s : PX.S) (h : Hd) (w : World) (p : PS w b s h) : Calls Try.prog 21 #[.pointer (some ⟨b, 0, none⟩)] w fun e w' => e = .returned (tokV (PX.next s)) ∧ Below w.heap.size w w' := by
  obtain ⟨vr, h1, ⟨h2, a, cap, rfl, h3, h4, h5⟩, -⟩ := p
  have hlt := lt_of_heap h1
  have hB := (Below.refl w.heap.size w).alloc (Nat.le_refl _) (.cells #[.int .u8 0, .string ⟨#[]⟩, .int .i64 0] 61)
  have hN := heap_alloc_new w (.cells #[.int .u8 0, .string ⟨#[]⟩, .int .i64 0] 61)
  have e0 := (hB.block b hlt).trans h1
  have c0 := cell_of_row _ b 0 _ _ _ e0
  have c1 := cell_of_row _ b 1 _ _ _ e0
  obtain ⟨sz, hsz⟩ : ∃ sz, s.size = sz := ⟨_, rfl⟩
  unfold psC at c0 c1
  simp only [List.getElem?_toArray, List.getElem?_cons_zero, List.getElem?_cons_succ] at c0 c1
  rcases hr : s.rest with _ | ⟨t, l⟩
  · rw [hr] at c0
    have hn : PX.next s = ⟨0, ⟨#[]⟩, s.size⟩ := by unfold PX.next; rw [hr]; rfl
    rw [hn]
    have n0 := cell_of_row _ w.heap.size 0 _ _ _ (heap_alloc_new w (.cells #[.int .u8 0, .string ⟨#[]⟩, .int .i64 s.size] 61))
    have n1 := cell_of_row _ w.heap.size 1 _ _ _ (heap_alloc_new w (.cells #[.int .u8 0, .string ⟨#[]⟩, .int .i64 s.size] 61))
    have n2 := cell_of_row _ w.heap.size 2 _ _ _ (heap_alloc_new w (.cells #[.int .u8 0, .string ⟨#[]⟩, .int .i64 s.size] 61))
    simp only [List.getElem?_toArray, List.getElem?_cons_zero, List.getElem?_cons_succ] at n0 n1 n2
    rw [hsz] at n0 n1 n2 c1
    rw [hsz]
    have hB' := (Below.refl w.heap.size w).alloc (Nat.le_refl _) (.cells #[.int .u8 0, .string ⟨#[]⟩, .int .i64 sz] 61)
    go_enter Try.func21, Try.ntmps21
    go_wp2
    refine bodyPost_ret (v := .agg #[.int .u8 0, .string ⟨#[]⟩, .int .i64 sz]) ?_ rfl ⟨rfl, hB'⟩
    simp [results, Try.f21, go_sem, n0, n1, n2]
  · rw [hr] at c0 h2 h3 h5
    obtain ⟨off, C, rfl, hg, hc⟩ := h5 (by simp)
    generalize h.g = g at *
    obtain ⟨k0, k1, k2⟩ := hc 0 t rfl
    simp only [Nat.zero_mul, Nat.add_zero] at k0 k1 k2
    have hn : PX.next s = t := by unfold PX.next; rw [hr]; rfl
    rw [hn]
    have e1 := (hB.block g (lt_of_heap hg)).trans hg
    have d0 := (cell_of_row _ g off _ _ _ e1).trans k0
    have d1 := (cell_of_row _ g (off + 1) _ _ _ e1).trans k1
    have d2 := (cell_of_row _ g (off + 2) _ _ _ e1).trans k2
    have n0 := cell_of_row _ w.heap.size 0 _ _ _ (heap_alloc_new w (.cells #[.int .u8 t.k, .string t.x, .int .i64 t.p] 61))
    have n1 := cell_of_row _ w.heap.size 1 _ _ _ (heap_alloc_new w (.cells #[.int .u8 t.k, .string t.x, .int .i64 t.p] 61))
    have n2 := cell_of_row _ w.heap.size 2 _ _ _ (heap_alloc_new w (.cells #[.int .u8 t.k, .string t.x, .int .i64 t.p] 61))
    simp only [List.getElem?_toArray, List.getElem?_cons_zero, List.getElem?_cons_succ] at n0 n1 n2
    obtain ⟨n, hn'⟩ : ∃ n, l.length + 1 = n := ⟨_, rfl⟩
    simp only [List.length_cons] at c0
    rw [hn'] at c0
    have t1 : decide ((n : Int) = 0) = false := by simp; omega
    have t2 : decide (0 < (n : Int)) = true := by simp; omega
    have hB' := (Below.refl w.heap.size w).alloc (Nat.le_refl _) (.cells #[.int .u8 t.k, .string t.x, .int .i64 t.p] 61)
    go_enter Try.func21, Try.ntmps21
    go_wp2
    refine bodyPost_ret (v := .agg #[.int .u8 t.k, .string t.x, .int .i64 t.p]) ?_ rfl ⟨rfl, hB'⟩
    simp [results, Try.f21, go_sem, n0, n1, n2]
end PP
end Go.Proofs.Ytglbmiadgdadfaa
