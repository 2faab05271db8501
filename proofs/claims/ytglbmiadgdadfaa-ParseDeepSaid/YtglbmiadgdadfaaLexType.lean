/- lex.spaced: the texts of tokens, with the spaces between. -/
import Derived.Lib.AppendStr
import Derived.Test.YtglbmiadgdadfaaLexLex
namespace Go.Proofs.Ytglbmiadgdadfaa
open Go.RowKit Go.Shelf

attribute [local go_sem] Oper.semAt_some
/-- A token as data: its kind, its text, its offset. -/
structure TokD where
  k : Int
  x : ByteArray
  p : Int
/-- A slice of tokens that lies below n₀. -/
def TokSl (n₀ : Nat) (W : World) (v : Value) (ts : List TokD) : Prop :=
  ts.length ≤ maxLen ∧ ∃ a cap, v = .slice a ts.length cap ∧ (0 < ts.length → ∃ b, a = some ⟨b, 0, none⟩ ∧ b < n₀ ∧ ∀ (j : Nat) (t : TokD), ts[j]? = some t →
    W.cell? ⟨b, j * 3, none⟩ = some (.int .u8 t.k) ∧ W.cell? ⟨b, j * 3 + 1, none⟩ = some (.string t.x) ∧ W.cell? ⟨b, j * 3 + 2, none⟩ = some (.int .i64 t.p))
theorem TokSl.below {n₀ : Nat} {W W' : World} {v : Value} {ts : List TokD} (h : TokSl n₀ W v ts) (hb : Below n₀ W W') : TokSl n₀ W' v ts := by
  obtain ⟨hl, a, cap, rfl, h⟩ := h
  refine ⟨hl, a, cap, rfl, fun h0 => ?_⟩
  obtain ⟨b, rfl, hbn, hc⟩ := h h0
  refine ⟨b, rfl, hbn, fun j t hj => ?_⟩
  obtain ⟨h1, h2, h3⟩ := hc j t hj
  exact ⟨(hb.cell (p := ⟨b, j * 3, none⟩) hbn).trans h1, (hb.cell (p := ⟨b, j * 3 + 1, none⟩) hbn).trans h2, (hb.cell (p := ⟨b, j * 3 + 2, none⟩) hbn).trans h3⟩
theorem TokSl.mono {n₀ n₁ : Nat} {W : World} {v : Value} {ts : List TokD} (h : TokSl n₀ W v ts) (hn : n₀ ≤ n₁) : TokSl n₁ W v ts := by
  obtain ⟨hl, a, cap, rfl, h⟩ := h
  refine ⟨hl, a, cap, rfl, fun h0 => ?_⟩
  obtain ⟨b, rfl, hbn, hc⟩ := h h0
  exact ⟨b, rfl, by omega, hc⟩
theorem TokSl.on {W W' : World} {v : Value} {ts : List TokD} (h : TokSl W.heap.size W v ts) (hb : Below W.heap.size W W') : TokSl W'.heap.size W' v ts := (h.below hb).mono hb.size
/-- The tokens of a text as data. -/
def tokD (s : ByteArray) (t : LX.Tk) : TokD := ⟨(t.kind : Int), s.extract t.lo t.hi, (t.lo : Int)⟩
theorem toksC_get (s : ByteArray) : ∀ (l : List LX.Tk) (j : Nat) (t : LX.Tk), l[j]? = some t → (toksC s l)[j * 3]? = some (.int .u8 (t.kind : Int)) ∧ (toksC s l)[j * 3 + 1]? = some (.string (s.extract t.lo t.hi)) ∧ (toksC s l)[j * 3 + 2]? = some (.int .i64 (t.lo : Int))
  | [], j, t, h => by simp at h
  | u :: l, 0, t, h => by
    simp at h; subst h
    unfold toksC tokC
    simp
  | u :: l, j + 1, t, h => by
    have := toksC_get s l j t (by simpa using h)
    have e : toksC s (u :: l) = tokC s u ++ toksC s l := by unfold toksC; simp
    have hl : (tokC s u).length = 3 := rfl
    rw [e, List.getElem?_append_right (by omega), List.getElem?_append_right (by omega), List.getElem?_append_right (by omega), hl, show (j + 1) * 3 - 3 = j * 3 by omega, show (j + 1) * 3 + 1 - 3 = j * 3 + 1 by omega, show (j + 1) * 3 + 2 - 3 = j * 3 + 2 by omega]
    exact this
theorem tokSl_own {W : World} {base : Nat} {v : Value} {s : ByteArray} {l : List LX.Tk} (h : W.ownsRow base 61 3 v l.length (toksC s l)) (hm : l.length ≤ maxLen) : TokSl W.heap.size W v (l.map (tokD s)) := by
  refine ⟨by rw [List.length_map]; exact hm, ?_⟩
  rw [List.length_map]
  rcases h.2 with ⟨rfl, h0⟩ | ⟨g, cap, cur, rfl, hg, hheap, hnc, hc1, hc2, hc3⟩
  · exact ⟨none, 0, by rw [h0], fun h => by omega⟩
  · refine ⟨_, cap, rfl, fun _ => ⟨g, rfl, (Array.getElem?_eq_some_iff.1 hheap).1, fun j t ht => ?_⟩⟩
    rw [List.getElem?_map] at ht
    obtain ⟨u, hu, rfl⟩ := Option.map_eq_some_iff.1 ht
    obtain ⟨a1, a2, a3⟩ := toksC_get s l j u hu
    have hjl := (List.getElem?_eq_some_iff.1 hu).1
    exact ⟨(h.cellAt (j * 3) (by omega)).trans a1, (h.cellAt (j * 3 + 1) (by omega)).trans a2, (h.cellAt (j * 3 + 2) (by omega)).trans a3⟩

def bsp : ByteArray := ⟨#[32]⟩
def bnl : ByteArray := ⟨#[10]⟩
def bno : ByteArray := ⟨#[]⟩
/-- Each token's text with what separates it from the one before. -/
def spL (sp : ByteArray) : List TokD → List (ByteArray × ByteArray)
  | [] => []
  | t :: ts => if t.k = 4 then (bno, bnl) :: spL bno ts else (sp, t.x) :: spL bsp ts
theorem spL_at {sp : ByteArray} {ts : List TokD} {k : Nat} {t : TokD} (h : ts[k]? = some t) : spL sp (ts.drop k) = if t.k = 4 then (bno, bnl) :: spL bno (ts.drop (k + 1)) else (sp, t.x) :: spL bsp (ts.drop (k + 1)) := by
  have hk := (List.getElem?_eq_some_iff.1 h).1
  rw [List.drop_eq_getElem_cons hk, (List.getElem?_eq_some_iff.1 h).2]
  rfl

/-- The blocks of kp lie as they lay. -/
def KB (kp : Nat → Prop) (W W' : World) : Prop := W.heap.size ≤ W'.heap.size ∧ ∀ k o, kp k → W.heap[k]? = some o → W'.heap[k]? = some o
theorem KB.refl (kp : Nat → Prop) (W : World) : KB kp W W := ⟨Nat.le_refl _, fun _ _ _ h => h⟩
theorem KB.trans {kp : Nat → Prop} {A B C : World} (h : KB kp A B) (k : KB kp B C) : KB kp A C := ⟨Nat.le_trans h.1 k.1, fun i o hi hs => k.2 i o hi (h.2 i o hi hs)⟩
theorem KB.of_below {kp : Nat → Prop} {W W' : World} (h : Below W.heap.size W W') : KB kp W W' := ⟨h.size, fun k _ _ hs => (h.block k (Array.getElem?_eq_some_iff.1 hs).1).trans hs⟩
theorem KB.of_keep {kp : Nat → Prop} {e : TypeId} {m : Nat} {W W' : World} (h : Keep e kp m W W') : KB kp W W' := ⟨h.size, fun k o hk hs => h.block k o (.inl hk) hs⟩
def encS (x : ByteArray × ByteArray) : Array Value := #[.string x.1, .string x.2]
def SpRel (kp : Nat → Prop) (ts : List TokD) (J : List (ByteArray × ByteArray) → World → Prop) (W : World) (u i : Value) (wr : World) : Prop :=
  ∃ (k : Nat) (sp : ByteArray) (pr : List (ByteArray × ByteArray)), k ≤ ts.length ∧ u = .string sp ∧ i = .int .i64 (k : Int) ∧ J pr wr ∧ KB kp W wr ∧ Hid (spL bno ts = pr ++ spL sp (ts.drop k))
def SpEnd (ts : List TokD) (J Jx : List (ByteArray × ByteArray) → World → Prop) (e : Ending) (W' : World) : Prop :=
  (∃ v, e = .returned v) ∧ (J (spL bno ts) W' ∨ ∃ pre, pre <+: spL bno ts ∧ Jx pre W')

end Go.Proofs.Ytglbmiadgdadfaa
