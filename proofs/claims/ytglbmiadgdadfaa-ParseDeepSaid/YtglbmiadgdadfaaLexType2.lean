/- lex.Type. -/
import Derived.Laws.IdiomStrings
import Derived.Lib.BufferRead
import Derived.Test.YtglbmiadgdadfaaLexType
namespace Go.Proofs.Ytglbmiadgdadfaa
open Go.RowKit Go.Shelf

attribute [local go_sem] Oper.semAt_some
/-- The bytes of pairs of strings, one behind the other; bytes as cells. -/
def byL (l : List (ByteArray × ByteArray)) : List UInt8 := l.flatMap fun x => bsOf x.1 ++ bsOf x.2
def byC (l : List UInt8) : List Value := l.map fun b => Value.int .u8 b.toNat
theorem byL_snoc (l : List (ByteArray × ByteArray)) (x : ByteArray × ByteArray) : byL (l ++ [x]) = byL l ++ bsOf x.1 ++ bsOf x.2 := by unfold byL; simp
theorem byL_prefix {p l : List (ByteArray × ByteArray)} (h : p <+: l) : (byL p).length ≤ (byL l).length := by
  obtain ⟨r, rfl⟩ := h
  unfold byL
  rw [List.flatMap_append, List.length_append]; omega
theorem strCells_byC (s : ByteArray) : Lib.strCells s = byC (bsOf s) := rfl
/-- What Type answers. -/
def typeS (ts : List TokD) : ByteArray := ⟨(byL (spL bno ts)).toArray⟩

theorem value_in {F : Fence} {n : Nat} {P : Program} {ops : Array Oper} {Q : Exit → Act → World → Prop} {o : Oper} {rest : List Oper} {a : Act} {w w' : World} {v : Value} (hF : ∀ f, F.fn f) (hg : o.guard = none) (hd : ∀ c, o.op ≠ .defer c)
    (hr : (execOp a.eval o).run P w = .ok (.value v) w') (h : wpListIn F n P ops Q rest (a.put o.dst v) w') : wpListIn F n P ops Q (o :: rest) a w := by
  have hw : Region.wanted o (yielded ops a.tmps) = true := by simp [Region.wanted, hg]
  simp only [wpListIn, hw, if_true]
  exact wpIn_value_run hF hd hr h
theorem exec_append {P : Program} {o : Oper} {a : Act} {w w' : World} (s x : Operand) (t u : TypeId) (hop : o.op = Op.call { callee := Callee.builtin Builtin.append, args := #[s, x], argTypes := #[t, u] }) {v1 v2 v : Value}
    (hs : a.eval s = v1) (hx : a.eval x = v2) (hr : (Builtin.append_ #[t, u] o.type #[v1, v2]).run P w = .ok v w') : (execOp a.eval o).run P w = .ok (.value v) w' := by
  unfold execOp
  simp only [hop, resolve, invoke, builtin, Sem.run_bind, Sem.run_pure, Result.andThen_ok, List.map_toArray, List.map_cons, List.map_nil, hs, hx, hr]

theorem infoByte : ∃ i : TypeInfo, Try.prog.info? 5 = some i ∧ i.zero = some (.int .u8 0) ∧ i.size = 1 ∧ i.bytes = 1 := by
  have h : (Try.prog.info? 5).map (fun i => (i.zero, i.size, i.bytes)) = some (some (.int .u8 0), 1, 1) := by kernel_rfl
  cases hi : Try.prog.info? 5 with
  | none => rw [hi] at h; cases h
  | some i =>
    rw [hi] at h
    simp only [Option.map_some, Option.some.injEq, Prod.mk.injEq] at h
    exact ⟨i, rfl, h.1, h.2.1, h.2.2⟩
/-- What the loop of Type carries. -/
def TyI (w : World) (pre : List (ByteArray × ByteArray)) (W : World) : Prop :=
  ∃ v, Boxed W w.heap.size 36 v ∧ W.ownsRow w.heap.size 5 1 v (byL pre).length (byC (byL pre)) ∧ Below w.heap.size w W
theorem bown_row {W : World} {base n : Nat} {v : Value} {xs : List Value} (ho : W.ownsRow base 5 1 v n xs) {g : Nat} (hg : v.ownBlock = some g) : base ≤ g ∧ ∃ cur, W.heap[g]? = some (.cells cur 5 (0, 0)) := by
  rcases ho.2 with ⟨rfl, _⟩ | ⟨g', cap, cur, rfl, h1, h2, _⟩
  · simp [Value.ownBlock] at hg
  · simp [Value.ownBlock] at hg; subst hg; exact ⟨h1, cur, h2⟩
theorem bown_ne {W : World} {base n b : Nat} {v u : Value} {xs : List Value} {t : TypeId} (ho : W.ownsRow base 5 1 v n xs) (hb : Boxed W b t u) (ht : t ≠ 5) : v.ownBlock ≠ some b := fun hg => by
  obtain ⟨_, cur, h⟩ := bown_row ho hg
  unfold Boxed at hb
  rw [hb] at h; cases h; exact ht rfl
theorem bown_form {W : World} {base n : Nat} {v : Value} {xs : List Value} (ho : W.ownsRow base 5 1 v n xs) : (v = .slice none 0 0 ∧ n = 0) ∨ ∃ g cap, v = .slice (some ⟨g, 0, none⟩) n cap := by
  rcases ho.2 with h | ⟨g, cap, cur, rfl, _⟩
  · exact .inl h
  · exact .inr ⟨g, cap, rfl⟩
theorem bown_set {W : World} {base n b : Nat} {v u : Value} {xs : List Value} {t : TypeId} (ho : W.ownsRow base 5 1 v n xs) (hb : Boxed W b t u) (ht : t ≠ 5) (u' : Value) : (W.setCell ⟨b, 0, none⟩ u').ownsRow base 5 1 v n xs := by
  refine ⟨ho.1, ho.2.imp id ?_⟩
  rintro ⟨g, cap, cur, rfl, h1, h2, h3⟩
  refine ⟨g, cap, cur, rfl, h1, (Below.heap_setCell W ⟨b, 0, none⟩ u' g ?_).trans h2, h3⟩
  rintro rfl
  exact bown_ne ho hb ht rfl

/-- One append of a string, and its store. -/
theorem app_step (w W : World) (v : Value) (l : List UInt8) (x : ByteArray) (m : Nat) (hb : Boxed W w.heap.size 36 v) (ho : W.ownsRow w.heap.size 5 1 v l.length (byC l)) (hB : Below w.heap.size w W) (hsz : l.length + x.size ≤ 140737488355328) (hm : w.heap.size < m) :
    ∃ v' W', (Builtin.append_ #[36, 9] 36 #[v, .string x]).run Try.prog W = .ok v' W' ∧ Boxed W' w.heap.size 36 v ∧ ((v' = .slice none 0 0) ∨ ∃ g n cap, v' = .slice (some ⟨g, 0, none⟩) n cap) ∧
      Boxed (W'.setCell ⟨w.heap.size, 0, none⟩ v') w.heap.size 36 v' ∧ (W'.setCell ⟨w.heap.size, 0, none⟩ v').ownsRow w.heap.size 5 1 v' (l ++ bsOf x).length (byC (l ++ bsOf x)) ∧ Below w.heap.size w (W'.setCell ⟨w.heap.size, 0, none⟩ v') ∧
      ∀ kp : Nat → Prop, (∀ k, kp k → k < w.heap.size ∨ k = w.heap.size + 1) → (∀ g, v.ownBlock = some g → g ≠ w.heap.size + 1) → Keep 5 kp m W (W'.setCell ⟨w.heap.size, 0, none⟩ v') := by
  obtain ⟨i, hi, hz, hsi, hby⟩ := infoByte
  obtain ⟨v', W', hr, ho', hg, -⟩ := Lib.run_append_own_string (P := Try.prog) W w.heap.size 36 9 36 5 i Try.underlying36 Try.underlying9 hi hz hsi hby v l.length (byC l) ho x (by unfold maxLen; omega) hsz hB.size
  have hb' : Boxed W' w.heap.size 36 v := (hg.block _ (Array.getElem?_eq_some_iff.1 hb).1 (fun e => bown_ne ho hb (by decide) e.symm)).trans hb
  have hl : (l ++ bsOf x).length = l.length + x.size := by rw [List.length_append, bsOf_length]
  have ho2 : W'.ownsRow w.heap.size 5 1 v' (l ++ bsOf x).length (byC (l ++ bsOf x)) := by
    rw [hl]; unfold byC; rw [List.map_append]; exact ho'
  refine ⟨v', W', hr, hb', ?_, hb'.set v', bown_set ho2 hb' (by decide) _, ?_, fun kp hkp hne => ?_⟩
  · rcases bown_form ho' with h | ⟨g, cap, h⟩
    · exact .inl h.1
    · exact .inr ⟨g, _, cap, h⟩
  · refine (hB.grown hg hB.size fun j hj => (bown_row ho hj).1).setCell (by simp) _
  · refine (Keep.of_grown hg fun k hk => ⟨fun h => ?_, fun o ho3 => ?_⟩).trans (Keep.setCell _ _ _ (fun h => ?_) hm)
    · have h1 := (bown_row ho hk).1
      rcases hkp k h with h2 | h2
      · omega
      · exact hne k hk h2
    · obtain ⟨_, cur, hcur⟩ := bown_row ho hk
      rw [hcur] at ho3; cases ho3; exact ⟨_, _, rfl⟩
    · have := hkp _ h
      simp at this
end Go.Proofs.Ytglbmiadgdadfaa
