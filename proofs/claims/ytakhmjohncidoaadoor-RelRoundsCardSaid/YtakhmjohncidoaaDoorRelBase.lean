/- Relations as values: a struct of a number and 48 sets, in 49 cells. -/
import Derived.Test.YtakhmjohncidoaaDoorMarksNext
import Derived.Deep.MidRow
import Derived.Deep.WholeRow
import Derived.ChangeKeysEq
namespace Go.Proofs.YtakhmjohncidoaaDoor
open Go.RowKit Go.Shelf

/-- The 48 sets, as cells. -/
def rowsL (f : Nat → Nat) : List Value := (List.range 48).map fun i => Value.int .u64 (f i : Int)
/-- A relation's cells: the number of items, then the sets. -/
def relC (n : Int) (f : Nat → Nat) : Array Value := (Value.int .i64 n :: rowsL f).toArray

theorem rowsL_length (f : Nat → Nat) : (rowsL f).length = 48 := by simp [rowsL]
theorem rowsL_get (f : Nat → Nat) (i : Nat) (h : i < 48) : (rowsL f)[i]? = some (.int .u64 (f i : Int)) := by simp [rowsL, h]
theorem relC_size (n : Int) (f : Nat → Nat) : (relC n f).size = 49 := by simp [relC, rowsL]
theorem relC_zero (n : Int) (f : Nat → Nat) : (relC n f)[0]? = some (.int .i64 n) := by simp [relC]
theorem relC_succ (n : Int) (f : Nat → Nat) (i : Nat) (h : i < 48) : (relC n f)[1 + i]? = some (.int .u64 (f i : Int)) := by
  rw [Nat.add_comm]; simp [relC, rowsL, h]
theorem relC_toList (n : Int) (f : Nat → Nat) : (relC n f).toList = Value.int .i64 n :: rowsL f := by simp [relC]
theorem relC_one (n : Int) (f : Nat → Nat) : (relC n f).all (·.oneCell') = true := by
  rw [Array.all_eq_true_iff_forall_mem]
  intro v hv
  simp only [relC, rowsL, List.mem_toArray, List.mem_cons, List.mem_map] at hv
  rcases hv with rfl | ⟨i, _, rfl⟩ <;> rfl
theorem rowsL_congr {f g : Nat → Nat} (h : ∀ i, i < 48 → f i = g i) : rowsL f = rowsL g := by
  unfold rowsL
  apply List.map_congr_left
  intro i hi
  rw [h i (by simpa using hi)]
theorem relC_congr {n : Int} {f g : Nat → Nat} (h : ∀ i, i < 48 → f i = g i) : relC n f = relC n g := by
  unfold relC; rw [rowsL_congr h]
theorem relC_inj {n m : Int} {f g : Nat → Nat} (h : relC n f = relC m g) : n = m ∧ ∀ i, i < 48 → f i = g i := by
  constructor
  · have := congrArg (fun c => c[0]?) h
    simpa [relC_zero] using this
  · intro i hi
    have := congrArg (fun c => c[1 + i]?) h
    simp only [relC_succ _ _ i hi, Option.some.injEq, Value.int.injEq, true_and] at this
    omega

/-- One set replaced. -/
def upd (f : Nat → Nat) (i x : Nat) : Nat → Nat := fun j => if j = i then x else f j
theorem relC_set (n : Int) (f : Nat → Nat) (i x : Nat) (h : i < 48) : (relC n f).setIfInBounds (1 + i) (.int .u64 (x : Int)) = relC n (upd f i x) := by
  apply Array.ext_getElem?
  intro j
  rw [Array.getElem?_setIfInBounds, relC_size]
  by_cases hj : 1 + i = j
  · subst hj
    rw [if_pos rfl, if_pos (by omega), relC_succ _ _ i h]
    simp [upd]
  · rw [if_neg hj]
    cases j with
    | zero => rw [relC_zero, relC_zero]
    | succ j =>
      by_cases hj2 : j < 48
      · rw [Nat.add_comm, relC_succ _ _ j hj2, relC_succ _ _ j hj2]
        simp [upd, show j ≠ i by omega]
      · rw [Array.getElem?_eq_none (by rw [relC_size]; omega), Array.getElem?_eq_none (by rw [relC_size]; omega)]

/-- The relation lies in block b. -/
def RelAt (W : World) (b : Nat) (n : Int) (f : Nat → Nat) : Prop := W.heap[b]? = some (.cells (relC n f) 26 (0, 0))

section
variable {W W' : World} {b : Nat} {n : Int} {f : Nat → Nat}
theorem RelAt.lt (h : RelAt W b n f) : b < W.heap.size := (Array.getElem?_eq_some_iff.1 h).1
theorem RelAt.num (h : RelAt W b n f) : W.cell? ⟨b, 0, none⟩ = some (.int .i64 n) := by rw [cell_of_row W b 0 _ _ _ h, relC_zero]
theorem RelAt.row (h : RelAt W b n f) (i : Nat) (hi : i < 48) : W.cell? ⟨b, 1 + i, none⟩ = some (.int .u64 (f i : Int)) := by rw [cell_of_row W b _ _ _ _ h, relC_succ _ _ i hi]
theorem RelAt.free (h : RelAt W b n f) (i : Nat) : W.frozen? ⟨b, i, none⟩ = false := frozen_of_row W b i _ _ h
theorem RelAt.new (W : World) (n : Int) (f : Nat → Nat) : RelAt (W.alloc (.cells (relC n f) 26)) W.heap.size n f := heap_alloc_new W _
theorem RelAt.alloc (h : RelAt W b n f) (o : Obj) : RelAt (W.alloc o) b n f := (heap_alloc_old W o b h.lt).trans h
theorem RelAt.drew (h : RelAt W b n f) : RelAt W.drew b n f := h
theorem RelAt.other (h : RelAt W b n f) (a : Addr) (v : Value) (hb : b ≠ a.block) : RelAt (W.setCell a v) b n f := (heap_setCell_other W a b v hb).trans h
theorem RelAt.set (h : RelAt W b n f) (i x : Nat) (hi : i < 48) : RelAt (W.setCell ⟨b, 1 + i, none⟩ (.int .u64 (x : Int))) b n (upd f i x) := by
  unfold RelAt
  rw [heap_setCell_same W b _ _ _ _ h, relC_set n f i x hi]
theorem RelAt.setRow (h : RelAt W b n f) (m : Int) (g : Nat → Nat) : RelAt (W.setRow b (relC m g)) b m g := setRow_heap W b _ _ _ _ h
theorem RelAt.setRow_other (h : RelAt W b n f) (c : Nat) (cs : Array Value) (hc : b ≠ c) : RelAt (W.setRow c cs) b n f := (Go.setRow_other W c b cs hc).trans h
theorem RelAt.congr (h : RelAt W b n f) {g : Nat → Nat} (hg : ∀ i, i < 48 → f i = g i) : RelAt W b n g := by unfold RelAt; rw [← relC_congr hg]; exact h
theorem RelAt.range (h : RelAt W b n f) : W.rangeAt b 1 (rowsL f) := by
  intro j v hv
  have hj : j < 48 := by have := (List.getElem?_eq_some_iff.1 hv).1; rwa [rowsL_length] at this
  rw [h.row j hj, ← hv, rowsL_get f j hj]

theorem infoRel : (Tryd.prog.info? 26).map (·.size) = some 49 := by kernel_rfl
theorem infoArr : (Tryd.prog.info? 24).map (·.size) = some 48 := by kernel_rfl

theorem RelAt.load (h : RelAt W b n f) : (Instr.loadAt 26 (.pointer (some ⟨b, 0, none⟩))).run Tryd.prog W = .ok (.agg (relC n f)) W := by
  simp only [Instr.loadAt, Instr.sureAddr, Sem.run_bind, Sem.run_pure, Result.andThen_ok]
  exact run_loadVar_row W b 26 26 (relC n f) (0, 0) _ h Tryd.underlying26 rfl (by rw [relC_size]; exact infoRel)
theorem RelAt.loadRows (h : RelAt W b n f) : (Instr.loadAt 24 (.pointer (some ⟨b, 1, none⟩))).run Tryd.prog W = .ok (.agg (rowsL f).toArray) W :=
  run_loadAt_mid W b 1 24 (rowsL f) _ h.range Tryd.underlying24 rfl (by rw [rowsL_length]; exact infoArr)
theorem RelAt.store (h : RelAt W b n f) (m : Int) (g : Nat → Nat) : (Instr.storeAt 26 (.pointer (some ⟨b, 0, none⟩)) (.agg (relC m g))).run Tryd.prog W = .ok () (W.setRow b (relC m g)) := by
  simp only [Instr.storeAt, Instr.sureAddr, Sem.run_bind, Sem.run_pure, Result.andThen_ok]
  exact run_storeVar_row W b 26 26 (relC n f) (relC m g) h (by rw [relC_size]; exact infoRel) (by rw [relC_size, relC_size]) (relC_one m g)
end

/-! What the walk sees of an operation on a whole relation: a name, which a fact on the world at hand answers. -/
/-- The empty sets. -/
def zf : Nat → Nat := fun _ => 0
noncomputable def ldRel (p : Value) : Sem Value := Instr.loadAt 26 p
noncomputable def ldArr (p : Value) : Sem Value := Instr.loadAt 24 p
noncomputable def stRel (p v : Value) : Sem Unit := Instr.storeAt 26 p v
noncomputable def ixArr (x i : Value) : Sem Value := Instr.index 24 x i
noncomputable def mkRel (ps : Array (Nat × Value)) : Sem Value := Instr.build 26 ps
noncomputable def eqRel (op : BinOp) (x y : Value) : Sem Value := binOp op 26 x y
noncomputable def zRel : Sem Value := zeroValue 26
@[go_sem ↓] theorem ldRel_eq (p : Value) : Instr.loadAt 26 p = ldRel p := rfl
@[go_sem ↓] theorem ldArr_eq (p : Value) : Instr.loadAt 24 p = ldArr p := rfl
@[go_sem ↓] theorem stRel_eq (p v : Value) : Instr.storeAt 26 p v = stRel p v := rfl
@[go_sem ↓] theorem ixArr_eq (x i : Value) : Instr.index 24 x i = ixArr x i := rfl
@[go_sem ↓] theorem mkRel_eq (ps : Array (Nat × Value)) : Instr.build 26 ps = mkRel ps := rfl
@[go_sem ↓] theorem eqRel_eq (op : BinOp) (x y : Value) : binOp op 26 x y = eqRel op x y := rfl
@[go_sem ↓] theorem zRel_eq : zeroValue 26 = zRel := rfl

/-- The zero value. -/
@[go_sem] theorem relZero (w : World) : zRel.run Tryd.prog w = .ok (.agg (relC 0 zf)) w := by kernel_rfl
@[go_sem] theorem mkRel_none (W : World) : (mkRel #[]).run Tryd.prog W = .ok (.agg (relC 0 zf)) W := by kernel_rfl
@[go_sem] theorem mkRel_num (v : Int) (W : World) : (mkRel #[(0, .int .i64 v)]).run Tryd.prog W = .ok (.agg (relC v zf)) W := by kernel_rfl

section
variable {W : World} {b : Nat} {n : Int} {f : Nat → Nat}
theorem RelAt.ld (h : RelAt W b n f) : (ldRel (.pointer (some ⟨b, 0, none⟩))).run Tryd.prog W = .ok (.agg (relC n f)) W := h.load
theorem RelAt.ldA (h : RelAt W b n f) : (ldArr (.pointer (some ⟨b, 1, none⟩))).run Tryd.prog W = .ok (.agg (rowsL f).toArray) W := h.loadRows
theorem RelAt.st (h : RelAt W b n f) (m : Int) (g : Nat → Nat) : (stRel (.pointer (some ⟨b, 0, none⟩)) (.agg (relC m g))).run Tryd.prog W = .ok () (W.setRow b (relC m g)) := h.store m g
end

theorem ixArr_row (f : Nat → Nat) (i : Int) (W : World) (h0 : 0 ≤ i) (h1 : i < 48) : (ixArr (.agg (rowsL f).toArray) (.int .i64 i)).run Tryd.prog W = .ok (.int .u64 (f i.toNat : Int)) W := by
  have hs : ∀ w : World, (sizeOf 23).run Tryd.prog w = .ok 1 w := fun w => by kernel_rfl
  have ha : ∀ w : World, (isAgg 23).run Tryd.prog w = .ok false w := fun w => by kernel_rfl
  have hg := rowsL_get f i.toNat (by omega)
  simp [ixArr, Instr.index, asIntOf, run_underlying Tryd.underlying24, h0, h1, hs, part, ha, hg]

/-- Are two relations the same? -/
def relB (n m : Int) (f g : Nat → Nat) : Bool := decide (n = m) && (List.range 48).all fun i => f i == g i
theorem relB_iff {n m : Int} {f g : Nat → Nat} : relB n m f g = true ↔ n = m ∧ ∀ i, i < 48 → f i = g i := by simp [relB]
theorem relB_same {n : Int} {f g : Nat → Nat} (h : ∀ i, i < 48 → f i = g i) : relB n n f g = true := relB_iff.2 ⟨rfl, h⟩

theorem setSize (w : World) : (sizeOf 23).run Tryd.prog w = .ok 1 w := by kernel_rfl
theorem setAgg (w : World) : (isAgg 23).run Tryd.prog w = .ok false w := by kernel_rfl
theorem intAgg (w : World) : (isAgg 3).run Tryd.prog w = .ok false w := by kernel_rfl
theorem arrAgg (w : World) : (isAgg 24).run Tryd.prog w = .ok true w := by kernel_rfl
theorem arrSize (w : World) : (sizeOf 24).run Tryd.prog w = .ok 48 w := by kernel_rfl
theorem setCells : Tryd.prog.cellsOf 23 = 1 := by kernel_rfl
theorem relHeld : Tryd.prog.stoodInHeld 26 = false := by kernel_rfl

theorem part_row (f : Nat → Nat) (i : Nat) (hi : i < 48) (W : World) : (part 23 (rowsL f).toArray i).run Tryd.prog W = .ok (.int .u64 (f i : Int)) W := by
  have hg := rowsL_get f i hi
  simp [part, hg]

theorem eqItems_rows (d : Nat) (f g : Nat → Nat) (W : World) : ∀ is : List Nat, (∀ i ∈ is, i < 48) →
    (Op.eqItems (d + 1) 23 1 (rowsL f).toArray (rowsL g).toArray is).run Tryd.prog W = .ok (is.all fun i => f i == g i) W
  | [], _ => by simp [Op.eqItems]
  | i :: is, h => by
    have hi := h i (by simp)
    have ih := eqItems_rows d f g W is (fun j hj => h j (by simp [hj]))
    rw [Op.eqItems, Nat.mul_one]
    simp only [Sem.run_bind, part_row _ i hi, Result.andThen_ok, run_equalIn_int W d 23 .u64 .u64 _ _ Tryd.underlying23]
    have e : ((f i : Int) == (g i : Int)) = (f i == g i) := by
      rw [Bool.eq_iff_iff]; simp; omega
    rw [e]
    cases hb : (f i == g i)
    · simp [hb]
    · simpa [hb] using ih

theorem eqRel_in (d : Nat) (n m : Int) (f g : Nat → Nat) (W : World) :
    (Op.equalIn (d + 1 + 1 + 1) 26 (.agg (relC n f)) (.agg (relC m g))).run Tryd.prog W = .ok (relB n m f g) W := by
  have hx : ∀ (f : Nat → Nat) (n : Int), (relC n f).extract 1 (1 + 48) = (rowsL f).toArray := by
    intro f n
    apply Array.ext'
    rw [Array.toList_extract, relC_toList]
    simp only [List.extract, List.drop_succ_cons, List.drop_zero]
    exact List.take_of_length_le (by rw [rowsL_length]; omega)
  obtain ⟨ti, hti⟩ := info_of_underlying Tryd.underlying23
  rw [run_equalIn_agg W (d + 1 + 1) 26 _ _ (by rw [Program.fieldsOf, Tryd.underlying26]) relHeld]
  have hE := run_equalIn_array (P := Tryd.prog) W (d + 1) (t := 24) (e := 23) (n := 48) (rowsL f).toArray (rowsL g).toArray Tryd.underlying24 hti
  rw [setCells, eqItems_rows d f g W (List.range 48) (fun i hi => by simpa using hi)] at hE
  have hp : ∀ (f : Nat → Nat) (n : Int), (part 24 (relC n f) 1).run Tryd.prog W = .ok (.agg (rowsL f).toArray) W := by
    intro f n
    simp only [part, Sem.run_bind, arrAgg, arrSize, Result.andThen_ok, if_true, hx, Sem.run_pure]
  have hq : ∀ (f : Nat → Nat) (n : Int), (part 3 (relC n f) 0).run Tryd.prog W = .ok (.int .i64 n) W := by
    intro f n
    simp only [part, Sem.run_bind, intAgg, Result.andThen_ok, relC_zero, Bool.false_eq_true, if_false, Sem.run_pure]
  simp only [Program.fieldsOf, Tryd.underlying26, Op.eqFields]
  rw [if_pos (by decide), if_pos (by decide)]
  simp only [Sem.run_bind, hq, Result.andThen_ok, run_equalIn_int W (d + 1) 3 .i64 .i64 _ _ Tryd.underlying3]
  have e : relB n m f g = ((n == m) && (List.range 48).all fun i => f i == g i) := rfl
  rw [e]
  generalize ((List.range 48).all fun i => f i == g i) = b at hE ⊢
  generalize (n == m) = c
  cases c
  · rw [Bool.not_false, if_pos rfl, Bool.false_and, Sem.run_pure]
  · rw [Bool.true_and, Bool.not_true, if_neg (by decide)]
    rw [Sem.run_bind, hp, Result.andThen_ok, Sem.run_bind, hp, Result.andThen_ok, Sem.run_bind, hE, Result.andThen_ok]
    cases b
    · rw [Bool.not_false, if_pos rfl, Sem.run_pure]
    · rw [Bool.not_true, if_neg (by decide), Sem.run_pure]

theorem eqRel_in' (n m : Int) (f g : Nat → Nat) (W : World) :
    (Op.equalIn 10000 26 (.agg (relC n f)) (.agg (relC m g))).run Tryd.prog W = .ok (relB n m f g) W := eqRel_in 9997 n m f g W

@[go_sem] theorem eqRel_eql (n m : Int) (f g : Nat → Nat) (W : World) : (eqRel .eql (.agg (relC n f)) (.agg (relC m g))).run Tryd.prog W = .ok (.bool (relB n m f g)) W := by
  unfold eqRel
  rw [run_eql_struct, eqRel_in']
  rfl
@[go_sem] theorem eqRel_neq (n m : Int) (f g : Nat → Nat) (W : World) : (eqRel .neq (.agg (relC n f)) (.agg (relC m g))).run Tryd.prog W = .ok (.bool (!relB n m f g)) W := by
  unfold eqRel
  rw [run_neq_struct, eqRel_in']
  rfl
end Go.Proofs.YtakhmjohncidoaaDoor
