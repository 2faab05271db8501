/- How the parts of the parser follow on one another. -/
import Derived.Test.YtijipgiclkkfhaaParLoc2
namespace Go.Proofs.Ytijipgiclkkfhaa
open Go.RowKit Go.Shelf

attribute [local go_sem] Oper.semAt_some
namespace PP
/-- What has come about since the world w: the parser stands at s. -/
structure Tr (w : World) (b : Nat) (h : Hd) (W : World) (s : PX.S) (g : Hd) : Prop where
  fr : Fr T1 b w W
  ls : LS W b s g
  hd : ∃ vl vi, g = { h with vl := vl, vi := vi }
theorem Tr.start {w : World} {b : Nat} {s : PX.S} {h : Hd} (L : LS w b s h) : Tr w b h w s h := ⟨.refl _ _ _, L, h.vl, h.vi, rfl⟩
theorem Tr.below {w W W' : World} {b : Nat} {s : PX.S} {h g : Hd} (T : Tr w b h W s g) (B : Below W.heap.size W W') : Tr w b h W' s g := ⟨T.fr.trans (.of_below B), T.ls.below B, T.hd⟩
theorem Tr.alloc {w W : World} {b : Nat} {s : PX.S} {h g : Hd} (T : Tr w b h W s g) (o : Obj) : Tr w b h (W.alloc o) s g := T.below ((Below.refl _ W).alloc (Nat.le_refl _) o)
theorem Tr.step0 {w W W' : World} {b : Nat} {s s' : PX.S} {h g : Hd} (T : Tr w b h W s g) (F : Fr [] b W W') (m : Mv s s') (P : PS W' b s' g) : Tr w b h W' s' g := ⟨T.fr.trans F.up, T.ls.up F m P, T.hd⟩
theorem Tr.step1 {w W W' : World} {b : Nat} {s s' : PX.S} {h g : Hd} {vl vi : Value} (T : Tr w b h W s g) (F : Fr T1 b W W') (L : LS W' b s' { g with vl := vl, vi := vi }) : Tr w b h W' s' { g with vl := vl, vi := vi } := ⟨T.fr.trans F, L, by
  obtain ⟨a, c, rfl⟩ := T.hd; exact ⟨vl, vi, rfl⟩⟩
theorem Tr.set {w W : World} {b k : Nat} {s : PX.S} {h g : Hd} (T : Tr w b h W s g) (hk : w.heap.size ≤ k) (hb : b < w.heap.size) (hg : g.g < w.heap.size) (C : Array Value) (t : TypeId) (hC : W.heap[k]? = some (.cells C t (0, 0))) (h1 : t ∉ T1) (j : Nat) (v : Value) : Tr w b h (W.setCell ⟨k, j, none⟩ v) s g := by
  have keep : ∀ i o, W.heap[i]? = some o → i ≠ k → (W.setCell ⟨k, j, none⟩ v).heap[i]? = some o := fun i o hi hik => (Below.heap_setCell W _ v i hik).trans hi
  refine ⟨T.fr.setNew hk j v, ⟨T.ls.ps.setOther (by omega) (by omega) j v, ⟨fun ho => ⟨own_sameT (T.ls.locs.1 ho).1 fun i cur _ hh => keep i _ hh ?_, (T.ls.locs.1 ho).2⟩, fun ho => ?_⟩, fun ho => own_sameT (T.ls.init ho) fun i cur _ hh => keep i _ hh ?_⟩, T.hd⟩
  · rintro rfl; rw [hC] at hh; cases hh; exact h1 (by simp [T1])
  · obtain ⟨e1, a, cap, e2, e3⟩ := T.ls.locs.2 ho
    refine ⟨e1, a, cap, e2, fun h0 => ?_⟩
    obtain ⟨i, off, D, e4, e5, e6, e7⟩ := e3 h0
    exact ⟨i, off, D, e4, e5, keep i _ e6 (by omega), e7⟩
  · rintro rfl; rw [hC] at hh; cases hh; exact h1 (by simp [T1])
theorem Tr.ok {α : Type} {w W : World} {b : Nat} {s : PX.S} {h g : Hd} {enc : α → Value} {a : α} {r : PX.R α} (T : Tr w b h W s g) (hr : r = .ok a s) : Ends1 w b h enc r (.returned (enc a)) W := by
  subst hr
  obtain ⟨vl, vi, rfl⟩ := T.hd
  exact ⟨T.fr, rfl, vl, vi, T.ls⟩
theorem Ends1.bad {α : Type} {w W : World} {b : Nat} {h : Hd} {enc : α → Value} {r : PX.R α} {p x : Int} (F : Fr T1 b w W) (hr : r = .bad p x) : Ends1 w b h enc r (failE p x) W := by
  subst hr; exact ⟨F, rfl⟩
/-- A call of a part of the cursor. -/
theorem call0 {α : Type} {P : Program} {f : Nat} {args : Array Value} {W : World} {b : Nat} {g : Hd} {enc : α → Value} {r : PX.R α} {Q : Ending → World → Prop} (hc : Calls P f args W (Ends W b g enc r))
    (hok : ∀ a s' W', r = .ok a s' → Fr [] b W W' → PS W' b s' g → Q (.returned (enc a)) W') (hbad : ∀ p x W', r = .bad p x → Fr [] b W W' → Q (failE p x) W') : Calls P f args W Q := by
  refine hc.mono ?_
  rintro e W' ⟨F, E⟩
  rcases r with ⟨a, s'⟩ | ⟨p, x⟩
  · obtain ⟨rfl, P⟩ := E; exact hok a s' W' rfl F P
  · have E' : e = failE p x := E
    subst E'; exact hbad p x W' rfl F
/-- A call of a part that may make locations. -/
theorem call1 {α : Type} {P : Program} {f : Nat} {args : Array Value} {W : World} {b : Nat} {g : Hd} {enc : α → Value} {r : PX.R α} {Q : Ending → World → Prop} (hc : Calls P f args W (Ends1 W b g enc r))
    (hok : ∀ a s' W' vl vi, r = .ok a s' → Fr T1 b W W' → LS W' b s' { g with vl := vl, vi := vi } → Q (.returned (enc a)) W') (hbad : ∀ p x W', r = .bad p x → Fr T1 b W W' → Q (failE p x) W') : Calls P f args W Q := by
  refine hc.mono ?_
  rintro e W' ⟨F, E⟩
  rcases r with ⟨a, s'⟩ | ⟨p, x⟩
  · obtain ⟨rfl, vl, vi, L⟩ := E; exact hok a s' W' vl vi rfl F L
  · have E' : e = failE p x := E
    subst E'; exact hbad p x W' rfl F
def insV (x : PX.InsD) : Value := .agg #[.int .u8 x.op, .int .u8 x.dst, .int .u8 x.loc, .bool x.a.r, .int .u8 x.a.n, .bool x.b.r, .int .u8 x.b.n, .int .u8 x.fn, .int .u8 x.mode, .int .u8 x.skip]
def insC (x : PX.InsD) : Array Value := #[.int .u8 x.op, .int .u8 x.dst, .int .u8 x.loc, .bool x.a.r, .int .u8 x.a.n, .bool x.b.r, .int .u8 x.b.n, .int .u8 x.fn, .int .u8 x.mode, .int .u8 x.skip]
theorem row_ins {W : World} {k : Nat} {x : PX.InsD} (hz : W.heap[k]? = some (.cells (insC x) 48 (0, 0))) :
    W.cell? ⟨k, 0, none⟩ = some (.int .u8 x.op) ∧ W.cell? ⟨k, 1, none⟩ = some (.int .u8 x.dst) ∧ W.cell? ⟨k, 2, none⟩ = some (.int .u8 x.loc) ∧ W.cell? ⟨k, 3, none⟩ = some (.bool x.a.r) ∧ W.cell? ⟨k, 4, none⟩ = some (.int .u8 x.a.n) ∧
    W.cell? ⟨k, 5, none⟩ = some (.bool x.b.r) ∧ W.cell? ⟨k, 6, none⟩ = some (.int .u8 x.b.n) ∧ W.cell? ⟨k, 7, none⟩ = some (.int .u8 x.fn) ∧ W.cell? ⟨k, 8, none⟩ = some (.int .u8 x.mode) ∧ W.cell? ⟨k, 9, none⟩ = some (.int .u8 x.skip) :=
  ⟨cell_of_row _ _ 0 _ _ _ hz, cell_of_row _ _ 1 _ _ _ hz, cell_of_row _ _ 2 _ _ _ hz, cell_of_row _ _ 3 _ _ _ hz, cell_of_row _ _ 4 _ _ _ hz, cell_of_row _ _ 5 _ _ _ hz, cell_of_row _ _ 6 _ _ _ hz, cell_of_row _ _ 7 _ _ _ hz, cell_of_row _ _ 8 _ _ _ hz, cell_of_row _ _ 9 _ _ _ hz⟩
/-- An instruction's cells, written one by one. -/
def setIns (W : World) (k : Nat) (x : PX.InsD) : World :=
  (((((((((W.setCell ⟨k, 0, none⟩ (.int .u8 x.op)).setCell ⟨k, 1, none⟩ (.int .u8 x.dst)).setCell ⟨k, 2, none⟩ (.int .u8 x.loc)).setCell ⟨k, 3, none⟩ (.bool x.a.r)).setCell ⟨k, 4, none⟩ (.int .u8 x.a.n)).setCell ⟨k, 5, none⟩ (.bool x.b.r)).setCell ⟨k, 6, none⟩ (.int .u8 x.b.n)).setCell ⟨k, 7, none⟩ (.int .u8 x.fn)).setCell ⟨k, 8, none⟩ (.int .u8 x.mode)).setCell ⟨k, 9, none⟩ (.int .u8 x.skip)
theorem setIns_row {W : World} {k : Nat} {y : PX.InsD} (x : PX.InsD) (hz : W.heap[k]? = some (.cells (insC y) 48 (0, 0))) : (setIns W k x).heap[k]? = some (.cells (insC x) 48 (0, 0)) := by
  have r0 := heap_setCell_same _ k 0 _ _ (.int .u8 x.op) hz
  have r1 := heap_setCell_same _ k 1 _ _ (.int .u8 x.dst) r0
  have r2 := heap_setCell_same _ k 2 _ _ (.int .u8 x.loc) r1
  have r3 := heap_setCell_same _ k 3 _ _ (.bool x.a.r) r2
  have r4 := heap_setCell_same _ k 4 _ _ (.int .u8 x.a.n) r3
  have r5 := heap_setCell_same _ k 5 _ _ (.bool x.b.r) r4
  have r6 := heap_setCell_same _ k 6 _ _ (.int .u8 x.b.n) r5
  have r7 := heap_setCell_same _ k 7 _ _ (.int .u8 x.fn) r6
  have r8 := heap_setCell_same _ k 8 _ _ (.int .u8 x.mode) r7
  have r9 := heap_setCell_same _ k 9 _ _ (.int .u8 x.skip) r8
  unfold setIns
  rw [r9]
  simp only [insC, List.setIfInBounds_toArray, List.set_cons_succ, List.set_cons_zero]
theorem Tr.setIns {w W : World} {b k : Nat} {s : PX.S} {h g : Hd} (T : Tr w b h W s g) (hk : w.heap.size ≤ k) (hb : b < w.heap.size) (hg : g.g < w.heap.size) {y : PX.InsD} (x : PX.InsD) (hz : W.heap[k]? = some (.cells (insC y) 48 (0, 0))) : Tr w b h (setIns W k x) s g := by
  have h1 : 48 ∉ T1 := by simp [T1]
  have r0 := heap_setCell_same _ k 0 _ _ (.int .u8 x.op) hz
  have r1 := heap_setCell_same _ k 1 _ _ (.int .u8 x.dst) r0
  have r2 := heap_setCell_same _ k 2 _ _ (.int .u8 x.loc) r1
  have r3 := heap_setCell_same _ k 3 _ _ (.bool x.a.r) r2
  have r4 := heap_setCell_same _ k 4 _ _ (.int .u8 x.a.n) r3
  have r5 := heap_setCell_same _ k 5 _ _ (.bool x.b.r) r4
  have r6 := heap_setCell_same _ k 6 _ _ (.int .u8 x.b.n) r5
  have r7 := heap_setCell_same _ k 7 _ _ (.int .u8 x.fn) r6
  have r8 := heap_setCell_same _ k 8 _ _ (.int .u8 x.mode) r7
  exact (((((((((T.set hk hb hg _ _ hz h1 0 _).set hk hb hg _ _ r0 h1 1 _).set hk hb hg _ _ r1 h1 2 _).set hk hb hg _ _ r2 h1 3 _).set hk hb hg _ _ r3 h1 4 _).set hk hb hg _ _ r4 h1 5 _).set hk hb hg _ _ r5 h1 6 _).set hk hb hg _ _ r6 h1 7 _).set hk hb hg _ _ r7 h1 8 _).set hk hb hg _ _ r8 h1 9 _
end PP
end Go.Proofs.Ytijipgiclkkfhaa
