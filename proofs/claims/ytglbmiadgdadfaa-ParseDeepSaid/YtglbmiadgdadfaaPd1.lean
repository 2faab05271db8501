/- InsV, ParStep, ParIns, ParIns2, ParIns3, ParIns4, ParIns5 in one text, for the claim. -/
import Derived.WalkKit
import Derived.Laws.Rows
import Derived.Test.YtglbmiadgdadfaaFr
import Derived.Test.YtglbmiadgdadfaaProgD
import Derived.Test.YtglbmiadgdadfaaParLoc2
import Derived.BigRegion

section
/- An instruction in memory. -/
namespace Go.Proofs.Ytglbmiadgdadfaa
open Go.RowKit

attribute [local go_sem] Oper.semAt_some
namespace PP
def insV (x : PX.InsD) : Value := .agg #[.int .u8 x.op, .int .u8 x.dst, .int .u8 x.loc, .bool x.a.r, .int .u8 x.a.n, .bool x.b.r, .int .u8 x.b.n, .int .u8 x.fn, .int .u8 x.mode, .int .u8 x.skip]
def insC (x : PX.InsD) : Array Value := #[.int .u8 x.op, .int .u8 x.dst, .int .u8 x.loc, .bool x.a.r, .int .u8 x.a.n, .bool x.b.r, .int .u8 x.b.n, .int .u8 x.fn, .int .u8 x.mode, .int .u8 x.skip]
theorem row_ins {W : World} {k : Nat} {x : PX.InsD} (hz : W.heap[k]? = some (.cells (insC x) 46 (0, 0))) :
    W.cell? ⟨k, 0, none⟩ = some (.int .u8 x.op) ∧ W.cell? ⟨k, 1, none⟩ = some (.int .u8 x.dst) ∧ W.cell? ⟨k, 2, none⟩ = some (.int .u8 x.loc) ∧ W.cell? ⟨k, 3, none⟩ = some (.bool x.a.r) ∧ W.cell? ⟨k, 4, none⟩ = some (.int .u8 x.a.n) ∧
    W.cell? ⟨k, 5, none⟩ = some (.bool x.b.r) ∧ W.cell? ⟨k, 6, none⟩ = some (.int .u8 x.b.n) ∧ W.cell? ⟨k, 7, none⟩ = some (.int .u8 x.fn) ∧ W.cell? ⟨k, 8, none⟩ = some (.int .u8 x.mode) ∧ W.cell? ⟨k, 9, none⟩ = some (.int .u8 x.skip) :=
  ⟨cell_of_row _ _ 0 _ _ _ hz, cell_of_row _ _ 1 _ _ _ hz, cell_of_row _ _ 2 _ _ _ hz, cell_of_row _ _ 3 _ _ _ hz, cell_of_row _ _ 4 _ _ _ hz, cell_of_row _ _ 5 _ _ _ hz, cell_of_row _ _ 6 _ _ _ hz, cell_of_row _ _ 7 _ _ _ hz, cell_of_row _ _ 8 _ _ _ hz, cell_of_row _ _ 9 _ _ _ hz⟩
/-- An instruction's cells, written one by one. -/
def setIns (W : World) (k : Nat) (x : PX.InsD) : World :=
  (((((((((W.setCell ⟨k, 0, none⟩ (.int .u8 x.op)).setCell ⟨k, 1, none⟩ (.int .u8 x.dst)).setCell ⟨k, 2, none⟩ (.int .u8 x.loc)).setCell ⟨k, 3, none⟩ (.bool x.a.r)).setCell ⟨k, 4, none⟩ (.int .u8 x.a.n)).setCell ⟨k, 5, none⟩ (.bool x.b.r)).setCell ⟨k, 6, none⟩ (.int .u8 x.b.n)).setCell ⟨k, 7, none⟩ (.int .u8 x.fn)).setCell ⟨k, 8, none⟩ (.int .u8 x.mode)).setCell ⟨k, 9, none⟩ (.int .u8 x.skip)
theorem setIns_row {W : World} {k : Nat} {y : PX.InsD} (x : PX.InsD) (hz : W.heap[k]? = some (.cells (insC y) 46 (0, 0))) : (setIns W k x).heap[k]? = some (.cells (insC x) 46 (0, 0)) := by
  have r0 := heap_setCell_same _ k 0 _ _ (.int .u8 x.op) hz
  have r1 := heap_setCell_same _ k 1 _ _ (.int .u8 x.dst) r0
  have r2 := heap_setCell_same _ k 2 _ _ (.int .u8 x.loc) r1
  have r3 := heap_setCell_same _ k 3 _ _ (.bool x.a.r) r2
  have r4 := heap_setCell_same _ k 4 _ _ (.int .u8 x.a.n) r3
  have r5 := heap_setCell_same _ k 5 _ _ (.bool x.b.r) r4
  have r6 := heap_setCell_same _ k 6 _ _ (.int .u8 x.b.n) r5
  have r7 := heap_setCell_same _ k 7 _ _ (.int .u8 x.fn) r6
  have r8 := heap_setCell_same _ k 8 _ _ (.int .u8 x.mode) r7
  have r9 := heap_setCell_same _ k 9 _ _ (.int .u8 x.skip) r8
  unfold setIns
  rw [r9]
  simp only [insC, List.setIfInBounds_toArray, List.set_cons_succ, List.set_cons_zero]
theorem sizeIns : (Try.prog.info? 46).map (·.size) = some 10 := by kernel_rfl
theorem ins_results {fn : Func} {p : Tmp} (h : fn.results = #[.cell p 46]) (tmps : Array Value) (W : World) (k : Nat) (x : PX.InsD) (hp : tmps.getD p undef = .pointer (some ⟨k, 0, none⟩)) (hz : W.heap[k]? = some (.cells (insC x) 46 (0, 0))) :
    (results fn tmps).run Try.prog W = .ok (insV x) W :=
  results_cell_row h tmps W k _ _ _ _ hp hz Try.underlying46 rfl sizeIns
theorem setA_row {W : World} {k : Nat} {y : PX.InsD} (a : PX.ArgD) (hz : W.heap[k]? = some (.cells (insC y) 46 (0, 0))) : ((W.setCell ⟨k, 3, none⟩ (.bool a.r)).setCell ⟨k, 4, none⟩ (.int .u8 a.n)).heap[k]? = some (.cells (insC { y with a := a }) 46 (0, 0)) := by
  have r0 := heap_setCell_same _ k 3 _ _ (.bool a.r) hz
  have r1 := heap_setCell_same _ k 4 _ _ (.int .u8 a.n) r0
  rw [r1]
  simp only [insC, List.setIfInBounds_toArray, List.set_cons_succ, List.set_cons_zero]
theorem setB_row {W : World} {k : Nat} {y : PX.InsD} (a : PX.ArgD) (hz : W.heap[k]? = some (.cells (insC y) 46 (0, 0))) : ((W.setCell ⟨k, 5, none⟩ (.bool a.r)).setCell ⟨k, 6, none⟩ (.int .u8 a.n)).heap[k]? = some (.cells (insC { y with b := a }) 46 (0, 0)) := by
  have r0 := heap_setCell_same _ k 5 _ _ (.bool a.r) hz
  have r1 := heap_setCell_same _ k 6 _ _ (.int .u8 a.n) r0
  rw [r1]
  simp only [insC, List.setIfInBounds_toArray, List.set_cons_succ, List.set_cons_zero]
theorem setMode_row {W : World} {k : Nat} {y : PX.InsD} (m : Int) (hz : W.heap[k]? = some (.cells (insC y) 46 (0, 0))) : (W.setCell ⟨k, 8, none⟩ (.int .u8 m)).heap[k]? = some (.cells (insC { y with mode := m }) 46 (0, 0)) := by
  rw [heap_setCell_same _ k 8 _ _ (.int .u8 m) hz]
  simp only [insC, List.setIfInBounds_toArray, List.set_cons_succ, List.set_cons_zero]
theorem setFn_row {W : World} {k : Nat} {y : PX.InsD} (m : Int) (hz : W.heap[k]? = some (.cells (insC y) 46 (0, 0))) : (W.setCell ⟨k, 7, none⟩ (.int .u8 m)).heap[k]? = some (.cells (insC { y with fn := m }) 46 (0, 0)) := by
  rw [heap_setCell_same _ k 7 _ _ (.int .u8 m) hz]
  simp only [insC, List.setIfInBounds_toArray, List.set_cons_succ, List.set_cons_zero]
theorem setDst_row {W : World} {k : Nat} {y : PX.InsD} (m : Int) (hz : W.heap[k]? = some (.cells (insC y) 46 (0, 0))) : (W.setCell ⟨k, 1, none⟩ (.int .u8 m)).heap[k]? = some (.cells (insC { y with dst := m }) 46 (0, 0)) := by
  rw [heap_setCell_same _ k 1 _ _ (.int .u8 m) hz]
  simp only [insC, List.setIfInBounds_toArray, List.set_cons_succ, List.set_cons_zero]
theorem row_keep {W : World} {k i : Nat} {o : Obj} (h : W.heap[i]? = some o) (hik : i ≠ k) (j : Nat) (v : Value) : (W.setCell ⟨k, j, none⟩ v).heap[i]? = some o := (Below.heap_setCell W ⟨k, j, none⟩ v i hik).trans h
theorem row_alloc {W : World} {i : Nat} {o : Obj} (h : W.heap[i]? = some o) (p : Obj) : (W.alloc p).heap[i]? = some o := (((Below.refl W.heap.size W).alloc (Nat.le_refl _) p).block i (lt_of_heap h)).trans h
end PP
end Go.Proofs.Ytglbmiadgdadfaa
end

section
/- How the parts of the parser follow on one another. -/
namespace Go.Proofs.Ytglbmiadgdadfaa
open Go.RowKit Go.Shelf

attribute [local go_sem] Oper.semAt_some
namespace PP
/-- What has come about since the world w: the parser stands at s. -/
structure Tr (w : World) (b : Nat) (h : Hd) (W : World) (s : PX.S) (g : Hd) : Prop where
  fr : Fr T1 b w W
  ls : LS W b s g
  hd : ∃ vl vi, g = { h with vl := vl, vi := vi }
theorem Tr.start {w : World} {b : Nat} {s : PX.S} {h : Hd} (L : LS w b s h) : Tr w b h w s h := ⟨.refl _ _ _, L, h.vl, h.vi, rfl⟩
theorem Tr.below {w W W' : World} {b : Nat} {s : PX.S} {h g : Hd} (T : Tr w b h W s g) (B : Below W.heap.size W W') : Tr w b h W' s g := ⟨T.fr.trans (.of_below B), T.ls.below B, T.hd⟩
theorem Tr.alloc {w W : World} {b : Nat} {s : PX.S} {h g : Hd} (T : Tr w b h W s g) (o : Obj) : Tr w b h (W.alloc o) s g := T.below ((Below.refl _ W).alloc (Nat.le_refl _) o)
theorem Tr.step0 {w W W' : World} {b : Nat} {s s' : PX.S} {h g : Hd} (T : Tr w b h W s g) (F : Fr [] b W W') (m : Mv s s') (P : PS W' b s' g) : Tr w b h W' s' g := ⟨T.fr.trans F.up, T.ls.up F m P, T.hd⟩
theorem Tr.step1 {w W W' : World} {b : Nat} {s s' : PX.S} {h g : Hd} {vl vi : Value} (T : Tr w b h W s g) (F : Fr T1 b W W') (L : LS W' b s' { g with vl := vl, vi := vi }) : Tr w b h W' s' { g with vl := vl, vi := vi } := ⟨T.fr.trans F, L, by
  obtain ⟨a, c, rfl⟩ := T.hd; exact ⟨vl, vi, rfl⟩⟩
theorem Tr.set {w W : World} {b k : Nat} {s : PX.S} {h g : Hd} (T : Tr w b h W s g) (hk : w.heap.size ≤ k) (hb : b < w.heap.size) (hg : g.g < w.heap.size) (C : Array Value) (t : TypeId) (hC : W.heap[k]? = some (.cells C t (0, 0))) (h1 : t ∉ T1) (j : Nat) (v : Value) : Tr w b h (W.setCell ⟨k, j, none⟩ v) s g := by
  have keep : ∀ i o, W.heap[i]? = some o → i ≠ k → (W.setCell ⟨k, j, none⟩ v).heap[i]? = some o := fun i o hi hik => (Below.heap_setCell W _ v i hik).trans hi
  refine ⟨T.fr.setNew hk j v, ⟨T.ls.ps.setOther (by omega) (by omega) j v, ⟨fun ho => ⟨own_sameT (T.ls.locs.1 ho).1 fun i cur _ hh => keep i _ hh ?_, (T.ls.locs.1 ho).2⟩, fun ho => ?_⟩, fun ho => own_sameT (T.ls.init ho) fun i cur _ hh => keep i _ hh ?_⟩, T.hd⟩
  · rintro rfl; rw [hC] at hh; cases hh; exact h1 (by simp [T1])
  · obtain ⟨e1, a, cap, e2, e3⟩ := T.ls.locs.2 ho
    refine ⟨e1, a, cap, e2, fun h0 => ?_⟩
    obtain ⟨i, off, D, e4, e5, e6, e7⟩ := e3 h0
    exact ⟨i, off, D, e4, e5, keep i _ e6 (by omega), e7⟩
  · rintro rfl; rw [hC] at hh; cases hh; exact h1 (by simp [T1])
theorem Tr.ok {α : Type} {w W : World} {b : Nat} {s : PX.S} {h g : Hd} {enc : α → Value} {a : α} {r : PX.R α} (T : Tr w b h W s g) (hr : r = .ok a s) : Ends1 w b h enc r (.returned (enc a)) W := by
  subst hr
  obtain ⟨vl, vi, rfl⟩ := T.hd
  exact ⟨T.fr, rfl, vl, vi, T.ls⟩
theorem Ends1.bad {α : Type} {w W : World} {b : Nat} {h : Hd} {enc : α → Value} {r : PX.R α} {p x : Int} (F : Fr T1 b w W) (hr : r = .bad p x) : Ends1 w b h enc r (failE p x) W := by
  subst hr; exact ⟨F, rfl⟩
/-- A call of a part of the cursor. -/
theorem call0 {α : Type} {P : Program} {f : Nat} {args : Array Value} {W : World} {b : Nat} {g : Hd} {enc : α → Value} {r : PX.R α} {Q : Ending → World → Prop} (hc : Calls P f args W (Ends W b g enc r))
    (hok : ∀ a s' W', r = .ok a s' → Fr [] b W W' → PS W' b s' g → Q (.returned (enc a)) W') (hbad : ∀ p x W', r = .bad p x → Fr [] b W W' → Q (failE p x) W') : Calls P f args W Q := by
  refine hc.mono ?_
  rintro e W' ⟨F, E⟩
  rcases r with ⟨a, s'⟩ | ⟨p, x⟩
  · obtain ⟨rfl, P⟩ := E; exact hok a s' W' rfl F P
  · have E' : e = failE p x := E
    subst E'; exact hbad p x W' rfl F
/-- A call of a part that may make locations. -/
theorem call1 {α : Type} {P : Program} {f : Nat} {args : Array Value} {W : World} {b : Nat} {g : Hd} {enc : α → Value} {r : PX.R α} {Q : Ending → World → Prop} (hc : Calls P f args W (Ends1 W b g enc r))
    (hok : ∀ a s' W' vl vi, r = .ok a s' → Fr T1 b W W' → LS W' b s' { g with vl := vl, vi := vi } → Q (.returned (enc a)) W') (hbad : ∀ p x W', r = .bad p x → Fr T1 b W W' → Q (failE p x) W') : Calls P f args W Q := by
  refine hc.mono ?_
  rintro e W' ⟨F, E⟩
  rcases r with ⟨a, s'⟩ | ⟨p, x⟩
  · obtain ⟨rfl, vl, vi, L⟩ := E; exact hok a s' W' vl vi rfl F L
  · have E' : e = failE p x := E
    subst E'; exact hbad p x W' rfl F
theorem Tr.setIns {w W : World} {b k : Nat} {s : PX.S} {h g : Hd} (T : Tr w b h W s g) (hk : w.heap.size ≤ k) (hb : b < w.heap.size) (hg : g.g < w.heap.size) {y : PX.InsD} (x : PX.InsD) (hz : W.heap[k]? = some (.cells (insC y) 46 (0, 0))) : Tr w b h (setIns W k x) s g := by
  have h1 : 46 ∉ T1 := by simp [T1]
  have r0 := heap_setCell_same _ k 0 _ _ (.int .u8 x.op) hz
  have r1 := heap_setCell_same _ k 1 _ _ (.int .u8 x.dst) r0
  have r2 := heap_setCell_same _ k 2 _ _ (.int .u8 x.loc) r1
  have r3 := heap_setCell_same _ k 3 _ _ (.bool x.a.r) r2
  have r4 := heap_setCell_same _ k 4 _ _ (.int .u8 x.a.n) r3
  have r5 := heap_setCell_same _ k 5 _ _ (.bool x.b.r) r4
  have r6 := heap_setCell_same _ k 6 _ _ (.int .u8 x.b.n) r5
  have r7 := heap_setCell_same _ k 7 _ _ (.int .u8 x.fn) r6
  have r8 := heap_setCell_same _ k 8 _ _ (.int .u8 x.mode) r7
  exact (((((((((T.set hk hb hg _ _ hz h1 0 _).set hk hb hg _ _ r0 h1 1 _).set hk hb hg _ _ r1 h1 2 _).set hk hb hg _ _ r2 h1 3 _).set hk hb hg _ _ r3 h1 4 _).set hk hb hg _ _ r4 h1 5 _).set hk hb hg _ _ r5 h1 6 _).set hk hb hg _ _ r6 h1 7 _).set hk hb hg _ _ r7 h1 8 _).set hk hb hg _ _ r8 h1 9 _
end PP
end Go.Proofs.Ytglbmiadgdadfaa
end

section
/- The parser's instructions. -/
namespace Go.Proofs.Ytglbmiadgdadfaa
open Go.RowKit Go.Shelf

attribute [local go_sem] Oper.semAt_some
namespace PP
theorem symsOk_bs {l : List UInt8} (h : l ≠ []) : SymsOk [PX.bs l] := symsOk_one fun e => h (by
  have := congrArg bsOf e
  simpa [bsOf, PX.bs] using this)
theorem bs_ne {l : List UInt8} (h : l ≠ []) : PX.bs l ≠ ⟨#[]⟩ := fun e => h (by
  have := congrArg bsOf e
  simpa [bsOf, PX.bs] using this)
def zI : PX.InsD := { op := 0 }
/-- A new instruction's cells. -/
theorem newIns (w : World) : (w.alloc (.cells #[.int .u8 0, .int .u8 0, .int .u8 0, .bool false, .int .u8 0, .bool false, .int .u8 0, .int .u8 0, .int .u8 0, .int .u8 0] 46)).heap[w.heap.size]? = some (.cells (insC zI) 46 (0, 0)) := heap_alloc_new w _

set_option maxRecDepth 100000 in
set_option maxHeartbeats 8000000 in
theorem fence_any (b : Nat) (s : PX.S) (h : Hd) (w : World) (L : LS w b s h) :
    Calls Try.prog 77 #[.pointer (some ⟨b, 0, none⟩)] w (Ends1 w b h insV (PX.fence s)) := by
  have hbl := L.ps.lt
  have hgl := L.ps.g_lt
  have hz := newIns w
  have T0 := (Tr.start L).alloc (.cells #[.int .u8 0, .int .u8 0, .int .u8 0, .bool false, .int .u8 0, .bool false, .int .u8 0, .int .u8 0, .int .u8 0, .int .u8 0] 46)
  have T1 := T0.alloc (.cells #[.string ⟨#[102, 101, 110, 99, 101]⟩] 9)
  have C1 := Lib.hid (take_any b s h _ [PX.kFence] _ T1.ls.ps (strSl_one _ _) (symsOk_bs (by decide)))
  have C2 := Lib.hid fun s W (p : PS W b s h) => takes_any b s h PX.kLoads W p (bs_ne (by decide))
  have C3 := Lib.hid fun s W (p : PS W b s h) => takes_any b s h PX.kStores W p (bs_ne (by decide))
  replace hz := ((Below.refl _ _).alloc (Nat.le_refl _) (.cells #[.string ⟨#[102, 101, 110, 99, 101]⟩] 9)).block w.heap.size (by simp) |>.trans hz
  replace T1 := Lib.hid T1
  simp only [World.size_alloc] at C1
  go_enter Try.func77, Try.ntmps77
  go_wp2_with (first
    | (go_at_call 41; refine call0 C1.out (fun t s1 w1 hx1 F1 P1 => ?_) (fun pl er w1 hx F => ⟨rfl, Ends1.bad (T1.out.fr.trans F.up) (by simp only [PX.fence, PX.R.bind, hx])⟩)
       dsimp only [tokV]
       have U1 := T1.out.step0 F1 (mv_take hx1) P1
       have z1 := F1.box hz (by omega) (by simp))
    | (go_at_call 48; have V := U2; refine call0 (C3.out _ _ U2.ls.ps) (fun r3 s3 w3 hx3 F3 P3 => ?_) (fun pl er w1 hx F => ⟨rfl, Ends1.bad (U2.fr.trans F.up) (by simp only [PX.fence, PX.R.bind, hx1, hx2, hx]; simp [*])⟩)
       dsimp only
       have U3 := U2.step0 F3 (mv_takes hx3) P3
       have z3 := F3.box z2 (by omega) (by simp)
       obtain ⟨y0, y1, y2, y3, y4, y5, y6, y7, y8, y9⟩ := row_ins z3
       have fz := fun j => frozen_of_row _ _ j _ _ z3)
    | (go_at_call 48; refine call0 (C2.out _ _ U1.ls.ps) (fun r2 s2 w2 hx2 F2 P2 => ?_) (fun pl er w1 hx F => ⟨rfl, Ends1.bad (U1.fr.trans F.up) (by simp only [PX.fence, PX.R.bind, hx1, hx])⟩)
       dsimp only
       have U2 := U1.step0 F2 (mv_takes hx2) P2
       have z2 := F2.box z1 (by omega) (by simp)
       obtain ⟨y0, y1, y2, y3, y4, y5, y6, y7, y8, y9⟩ := row_ins z2
       have fz := fun j => frozen_of_row _ _ j _ _ z2))
  · obtain ⟨e0, e1, e2, e3, e4, e5, e6, e7, e8, e9⟩ := row_ins (setIns_row { op := 7, mode := 4 } z2)
    refine bodyPost_ret (v := insV { op := 7, mode := 4 }) ?_ rfl (Tr.ok (U2.setIns (Nat.le_refl _) hbl hgl { op := 7, mode := 4 } z2) ?_)
    · unfold setIns at e0 e1 e2 e3 e4 e5 e6 e7 e8 e9
      unfold insV
      simp only at e0 e1 e2 e3 e4 e5 e6 e7 e8 e9
      simp [results, Try.f77, go_sem, e0, e1, e2, e3, e4, e5, e6, e7, e8, e9]
    · simp only [PX.fence, PX.R.bind, hx1, hx2]
      simp [*]
  · obtain ⟨e0, e1, e2, e3, e4, e5, e6, e7, e8, e9⟩ := row_ins (setIns_row { op := 7, mode := 5 } z3)
    refine bodyPost_ret (v := insV { op := 7, mode := 5 }) ?_ rfl (Tr.ok (U3.setIns (Nat.le_refl _) hbl hgl { op := 7, mode := 5 } z3) ?_)
    · unfold setIns at e0 e1 e2 e3 e4 e5 e6 e7 e8 e9
      unfold insV
      simp only at e0 e1 e2 e3 e4 e5 e6 e7 e8 e9
      simp [results, Try.f77, go_sem, e0, e1, e2, e3, e4, e5, e6, e7, e8, e9]
    · simp only [PX.fence, PX.R.bind, hx1, hx2, hx3]
      simp [*]
  · obtain ⟨e0, e1, e2, e3, e4, e5, e6, e7, e8, e9⟩ := row_ins (setIns_row { op := 7, mode := 3 } z3)
    refine bodyPost_ret (v := insV { op := 7, mode := 3 }) ?_ rfl (Tr.ok (U3.setIns (Nat.le_refl _) hbl hgl { op := 7, mode := 3 } z3) ?_)
    · unfold setIns at e0 e1 e2 e3 e4 e5 e6 e7 e8 e9
      unfold insV
      simp only at e0 e1 e2 e3 e4 e5 e6 e7 e8 e9
      simp [results, Try.f77, go_sem, e0, e1, e2, e3, e4, e5, e6, e7, e8, e9]
    · simp only [PX.fence, PX.R.bind, hx1, hx2, hx3]
      simp [*]
end PP
end Go.Proofs.Ytglbmiadgdadfaa
end

section
/- The parser's instructions: a store, a load. -/
namespace Go.Proofs.Ytglbmiadgdadfaa
open Go.RowKit Go.Shelf

attribute [local go_sem] Oper.semAt_some
namespace PP
theorem Tr.setCell {w W : World} {b k : Nat} {s : PX.S} {h g : Hd} (T : Tr w b h W s g) (hk : w.heap.size ≤ k) (hb : b < w.heap.size) (hg : h.g < w.heap.size) {C : Array Value} (hz : W.heap[k]? = some (.cells C 46 (0, 0))) (j : Nat) (v : Value) : Tr w b h (W.setCell ⟨k, j, none⟩ v) s g :=
  T.set hk hb (by obtain ⟨_, _, rfl⟩ := T.hd; exact hg) _ _ hz (by simp [T1]) j v
theorem Tr.setIns' {w W : World} {b k : Nat} {s : PX.S} {h g : Hd} (T : Tr w b h W s g) (hk : w.heap.size ≤ k) (hb : b < w.heap.size) (hg : h.g < w.heap.size) {y : PX.InsD} (x : PX.InsD) (hz : W.heap[k]? = some (.cells (insC y) 46 (0, 0))) : Tr w b h (PP.setIns W k x) s g :=
  T.setIns hk hb (by obtain ⟨_, _, rfl⟩ := T.hd; exact hg) x hz
theorem insT1 : 46 ∉ T1 := by simp [T1]

set_option maxRecDepth 100000 in
set_option maxHeartbeats 16000000 in
theorem store_any (b : Nat) (s : PX.S) (h : Hd) (w : World) (L : LS w b s h) :
    Calls Try.prog 75 #[.pointer (some ⟨b, 0, none⟩)] w (Ends1 w b h insV (PX.store s)) := by
  have hbl := L.ps.lt
  have hgl := L.ps.g_lt
  have hz := newIns w
  have U0 := (Tr.start L).alloc (.cells #[.int .u8 0, .int .u8 0, .int .u8 0, .bool false, .int .u8 0, .bool false, .int .u8 0, .int .u8 0, .int .u8 0, .int .u8 0] 46)
  have C1 := Lib.hid (loc_any b s h _ U0.ls)
  have C2 := Lib.hid fun s g W (p : PS (W.alloc (.cells #[.string ⟨#[61]⟩] 9)) b s g) => take_any b s g _ [PX.gEq] _ p (strSl_one W _) (symsOk_bs (by decide))
  have C3 := Lib.hid fun s g W (p : PS W b s g) => arg_any b s g W p
  have C4 := Lib.hid fun s g W (p : PS W b s g) => takes_any b s g PX.kRel W p (bs_ne (by decide))
  replace hz := Lib.hid hz
  replace U0 := Lib.hid U0
  go_enter Try.func75, Try.ntmps75
  go_wp2_with (first
    | (go_at_call 64; refine call1 C1.out (fun l s1 w1 vl vi hx1 F1 L1 => ?_) (fun pl er w1 hx F => ⟨rfl, Ends1.bad (U0.out.fr.trans F) (by simp only [PX.store, PX.R.bind, hx])⟩)
       dsimp only
       have z1 := F1.box hz.out (by omega) insT1
       have U1 := ((U0.out.step1 F1 L1).alloc (.cells (insC { op := 2, loc := l }) 46)).alloc (.cells #[.string ⟨#[61]⟩] 9)
       have x1 := row_alloc (heap_alloc_new w1 (.cells (insC { op := 2, loc := l }) 46)) (.cells #[.string ⟨#[61]⟩] 9)
       replace z1 := row_alloc (row_alloc z1 (.cells (insC { op := 2, loc := l }) 46)) (.cells #[.string ⟨#[61]⟩] 9)
       have hs1 : w.heap.size < w1.heap.size := by have := F1.size; simp at this; omega
       have c2 := C2.out _ _ (w1.alloc (.cells (insC { op := 2, loc := l }) 46)) U1.ls.ps
       simp only [World.size_alloc] at c2
       replace c2 := Lib.hid c2
       replace U1 := Lib.hid U1
       unfold insC at x1)
    | (go_at_call 41; refine call0 c2.out (fun t s2 w2 hx2 F2 P2 => ?_) (fun pl er w1 hx F => ⟨rfl, Ends1.bad (U1.out.fr.trans F.up) (by simp only [PX.store, PX.R.bind, hx1, hx])⟩)
       dsimp only [tokV]
       have U2 := U1.out.step0 F2 (mv_take hx2) P2
       have x2 := F2.box x1 (by omega) (by simp)
       have z2 := F2.box z1 (by omega) (by simp)
       clear x1; clear z1)
    | (go_at_call 84; refine call0 (C3.out _ _ _ U2.ls.ps) (fun a s3 w3 hx3 F3 P3 => ?_) (fun pl er w1 hx F => ⟨rfl, Ends1.bad (U2.fr.trans F.up) (by simp only [PX.store, PX.R.bind, hx1, hx2, hx])⟩)
       dsimp only [argV]
       have U3 := U2.step0 F3 (mv_arg hx3) P3
       have x3 : w3.heap[w1.heap.size]? = some (.cells (insC { op := 2, loc := l }) 46 (0, 0)) := F3.box x2 (by omega) (by simp)
       have z3 := F3.box z2 (by omega) (by simp)
       have U4 := Lib.hid ((U3.setCell (by omega) hbl hgl x3 3 (.bool a.r)).setCell (by omega) hbl hgl (heap_setCell_same _ _ 3 _ _ (.bool a.r) x3) 4 (.int .u8 a.n))
       have x4 := Lib.hid (setA_row a x3)
       have z4 := Lib.hid (row_keep (k := w1.heap.size) (row_keep (k := w1.heap.size) z3 (by omega) 3 (.bool a.r)) (by omega) 4 (.int .u8 a.n))
       clear x2; clear z2
       obtain ⟨y0, y1, y2, y3, y4, y5, y6, y7, y8, y9⟩ := row_ins x3
       have fz := fun j => frozen_of_row _ _ j _ _ x3)
    | (go_at_call 48; refine call0 (C4.out _ _ _ U4.out.ls.ps) (fun r s5 w5 hx5 F5 P5 => ?_) (fun pl er w1 hx F => ⟨rfl, Ends1.bad (U4.out.fr.trans F.up) (by simp only [PX.store, PX.R.bind, hx1, hx2, hx3, hx])⟩)
       dsimp only
       have U5 := U4.out.step0 F5 (mv_takes hx5) P5
       have x5 : w5.heap[w1.heap.size]? = some (.cells (insC { op := 2, loc := l, a := a }) 46 (0, 0)) := F5.box x4.out (by omega) (by simp)
       have z5 := F5.box z4.out (by omega) (by simp)
       clear y0 y1 y2 y3 y4 y5 y6 y7 y8 y9 fz
       obtain ⟨y0, y1, y2, y3, y4, y5, y6, y7, y8, y9⟩ := row_ins x5
       obtain ⟨v0, v1, v2, v3, v4, v5, v6, v7, v8, v9⟩ := row_ins z5
       have fz := fun j => frozen_of_row _ _ j _ _ x5
       have fv := fun j => frozen_of_row _ _ j _ _ z5))
  · have Z := row_keep (k := w1.heap.size) z5 (by omega) 8 (.int .u8 2)
    refine bodyPost_ret (v := insV { op := 2, loc := l, a := a, mode := 2 }) (ins_results rfl _ _ w.heap.size { op := 2, loc := l, a := a, mode := 2 } rfl (setIns_row { op := 2, loc := l, a := a, mode := 2 } Z)) rfl (Tr.ok ((U5.setCell (k := w1.heap.size) (by omega) hbl hgl x5 8 (.int .u8 2)).setIns' (by omega) hbl hgl { op := 2, loc := l, a := a, mode := 2 } Z) ?_)
    simp only [PX.store, PX.R.bind, hx1, hx2, hx3, hx5]
    simp [*]
  · have Z := z5
    refine bodyPost_ret (v := insV { op := 2, loc := l, a := a }) (ins_results rfl _ _ w.heap.size { op := 2, loc := l, a := a } rfl (setIns_row { op := 2, loc := l, a := a } Z)) rfl (Tr.ok ((U5).setIns' (by omega) hbl hgl { op := 2, loc := l, a := a } Z) ?_)
    simp only [PX.store, PX.R.bind, hx1, hx2, hx3, hx5]
    simp [*]
end PP
end Go.Proofs.Ytglbmiadgdadfaa
end

section
/- The parser's instructions: a load; an operation. -/
namespace Go.Proofs.Ytglbmiadgdadfaa
open Go.RowKit Go.Shelf

attribute [local go_sem] Oper.semAt_some
namespace PP
set_option maxRecDepth 100000 in
set_option maxHeartbeats 16000000 in
theorem load_any (b : Nat) (s : PX.S) (h : Hd) (w : World) (L : LS w b s h) :
    Calls Try.prog 88 #[.pointer (some ⟨b, 0, none⟩)] w (Ends1 w b h insV (PX.load s)) := by
  have hbl := L.ps.lt
  have hgl := L.ps.g_lt
  have hz := newIns w
  have U0 := (Tr.start L).alloc (.cells #[.int .u8 0, .int .u8 0, .int .u8 0, .bool false, .int .u8 0, .bool false, .int .u8 0, .int .u8 0, .int .u8 0, .int .u8 0] 46)
  have C1 := Lib.hid (loc_any b s h _ U0.ls)
  have C4 := Lib.hid fun s g W (p : PS W b s g) => takes_any b s g PX.kAcq W p (bs_ne (by decide))
  replace hz := Lib.hid hz
  replace U0 := Lib.hid U0
  go_enter Try.func88, Try.ntmps88
  go_wp2_with (first
    | (go_at_call 64; refine call1 C1.out (fun l s1 w1 vl vi hx1 F1 L1 => ?_) (fun pl er w1 hx F => ⟨rfl, Ends1.bad (U0.out.fr.trans F) (by simp only [PX.load, PX.R.bind, hx])⟩)
       dsimp only
       have z1 := F1.box hz.out (by omega) insT1
       have U1 := (U0.out.step1 F1 L1).alloc (.cells (insC { op := 1, loc := l }) 46)
       have x1 := heap_alloc_new w1 (.cells (insC { op := 1, loc := l }) 46)
       replace z1 := row_alloc z1 (.cells (insC { op := 1, loc := l }) 46)
       have hs1 : w.heap.size < w1.heap.size := by have := F1.size; simp at this; omega
       have c4 := C4.out _ _ _ U1.ls.ps
       unfold insC at c4
       replace c4 := Lib.hid c4
       replace U1 := Lib.hid U1
       unfold insC at x1)
    | (go_at_call 48; refine call0 c4.out (fun r s5 w5 hx5 F5 P5 => ?_) (fun pl er w1 hx F => ⟨rfl, Ends1.bad (U1.out.fr.trans F.up) (by simp only [PX.load, PX.R.bind, hx1, hx])⟩)
       dsimp only
       have U5 := U1.out.step0 F5 (mv_takes hx5) P5
       have x5 : w5.heap[w1.heap.size]? = some (.cells (insC { op := 1, loc := l }) 46 (0, 0)) := F5.box x1 (by omega) (by simp)
       have z5 := F5.box z1 (by omega) (by simp)
       obtain ⟨y0, y1, y2, y3, y4, y5, y6, y7, y8, y9⟩ := row_ins x5
       obtain ⟨v0, v1, v2, v3, v4, v5, v6, v7, v8, v9⟩ := row_ins z5
       have fz := fun j => frozen_of_row _ _ j _ _ x5
       have fv := fun j => frozen_of_row _ _ j _ _ z5))
  · have Z := row_keep (k := w1.heap.size) z5 (by omega) 8 (.int .u8 1)
    refine bodyPost_ret (v := insV { op := 1, loc := l, mode := 1 }) (ins_results rfl _ _ w.heap.size { op := 1, loc := l, mode := 1 } rfl (setIns_row { op := 1, loc := l, mode := 1 } Z)) rfl (Tr.ok ((U5.setCell (k := w1.heap.size) (by omega) hbl hgl x5 8 (.int .u8 1)).setIns' (by omega) hbl hgl { op := 1, loc := l, mode := 1 } Z) ?_)
    simp only [PX.load, PX.R.bind, hx1, hx5]
    simp [*]
  · have Z := z5
    refine bodyPost_ret (v := insV { op := 1, loc := l }) (ins_results rfl _ _ w.heap.size { op := 1, loc := l } rfl (setIns_row { op := 1, loc := l } Z)) rfl (Tr.ok ((U5).setIns' (by omega) hbl hgl { op := 1, loc := l } Z) ?_)
    simp only [PX.load, PX.R.bind, hx1, hx5]
    simp [*]
/-- Only blocks b and k may have changed. -/
structure Fk (b k : Nat) (W W' : World) : Prop where
  os : W'.os = W.os
  tape : W'.tape = W.tape
  output : W'.output = W.output
  size : W.heap.size ≤ W'.heap.size
  block : ∀ i o, W.heap[i]? = some o → i ≠ b → i ≠ k → W'.heap[i]? = some o
theorem Fk.refl (b k : Nat) (W : World) : Fk b k W W := ⟨rfl, rfl, rfl, Nat.le_refl _, fun _ _ h _ _ => h⟩
theorem Fk.fr {b k : Nat} {A B C : World} (h : Fk b k A B) (f : Fr [] b B C) : Fk b k A C := ⟨f.os.trans h.os, f.tape.trans h.tape, f.output.trans h.output, Nat.le_trans h.size f.size, fun i o hi hb hk => f.block i o (h.block i o hi hb hk) (by
  rcases Nat.lt_or_gt_of_ne hb with h | h
  · exact .inl h
  · exact .inr ⟨h, fun u hu => by simp at hu⟩)⟩
theorem Fk.set {b k : Nat} {A B : World} (h : Fk b k A B) (j : Nat) (v : Value) : Fk b k A (B.setCell ⟨k, j, none⟩ v) := ⟨h.os, h.tape, h.output, by simpa using h.size, fun i o hi hb hk => row_keep (h.block i o hi hb hk) hk j v⟩
theorem Fk.up {T : List TypeId} {b k : Nat} {w W W' : World} (F : Fr T b w W) (h : Fk b k W W') (hk : w.heap.size ≤ k) : Fr T b w W' := ⟨h.os.trans F.os, h.tape.trans F.tape, h.output.trans F.output, Nat.le_trans F.size h.size, fun i o hi hb => h.block i o (F.block i o hi hb) (by omega) (by have := lt_of_heap hi; omega)⟩
theorem Tr.stepK {w W W' : World} {b k : Nat} {s s' : PX.S} {h g : Hd} (T : Tr w b h W s g) (hk : w.heap.size ≤ k) (hb : b < w.heap.size) {C : Array Value} (hC : W.heap[k]? = some (.cells C 46 (0, 0))) (K : Fk b k W W') (m : Mv s s') (P : PS W' b s' g) : Tr w b h W' s' g := by
  obtain ⟨l, rfl⟩ := m
  have keep : ∀ (i : Nat) (D : Array Value) (t : TypeId), t ≠ 46 → i ≠ b → W.heap[i]? = some (.cells D t (0, 0)) → W'.heap[i]? = some (.cells D t (0, 0)) := fun i D t ht hib hi => K.block i _ hi hib fun e => by subst e; rw [hC] at hi; cases hi; exact ht rfl
  refine ⟨K.up T.fr hk, ⟨P, ⟨fun ho => ⟨own_sameT (T.ls.locs.1 ho).1 fun i cur hi hh => keep i cur _ (by decide) (by omega) hh, (T.ls.locs.1 ho).2⟩, fun ho => ?_⟩, fun ho => own_sameT (T.ls.init ho) fun i cur hi hh => keep i cur _ (by decide) (by omega) hh⟩, T.hd⟩
  obtain ⟨e1, a, cap, e2, e3⟩ := T.ls.locs.2 ho
  refine ⟨e1, a, cap, e2, fun h0 => ?_⟩
  obtain ⟨i, off, D, e4, e5, e6, e7⟩ := e3 h0
  exact ⟨i, off, D, e4, e5, K.block i D e6 (by omega) (by omega), e7⟩
theorem mv_operation {l : List ByteArray} {s s' : PX.S} {r : PX.ArgD × Int × PX.ArgD} (h : PX.operation l s = .ok r s') : Mv s s' := by
  unfold PX.operation at h
  rcases h1 : PX.arg s with ⟨a, s1⟩ | ⟨pl, er⟩
  · rw [h1] at h
    simp only [PX.R.bind] at h
    rcases h2 : PX.take l s1 with ⟨t, s2⟩ | ⟨pl, er⟩
    · rw [h2] at h
      simp only at h
      rcases h3 : PX.arg s2 with ⟨c, s3⟩ | ⟨pl, er⟩
      · rw [h3] at h; cases h; exact ((mv_arg h1).trans (mv_take h2)).trans (mv_arg h3)
      · rw [h3] at h; cases h
    · rw [h2] at h; cases h
  · rw [h1] at h; cases h
/-- What an operation's arguments make of an instruction. -/
def opI (y : PX.InsD) (r : PX.ArgD × Int × PX.ArgD) : PX.InsD := { y with a := r.1, fn := r.2.1, b := r.2.2 }
def EndsK (W : World) (b k : Nat) (h : Hd) (y : PX.InsD) (r : PX.R (PX.ArgD × Int × PX.ArgD)) (e : Ending) (W' : World) : Prop :=
  Fk b k W W' ∧ match r with
    | .ok a s => e = .returned (.tuple #[]) ∧ PS W' b s h ∧ W'.heap[k]? = some (.cells (insC (opI y a)) 46 (0, 0))
    | .bad p x => e = failE p x

set_option maxRecDepth 100000 in
set_option maxHeartbeats 16000000 in
theorem operation_any (b k : Nat) (s : PX.S) (h : Hd) (y : PX.InsD) (v : Value) (l : List ByteArray) (w : World) (p : PS w b s h) (hk : w.heap[k]? = some (.cells (insC y) 46 (0, 0))) (hkb : k ≠ b) (hkg : k ≠ h.g) (hv : StrSl w v l) (hl : SymsOk l) :
    Calls Try.prog 87 #[.pointer (some ⟨b, 0, none⟩), .pointer (some ⟨k, 0, none⟩), v] w (EndsK w b k h y (PX.operation l s)) := by
  have C1 := Lib.hid fun s W (p : PS W b s h) => arg_any b s h W p
  have C2 := Lib.hid fun s W (p : PS W b s h) (hv : StrSl W v l) => take_any b s h v l W p hv hl
  have C3 := Lib.hid fun x W => fnOf_any x W
  have hf1 := tok_f1
  replace p := Lib.hid p
  replace hv := Lib.hid hv
  replace hk := Lib.hid hk
  go_enter Try.func87, Try.ntmps87
  go_wp2_with (first
    | (go_at_call 84; have V := x4; refine call0 (C1.out _ _ P4.out) (fun c s5 w5 hx5 F5 P5 => ?_) (fun pl er w1 hx F => ⟨rfl, K4.out.fr F, by rw [show PX.operation l s = .bad pl er from by simp only [PX.operation, PX.R.bind, hx1, hx3, hx]]; rfl⟩)
       dsimp only [argV]
       have K5 := Lib.hid (K4.out.fr F5)
       have x5 := F5.box V.out hkb (by simp)
       obtain ⟨y0, y1, y2, y3, y4, y5, y6, y7, y8, y9⟩ := row_ins x5
       have fz := fun j => frozen_of_row _ _ j _ _ x5)
    | (go_at_call 84; refine call0 (C1.out _ _ p.out) (fun a s1 w1 hx1 F1 P1 => ?_) (fun pl er w1 hx F => ⟨rfl, (Fk.refl _ _ _).fr F, by rw [show PX.operation l s = .bad pl er from by simp only [PX.operation, PX.R.bind, hx]]; rfl⟩)
       dsimp only [argV]
       have K1 := (((Fk.refl b k w).fr F1).set 3 (.bool a.r)).set 4 (.int .u8 a.n)
       have x1 := F1.box hk.out hkb (by simp)
       have hv1 := Lib.hid (hv.out.same (W' := (w1.setCell ⟨k, 3, none⟩ (.bool a.r)).setCell ⟨k, 4, none⟩ (.int .u8 a.n)) fun g C hg => by
         have hgb : g ≠ b := fun e => by
           obtain ⟨vr, q, _⟩ := p.out
           rw [e, q] at hg; cases hg
         have hgk : g ≠ k := fun e => by rw [e, hk.out] at hg; cases hg
         exact row_keep (row_keep (F1.box hg hgb (by simp)) hgk 3 _) hgk 4 _)
       have P2 := Lib.hid ((P1.setOther hkb hkg 3 (.bool a.r)).setOther hkb hkg 4 (.int .u8 a.n))
       have x2 := Lib.hid (setA_row a x1)
       obtain ⟨y0, y1, y2, y3, y4, y5, y6, y7, y8, y9⟩ := row_ins x1
       have fz := fun j => frozen_of_row _ _ j _ _ x1
       replace K1 := Lib.hid K1)
    | (go_at_call 41; refine call0 (C2.out _ _ P2.out hv1.out) (fun t s3 w3 hx3 F3 P3 => ?_) (fun pl er w1 hx F => ⟨rfl, K1.out.fr F, by rw [show PX.operation l s = .bad pl er from by simp only [PX.operation, PX.R.bind, hx1, hx]]; rfl⟩)
       dsimp only [tokV]
       have x3 := F3.box x2.out hkb (by simp)
       have x4 := Lib.hid (setFn_row (PX.fnOf t.x) x3)
       have K4 := Lib.hid ((K1.out.fr F3).set 7 (.int .u8 (PX.fnOf t.x)))
       have P4 := Lib.hid (P3.setOther hkb hkg 7 (.int .u8 (PX.fnOf t.x)))
       clear y0 y1 y2 y3 y4 y5 y6 y7 y8 y9 fz
       obtain ⟨y0, y1, y2, y3, y4, y5, y6, y7, y8, y9⟩ := row_ins x3
       have fz := fun j => frozen_of_row _ _ j _ _ x3)
    | (go_at_call 93; refine (C3.out _ _).mono ?_; rintro e w4 ⟨rfl, rfl⟩))
  go_end0
  have e : PX.operation l s = .ok (a, PX.fnOf t.x, c) s5 := by simp only [PX.operation, PX.R.bind, hx1, hx3, hx5]
  rw [e]
  exact ⟨(K5.out.set 5 (.bool c.r)).set 6 (.int .u8 c.n), rfl, (P5.setOther hkb hkg 5 _).setOther hkb hkg 6 _, setB_row c x5⟩
end PP
end Go.Proofs.Ytglbmiadgdadfaa
end

section
/- The parser's instructions: a move, a skip. -/
namespace Go.Proofs.Ytglbmiadgdadfaa
open Go.RowKit Go.Shelf

attribute [local go_sem] Oper.semAt_some
namespace PP
theorem callK {P : Program} {f : Nat} {args : Array Value} {W : World} {b k : Nat} {g : Hd} {y : PX.InsD} {r : PX.R (PX.ArgD × Int × PX.ArgD)} {Q : Ending → World → Prop} (hc : Calls P f args W (EndsK W b k g y r))
    (hok : ∀ a s' W', r = .ok a s' → Fk b k W W' → PS W' b s' g → W'.heap[k]? = some (.cells (insC (opI y a)) 46 (0, 0)) → Q (.returned (.tuple #[])) W') (hbad : ∀ p x W', r = .bad p x → Fk b k W W' → Q (failE p x) W') : Calls P f args W Q := by
  refine hc.mono ?_
  rintro e W' ⟨F, E⟩
  rcases r with ⟨a, s'⟩ | ⟨p, x⟩
  · obtain ⟨rfl, P, hz⟩ := E; exact hok a s' W' rfl F P hz
  · have E' : e = failE p x := E
    subst E'; exact hbad p x W' rfl F
theorem strSl_three (w : World) (x y z : ByteArray) : StrSl (w.alloc (.cells #[.string x, .string y, .string z] 9)) (.slice (some ⟨w.heap.size, 0, none⟩) 3 3) [x, y, z] :=
  ⟨by show 3 ≤ maxLen; unfold maxLen; omega, some ⟨w.heap.size, 0, none⟩, 3, rfl, fun _ => ⟨w.heap.size, 0, #[.string x, .string y, .string z], rfl, heap_alloc_new w _, fun j u hj => by
    have : j = 0 ∨ j = 1 ∨ j = 2 := by have := (List.getElem?_eq_some_iff.1 hj).1; simp at this; omega
    rcases this with rfl | rfl | rfl <;> cases hj <;> rfl⟩⟩
theorem symsOk_three {x y z : List UInt8} (hx : x ≠ []) (hy : y ≠ []) (hz : z ≠ []) : SymsOk [PX.bs x, PX.bs y, PX.bs z] := fun u hu => by
  simp only [List.mem_cons, List.not_mem_nil, or_false] at hu
  rcases hu with rfl | rfl | rfl
  · exact bs_ne hx
  · exact bs_ne hy
  · exact bs_ne hz

set_option maxRecDepth 100000 in
set_option maxHeartbeats 16000000 in
theorem move_any (b : Nat) (s : PX.S) (h : Hd) (w : World) (L : LS w b s h) :
    Calls Try.prog 89 #[.pointer (some ⟨b, 0, none⟩)] w (Ends1 w b h insV (PX.move s)) := by
  have hbl := L.ps.lt
  have hgl := L.ps.g_lt
  have U0 := (((Tr.start L).alloc (.cells #[.int .u8 0, .int .u8 0, .int .u8 0, .bool false, .int .u8 0, .bool false, .int .u8 0, .int .u8 0, .int .u8 0, .int .u8 0] 46)).alloc (.cells (insC { op := 3 }) 46)).alloc (.cells #[.string ⟨#[43]⟩, .string ⟨#[45]⟩, .string ⟨#[94]⟩] 9)
  have x0 := row_alloc (heap_alloc_new (w.alloc (.cells #[.int .u8 0, .int .u8 0, .int .u8 0, .bool false, .int .u8 0, .bool false, .int .u8 0, .int .u8 0, .int .u8 0, .int .u8 0] 46)) (.cells (insC { op := 3 }) 46)) (.cells #[.string ⟨#[43]⟩, .string ⟨#[45]⟩, .string ⟨#[94]⟩] 9)
  have z0 := row_alloc (row_alloc (newIns w) (.cells (insC { op := 3 }) 46)) (.cells #[.string ⟨#[43]⟩, .string ⟨#[45]⟩, .string ⟨#[94]⟩] 9)
  simp only [World.size_alloc] at x0
  have C1 := operation_any b (w.heap.size + 1) s h { op := 3 } _ [PX.gPlus, PX.gMinus, PX.gXor] _ U0.ls.ps x0 (by omega) (by omega) (strSl_three _ _ _ _) (symsOk_three (x := [43]) (y := [45]) (z := [94]) (by decide) (by decide) (by decide))
  simp only [World.size_alloc] at C1
  have e0 : PX.move s = (PX.operation [PX.gPlus, PX.gMinus, PX.gXor] s).bind fun x s => .ok { op := 3, a := x.1, fn := x.2.1, b := x.2.2 } s := rfl
  unfold insC at C1
  replace C1 := Lib.hid C1
  replace U0 := Lib.hid U0
  replace z0 := Lib.hid z0
  replace x0 := Lib.hid x0
  replace e0 := Lib.hid e0
  go_enter Try.func89, Try.ntmps89
  go_wp2_with (first
    | (go_at_call 87; refine callK C1.out (fun a s1 w1 hx1 K1 P1 x1 => ?_) (fun pl er w1 hx K => ⟨rfl, Ends1.bad (K.up U0.out.fr (by omega)) (by rw [e0.out, hx]; rfl)⟩)
       dsimp only
       have U1 := U0.out.stepK (by omega) hbl x0.out K1 (mv_operation hx1) P1
       have z1 := K1.block _ _ z0.out (by omega) (by omega)
       obtain ⟨y0, y1, y2, y3, y4, y5, y6, y7, y8, y9⟩ := row_ins x1
       obtain ⟨v0, v1, v2, v3, v4, v5, v6, v7, v8, v9⟩ := row_ins z1
       have fz := fun j => frozen_of_row _ _ j _ _ x1
       have fv := fun j => frozen_of_row _ _ j _ _ z1
       unfold opI at y0 y1 y2 y3 y4 y5 y6 y7 y8 y9))
  · have Z := z1
    refine bodyPost_ret (v := insV { op := 3, a := a.1, fn := a.2.1, b := a.2.2 }) (ins_results rfl _ _ w.heap.size { op := 3, a := a.1, fn := a.2.1, b := a.2.2 } rfl (setIns_row { op := 3, a := a.1, fn := a.2.1, b := a.2.2 } Z)) rfl (Tr.ok ((U1).setIns' (by omega) hbl hgl { op := 3, a := a.1, fn := a.2.1, b := a.2.2 } Z) ?_)
    rw [e0.out, hx1]
    rfl

set_option maxRecDepth 100000 in
set_option maxHeartbeats 16000000 in
theorem skip_any (b : Nat) (s : PX.S) (h : Hd) (w : World) (L : LS w b s h) :
    Calls Try.prog 78 #[.pointer (some ⟨b, 0, none⟩)] w (Ends1 w b h insV (PX.skip s)) := by
  have hbl := L.ps.lt
  have hgl := L.ps.g_lt
  have U0 := ((Tr.start L).alloc (.cells #[.int .u8 0, .int .u8 0, .int .u8 0, .bool false, .int .u8 0, .bool false, .int .u8 0, .int .u8 0, .int .u8 0, .int .u8 0] 46)).alloc (.cells #[.string ⟨#[115, 107, 105, 112]⟩] 9)
  have z0 := row_alloc (newIns w) (.cells #[.string ⟨#[115, 107, 105, 112]⟩] 9)
  have C1 := take_any b s h _ [PX.kSkip] _ U0.ls.ps (strSl_one _ _) (symsOk_bs (by decide))
  have C2 := Lib.hid fun s W (p : PS W b s h) => PP.num_any b s h W p
  have C3 := Lib.hid fun s W (p : PS (W.alloc (.cells #[.string ⟨#[105, 102]⟩] 9)) b s h) => take_any b s h _ [PX.kIf] _ p (strSl_one W _) (symsOk_bs (by decide))
  have C4 := Lib.hid fun k s y W (p : PS (W.alloc (.cells #[.string ⟨#[61, 61]⟩, .string ⟨#[33, 61]⟩, .string ⟨#[60]⟩] 9)) b s h) hk h1 h2 => operation_any b k s h y _ [PX.gEqEq, PX.gNe, PX.gLt] _ p hk h1 h2 (strSl_three W _ _ _) (symsOk_three (x := [61, 61]) (y := [33, 61]) (z := [60]) (by decide) (by decide) (by decide))
  simp only [World.size_alloc] at C1
  replace C1 := Lib.hid C1
  replace U0 := Lib.hid U0
  replace z0 := Lib.hid z0
  have e0 : PX.skip s = (PX.take [PX.kSkip] s).bind fun _ s => (PX.num s).bind fun n s => (PX.take [PX.kIf] s).bind fun _ s => (PX.operation [PX.gEqEq, PX.gNe, PX.gLt] s).bind fun x s => .ok { op := 8, skip := n, a := x.1, fn := x.2.1, b := x.2.2 } s := rfl
  replace e0 := Lib.hid e0
  go_enter Try.func78, Try.ntmps78
  go_wp2_with (first
    | (go_at_call 41; have V := z2; refine call0 c3.out (fun t s3 w3 hx3 F3 P3 => ?_) (fun pl er w1 hx F => ⟨rfl, Ends1.bad (U2.out.fr.trans F.up) (by rw [e0.out, hx1]; simp only [PX.R.bind, hx2, hx])⟩)
       dsimp only [tokV]
       have U3 := (U2.out.step0 F3 (mv_take hx3) P3).alloc (.cells #[.string ⟨#[61, 61]⟩, .string ⟨#[33, 61]⟩, .string ⟨#[60]⟩] 9)
       have x3 := row_alloc (F3.box x2.out (by omega) (by simp)) (.cells #[.string ⟨#[61, 61]⟩, .string ⟨#[33, 61]⟩, .string ⟨#[60]⟩] 9)
       have z3 := Lib.hid (row_alloc (F3.box z2.out (by omega) (by simp)) (.cells #[.string ⟨#[61, 61]⟩, .string ⟨#[33, 61]⟩, .string ⟨#[60]⟩] 9))
       have c4 := C4.out w2.heap.size s3 _ w3 U3.ls.ps x3 (by omega) (by omega)
       replace c4 := Lib.hid c4
       replace x3 := Lib.hid x3
       replace U3 := Lib.hid U3)
    | (go_at_call 41; refine call0 C1.out (fun t s1 w1 hx1 F1 P1 => ?_) (fun pl er w1 hx F => ⟨rfl, Ends1.bad (U0.out.fr.trans F.up) (by rw [e0.out, hx]; rfl)⟩)
       dsimp only [tokV]
       have U1 := U0.out.step0 F1 (mv_take hx1) P1
       have z1 := F1.box z0.out (by omega) (by simp))
    | (go_at_call 65; refine call0 (C2.out _ _ U1.ls.ps) (fun n s2 w2 hx2 F2 P2 => ?_) (fun pl er w1 hx F => ⟨rfl, Ends1.bad (U1.fr.trans F.up) (by rw [e0.out, hx1]; simp only [PX.R.bind, hx])⟩)
       dsimp only
       have U2 := ((U1.step0 F2 (mv_num hx2) P2).alloc (.cells (insC { op := 8, skip := n }) 46)).alloc (.cells #[.string ⟨#[105, 102]⟩] 9)
       have x2 := row_alloc (heap_alloc_new w2 (.cells (insC { op := 8, skip := n }) 46)) (.cells #[.string ⟨#[105, 102]⟩] 9)
       have z2 := Lib.hid (row_alloc (row_alloc (F2.box z1 (by omega) (by simp)) (.cells (insC { op := 8, skip := n }) 46)) (.cells #[.string ⟨#[105, 102]⟩] 9))
       have hs2 : w.heap.size < w2.heap.size := by have := lt_of_heap (F2.box z1 (by omega) (by simp)); exact this
       have c3 := C3.out s2 (w2.alloc (.cells (insC { op := 8, skip := n }) 46)) U2.ls.ps
       simp only [World.size_alloc] at c3
       unfold insC at c3
       replace c3 := Lib.hid c3
       replace x2 := Lib.hid x2
       replace U2 := Lib.hid U2)
    | (go_at_call 87; refine callK c4.out (fun a s4 w4 hx4 K4 P4 x4 => ?_) (fun pl er w1 hx K => ⟨rfl, Ends1.bad (K.up U3.out.fr (by omega)) (by rw [e0.out, hx1]; simp only [PX.R.bind, hx2, hx3, hx])⟩)
       dsimp only
       have U4 := U3.out.stepK (by omega) hbl x3.out K4 (mv_operation hx4) P4
       have z4 := K4.block _ _ z3.out (by omega) (by omega)
       obtain ⟨y0, y1, y2, y3, y4, y5, y6, y7, y8, y9⟩ := row_ins x4
       obtain ⟨v0, v1, v2, v3, v4, v5, v6, v7, v8, v9⟩ := row_ins z4
       have fz := fun j => frozen_of_row _ _ j _ _ x4
       have fv := fun j => frozen_of_row _ _ j _ _ z4
       unfold opI at y0 y1 y2 y3 y4 y5 y6 y7 y8 y9))
  · have Z := z4
    refine bodyPost_ret (v := insV { op := 8, skip := n, a := a.1, fn := a.2.1, b := a.2.2 }) (ins_results rfl _ _ w.heap.size { op := 8, skip := n, a := a.1, fn := a.2.1, b := a.2.2 } rfl (setIns_row { op := 8, skip := n, a := a.1, fn := a.2.1, b := a.2.2 } Z)) rfl (Tr.ok ((U4).setIns' (by omega) hbl hgl { op := 8, skip := n, a := a.1, fn := a.2.1, b := a.2.2 } Z) ?_)
    rw [e0.out, hx1]
    simp only [PX.R.bind, hx2, hx3, hx4]
end PP
end Go.Proofs.Ytglbmiadgdadfaa
end

section
/- The parser's instructions: swap, fetch, cas. -/
namespace Go.Proofs.Ytglbmiadgdadfaa
open Go.RowKit Go.Shelf

attribute [local go_sem] Oper.semAt_some
namespace PP
theorem drewB1 (W : World) : Below W.heap.size W W.drew := ⟨rfl, rfl, rfl, Nat.le_refl _, fun _ _ => rfl⟩
set_option maxRecDepth 100000 in
set_option maxHeartbeats 16000000 in
theorem swap_any (b : Nat) (s : PX.S) (h : Hd) (w : World) (L : LS w b s h) :
    Calls Try.prog 90 #[.pointer (some ⟨b, 0, none⟩)] w (Ends1 w b h insV (PX.swap s)) := by
  have hbl := L.ps.lt
  have hgl := L.ps.g_lt
  have U0 := ((Tr.start L).alloc (.cells #[.int .u8 0, .int .u8 0, .int .u8 0, .bool false, .int .u8 0, .bool false, .int .u8 0, .int .u8 0, .int .u8 0, .int .u8 0] 46)).alloc (.cells #[.string ⟨#[115, 119, 97, 112]⟩] 9)
  have z0 := row_alloc (newIns w) (.cells #[.string ⟨#[115, 119, 97, 112]⟩] 9)
  have C1 := take_any b s h _ [PX.kSwap] _ U0.ls.ps (strSl_one _ _) (symsOk_bs (by decide))
  have C2 := Lib.hid fun s W (L : LS W b s h) => loc_any b s h W L
  have C3 := Lib.hid fun s g W (p : PS W b s g) => arg_any b s g W p
  simp only [World.size_alloc] at C1
  replace C1 := Lib.hid C1
  replace U0 := Lib.hid U0
  replace z0 := Lib.hid z0
  have e0 : PX.swap s = (PX.take [PX.kSwap] s).bind fun _ s => (PX.loc s).bind fun l s => (PX.arg s).bind fun a s => .ok { op := 4, loc := l, a := a } s := rfl
  replace e0 := Lib.hid e0
  go_enter Try.func90, Try.ntmps90
  go_wp2_with (first
    | (go_at_call 41; refine call0 C1.out (fun t s1 w1 hx1 F1 P1 => ?_) (fun pl er w1 hx F => ⟨rfl, Ends1.bad (U0.out.fr.trans F.up) (by rw [e0.out, hx]; rfl)⟩)
       dsimp only [tokV]
       have U1 := U0.out.step0 F1 (mv_take hx1) P1
       have z1 := F1.box z0.out (by omega) (by simp)
       have hs1 := lt_of_heap z1
       have D1 := Lib.hid (U1.below (drewB1 w1))
       have d1 : Hid (w1.drew.heap[w.heap.size]? = some (.cells (insC zI) 46 (0, 0))) := Lib.hid z1))
  go_region_with (first
    | (go_at_call 64; refine call1 (C2.out _ _ D1.out.ls) (fun l s2 w2 vl vi hx2 F2 L2 => ?_) (fun pl er w2 hx F => ⟨rfl, Ends1.bad (D1.out.fr.trans F) (by rw [e0.out, hx1]; simp only [PX.R.bind, hx])⟩)
       dsimp only
       have U2 := D1.out.step1 F2 L2
       have z2 := F2.box d1.out (by omega) insT1)
    | (go_at_call 84; refine call0 (C3.out _ _ _ U2.ls.ps) (fun a s3 w3 hx3 F3 P3 => ?_) (fun pl er w3 hx F => ⟨rfl, Ends1.bad (U2.fr.trans F.up) (by rw [e0.out, hx1]; simp only [PX.R.bind, hx2, hx])⟩)
       dsimp only [argV]
       have U3 := U2.step0 F3 (mv_arg hx3) P3
       have z3 := F3.box z2 (by omega) (by simp)
       obtain ⟨v0, v1, v2, v3, v4, v5, v6, v7, v8, v9⟩ := row_ins z3
       have fv := fun j => frozen_of_row _ _ j _ _ z3))
  go_wp2
  · have Z := z3
    refine bodyPost_ret (v := insV { op := 4, loc := l, a := a }) (ins_results rfl _ _ w.heap.size { op := 4, loc := l, a := a } rfl (setIns_row { op := 4, loc := l, a := a } Z)) rfl (Tr.ok ((U3).setIns' (by omega) hbl hgl { op := 4, loc := l, a := a } Z) ?_)
    rw [e0.out, hx1]
    simp only [PX.R.bind, hx2, hx3]
set_option maxRecDepth 100000 in
set_option maxHeartbeats 16000000 in
theorem fetch_any (b : Nat) (s : PX.S) (h : Hd) (w : World) (L : LS w b s h) :
    Calls Try.prog 91 #[.pointer (some ⟨b, 0, none⟩)] w (Ends1 w b h insV (PX.fetch s)) := by
  have hbl := L.ps.lt
  have hgl := L.ps.g_lt
  have U0 := ((Tr.start L).alloc (.cells #[.int .u8 0, .int .u8 0, .int .u8 0, .bool false, .int .u8 0, .bool false, .int .u8 0, .int .u8 0, .int .u8 0, .int .u8 0] 46)).alloc (.cells #[.string ⟨#[102, 101, 116, 99, 104]⟩] 9)
  have z0 := row_alloc (newIns w) (.cells #[.string ⟨#[102, 101, 116, 99, 104]⟩] 9)
  have C1 := take_any b s h _ [PX.kFetch] _ U0.ls.ps (strSl_one _ _) (symsOk_bs (by decide))
  have C2 := Lib.hid fun s W (L : LS W b s h) => loc_any b s h W L
  have C3 := Lib.hid fun s g W (p : PS W b s g) => arg_any b s g W p
  simp only [World.size_alloc] at C1
  replace C1 := Lib.hid C1
  replace U0 := Lib.hid U0
  replace z0 := Lib.hid z0
  have e0 : PX.fetch s = (PX.take [PX.kFetch] s).bind fun _ s => (PX.loc s).bind fun l s => (PX.arg s).bind fun a s => .ok { op := 5, loc := l, a := a } s := rfl
  replace e0 := Lib.hid e0
  go_enter Try.func91, Try.ntmps91
  go_wp2_with (first
    | (go_at_call 41; refine call0 C1.out (fun t s1 w1 hx1 F1 P1 => ?_) (fun pl er w1 hx F => ⟨rfl, Ends1.bad (U0.out.fr.trans F.up) (by rw [e0.out, hx]; rfl)⟩)
       dsimp only [tokV]
       have U1 := U0.out.step0 F1 (mv_take hx1) P1
       have z1 := F1.box z0.out (by omega) (by simp)
       have hs1 := lt_of_heap z1
       have D1 := Lib.hid (U1.below (drewB1 w1))
       have d1 : Hid (w1.drew.heap[w.heap.size]? = some (.cells (insC zI) 46 (0, 0))) := Lib.hid z1))
  go_region_with (first
    | (go_at_call 64; refine call1 (C2.out _ _ D1.out.ls) (fun l s2 w2 vl vi hx2 F2 L2 => ?_) (fun pl er w2 hx F => ⟨rfl, Ends1.bad (D1.out.fr.trans F) (by rw [e0.out, hx1]; simp only [PX.R.bind, hx])⟩)
       dsimp only
       have U2 := D1.out.step1 F2 L2
       have z2 := F2.box d1.out (by omega) insT1)
    | (go_at_call 84; refine call0 (C3.out _ _ _ U2.ls.ps) (fun a s3 w3 hx3 F3 P3 => ?_) (fun pl er w3 hx F => ⟨rfl, Ends1.bad (U2.fr.trans F.up) (by rw [e0.out, hx1]; simp only [PX.R.bind, hx2, hx])⟩)
       dsimp only [argV]
       have U3 := U2.step0 F3 (mv_arg hx3) P3
       have z3 := F3.box z2 (by omega) (by simp)
       obtain ⟨v0, v1, v2, v3, v4, v5, v6, v7, v8, v9⟩ := row_ins z3
       have fv := fun j => frozen_of_row _ _ j _ _ z3))
  go_wp2
  · have Z := z3
    refine bodyPost_ret (v := insV { op := 5, loc := l, a := a }) (ins_results rfl _ _ w.heap.size { op := 5, loc := l, a := a } rfl (setIns_row { op := 5, loc := l, a := a } Z)) rfl (Tr.ok ((U3).setIns' (by omega) hbl hgl { op := 5, loc := l, a := a } Z) ?_)
    rw [e0.out, hx1]
    simp only [PX.R.bind, hx2, hx3]
set_option maxRecDepth 100000 in
set_option maxHeartbeats 16000000 in
theorem cas_any (b : Nat) (s : PX.S) (h : Hd) (w : World) (L : LS w b s h) :
    Calls Try.prog 92 #[.pointer (some ⟨b, 0, none⟩)] w (Ends1 w b h insV (PX.cas s)) := by
  have hbl := L.ps.lt
  have hgl := L.ps.g_lt
  have U0 := ((Tr.start L).alloc (.cells #[.int .u8 0, .int .u8 0, .int .u8 0, .bool false, .int .u8 0, .bool false, .int .u8 0, .int .u8 0, .int .u8 0, .int .u8 0] 46)).alloc (.cells #[.string ⟨#[99, 97, 115]⟩] 9)
  have z0 := row_alloc (newIns w) (.cells #[.string ⟨#[99, 97, 115]⟩] 9)
  have C1 := take_any b s h _ [PX.kCas] _ U0.ls.ps (strSl_one _ _) (symsOk_bs (by decide))
  have C2 := Lib.hid fun s W (L : LS W b s h) => loc_any b s h W L
  have C3 := Lib.hid fun s g W (p : PS W b s g) => arg_any b s g W p
  simp only [World.size_alloc] at C1
  replace C1 := Lib.hid C1
  replace U0 := Lib.hid U0
  replace z0 := Lib.hid z0
  have e0 : PX.cas s = (PX.take [PX.kCas] s).bind fun _ s => (PX.loc s).bind fun l s => (PX.arg s).bind fun a s => (PX.arg s).bind fun c s => .ok { op := 6, loc := l, a := a, b := c } s := rfl
  replace e0 := Lib.hid e0
  go_enter Try.func92, Try.ntmps92
  go_wp2_with (first
    | (go_at_call 41; refine call0 C1.out (fun t s1 w1 hx1 F1 P1 => ?_) (fun pl er w1 hx F => ⟨rfl, Ends1.bad (U0.out.fr.trans F.up) (by rw [e0.out, hx]; rfl)⟩)
       dsimp only [tokV]
       have U1 := U0.out.step0 F1 (mv_take hx1) P1
       have z1 := F1.box z0.out (by omega) (by simp)
       have hs1 := lt_of_heap z1
       have D1 := Lib.hid (U1.below (drewB1 w1))
       have d1 : Hid (w1.drew.heap[w.heap.size]? = some (.cells (insC zI) 46 (0, 0))) := Lib.hid z1))
  go_region_with (first
    | (go_at_call 64; refine call1 (C2.out _ _ D1.out.ls) (fun l s2 w2 vl vi hx2 F2 L2 => ?_) (fun pl er w2 hx F => ⟨rfl, Ends1.bad (D1.out.fr.trans F) (by rw [e0.out, hx1]; simp only [PX.R.bind, hx])⟩)
       dsimp only
       have U2 := D1.out.step1 F2 L2
       have z2 := F2.box d1.out (by omega) insT1)
    | (go_at_call 84; have V := U3; refine call0 (C3.out _ _ _ U3.ls.ps) (fun c s4 w4 hx4 F4 P4 => ?_) (fun pl er w3 hx F => ⟨rfl, Ends1.bad (U3.fr.trans F.up) (by rw [e0.out, hx1]; simp only [PX.R.bind, hx2, hx3, hx])⟩)
       dsimp only [argV]
       have U4 := U3.step0 F4 (mv_arg hx4) P4
       have z4 := F4.box z3 (by omega) (by simp)
       obtain ⟨v0, v1, v2, v3, v4, v5, v6, v7, v8, v9⟩ := row_ins z4
       have fv := fun j => frozen_of_row _ _ j _ _ z4)
    | (go_at_call 84; refine call0 (C3.out _ _ _ U2.ls.ps) (fun a s3 w3 hx3 F3 P3 => ?_) (fun pl er w3 hx F => ⟨rfl, Ends1.bad (U2.fr.trans F.up) (by rw [e0.out, hx1]; simp only [PX.R.bind, hx2, hx])⟩)
       dsimp only [argV]
       have U3 := U2.step0 F3 (mv_arg hx3) P3
       have z3 := F3.box z2 (by omega) (by simp)))
  go_wp2
  · have Z := z4
    refine bodyPost_ret (v := insV { op := 6, loc := l, a := a, b := c }) (ins_results rfl _ _ w.heap.size { op := 6, loc := l, a := a, b := c } rfl (setIns_row { op := 6, loc := l, a := a, b := c } Z)) rfl (Tr.ok ((U4).setIns' (by omega) hbl hgl { op := 6, loc := l, a := a, b := c } Z) ?_)
    rw [e0.out, hx1]
    simp only [PX.R.bind, hx2, hx3, hx4]
end PP
end Go.Proofs.Ytglbmiadgdadfaa
end
