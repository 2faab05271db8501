/- ParEx, ParQuiet, ParAwake, ParSame, ParSame2, ParSame3 in one text, for the claim. -/
import Derived.Test.YtglbmiadgdadfaaPj9
import Derived.Test.YtglbmiadgdadfaaRegionBelow
import Derived.Test.YtglbmiadgdadfaaPj6
import Derived.BigQuiet

section
/- The chapter's examples, computed. -/
namespace Go.Proofs.Ytglbmiadgdadfaa
open Go.RowKit Go.Shelf
namespace PP
def exP : ByteArray := ⟨#[116, 101, 115, 116, 32, 83, 66, 10, 105, 110, 105, 116, 32, 120, 32, 61, 32, 49, 10, 116, 104, 114, 101, 97, 100, 10, 120, 32, 61, 32, 49, 10, 114, 49, 32, 61, 32, 121, 32, 97, 99, 113, 10, 116, 104, 114, 101, 97, 100, 10, 121, 32, 61, 32, 50, 32, 114, 101, 108, 10, 115, 111, 109, 101, 32, 48, 58, 114, 49, 32, 61, 32, 48, 32, 38, 32, 33, 32, 120, 32, 61, 32, 49, 32, 124, 32, 116, 114, 117, 101, 10]⟩
def exPT : List LX.Tk := [⟨1, 0, 4⟩, ⟨1, 5, 7⟩, ⟨4, 7, 7⟩, ⟨1, 8, 12⟩, ⟨1, 13, 14⟩, ⟨3, 15, 16⟩, ⟨2, 17, 18⟩, ⟨4, 18, 18⟩, ⟨1, 19, 25⟩, ⟨4, 25, 25⟩, ⟨1, 26, 27⟩, ⟨3, 28, 29⟩, ⟨2, 30, 31⟩, ⟨4, 31, 31⟩, ⟨1, 32, 34⟩, ⟨3, 35, 36⟩, ⟨1, 37, 38⟩, ⟨1, 39, 42⟩, ⟨4, 42, 42⟩, ⟨1, 43, 49⟩, ⟨4, 49, 49⟩, ⟨1, 50, 51⟩, ⟨3, 52, 53⟩, ⟨2, 54, 55⟩, ⟨1, 56, 59⟩, ⟨4, 59, 59⟩, ⟨1, 60, 64⟩, ⟨2, 65, 66⟩, ⟨3, 66, 67⟩, ⟨1, 67, 69⟩, ⟨3, 70, 71⟩, ⟨2, 72, 73⟩, ⟨3, 74, 75⟩, ⟨3, 76, 77⟩, ⟨1, 78, 79⟩, ⟨3, 80, 81⟩, ⟨2, 82, 83⟩, ⟨3, 84, 85⟩, ⟨1, 86, 90⟩, ⟨4, 90, 90⟩]
def exQ : ByteArray := ⟨#[116, 101, 115, 116, 32, 97, 10, 116, 104, 114, 101, 97, 100, 10, 115, 111, 109, 101]⟩
def exQT : List LX.Tk := [⟨1, 0, 4⟩, ⟨1, 5, 6⟩, ⟨4, 6, 6⟩, ⟨1, 7, 13⟩, ⟨4, 13, 13⟩, ⟨1, 14, 18⟩, ⟨4, 18, 18⟩]
theorem outP : LX.out (bsOf exP) = (exPT, 0, 0) := by rw [LX.out_eq]; decide +kernel
theorem outQ : LX.out (bsOf exQ) = (exQT, 0, 0) := by rw [LX.out_eq]; decide +kernel
theorem parse_of_out {s : ByteArray} {l : List LX.Tk} (h : LX.out (bsOf s) = (l, 0, 0)) : PX.parse s = PX.prog (l.length + 1) { rest := l.map (tokD s), size := (s.size : Int), locs := [], opn := true } := by
  rw [parse_eq, h, if_pos rfl]
  unfold PX.start toks
  rw [h, List.length_map]
def bX : ByteArray := ⟨#[120]⟩
def bY : ByteArray := ⟨#[121]⟩
def bSB : ByteArray := ⟨#[83, 66]⟩
def exI0 : PX.InsD := { op := 2, loc := 0, a := ⟨false, 1⟩ }
def exI1 : PX.InsD := { op := 1, dst := 1, loc := 1, mode := 1 }
def exI2 : PX.InsD := { op := 2, loc := 1, a := ⟨false, 2⟩, mode := 2 }
def exC : PX.CondD := .mk 4 0 0 0 [.mk 3 0 0 0 [.mk 1 0 1 0 [], .mk 5 0 0 0 [.mk 2 0 0 1 []]], .mk 0 0 0 0 []]
theorem parseP : PX.parse exP = .ok () { rest := [], size := 91, locs := [bX, bY], opn := true, name := bSB, init := [1, 0], threads := [[exI0, exI1], [exI2]], ask := 1, cond := exC, done := 4 } := by
  rw [parse_of_out outP]
  kernel_rfl
theorem parseQ : PX.parse exQ = .bad 18 50 := by
  rw [parse_of_out outQ]
  kernel_rfl
theorem deepC : PX.deep exC = 4 := by decide +kernel
end PP
end Go.Proofs.Ytglbmiadgdadfaa
end

section
/- Loads of whole structs in a region that is walked once. -/
namespace Go.Proofs.Ytglbmiadgdadfaa
open Go.RowKit

theorem run_loadVar_at {P : Program} (w : World) (ad : Addr) (ty : TypeId) (cs : Array Value) (d : TypeDesc) (hc : ∀ j v, cs.toList[j]? = some v → w.cell? (ad.add j) = some v)
    (hu : P.underlying ty = some d) (hd : (match d with | .struct _ | .array _ _ => true | _ => false) = true) (hi : (P.info? ty).map (·.size) = some cs.size) :
    (loadVar ty ad).run P w = .ok (.agg cs) w := by
  have hl : (loadCells ad cs.toList.length).run P w = .ok cs.toList.toArray w := run_loadCells_list (P := P) w ad cs.toList hc
  cases hq : P.info? ty with
  | none => simp [hq] at hi
  | some i =>
    have hs : i.size = cs.size := by simpa [hq] using hi
    have hagg : (isAgg ty).run P w = .ok true w := by
      unfold isAgg
      rw [Sem.run_bind, run_underlying hu w]
      cases d <;> simp_all
    simp only [Array.length_toList, Array.toArray_toList] at hl
    simp [loadVar, Sem.run_bind, hagg, sizeOf, typeInfo, hq, hs, hl]
/-- The load of a whole struct that reads alike in every world of the class. -/
theorem quiet_loadS {P : Program} {o : Oper} {a : Act} {C : World → Prop} {K : Act → Prop} (ty : TypeId) (x : Operand) (ho : o.op = .load ty x) (ad : Addr) (hx : a.eval x = .pointer (some ad)) (cs : Array Value) (d : TypeDesc)
    (hu : P.underlying ty = some d) (hd : (match d with | .struct _ | .array _ _ => true | _ => false) = true) (hi : (P.info? ty).map (·.size) = some cs.size)
    (hc : ∀ W, C W → ∀ j v, cs.toList[j]? = some v → W.cell? (ad.add j) = some v) (hk : K (a.put o.dst (.agg cs))) : o.quiet P a C K := by
  refine ⟨.agg cs, fun W hW => ?_, hk⟩
  have hr : (execOp a.eval o).run P W = .ok (.value (.agg cs)) W := by
    unfold execOp
    simp only [ho, hx, Instr.loadAt, Instr.sureAddr, Sem.run_bind, Sem.run_pure, Result.andThen_ok, run_loadVar_at W ad ty cs d (hc W hW) hu hd hi]
  unfold Oper.quietAt
  rw [hr]
  exact ⟨rfl, rfl⟩
end Go.Proofs.Ytglbmiadgdadfaa
end

section
/- The chapter's examples. -/
namespace Go.Proofs.Ytglbmiadgdadfaa
open Go.RowKit Go.Shelf
open Go.BigFrame

attribute [local go_sem] Oper.semAt_some
namespace PP
def stE : PX.S := { rest := [], size := 91, locs := [bX, bY], opn := true, name := bSB, init := [1, 0], threads := [[exI0, exI1], [exI2]], ask := 1, cond := exC, done := 4 }
theorem parseEP (w : World) : Calls Try.prog 12 #[.string exP] w fun e w' => Below w.heap.size w w' ∧ ∃ b h, w.heap.size ≤ b ∧ e = .returned (.tuple #[progV stE h, .int .i64 0, .int .i64 0]) ∧ PgM w' b stE h := by
  have := parse_any exP w
  unfold ParsePost at this
  rw [parseP] at this
  exact this
theorem parseEQ (w : World) : Calls Try.prog 12 #[.string exQ] w fun e w' => Below w.heap.size w w' ∧ e = .returned (.tuple #[.agg progZ, .int .i64 18, .int .i64 50]) := by
  have := parse_any exQ w
  unfold ParsePost at this
  rw [parseQ] at this
  exact this
/-- Where the first example's parts lie. -/
structure ExM (W : World) (h : Hd) (gl cl gi ci gt ct g0 c0 g1 c1 gc cc : Nat) : Prop where
  vl : h.vl = .slice (some ⟨gl, 0, none⟩) 2 cl
  vi : h.vi = .slice (some ⟨gi, 0, none⟩) 2 ci
  vt : h.vt = .slice (some ⟨gt, 0, none⟩) 2 ct
  k0 : h.c0 = .int .u8 4
  k1 : h.c1 = .int .u8 0
  k2 : h.c2 = .int .u8 0
  k3 : h.c3 = .int .u8 0
  k4 : h.c4 = .slice (some ⟨gc, 0, none⟩) 2 cc
  l1 : W.cell? ⟨gl, 1, none⟩ = some (.string ⟨#[121]⟩)
  i0 : W.cell? ⟨gi, 0, none⟩ = some (.int .u8 1)
  i1 : W.cell? ⟨gi, 1, none⟩ = some (.int .u8 0)
  t0 : W.cell? ⟨gt, 0, none⟩ = some (.slice (some ⟨g0, 0, none⟩) 2 c0)
  t1 : W.cell? ⟨gt, 1, none⟩ = some (.slice (some ⟨g1, 0, none⟩) 1 c1)
  x1 : ∀ j, j < 10 → W.cell? ⟨g0, 10 + j, none⟩ = (insC exI1)[j]?
  x2 : ∀ j, j < 10 → W.cell? ⟨g1, j, none⟩ = (insC exI2)[j]?
  q0 : W.cell? ⟨gc, 0, none⟩ = some (.int .u8 3)
  dp : CondR W { k := 4, u := .slice (some ⟨gc, 0, none⟩) 2 cc } exC
theorem cell_on {W W' : World} {p : Addr} {v : Value} (h : W.cell? p = some v) (B : Below W.heap.size W W') : W'.cell? p = some v :=
  (B.cell (World.block_lt_of_cell? W p h)).trans h
theorem insC_at (x : PX.InsD) (j : Nat) (hj : j < 10) : ∃ v, (insC x)[j]? = some v := ⟨_, Array.getElem?_eq_getElem (show j < (insC x).size from hj)⟩
theorem ExM.below {W W' : World} {h : Hd} {gl cl gi ci gt ct g0 c0 g1 c1 gc cc : Nat} (X : ExM W h gl cl gi ci gt ct g0 c0 g1 c1 gc cc) (B : Below W.heap.size W W') : ExM W' h gl cl gi ci gt ct g0 c0 g1 c1 gc cc :=
  ⟨X.vl, X.vi, X.vt, X.k0, X.k1, X.k2, X.k3, X.k4, cell_on X.l1 B, cell_on X.i0 B, cell_on X.i1 B, cell_on X.t0 B, cell_on X.t1 B, fun j hj => by
    obtain ⟨v, hv⟩ := insC_at exI1 j hj
    rw [hv]; exact cell_on ((X.x1 j hj).trans hv) B, fun j hj => by
    obtain ⟨v, hv⟩ := insC_at exI2 j hj
    rw [hv]; exact cell_on ((X.x2 j hj).trans hv) B, cell_on X.q0 B, X.dp.below B⟩
theorem own_two {W : World} {base n size : Nat} {e : TypeId} {v : Value} {xs : List Value} (h : W.ownsRow base e size v (n + 1) xs) : ∃ g c, v = .slice (some ⟨g, 0, none⟩) (n + 1) c ∧ ∀ j, j < (n + 1) * size → W.cell? ⟨g, j, none⟩ = xs[j]? := by
  obtain ⟨g, c, rfl⟩ := own_formT h
  exact ⟨g, c, rfl, fun j hj => World.ownsRow.cellAt h j hj⟩
theorem exM_of {W : World} {b : Nat} {h : Hd} (P : PgM W b stE h) : ∃ gl cl gi ci gt ct g0 c0 g1 c1 gc cc, ExM W h gl cl gi ci gt ct g0 c0 g1 c1 gc cc := by
  obtain ⟨gl, cl, hl, el⟩ := own_two (n := 1) P.locs
  obtain ⟨gi, ci, hi, ei⟩ := own_two (n := 1) P.init
  obtain ⟨vs, o1, o2, o3, o4⟩ := P.thr
  obtain ⟨gt, ct, ht, et⟩ := own_two (n := 1) o1
  obtain ⟨v0, v1, rfl⟩ : ∃ v0 v1, vs = [v0, v1] := by
    match vs, o2 with
    | [v0, v1], _ => exact ⟨v0, v1, rfl⟩
  obtain ⟨g0, c0, h0, e0⟩ := own_two (n := 1) (o3 0 v0 [exI0, exI1] rfl rfl)
  obtain ⟨g1, c1, h1, e1⟩ := own_two (n := 0) (o3 1 v1 [exI2] rfl rfl)
  obtain ⟨x, k0, k1, k2, k3, k4, k5⟩ := P.cnd
  have hR := CondM.toR _ _ k5
  have hM : CondM W (fun g => b < g) x exC := k5
  obtain ⟨xk, xt, xn, xv, xu⟩ := x
  obtain ⟨a1, a2, a3, a4, ⟨a5, _⟩ | ⟨gc, cc, C, ys, hu, _, _, _, _, hC, htk, hk⟩⟩ := hM
  · cases a5
  obtain rfl : xk = 4 := a1
  obtain rfl : xt = 0 := a2
  obtain rfl : xn = 0 := a3
  obtain rfl : xv = 0 := a4
  obtain rfl : xu = .slice (some ⟨gc, 0, none⟩) 2 cc := hu
  obtain ⟨y, yr, rfl, hy, _⟩ := hk
  have hyk : y.k = 3 := hy.1
  have hq : W.cell? ⟨gc, 0, none⟩ = some (.int .u8 3) := by
    rw [cell_of_row _ gc 0 _ _ _ hC]
    have e := congrArg (fun l : List Value => l[0]?) htk
    simp only [List.getElem?_take, if_pos (show 0 < (2 : Nat) * 5 by omega)] at e
    rw [Array.getElem?_toList] at e
    have e' : C[0]? = (cellsC (y :: yr))[0]? := e
    rw [e']
    show some (Value.int .u8 y.k) = _
    rw [hyk]
  refine ⟨gl, cl, gi, ci, gt, ct, g0, c0, g1, c1, gc, cc, hl, hi, ht, k0, k1, k2, k3, k4, ?_, ?_, ?_, ?_, ?_, ?_, ?_, hq, hR⟩
  · exact el 1 (by omega)
  · exact ei 0 (by omega)
  · exact ei 1 (by omega)
  · rw [← h0]; exact et 0 (by omega)
  · rw [← h1]; exact et 1 (by omega)
  · intro j hj
    rw [e0 (10 + j) (by omega)]
    have : j = 0 ∨ j = 1 ∨ j = 2 ∨ j = 3 ∨ j = 4 ∨ j = 5 ∨ j = 6 ∨ j = 7 ∨ j = 8 ∨ j = 9 := by omega
    rcases this with rfl | rfl | rfl | rfl | rfl | rfl | rfl | rfl | rfl | rfl <;> rfl
  · intro j hj
    rw [e1 j (by omega)]
    have : j = 0 ∨ j = 1 ∨ j = 2 ∨ j = 3 ∨ j = 4 ∨ j = 5 ∨ j = 6 ∨ j = 7 ∨ j = 8 ∨ j = 9 := by omega
    rcases this with rfl | rfl | rfl | rfl | rfl | rfl | rfl | rfl | rfl | rfl <;> rfl
set_option maxRecDepth 100000 in
set_option maxHeartbeats 8000000 in
theorem awake_any (w : World) : Calls Try.prog 6 #[] w fun e w' => e = .returned (.bool true) ∧ Below w.heap.size w w' := by
  go_enter Try.func6, Try.ntmps6
  go_wp2_with fail
  refine (parseEP w).mono ?_
  rintro e w1 ⟨B1, b, h, hb, rfl, P1⟩
  obtain ⟨gl, cl, gi, ci, gt, ct, g0, c0, g1, c1, gc, cc, X1⟩ := exM_of P1
  have hv : progV stE h = .agg #[.string ⟨#[83, 66]⟩, .slice (some ⟨gl, 0, none⟩) 2 cl, .slice (some ⟨gi, 0, none⟩) 2 ci, .slice (some ⟨gt, 0, none⟩) 2 ct, .int .u8 1, .int .u8 4, .int .u8 0, .int .u8 0, .int .u8 0, .slice (some ⟨gc, 0, none⟩) 2 cc] := by
    unfold progV; rw [X1.vl, X1.vi, X1.vt, X1.k0, X1.k1, X1.k2, X1.k3, X1.k4]; rfl
  rw [hv]
  clear hv
  have zp := heap_alloc_new w1 (.cells #[.string ⟨#[83, 66]⟩, .slice (some ⟨gl, 0, none⟩) 2 cl, .slice (some ⟨gi, 0, none⟩) 2 ci, .slice (some ⟨gt, 0, none⟩) 2 ct, .int .u8 1, .int .u8 4, .int .u8 0, .int .u8 0, .int .u8 0, .slice (some ⟨gc, 0, none⟩) 2 cc] 39)
  have A1 := (Below.refl w1.heap.size w1).alloc (Nat.le_refl _) (.cells #[.string ⟨#[83, 66]⟩, .slice (some ⟨gl, 0, none⟩) 2 cl, .slice (some ⟨gi, 0, none⟩) 2 ci, .slice (some ⟨gt, 0, none⟩) 2 ct, .int .u8 1, .int .u8 4, .int .u8 0, .int .u8 0, .int .u8 0, .slice (some ⟨gc, 0, none⟩) 2 cc] 39)
  have X2 := X1.below A1
  replace zp := Lib.hid zp
  replace X2 := Lib.hid X2
  replace B1 := Lib.hid B1
  replace A1 := Lib.hid A1
  clear X1 P1 hb
  go_wp2_with fail
  refine (parseEQ _).mono ?_
  rintro e w2 ⟨B2, rfl⟩
  unfold progZ
  have A3 := B2.trans (((Below.refl w2.heap.size w2).alloc (Nat.le_refl _) (.cells #[.string ⟨#[]⟩, .slice none 0 0, .slice none 0 0, .slice none 0 0, .int .u8 0, .int .u8 0, .int .u8 0, .int .u8 0, .int .u8 0, .slice none 0 0] 39)).mono B2.size)
  have X3 := X2.out.below A3
  have zp3 := (A3.block _ (lt_of_heap zp.out)).trans zp.out
  have HB := Lib.hid (B1.out.trans (((A1.out.trans (A3.mono A1.out.size))).mono B1.out.size))
  obtain ⟨-, -, -, -, -, -, -, -, l1, i0, i1, t0, t1, -, -, -, -⟩ := id X3
  have d0 := cell_of_row _ _ 0 _ _ _ zp3
  have d1 := cell_of_row _ _ 1 _ _ _ zp3
  have d2 := cell_of_row _ _ 2 _ _ _ zp3
  have d3 := cell_of_row _ _ 3 _ _ _ zp3
  have d4 := cell_of_row _ _ 4 _ _ _ zp3
  simp only [List.getElem?_toArray, List.getElem?_cons_zero, List.getElem?_cons_succ] at d0 d1 d2 d3 d4
  replace X3 := Lib.hid X3
  replace zp3 := Lib.hid zp3
  clear X2 zp A1 A3 B1 B2
  go_wp2_with fail
  clear d0 d1 d2 d3 d4 l1 i0 i1 t0 t1
  obtain ⟨W, hW⟩ : ∃ W, w2.alloc (.cells #[.string ⟨#[]⟩, .slice none 0 0, .slice none 0 0, .slice none 0 0, .int .u8 0, .int .u8 0, .int .u8 0, .int .u8 0, .int .u8 0, .slice none 0 0] 39) = W := ⟨_, rfl⟩
  have hsz : w2.heap.size + 1 = W.heap.size := by rw [← hW]; simp
  rw [hW] at X3 zp3 HB ⊢
  simp only [hsz]
  have E1 := Lib.hid (row_alloc (heap_alloc_new W (.cells #[.int .u8 1, .int .u8 1, .int .u8 1, .bool false, .int .u8 0, .bool false, .int .u8 0, .int .u8 0, .int .u8 1, .int .u8 0] 46)) (.cells #[.int .u8 2, .int .u8 0, .int .u8 1, .bool false, .int .u8 2, .bool false, .int .u8 0, .int .u8 0, .int .u8 2, .int .u8 0] 46))
  have E2 := heap_alloc_new (W.alloc (.cells #[.int .u8 1, .int .u8 1, .int .u8 1, .bool false, .int .u8 0, .bool false, .int .u8 0, .int .u8 0, .int .u8 1, .int .u8 0] 46)) (.cells #[.int .u8 2, .int .u8 0, .int .u8 1, .bool false, .int .u8 2, .bool false, .int .u8 0, .int .u8 0, .int .u8 2, .int .u8 0] 46)
  simp only [World.size_alloc] at E2
  replace E2 := Lib.hid E2
  have A5 := ((Below.refl W.heap.size W).alloc (Nat.le_refl _) (.cells #[.int .u8 1, .int .u8 1, .int .u8 1, .bool false, .int .u8 0, .bool false, .int .u8 0, .int .u8 0, .int .u8 1, .int .u8 0] 46)).alloc (by simp) (.cells #[.int .u8 2, .int .u8 0, .int .u8 1, .bool false, .int .u8 2, .bool false, .int .u8 0, .int .u8 0, .int .u8 2, .int .u8 0] 46)
  have zp5 := Lib.hid ((A5.block _ (lt_of_heap zp3.out)).trans zp3.out)
  have X5 := Lib.hid (X3.out.below A5)
  have HB5 := Lib.hid (HB.out.trans (A5.mono HB.out.size))
  clear X3 zp3 HB A5 hW
  obtain ⟨V, hV⟩ : ∃ V, (W.alloc (.cells #[.int .u8 1, .int .u8 1, .int .u8 1, .bool false, .int .u8 0, .bool false, .int .u8 0, .int .u8 0, .int .u8 1, .int .u8 0] 46)).alloc (.cells #[.int .u8 2, .int .u8 0, .int .u8 1, .bool false, .int .u8 2, .bool false, .int .u8 0, .int .u8 0, .int .u8 2, .int .u8 0] 46) = V := ⟨_, rfl⟩
  rw [hV] at E1 E2 zp5 X5 HB5 ⊢
  clear hV
  have on : ∀ (p : Addr) (v : Value), V.cell? p = some v → ∀ U, Below V.heap.size V U → U.cell? p = some v := fun p v h U B => cell_on h B
  have p3 := Lib.hid (on _ _ (cell_of_row _ w1.heap.size 3 _ _ _ zp5.out))
  have p5 := Lib.hid (on _ _ (cell_of_row _ w1.heap.size 5 _ _ _ zp5.out))
  have p9 := Lib.hid (on _ _ (cell_of_row _ w1.heap.size 9 _ _ _ zp5.out))
  have pt0 := Lib.hid (on _ _ X5.out.t0)
  have pt1 := Lib.hid (on _ _ X5.out.t1)
  have pq0 := Lib.hid (on _ _ X5.out.q0)
  have s1 : Hid (∀ U, Below V.heap.size V U → ∀ j v, (#[.int .u8 1, .int .u8 1, .int .u8 1, .bool false, .int .u8 0, .bool false, .int .u8 0, .int .u8 0, .int .u8 1, .int .u8 0] : Array Value).toList[j]? = some v → U.cell? (Addr.add ⟨g0, 10, none⟩ j) = some v) := Lib.hid fun U B j v hj => by
    have hj10 : j < 10 := (List.getElem?_eq_some_iff.1 hj).1
    rw [Go.WideShapes.add_plain]
    exact cell_on ((X5.out.x1 j hj10).trans (by rw [← Array.getElem?_toList]; exact hj)) B
  have s2 : Hid (∀ U, Below V.heap.size V U → ∀ j v, (#[.int .u8 2, .int .u8 0, .int .u8 1, .bool false, .int .u8 2, .bool false, .int .u8 0, .int .u8 0, .int .u8 2, .int .u8 0] : Array Value).toList[j]? = some v → U.cell? (Addr.add ⟨g1, 0, none⟩ j) = some v) := Lib.hid fun U B j v hj => by
    have hj10 : j < 10 := (List.getElem?_eq_some_iff.1 hj).1
    rw [Go.WideShapes.add_plain, Nat.zero_add]
    exact cell_on ((X5.out.x2 j hj10).trans (by rw [← Array.getElem?_toList]; exact hj)) B
  have s3 : Hid (∀ U, Below V.heap.size V U → ∀ j v, (#[.int .u8 1, .int .u8 1, .int .u8 1, .bool false, .int .u8 0, .bool false, .int .u8 0, .int .u8 0, .int .u8 1, .int .u8 0] : Array Value).toList[j]? = some v → U.cell? (Addr.add ⟨W.heap.size, 0, none⟩ j) = some v) := Lib.hid fun U B j v hj => by
    rw [Go.WideShapes.add_plain, Nat.zero_add]
    exact cell_on ((cell_of_row _ _ j _ _ _ E1.out).trans (by rw [← Array.getElem?_toList]; exact hj)) B
  have s4 : Hid (∀ U, Below V.heap.size V U → ∀ j v, (#[.int .u8 2, .int .u8 0, .int .u8 1, .bool false, .int .u8 2, .bool false, .int .u8 0, .int .u8 0, .int .u8 2, .int .u8 0] : Array Value).toList[j]? = some v → U.cell? (Addr.add ⟨W.heap.size + 1, 0, none⟩ j) = some v) := Lib.hid fun U B j v hj => by
    rw [Go.WideShapes.add_plain, Nat.zero_add]
    exact cell_on ((cell_of_row _ _ j _ _ _ E2.out).trans (by rw [← Array.getElem?_toList]; exact hj)) B
  have s5 : Hid (∀ U, Below V.heap.size V U → ∀ j v, (#[.int .u8 4, .int .u8 0, .int .u8 0, .int .u8 0, .slice (some ⟨gc, 0, none⟩) 2 cc] : Array Value).toList[j]? = some v → U.cell? (Addr.add ⟨w1.heap.size, 5, none⟩ j) = some v) := Lib.hid fun U B j v hj => by
    have hj5 : j < 5 := (List.getElem?_eq_some_iff.1 hj).1
    rw [Go.WideShapes.add_plain]
    refine cell_on ((cell_of_row _ _ (5 + j) _ _ _ zp5.out).trans ?_) B
    have : j = 0 ∨ j = 1 ∨ j = 2 ∨ j = 3 ∨ j = 4 := by omega
    rcases this with rfl | rfl | rfl | rfl | rfl <;> exact hj
  have CD := Lib.hid fun U (B : Below V.heap.size V U) => deep_any 4 exC { k := 4, u := .slice (some ⟨gc, 0, none⟩) 2 cc } U (by rw [deepC]; exact Nat.le_refl _) (by omega) (X5.out.dp.below B)
  rw [deepC] at CD
  have hq1 : ∀ U, (binOp .eql 46 (.agg #[.int .u8 1, .int .u8 1, .int .u8 1, .bool false, .int .u8 0, .bool false, .int .u8 0, .int .u8 0, .int .u8 1, .int .u8 0]) (.agg #[.int .u8 1, .int .u8 1, .int .u8 1, .bool false, .int .u8 0, .bool false, .int .u8 0, .int .u8 0, .int .u8 1, .int .u8 0])).run Try.prog U = .ok (.bool true) U := fun _ => by kernel_rfl
  have hq2 : ∀ U, (binOp .eql 46 (.agg #[.int .u8 2, .int .u8 0, .int .u8 1, .bool false, .int .u8 2, .bool false, .int .u8 0, .int .u8 0, .int .u8 2, .int .u8 0]) (.agg #[.int .u8 2, .int .u8 0, .int .u8 1, .bool false, .int .u8 2, .bool false, .int .u8 0, .int .u8 0, .int .u8 2, .int .u8 0])).run Try.prog U = .ok (.bool true) U := fun _ => by kernel_rfl
  clear on X5 zp5 E1 E2 hsz
  refine wp_region_below V.heap.size V (by kernel_rfl) (by kernel_rfl) (Below.refl _ _) ?_
  repeat (first
    | (go_big_quiet_step (first
      | (intro _; exact rfl)
      | (intro hW; go_at_call 7; exact Calls.below_of hW (CD.out _ hW))))
    | (refine wpQuiet_want rfl fun K hK => ?_
       first
         | refine quiet_load 37 (.tmp 101) rfl ⟨w1.heap.size, 3, none⟩ rfl _ (fun _ => by kernel_rfl) p3.out (hK _ ?_)
         | refine quiet_load 42 (.tmp 103) rfl ⟨gt, 0, none⟩ rfl _ (fun _ => by kernel_rfl) pt0.out (hK _ ?_)
         | refine quiet_loadS 46 (.tmp 105) rfl ⟨g0, 10, none⟩ rfl _ _ Try.underlying46 rfl (by kernel_rfl) s1.out (hK _ ?_)
         | refine quiet_loadS 46 (.tmp 7) rfl ⟨W.heap.size, 0, none⟩ rfl _ _ Try.underlying46 rfl (by kernel_rfl) s3.out (hK _ ?_)
         | refine quiet_load 37 (.tmp 110) rfl ⟨w1.heap.size, 3, none⟩ rfl _ (fun _ => by kernel_rfl) p3.out (hK _ ?_)
         | refine quiet_load 42 (.tmp 112) rfl ⟨gt, 1, none⟩ rfl _ (fun _ => by kernel_rfl) pt1.out (hK _ ?_)
         | refine quiet_loadS 46 (.tmp 114) rfl ⟨g1, 0, none⟩ rfl _ _ Try.underlying46 rfl (by kernel_rfl) s2.out (hK _ ?_)
         | refine quiet_loadS 46 (.tmp 8) rfl ⟨W.heap.size + 1, 0, none⟩ rfl _ _ Try.underlying46 rfl (by kernel_rfl) s4.out (hK _ ?_)
         | refine quiet_load 5 (.tmp 121) rfl ⟨w1.heap.size, 5, none⟩ rfl _ (fun _ => by kernel_rfl) p5.out (hK _ ?_)
         | refine quiet_load 22 (.tmp 127) rfl ⟨w1.heap.size, 9, none⟩ rfl _ (fun _ => by kernel_rfl) p9.out (hK _ ?_)
         | refine quiet_load 22 (.tmp 134) rfl ⟨w1.heap.size, 9, none⟩ rfl _ (fun _ => by kernel_rfl) p9.out (hK _ ?_)
         | refine quiet_load 5 (.tmp 137) rfl ⟨gc, 0, none⟩ rfl _ (fun _ => by kernel_rfl) pq0.out (hK _ ?_)
         | refine quiet_loadS 24 (.tmp 142) rfl ⟨w1.heap.size, 5, none⟩ rfl _ _ Try.underlying24 rfl (by kernel_rfl) s5.out (hK _ ?_)
       clear hK K
       simp only [Act.put, List.setIfInBounds_toArray, List.set_cons_succ, List.set_cons_zero]))
  refine wpQuiet_nil ?_
  intro wz hz
  have HZ := Lib.hid (HB5.out.trans (hz.mono HB5.out.size))
  go_wp2
  go_ret
  exact ⟨rfl, HZ.out⟩
end PP
end Go.Proofs.Ytglbmiadgdadfaa
end

section
/- Comparing the same texts, bytes, instructions: true. -/
namespace Go.Proofs.Ytglbmiadgdadfaa
open Go.RowKit Go.Shelf
open Go.BigFrame

attribute [local go_sem] Oper.semAt_some
namespace PP
/-- A slice that reads as xs, wherever it lies. -/
def SlR (W : World) (size : Nat) (v : Value) (n : Nat) (xs : List Value) : Prop :=
  n ≤ maxLen ∧ xs.length = n * size ∧ ∃ (a : Option Addr) (cap : Nat), v = .slice a n cap ∧ n ≤ cap ∧ cap ≤ maxLen ∧ (0 < n → ∃ g off, a = some ⟨g, off, none⟩ ∧ ∀ (j : Nat) (u : Value), xs[j]? = some u → W.cell? ⟨g, off + j, none⟩ = some u)
theorem SlR.below {W W' : World} {size n : Nat} {v : Value} {xs : List Value} (h : SlR W size v n xs) (B : Below W.heap.size W W') : SlR W' size v n xs := by
  obtain ⟨h1, h2, a, cap, h3, h4, h5, h6⟩ := h
  refine ⟨h1, h2, a, cap, h3, h4, h5, fun h0 => ?_⟩
  obtain ⟨g, off, e1, e2⟩ := h6 h0
  exact ⟨g, off, e1, fun j u hj => cell_on (e2 j u hj) B⟩
theorem slR_own {W : World} {base size n : Nat} {e : TypeId} {v : Value} {xs : List Value} (h : W.ownsRow base e size v n xs) : SlR W size v n xs := by
  rcases h.2 with ⟨rfl, h0⟩ | ⟨g, cap, cur, rfl, hg, hheap, hnc, hcm, hsz, htk⟩
  · exact ⟨by rw [h0]; exact Nat.zero_le _, h.1, none, 0, by rw [h0], by rw [h0]; exact Nat.le_refl _, Nat.zero_le _, fun h => by omega⟩
  · refine ⟨Nat.le_trans hnc hcm, h.1, _, cap, rfl, hnc, hcm, fun _ => ⟨g, 0, rfl, fun j u hu => ?_⟩⟩
    have hj : j < n * size := by rw [← h.1]; exact (List.getElem?_eq_some_iff.1 hu).1
    rw [Nat.zero_add, h.cellAt j hj]
    exact hu
theorem slR_nil (W : World) (size : Nat) : SlR W size (.slice none 0 0) 0 [] := ⟨Nat.zero_le _, by simp, none, 0, rfl, Nat.le_refl _, Nat.zero_le _, fun h => by omega⟩
theorem cellsI_at : ∀ (ys : List PX.InsD) (i j : Nat) (y : PX.InsD), ys[i]? = some y → j < 10 → (cellsI ys)[i * 10 + j]? = (insC y)[j]?
  | [], i, j, y, h, _ => by simp at h
  | z :: zs, 0, j, y, h, hj => by
    simp at h; subst h
    unfold cellsI
    rw [List.flatMap_cons, List.getElem?_append_left (by show _ < 10; omega)]
    simp
  | z :: zs, i + 1, j, y, h, hj => by
    unfold cellsI
    rw [List.flatMap_cons, List.getElem?_append_right (by show 10 ≤ _; omega)]
    have e : (i + 1) * 10 + j - (insC z).toList.length = i * 10 + j := by show _ - 10 = _; omega
    rw [e]
    exact cellsI_at zs i j y (by simpa using h) hj
theorem argHeld : Try.prog.stoodInHeld 44 = false := by kernel_rfl
theorem insHeld : Try.prog.stoodInHeld 46 = false := by kernel_rfl
theorem u8Agg (w : World) : (isAgg 5).run Try.prog w = .ok false w := by kernel_rfl
theorem boolAgg (w : World) : (isAgg 4).run Try.prog w = .ok false w := by kernel_rfl
theorem argAgg (w : World) : (isAgg 44).run Try.prog w = .ok true w := by kernel_rfl
theorem argSize (w : World) : (sizeOf 44).run Try.prog w = .ok 2 w := by kernel_rfl
theorem eqArg (d : Nat) (r : Bool) (n : Int) (W : World) : (Op.equalIn (d + 1 + 1) 44 (.agg #[.bool r, .int .u8 n]) (.agg #[.bool r, .int .u8 n])).run Try.prog W = .ok true W := by
  rw [run_equalIn_agg W (d + 1) 44 _ _ (by rw [Program.fieldsOf, Try.underlying44]) argHeld]
  simp only [Program.fieldsOf, Try.underlying44, Op.eqFields]
  have hi : ∀ (n : Int) (W : World), (Op.equalIn (d + 1) 5 (.int .u8 n) (.int .u8 n)).run Try.prog W = .ok true W := fun n W => by rw [run_equalIn_int W d 5 .u8 .u8 _ _ Try.underlying5]; simp
  have hb : ∀ (r : Bool) (W : World), (Op.equalIn (d + 1) 4 (.bool r) (.bool r)).run Try.prog W = .ok true W := fun r W => by rw [run_equalIn_bool W d 4 _ _ Try.underlying4]; simp
  simp [part, u8Agg, boolAgg, hi, hb]
theorem eqIns (d : Nat) (x : PX.InsD) (W : World) : (Op.equalIn (d + 1 + 1 + 1) 46 (.agg (insC x)) (.agg (insC x))).run Try.prog W = .ok true W := by
  rw [run_equalIn_agg W (d + 1 + 1) 46 _ _ (by rw [Program.fieldsOf, Try.underlying46]) insHeld]
  simp only [Program.fieldsOf, Try.underlying46, Op.eqFields]
  have hi : ∀ (n : Int) (W : World), (Op.equalIn (d + 1 + 1) 5 (.int .u8 n) (.int .u8 n)).run Try.prog W = .ok true W := fun n W => by rw [run_equalIn_int W (d + 1) 5 .u8 .u8 _ _ Try.underlying5]; simp
  have ha := fun (r : Bool) (n : Int) W => eqArg d r n W
  have e1 : (insC x).extract 3 (3 + 2) = #[.bool x.a.r, .int .u8 x.a.n] := rfl
  have e2 : (insC x).extract 5 (5 + 2) = #[.bool x.b.r, .int .u8 x.b.n] := rfl
  have p0 : ∀ W, (part 5 (insC x) 0).run Try.prog W = .ok (.int .u8 x.op) W := fun W => by simp [part, u8Agg, insC]
  have p1 : ∀ W, (part 5 (insC x) 1).run Try.prog W = .ok (.int .u8 x.dst) W := fun W => by simp [part, u8Agg, insC]
  have p2 : ∀ W, (part 5 (insC x) 2).run Try.prog W = .ok (.int .u8 x.loc) W := fun W => by simp [part, u8Agg, insC]
  have p3 : ∀ W, (part 44 (insC x) 3).run Try.prog W = .ok (.agg #[.bool x.a.r, .int .u8 x.a.n]) W := fun W => by simp only [part, Sem.run_bind, argAgg, argSize, Result.andThen_ok, if_true, e1, Sem.run_pure]
  have p5 : ∀ W, (part 44 (insC x) 5).run Try.prog W = .ok (.agg #[.bool x.b.r, .int .u8 x.b.n]) W := fun W => by simp only [part, Sem.run_bind, argAgg, argSize, Result.andThen_ok, if_true, e2, Sem.run_pure]
  have p7 : ∀ W, (part 5 (insC x) 7).run Try.prog W = .ok (.int .u8 x.fn) W := fun W => by simp [part, u8Agg, insC]
  have p8 : ∀ W, (part 5 (insC x) 8).run Try.prog W = .ok (.int .u8 x.mode) W := fun W => by simp [part, u8Agg, insC]
  have p9 : ∀ W, (part 5 (insC x) 9).run Try.prog W = .ok (.int .u8 x.skip) W := fun W => by simp [part, u8Agg, insC]
  simp [p0, p1, p2, p3, p5, p7, p8, p9, hi, ha]
theorem ins_neq (x : PX.InsD) (U : World) : (binOp .neq 46 (.agg (insC x)) (.agg (insC x))).run Try.prog U = .ok (.bool false) U := by
  have this : (Op.equalIn Op.maxDepth 46 (.agg (insC x)) (.agg (insC x))).run Try.prog U = .ok true U := eqIns 9997 x U
  simp [binOp, Op.equal, this]
end PP
end Go.Proofs.Ytglbmiadgdadfaa
end

section
/- Comparing the same conditions, the same programs: true. -/
namespace Go.Proofs.Ytglbmiadgdadfaa
open Go.RowKit Go.Shelf
open Go.BigFrame

attribute [local go_sem] Oper.semAt_some
namespace PP
/-- A slice of conditions, wherever they lie. -/
def KidSl (W : World) (v : Value) (kids : List PX.CondD) : Prop :=
  ∃ (a : Option Addr) (cap : Nat), v = .slice a kids.length cap ∧ kids.length ≤ cap ∧ cap ≤ maxLen ∧
      (0 < kids.length → ∃ (g off : Nat) (ys : List CV), a = some ⟨g, off, none⟩ ∧ g < W.heap.size ∧
        (∀ (i j : Nat) (y : CV), ys[i]? = some y → j < 5 → ∀ U : World, U.heap[g]? = W.heap[g]? → U.cell? ⟨g, off + i * 5 + j, none⟩ = (condC y)[j]?) ∧ KidsR W ys kids)
theorem KidSl.at {W : World} {v : Value} {kids : List PX.CondD} (h : KidSl W v kids) : ∃ a cap, v = .slice a kids.length cap ∧ kids.length ≤ cap ∧ cap ≤ maxLen ∧ ∀ (i : Nat) (d : PX.CondD) (U : World), Below W.heap.size W U → kids[i]? = some d → ∃ g off y, a = some ⟨g, off, none⟩ ∧ CondR U y d ∧ ∀ U', Below U.heap.size U U' → ∀ j u, (condC y).toList[j]? = some u → U'.cell? (Addr.add ⟨g, off + i * 5, none⟩ j) = some u := by
  obtain ⟨a, cap, rfl, h1, h2, h3⟩ := h
  refine ⟨a, cap, rfl, h1, h2, fun i d U B hi => ?_⟩
  have h0 := (List.getElem?_eq_some_iff.1 hi).1
  obtain ⟨g, off, ys, rfl, e2, e3, e4⟩ := h3 (by omega)
  obtain ⟨y, hy, hR⟩ := KidsR.at kids ys e4 i d hi
  refine ⟨g, off, y, rfl, hR.below B, fun U' B' j u hj => ?_⟩
  have hj5 : j < 5 := (List.getElem?_eq_some_iff.1 hj).1
  rw [Go.WideShapes.add_plain]
  refine cell_on (cell_on (W := W) ((e3 i j y hy hj5 W rfl).trans ?_) B) B'
  rw [← Array.getElem?_toList]
  exact hj
theorem KidSl.below {W W' : World} {v : Value} {kids : List PX.CondD} (h : KidSl W v kids) (B : Below W.heap.size W W') : KidSl W' v kids := by
  obtain ⟨a, cap, rfl, h1, h2, h3⟩ := h
  refine ⟨a, cap, rfl, h1, h2, fun h0 => ?_⟩
  obtain ⟨g, off, ys, e1, e2, e3, e4⟩ := h3 h0
  exact ⟨g, off, ys, e1, lt_same (B.block g e2) e2, fun i j y hy hj U hU => e3 i j y hy hj U (hU.trans (B.block g e2)), KidsR.keep (fun g hg => B.block g hg) _ _ e4⟩
def SameC (m : Nat) : Prop := ∀ (c : PX.CondD) (x y : CV) (W : World), PX.deep c ≤ m → CondR W x c → CondR W y c → Calls Try.prog 11 #[condV x, condV y] W fun e w' => e = .returned (.bool true) ∧ Below W.heap.size W w'
set_option maxRecDepth 100000 in
set_option maxHeartbeats 8000000 in
theorem sameConds_of (m : Nat) (hm : SameC m) (v u : Value) (l : List PX.CondD) (w : World) (hd : PX.deepL l ≤ m) (hv : KidSl w v l) (hu : KidSl w u l) :
    Calls Try.prog 16 #[v, u] w fun e w' => e = .returned (.bool true) ∧ Below w.heap.size w w' := by
  obtain ⟨a, cap, rfl, h4, h5, h6⟩ := hv.at
  obtain ⟨a', cap', rfl, h4', h5', h6'⟩ := hu.at
  obtain ⟨N, hN⟩ : ∃ N, l.length = N := ⟨_, rfl⟩
  rw [hN] at h4 h4' ⊢
  unfold maxLen at h5 h5'
  clear hv hu
  replace h6 := Lib.hid h6
  replace h6' := Lib.hid h6'
  replace hm := Lib.hid hm
  go_enter Try.func16, Try.ntmps16
  go_wp2_with fail
  go_loopw [5] (fun i wr => ∃ q : Nat, q ≤ N ∧ i = .int .i64 (q : Int) ∧ Hid (Below w.heap.size w wr)) (fun i _ => N - (intOf i).toNat)
  case atStart => exact ⟨0, by omega, rfl, Lib.hid (Below.refl _ _)⟩
  case round =>
    obtain ⟨q, hq, rfl, hB⟩ := hrel
    by_cases hlt : q < N
    · obtain ⟨d, hd0⟩ : ∃ x, l[q]? = some x := ⟨l[q]'(by omega), List.getElem?_eq_getElem (by omega)⟩
      obtain ⟨g, off, x, rfl, hx, hcx⟩ := h6.out q d wr hB.out hd0
      obtain ⟨g', off', y, rfl, hy, hcy⟩ := h6'.out q d wr hB.out hd0
      have hdd := deepL_le l q d hd0
      have cs := Lib.hid fun W (B : Below wr.heap.size wr W) => hm.out d x y W (by omega) (hx.below B) (hy.below B)
      have t1 : decide (q < N) = true := by simpa using hlt
      unfold condV at cs
      unfold condC at hcx hcy
      replace hcx := Lib.hid hcx
      replace hcy := Lib.hid hcy
      clear hd0 hx hy hdd
      go_wp2_with fail
      refine wp_region_below wr.heap.size wr (by kernel_rfl) (by kernel_rfl) (Below.refl _ _) ?_
      repeat (first
        | (go_big_quiet_step (first
          | (intro _; exact rfl)
          | (intro hW; go_at_call 11; exact Calls.below_of hW (cs.out _ hW))))
        | (refine wpQuiet_want rfl fun K hK => ?_
           first
             | refine quiet_loadS 24 (.tmp 19) rfl ⟨g, off + q * 5, none⟩ rfl _ _ Try.underlying24 rfl (by kernel_rfl) hcx.out (hK _ ?_)
             | refine quiet_loadS 24 (.tmp 23) rfl ⟨g', off' + q * 5, none⟩ rfl _ _ Try.underlying24 rfl (by kernel_rfl) hcy.out (hK _ ?_)
           clear hK K
           simp only [Act.put, List.setIfInBounds_toArray, List.set_cons_succ, List.set_cons_zero]))
      refine wpQuiet_nil ?_
      intro wz hz
      have hB2 := Lib.hid (hB.out.trans (hz.mono hB.out.size))
      go_wp2
      go_roundw
      case rel => exact ⟨q + 1, by omega, by go_num, hB2⟩
      case measure => simp [intOf]; omega
    · obtain rfl : q = N := by omega
      have t1 : decide (q < q) = false := by simp
      go_wp2
      go_ret
      exact ⟨rfl, hB.out⟩
theorem CondR.kids {W : World} {x : CV} {k t n v : Int} {kids : List PX.CondD} (h : CondR W x (.mk k t n v kids)) : KidSl W x.u kids := by
  obtain ⟨_, _, _, _, a, cap, h5, h6, h7, h8⟩ := h
  exact ⟨a, cap, h5, h6, h7, h8⟩
set_option maxRecDepth 100000 in
set_option maxHeartbeats 8000000 in
theorem sameCond_all : ∀ m, SameC m
  | 0 => fun c x y W hd _ _ => by cases c; simp [PX.deep] at hd
  | m + 1 => by
    intro c x y w hd hx hy
    have ih := sameCond_all m
    cases c with
    | mk k t n v kids =>
      have hdk : PX.deepL kids ≤ m := by simp only [PX.deep] at hd; omega
      have kx := hx.kids
      have ky := hy.kids
      obtain ⟨a1, a2, a3, a4, a, cap, a5, -⟩ := hx
      obtain ⟨b1, b2, b3, b4, a', cap', b5, -⟩ := hy
      obtain ⟨xk, xt, xn, xv, xu⟩ := x
      obtain ⟨yk, yt, yn, yv, yu⟩ := y
      simp only at a1 a2 a3 a4 a5 b1 b2 b3 b4 b5 kx ky
      subst a1 a2 a3 a4 a5 b1 b2 b3 b4 b5
      obtain ⟨N, hN⟩ : ∃ N, kids.length = N := ⟨_, rfl⟩
      rw [hN] at kx ky
      unfold condV
      simp only
      rw [hN]
      have A1 := ((Below.refl w.heap.size w).alloc (Nat.le_refl _) (.cells #[.int .u8 yk, .int .u8 yt, .int .u8 yn, .int .u8 yv, .slice a N cap] 24)).alloc (by simp) (.cells #[.int .u8 yk, .int .u8 yt, .int .u8 yn, .int .u8 yv, .slice a' N cap'] 24)
      have z1 := row_alloc (heap_alloc_new w (.cells #[.int .u8 yk, .int .u8 yt, .int .u8 yn, .int .u8 yv, .slice a N cap] 24)) (.cells #[.int .u8 yk, .int .u8 yt, .int .u8 yn, .int .u8 yv, .slice a' N cap'] 24)
      have z2 := heap_alloc_new (w.alloc (.cells #[.int .u8 yk, .int .u8 yt, .int .u8 yn, .int .u8 yv, .slice a N cap] 24)) (.cells #[.int .u8 yk, .int .u8 yt, .int .u8 yn, .int .u8 yv, .slice a' N cap'] 24)
      simp only [World.size_alloc] at z2
      have CS := Lib.hid fun W (B : Below w.heap.size w W) => sameConds_of m ih _ _ kids W hdk (kx.below B) (ky.below B)
      have cs := Lib.hid (CS.out _ A1)
      have e0 := cell_of_row _ _ 0 _ _ _ z1
      have e1 := cell_of_row _ _ 1 _ _ _ z1
      have e2 := cell_of_row _ _ 2 _ _ _ z1
      have e3 := cell_of_row _ _ 3 _ _ _ z1
      have e4 := cell_of_row _ _ 4 _ _ _ z1
      have g0 := cell_of_row _ _ 0 _ _ _ z2
      have g1 := cell_of_row _ _ 1 _ _ _ z2
      have g2 := cell_of_row _ _ 2 _ _ _ z2
      have g3 := cell_of_row _ _ 3 _ _ _ z2
      have g4 := cell_of_row _ _ 4 _ _ _ z2
      simp only [List.getElem?_toArray, List.getElem?_cons_zero, List.getElem?_cons_succ] at e0 e1 e2 e3 e4 g0 g1 g2 g3 g4
      have hxx : ∀ z : Int, (z == z) = true := fun z => by simp
      replace A1 := Lib.hid A1
      clear z1 z2 CS kx ky hd
      go_enter Try.func11, Try.ntmps11
      go_wp2_with (first
        | (go_at_call 16; refine (cs.out).mono ?_; rintro e w3 ⟨rfl, B3⟩))
      go_ret
      exact ⟨rfl, A1.out.trans (B3.mono A1.out.size)⟩
theorem sameCond_any (c : PX.CondD) (x y : CV) (W : World) (hx : CondR W x c) (hy : CondR W y c) : Calls Try.prog 11 #[condV x, condV y] W fun e w' => e = .returned (.bool true) ∧ Below W.heap.size W w' :=
  sameCond_all _ c x y W (Nat.le_refl _) hx hy
end PP
end Go.Proofs.Ytglbmiadgdadfaa
end

section
/- Comparing the same programs: true. -/
namespace Go.Proofs.Ytglbmiadgdadfaa
open Go.RowKit Go.Shelf
open Go.BigFrame

attribute [local go_sem] Oper.semAt_some
namespace PP
/-- What a program holds, as plain data. -/
structure PgD where
  name : ByteArray
  locs : List ByteArray
  init : List Int
  threads : List (List PX.InsD)
  ask : Int
  cond : PX.CondD
def pgD (st : PX.S) : PgD := ⟨st.name, st.locs, st.init, st.threads, st.ask, st.cond⟩
def pgZ : PgD := ⟨⟨#[]⟩, [], [], [], 0, .mk 0 0 0 0 []⟩
/-- A program's slices and condition, where they lie. -/
structure PV where
  a2 : Option Addr
  n2 : Nat
  p2 : Nat
  a6 : Option Addr
  n6 : Nat
  p6 : Nat
  a7 : Option Addr
  n7 : Nat
  p7 : Nat
  xk : Int
  xt : Int
  xn : Int
  xv : Int
  xa : Option Addr
  xl : Nat
  xp : Nat
def pvC (d : PgD) (v : PV) : Array Value := #[.string d.name, .slice v.a2 v.n2 v.p2, .slice v.a6 v.n6 v.p6, .slice v.a7 v.n7 v.p7, .int .u8 d.ask, .int .u8 v.xk, .int .u8 v.xt, .int .u8 v.xn, .int .u8 v.xv, .slice v.xa v.xl v.xp]
/-- The cells pvC d v read as the program d. -/
structure PgR (W : World) (d : PgD) (v : PV) : Prop where
  locs : SlR W 1 (.slice v.a2 v.n2 v.p2) d.locs.length (d.locs.map .string)
  init : SlR W 1 (.slice v.a6 v.n6 v.p6) d.init.length (d.init.map (.int .u8))
  thr : ∃ vs : List Value, SlR W 1 (.slice v.a7 v.n7 v.p7) d.threads.length vs ∧ ∀ (i : Nat) (x : Value) (k : List PX.InsD), vs[i]? = some x → d.threads[i]? = some k → SlR W 10 x k.length (cellsI k)
  cond : CondR W ⟨v.xk, v.xt, v.xn, v.xv, .slice v.xa v.xl v.xp⟩ d.cond
theorem PgR.below {W W' : World} {d : PgD} {v : PV} (h : PgR W d v) (B : Below W.heap.size W W') : PgR W' d v := by
  obtain ⟨vs, h1, h2⟩ := h.thr
  exact ⟨h.locs.below B, h.init.below B, ⟨vs, h1.below B, fun i x k a b => (h2 i x k a b).below B⟩, h.cond.below B⟩
theorem PgM.toR {W : World} {b : Nat} {st : PX.S} {h : Hd} (P : PgM W b st h) : ∃ v : PV, progV st h = .agg (pvC (pgD st) v) ∧ PgR W (pgD st) v := by
  obtain ⟨xc, k0, k1, k2, k3, k4, k5⟩ := P.cnd
  obtain ⟨xa, xl, xp, hu⟩ := k5.slice
  obtain ⟨a2, n2, p2, hvl⟩ : ∃ a n cap, h.vl = .slice a n cap := by
    rcases P.locs.2 with ⟨e, _⟩ | ⟨g, cap, cur, e, _⟩
    · exact ⟨_, _, _, e⟩
    · exact ⟨_, _, _, e⟩
  obtain ⟨a6, n6, p6, hvi⟩ : ∃ a n cap, h.vi = .slice a n cap := by
    rcases P.init.2 with ⟨e, _⟩ | ⟨g, cap, cur, e, _⟩
    · exact ⟨_, _, _, e⟩
    · exact ⟨_, _, _, e⟩
  obtain ⟨a7, p7, hvt⟩ := P.thr.sl
  obtain ⟨vs, t1, t2⟩ := P.thr
  refine ⟨⟨a2, n2, p2, a6, n6, p6, a7, st.threads.length, p7, xc.k, xc.t, xc.n, xc.v, xa, xl, xp⟩, ?_, ?_, ?_, ⟨vs, ?_, fun i x k a c => slR_own (t2.2.1 i x k a c)⟩, ?_⟩
  · unfold progV; rw [hvl, hvi, hvt, k0, k1, k2, k3, k4, hu]; rfl
  · have := slR_own P.locs
    rw [hvl] at this
    exact this
  · have h1 := slR_own P.init
    have hn : st.init.length = st.locs.length := by have := P.init.1; simpa using this
    rw [hvi, ← hn] at h1
    exact h1
  · have := slR_own t1
    rw [hvt] at this
    exact this
  · have := CondM.toR _ _ k5
    obtain ⟨yk, yt, yn, yv, yu⟩ := xc
    simp only at hu
    subst hu
    exact this
def pvZ : PV := ⟨none, 0, 0, none, 0, 0, none, 0, 0, 0, 0, 0, 0, none, 0, 0⟩
theorem pgR_zero (W : World) : PgR W pgZ pvZ :=
  ⟨slR_nil W 1, slR_nil W 1, ⟨[], slR_nil W 1, fun i x k a => by simp at a⟩, rfl, rfl, rfl, rfl, none, 0, rfl, Nat.le_refl _, Nat.zero_le _, fun h => by simp at h⟩
end PP
end Go.Proofs.Ytglbmiadgdadfaa
end
