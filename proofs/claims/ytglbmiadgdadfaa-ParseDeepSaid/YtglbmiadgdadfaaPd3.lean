/- ParCond, ParCond2, ParNeg, ParLines, ParFac in one text, for the claim. -/
import Derived.Test.YtglbmiadgdadfaaPd2

section
/- The parser's conditions: those without parts. -/
namespace Go.Proofs.Ytglbmiadgdadfaa
open Go.RowKit Go.Shelf

attribute [local go_sem] Oper.semAt_some
namespace PP
/-- A condition's cells: its numbers and the slice of its parts. -/
structure CV where
  k : Int
  t : Int := 0
  n : Int := 0
  v : Int := 0
  u : Value := .slice none 0 0
def condC (x : CV) : Array Value := #[.int .u8 x.k, .int .u8 x.t, .int .u8 x.n, .int .u8 x.v, x.u]
def condV (x : CV) : Value := .agg #[.int .u8 x.k, .int .u8 x.t, .int .u8 x.n, .int .u8 x.v, x.u]
def zC : CV := { k := 0 }
theorem newCond (w : World) : (w.alloc (.cells #[.int .u8 0, .int .u8 0, .int .u8 0, .int .u8 0, .slice none 0 0] 24)).heap[w.heap.size]? = some (.cells (condC zC) 24 (0, 0)) := heap_alloc_new w _
theorem row_cond {W : World} {k : Nat} {x : CV} (hz : W.heap[k]? = some (.cells (condC x) 24 (0, 0))) :
    W.cell? ⟨k, 0, none⟩ = some (.int .u8 x.k) ∧ W.cell? ⟨k, 1, none⟩ = some (.int .u8 x.t) ∧ W.cell? ⟨k, 2, none⟩ = some (.int .u8 x.n) ∧ W.cell? ⟨k, 3, none⟩ = some (.int .u8 x.v) ∧ W.cell? ⟨k, 4, none⟩ = some x.u :=
  ⟨cell_of_row _ _ 0 _ _ _ hz, cell_of_row _ _ 1 _ _ _ hz, cell_of_row _ _ 2 _ _ _ hz, cell_of_row _ _ 3 _ _ _ hz, cell_of_row _ _ 4 _ _ _ hz⟩
def setCond (W : World) (k : Nat) (x : CV) : World :=
  ((((W.setCell ⟨k, 0, none⟩ (.int .u8 x.k)).setCell ⟨k, 1, none⟩ (.int .u8 x.t)).setCell ⟨k, 2, none⟩ (.int .u8 x.n)).setCell ⟨k, 3, none⟩ (.int .u8 x.v)).setCell ⟨k, 4, none⟩ x.u
theorem setCond_row {W : World} {k : Nat} {y : CV} (x : CV) (hz : W.heap[k]? = some (.cells (condC y) 24 (0, 0))) : (setCond W k x).heap[k]? = some (.cells (condC x) 24 (0, 0)) := by
  have r0 := heap_setCell_same _ k 0 _ _ (.int .u8 x.k) hz
  have r1 := heap_setCell_same _ k 1 _ _ (.int .u8 x.t) r0
  have r2 := heap_setCell_same _ k 2 _ _ (.int .u8 x.n) r1
  have r3 := heap_setCell_same _ k 3 _ _ (.int .u8 x.v) r2
  have r4 := heap_setCell_same _ k 4 _ _ x.u r3
  unfold setCond
  rw [r4]
  simp only [condC, List.setIfInBounds_toArray, List.set_cons_succ, List.set_cons_zero]
theorem condT1 : 24 ∉ T1 := by simp [T1]
theorem Tr.setC {w W : World} {b k : Nat} {s : PX.S} {h g : Hd} (T : Tr w b h W s g) (hk : w.heap.size ≤ k) (hb : b < w.heap.size) (hg : h.g < w.heap.size) {C : Array Value} (hz : W.heap[k]? = some (.cells C 24 (0, 0))) (j : Nat) (v : Value) : Tr w b h (W.setCell ⟨k, j, none⟩ v) s g :=
  T.set hk hb (by obtain ⟨_, _, rfl⟩ := T.hd; exact hg) _ _ hz condT1 j v
theorem Tr.setCond {w W : World} {b k : Nat} {s : PX.S} {h g : Hd} (T : Tr w b h W s g) (hk : w.heap.size ≤ k) (hb : b < w.heap.size) (hg : h.g < w.heap.size) {y : CV} (x : CV) (hz : W.heap[k]? = some (.cells (condC y) 24 (0, 0))) : Tr w b h (PP.setCond W k x) s g := by
  have r0 := heap_setCell_same _ k 0 _ _ (.int .u8 x.k) hz
  have r1 := heap_setCell_same _ k 1 _ _ (.int .u8 x.t) r0
  have r2 := heap_setCell_same _ k 2 _ _ (.int .u8 x.n) r1
  have r3 := heap_setCell_same _ k 3 _ _ (.int .u8 x.v) r2
  exact ((((T.setC hk hb hg hz 0 _).setC hk hb hg r0 1 _).setC hk hb hg r1 2 _).setC hk hb hg r2 3 _).setC hk hb hg r3 4 _
theorem sizeCond : (Try.prog.info? 24).map (·.size) = some 5 := by kernel_rfl
theorem cond_results {fn : Func} {p : Tmp} (h : fn.results = #[.cell p 24]) (tmps : Array Value) (W : World) (k : Nat) (x : CV) (hp : tmps.getD p undef = .pointer (some ⟨k, 0, none⟩)) (hz : W.heap[k]? = some (.cells (condC x) 24 (0, 0))) :
    (results fn tmps).run Try.prog W = .ok (condV x) W :=
  results_cell_row h tmps W k _ _ _ _ hp hz Try.underlying24 rfl sizeCond
theorem setN_row {W : World} {k : Nat} {y : CV} (m : Int) (hz : W.heap[k]? = some (.cells (condC y) 24 (0, 0))) : (W.setCell ⟨k, 2, none⟩ (.int .u8 m)).heap[k]? = some (.cells (condC { y with n := m }) 24 (0, 0)) := by
  rw [heap_setCell_same _ k 2 _ _ (.int .u8 m) hz]
  simp only [condC, List.setIfInBounds_toArray, List.set_cons_succ, List.set_cons_zero]
theorem setV_row {W : World} {k : Nat} {y : CV} (m : Int) (hz : W.heap[k]? = some (.cells (condC y) 24 (0, 0))) : (W.setCell ⟨k, 3, none⟩ (.int .u8 m)).heap[k]? = some (.cells (condC { y with v := m }) 24 (0, 0)) := by
  rw [heap_setCell_same _ k 3 _ _ (.int .u8 m) hz]
  simp only [condC, List.setIfInBounds_toArray, List.set_cons_succ, List.set_cons_zero]
/-- A condition without parts, as a value. -/
def leafV : PX.CondD → Value
  | .mk k t n v _ => condV { k := k, t := t, n := n, v := v }

set_option maxRecDepth 100000 in
set_option maxHeartbeats 16000000 in
theorem truth_any (b : Nat) (s : PX.S) (h : Hd) (w : World) (L : LS w b s h) :
    Calls Try.prog 83 #[.pointer (some ⟨b, 0, none⟩)] w (Ends1 w b h leafV (PX.truth s)) := by
  have hbl := L.ps.lt
  have hgl := L.ps.g_lt
  have U0 := ((Tr.start L).alloc (.cells #[.int .u8 0, .int .u8 0, .int .u8 0, .int .u8 0, .slice none 0 0] 24)).alloc (.cells #[.string ⟨#[116, 114, 117, 101]⟩] 9)
  have z0 := row_alloc (newCond w) (.cells #[.string ⟨#[116, 114, 117, 101]⟩] 9)
  have C1 := take_any b s h _ [PX.kTrue] _ U0.ls.ps (strSl_one _ _) (symsOk_bs (by decide))
  simp only [World.size_alloc] at C1
  have e0 : PX.truth s = (PX.take [PX.kTrue] s).bind fun _ s => .ok (.mk 0 0 0 0 []) s := rfl
  replace e0 := Lib.hid e0
  replace C1 := Lib.hid C1
  replace U0 := Lib.hid U0
  replace z0 := Lib.hid z0
  go_enter Try.func83, Try.ntmps83
  go_wp2_with (first
    | (go_at_call 41; refine call0 C1.out (fun t s1 w1 hx1 F1 P1 => ?_) (fun pl er w1 hx F => ⟨rfl, Ends1.bad (U0.out.fr.trans F.up) (by rw [e0.out, hx]; rfl)⟩)
       dsimp only [tokV]
       have U1 := U0.out.step0 F1 (mv_take hx1) P1
       have z1 := F1.box z0.out (by omega) (by simp)
       obtain ⟨v0, v1, v2, v3, v4⟩ := row_cond z1
       have fv := fun j => frozen_of_row _ _ j _ _ z1))
  refine bodyPost_ret (v := leafV (.mk 0 0 0 0 [])) (cond_results rfl _ _ w.heap.size { k := 0 } rfl (setCond_row { k := 0 } z1)) rfl (Tr.ok (U1.setCond (Nat.le_refl _) hbl hgl { k := 0 } z1) ?_)
  rw [e0.out, hx1]
  rfl

set_option maxRecDepth 100000 in
set_option maxHeartbeats 16000000 in
theorem locCond_any (b : Nat) (s : PX.S) (h : Hd) (w : World) (L : LS w b s h) :
    Calls Try.prog 82 #[.pointer (some ⟨b, 0, none⟩)] w (Ends1 w b h leafV (PX.locCond s)) := by
  have hbl := L.ps.lt
  have hgl := L.ps.g_lt
  have U0 := (Tr.start L).alloc (.cells #[.int .u8 0, .int .u8 0, .int .u8 0, .int .u8 0, .slice none 0 0] 24)
  have z0 := newCond w
  have C1 := Lib.hid (loc_any b s h _ U0.ls)
  have C2 := Lib.hid fun s g W (p : PS (W.alloc (.cells #[.string ⟨#[61]⟩] 9)) b s g) => take_any b s g _ [PX.gEq] _ p (strSl_one W _) (symsOk_bs (by decide))
  have C3 := Lib.hid fun s g W (p : PS W b s g) => PP.num_any b s g W p
  have e0 : PX.locCond s = (PX.loc s).bind fun n s => (PX.take [PX.gEq] s).bind fun _ s => (PX.num s).bind fun v s => .ok (.mk 2 0 n v []) s := rfl
  replace e0 := Lib.hid e0
  replace U0 := Lib.hid U0
  replace z0 := Lib.hid z0
  go_enter Try.func82, Try.ntmps82
  go_wp2_with (first
    | (go_at_call 64; refine call1 C1.out (fun n s1 w1 vl vi hx1 F1 L1 => ?_) (fun pl er w1 hx F => ⟨rfl, Ends1.bad (U0.out.fr.trans F) (by rw [e0.out, hx]; rfl)⟩)
       dsimp only
       have z1 := F1.box z0.out (by omega) condT1
       have hs1 := lt_of_heap z1
       have U1 := ((U0.out.step1 F1 L1).alloc (.cells (condC { k := 2, n := n }) 24)).alloc (.cells #[.string ⟨#[61]⟩] 9)
       have x1 := row_alloc (heap_alloc_new w1 (.cells (condC { k := 2, n := n }) 24)) (.cells #[.string ⟨#[61]⟩] 9)
       replace z1 := row_alloc (row_alloc z1 (.cells (condC { k := 2, n := n }) 24)) (.cells #[.string ⟨#[61]⟩] 9)
       have c2 := C2.out _ _ (w1.alloc (.cells (condC { k := 2, n := n }) 24)) U1.ls.ps
       simp only [World.size_alloc] at c2
       unfold condC at c2
       replace c2 := Lib.hid c2
       replace U1 := Lib.hid U1)
    | (go_at_call 41; refine call0 c2.out (fun t s2 w2 hx2 F2 P2 => ?_) (fun pl er w1 hx F => ⟨rfl, Ends1.bad (U1.out.fr.trans F.up) (by rw [e0.out, hx1]; simp only [PX.R.bind, hx])⟩)
       dsimp only [tokV]
       have U2 := U1.out.step0 F2 (mv_take hx2) P2
       have x2 := F2.box x1 (by omega) (by simp)
       have z2 := F2.box z1 (by omega) (by simp))
    | (go_at_call 65; refine call0 (C3.out _ _ _ U2.ls.ps) (fun v s3 w3 hx3 F3 P3 => ?_) (fun pl er w1 hx F => ⟨rfl, Ends1.bad (U2.fr.trans F.up) (by rw [e0.out, hx1]; simp only [PX.R.bind, hx2, hx])⟩)
       dsimp only
       have U3 := U2.step0 F3 (mv_num hx3) P3
       have x3 := F3.box x2 (by omega) (by simp)
       have z3 := F3.box z2 (by omega) (by simp)
       obtain ⟨y0, y1, y2, y3, y4⟩ := row_cond x3
       obtain ⟨v0, v1, v2, v3, v4⟩ := row_cond z3
       have fz := fun j => frozen_of_row _ _ j _ _ x3
       have fv := fun j => frozen_of_row _ _ j _ _ z3))
  have Z := row_keep (k := w1.heap.size) z3 (by omega) 3 (.int .u8 v)
  refine bodyPost_ret (v := leafV (.mk 2 0 n v [])) (cond_results rfl _ _ w.heap.size { k := 2, n := n, v := v } rfl (setCond_row { k := 2, n := n, v := v } Z)) rfl (Tr.ok ((U3.setC (k := w1.heap.size) (by omega) hbl hgl x3 3 (.int .u8 v)).setCond (Nat.le_refl _) hbl hgl { k := 2, n := n, v := v } Z) ?_)
  rw [e0.out, hx1]
  simp only [PX.R.bind, hx2, hx3]

set_option maxRecDepth 100000 in
set_option maxHeartbeats 16000000 in
theorem regCond_any (b : Nat) (s : PX.S) (h : Hd) (w : World) (L : LS w b s h) :
    Calls Try.prog 81 #[.pointer (some ⟨b, 0, none⟩)] w (Ends1 w b h leafV (PX.regCond s)) := by
  have hbl := L.ps.lt
  have hgl := L.ps.g_lt
  have U0 := (Tr.start L).alloc (.cells #[.int .u8 0, .int .u8 0, .int .u8 0, .int .u8 0, .slice none 0 0] 24)
  have z0 := newCond w
  have C1 := Lib.hid fun s g W (p : PS W b s g) => PP.num_any b s g W p
  have C2 := Lib.hid fun s g W (p : PS (W.alloc (.cells #[.string ⟨#[58]⟩] 9)) b s g) => take_any b s g _ [PX.gColon] _ p (strSl_one W _) (symsOk_bs (by decide))
  have C3 := Lib.hid fun s g W (p : PS W b s g) => PP.reg_any b s g W p
  have C4 := Lib.hid fun s g W (p : PS (W.alloc (.cells #[.string ⟨#[61]⟩] 9)) b s g) => take_any b s g _ [PX.gEq] _ p (strSl_one W _) (symsOk_bs (by decide))
  have e0 : PX.regCond s = (PX.num s).bind fun t s => (PX.take [PX.gColon] s).bind fun _ s => (PX.reg s).bind fun n s => (PX.take [PX.gEq] s).bind fun _ s => (PX.num s).bind fun v s => .ok (.mk 1 t n v []) s := rfl
  replace e0 := Lib.hid e0
  replace U0 := Lib.hid U0
  replace z0 := Lib.hid z0
  go_enter Try.func81, Try.ntmps81
  go_wp2_with (first
    | (go_at_call 65; have V := z4; refine call0 (C1.out _ _ _ U4.ls.ps) (fun v s5 w5 hx5 F5 P5 => ?_) (fun pl er w1 hx F => ⟨rfl, Ends1.bad (U4.fr.trans F.up) (by rw [e0.out, hx1]; simp only [PX.R.bind, hx2, hx3, hx4, hx])⟩)
       dsimp only
       have U5 := U4.step0 F5 (mv_num hx5) P5
       have x5 := F5.box x4 (by omega) (by simp)
       have z5 := F5.box z4 (by omega) (by simp)
       obtain ⟨y0, y1, y2, y3, y4⟩ := row_cond x5
       obtain ⟨v0, v1, v2, v3, v4⟩ := row_cond z5
       have fz := fun j => frozen_of_row _ _ j _ _ x5
       have fv := fun j => frozen_of_row _ _ j _ _ z5)
    | (go_at_call 65; refine call0 (C1.out _ _ _ U0.out.ls.ps) (fun t s1 w1 hx1 F1 P1 => ?_) (fun pl er w1 hx F => ⟨rfl, Ends1.bad (U0.out.fr.trans F.up) (by rw [e0.out, hx]; rfl)⟩)
       dsimp only
       have z1 := F1.box z0.out (by omega) (by simp)
       have hs1 := lt_of_heap z1
       have U1 := ((U0.out.step0 F1 (mv_num hx1) P1).alloc (.cells (condC { k := 1, t := t }) 24)).alloc (.cells #[.string ⟨#[58]⟩] 9)
       have x1 := row_alloc (heap_alloc_new w1 (.cells (condC { k := 1, t := t }) 24)) (.cells #[.string ⟨#[58]⟩] 9)
       replace z1 := row_alloc (row_alloc z1 (.cells (condC { k := 1, t := t }) 24)) (.cells #[.string ⟨#[58]⟩] 9)
       have c2 := C2.out _ _ (w1.alloc (.cells (condC { k := 1, t := t }) 24)) U1.ls.ps
       simp only [World.size_alloc] at c2
       unfold condC at c2
       replace c2 := Lib.hid c2
       replace U1 := Lib.hid U1)
    | (go_at_call 41; have V := z3; refine call0 c4.out (fun u4 s4 w4 hx4 F4 P4 => ?_) (fun pl er w1 hx F => ⟨rfl, Ends1.bad (U3.out.fr.trans F.up) (by rw [e0.out, hx1]; simp only [PX.R.bind, hx2, hx3, hx])⟩)
       dsimp only [tokV]
       have U4 := U3.out.step0 F4 (mv_take hx4) P4
       have x4 := F4.box x3.out (by omega) (by simp)
       have z4 := F4.box z3.out (by omega) (by simp))
    | (go_at_call 41; refine call0 c2.out (fun u2 s2 w2 hx2 F2 P2 => ?_) (fun pl er w1 hx F => ⟨rfl, Ends1.bad (U1.out.fr.trans F.up) (by rw [e0.out, hx1]; simp only [PX.R.bind, hx])⟩)
       dsimp only [tokV]
       have U2 := U1.out.step0 F2 (mv_take hx2) P2
       have x2 := F2.box x1 (by omega) (by simp)
       have z2 := F2.box z1 (by omega) (by simp))
    | (go_at_call 85; refine call0 (C3.out _ _ _ U2.ls.ps) (fun n s3 w3 hx3 F3 P3 => ?_) (fun pl er w1 hx F => ⟨rfl, Ends1.bad (U2.fr.trans F.up) (by rw [e0.out, hx1]; simp only [PX.R.bind, hx2, hx])⟩)
       dsimp only
       have q3 := F3.box x2 (by omega) (by simp)
       have U3 := ((U2.step0 F3 (mv_reg hx3) P3).setC (k := w1.heap.size) (by omega) hbl hgl q3 2 (.int .u8 n)).alloc (.cells #[.string ⟨#[61]⟩] 9)
       have x3 := Lib.hid (row_alloc (setN_row n (y := { k := 1, t := t }) q3) (.cells #[.string ⟨#[61]⟩] 9))
       have z3 := Lib.hid (row_alloc (row_keep (k := w1.heap.size) (F3.box z2 (by omega) (by simp)) (by omega) 2 (.int .u8 n)) (.cells #[.string ⟨#[61]⟩] 9))
       have c4 := C4.out _ _ (w3.setCell ⟨w1.heap.size, 2, none⟩ (.int .u8 n)) U3.ls.ps
       simp only [World.size_setCell] at c4
       replace c4 := Lib.hid c4
       replace U3 := Lib.hid U3
       obtain ⟨y0, y1, y2, y3, y4⟩ := row_cond (x := { k := 1, t := t }) q3
       have fz := fun j => frozen_of_row _ _ j _ _ q3))
  have Z := row_keep (k := w1.heap.size) z5 (by omega) 3 (.int .u8 v)
  refine bodyPost_ret (v := leafV (.mk 1 t n v [])) (cond_results rfl _ _ w.heap.size { k := 1, t := t, n := n, v := v } rfl (setCond_row { k := 1, t := t, n := n, v := v } Z)) rfl (Tr.ok ((U5.setC (k := w1.heap.size) (by omega) hbl hgl x5 3 (.int .u8 v)).setCond (Nat.le_refl _) hbl hgl { k := 1, t := t, n := n, v := v } Z) ?_)
  rw [e0.out, hx1]
  simp only [PX.R.bind, hx2, hx3, hx4, hx5]
end PP
end Go.Proofs.Ytglbmiadgdadfaa
end

section
/- A condition's value in memory. -/
namespace Go.Proofs.Ytglbmiadgdadfaa
open Go.RowKit Go.Shelf

attribute [local go_sem] Oper.semAt_some
namespace PP
def cellsC (ys : List CV) : List Value := ys.flatMap fun y => (condC y).toList
theorem cellsC_length : ∀ ys : List CV, (cellsC ys).length = ys.length * 5
  | [] => rfl
  | y :: ys => by
    have := cellsC_length ys
    unfold cellsC at *
    rw [List.flatMap_cons, List.length_append, this, List.length_cons]
    show 5 + _ = _
    omega
theorem cellsC_snoc (ys : List CV) (y : CV) : cellsC (ys ++ [y]) = cellsC ys ++ (condC y).toList := by unfold cellsC; simp
mutual
/-- The cells x hold the condition; the blocks of its parts are among Q. -/
def CondM (W : World) (Q : Nat → Prop) (x : CV) : PX.CondD → Prop
  | .mk k t n v kids => x.k = k ∧ x.t = t ∧ x.n = n ∧ x.v = v ∧ ((kids = [] ∧ x.u = .slice none 0 0) ∨
      ∃ (g cap : Nat) (C : Array Value) (ys : List CV), x.u = .slice (some ⟨g, 0, none⟩) kids.length cap ∧ 0 < kids.length ∧ kids.length ≤ cap ∧ cap ≤ maxLen ∧ Q g ∧ W.heap[g]? = some (.cells C 24 (0, 0)) ∧
        C.toList.take (kids.length * 5) = cellsC ys ∧ KidsM W Q ys kids)
/-- The cells ys hold the conditions. -/
def KidsM (W : World) (Q : Nat → Prop) (ys : List CV) : List PX.CondD → Prop
  | [] => ys = []
  | c :: r => ∃ y yr, ys = y :: yr ∧ CondM W Q y c ∧ KidsM W Q yr r
end
mutual
theorem CondM.mono {W W' : World} {Q Q' : Nat → Prop} (hW : ∀ (g : Nat) (C : Array Value), Q g → W.heap[g]? = some (.cells C 24 (0, 0)) → W'.heap[g]? = some (.cells C 24 (0, 0))) (hQ : ∀ g, Q g → Q' g) : ∀ (c : PX.CondD) (x : CV), CondM W Q x c → CondM W' Q' x c
  | .mk k t n v kids, x, h => by
    refine ⟨h.1, h.2.1, h.2.2.1, h.2.2.2.1, h.2.2.2.2.imp id ?_⟩
    rintro ⟨g, cap, C, ys, h1, h2, h3, h4, h5, h6, h7, h8⟩
    exact ⟨g, cap, C, ys, h1, h2, h3, h4, hQ g h5, hW g C h5 h6, h7, KidsM.mono hW hQ kids ys h8⟩
theorem KidsM.mono {W W' : World} {Q Q' : Nat → Prop} (hW : ∀ (g : Nat) (C : Array Value), Q g → W.heap[g]? = some (.cells C 24 (0, 0)) → W'.heap[g]? = some (.cells C 24 (0, 0))) (hQ : ∀ g, Q g → Q' g) : ∀ (l : List PX.CondD) (ys : List CV), KidsM W Q ys l → KidsM W' Q' ys l
  | [], _, h => h
  | c :: r, ys, h => by
    obtain ⟨y, yr, rfl, h1, h2⟩ := h
    exact ⟨y, yr, rfl, CondM.mono hW hQ c y h1, KidsM.mono hW hQ r yr h2⟩
end
theorem KidsM.length {W : World} {Q : Nat → Prop} : ∀ (l : List PX.CondD) (ys : List CV), KidsM W Q ys l → ys.length = l.length
  | [], _, h => by rw [h]; rfl
  | c :: r, ys, h => by
    obtain ⟨y, yr, rfl, _, h2⟩ := h
    simp [KidsM.length r yr h2]
theorem KidsM.snoc {W : World} {Q : Nat → Prop} : ∀ (l : List PX.CondD) (ys : List CV) {c : PX.CondD} {y : CV}, KidsM W Q ys l → CondM W Q y c → KidsM W Q (ys ++ [y]) (l ++ [c])
  | [], _, c, y, h, hc => by rw [h]; exact ⟨y, [], rfl, hc, rfl⟩
  | d :: r, ys, c, y, h, hc => by
    obtain ⟨z, yr, rfl, h1, h2⟩ := h
    exact ⟨z, yr ++ [y], rfl, h1, KidsM.snoc r yr h2 hc⟩
/-- A condition without parts. -/
theorem condM_leaf (W : World) (Q : Nat → Prop) (k t n v : Int) : CondM W Q { k := k, t := t, n := n, v := v } (.mk k t n v []) := ⟨rfl, rfl, rfl, rfl, .inl ⟨rfl, rfl⟩⟩
/-- What a part of the parser answers that reads a condition. -/
def Ends2 (W : World) (b : Nat) (h : Hd) (r : PX.R PX.CondD) (e : Ending) (W' : World) : Prop :=
  Fr T1 b W W' ∧ match r with
    | .ok c s => ∃ x, e = .returned (condV x) ∧ CondM W' (fun g => W.heap.size ≤ g) x c ∧ ∃ vl vi, LS W' b s { h with vl := vl, vi := vi }
    | .bad p x => e = failE p x
def isLeaf (c : PX.CondD) : Prop := ∃ k t n v, c = .mk k t n v []
theorem Ends2.of_leaf {W W' : World} {b : Nat} {h : Hd} {r : PX.R PX.CondD} {e : Ending} (hl : ∀ c s, r = .ok c s → isLeaf c) (E : Ends1 W b h leafV r e W') : Ends2 W b h r e W' := by
  obtain ⟨F, E⟩ := E
  refine ⟨F, ?_⟩
  rcases r with ⟨c, s⟩ | ⟨p, x⟩
  · obtain ⟨rfl, vl, vi, L⟩ := E
    obtain ⟨k, t, n, v, rfl⟩ := hl c s rfl
    exact ⟨_, rfl, condM_leaf _ _ _ _ _ _, vl, vi, L⟩
  · exact E
theorem Ends2.bad {w W : World} {b : Nat} {h : Hd} {r : PX.R PX.CondD} {p x : Int} (F : Fr T1 b w W) (hr : r = .bad p x) : Ends2 w b h r (failE p x) W := by
  subst hr; exact ⟨F, rfl⟩
theorem Tr.cond {w W : World} {b : Nat} {s : PX.S} {h g : Hd} {x : CV} {c : PX.CondD} {r : PX.R PX.CondD} (T : Tr w b h W s g) (hr : r = .ok c s) (hc : CondM W (fun g => w.heap.size ≤ g) x c) : Ends2 w b h r (.returned (condV x)) W := by
  subst hr
  obtain ⟨vl, vi, rfl⟩ := T.hd
  exact ⟨T.fr, x, rfl, hc, vl, vi, T.ls⟩
/-- A call of a part that reads a condition. -/
theorem call2 {P : Program} {f : Nat} {args : Array Value} {W : World} {b : Nat} {g : Hd} {r : PX.R PX.CondD} {Q : Ending → World → Prop} (hc : Calls P f args W (Ends2 W b g r))
    (hok : ∀ c x s' W' vl vi, r = .ok c s' → Fr T1 b W W' → CondM W' (fun i => W.heap.size ≤ i) x c → LS W' b s' { g with vl := vl, vi := vi } → Q (.returned (condV x)) W') (hbad : ∀ p x W', r = .bad p x → Fr T1 b W W' → Q (failE p x) W') : Calls P f args W Q := by
  refine hc.mono ?_
  rintro e W' ⟨F, E⟩
  rcases r with ⟨a, s'⟩ | ⟨p, x⟩
  · obtain ⟨x, rfl, hm, vl, vi, L⟩ := E; exact hok a x s' W' vl vi rfl F hm L
  · have E' : e = failE p x := E
    subst E'; exact hbad p x W' rfl F
theorem leaf_truth {s s' : PX.S} {c : PX.CondD} (h : PX.truth s = .ok c s') : isLeaf c := by
  unfold PX.truth at h
  rcases ht : PX.take [PX.kTrue] s with ⟨t, s1⟩ | ⟨pl, er⟩
  · rw [ht] at h; cases h; exact ⟨_, _, _, _, rfl⟩
  · rw [ht] at h; cases h
theorem leaf_locCond {s s' : PX.S} {c : PX.CondD} (h : PX.locCond s = .ok c s') : isLeaf c := by
  unfold PX.locCond at h
  rcases h1 : PX.loc s with ⟨n, s1⟩ | ⟨pl, er⟩
  · rw [h1] at h
    simp only [PX.R.bind] at h
    rcases h2 : PX.take [PX.gEq] s1 with ⟨t, s2⟩ | ⟨pl, er⟩
    · rw [h2] at h
      simp only at h
      rcases h3 : PX.num s2 with ⟨v, s3⟩ | ⟨pl, er⟩
      · rw [h3] at h; cases h; exact ⟨_, _, _, _, rfl⟩
      · rw [h3] at h; cases h
    · rw [h2] at h; cases h
  · rw [h1] at h; cases h
theorem leaf_regCond {s s' : PX.S} {c : PX.CondD} (h : PX.regCond s = .ok c s') : isLeaf c := by
  unfold PX.regCond at h
  rcases h1 : PX.num s with ⟨t, s1⟩ | ⟨pl, er⟩
  · rw [h1] at h
    simp only [PX.R.bind] at h
    rcases h2 : PX.take [PX.gColon] s1 with ⟨u, s2⟩ | ⟨pl, er⟩
    · rw [h2] at h
      simp only at h
      rcases h3 : PX.reg s2 with ⟨n, s3⟩ | ⟨pl, er⟩
      · rw [h3] at h
        simp only at h
        rcases h4 : PX.take [PX.gEq] s3 with ⟨u4, s4⟩ | ⟨pl, er⟩
        · rw [h4] at h
          simp only at h
          rcases h5 : PX.num s4 with ⟨v, s5⟩ | ⟨pl, er⟩
          · rw [h5] at h; cases h; exact ⟨_, _, _, _, rfl⟩
          · rw [h5] at h; cases h
        · rw [h4] at h; cases h
      · rw [h3] at h; cases h
    · rw [h2] at h; cases h
  · rw [h1] at h; cases h
end PP
end Go.Proofs.Ytglbmiadgdadfaa
end

section
/- The parser's conditions: a negation, a group. -/
namespace Go.Proofs.Ytglbmiadgdadfaa
open Go.RowKit Go.Shelf

attribute [local go_sem] Oper.semAt_some
namespace PP
theorem CondM.slice {W : World} {Q : Nat → Prop} {x : CV} {c : PX.CondD} (h : CondM W Q x c) : ∃ a n cap, x.u = .slice a n cap := by
  cases c with
  | mk k t n v kids =>
    rcases h.2.2.2.2 with ⟨_, h⟩ | ⟨g, cap, C, ys, h, _⟩
    · exact ⟨none, 0, 0, h⟩
    · exact ⟨_, _, _, h⟩
theorem setCond_size (W : World) (k : Nat) (x : CV) : (setCond W k x).heap.size = W.heap.size := by unfold setCond; simp
theorem setCond_keep {W : World} {k i : Nat} {x : CV} {o : Obj} (h : W.heap[i]? = some o) (hik : i ≠ k) : (setCond W k x).heap[i]? = some o := by
  unfold setCond
  exact row_keep (row_keep (row_keep (row_keep (row_keep h hik 0 _) hik 1 _) hik 2 _) hik 3 _) hik 4 _
set_option maxRecDepth 100000 in
set_option maxHeartbeats 16000000 in
theorem negation_of (b : Nat) (s : PX.S) (h : Hd) (w : World) (L : LS w b s h) (rF : PX.S → PX.R PX.CondD)
    (hF : ∀ (t : TokD) (s' : PX.S) (h' : Hd) (W : World), PX.take [PX.gNot] s = .ok t s' → LS W b s' h' → Calls Try.prog 50 #[.pointer (some ⟨b, 0, none⟩)] W (Ends2 W b h' (rF s'))) :
    Calls Try.prog 79 #[.pointer (some ⟨b, 0, none⟩)] w (Ends2 w b h ((PX.take [PX.gNot] s).bind fun _ s => (rF s).bind fun c s => .ok (.mk 5 0 0 0 [c]) s)) := by
  have hbl := L.ps.lt
  have hgl := L.ps.g_lt
  have U0 := ((Tr.start L).alloc (.cells #[.int .u8 0, .int .u8 0, .int .u8 0, .int .u8 0, .slice none 0 0] 24)).alloc (.cells #[.string ⟨#[33]⟩] 9)
  have z0 := row_alloc (newCond w) (.cells #[.string ⟨#[33]⟩] 9)
  have C1 := take_any b s h _ [PX.gNot] _ U0.ls.ps (strSl_one _ _) (symsOk_bs (by decide))
  simp only [World.size_alloc] at C1
  obtain ⟨R, e0⟩ : ∃ R : PX.R PX.CondD, ((PX.take [PX.gNot] s).bind fun _ s => (rF s).bind fun c s => .ok (.mk 5 0 0 0 [c]) s) = R := ⟨_, rfl⟩
  rw [e0]
  replace e0 := Lib.hid e0
  replace C1 := Lib.hid C1
  replace U0 := Lib.hid U0
  replace z0 := Lib.hid z0
  replace hF := Lib.hid hF
  go_enter Try.func79, Try.ntmps79
  go_wp2_with (first
    | (go_at_call 41; refine call0 C1.out (fun t s1 w1 hx1 F1 P1 => ?_) (fun pl er w1 hx F => ⟨rfl, Ends2.bad (U0.out.fr.trans F.up) (by rw [← e0.out, hx]; rfl)⟩)
       dsimp only [tokV]
       have U1 := U0.out.step0 F1 (mv_take hx1) P1
       have z1 := F1.box z0.out (by omega) (by simp))
    | (go_at_call 50; refine call2 (hF.out _ _ _ _ hx1 U1.ls) (fun c x s2 w2 vl vi hx2 F2 M2 L2 => ?_) (fun pl er w2 hx F => ⟨rfl, Ends2.bad (U1.fr.trans F) (by rw [← e0.out, hx1]; simp only [PX.R.bind, hx])⟩)
       dsimp only [condV]
       have U2 := U1.step1 F2 L2
       have z2 := F2.box z1 (by omega) condT1
       have hs1 := lt_of_heap z1
       have hs2 := F2.size
       have hlt2 : w.heap.size < w2.heap.size := lt_of_heap z2
       obtain ⟨v0, v1, v2, v3, v4⟩ := row_cond z2
       have fv := fun j => frozen_of_row _ _ j _ _ z2
       have V2 := Lib.hid z2
       replace U2 := Lib.hid U2
       replace M2 := Lib.hid M2))
  have Z := setCond_row { k := 5, u := .slice (some ⟨w2.heap.size, 0, none⟩) 1 1 } V2.out
  have hM : CondM ((setCond w2 w.heap.size { k := 5, u := .slice (some ⟨w2.heap.size, 0, none⟩) 1 1 }).alloc (.cells (condC x) 24)) (fun i => w.heap.size ≤ i) { k := 5, u := .slice (some ⟨w2.heap.size, 0, none⟩) 1 1 } (.mk 5 0 0 0 [c]) := by
    refine ⟨rfl, rfl, rfl, rfl, .inr ⟨w2.heap.size, 1, condC x, [x], rfl, Nat.le_refl _, Nat.le_refl _, by unfold maxLen; omega, by omega, ?_, ?_, ?_⟩⟩
    · have hh := heap_alloc_new (setCond w2 w.heap.size { k := 5, u := .slice (some ⟨w2.heap.size, 0, none⟩) 1 1 }) (.cells (condC x) 24)
      rw [setCond_size] at hh
      exact hh
    · show List.take 5 (condC x).toList = (condC x).toList ++ []
      rw [List.append_nil]
      exact List.take_of_length_le (Nat.le_refl 5)
    · refine ⟨x, [], rfl, ?_, rfl⟩
      refine CondM.mono (W := w2) (Q := fun i => w1.heap.size ≤ i) (fun g C hq hh => ?_) (fun g hq => ?_) c x M2.out
      · exact row_alloc (setCond_keep hh (Nat.ne_of_gt (Nat.lt_of_lt_of_le hs1 hq))) _
      · exact Nat.le_trans (Nat.le_of_lt hs1) hq
  have hT := Tr.cond (c := .mk 5 0 0 0 [c]) (r := R) ((U2.out.setCond (Nat.le_refl _) hbl hgl { k := 5, u := .slice (some ⟨w2.heap.size, 0, none⟩) 1 1 } V2.out).alloc (.cells (condC x) 24)) (by rw [← e0.out, hx1]; simp only [PX.R.bind, hx2]) hM
  have hZ := row_alloc Z (.cells (condC x) 24)
  refine bodyPost_ret (v := condV { k := 5, u := .slice (some ⟨w2.heap.size, 0, none⟩) 1 1 }) ?_ rfl hT
  exact cond_results (p := 2) rfl _ _ w.heap.size { k := 5, u := .slice (some ⟨w2.heap.size, 0, none⟩) 1 1 } rfl hZ

set_option maxRecDepth 100000 in
set_option maxHeartbeats 16000000 in
theorem group_of (b : Nat) (s : PX.S) (h : Hd) (w : World) (L : LS w b s h) (rF : PX.S → PX.R PX.CondD)
    (hF : ∀ (t : TokD) (s' : PX.S) (h' : Hd) (W : World), PX.take [PX.gOpen] s = .ok t s' → LS W b s' h' → Calls Try.prog 26 #[.pointer (some ⟨b, 0, none⟩)] W (Ends2 W b h' (rF s'))) :
    Calls Try.prog 80 #[.pointer (some ⟨b, 0, none⟩)] w (Ends2 w b h ((PX.take [PX.gOpen] s).bind fun _ s => (rF s).bind fun c s => (PX.take [PX.gClose] s).bind fun _ s => .ok c s)) := by
  have hbl := L.ps.lt
  have hgl := L.ps.g_lt
  have U0 := ((Tr.start L).alloc (.cells #[.int .u8 0, .int .u8 0, .int .u8 0, .int .u8 0, .slice none 0 0] 24)).alloc (.cells #[.string ⟨#[40]⟩] 9)
  have z0 := row_alloc (newCond w) (.cells #[.string ⟨#[40]⟩] 9)
  have C1 := take_any b s h _ [PX.gOpen] _ U0.ls.ps (strSl_one _ _) (symsOk_bs (by decide))
  have C3 := Lib.hid fun s g W (p : PS (W.alloc (.cells #[.string ⟨#[41]⟩] 9)) b s g) => take_any b s g _ [PX.gClose] _ p (strSl_one W _) (symsOk_bs (by decide))
  simp only [World.size_alloc] at C1
  obtain ⟨R, e0⟩ : ∃ R : PX.R PX.CondD, ((PX.take [PX.gOpen] s).bind fun _ s => (rF s).bind fun c s => (PX.take [PX.gClose] s).bind fun _ s => .ok c s) = R := ⟨_, rfl⟩
  rw [e0]
  replace e0 := Lib.hid e0
  replace C1 := Lib.hid C1
  replace U0 := Lib.hid U0
  replace z0 := Lib.hid z0
  replace hF := Lib.hid hF
  go_enter Try.func80, Try.ntmps80
  go_wp2_with (first
    | (go_at_call 41; have V := z2; refine call0 c3.out (fun t3 s3 w3 hx3 F3 P3 => ?_) (fun pl er w3 hx F => ⟨rfl, Ends2.bad (U2.out.fr.trans F.up) (by rw [← e0.out, hx1]; simp only [PX.R.bind, hx2, hx])⟩)
       dsimp only [tokV]
       have U3 := U2.out.step0 F3 (mv_take hx3) P3
       have x3 := F3.box x2.out (by omega) (by simp)
       have z3 := F3.box z2.out (by omega) (by simp)
       obtain ⟨y0, y1, y2, y3, y4⟩ := row_cond x3
       obtain ⟨v0, v1, v2, v3, v4⟩ := row_cond z3
       have fz := fun j => frozen_of_row _ _ j _ _ x3
       have fv := fun j => frozen_of_row _ _ j _ _ z3
       have V3 := Lib.hid z3
       replace U3 := Lib.hid U3)
    | (go_at_call 41; refine call0 C1.out (fun t s1 w1 hx1 F1 P1 => ?_) (fun pl er w1 hx F => ⟨rfl, Ends2.bad (U0.out.fr.trans F.up) (by rw [← e0.out, hx]; rfl)⟩)
       dsimp only [tokV]
       have U1 := U0.out.step0 F1 (mv_take hx1) P1
       have z1 := F1.box z0.out (by omega) (by simp))
    | (go_at_call 26; refine call2 (hF.out _ _ _ _ hx1 U1.ls) (fun c x s2 w2 vl vi hx2 F2 M2 L2 => ?_) (fun pl er w2 hx F => ⟨rfl, Ends2.bad (U1.fr.trans F) (by rw [← e0.out, hx1]; simp only [PX.R.bind, hx])⟩)
       obtain ⟨xa, xl, xc, hu⟩ := M2.slice
       obtain ⟨xk, xt, xn, xv, xu⟩ := x
       obtain rfl : xu = .slice xa xl xc := hu
       dsimp only [condV]
       have U2 := ((U1.step1 F2 L2).alloc (.cells (condC ⟨xk, xt, xn, xv, .slice xa xl xc⟩) 24)).alloc (.cells #[.string ⟨#[41]⟩] 9)
       have q2 := F2.box z1 (by omega) condT1
       have hs1 := lt_of_heap z1
       have hs2 := F2.size
       have hlt2 : w.heap.size < w2.heap.size := lt_of_heap q2
       have x2 := Lib.hid (row_alloc (heap_alloc_new w2 (.cells (condC ⟨xk, xt, xn, xv, .slice xa xl xc⟩) 24)) (.cells #[.string ⟨#[41]⟩] 9))
       have z2 := Lib.hid (row_alloc (row_alloc q2 (.cells (condC ⟨xk, xt, xn, xv, .slice xa xl xc⟩) 24)) (.cells #[.string ⟨#[41]⟩] 9))
       have c3 := C3.out _ _ (w2.alloc (.cells (condC ⟨xk, xt, xn, xv, .slice xa xl xc⟩) 24)) U2.ls.ps
       simp only [World.size_alloc] at c3
       unfold condC at c3
       replace c3 := Lib.hid c3
       replace U2 := Lib.hid U2
       replace M2 := Lib.hid M2))
  have Z := setCond_row ⟨xk, xt, xn, xv, .slice xa xl xc⟩ V3.out
  have hM : CondM (setCond w3 w.heap.size ⟨xk, xt, xn, xv, .slice xa xl xc⟩) (fun i => w.heap.size ≤ i) ⟨xk, xt, xn, xv, .slice xa xl xc⟩ c := by
    refine CondM.mono (W := w2) (Q := fun i => w1.heap.size ≤ i) (fun g C hq hh => ?_) (fun g hq => ?_) c ⟨xk, xt, xn, xv, .slice xa xl xc⟩ M2.out
    · have h1 : w.heap.size < g := Nat.lt_of_lt_of_le hs1 hq
      exact setCond_keep (F3.box (row_alloc (row_alloc hh _) _) (by omega) (by simp)) (Nat.ne_of_gt h1)
    · exact Nat.le_trans (Nat.le_of_lt hs1) hq
  have hT := Tr.cond (c := c) (r := R) (U3.out.setCond (Nat.le_refl _) hbl hgl ⟨xk, xt, xn, xv, .slice xa xl xc⟩ V3.out) (by rw [← e0.out, hx1]; simp only [PX.R.bind, hx2, hx3]) hM
  refine bodyPost_ret (v := condV ⟨xk, xt, xn, xv, .slice xa xl xc⟩) ?_ rfl hT
  exact cond_results (p := 2) rfl _ _ w.heap.size ⟨xk, xt, xn, xv, .slice xa xl xc⟩ rfl Z
end PP
end Go.Proofs.Ytglbmiadgdadfaa
end

section
/- The parser's lines, by the word that they begin with. -/
namespace Go.Proofs.Ytglbmiadgdadfaa
open Go.RowKit Go.Shelf

attribute [local go_sem] Oper.semAt_some
namespace PP
def tabL0 : List (ByteArray × Nat) := [(⟨#[116, 101, 115, 116]⟩, 34)]
def tabL1 : List (ByteArray × Nat) := [(⟨#[105, 110, 105, 116]⟩, 35), (⟨#[116, 104, 114, 101, 97, 100]⟩, 36)]
def tabL2 : List (ByteArray × Nat) := [(⟨#[116, 104, 114, 101, 97, 100]⟩, 36)]
def tabL3 : List (ByteArray × Nat) := [(⟨#[116, 104, 114, 101, 97, 100]⟩, 36), (⟨#[102, 101, 110, 99, 101]⟩, 37), (⟨#[115, 107, 105, 112]⟩, 37), (⟨#[78, 65, 77, 69]⟩, 37), (⟨#[82, 69, 71]⟩, 37), (⟨#[115, 111, 109, 101]⟩, 38), (⟨#[110, 111, 110, 101]⟩, 38), (⟨#[97, 108, 108]⟩, 38)]
def tabL (d : Int) : List (ByteArray × Nat) := if d = 0 then tabL0 else if d = 1 then tabL1 else if d = 2 then tabL2 else tabL3
set_option maxRecDepth 100000 in
set_option maxHeartbeats 8000000 in
theorem lines_any (d : Int) (w : World) (hd : d = 0 ∨ d = 1 ∨ d = 2 ∨ d = 3) : Calls Try.prog 25 #[.int .u8 d] w fun e w' => e = .returned (.map (some w.heap.size)) ∧ w' = w.alloc (.map ⟨mapE (tabL d) 0⟩ (tabL d).length) := by
  have hm := fun w => run_makeMap_plain (P := Try.prog) w 75
  have i0 : ∀ w : World, (Instr.mapUpdate 75 (.map (some w.heap.size)) (.string ⟨#[116, 101, 115, 116]⟩) (.func (.func 34) #[] #[])).run Try.prog (w.alloc (.map #[] 0)) = .ok () (w.alloc (.map ⟨mapE [(⟨#[116, 101, 115, 116]⟩, 34)] 0⟩ 1)) := fun w => map_ins 75 9 _ #[] 0 _ _ w Try.underlying75 Try.underlying9 (by kernel_rfl)
  have i1 : ∀ w : World, (Instr.mapUpdate 75 (.map (some w.heap.size)) (.string ⟨#[105, 110, 105, 116]⟩) (.func (.func 35) #[] #[])).run Try.prog (w.alloc (.map #[] 0)) = .ok () (w.alloc (.map ⟨mapE [(⟨#[105, 110, 105, 116]⟩, 35)] 0⟩ 1)) := fun w => map_ins 75 9 _ #[] 0 _ _ w Try.underlying75 Try.underlying9 (by kernel_rfl)
  have i2 : ∀ w : World, (Instr.mapUpdate 75 (.map (some w.heap.size)) (.string ⟨#[116, 104, 114, 101, 97, 100]⟩) (.func (.func 36) #[] #[])).run Try.prog (w.alloc (.map ⟨mapE [(⟨#[105, 110, 105, 116]⟩, 35)] 0⟩ 1)) = .ok () (w.alloc (.map ⟨mapE [(⟨#[105, 110, 105, 116]⟩, 35), (⟨#[116, 104, 114, 101, 97, 100]⟩, 36)] 0⟩ 2)) := fun w => map_ins 75 9 _ ⟨mapE [(⟨#[105, 110, 105, 116]⟩, 35)] 0⟩ 1 _ _ w Try.underlying75 Try.underlying9 (by kernel_rfl)
  have i3 : ∀ w : World, (Instr.mapUpdate 75 (.map (some w.heap.size)) (.string ⟨#[116, 104, 114, 101, 97, 100]⟩) (.func (.func 36) #[] #[])).run Try.prog (w.alloc (.map #[] 0)) = .ok () (w.alloc (.map ⟨mapE [(⟨#[116, 104, 114, 101, 97, 100]⟩, 36)] 0⟩ 1)) := fun w => map_ins 75 9 _ #[] 0 _ _ w Try.underlying75 Try.underlying9 (by kernel_rfl)
  have i4 : ∀ w : World, (Instr.mapUpdate 75 (.map (some w.heap.size)) (.string ⟨#[102, 101, 110, 99, 101]⟩) (.func (.func 37) #[] #[])).run Try.prog (w.alloc (.map ⟨mapE [(⟨#[116, 104, 114, 101, 97, 100]⟩, 36)] 0⟩ 1)) = .ok () (w.alloc (.map ⟨mapE [(⟨#[116, 104, 114, 101, 97, 100]⟩, 36), (⟨#[102, 101, 110, 99, 101]⟩, 37)] 0⟩ 2)) := fun w => map_ins 75 9 _ ⟨mapE [(⟨#[116, 104, 114, 101, 97, 100]⟩, 36)] 0⟩ 1 _ _ w Try.underlying75 Try.underlying9 (by kernel_rfl)
  have i5 : ∀ w : World, (Instr.mapUpdate 75 (.map (some w.heap.size)) (.string ⟨#[115, 107, 105, 112]⟩) (.func (.func 37) #[] #[])).run Try.prog (w.alloc (.map ⟨mapE [(⟨#[116, 104, 114, 101, 97, 100]⟩, 36), (⟨#[102, 101, 110, 99, 101]⟩, 37)] 0⟩ 2)) = .ok () (w.alloc (.map ⟨mapE [(⟨#[116, 104, 114, 101, 97, 100]⟩, 36), (⟨#[102, 101, 110, 99, 101]⟩, 37), (⟨#[115, 107, 105, 112]⟩, 37)] 0⟩ 3)) := fun w => map_ins 75 9 _ ⟨mapE [(⟨#[116, 104, 114, 101, 97, 100]⟩, 36), (⟨#[102, 101, 110, 99, 101]⟩, 37)] 0⟩ 2 _ _ w Try.underlying75 Try.underlying9 (by kernel_rfl)
  have i6 : ∀ w : World, (Instr.mapUpdate 75 (.map (some w.heap.size)) (.string ⟨#[78, 65, 77, 69]⟩) (.func (.func 37) #[] #[])).run Try.prog (w.alloc (.map ⟨mapE [(⟨#[116, 104, 114, 101, 97, 100]⟩, 36), (⟨#[102, 101, 110, 99, 101]⟩, 37), (⟨#[115, 107, 105, 112]⟩, 37)] 0⟩ 3)) = .ok () (w.alloc (.map ⟨mapE [(⟨#[116, 104, 114, 101, 97, 100]⟩, 36), (⟨#[102, 101, 110, 99, 101]⟩, 37), (⟨#[115, 107, 105, 112]⟩, 37), (⟨#[78, 65, 77, 69]⟩, 37)] 0⟩ 4)) := fun w => map_ins 75 9 _ ⟨mapE [(⟨#[116, 104, 114, 101, 97, 100]⟩, 36), (⟨#[102, 101, 110, 99, 101]⟩, 37), (⟨#[115, 107, 105, 112]⟩, 37)] 0⟩ 3 _ _ w Try.underlying75 Try.underlying9 (by kernel_rfl)
  have i7 : ∀ w : World, (Instr.mapUpdate 75 (.map (some w.heap.size)) (.string ⟨#[82, 69, 71]⟩) (.func (.func 37) #[] #[])).run Try.prog (w.alloc (.map ⟨mapE [(⟨#[116, 104, 114, 101, 97, 100]⟩, 36), (⟨#[102, 101, 110, 99, 101]⟩, 37), (⟨#[115, 107, 105, 112]⟩, 37), (⟨#[78, 65, 77, 69]⟩, 37)] 0⟩ 4)) = .ok () (w.alloc (.map ⟨mapE [(⟨#[116, 104, 114, 101, 97, 100]⟩, 36), (⟨#[102, 101, 110, 99, 101]⟩, 37), (⟨#[115, 107, 105, 112]⟩, 37), (⟨#[78, 65, 77, 69]⟩, 37), (⟨#[82, 69, 71]⟩, 37)] 0⟩ 5)) := fun w => map_ins 75 9 _ ⟨mapE [(⟨#[116, 104, 114, 101, 97, 100]⟩, 36), (⟨#[102, 101, 110, 99, 101]⟩, 37), (⟨#[115, 107, 105, 112]⟩, 37), (⟨#[78, 65, 77, 69]⟩, 37)] 0⟩ 4 _ _ w Try.underlying75 Try.underlying9 (by kernel_rfl)
  have i8 : ∀ w : World, (Instr.mapUpdate 75 (.map (some w.heap.size)) (.string ⟨#[115, 111, 109, 101]⟩) (.func (.func 38) #[] #[])).run Try.prog (w.alloc (.map ⟨mapE [(⟨#[116, 104, 114, 101, 97, 100]⟩, 36), (⟨#[102, 101, 110, 99, 101]⟩, 37), (⟨#[115, 107, 105, 112]⟩, 37), (⟨#[78, 65, 77, 69]⟩, 37), (⟨#[82, 69, 71]⟩, 37)] 0⟩ 5)) = .ok () (w.alloc (.map ⟨mapE [(⟨#[116, 104, 114, 101, 97, 100]⟩, 36), (⟨#[102, 101, 110, 99, 101]⟩, 37), (⟨#[115, 107, 105, 112]⟩, 37), (⟨#[78, 65, 77, 69]⟩, 37), (⟨#[82, 69, 71]⟩, 37), (⟨#[115, 111, 109, 101]⟩, 38)] 0⟩ 6)) := fun w => map_ins 75 9 _ ⟨mapE [(⟨#[116, 104, 114, 101, 97, 100]⟩, 36), (⟨#[102, 101, 110, 99, 101]⟩, 37), (⟨#[115, 107, 105, 112]⟩, 37), (⟨#[78, 65, 77, 69]⟩, 37), (⟨#[82, 69, 71]⟩, 37)] 0⟩ 5 _ _ w Try.underlying75 Try.underlying9 (by kernel_rfl)
  have i9 : ∀ w : World, (Instr.mapUpdate 75 (.map (some w.heap.size)) (.string ⟨#[110, 111, 110, 101]⟩) (.func (.func 38) #[] #[])).run Try.prog (w.alloc (.map ⟨mapE [(⟨#[116, 104, 114, 101, 97, 100]⟩, 36), (⟨#[102, 101, 110, 99, 101]⟩, 37), (⟨#[115, 107, 105, 112]⟩, 37), (⟨#[78, 65, 77, 69]⟩, 37), (⟨#[82, 69, 71]⟩, 37), (⟨#[115, 111, 109, 101]⟩, 38)] 0⟩ 6)) = .ok () (w.alloc (.map ⟨mapE [(⟨#[116, 104, 114, 101, 97, 100]⟩, 36), (⟨#[102, 101, 110, 99, 101]⟩, 37), (⟨#[115, 107, 105, 112]⟩, 37), (⟨#[78, 65, 77, 69]⟩, 37), (⟨#[82, 69, 71]⟩, 37), (⟨#[115, 111, 109, 101]⟩, 38), (⟨#[110, 111, 110, 101]⟩, 38)] 0⟩ 7)) := fun w => map_ins 75 9 _ ⟨mapE [(⟨#[116, 104, 114, 101, 97, 100]⟩, 36), (⟨#[102, 101, 110, 99, 101]⟩, 37), (⟨#[115, 107, 105, 112]⟩, 37), (⟨#[78, 65, 77, 69]⟩, 37), (⟨#[82, 69, 71]⟩, 37), (⟨#[115, 111, 109, 101]⟩, 38)] 0⟩ 6 _ _ w Try.underlying75 Try.underlying9 (by kernel_rfl)
  have i10 : ∀ w : World, (Instr.mapUpdate 75 (.map (some w.heap.size)) (.string ⟨#[97, 108, 108]⟩) (.func (.func 38) #[] #[])).run Try.prog (w.alloc (.map ⟨mapE [(⟨#[116, 104, 114, 101, 97, 100]⟩, 36), (⟨#[102, 101, 110, 99, 101]⟩, 37), (⟨#[115, 107, 105, 112]⟩, 37), (⟨#[78, 65, 77, 69]⟩, 37), (⟨#[82, 69, 71]⟩, 37), (⟨#[115, 111, 109, 101]⟩, 38), (⟨#[110, 111, 110, 101]⟩, 38)] 0⟩ 7)) = .ok () (w.alloc (.map ⟨mapE [(⟨#[116, 104, 114, 101, 97, 100]⟩, 36), (⟨#[102, 101, 110, 99, 101]⟩, 37), (⟨#[115, 107, 105, 112]⟩, 37), (⟨#[78, 65, 77, 69]⟩, 37), (⟨#[82, 69, 71]⟩, 37), (⟨#[115, 111, 109, 101]⟩, 38), (⟨#[110, 111, 110, 101]⟩, 38), (⟨#[97, 108, 108]⟩, 38)] 0⟩ 8)) := fun w => map_ins 75 9 _ ⟨mapE [(⟨#[116, 104, 114, 101, 97, 100]⟩, 36), (⟨#[102, 101, 110, 99, 101]⟩, 37), (⟨#[115, 107, 105, 112]⟩, 37), (⟨#[78, 65, 77, 69]⟩, 37), (⟨#[82, 69, 71]⟩, 37), (⟨#[115, 111, 109, 101]⟩, 38), (⟨#[110, 111, 110, 101]⟩, 38)] 0⟩ 7 _ _ w Try.underlying75 Try.underlying9 (by kernel_rfl)
  rcases hd with rfl | rfl | rfl | rfl
  all_goals
    go_enter Try.func25, Try.ntmps25
    go_wp2
    go_ret
    exact ⟨rfl, rfl⟩
end PP
end Go.Proofs.Ytglbmiadgdadfaa
end

section
/- The parser's conditions: a factor, given what it stands on. -/
namespace Go.Proofs.Ytglbmiadgdadfaa
open Go.RowKit Go.Shelf

attribute [local go_sem] Oper.semAt_some
namespace PP
theorem choseC {b : Nat} {s : PX.S} {h : Hd} {W : World} (l : List (ByteArray × Nat)) (n : Nat) (p : PS W b s h) (mb : Nat) (hb : W.heap[mb]? = some (.map ⟨mapE l 0⟩ n)) :
    Calls Try.prog 68 #[.pointer (some ⟨b, 0, none⟩), .map (some mb)] W fun e w' => Below W.heap.size W w' ∧ e = match lookE (PX.sy (PX.next s)) l with
      | some f => .returned (.func (.func f) #[] #[])
      | none => failE (PX.next s).p 50 := by
  obtain ⟨q, h1, h2⟩ := find_mapE (PX.sy (PX.next s)) l 0 0
  refine (chooseC_any b s h W mb _ n q p hb h1).mono ?_
  rintro e w' ⟨B, rfl⟩
  exact ⟨B, h2 _⟩
theorem choseL {b : Nat} {s : PX.S} {h : Hd} {W : World} (l : List (ByteArray × Nat)) (n : Nat) (p : PS W b s h) (mb : Nat) (hb : W.heap[mb]? = some (.map ⟨mapE l 0⟩ n)) :
    Calls Try.prog 24 #[.pointer (some ⟨b, 0, none⟩), .map (some mb)] W fun e w' => Below W.heap.size W w' ∧ e = match lookE (PX.sy (PX.next s)) l with
      | some f => .returned (.func (.func f) #[] #[])
      | none => failE (PX.next s).p 50 := by
  obtain ⟨q, h1, h2⟩ := find_mapE (PX.sy (PX.next s)) l 0 0
  refine (chooseL_any b s h W mb _ n q p hb h1).mono ?_
  rintro e w' ⟨B, rfl⟩
  exact ⟨B, h2 _⟩
theorem factor_eq (n : Nat) (s : PX.S) : PX.factor (n + 1) s = (if PX.sy (PX.next s) == PX.gNot then ((PX.take [PX.gNot] s).bind fun _ s => (PX.factor n s).bind fun c s => .ok (.mk 5 0 0 0 [c]) s) else if PX.sy (PX.next s) == PX.gOpen then ((PX.take [PX.gOpen] s).bind fun _ s => (PX.series (PX.series (PX.factor n) PX.gAnd 3) PX.gOr 4 s).bind fun c s => (PX.take [PX.gClose] s).bind fun _ s => .ok c s) else if PX.sy (PX.next s) == PX.sNUM then (PX.regCond s) else if PX.sy (PX.next s) == PX.sNAME then (PX.locCond s) else if PX.sy (PX.next s) == PX.kTrue then (PX.truth s) else PX.wrong s) := rfl
theorem factor_some {b : Nat} {s : PX.S} {h : Hd} {W : World} (n : Nat) (L : LS W b s h) {f : Nat} (hf : lookE (PX.sy (PX.next s)) tabF = some f)
    (hFac : ∀ (t : TokD) (s' : PX.S) (h' : Hd) (W : World), PX.take [PX.gNot] s = .ok t s' → LS W b s' h' → Calls Try.prog 50 #[.pointer (some ⟨b, 0, none⟩)] W (Ends2 W b h' (PX.factor n s')))
    (hDis : ∀ (t : TokD) (s' : PX.S) (h' : Hd) (W : World), PX.take [PX.gOpen] s = .ok t s' → LS W b s' h' → Calls Try.prog 26 #[.pointer (some ⟨b, 0, none⟩)] W (Ends2 W b h' (PX.series (PX.series (PX.factor n) PX.gAnd 3) PX.gOr 4 s'))) :
    Calls Try.prog f #[.pointer (some ⟨b, 0, none⟩)] W (Ends2 W b h (PX.factor (n + 1) s)) := by
  change lookE (PX.sy (PX.next s)) [(PX.gNot, 79), (PX.gOpen, 80), (PX.sNUM, 81), (PX.sNAME, 82), (PX.kTrue, 83)] = some f at hf
  simp only [lookE] at hf
  rw [factor_eq]
  generalize PX.sy (PX.next s) = y at *
  by_cases h1 : (y == PX.gNot) = true
  · rw [if_pos h1]; rw [if_pos h1] at hf; cases hf; exact negation_of b s h W L (PX.factor n) hFac
  rw [if_neg h1]; rw [if_neg h1] at hf
  by_cases h2 : (y == PX.gOpen) = true
  · rw [if_pos h2]; rw [if_pos h2] at hf; cases hf; exact group_of b s h W L (PX.series (PX.series (PX.factor n) PX.gAnd 3) PX.gOr 4) hDis
  rw [if_neg h2]; rw [if_neg h2] at hf
  by_cases h3 : (y == PX.sNUM) = true
  · rw [if_pos h3]; rw [if_pos h3] at hf; cases hf; exact (regCond_any b s h W L).mono fun e w' E => Ends2.of_leaf (fun c s' hc => leaf_regCond hc) E
  rw [if_neg h3]; rw [if_neg h3] at hf
  by_cases h4 : (y == PX.sNAME) = true
  · rw [if_pos h4]; rw [if_pos h4] at hf; cases hf; exact (locCond_any b s h W L).mono fun e w' E => Ends2.of_leaf (fun c s' hc => leaf_locCond hc) E
  rw [if_neg h4]; rw [if_neg h4] at hf
  by_cases h5 : (y == PX.kTrue) = true
  · rw [if_pos h5]; rw [if_pos h5] at hf; cases hf; exact (truth_any b s h W L).mono fun e w' E => Ends2.of_leaf (fun c s' hc => leaf_truth hc) E
  rw [if_neg h5] at hf; cases hf
theorem factor_none {s : PX.S} (n : Nat) (hf : lookE (PX.sy (PX.next s)) tabF = none) : PX.factor (n + 1) s = .bad (PX.next s).p 50 := by
  change lookE (PX.sy (PX.next s)) [(PX.gNot, 79), (PX.gOpen, 80), (PX.sNUM, 81), (PX.sNAME, 82), (PX.kTrue, 83)] = none at hf
  simp only [lookE] at hf
  rw [factor_eq]
  generalize PX.sy (PX.next s) = y at *
  by_cases h1 : (y == PX.gNot) = true
  · rw [if_pos h1] at hf; cases hf
  rw [if_neg h1]; rw [if_neg h1] at hf
  by_cases h2 : (y == PX.gOpen) = true
  · rw [if_pos h2] at hf; cases hf
  rw [if_neg h2]; rw [if_neg h2] at hf
  by_cases h3 : (y == PX.sNUM) = true
  · rw [if_pos h3] at hf; cases hf
  rw [if_neg h3]; rw [if_neg h3] at hf
  by_cases h4 : (y == PX.sNAME) = true
  · rw [if_pos h4] at hf; cases hf
  rw [if_neg h4]; rw [if_neg h4] at hf
  by_cases h5 : (y == PX.kTrue) = true
  · rw [if_pos h5] at hf; cases hf
  rw [if_neg h5]; rfl
theorem ents_factor : AllIn tabF := by
  intro p hp
  unfold tabF at hp
  simp only [List.mem_cons, List.not_mem_nil, or_false] at hp
  rcases hp with rfl | rfl | rfl | rfl | rfl
  · exact enters Try.func79 (by kernel_rfl) rfl
  · exact enters Try.func80 (by kernel_rfl) rfl
  · exact enters Try.func81 (by kernel_rfl) rfl
  · exact enters Try.func82 (by kernel_rfl) rfl
  · exact enters Try.func83 (by kernel_rfl) rfl

set_option maxRecDepth 100000 in
set_option maxHeartbeats 16000000 in
theorem factor_of (b : Nat) (s : PX.S) (h : Hd) (w : World) (n : Nat) (L : LS w b s h)
    (hFac : ∀ (t : TokD) (s' : PX.S) (h' : Hd) (W : World), PX.take [PX.gNot] s = .ok t s' → LS W b s' h' → Calls Try.prog 50 #[.pointer (some ⟨b, 0, none⟩)] W (Ends2 W b h' (PX.factor n s')))
    (hDis : ∀ (t : TokD) (s' : PX.S) (h' : Hd) (W : World), PX.take [PX.gOpen] s = .ok t s' → LS W b s' h' → Calls Try.prog 26 #[.pointer (some ⟨b, 0, none⟩)] W (Ends2 W b h' (PX.series (PX.series (PX.factor n) PX.gAnd 3) PX.gOr 4 s'))) :
    Calls Try.prog 50 #[.pointer (some ⟨b, 0, none⟩)] w (Ends2 w b h (PX.factor (n + 1) s)) := by
  have hbl := L.ps.lt
  have hgl := L.ps.g_lt
  have U0 := ((Tr.start L).alloc (.cells #[.int .u8 0, .int .u8 0, .int .u8 0, .int .u8 0, .slice none 0 0] 24)).alloc (.map ⟨mapE tabF 0⟩ 5)
  have z0 := row_alloc (newCond w) (.map ⟨mapE tabF 0⟩ 5)
  have C3 := Lib.hid fun W => factors_any W
  have C4 := choseC tabF 5 U0.ls.ps _ (heap_alloc_new _ _)
  simp only [World.size_alloc] at C4
  obtain ⟨R, hR⟩ : ∃ R, PX.factor (n + 1) s = R := ⟨_, rfl⟩
  have hsrc := fun (f : Nat) (hf : lookE (PX.sy (PX.next s)) tabF = some f) h' W (L' : LS W b s h') => factor_some n L' hf hFac hDis
  have hnone := fun (hf : lookE (PX.sy (PX.next s)) tabF = none) => factor_none n hf
  rw [hR] at hsrc hnone ⊢
  clear hR hFac hDis
  replace U0 := Lib.hid U0
  replace z0 := Lib.hid z0
  rcases rl : lookE (PX.sy (PX.next s)) tabF with _ | f
  · rw [hnone rl]
    rw [rl] at C4
    replace C4 := Lib.hid C4
    clear hsrc hnone
    go_enter Try.func50, Try.ntmps50
    go_wp2_with (first
      | (go_at_call 69; refine (C3.out _).mono ?_; rintro e w3 ⟨rfl, rfl⟩; simp only [World.size_alloc])
      | (go_at_call 68; refine (C4.out).mono ?_; rintro e w4 ⟨B4, rfl⟩))
    refine ⟨rfl, U0.out.fr.trans (.of_below (B4.mono (by simp))), ?_⟩
    show Ending.panicked _ = failE _ _
    symm
    assumption
  · have hs := Lib.hid (hsrc f rl)
    have hent : ∀ args W, (callFunc f args).run Try.prog W = .ok (.enter f args) W := lookE_all ents_factor rl
    rw [rl] at C4
    replace C4 := Lib.hid C4
    clear hsrc hnone
    go_enter Try.func50, Try.ntmps50
    go_wp2_with (first
      | (go_at_call 69; refine (C3.out _).mono ?_; rintro e w3 ⟨rfl, rfl⟩; simp only [World.size_alloc])
      | (go_at_call 68; refine (C4.out).mono ?_; rintro e w4 ⟨B4, rfl⟩
         have U4 := U0.out.below (B4.mono (by simp))
         have z4 := (B4.block _ (by omega)).trans z0.out))
    have hs4 := lt_of_heap z4
    refine call2 (hs.out _ _ U4.ls) (fun c x s5 w5 vl vi hx5 F5 M5 L5 => ?_) (fun pl er w5 hx F => ⟨rfl, Ends2.bad (U4.fr.trans F) hx⟩)
    obtain ⟨xa, xl, xc, hu⟩ := M5.slice
    obtain ⟨xk, xt, xn, xv, xu⟩ := x
    obtain rfl : xu = .slice xa xl xc := hu
    dsimp only [condV]
    have U5 := U4.step1 F5 L5
    have z5 := F5.box z4 (by omega) condT1
    obtain ⟨v0, v1, v2, v3, v4⟩ := row_cond z5
    have fv := fun j => frozen_of_row _ _ j _ _ z5
    have V5 := Lib.hid z5
    replace U5 := Lib.hid U5
    replace M5 := Lib.hid M5
    go_wp2
    have Z := setCond_row ⟨xk, xt, xn, xv, .slice xa xl xc⟩ V5.out
    have hM : CondM (setCond w5 w.heap.size ⟨xk, xt, xn, xv, .slice xa xl xc⟩) (fun i => w.heap.size ≤ i) ⟨xk, xt, xn, xv, .slice xa xl xc⟩ c := by
      refine CondM.mono (W := w5) (Q := fun i => w4.heap.size ≤ i) (fun g C hq hh => ?_) (fun g hq => ?_) c _ M5.out
      · exact setCond_keep hh (Nat.ne_of_gt (Nat.lt_of_lt_of_le hs4 hq))
      · exact Nat.le_trans (Nat.le_of_lt hs4) hq
    have hT := Tr.cond (c := c) (r := R) (U5.out.setCond (Nat.le_refl _) hbl hgl ⟨xk, xt, xn, xv, .slice xa xl xc⟩ V5.out) hx5 hM
    refine bodyPost_ret (v := condV ⟨xk, xt, xn, xv, .slice xa xl xc⟩) ?_ rfl hT
    exact cond_results (p := 2) rfl _ _ w.heap.size ⟨xk, xt, xn, xv, .slice xa xl xc⟩ rfl Z
end PP
end Go.Proofs.Ytglbmiadgdadfaa
end
