/- ParReadC, ParFit, ParFit2, ParParse in one text, for the claim. -/
import Derived.Test.YtglbmiadgdadfaaPj8
import Derived.Test.YtglbmiadgdadfaaPj7

section
/- Parsing a text as a condition. -/
namespace Go.Proofs.Ytglbmiadgdadfaa
open Go.RowKit Go.Shelf

attribute [local go_sem] Oper.semAt_some
namespace PP
def condZ : Array Value := #[.int .u8 0, .int .u8 0, .int .u8 0, .int .u8 0, .slice none 0 0]
/-- What parsing a text as a condition answers. -/
def readC (s : ByteArray) (l : List ByteArray) : PX.R PX.CondD := PX.read PX.onlyCond s l false
theorem readC_eq (s : ByteArray) (l : List ByteArray) : readC s l = if (LX.out (bsOf s)).2.2 = 0 then PX.onlyCond (PX.start s l false) else .bad ((LX.out (bsOf s)).2.1 : Int) ((LX.out (bsOf s)).2.2 : Int) := rfl
def cvZ : CV := ⟨0, 0, 0, 0, .slice none 0 0⟩
theorem setCond_fr {T : List TypeId} {b k : Nat} {W W' : World} (x : CV) (h : Fr T b W W') (hk : W.heap.size ≤ k) : Fr T b W (setCond W' k x) := ((((h.setNew hk 0 _).setNew hk 1 _).setNew hk 2 _).setNew hk 3 _).setNew hk 4 _
def ReadCPost (s : ByteArray) (l : List ByteArray) (b : Nat) (w : World) (e : Ending) (w' : World) : Prop :=
  Fr T1 b w w' ∧ match readC s l with
    | .ok c _ => ∃ x, e = .returned (.tuple #[condV x, .int .i64 0, .int .i64 0]) ∧ CondM w' (fun g => w.heap.size ≤ g) x c
    | .bad p x => e = .returned (.tuple #[.agg condZ, .int .i64 p, .int .i64 x])
theorem ls_start {W : World} {b g : Nat} {v vl : Value} {s : ByteArray} {l : List ByteArray} (hb : W.heap[b]? = some (.cells (psC v (PX.start s l false) (hdZ g vl)) 54 (0, 0))) (ht : TkR W g v (toks s)) (hg : g < W.heap.size) (hl : LocsOk W b false vl l) : LS W b (PX.start s l false) (hdZ g vl) :=
  ⟨⟨v, hb, ht, toks_ok s, hg⟩, hl, fun h => by cases h⟩
set_option maxRecDepth 100000 in
set_option maxHeartbeats 4000000 in
theorem catchC_idle (p q : Addr) (w : World) :
    CallsD Try.prog 19 #[.pointer (some p), .pointer (some q)] .returning w fun e u' w' => e = .returned (.tuple #[]) ∧ u' = .returning ∧ w' = w.alloc (.cells #[.int .i64 0, .int .i64 0] 67) := by
  refine callsD_of_wpS Try.func19 rfl fun c₀ cs hu => ?_
  show Code.wpS _ _ _ { tmps := #[.pointer (some p), .pointer (some q), undef, undef, undef, undef, undef, undef, undef, undef, undef, undef, undef, undef], defers := [] } _ _
  apply wpS_seq
  apply wpS_region
  have h1 := assert_nil
  have n0 := fun w : World => cell_of_row _ w.heap.size 0 _ _ _ (heap_alloc_new w (.cells #[.int .i64 0, .int .i64 0] 67))
  have n1 := fun w : World => cell_of_row _ w.heap.size 1 _ _ _ (heap_alloc_new w (.cells #[.int .i64 0, .int .i64 0] 67))
  simp [wpOpsS, go_sem, recoverD, hu, h1, n0, n1, Exit.thenS]
  apply wpS_seq
  apply wpS_region
  simp [wpOpsS, go_sem, Exit.thenS]
  refine wpS_cond (t := false) (by simp [Act.eval]) ?_
  simp only [Bool.false_eq_true, if_false]
  refine wpS_of_wp (wp_skip ?_)
  cases c₀
  simp_all [bodyPostS, results, Try.results19]
set_option maxRecDepth 100000 in
set_option maxHeartbeats 4000000 in
theorem catchC_panicking (k1 k2 : Nat) (a b : Int) (w : World) (v1 v2 : Int) (h1 : w.heap[k1]? = some (.cells #[.int .i64 v1] 3 (0, 0))) (h2 : w.heap[k2]? = some (.cells #[.int .i64 v2] 30 (0, 0))) (hk : k1 ≠ k2) :
    CallsD Try.prog 19 #[.pointer (some ⟨k1, 0, none⟩), .pointer (some ⟨k2, 0, none⟩)] (.panicking [{ v := .iface 67 (.agg #[.int .i64 a, .int .i64 b]), recovered := false }]) w fun e u' w' => e = .returned (.tuple #[]) ∧ u' = .panicking [{ v := .iface 67 (.agg #[.int .i64 a, .int .i64 b]), recovered := true }] ∧ CatP w w' k1 k2 a b := by
  refine callsD_of_wpS Try.func19 rfl fun c₀ cs hu => ?_
  show Code.wpS _ _ _ { tmps := #[.pointer (some ⟨k1, 0, none⟩), .pointer (some ⟨k2, 0, none⟩), undef, undef, undef, undef, undef, undef, undef, undef, undef, undef, undef, undef], defers := [] } _ _
  apply wpS_seq
  apply wpS_region
  have e1 := assert_fault a b
  simp [wpOpsS, go_sem, recoverD, hu, e1, Exit.thenS]
  have B1 := (Below.refl w.heap.size w).alloc (Nat.le_refl _) (.cells #[.int .i64 a, .int .i64 b] 67)
  have hz := heap_alloc_new w (.cells #[.int .i64 a, .int .i64 b] 67)
  have z0 := cell_of_row _ _ 0 _ _ _ hz
  have z1 := cell_of_row _ _ 1 _ _ _ hz
  simp only [List.getElem?_toArray, List.getElem?_cons_zero, List.getElem?_cons_succ] at z0 z1
  have g1 := (B1.block k1 (lt_of_heap h1)).trans h1
  have g2 := (B1.block k2 (lt_of_heap h2)).trans h2
  have l1 := lt_of_heap h1
  have l2 := lt_of_heap h2
  generalize w.alloc (.cells #[.int .i64 a, .int .i64 b] 67) = W at *
  apply wpS_seq
  apply wpS_region
  simp [wpOpsS, go_sem, Exit.thenS]
  refine wpS_cond (t := true) (by simp [Act.eval]) ?_
  simp only [if_true]
  refine wpS_of_wp ?_
  have f1 := frozen_of_row _ k1 0 _ _ g1
  have f2 := frozen_of_row _ k2 0 _ _ g2
  have c1 := cell_of_row _ k1 0 _ _ _ g1
  have c2 := cell_of_row _ k2 0 _ _ _ g2
  simp only [List.getElem?_toArray, List.getElem?_cons_zero, List.getElem?_cons_succ] at c1 c2
  have hk' := hk.symm
  have m1 : ¬ w.heap.size = k1 := by omega
  have m2 : ¬ w.heap.size = k2 := by omega
  have m3 : ¬ k1 = w.heap.size := by omega
  have m4 : ¬ k2 = w.heap.size := by omega
  go_region
  have hc := catP_of (a := a) (b := b) g1 g2 hk
  refine ⟨rfl, _, rfl, .tuple #[], ?_, rfl, rfl, (hc.pre B1).drew⟩
  simp [results, Try.results19]
theorem readCond_results (tmps : Array Value) (W : World) (k : Nat) (cs : Array Value) (p x : Int) (hs : cs.size = 5) (h6 : tmps[6]?.getD undef = .pointer (some ⟨k, 0, none⟩)) (h7 : tmps[7]?.getD undef = .pointer (some ⟨k + 1, 0, none⟩)) (h8 : tmps[8]?.getD undef = .pointer (some ⟨k + 1 + 1, 0, none⟩))
    (r0 : W.heap[k]? = some (.cells cs 24 (0, 0))) (r1 : W.heap[k + 1]? = some (.cells #[.int .i64 p] 3 (0, 0))) (r2 : W.heap[k + 1 + 1]? = some (.cells #[.int .i64 x] 30 (0, 0))) :
    (results Try.f13 tmps).run Try.prog W = .ok (.tuple #[.agg cs, .int .i64 p, .int .i64 x]) W := by
  have l0 := run_loadVar_row (P := Try.prog) W k 24 24 cs (0, 0) _ r0 Try.underlying24 rfl (by rw [sizeCond, hs])
  have c1 := cell_of_row _ (k + 1) 0 _ _ _ r1
  have c2 := cell_of_row _ (k + 1 + 1) 0 _ _ _ r2
  simp only [List.getElem?_toArray, List.getElem?_cons_zero, List.getElem?_cons_succ] at c1 c2
  have l1 : (loadVar 3 ⟨k + 1, 0, none⟩).run Try.prog W = .ok (.int .i64 p) W := by simp [go_sem, c1]
  have l2 : (loadVar 30 ⟨k + 1 + 1, 0, none⟩).run Try.prog W = .ok (.int .i64 x) W := by simp [go_sem, c2]
  simp [results, Try.results13, h6, h7, h8, asAddr, l0, l1, l2]
theorem readCond_door {R : Ending → World → Prop} {a : Act} {W : World} {k : Nat} {cs : Array Value} {p x : Int} (hs : cs.size = 5) (hd : a.defers = []) (h6 : a.tmps[6]?.getD undef = .pointer (some ⟨k, 0, none⟩)) (h7 : a.tmps[7]?.getD undef = .pointer (some ⟨k + 1, 0, none⟩)) (h8 : a.tmps[8]?.getD undef = .pointer (some ⟨k + 1 + 1, 0, none⟩))
    (r0 : W.heap[k]? = some (.cells cs 24 (0, 0))) (r1 : W.heap[k + 1]? = some (.cells #[.int .i64 p] 3 (0, 0))) (r2 : W.heap[k + 1 + 1]? = some (.cells #[.int .i64 x] 30 (0, 0)))
    (hR : R (.returned (.tuple #[.agg cs, .int .i64 p, .int .i64 x])) W) : bodyPostD Try.prog Try.f13 R Exit.ret a W := by
  show Leaves _ _ _ _ a.defers _ _
  rw [hd]
  exact ⟨_, readCond_results a.tmps W k cs p x hs h6 h7 h8 r0 r1 r2, hR⟩
theorem readCond_done {R : Ending → World → Prop} {a : Act} {W : World} {k : Nat} {cs : Array Value} {p x : Int} (hs : cs.size = 5) (hd : a.defers = [{ target := .fn (.func 19) #[.pointer (some ⟨k + 1, 0, none⟩), .pointer (some ⟨k + 1 + 1, 0, none⟩)], args := #[] }]) (h6 : a.tmps[6]?.getD undef = .pointer (some ⟨k, 0, none⟩)) (h7 : a.tmps[7]?.getD undef = .pointer (some ⟨k + 1, 0, none⟩)) (h8 : a.tmps[8]?.getD undef = .pointer (some ⟨k + 1 + 1, 0, none⟩))
    (r0 : W.heap[k]? = some (.cells cs 24 (0, 0))) (r1 : W.heap[k + 1]? = some (.cells #[.int .i64 p] 3 (0, 0))) (r2 : W.heap[k + 1 + 1]? = some (.cells #[.int .i64 x] 30 (0, 0)))
    (hR : ∀ W', Below W.heap.size W W' → R (.returned (.tuple #[.agg cs, .int .i64 p, .int .i64 x])) W') : bodyPostD Try.prog Try.f13 R Exit.ret a W := by
  show Leaves _ _ _ _ a.defers _ _
  rw [hd]
  refine leaves_cons (f := 19) (args := #[.pointer (some ⟨k + 1, 0, none⟩), .pointer (some ⟨k + 1 + 1, 0, none⟩)]) (by simp) (by simp [go_sem]) ?_
  refine (catchC_idle _ _ W).mono ?_
  rintro e u' w'' ⟨rfl, rfl, rfl⟩
  exact ⟨_, readCond_results a.tmps _ k cs p x hs h6 h7 h8 (row_alloc r0 _) (row_alloc r1 _) (row_alloc r2 _), hR _ ((Below.refl _ W).alloc (Nat.le_refl _) _)⟩
theorem readCond_caught {R : Ending → World → Prop} {a : Act} {W : World} {k : Nat} {cs : Array Value} {p x v1 v2 : Int} (hs : cs.size = 5) (hd : a.defers = [{ target := .fn (.func 19) #[.pointer (some ⟨k + 1, 0, none⟩), .pointer (some ⟨k + 1 + 1, 0, none⟩)], args := #[] }]) (h6 : a.tmps[6]?.getD undef = .pointer (some ⟨k, 0, none⟩)) (h7 : a.tmps[7]?.getD undef = .pointer (some ⟨k + 1, 0, none⟩)) (h8 : a.tmps[8]?.getD undef = .pointer (some ⟨k + 1 + 1, 0, none⟩))
    (r0 : W.heap[k]? = some (.cells cs 24 (0, 0))) (r1 : W.heap[k + 1]? = some (.cells #[.int .i64 v1] 3 (0, 0))) (r2 : W.heap[k + 1 + 1]? = some (.cells #[.int .i64 v2] 30 (0, 0)))
    (hR : ∀ W', CatP W W' (k + 1) (k + 1 + 1) p x → R (.returned (.tuple #[.agg cs, .int .i64 p, .int .i64 x])) W') : bodyPostD Try.prog Try.f13 R (Exit.panic [{ v := .iface 67 (.agg #[.int .i64 p, .int .i64 x]), recovered := false }]) a W := by
  show Leaves _ _ _ _ a.defers _ _
  rw [hd]
  refine leaves_cons (f := 19) (args := #[.pointer (some ⟨k + 1, 0, none⟩), .pointer (some ⟨k + 1 + 1, 0, none⟩)]) (by simp) (by simp [go_sem]) ?_
  refine (catchC_panicking (k + 1) (k + 1 + 1) p x W v1 v2 r1 r2 (by omega)).mono ?_
  rintro e u' w'' ⟨rfl, rfl, hc⟩
  show Leaves _ _ _ _ [] .returning _
  exact ⟨_, readCond_results a.tmps _ k cs p x hs h6 h7 h8 (hc.block k _ r0 (by omega) (by omega)) hc.c1 hc.c2, hR _ hc⟩
set_option maxRecDepth 100000 in
set_option maxHeartbeats 16000000 in
theorem readCond_any (s : ByteArray) (l : List ByteArray) (vl : Value) (b : Nat) (w : World) (hb : w.heap[b]? = some (.cells (parZ false vl) 54 (0, 0))) (hlo : LocsOk w b false vl l) :
    Calls Try.prog 13 #[.pointer (some ⟨b, 0, none⟩), .string s, .func (.func 14) #[] #[]] w (ReadCPost s l b w) := by
  have hbl := lt_of_heap hb
  have B0 := (((Below.refl w.heap.size w).alloc (Nat.le_refl _) (.cells condZ 24)).alloc (by simp) (.cells #[.int .i64 0] 3)).alloc (by simp; omega) (.cells #[.int .i64 0] 30)
  have z0 := row_alloc (row_alloc (heap_alloc_new w (.cells condZ 24)) (.cells #[.int .i64 0] 3)) (.cells #[.int .i64 0] 30)
  have z1 := row_alloc (heap_alloc_new (w.alloc (.cells condZ 24)) (.cells #[.int .i64 0] 3)) (.cells #[.int .i64 0] 30)
  have z2 := heap_alloc_new ((w.alloc (.cells condZ 24)).alloc (.cells #[.int .i64 0] 3)) (.cells #[.int .i64 0] 30)
  have CL := lex_any s (((w.alloc (.cells condZ 24)).alloc (.cells #[.int .i64 0] 3)).alloc (.cells #[.int .i64 0] 30))
  simp only [World.size_alloc] at z1 z2
  obtain ⟨pl, hpl⟩ : ∃ pl, (LX.out (bsOf s)).2.1 = pl := ⟨_, rfl⟩
  obtain ⟨er, her⟩ : ∃ er, (LX.out (bsOf s)).2.2 = er := ⟨_, rfl⟩
  unfold LexPost at CL
  rw [hpl, her] at CL
  have hmf : ∀ (fn : Fn) (first cap : Array Value) (w : World), (Instr.makeFunc fn first cap).run Try.prog w = .ok (.func fn first cap) w := fun _ _ _ _ => rfl
  unfold condZ at CL B0 z0 z1 z2
  by_cases he : er = 0
  · subst he
    have hP : readC s l = PX.onlyCond (PX.start s l false) := by rw [readC_eq, if_pos her]
    replace B0 := Lib.hid B0
    replace CL := Lib.hid CL
    replace z0 := Lib.hid z0
    replace z1 := Lib.hid z1
    replace z2 := Lib.hid z2
    replace hP := Lib.hid hP
    have hent : ∀ args W, (callFunc 14 args).run Try.prog W = .ok (.enter 14 args) W := enters Try.func14 (by kernel_rfl) rfl
    unfold parZ at hb
    have hlen := toks_len s
    rw [toks_length] at hlen
    have CP := Lib.hid fun g W (L : LS W b (PX.start s l false) (hdZ g vl)) => onlyCond_any b (PX.start s l false) (hdZ g vl) W L (by show (toks s).length < 100000; have := toks_len s; omega)
    have t1 : ((0 : Int) != 0) = false := rfl
    replace hlen := Lib.hid hlen
    replace hb := Lib.hid hb
    go_enter_defers Try.func13, Try.ntmps13
    go_wp2_with (first
      | (go_at_call 15; refine (CL.out).mono ?_; rintro e w1 ⟨v, rfl, hown, B1⟩
         obtain ⟨g, hT, hg, va, vn, vc, rfl⟩ := tkR_own hown hlen.out (by have := B1.size; simp at this; omega)
         have y0 := (B1.block _ (lt_of_heap z0.out)).trans z0.out
         have y1 := (B1.block _ (lt_of_heap z1.out)).trans z1.out
         have y2 := (B1.block _ (lt_of_heap z2.out)).trans z2.out
         have yb := (B1.block _ (Nat.lt_of_lt_of_le hbl B0.out.size)).trans ((B0.out.block b hbl).trans hb.out)
         have c1 := cell_of_row _ _ 0 _ _ _ y1
         have c2 := cell_of_row _ _ 0 _ _ _ y2
         have f1 := frozen_of_row _ _ 0 _ _ y1
         have f2 := frozen_of_row _ _ 0 _ _ y2
         have b0 := cell_of_row _ b 0 _ _ _ yb
         have b1 := cell_of_row _ b 1 _ _ _ yb
         have fb0 := frozen_of_row _ b 0 _ _ yb
         have fb1 := frozen_of_row _ b 1 _ _ yb
         simp only [List.getElem?_toArray, List.getElem?_cons_zero, List.getElem?_cons_succ] at c1 c2 b0 b1
         have m1 : ¬ b = w.heap.size + 1 := by omega
         have m2 : ¬ b = w.heap.size + 1 + 1 := by omega
         have m3 : ¬ w.heap.size + 1 = b := by omega
         have m4 : ¬ w.heap.size + 1 + 1 = b := by omega
         replace hown := Lib.hid hown
         replace hT := Lib.hid hT
         replace y0 := Lib.hid y0
         replace y1 := Lib.hid y1
         replace y2 := Lib.hid y2
         replace yb := Lib.hid yb
         replace B1 := Lib.hid B1))
    have q0 := row_keep (row_keep (row_keep (row_keep y0.out (show w.heap.size ≠ w.heap.size + 1 by omega) 0 (.int .i64 (pl : Int))) (show w.heap.size ≠ w.heap.size + 1 + 1 by omega) 0 (.int .i64 0)) (show w.heap.size ≠ b by omega) 0 (.slice va vn vc)) (show w.heap.size ≠ b by omega) 1 (.int .i64 (s.size : Int))
    have q1 := row_keep (row_keep (row_keep (heap_setCell_same _ (w.heap.size + 1) 0 _ _ (.int .i64 (pl : Int)) y1.out) (show w.heap.size + 1 ≠ w.heap.size + 1 + 1 by omega) 0 (.int .i64 0)) (show w.heap.size + 1 ≠ b by omega) 0 (.slice va vn vc)) (show w.heap.size + 1 ≠ b by omega) 1 (.int .i64 (s.size : Int))
    have q2 := row_keep (row_keep (heap_setCell_same _ (w.heap.size + 1 + 1) 0 _ _ (.int .i64 0) (row_keep y2.out (show w.heap.size + 1 + 1 ≠ w.heap.size + 1 by omega) 0 (.int .i64 (pl : Int)))) (show w.heap.size + 1 + 1 ≠ b by omega) 0 (.slice va vn vc)) (show w.heap.size + 1 + 1 ≠ b by omega) 1 (.int .i64 (s.size : Int))
    have qb := heap_setCell_same _ b 1 _ _ (.int .i64 (s.size : Int)) (heap_setCell_same _ b 0 _ _ (.slice va vn vc) (row_keep (row_keep yb.out (show b ≠ w.heap.size + 1 by omega) 0 (.int .i64 (pl : Int))) (show b ≠ w.heap.size + 1 + 1 by omega) 0 (.int .i64 0)))
    simp only [List.setIfInBounds_toArray, List.set_cons_succ, List.set_cons_zero] at q1 q2 qb
    have hTk : TkR ((((w1.setCell ⟨w.heap.size + 1, 0, none⟩ (.int .i64 (pl : Int))).setCell ⟨w.heap.size + 1 + 1, 0, none⟩ (.int .i64 0)).setCell ⟨b, 0, none⟩ (.slice va vn vc)).setCell ⟨b, 1, none⟩ (.int .i64 (s.size : Int))) g (.slice va vn vc) (toks s) := hT.out.same fun C hC => by
      have n1 : g ≠ w.heap.size + 1 := by rintro rfl; rw [y1.out] at hC; cases hC
      have n2 : g ≠ w.heap.size + 1 + 1 := by rintro rfl; rw [y2.out] at hC; cases hC
      have n3 : g ≠ b := by rintro rfl; rw [yb.out] at hC; cases hC
      exact row_keep (row_keep (row_keep (row_keep hC n1 0 _) n2 0 _) n3 0 _) n3 1 _
    have hF : Fr T1 b w ((((w1.setCell ⟨w.heap.size + 1, 0, none⟩ (.int .i64 (pl : Int))).setCell ⟨w.heap.size + 1 + 1, 0, none⟩ (.int .i64 0)).setCell ⟨b, 0, none⟩ (.slice va vn vc)).setCell ⟨b, 1, none⟩ (.int .i64 (s.size : Int))) := ((((Fr.of_below (B0.out.trans (B1.out.mono B0.out.size))).setNew (by omega) 0 _).setNew (by omega) 0 _).setB 0 _).setB 1 _
    have hF0 : Fr [] b w ((((w1.setCell ⟨w.heap.size + 1, 0, none⟩ (.int .i64 (pl : Int))).setCell ⟨w.heap.size + 1 + 1, 0, none⟩ (.int .i64 0)).setCell ⟨b, 0, none⟩ (.slice va vn vc)).setCell ⟨b, 1, none⟩ (.int .i64 (s.size : Int))) := ((((Fr.of_below (B0.out.trans (B1.out.mono B0.out.size))).setNew (by omega) 0 _).setNew (by omega) 0 _).setB 0 _).setB 1 _
    have hg3 : g < ((((w1.setCell ⟨w.heap.size + 1, 0, none⟩ (.int .i64 (pl : Int))).setCell ⟨w.heap.size + 1 + 1, 0, none⟩ (.int .i64 0)).setCell ⟨b, 0, none⟩ (.slice va vn vc)).setCell ⟨b, 1, none⟩ (.int .i64 (s.size : Int))).heap.size := by simpa using hg
    generalize (((w1.setCell ⟨w.heap.size + 1, 0, none⟩ (.int .i64 (pl : Int))).setCell ⟨w.heap.size + 1 + 1, 0, none⟩ (.int .i64 0)).setCell ⟨b, 0, none⟩ (.slice va vn vc)).setCell ⟨b, 1, none⟩ (.int .i64 (s.size : Int)) = W3 at *
    have CPx : Calls Try.prog 14 #[.pointer (some ⟨b, 0, none⟩)] W3 (Ends2 W3 b (hdZ g vl) (PX.onlyCond (PX.start s l false))) := CP.out g W3 (ls_start qb hTk hg3 (hlo.up hF0))
    have l3 := lt_of_heap q2
    clear y0 y1 y2 yb c1 c2 f1 f2 b0 b1 fb0 fb1 hTk hg3 qb hown hT B1 CL CP hF0
    rcases hr : PX.onlyCond (PX.start s l false) with ⟨c, st⟩ | ⟨p, x⟩
    · have hP2 : readC s l = .ok c st := hP.out.trans hr
      rw [hr] at CPx
      clear hr hP
      refine CPx.mono ?_
      rintro e w5 ⟨F5, xc, rfl, M5, -⟩
      obtain ⟨xa, xl, xp, hu⟩ := M5.slice
      obtain ⟨xk, xt, xn, xv, xu⟩ := xc
      simp only at hu
      subst hu
      have G5 := hF.trans F5
      have r0 := F5.box q0 (show w.heap.size ≠ b by omega) (by simp [T1])
      have r1 := F5.box q1 (show w.heap.size + 1 ≠ b by omega) (by simp [T1])
      have r2 := F5.box q2 (show w.heap.size + 1 + 1 ≠ b by omega) (by simp [T1])
      unfold condV
      simp only
      clear q0 q1 q2 F5 hF
      have d0 := cell_of_row _ w.heap.size 0 _ _ _ r0
      have d1 := cell_of_row _ w.heap.size 1 _ _ _ r0
      have d2 := cell_of_row _ w.heap.size 2 _ _ _ r0
      have d3 := cell_of_row _ w.heap.size 3 _ _ _ r0
      have d4 := cell_of_row _ w.heap.size 4 _ _ _ r0
      have d10 := cell_of_row _ (w.heap.size + 1) 0 _ _ _ r1
      have d11 := cell_of_row _ (w.heap.size + 1 + 1) 0 _ _ _ r2
      simp only [List.getElem?_toArray, List.getElem?_cons_zero, List.getElem?_cons_succ] at d0 d1 d2 d3 d4 d10 d11
      have f0 := fun j => frozen_of_row _ w.heap.size j _ _ r0
      have f1 := frozen_of_row _ (w.heap.size + 1) 0 _ _ r1
      have f2 := frozen_of_row _ (w.heap.size + 1 + 1) 0 _ _ r2
      replace r0 := Lib.hid r0
      replace r1 := Lib.hid r1
      replace r2 := Lib.hid r2
      replace M5 := Lib.hid M5
      replace G5 := Lib.hid G5
      replace l3 := Lib.hid l3
      go_wp2
      have q0 := setCond_row (y := cvZ) ⟨xk, xt, xn, xv, .slice xa xl xp⟩ r0.out
      have q1 := setCond_keep (x := ⟨xk, xt, xn, xv, .slice xa xl xp⟩) r1.out (show w.heap.size + 1 ≠ w.heap.size by omega)
      have q2 := setCond_keep (x := ⟨xk, xt, xn, xv, .slice xa xl xp⟩) r2.out (show w.heap.size + 1 + 1 ≠ w.heap.size by omega)
      have hG := setCond_fr ⟨xk, xt, xn, xv, .slice xa xl xp⟩ G5.out (Nat.le_refl w.heap.size)
      have hPk : CondM (setCond w5 w.heap.size ⟨xk, xt, xn, xv, .slice xa xl xp⟩) (fun g => W3.heap.size ≤ g) ⟨xk, xt, xn, xv, .slice xa xl xp⟩ c := CondM.mono (fun i D hi hh => setCond_keep hh (by have := l3.out; omega)) (fun _ h => h) _ _ M5.out
      have s0 := row_keep (row_keep q0 (show w.heap.size ≠ w.heap.size + 1 by omega) 0 (.int .i64 0)) (show w.heap.size ≠ w.heap.size + 1 + 1 by omega) 0 (.int .i64 0)
      have s1 := row_keep (heap_setCell_same _ (w.heap.size + 1) 0 _ _ (.int .i64 0) q1) (show w.heap.size + 1 ≠ w.heap.size + 1 + 1 by omega) 0 (.int .i64 0)
      have s2 := heap_setCell_same _ (w.heap.size + 1 + 1) 0 _ _ (.int .i64 0) (row_keep q2 (show w.heap.size + 1 + 1 ≠ w.heap.size + 1 by omega) 0 (.int .i64 0))
      simp only [List.setIfInBounds_toArray, List.set_cons_succ, List.set_cons_zero] at s1 s2
      have hPl : CondM (((setCond w5 w.heap.size ⟨xk, xt, xn, xv, .slice xa xl xp⟩).setCell ⟨w.heap.size + 1, 0, none⟩ (.int .i64 0)).setCell ⟨w.heap.size + 1 + 1, 0, none⟩ (.int .i64 0)) (fun g => W3.heap.size ≤ g) ⟨xk, xt, xn, xv, .slice xa xl xp⟩ c := CondM.mono (fun i D hi hh => row_keep (row_keep hh (by have := l3.out; omega) 0 _) (by have := l3.out; omega) 0 _) (fun _ h => h) _ _ hPk
      have hH := ((hG.setNew (k := w.heap.size + 1) (by omega) 0 (.int .i64 0)).setNew (k := w.heap.size + 1 + 1) (by omega) 0 (.int .i64 0))
      obtain ⟨Y, hY⟩ : ∃ Y, ((setCond w5 w.heap.size ⟨xk, xt, xn, xv, .slice xa xl xp⟩).setCell ⟨w.heap.size + 1, 0, none⟩ (.int .i64 0)).setCell ⟨w.heap.size + 1 + 1, 0, none⟩ (.int .i64 0) = Y := ⟨_, rfl⟩
      rw [hY] at s0 s1 s2 hH hPl
      unfold setCond at hY
      simp only at hY
      rw [hY]
      clear hY q0 q1 q2 hG hPk
      exact readCond_done (k := w.heap.size) (cs := #[.int .u8 xk, .int .u8 xt, .int .u8 xn, .int .u8 xv, .slice xa xl xp]) (p := 0) (x := 0) rfl rfl rfl rfl rfl s0 s1 s2 fun W' B => ⟨hH.trans (.of_below B), by
        rw [hP2]
        exact ⟨⟨xk, xt, xn, xv, .slice xa xl xp⟩, rfl, CondM.mono (fun g _ _ hC => (B.block g (lt_of_heap hC)).trans hC) (fun g h => by have := l3.out; omega) _ _ hPl⟩⟩
    · have hP2 : readC s l = .bad p x := hP.out.trans hr
      rw [hr] at CPx
      clear hr hP
      refine CPx.mono ?_
      rintro e w5 ⟨F5, rfl⟩
      have G5 := hF.trans F5
      have r0 := F5.box q0 (show w.heap.size ≠ b by omega) (by simp [T1])
      have r1 := F5.box q1 (show w.heap.size + 1 ≠ b by omega) (by simp [T1])
      have r2 := F5.box q2 (show w.heap.size + 1 + 1 ≠ b by omega) (by simp [T1])
      show bodyPostD _ _ _ _ _ _
      exact readCond_caught (k := w.heap.size) (cs := #[.int .u8 0, .int .u8 0, .int .u8 0, .int .u8 0, .slice none 0 0]) (p := p) (x := x) rfl rfl rfl rfl rfl r0 r1 r2 fun W' hc => ⟨⟨hc.os.trans G5.os, hc.tape.trans G5.tape, hc.output.trans G5.output, Nat.le_trans G5.size hc.size, fun k o ho hkb => by
        have hlt := lt_of_heap ho
        exact hc.block k o (G5.block k o ho hkb) (by omega) (by omega)⟩, by rw [hP2]; rfl⟩
  · have hP : readC s l = .bad (pl : Int) (er : Int) := by rw [readC_eq, if_neg (by rw [her]; exact he), hpl, her]
    have t1 : ((er : Int) != 0) = true := by simp; omega
    unfold ReadCPost
    rw [hP]
    replace B0 := Lib.hid B0
    replace CL := Lib.hid CL
    replace z0 := Lib.hid z0
    replace z1 := Lib.hid z1
    replace z2 := Lib.hid z2
    clear hP
    go_enter_defers Try.func13, Try.ntmps13
    go_wp2_with (first
      | (go_at_call 15; refine (CL.out).mono ?_; rintro e w1 ⟨v, rfl, hown, B1⟩
         obtain ⟨g, hT, hg, va, vn, vc, rfl⟩ := tkR_own hown (by have := toks_len s; rw [toks_length] at this; exact this) (by have := B1.size; simp at this; omega)
         have y0 := (B1.block _ (lt_of_heap z0.out)).trans z0.out
         have y1 := (B1.block _ (lt_of_heap z1.out)).trans z1.out
         have y2 := (B1.block _ (lt_of_heap z2.out)).trans z2.out
         have c1 := cell_of_row _ _ 0 _ _ _ y1
         have c2 := cell_of_row _ _ 0 _ _ _ y2
         have f1 := frozen_of_row _ _ 0 _ _ y1
         have f2 := frozen_of_row _ _ 0 _ _ y2
         simp only [List.getElem?_toArray, List.getElem?_cons_zero, List.getElem?_cons_succ] at c1 c2
         clear hown hT))
    have r0 := row_keep (row_keep y0 (show w.heap.size ≠ w.heap.size + 1 by omega) 0 (.int .i64 (pl : Int))) (show w.heap.size ≠ w.heap.size + 1 + 1 by omega) 0 (.int .i64 (er : Int))
    have r1 := row_keep (heap_setCell_same _ (w.heap.size + 1) 0 _ _ (.int .i64 (pl : Int)) y1) (show w.heap.size + 1 ≠ w.heap.size + 1 + 1 by omega) 0 (.int .i64 (er : Int))
    have r2 := heap_setCell_same _ (w.heap.size + 1 + 1) 0 _ _ (.int .i64 (er : Int)) (row_keep y2 (show w.heap.size + 1 + 1 ≠ w.heap.size + 1 by omega) 0 (.int .i64 (pl : Int)))
    simp only [List.setIfInBounds_toArray, List.set_cons_succ, List.set_cons_zero] at r1 r2
    have hF : Fr T1 b w ((w1.setCell ⟨w.heap.size + 1, 0, none⟩ (.int .i64 (pl : Int))).setCell ⟨w.heap.size + 1 + 1, 0, none⟩ (.int .i64 (er : Int))) := (((Fr.of_below (B0.out.trans (B1.mono B0.out.size))).setNew (by omega) 0 _).setNew (by omega) 0 _)
    clear y0 y1 y2 c1 c2 f1 f2
    generalize (w1.setCell ⟨w.heap.size + 1, 0, none⟩ (.int .i64 (pl : Int))).setCell ⟨w.heap.size + 1 + 1, 0, none⟩ (.int .i64 (er : Int)) = W at *
    have d0 := cell_of_row _ w.heap.size 0 _ _ _ r0
    have d1 := cell_of_row _ w.heap.size 1 _ _ _ r0
    have d2 := cell_of_row _ w.heap.size 2 _ _ _ r0
    have d3 := cell_of_row _ w.heap.size 3 _ _ _ r0
    have d4 := cell_of_row _ w.heap.size 4 _ _ _ r0
    have d10 := cell_of_row _ (w.heap.size + 1) 0 _ _ _ r1
    have d11 := cell_of_row _ (w.heap.size + 1 + 1) 0 _ _ _ r2
    simp only [List.getElem?_toArray, List.getElem?_cons_zero, List.getElem?_cons_succ] at d0 d1 d2 d3 d4 d10 d11
    have f0 := fun j => frozen_of_row _ w.heap.size j _ _ r0
    have f1 := frozen_of_row _ (w.heap.size + 1) 0 _ _ r1
    have f2 := frozen_of_row _ (w.heap.size + 1 + 1) 0 _ _ r2
    go_region
    have q0 := setCond_row (y := cvZ) cvZ r0
    have q1 := setCond_keep (x := cvZ) r1 (show w.heap.size + 1 ≠ w.heap.size by omega)
    have q2 := setCond_keep (x := cvZ) r2 (show w.heap.size + 1 + 1 ≠ w.heap.size by omega)
    have hG := setCond_fr cvZ hF (Nat.le_refl w.heap.size)
    unfold setCond cvZ at q0 q1 q2 hG
    simp only at q0 q1 q2 hG
    have s0 := row_keep (row_keep q0 (show w.heap.size ≠ w.heap.size + 1 by omega) 0 (.int .i64 (pl : Int))) (show w.heap.size ≠ w.heap.size + 1 + 1 by omega) 0 (.int .i64 (er : Int))
    have s1 := row_keep (heap_setCell_same _ (w.heap.size + 1) 0 _ _ (.int .i64 (pl : Int)) q1) (show w.heap.size + 1 ≠ w.heap.size + 1 + 1 by omega) 0 (.int .i64 (er : Int))
    have s2 := heap_setCell_same _ (w.heap.size + 1 + 1) 0 _ _ (.int .i64 (er : Int)) (row_keep q2 (show w.heap.size + 1 + 1 ≠ w.heap.size + 1 by omega) 0 (.int .i64 (pl : Int)))
    simp only [List.setIfInBounds_toArray, List.set_cons_succ, List.set_cons_zero] at s1 s2
    obtain ⟨Y, hY⟩ : ∃ Y, ((setCond W w.heap.size cvZ).setCell ⟨w.heap.size + 1, 0, none⟩ (.int .i64 (pl : Int))).setCell ⟨w.heap.size + 1 + 1, 0, none⟩ (.int .i64 (er : Int)) = Y := ⟨_, rfl⟩
    unfold setCond cvZ at hY
    simp only at hY
    have hH := ((hG.setNew (k := w.heap.size + 1) (by omega) 0 (.int .i64 (pl : Int))).setNew (k := w.heap.size + 1 + 1) (by omega) 0 (.int .i64 (er : Int)))
    rw [hY] at s0 s1 s2 hH ⊢
    clear hY
    replace hH := hH.trans (Fr.of_below (drewB1 Y))
    replace hH := Lib.hid hH
    replace s0 := Lib.hid s0
    replace s1 := Lib.hid s1
    replace s2 := Lib.hid s2
    clear q0 q1 q2 hG r0 r1 r2 hF
    go_wp2
    exact readCond_door (k := w.heap.size) (cs := #[.int .u8 0, .int .u8 0, .int .u8 0, .int .u8 0, .slice none 0 0]) (p := (pl : Int)) (x := (er : Int)) rfl rfl rfl rfl rfl s0.out s1.out s2.out ⟨hH.out, rfl⟩
end PP
end Go.Proofs.Ytglbmiadgdadfaa
end

section
/- What a parsed program respects. Pure. -/
namespace Go.Proofs.Ytglbmiadgdadfaa
open Go Go.RowKit
namespace PX
/-- A register's number; an argument; an instruction, of which n locations are known. -/
def RegOk (n : Int) : Prop := 0 ≤ n ∧ n < 8
def ArgOk (a : ArgD) : Prop := a.r = true → RegOk a.n
structure InsOk (n : Nat) (x : InsD) : Prop where
  op : 1 ≤ x.op ∧ x.op ≤ 8
  dst : RegOk x.dst
  loc : 0 ≤ x.loc ∧ (0 < x.loc → x.loc < (n : Int))
  a : ArgOk x.a
  b : ArgOk x.b
theorem InsOk.mono {n m : Nat} {x : InsD} (h : InsOk n x) (hm : n ≤ m) : InsOk m x := ⟨h.op, h.dst, ⟨h.loc.1, fun h0 => by have := h.loc.2 h0; omega⟩, h.a, h.b⟩
/-- A token that is no sign with a name's symbol; a word is not empty. -/
def TokG (t : TokD) : Prop := (t.k = 3 → t.x ≠ sNAME) ∧ (t.k = 1 → t.x.size ≠ 0)
structure Fit (s : S) : Prop where
  inv : Inv s
  toks : ∀ t ∈ s.rest, TokG t
  names : ∀ x ∈ s.locs, LX.nameB (bsOf x) = true
  nodup : s.locs.Nodup
  ilen : s.init.length = s.locs.length
  ins : ∀ k ∈ s.threads, ∀ x ∈ k, InsOk s.locs.length x
  named : 1 ≤ s.done → s.name.size ≠ 0
  ask : s.done = 4 → 1 ≤ s.ask ∧ s.ask ≤ 3
  deep : s.done = 4 → PX.deep s.cond ≤ 20
theorem name_sym {t : TokD} (hg : TokG t) (h : sy t = sNAME) : LX.nameB (bsOf t.x) = true := by
  unfold sy at h
  by_cases h1 : t.k = 1
  · rw [if_pos h1] at h
    unfold wsy at h
    by_cases hk : LX.keptB (bsOf t.x) = true
    · rw [if_pos hk] at h
      rw [h] at hk
      exact absurd hk (by decide)
    · rw [if_neg hk] at h
      by_cases hn : LX.nameB (bsOf t.x) = true
      · exact hn
      · rw [if_neg hn] at h
        split at h <;> exact absurd h (by decide)
  · rw [if_neg h1] at h
    by_cases h2 : t.k = 2
    · rw [if_pos h2] at h; exact absurd h (by decide)
    · rw [if_neg h2] at h
      by_cases h3 : t.k = 3
      · rw [if_pos h3] at h
        exact absurd h (hg.1 h3)
      · rw [if_neg h3] at h
        split at h <;> exact absurd h (by decide)
theorem tail_mem {α : Type} {l : List α} {t : α} (h : t ∈ l.tail) : t ∈ l := List.mem_of_mem_tail h
theorem next_mem {s : S} (h : s.rest ≠ []) : next s ∈ s.rest := by
  unfold next
  cases hr : s.rest with
  | nil => exact absurd hr h
  | cons t l => exact List.mem_cons_self
theorem Fit.restF {s : S} (h : Fit s) : Fit { s with rest := s.rest.tail } :=
  ⟨⟨h.inv.opn, h.inv.l6, h.inv.done, h.inv.t4, h.inv.i12, h.inv.some_⟩, fun t ht => h.toks t (tail_mem ht), h.names, h.nodup, h.ilen, h.ins, h.named, h.ask, h.deep⟩
theorem Fit.growF {s : S} (h : Fit s) (hsy : sy (next s) = sNAME) (hne : s.rest ≠ []) (h6 : s.locs.length ≠ 6) (hi : s.locs.idxOf? (next s).x = none) : Fit { s with rest := s.rest.tail, locs := s.locs ++ [(next s).x], init := s.init ++ [0] } := by
  refine ⟨⟨h.inv.opn, ?_, h.inv.done, h.inv.t4, h.inv.i12, h.inv.some_⟩, fun t ht => h.toks t (tail_mem ht), fun x hx => ?_, ?_, ?_, fun k hk x hx => ?_, h.named, h.ask, h.deep⟩
  · show (s.locs ++ [_]).length ≤ 6
    have := h.inv.l6
    simp; omega
  · rcases List.mem_append.1 hx with hx | hx
    · exact h.names x hx
    · rw [List.mem_singleton.1 hx]
      exact name_sym (h.toks _ (next_mem hne)) hsy
  · show (s.locs ++ [_]).Nodup
    rw [List.nodup_append]
    refine ⟨h.nodup, by simp, fun a ha b hb => ?_⟩
    rw [List.mem_singleton.1 hb]
    rintro rfl
    have : s.locs.idxOf? (next s).x ≠ none := by
      intro e
      unfold List.idxOf? at e
      rw [List.findIdx?_eq_none_iff] at e
      have := e _ ha
      simp at this
    exact this hi
  · show (s.init ++ [0]).length = (s.locs ++ [_]).length
    have := h.ilen
    simp [this]
  · exact (h.ins k hk x hx).mono (by show s.locs.length ≤ (s.locs ++ [_]).length; simp)
theorem fit_stb (s0 : S) : Stb fun s => Fit s ∧ s.done = s0.done ∧ s0.locs.length ≤ s.locs.length :=
  ⟨fun s h => ⟨h.1.restF, h.2⟩, fun s h hsy hne _ h6 hi => ⟨h.1.growF hsy hne h6 hi, h.2.1, by show s0.locs.length ≤ (s.locs ++ [_]).length; have := h.2.2; simp; omega⟩⟩
theorem fitl_stb (s0 : S) (l : Int) : Stb fun s => (Fit s ∧ s.done = s0.done ∧ s0.locs.length ≤ s.locs.length) ∧ 0 ≤ l ∧ l < (s.locs.length : Int) :=
  ⟨fun s h => ⟨(fit_stb s0).rest s h.1, h.2⟩, fun s h hsy hne ho h6 hi => ⟨(fit_stb s0).grow s h.1 hsy hne ho h6 hi, h.2.1, by show l < ((s.locs ++ [_]).length : Int); have := h.2.2; simp; omega⟩⟩
theorem reg_range (x : ByteArray) : RegOk (regI x) := by
  unfold regI RegOk
  by_cases h : LX.regOk (bsOf x) = true
  · rw [if_pos h]
    unfold LX.regOk at h
    unfold LX.regN
    split at h
    · rename_i a b he
      simp only [Bool.and_eq_true, decide_eq_true_eq] at h
      omega
    · cases h
  · rw [if_neg h]; omega
theorem zero_reg : RegOk 0 := ⟨Int.le_refl _, by omega⟩
theorem zero_arg : ArgOk ⟨false, 0⟩ := fun h => by cases h
theorem post_reg {P : S → Prop} (st : Stb P) (s : S) (h : P s) : Post (fun n s' => P s' ∧ RegOk n) (reg s) := (keep_take st _ s h).bind fun t _ h' => .ok ⟨h', reg_range t.x⟩
theorem post_arg {P : S → Prop} (st : Stb P) (s : S) (h : P s) : Post (fun a s' => P s' ∧ ArgOk a) (arg s) := by
  unfold arg
  split
  · exact (post_reg st s h).bind fun n s' h' => .ok ⟨h'.1, fun _ => h'.2⟩
  · exact (keep_num st s h).bind fun n s' h' => .ok ⟨h', fun hh => by cases hh⟩
theorem post_operation {P : S → Prop} (st : Stb P) (l : List ByteArray) (s : S) (h : P s) : Post (fun x s' => P s' ∧ ArgOk x.1 ∧ ArgOk x.2.2) (operation l s) :=
  (post_arg st s h).bind fun a s h => (keep_take st l s h.1).bind fun t s h' => (post_arg st s h').bind fun b s h'' => .ok ⟨h''.1, h.2, h''.2⟩
theorem post_loc (s0 s : S) (h : Fit s ∧ s.done = s0.done ∧ s0.locs.length ≤ s.locs.length) : Post (fun l s' => (Fit s' ∧ s'.done = s0.done ∧ s0.locs.length ≤ s'.locs.length) ∧ 0 ≤ l ∧ l < (s'.locs.length : Int)) (loc s) := by
  have k := keep_loc (fit_stb s0) s h
  have h6 := h.1.inv.l6
  have r : Post (fun l s' => 0 ≤ l ∧ l < (s'.locs.length : Int)) (loc s) := by
    unfold loc take takeIf
    split
    · simp only [R.bind]
      split
      · rename_i i hi
        have hi' : i < s.locs.length := by
          have := List.findIdx?_eq_some_iff_findIdx_eq.1 hi
          omega
        exact .ok ⟨by omega, by show (i : Int) % 256 < (s.locs.length : Int); omega⟩
      · refine Post.bind (Q := fun _ s' => s'.locs.length = s.locs.length + 1) ?_ fun _ s' hs => .ok ⟨by omega, by rw [hs]; show (s.locs.length : Int) % 256 < _; omega⟩
        unfold addLoc
        by_cases h1 : s.opn = true
        · by_cases h2 : s.locs.length = 6
          · simp only [h1, h2, if_true]; exact .bad
          · simp only [h1, h2, if_true, if_false]; exact .ok (by simp)
        · exact absurd h.1.inv.opn h1
    · exact .bad
  exact k.and r
/-- What the reading of an instruction answers. -/
def InsP (s0 : S) (x : InsD) (s' : S) : Prop := (Fit s' ∧ s'.done = s0.done ∧ s0.locs.length ≤ s'.locs.length) ∧ InsOk s'.locs.length x
section
variable (s0 s : S) (h : Fit s ∧ s.done = s0.done ∧ s0.locs.length ≤ s.locs.length)
include h
theorem fit_store : Post (InsP s0) (store s) :=
  (post_loc s0 s h).bind fun l s h => (keep_take (fitl_stb s0 l) _ s h).bind fun _ s h => (post_arg (fitl_stb s0 l) s h).bind fun a s h => (keep_takes (fitl_stb s0 l) _ s h.1).bind fun r s h' =>
    .ok ⟨h'.1, ⟨by show (1 : Int) ≤ 2; omega, by show (2 : Int) ≤ 8; omega⟩, zero_reg, ⟨h'.2.1, fun _ => h'.2.2⟩, h.2, zero_arg⟩
theorem fit_load : Post (InsP s0) (load s) :=
  (post_loc s0 s h).bind fun l s h => (keep_takes (fitl_stb s0 l) _ s h).bind fun r s h' =>
    .ok ⟨h'.1, ⟨by show (1 : Int) ≤ 1; omega, by show (1 : Int) ≤ 8; omega⟩, zero_reg, ⟨h'.2.1, fun _ => h'.2.2⟩, zero_arg, zero_arg⟩
theorem fit_move : Post (InsP s0) (move s) :=
  (post_operation (fit_stb s0) _ s h).bind fun x s h => .ok ⟨h.1, ⟨by show (1 : Int) ≤ 3; omega, by show (3 : Int) ≤ 8; omega⟩, zero_reg, ⟨Int.le_refl _, fun hh => absurd hh (by show ¬ (0 : Int) < 0; omega)⟩, h.2.1, h.2.2⟩
theorem fit_swap : Post (InsP s0) (swap s) :=
  (keep_take (fit_stb s0) _ s h).bind fun _ s h => (post_loc s0 s h).bind fun l s h => (post_arg (fitl_stb s0 l) s h).bind fun a s h =>
    .ok ⟨h.1.1, ⟨by show (1 : Int) ≤ 4; omega, by show (4 : Int) ≤ 8; omega⟩, zero_reg, ⟨h.1.2.1, fun _ => h.1.2.2⟩, h.2, zero_arg⟩
theorem fit_fetch : Post (InsP s0) (fetch s) :=
  (keep_take (fit_stb s0) _ s h).bind fun _ s h => (post_loc s0 s h).bind fun l s h => (post_arg (fitl_stb s0 l) s h).bind fun a s h =>
    .ok ⟨h.1.1, ⟨by show (1 : Int) ≤ 5; omega, by show (5 : Int) ≤ 8; omega⟩, zero_reg, ⟨h.1.2.1, fun _ => h.1.2.2⟩, h.2, zero_arg⟩
theorem fit_cas : Post (InsP s0) (cas s) :=
  (keep_take (fit_stb s0) _ s h).bind fun _ s h => (post_loc s0 s h).bind fun l s h => (post_arg (fitl_stb s0 l) s h).bind fun a s h => (post_arg (fitl_stb s0 l) s h.1).bind fun b s h' =>
    .ok ⟨h'.1.1, ⟨by show (1 : Int) ≤ 6; omega, by show (6 : Int) ≤ 8; omega⟩, zero_reg, ⟨h'.1.2.1, fun _ => h'.1.2.2⟩, h.2, h'.2⟩
theorem fit_fence : Post (InsP s0) (fence s) := by
  have z : ∀ (m : Int) (s : S), (Fit s ∧ s.done = s0.done ∧ s0.locs.length ≤ s.locs.length) → InsP s0 { op := 7, mode := m } s := fun m s h => ⟨h, ⟨by show (1 : Int) ≤ 7; omega, by show (7 : Int) ≤ 8; omega⟩, zero_reg, ⟨Int.le_refl _, fun hh => absurd hh (by show ¬ (0 : Int) < 0; omega)⟩, zero_arg, zero_arg⟩
  exact (keep_take (fit_stb s0) _ s h).bind fun _ s h => (keep_takes (fit_stb s0) _ s h).bind fun a s h => .ite (.ok (z _ s h)) ((keep_takes (fit_stb s0) _ s h).bind fun _ s h => .ok (z _ s h))
theorem fit_skip : Post (InsP s0) (skip s) :=
  (keep_take (fit_stb s0) _ s h).bind fun _ s h => (keep_num (fit_stb s0) s h).bind fun n s h => (keep_take (fit_stb s0) _ s h).bind fun _ s h => (post_operation (fit_stb s0) _ s h).bind fun x s h =>
    .ok ⟨h.1, ⟨by show (1 : Int) ≤ 8; omega, by show (8 : Int) ≤ 8; omega⟩, zero_reg, ⟨Int.le_refl _, fun hh => absurd hh (by show ¬ (0 : Int) < 0; omega)⟩, h.2.1, h.2.2⟩
theorem fit_source : Post (InsP s0) (source s) := by
  unfold source
  simp only
  exact .ite (fit_load s0 s h) (.ite (fit_move s0 s h) (.ite (fit_move s0 s h) (.ite (fit_swap s0 s h) (.ite (fit_fetch s0 s h) (.ite (fit_cas s0 s h) .bad)))))
theorem fit_assignment : Post (InsP s0) (assignment s) :=
  (post_reg (fit_stb s0) s h).bind fun d s h => (keep_take (fit_stb s0) _ s h.1).bind fun _ s h' => (fit_source s0 s h').bind fun x s h'' => .ok ⟨h''.1, h''.2.op, h.2, h''.2.loc, h''.2.a, h''.2.b⟩
theorem fit_ins : Post (InsP s0) (ins s) := by
  unfold ins
  simp only
  exact .ite (fit_store s0 s h) (.ite (fit_assignment s0 s h) (.ite (fit_fence s0 s h) (.ite (fit_skip s0 s h) .bad)))
end
end PX
end Go.Proofs.Ytglbmiadgdadfaa
end

section
/- What a parsed program respects: its lines. Pure. -/
namespace Go.Proofs.Ytglbmiadgdadfaa
open Go Go.RowKit
namespace PX
theorem Fit.sameLocs {s : S} (h : Fit s) : s.locs.length ≤ s.locs.length := Nat.le_refl _
theorem post_word (s0 s : S) (h : Fit s ∧ s.done = s0.done ∧ s0.locs.length ≤ s.locs.length) : Post (fun t s' => (Fit s' ∧ s'.done = s0.done ∧ s0.locs.length ≤ s'.locs.length) ∧ t.x.size ≠ 0) (takeWord s) := by
  have k := keep_takeWord (fit_stb s0) s h
  refine k.and ?_
  unfold takeWord takeIf
  split
  · rename_i hk
    have hk' : (next s).k = 1 := by simpa using hk
    have hne : s.rest ≠ [] := fun e => by
      unfold next at hk'
      rw [e] at hk'
      exact absurd hk' (by show ¬ (0 : Int) = 1; omega)
    exact .ok ((h.1.toks _ (next_mem hne)).2 hk')
  · exact .bad
section
variable {s : S} (h : Fit s)
include h
theorem fit_titleLine (hd : s.done = 0) : Post (fun _ s' => Fit s') (titleLine s) := by
  have hi := inv_titleLine h.inv hd
  suffices k : Post (fun _ s' => Inv s' → Fit s') (titleLine s) from (hi.and k).mono fun _ s' x => x.2 x.1.1
  unfold titleLine
  refine (keep_take (fit_stb s) _ s ⟨h, rfl, Nat.le_refl _⟩).bind fun _ s1 h1 => (post_word s s1 h1).bind fun t s2 h2 => ?_
  obtain ⟨⟨h2, hd2, _⟩, ht⟩ := h2
  have h3 : Fit { s2 with name := t.x } := ⟨⟨h2.inv.opn, h2.inv.l6, h2.inv.done, h2.inv.t4, h2.inv.i12, h2.inv.some_⟩, h2.toks, h2.names, h2.nodup, h2.ilen, h2.ins, fun _ => ht, h2.ask, h2.deep⟩
  refine ((keep_take (fit_stb { s2 with name := t.x }) _ _ ⟨h3, rfl, Nat.le_refl _⟩).and (keep_take (lv_stb { s2 with name := t.x }) _ _ (Lv.refl _))).bind fun _ s4 h4 => .ok fun hv => ?_
  obtain ⟨⟨h4, _⟩, hl⟩ := h4
  refine ⟨hv, h4.toks, h4.names, h4.nodup, h4.ilen, h4.ins, fun _ => ?_, fun hh => ?_, fun hh => ?_⟩
  · show s4.name.size ≠ 0
    rw [hl.2.1]; exact ht
  · have : (1 : Int) = 4 := hh; omega
  · have : (1 : Int) = 4 := hh; omega
theorem fit_value : Post (fun _ s' => Fit s' ∧ s'.done = s.done) (value s) := by
  unfold value
  refine (keep_loc (fit_stb s) s ⟨h, rfl, Nat.le_refl _⟩).bind fun l s1 h1 => ?_
  split
  · exact .bad
  · refine (keep_take (fit_stb s) _ s1 h1).bind fun _ s2 h2 => (keep_num (fit_stb s) s2 h2).bind fun v s3 h3 => .ok ?_
    refine ⟨⟨⟨h3.1.inv.opn, h3.1.inv.l6, h3.1.inv.done, h3.1.inv.t4, h3.1.inv.i12, h3.1.inv.some_⟩, h3.1.toks, h3.1.names, h3.1.nodup, ?_, h3.1.ins, h3.1.named, h3.1.ask, h3.1.deep⟩, h3.2.1⟩
    show (s3.init.set _ _).length = s3.locs.length
    rw [List.length_set]; exact h3.1.ilen
end
theorem fit_values : ∀ (n : Nat) (s : S), Fit s → Post (fun _ s' => Fit s' ∧ s'.done = s.done) (values n s)
  | 0, s, h => .ok ⟨h, rfl⟩
  | n + 1, s, h => by
    unfold values
    refine (keep_takes (fit_stb s) _ s ⟨h, rfl, Nat.le_refl _⟩).bind fun b s1 h1 => ?_
    split
    · exact .ok ⟨h1.1, h1.2.1⟩
    · exact (fit_value h1.1).bind fun _ s2 h2 => (fit_values n s2 h2.1).mono fun _ s3 h3 => ⟨h3.1, by rw [h3.2, h2.2, h1.2.1]⟩
theorem post_deep (at_ : Int) (s : S) : Post (fun c _ => deep c ≤ 20) (lastCond at_ s) := by
  unfold lastCond
  refine Post.bind (Q := fun _ _ => True) (fun _ _ _ => trivial) fun c s _ => Post.bind (Q := fun _ _ => True) (fun _ _ _ => trivial) fun _ s _ => ?_
  split
  · exact .bad
  · exact .ok (by omega)
theorem ask_sym {t : TokD} {k : ByteArray} (hk : k = kSome ∨ k = kNone ∨ k = kAll) (h : sy t = k) : t.x = k := by
  have n1 : k ≠ sNAME := by rcases hk with rfl | rfl | rfl <;> decide
  have n2 : k ≠ sREG := by rcases hk with rfl | rfl | rfl <;> decide
  have n3 : k ≠ sNUM := by rcases hk with rfl | rfl | rfl <;> decide
  have n4 : k ≠ sEND := by rcases hk with rfl | rfl | rfl <;> decide
  have n5 : k ≠ sNo := by rcases hk with rfl | rfl | rfl <;> decide
  unfold sy at h
  by_cases h1 : t.k = 1
  · rw [if_pos h1] at h
    unfold wsy at h
    by_cases hq : LX.keptB (bsOf t.x) = true
    · rw [if_pos hq] at h; exact h
    · rw [if_neg hq] at h
      by_cases hn : LX.nameB (bsOf t.x) = true
      · rw [if_pos hn] at h; exact absurd h.symm n1
      · rw [if_neg hn] at h
        by_cases hr : LX.regOk (bsOf t.x) = true
        · rw [if_pos hr] at h; exact absurd h.symm n2
        · rw [if_neg hr] at h; exact absurd h.symm n5
  · rw [if_neg h1] at h
    by_cases h2 : t.k = 2
    · rw [if_pos h2] at h; exact absurd h.symm n3
    · rw [if_neg h2] at h
      by_cases h3 : t.k = 3
      · rw [if_pos h3] at h; exact h
      · rw [if_neg h3] at h
        by_cases h4 : t.k = 4
        · rw [if_pos h4] at h; exact absurd h.symm n4
        · rw [if_neg h4] at h; exact absurd h.symm n5
theorem post_ask (s : S) : Post (fun t _ => 1 ≤ askOf t.x ∧ askOf t.x ≤ 3) (take [kSome, kNone, kAll] s) := by
  unfold take takeIf
  split
  · rename_i hf
    unfold isS at hf
    simp only [List.any_cons, List.any_nil, Bool.or_false, Bool.or_eq_true, PP.bbeq, decide_eq_true_eq] at hf
    refine .ok ?_
    rcases hf with hf | hf | hf
    · rw [ask_sym (.inl rfl) hf.symm]; decide
    · rw [ask_sym (.inr (.inl rfl)) hf.symm]; decide
    · rw [ask_sym (.inr (.inr rfl)) hf.symm]; decide
  · exact .bad
section
variable {s : S} (h : Fit s)
include h
theorem fit_initLine (hd : 1 ≤ s.done) : Post (fun _ s' => Fit s') (initLine s) := by
  suffices k : Post (fun _ s' => Inv s' → Fit s') (initLine s) from ((inv_initLine h.inv).and k).mono fun _ s' x => x.2 x.1
  unfold initLine
  refine (keep_take (fit_stb s) _ s ⟨h, rfl, Nat.le_refl _⟩).bind fun _ s1 h1 => (fit_value h1.1).bind fun _ s2 h2 => (fit_values _ s2 h2.1).bind fun _ s3 h3 => .ok fun hv => ?_
  obtain ⟨h3, hd3⟩ := h3
  refine ⟨hv, h3.toks, h3.names, h3.nodup, h3.ilen, h3.ins, fun _ => h3.named (by rw [hd3, h2.2, h1.2.1]; exact hd), fun hh => ?_, fun hh => ?_⟩
  · have : (2 : Int) = 4 := hh; omega
  · have : (2 : Int) = 4 := hh; omega
theorem fit_threadLine (hd : 1 ≤ s.done) : Post (fun _ s' => Fit s') (threadLine s) := by
  suffices k : Post (fun _ s' => Inv s' → Fit s') (threadLine s) from ((inv_threadLine h.inv).and k).mono fun _ s' x => x.2 x.1
  unfold threadLine
  refine (keep_take (fit_stb s) _ s ⟨h, rfl, Nat.le_refl _⟩).bind fun t s1 h1 => ?_
  split
  · exact .bad
  · refine (keep_take (fit_stb s) _ s1 h1).bind fun _ s2 h2 => .ok fun hv => ?_
    obtain ⟨h2, hd2, _⟩ := h2
    refine ⟨hv, h2.toks, h2.names, h2.nodup, h2.ilen, fun k hk x hx => ?_, fun _ => h2.named (by rw [hd2]; exact hd), fun hh => ?_, fun hh => ?_⟩
    · rcases List.mem_append.1 hk with hk | hk
      · exact h2.ins k hk x hx
      · rw [List.mem_singleton.1 hk] at hx; cases hx
    · have : (3 : Int) = 4 := hh; omega
    · have : (3 : Int) = 4 := hh; omega
theorem fit_insLine (h3 : 3 ≤ s.done) : Post (fun _ s' => Fit s') (insLine s) := by
  unfold insLine
  split
  · exact .bad
  · rename_i hn
    refine (Post.and (fit_ins s s ⟨h, rfl, Nat.le_refl _⟩) (keep_ins (lv_stb s) s (Lv.refl s))).bind fun x s1 h1 => ?_
    obtain ⟨⟨⟨h1, _⟩, hx⟩, hl⟩ := h1
    obtain ⟨li, k, hth⟩ : ∃ li k, s.threads = li ++ [k] := ⟨_, _, (List.dropLast_concat_getLast (h.inv.some_ h3)).symm⟩
    have hth1 : s1.threads = li ++ [k] := by rw [hl.2.2.1]; exact hth
    have hk : k.length ≠ 12 := by rw [hth] at hn; simpa using hn
    have hm : ∀ m ∈ s1.threads.dropLast ++ [s1.threads.getLastD [] ++ [x]], m ∈ s1.threads ∨ m = k ++ [x] := fun m hm => by
      rw [hth1] at hm ⊢
      simp at hm ⊢
      rcases hm with hm | hm
      · exact .inl (.inl hm)
      · exact .inr hm
    have hkm : k ∈ s1.threads := by rw [hth1]; simp
    have h2 : Fit { s1 with threads := s1.threads.dropLast ++ [s1.threads.getLastD [] ++ [x]] } := by
      refine ⟨⟨h1.inv.opn, h1.inv.l6, h1.inv.done, ?_, fun m hmm => ?_, fun _ => by simp⟩, h1.toks, h1.names, h1.nodup, h1.ilen, fun m hmm y hy => ?_, h1.named, h1.ask, h1.deep⟩
      · show (s1.threads.dropLast ++ [_]).length ≤ 4
        have := h1.inv.t4
        rw [hth1] at this ⊢
        simp at this ⊢; omega
      · rcases hm m hmm with hmm | rfl
        · exact h1.inv.i12 m hmm
        · have := h1.inv.i12 k hkm
          simp; omega
      · rcases hm m hmm with hmm | rfl
        · exact h1.ins m hmm y hy
        · rcases List.mem_append.1 hy with hy | hy
          · exact h1.ins k hkm y hy
          · rw [List.mem_singleton.1 hy]; exact hx
    exact (keep_take (fit_stb _) _ _ ⟨h2, rfl, Nat.le_refl _⟩).bind fun _ s4 h4 => .ok h4.1
theorem fit_queryLine (h3 : 3 ≤ s.done) : Post (fun _ s' => Fit s') (queryLine s) := by
  suffices k : Post (fun _ s' => Inv s' → Fit s') (queryLine s) from ((inv_queryLine h.inv h3).and k).mono fun _ s' x => x.2 x.1
  unfold queryLine
  refine ((keep_take (fit_stb s) _ s ⟨h, rfl, Nat.le_refl _⟩).and (post_ask s)).bind fun t s1 h1 => ?_
  obtain ⟨⟨h1, hd1, _⟩, ha⟩ := h1
  have e : (if askOf t.x = 0 then s1.ask else askOf t.x) = askOf t.x := if_neg (by omega)
  rw [e]
  have hn4 : s1.done ≠ 4 ∨ s1.done = 4 := by omega
  have h2 : Fit { s1 with ask := askOf t.x } := ⟨⟨h1.inv.opn, h1.inv.l6, h1.inv.done, h1.inv.t4, h1.inv.i12, h1.inv.some_⟩, h1.toks, h1.names, h1.nodup, h1.ilen, h1.ins, h1.named, fun _ => ha, h1.deep⟩
  refine (((keep_lastCond (fit_stb { s1 with ask := askOf t.x }) _ _ ⟨h2, rfl, Nat.le_refl _⟩).and (keep_lastCond (lv_stb { s1 with ask := askOf t.x }) _ _ (Lv.refl _))).and (post_deep _ _)).bind fun c s3 h4 => .ok fun hv => ?_
  obtain ⟨⟨⟨h4, hd4, _⟩, hl⟩, hdp⟩ := h4
  refine ⟨hv, h4.toks, h4.names, h4.nodup, h4.ilen, h4.ins, fun _ => h4.named ?_, fun _ => ?_, fun _ => hdp⟩
  · rw [hd4]; show 1 ≤ s1.done; rw [hd1]; omega
  · show 1 ≤ s3.ask ∧ s3.ask ≤ 3
    rw [hl.2.2.2.1]; exact ha
theorem fit_line : Post (fun _ s' => Fit s') (line s) := by
  rw [line_eq]
  generalize PX.sy (PX.next s) = y
  unfold lineB
  have hd := h.inv.done
  by_cases h0 : s.done = 0
  · rw [if_pos h0]
    exact .ite (fit_titleLine h h0) (post_wrong s)
  rw [if_neg h0]
  by_cases h1 : s.done = 1
  · rw [if_pos h1]
    exact .ite (fit_initLine h (by omega)) (.ite (fit_threadLine h (by omega)) (post_wrong s))
  rw [if_neg h1]
  by_cases h2 : s.done = 2
  · rw [if_pos h2]
    exact .ite (fit_threadLine h (by omega)) (post_wrong s)
  rw [if_neg h2]
  have h3 : 3 ≤ s.done := by omega
  exact .ite (fit_threadLine h (by omega)) (.ite (fit_insLine h h3) (.ite (fit_insLine h h3) (.ite (fit_insLine h h3) (.ite (fit_insLine h h3) (.ite (fit_queryLine h h3) (.ite (fit_queryLine h h3) (.ite (fit_queryLine h h3) (post_wrong s))))))))
end
theorem fit_prog : ∀ (n : Nat) (s : S), Fit s → s.rest.length < n → Post (fun _ s' => Fit s' ∧ s'.done = 4) (prog n s)
  | 0, s, _, hn => by omega
  | n + 1, s, h, hn => by
    unfold prog
    split
    · rename_i hd
      exact .ok ⟨h, hd⟩
    · exact ((fit_line h).and (line_lt s)).bind fun _ s1 h1 => fit_prog n s1 h1.1 (by omega)
end PX
end Go.Proofs.Ytglbmiadgdadfaa
end

section
/- Parse, of any text. -/
namespace Go.Proofs.Ytglbmiadgdadfaa
open Go.RowKit Go.Shelf

attribute [local go_sem] Oper.semAt_some
namespace PP
/-- What Parse answers. -/
def ParsePost (s : ByteArray) (w : World) (e : Ending) (w' : World) : Prop :=
  Below w.heap.size w w' ∧ match PX.parse s with
    | .ok _ st => ∃ b h, w.heap.size ≤ b ∧ e = .returned (.tuple #[progV st h, .int .i64 0, .int .i64 0]) ∧ PgM w' b st h
    | .bad p x => e = .returned (.tuple #[.agg progZ, .int .i64 p, .int .i64 x])
theorem PgM.shape {W : World} {b : Nat} {st : PX.S} {h : Hd} (P5 : PgM W b st h) : ∃ (a2 a6 a7 xa : Option Addr) (n2 p2 n6 p6 p7 xl xp : Nat) (xc : CV), progV st h = .agg #[.string st.name, .slice a2 n2 p2, .slice a6 n6 p6, .slice a7 st.threads.length p7, .int .u8 st.ask, .int .u8 xc.k, .int .u8 xc.t, .int .u8 xc.n, .int .u8 xc.v, .slice xa xl xp] := by
  obtain ⟨xc, k0, k1, k2, k3, k4, k5⟩ := P5.cnd
  obtain ⟨xa, xl, xp, hu⟩ := k5.slice
  rw [hu] at k4
  obtain ⟨a2, n2, p2, hvl⟩ : ∃ a n cap, h.vl = .slice a n cap := by
    rcases P5.locs.2 with ⟨e, _⟩ | ⟨g, cap, cur, e, _⟩
    · exact ⟨_, _, _, e⟩
    · exact ⟨_, _, _, e⟩
  obtain ⟨a6, n6, p6, hvi⟩ : ∃ a n cap, h.vi = .slice a n cap := by
    rcases P5.init.2 with ⟨e, _⟩ | ⟨g, cap, cur, e, _⟩
    · exact ⟨_, _, _, e⟩
    · exact ⟨_, _, _, e⟩
  obtain ⟨a7, p7, hvt⟩ := P5.thr.sl
  exact ⟨a2, a6, a7, xa, n2, p2, n6, p6, p7, xl, xp, xc, by unfold progV; rw [hvl, hvi, hvt, k0, k1, k2, k3, k4]⟩
theorem parse_results (tmps : Array Value) (W : World) (k : Nat) (cs : Array Value) (p x : Int) (hs : cs.size = 10) (h2 : tmps[2]?.getD undef = .pointer (some ⟨k, 0, none⟩)) (h3 : tmps[3]?.getD undef = .int .i64 p) (h4 : tmps[4]?.getD undef = .int .i64 x)
    (r0 : W.heap[k]? = some (.cells cs 39 (0, 0))) :
    (results Try.f12 tmps).run Try.prog W = .ok (.tuple #[.agg cs, .int .i64 p, .int .i64 x]) W := by
  have l0 := run_loadVar_row (P := Try.prog) W k 39 39 cs (0, 0) _ r0 Try.underlying39 rfl (by rw [sizeProg, hs])
  simp [results, Try.results12, h2, h3, h4, asAddr, l0]
set_option maxRecDepth 100000 in
set_option maxHeartbeats 16000000 in
theorem parse_any (s : ByteArray) (w : World) : Calls Try.prog 12 #[.string s] w (ParsePost s w) := by
  have z0 := row_alloc (heap_alloc_new w (.cells progZ 39)) (.cells (parZ true (.slice none 0 0)) 54)
  have zb := heap_alloc_new (w.alloc (.cells progZ 39)) (.cells (parZ true (.slice none 0 0)) 54)
  have B0 := ((Below.refl w.heap.size w).alloc (Nat.le_refl _) (.cells progZ 39)).alloc (by simp) (.cells (parZ true (.slice none 0 0)) 54)
  simp only [World.size_alloc] at zb
  have CR := readProg_any s (w.heap.size + 1) _ zb
  unfold ReadPost at CR
  unfold ParsePost
  unfold progZ parZ at CR B0 z0
  have ht2 : 39 ∉ T2 := by simp [T2]
  replace B0 := Lib.hid B0
  rcases hp : PX.parse s with ⟨u, st⟩ | ⟨p, x⟩
  · rw [hp] at CR
    replace CR := Lib.hid CR
    go_enter Try.func12, Try.ntmps12
    go_wp2_with (first
      | (go_at_call 17; refine (CR.out).mono ?_; rintro e w1 ⟨F1, h, rfl, P1⟩
         have r0 := F1.box z0 (by omega) ht2
         have B1 := Lib.hid (B0.out.trans ((Fr.below F1 (by simp)).mono (by omega)))
         obtain ⟨a2, a6, a7, xa, n2, p2, n6, p6, p7, xl, xp, xc, hv⟩ := P1.shape
         rw [hv]
         have d0 := cell_of_row _ w.heap.size 0 _ _ _ r0
         have d1 := cell_of_row _ w.heap.size 1 _ _ _ r0
         have d2 := cell_of_row _ w.heap.size 2 _ _ _ r0
         have d3 := cell_of_row _ w.heap.size 3 _ _ _ r0
         have d4 := cell_of_row _ w.heap.size 4 _ _ _ r0
         have d5 := cell_of_row _ w.heap.size 5 _ _ _ r0
         have d6 := cell_of_row _ w.heap.size 6 _ _ _ r0
         have d7 := cell_of_row _ w.heap.size 7 _ _ _ r0
         have d8 := cell_of_row _ w.heap.size 8 _ _ _ r0
         have d9 := cell_of_row _ w.heap.size 9 _ _ _ r0
         simp only [List.getElem?_toArray, List.getElem?_cons_zero, List.getElem?_cons_succ] at d0 d1 d2 d3 d4 d5 d6 d7 d8 d9
         have f0 := fun j => frozen_of_row _ w.heap.size j _ _ r0
         replace r0 := Lib.hid r0
         replace P1 := Lib.hid P1
         replace hv := Lib.hid hv))
    have q0 := setP_row (.string st.name) (.slice a2 n2 p2) (.slice a6 n6 p6) (.slice a7 st.threads.length p7) (.int .u8 st.ask) (.int .u8 xc.k) (.int .u8 xc.t) (.int .u8 xc.n) (.int .u8 xc.v) (.slice xa xl xp) r0.out
    have hPk : PgM (setP w1 w.heap.size (.string st.name) (.slice a2 n2 p2) (.slice a6 n6 p6) (.slice a7 st.threads.length p7) (.int .u8 st.ask) (.int .u8 xc.k) (.int .u8 xc.t) (.int .u8 xc.n) (.int .u8 xc.v) (.slice xa xl xp)) (w.heap.size + 1) st h := P1.out.keep fun i D t hi ht hh => setP_keep _ _ _ _ _ _ _ _ _ _ hh (by omega)
    have hB := (setP_fr (T := []) (b := w.heap.size) (.string st.name) (.slice a2 n2 p2) (.slice a6 n6 p6) (.slice a7 st.threads.length p7) (.int .u8 st.ask) (.int .u8 xc.k) (.int .u8 xc.t) (.int .u8 xc.n) (.int .u8 xc.v) (.slice xa xl xp) (Fr.of_below B1.out) (Nat.le_refl _)).below (Nat.le_refl _)
    obtain ⟨Y, hY⟩ : ∃ Y, setP w1 w.heap.size (.string st.name) (.slice a2 n2 p2) (.slice a6 n6 p6) (.slice a7 st.threads.length p7) (.int .u8 st.ask) (.int .u8 xc.k) (.int .u8 xc.t) (.int .u8 xc.n) (.int .u8 xc.v) (.slice xa xl xp) = Y := ⟨_, rfl⟩
    rw [hY] at q0 hPk hB
    unfold setP at hY
    rw [hY]
    clear hY
    have hR : ParsePost s w (.returned (.tuple #[.agg #[.string st.name, .slice a2 n2 p2, .slice a6 n6 p6, .slice a7 st.threads.length p7, .int .u8 st.ask, .int .u8 xc.k, .int .u8 xc.t, .int .u8 xc.n, .int .u8 xc.v, .slice xa xl xp], .int .i64 0, .int .i64 0])) Y := by
      unfold ParsePost
      rw [hp]
      exact ⟨hB, w.heap.size + 1, h, by omega, by rw [hv.out], hPk⟩
    unfold ParsePost at hR
    rw [hp] at hR
    exact bodyPost_ret (v := .tuple #[.agg #[.string st.name, .slice a2 n2 p2, .slice a6 n6 p6, .slice a7 st.threads.length p7, .int .u8 st.ask, .int .u8 xc.k, .int .u8 xc.t, .int .u8 xc.n, .int .u8 xc.v, .slice xa xl xp], .int .i64 0, .int .i64 0]) (parse_results _ _ w.heap.size #[.string st.name, .slice a2 n2 p2, .slice a6 n6 p6, .slice a7 st.threads.length p7, .int .u8 st.ask, .int .u8 xc.k, .int .u8 xc.t, .int .u8 xc.n, .int .u8 xc.v, .slice xa xl xp] 0 0 rfl rfl rfl rfl q0) rfl hR
  · rw [hp] at CR
    replace CR := Lib.hid CR
    go_enter Try.func12, Try.ntmps12
    go_wp2_with (first
      | (go_at_call 17; refine (CR.out).mono ?_; rintro e w1 ⟨F1, rfl⟩
         have r0 := F1.box z0 (by omega) ht2
         have B1 := Lib.hid (B0.out.trans ((Fr.below F1 (by simp)).mono (by omega)))
         have d0 := cell_of_row _ w.heap.size 0 _ _ _ r0
         have d1 := cell_of_row _ w.heap.size 1 _ _ _ r0
         have d2 := cell_of_row _ w.heap.size 2 _ _ _ r0
         have d3 := cell_of_row _ w.heap.size 3 _ _ _ r0
         have d4 := cell_of_row _ w.heap.size 4 _ _ _ r0
         have d5 := cell_of_row _ w.heap.size 5 _ _ _ r0
         have d6 := cell_of_row _ w.heap.size 6 _ _ _ r0
         have d7 := cell_of_row _ w.heap.size 7 _ _ _ r0
         have d8 := cell_of_row _ w.heap.size 8 _ _ _ r0
         have d9 := cell_of_row _ w.heap.size 9 _ _ _ r0
         simp only [List.getElem?_toArray, List.getElem?_cons_zero, List.getElem?_cons_succ] at d0 d1 d2 d3 d4 d5 d6 d7 d8 d9
         have f0 := fun j => frozen_of_row _ w.heap.size j _ _ r0
         replace r0 := Lib.hid r0))
    have q0 := setP_row (.string ⟨#[]⟩) (.slice none 0 0) (.slice none 0 0) (.slice none 0 0) (.int .u8 0) (.int .u8 0) (.int .u8 0) (.int .u8 0) (.int .u8 0) (.slice none 0 0) r0.out
    have hB := (setP_fr (T := []) (b := w.heap.size) (.string ⟨#[]⟩) (.slice none 0 0) (.slice none 0 0) (.slice none 0 0) (.int .u8 0) (.int .u8 0) (.int .u8 0) (.int .u8 0) (.int .u8 0) (.slice none 0 0) (Fr.of_below B1.out) (Nat.le_refl _)).below (Nat.le_refl _)
    obtain ⟨Y, hY⟩ : ∃ Y, setP w1 w.heap.size (.string ⟨#[]⟩) (.slice none 0 0) (.slice none 0 0) (.slice none 0 0) (.int .u8 0) (.int .u8 0) (.int .u8 0) (.int .u8 0) (.int .u8 0) (.slice none 0 0) = Y := ⟨_, rfl⟩
    rw [hY] at q0 hB
    unfold setP at hY
    rw [hY]
    clear hY
    exact bodyPost_ret (v := .tuple #[.agg progZ, .int .i64 p, .int .i64 x]) (parse_results _ _ w.heap.size progZ p x rfl rfl rfl rfl q0) rfl ⟨hB, rfl⟩
end PP
end Go.Proofs.Ytglbmiadgdadfaa
end
