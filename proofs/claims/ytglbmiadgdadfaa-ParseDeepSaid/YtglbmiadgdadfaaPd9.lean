/- ParRead2, ParReadC in one text, for the claim. -/
import Derived.Test.YtglbmiadgdadfaaPd8
import Derived.Test.YtglbmiadgdadfaaPd7

section
/- Parsing a text as a program. -/
namespace Go.Proofs.Ytglbmiadgdadfaa
open Go.RowKit Go.Shelf

attribute [local go_sem] Oper.semAt_some
namespace PP
def progZ : Array Value := #[.string ⟨#[]⟩, .slice none 0 0, .slice none 0 0, .slice none 0 0, .int .u8 0, .int .u8 0, .int .u8 0, .int .u8 0, .int .u8 0, .slice none 0 0]
def parZ (o : Bool) (vl : Value) : Array Value := #[.slice none 0 0, .int .i64 0, vl, .bool o, .string ⟨#[]⟩, .slice none 0 0, .slice none 0 0, .slice none 0 0, .int .u8 0, .int .u8 0, .int .u8 0, .int .u8 0, .int .u8 0, .slice none 0 0, .int .u8 0]
def hdZ (g : Nat) (vl : Value) : Hd := ⟨g, vl, .slice none 0 0, .slice none 0 0, .int .u8 0, .int .u8 0, .int .u8 0, .int .u8 0, .slice none 0 0⟩
/-- What parsing a text as a program answers. -/
def ReadPost (s : ByteArray) (b : Nat) (w : World) (e : Ending) (w' : World) : Prop :=
  Fr T2 b w w' ∧ match PX.parse s with
    | .ok _ st => ∃ h, e = .returned (.tuple #[progV st h, .int .i64 0, .int .i64 0]) ∧ PgM w' b st h
    | .bad p x => e = .returned (.tuple #[.agg progZ, .int .i64 p, .int .i64 x])
theorem parse_eq (s : ByteArray) : PX.parse s = if (LX.out (bsOf s)).2.2 = 0 then PX.prog ((toks s).length + 1) (PX.start s [] true) else .bad ((LX.out (bsOf s)).2.1 : Int) ((LX.out (bsOf s)).2.2 : Int) := rfl
theorem lt_start {W : World} {b g : Nat} {v : Value} {s : ByteArray} (hb : W.heap[b]? = some (.cells (psC v (PX.start s [] true) (hdZ g (.slice none 0 0))) 54 (0, 0))) (ht : TkR W g v (toks s)) (hg : g < W.heap.size) : LT W b (PX.start s [] true) (hdZ g (.slice none 0 0)) :=
  ⟨⟨⟨v, hb, ht, toks_ok s, hg⟩, ⟨fun _ => ⟨World.ownsRow_nil _ _ _ _, Nat.zero_le _⟩, fun h => by cases h⟩, fun _ => World.ownsRow_nil _ _ _ _⟩, rfl, ThrM.zero _ _, ⟨0, 0, 0, 0, .slice none 0 0⟩, rfl, rfl, rfl, rfl, rfl, condM_leaf _ _ _ _ _ _⟩
theorem readProg_results (tmps : Array Value) (W : World) (k : Nat) (cs : Array Value) (p x : Int) (hs : cs.size = 10) (h6 : tmps[6]?.getD undef = .pointer (some ⟨k, 0, none⟩)) (h7 : tmps[7]?.getD undef = .pointer (some ⟨k + 1, 0, none⟩)) (h8 : tmps[8]?.getD undef = .pointer (some ⟨k + 1 + 1, 0, none⟩))
    (r0 : W.heap[k]? = some (.cells cs 39 (0, 0))) (r1 : W.heap[k + 1]? = some (.cells #[.int .i64 p] 3 (0, 0))) (r2 : W.heap[k + 1 + 1]? = some (.cells #[.int .i64 x] 30 (0, 0))) :
    (results Try.f17 tmps).run Try.prog W = .ok (.tuple #[.agg cs, .int .i64 p, .int .i64 x]) W := by
  have l0 := run_loadVar_row (P := Try.prog) W k 39 39 cs (0, 0) _ r0 Try.underlying39 rfl (by rw [sizeProg, hs])
  have c1 := cell_of_row _ (k + 1) 0 _ _ _ r1
  have c2 := cell_of_row _ (k + 1 + 1) 0 _ _ _ r2
  simp only [List.getElem?_toArray, List.getElem?_cons_zero, List.getElem?_cons_succ] at c1 c2
  have l1 : (loadVar 3 ⟨k + 1, 0, none⟩).run Try.prog W = .ok (.int .i64 p) W := by simp [go_sem, c1]
  have l2 : (loadVar 30 ⟨k + 1 + 1, 0, none⟩).run Try.prog W = .ok (.int .i64 x) W := by simp [go_sem, c2]
  simp [results, Try.results17, h6, h7, h8, asAddr, l0, l1, l2]
theorem readProg_door {R : Ending → World → Prop} {a : Act} {W : World} {k : Nat} {cs : Array Value} {p x : Int} (hs : cs.size = 10) (hd : a.defers = []) (h6 : a.tmps[6]?.getD undef = .pointer (some ⟨k, 0, none⟩)) (h7 : a.tmps[7]?.getD undef = .pointer (some ⟨k + 1, 0, none⟩)) (h8 : a.tmps[8]?.getD undef = .pointer (some ⟨k + 1 + 1, 0, none⟩))
    (r0 : W.heap[k]? = some (.cells cs 39 (0, 0))) (r1 : W.heap[k + 1]? = some (.cells #[.int .i64 p] 3 (0, 0))) (r2 : W.heap[k + 1 + 1]? = some (.cells #[.int .i64 x] 30 (0, 0)))
    (hR : R (.returned (.tuple #[.agg cs, .int .i64 p, .int .i64 x])) W) : bodyPostD Try.prog Try.f17 R Exit.ret a W := by
  show Leaves _ _ _ _ a.defers _ _
  rw [hd]
  exact ⟨_, readProg_results a.tmps W k cs p x hs h6 h7 h8 r0 r1 r2, hR⟩
theorem readProg_done {R : Ending → World → Prop} {a : Act} {W : World} {k : Nat} {cs : Array Value} {p x : Int} (hs : cs.size = 10) (hd : a.defers = [{ target := .fn (.func 23) #[.pointer (some ⟨k + 1, 0, none⟩), .pointer (some ⟨k + 1 + 1, 0, none⟩)], args := #[] }]) (h6 : a.tmps[6]?.getD undef = .pointer (some ⟨k, 0, none⟩)) (h7 : a.tmps[7]?.getD undef = .pointer (some ⟨k + 1, 0, none⟩)) (h8 : a.tmps[8]?.getD undef = .pointer (some ⟨k + 1 + 1, 0, none⟩))
    (r0 : W.heap[k]? = some (.cells cs 39 (0, 0))) (r1 : W.heap[k + 1]? = some (.cells #[.int .i64 p] 3 (0, 0))) (r2 : W.heap[k + 1 + 1]? = some (.cells #[.int .i64 x] 30 (0, 0)))
    (hR : ∀ W', Below W.heap.size W W' → R (.returned (.tuple #[.agg cs, .int .i64 p, .int .i64 x])) W') : bodyPostD Try.prog Try.f17 R Exit.ret a W := by
  show Leaves _ _ _ _ a.defers _ _
  rw [hd]
  refine leaves_cons (f := 23) (args := #[.pointer (some ⟨k + 1, 0, none⟩), .pointer (some ⟨k + 1 + 1, 0, none⟩)]) (by simp) (by simp [go_sem]) ?_
  refine (catch_idle _ _ W).mono ?_
  rintro e u' w'' ⟨rfl, rfl, rfl⟩
  exact ⟨_, readProg_results a.tmps _ k cs p x hs h6 h7 h8 (row_alloc r0 _) (row_alloc r1 _) (row_alloc r2 _), hR _ ((Below.refl _ W).alloc (Nat.le_refl _) _)⟩
theorem readProg_caught {R : Ending → World → Prop} {a : Act} {W : World} {k : Nat} {cs : Array Value} {p x v1 v2 : Int} (hs : cs.size = 10) (hd : a.defers = [{ target := .fn (.func 23) #[.pointer (some ⟨k + 1, 0, none⟩), .pointer (some ⟨k + 1 + 1, 0, none⟩)], args := #[] }]) (h6 : a.tmps[6]?.getD undef = .pointer (some ⟨k, 0, none⟩)) (h7 : a.tmps[7]?.getD undef = .pointer (some ⟨k + 1, 0, none⟩)) (h8 : a.tmps[8]?.getD undef = .pointer (some ⟨k + 1 + 1, 0, none⟩))
    (r0 : W.heap[k]? = some (.cells cs 39 (0, 0))) (r1 : W.heap[k + 1]? = some (.cells #[.int .i64 v1] 3 (0, 0))) (r2 : W.heap[k + 1 + 1]? = some (.cells #[.int .i64 v2] 30 (0, 0)))
    (hR : ∀ W', CatP W W' (k + 1) (k + 1 + 1) p x → R (.returned (.tuple #[.agg cs, .int .i64 p, .int .i64 x])) W') : bodyPostD Try.prog Try.f17 R (Exit.panic [{ v := .iface 67 (.agg #[.int .i64 p, .int .i64 x]), recovered := false }]) a W := by
  show Leaves _ _ _ _ a.defers _ _
  rw [hd]
  refine leaves_cons (f := 23) (args := #[.pointer (some ⟨k + 1, 0, none⟩), .pointer (some ⟨k + 1 + 1, 0, none⟩)]) (by simp) (by simp [go_sem]) ?_
  refine (catch_panicking (k + 1) (k + 1 + 1) p x W v1 v2 r1 r2 (by omega)).mono ?_
  rintro e u' w'' ⟨rfl, rfl, hc⟩
  show Leaves _ _ _ _ [] .returning _
  exact ⟨_, readProg_results a.tmps _ k cs p x hs h6 h7 h8 (hc.block k _ r0 (by omega) (by omega)) hc.c1 hc.c2, hR _ hc⟩
set_option maxRecDepth 100000 in
set_option maxHeartbeats 16000000 in
theorem readProg_any (s : ByteArray) (b : Nat) (w : World) (hb : w.heap[b]? = some (.cells (parZ true (.slice none 0 0)) 54 (0, 0))) :
    Calls Try.prog 17 #[.pointer (some ⟨b, 0, none⟩), .string s, .func (.func 18) #[] #[]] w (ReadPost s b w) := by
  have hbl := lt_of_heap hb
  have B0 := (((Below.refl w.heap.size w).alloc (Nat.le_refl _) (.cells progZ 39)).alloc (by simp) (.cells #[.int .i64 0] 3)).alloc (by simp; omega) (.cells #[.int .i64 0] 30)
  have z0 := row_alloc (row_alloc (heap_alloc_new w (.cells progZ 39)) (.cells #[.int .i64 0] 3)) (.cells #[.int .i64 0] 30)
  have z1 := row_alloc (heap_alloc_new (w.alloc (.cells progZ 39)) (.cells #[.int .i64 0] 3)) (.cells #[.int .i64 0] 30)
  have z2 := heap_alloc_new ((w.alloc (.cells progZ 39)).alloc (.cells #[.int .i64 0] 3)) (.cells #[.int .i64 0] 30)
  have CL := lex_any s (((w.alloc (.cells progZ 39)).alloc (.cells #[.int .i64 0] 3)).alloc (.cells #[.int .i64 0] 30))
  simp only [World.size_alloc] at z1 z2
  obtain ⟨pl, hpl⟩ : ∃ pl, (LX.out (bsOf s)).2.1 = pl := ⟨_, rfl⟩
  obtain ⟨er, her⟩ : ∃ er, (LX.out (bsOf s)).2.2 = er := ⟨_, rfl⟩
  unfold LexPost at CL
  rw [hpl, her] at CL
  have hmf : ∀ (fn : Fn) (first cap : Array Value) (w : World), (Instr.makeFunc fn first cap).run Try.prog w = .ok (.func fn first cap) w := fun _ _ _ _ => rfl
  unfold progZ at CL B0 z0 z1 z2
  by_cases he : er = 0
  · subst he
    have hP : PX.parse s = PX.prog ((toks s).length + 1) (PX.start s [] true) := by rw [parse_eq, if_pos her]
    replace B0 := Lib.hid B0
    replace CL := Lib.hid CL
    replace z0 := Lib.hid z0
    replace z1 := Lib.hid z1
    replace z2 := Lib.hid z2
    replace hP := Lib.hid hP
    have hent : ∀ args W, (callFunc 18 args).run Try.prog W = .ok (.enter 18 args) W := enters Try.func18 (by kernel_rfl) rfl
    unfold parZ at hb
    have hlen := toks_len s
    rw [toks_length] at hlen
    have CP := Lib.hid fun g W (L : LT W b (PX.start s [] true) (hdZ g (.slice none 0 0))) => program_any b (PX.start s [] true) (hdZ g (.slice none 0 0)) W L (PX.inv_start s) (by show (toks s).length < 99999; have := toks_len s; omega)
    have t1 : ((0 : Int) != 0) = false := rfl
    replace hlen := Lib.hid hlen
    replace hb := Lib.hid hb
    go_enter_defers Try.func17, Try.ntmps17
    go_wp2_with (first
      | (go_at_call 15; refine (CL.out).mono ?_; rintro e w1 ⟨v, rfl, hown, B1⟩
         obtain ⟨g, hT, hg, va, vn, vc, rfl⟩ := tkR_own hown hlen.out (by have := B1.size; simp at this; omega)
         have y0 := (B1.block _ (lt_of_heap z0.out)).trans z0.out
         have y1 := (B1.block _ (lt_of_heap z1.out)).trans z1.out
         have y2 := (B1.block _ (lt_of_heap z2.out)).trans z2.out
         have yb := (B1.block _ (Nat.lt_of_lt_of_le hbl B0.out.size)).trans ((B0.out.block b hbl).trans hb.out)
         have c1 := cell_of_row _ _ 0 _ _ _ y1
         have c2 := cell_of_row _ _ 0 _ _ _ y2
         have f1 := frozen_of_row _ _ 0 _ _ y1
         have f2 := frozen_of_row _ _ 0 _ _ y2
         have b0 := cell_of_row _ b 0 _ _ _ yb
         have b1 := cell_of_row _ b 1 _ _ _ yb
         have fb0 := frozen_of_row _ b 0 _ _ yb
         have fb1 := frozen_of_row _ b 1 _ _ yb
         simp only [List.getElem?_toArray, List.getElem?_cons_zero, List.getElem?_cons_succ] at c1 c2 b0 b1
         have m1 : ¬ b = w.heap.size + 1 := by omega
         have m2 : ¬ b = w.heap.size + 1 + 1 := by omega
         have m3 : ¬ w.heap.size + 1 = b := by omega
         have m4 : ¬ w.heap.size + 1 + 1 = b := by omega
         replace hown := Lib.hid hown
         replace hT := Lib.hid hT
         replace y0 := Lib.hid y0
         replace y1 := Lib.hid y1
         replace y2 := Lib.hid y2
         replace yb := Lib.hid yb
         replace B1 := Lib.hid B1))
    have q0 := row_keep (row_keep (row_keep (row_keep y0.out (show w.heap.size ≠ w.heap.size + 1 by omega) 0 (.int .i64 (pl : Int))) (show w.heap.size ≠ w.heap.size + 1 + 1 by omega) 0 (.int .i64 0)) (show w.heap.size ≠ b by omega) 0 (.slice va vn vc)) (show w.heap.size ≠ b by omega) 1 (.int .i64 (s.size : Int))
    have q1 := row_keep (row_keep (row_keep (heap_setCell_same _ (w.heap.size + 1) 0 _ _ (.int .i64 (pl : Int)) y1.out) (show w.heap.size + 1 ≠ w.heap.size + 1 + 1 by omega) 0 (.int .i64 0)) (show w.heap.size + 1 ≠ b by omega) 0 (.slice va vn vc)) (show w.heap.size + 1 ≠ b by omega) 1 (.int .i64 (s.size : Int))
    have q2 := row_keep (row_keep (heap_setCell_same _ (w.heap.size + 1 + 1) 0 _ _ (.int .i64 0) (row_keep y2.out (show w.heap.size + 1 + 1 ≠ w.heap.size + 1 by omega) 0 (.int .i64 (pl : Int)))) (show w.heap.size + 1 + 1 ≠ b by omega) 0 (.slice va vn vc)) (show w.heap.size + 1 + 1 ≠ b by omega) 1 (.int .i64 (s.size : Int))
    have qb := heap_setCell_same _ b 1 _ _ (.int .i64 (s.size : Int)) (heap_setCell_same _ b 0 _ _ (.slice va vn vc) (row_keep (row_keep yb.out (show b ≠ w.heap.size + 1 by omega) 0 (.int .i64 (pl : Int))) (show b ≠ w.heap.size + 1 + 1 by omega) 0 (.int .i64 0)))
    simp only [List.setIfInBounds_toArray, List.set_cons_succ, List.set_cons_zero] at q1 q2 qb
    have hTk : TkR ((((w1.setCell ⟨w.heap.size + 1, 0, none⟩ (.int .i64 (pl : Int))).setCell ⟨w.heap.size + 1 + 1, 0, none⟩ (.int .i64 0)).setCell ⟨b, 0, none⟩ (.slice va vn vc)).setCell ⟨b, 1, none⟩ (.int .i64 (s.size : Int))) g (.slice va vn vc) (toks s) := hT.out.same fun C hC => by
      have n1 : g ≠ w.heap.size + 1 := by rintro rfl; rw [y1.out] at hC; cases hC
      have n2 : g ≠ w.heap.size + 1 + 1 := by rintro rfl; rw [y2.out] at hC; cases hC
      have n3 : g ≠ b := by rintro rfl; rw [yb.out] at hC; cases hC
      exact row_keep (row_keep (row_keep (row_keep hC n1 0 _) n2 0 _) n3 0 _) n3 1 _
    have hF : Fr T2 b w ((((w1.setCell ⟨w.heap.size + 1, 0, none⟩ (.int .i64 (pl : Int))).setCell ⟨w.heap.size + 1 + 1, 0, none⟩ (.int .i64 0)).setCell ⟨b, 0, none⟩ (.slice va vn vc)).setCell ⟨b, 1, none⟩ (.int .i64 (s.size : Int))) := ((((Fr.of_below (B0.out.trans (B1.out.mono B0.out.size))).setNew (by omega) 0 _).setNew (by omega) 0 _).setB 0 _).setB 1 _
    have hg3 : g < ((((w1.setCell ⟨w.heap.size + 1, 0, none⟩ (.int .i64 (pl : Int))).setCell ⟨w.heap.size + 1 + 1, 0, none⟩ (.int .i64 0)).setCell ⟨b, 0, none⟩ (.slice va vn vc)).setCell ⟨b, 1, none⟩ (.int .i64 (s.size : Int))).heap.size := by simpa using hg
    generalize (((w1.setCell ⟨w.heap.size + 1, 0, none⟩ (.int .i64 (pl : Int))).setCell ⟨w.heap.size + 1 + 1, 0, none⟩ (.int .i64 0)).setCell ⟨b, 0, none⟩ (.slice va vn vc)).setCell ⟨b, 1, none⟩ (.int .i64 (s.size : Int)) = W3 at *
    have CPx : Calls Try.prog 18 #[.pointer (some ⟨b, 0, none⟩)] W3 (EndsG W3 b (PX.prog ((toks s).length + 1) (PX.start s [] true))) := CP.out g W3 (lt_start qb hTk hg3)
    clear y0 y1 y2 yb c1 c2 f1 f2 b0 b1 fb0 fb1 hTk hg3 qb hown hT B1 CL CP
    rcases hr : PX.prog ((toks s).length + 1) (PX.start s [] true) with ⟨u, st⟩ | ⟨p, x⟩
    · have hP2 : PX.parse s = .ok u st := hP.out.trans hr
      rw [hr] at CPx
      clear hr hP
      refine CPx.mono ?_
      rintro e w5 ⟨F5, h, rfl, P5⟩
      obtain ⟨xc, k0, k1, k2, k3, k4, k5⟩ := P5.cnd
      obtain ⟨xa, xl, xp, hu⟩ := k5.slice
      rw [hu] at k4
      obtain ⟨a2, n2, p2, hvl⟩ : ∃ a n cap, h.vl = .slice a n cap := by
        rcases P5.locs.2 with ⟨e, _⟩ | ⟨g, cap, cur, e, _⟩
        · exact ⟨_, _, _, e⟩
        · exact ⟨_, _, _, e⟩
      obtain ⟨a6, n6, p6, hvi⟩ : ∃ a n cap, h.vi = .slice a n cap := by
        rcases P5.init.2 with ⟨e, _⟩ | ⟨g, cap, cur, e, _⟩
        · exact ⟨_, _, _, e⟩
        · exact ⟨_, _, _, e⟩
      obtain ⟨a7, p7, hvt⟩ := P5.thr.sl
      have hv : progV st h = .agg #[.string st.name, .slice a2 n2 p2, .slice a6 n6 p6, .slice a7 st.threads.length p7, .int .u8 st.ask, .int .u8 xc.k, .int .u8 xc.t, .int .u8 xc.n, .int .u8 xc.v, .slice xa xl xp] := by
        unfold progV; rw [hvl, hvi, hvt, k0, k1, k2, k3, k4]
      have G5 := hF.trans F5
      have r0 := F5.box q0 (show w.heap.size ≠ b by omega) (by simp [T2])
      have r1 := F5.box q1 (show w.heap.size + 1 ≠ b by omega) (by simp [T2])
      have r2 := F5.box q2 (show w.heap.size + 1 + 1 ≠ b by omega) (by simp [T2])
      rw [hv]
      clear k0 k1 k2 k3 k4 k5 hu hvl hvi hvt q0 q1 q2 F5 hF
      have d0 := cell_of_row _ w.heap.size 0 _ _ _ r0
      have d1 := cell_of_row _ w.heap.size 1 _ _ _ r0
      have d2 := cell_of_row _ w.heap.size 2 _ _ _ r0
      have d3 := cell_of_row _ w.heap.size 3 _ _ _ r0
      have d4 := cell_of_row _ w.heap.size 4 _ _ _ r0
      have d5 := cell_of_row _ w.heap.size 5 _ _ _ r0
      have d6 := cell_of_row _ w.heap.size 6 _ _ _ r0
      have d7 := cell_of_row _ w.heap.size 7 _ _ _ r0
      have d8 := cell_of_row _ w.heap.size 8 _ _ _ r0
      have d9 := cell_of_row _ w.heap.size 9 _ _ _ r0
      have d10 := cell_of_row _ (w.heap.size + 1) 0 _ _ _ r1
      have d11 := cell_of_row _ (w.heap.size + 1 + 1) 0 _ _ _ r2
      simp only [List.getElem?_toArray, List.getElem?_cons_zero, List.getElem?_cons_succ] at d0 d1 d2 d3 d4 d5 d6 d7 d8 d9 d10 d11
      have f0 := fun j => frozen_of_row _ w.heap.size j _ _ r0
      have f1 := frozen_of_row _ (w.heap.size + 1) 0 _ _ r1
      have f2 := frozen_of_row _ (w.heap.size + 1 + 1) 0 _ _ r2
      replace r0 := Lib.hid r0
      replace r1 := Lib.hid r1
      replace r2 := Lib.hid r2
      replace P5 := Lib.hid P5
      replace hv := Lib.hid hv
      replace G5 := Lib.hid G5
      go_wp2
      have q0 := setP_row (.string st.name) (.slice a2 n2 p2) (.slice a6 n6 p6) (.slice a7 st.threads.length p7) (.int .u8 st.ask) (.int .u8 xc.k) (.int .u8 xc.t) (.int .u8 xc.n) (.int .u8 xc.v) (.slice xa xl xp) r0.out
      have q1 := setP_keep (.string st.name) (.slice a2 n2 p2) (.slice a6 n6 p6) (.slice a7 st.threads.length p7) (.int .u8 st.ask) (.int .u8 xc.k) (.int .u8 xc.t) (.int .u8 xc.n) (.int .u8 xc.v) (.slice xa xl xp) r1.out (show w.heap.size + 1 ≠ w.heap.size by omega)
      have q2 := setP_keep (.string st.name) (.slice a2 n2 p2) (.slice a6 n6 p6) (.slice a7 st.threads.length p7) (.int .u8 st.ask) (.int .u8 xc.k) (.int .u8 xc.t) (.int .u8 xc.n) (.int .u8 xc.v) (.slice xa xl xp) r2.out (show w.heap.size + 1 + 1 ≠ w.heap.size by omega)
      have hG := setP_fr (.string st.name) (.slice a2 n2 p2) (.slice a6 n6 p6) (.slice a7 st.threads.length p7) (.int .u8 st.ask) (.int .u8 xc.k) (.int .u8 xc.t) (.int .u8 xc.n) (.int .u8 xc.v) (.slice xa xl xp) G5.out (Nat.le_refl w.heap.size)
      have hPk : PgM (setP w5 w.heap.size (.string st.name) (.slice a2 n2 p2) (.slice a6 n6 p6) (.slice a7 st.threads.length p7) (.int .u8 st.ask) (.int .u8 xc.k) (.int .u8 xc.t) (.int .u8 xc.n) (.int .u8 xc.v) (.slice xa xl xp)) b st h := P5.out.keep fun i D t hi ht hh => setP_keep _ _ _ _ _ _ _ _ _ _ hh (by
        rintro rfl
        have := r0.out
        rw [hh] at this
        cases this
        simp at ht)
      have s0 := row_keep (row_keep q0 (show w.heap.size ≠ w.heap.size + 1 by omega) 0 (.int .i64 0)) (show w.heap.size ≠ w.heap.size + 1 + 1 by omega) 0 (.int .i64 0)
      have s1 := row_keep (heap_setCell_same _ (w.heap.size + 1) 0 _ _ (.int .i64 0) q1) (show w.heap.size + 1 ≠ w.heap.size + 1 + 1 by omega) 0 (.int .i64 0)
      have s2 := heap_setCell_same _ (w.heap.size + 1 + 1) 0 _ _ (.int .i64 0) (row_keep q2 (show w.heap.size + 1 + 1 ≠ w.heap.size + 1 by omega) 0 (.int .i64 0))
      simp only [List.setIfInBounds_toArray, List.set_cons_succ, List.set_cons_zero] at s1 s2
      have hPl := PgM.keep (W' := ((setP w5 w.heap.size (.string st.name) (.slice a2 n2 p2) (.slice a6 n6 p6) (.slice a7 st.threads.length p7) (.int .u8 st.ask) (.int .u8 xc.k) (.int .u8 xc.t) (.int .u8 xc.n) (.int .u8 xc.v) (.slice xa xl xp)).setCell ⟨w.heap.size + 1, 0, none⟩ (.int .i64 0)).setCell ⟨w.heap.size + 1 + 1, 0, none⟩ (.int .i64 0)) hPk fun i D t hi ht hh => row_keep (row_keep hh (by
        rintro rfl
        rw [hh] at q1
        cases q1
        simp at ht) 0 _) (by
        rintro rfl
        rw [hh] at q2
        cases q2
        simp at ht) 0 _
      have hH := ((hG.setNew (k := w.heap.size + 1) (by omega) 0 (.int .i64 0)).setNew (k := w.heap.size + 1 + 1) (by omega) 0 (.int .i64 0))
      obtain ⟨Y, hY⟩ : ∃ Y, ((setP w5 w.heap.size (.string st.name) (.slice a2 n2 p2) (.slice a6 n6 p6) (.slice a7 st.threads.length p7) (.int .u8 st.ask) (.int .u8 xc.k) (.int .u8 xc.t) (.int .u8 xc.n) (.int .u8 xc.v) (.slice xa xl xp)).setCell ⟨w.heap.size + 1, 0, none⟩ (.int .i64 0)).setCell ⟨w.heap.size + 1 + 1, 0, none⟩ (.int .i64 0) = Y := ⟨_, rfl⟩
      rw [hY] at s0 s1 s2 hH hPl
      unfold setP at hY
      rw [hY]
      clear hY q0 q1 q2 hG hPk
      exact readProg_done (k := w.heap.size) (cs := #[.string st.name, .slice a2 n2 p2, .slice a6 n6 p6, .slice a7 st.threads.length p7, .int .u8 st.ask, .int .u8 xc.k, .int .u8 xc.t, .int .u8 xc.n, .int .u8 xc.v, .slice xa xl xp]) (p := 0) (x := 0) rfl rfl rfl rfl rfl s0 s1 s2 fun W' B => ⟨hH.trans (.of_below B), by
        rw [hP2]
        exact ⟨h, by rw [hv.out], hPl.below B⟩⟩
    · have hP2 : PX.parse s = .bad p x := hP.out.trans hr
      rw [hr] at CPx
      clear hr hP
      refine CPx.mono ?_
      rintro e w5 ⟨F5, rfl⟩
      have G5 := hF.trans F5
      have r0 := F5.box q0 (show w.heap.size ≠ b by omega) (by simp [T2])
      have r1 := F5.box q1 (show w.heap.size + 1 ≠ b by omega) (by simp [T2])
      have r2 := F5.box q2 (show w.heap.size + 1 + 1 ≠ b by omega) (by simp [T2])
      show bodyPostD _ _ _ _ _ _
      exact readProg_caught (k := w.heap.size) (cs := #[.string ⟨#[]⟩, .slice none 0 0, .slice none 0 0, .slice none 0 0, .int .u8 0, .int .u8 0, .int .u8 0, .int .u8 0, .int .u8 0, .slice none 0 0]) (p := p) (x := x) rfl rfl rfl rfl rfl r0 r1 r2 fun W' hc => ⟨⟨hc.os.trans G5.os, hc.tape.trans G5.tape, hc.output.trans G5.output, Nat.le_trans G5.size hc.size, fun k o ho hkb => by
        have hlt := lt_of_heap ho
        exact hc.block k o (G5.block k o ho hkb) (by omega) (by omega)⟩, by rw [hP2]; rfl⟩
  · have hP : PX.parse s = .bad (pl : Int) (er : Int) := by rw [parse_eq, if_neg (by rw [her]; exact he), hpl, her]
    have t1 : ((er : Int) != 0) = true := by simp; omega
    unfold ReadPost
    rw [hP]
    replace B0 := Lib.hid B0
    replace CL := Lib.hid CL
    replace z0 := Lib.hid z0
    replace z1 := Lib.hid z1
    replace z2 := Lib.hid z2
    clear hP
    go_enter_defers Try.func17, Try.ntmps17
    go_wp2_with (first
      | (go_at_call 15; refine (CL.out).mono ?_; rintro e w1 ⟨v, rfl, hown, B1⟩
         obtain ⟨g, hT, hg, va, vn, vc, rfl⟩ := tkR_own hown (by have := toks_len s; rw [toks_length] at this; exact this) (by have := B1.size; simp at this; omega)
         have y0 := (B1.block _ (lt_of_heap z0.out)).trans z0.out
         have y1 := (B1.block _ (lt_of_heap z1.out)).trans z1.out
         have y2 := (B1.block _ (lt_of_heap z2.out)).trans z2.out
         have c1 := cell_of_row _ _ 0 _ _ _ y1
         have c2 := cell_of_row _ _ 0 _ _ _ y2
         have f1 := frozen_of_row _ _ 0 _ _ y1
         have f2 := frozen_of_row _ _ 0 _ _ y2
         simp only [List.getElem?_toArray, List.getElem?_cons_zero, List.getElem?_cons_succ] at c1 c2
         clear hown hT))
    have r0 := row_keep (row_keep y0 (show w.heap.size ≠ w.heap.size + 1 by omega) 0 (.int .i64 (pl : Int))) (show w.heap.size ≠ w.heap.size + 1 + 1 by omega) 0 (.int .i64 (er : Int))
    have r1 := row_keep (heap_setCell_same _ (w.heap.size + 1) 0 _ _ (.int .i64 (pl : Int)) y1) (show w.heap.size + 1 ≠ w.heap.size + 1 + 1 by omega) 0 (.int .i64 (er : Int))
    have r2 := heap_setCell_same _ (w.heap.size + 1 + 1) 0 _ _ (.int .i64 (er : Int)) (row_keep y2 (show w.heap.size + 1 + 1 ≠ w.heap.size + 1 by omega) 0 (.int .i64 (pl : Int)))
    simp only [List.setIfInBounds_toArray, List.set_cons_succ, List.set_cons_zero] at r1 r2
    have hF : Fr T2 b w ((w1.setCell ⟨w.heap.size + 1, 0, none⟩ (.int .i64 (pl : Int))).setCell ⟨w.heap.size + 1 + 1, 0, none⟩ (.int .i64 (er : Int))) := (((Fr.of_below (B0.out.trans (B1.mono B0.out.size))).setNew (by omega) 0 _).setNew (by omega) 0 _)
    clear y0 y1 y2 c1 c2 f1 f2
    generalize (w1.setCell ⟨w.heap.size + 1, 0, none⟩ (.int .i64 (pl : Int))).setCell ⟨w.heap.size + 1 + 1, 0, none⟩ (.int .i64 (er : Int)) = W at *
    have d0 := cell_of_row _ w.heap.size 0 _ _ _ r0
    have d1 := cell_of_row _ w.heap.size 1 _ _ _ r0
    have d2 := cell_of_row _ w.heap.size 2 _ _ _ r0
    have d3 := cell_of_row _ w.heap.size 3 _ _ _ r0
    have d4 := cell_of_row _ w.heap.size 4 _ _ _ r0
    have d5 := cell_of_row _ w.heap.size 5 _ _ _ r0
    have d6 := cell_of_row _ w.heap.size 6 _ _ _ r0
    have d7 := cell_of_row _ w.heap.size 7 _ _ _ r0
    have d8 := cell_of_row _ w.heap.size 8 _ _ _ r0
    have d9 := cell_of_row _ w.heap.size 9 _ _ _ r0
    have d10 := cell_of_row _ (w.heap.size + 1) 0 _ _ _ r1
    have d11 := cell_of_row _ (w.heap.size + 1 + 1) 0 _ _ _ r2
    simp only [List.getElem?_toArray, List.getElem?_cons_zero, List.getElem?_cons_succ] at d0 d1 d2 d3 d4 d5 d6 d7 d8 d9 d10 d11
    have f0 := fun j => frozen_of_row _ w.heap.size j _ _ r0
    have f1 := frozen_of_row _ (w.heap.size + 1) 0 _ _ r1
    have f2 := frozen_of_row _ (w.heap.size + 1 + 1) 0 _ _ r2
    go_region
    have q0 := setP_row (.string ⟨#[]⟩) (.slice none 0 0) (.slice none 0 0) (.slice none 0 0) (.int .u8 0) (.int .u8 0) (.int .u8 0) (.int .u8 0) (.int .u8 0) (.slice none 0 0) r0
    have q1 := setP_keep (.string ⟨#[]⟩) (.slice none 0 0) (.slice none 0 0) (.slice none 0 0) (.int .u8 0) (.int .u8 0) (.int .u8 0) (.int .u8 0) (.int .u8 0) (.slice none 0 0) r1 (show w.heap.size + 1 ≠ w.heap.size by omega)
    have q2 := setP_keep (.string ⟨#[]⟩) (.slice none 0 0) (.slice none 0 0) (.slice none 0 0) (.int .u8 0) (.int .u8 0) (.int .u8 0) (.int .u8 0) (.int .u8 0) (.slice none 0 0) r2 (show w.heap.size + 1 + 1 ≠ w.heap.size by omega)
    have hG := setP_fr (.string ⟨#[]⟩) (.slice none 0 0) (.slice none 0 0) (.slice none 0 0) (.int .u8 0) (.int .u8 0) (.int .u8 0) (.int .u8 0) (.int .u8 0) (.slice none 0 0) hF (Nat.le_refl w.heap.size)
    unfold setP at q0 q1 q2 hG
    have s0 := row_keep (row_keep q0 (show w.heap.size ≠ w.heap.size + 1 by omega) 0 (.int .i64 (pl : Int))) (show w.heap.size ≠ w.heap.size + 1 + 1 by omega) 0 (.int .i64 (er : Int))
    have s1 := row_keep (heap_setCell_same _ (w.heap.size + 1) 0 _ _ (.int .i64 (pl : Int)) q1) (show w.heap.size + 1 ≠ w.heap.size + 1 + 1 by omega) 0 (.int .i64 (er : Int))
    have s2 := heap_setCell_same _ (w.heap.size + 1 + 1) 0 _ _ (.int .i64 (er : Int)) (row_keep q2 (show w.heap.size + 1 + 1 ≠ w.heap.size + 1 by omega) 0 (.int .i64 (pl : Int)))
    simp only [List.setIfInBounds_toArray, List.set_cons_succ, List.set_cons_zero] at s1 s2
    obtain ⟨Y, hY⟩ : ∃ Y, ((setP W w.heap.size (.string ⟨#[]⟩) (.slice none 0 0) (.slice none 0 0) (.slice none 0 0) (.int .u8 0) (.int .u8 0) (.int .u8 0) (.int .u8 0) (.int .u8 0) (.slice none 0 0)).setCell ⟨w.heap.size + 1, 0, none⟩ (.int .i64 (pl : Int))).setCell ⟨w.heap.size + 1 + 1, 0, none⟩ (.int .i64 (er : Int)) = Y := ⟨_, rfl⟩
    unfold setP at hY
    have hH := ((hG.setNew (k := w.heap.size + 1) (by omega) 0 (.int .i64 (pl : Int))).setNew (k := w.heap.size + 1 + 1) (by omega) 0 (.int .i64 (er : Int)))
    rw [hY] at s0 s1 s2 hH ⊢
    clear hY
    replace hH := hH.trans (Fr.of_below (drewB1 Y))
    replace hH := Lib.hid hH
    replace s0 := Lib.hid s0
    replace s1 := Lib.hid s1
    replace s2 := Lib.hid s2
    clear q0 q1 q2 hG r0 r1 r2 hF
    go_wp2
    exact readProg_door (k := w.heap.size) (cs := #[.string ⟨#[]⟩, .slice none 0 0, .slice none 0 0, .slice none 0 0, .int .u8 0, .int .u8 0, .int .u8 0, .int .u8 0, .int .u8 0, .slice none 0 0]) (p := (pl : Int)) (x := (er : Int)) rfl rfl rfl rfl rfl s0.out s1.out s2.out ⟨hH.out, rfl⟩
end PP
end Go.Proofs.Ytglbmiadgdadfaa
end

section
/- Parsing a text as a condition. -/
namespace Go.Proofs.Ytglbmiadgdadfaa
open Go.RowKit Go.Shelf

attribute [local go_sem] Oper.semAt_some
namespace PP
def condZ : Array Value := #[.int .u8 0, .int .u8 0, .int .u8 0, .int .u8 0, .slice none 0 0]
/-- What parsing a text as a condition answers. -/
def readC (s : ByteArray) (l : List ByteArray) : PX.R PX.CondD := PX.read PX.onlyCond s l false
theorem readC_eq (s : ByteArray) (l : List ByteArray) : readC s l = if (LX.out (bsOf s)).2.2 = 0 then PX.onlyCond (PX.start s l false) else .bad ((LX.out (bsOf s)).2.1 : Int) ((LX.out (bsOf s)).2.2 : Int) := rfl
def cvZ : CV := ⟨0, 0, 0, 0, .slice none 0 0⟩
theorem setCond_fr {T : List TypeId} {b k : Nat} {W W' : World} (x : CV) (h : Fr T b W W') (hk : W.heap.size ≤ k) : Fr T b W (setCond W' k x) := ((((h.setNew hk 0 _).setNew hk 1 _).setNew hk 2 _).setNew hk 3 _).setNew hk 4 _
def ReadCPost (s : ByteArray) (l : List ByteArray) (b : Nat) (w : World) (e : Ending) (w' : World) : Prop :=
  Fr T1 b w w' ∧ match readC s l with
    | .ok c _ => ∃ x, e = .returned (.tuple #[condV x, .int .i64 0, .int .i64 0]) ∧ CondM w' (fun g => w.heap.size ≤ g) x c
    | .bad p x => e = .returned (.tuple #[.agg condZ, .int .i64 p, .int .i64 x])
theorem ls_start {W : World} {b g : Nat} {v vl : Value} {s : ByteArray} {l : List ByteArray} (hb : W.heap[b]? = some (.cells (psC v (PX.start s l false) (hdZ g vl)) 54 (0, 0))) (ht : TkR W g v (toks s)) (hg : g < W.heap.size) (hl : LocsOk W b false vl l) : LS W b (PX.start s l false) (hdZ g vl) :=
  ⟨⟨v, hb, ht, toks_ok s, hg⟩, hl, fun h => by cases h⟩
set_option maxRecDepth 100000 in
set_option maxHeartbeats 4000000 in
theorem catchC_idle (p q : Addr) (w : World) :
    CallsD Try.prog 19 #[.pointer (some p), .pointer (some q)] .returning w fun e u' w' => e = .returned (.tuple #[]) ∧ u' = .returning ∧ w' = w.alloc (.cells #[.int .i64 0, .int .i64 0] 67) := by
  refine callsD_of_wpS Try.func19 rfl fun c₀ cs hu => ?_
  show Code.wpS _ _ _ { tmps := #[.pointer (some p), .pointer (some q), undef, undef, undef, undef, undef, undef, undef, undef, undef, undef, undef, undef], defers := [] } _ _
  apply wpS_seq
  apply wpS_region
  have h1 := assert_nil
  have n0 := fun w : World => cell_of_row _ w.heap.size 0 _ _ _ (heap_alloc_new w (.cells #[.int .i64 0, .int .i64 0] 67))
  have n1 := fun w : World => cell_of_row _ w.heap.size 1 _ _ _ (heap_alloc_new w (.cells #[.int .i64 0, .int .i64 0] 67))
  simp [wpOpsS, go_sem, recoverD, hu, h1, n0, n1, Exit.thenS]
  apply wpS_seq
  apply wpS_region
  simp [wpOpsS, go_sem, Exit.thenS]
  refine wpS_cond (t := false) (by simp [Act.eval]) ?_
  simp only [Bool.false_eq_true, if_false]
  refine wpS_of_wp (wp_skip ?_)
  cases c₀
  simp_all [bodyPostS, results, Try.results19]
set_option maxRecDepth 100000 in
set_option maxHeartbeats 4000000 in
theorem catchC_panicking (k1 k2 : Nat) (a b : Int) (w : World) (v1 v2 : Int) (h1 : w.heap[k1]? = some (.cells #[.int .i64 v1] 3 (0, 0))) (h2 : w.heap[k2]? = some (.cells #[.int .i64 v2] 30 (0, 0))) (hk : k1 ≠ k2) :
    CallsD Try.prog 19 #[.pointer (some ⟨k1, 0, none⟩), .pointer (some ⟨k2, 0, none⟩)] (.panicking [{ v := .iface 67 (.agg #[.int .i64 a, .int .i64 b]), recovered := false }]) w fun e u' w' => e = .returned (.tuple #[]) ∧ u' = .panicking [{ v := .iface 67 (.agg #[.int .i64 a, .int .i64 b]), recovered := true }] ∧ CatP w w' k1 k2 a b := by
  refine callsD_of_wpS Try.func19 rfl fun c₀ cs hu => ?_
  show Code.wpS _ _ _ { tmps := #[.pointer (some ⟨k1, 0, none⟩), .pointer (some ⟨k2, 0, none⟩), undef, undef, undef, undef, undef, undef, undef, undef, undef, undef, undef, undef], defers := [] } _ _
  apply wpS_seq
  apply wpS_region
  have e1 := assert_fault a b
  simp [wpOpsS, go_sem, recoverD, hu, e1, Exit.thenS]
  have B1 := (Below.refl w.heap.size w).alloc (Nat.le_refl _) (.cells #[.int .i64 a, .int .i64 b] 67)
  have hz := heap_alloc_new w (.cells #[.int .i64 a, .int .i64 b] 67)
  have z0 := cell_of_row _ _ 0 _ _ _ hz
  have z1 := cell_of_row _ _ 1 _ _ _ hz
  simp only [List.getElem?_toArray, List.getElem?_cons_zero, List.getElem?_cons_succ] at z0 z1
  have g1 := (B1.block k1 (lt_of_heap h1)).trans h1
  have g2 := (B1.block k2 (lt_of_heap h2)).trans h2
  have l1 := lt_of_heap h1
  have l2 := lt_of_heap h2
  generalize w.alloc (.cells #[.int .i64 a, .int .i64 b] 67) = W at *
  apply wpS_seq
  apply wpS_region
  simp [wpOpsS, go_sem, Exit.thenS]
  refine wpS_cond (t := true) (by simp [Act.eval]) ?_
  simp only [if_true]
  refine wpS_of_wp ?_
  have f1 := frozen_of_row _ k1 0 _ _ g1
  have f2 := frozen_of_row _ k2 0 _ _ g2
  have c1 := cell_of_row _ k1 0 _ _ _ g1
  have c2 := cell_of_row _ k2 0 _ _ _ g2
  simp only [List.getElem?_toArray, List.getElem?_cons_zero, List.getElem?_cons_succ] at c1 c2
  have hk' := hk.symm
  have m1 : ¬ w.heap.size = k1 := by omega
  have m2 : ¬ w.heap.size = k2 := by omega
  have m3 : ¬ k1 = w.heap.size := by omega
  have m4 : ¬ k2 = w.heap.size := by omega
  go_region
  have hc := catP_of (a := a) (b := b) g1 g2 hk
  refine ⟨rfl, _, rfl, .tuple #[], ?_, rfl, rfl, (hc.pre B1).drew⟩
  simp [results, Try.results19]
theorem readCond_results (tmps : Array Value) (W : World) (k : Nat) (cs : Array Value) (p x : Int) (hs : cs.size = 5) (h6 : tmps[6]?.getD undef = .pointer (some ⟨k, 0, none⟩)) (h7 : tmps[7]?.getD undef = .pointer (some ⟨k + 1, 0, none⟩)) (h8 : tmps[8]?.getD undef = .pointer (some ⟨k + 1 + 1, 0, none⟩))
    (r0 : W.heap[k]? = some (.cells cs 24 (0, 0))) (r1 : W.heap[k + 1]? = some (.cells #[.int .i64 p] 3 (0, 0))) (r2 : W.heap[k + 1 + 1]? = some (.cells #[.int .i64 x] 30 (0, 0))) :
    (results Try.f13 tmps).run Try.prog W = .ok (.tuple #[.agg cs, .int .i64 p, .int .i64 x]) W := by
  have l0 := run_loadVar_row (P := Try.prog) W k 24 24 cs (0, 0) _ r0 Try.underlying24 rfl (by rw [sizeCond, hs])
  have c1 := cell_of_row _ (k + 1) 0 _ _ _ r1
  have c2 := cell_of_row _ (k + 1 + 1) 0 _ _ _ r2
  simp only [List.getElem?_toArray, List.getElem?_cons_zero, List.getElem?_cons_succ] at c1 c2
  have l1 : (loadVar 3 ⟨k + 1, 0, none⟩).run Try.prog W = .ok (.int .i64 p) W := by simp [go_sem, c1]
  have l2 : (loadVar 30 ⟨k + 1 + 1, 0, none⟩).run Try.prog W = .ok (.int .i64 x) W := by simp [go_sem, c2]
  simp [results, Try.results13, h6, h7, h8, asAddr, l0, l1, l2]
theorem readCond_door {R : Ending → World → Prop} {a : Act} {W : World} {k : Nat} {cs : Array Value} {p x : Int} (hs : cs.size = 5) (hd : a.defers = []) (h6 : a.tmps[6]?.getD undef = .pointer (some ⟨k, 0, none⟩)) (h7 : a.tmps[7]?.getD undef = .pointer (some ⟨k + 1, 0, none⟩)) (h8 : a.tmps[8]?.getD undef = .pointer (some ⟨k + 1 + 1, 0, none⟩))
    (r0 : W.heap[k]? = some (.cells cs 24 (0, 0))) (r1 : W.heap[k + 1]? = some (.cells #[.int .i64 p] 3 (0, 0))) (r2 : W.heap[k + 1 + 1]? = some (.cells #[.int .i64 x] 30 (0, 0)))
    (hR : R (.returned (.tuple #[.agg cs, .int .i64 p, .int .i64 x])) W) : bodyPostD Try.prog Try.f13 R Exit.ret a W := by
  show Leaves _ _ _ _ a.defers _ _
  rw [hd]
  exact ⟨_, readCond_results a.tmps W k cs p x hs h6 h7 h8 r0 r1 r2, hR⟩
theorem readCond_done {R : Ending → World → Prop} {a : Act} {W : World} {k : Nat} {cs : Array Value} {p x : Int} (hs : cs.size = 5) (hd : a.defers = [{ target := .fn (.func 19) #[.pointer (some ⟨k + 1, 0, none⟩), .pointer (some ⟨k + 1 + 1, 0, none⟩)], args := #[] }]) (h6 : a.tmps[6]?.getD undef = .pointer (some ⟨k, 0, none⟩)) (h7 : a.tmps[7]?.getD undef = .pointer (some ⟨k + 1, 0, none⟩)) (h8 : a.tmps[8]?.getD undef = .pointer (some ⟨k + 1 + 1, 0, none⟩))
    (r0 : W.heap[k]? = some (.cells cs 24 (0, 0))) (r1 : W.heap[k + 1]? = some (.cells #[.int .i64 p] 3 (0, 0))) (r2 : W.heap[k + 1 + 1]? = some (.cells #[.int .i64 x] 30 (0, 0)))
    (hR : ∀ W', Below W.heap.size W W' → R (.returned (.tuple #[.agg cs, .int .i64 p, .int .i64 x])) W') : bodyPostD Try.prog Try.f13 R Exit.ret a W := by
  show Leaves _ _ _ _ a.defers _ _
  rw [hd]
  refine leaves_cons (f := 19) (args := #[.pointer (some ⟨k + 1, 0, none⟩), .pointer (some ⟨k + 1 + 1, 0, none⟩)]) (by simp) (by simp [go_sem]) ?_
  refine (catchC_idle _ _ W).mono ?_
  rintro e u' w'' ⟨rfl, rfl, rfl⟩
  exact ⟨_, readCond_results a.tmps _ k cs p x hs h6 h7 h8 (row_alloc r0 _) (row_alloc r1 _) (row_alloc r2 _), hR _ ((Below.refl _ W).alloc (Nat.le_refl _) _)⟩
theorem readCond_caught {R : Ending → World → Prop} {a : Act} {W : World} {k : Nat} {cs : Array Value} {p x v1 v2 : Int} (hs : cs.size = 5) (hd : a.defers = [{ target := .fn (.func 19) #[.pointer (some ⟨k + 1, 0, none⟩), .pointer (some ⟨k + 1 + 1, 0, none⟩)], args := #[] }]) (h6 : a.tmps[6]?.getD undef = .pointer (some ⟨k, 0, none⟩)) (h7 : a.tmps[7]?.getD undef = .pointer (some ⟨k + 1, 0, none⟩)) (h8 : a.tmps[8]?.getD undef = .pointer (some ⟨k + 1 + 1, 0, none⟩))
    (r0 : W.heap[k]? = some (.cells cs 24 (0, 0))) (r1 : W.heap[k + 1]? = some (.cells #[.int .i64 v1] 3 (0, 0))) (r2 : W.heap[k + 1 + 1]? = some (.cells #[.int .i64 v2] 30 (0, 0)))
    (hR : ∀ W', CatP W W' (k + 1) (k + 1 + 1) p x → R (.returned (.tuple #[.agg cs, .int .i64 p, .int .i64 x])) W') : bodyPostD Try.prog Try.f13 R (Exit.panic [{ v := .iface 67 (.agg #[.int .i64 p, .int .i64 x]), recovered := false }]) a W := by
  show Leaves _ _ _ _ a.defers _ _
  rw [hd]
  refine leaves_cons (f := 19) (args := #[.pointer (some ⟨k + 1, 0, none⟩), .pointer (some ⟨k + 1 + 1, 0, none⟩)]) (by simp) (by simp [go_sem]) ?_
  refine (catchC_panicking (k + 1) (k + 1 + 1) p x W v1 v2 r1 r2 (by omega)).mono ?_
  rintro e u' w'' ⟨rfl, rfl, hc⟩
  show Leaves _ _ _ _ [] .returning _
  exact ⟨_, readCond_results a.tmps _ k cs p x hs h6 h7 h8 (hc.block k _ r0 (by omega) (by omega)) hc.c1 hc.c2, hR _ hc⟩
set_option maxRecDepth 100000 in
set_option maxHeartbeats 16000000 in
theorem readCond_any (s : ByteArray) (l : List ByteArray) (vl : Value) (b : Nat) (w : World) (hb : w.heap[b]? = some (.cells (parZ false vl) 54 (0, 0))) (hlo : LocsOk w b false vl l) :
    Calls Try.prog 13 #[.pointer (some ⟨b, 0, none⟩), .string s, .func (.func 14) #[] #[]] w (ReadCPost s l b w) := by
  have hbl := lt_of_heap hb
  have B0 := (((Below.refl w.heap.size w).alloc (Nat.le_refl _) (.cells condZ 24)).alloc (by simp) (.cells #[.int .i64 0] 3)).alloc (by simp; omega) (.cells #[.int .i64 0] 30)
  have z0 := row_alloc (row_alloc (heap_alloc_new w (.cells condZ 24)) (.cells #[.int .i64 0] 3)) (.cells #[.int .i64 0] 30)
  have z1 := row_alloc (heap_alloc_new (w.alloc (.cells condZ 24)) (.cells #[.int .i64 0] 3)) (.cells #[.int .i64 0] 30)
  have z2 := heap_alloc_new ((w.alloc (.cells condZ 24)).alloc (.cells #[.int .i64 0] 3)) (.cells #[.int .i64 0] 30)
  have CL := lex_any s (((w.alloc (.cells condZ 24)).alloc (.cells #[.int .i64 0] 3)).alloc (.cells #[.int .i64 0] 30))
  simp only [World.size_alloc] at z1 z2
  obtain ⟨pl, hpl⟩ : ∃ pl, (LX.out (bsOf s)).2.1 = pl := ⟨_, rfl⟩
  obtain ⟨er, her⟩ : ∃ er, (LX.out (bsOf s)).2.2 = er := ⟨_, rfl⟩
  unfold LexPost at CL
  rw [hpl, her] at CL
  have hmf : ∀ (fn : Fn) (first cap : Array Value) (w : World), (Instr.makeFunc fn first cap).run Try.prog w = .ok (.func fn first cap) w := fun _ _ _ _ => rfl
  unfold condZ at CL B0 z0 z1 z2
  by_cases he : er = 0
  · subst he
    have hP : readC s l = PX.onlyCond (PX.start s l false) := by rw [readC_eq, if_pos her]
    replace B0 := Lib.hid B0
    replace CL := Lib.hid CL
    replace z0 := Lib.hid z0
    replace z1 := Lib.hid z1
    replace z2 := Lib.hid z2
    replace hP := Lib.hid hP
    have hent : ∀ args W, (callFunc 14 args).run Try.prog W = .ok (.enter 14 args) W := enters Try.func14 (by kernel_rfl) rfl
    unfold parZ at hb
    have hlen := toks_len s
    rw [toks_length] at hlen
    have CP := Lib.hid fun g W (L : LS W b (PX.start s l false) (hdZ g vl)) => onlyCond_any b (PX.start s l false) (hdZ g vl) W L (by show (toks s).length < 100000; have := toks_len s; omega)
    have t1 : ((0 : Int) != 0) = false := rfl
    replace hlen := Lib.hid hlen
    replace hb := Lib.hid hb
    go_enter_defers Try.func13, Try.ntmps13
    go_wp2_with (first
      | (go_at_call 15; refine (CL.out).mono ?_; rintro e w1 ⟨v, rfl, hown, B1⟩
         obtain ⟨g, hT, hg, va, vn, vc, rfl⟩ := tkR_own hown hlen.out (by have := B1.size; simp at this; omega)
         have y0 := (B1.block _ (lt_of_heap z0.out)).trans z0.out
         have y1 := (B1.block _ (lt_of_heap z1.out)).trans z1.out
         have y2 := (B1.block _ (lt_of_heap z2.out)).trans z2.out
         have yb := (B1.block _ (Nat.lt_of_lt_of_le hbl B0.out.size)).trans ((B0.out.block b hbl).trans hb.out)
         have c1 := cell_of_row _ _ 0 _ _ _ y1
         have c2 := cell_of_row _ _ 0 _ _ _ y2
         have f1 := frozen_of_row _ _ 0 _ _ y1
         have f2 := frozen_of_row _ _ 0 _ _ y2
         have b0 := cell_of_row _ b 0 _ _ _ yb
         have b1 := cell_of_row _ b 1 _ _ _ yb
         have fb0 := frozen_of_row _ b 0 _ _ yb
         have fb1 := frozen_of_row _ b 1 _ _ yb
         simp only [List.getElem?_toArray, List.getElem?_cons_zero, List.getElem?_cons_succ] at c1 c2 b0 b1
         have m1 : ¬ b = w.heap.size + 1 := by omega
         have m2 : ¬ b = w.heap.size + 1 + 1 := by omega
         have m3 : ¬ w.heap.size + 1 = b := by omega
         have m4 : ¬ w.heap.size + 1 + 1 = b := by omega
         replace hown := Lib.hid hown
         replace hT := Lib.hid hT
         replace y0 := Lib.hid y0
         replace y1 := Lib.hid y1
         replace y2 := Lib.hid y2
         replace yb := Lib.hid yb
         replace B1 := Lib.hid B1))
    have q0 := row_keep (row_keep (row_keep (row_keep y0.out (show w.heap.size ≠ w.heap.size + 1 by omega) 0 (.int .i64 (pl : Int))) (show w.heap.size ≠ w.heap.size + 1 + 1 by omega) 0 (.int .i64 0)) (show w.heap.size ≠ b by omega) 0 (.slice va vn vc)) (show w.heap.size ≠ b by omega) 1 (.int .i64 (s.size : Int))
    have q1 := row_keep (row_keep (row_keep (heap_setCell_same _ (w.heap.size + 1) 0 _ _ (.int .i64 (pl : Int)) y1.out) (show w.heap.size + 1 ≠ w.heap.size + 1 + 1 by omega) 0 (.int .i64 0)) (show w.heap.size + 1 ≠ b by omega) 0 (.slice va vn vc)) (show w.heap.size + 1 ≠ b by omega) 1 (.int .i64 (s.size : Int))
    have q2 := row_keep (row_keep (heap_setCell_same _ (w.heap.size + 1 + 1) 0 _ _ (.int .i64 0) (row_keep y2.out (show w.heap.size + 1 + 1 ≠ w.heap.size + 1 by omega) 0 (.int .i64 (pl : Int)))) (show w.heap.size + 1 + 1 ≠ b by omega) 0 (.slice va vn vc)) (show w.heap.size + 1 + 1 ≠ b by omega) 1 (.int .i64 (s.size : Int))
    have qb := heap_setCell_same _ b 1 _ _ (.int .i64 (s.size : Int)) (heap_setCell_same _ b 0 _ _ (.slice va vn vc) (row_keep (row_keep yb.out (show b ≠ w.heap.size + 1 by omega) 0 (.int .i64 (pl : Int))) (show b ≠ w.heap.size + 1 + 1 by omega) 0 (.int .i64 0)))
    simp only [List.setIfInBounds_toArray, List.set_cons_succ, List.set_cons_zero] at q1 q2 qb
    have hTk : TkR ((((w1.setCell ⟨w.heap.size + 1, 0, none⟩ (.int .i64 (pl : Int))).setCell ⟨w.heap.size + 1 + 1, 0, none⟩ (.int .i64 0)).setCell ⟨b, 0, none⟩ (.slice va vn vc)).setCell ⟨b, 1, none⟩ (.int .i64 (s.size : Int))) g (.slice va vn vc) (toks s) := hT.out.same fun C hC => by
      have n1 : g ≠ w.heap.size + 1 := by rintro rfl; rw [y1.out] at hC; cases hC
      have n2 : g ≠ w.heap.size + 1 + 1 := by rintro rfl; rw [y2.out] at hC; cases hC
      have n3 : g ≠ b := by rintro rfl; rw [yb.out] at hC; cases hC
      exact row_keep (row_keep (row_keep (row_keep hC n1 0 _) n2 0 _) n3 0 _) n3 1 _
    have hF : Fr T1 b w ((((w1.setCell ⟨w.heap.size + 1, 0, none⟩ (.int .i64 (pl : Int))).setCell ⟨w.heap.size + 1 + 1, 0, none⟩ (.int .i64 0)).setCell ⟨b, 0, none⟩ (.slice va vn vc)).setCell ⟨b, 1, none⟩ (.int .i64 (s.size : Int))) := ((((Fr.of_below (B0.out.trans (B1.out.mono B0.out.size))).setNew (by omega) 0 _).setNew (by omega) 0 _).setB 0 _).setB 1 _
    have hF0 : Fr [] b w ((((w1.setCell ⟨w.heap.size + 1, 0, none⟩ (.int .i64 (pl : Int))).setCell ⟨w.heap.size + 1 + 1, 0, none⟩ (.int .i64 0)).setCell ⟨b, 0, none⟩ (.slice va vn vc)).setCell ⟨b, 1, none⟩ (.int .i64 (s.size : Int))) := ((((Fr.of_below (B0.out.trans (B1.out.mono B0.out.size))).setNew (by omega) 0 _).setNew (by omega) 0 _).setB 0 _).setB 1 _
    have hg3 : g < ((((w1.setCell ⟨w.heap.size + 1, 0, none⟩ (.int .i64 (pl : Int))).setCell ⟨w.heap.size + 1 + 1, 0, none⟩ (.int .i64 0)).setCell ⟨b, 0, none⟩ (.slice va vn vc)).setCell ⟨b, 1, none⟩ (.int .i64 (s.size : Int))).heap.size := by simpa using hg
    generalize (((w1.setCell ⟨w.heap.size + 1, 0, none⟩ (.int .i64 (pl : Int))).setCell ⟨w.heap.size + 1 + 1, 0, none⟩ (.int .i64 0)).setCell ⟨b, 0, none⟩ (.slice va vn vc)).setCell ⟨b, 1, none⟩ (.int .i64 (s.size : Int)) = W3 at *
    have CPx : Calls Try.prog 14 #[.pointer (some ⟨b, 0, none⟩)] W3 (Ends2 W3 b (hdZ g vl) (PX.onlyCond (PX.start s l false))) := CP.out g W3 (ls_start qb hTk hg3 (hlo.up hF0))
    have l3 := lt_of_heap q2
    clear y0 y1 y2 yb c1 c2 f1 f2 b0 b1 fb0 fb1 hTk hg3 qb hown hT B1 CL CP hF0
    rcases hr : PX.onlyCond (PX.start s l false) with ⟨c, st⟩ | ⟨p, x⟩
    · have hP2 : readC s l = .ok c st := hP.out.trans hr
      rw [hr] at CPx
      clear hr hP
      refine CPx.mono ?_
      rintro e w5 ⟨F5, xc, rfl, M5, -⟩
      obtain ⟨xa, xl, xp, hu⟩ := M5.slice
      obtain ⟨xk, xt, xn, xv, xu⟩ := xc
      simp only at hu
      subst hu
      have G5 := hF.trans F5
      have r0 := F5.box q0 (show w.heap.size ≠ b by omega) (by simp [T1])
      have r1 := F5.box q1 (show w.heap.size + 1 ≠ b by omega) (by simp [T1])
      have r2 := F5.box q2 (show w.heap.size + 1 + 1 ≠ b by omega) (by simp [T1])
      unfold condV
      simp only
      clear q0 q1 q2 F5 hF
      have d0 := cell_of_row _ w.heap.size 0 _ _ _ r0
      have d1 := cell_of_row _ w.heap.size 1 _ _ _ r0
      have d2 := cell_of_row _ w.heap.size 2 _ _ _ r0
      have d3 := cell_of_row _ w.heap.size 3 _ _ _ r0
      have d4 := cell_of_row _ w.heap.size 4 _ _ _ r0
      have d10 := cell_of_row _ (w.heap.size + 1) 0 _ _ _ r1
      have d11 := cell_of_row _ (w.heap.size + 1 + 1) 0 _ _ _ r2
      simp only [List.getElem?_toArray, List.getElem?_cons_zero, List.getElem?_cons_succ] at d0 d1 d2 d3 d4 d10 d11
      have f0 := fun j => frozen_of_row _ w.heap.size j _ _ r0
      have f1 := frozen_of_row _ (w.heap.size + 1) 0 _ _ r1
      have f2 := frozen_of_row _ (w.heap.size + 1 + 1) 0 _ _ r2
      replace r0 := Lib.hid r0
      replace r1 := Lib.hid r1
      replace r2 := Lib.hid r2
      replace M5 := Lib.hid M5
      replace G5 := Lib.hid G5
      replace l3 := Lib.hid l3
      go_wp2
      have q0 := setCond_row (y := cvZ) ⟨xk, xt, xn, xv, .slice xa xl xp⟩ r0.out
      have q1 := setCond_keep (x := ⟨xk, xt, xn, xv, .slice xa xl xp⟩) r1.out (show w.heap.size + 1 ≠ w.heap.size by omega)
      have q2 := setCond_keep (x := ⟨xk, xt, xn, xv, .slice xa xl xp⟩) r2.out (show w.heap.size + 1 + 1 ≠ w.heap.size by omega)
      have hG := setCond_fr ⟨xk, xt, xn, xv, .slice xa xl xp⟩ G5.out (Nat.le_refl w.heap.size)
      have hPk : CondM (setCond w5 w.heap.size ⟨xk, xt, xn, xv, .slice xa xl xp⟩) (fun g => W3.heap.size ≤ g) ⟨xk, xt, xn, xv, .slice xa xl xp⟩ c := CondM.mono (fun i D hi hh => setCond_keep hh (by have := l3.out; omega)) (fun _ h => h) _ _ M5.out
      have s0 := row_keep (row_keep q0 (show w.heap.size ≠ w.heap.size + 1 by omega) 0 (.int .i64 0)) (show w.heap.size ≠ w.heap.size + 1 + 1 by omega) 0 (.int .i64 0)
      have s1 := row_keep (heap_setCell_same _ (w.heap.size + 1) 0 _ _ (.int .i64 0) q1) (show w.heap.size + 1 ≠ w.heap.size + 1 + 1 by omega) 0 (.int .i64 0)
      have s2 := heap_setCell_same _ (w.heap.size + 1 + 1) 0 _ _ (.int .i64 0) (row_keep q2 (show w.heap.size + 1 + 1 ≠ w.heap.size + 1 by omega) 0 (.int .i64 0))
      simp only [List.setIfInBounds_toArray, List.set_cons_succ, List.set_cons_zero] at s1 s2
      have hPl : CondM (((setCond w5 w.heap.size ⟨xk, xt, xn, xv, .slice xa xl xp⟩).setCell ⟨w.heap.size + 1, 0, none⟩ (.int .i64 0)).setCell ⟨w.heap.size + 1 + 1, 0, none⟩ (.int .i64 0)) (fun g => W3.heap.size ≤ g) ⟨xk, xt, xn, xv, .slice xa xl xp⟩ c := CondM.mono (fun i D hi hh => row_keep (row_keep hh (by have := l3.out; omega) 0 _) (by have := l3.out; omega) 0 _) (fun _ h => h) _ _ hPk
      have hH := ((hG.setNew (k := w.heap.size + 1) (by omega) 0 (.int .i64 0)).setNew (k := w.heap.size + 1 + 1) (by omega) 0 (.int .i64 0))
      obtain ⟨Y, hY⟩ : ∃ Y, ((setCond w5 w.heap.size ⟨xk, xt, xn, xv, .slice xa xl xp⟩).setCell ⟨w.heap.size + 1, 0, none⟩ (.int .i64 0)).setCell ⟨w.heap.size + 1 + 1, 0, none⟩ (.int .i64 0) = Y := ⟨_, rfl⟩
      rw [hY] at s0 s1 s2 hH hPl
      unfold setCond at hY
      simp only at hY
      rw [hY]
      clear hY q0 q1 q2 hG hPk
      exact readCond_done (k := w.heap.size) (cs := #[.int .u8 xk, .int .u8 xt, .int .u8 xn, .int .u8 xv, .slice xa xl xp]) (p := 0) (x := 0) rfl rfl rfl rfl rfl s0 s1 s2 fun W' B => ⟨hH.trans (.of_below B), by
        rw [hP2]
        exact ⟨⟨xk, xt, xn, xv, .slice xa xl xp⟩, rfl, CondM.mono (fun g _ _ hC => (B.block g (lt_of_heap hC)).trans hC) (fun g h => by have := l3.out; omega) _ _ hPl⟩⟩
    · have hP2 : readC s l = .bad p x := hP.out.trans hr
      rw [hr] at CPx
      clear hr hP
      refine CPx.mono ?_
      rintro e w5 ⟨F5, rfl⟩
      have G5 := hF.trans F5
      have r0 := F5.box q0 (show w.heap.size ≠ b by omega) (by simp [T1])
      have r1 := F5.box q1 (show w.heap.size + 1 ≠ b by omega) (by simp [T1])
      have r2 := F5.box q2 (show w.heap.size + 1 + 1 ≠ b by omega) (by simp [T1])
      show bodyPostD _ _ _ _ _ _
      exact readCond_caught (k := w.heap.size) (cs := #[.int .u8 0, .int .u8 0, .int .u8 0, .int .u8 0, .slice none 0 0]) (p := p) (x := x) rfl rfl rfl rfl rfl r0 r1 r2 fun W' hc => ⟨⟨hc.os.trans G5.os, hc.tape.trans G5.tape, hc.output.trans G5.output, Nat.le_trans G5.size hc.size, fun k o ho hkb => by
        have hlt := lt_of_heap ho
        exact hc.block k o (G5.block k o ho hkb) (by omega) (by omega)⟩, by rw [hP2]; rfl⟩
  · have hP : readC s l = .bad (pl : Int) (er : Int) := by rw [readC_eq, if_neg (by rw [her]; exact he), hpl, her]
    have t1 : ((er : Int) != 0) = true := by simp; omega
    unfold ReadCPost
    rw [hP]
    replace B0 := Lib.hid B0
    replace CL := Lib.hid CL
    replace z0 := Lib.hid z0
    replace z1 := Lib.hid z1
    replace z2 := Lib.hid z2
    clear hP
    go_enter_defers Try.func13, Try.ntmps13
    go_wp2_with (first
      | (go_at_call 15; refine (CL.out).mono ?_; rintro e w1 ⟨v, rfl, hown, B1⟩
         obtain ⟨g, hT, hg, va, vn, vc, rfl⟩ := tkR_own hown (by have := toks_len s; rw [toks_length] at this; exact this) (by have := B1.size; simp at this; omega)
         have y0 := (B1.block _ (lt_of_heap z0.out)).trans z0.out
         have y1 := (B1.block _ (lt_of_heap z1.out)).trans z1.out
         have y2 := (B1.block _ (lt_of_heap z2.out)).trans z2.out
         have c1 := cell_of_row _ _ 0 _ _ _ y1
         have c2 := cell_of_row _ _ 0 _ _ _ y2
         have f1 := frozen_of_row _ _ 0 _ _ y1
         have f2 := frozen_of_row _ _ 0 _ _ y2
         simp only [List.getElem?_toArray, List.getElem?_cons_zero, List.getElem?_cons_succ] at c1 c2
         clear hown hT))
    have r0 := row_keep (row_keep y0 (show w.heap.size ≠ w.heap.size + 1 by omega) 0 (.int .i64 (pl : Int))) (show w.heap.size ≠ w.heap.size + 1 + 1 by omega) 0 (.int .i64 (er : Int))
    have r1 := row_keep (heap_setCell_same _ (w.heap.size + 1) 0 _ _ (.int .i64 (pl : Int)) y1) (show w.heap.size + 1 ≠ w.heap.size + 1 + 1 by omega) 0 (.int .i64 (er : Int))
    have r2 := heap_setCell_same _ (w.heap.size + 1 + 1) 0 _ _ (.int .i64 (er : Int)) (row_keep y2 (show w.heap.size + 1 + 1 ≠ w.heap.size + 1 by omega) 0 (.int .i64 (pl : Int)))
    simp only [List.setIfInBounds_toArray, List.set_cons_succ, List.set_cons_zero] at r1 r2
    have hF : Fr T1 b w ((w1.setCell ⟨w.heap.size + 1, 0, none⟩ (.int .i64 (pl : Int))).setCell ⟨w.heap.size + 1 + 1, 0, none⟩ (.int .i64 (er : Int))) := (((Fr.of_below (B0.out.trans (B1.mono B0.out.size))).setNew (by omega) 0 _).setNew (by omega) 0 _)
    clear y0 y1 y2 c1 c2 f1 f2
    generalize (w1.setCell ⟨w.heap.size + 1, 0, none⟩ (.int .i64 (pl : Int))).setCell ⟨w.heap.size + 1 + 1, 0, none⟩ (.int .i64 (er : Int)) = W at *
    have d0 := cell_of_row _ w.heap.size 0 _ _ _ r0
    have d1 := cell_of_row _ w.heap.size 1 _ _ _ r0
    have d2 := cell_of_row _ w.heap.size 2 _ _ _ r0
    have d3 := cell_of_row _ w.heap.size 3 _ _ _ r0
    have d4 := cell_of_row _ w.heap.size 4 _ _ _ r0
    have d10 := cell_of_row _ (w.heap.size + 1) 0 _ _ _ r1
    have d11 := cell_of_row _ (w.heap.size + 1 + 1) 0 _ _ _ r2
    simp only [List.getElem?_toArray, List.getElem?_cons_zero, List.getElem?_cons_succ] at d0 d1 d2 d3 d4 d10 d11
    have f0 := fun j => frozen_of_row _ w.heap.size j _ _ r0
    have f1 := frozen_of_row _ (w.heap.size + 1) 0 _ _ r1
    have f2 := frozen_of_row _ (w.heap.size + 1 + 1) 0 _ _ r2
    go_region
    have q0 := setCond_row (y := cvZ) cvZ r0
    have q1 := setCond_keep (x := cvZ) r1 (show w.heap.size + 1 ≠ w.heap.size by omega)
    have q2 := setCond_keep (x := cvZ) r2 (show w.heap.size + 1 + 1 ≠ w.heap.size by omega)
    have hG := setCond_fr cvZ hF (Nat.le_refl w.heap.size)
    unfold setCond cvZ at q0 q1 q2 hG
    simp only at q0 q1 q2 hG
    have s0 := row_keep (row_keep q0 (show w.heap.size ≠ w.heap.size + 1 by omega) 0 (.int .i64 (pl : Int))) (show w.heap.size ≠ w.heap.size + 1 + 1 by omega) 0 (.int .i64 (er : Int))
    have s1 := row_keep (heap_setCell_same _ (w.heap.size + 1) 0 _ _ (.int .i64 (pl : Int)) q1) (show w.heap.size + 1 ≠ w.heap.size + 1 + 1 by omega) 0 (.int .i64 (er : Int))
    have s2 := heap_setCell_same _ (w.heap.size + 1 + 1) 0 _ _ (.int .i64 (er : Int)) (row_keep q2 (show w.heap.size + 1 + 1 ≠ w.heap.size + 1 by omega) 0 (.int .i64 (pl : Int)))
    simp only [List.setIfInBounds_toArray, List.set_cons_succ, List.set_cons_zero] at s1 s2
    obtain ⟨Y, hY⟩ : ∃ Y, ((setCond W w.heap.size cvZ).setCell ⟨w.heap.size + 1, 0, none⟩ (.int .i64 (pl : Int))).setCell ⟨w.heap.size + 1 + 1, 0, none⟩ (.int .i64 (er : Int)) = Y := ⟨_, rfl⟩
    unfold setCond cvZ at hY
    simp only at hY
    have hH := ((hG.setNew (k := w.heap.size + 1) (by omega) 0 (.int .i64 (pl : Int))).setNew (k := w.heap.size + 1 + 1) (by omega) 0 (.int .i64 (er : Int)))
    rw [hY] at s0 s1 s2 hH ⊢
    clear hY
    replace hH := hH.trans (Fr.of_below (drewB1 Y))
    replace hH := Lib.hid hH
    replace s0 := Lib.hid s0
    replace s1 := Lib.hid s1
    replace s2 := Lib.hid s2
    clear q0 q1 q2 hG r0 r1 r2 hF
    go_wp2
    exact readCond_door (k := w.heap.size) (cs := #[.int .u8 0, .int .u8 0, .int .u8 0, .int .u8 0, .slice none 0 0]) (p := (pl : Int)) (x := (er : Int)) rfl rfl rfl rfl rfl s0.out s1.out s2.out ⟨hH.out, rfl⟩
end PP
end Go.Proofs.Ytglbmiadgdadfaa
end
