/- ParRead2, ParParse, ParEx, ParQuiet, ParAwake in one text, for the claim. -/
import Derived.Test.YtijipgiclkkfhaaPt7
import Derived.Test.YtijipgiclkkfhaaRegionBelow
import Derived.Test.YtijipgiclkkfhaaPt6
import Derived.BigQuiet

section
/- Parsing a text as a program. -/
namespace Go.Proofs.Ytijipgiclkkfhaa
open Go.RowKit Go.Shelf

attribute [local go_sem] Oper.semAt_some
namespace PP
def progZ : Array Value := #[.string ⟨#[]⟩, .slice none 0 0, .slice none 0 0, .slice none 0 0, .int .u8 0, .int .u8 0, .int .u8 0, .int .u8 0, .int .u8 0, .slice none 0 0]
def parZ (o : Bool) (vl : Value) : Array Value := #[.slice none 0 0, .int .i64 0, vl, .bool o, .string ⟨#[]⟩, .slice none 0 0, .slice none 0 0, .slice none 0 0, .int .u8 0, .int .u8 0, .int .u8 0, .int .u8 0, .int .u8 0, .slice none 0 0, .int .u8 0]
def hdZ (g : Nat) (vl : Value) : Hd := ⟨g, vl, .slice none 0 0, .slice none 0 0, .int .u8 0, .int .u8 0, .int .u8 0, .int .u8 0, .slice none 0 0⟩
/-- What parsing a text as a program answers. -/
def ReadPost (s : ByteArray) (b : Nat) (w : World) (e : Ending) (w' : World) : Prop :=
  Fr T2 b w w' ∧ match PX.parse s with
    | .ok _ st => ∃ h, e = .returned (.tuple #[progV st h, .int .i64 0, .int .i64 0]) ∧ PgM w' b st h
    | .bad p x => e = .returned (.tuple #[.agg progZ, .int .i64 p, .int .i64 x])
theorem parse_eq (s : ByteArray) : PX.parse s = if (LX.out (bsOf s)).2.2 = 0 then PX.prog ((toks s).length + 1) (PX.start s [] true) else .bad ((LX.out (bsOf s)).2.1 : Int) ((LX.out (bsOf s)).2.2 : Int) := rfl
theorem lt_start {W : World} {b g : Nat} {v : Value} {s : ByteArray} (hb : W.heap[b]? = some (.cells (psC v (PX.start s [] true) (hdZ g (.slice none 0 0))) 65 (0, 0))) (ht : TkR W g v (toks s)) (hg : g < W.heap.size) : LT W b (PX.start s [] true) (hdZ g (.slice none 0 0)) :=
  ⟨⟨⟨v, hb, ht, toks_ok s, hg⟩, ⟨fun _ => ⟨World.ownsRow_nil _ _ _ _, Nat.zero_le _⟩, fun h => by cases h⟩, fun _ => World.ownsRow_nil _ _ _ _⟩, rfl, ThrM.zero _ _, ⟨0, 0, 0, 0, .slice none 0 0⟩, rfl, rfl, rfl, rfl, rfl, condM_leaf _ _ _ _ _ _⟩
theorem readProg_results (tmps : Array Value) (W : World) (k : Nat) (cs : Array Value) (p x : Int) (hs : cs.size = 10) (h6 : tmps[6]?.getD undef = .pointer (some ⟨k, 0, none⟩)) (h7 : tmps[7]?.getD undef = .pointer (some ⟨k + 1, 0, none⟩)) (h8 : tmps[8]?.getD undef = .pointer (some ⟨k + 1 + 1, 0, none⟩))
    (r0 : W.heap[k]? = some (.cells cs 37 (0, 0))) (r1 : W.heap[k + 1]? = some (.cells #[.int .i64 p] 3 (0, 0))) (r2 : W.heap[k + 1 + 1]? = some (.cells #[.int .i64 x] 30 (0, 0))) :
    (results Try.f21 tmps).run Try.prog W = .ok (.tuple #[.agg cs, .int .i64 p, .int .i64 x]) W := by
  have l0 := run_loadVar_row (P := Try.prog) W k 37 37 cs (0, 0) _ r0 Try.underlying37 rfl (by rw [sizeProg, hs])
  have c1 := cell_of_row _ (k + 1) 0 _ _ _ r1
  have c2 := cell_of_row _ (k + 1 + 1) 0 _ _ _ r2
  simp only [List.getElem?_toArray, List.getElem?_cons_zero, List.getElem?_cons_succ] at c1 c2
  have l1 : (loadVar 3 ⟨k + 1, 0, none⟩).run Try.prog W = .ok (.int .i64 p) W := by simp [go_sem, c1]
  have l2 : (loadVar 30 ⟨k + 1 + 1, 0, none⟩).run Try.prog W = .ok (.int .i64 x) W := by simp [go_sem, c2]
  simp [results, Try.results21, h6, h7, h8, asAddr, l0, l1, l2]
theorem readProg_door {R : Ending → World → Prop} {a : Act} {W : World} {k : Nat} {cs : Array Value} {p x : Int} (hs : cs.size = 10) (hd : a.defers = []) (h6 : a.tmps[6]?.getD undef = .pointer (some ⟨k, 0, none⟩)) (h7 : a.tmps[7]?.getD undef = .pointer (some ⟨k + 1, 0, none⟩)) (h8 : a.tmps[8]?.getD undef = .pointer (some ⟨k + 1 + 1, 0, none⟩))
    (r0 : W.heap[k]? = some (.cells cs 37 (0, 0))) (r1 : W.heap[k + 1]? = some (.cells #[.int .i64 p] 3 (0, 0))) (r2 : W.heap[k + 1 + 1]? = some (.cells #[.int .i64 x] 30 (0, 0)))
    (hR : R (.returned (.tuple #[.agg cs, .int .i64 p, .int .i64 x])) W) : bodyPostD Try.prog Try.f21 R Exit.ret a W := by
  show Leaves _ _ _ _ a.defers _ _
  rw [hd]
  exact ⟨_, readProg_results a.tmps W k cs p x hs h6 h7 h8 r0 r1 r2, hR⟩
theorem readProg_done {R : Ending → World → Prop} {a : Act} {W : World} {k : Nat} {cs : Array Value} {p x : Int} (hs : cs.size = 10) (hd : a.defers = [{ target := .fn (.func 39) #[.pointer (some ⟨k + 1, 0, none⟩), .pointer (some ⟨k + 1 + 1, 0, none⟩)], args := #[] }]) (h6 : a.tmps[6]?.getD undef = .pointer (some ⟨k, 0, none⟩)) (h7 : a.tmps[7]?.getD undef = .pointer (some ⟨k + 1, 0, none⟩)) (h8 : a.tmps[8]?.getD undef = .pointer (some ⟨k + 1 + 1, 0, none⟩))
    (r0 : W.heap[k]? = some (.cells cs 37 (0, 0))) (r1 : W.heap[k + 1]? = some (.cells #[.int .i64 p] 3 (0, 0))) (r2 : W.heap[k + 1 + 1]? = some (.cells #[.int .i64 x] 30 (0, 0)))
    (hR : ∀ W', Below W.heap.size W W' → R (.returned (.tuple #[.agg cs, .int .i64 p, .int .i64 x])) W') : bodyPostD Try.prog Try.f21 R Exit.ret a W := by
  show Leaves _ _ _ _ a.defers _ _
  rw [hd]
  refine leaves_cons (f := 39) (args := #[.pointer (some ⟨k + 1, 0, none⟩), .pointer (some ⟨k + 1 + 1, 0, none⟩)]) (by simp) (by simp [go_sem]) ?_
  refine (catch_idle _ _ W).mono ?_
  rintro e u' w'' ⟨rfl, rfl, rfl⟩
  exact ⟨_, readProg_results a.tmps _ k cs p x hs h6 h7 h8 (row_alloc r0 _) (row_alloc r1 _) (row_alloc r2 _), hR _ ((Below.refl _ W).alloc (Nat.le_refl _) _)⟩
theorem readProg_caught {R : Ending → World → Prop} {a : Act} {W : World} {k : Nat} {cs : Array Value} {p x v1 v2 : Int} (hs : cs.size = 10) (hd : a.defers = [{ target := .fn (.func 39) #[.pointer (some ⟨k + 1, 0, none⟩), .pointer (some ⟨k + 1 + 1, 0, none⟩)], args := #[] }]) (h6 : a.tmps[6]?.getD undef = .pointer (some ⟨k, 0, none⟩)) (h7 : a.tmps[7]?.getD undef = .pointer (some ⟨k + 1, 0, none⟩)) (h8 : a.tmps[8]?.getD undef = .pointer (some ⟨k + 1 + 1, 0, none⟩))
    (r0 : W.heap[k]? = some (.cells cs 37 (0, 0))) (r1 : W.heap[k + 1]? = some (.cells #[.int .i64 v1] 3 (0, 0))) (r2 : W.heap[k + 1 + 1]? = some (.cells #[.int .i64 v2] 30 (0, 0)))
    (hR : ∀ W', CatP W W' (k + 1) (k + 1 + 1) p x → R (.returned (.tuple #[.agg cs, .int .i64 p, .int .i64 x])) W') : bodyPostD Try.prog Try.f21 R (Exit.panic [{ v := .iface 88 (.agg #[.int .i64 p, .int .i64 x]), recovered := false }]) a W := by
  show Leaves _ _ _ _ a.defers _ _
  rw [hd]
  refine leaves_cons (f := 39) (args := #[.pointer (some ⟨k + 1, 0, none⟩), .pointer (some ⟨k + 1 + 1, 0, none⟩)]) (by simp) (by simp [go_sem]) ?_
  refine (catch_panicking (k + 1) (k + 1 + 1) p x W v1 v2 r1 r2 (by omega)).mono ?_
  rintro e u' w'' ⟨rfl, rfl, hc⟩
  show Leaves _ _ _ _ [] .returning _
  exact ⟨_, readProg_results a.tmps _ k cs p x hs h6 h7 h8 (hc.block k _ r0 (by omega) (by omega)) hc.c1 hc.c2, hR _ hc⟩
set_option maxRecDepth 100000 in
set_option maxHeartbeats 16000000 in
theorem readProg_any (s : ByteArray) (b : Nat) (w : World) (hb : w.heap[b]? = some (.cells (parZ true (.slice none 0 0)) 65 (0, 0))) :
    Calls Try.prog 21 #[.pointer (some ⟨b, 0, none⟩), .string s, .func (.func 22) #[] #[]] w (ReadPost s b w) := by
  have hbl := lt_of_heap hb
  have B0 := (((Below.refl w.heap.size w).alloc (Nat.le_refl _) (.cells progZ 37)).alloc (by simp) (.cells #[.int .i64 0] 3)).alloc (by simp; omega) (.cells #[.int .i64 0] 30)
  have z0 := row_alloc (row_alloc (heap_alloc_new w (.cells progZ 37)) (.cells #[.int .i64 0] 3)) (.cells #[.int .i64 0] 30)
  have z1 := row_alloc (heap_alloc_new (w.alloc (.cells progZ 37)) (.cells #[.int .i64 0] 3)) (.cells #[.int .i64 0] 30)
  have z2 := heap_alloc_new ((w.alloc (.cells progZ 37)).alloc (.cells #[.int .i64 0] 3)) (.cells #[.int .i64 0] 30)
  have CL := lex_any s (((w.alloc (.cells progZ 37)).alloc (.cells #[.int .i64 0] 3)).alloc (.cells #[.int .i64 0] 30))
  simp only [World.size_alloc] at z1 z2
  obtain ⟨pl, hpl⟩ : ∃ pl, (LX.out (bsOf s)).2.1 = pl := ⟨_, rfl⟩
  obtain ⟨er, her⟩ : ∃ er, (LX.out (bsOf s)).2.2 = er := ⟨_, rfl⟩
  unfold LexPost at CL
  rw [hpl, her] at CL
  have hmf : ∀ (fn : Fn) (first cap : Array Value) (w : World), (Instr.makeFunc fn first cap).run Try.prog w = .ok (.func fn first cap) w := fun _ _ _ _ => rfl
  unfold progZ at CL B0 z0 z1 z2
  by_cases he : er = 0
  · subst he
    have hP : PX.parse s = PX.prog ((toks s).length + 1) (PX.start s [] true) := by rw [parse_eq, if_pos her]
    replace B0 := Lib.hid B0
    replace CL := Lib.hid CL
    replace z0 := Lib.hid z0
    replace z1 := Lib.hid z1
    replace z2 := Lib.hid z2
    replace hP := Lib.hid hP
    have hent : ∀ args W, (callFunc 22 args).run Try.prog W = .ok (.enter 22 args) W := enters Try.func22 (by kernel_rfl) rfl
    unfold parZ at hb
    have hlen := toks_len s
    rw [toks_length] at hlen
    have CP := Lib.hid fun g W (L : LT W b (PX.start s [] true) (hdZ g (.slice none 0 0))) => program_any b (PX.start s [] true) (hdZ g (.slice none 0 0)) W L (PX.inv_start s) (by show (toks s).length < 99999; have := toks_len s; omega)
    have t1 : ((0 : Int) != 0) = false := rfl
    replace hlen := Lib.hid hlen
    replace hb := Lib.hid hb
    go_enter_defers Try.func21, Try.ntmps21
    go_wp2_with (first
      | (go_at_call 11; refine (CL.out).mono ?_; rintro e w1 ⟨v, rfl, hown, B1⟩
         obtain ⟨g, hT, hg, va, vn, vc, rfl⟩ := tkR_own hown hlen.out (by have := B1.size; simp at this; omega)
         have y0 := (B1.block _ (lt_of_heap z0.out)).trans z0.out
         have y1 := (B1.block _ (lt_of_heap z1.out)).trans z1.out
         have y2 := (B1.block _ (lt_of_heap z2.out)).trans z2.out
         have yb := (B1.block _ (Nat.lt_of_lt_of_le hbl B0.out.size)).trans ((B0.out.block b hbl).trans hb.out)
         have c1 := cell_of_row _ _ 0 _ _ _ y1
         have c2 := cell_of_row _ _ 0 _ _ _ y2
         have f1 := frozen_of_row _ _ 0 _ _ y1
         have f2 := frozen_of_row _ _ 0 _ _ y2
         have b0 := cell_of_row _ b 0 _ _ _ yb
         have b1 := cell_of_row _ b 1 _ _ _ yb
         have fb0 := frozen_of_row _ b 0 _ _ yb
         have fb1 := frozen_of_row _ b 1 _ _ yb
         simp only [List.getElem?_toArray, List.getElem?_cons_zero, List.getElem?_cons_succ] at c1 c2 b0 b1
         have m1 : ¬ b = w.heap.size + 1 := by omega
         have m2 : ¬ b = w.heap.size + 1 + 1 := by omega
         have m3 : ¬ w.heap.size + 1 = b := by omega
         have m4 : ¬ w.heap.size + 1 + 1 = b := by omega
         replace hown := Lib.hid hown
         replace hT := Lib.hid hT
         replace y0 := Lib.hid y0
         replace y1 := Lib.hid y1
         replace y2 := Lib.hid y2
         replace yb := Lib.hid yb
         replace B1 := Lib.hid B1))
    have q0 := row_keep (row_keep (row_keep (row_keep y0.out (show w.heap.size ≠ w.heap.size + 1 by omega) 0 (.int .i64 (pl : Int))) (show w.heap.size ≠ w.heap.size + 1 + 1 by omega) 0 (.int .i64 0)) (show w.heap.size ≠ b by omega) 0 (.slice va vn vc)) (show w.heap.size ≠ b by omega) 1 (.int .i64 (s.size : Int))
    have q1 := row_keep (row_keep (row_keep (heap_setCell_same _ (w.heap.size + 1) 0 _ _ (.int .i64 (pl : Int)) y1.out) (show w.heap.size + 1 ≠ w.heap.size + 1 + 1 by omega) 0 (.int .i64 0)) (show w.heap.size + 1 ≠ b by omega) 0 (.slice va vn vc)) (show w.heap.size + 1 ≠ b by omega) 1 (.int .i64 (s.size : Int))
    have q2 := row_keep (row_keep (heap_setCell_same _ (w.heap.size + 1 + 1) 0 _ _ (.int .i64 0) (row_keep y2.out (show w.heap.size + 1 + 1 ≠ w.heap.size + 1 by omega) 0 (.int .i64 (pl : Int)))) (show w.heap.size + 1 + 1 ≠ b by omega) 0 (.slice va vn vc)) (show w.heap.size + 1 + 1 ≠ b by omega) 1 (.int .i64 (s.size : Int))
    have qb := heap_setCell_same _ b 1 _ _ (.int .i64 (s.size : Int)) (heap_setCell_same _ b 0 _ _ (.slice va vn vc) (row_keep (row_keep yb.out (show b ≠ w.heap.size + 1 by omega) 0 (.int .i64 (pl : Int))) (show b ≠ w.heap.size + 1 + 1 by omega) 0 (.int .i64 0)))
    simp only [List.setIfInBounds_toArray, List.set_cons_succ, List.set_cons_zero] at q1 q2 qb
    have hTk : TkR ((((w1.setCell ⟨w.heap.size + 1, 0, none⟩ (.int .i64 (pl : Int))).setCell ⟨w.heap.size + 1 + 1, 0, none⟩ (.int .i64 0)).setCell ⟨b, 0, none⟩ (.slice va vn vc)).setCell ⟨b, 1, none⟩ (.int .i64 (s.size : Int))) g (.slice va vn vc) (toks s) := hT.out.same fun C hC => by
      have n1 : g ≠ w.heap.size + 1 := by rintro rfl; rw [y1.out] at hC; cases hC
      have n2 : g ≠ w.heap.size + 1 + 1 := by rintro rfl; rw [y2.out] at hC; cases hC
      have n3 : g ≠ b := by rintro rfl; rw [yb.out] at hC; cases hC
      exact row_keep (row_keep (row_keep (row_keep hC n1 0 _) n2 0 _) n3 0 _) n3 1 _
    have hF : Fr T2 b w ((((w1.setCell ⟨w.heap.size + 1, 0, none⟩ (.int .i64 (pl : Int))).setCell ⟨w.heap.size + 1 + 1, 0, none⟩ (.int .i64 0)).setCell ⟨b, 0, none⟩ (.slice va vn vc)).setCell ⟨b, 1, none⟩ (.int .i64 (s.size : Int))) := ((((Fr.of_below (B0.out.trans (B1.out.mono B0.out.size))).setNew (by omega) 0 _).setNew (by omega) 0 _).setB 0 _).setB 1 _
    have hg3 : g < ((((w1.setCell ⟨w.heap.size + 1, 0, none⟩ (.int .i64 (pl : Int))).setCell ⟨w.heap.size + 1 + 1, 0, none⟩ (.int .i64 0)).setCell ⟨b, 0, none⟩ (.slice va vn vc)).setCell ⟨b, 1, none⟩ (.int .i64 (s.size : Int))).heap.size := by simpa using hg
    generalize (((w1.setCell ⟨w.heap.size + 1, 0, none⟩ (.int .i64 (pl : Int))).setCell ⟨w.heap.size + 1 + 1, 0, none⟩ (.int .i64 0)).setCell ⟨b, 0, none⟩ (.slice va vn vc)).setCell ⟨b, 1, none⟩ (.int .i64 (s.size : Int)) = W3 at *
    have CPx : Calls Try.prog 22 #[.pointer (some ⟨b, 0, none⟩)] W3 (EndsG W3 b (PX.prog ((toks s).length + 1) (PX.start s [] true))) := CP.out g W3 (lt_start qb hTk hg3)
    clear y0 y1 y2 yb c1 c2 f1 f2 b0 b1 fb0 fb1 hTk hg3 qb hown hT B1 CL CP
    rcases hr : PX.prog ((toks s).length + 1) (PX.start s [] true) with ⟨u, st⟩ | ⟨p, x⟩
    · have hP2 : PX.parse s = .ok u st := hP.out.trans hr
      rw [hr] at CPx
      clear hr hP
      refine CPx.mono ?_
      rintro e w5 ⟨F5, h, rfl, P5⟩
      obtain ⟨xc, k0, k1, k2, k3, k4, k5⟩ := P5.cnd
      obtain ⟨xa, xl, xp, hu⟩ := k5.slice
      rw [hu] at k4
      obtain ⟨a2, n2, p2, hvl⟩ : ∃ a n cap, h.vl = .slice a n cap := by
        rcases P5.locs.2 with ⟨e, _⟩ | ⟨g, cap, cur, e, _⟩
        · exact ⟨_, _, _, e⟩
        · exact ⟨_, _, _, e⟩
      obtain ⟨a6, n6, p6, hvi⟩ : ∃ a n cap, h.vi = .slice a n cap := by
        rcases P5.init.2 with ⟨e, _⟩ | ⟨g, cap, cur, e, _⟩
        · exact ⟨_, _, _, e⟩
        · exact ⟨_, _, _, e⟩
      obtain ⟨a7, p7, hvt⟩ := P5.thr.sl
      have hv : progV st h = .agg #[.string st.name, .slice a2 n2 p2, .slice a6 n6 p6, .slice a7 st.threads.length p7, .int .u8 st.ask, .int .u8 xc.k, .int .u8 xc.t, .int .u8 xc.n, .int .u8 xc.v, .slice xa xl xp] := by
        unfold progV; rw [hvl, hvi, hvt, k0, k1, k2, k3, k4]
      have G5 := hF.trans F5
      have r0 := F5.box q0 (show w.heap.size ≠ b by omega) (by simp [T2])
      have r1 := F5.box q1 (show w.heap.size + 1 ≠ b by omega) (by simp [T2])
      have r2 := F5.box q2 (show w.heap.size + 1 + 1 ≠ b by omega) (by simp [T2])
      rw [hv]
      clear k0 k1 k2 k3 k4 k5 hu hvl hvi hvt q0 q1 q2 F5 hF
      have d0 := cell_of_row _ w.heap.size 0 _ _ _ r0
      have d1 := cell_of_row _ w.heap.size 1 _ _ _ r0
      have d2 := cell_of_row _ w.heap.size 2 _ _ _ r0
      have d3 := cell_of_row _ w.heap.size 3 _ _ _ r0
      have d4 := cell_of_row _ w.heap.size 4 _ _ _ r0
      have d5 := cell_of_row _ w.heap.size 5 _ _ _ r0
      have d6 := cell_of_row _ w.heap.size 6 _ _ _ r0
      have d7 := cell_of_row _ w.heap.size 7 _ _ _ r0
      have d8 := cell_of_row _ w.heap.size 8 _ _ _ r0
      have d9 := cell_of_row _ w.heap.size 9 _ _ _ r0
      have d10 := cell_of_row _ (w.heap.size + 1) 0 _ _ _ r1
      have d11 := cell_of_row _ (w.heap.size + 1 + 1) 0 _ _ _ r2
      simp only [List.getElem?_toArray, List.getElem?_cons_zero, List.getElem?_cons_succ] at d0 d1 d2 d3 d4 d5 d6 d7 d8 d9 d10 d11
      have f0 := fun j => frozen_of_row _ w.heap.size j _ _ r0
      have f1 := frozen_of_row _ (w.heap.size + 1) 0 _ _ r1
      have f2 := frozen_of_row _ (w.heap.size + 1 + 1) 0 _ _ r2
      replace r0 := Lib.hid r0
      replace r1 := Lib.hid r1
      replace r2 := Lib.hid r2
      replace P5 := Lib.hid P5
      replace hv := Lib.hid hv
      replace G5 := Lib.hid G5
      go_wp2
      have q0 := setP_row (.string st.name) (.slice a2 n2 p2) (.slice a6 n6 p6) (.slice a7 st.threads.length p7) (.int .u8 st.ask) (.int .u8 xc.k) (.int .u8 xc.t) (.int .u8 xc.n) (.int .u8 xc.v) (.slice xa xl xp) r0.out
      have q1 := setP_keep (.string st.name) (.slice a2 n2 p2) (.slice a6 n6 p6) (.slice a7 st.threads.length p7) (.int .u8 st.ask) (.int .u8 xc.k) (.int .u8 xc.t) (.int .u8 xc.n) (.int .u8 xc.v) (.slice xa xl xp) r1.out (show w.heap.size + 1 ≠ w.heap.size by omega)
      have q2 := setP_keep (.string st.name) (.slice a2 n2 p2) (.slice a6 n6 p6) (.slice a7 st.threads.length p7) (.int .u8 st.ask) (.int .u8 xc.k) (.int .u8 xc.t) (.int .u8 xc.n) (.int .u8 xc.v) (.slice xa xl xp) r2.out (show w.heap.size + 1 + 1 ≠ w.heap.size by omega)
      have hG := setP_fr (.string st.name) (.slice a2 n2 p2) (.slice a6 n6 p6) (.slice a7 st.threads.length p7) (.int .u8 st.ask) (.int .u8 xc.k) (.int .u8 xc.t) (.int .u8 xc.n) (.int .u8 xc.v) (.slice xa xl xp) G5.out (Nat.le_refl w.heap.size)
      have hPk : PgM (setP w5 w.heap.size (.string st.name) (.slice a2 n2 p2) (.slice a6 n6 p6) (.slice a7 st.threads.length p7) (.int .u8 st.ask) (.int .u8 xc.k) (.int .u8 xc.t) (.int .u8 xc.n) (.int .u8 xc.v) (.slice xa xl xp)) b st h := P5.out.keep fun i D t hi ht hh => setP_keep _ _ _ _ _ _ _ _ _ _ hh (by
        rintro rfl
        have := r0.out
        rw [hh] at this
        cases this
        simp at ht)
      have s0 := row_keep (row_keep q0 (show w.heap.size ≠ w.heap.size + 1 by omega) 0 (.int .i64 0)) (show w.heap.size ≠ w.heap.size + 1 + 1 by omega) 0 (.int .i64 0)
      have s1 := row_keep (heap_setCell_same _ (w.heap.size + 1) 0 _ _ (.int .i64 0) q1) (show w.heap.size + 1 ≠ w.heap.size + 1 + 1 by omega) 0 (.int .i64 0)
      have s2 := heap_setCell_same _ (w.heap.size + 1 + 1) 0 _ _ (.int .i64 0) (row_keep q2 (show w.heap.size + 1 + 1 ≠ w.heap.size + 1 by omega) 0 (.int .i64 0))
      simp only [List.setIfInBounds_toArray, List.set_cons_succ, List.set_cons_zero] at s1 s2
      have hPl := PgM.keep (W' := ((setP w5 w.heap.size (.string st.name) (.slice a2 n2 p2) (.slice a6 n6 p6) (.slice a7 st.threads.length p7) (.int .u8 st.ask) (.int .u8 xc.k) (.int .u8 xc.t) (.int .u8 xc.n) (.int .u8 xc.v) (.slice xa xl xp)).setCell ⟨w.heap.size + 1, 0, none⟩ (.int .i64 0)).setCell ⟨w.heap.size + 1 + 1, 0, none⟩ (.int .i64 0)) hPk fun i D t hi ht hh => row_keep (row_keep hh (by
        rintro rfl
        rw [hh] at q1
        cases q1
        simp at ht) 0 _) (by
        rintro rfl
        rw [hh] at q2
        cases q2
        simp at ht) 0 _
      have hH := ((hG.setNew (k := w.heap.size + 1) (by omega) 0 (.int .i64 0)).setNew (k := w.heap.size + 1 + 1) (by omega) 0 (.int .i64 0))
      obtain ⟨Y, hY⟩ : ∃ Y, ((setP w5 w.heap.size (.string st.name) (.slice a2 n2 p2) (.slice a6 n6 p6) (.slice a7 st.threads.length p7) (.int .u8 st.ask) (.int .u8 xc.k) (.int .u8 xc.t) (.int .u8 xc.n) (.int .u8 xc.v) (.slice xa xl xp)).setCell ⟨w.heap.size + 1, 0, none⟩ (.int .i64 0)).setCell ⟨w.heap.size + 1 + 1, 0, none⟩ (.int .i64 0) = Y := ⟨_, rfl⟩
      rw [hY] at s0 s1 s2 hH hPl
      unfold setP at hY
      rw [hY]
      clear hY q0 q1 q2 hG hPk
      exact readProg_done (k := w.heap.size) (cs := #[.string st.name, .slice a2 n2 p2, .slice a6 n6 p6, .slice a7 st.threads.length p7, .int .u8 st.ask, .int .u8 xc.k, .int .u8 xc.t, .int .u8 xc.n, .int .u8 xc.v, .slice xa xl xp]) (p := 0) (x := 0) rfl rfl rfl rfl rfl s0 s1 s2 fun W' B => ⟨hH.trans (.of_below B), by
        rw [hP2]
        exact ⟨h, by rw [hv.out], hPl.below B⟩⟩
    · have hP2 : PX.parse s = .bad p x := hP.out.trans hr
      rw [hr] at CPx
      clear hr hP
      refine CPx.mono ?_
      rintro e w5 ⟨F5, rfl⟩
      have G5 := hF.trans F5
      have r0 := F5.box q0 (show w.heap.size ≠ b by omega) (by simp [T2])
      have r1 := F5.box q1 (show w.heap.size + 1 ≠ b by omega) (by simp [T2])
      have r2 := F5.box q2 (show w.heap.size + 1 + 1 ≠ b by omega) (by simp [T2])
      show bodyPostD _ _ _ _ _ _
      exact readProg_caught (k := w.heap.size) (cs := #[.string ⟨#[]⟩, .slice none 0 0, .slice none 0 0, .slice none 0 0, .int .u8 0, .int .u8 0, .int .u8 0, .int .u8 0, .int .u8 0, .slice none 0 0]) (p := p) (x := x) rfl rfl rfl rfl rfl r0 r1 r2 fun W' hc => ⟨⟨hc.os.trans G5.os, hc.tape.trans G5.tape, hc.output.trans G5.output, Nat.le_trans G5.size hc.size, fun k o ho hkb => by
        have hlt := lt_of_heap ho
        exact hc.block k o (G5.block k o ho hkb) (by omega) (by omega)⟩, by rw [hP2]; rfl⟩
  · have hP : PX.parse s = .bad (pl : Int) (er : Int) := by rw [parse_eq, if_neg (by rw [her]; exact he), hpl, her]
    have t1 : ((er : Int) != 0) = true := by simp; omega
    unfold ReadPost
    rw [hP]
    replace B0 := Lib.hid B0
    replace CL := Lib.hid CL
    replace z0 := Lib.hid z0
    replace z1 := Lib.hid z1
    replace z2 := Lib.hid z2
    clear hP
    go_enter_defers Try.func21, Try.ntmps21
    go_wp2_with (first
      | (go_at_call 11; refine (CL.out).mono ?_; rintro e w1 ⟨v, rfl, hown, B1⟩
         obtain ⟨g, hT, hg, va, vn, vc, rfl⟩ := tkR_own hown (by have := toks_len s; rw [toks_length] at this; exact this) (by have := B1.size; simp at this; omega)
         have y0 := (B1.block _ (lt_of_heap z0.out)).trans z0.out
         have y1 := (B1.block _ (lt_of_heap z1.out)).trans z1.out
         have y2 := (B1.block _ (lt_of_heap z2.out)).trans z2.out
         have c1 := cell_of_row _ _ 0 _ _ _ y1
         have c2 := cell_of_row _ _ 0 _ _ _ y2
         have f1 := frozen_of_row _ _ 0 _ _ y1
         have f2 := frozen_of_row _ _ 0 _ _ y2
         simp only [List.getElem?_toArray, List.getElem?_cons_zero, List.getElem?_cons_succ] at c1 c2
         clear hown hT))
    have r0 := row_keep (row_keep y0 (show w.heap.size ≠ w.heap.size + 1 by omega) 0 (.int .i64 (pl : Int))) (show w.heap.size ≠ w.heap.size + 1 + 1 by omega) 0 (.int .i64 (er : Int))
    have r1 := row_keep (heap_setCell_same _ (w.heap.size + 1) 0 _ _ (.int .i64 (pl : Int)) y1) (show w.heap.size + 1 ≠ w.heap.size + 1 + 1 by omega) 0 (.int .i64 (er : Int))
    have r2 := heap_setCell_same _ (w.heap.size + 1 + 1) 0 _ _ (.int .i64 (er : Int)) (row_keep y2 (show w.heap.size + 1 + 1 ≠ w.heap.size + 1 by omega) 0 (.int .i64 (pl : Int)))
    simp only [List.setIfInBounds_toArray, List.set_cons_succ, List.set_cons_zero] at r1 r2
    have hF : Fr T2 b w ((w1.setCell ⟨w.heap.size + 1, 0, none⟩ (.int .i64 (pl : Int))).setCell ⟨w.heap.size + 1 + 1, 0, none⟩ (.int .i64 (er : Int))) := (((Fr.of_below (B0.out.trans (B1.mono B0.out.size))).setNew (by omega) 0 _).setNew (by omega) 0 _)
    clear y0 y1 y2 c1 c2 f1 f2
    generalize (w1.setCell ⟨w.heap.size + 1, 0, none⟩ (.int .i64 (pl : Int))).setCell ⟨w.heap.size + 1 + 1, 0, none⟩ (.int .i64 (er : Int)) = W at *
    have d0 := cell_of_row _ w.heap.size 0 _ _ _ r0
    have d1 := cell_of_row _ w.heap.size 1 _ _ _ r0
    have d2 := cell_of_row _ w.heap.size 2 _ _ _ r0
    have d3 := cell_of_row _ w.heap.size 3 _ _ _ r0
    have d4 := cell_of_row _ w.heap.size 4 _ _ _ r0
    have d5 := cell_of_row _ w.heap.size 5 _ _ _ r0
    have d6 := cell_of_row _ w.heap.size 6 _ _ _ r0
    have d7 := cell_of_row _ w.heap.size 7 _ _ _ r0
    have d8 := cell_of_row _ w.heap.size 8 _ _ _ r0
    have d9 := cell_of_row _ w.heap.size 9 _ _ _ r0
    have d10 := cell_of_row _ (w.heap.size + 1) 0 _ _ _ r1
    have d11 := cell_of_row _ (w.heap.size + 1 + 1) 0 _ _ _ r2
    simp only [List.getElem?_toArray, List.getElem?_cons_zero, List.getElem?_cons_succ] at d0 d1 d2 d3 d4 d5 d6 d7 d8 d9 d10 d11
    have f0 := fun j => frozen_of_row _ w.heap.size j _ _ r0
    have f1 := frozen_of_row _ (w.heap.size + 1) 0 _ _ r1
    have f2 := frozen_of_row _ (w.heap.size + 1 + 1) 0 _ _ r2
    go_region
    have q0 := setP_row (.string ⟨#[]⟩) (.slice none 0 0) (.slice none 0 0) (.slice none 0 0) (.int .u8 0) (.int .u8 0) (.int .u8 0) (.int .u8 0) (.int .u8 0) (.slice none 0 0) r0
    have q1 := setP_keep (.string ⟨#[]⟩) (.slice none 0 0) (.slice none 0 0) (.slice none 0 0) (.int .u8 0) (.int .u8 0) (.int .u8 0) (.int .u8 0) (.int .u8 0) (.slice none 0 0) r1 (show w.heap.size + 1 ≠ w.heap.size by omega)
    have q2 := setP_keep (.string ⟨#[]⟩) (.slice none 0 0) (.slice none 0 0) (.slice none 0 0) (.int .u8 0) (.int .u8 0) (.int .u8 0) (.int .u8 0) (.int .u8 0) (.slice none 0 0) r2 (show w.heap.size + 1 + 1 ≠ w.heap.size by omega)
    have hG := setP_fr (.string ⟨#[]⟩) (.slice none 0 0) (.slice none 0 0) (.slice none 0 0) (.int .u8 0) (.int .u8 0) (.int .u8 0) (.int .u8 0) (.int .u8 0) (.slice none 0 0) hF (Nat.le_refl w.heap.size)
    unfold setP at q0 q1 q2 hG
    have s0 := row_keep (row_keep q0 (show w.heap.size ≠ w.heap.size + 1 by omega) 0 (.int .i64 (pl : Int))) (show w.heap.size ≠ w.heap.size + 1 + 1 by omega) 0 (.int .i64 (er : Int))
    have s1 := row_keep (heap_setCell_same _ (w.heap.size + 1) 0 _ _ (.int .i64 (pl : Int)) q1) (show w.heap.size + 1 ≠ w.heap.size + 1 + 1 by omega) 0 (.int .i64 (er : Int))
    have s2 := heap_setCell_same _ (w.heap.size + 1 + 1) 0 _ _ (.int .i64 (er : Int)) (row_keep q2 (show w.heap.size + 1 + 1 ≠ w.heap.size + 1 by omega) 0 (.int .i64 (pl : Int)))
    simp only [List.setIfInBounds_toArray, List.set_cons_succ, List.set_cons_zero] at s1 s2
    obtain ⟨Y, hY⟩ : ∃ Y, ((setP W w.heap.size (.string ⟨#[]⟩) (.slice none 0 0) (.slice none 0 0) (.slice none 0 0) (.int .u8 0) (.int .u8 0) (.int .u8 0) (.int .u8 0) (.int .u8 0) (.slice none 0 0)).setCell ⟨w.heap.size + 1, 0, none⟩ (.int .i64 (pl : Int))).setCell ⟨w.heap.size + 1 + 1, 0, none⟩ (.int .i64 (er : Int)) = Y := ⟨_, rfl⟩
    unfold setP at hY
    have hH := ((hG.setNew (k := w.heap.size + 1) (by omega) 0 (.int .i64 (pl : Int))).setNew (k := w.heap.size + 1 + 1) (by omega) 0 (.int .i64 (er : Int)))
    rw [hY] at s0 s1 s2 hH ⊢
    clear hY
    replace hH := hH.trans (Fr.of_below (drewB1 Y))
    replace hH := Lib.hid hH
    replace s0 := Lib.hid s0
    replace s1 := Lib.hid s1
    replace s2 := Lib.hid s2
    clear q0 q1 q2 hG r0 r1 r2 hF
    go_wp2
    exact readProg_door (k := w.heap.size) (cs := #[.string ⟨#[]⟩, .slice none 0 0, .slice none 0 0, .slice none 0 0, .int .u8 0, .int .u8 0, .int .u8 0, .int .u8 0, .int .u8 0, .slice none 0 0]) (p := (pl : Int)) (x := (er : Int)) rfl rfl rfl rfl rfl s0.out s1.out s2.out ⟨hH.out, rfl⟩
end PP
end Go.Proofs.Ytijipgiclkkfhaa
end

section
/- Parse, of any text. -/
namespace Go.Proofs.Ytijipgiclkkfhaa
open Go.RowKit Go.Shelf

attribute [local go_sem] Oper.semAt_some
namespace PP
/-- What Parse answers. -/
def ParsePost (s : ByteArray) (w : World) (e : Ending) (w' : World) : Prop :=
  Below w.heap.size w w' ∧ match PX.parse s with
    | .ok _ st => ∃ b h, w.heap.size ≤ b ∧ e = .returned (.tuple #[progV st h, .int .i64 0, .int .i64 0]) ∧ PgM w' b st h
    | .bad p x => e = .returned (.tuple #[.agg progZ, .int .i64 p, .int .i64 x])
theorem PgM.shape {W : World} {b : Nat} {st : PX.S} {h : Hd} (P5 : PgM W b st h) : ∃ (a2 a6 a7 xa : Option Addr) (n2 p2 n6 p6 p7 xl xp : Nat) (xc : CV), progV st h = .agg #[.string st.name, .slice a2 n2 p2, .slice a6 n6 p6, .slice a7 st.threads.length p7, .int .u8 st.ask, .int .u8 xc.k, .int .u8 xc.t, .int .u8 xc.n, .int .u8 xc.v, .slice xa xl xp] := by
  obtain ⟨xc, k0, k1, k2, k3, k4, k5⟩ := P5.cnd
  obtain ⟨xa, xl, xp, hu⟩ := k5.slice
  rw [hu] at k4
  obtain ⟨a2, n2, p2, hvl⟩ : ∃ a n cap, h.vl = .slice a n cap := by
    rcases P5.locs.2 with ⟨e, _⟩ | ⟨g, cap, cur, e, _⟩
    · exact ⟨_, _, _, e⟩
    · exact ⟨_, _, _, e⟩
  obtain ⟨a6, n6, p6, hvi⟩ : ∃ a n cap, h.vi = .slice a n cap := by
    rcases P5.init.2 with ⟨e, _⟩ | ⟨g, cap, cur, e, _⟩
    · exact ⟨_, _, _, e⟩
    · exact ⟨_, _, _, e⟩
  obtain ⟨a7, p7, hvt⟩ := P5.thr.sl
  exact ⟨a2, a6, a7, xa, n2, p2, n6, p6, p7, xl, xp, xc, by unfold progV; rw [hvl, hvi, hvt, k0, k1, k2, k3, k4]⟩
theorem parse_results (tmps : Array Value) (W : World) (k : Nat) (cs : Array Value) (p x : Int) (hs : cs.size = 10) (h2 : tmps[2]?.getD undef = .pointer (some ⟨k, 0, none⟩)) (h3 : tmps[3]?.getD undef = .int .i64 p) (h4 : tmps[4]?.getD undef = .int .i64 x)
    (r0 : W.heap[k]? = some (.cells cs 37 (0, 0))) :
    (results Try.f12 tmps).run Try.prog W = .ok (.tuple #[.agg cs, .int .i64 p, .int .i64 x]) W := by
  have l0 := run_loadVar_row (P := Try.prog) W k 37 37 cs (0, 0) _ r0 Try.underlying37 rfl (by rw [sizeProg, hs])
  simp [results, Try.results12, h2, h3, h4, asAddr, l0]
set_option maxRecDepth 100000 in
set_option maxHeartbeats 16000000 in
theorem parse_any (s : ByteArray) (w : World) : Calls Try.prog 12 #[.string s] w (ParsePost s w) := by
  have z0 := row_alloc (heap_alloc_new w (.cells progZ 37)) (.cells (parZ true (.slice none 0 0)) 65)
  have zb := heap_alloc_new (w.alloc (.cells progZ 37)) (.cells (parZ true (.slice none 0 0)) 65)
  have B0 := ((Below.refl w.heap.size w).alloc (Nat.le_refl _) (.cells progZ 37)).alloc (by simp) (.cells (parZ true (.slice none 0 0)) 65)
  simp only [World.size_alloc] at zb
  have CR := readProg_any s (w.heap.size + 1) _ zb
  unfold ReadPost at CR
  unfold ParsePost
  unfold progZ parZ at CR B0 z0
  have ht2 : 37 ∉ T2 := by simp [T2]
  replace B0 := Lib.hid B0
  rcases hp : PX.parse s with ⟨u, st⟩ | ⟨p, x⟩
  · rw [hp] at CR
    replace CR := Lib.hid CR
    go_enter Try.func12, Try.ntmps12
    go_wp2_with (first
      | (go_at_call 21; refine (CR.out).mono ?_; rintro e w1 ⟨F1, h, rfl, P1⟩
         have r0 := F1.box z0 (by omega) ht2
         have B1 := Lib.hid (B0.out.trans ((Fr.below F1 (by simp)).mono (by omega)))
         obtain ⟨a2, a6, a7, xa, n2, p2, n6, p6, p7, xl, xp, xc, hv⟩ := P1.shape
         rw [hv]
         have d0 := cell_of_row _ w.heap.size 0 _ _ _ r0
         have d1 := cell_of_row _ w.heap.size 1 _ _ _ r0
         have d2 := cell_of_row _ w.heap.size 2 _ _ _ r0
         have d3 := cell_of_row _ w.heap.size 3 _ _ _ r0
         have d4 := cell_of_row _ w.heap.size 4 _ _ _ r0
         have d5 := cell_of_row _ w.heap.size 5 _ _ _ r0
         have d6 := cell_of_row _ w.heap.size 6 _ _ _ r0
         have d7 := cell_of_row _ w.heap.size 7 _ _ _ r0
         have d8 := cell_of_row _ w.heap.size 8 _ _ _ r0
         have d9 := cell_of_row _ w.heap.size 9 _ _ _ r0
         simp only [List.getElem?_toArray, List.getElem?_cons_zero, List.getElem?_cons_succ] at d0 d1 d2 d3 d4 d5 d6 d7 d8 d9
         have f0 := fun j => frozen_of_row _ w.heap.size j _ _ r0
         replace r0 := Lib.hid r0
         replace P1 := Lib.hid P1
         replace hv := Lib.hid hv))
    have q0 := setP_row (.string st.name) (.slice a2 n2 p2) (.slice a6 n6 p6) (.slice a7 st.threads.length p7) (.int .u8 st.ask) (.int .u8 xc.k) (.int .u8 xc.t) (.int .u8 xc.n) (.int .u8 xc.v) (.slice xa xl xp) r0.out
    have hPk : PgM (setP w1 w.heap.size (.string st.name) (.slice a2 n2 p2) (.slice a6 n6 p6) (.slice a7 st.threads.length p7) (.int .u8 st.ask) (.int .u8 xc.k) (.int .u8 xc.t) (.int .u8 xc.n) (.int .u8 xc.v) (.slice xa xl xp)) (w.heap.size + 1) st h := P1.out.keep fun i D t hi ht hh => setP_keep _ _ _ _ _ _ _ _ _ _ hh (by omega)
    have hB := (setP_fr (T := []) (b := w.heap.size) (.string st.name) (.slice a2 n2 p2) (.slice a6 n6 p6) (.slice a7 st.threads.length p7) (.int .u8 st.ask) (.int .u8 xc.k) (.int .u8 xc.t) (.int .u8 xc.n) (.int .u8 xc.v) (.slice xa xl xp) (Fr.of_below B1.out) (Nat.le_refl _)).below (Nat.le_refl _)
    obtain ⟨Y, hY⟩ : ∃ Y, setP w1 w.heap.size (.string st.name) (.slice a2 n2 p2) (.slice a6 n6 p6) (.slice a7 st.threads.length p7) (.int .u8 st.ask) (.int .u8 xc.k) (.int .u8 xc.t) (.int .u8 xc.n) (.int .u8 xc.v) (.slice xa xl xp) = Y := ⟨_, rfl⟩
    rw [hY] at q0 hPk hB
    unfold setP at hY
    rw [hY]
    clear hY
    have hR : ParsePost s w (.returned (.tuple #[.agg #[.string st.name, .slice a2 n2 p2, .slice a6 n6 p6, .slice a7 st.threads.length p7, .int .u8 st.ask, .int .u8 xc.k, .int .u8 xc.t, .int .u8 xc.n, .int .u8 xc.v, .slice xa xl xp], .int .i64 0, .int .i64 0])) Y := by
      unfold ParsePost
      rw [hp]
      exact ⟨hB, w.heap.size + 1, h, by omega, by rw [hv.out], hPk⟩
    unfold ParsePost at hR
    rw [hp] at hR
    exact bodyPost_ret (v := .tuple #[.agg #[.string st.name, .slice a2 n2 p2, .slice a6 n6 p6, .slice a7 st.threads.length p7, .int .u8 st.ask, .int .u8 xc.k, .int .u8 xc.t, .int .u8 xc.n, .int .u8 xc.v, .slice xa xl xp], .int .i64 0, .int .i64 0]) (parse_results _ _ w.heap.size #[.string st.name, .slice a2 n2 p2, .slice a6 n6 p6, .slice a7 st.threads.length p7, .int .u8 st.ask, .int .u8 xc.k, .int .u8 xc.t, .int .u8 xc.n, .int .u8 xc.v, .slice xa xl xp] 0 0 rfl rfl rfl rfl q0) rfl hR
  · rw [hp] at CR
    replace CR := Lib.hid CR
    go_enter Try.func12, Try.ntmps12
    go_wp2_with (first
      | (go_at_call 21; refine (CR.out).mono ?_; rintro e w1 ⟨F1, rfl⟩
         have r0 := F1.box z0 (by omega) ht2
         have B1 := Lib.hid (B0.out.trans ((Fr.below F1 (by simp)).mono (by omega)))
         have d0 := cell_of_row _ w.heap.size 0 _ _ _ r0
         have d1 := cell_of_row _ w.heap.size 1 _ _ _ r0
         have d2 := cell_of_row _ w.heap.size 2 _ _ _ r0
         have d3 := cell_of_row _ w.heap.size 3 _ _ _ r0
         have d4 := cell_of_row _ w.heap.size 4 _ _ _ r0
         have d5 := cell_of_row _ w.heap.size 5 _ _ _ r0
         have d6 := cell_of_row _ w.heap.size 6 _ _ _ r0
         have d7 := cell_of_row _ w.heap.size 7 _ _ _ r0
         have d8 := cell_of_row _ w.heap.size 8 _ _ _ r0
         have d9 := cell_of_row _ w.heap.size 9 _ _ _ r0
         simp only [List.getElem?_toArray, List.getElem?_cons_zero, List.getElem?_cons_succ] at d0 d1 d2 d3 d4 d5 d6 d7 d8 d9
         have f0 := fun j => frozen_of_row _ w.heap.size j _ _ r0
         replace r0 := Lib.hid r0))
    have q0 := setP_row (.string ⟨#[]⟩) (.slice none 0 0) (.slice none 0 0) (.slice none 0 0) (.int .u8 0) (.int .u8 0) (.int .u8 0) (.int .u8 0) (.int .u8 0) (.slice none 0 0) r0.out
    have hB := (setP_fr (T := []) (b := w.heap.size) (.string ⟨#[]⟩) (.slice none 0 0) (.slice none 0 0) (.slice none 0 0) (.int .u8 0) (.int .u8 0) (.int .u8 0) (.int .u8 0) (.int .u8 0) (.slice none 0 0) (Fr.of_below B1.out) (Nat.le_refl _)).below (Nat.le_refl _)
    obtain ⟨Y, hY⟩ : ∃ Y, setP w1 w.heap.size (.string ⟨#[]⟩) (.slice none 0 0) (.slice none 0 0) (.slice none 0 0) (.int .u8 0) (.int .u8 0) (.int .u8 0) (.int .u8 0) (.int .u8 0) (.slice none 0 0) = Y := ⟨_, rfl⟩
    rw [hY] at q0 hB
    unfold setP at hY
    rw [hY]
    clear hY
    exact bodyPost_ret (v := .tuple #[.agg progZ, .int .i64 p, .int .i64 x]) (parse_results _ _ w.heap.size progZ p x rfl rfl rfl rfl q0) rfl ⟨hB, rfl⟩
end PP
end Go.Proofs.Ytijipgiclkkfhaa
end

section
/- The chapter's examples, computed. -/
namespace Go.Proofs.Ytijipgiclkkfhaa
open Go.RowKit Go.Shelf
namespace PP
def exP : ByteArray := ⟨#[116, 101, 115, 116, 32, 83, 66, 10, 105, 110, 105, 116, 32, 120, 32, 61, 32, 49, 10, 116, 104, 114, 101, 97, 100, 10, 120, 32, 61, 32, 49, 10, 114, 49, 32, 61, 32, 121, 32, 97, 99, 113, 10, 116, 104, 114, 101, 97, 100, 10, 121, 32, 61, 32, 50, 32, 114, 101, 108, 10, 115, 111, 109, 101, 32, 48, 58, 114, 49, 32, 61, 32, 48, 32, 38, 32, 33, 32, 120, 32, 61, 32, 49, 32, 124, 32, 116, 114, 117, 101, 10]⟩
def exPT : List LX.Tk := [⟨1, 0, 4⟩, ⟨1, 5, 7⟩, ⟨4, 7, 7⟩, ⟨1, 8, 12⟩, ⟨1, 13, 14⟩, ⟨3, 15, 16⟩, ⟨2, 17, 18⟩, ⟨4, 18, 18⟩, ⟨1, 19, 25⟩, ⟨4, 25, 25⟩, ⟨1, 26, 27⟩, ⟨3, 28, 29⟩, ⟨2, 30, 31⟩, ⟨4, 31, 31⟩, ⟨1, 32, 34⟩, ⟨3, 35, 36⟩, ⟨1, 37, 38⟩, ⟨1, 39, 42⟩, ⟨4, 42, 42⟩, ⟨1, 43, 49⟩, ⟨4, 49, 49⟩, ⟨1, 50, 51⟩, ⟨3, 52, 53⟩, ⟨2, 54, 55⟩, ⟨1, 56, 59⟩, ⟨4, 59, 59⟩, ⟨1, 60, 64⟩, ⟨2, 65, 66⟩, ⟨3, 66, 67⟩, ⟨1, 67, 69⟩, ⟨3, 70, 71⟩, ⟨2, 72, 73⟩, ⟨3, 74, 75⟩, ⟨3, 76, 77⟩, ⟨1, 78, 79⟩, ⟨3, 80, 81⟩, ⟨2, 82, 83⟩, ⟨3, 84, 85⟩, ⟨1, 86, 90⟩, ⟨4, 90, 90⟩]
def exQ : ByteArray := ⟨#[116, 101, 115, 116, 32, 97, 10, 116, 104, 114, 101, 97, 100, 10, 115, 111, 109, 101]⟩
def exQT : List LX.Tk := [⟨1, 0, 4⟩, ⟨1, 5, 6⟩, ⟨4, 6, 6⟩, ⟨1, 7, 13⟩, ⟨4, 13, 13⟩, ⟨1, 14, 18⟩, ⟨4, 18, 18⟩]
theorem outP : LX.out (bsOf exP) = (exPT, 0, 0) := by rw [LX.out_eq]; decide +kernel
theorem outQ : LX.out (bsOf exQ) = (exQT, 0, 0) := by rw [LX.out_eq]; decide +kernel
theorem parse_of_out {s : ByteArray} {l : List LX.Tk} (h : LX.out (bsOf s) = (l, 0, 0)) : PX.parse s = PX.prog (l.length + 1) { rest := l.map (tokD s), size := (s.size : Int), locs := [], opn := true } := by
  rw [parse_eq, h, if_pos rfl]
  unfold PX.start toks
  rw [h, List.length_map]
def bX : ByteArray := ⟨#[120]⟩
def bY : ByteArray := ⟨#[121]⟩
def bSB : ByteArray := ⟨#[83, 66]⟩
def exI0 : PX.InsD := { op := 2, loc := 0, a := ⟨false, 1⟩ }
def exI1 : PX.InsD := { op := 1, dst := 1, loc := 1, mode := 1 }
def exI2 : PX.InsD := { op := 2, loc := 1, a := ⟨false, 2⟩, mode := 2 }
def exC : PX.CondD := .mk 4 0 0 0 [.mk 3 0 0 0 [.mk 1 0 1 0 [], .mk 5 0 0 0 [.mk 2 0 0 1 []]], .mk 0 0 0 0 []]
theorem parseP : PX.parse exP = .ok () { rest := [], size := 91, locs := [bX, bY], opn := true, name := bSB, init := [1, 0], threads := [[exI0, exI1], [exI2]], ask := 1, cond := exC, done := 4 } := by
  rw [parse_of_out outP]
  kernel_rfl
theorem parseQ : PX.parse exQ = .bad 18 50 := by
  rw [parse_of_out outQ]
  kernel_rfl
theorem deepC : PX.deep exC = 4 := by decide +kernel
end PP
end Go.Proofs.Ytijipgiclkkfhaa
end

section
/- Loads of whole structs in a region that is walked once. -/
namespace Go.Proofs.Ytijipgiclkkfhaa
open Go.RowKit

theorem run_loadVar_at {P : Program} (w : World) (ad : Addr) (ty : TypeId) (cs : Array Value) (d : TypeDesc) (hc : ∀ j v, cs.toList[j]? = some v → w.cell? (ad.add j) = some v)
    (hu : P.underlying ty = some d) (hd : (match d with | .struct _ | .array _ _ => true | _ => false) = true) (hi : (P.info? ty).map (·.size) = some cs.size) :
    (loadVar ty ad).run P w = .ok (.agg cs) w := by
  have hl : (loadCells ad cs.toList.length).run P w = .ok cs.toList.toArray w := run_loadCells_list (P := P) w ad cs.toList hc
  cases hq : P.info? ty with
  | none => simp [hq] at hi
  | some i =>
    have hs : i.size = cs.size := by simpa [hq] using hi
    have hagg : (isAgg ty).run P w = .ok true w := by
      unfold isAgg
      rw [Sem.run_bind, run_underlying hu w]
      cases d <;> simp_all
    simp only [Array.length_toList, Array.toArray_toList] at hl
    simp [loadVar, Sem.run_bind, hagg, sizeOf, typeInfo, hq, hs, hl]
/-- The load of a whole struct that reads alike in every world of the class. -/
theorem quiet_loadS {P : Program} {o : Oper} {a : Act} {C : World → Prop} {K : Act → Prop} (ty : TypeId) (x : Operand) (ho : o.op = .load ty x) (ad : Addr) (hx : a.eval x = .pointer (some ad)) (cs : Array Value) (d : TypeDesc)
    (hu : P.underlying ty = some d) (hd : (match d with | .struct _ | .array _ _ => true | _ => false) = true) (hi : (P.info? ty).map (·.size) = some cs.size)
    (hc : ∀ W, C W → ∀ j v, cs.toList[j]? = some v → W.cell? (ad.add j) = some v) (hk : K (a.put o.dst (.agg cs))) : o.quiet P a C K := by
  refine ⟨.agg cs, fun W hW => ?_, hk⟩
  have hr : (execOp a.eval o).run P W = .ok (.value (.agg cs)) W := by
    unfold execOp
    simp only [ho, hx, Instr.loadAt, Instr.sureAddr, Sem.run_bind, Sem.run_pure, Result.andThen_ok, run_loadVar_at W ad ty cs d (hc W hW) hu hd hi]
  unfold Oper.quietAt
  rw [hr]
  exact ⟨rfl, rfl⟩
end Go.Proofs.Ytijipgiclkkfhaa
end

section
/- The chapter's examples. -/
namespace Go.Proofs.Ytijipgiclkkfhaa
open Go.RowKit Go.Shelf
open Go.BigFrame

attribute [local go_sem] Oper.semAt_some
namespace PP
def stE : PX.S := { rest := [], size := 91, locs := [bX, bY], opn := true, name := bSB, init := [1, 0], threads := [[exI0, exI1], [exI2]], ask := 1, cond := exC, done := 4 }
theorem parseEP (w : World) : Calls Try.prog 12 #[.string exP] w fun e w' => Below w.heap.size w w' ∧ ∃ b h, w.heap.size ≤ b ∧ e = .returned (.tuple #[progV stE h, .int .i64 0, .int .i64 0]) ∧ PgM w' b stE h := by
  have := parse_any exP w
  unfold ParsePost at this
  rw [parseP] at this
  exact this
theorem parseEQ (w : World) : Calls Try.prog 12 #[.string exQ] w fun e w' => Below w.heap.size w w' ∧ e = .returned (.tuple #[.agg progZ, .int .i64 18, .int .i64 50]) := by
  have := parse_any exQ w
  unfold ParsePost at this
  rw [parseQ] at this
  exact this
/-- Where the first example's parts lie. -/
structure ExM (W : World) (h : Hd) (gl cl gi ci gt ct g0 c0 g1 c1 gc cc : Nat) : Prop where
  vl : h.vl = .slice (some ⟨gl, 0, none⟩) 2 cl
  vi : h.vi = .slice (some ⟨gi, 0, none⟩) 2 ci
  vt : h.vt = .slice (some ⟨gt, 0, none⟩) 2 ct
  k0 : h.c0 = .int .u8 4
  k1 : h.c1 = .int .u8 0
  k2 : h.c2 = .int .u8 0
  k3 : h.c3 = .int .u8 0
  k4 : h.c4 = .slice (some ⟨gc, 0, none⟩) 2 cc
  l1 : W.cell? ⟨gl, 1, none⟩ = some (.string ⟨#[121]⟩)
  i0 : W.cell? ⟨gi, 0, none⟩ = some (.int .u8 1)
  i1 : W.cell? ⟨gi, 1, none⟩ = some (.int .u8 0)
  t0 : W.cell? ⟨gt, 0, none⟩ = some (.slice (some ⟨g0, 0, none⟩) 2 c0)
  t1 : W.cell? ⟨gt, 1, none⟩ = some (.slice (some ⟨g1, 0, none⟩) 1 c1)
  x1 : ∀ j, j < 10 → W.cell? ⟨g0, 10 + j, none⟩ = (insC exI1)[j]?
  x2 : ∀ j, j < 10 → W.cell? ⟨g1, j, none⟩ = (insC exI2)[j]?
  q0 : W.cell? ⟨gc, 0, none⟩ = some (.int .u8 3)
  dp : CondR W { k := 4, u := .slice (some ⟨gc, 0, none⟩) 2 cc } exC
theorem cell_on {W W' : World} {p : Addr} {v : Value} (h : W.cell? p = some v) (B : Below W.heap.size W W') : W'.cell? p = some v :=
  (B.cell (World.block_lt_of_cell? W p h)).trans h
theorem insC_at (x : PX.InsD) (j : Nat) (hj : j < 10) : ∃ v, (insC x)[j]? = some v := ⟨_, Array.getElem?_eq_getElem (show j < (insC x).size from hj)⟩
theorem ExM.below {W W' : World} {h : Hd} {gl cl gi ci gt ct g0 c0 g1 c1 gc cc : Nat} (X : ExM W h gl cl gi ci gt ct g0 c0 g1 c1 gc cc) (B : Below W.heap.size W W') : ExM W' h gl cl gi ci gt ct g0 c0 g1 c1 gc cc :=
  ⟨X.vl, X.vi, X.vt, X.k0, X.k1, X.k2, X.k3, X.k4, cell_on X.l1 B, cell_on X.i0 B, cell_on X.i1 B, cell_on X.t0 B, cell_on X.t1 B, fun j hj => by
    obtain ⟨v, hv⟩ := insC_at exI1 j hj
    rw [hv]; exact cell_on ((X.x1 j hj).trans hv) B, fun j hj => by
    obtain ⟨v, hv⟩ := insC_at exI2 j hj
    rw [hv]; exact cell_on ((X.x2 j hj).trans hv) B, cell_on X.q0 B, X.dp.below B⟩
theorem own_two {W : World} {base n size : Nat} {e : TypeId} {v : Value} {xs : List Value} (h : W.ownsRow base e size v (n + 1) xs) : ∃ g c, v = .slice (some ⟨g, 0, none⟩) (n + 1) c ∧ ∀ j, j < (n + 1) * size → W.cell? ⟨g, j, none⟩ = xs[j]? := by
  obtain ⟨g, c, rfl⟩ := own_formT h
  exact ⟨g, c, rfl, fun j hj => World.ownsRow.cellAt h j hj⟩
theorem exM_of {W : World} {b : Nat} {h : Hd} (P : PgM W b stE h) : ∃ gl cl gi ci gt ct g0 c0 g1 c1 gc cc, ExM W h gl cl gi ci gt ct g0 c0 g1 c1 gc cc := by
  obtain ⟨gl, cl, hl, el⟩ := own_two (n := 1) P.locs
  obtain ⟨gi, ci, hi, ei⟩ := own_two (n := 1) P.init
  obtain ⟨vs, o1, o2, o3, o4⟩ := P.thr
  obtain ⟨gt, ct, ht, et⟩ := own_two (n := 1) o1
  obtain ⟨v0, v1, rfl⟩ : ∃ v0 v1, vs = [v0, v1] := by
    match vs, o2 with
    | [v0, v1], _ => exact ⟨v0, v1, rfl⟩
  obtain ⟨g0, c0, h0, e0⟩ := own_two (n := 1) (o3 0 v0 [exI0, exI1] rfl rfl)
  obtain ⟨g1, c1, h1, e1⟩ := own_two (n := 0) (o3 1 v1 [exI2] rfl rfl)
  obtain ⟨x, k0, k1, k2, k3, k4, k5⟩ := P.cnd
  have hR := CondM.toR _ _ k5
  have hM : CondM W (fun g => b < g) x exC := k5
  obtain ⟨xk, xt, xn, xv, xu⟩ := x
  obtain ⟨a1, a2, a3, a4, ⟨a5, _⟩ | ⟨gc, cc, C, ys, hu, _, _, _, _, hC, htk, hk⟩⟩ := hM
  · cases a5
  obtain rfl : xk = 4 := a1
  obtain rfl : xt = 0 := a2
  obtain rfl : xn = 0 := a3
  obtain rfl : xv = 0 := a4
  obtain rfl : xu = .slice (some ⟨gc, 0, none⟩) 2 cc := hu
  obtain ⟨y, yr, rfl, hy, _⟩ := hk
  have hyk : y.k = 3 := hy.1
  have hq : W.cell? ⟨gc, 0, none⟩ = some (.int .u8 3) := by
    rw [cell_of_row _ gc 0 _ _ _ hC]
    have e := congrArg (fun l : List Value => l[0]?) htk
    simp only [List.getElem?_take, if_pos (show 0 < (2 : Nat) * 5 by omega)] at e
    rw [Array.getElem?_toList] at e
    have e' : C[0]? = (cellsC (y :: yr))[0]? := e
    rw [e']
    show some (Value.int .u8 y.k) = _
    rw [hyk]
  refine ⟨gl, cl, gi, ci, gt, ct, g0, c0, g1, c1, gc, cc, hl, hi, ht, k0, k1, k2, k3, k4, ?_, ?_, ?_, ?_, ?_, ?_, ?_, hq, hR⟩
  · exact el 1 (by omega)
  · exact ei 0 (by omega)
  · exact ei 1 (by omega)
  · rw [← h0]; exact et 0 (by omega)
  · rw [← h1]; exact et 1 (by omega)
  · intro j hj
    rw [e0 (10 + j) (by omega)]
    have : j = 0 ∨ j = 1 ∨ j = 2 ∨ j = 3 ∨ j = 4 ∨ j = 5 ∨ j = 6 ∨ j = 7 ∨ j = 8 ∨ j = 9 := by omega
    rcases this with rfl | rfl | rfl | rfl | rfl | rfl | rfl | rfl | rfl | rfl <;> rfl
  · intro j hj
    rw [e1 j (by omega)]
    have : j = 0 ∨ j = 1 ∨ j = 2 ∨ j = 3 ∨ j = 4 ∨ j = 5 ∨ j = 6 ∨ j = 7 ∨ j = 8 ∨ j = 9 := by omega
    rcases this with rfl | rfl | rfl | rfl | rfl | rfl | rfl | rfl | rfl | rfl <;> rfl
set_option maxRecDepth 100000 in
set_option maxHeartbeats 8000000 in
theorem awake_any (w : World) : Calls Try.prog 8 #[] w fun e w' => e = .returned (.bool true) ∧ Below w.heap.size w w' := by
  go_enter Try.func8, Try.ntmps8
  go_wp2_with fail
  refine (parseEP w).mono ?_
  rintro e w1 ⟨B1, b, h, hb, rfl, P1⟩
  obtain ⟨gl, cl, gi, ci, gt, ct, g0, c0, g1, c1, gc, cc, X1⟩ := exM_of P1
  have hv : progV stE h = .agg #[.string ⟨#[83, 66]⟩, .slice (some ⟨gl, 0, none⟩) 2 cl, .slice (some ⟨gi, 0, none⟩) 2 ci, .slice (some ⟨gt, 0, none⟩) 2 ct, .int .u8 1, .int .u8 4, .int .u8 0, .int .u8 0, .int .u8 0, .slice (some ⟨gc, 0, none⟩) 2 cc] := by
    unfold progV; rw [X1.vl, X1.vi, X1.vt, X1.k0, X1.k1, X1.k2, X1.k3, X1.k4]; rfl
  rw [hv]
  clear hv
  have zp := heap_alloc_new w1 (.cells #[.string ⟨#[83, 66]⟩, .slice (some ⟨gl, 0, none⟩) 2 cl, .slice (some ⟨gi, 0, none⟩) 2 ci, .slice (some ⟨gt, 0, none⟩) 2 ct, .int .u8 1, .int .u8 4, .int .u8 0, .int .u8 0, .int .u8 0, .slice (some ⟨gc, 0, none⟩) 2 cc] 37)
  have A1 := (Below.refl w1.heap.size w1).alloc (Nat.le_refl _) (.cells #[.string ⟨#[83, 66]⟩, .slice (some ⟨gl, 0, none⟩) 2 cl, .slice (some ⟨gi, 0, none⟩) 2 ci, .slice (some ⟨gt, 0, none⟩) 2 ct, .int .u8 1, .int .u8 4, .int .u8 0, .int .u8 0, .int .u8 0, .slice (some ⟨gc, 0, none⟩) 2 cc] 37)
  have X2 := X1.below A1
  replace zp := Lib.hid zp
  replace X2 := Lib.hid X2
  replace B1 := Lib.hid B1
  replace A1 := Lib.hid A1
  clear X1 P1 hb
  go_wp2_with fail
  refine (parseEQ _).mono ?_
  rintro e w2 ⟨B2, rfl⟩
  unfold progZ
  have A3 := B2.trans (((Below.refl w2.heap.size w2).alloc (Nat.le_refl _) (.cells #[.string ⟨#[]⟩, .slice none 0 0, .slice none 0 0, .slice none 0 0, .int .u8 0, .int .u8 0, .int .u8 0, .int .u8 0, .int .u8 0, .slice none 0 0] 37)).mono B2.size)
  have X3 := X2.out.below A3
  have zp3 := (A3.block _ (lt_of_heap zp.out)).trans zp.out
  have HB := Lib.hid (B1.out.trans (((A1.out.trans (A3.mono A1.out.size))).mono B1.out.size))
  obtain ⟨-, -, -, -, -, -, -, -, l1, i0, i1, t0, t1, -, -, -, -⟩ := id X3
  have d0 := cell_of_row _ _ 0 _ _ _ zp3
  have d1 := cell_of_row _ _ 1 _ _ _ zp3
  have d2 := cell_of_row _ _ 2 _ _ _ zp3
  have d3 := cell_of_row _ _ 3 _ _ _ zp3
  have d4 := cell_of_row _ _ 4 _ _ _ zp3
  simp only [List.getElem?_toArray, List.getElem?_cons_zero, List.getElem?_cons_succ] at d0 d1 d2 d3 d4
  replace X3 := Lib.hid X3
  replace zp3 := Lib.hid zp3
  clear X2 zp A1 A3 B1 B2
  go_wp2_with fail
  clear d0 d1 d2 d3 d4 l1 i0 i1 t0 t1
  obtain ⟨W, hW⟩ : ∃ W, w2.alloc (.cells #[.string ⟨#[]⟩, .slice none 0 0, .slice none 0 0, .slice none 0 0, .int .u8 0, .int .u8 0, .int .u8 0, .int .u8 0, .int .u8 0, .slice none 0 0] 37) = W := ⟨_, rfl⟩
  have hsz : w2.heap.size + 1 = W.heap.size := by rw [← hW]; simp
  rw [hW] at X3 zp3 HB ⊢
  simp only [hsz]
  have E1 := Lib.hid (row_alloc (heap_alloc_new W (.cells #[.int .u8 1, .int .u8 1, .int .u8 1, .bool false, .int .u8 0, .bool false, .int .u8 0, .int .u8 0, .int .u8 1, .int .u8 0] 48)) (.cells #[.int .u8 2, .int .u8 0, .int .u8 1, .bool false, .int .u8 2, .bool false, .int .u8 0, .int .u8 0, .int .u8 2, .int .u8 0] 48))
  have E2 := heap_alloc_new (W.alloc (.cells #[.int .u8 1, .int .u8 1, .int .u8 1, .bool false, .int .u8 0, .bool false, .int .u8 0, .int .u8 0, .int .u8 1, .int .u8 0] 48)) (.cells #[.int .u8 2, .int .u8 0, .int .u8 1, .bool false, .int .u8 2, .bool false, .int .u8 0, .int .u8 0, .int .u8 2, .int .u8 0] 48)
  simp only [World.size_alloc] at E2
  replace E2 := Lib.hid E2
  have A5 := ((Below.refl W.heap.size W).alloc (Nat.le_refl _) (.cells #[.int .u8 1, .int .u8 1, .int .u8 1, .bool false, .int .u8 0, .bool false, .int .u8 0, .int .u8 0, .int .u8 1, .int .u8 0] 48)).alloc (by simp) (.cells #[.int .u8 2, .int .u8 0, .int .u8 1, .bool false, .int .u8 2, .bool false, .int .u8 0, .int .u8 0, .int .u8 2, .int .u8 0] 48)
  have zp5 := Lib.hid ((A5.block _ (lt_of_heap zp3.out)).trans zp3.out)
  have X5 := Lib.hid (X3.out.below A5)
  have HB5 := Lib.hid (HB.out.trans (A5.mono HB.out.size))
  clear X3 zp3 HB A5 hW
  obtain ⟨V, hV⟩ : ∃ V, (W.alloc (.cells #[.int .u8 1, .int .u8 1, .int .u8 1, .bool false, .int .u8 0, .bool false, .int .u8 0, .int .u8 0, .int .u8 1, .int .u8 0] 48)).alloc (.cells #[.int .u8 2, .int .u8 0, .int .u8 1, .bool false, .int .u8 2, .bool false, .int .u8 0, .int .u8 0, .int .u8 2, .int .u8 0] 48) = V := ⟨_, rfl⟩
  rw [hV] at E1 E2 zp5 X5 HB5 ⊢
  clear hV
  have on : ∀ (p : Addr) (v : Value), V.cell? p = some v → ∀ U, Below V.heap.size V U → U.cell? p = some v := fun p v h U B => cell_on h B
  have p3 := Lib.hid (on _ _ (cell_of_row _ w1.heap.size 3 _ _ _ zp5.out))
  have p5 := Lib.hid (on _ _ (cell_of_row _ w1.heap.size 5 _ _ _ zp5.out))
  have p9 := Lib.hid (on _ _ (cell_of_row _ w1.heap.size 9 _ _ _ zp5.out))
  have pt0 := Lib.hid (on _ _ X5.out.t0)
  have pt1 := Lib.hid (on _ _ X5.out.t1)
  have pq0 := Lib.hid (on _ _ X5.out.q0)
  have s1 : Hid (∀ U, Below V.heap.size V U → ∀ j v, (#[.int .u8 1, .int .u8 1, .int .u8 1, .bool false, .int .u8 0, .bool false, .int .u8 0, .int .u8 0, .int .u8 1, .int .u8 0] : Array Value).toList[j]? = some v → U.cell? (Addr.add ⟨g0, 10, none⟩ j) = some v) := Lib.hid fun U B j v hj => by
    have hj10 : j < 10 := (List.getElem?_eq_some_iff.1 hj).1
    rw [Go.WideShapes.add_plain]
    exact cell_on ((X5.out.x1 j hj10).trans (by rw [← Array.getElem?_toList]; exact hj)) B
  have s2 : Hid (∀ U, Below V.heap.size V U → ∀ j v, (#[.int .u8 2, .int .u8 0, .int .u8 1, .bool false, .int .u8 2, .bool false, .int .u8 0, .int .u8 0, .int .u8 2, .int .u8 0] : Array Value).toList[j]? = some v → U.cell? (Addr.add ⟨g1, 0, none⟩ j) = some v) := Lib.hid fun U B j v hj => by
    have hj10 : j < 10 := (List.getElem?_eq_some_iff.1 hj).1
    rw [Go.WideShapes.add_plain, Nat.zero_add]
    exact cell_on ((X5.out.x2 j hj10).trans (by rw [← Array.getElem?_toList]; exact hj)) B
  have s3 : Hid (∀ U, Below V.heap.size V U → ∀ j v, (#[.int .u8 1, .int .u8 1, .int .u8 1, .bool false, .int .u8 0, .bool false, .int .u8 0, .int .u8 0, .int .u8 1, .int .u8 0] : Array Value).toList[j]? = some v → U.cell? (Addr.add ⟨W.heap.size, 0, none⟩ j) = some v) := Lib.hid fun U B j v hj => by
    rw [Go.WideShapes.add_plain, Nat.zero_add]
    exact cell_on ((cell_of_row _ _ j _ _ _ E1.out).trans (by rw [← Array.getElem?_toList]; exact hj)) B
  have s4 : Hid (∀ U, Below V.heap.size V U → ∀ j v, (#[.int .u8 2, .int .u8 0, .int .u8 1, .bool false, .int .u8 2, .bool false, .int .u8 0, .int .u8 0, .int .u8 2, .int .u8 0] : Array Value).toList[j]? = some v → U.cell? (Addr.add ⟨W.heap.size + 1, 0, none⟩ j) = some v) := Lib.hid fun U B j v hj => by
    rw [Go.WideShapes.add_plain, Nat.zero_add]
    exact cell_on ((cell_of_row _ _ j _ _ _ E2.out).trans (by rw [← Array.getElem?_toList]; exact hj)) B
  have s5 : Hid (∀ U, Below V.heap.size V U → ∀ j v, (#[.int .u8 4, .int .u8 0, .int .u8 0, .int .u8 0, .slice (some ⟨gc, 0, none⟩) 2 cc] : Array Value).toList[j]? = some v → U.cell? (Addr.add ⟨w1.heap.size, 5, none⟩ j) = some v) := Lib.hid fun U B j v hj => by
    have hj5 : j < 5 := (List.getElem?_eq_some_iff.1 hj).1
    rw [Go.WideShapes.add_plain]
    refine cell_on ((cell_of_row _ _ (5 + j) _ _ _ zp5.out).trans ?_) B
    have : j = 0 ∨ j = 1 ∨ j = 2 ∨ j = 3 ∨ j = 4 := by omega
    rcases this with rfl | rfl | rfl | rfl | rfl <;> exact hj
  have CD := Lib.hid fun U (B : Below V.heap.size V U) => deep_any 4 exC { k := 4, u := .slice (some ⟨gc, 0, none⟩) 2 cc } U (by rw [deepC]; exact Nat.le_refl _) (by omega) (X5.out.dp.below B)
  rw [deepC] at CD
  have hq1 : ∀ U, (binOp .eql 48 (.agg #[.int .u8 1, .int .u8 1, .int .u8 1, .bool false, .int .u8 0, .bool false, .int .u8 0, .int .u8 0, .int .u8 1, .int .u8 0]) (.agg #[.int .u8 1, .int .u8 1, .int .u8 1, .bool false, .int .u8 0, .bool false, .int .u8 0, .int .u8 0, .int .u8 1, .int .u8 0])).run Try.prog U = .ok (.bool true) U := fun _ => by kernel_rfl
  have hq2 : ∀ U, (binOp .eql 48 (.agg #[.int .u8 2, .int .u8 0, .int .u8 1, .bool false, .int .u8 2, .bool false, .int .u8 0, .int .u8 0, .int .u8 2, .int .u8 0]) (.agg #[.int .u8 2, .int .u8 0, .int .u8 1, .bool false, .int .u8 2, .bool false, .int .u8 0, .int .u8 0, .int .u8 2, .int .u8 0])).run Try.prog U = .ok (.bool true) U := fun _ => by kernel_rfl
  clear on X5 zp5 E1 E2 hsz
  refine wp_region_below V.heap.size V (by kernel_rfl) (by kernel_rfl) (Below.refl _ _) ?_
  repeat (first
    | (go_big_quiet_step (first
      | (intro _; exact rfl)
      | (intro hW; go_at_call 9; exact Calls.below_of hW (CD.out _ hW))))
    | (refine wpQuiet_want rfl fun K hK => ?_
       first
         | refine quiet_load 35 (.tmp 101) rfl ⟨w1.heap.size, 3, none⟩ rfl _ (fun _ => by kernel_rfl) p3.out (hK _ ?_)
         | refine quiet_load 44 (.tmp 103) rfl ⟨gt, 0, none⟩ rfl _ (fun _ => by kernel_rfl) pt0.out (hK _ ?_)
         | refine quiet_loadS 48 (.tmp 105) rfl ⟨g0, 10, none⟩ rfl _ _ Try.underlying48 rfl (by kernel_rfl) s1.out (hK _ ?_)
         | refine quiet_loadS 48 (.tmp 7) rfl ⟨W.heap.size, 0, none⟩ rfl _ _ Try.underlying48 rfl (by kernel_rfl) s3.out (hK _ ?_)
         | refine quiet_load 35 (.tmp 110) rfl ⟨w1.heap.size, 3, none⟩ rfl _ (fun _ => by kernel_rfl) p3.out (hK _ ?_)
         | refine quiet_load 44 (.tmp 112) rfl ⟨gt, 1, none⟩ rfl _ (fun _ => by kernel_rfl) pt1.out (hK _ ?_)
         | refine quiet_loadS 48 (.tmp 114) rfl ⟨g1, 0, none⟩ rfl _ _ Try.underlying48 rfl (by kernel_rfl) s2.out (hK _ ?_)
         | refine quiet_loadS 48 (.tmp 8) rfl ⟨W.heap.size + 1, 0, none⟩ rfl _ _ Try.underlying48 rfl (by kernel_rfl) s4.out (hK _ ?_)
         | refine quiet_load 5 (.tmp 121) rfl ⟨w1.heap.size, 5, none⟩ rfl _ (fun _ => by kernel_rfl) p5.out (hK _ ?_)
         | refine quiet_load 22 (.tmp 127) rfl ⟨w1.heap.size, 9, none⟩ rfl _ (fun _ => by kernel_rfl) p9.out (hK _ ?_)
         | refine quiet_load 22 (.tmp 134) rfl ⟨w1.heap.size, 9, none⟩ rfl _ (fun _ => by kernel_rfl) p9.out (hK _ ?_)
         | refine quiet_load 5 (.tmp 137) rfl ⟨gc, 0, none⟩ rfl _ (fun _ => by kernel_rfl) pq0.out (hK _ ?_)
         | refine quiet_loadS 24 (.tmp 142) rfl ⟨w1.heap.size, 5, none⟩ rfl _ _ Try.underlying24 rfl (by kernel_rfl) s5.out (hK _ ?_)
       clear hK K
       simp only [Act.put, List.setIfInBounds_toArray, List.set_cons_succ, List.set_cons_zero]))
  refine wpQuiet_nil ?_
  intro wz hz
  have HZ := Lib.hid (HB5.out.trans (hz.mono HB5.out.size))
  go_wp2
  go_ret
  exact ⟨rfl, HZ.out⟩
end PP
end Go.Proofs.Ytijipgiclkkfhaa
end
