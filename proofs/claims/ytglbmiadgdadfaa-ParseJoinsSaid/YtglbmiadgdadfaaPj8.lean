/- ParProg2, ParRead, ParRead2 in one text, for the claim. -/
import Derived.Test.YtglbmiadgdadfaaPj7
import Derived.Defers
import Derived.Recover

section
/- The parser's program, whole. -/
namespace Go.Proofs.Ytglbmiadgdadfaa
open Go.RowKit Go.Shelf

attribute [local go_sem] Oper.semAt_some
namespace PP
/-- A program stands in memory, behind block b; what its slices are. -/
structure PgM (W : World) (b : Nat) (s : PX.S) (h : Hd) : Prop where
  locs : W.ownsRow (b + 1) 9 1 h.vl s.locs.length (s.locs.map .string)
  init : W.ownsRow (b + 1) 5 1 h.vi s.locs.length (s.init.map (.int .u8))
  thr : ThrM W (b + 1) h.vt s.threads
  cnd : ∃ x : CV, h.c0 = .int .u8 x.k ∧ h.c1 = .int .u8 x.t ∧ h.c2 = .int .u8 x.n ∧ h.c3 = .int .u8 x.v ∧ h.c4 = x.u ∧ CondM W (fun g => b < g) x s.cond
theorem PgM.keep {W W' : World} {b : Nat} {s : PX.S} {h : Hd} (P : PgM W b s h) (hk : ∀ (i : Nat) (D : Array Value) (t : TypeId), b < i → t ∈ [9, 5, 42, 46, 24] → W.heap[i]? = some (.cells D t (0, 0)) → W'.heap[i]? = some (.cells D t (0, 0))) : PgM W' b s h := by
  obtain ⟨x, a0, a1, a2, a3, a4, a5⟩ := P.cnd
  refine ⟨own_sameT P.locs fun i cur hi hh => hk i cur _ (by omega) (by simp) hh, own_sameT P.init fun i cur hi hh => hk i cur _ (by omega) (by simp) hh, P.thr.keep fun i cur t ht hi hh => hk i cur t (by omega) (by
    simp only [List.mem_cons, List.not_mem_nil, or_false] at ht ⊢
    rcases ht with rfl | rfl <;> simp) hh, x, a0, a1, a2, a3, a4, CondM.mono (fun i C hi hh => hk i C _ hi (by simp) hh) (fun _ hi => hi) _ _ a5⟩
theorem PgM.below {W W' : World} {b : Nat} {s : PX.S} {h : Hd} (P : PgM W b s h) (B : Below W.heap.size W W') : PgM W' b s h :=
  P.keep fun i D t _ _ hh => (B.block i (lt_of_heap hh)).trans hh
theorem LT.pg {W : World} {b : Nat} {s : PX.S} {h : Hd} (L : LT W b s h) : PgM W b s h := ⟨(L.ls.locs.1 L.opn).1, L.ls.init L.opn, L.thr, L.cnd⟩
def progV (s : PX.S) (h : Hd) : Value := .agg #[.string s.name, h.vl, h.vi, h.vt, .int .u8 s.ask, h.c0, h.c1, h.c2, h.c3, h.c4]
def progC (s : PX.S) (h : Hd) : Array Value := #[.string s.name, h.vl, h.vi, h.vt, .int .u8 s.ask, h.c0, h.c1, h.c2, h.c3, h.c4]
/-- What the reading of a program answers. -/
def EndsG (W : World) (b : Nat) (r : PX.R Unit) (e : Ending) (W' : World) : Prop :=
  Fr T2 b W W' ∧ match r with
    | .ok _ s => ∃ h, e = .returned (progV s h) ∧ PgM W' b s h
    | .bad p x => e = failE p x
/-- A program's cells, written one by one. -/
def setP (W : World) (k : Nat) (v0 v1 v2 v3 v4 v5 v6 v7 v8 v9 : Value) : World := ((((((((((W.setCell ⟨k, 0, none⟩ v0).setCell ⟨k, 1, none⟩ v1).setCell ⟨k, 2, none⟩ v2).setCell ⟨k, 3, none⟩ v3).setCell ⟨k, 4, none⟩ v4).setCell ⟨k, 5, none⟩ v5).setCell ⟨k, 6, none⟩ v6).setCell ⟨k, 7, none⟩ v7).setCell ⟨k, 8, none⟩ v8).setCell ⟨k, 9, none⟩ v9)
theorem setP_row {W : World} {k : Nat} {z0 z1 z2 z3 z4 z5 z6 z7 z8 z9 : Value} {t : TypeId} (v0 v1 v2 v3 v4 v5 v6 v7 v8 v9 : Value) (hz : W.heap[k]? = some (.cells #[z0, z1, z2, z3, z4, z5, z6, z7, z8, z9] t (0, 0))) : (setP W k v0 v1 v2 v3 v4 v5 v6 v7 v8 v9).heap[k]? = some (.cells #[v0, v1, v2, v3, v4, v5, v6, v7, v8, v9] t (0, 0)) := by
  have r0 := heap_setCell_same _ k 0 _ _ v0 hz
  have r1 := heap_setCell_same _ k 1 _ _ v1 r0
  have r2 := heap_setCell_same _ k 2 _ _ v2 r1
  have r3 := heap_setCell_same _ k 3 _ _ v3 r2
  have r4 := heap_setCell_same _ k 4 _ _ v4 r3
  have r5 := heap_setCell_same _ k 5 _ _ v5 r4
  have r6 := heap_setCell_same _ k 6 _ _ v6 r5
  have r7 := heap_setCell_same _ k 7 _ _ v7 r6
  have r8 := heap_setCell_same _ k 8 _ _ v8 r7
  have r9 := heap_setCell_same _ k 9 _ _ v9 r8
  unfold setP
  rw [r9]
  simp only [List.setIfInBounds_toArray, List.set_cons_succ, List.set_cons_zero]
theorem setP_keep {W : World} {k i : Nat} {o : Obj} (v0 v1 v2 v3 v4 v5 v6 v7 v8 v9 : Value) (hh : W.heap[i]? = some o) (hi : i ≠ k) : (setP W k v0 v1 v2 v3 v4 v5 v6 v7 v8 v9).heap[i]? = some o := (row_keep (row_keep (row_keep (row_keep (row_keep (row_keep (row_keep (row_keep (row_keep (row_keep hh hi 0 _) hi 1 _) hi 2 _) hi 3 _) hi 4 _) hi 5 _) hi 6 _) hi 7 _) hi 8 _) hi 9 _)
theorem setP_fr {T : List TypeId} {b k : Nat} {W0 W : World} (v0 v1 v2 v3 v4 v5 v6 v7 v8 v9 : Value) (F : Fr T b W0 W) (hk : W0.heap.size ≤ k) : Fr T b W0 (setP W k v0 v1 v2 v3 v4 v5 v6 v7 v8 v9) := ((((((((((F.setNew hk 0 v0).setNew hk 1 v1).setNew hk 2 v2).setNew hk 3 v3).setNew hk 4 v4).setNew hk 5 v5).setNew hk 6 v6).setNew hk 7 v7).setNew hk 8 v8).setNew hk 9 v9)
theorem sizeProg : (Try.prog.info? 39).map (·.size) = some 10 := by kernel_rfl
def PrI (w : World) (b : Nat) (h : Hd) (R : PX.R Unit) (wr : World) : Prop :=
  ∃ (s' : PX.S) (g' : Hd) (m : Nat), TP w b h wr s' g' ∧ PX.Inv s' ∧ s'.rest.length < m ∧ m ≤ 100000 ∧ PX.prog m s' = R ∧ wr.heap[w.heap.size]? = some (.cells #[.string ⟨#[]⟩, .slice none 0 0, .slice none 0 0, .slice none 0 0, .int .u8 0, .int .u8 0, .int .u8 0, .int .u8 0, .int .u8 0, .slice none 0 0] 39 (0, 0))
set_option maxRecDepth 100000 in
set_option maxHeartbeats 16000000 in
theorem program_any (b : Nat) (s : PX.S) (h : Hd) (w : World) (L : LT w b s h) (I : PX.Inv s) (hlen : s.rest.length < 99999) :
    Calls Try.prog 18 #[.pointer (some ⟨b, 0, none⟩)] w (EndsG w b (PX.prog (s.rest.length + 1) s)) := by
  have hbl := L.ls.ps.lt
  have U0 := Lib.hid ((TP.start L).alloc (.cells #[.string ⟨#[]⟩, .slice none 0 0, .slice none 0 0, .slice none 0 0, .int .u8 0, .int .u8 0, .int .u8 0, .int .u8 0, .int .u8 0, .slice none 0 0] 39))
  have z0 := Lib.hid (heap_alloc_new w (.cells #[.string ⟨#[]⟩, .slice none 0 0, .slice none 0 0, .slice none 0 0, .int .u8 0, .int .u8 0, .int .u8 0, .int .u8 0, .int .u8 0, .slice none 0 0] 39))
  obtain ⟨R, hR0⟩ : ∃ R, PX.prog (s.rest.length + 1) s = R := ⟨_, rfl⟩
  rw [hR0]
  replace hR0 := Lib.hid hR0
  have CLn := Lib.hid fun d W hd => lines_any d W hd
  go_enter Try.func18, Try.ntmps18
  go_wp2_with fail
  go_loopw [] (fun wr => PrI w b h R wr) (fun wr => restLen b wr)
  case atStart => exact ⟨s, h, _, U0.out, I, Nat.lt_succ_self _, by omega, hR0.out, z0.out⟩
  case round =>
    obtain ⟨s3, g3, m, T, I3, hm, hm2, hR, hC⟩ := hrel
    obtain ⟨m, rfl⟩ : ∃ m', m = m' + 1 := ⟨m - 1, by omega⟩
    obtain ⟨vr3, d3, f3⟩ := T.lt.ls.ps.cellAt 14
    unfold psC at d3
    simp only [List.getElem?_toArray, List.getElem?_cons_zero, List.getElem?_cons_succ] at d3
    obtain ⟨dn, hdn⟩ : ∃ dn, s3.done = dn := ⟨_, rfl⟩
    rw [hdn] at d3
    by_cases h4 : dn = 4
    · subst h4
      have hR' : R = .ok () s3 := by rw [← hR]; unfold PX.prog; rw [if_pos hdn]
      replace hR' := Lib.hid hR'
      have P3 := T.lt.pg
      obtain ⟨vr, h3, -⟩ := id T.lt.ls.ps
      obtain ⟨x, k0, k1, k2, k3, k4, k5⟩ := T.lt.cnd
      obtain ⟨xa, xl, xc, hu⟩ := k5.slice
      rw [hu] at k4
      obtain ⟨a2, n2, p2, hvl⟩ : ∃ a n cap, g3.vl = .slice a n cap := by
        obtain ⟨_, a, cap, e, _⟩ := T.lt.ls.locs.sl; exact ⟨a, _, cap, e⟩
      obtain ⟨a6, n6, p6, hvi⟩ : ∃ a n cap, g3.vi = .slice a n cap := by
        rcases (T.lt.ls.init T.lt.opn).2 with ⟨e, _⟩ | ⟨g, cap, cur, e, _⟩
        · exact ⟨_, _, _, e⟩
        · exact ⟨_, _, _, e⟩
      obtain ⟨a7, p7, hvt⟩ := T.lt.thr.sl
      have g2 := cell_of_row _ b 2 _ _ _ h3
      have g4 := cell_of_row _ b 4 _ _ _ h3
      have g5 := cell_of_row _ b 5 _ _ _ h3
      have g6 := cell_of_row _ b 6 _ _ _ h3
      have g7 := cell_of_row _ b 7 _ _ _ h3
      have g8 := cell_of_row _ b 8 _ _ _ h3
      have g9 := cell_of_row _ b 9 _ _ _ h3
      have g10 := cell_of_row _ b 10 _ _ _ h3
      have g11 := cell_of_row _ b 11 _ _ _ h3
      have g12 := cell_of_row _ b 12 _ _ _ h3
      have g13 := cell_of_row _ b 13 _ _ _ h3
      unfold psC at g2 g4 g5 g6 g7 g8 g9 g10 g11 g12 g13
      simp only [List.getElem?_toArray, List.getElem?_cons_zero, List.getElem?_cons_succ, hvl, hvi, hvt, k0, k1, k2, k3, k4] at g2 g4 g5 g6 g7 g8 g9 g10 g11 g12 g13
      have fb := fun j => frozen_of_row _ b j _ _ h3
      have fz := fun j => frozen_of_row _ _ j _ _ hC
      have y0 := cell_of_row _ w.heap.size 0 _ _ _ hC
      have y1 := cell_of_row _ w.heap.size 1 _ _ _ hC
      have y2 := cell_of_row _ w.heap.size 2 _ _ _ hC
      have y3 := cell_of_row _ w.heap.size 3 _ _ _ hC
      have y4 := cell_of_row _ w.heap.size 4 _ _ _ hC
      have y5 := cell_of_row _ w.heap.size 5 _ _ _ hC
      have y6 := cell_of_row _ w.heap.size 6 _ _ _ hC
      have y7 := cell_of_row _ w.heap.size 7 _ _ _ hC
      have y8 := cell_of_row _ w.heap.size 8 _ _ _ hC
      have y9 := cell_of_row _ w.heap.size 9 _ _ _ hC
      simp only [List.getElem?_toArray, List.getElem?_cons_zero, List.getElem?_cons_succ] at y0 y1 y2 y3 y4 y5 y6 y7 y8 y9
      have hlw := lt_of_heap hC
      have hne : ¬ w.heap.size = b := by omega
      have hne' : ¬ b = w.heap.size := by omega
      replace hC := Lib.hid hC
      have HX := Lib.hid (And.intro hvl (And.intro hvi (And.intro hvt (And.intro k0 (And.intro k1 (And.intro k2 (And.intro k3 k4)))))))
      clear h3 k5 hu hvl hvi hvt k0 k1 k2 k3 k4 hR
      go_wp2
      have hk : ∀ (i : Nat) (D : Array Value) (t : TypeId), b < i → t ∈ [9, 5, 42, 46, 24] → wr.heap[i]? = some (.cells D t (0, 0)) → (setP (wr.setCell ⟨b, 5, none⟩ (.slice a2 n2 p2)) w.heap.size (.string s3.name) (.slice a2 n2 p2) (.slice a6 n6 p6) (.slice a7 s3.threads.length p7) (.int .u8 s3.ask) (.int .u8 x.k) (.int .u8 x.t) (.int .u8 x.n) (.int .u8 x.v) (.slice xa xl xc)).heap[i]? = some (.cells D t (0, 0)) := fun i D t hi ht hh =>
        setP_keep _ _ _ _ _ _ _ _ _ _ (row_keep hh (Nat.ne_of_gt hi) 5 _) (by
          rintro rfl
          have := hC.out
          rw [hh] at this
          cases this
          simp at ht)
      have hZ := setP_row (.string s3.name) (.slice a2 n2 p2) (.slice a6 n6 p6) (.slice a7 s3.threads.length p7) (.int .u8 s3.ask) (.int .u8 x.k) (.int .u8 x.t) (.int .u8 x.n) (.int .u8 x.v) (.slice xa xl xc) (row_keep hC.out hne 5 (.slice a2 n2 p2))
      have hF := setP_fr (.string s3.name) (.slice a2 n2 p2) (.slice a6 n6 p6) (.slice a7 s3.threads.length p7) (.int .u8 s3.ask) (.int .u8 x.k) (.int .u8 x.t) (.int .u8 x.n) (.int .u8 x.v) (.slice xa xl xc) (T.fr.setB 5 (.slice a2 n2 p2)) (Nat.le_refl w.heap.size)
      obtain ⟨hvl, hvi, hvt, k0, k1, k2, k3, k4⟩ := HX.out
      have hv : progV s3 g3 = .agg #[.string s3.name, .slice a2 n2 p2, .slice a6 n6 p6, .slice a7 s3.threads.length p7, .int .u8 s3.ask, .int .u8 x.k, .int .u8 x.t, .int .u8 x.n, .int .u8 x.v, .slice xa xl xc] := by
        unfold progV; rw [hvl, hvi, hvt, k0, k1, k2, k3, k4]
      have hE : EndsG w b (.ok () s3) (.returned (progV s3 g3)) (setP (wr.setCell ⟨b, 5, none⟩ (.slice a2 n2 p2)) w.heap.size (.string s3.name) (.slice a2 n2 p2) (.slice a6 n6 p6) (.slice a7 s3.threads.length p7) (.int .u8 s3.ask) (.int .u8 x.k) (.int .u8 x.t) (.int .u8 x.n) (.int .u8 x.v) (.slice xa xl xc)) := ⟨hF, g3, rfl, P3.keep hk⟩
      rw [hv] at hE
      rw [hR'.out]
      refine bodyPost_ret (v := .agg #[.string s3.name, .slice a2 n2 p2, .slice a6 n6 p6, .slice a7 s3.threads.length p7, .int .u8 s3.ask, .int .u8 x.k, .int .u8 x.t, .int .u8 x.n, .int .u8 x.v, .slice xa xl xc]) ?_ rfl hE
      exact results_cell_row (p := 2) rfl _ _ w.heap.size _ _ _ _ rfl hZ Try.underlying39 rfl sizeProg
    · have t1 : (dn != 4) = true := by simpa using h4
      have hR' : Hid (R = (PX.line s3).bind fun _ s => PX.prog m s) := Lib.hid (by rw [← hR]; simp only [PX.prog]; rw [if_neg (by rw [hdn]; exact h4)])
      have hdd : dn = 0 ∨ dn = 1 ∨ dn = 2 ∨ dn = 3 := by have := I3.done; rw [hdn] at this; omega
      have c1 := Lib.hid (CLn.out dn wr hdd)
      have U1 := T.alloc (.map ⟨mapE (tabL dn) 0⟩ (tabL dn).length)
      have C4 := choseL (tabL dn) (tabL dn).length U1.lt.ls.ps _ (heap_alloc_new _ _)
      replace U1 := Lib.hid U1
      clear hR hdd h4
      rcases rl : lookE (PX.sy (PX.next s3)) (tabL dn) with _ | f
      · rw [rl] at C4
        replace C4 := Lib.hid C4
        have hRb : R = .bad (PX.next s3).p 50 := by
          rw [hR'.out, line_none I3 (by rw [hdn]; simpa using t1) (by rw [hdn]; exact rl)]; rfl
        rw [hRb]
        clear rl hdn
        go_wp2_with (first
          | (go_at_call 25; refine (c1.out).mono ?_; rintro e w3 ⟨rfl, rfl⟩)
          | (go_at_call 24; refine (C4.out).mono ?_; rintro e w4 ⟨B4, rfl⟩))
        refine ⟨rfl, U1.out.fr.trans (.of_below B4), ?_⟩
        show Ending.panicked _ = failE _ _
        symm
        assumption
      · have hs := Lib.hid fun h' W (L' : LT W b s3 h') => line_some L' I3 (by omega) (by rw [hdn]; simpa using t1) (by rw [hdn]; exact rl)
        have hent : ∀ args W, (callFunc f args).run Try.prog W = .ok (.enter f args) W := lookE_all (ents_line dn) rl
        rw [rl] at C4
        replace C4 := Lib.hid C4
        have hlw := lt_of_heap hC
        have hC1 := Lib.hid (row_alloc hC (.map ⟨mapE (tabL dn) 0⟩ (tabL dn).length))
        clear rl hdn
        go_wp2_with (first
          | (go_at_call 25; refine (c1.out).mono ?_; rintro e w3 ⟨rfl, rfl⟩)
          | (go_at_call 24; refine (C4.out).mono ?_; rintro e w4 ⟨B4, rfl⟩
             have U4 := Lib.hid (U1.out.below B4)))
        refine callP (hs.out _ _ U4.out.lt) (fun s5 w5 g5 hx5 F5 hg5 L5 => ?_) (fun pl er w5 hx F => ⟨rfl, U4.out.fr.trans F, by rw [hR'.out, hx]; rfl⟩)
        have U5 := U4.out.stepP F5 hg5 L5
        have I5 := PX.inv_line I3 _ _ hx5
        have hlt := PX.line_lt s3 _ _ hx5
        have hC5 : w5.heap[w.heap.size]? = some (.cells #[.string ⟨#[]⟩, .slice none 0 0, .slice none 0 0, .slice none 0 0, .int .u8 0, .int .u8 0, .int .u8 0, .int .u8 0, .int .u8 0, .slice none 0 0] 39 (0, 0)) := F5.box ((B4.block _ (lt_of_heap hC1.out)).trans hC1.out) (by omega) (by simp [T2])
        have hR5 := hR'.out
        rw [hx5] at hR5
        replace U5 := Lib.hid U5
        replace I5 := Lib.hid I5
        replace hR5 := Lib.hid hR5
        go_wp2
        refine ⟨⟨s5, g5, m, U5.out, I5.out, by omega, by omega, hR5.out.symm, hC5⟩, ?_⟩
        rw [restLen_ps U5.out.lt.ls.ps, restLen_ps T.lt.ls.ps]
        exact hlt
end PP
end Go.Proofs.Ytglbmiadgdadfaa
end

section
/- Parsing a text: the tokens, the deferred call. -/
namespace Go.Proofs.Ytglbmiadgdadfaa
open Go.RowKit Go.Shelf

attribute [local go_sem] Oper.semAt_some
namespace PP
theorem wf_kind : ∀ (u : Bool) (l : List (Nat × List UInt8)), LX.wf u l → ∀ x ∈ l, x.1 ≤ 4
  | _, [], _, x, h => by cases h
  | u, (k, T) :: r, hw, x, h => by
    rcases hw with ⟨h1, _, _, h2⟩ | ⟨h1, h2, h3⟩
    · rcases List.mem_cons.1 h with rfl | h
      · show k ≤ 4; omega
      · exact wf_kind _ r h2 x h
    · rcases List.mem_cons.1 h with rfl | h
      · show k ≤ 4
        unfold LX.tokOk at h2
        omega
      · exact wf_kind _ r h3 x h
theorem toks_ok (s : ByteArray) : ∀ t ∈ toks s, okTok t := by
  intro t ht
  by_cases he : (LX.out (bsOf s)).2.2 = 0
  · obtain ⟨hw, hc, hl⟩ := LX.out_good he
    unfold toks at ht
    obtain ⟨u, hu, rfl⟩ := List.mem_map.1 ht
    have hk := wf_kind _ _ hw _ (List.mem_map_of_mem (f := LX.sho (bsOf s)) hu)
    refine ⟨?_, ?_, ?_⟩
    · show (s.extract u.lo u.hi).size ≤ 100000
      rw [ByteArray.size_extract]
      rw [bsOf_length] at hl
      omega
    · show (0 : Int) ≤ (u.kind : Int); omega
    · show (u.kind : Int) ≤ 4
      have : u.kind ≤ 4 := hk
      omega
  · have : (LX.out (bsOf s)).1 = [] := by
      unfold LX.out at he ⊢
      split
      · rfl
      · rename_i hl
        rw [if_neg hl] at he
        split
        · rfl
        · rename_i hf; rw [hf] at he; exact absurd rfl he
    unfold toks at ht
    rw [this] at ht
    cases ht
theorem tkR_own {W : World} {base : Nat} {v : Value} {s : ByteArray} {l : List LX.Tk} (h : W.ownsRow base 61 3 v l.length (toksC s l)) (hm : l.length ≤ 32768) (hsz : 0 < W.heap.size) : ∃ g, TkR W g v (l.map (tokD s)) ∧ g < W.heap.size ∧ ∃ a n c, v = .slice a n c := by
  rcases h.2 with ⟨rfl, h0⟩ | ⟨g, cap, cur, rfl, hg, hheap, hnc, hc1, hc2, hc3⟩
  · exact ⟨0, ⟨by rw [List.length_map, h0]; unfold maxLen; omega, none, 0, by rw [List.length_map, h0], by rw [List.length_map, h0]; exact Nat.le_refl _, by unfold maxLen; omega, fun h => by rw [List.length_map, h0] at h; omega⟩, hsz, none, 0, 0, rfl⟩
  · refine ⟨g, ⟨by rw [List.length_map]; unfold maxLen; omega, some ⟨g, 0, none⟩, cap, by rw [List.length_map], by rw [List.length_map]; exact hnc, hc1, fun _ => ⟨0, cur, rfl, hheap, fun j t ht => ?_⟩⟩, lt_of_heap hheap, _, _, _, rfl⟩
    rw [List.getElem?_map] at ht
    obtain ⟨u, hu, rfl⟩ := Option.map_eq_some_iff.1 ht
    obtain ⟨a1, a2, a3⟩ := toksC_get s l j u hu
    have hjl := (List.getElem?_eq_some_iff.1 hu).1
    have e : ∀ i, i < l.length * 3 → cur[i]? = (toksC s l)[i]? := fun i hi => by rw [← hc3, List.getElem?_take, if_pos hi]; simp
    rw [Nat.zero_add]
    exact ⟨(e _ (by omega)).trans a1, (e _ (by omega)).trans a2, (e _ (by omega)).trans a3⟩

theorem assert_nil (w : World) : (Instr.typeAssert .nilIface 20 67 true).run Try.prog w = .ok (.tuple #[.agg #[.int .i64 0, .int .i64 0], .bool false]) w := by kernel_rfl
theorem assert_fault (a b : Int) (w : World) : (Instr.typeAssert (.iface 67 (.agg #[.int .i64 a, .int .i64 b])) 20 67 true).run Try.prog w = .ok (.tuple #[.agg #[.int .i64 a, .int .i64 b], .bool true]) w := by kernel_rfl
set_option maxRecDepth 100000 in
set_option maxHeartbeats 4000000 in
theorem catch_idle (p q : Addr) (w : World) :
    CallsD Try.prog 23 #[.pointer (some p), .pointer (some q)] .returning w fun e u' w' => e = .returned (.tuple #[]) ∧ u' = .returning ∧ w' = w.alloc (.cells #[.int .i64 0, .int .i64 0] 67) := by
  refine callsD_of_wpS Try.func23 rfl fun c₀ cs hu => ?_
  show Code.wpS _ _ _ { tmps := #[.pointer (some p), .pointer (some q), undef, undef, undef, undef, undef, undef, undef, undef, undef, undef, undef, undef], defers := [] } _ _
  apply wpS_seq
  apply wpS_region
  have h1 := assert_nil
  have n0 := fun w : World => cell_of_row _ w.heap.size 0 _ _ _ (heap_alloc_new w (.cells #[.int .i64 0, .int .i64 0] 67))
  have n1 := fun w : World => cell_of_row _ w.heap.size 1 _ _ _ (heap_alloc_new w (.cells #[.int .i64 0, .int .i64 0] 67))
  simp [wpOpsS, go_sem, recoverD, hu, h1, n0, n1, Exit.thenS]
  apply wpS_seq
  apply wpS_region
  simp [wpOpsS, go_sem, Exit.thenS]
  refine wpS_cond (t := false) (by simp [Act.eval]) ?_
  simp only [Bool.false_eq_true, if_false]
  refine wpS_of_wp (wp_skip ?_)
  cases c₀
  simp_all [bodyPostS, results, Try.results23]
/-- What the deferred call leaves where a panic is caught: the offset in block k1, the error in block k2. -/
structure CatP (w w' : World) (k1 k2 : Nat) (a b : Int) : Prop where
  os : w'.os = w.os
  tape : w'.tape = w.tape
  output : w'.output = w.output
  size : w.heap.size ≤ w'.heap.size
  block : ∀ k o, w.heap[k]? = some o → k ≠ k1 → k ≠ k2 → w'.heap[k]? = some o
  c1 : w'.heap[k1]? = some (.cells #[.int .i64 a] 3 (0, 0))
  c2 : w'.heap[k2]? = some (.cells #[.int .i64 b] 30 (0, 0))
theorem CatP.pre {w W w' : World} {k1 k2 : Nat} {a b : Int} (h : CatP W w' k1 k2 a b) (B : Below w.heap.size w W) : CatP w w' k1 k2 a b :=
  ⟨h.os.trans B.os, h.tape.trans B.tape, h.output.trans B.output, Nat.le_trans B.size h.size, fun k o ho n1 n2 => h.block k o ((B.block k (lt_of_heap ho)).trans ho) n1 n2, h.c1, h.c2⟩
theorem CatP.drew {w w' : World} {k1 k2 : Nat} {a b : Int} (h : CatP w w' k1 k2 a b) : CatP w w'.drew k1 k2 a b := ⟨h.os, h.tape, h.output, h.size, h.block, h.c1, h.c2⟩
theorem catP_of {w : World} {k1 k2 : Nat} {a b v1 v2 : Int} (h1 : w.heap[k1]? = some (.cells #[.int .i64 v1] 3 (0, 0))) (h2 : w.heap[k2]? = some (.cells #[.int .i64 v2] 30 (0, 0))) (hk : k1 ≠ k2) : CatP w ((w.setCell ⟨k1, 0, none⟩ (.int .i64 a)).setCell ⟨k2, 0, none⟩ (.int .i64 b)) k1 k2 a b := by
  refine ⟨rfl, rfl, rfl, by simp, fun k o ho n1 n2 => row_keep (row_keep ho n1 0 _) n2 0 _, ?_, ?_⟩
  · have := heap_setCell_same w k1 0 _ _ (.int .i64 a) h1
    exact row_keep this hk 0 _
  · exact heap_setCell_same _ k2 0 _ _ (.int .i64 b) (row_keep h2 hk.symm 0 _)
theorem catP_of' {w : World} {k1 k2 : Nat} {a b v1 v2 : Int} (h1 : w.heap[k1]? = some (.cells #[.int .i64 v1] 3 (0, 0))) (h2 : w.heap[k2]? = some (.cells #[.int .i64 v2] 30 (0, 0))) (hk : k1 ≠ k2) : CatP w ((w.setCell ⟨k2, 0, none⟩ (.int .i64 b)).setCell ⟨k1, 0, none⟩ (.int .i64 a)) k1 k2 a b := by
  refine ⟨rfl, rfl, rfl, by simp, fun k o ho n1 n2 => row_keep (row_keep ho n2 0 _) n1 0 _, ?_, ?_⟩
  · exact heap_setCell_same _ k1 0 _ _ (.int .i64 a) (row_keep h1 hk 0 _)
  · have := heap_setCell_same w k2 0 _ _ (.int .i64 b) h2
    exact row_keep this hk.symm 0 _
set_option maxRecDepth 100000 in
set_option maxHeartbeats 4000000 in
theorem catch_panicking (k1 k2 : Nat) (a b : Int) (w : World) (v1 v2 : Int) (h1 : w.heap[k1]? = some (.cells #[.int .i64 v1] 3 (0, 0))) (h2 : w.heap[k2]? = some (.cells #[.int .i64 v2] 30 (0, 0))) (hk : k1 ≠ k2) :
    CallsD Try.prog 23 #[.pointer (some ⟨k1, 0, none⟩), .pointer (some ⟨k2, 0, none⟩)] (.panicking [{ v := .iface 67 (.agg #[.int .i64 a, .int .i64 b]), recovered := false }]) w fun e u' w' => e = .returned (.tuple #[]) ∧ u' = .panicking [{ v := .iface 67 (.agg #[.int .i64 a, .int .i64 b]), recovered := true }] ∧ CatP w w' k1 k2 a b := by
  refine callsD_of_wpS Try.func23 rfl fun c₀ cs hu => ?_
  show Code.wpS _ _ _ { tmps := #[.pointer (some ⟨k1, 0, none⟩), .pointer (some ⟨k2, 0, none⟩), undef, undef, undef, undef, undef, undef, undef, undef, undef, undef, undef, undef], defers := [] } _ _
  apply wpS_seq
  apply wpS_region
  have e1 := assert_fault a b
  simp [wpOpsS, go_sem, recoverD, hu, e1, Exit.thenS]
  have B1 := (Below.refl w.heap.size w).alloc (Nat.le_refl _) (.cells #[.int .i64 a, .int .i64 b] 67)
  have hz := heap_alloc_new w (.cells #[.int .i64 a, .int .i64 b] 67)
  have z0 := cell_of_row _ _ 0 _ _ _ hz
  have z1 := cell_of_row _ _ 1 _ _ _ hz
  simp only [List.getElem?_toArray, List.getElem?_cons_zero, List.getElem?_cons_succ] at z0 z1
  have g1 := (B1.block k1 (lt_of_heap h1)).trans h1
  have g2 := (B1.block k2 (lt_of_heap h2)).trans h2
  have l1 := lt_of_heap h1
  have l2 := lt_of_heap h2
  generalize w.alloc (.cells #[.int .i64 a, .int .i64 b] 67) = W at *
  apply wpS_seq
  apply wpS_region
  simp [wpOpsS, go_sem, Exit.thenS]
  refine wpS_cond (t := true) (by simp [Act.eval]) ?_
  simp only [if_true]
  refine wpS_of_wp ?_
  have f1 := frozen_of_row _ k1 0 _ _ g1
  have f2 := frozen_of_row _ k2 0 _ _ g2
  have c1 := cell_of_row _ k1 0 _ _ _ g1
  have c2 := cell_of_row _ k2 0 _ _ _ g2
  simp only [List.getElem?_toArray, List.getElem?_cons_zero, List.getElem?_cons_succ] at c1 c2
  have hk' := hk.symm
  have m1 : ¬ w.heap.size = k1 := by omega
  have m2 : ¬ w.heap.size = k2 := by omega
  have m3 : ¬ k1 = w.heap.size := by omega
  have m4 : ¬ k2 = w.heap.size := by omega
  go_region
  have hc := catP_of (a := a) (b := b) g1 g2 hk
  refine ⟨rfl, _, rfl, .tuple #[], ?_, rfl, rfl, (hc.pre B1).drew⟩
  simp [results, Try.results23]
end PP
end Go.Proofs.Ytglbmiadgdadfaa
end

section
/- Parsing a text as a program. -/
namespace Go.Proofs.Ytglbmiadgdadfaa
open Go.RowKit Go.Shelf

attribute [local go_sem] Oper.semAt_some
namespace PP
def progZ : Array Value := #[.string ⟨#[]⟩, .slice none 0 0, .slice none 0 0, .slice none 0 0, .int .u8 0, .int .u8 0, .int .u8 0, .int .u8 0, .int .u8 0, .slice none 0 0]
def parZ (o : Bool) (vl : Value) : Array Value := #[.slice none 0 0, .int .i64 0, vl, .bool o, .string ⟨#[]⟩, .slice none 0 0, .slice none 0 0, .slice none 0 0, .int .u8 0, .int .u8 0, .int .u8 0, .int .u8 0, .int .u8 0, .slice none 0 0, .int .u8 0]
def hdZ (g : Nat) (vl : Value) : Hd := ⟨g, vl, .slice none 0 0, .slice none 0 0, .int .u8 0, .int .u8 0, .int .u8 0, .int .u8 0, .slice none 0 0⟩
/-- What parsing a text as a program answers. -/
def ReadPost (s : ByteArray) (b : Nat) (w : World) (e : Ending) (w' : World) : Prop :=
  Fr T2 b w w' ∧ match PX.parse s with
    | .ok _ st => ∃ h, e = .returned (.tuple #[progV st h, .int .i64 0, .int .i64 0]) ∧ PgM w' b st h
    | .bad p x => e = .returned (.tuple #[.agg progZ, .int .i64 p, .int .i64 x])
theorem parse_eq (s : ByteArray) : PX.parse s = if (LX.out (bsOf s)).2.2 = 0 then PX.prog ((toks s).length + 1) (PX.start s [] true) else .bad ((LX.out (bsOf s)).2.1 : Int) ((LX.out (bsOf s)).2.2 : Int) := rfl
theorem lt_start {W : World} {b g : Nat} {v : Value} {s : ByteArray} (hb : W.heap[b]? = some (.cells (psC v (PX.start s [] true) (hdZ g (.slice none 0 0))) 54 (0, 0))) (ht : TkR W g v (toks s)) (hg : g < W.heap.size) : LT W b (PX.start s [] true) (hdZ g (.slice none 0 0)) :=
  ⟨⟨⟨v, hb, ht, toks_ok s, hg⟩, ⟨fun _ => ⟨World.ownsRow_nil _ _ _ _, Nat.zero_le _⟩, fun h => by cases h⟩, fun _ => World.ownsRow_nil _ _ _ _⟩, rfl, ThrM.zero _ _, ⟨0, 0, 0, 0, .slice none 0 0⟩, rfl, rfl, rfl, rfl, rfl, condM_leaf _ _ _ _ _ _⟩
theorem readProg_results (tmps : Array Value) (W : World) (k : Nat) (cs : Array Value) (p x : Int) (hs : cs.size = 10) (h6 : tmps[6]?.getD undef = .pointer (some ⟨k, 0, none⟩)) (h7 : tmps[7]?.getD undef = .pointer (some ⟨k + 1, 0, none⟩)) (h8 : tmps[8]?.getD undef = .pointer (some ⟨k + 1 + 1, 0, none⟩))
    (r0 : W.heap[k]? = some (.cells cs 39 (0, 0))) (r1 : W.heap[k + 1]? = some (.cells #[.int .i64 p] 3 (0, 0))) (r2 : W.heap[k + 1 + 1]? = some (.cells #[.int .i64 x] 30 (0, 0))) :
    (results Try.f17 tmps).run Try.prog W = .ok (.tuple #[.agg cs, .int .i64 p, .int .i64 x]) W := by
  have l0 := run_loadVar_row (P := Try.prog) W k 39 39 cs (0, 0) _ r0 Try.underlying39 rfl (by rw [sizeProg, hs])
  have c1 := cell_of_row _ (k + 1) 0 _ _ _ r1
  have c2 := cell_of_row _ (k + 1 + 1) 0 _ _ _ r2
  simp only [List.getElem?_toArray, List.getElem?_cons_zero, List.getElem?_cons_succ] at c1 c2
  have l1 : (loadVar 3 ⟨k + 1, 0, none⟩).run Try.prog W = .ok (.int .i64 p) W := by simp [go_sem, c1]
  have l2 : (loadVar 30 ⟨k + 1 + 1, 0, none⟩).run Try.prog W = .ok (.int .i64 x) W := by simp [go_sem, c2]
  simp [results, Try.results17, h6, h7, h8, asAddr, l0, l1, l2]
theorem readProg_door {R : Ending → World → Prop} {a : Act} {W : World} {k : Nat} {cs : Array Value} {p x : Int} (hs : cs.size = 10) (hd : a.defers = []) (h6 : a.tmps[6]?.getD undef = .pointer (some ⟨k, 0, none⟩)) (h7 : a.tmps[7]?.getD undef = .pointer (some ⟨k + 1, 0, none⟩)) (h8 : a.tmps[8]?.getD undef = .pointer (some ⟨k + 1 + 1, 0, none⟩))
    (r0 : W.heap[k]? = some (.cells cs 39 (0, 0))) (r1 : W.heap[k + 1]? = some (.cells #[.int .i64 p] 3 (0, 0))) (r2 : W.heap[k + 1 + 1]? = some (.cells #[.int .i64 x] 30 (0, 0)))
    (hR : R (.returned (.tuple #[.agg cs, .int .i64 p, .int .i64 x])) W) : bodyPostD Try.prog Try.f17 R Exit.ret a W := by
  show Leaves _ _ _ _ a.defers _ _
  rw [hd]
  exact ⟨_, readProg_results a.tmps W k cs p x hs h6 h7 h8 r0 r1 r2, hR⟩
theorem readProg_done {R : Ending → World → Prop} {a : Act} {W : World} {k : Nat} {cs : Array Value} {p x : Int} (hs : cs.size = 10) (hd : a.defers = [{ target := .fn (.func 23) #[.pointer (some ⟨k + 1, 0, none⟩), .pointer (some ⟨k + 1 + 1, 0, none⟩)], args := #[] }]) (h6 : a.tmps[6]?.getD undef = .pointer (some ⟨k, 0, none⟩)) (h7 : a.tmps[7]?.getD undef = .pointer (some ⟨k + 1, 0, none⟩)) (h8 : a.tmps[8]?.getD undef = .pointer (some ⟨k + 1 + 1, 0, none⟩))
    (r0 : W.heap[k]? = some (.cells cs 39 (0, 0))) (r1 : W.heap[k + 1]? = some (.cells #[.int .i64 p] 3 (0, 0))) (r2 : W.heap[k + 1 + 1]? = some (.cells #[.int .i64 x] 30 (0, 0)))
    (hR : ∀ W', Below W.heap.size W W' → R (.returned (.tuple #[.agg cs, .int .i64 p, .int .i64 x])) W') : bodyPostD Try.prog Try.f17 R Exit.ret a W := by
  show Leaves _ _ _ _ a.defers _ _
  rw [hd]
  refine leaves_cons (f := 23) (args := #[.pointer (some ⟨k + 1, 0, none⟩), .pointer (some ⟨k + 1 + 1, 0, none⟩)]) (by simp) (by simp [go_sem]) ?_
  refine (catch_idle _ _ W).mono ?_
  rintro e u' w'' ⟨rfl, rfl, rfl⟩
  exact ⟨_, readProg_results a.tmps _ k cs p x hs h6 h7 h8 (row_alloc r0 _) (row_alloc r1 _) (row_alloc r2 _), hR _ ((Below.refl _ W).alloc (Nat.le_refl _) _)⟩
theorem readProg_caught {R : Ending → World → Prop} {a : Act} {W : World} {k : Nat} {cs : Array Value} {p x v1 v2 : Int} (hs : cs.size = 10) (hd : a.defers = [{ target := .fn (.func 23) #[.pointer (some ⟨k + 1, 0, none⟩), .pointer (some ⟨k + 1 + 1, 0, none⟩)], args := #[] }]) (h6 : a.tmps[6]?.getD undef = .pointer (some ⟨k, 0, none⟩)) (h7 : a.tmps[7]?.getD undef = .pointer (some ⟨k + 1, 0, none⟩)) (h8 : a.tmps[8]?.getD undef = .pointer (some ⟨k + 1 + 1, 0, none⟩))
    (r0 : W.heap[k]? = some (.cells cs 39 (0, 0))) (r1 : W.heap[k + 1]? = some (.cells #[.int .i64 v1] 3 (0, 0))) (r2 : W.heap[k + 1 + 1]? = some (.cells #[.int .i64 v2] 30 (0, 0)))
    (hR : ∀ W', CatP W W' (k + 1) (k + 1 + 1) p x → R (.returned (.tuple #[.agg cs, .int .i64 p, .int .i64 x])) W') : bodyPostD Try.prog Try.f17 R (Exit.panic [{ v := .iface 67 (.agg #[.int .i64 p, .int .i64 x]), recovered := false }]) a W := by
  show Leaves _ _ _ _ a.defers _ _
  rw [hd]
  refine leaves_cons (f := 23) (args := #[.pointer (some ⟨k + 1, 0, none⟩), .pointer (some ⟨k + 1 + 1, 0, none⟩)]) (by simp) (by simp [go_sem]) ?_
  refine (catch_panicking (k + 1) (k + 1 + 1) p x W v1 v2 r1 r2 (by omega)).mono ?_
  rintro e u' w'' ⟨rfl, rfl, hc⟩
  show Leaves _ _ _ _ [] .returning _
  exact ⟨_, readProg_results a.tmps _ k cs p x hs h6 h7 h8 (hc.block k _ r0 (by omega) (by omega)) hc.c1 hc.c2, hR _ hc⟩
set_option maxRecDepth 100000 in
set_option maxHeartbeats 16000000 in
theorem readProg_any (s : ByteArray) (b : Nat) (w : World) (hb : w.heap[b]? = some (.cells (parZ true (.slice none 0 0)) 54 (0, 0))) :
    Calls Try.prog 17 #[.pointer (some ⟨b, 0, none⟩), .string s, .func (.func 18) #[] #[]] w (ReadPost s b w) := by
  have hbl := lt_of_heap hb
  have B0 := (((Below.refl w.heap.size w).alloc (Nat.le_refl _) (.cells progZ 39)).alloc (by simp) (.cells #[.int .i64 0] 3)).alloc (by simp; omega) (.cells #[.int .i64 0] 30)
  have z0 := row_alloc (row_alloc (heap_alloc_new w (.cells progZ 39)) (.cells #[.int .i64 0] 3)) (.cells #[.int .i64 0] 30)
  have z1 := row_alloc (heap_alloc_new (w.alloc (.cells progZ 39)) (.cells #[.int .i64 0] 3)) (.cells #[.int .i64 0] 30)
  have z2 := heap_alloc_new ((w.alloc (.cells progZ 39)).alloc (.cells #[.int .i64 0] 3)) (.cells #[.int .i64 0] 30)
  have CL := lex_any s (((w.alloc (.cells progZ 39)).alloc (.cells #[.int .i64 0] 3)).alloc (.cells #[.int .i64 0] 30))
  simp only [World.size_alloc] at z1 z2
  obtain ⟨pl, hpl⟩ : ∃ pl, (LX.out (bsOf s)).2.1 = pl := ⟨_, rfl⟩
  obtain ⟨er, her⟩ : ∃ er, (LX.out (bsOf s)).2.2 = er := ⟨_, rfl⟩
  unfold LexPost at CL
  rw [hpl, her] at CL
  have hmf : ∀ (fn : Fn) (first cap : Array Value) (w : World), (Instr.makeFunc fn first cap).run Try.prog w = .ok (.func fn first cap) w := fun _ _ _ _ => rfl
  unfold progZ at CL B0 z0 z1 z2
  by_cases he : er = 0
  · subst he
    have hP : PX.parse s = PX.prog ((toks s).length + 1) (PX.start s [] true) := by rw [parse_eq, if_pos her]
    replace B0 := Lib.hid B0
    replace CL := Lib.hid CL
    replace z0 := Lib.hid z0
    replace z1 := Lib.hid z1
    replace z2 := Lib.hid z2
    replace hP := Lib.hid hP
    have hent : ∀ args W, (callFunc 18 args).run Try.prog W = .ok (.enter 18 args) W := enters Try.func18 (by kernel_rfl) rfl
    unfold parZ at hb
    have hlen := toks_len s
    rw [toks_length] at hlen
    have CP := Lib.hid fun g W (L : LT W b (PX.start s [] true) (hdZ g (.slice none 0 0))) => program_any b (PX.start s [] true) (hdZ g (.slice none 0 0)) W L (PX.inv_start s) (by show (toks s).length < 99999; have := toks_len s; omega)
    have t1 : ((0 : Int) != 0) = false := rfl
    replace hlen := Lib.hid hlen
    replace hb := Lib.hid hb
    go_enter_defers Try.func17, Try.ntmps17
    go_wp2_with (first
      | (go_at_call 15; refine (CL.out).mono ?_; rintro e w1 ⟨v, rfl, hown, B1⟩
         obtain ⟨g, hT, hg, va, vn, vc, rfl⟩ := tkR_own hown hlen.out (by have := B1.size; simp at this; omega)
         have y0 := (B1.block _ (lt_of_heap z0.out)).trans z0.out
         have y1 := (B1.block _ (lt_of_heap z1.out)).trans z1.out
         have y2 := (B1.block _ (lt_of_heap z2.out)).trans z2.out
         have yb := (B1.block _ (Nat.lt_of_lt_of_le hbl B0.out.size)).trans ((B0.out.block b hbl).trans hb.out)
         have c1 := cell_of_row _ _ 0 _ _ _ y1
         have c2 := cell_of_row _ _ 0 _ _ _ y2
         have f1 := frozen_of_row _ _ 0 _ _ y1
         have f2 := frozen_of_row _ _ 0 _ _ y2
         have b0 := cell_of_row _ b 0 _ _ _ yb
         have b1 := cell_of_row _ b 1 _ _ _ yb
         have fb0 := frozen_of_row _ b 0 _ _ yb
         have fb1 := frozen_of_row _ b 1 _ _ yb
         simp only [List.getElem?_toArray, List.getElem?_cons_zero, List.getElem?_cons_succ] at c1 c2 b0 b1
         have m1 : ¬ b = w.heap.size + 1 := by omega
         have m2 : ¬ b = w.heap.size + 1 + 1 := by omega
         have m3 : ¬ w.heap.size + 1 = b := by omega
         have m4 : ¬ w.heap.size + 1 + 1 = b := by omega
         replace hown := Lib.hid hown
         replace hT := Lib.hid hT
         replace y0 := Lib.hid y0
         replace y1 := Lib.hid y1
         replace y2 := Lib.hid y2
         replace yb := Lib.hid yb
         replace B1 := Lib.hid B1))
    have q0 := row_keep (row_keep (row_keep (row_keep y0.out (show w.heap.size ≠ w.heap.size + 1 by omega) 0 (.int .i64 (pl : Int))) (show w.heap.size ≠ w.heap.size + 1 + 1 by omega) 0 (.int .i64 0)) (show w.heap.size ≠ b by omega) 0 (.slice va vn vc)) (show w.heap.size ≠ b by omega) 1 (.int .i64 (s.size : Int))
    have q1 := row_keep (row_keep (row_keep (heap_setCell_same _ (w.heap.size + 1) 0 _ _ (.int .i64 (pl : Int)) y1.out) (show w.heap.size + 1 ≠ w.heap.size + 1 + 1 by omega) 0 (.int .i64 0)) (show w.heap.size + 1 ≠ b by omega) 0 (.slice va vn vc)) (show w.heap.size + 1 ≠ b by omega) 1 (.int .i64 (s.size : Int))
    have q2 := row_keep (row_keep (heap_setCell_same _ (w.heap.size + 1 + 1) 0 _ _ (.int .i64 0) (row_keep y2.out (show w.heap.size + 1 + 1 ≠ w.heap.size + 1 by omega) 0 (.int .i64 (pl : Int)))) (show w.heap.size + 1 + 1 ≠ b by omega) 0 (.slice va vn vc)) (show w.heap.size + 1 + 1 ≠ b by omega) 1 (.int .i64 (s.size : Int))
    have qb := heap_setCell_same _ b 1 _ _ (.int .i64 (s.size : Int)) (heap_setCell_same _ b 0 _ _ (.slice va vn vc) (row_keep (row_keep yb.out (show b ≠ w.heap.size + 1 by omega) 0 (.int .i64 (pl : Int))) (show b ≠ w.heap.size + 1 + 1 by omega) 0 (.int .i64 0)))
    simp only [List.setIfInBounds_toArray, List.set_cons_succ, List.set_cons_zero] at q1 q2 qb
    have hTk : TkR ((((w1.setCell ⟨w.heap.size + 1, 0, none⟩ (.int .i64 (pl : Int))).setCell ⟨w.heap.size + 1 + 1, 0, none⟩ (.int .i64 0)).setCell ⟨b, 0, none⟩ (.slice va vn vc)).setCell ⟨b, 1, none⟩ (.int .i64 (s.size : Int))) g (.slice va vn vc) (toks s) := hT.out.same fun C hC => by
      have n1 : g ≠ w.heap.size + 1 := by rintro rfl; rw [y1.out] at hC; cases hC
      have n2 : g ≠ w.heap.size + 1 + 1 := by rintro rfl; rw [y2.out] at hC; cases hC
      have n3 : g ≠ b := by rintro rfl; rw [yb.out] at hC; cases hC
      exact row_keep (row_keep (row_keep (row_keep hC n1 0 _) n2 0 _) n3 0 _) n3 1 _
    have hF : Fr T2 b w ((((w1.setCell ⟨w.heap.size + 1, 0, none⟩ (.int .i64 (pl : Int))).setCell ⟨w.heap.size + 1 + 1, 0, none⟩ (.int .i64 0)).setCell ⟨b, 0, none⟩ (.slice va vn vc)).setCell ⟨b, 1, none⟩ (.int .i64 (s.size : Int))) := ((((Fr.of_below (B0.out.trans (B1.out.mono B0.out.size))).setNew (by omega) 0 _).setNew (by omega) 0 _).setB 0 _).setB 1 _
    have hg3 : g < ((((w1.setCell ⟨w.heap.size + 1, 0, none⟩ (.int .i64 (pl : Int))).setCell ⟨w.heap.size + 1 + 1, 0, none⟩ (.int .i64 0)).setCell ⟨b, 0, none⟩ (.slice va vn vc)).setCell ⟨b, 1, none⟩ (.int .i64 (s.size : Int))).heap.size := by simpa using hg
    generalize (((w1.setCell ⟨w.heap.size + 1, 0, none⟩ (.int .i64 (pl : Int))).setCell ⟨w.heap.size + 1 + 1, 0, none⟩ (.int .i64 0)).setCell ⟨b, 0, none⟩ (.slice va vn vc)).setCell ⟨b, 1, none⟩ (.int .i64 (s.size : Int)) = W3 at *
    have CPx : Calls Try.prog 18 #[.pointer (some ⟨b, 0, none⟩)] W3 (EndsG W3 b (PX.prog ((toks s).length + 1) (PX.start s [] true))) := CP.out g W3 (lt_start qb hTk hg3)
    clear y0 y1 y2 yb c1 c2 f1 f2 b0 b1 fb0 fb1 hTk hg3 qb hown hT B1 CL CP
    rcases hr : PX.prog ((toks s).length + 1) (PX.start s [] true) with ⟨u, st⟩ | ⟨p, x⟩
    · have hP2 : PX.parse s = .ok u st := hP.out.trans hr
      rw [hr] at CPx
      clear hr hP
      refine CPx.mono ?_
      rintro e w5 ⟨F5, h, rfl, P5⟩
      obtain ⟨xc, k0, k1, k2, k3, k4, k5⟩ := P5.cnd
      obtain ⟨xa, xl, xp, hu⟩ := k5.slice
      rw [hu] at k4
      obtain ⟨a2, n2, p2, hvl⟩ : ∃ a n cap, h.vl = .slice a n cap := by
        rcases P5.locs.2 with ⟨e, _⟩ | ⟨g, cap, cur, e, _⟩
        · exact ⟨_, _, _, e⟩
        · exact ⟨_, _, _, e⟩
      obtain ⟨a6, n6, p6, hvi⟩ : ∃ a n cap, h.vi = .slice a n cap := by
        rcases P5.init.2 with ⟨e, _⟩ | ⟨g, cap, cur, e, _⟩
        · exact ⟨_, _, _, e⟩
        · exact ⟨_, _, _, e⟩
      obtain ⟨a7, p7, hvt⟩ := P5.thr.sl
      have hv : progV st h = .agg #[.string st.name, .slice a2 n2 p2, .slice a6 n6 p6, .slice a7 st.threads.length p7, .int .u8 st.ask, .int .u8 xc.k, .int .u8 xc.t, .int .u8 xc.n, .int .u8 xc.v, .slice xa xl xp] := by
        unfold progV; rw [hvl, hvi, hvt, k0, k1, k2, k3, k4]
      have G5 := hF.trans F5
      have r0 := F5.box q0 (show w.heap.size ≠ b by omega) (by simp [T2])
      have r1 := F5.box q1 (show w.heap.size + 1 ≠ b by omega) (by simp [T2])
      have r2 := F5.box q2 (show w.heap.size + 1 + 1 ≠ b by omega) (by simp [T2])
      rw [hv]
      clear k0 k1 k2 k3 k4 k5 hu hvl hvi hvt q0 q1 q2 F5 hF
      have d0 := cell_of_row _ w.heap.size 0 _ _ _ r0
      have d1 := cell_of_row _ w.heap.size 1 _ _ _ r0
      have d2 := cell_of_row _ w.heap.size 2 _ _ _ r0
      have d3 := cell_of_row _ w.heap.size 3 _ _ _ r0
      have d4 := cell_of_row _ w.heap.size 4 _ _ _ r0
      have d5 := cell_of_row _ w.heap.size 5 _ _ _ r0
      have d6 := cell_of_row _ w.heap.size 6 _ _ _ r0
      have d7 := cell_of_row _ w.heap.size 7 _ _ _ r0
      have d8 := cell_of_row _ w.heap.size 8 _ _ _ r0
      have d9 := cell_of_row _ w.heap.size 9 _ _ _ r0
      have d10 := cell_of_row _ (w.heap.size + 1) 0 _ _ _ r1
      have d11 := cell_of_row _ (w.heap.size + 1 + 1) 0 _ _ _ r2
      simp only [List.getElem?_toArray, List.getElem?_cons_zero, List.getElem?_cons_succ] at d0 d1 d2 d3 d4 d5 d6 d7 d8 d9 d10 d11
      have f0 := fun j => frozen_of_row _ w.heap.size j _ _ r0
      have f1 := frozen_of_row _ (w.heap.size + 1) 0 _ _ r1
      have f2 := frozen_of_row _ (w.heap.size + 1 + 1) 0 _ _ r2
      replace r0 := Lib.hid r0
      replace r1 := Lib.hid r1
      replace r2 := Lib.hid r2
      replace P5 := Lib.hid P5
      replace hv := Lib.hid hv
      replace G5 := Lib.hid G5
      go_wp2
      have q0 := setP_row (.string st.name) (.slice a2 n2 p2) (.slice a6 n6 p6) (.slice a7 st.threads.length p7) (.int .u8 st.ask) (.int .u8 xc.k) (.int .u8 xc.t) (.int .u8 xc.n) (.int .u8 xc.v) (.slice xa xl xp) r0.out
      have q1 := setP_keep (.string st.name) (.slice a2 n2 p2) (.slice a6 n6 p6) (.slice a7 st.threads.length p7) (.int .u8 st.ask) (.int .u8 xc.k) (.int .u8 xc.t) (.int .u8 xc.n) (.int .u8 xc.v) (.slice xa xl xp) r1.out (show w.heap.size + 1 ≠ w.heap.size by omega)
      have q2 := setP_keep (.string st.name) (.slice a2 n2 p2) (.slice a6 n6 p6) (.slice a7 st.threads.length p7) (.int .u8 st.ask) (.int .u8 xc.k) (.int .u8 xc.t) (.int .u8 xc.n) (.int .u8 xc.v) (.slice xa xl xp) r2.out (show w.heap.size + 1 + 1 ≠ w.heap.size by omega)
      have hG := setP_fr (.string st.name) (.slice a2 n2 p2) (.slice a6 n6 p6) (.slice a7 st.threads.length p7) (.int .u8 st.ask) (.int .u8 xc.k) (.int .u8 xc.t) (.int .u8 xc.n) (.int .u8 xc.v) (.slice xa xl xp) G5.out (Nat.le_refl w.heap.size)
      have hPk : PgM (setP w5 w.heap.size (.string st.name) (.slice a2 n2 p2) (.slice a6 n6 p6) (.slice a7 st.threads.length p7) (.int .u8 st.ask) (.int .u8 xc.k) (.int .u8 xc.t) (.int .u8 xc.n) (.int .u8 xc.v) (.slice xa xl xp)) b st h := P5.out.keep fun i D t hi ht hh => setP_keep _ _ _ _ _ _ _ _ _ _ hh (by
        rintro rfl
        have := r0.out
        rw [hh] at this
        cases this
        simp at ht)
      have s0 := row_keep (row_keep q0 (show w.heap.size ≠ w.heap.size + 1 by omega) 0 (.int .i64 0)) (show w.heap.size ≠ w.heap.size + 1 + 1 by omega) 0 (.int .i64 0)
      have s1 := row_keep (heap_setCell_same _ (w.heap.size + 1) 0 _ _ (.int .i64 0) q1) (show w.heap.size + 1 ≠ w.heap.size + 1 + 1 by omega) 0 (.int .i64 0)
      have s2 := heap_setCell_same _ (w.heap.size + 1 + 1) 0 _ _ (.int .i64 0) (row_keep q2 (show w.heap.size + 1 + 1 ≠ w.heap.size + 1 by omega) 0 (.int .i64 0))
      simp only [List.setIfInBounds_toArray, List.set_cons_succ, List.set_cons_zero] at s1 s2
      have hPl := PgM.keep (W' := ((setP w5 w.heap.size (.string st.name) (.slice a2 n2 p2) (.slice a6 n6 p6) (.slice a7 st.threads.length p7) (.int .u8 st.ask) (.int .u8 xc.k) (.int .u8 xc.t) (.int .u8 xc.n) (.int .u8 xc.v) (.slice xa xl xp)).setCell ⟨w.heap.size + 1, 0, none⟩ (.int .i64 0)).setCell ⟨w.heap.size + 1 + 1, 0, none⟩ (.int .i64 0)) hPk fun i D t hi ht hh => row_keep (row_keep hh (by
        rintro rfl
        rw [hh] at q1
        cases q1
        simp at ht) 0 _) (by
        rintro rfl
        rw [hh] at q2
        cases q2
        simp at ht) 0 _
      have hH := ((hG.setNew (k := w.heap.size + 1) (by omega) 0 (.int .i64 0)).setNew (k := w.heap.size + 1 + 1) (by omega) 0 (.int .i64 0))
      obtain ⟨Y, hY⟩ : ∃ Y, ((setP w5 w.heap.size (.string st.name) (.slice a2 n2 p2) (.slice a6 n6 p6) (.slice a7 st.threads.length p7) (.int .u8 st.ask) (.int .u8 xc.k) (.int .u8 xc.t) (.int .u8 xc.n) (.int .u8 xc.v) (.slice xa xl xp)).setCell ⟨w.heap.size + 1, 0, none⟩ (.int .i64 0)).setCell ⟨w.heap.size + 1 + 1, 0, none⟩ (.int .i64 0) = Y := ⟨_, rfl⟩
      rw [hY] at s0 s1 s2 hH hPl
      unfold setP at hY
      rw [hY]
      clear hY q0 q1 q2 hG hPk
      exact readProg_done (k := w.heap.size) (cs := #[.string st.name, .slice a2 n2 p2, .slice a6 n6 p6, .slice a7 st.threads.length p7, .int .u8 st.ask, .int .u8 xc.k, .int .u8 xc.t, .int .u8 xc.n, .int .u8 xc.v, .slice xa xl xp]) (p := 0) (x := 0) rfl rfl rfl rfl rfl s0 s1 s2 fun W' B => ⟨hH.trans (.of_below B), by
        rw [hP2]
        exact ⟨h, by rw [hv.out], hPl.below B⟩⟩
    · have hP2 : PX.parse s = .bad p x := hP.out.trans hr
      rw [hr] at CPx
      clear hr hP
      refine CPx.mono ?_
      rintro e w5 ⟨F5, rfl⟩
      have G5 := hF.trans F5
      have r0 := F5.box q0 (show w.heap.size ≠ b by omega) (by simp [T2])
      have r1 := F5.box q1 (show w.heap.size + 1 ≠ b by omega) (by simp [T2])
      have r2 := F5.box q2 (show w.heap.size + 1 + 1 ≠ b by omega) (by simp [T2])
      show bodyPostD _ _ _ _ _ _
      exact readProg_caught (k := w.heap.size) (cs := #[.string ⟨#[]⟩, .slice none 0 0, .slice none 0 0, .slice none 0 0, .int .u8 0, .int .u8 0, .int .u8 0, .int .u8 0, .int .u8 0, .slice none 0 0]) (p := p) (x := x) rfl rfl rfl rfl rfl r0 r1 r2 fun W' hc => ⟨⟨hc.os.trans G5.os, hc.tape.trans G5.tape, hc.output.trans G5.output, Nat.le_trans G5.size hc.size, fun k o ho hkb => by
        have hlt := lt_of_heap ho
        exact hc.block k o (G5.block k o ho hkb) (by omega) (by omega)⟩, by rw [hP2]; rfl⟩
  · have hP : PX.parse s = .bad (pl : Int) (er : Int) := by rw [parse_eq, if_neg (by rw [her]; exact he), hpl, her]
    have t1 : ((er : Int) != 0) = true := by simp; omega
    unfold ReadPost
    rw [hP]
    replace B0 := Lib.hid B0
    replace CL := Lib.hid CL
    replace z0 := Lib.hid z0
    replace z1 := Lib.hid z1
    replace z2 := Lib.hid z2
    clear hP
    go_enter_defers Try.func17, Try.ntmps17
    go_wp2_with (first
      | (go_at_call 15; refine (CL.out).mono ?_; rintro e w1 ⟨v, rfl, hown, B1⟩
         obtain ⟨g, hT, hg, va, vn, vc, rfl⟩ := tkR_own hown (by have := toks_len s; rw [toks_length] at this; exact this) (by have := B1.size; simp at this; omega)
         have y0 := (B1.block _ (lt_of_heap z0.out)).trans z0.out
         have y1 := (B1.block _ (lt_of_heap z1.out)).trans z1.out
         have y2 := (B1.block _ (lt_of_heap z2.out)).trans z2.out
         have c1 := cell_of_row _ _ 0 _ _ _ y1
         have c2 := cell_of_row _ _ 0 _ _ _ y2
         have f1 := frozen_of_row _ _ 0 _ _ y1
         have f2 := frozen_of_row _ _ 0 _ _ y2
         simp only [List.getElem?_toArray, List.getElem?_cons_zero, List.getElem?_cons_succ] at c1 c2
         clear hown hT))
    have r0 := row_keep (row_keep y0 (show w.heap.size ≠ w.heap.size + 1 by omega) 0 (.int .i64 (pl : Int))) (show w.heap.size ≠ w.heap.size + 1 + 1 by omega) 0 (.int .i64 (er : Int))
    have r1 := row_keep (heap_setCell_same _ (w.heap.size + 1) 0 _ _ (.int .i64 (pl : Int)) y1) (show w.heap.size + 1 ≠ w.heap.size + 1 + 1 by omega) 0 (.int .i64 (er : Int))
    have r2 := heap_setCell_same _ (w.heap.size + 1 + 1) 0 _ _ (.int .i64 (er : Int)) (row_keep y2 (show w.heap.size + 1 + 1 ≠ w.heap.size + 1 by omega) 0 (.int .i64 (pl : Int)))
    simp only [List.setIfInBounds_toArray, List.set_cons_succ, List.set_cons_zero] at r1 r2
    have hF : Fr T2 b w ((w1.setCell ⟨w.heap.size + 1, 0, none⟩ (.int .i64 (pl : Int))).setCell ⟨w.heap.size + 1 + 1, 0, none⟩ (.int .i64 (er : Int))) := (((Fr.of_below (B0.out.trans (B1.mono B0.out.size))).setNew (by omega) 0 _).setNew (by omega) 0 _)
    clear y0 y1 y2 c1 c2 f1 f2
    generalize (w1.setCell ⟨w.heap.size + 1, 0, none⟩ (.int .i64 (pl : Int))).setCell ⟨w.heap.size + 1 + 1, 0, none⟩ (.int .i64 (er : Int)) = W at *
    have d0 := cell_of_row _ w.heap.size 0 _ _ _ r0
    have d1 := cell_of_row _ w.heap.size 1 _ _ _ r0
    have d2 := cell_of_row _ w.heap.size 2 _ _ _ r0
    have d3 := cell_of_row _ w.heap.size 3 _ _ _ r0
    have d4 := cell_of_row _ w.heap.size 4 _ _ _ r0
    have d5 := cell_of_row _ w.heap.size 5 _ _ _ r0
    have d6 := cell_of_row _ w.heap.size 6 _ _ _ r0
    have d7 := cell_of_row _ w.heap.size 7 _ _ _ r0
    have d8 := cell_of_row _ w.heap.size 8 _ _ _ r0
    have d9 := cell_of_row _ w.heap.size 9 _ _ _ r0
    have d10 := cell_of_row _ (w.heap.size + 1) 0 _ _ _ r1
    have d11 := cell_of_row _ (w.heap.size + 1 + 1) 0 _ _ _ r2
    simp only [List.getElem?_toArray, List.getElem?_cons_zero, List.getElem?_cons_succ] at d0 d1 d2 d3 d4 d5 d6 d7 d8 d9 d10 d11
    have f0 := fun j => frozen_of_row _ w.heap.size j _ _ r0
    have f1 := frozen_of_row _ (w.heap.size + 1) 0 _ _ r1
    have f2 := frozen_of_row _ (w.heap.size + 1 + 1) 0 _ _ r2
    go_region
    have q0 := setP_row (.string ⟨#[]⟩) (.slice none 0 0) (.slice none 0 0) (.slice none 0 0) (.int .u8 0) (.int .u8 0) (.int .u8 0) (.int .u8 0) (.int .u8 0) (.slice none 0 0) r0
    have q1 := setP_keep (.string ⟨#[]⟩) (.slice none 0 0) (.slice none 0 0) (.slice none 0 0) (.int .u8 0) (.int .u8 0) (.int .u8 0) (.int .u8 0) (.int .u8 0) (.slice none 0 0) r1 (show w.heap.size + 1 ≠ w.heap.size by omega)
    have q2 := setP_keep (.string ⟨#[]⟩) (.slice none 0 0) (.slice none 0 0) (.slice none 0 0) (.int .u8 0) (.int .u8 0) (.int .u8 0) (.int .u8 0) (.int .u8 0) (.slice none 0 0) r2 (show w.heap.size + 1 + 1 ≠ w.heap.size by omega)
    have hG := setP_fr (.string ⟨#[]⟩) (.slice none 0 0) (.slice none 0 0) (.slice none 0 0) (.int .u8 0) (.int .u8 0) (.int .u8 0) (.int .u8 0) (.int .u8 0) (.slice none 0 0) hF (Nat.le_refl w.heap.size)
    unfold setP at q0 q1 q2 hG
    have s0 := row_keep (row_keep q0 (show w.heap.size ≠ w.heap.size + 1 by omega) 0 (.int .i64 (pl : Int))) (show w.heap.size ≠ w.heap.size + 1 + 1 by omega) 0 (.int .i64 (er : Int))
    have s1 := row_keep (heap_setCell_same _ (w.heap.size + 1) 0 _ _ (.int .i64 (pl : Int)) q1) (show w.heap.size + 1 ≠ w.heap.size + 1 + 1 by omega) 0 (.int .i64 (er : Int))
    have s2 := heap_setCell_same _ (w.heap.size + 1 + 1) 0 _ _ (.int .i64 (er : Int)) (row_keep q2 (show w.heap.size + 1 + 1 ≠ w.heap.size + 1 by omega) 0 (.int .i64 (pl : Int)))
    simp only [List.setIfInBounds_toArray, List.set_cons_succ, List.set_cons_zero] at s1 s2
    obtain ⟨Y, hY⟩ : ∃ Y, ((setP W w.heap.size (.string ⟨#[]⟩) (.slice none 0 0) (.slice none 0 0) (.slice none 0 0) (.int .u8 0) (.int .u8 0) (.int .u8 0) (.int .u8 0) (.int .u8 0) (.slice none 0 0)).setCell ⟨w.heap.size + 1, 0, none⟩ (.int .i64 (pl : Int))).setCell ⟨w.heap.size + 1 + 1, 0, none⟩ (.int .i64 (er : Int)) = Y := ⟨_, rfl⟩
    unfold setP at hY
    have hH := ((hG.setNew (k := w.heap.size + 1) (by omega) 0 (.int .i64 (pl : Int))).setNew (k := w.heap.size + 1 + 1) (by omega) 0 (.int .i64 (er : Int)))
    rw [hY] at s0 s1 s2 hH ⊢
    clear hY
    replace hH := hH.trans (Fr.of_below (drewB1 Y))
    replace hH := Lib.hid hH
    replace s0 := Lib.hid s0
    replace s1 := Lib.hid s1
    replace s2 := Lib.hid s2
    clear q0 q1 q2 hG r0 r1 r2 hF
    go_wp2
    exact readProg_door (k := w.heap.size) (cs := #[.string ⟨#[]⟩, .slice none 0 0, .slice none 0 0, .slice none 0 0, .int .u8 0, .int .u8 0, .int .u8 0, .int .u8 0, .int .u8 0, .slice none 0 0]) (p := (pl : Int)) (x := (er : Int)) rfl rfl rfl rfl rfl s0.out s1.out s2.out ⟨hH.out, rfl⟩
end PP
end Go.Proofs.Ytglbmiadgdadfaa
end
