/- ParLast, ParLine7, ParInv, ParProg in one text, for the claim. -/
import Derived.Test.YtglbmiadgdadfaaPj6
import Derived.Test.YtglbmiadgdadfaaPj4
import Derived.Test.YtglbmiadgdadfaaPj5

section
/- The parser's last condition. -/
namespace Go.Proofs.Ytglbmiadgdadfaa
open Go.RowKit Go.Shelf

attribute [local go_sem] Oper.semAt_some
namespace PP
set_option maxRecDepth 100000 in
set_option maxHeartbeats 16000000 in
theorem lastCond_any (b : Nat) (at_ : Int) (s : PX.S) (h : Hd) (w : World) (L : LS w b s h) (hlen : s.rest.length < 100000) :
    Calls Try.prog 20 #[.pointer (some ⟨b, 0, none⟩), .int .i64 at_] w (Ends2 w b h (PX.lastCond at_ s)) := by
  have hbl := L.ps.lt
  have hgl := L.ps.g_lt
  have U0 := (Tr.start L).alloc (.cells #[.int .u8 0, .int .u8 0, .int .u8 0, .int .u8 0, .slice none 0 0] 24)
  have z0 := newCond w
  have C1 := Lib.hid (disj_any b (s.rest.length + 1) (by omega) s h _ (by omega) U0.ls)
  have C2 := Lib.hid fun s g W (p : PS W b s g) => takeLast_any b s g W p
  have C3 := Lib.hid fun (c : PX.CondD) (x : CV) (W : World) (hc : CondR W x c) (hd : PX.deep c ≤ 2 * (s.rest.length + 1) + 2) => deep_any _ c x W hd (by omega) hc
  have C4 := Lib.hid fun W => fail_any at_ 5 W
  have hdp := PX.deep_disj (s.rest.length + 1) s
  obtain ⟨R, e0⟩ : ∃ R, PX.lastCond at_ s = R := ⟨_, rfl⟩
  rw [e0]
  replace e0 := Lib.hid e0
  replace hdp := Lib.hid hdp
  replace U0 := Lib.hid U0
  replace z0 := Lib.hid z0
  go_enter Try.func20, Try.ntmps20
  go_wp2_with (first
    | (go_at_call 26; refine call2 C1.out (fun c x s1 w1 vl vi hx1 F1 M1 L1 => ?_) (fun pl er w1 hx F => ⟨rfl, Ends2.bad (U0.out.fr.trans F) (by rw [← e0.out]; unfold PX.lastCond; rw [hx]; rfl)⟩)
       obtain ⟨xa, xl, xc, hu⟩ := M1.slice
       obtain ⟨xk, xt, xn, xv, xu⟩ := x
       obtain rfl : xu = .slice xa xl xc := hu
       dsimp only [condV]
       have hdc := hdp.out _ _ hx1
       have U1 := (U0.out.step1 F1 L1).alloc (.cells (condC ⟨xk, xt, xn, xv, .slice xa xl xc⟩) 24)
       have q1 := F1.box z0.out (by omega) condT1
       have hs1 := lt_of_heap q1
       have hs0 := lt_of_heap z0.out
       have x1 := Lib.hid (heap_alloc_new w1 (.cells (condC ⟨xk, xt, xn, xv, .slice xa xl xc⟩) 24))
       have z1 := Lib.hid (row_alloc q1 (.cells (condC ⟨xk, xt, xn, xv, .slice xa xl xc⟩) 24))
       have c2 := C2.out _ _ _ U1.ls.ps
       unfold condC at c2
       replace c2 := Lib.hid c2
       replace U1 := Lib.hid U1
       replace M1 := Lib.hid M1
       replace hdc := Lib.hid hdc)
    | (go_at_call 27; refine call0 c2.out (fun u s2 w2 hx2 F2 P2 => ?_) (fun pl er w2 hx F => ⟨rfl, Ends2.bad (U1.out.fr.trans F.up) (by rw [← e0.out]; unfold PX.lastCond; rw [hx1]; simp only [PX.R.bind, hx])⟩)
       dsimp only
       have U2 := U1.out.step0 F2 (mv_takeLast hx2) P2
       have x2 := F2.box x1.out (by omega) (by simp)
       have z2 := F2.box z1.out (by omega) (by simp)
       have M2 := CondM.mono (W' := w2) (Q' := fun g => (w.alloc (.cells #[.int .u8 0, .int .u8 0, .int .u8 0, .int .u8 0, .slice none 0 0] 24)).heap.size ≤ g) (fun g C hq hh => F2.box (row_alloc hh _) (by have : (w.alloc (.cells #[.int .u8 0, .int .u8 0, .int .u8 0, .int .u8 0, .slice none 0 0] 24)).heap.size ≤ g := hq; simp only [World.size_alloc] at this; omega) (by simp)) (fun g hq => hq) c _ M1.out
       have c3 := C3.out c _ w2 (CondM.toR c _ M2) hdc.out
       unfold condV at c3
       replace c3 := Lib.hid c3
       obtain ⟨y0, y1, y2, y3, y4⟩ := row_cond x2
       have X2 := Lib.hid x2
       have Z2 := Lib.hid z2
       clear z2 x2
       replace U2 := Lib.hid U2
       replace M2 := Lib.hid M2)
    | (go_at_call 7; refine (c3.out).mono ?_; rintro e w3 ⟨rfl, B3⟩
       have U3 := U2.out.below B3
       have x3 := (B3.block _ (lt_of_heap X2.out)).trans X2.out
       have z3 := (B3.block _ (lt_of_heap Z2.out)).trans Z2.out
       obtain ⟨v0, v1, v2, v3, v4⟩ := row_cond x3
       obtain ⟨u0, u1, u2, u3, u4⟩ := row_cond z3
       have fz := fun j => frozen_of_row _ _ j _ _ z3
       have V3 := Lib.hid z3
       clear z3 x3
       replace U3 := Lib.hid U3)
    | (go_at_call 28; refine (C4.out _).mono ?_; rintro e w4 ⟨rfl, rfl⟩))
  · refine ⟨rfl, ?_⟩
    first
      | (rename_i hh; rw [← hh])
      | (rename_i hh _; rw [← hh])
      | (rename_i hh _ _; rw [← hh])
    refine Ends2.bad U3.out.fr ?_
    rw [← e0.out]; unfold PX.lastCond; rw [hx1]; simp only [PX.R.bind, hx2]
    rw [if_pos (by omega)]
  · have Z := setCond_row ⟨xk, xt, xn, xv, .slice xa xl xc⟩ V3.out
    have hM : CondM (setCond w3 w.heap.size ⟨xk, xt, xn, xv, .slice xa xl xc⟩) (fun i => w.heap.size ≤ i) ⟨xk, xt, xn, xv, .slice xa xl xc⟩ c := by
      refine CondM.mono (fun g C hq hh => ?_) (fun g hq => ?_) c _ M2.out
      · have hq' : (w.alloc (.cells #[.int .u8 0, .int .u8 0, .int .u8 0, .int .u8 0, .slice none 0 0] 24)).heap.size ≤ g := hq
        rw [World.size_alloc] at hq'
        exact setCond_keep ((B3.block g (lt_of_heap hh)).trans hh) (by omega)
      · have hq' : (w.alloc (.cells #[.int .u8 0, .int .u8 0, .int .u8 0, .int .u8 0, .slice none 0 0] 24)).heap.size ≤ g := hq
        rw [World.size_alloc] at hq'
        show w.heap.size ≤ g
        omega
    have hT := Tr.cond (c := c) (r := R) (U3.out.setCond (Nat.le_refl _) hbl hgl ⟨xk, xt, xn, xv, .slice xa xl xc⟩ V3.out) (by
      rw [← e0.out]; unfold PX.lastCond; rw [hx1]; simp only [PX.R.bind, hx2]
      rw [if_neg (by omega)]) hM
    refine bodyPost_ret (v := condV ⟨xk, xt, xn, xv, .slice xa xl xc⟩) ?_ rfl hT
    exact cond_results (p := 4) rfl _ _ w.heap.size ⟨xk, xt, xn, xv, .slice xa xl xc⟩ rfl Z

set_option maxRecDepth 100000 in
set_option maxHeartbeats 16000000 in
theorem onlyCond_any (b : Nat) (s : PX.S) (h : Hd) (w : World) (L : LS w b s h) (hlen : s.rest.length < 100000) :
    Calls Try.prog 14 #[.pointer (some ⟨b, 0, none⟩)] w (Ends2 w b h (PX.onlyCond s)) := by
  have hbl := L.ps.lt
  have hgl := L.ps.g_lt
  have U0 := (Tr.start L).alloc (.cells #[.int .u8 0, .int .u8 0, .int .u8 0, .int .u8 0, .slice none 0 0] 24)
  have z0 := newCond w
  have C1 := Lib.hid (next_any b s h _ U0.ls.ps)
  have C2 := Lib.hid fun W (L' : LS W b s h) => lastCond_any b (PX.next s).p s h W L' hlen
  obtain ⟨R, e0⟩ : ∃ R, PX.lastCond (PX.next s).p s = R := ⟨_, rfl⟩
  have e1 : PX.onlyCond s = R := e0
  rw [e1]
  rw [e0] at C2
  clear e0 e1
  replace U0 := Lib.hid U0
  replace z0 := Lib.hid z0
  have hf2 := tok_f2
  generalize PX.next s = tk at *
  go_enter Try.func14, Try.ntmps14
  go_wp2_with (first
    | (go_at_call 21; refine (C1.out).mono ?_; rintro e w1 ⟨rfl, B1⟩; dsimp only [tokV]
       have U1 := U0.out.below B1
       have z1 := (B1.block _ (lt_of_heap z0.out)).trans z0.out)
    | (go_at_call 20; refine call2 (C2.out _ U1.ls) (fun c x s5 w5 vl vi hx5 F5 M5 L5 => ?_) (fun pl er w5 hx F => ⟨rfl, Ends2.bad (U1.fr.trans F) hx⟩)
       obtain ⟨xa, xl, xc, hu⟩ := M5.slice
       obtain ⟨xk, xt, xn, xv, xu⟩ := x
       obtain rfl : xu = .slice xa xl xc := hu
       dsimp only [condV]
       have U5 := U1.step1 F5 L5
       have z5 := F5.box z1 (by omega) condT1
       have hs0 := lt_of_heap z1
       obtain ⟨v0, v1, v2, v3, v4⟩ := row_cond z5
       have fv := fun j => frozen_of_row _ _ j _ _ z5
       have V5 := Lib.hid z5
       replace U5 := Lib.hid U5
       replace M5 := Lib.hid M5))
  have Z := setCond_row ⟨xk, xt, xn, xv, .slice xa xl xc⟩ V5.out
  have hM : CondM (setCond w5 w.heap.size ⟨xk, xt, xn, xv, .slice xa xl xc⟩) (fun i => w.heap.size ≤ i) ⟨xk, xt, xn, xv, .slice xa xl xc⟩ c := by
    refine CondM.mono (W := w5) (Q := fun i => w1.heap.size ≤ i) (fun g C hq hh => ?_) (fun g hq => ?_) c _ M5.out
    · exact setCond_keep hh (Nat.ne_of_gt (Nat.lt_of_lt_of_le hs0 hq))
    · exact Nat.le_trans (Nat.le_of_lt hs0) hq
  have hT := Tr.cond (c := c) (r := R) (U5.out.setCond (Nat.le_refl _) hbl hgl ⟨xk, xt, xn, xv, .slice xa xl xc⟩ V5.out) hx5 hM
  refine bodyPost_ret (v := condV ⟨xk, xt, xn, xv, .slice xa xl xc⟩) ?_ rfl hT
  exact cond_results (p := 2) rfl _ _ w.heap.size ⟨xk, xt, xn, xv, .slice xa xl xc⟩ rfl Z
end PP
end Go.Proofs.Ytglbmiadgdadfaa
end

section
/- The parser's lines: the query. -/
namespace Go.Proofs.Ytglbmiadgdadfaa
open Go.RowKit Go.Shelf

attribute [local go_sem] Oper.semAt_some
namespace PP
theorem psC_9 (vr : Value) (s : PX.S) (h : Hd) (v : Value) : (psC vr s h).setIfInBounds 9 v = psC vr s { h with c0 := v } := by
  unfold psC; simp only [List.setIfInBounds_toArray, List.set_cons_succ, List.set_cons_zero]
theorem psC_10 (vr : Value) (s : PX.S) (h : Hd) (v : Value) : (psC vr s h).setIfInBounds 10 v = psC vr s { h with c1 := v } := by
  unfold psC; simp only [List.setIfInBounds_toArray, List.set_cons_succ, List.set_cons_zero]
theorem psC_11 (vr : Value) (s : PX.S) (h : Hd) (v : Value) : (psC vr s h).setIfInBounds 11 v = psC vr s { h with c2 := v } := by
  unfold psC; simp only [List.setIfInBounds_toArray, List.set_cons_succ, List.set_cons_zero]
theorem psC_12 (vr : Value) (s : PX.S) (h : Hd) (v : Value) : (psC vr s h).setIfInBounds 12 v = psC vr s { h with c3 := v } := by
  unfold psC; simp only [List.setIfInBounds_toArray, List.set_cons_succ, List.set_cons_zero]
theorem psC_13 (vr : Value) (s : PX.S) (h : Hd) (v : Value) : (psC vr s h).setIfInBounds 13 v = psC vr s { h with c4 := v } := by
  unfold psC; simp only [List.setIfInBounds_toArray, List.set_cons_succ, List.set_cons_zero]
/-- The parser's condition is written. -/
theorem LT.newCond {W : World} {b : Nat} {s : PX.S} {g : Hd} (L : LT W b s g) (x : CV) (c : PX.CondD) (M : CondM W (fun i => b < i) x c) :
    LT (((((W.setCell ⟨b, 9, none⟩ (.int .u8 x.k)).setCell ⟨b, 10, none⟩ (.int .u8 x.t)).setCell ⟨b, 11, none⟩ (.int .u8 x.n)).setCell ⟨b, 12, none⟩ (.int .u8 x.v)).setCell ⟨b, 13, none⟩ x.u) b { s with cond := c } { g with c0 := .int .u8 x.k, c1 := .int .u8 x.t, c2 := .int .u8 x.n, c3 := .int .u8 x.v, c4 := x.u } := by
  have h1 := L.ls.row (s' := s) (h' := { g with c0 := .int .u8 x.k }) 9 (.int .u8 x.k) rfl rfl (fun vr => psC_9 vr s g _) rfl rfl rfl rfl rfl
  have h2 := h1.row (s' := s) (h' := { g with c0 := .int .u8 x.k, c1 := .int .u8 x.t }) 10 (.int .u8 x.t) rfl rfl (fun vr => psC_10 vr s _ _) rfl rfl rfl rfl rfl
  have h3 := h2.row (s' := s) (h' := { g with c0 := .int .u8 x.k, c1 := .int .u8 x.t, c2 := .int .u8 x.n }) 11 (.int .u8 x.n) rfl rfl (fun vr => psC_11 vr s _ _) rfl rfl rfl rfl rfl
  have h4 := h3.row (s' := s) (h' := { g with c0 := .int .u8 x.k, c1 := .int .u8 x.t, c2 := .int .u8 x.n, c3 := .int .u8 x.v }) 12 (.int .u8 x.v) rfl rfl (fun vr => psC_12 vr s _ _) rfl rfl rfl rfl rfl
  have h5 := h4.row (s' := { s with cond := c }) (h' := { g with c0 := .int .u8 x.k, c1 := .int .u8 x.t, c2 := .int .u8 x.n, c3 := .int .u8 x.v, c4 := x.u }) 13 x.u rfl rfl (fun vr => psC_13 vr s _ _) rfl rfl rfl rfl rfl
  have keep : ∀ (i : Nat) (o : Obj), i ≠ b → W.heap[i]? = some o → (((((W.setCell ⟨b, 9, none⟩ (.int .u8 x.k)).setCell ⟨b, 10, none⟩ (.int .u8 x.t)).setCell ⟨b, 11, none⟩ (.int .u8 x.n)).setCell ⟨b, 12, none⟩ (.int .u8 x.v)).setCell ⟨b, 13, none⟩ x.u).heap[i]? = some o := fun i o hi hh =>
    row_keep (row_keep (row_keep (row_keep (row_keep hh hi 9 _) hi 10 _) hi 11 _) hi 12 _) hi 13 _
  exact ⟨h5, L.opn, L.thr.keep fun i cur t _ hi hh => keep i _ (by omega) hh, x, rfl, rfl, rfl, rfl, rfl, CondM.mono (fun i C hi hh => keep i _ (Nat.ne_of_gt hi) hh) (fun _ hi => hi) _ _ M⟩
theorem ask_lit (x : ByteArray) : PX.askOf x = if x.toList == [115, 111, 109, 101] then 1 else if x.toList == [110, 111, 110, 101] then 2 else if x.toList == [97, 108, 108] then 3 else 0 := by
  unfold PX.askOf PX.kSome PX.kNone PX.kAll
  simp only [beq_lit]

set_option maxRecDepth 100000 in
set_option maxHeartbeats 16000000 in
theorem queryLine_any (b : Nat) (s : PX.S) (h : Hd) (w : World) (L : LT w b s h) (hlen : s.rest.length < 100000) :
    Calls Try.prog 38 #[.pointer (some ⟨b, 0, none⟩)] w (EndsP w b h (PX.queryLine s)) := by
  have hbl := L.ls.ps.lt
  have U0 := (TP.start L).alloc (.cells #[.string ⟨#[115, 111, 109, 101]⟩, .string ⟨#[110, 111, 110, 101]⟩, .string ⟨#[97, 108, 108]⟩] 9)
  have C1 := take_any b s h _ [PX.kSome, PX.kNone, PX.kAll] _ U0.lt.ls.ps (strSl_three _ _ _ _) (symsOk_three (x := [115, 111, 109, 101]) (y := [110, 111, 110, 101]) (z := [97, 108, 108]) (by decide) (by decide) (by decide))
  obtain ⟨R, hR⟩ : ∃ R, PX.queryLine s = R := ⟨_, rfl⟩
  rw [hR]
  rcases ht : PX.take [PX.kSome, PX.kNone, PX.kAll] s with ⟨t, s1⟩ | ⟨pl, er⟩
  · have m1 := mv_take ht
    have hl1 : s1.rest.length < 100000 := by
      have := PX.keep_take (PX.len_stb s.rest.length) _ s (Nat.le_refl _) _ _ ht
      omega
    rw [ht] at C1
    have CL := Lib.hid fun s g W (L' : LS W b s g) (hl : s.rest.length < 100000) => lastCond_any b t.p s g W L' hl
    have ha := ask_lit t.x
    replace C1 := Lib.hid C1
    replace U0 := Lib.hid U0
    replace m1 := Lib.hid m1
    by_cases y1 : (t.x.toList == [115, 111, 109, 101]) = true
    · have hask : (if PX.askOf t.x = 0 then s1.ask else PX.askOf t.x) = 1 := by rw [ha]; simp [y1]
      have e0 : Hid (R = (PX.lastCond t.p { s1 with ask := 1 }).bind fun c s => .ok () { s with cond := c, done := 4 }) := Lib.hid (by
        rw [← hR]; unfold PX.queryLine; rw [ht]; simp only [PX.R.bind]; rw [hask])
      clear hR ht ha hask
      go_enter Try.func38, Try.ntmps38
      go_wp2_with (first
        | (go_at_call 41; refine (C1.out).mono ?_; rintro e w1 ⟨F1, rfl, P1⟩; dsimp only [tokV]
           have U1 := (U0.out.step0 F1 m1.out P1).alloc (.cells #[.int .u8 t.k, .string t.x, .int .i64 t.p] 61)
           have hz := heap_alloc_new w1 (.cells #[.int .u8 t.k, .string t.x, .int .i64 t.p] 61)
           have hz1 := cell_of_row _ _ 1 _ _ _ hz
           have hb1 : b < w1.heap.size := P1.lt
           simp only [List.getElem?_toArray, List.getElem?_cons_zero, List.getElem?_cons_succ] at hz1
           obtain ⟨vr1, d8, f8⟩ := U1.lt.ls.ps.cellAt 8
           unfold psC at d8
           simp only [List.getElem?_toArray, List.getElem?_cons_zero, List.getElem?_cons_succ] at d8
           have hy := heap_alloc_new (w1.setCell ⟨b, 8, none⟩ (.int .u8 1)) (.cells #[.int .u8 t.k, .string t.x, .int .i64 t.p] 61)
           have hz2 := cell_of_row _ _ 2 _ _ _ hy
           have hz3 := cell_of_row _ _ 2 _ _ _ hz
           simp only [List.getElem?_toArray, List.getElem?_cons_zero, List.getElem?_cons_succ, World.size_setCell] at hz2 hz3
           have U2 := Lib.hid (((U0.out.step0 F1 m1.out P1).setAsk 1).alloc (.cells #[.int .u8 t.k, .string t.x, .int .i64 t.p] 61))
           clear hy
           clear hz)
        | (go_at_call 20; refine call2 (CL.out _ _ _ U2.out.lt.ls hl1) (fun c x s5 w5 vl vi hx5 F5 M5 L5 => ?_) (fun pl er w5 hx F => ⟨rfl, EndsP.bad (U2.out.fr.trans (F.mono T1_T2)) (by rw [e0.out, hx]; rfl)⟩)
           obtain ⟨xa, xl, xc, hu⟩ := M5.slice
           obtain ⟨xk, xt, xn, xv, xu⟩ := x
           obtain rfl : xu = .slice xa xl xc := hu
           dsimp only [condV]
           have hlv := PX.keep_lastCond (PX.lv_stb _) _ _ (PX.Lv.refl _) _ _ hx5
           have U5 := U2.out.step1 F5 hlv L5
           obtain ⟨vr5, h5, -⟩ := id U5.lt.ls.ps
           have g9 := cell_of_row _ b 9 _ _ _ h5
           have g10 := cell_of_row _ b 10 _ _ _ h5
           have g11 := cell_of_row _ b 11 _ _ _ h5
           have g12 := cell_of_row _ b 12 _ _ _ h5
           have g13 := cell_of_row _ b 13 _ _ _ h5
           have g14 := cell_of_row _ b 14 _ _ _ h5
           unfold psC at g9 g10 g11 g12 g13 g14
           simp only [List.getElem?_toArray, List.getElem?_cons_zero, List.getElem?_cons_succ] at g9 g10 g11 g12 g13 g14
           have fb := fun j => frozen_of_row _ b j _ _ h5
           have M6 : CondM w5 (fun i => b < i) ⟨xk, xt, xn, xv, .slice xa xl xc⟩ c := CondM.mono (fun _ _ _ hh => hh) (fun i hi => Nat.lt_of_lt_of_le hb1 (Nat.le_trans (by simp) hi)) _ _ M5
           have L6 := U5.lt.newCond ⟨xk, xt, xn, xv, .slice xa xl xc⟩ c M6
           have U6 : TP w b h _ _ _ := ⟨((((U5.fr.setB 9 (.int .u8 xk)).setB 10 (.int .u8 xt)).setB 11 (.int .u8 xn)).setB 12 (.int .u8 xv)).setB 13 (.slice xa xl xc), L6, U5.hg⟩
           replace U6 := Lib.hid U6
           clear h5 M6 L6 U5 M5 L5))
      go_end0
      exact (U6.out.setDone 4).ok (by rw [e0.out, hx5]; rfl)
    by_cases y2 : (t.x.toList == [110, 111, 110, 101]) = true
    · have hask : (if PX.askOf t.x = 0 then s1.ask else PX.askOf t.x) = 2 := by rw [ha]; simp [y1, y2]
      have e0 : Hid (R = (PX.lastCond t.p { s1 with ask := 2 }).bind fun c s => .ok () { s with cond := c, done := 4 }) := Lib.hid (by
        rw [← hR]; unfold PX.queryLine; rw [ht]; simp only [PX.R.bind]; rw [hask])
      clear hR ht ha hask
      go_enter Try.func38, Try.ntmps38
      go_wp2_with (first
        | (go_at_call 41; refine (C1.out).mono ?_; rintro e w1 ⟨F1, rfl, P1⟩; dsimp only [tokV]
           have U1 := (U0.out.step0 F1 m1.out P1).alloc (.cells #[.int .u8 t.k, .string t.x, .int .i64 t.p] 61)
           have hz := heap_alloc_new w1 (.cells #[.int .u8 t.k, .string t.x, .int .i64 t.p] 61)
           have hz1 := cell_of_row _ _ 1 _ _ _ hz
           have hb1 : b < w1.heap.size := P1.lt
           simp only [List.getElem?_toArray, List.getElem?_cons_zero, List.getElem?_cons_succ] at hz1
           obtain ⟨vr1, d8, f8⟩ := U1.lt.ls.ps.cellAt 8
           unfold psC at d8
           simp only [List.getElem?_toArray, List.getElem?_cons_zero, List.getElem?_cons_succ] at d8
           have hy := heap_alloc_new (w1.setCell ⟨b, 8, none⟩ (.int .u8 2)) (.cells #[.int .u8 t.k, .string t.x, .int .i64 t.p] 61)
           have hz2 := cell_of_row _ _ 2 _ _ _ hy
           have hz3 := cell_of_row _ _ 2 _ _ _ hz
           simp only [List.getElem?_toArray, List.getElem?_cons_zero, List.getElem?_cons_succ, World.size_setCell] at hz2 hz3
           have U2 := Lib.hid (((U0.out.step0 F1 m1.out P1).setAsk 2).alloc (.cells #[.int .u8 t.k, .string t.x, .int .i64 t.p] 61))
           clear hy
           clear hz)
        | (go_at_call 20; refine call2 (CL.out _ _ _ U2.out.lt.ls hl1) (fun c x s5 w5 vl vi hx5 F5 M5 L5 => ?_) (fun pl er w5 hx F => ⟨rfl, EndsP.bad (U2.out.fr.trans (F.mono T1_T2)) (by rw [e0.out, hx]; rfl)⟩)
           obtain ⟨xa, xl, xc, hu⟩ := M5.slice
           obtain ⟨xk, xt, xn, xv, xu⟩ := x
           obtain rfl : xu = .slice xa xl xc := hu
           dsimp only [condV]
           have hlv := PX.keep_lastCond (PX.lv_stb _) _ _ (PX.Lv.refl _) _ _ hx5
           have U5 := U2.out.step1 F5 hlv L5
           obtain ⟨vr5, h5, -⟩ := id U5.lt.ls.ps
           have g9 := cell_of_row _ b 9 _ _ _ h5
           have g10 := cell_of_row _ b 10 _ _ _ h5
           have g11 := cell_of_row _ b 11 _ _ _ h5
           have g12 := cell_of_row _ b 12 _ _ _ h5
           have g13 := cell_of_row _ b 13 _ _ _ h5
           have g14 := cell_of_row _ b 14 _ _ _ h5
           unfold psC at g9 g10 g11 g12 g13 g14
           simp only [List.getElem?_toArray, List.getElem?_cons_zero, List.getElem?_cons_succ] at g9 g10 g11 g12 g13 g14
           have fb := fun j => frozen_of_row _ b j _ _ h5
           have M6 : CondM w5 (fun i => b < i) ⟨xk, xt, xn, xv, .slice xa xl xc⟩ c := CondM.mono (fun _ _ _ hh => hh) (fun i hi => Nat.lt_of_lt_of_le hb1 (Nat.le_trans (by simp) hi)) _ _ M5
           have L6 := U5.lt.newCond ⟨xk, xt, xn, xv, .slice xa xl xc⟩ c M6
           have U6 : TP w b h _ _ _ := ⟨((((U5.fr.setB 9 (.int .u8 xk)).setB 10 (.int .u8 xt)).setB 11 (.int .u8 xn)).setB 12 (.int .u8 xv)).setB 13 (.slice xa xl xc), L6, U5.hg⟩
           replace U6 := Lib.hid U6
           clear h5 M6 L6 U5 M5 L5))
      go_end0
      exact (U6.out.setDone 4).ok (by rw [e0.out, hx5]; rfl)
    by_cases y3 : (t.x.toList == [97, 108, 108]) = true
    · have hask : (if PX.askOf t.x = 0 then s1.ask else PX.askOf t.x) = 3 := by rw [ha]; simp [y1, y2, y3]
      have e0 : Hid (R = (PX.lastCond t.p { s1 with ask := 3 }).bind fun c s => .ok () { s with cond := c, done := 4 }) := Lib.hid (by
        rw [← hR]; unfold PX.queryLine; rw [ht]; simp only [PX.R.bind]; rw [hask])
      clear hR ht ha hask
      go_enter Try.func38, Try.ntmps38
      go_wp2_with (first
        | (go_at_call 41; refine (C1.out).mono ?_; rintro e w1 ⟨F1, rfl, P1⟩; dsimp only [tokV]
           have U1 := (U0.out.step0 F1 m1.out P1).alloc (.cells #[.int .u8 t.k, .string t.x, .int .i64 t.p] 61)
           have hz := heap_alloc_new w1 (.cells #[.int .u8 t.k, .string t.x, .int .i64 t.p] 61)
           have hz1 := cell_of_row _ _ 1 _ _ _ hz
           have hb1 : b < w1.heap.size := P1.lt
           simp only [List.getElem?_toArray, List.getElem?_cons_zero, List.getElem?_cons_succ] at hz1
           obtain ⟨vr1, d8, f8⟩ := U1.lt.ls.ps.cellAt 8
           unfold psC at d8
           simp only [List.getElem?_toArray, List.getElem?_cons_zero, List.getElem?_cons_succ] at d8
           have hy := heap_alloc_new (w1.setCell ⟨b, 8, none⟩ (.int .u8 3)) (.cells #[.int .u8 t.k, .string t.x, .int .i64 t.p] 61)
           have hz2 := cell_of_row _ _ 2 _ _ _ hy
           have hz3 := cell_of_row _ _ 2 _ _ _ hz
           simp only [List.getElem?_toArray, List.getElem?_cons_zero, List.getElem?_cons_succ, World.size_setCell] at hz2 hz3
           have U2 := Lib.hid (((U0.out.step0 F1 m1.out P1).setAsk 3).alloc (.cells #[.int .u8 t.k, .string t.x, .int .i64 t.p] 61))
           clear hy
           clear hz)
        | (go_at_call 20; refine call2 (CL.out _ _ _ U2.out.lt.ls hl1) (fun c x s5 w5 vl vi hx5 F5 M5 L5 => ?_) (fun pl er w5 hx F => ⟨rfl, EndsP.bad (U2.out.fr.trans (F.mono T1_T2)) (by rw [e0.out, hx]; rfl)⟩)
           obtain ⟨xa, xl, xc, hu⟩ := M5.slice
           obtain ⟨xk, xt, xn, xv, xu⟩ := x
           obtain rfl : xu = .slice xa xl xc := hu
           dsimp only [condV]
           have hlv := PX.keep_lastCond (PX.lv_stb _) _ _ (PX.Lv.refl _) _ _ hx5
           have U5 := U2.out.step1 F5 hlv L5
           obtain ⟨vr5, h5, -⟩ := id U5.lt.ls.ps
           have g9 := cell_of_row _ b 9 _ _ _ h5
           have g10 := cell_of_row _ b 10 _ _ _ h5
           have g11 := cell_of_row _ b 11 _ _ _ h5
           have g12 := cell_of_row _ b 12 _ _ _ h5
           have g13 := cell_of_row _ b 13 _ _ _ h5
           have g14 := cell_of_row _ b 14 _ _ _ h5
           unfold psC at g9 g10 g11 g12 g13 g14
           simp only [List.getElem?_toArray, List.getElem?_cons_zero, List.getElem?_cons_succ] at g9 g10 g11 g12 g13 g14
           have fb := fun j => frozen_of_row _ b j _ _ h5
           have M6 : CondM w5 (fun i => b < i) ⟨xk, xt, xn, xv, .slice xa xl xc⟩ c := CondM.mono (fun _ _ _ hh => hh) (fun i hi => Nat.lt_of_lt_of_le hb1 (Nat.le_trans (by simp) hi)) _ _ M5
           have L6 := U5.lt.newCond ⟨xk, xt, xn, xv, .slice xa xl xc⟩ c M6
           have U6 : TP w b h _ _ _ := ⟨((((U5.fr.setB 9 (.int .u8 xk)).setB 10 (.int .u8 xt)).setB 11 (.int .u8 xn)).setB 12 (.int .u8 xv)).setB 13 (.slice xa xl xc), L6, U5.hg⟩
           replace U6 := Lib.hid U6
           clear h5 M6 L6 U5 M5 L5))
      go_end0
      exact (U6.out.setDone 4).ok (by rw [e0.out, hx5]; rfl)
    · have hask : (if PX.askOf t.x = 0 then s1.ask else PX.askOf t.x) = s1.ask := by rw [ha]; simp [y1, y2, y3]
      have e0 : Hid (R = (PX.lastCond t.p s1).bind fun c s => .ok () { s with cond := c, done := 4 }) := Lib.hid (by
        rw [← hR]; unfold PX.queryLine; rw [ht]; simp only [PX.R.bind]; rw [hask])
      clear hR ht ha hask
      go_enter Try.func38, Try.ntmps38
      go_wp2_with (first
        | (go_at_call 41; refine (C1.out).mono ?_; rintro e w1 ⟨F1, rfl, P1⟩; dsimp only [tokV]
           have U1 := (U0.out.step0 F1 m1.out P1).alloc (.cells #[.int .u8 t.k, .string t.x, .int .i64 t.p] 61)
           have hz := heap_alloc_new w1 (.cells #[.int .u8 t.k, .string t.x, .int .i64 t.p] 61)
           have hz1 := cell_of_row _ _ 1 _ _ _ hz
           have hb1 : b < w1.heap.size := P1.lt
           simp only [List.getElem?_toArray, List.getElem?_cons_zero, List.getElem?_cons_succ] at hz1
           have hz2 := cell_of_row _ _ 2 _ _ _ hz
           simp only [List.getElem?_toArray, List.getElem?_cons_zero, List.getElem?_cons_succ] at hz2
           have U2 := Lib.hid U1
           clear hz)
        | (go_at_call 20; refine call2 (CL.out _ _ _ U2.out.lt.ls hl1) (fun c x s5 w5 vl vi hx5 F5 M5 L5 => ?_) (fun pl er w5 hx F => ⟨rfl, EndsP.bad (U2.out.fr.trans (F.mono T1_T2)) (by rw [e0.out, hx]; rfl)⟩)
           obtain ⟨xa, xl, xc, hu⟩ := M5.slice
           obtain ⟨xk, xt, xn, xv, xu⟩ := x
           obtain rfl : xu = .slice xa xl xc := hu
           dsimp only [condV]
           have hlv := PX.keep_lastCond (PX.lv_stb _) _ _ (PX.Lv.refl _) _ _ hx5
           have U5 := U2.out.step1 F5 hlv L5
           obtain ⟨vr5, h5, -⟩ := id U5.lt.ls.ps
           have g9 := cell_of_row _ b 9 _ _ _ h5
           have g10 := cell_of_row _ b 10 _ _ _ h5
           have g11 := cell_of_row _ b 11 _ _ _ h5
           have g12 := cell_of_row _ b 12 _ _ _ h5
           have g13 := cell_of_row _ b 13 _ _ _ h5
           have g14 := cell_of_row _ b 14 _ _ _ h5
           unfold psC at g9 g10 g11 g12 g13 g14
           simp only [List.getElem?_toArray, List.getElem?_cons_zero, List.getElem?_cons_succ] at g9 g10 g11 g12 g13 g14
           have fb := fun j => frozen_of_row _ b j _ _ h5
           have M6 : CondM w5 (fun i => b < i) ⟨xk, xt, xn, xv, .slice xa xl xc⟩ c := CondM.mono (fun _ _ _ hh => hh) (fun i hi => Nat.lt_of_lt_of_le hb1 (Nat.le_trans (by simp) hi)) _ _ M5
           have L6 := U5.lt.newCond ⟨xk, xt, xn, xv, .slice xa xl xc⟩ c M6
           have U6 : TP w b h _ _ _ := ⟨((((U5.fr.setB 9 (.int .u8 xk)).setB 10 (.int .u8 xt)).setB 11 (.int .u8 xn)).setB 12 (.int .u8 xv)).setB 13 (.slice xa xl xc), L6, U5.hg⟩
           replace U6 := Lib.hid U6
           clear h5 M6 L6 U5 M5 L5))
      go_end0
      exact (U6.out.setDone 4).ok (by rw [e0.out, hx5]; rfl)
  · have e0 : R = .bad pl er := by rw [← hR]; unfold PX.queryLine; rw [ht]; rfl
    rw [ht] at C1
    rw [e0]
    replace C1 := Lib.hid C1
    go_enter Try.func38, Try.ntmps38
    go_wp2_with (first
      | (go_at_call 41; refine (C1.out).mono ?_; rintro e w1 ⟨F1, rfl⟩))
    refine ⟨rfl, U0.fr.trans F1.up, ?_⟩
    show Ending.panicked _ = failE _ _
    symm
    assumption
end PP
end Go.Proofs.Ytglbmiadgdadfaa
end

section
/- What a program's lines keep: pure. -/
namespace Go.Proofs.Ytglbmiadgdadfaa
open Go Go.RowKit
namespace PX
/-- What holds of a program that is being read. -/
structure Inv (s : S) : Prop where
  opn : s.opn = true
  l6 : s.locs.length ≤ 6
  done : 0 ≤ s.done ∧ s.done ≤ 4
  t4 : s.threads.length ≤ 4
  i12 : ∀ k ∈ s.threads, k.length ≤ 12
  some_ : 3 ≤ s.done → s.threads ≠ []
theorem inv_stb (s0 : S) : Stb fun s => Inv s ∧ s.done = s0.done :=
  ⟨fun s h => ⟨⟨h.1.opn, h.1.l6, h.1.done, h.1.t4, h.1.i12, h.1.some_⟩, h.2⟩, fun s h _ _ _ h6 _ => ⟨⟨h.1.opn, by show (s.locs ++ [_]).length ≤ 6; have := h.1.l6; simp; omega, h.1.done, h.1.t4, h.1.i12, h.1.some_⟩, h.2⟩⟩
theorem Post.ite {α : Type} {Q : α → S → Prop} {c : Prop} [Decidable c] {a b : R α} (h : Post Q a) (k : Post Q b) : Post Q (if c then a else b) := by
  by_cases hc : c
  · rw [if_pos hc]; exact h
  · rw [if_neg hc]; exact k
theorem post_wrong {α : Type} {Q : α → S → Prop} (s : S) : Post Q (wrong s : R α) := .bad
section
variable {s : S} (h : Inv s)
include h
theorem inv_titleLine (hd : s.done = 0) : Post (fun _ s' => Inv s' ∧ s'.done = 1) (titleLine s) := by
  have st := inv_stb s
  unfold titleLine
  refine (keep_take st _ s ⟨h, rfl⟩).bind fun _ s1 h1 => (keep_takeWord st s1 h1).bind fun t s2 h2 => ?_
  have h3 : Inv { s2 with name := t.x } ∧ ({ s2 with name := t.x } : S).done = s.done := ⟨⟨h2.1.opn, h2.1.l6, h2.1.done, h2.1.t4, h2.1.i12, h2.1.some_⟩, h2.2⟩
  exact (keep_take st _ _ h3).bind fun _ s4 h4 => .ok ⟨⟨h4.1.opn, h4.1.l6, ⟨by show (0 : Int) ≤ 1; omega, by show (1 : Int) ≤ 4; omega⟩, h4.1.t4, h4.1.i12, fun hh => by have : (3 : Int) ≤ 1 := hh; omega⟩, rfl⟩
theorem inv_value : Post (fun _ s' => Inv s' ∧ s'.done = s.done) (value s) := by
  have st := inv_stb s
  unfold value
  refine (keep_loc st s ⟨h, rfl⟩).bind fun l s1 h1 => ?_
  split
  · exact .bad
  · exact (keep_take st _ s1 h1).bind fun _ s2 h2 => (keep_num st s2 h2).bind fun v s3 h3 => .ok ⟨⟨h3.1.opn, h3.1.l6, h3.1.done, h3.1.t4, h3.1.i12, h3.1.some_⟩, h3.2⟩
end
theorem inv_values : ∀ (n : Nat) (s : S), Inv s → Post (fun _ s' => Inv s' ∧ s'.done = s.done) (values n s)
  | 0, s, h => .ok ⟨h, rfl⟩
  | n + 1, s, h => by
    unfold values
    refine (keep_takes (inv_stb s) _ s ⟨h, rfl⟩).bind fun b s1 h1 => ?_
    split
    · exact .ok h1
    · refine (inv_value h1.1).bind fun _ s2 h2 => (inv_values n s2 h2.1).mono fun _ s3 h3 => ⟨h3.1, by rw [h3.2, h2.2, h1.2]⟩
section
variable {s : S} (h : Inv s)
include h
theorem inv_initLine : Post (fun _ s' => Inv s') (initLine s) := by
  unfold initLine
  refine (keep_take (inv_stb s) _ s ⟨h, rfl⟩).bind fun _ s1 h1 => (inv_value h1.1).bind fun _ s2 h2 => (inv_values _ s2 h2.1).bind fun _ s3 h3 => .ok ?_
  exact ⟨h3.1.opn, h3.1.l6, ⟨by show (0 : Int) ≤ 2; omega, by show (2 : Int) ≤ 4; omega⟩, h3.1.t4, h3.1.i12, fun hh => by have : (3 : Int) ≤ 2 := hh; omega⟩
theorem inv_threadLine : Post (fun _ s' => Inv s') (threadLine s) := by
  unfold threadLine
  refine (keep_take (inv_stb s) _ s ⟨h, rfl⟩).bind fun t s1 h1 => ?_
  split
  · exact .bad
  · rename_i hn
    refine (Post.and (keep_take (inv_stb s) _ s1 h1) (keep_take (lv_stb s1) _ s1 (Lv.refl s1))).bind fun _ s2 h2 => .ok ?_
    obtain ⟨⟨h2, _⟩, h3⟩ := h2
    refine ⟨h2.opn, h2.l6, ⟨by show (0 : Int) ≤ 3; omega, by show (3 : Int) ≤ 4; omega⟩, ?_, fun k hk => ?_, fun _ => by simp⟩
    · show (s2.threads ++ [[]]).length ≤ 4
      rw [h3.2.2.1]
      have := h1.1.t4
      simp; omega
    · rcases List.mem_append.1 hk with hk | hk
      · exact h2.i12 k hk
      · rw [List.mem_singleton.1 hk]; exact Nat.zero_le _
theorem inv_insLine (h3 : 3 ≤ s.done) : Post (fun _ s' => Inv s') (insLine s) := by
  unfold insLine
  split
  · exact .bad
  · rename_i hn
    refine (Post.and (keep_ins (inv_stb s) s ⟨h, rfl⟩) (keep_ins (lv_stb s) s (Lv.refl s))).bind fun x s1 h1 => ?_
    obtain ⟨⟨h1, _⟩, hl⟩ := h1
    obtain ⟨li, k, hth⟩ : ∃ li k, s.threads = li ++ [k] := ⟨_, _, (List.dropLast_concat_getLast (h.some_ h3)).symm⟩
    have hth1 : s1.threads = li ++ [k] := by rw [hl.2.2.1]; exact hth
    have hk : k.length ≠ 12 := by rw [hth] at hn; simpa using hn
    have h2 : Inv { s1 with threads := s1.threads.dropLast ++ [s1.threads.getLastD [] ++ [x]] } ∧ ({ s1 with threads := s1.threads.dropLast ++ [s1.threads.getLastD [] ++ [x]] } : S).done = s1.done := by
      refine ⟨⟨h1.opn, h1.l6, h1.done, ?_, fun m hm => ?_, fun _ => by simp⟩, rfl⟩
      · show (s1.threads.dropLast ++ [_]).length ≤ 4
        have := h1.t4
        rw [hth1] at this ⊢
        simp at this ⊢; omega
      · have hm' : m ∈ s1.threads.dropLast ++ [s1.threads.getLastD [] ++ [x]] := hm
        rw [hth1] at hm'
        simp at hm'
        rcases hm' with hm' | rfl
        · exact h1.i12 m (by rw [hth1]; simp [hm'])
        · have := h1.i12 k (by rw [hth1]; simp)
          simp; omega
    exact (keep_take (inv_stb s1) _ _ h2).bind fun _ s4 h4 => .ok h4.1
theorem inv_queryLine (h3 : 3 ≤ s.done) : Post (fun _ s' => Inv s') (queryLine s) := by
  unfold queryLine
  refine (keep_take (inv_stb s) _ s ⟨h, rfl⟩).bind fun t s1 h1 => ?_
  have h2 : Inv { s1 with ask := if askOf t.x = 0 then s1.ask else askOf t.x } ∧ ({ s1 with ask := if askOf t.x = 0 then s1.ask else askOf t.x } : S).done = s.done := ⟨⟨h1.1.opn, h1.1.l6, h1.1.done, h1.1.t4, h1.1.i12, h1.1.some_⟩, h1.2⟩
  refine (keep_lastCond (inv_stb s) _ _ h2).bind fun c s3 h4 => .ok ?_
  exact ⟨h4.1.opn, h4.1.l6, ⟨by show (0 : Int) ≤ 4; omega, by show (4 : Int) ≤ 4; omega⟩, h4.1.t4, h4.1.i12, fun _ => h4.1.some_ (by rw [h4.2]; exact h3)⟩
theorem inv_line : Post (fun _ s' => Inv s') (line s) := by
  rw [line_eq]
  generalize PX.sy (PX.next s) = y
  unfold lineB
  by_cases h0 : s.done = 0
  · rw [if_pos h0]
    exact .ite ((inv_titleLine h h0).mono fun _ _ x => x.1) (post_wrong s)
  rw [if_neg h0]
  by_cases h1 : s.done = 1
  · rw [if_pos h1]
    exact .ite (inv_initLine h) (.ite (inv_threadLine h) (post_wrong s))
  rw [if_neg h1]
  by_cases h2 : s.done = 2
  · rw [if_pos h2]
    exact .ite (inv_threadLine h) (post_wrong s)
  rw [if_neg h2]
  have h3 : 3 ≤ s.done := by have := h.done; omega
  exact .ite (inv_threadLine h) (.ite (inv_insLine h h3) (.ite (inv_insLine h h3) (.ite (inv_insLine h h3) (.ite (inv_insLine h h3) (.ite (inv_queryLine h h3) (.ite (inv_queryLine h h3) (.ite (inv_queryLine h h3) (post_wrong s))))))))
end
theorem inv_start (x : ByteArray) : Inv (start x [] true) :=
  ⟨rfl, Nat.zero_le _, ⟨Int.le_refl _, by show (0 : Int) ≤ 4; omega⟩, Nat.zero_le _, fun k hk => (by cases hk), fun hh => by have : (3 : Int) ≤ 0 := hh; omega⟩
end PX
end Go.Proofs.Ytglbmiadgdadfaa
end

section
/- The parser's program: its lines, one after another. -/
namespace Go.Proofs.Ytglbmiadgdadfaa
open Go.RowKit Go.Shelf

attribute [local go_sem] Oper.semAt_some
namespace PX
theorem lt_bind {α β : Type} {r : R α} {f : α → S → R β} {s : S} (h : Post (fun _ s1 => s1.rest.length < s.rest.length) r) (hf : ∀ a s1, Post (fun _ s2 => s2.rest.length ≤ s1.rest.length) (f a s1)) : Post (fun _ s2 => s2.rest.length < s.rest.length) (r.bind f) :=
  h.bind fun a s1 h1 => (hf a s1).mono fun _ _ h2 => by omega
theorem le_bind {α β : Type} {r : R α} {f : α → S → R β} {s : S} (h : Post (fun _ s1 => s1.rest.length ≤ s.rest.length) r) (hf : ∀ a s1, Post (fun _ s2 => s2.rest.length ≤ s1.rest.length) (f a s1)) : Post (fun _ s2 => s2.rest.length ≤ s.rest.length) (r.bind f) :=
  h.bind fun a s1 h1 => (hf a s1).mono fun _ _ h2 => by omega
theorem take_le (l : List ByteArray) (s : S) : Post (fun _ s' => s'.rest.length ≤ s.rest.length) (take l s) := keep_take (len_stb s.rest.length) l s (Nat.le_refl _)
theorem take_lt' {l : List ByteArray} (hl : PP.SymsOk l) (s : S) : Post (fun _ s' => s'.rest.length < s.rest.length) (take l s) := fun _ _ e => PP.take_lt hl e
theorem value_le (s : S) : Post (fun _ s' => s'.rest.length ≤ s.rest.length) (value s) := fun _ _ e => Nat.le_of_lt (PP.value_lt e)
theorem values_le : ∀ (n : Nat) (s : S), Post (fun _ s' => s'.rest.length ≤ s.rest.length) (values n s)
  | 0, s => .ok (Nat.le_refl _)
  | n + 1, s => by
    unfold values
    refine le_bind (keep_takes (len_stb s.rest.length) _ s (Nat.le_refl _)) fun b s1 => ?_
    split
    · exact .ok (Nat.le_refl _)
    · exact le_bind (value_le s1) fun _ s2 => values_le n s2
theorem ins_lt (s : S) : Post (fun _ s' => s'.rest.length < s.rest.length) (ins s) := by
  have T : ∀ l (s : S), Post (fun _ s' => s'.rest.length ≤ s.rest.length) (take l s) := take_le
  have A : ∀ (s : S), Post (fun _ s' => s'.rest.length ≤ s.rest.length) (arg s) := fun s => keep_arg (len_stb s.rest.length) s (Nat.le_refl _)
  have B : ∀ x (s : S), Post (fun _ s' => s'.rest.length ≤ s.rest.length) (takes x s) := fun x s => keep_takes (len_stb s.rest.length) x s (Nat.le_refl _)
  unfold ins
  simp only
  refine .ite ?_ (.ite ?_ (.ite ?_ (.ite ?_ .bad)))
  · exact lt_bind (fun _ _ e => PP.loc_lt e) fun _ s1 => le_bind (T _ s1) fun _ s2 => le_bind (A s2) fun _ s3 => le_bind (B _ s3) fun _ s4 => .ok (Nat.le_refl _)
  · exact lt_bind (fun _ _ e => PP.reg_lt e) fun _ s1 => le_bind (T _ s1) fun _ s2 => le_bind (keep_source (len_stb s2.rest.length) s2 (Nat.le_refl _)) fun _ s3 => .ok (Nat.le_refl _)
  · exact lt_bind (take_lt' (PP.symsOk_bs (by decide)) s) fun _ s1 => le_bind (B _ s1) fun b s2 => .ite (.ok (Nat.le_refl _)) (le_bind (B _ s2) fun _ s3 => .ok (Nat.le_refl _))
  · exact lt_bind (take_lt' (PP.symsOk_bs (by decide)) s) fun _ s1 => le_bind (keep_num (len_stb s1.rest.length) s1 (Nat.le_refl _)) fun _ s2 => le_bind (T _ s2) fun _ s3 => le_bind (keep_operation (len_stb s3.rest.length) _ s3 (Nat.le_refl _)) fun _ s4 => .ok (Nat.le_refl _)
theorem line_lt (s : S) : Post (fun _ s' => s'.rest.length < s.rest.length) (line s) := by
  have T : ∀ l (s : S), Post (fun _ s' => s'.rest.length ≤ s.rest.length) (take l s) := take_le
  have ht : Post (fun _ s' => s'.rest.length < s.rest.length) (titleLine s) := lt_bind (take_lt' (PP.symsOk_bs (by decide)) s) fun _ s1 => le_bind (keep_takeWord (len_stb s1.rest.length) s1 (Nat.le_refl _)) fun t s2 => le_bind (s := s2) (T [sEND] { s2 with name := t.x }) fun _ s3 => .ok (Nat.le_refl _)
  have hi : Post (fun _ s' => s'.rest.length < s.rest.length) (initLine s) := lt_bind (take_lt' (PP.symsOk_bs (by decide)) s) fun _ s1 => le_bind (value_le s1) fun _ s2 => le_bind (values_le _ s2) fun _ s3 => .ok (Nat.le_refl _)
  have hh : Post (fun _ s' => s'.rest.length < s.rest.length) (threadLine s) := lt_bind (take_lt' (PP.symsOk_bs (by decide)) s) fun _ s1 => .ite .bad (le_bind (T _ s1) fun _ s3 => .ok (Nat.le_refl _))
  have hn : Post (fun _ s' => s'.rest.length < s.rest.length) (insLine s) := .ite .bad (lt_bind (ins_lt s) fun x s1 => le_bind (s := s1) (T [sEND] { s1 with threads := s1.threads.dropLast ++ [s1.threads.getLastD [] ++ [x]] }) fun _ s3 => .ok (Nat.le_refl _))
  have hq : Post (fun _ s' => s'.rest.length < s.rest.length) (queryLine s) := lt_bind (take_lt' (PP.symsOk_three (x := [115, 111, 109, 101]) (y := [110, 111, 110, 101]) (z := [97, 108, 108]) (by decide) (by decide) (by decide)) s) fun t s1 => le_bind (s := s1) (keep_lastCond (len_stb s1.rest.length) t.p { s1 with ask := if askOf t.x = 0 then s1.ask else askOf t.x } (Nat.le_refl _)) fun _ s3 => .ok (Nat.le_refl _)
  rw [line_eq]
  generalize PX.sy (PX.next s) = y
  generalize s.done = d
  unfold lineB
  exact .ite (.ite ht .bad) (.ite (.ite hi (.ite hh .bad)) (.ite (.ite hh .bad) (.ite hh (.ite hn (.ite hn (.ite hn (.ite hn (.ite hq (.ite hq (.ite hq .bad))))))))))
end PX
namespace PP
theorem line_some {b : Nat} {s : PX.S} {h : Hd} {W : World} (L : LT W b s h) (I : PX.Inv s) (hlen : s.rest.length < 100000) (hd : s.done ≠ 4) {f : Nat} (hf : lookE (PX.sy (PX.next s)) (tabL s.done) = some f) :
    Calls Try.prog f #[.pointer (some ⟨b, 0, none⟩)] W (EndsP W b h (PX.line s)) := by
  rw [PX.line_eq]
  have hq := I.done
  unfold PX.lineB
  generalize PX.sy (PX.next s) = y at *
  by_cases h0 : s.done = 0
  · rw [if_pos h0]
    rw [h0] at hf
    change lookE y [(PX.kTest, 34)] = some f at hf
    simp only [lookE] at hf
    by_cases h1 : (y == PX.kTest) = true
    · rw [if_pos h1]; rw [if_pos h1] at hf; cases hf; exact titleLine_any b s h W L
    rw [if_neg h1] at hf; cases hf
  rw [if_neg h0]
  by_cases h1 : s.done = 1
  · rw [if_pos h1]
    rw [h1] at hf
    change lookE y [(PX.kInit, 35), (PX.kThread, 36)] = some f at hf
    simp only [lookE] at hf
    by_cases h2 : (y == PX.kInit) = true
    · rw [if_pos h2]; rw [if_pos h2] at hf; cases hf; exact initLine_any b s h W L
    rw [if_neg h2]; rw [if_neg h2] at hf
    by_cases h3 : (y == PX.kThread) = true
    · rw [if_pos h3]; rw [if_pos h3] at hf; cases hf; exact threadLine_any b s h W L I.t4
    rw [if_neg h3] at hf; cases hf
  rw [if_neg h1]
  by_cases h2 : s.done = 2
  · rw [if_pos h2]
    rw [h2] at hf
    change lookE y [(PX.kThread, 36)] = some f at hf
    simp only [lookE] at hf
    by_cases h3 : (y == PX.kThread) = true
    · rw [if_pos h3]; rw [if_pos h3] at hf; cases hf; exact threadLine_any b s h W L I.t4
    rw [if_neg h3] at hf; cases hf
  rw [if_neg h2]
  have h3 : s.done = 3 := by omega
  rw [h3] at hf
  change lookE y [(PX.kThread, 36), (PX.kFence, 37), (PX.kSkip, 37), (PX.sNAME, 37), (PX.sREG, 37), (PX.kSome, 38), (PX.kNone, 38), (PX.kAll, 38)] = some f at hf
  simp only [lookE] at hf
  have hI := insLine_any b s h W L (I.some_ (by omega)) I.t4 I.i12
  have hQ := queryLine_any b s h W L hlen
  by_cases k1 : (y == PX.kThread) = true
  · rw [if_pos k1]; rw [if_pos k1] at hf; cases hf; exact threadLine_any b s h W L I.t4
  rw [if_neg k1]; rw [if_neg k1] at hf
  by_cases k2 : (y == PX.kFence) = true
  · rw [if_pos k2]; rw [if_pos k2] at hf; cases hf; exact hI
  rw [if_neg k2]; rw [if_neg k2] at hf
  by_cases k3 : (y == PX.kSkip) = true
  · rw [if_pos k3]; rw [if_pos k3] at hf; cases hf; exact hI
  rw [if_neg k3]; rw [if_neg k3] at hf
  by_cases k4 : (y == PX.sNAME) = true
  · rw [if_pos k4]; rw [if_pos k4] at hf; cases hf; exact hI
  rw [if_neg k4]; rw [if_neg k4] at hf
  by_cases k5 : (y == PX.sREG) = true
  · rw [if_pos k5]; rw [if_pos k5] at hf; cases hf; exact hI
  rw [if_neg k5]; rw [if_neg k5] at hf
  by_cases k6 : (y == PX.kSome) = true
  · rw [if_pos k6]; rw [if_pos k6] at hf; cases hf; exact hQ
  rw [if_neg k6]; rw [if_neg k6] at hf
  by_cases k7 : (y == PX.kNone) = true
  · rw [if_pos k7]; rw [if_pos k7] at hf; cases hf; exact hQ
  rw [if_neg k7]; rw [if_neg k7] at hf
  by_cases k8 : (y == PX.kAll) = true
  · rw [if_pos k8]; rw [if_pos k8] at hf; cases hf; exact hQ
  rw [if_neg k8] at hf; cases hf
theorem line_none {s : PX.S} (I : PX.Inv s) (hd : s.done ≠ 4) (hf : lookE (PX.sy (PX.next s)) (tabL s.done) = none) : PX.line s = .bad (PX.next s).p 50 := by
  rw [PX.line_eq]
  have hq := I.done
  unfold PX.lineB
  generalize PX.sy (PX.next s) = y at *
  by_cases h0 : s.done = 0
  · rw [if_pos h0]
    rw [h0] at hf
    change lookE y [(PX.kTest, 34)] = none at hf
    simp only [lookE] at hf
    by_cases h1 : (y == PX.kTest) = true
    · rw [if_pos h1] at hf; cases hf
    rw [if_neg h1]; rfl
  rw [if_neg h0]
  by_cases h1 : s.done = 1
  · rw [if_pos h1]
    rw [h1] at hf
    change lookE y [(PX.kInit, 35), (PX.kThread, 36)] = none at hf
    simp only [lookE] at hf
    by_cases h2 : (y == PX.kInit) = true
    · rw [if_pos h2] at hf; cases hf
    rw [if_neg h2]; rw [if_neg h2] at hf
    by_cases h3 : (y == PX.kThread) = true
    · rw [if_pos h3] at hf; cases hf
    rw [if_neg h3]; rfl
  rw [if_neg h1]
  by_cases h2 : s.done = 2
  · rw [if_pos h2]
    rw [h2] at hf
    change lookE y [(PX.kThread, 36)] = none at hf
    simp only [lookE] at hf
    by_cases h3 : (y == PX.kThread) = true
    · rw [if_pos h3] at hf; cases hf
    rw [if_neg h3]; rfl
  rw [if_neg h2]
  have h3 : s.done = 3 := by omega
  rw [h3] at hf
  change lookE y [(PX.kThread, 36), (PX.kFence, 37), (PX.kSkip, 37), (PX.sNAME, 37), (PX.sREG, 37), (PX.kSome, 38), (PX.kNone, 38), (PX.kAll, 38)] = none at hf
  simp only [lookE] at hf
  by_cases k1 : (y == PX.kThread) = true
  · rw [if_pos k1] at hf; cases hf
  rw [if_neg k1]; rw [if_neg k1] at hf
  by_cases k2 : (y == PX.kFence) = true
  · rw [if_pos k2] at hf; cases hf
  rw [if_neg k2]; rw [if_neg k2] at hf
  by_cases k3 : (y == PX.kSkip) = true
  · rw [if_pos k3] at hf; cases hf
  rw [if_neg k3]; rw [if_neg k3] at hf
  by_cases k4 : (y == PX.sNAME) = true
  · rw [if_pos k4] at hf; cases hf
  rw [if_neg k4]; rw [if_neg k4] at hf
  by_cases k5 : (y == PX.sREG) = true
  · rw [if_pos k5] at hf; cases hf
  rw [if_neg k5]; rw [if_neg k5] at hf
  by_cases k6 : (y == PX.kSome) = true
  · rw [if_pos k6] at hf; cases hf
  rw [if_neg k6]; rw [if_neg k6] at hf
  by_cases k7 : (y == PX.kNone) = true
  · rw [if_pos k7] at hf; cases hf
  rw [if_neg k7]; rw [if_neg k7] at hf
  by_cases k8 : (y == PX.kAll) = true
  · rw [if_pos k8] at hf; cases hf
  rw [if_neg k8]; rfl
theorem ents_line (d : Int) : AllIn (tabL d) := by
  have e1 := enters Try.func34 (by kernel_rfl) rfl
  have e2 := enters Try.func35 (by kernel_rfl) rfl
  have e3 := enters Try.func36 (by kernel_rfl) rfl
  have e4 := enters Try.func37 (by kernel_rfl) rfl
  have e5 := enters Try.func38 (by kernel_rfl) rfl
  intro p hp
  unfold tabL at hp
  by_cases h0 : d = 0
  · rw [if_pos h0] at hp
    unfold tabL0 at hp
    simp only [List.mem_cons, List.not_mem_nil, or_false] at hp
    subst hp; exact e1
  rw [if_neg h0] at hp
  by_cases h1 : d = 1
  · rw [if_pos h1] at hp
    unfold tabL1 at hp
    simp only [List.mem_cons, List.not_mem_nil, or_false] at hp
    rcases hp with rfl | rfl
    · exact e2
    · exact e3
  rw [if_neg h1] at hp
  by_cases h2 : d = 2
  · rw [if_pos h2] at hp
    unfold tabL2 at hp
    simp only [List.mem_cons, List.not_mem_nil, or_false] at hp
    subst hp; exact e3
  rw [if_neg h2] at hp
  unfold tabL3 at hp
  simp only [List.mem_cons, List.not_mem_nil, or_false] at hp
  rcases hp with rfl | rfl | rfl | rfl | rfl | rfl | rfl | rfl
  · exact e3
  · exact e4
  · exact e4
  · exact e4
  · exact e4
  · exact e5
  · exact e5
  · exact e5
end PP
end Go.Proofs.Ytglbmiadgdadfaa
end
