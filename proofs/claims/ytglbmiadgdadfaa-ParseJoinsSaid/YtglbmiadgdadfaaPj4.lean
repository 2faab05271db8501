/- ParSer, ParDec, ParAll, ParKeep in one text, for the claim. -/
import Derived.Test.YtglbmiadgdadfaaPj3

section
/- The parser's conditions: a series. -/
namespace Go.Proofs.Ytglbmiadgdadfaa
open Go.RowKit Go.Shelf

attribute [local go_sem] Oper.semAt_some
namespace PP
theorem take_lt {l : List ByteArray} {s s' : PX.S} {t : TokD} (hl : SymsOk l) (h : PX.take l s = .ok t s') : s'.rest.length < s.rest.length := by
  unfold PX.take PX.takeIf at h
  split at h
  · rename_i hf
    have hne := isS_ne hl hf
    cases h
    show s.rest.tail.length < _
    rw [List.length_tail]
    have := List.length_pos_iff.2 hne
    omega
  · cases h
theorem takes_lt {x : ByteArray} {s s' : PX.S} (hx : x ≠ ⟨#[]⟩) (h : PX.takes x s = .ok true s') : s'.rest.length < s.rest.length := by
  unfold PX.takes at h
  split at h
  · rcases ht : PX.take [x] s with ⟨t, s1⟩ | ⟨pl, er⟩
    · rw [ht] at h; cases h; exact take_lt (symsOk_one hx) ht
    · rw [ht] at h; cases h
  · cases h
mutual
theorem CondM.mono' {W W' : World} {Q Q' : Nat → Prop} (hW : ∀ (g : Nat) (C : Array Value), Q g → W.heap[g]? = some (.cells C 24 (0, 0)) → W'.heap[g]? = some (.cells C 24 (0, 0))) (hQ : ∀ (g : Nat) (C : Array Value), Q g → W.heap[g]? = some (.cells C 24 (0, 0)) → Q' g) : ∀ (c : PX.CondD) (x : CV), CondM W Q x c → CondM W' Q' x c
  | .mk k t n v kids, x, h => by
    refine ⟨h.1, h.2.1, h.2.2.1, h.2.2.2.1, h.2.2.2.2.imp id ?_⟩
    rintro ⟨g, cap, C, ys, h1, h2, h3, h4, h5, h6, h7, h8⟩
    exact ⟨g, cap, C, ys, h1, h2, h3, h4, hQ g C h5 h6, hW g C h5 h6, h7, KidsM.mono' hW hQ kids ys h8⟩
theorem KidsM.mono' {W W' : World} {Q Q' : Nat → Prop} (hW : ∀ (g : Nat) (C : Array Value), Q g → W.heap[g]? = some (.cells C 24 (0, 0)) → W'.heap[g]? = some (.cells C 24 (0, 0))) (hQ : ∀ (g : Nat) (C : Array Value), Q g → W.heap[g]? = some (.cells C 24 (0, 0)) → Q' g) : ∀ (l : List PX.CondD) (ys : List CV), KidsM W Q ys l → KidsM W' Q' ys l
  | [], _, h => h
  | c :: r, ys, h => by
    obtain ⟨y, yr, rfl, h1, h2⟩ := h
    exact ⟨y, yr, rfl, CondM.mono' hW hQ c y h1, KidsM.mono' hW hQ r yr h2⟩
end
theorem Tr.grow {w W W' : World} {b base n size : Nat} {s : PX.S} {h g : Hd} {v : Value} {xs : List Value} (T : Tr w b h W s g) (hO : W.ownsRow base 24 size v n xs) (hb : w.heap.size < base) (hbw : b < w.heap.size) (hG : W.grownBy W' v.ownBlock) : Tr w b h W' s g := by
  have keep : ∀ (i : Nat) (D : Array Value) (t : TypeId), t ≠ 24 → W.heap[i]? = some (.cells D t (0, 0)) → W'.heap[i]? = some (.cells D t (0, 0)) := fun i D t ht hi => by
    rw [hG.block i (lt_of_heap hi) fun e' => by
      obtain ⟨_, cur', h'⟩ := own_rowT hO e'.symm
      rw [hi] at h'; cases h'; exact ht rfl]
    exact hi
  refine ⟨⟨hG.os.trans T.fr.os, hG.tape.trans T.fr.tape, hG.output.trans T.fr.output, Nat.le_trans T.fr.size hG.size, fun i o hi hib => ?_⟩, ⟨?_, ⟨fun ho => ⟨own_sameT (T.ls.locs.1 ho).1 fun i cur hi hh => keep i cur _ (by decide) hh, (T.ls.locs.1 ho).2⟩, fun ho => ?_⟩, fun ho => own_sameT (T.ls.init ho) fun i cur hi hh => keep i cur _ (by decide) hh⟩, T.hd⟩
  · have h1 := T.fr.block i o hi hib
    rw [hG.block i (lt_of_heap h1) fun e' => by
      have := (own_rowT hO e'.symm).1
      have := lt_of_heap hi
      omega]
    exact h1
  · obtain ⟨vr, h1, h2, h3, h4⟩ := T.ls.ps
    exact ⟨vr, keep b _ _ (by decide) h1, h2.same fun C hC => keep _ _ _ (by decide) hC, h3, Nat.lt_of_lt_of_le h4 hG.size⟩
  · obtain ⟨e1, a, cap, e2, e3⟩ := T.ls.locs.2 ho
    refine ⟨e1, a, cap, e2, fun h0 => ?_⟩
    obtain ⟨i, off, D, e4, e5, e6, e7⟩ := e3 h0
    exact ⟨i, off, D, e4, e5, (hG.block i (lt_of_heap e6) fun e' => by
      have := (own_rowT hO e'.symm).1
      omega).trans e6, e7⟩
theorem infoCond : ∃ i : TypeInfo, Try.prog.info? 24 = some i ∧ i.zero = some (.agg #[.int .u8 0, .int .u8 0, .int .u8 0, .int .u8 0, .slice none 0 0]) ∧ i.size = 5 ∧ i.bytes = 32 := by
  have h : (Try.prog.info? 24).map (fun i => (i.zero, i.size, i.bytes)) = some (some (.agg #[.int .u8 0, .int .u8 0, .int .u8 0, .int .u8 0, .slice none 0 0]), 5, 32) := by kernel_rfl
  cases hi : Try.prog.info? 24 with
  | none => rw [hi] at h; cases h
  | some i =>
    rw [hi] at h
    simp only [Option.map_some, Option.some.injEq, Prod.mk.injEq] at h
    exact ⟨i, rfl, h.1, h.2.1, h.2.2⟩
theorem cond_cells (w : World) (x : CV) : ∀ (j : Nat) (u : Value), (condC x).toList[j]? = some u → (w.alloc (.cells (condC x) 24)).cell? (Addr.add ⟨w.heap.size, 0, none⟩ j) = some u := fun j u hu => by
  rw [Go.WideShapes.add_plain, Nat.zero_add]
  have := cell_of_row _ w.heap.size j _ _ _ (heap_alloc_new w (.cells (condC x) 24))
  rw [this, ← Array.getElem?_toList]
  exact hu
def SerI (w : World) (b : Nat) (h : Hd) (N M : Nat) (rK : PX.S → PX.R PX.CondD) (x : ByteArray) (RM : PX.R (List PX.CondD)) (o : Value) (wr : World) : Prop :=
  ∃ (acc : List PX.CondD) (ys : List CV) (s' : PX.S) (g' : Hd) (m : Nat), Tr w b h wr s' g' ∧ wr.ownsRow (w.heap.size + 1) 24 5 o acc.length (cellsC ys) ∧ KidsM wr (fun i => w.heap.size < i ∧ o.ownBlock ≠ some i) ys acc ∧
    wr.heap[w.heap.size]? = some (.cells (condC zC) 24 (0, 0)) ∧ 0 < acc.length ∧ s'.rest.length < m ∧ acc.length + s'.rest.length ≤ M ∧ PX.more rK x m acc s' = RM
def restLen (b : Nat) (W : World) : Nat := match W.cell? ⟨b, 0, none⟩ with
  | some (.slice _ n _) => n
  | _ => 0
theorem restLen_ps {W : World} {b : Nat} {s : PX.S} {h : Hd} (p : PS W b s h) : restLen b W = s.rest.length := by
  obtain ⟨vr, h1, ⟨_, a, cap, rfl, _⟩, _⟩ := p
  unfold restLen
  rw [cell_of_row _ b 0 _ _ _ h1]
  rfl
set_option maxRecDepth 100000 in
set_option maxHeartbeats 16000000 in
theorem series_of (b N : Nat) (kf : Nat) (x : ByteArray) (kind : Int) (rK : PX.S → PX.R PX.CondD) (s : PX.S) (h : Hd) (w : World) (L : LS w b s h) (hx : x ≠ ⟨#[]⟩) (hN : N ≤ 100000)
    (hent : ∀ args W, (callFunc kf args).run Try.prog W = .ok (.enter kf args) W)
    (hK : ∀ (s' : PX.S) (h' : Hd) (W : World), s'.rest.length < N → LS W b s' h' → Calls Try.prog kf #[.pointer (some ⟨b, 0, none⟩)] W (Ends2 W b h' (rK s')))
    (hdec : ∀ (s' s'' : PX.S) (c : PX.CondD), s'.rest.length < N → rK s' = .ok c s'' → s''.rest.length < s'.rest.length) (hs : s.rest.length < N) :
    Calls Try.prog 39 #[.pointer (some ⟨b, 0, none⟩), .string x, .int .u8 kind, .func (.func kf) #[] #[]] w (Ends2 w b h (PX.series rK x kind s)) := by
  have hbl := L.ps.lt
  have hgl := L.ps.g_lt
  have U0 := (Tr.start L).alloc (.cells #[.int .u8 0, .int .u8 0, .int .u8 0, .int .u8 0, .slice none 0 0] 24)
  have z0 := newCond w
  have C1 := Lib.hid (hK s h _ hs U0.ls)
  have hT := Lib.hid fun s' h' W (p : PS W b s' h') => takes_any b s' h' x W p hx
  obtain ⟨R, e0⟩ : ∃ R, PX.series rK x kind s = R := ⟨_, rfl⟩
  rw [e0]
  replace e0 := Lib.hid e0
  replace U0 := Lib.hid U0
  replace z0 := Lib.hid z0
  replace hK := Lib.hid hK
  replace hdec := Lib.hid hdec
  go_enter Try.func39, Try.ntmps39
  go_wp2_with fail
  refine call2 C1.out (fun c x1 s1 w1 vl vi hx1 F1 M1 L1 => ?_) (fun pl er w1 hx F => ⟨rfl, Ends2.bad (U0.out.fr.trans F) (by rw [← e0.out]; unfold PX.series; rw [hx]; rfl)⟩)
  obtain ⟨xa, xl, xc, hu⟩ := M1.slice
  obtain ⟨xk, xt, xn, xv, xu⟩ := x1
  obtain rfl : xu = .slice xa xl xc := hu
  dsimp only [condV]
  have U1 := (U0.out.step1 F1 L1).alloc (.cells (condC ⟨xk, xt, xn, xv, .slice xa xl xc⟩) 24)
  have q1 := F1.box z0.out (by omega) condT1
  have hs1 := lt_of_heap q1
  have hd1 := hdec.out _ _ _ hs hx1
  obtain ⟨RM, hRM⟩ : ∃ RM, PX.more rK x s.rest.length [c] s1 = RM := ⟨_, rfl⟩
  have hRM' := hRM
  replace hRM := Lib.hid hRM
  have hI : Hid (SerI w b h N s.rest.length rK x RM (.slice (some ⟨w1.heap.size, 0, none⟩) 1 1) (w1.alloc (.cells (condC ⟨xk, xt, xn, xv, .slice xa xl xc⟩) 24))) := Lib.hid (by
    have ha := heap_alloc_new w1 (.cells (condC ⟨xk, xt, xn, xv, .slice xa xl xc⟩) 24)
    refine ⟨[c], [⟨xk, xt, xn, xv, .slice xa xl xc⟩], s1, _, s.rest.length, U1, ⟨rfl, .inr ⟨w1.heap.size, 1, _, rfl, hs1, ha, Nat.le_refl _, by unfold maxLen; omega, rfl, ?_⟩⟩, ⟨_, [], rfl, ?_, rfl⟩, row_alloc q1 _, Nat.one_pos, hd1, ?_, hRM'⟩
    · show List.take 5 (condC _).toList = (condC _).toList ++ []
      rw [List.append_nil]
      exact List.take_of_length_le (Nat.le_refl 5)
    · refine CondM.mono' ?_ ?_ c _ M1
      · intro g C hq hh
        exact row_alloc hh _
      · intro g C hq hh
        refine ⟨?_, ?_⟩
        · have h2 : (w.alloc (.cells #[.int .u8 0, .int .u8 0, .int .u8 0, .int .u8 0, .slice none 0 0] 24)).heap.size ≤ g := hq
          rw [World.size_alloc] at h2
          exact h2
        · have h3 := lt_of_heap hh
          intro e
          have : w1.heap.size = g := by simpa [Value.ownBlock] using e
          omega
    · show 1 + s1.rest.length ≤ _
      omega)
  clear U1
  unfold condC at hI
  go_wp2_with fail
  go_loopw [9] (fun o wr => SerI w b h N s.rest.length rK x RM o wr) (fun _ wr => restLen b wr)
  case atStart => exact hI.out
  case round =>
    obtain ⟨acc, ys, s', g', m, T, hO, hM, hz, h0, hm, hle, hR⟩ := hrel
    obtain ⟨m, rfl⟩ : ∃ m', m = m' + 1 := ⟨m - 1, by omega⟩
    rcases rt : PX.takes x s' with ⟨r, s2⟩ | ⟨pl, er⟩
    · cases r
      · have hRMk : RM = .ok acc s2 := by rw [← hR]; simp only [PX.more, PX.R.bind, rt, Bool.false_eq_true, if_false]
        have c1 := hT.out s' g' wr T.ls.ps
        rw [rt] at c1
        replace c1 := Lib.hid c1
        have hmv := mv_takes rt
        replace hO := Lib.hid hO
        replace hM := Lib.hid hM
        clear rt hR
        obtain ⟨n, hn⟩ : ∃ n, acc.length = n := ⟨_, rfl⟩
        obtain ⟨-, ⟨-, hz0⟩ | ⟨g9, cap9, cur, rfl, hg9, hcur, hnc, hcm, hsz, htk⟩⟩ := hO.out
        · omega
        rw [hn] at htk hnc
        by_cases h1 : n = 1
        · subst h1
          obtain ⟨c', rfl⟩ : ∃ c', acc = [c'] := by
            match acc, hn with
            | [c'], _ => exact ⟨c', rfl⟩
          obtain ⟨y, yr, rfl, hy, rfl⟩ := hM.out
          obtain ⟨ya, yl, yc, hu⟩ := hy.slice
          obtain ⟨yk, yt, yn, yv, yu⟩ := y
          obtain rfl : yu = .slice ya yl yc := hu
          have hcur5 : ∀ j, j < 5 → cur[j]? = (condC ⟨yk, yt, yn, yv, .slice ya yl yc⟩)[j]? := fun j hj => by
            have e := congrArg (fun l : List Value => l[j]?) htk
            simp only [Nat.one_mul, List.getElem?_take, hj, if_true] at e
            rw [Array.getElem?_toList] at e
            rw [e]
            simp [cellsC]
          rw [hn]
          go_wp2_with (first
            | (go_at_call 48; refine (c1.out).mono ?_; rintro e w2 ⟨F2, rfl, P2⟩; dsimp only
               have U2 := T.step0 F2 hmv P2
               have z2 := F2.box hz (by omega) (by simp)
               have g2 := F2.box hcur (by omega) (by simp)
               have y0 := (cell_of_row _ g9 0 _ _ _ g2).trans (hcur5 0 (by omega))
               have y1 := (cell_of_row _ g9 1 _ _ _ g2).trans (hcur5 1 (by omega))
               have y2 := (cell_of_row _ g9 2 _ _ _ g2).trans (hcur5 2 (by omega))
               have y3 := (cell_of_row _ g9 3 _ _ _ g2).trans (hcur5 3 (by omega))
               have y4 := (cell_of_row _ g9 4 _ _ _ g2).trans (hcur5 4 (by omega))
               unfold condC at y0 y1 y2 y3 y4
               simp only [List.getElem?_toArray, List.getElem?_cons_zero, List.getElem?_cons_succ] at y0 y1 y2 y3 y4
               obtain ⟨v0, v1, v2, v3, v4⟩ := row_cond z2
               have fv := fun j => frozen_of_row _ _ j _ _ z2
               have V2 := Lib.hid z2
               have G2 := Lib.hid g2
               have FF := Lib.hid F2
               clear g2
               replace U2 := Lib.hid U2))
          have Z := setCond_row ⟨yk, yt, yn, yv, .slice ya yl yc⟩ V2.out
          have hC : CondM (setCond w2 w.heap.size ⟨yk, yt, yn, yv, .slice ya yl yc⟩) (fun i => w.heap.size ≤ i) ⟨yk, yt, yn, yv, .slice ya yl yc⟩ c' := by
            refine CondM.mono ?_ ?_ c' _ hy
            · intro g C hq hh
              have h1 : w.heap.size < g := hq.1
              exact setCond_keep (FF.out.box hh (by omega) (by simp)) (Nat.ne_of_gt h1)
            · intro g hq
              exact Nat.le_of_lt hq.1
          have hTT := Tr.cond (c := c') (r := R) (U2.out.setCond (Nat.le_refl _) hbl hgl ⟨yk, yt, yn, yv, .slice ya yl yc⟩ V2.out) (by rw [← e0.out]; unfold PX.series; rw [hx1]; simp only [PX.R.bind]; rw [hRM', hRMk]) hC
          refine bodyPost_ret (v := condV ⟨yk, yt, yn, yv, .slice ya yl yc⟩) ?_ rfl hTT
          exact cond_results (p := 8) rfl _ _ w.heap.size ⟨yk, yt, yn, yv, .slice ya yl yc⟩ rfl Z
        · have t1 : ((n : Int) == 1) = false := by simp; omega
          rw [hn]
          go_wp2_with (first
            | (go_at_call 48; refine (c1.out).mono ?_; rintro e w2 ⟨F2, rfl, P2⟩; dsimp only
               have U2 := T.step0 F2 hmv P2
               have z2 := F2.box hz (by omega) (by simp)
               have g2 := F2.box hcur (by omega) (by simp)
               obtain ⟨v0, v1, v2, v3, v4⟩ := row_cond z2
               have fv := fun j => frozen_of_row _ _ j _ _ z2
               have V2 := Lib.hid z2
               have G2 := Lib.hid g2
               have FF := Lib.hid F2
               clear g2
               replace U2 := Lib.hid U2))
          have Z := setCond_row { k := kind, u := .slice (some ⟨g9, 0, none⟩) n cap9 } V2.out
          have hC : CondM (setCond w2 w.heap.size { k := kind, u := .slice (some ⟨g9, 0, none⟩) n cap9 }) (fun i => w.heap.size ≤ i) { k := kind, u := .slice (some ⟨g9, 0, none⟩) n cap9 } (.mk kind 0 0 0 acc) := by
            refine ⟨rfl, rfl, rfl, rfl, .inr ⟨g9, cap9, cur, ys, by rw [hn], h0, by rw [hn]; exact hnc, hcm, Nat.le_of_lt hg9, setCond_keep G2.out (by omega), by rw [hn]; exact htk, ?_⟩⟩
            refine KidsM.mono (W := wr) (Q := fun i => w.heap.size < i ∧ (Value.slice (some ⟨g9, 0, none⟩) acc.length cap9).ownBlock ≠ some i) (fun g C hq hh => ?_) (fun g hq => ?_) acc ys hM.out
            · have h1 : w.heap.size < g := hq.1
              exact setCond_keep (FF.out.box hh (by omega) (by simp)) (Nat.ne_of_gt h1)
            · exact Nat.le_of_lt hq.1
          have hTT := Tr.cond (c := .mk kind 0 0 0 acc) (r := R) (U2.out.setCond (Nat.le_refl _) hbl hgl { k := kind, u := .slice (some ⟨g9, 0, none⟩) n cap9 } V2.out) (by
            rw [← e0.out]; unfold PX.series; rw [hx1]; simp only [PX.R.bind]; rw [hRM', hRMk]
            match acc, hn, h0 with
            | [], _, h0 => simp at h0
            | [_], hn, _ => exact absurd hn.symm h1
            | _ :: _ :: _, _, _ => rfl) hC
          refine bodyPost_ret (v := condV { k := kind, u := .slice (some ⟨g9, 0, none⟩) n cap9 }) ?_ rfl hTT
          exact cond_results (p := 8) rfl _ _ w.heap.size { k := kind, u := .slice (some ⟨g9, 0, none⟩) n cap9 } rfl Z
      · have hmv := mv_takes rt
        have hs2' : s2.rest.length < s'.rest.length := takes_lt hx rt
        have c1 := hT.out s' g' wr T.ls.ps
        rw [rt] at c1
        replace c1 := Lib.hid c1
        have hN2 : s2.rest.length < N := by omega
        have hkk := fun W (L' : LS W b s2 g') => hK.out s2 g' W hN2 L'
        rcases rk : rK s2 with ⟨c3, s3⟩ | ⟨pl, er⟩
        · have hd3 := hdec.out _ _ _ hN2 rk
          have hRMk : PX.more rK x m (acc ++ [c3]) s3 = RM := by rw [← hR]; simp only [PX.more, PX.R.bind, rt, if_true, rk]
          rw [rk] at hkk
          replace hkk := Lib.hid hkk
          replace hO := Lib.hid hO
          replace hM := Lib.hid hM
          replace hz := Lib.hid hz
          obtain ⟨i0, hi0, hy0, hy1, hy2⟩ := infoCond
          clear rt rk hR
          go_wp2_with (first
            | (go_at_call 48; refine (c1.out).mono ?_; rintro e w2 ⟨F2, rfl, P2⟩; dsimp only
               have U2 := T.step0 F2 hmv P2))
          refine (hkk.out _ U2.ls).mono ?_
          rintro e w3 ⟨F3, x3, rfl, M3, vl3, vi3, L3⟩
          obtain ⟨ya, yl, yc, hu⟩ := M3.slice
          obtain ⟨yk, yt, yn, yv, yu⟩ := x3
          obtain rfl : yu = .slice ya yl yc := hu
          dsimp only [condV]
          have U3 := (U2.step1 F3 L3).alloc (.cells (condC ⟨yk, yt, yn, yv, .slice ya yl yc⟩) 24)
          have hk3 : ∀ (i : Nat) (C : Array Value), i ≠ b → wr.heap[i]? = some (.cells C 24 (0, 0)) → (w3.alloc (.cells (condC ⟨yk, yt, yn, yv, .slice ya yl yc⟩) 24)).heap[i]? = some (.cells C 24 (0, 0)) := fun i C hi hh => row_alloc (F3.box (F2.box hh hi (by simp)) hi condT1) _
          have O3 := own_sameT hO.out fun i C hi hh => hk3 i C (by omega) hh
          have hlt3 : w.heap.size < w3.heap.size := lt_of_heap (F3.box (F2.box hz.out (by omega) (by simp)) (by omega) condT1)
          have r2 := Lib.hid (cond_cells w3 ⟨yk, yt, yn, yv, .slice ya yl yc⟩)
          have r3 : Hid (∀ u ∈ (condC ⟨yk, yt, yn, yv, .slice ya yl yc⟩).toList, u.oneCell' = true) := Lib.hid fun u hu => by
            simp only [condC, List.mem_cons, List.not_mem_nil, or_false] at hu
            rcases hu with rfl | rfl | rfl | rfl | rfl <;> rfl
          have hwr : wr.heap.size ≤ w3.heap.size := Nat.le_trans F2.size F3.size
          have hw2 := F2.size
          replace O3 := Lib.hid O3
          replace U3 := Lib.hid U3
          replace hk3 := Lib.hid hk3
          replace M3 := Lib.hid M3
          clear U2
          go_wp2_with (at_builtin; refine wpList_append_own_at _ rfl _ _ 22 rfl (w.heap.size + 1) 24 i0 _ 5 32 Try.underlying22 hi0 hy0 hy1 hy2 rfl (by decide) _ _ _ rfl O3.out ⟨w3.heap.size, 0, none⟩ 1 1 _ rfl rfl r2.out r3.out (by unfold maxLen; omega) (by omega) (by simp; omega) ?_; intro v' w4 hown4 hgrow4 _ hblk4)
          have hG : (w3.alloc (.cells (condC ⟨yk, yt, yn, yv, .slice ya yl yc⟩) 24)).grownBy w4 u9.ownBlock := hgrow4
          have hB : v'.ownBlock = u9.ownBlock ∨ v'.ownBlock = some (w3.heap.size + 1) := by
            have := hblk4
            simp only [World.size_alloc] at this
            exact this
          have hwlt : w.heap.size < wr.heap.size := lt_of_heap hz.out
          have T4 := Tr.grow U3.out O3.out (Nat.lt_succ_self _) hbl hG
          have hgo : ∀ (i : Nat) (C : Array Value), u9.ownBlock ≠ some i → (w3.alloc (.cells (condC ⟨yk, yt, yn, yv, .slice ya yl yc⟩) 24)).heap[i]? = some (.cells C 24 (0, 0)) → w4.heap[i]? = some (.cells C 24 (0, 0)) := fun i C hi hh => (hG.block i (lt_of_heap hh) (fun e => hi e.symm)).trans hh
          have hown9 : ∀ i, u9.ownBlock = some i → w.heap.size < i ∧ i < wr.heap.size := fun i hi => by
            obtain ⟨a1, C, a2⟩ := own_rowT hO.out hi
            exact ⟨a1, lt_of_heap a2⟩
          refine ⟨⟨acc ++ [c3], ys ++ [⟨yk, yt, yn, yv, .slice ya yl yc⟩], s3, _, m, T4, ?_, KidsM.snoc _ _ (KidsM.mono' ?_ ?_ acc ys hM.out) (CondM.mono' ?_ ?_ c3 _ M3.out), ?_, ?_, ?_, ?_, hRMk⟩, ?_⟩
          · rw [List.length_append, List.length_singleton, cellsC_snoc]
            exact hown4
          · intro g C hq hh
            exact hgo g C hq.2 (hk3.out g C (by have := hq.1; omega) hh)
          · intro g C hq hh
            refine ⟨hq.1, fun e => ?_⟩
            rcases hB with e2 | e2
            · exact hq.2 (e2 ▸ e)
            · rw [e2] at e
              have h3 := lt_of_heap hh
              have : w3.heap.size + 1 = g := by simpa using e
              omega
          · intro g C hq hh
            have hq' : w2.heap.size ≤ g := hq
            exact hgo g C (fun e => by have := (hown9 g e).2; omega) (row_alloc hh _)
          · intro g C hq hh
            have hq' : w2.heap.size ≤ g := hq
            have h3 := lt_of_heap hh
            refine ⟨by omega, fun e => ?_⟩
            rcases hB with e2 | e2
            · rw [e2] at e
              have := (hown9 g e).2
              omega
            · rw [e2] at e
              have : w3.heap.size + 1 = g := by simpa using e
              omega
          · exact hgo _ _ (fun e => by have := (hown9 _ e).1; omega) (hk3.out _ _ (by omega) hz.out)
          · simp
          · omega
          · rw [List.length_append, List.length_singleton]; omega
          · rw [restLen_ps T4.ls.ps, restLen_ps T.ls.ps]; omega
        · have hRMk : RM = .bad pl er := by rw [← hR]; simp only [PX.more, PX.R.bind, rt, if_true, rk]
          rw [rk] at hkk
          replace hkk := Lib.hid hkk
          clear rt rk hR
          go_wp2_with (first
            | (go_at_call 48; refine (c1.out).mono ?_; rintro e w2 ⟨F2, rfl, P2⟩; dsimp only
               have U2 := T.step0 F2 hmv P2))
          refine (hkk.out _ U2.ls).mono ?_
          rintro e w3 ⟨F3, rfl⟩
          refine ⟨rfl, U2.fr.trans F3, ?_⟩
          rw [← e0.out]; unfold PX.series; rw [hx1]; simp only [PX.R.bind]; rw [hRM', hRMk]
          rfl
    · have c1 := hT.out s' g' wr T.ls.ps
      rw [rt] at c1
      replace c1 := Lib.hid c1
      go_wp2_with (first
        | (go_at_call 48; refine (c1.out).mono ?_; rintro e w2 ⟨F2, rfl⟩))
      have hRM : RM = .bad pl er := by rw [← hR]; simp only [PX.more, PX.R.bind, rt]
      refine ⟨rfl, T.fr.trans F2.up, ?_⟩
      rw [← e0.out]; unfold PX.series; rw [hx1]; simp only [PX.R.bind]; rw [hRM', hRM]
      show Ending.panicked _ = failE _ _
      symm
      assumption
end PP
end Go.Proofs.Ytglbmiadgdadfaa
end

section
/- What a condition's parts read. -/
namespace Go.Proofs.Ytglbmiadgdadfaa
open Go.RowKit Go.Shelf
namespace PP
theorem takes_le {x : ByteArray} {s s' : PX.S} {r : Bool} (hx : x ≠ ⟨#[]⟩) (h : PX.takes x s = .ok r s') : s'.rest.length ≤ s.rest.length := by
  cases r with
  | true => exact Nat.le_of_lt (takes_lt hx h)
  | false =>
    unfold PX.takes at h
    split at h
    · rcases ht : PX.take [x] s with ⟨t, s1⟩ | ⟨pl, er⟩
      · rw [ht] at h; cases h
      · rw [ht] at h; cases h
    · cases h; exact Nat.le_refl _
/-- A part's .ok reads at least one token. -/
def Dec (k : PX.S → PX.R PX.CondD) : Prop := ∀ (s s' : PX.S) (c : PX.CondD), k s = .ok c s' → s'.rest.length < s.rest.length
theorem more_le {k : PX.S → PX.R PX.CondD} (hk : Dec k) {x : ByteArray} (hx : x ≠ ⟨#[]⟩) : ∀ (m : Nat) (acc l : List PX.CondD) (s s' : PX.S), PX.more k x m acc s = .ok l s' → s'.rest.length ≤ s.rest.length
  | 0, acc, l, s, s', h => by simp only [PX.more] at h; cases h; exact Nat.le_refl _
  | m + 1, acc, l, s, s', h => by
    simp only [PX.more] at h
    rcases ht : PX.takes x s with ⟨r, s1⟩ | ⟨pl, er⟩
    · rw [ht] at h
      simp only [PX.R.bind] at h
      have h1 := takes_le hx ht
      cases r with
      | false => simp only [Bool.false_eq_true, if_false] at h; cases h; exact h1
      | true =>
        simp only [if_true] at h
        rcases hc : k s1 with ⟨c, s2⟩ | ⟨pl, er⟩
        · rw [hc] at h
          have h2 := hk _ _ _ hc
          have h3 := more_le hk hx m _ _ _ _ h
          omega
        · rw [hc] at h; cases h
    · rw [ht] at h; cases h
theorem series_dec {k : PX.S → PX.R PX.CondD} (hk : Dec k) {x : ByteArray} (hx : x ≠ ⟨#[]⟩) (kind : Int) : Dec (PX.series k x kind) := by
  intro s s' c h
  unfold PX.series at h
  rcases h1 : k s with ⟨c1, s1⟩ | ⟨pl, er⟩
  · rw [h1] at h
    simp only [PX.R.bind] at h
    rcases h2 : PX.more k x s.rest.length [c1] s1 with ⟨l, s2⟩ | ⟨pl, er⟩
    · rw [h2] at h
      have h3 := hk _ _ _ h1
      have h4 := more_le hk hx _ _ _ _ _ h2
      have : s2 = s' := by cases h; rfl
      subst this
      omega
    · rw [h2] at h; cases h
  · rw [h1] at h; cases h
end PP
end Go.Proofs.Ytglbmiadgdadfaa
end

section
/- The parser's conditions: factors, conjunctions and disjunctions, all of them. -/
namespace Go.Proofs.Ytglbmiadgdadfaa
open Go.RowKit Go.Shelf

attribute [local go_sem] Oper.semAt_some
namespace PP
theorem num_lt {s s' : PX.S} {r : Int} (h : PX.num s = .ok r s') : s'.rest.length < s.rest.length := by
  unfold PX.num at h
  rcases ht : PX.take [PX.sNUM] s with ⟨t, s1⟩ | ⟨pl, er⟩
  · rw [ht] at h; cases h; exact take_lt (symsOk_one (by decide)) ht
  · rw [ht] at h; cases h
theorem reg_lt {s s' : PX.S} {r : Int} (h : PX.reg s = .ok r s') : s'.rest.length < s.rest.length := by
  unfold PX.reg at h
  rcases ht : PX.take [PX.sREG] s with ⟨t, s1⟩ | ⟨pl, er⟩
  · rw [ht] at h; cases h; exact take_lt (symsOk_one (by decide)) ht
  · rw [ht] at h; cases h
theorem addLoc_rest {x : ByteArray} {p : Int} {s s' : PX.S} {u : Unit} (h : PX.addLoc x p s = .ok u s') : s'.rest = s.rest := by
  unfold PX.addLoc at h
  split at h
  · split at h
    · cases h
    · cases h; rfl
  · cases h
theorem loc_lt {s s' : PX.S} {r : Int} (h : PX.loc s = .ok r s') : s'.rest.length < s.rest.length := by
  unfold PX.loc at h
  rcases ht : PX.take [PX.sNAME] s with ⟨t, s1⟩ | ⟨pl, er⟩
  · rw [ht] at h
    have h1 := take_lt (symsOk_one (by decide)) ht
    simp only [PX.R.bind] at h
    split at h
    · cases h; exact h1
    · rcases ha : PX.addLoc t.x t.p s1 with ⟨u, s2⟩ | ⟨pl, er⟩
      · rw [ha] at h
        cases h
        rw [addLoc_rest ha]; exact h1
      · rw [ha] at h; cases h
  · rw [ht] at h; cases h
theorem dec_truth : Dec PX.truth := by
  intro s s' c h
  unfold PX.truth at h
  rcases ht : PX.take [PX.kTrue] s with ⟨t, s1⟩ | ⟨pl, er⟩
  · rw [ht] at h; cases h; exact take_lt (symsOk_one (by decide)) ht
  · rw [ht] at h; cases h
theorem dec_locCond : Dec PX.locCond := by
  intro s s' c h
  unfold PX.locCond at h
  rcases h1 : PX.loc s with ⟨n, s1⟩ | ⟨pl, er⟩
  · rw [h1] at h
    simp only [PX.R.bind] at h
    rcases h2 : PX.take [PX.gEq] s1 with ⟨t, s2⟩ | ⟨pl, er⟩
    · rw [h2] at h
      simp only at h
      rcases h3 : PX.num s2 with ⟨v, s3⟩ | ⟨pl, er⟩
      · rw [h3] at h
        have a := loc_lt h1
        have b := take_lt (symsOk_one (by decide)) h2
        have c := num_lt h3
        cases h
        omega
      · rw [h3] at h; cases h
    · rw [h2] at h; cases h
  · rw [h1] at h; cases h
theorem dec_regCond : Dec PX.regCond := by
  intro s s' c h
  unfold PX.regCond at h
  rcases h1 : PX.num s with ⟨t, s1⟩ | ⟨pl, er⟩
  · rw [h1] at h
    simp only [PX.R.bind] at h
    rcases h2 : PX.take [PX.gColon] s1 with ⟨u, s2⟩ | ⟨pl, er⟩
    · rw [h2] at h
      simp only at h
      rcases h3 : PX.reg s2 with ⟨n, s3⟩ | ⟨pl, er⟩
      · rw [h3] at h
        simp only at h
        rcases h4 : PX.take [PX.gEq] s3 with ⟨u4, s4⟩ | ⟨pl, er⟩
        · rw [h4] at h
          simp only at h
          rcases h5 : PX.num s4 with ⟨v, s5⟩ | ⟨pl, er⟩
          · rw [h5] at h
            have a := num_lt h1
            have b := take_lt (symsOk_one (by decide)) h2
            have c := reg_lt h3
            have d := take_lt (symsOk_one (by decide)) h4
            have e := num_lt h5
            cases h
            omega
          · rw [h5] at h; cases h
        · rw [h4] at h; cases h
      · rw [h3] at h; cases h
    · rw [h2] at h; cases h
  · rw [h1] at h; cases h
theorem dec_factor : ∀ n, Dec (PX.factor n)
  | 0 => fun s s' c h => by cases h
  | n + 1 => by
    intro s s' c h
    have ih := dec_factor n
    rw [factor_eq] at h
    split at h
    · rcases h1 : PX.take [PX.gNot] s with ⟨t, s1⟩ | ⟨pl, er⟩
      · rw [h1] at h
        simp only [PX.R.bind] at h
        rcases h2 : PX.factor n s1 with ⟨c1, s2⟩ | ⟨pl, er⟩
        · rw [h2] at h
          have a := take_lt (symsOk_one (by decide)) h1
          have b := ih _ _ _ h2
          cases h
          omega
        · rw [h2] at h; cases h
      · rw [h1] at h; cases h
    · split at h
      · rcases h1 : PX.take [PX.gOpen] s with ⟨t, s1⟩ | ⟨pl, er⟩
        · rw [h1] at h
          simp only [PX.R.bind] at h
          rcases h2 : PX.series (PX.series (PX.factor n) PX.gAnd 3) PX.gOr 4 s1 with ⟨c1, s2⟩ | ⟨pl, er⟩
          · rw [h2] at h
            simp only at h
            rcases h3 : PX.take [PX.gClose] s2 with ⟨t, s3⟩ | ⟨pl, er⟩
            · rw [h3] at h
              have a := take_lt (symsOk_one (by decide)) h1
              have b := series_dec (series_dec ih (by decide) 3) (by decide) 4 _ _ _ h2
              have d := take_lt (symsOk_one (by decide)) h3
              cases h
              omega
            · rw [h3] at h; cases h
          · rw [h2] at h; cases h
        · rw [h1] at h; cases h
      · split at h
        · exact dec_regCond _ _ _ h
        · split at h
          · exact dec_locCond _ _ _ h
          · split at h
            · exact dec_truth _ _ _ h
            · cases h

set_option maxRecDepth 100000 in
set_option maxHeartbeats 16000000 in
theorem conjunction_of (b n : Nat) (hn : n ≤ 100000)
    (hF : ∀ (s' : PX.S) (h' : Hd) (W : World), s'.rest.length < n → LS W b s' h' → Calls Try.prog 50 #[.pointer (some ⟨b, 0, none⟩)] W (Ends2 W b h' (PX.factor n s')))
    (s : PX.S) (h : Hd) (w : World) (hs : s.rest.length < n) (L : LS w b s h) :
    Calls Try.prog 40 #[.pointer (some ⟨b, 0, none⟩)] w (Ends2 w b h (PX.series (PX.factor n) PX.gAnd 3 s)) := by
  have hbl := L.ps.lt
  have hgl := L.ps.g_lt
  have U0 := (Tr.start L).alloc (.cells #[.int .u8 0, .int .u8 0, .int .u8 0, .int .u8 0, .slice none 0 0] 24)
  have z0 := newCond w
  have C1 := Lib.hid (series_of b n 50 PX.gAnd 3 (PX.factor n) s h _ U0.ls (by decide) hn (enters Try.func50 (by kernel_rfl) rfl) hF (fun s' s'' c _ hc => dec_factor n s' s'' c hc) hs)
  obtain ⟨R, hR⟩ : ∃ R, PX.series (PX.factor n) PX.gAnd 3 s = R := ⟨_, rfl⟩
  rw [hR] at C1 ⊢
  replace U0 := Lib.hid U0
  replace z0 := Lib.hid z0
  clear hF hR
  go_enter Try.func40, Try.ntmps40
  go_wp2_with (first
    | (go_at_call 39; refine call2 C1.out (fun c x s5 w5 vl vi hx5 F5 M5 L5 => ?_) (fun pl er w5 hx F => ⟨rfl, Ends2.bad (U0.out.fr.trans F) hx⟩)
       obtain ⟨xa, xl, xc, hu⟩ := M5.slice
       obtain ⟨xk, xt, xn, xv, xu⟩ := x
       obtain rfl : xu = .slice xa xl xc := hu
       dsimp only [condV]
       have U5 := U0.out.step1 F5 L5
       have z5 := F5.box z0.out (by omega) condT1
       have hs0 := lt_of_heap z0.out
       obtain ⟨v0, v1, v2, v3, v4⟩ := row_cond z5
       have fv := fun j => frozen_of_row _ _ j _ _ z5
       have V5 := Lib.hid z5
       replace U5 := Lib.hid U5
       replace M5 := Lib.hid M5))
  have Z := setCond_row ⟨xk, xt, xn, xv, .slice xa xl xc⟩ V5.out
  have hM : CondM (setCond w5 w.heap.size ⟨xk, xt, xn, xv, .slice xa xl xc⟩) (fun i => w.heap.size ≤ i) ⟨xk, xt, xn, xv, .slice xa xl xc⟩ c := by
    refine CondM.mono (W := w5) (Q := fun i => (w.alloc (.cells #[.int .u8 0, .int .u8 0, .int .u8 0, .int .u8 0, .slice none 0 0] 24)).heap.size ≤ i) (fun g C hq hh => ?_) (fun g hq => ?_) c _ M5.out
    · exact setCond_keep hh (Nat.ne_of_gt (Nat.lt_of_lt_of_le hs0 hq))
    · exact Nat.le_trans (Nat.le_of_lt hs0) hq
  have hT := Tr.cond (c := c) (r := R) (U5.out.setCond (Nat.le_refl _) hbl hgl ⟨xk, xt, xn, xv, .slice xa xl xc⟩ V5.out) hx5 hM
  refine bodyPost_ret (v := condV ⟨xk, xt, xn, xv, .slice xa xl xc⟩) ?_ rfl hT
  exact cond_results (p := 2) rfl _ _ w.heap.size ⟨xk, xt, xn, xv, .slice xa xl xc⟩ rfl Z

set_option maxRecDepth 100000 in
set_option maxHeartbeats 16000000 in
theorem disjunction_of (b n : Nat) (hn : n ≤ 100000)
    (hF : ∀ (s' : PX.S) (h' : Hd) (W : World), s'.rest.length < n → LS W b s' h' → Calls Try.prog 50 #[.pointer (some ⟨b, 0, none⟩)] W (Ends2 W b h' (PX.factor n s')))
    (s : PX.S) (h : Hd) (w : World) (hs : s.rest.length < n) (L : LS w b s h) :
    Calls Try.prog 26 #[.pointer (some ⟨b, 0, none⟩)] w (Ends2 w b h (PX.series (PX.series (PX.factor n) PX.gAnd 3) PX.gOr 4 s)) := by
  have hbl := L.ps.lt
  have hgl := L.ps.g_lt
  have U0 := (Tr.start L).alloc (.cells #[.int .u8 0, .int .u8 0, .int .u8 0, .int .u8 0, .slice none 0 0] 24)
  have z0 := newCond w
  have C1 := Lib.hid (series_of b n 40 PX.gOr 4 (PX.series (PX.factor n) PX.gAnd 3) s h _ U0.ls (by decide) hn (enters Try.func40 (by kernel_rfl) rfl) (fun s' h' W hs' L' => conjunction_of b n hn hF s' h' W hs' L') (fun s' s'' c _ hc => series_dec (dec_factor n) (by decide) 3 s' s'' c hc) hs)
  obtain ⟨R, hR⟩ : ∃ R, PX.series (PX.series (PX.factor n) PX.gAnd 3) PX.gOr 4 s = R := ⟨_, rfl⟩
  rw [hR] at C1 ⊢
  replace U0 := Lib.hid U0
  replace z0 := Lib.hid z0
  clear hF hR
  go_enter Try.func26, Try.ntmps26
  go_wp2_with (first
    | (go_at_call 39; refine call2 C1.out (fun c x s5 w5 vl vi hx5 F5 M5 L5 => ?_) (fun pl er w5 hx F => ⟨rfl, Ends2.bad (U0.out.fr.trans F) hx⟩)
       obtain ⟨xa, xl, xc, hu⟩ := M5.slice
       obtain ⟨xk, xt, xn, xv, xu⟩ := x
       obtain rfl : xu = .slice xa xl xc := hu
       dsimp only [condV]
       have U5 := U0.out.step1 F5 L5
       have z5 := F5.box z0.out (by omega) condT1
       have hs0 := lt_of_heap z0.out
       obtain ⟨v0, v1, v2, v3, v4⟩ := row_cond z5
       have fv := fun j => frozen_of_row _ _ j _ _ z5
       have V5 := Lib.hid z5
       replace U5 := Lib.hid U5
       replace M5 := Lib.hid M5))
  have Z := setCond_row ⟨xk, xt, xn, xv, .slice xa xl xc⟩ V5.out
  have hM : CondM (setCond w5 w.heap.size ⟨xk, xt, xn, xv, .slice xa xl xc⟩) (fun i => w.heap.size ≤ i) ⟨xk, xt, xn, xv, .slice xa xl xc⟩ c := by
    refine CondM.mono (W := w5) (Q := fun i => (w.alloc (.cells #[.int .u8 0, .int .u8 0, .int .u8 0, .int .u8 0, .slice none 0 0] 24)).heap.size ≤ i) (fun g C hq hh => ?_) (fun g hq => ?_) c _ M5.out
    · exact setCond_keep hh (Nat.ne_of_gt (Nat.lt_of_lt_of_le hs0 hq))
    · exact Nat.le_trans (Nat.le_of_lt hs0) hq
  have hT := Tr.cond (c := c) (r := R) (U5.out.setCond (Nat.le_refl _) hbl hgl ⟨xk, xt, xn, xv, .slice xa xl xc⟩ V5.out) hx5 hM
  refine bodyPost_ret (v := condV ⟨xk, xt, xn, xv, .slice xa xl xc⟩) ?_ rfl hT
  exact cond_results (p := 2) rfl _ _ w.heap.size ⟨xk, xt, xn, xv, .slice xa xl xc⟩ rfl Z

theorem factor_any (b : Nat) : ∀ (n : Nat), n ≤ 100000 → ∀ (s : PX.S) (h : Hd) (w : World), s.rest.length < n → LS w b s h →
    Calls Try.prog 50 #[.pointer (some ⟨b, 0, none⟩)] w (Ends2 w b h (PX.factor n s))
  | 0, _ => fun s h w hs _ => by omega
  | n + 1, hn => fun s h w hs L => by
    have ih := factor_any b n (by omega)
    refine factor_of b s h w n L (fun t s' h' W ht L' => ?_) (fun t s' h' W ht L' => ?_)
    · have := take_lt (symsOk_one (by decide)) ht
      exact ih s' h' W (by omega) L'
    · have := take_lt (symsOk_one (by decide)) ht
      exact disjunction_of b n (by omega) ih s' h' W (by omega) L'
theorem disj_any (b n : Nat) (hn : n ≤ 100000) (s : PX.S) (h : Hd) (w : World) (hs : s.rest.length < n) (L : LS w b s h) :
    Calls Try.prog 26 #[.pointer (some ⟨b, 0, none⟩)] w (Ends2 w b h (PX.disj n s)) :=
  disjunction_of b n hn (factor_any b n hn) s h w hs L
end PP
end Go.Proofs.Ytglbmiadgdadfaa
end

section
/- What every part of the parser keeps: pure. -/
namespace Go.Proofs.Ytglbmiadgdadfaa
open Go Go.RowKit
namespace PX
/-- What holds of an answer that is no error. -/
def Post {α : Type} (Q : α → S → Prop) (r : R α) : Prop := ∀ a s, r = .ok a s → Q a s
theorem Post.ok {α : Type} {Q : α → S → Prop} {a : α} {s : S} (h : Q a s) : Post Q (.ok a s) := fun _ _ e => by cases e; exact h
theorem Post.bad {α : Type} {Q : α → S → Prop} {p e : Int} : Post Q (.bad p e : R α) := fun _ _ e => by cases e
theorem Post.bind {α β : Type} {Q : α → S → Prop} {Q' : β → S → Prop} {r : R α} {f : α → S → R β} (h : Post Q r) (hf : ∀ a s, Q a s → Post Q' (f a s)) : Post Q' (r.bind f) := by
  intro b s' e
  cases r with
  | ok a s => exact hf a s (h a s rfl) b s' e
  | bad p x => cases e
theorem Post.mono {α : Type} {Q Q' : α → S → Prop} {r : R α} (h : Post Q r) (hq : ∀ a s, Q a s → Q' a s) : Post Q' r := fun a s e => hq a s (h a s e)
theorem Post.and {α : Type} {Q Q' : α → S → Prop} {r : R α} (h : Post Q r) (h' : Post Q' r) : Post (fun a s => Q a s ∧ Q' a s) r := fun a s e => ⟨h a s e, h' a s e⟩
/-- What taking a token, or making a location of it, leaves as it is. -/
structure Stb (P : S → Prop) : Prop where
  rest : ∀ s, P s → P { s with rest := s.rest.tail }
  grow : ∀ s, P s → sy (next s) = sNAME → s.rest ≠ [] → s.opn = true → s.locs.length ≠ 6 → s.locs.idxOf? (next s).x = none → P { s with rest := s.rest.tail, locs := s.locs ++ [(next s).x], init := s.init ++ [0] }
theorem next_empty {s : S} (h : s.rest = []) : sy (next s) = sNo := by
  unfold next sy; rw [h]; rfl
section
variable {P : S → Prop} (st : Stb P)
include st
theorem keep_takeIf (f : Bool) (s : S) (h : P s) : Post (fun _ s' => P s') (takeIf f s) := by
  unfold takeIf
  split
  · exact .ok (st.rest s h)
  · exact .bad
theorem keep_take (l : List ByteArray) (s : S) (h : P s) : Post (fun _ s' => P s') (take l s) := keep_takeIf st _ s h
theorem keep_takes (x : ByteArray) (s : S) (h : P s) : Post (fun _ s' => P s') (takes x s) := by
  unfold takes
  split
  · exact (keep_take st _ s h).bind fun _ s' h' => .ok h'
  · exact .ok h
theorem keep_takeWord (s : S) (h : P s) : Post (fun _ s' => P s') (takeWord s) := keep_takeIf st _ s h
theorem keep_takeLast (s : S) (h : P s) : Post (fun _ s' => P s') (takeLast s) := (keep_take st _ s h).bind fun _ s' h' => by
  split
  · exact .ok h'
  · exact .bad
theorem keep_num (s : S) (h : P s) : Post (fun _ s' => P s') (num s) := (keep_take st _ s h).bind fun _ _ h' => .ok h'
theorem keep_reg (s : S) (h : P s) : Post (fun _ s' => P s') (reg s) := (keep_take st _ s h).bind fun _ _ h' => .ok h'
theorem keep_arg (s : S) (h : P s) : Post (fun _ s' => P s') (arg s) := by
  unfold arg
  split
  · exact (keep_reg st s h).bind fun _ _ h' => .ok h'
  · exact (keep_num st s h).bind fun _ _ h' => .ok h'
theorem keep_loc (s : S) (h : P s) : Post (fun _ s' => P s') (loc s) := by
  unfold loc take takeIf
  split
  · rename_i hf
    have hsy : sy (next s) = sNAME := by
      unfold isS at hf
      simp only [List.any_cons, List.any_nil, Bool.or_false] at hf
      exact (by rw [PP.bbeq] at hf; exact (of_decide_eq_true hf).symm)
    have hne : s.rest ≠ [] := fun e => by
      rw [next_empty e] at hsy; revert hsy; decide
    simp only [R.bind]
    split
    · exact .ok (st.rest s h)
    · rename_i hi
      refine Post.bind (Q := fun _ s' => P s') ?_ fun _ _ h' => .ok h'
      unfold addLoc
      simp only
      by_cases ho : s.opn = true
      · rw [if_pos ho]
        by_cases h6 : s.locs.length = 6
        · rw [if_pos h6]; exact .bad
        · rw [if_neg h6]
          exact .ok (st.grow s h hsy hne ho h6 hi)
      · rw [if_neg ho]; exact .bad
  · exact .bad
theorem keep_operation (l : List ByteArray) (s : S) (h : P s) : Post (fun _ s' => P s') (operation l s) :=
  (keep_arg st s h).bind fun _ s h => (keep_take st l s h).bind fun _ s h => (keep_arg st s h).bind fun _ _ h => .ok h
theorem keep_store (s : S) (h : P s) : Post (fun _ s' => P s') (store s) :=
  (keep_loc st s h).bind fun _ s h => (keep_take st _ s h).bind fun _ s h => (keep_arg st s h).bind fun _ s h => (keep_takes st _ s h).bind fun _ _ h => .ok h
theorem keep_fence (s : S) (h : P s) : Post (fun _ s' => P s') (fence s) :=
  (keep_take st _ s h).bind fun _ s h => (keep_takes st _ s h).bind fun a s h => by
    split
    · exact .ok h
    · exact (keep_takes st _ s h).bind fun _ _ h => .ok h
theorem keep_skip (s : S) (h : P s) : Post (fun _ s' => P s') (skip s) :=
  (keep_take st _ s h).bind fun _ s h => (keep_num st s h).bind fun _ s h => (keep_take st _ s h).bind fun _ s h => (keep_operation st _ s h).bind fun _ _ h => .ok h
theorem keep_load (s : S) (h : P s) : Post (fun _ s' => P s') (load s) :=
  (keep_loc st s h).bind fun _ s h => (keep_takes st _ s h).bind fun _ _ h => .ok h
theorem keep_move (s : S) (h : P s) : Post (fun _ s' => P s') (move s) := (keep_operation st _ s h).bind fun _ _ h => .ok h
theorem keep_swap (s : S) (h : P s) : Post (fun _ s' => P s') (swap s) :=
  (keep_take st _ s h).bind fun _ s h => (keep_loc st s h).bind fun _ s h => (keep_arg st s h).bind fun _ _ h => .ok h
theorem keep_fetch (s : S) (h : P s) : Post (fun _ s' => P s') (fetch s) :=
  (keep_take st _ s h).bind fun _ s h => (keep_loc st s h).bind fun _ s h => (keep_arg st s h).bind fun _ _ h => .ok h
theorem keep_cas (s : S) (h : P s) : Post (fun _ s' => P s') (cas s) :=
  (keep_take st _ s h).bind fun _ s h => (keep_loc st s h).bind fun _ s h => (keep_arg st s h).bind fun _ s h => (keep_arg st s h).bind fun _ _ h => .ok h
theorem keep_source (s : S) (h : P s) : Post (fun _ s' => P s') (source s) := by
  unfold source
  simp only
  split
  · exact keep_load st s h
  split
  · exact keep_move st s h
  split
  · exact keep_move st s h
  split
  · exact keep_swap st s h
  split
  · exact keep_fetch st s h
  split
  · exact keep_cas st s h
  · exact .bad
theorem keep_assignment (s : S) (h : P s) : Post (fun _ s' => P s') (assignment s) :=
  (keep_reg st s h).bind fun _ s h => (keep_take st _ s h).bind fun _ s h => (keep_source st s h).bind fun _ _ h => .ok h
theorem keep_ins (s : S) (h : P s) : Post (fun _ s' => P s') (ins s) := by
  unfold ins
  simp only
  split
  · exact keep_store st s h
  split
  · exact keep_assignment st s h
  split
  · exact keep_fence st s h
  split
  · exact keep_skip st s h
  · exact .bad
theorem keep_more {kid : S → R CondD} (hk : ∀ s, P s → Post (fun _ s' => P s') (kid s)) (g : ByteArray) : ∀ (n : Nat) (acc : List CondD) (s : S), P s → Post (fun _ s' => P s') (more kid g n acc s)
  | 0, acc, s, h => .ok h
  | n + 1, acc, s, h => (keep_takes st g s h).bind fun b s h => by
    split
    · exact (hk s h).bind fun c s h => keep_more hk g n _ s h
    · exact .ok h
theorem keep_series {kid : S → R CondD} (hk : ∀ s, P s → Post (fun _ s' => P s') (kid s)) (g : ByteArray) (kind : Int) (s : S) (h : P s) : Post (fun _ s' => P s') (series kid g kind s) :=
  (hk s h).bind fun _ s h => (keep_more st hk g _ _ s h).bind fun _ _ h => .ok h
theorem keep_regCond (s : S) (h : P s) : Post (fun _ s' => P s') (regCond s) :=
  (keep_num st s h).bind fun _ s h => (keep_take st _ s h).bind fun _ s h => (keep_reg st s h).bind fun _ s h => (keep_take st _ s h).bind fun _ s h => (keep_num st s h).bind fun _ _ h => .ok h
theorem keep_locCond (s : S) (h : P s) : Post (fun _ s' => P s') (locCond s) :=
  (keep_loc st s h).bind fun _ s h => (keep_take st _ s h).bind fun _ s h => (keep_num st s h).bind fun _ _ h => .ok h
theorem keep_truth (s : S) (h : P s) : Post (fun _ s' => P s') (truth s) := (keep_take st _ s h).bind fun _ _ h => .ok h
theorem keep_factor : ∀ (n : Nat) (s : S), P s → Post (fun _ s' => P s') (factor n s)
  | 0, s, h => .bad
  | n + 1, s, h => by
    unfold factor
    simp only
    split
    · exact (keep_take st _ s h).bind fun _ s h => (keep_factor n s h).bind fun _ _ h => .ok h
    split
    · exact (keep_take st _ s h).bind fun _ s h => (keep_series st (fun s h => keep_series st (keep_factor n) _ _ s h) _ _ s h).bind fun _ s h => (keep_take st _ s h).bind fun _ _ h => .ok h
    split
    · exact keep_regCond st s h
    split
    · exact keep_locCond st s h
    split
    · exact keep_truth st s h
    · exact .bad
theorem keep_disj (n : Nat) (s : S) (h : P s) : Post (fun _ s' => P s') (disj n s) := keep_series st (fun s h => keep_series st (keep_factor st n) _ _ s h) _ _ s h
theorem keep_lastCond (p : Int) (s : S) (h : P s) : Post (fun _ s' => P s') (lastCond p s) :=
  (keep_disj st _ s h).bind fun c s h => (keep_takeLast st s h).bind fun _ s h => by
    split
    · exact .bad
    · exact .ok h
end
/-- How deep a condition is that is read. -/
theorem deepL_all {m : Nat} : ∀ (l : List CondD), (∀ c ∈ l, deep c ≤ m) → deepL l ≤ m
  | [], _ => Nat.zero_le _
  | c :: l, h => by
    simp only [deepL]
    have h1 := h c List.mem_cons_self
    have h2 := deepL_all l fun d hd => h d (List.mem_cons_of_mem _ hd)
    omega
theorem deep_more {kid : S → R CondD} {m : Nat} (hk : ∀ s, Post (fun c _ => deep c ≤ m) (kid s)) (g : ByteArray) : ∀ (n : Nat) (acc : List CondD) (s : S), (∀ c ∈ acc, deep c ≤ m) → Post (fun l _ => ∀ c ∈ l, deep c ≤ m) (more kid g n acc s)
  | 0, acc, s, h => .ok h
  | n + 1, acc, s, h => by
    unfold more
    refine Post.bind (Q := fun _ _ => True) (fun _ _ _ => trivial) fun b s _ => ?_
    split
    · refine (hk s).bind fun c s hc => deep_more hk g n _ s fun d hd => ?_
      rcases List.mem_append.1 hd with hd | hd
      · exact h d hd
      · rw [List.mem_singleton.1 hd]; exact hc
    · exact .ok h
theorem deep_series {kid : S → R CondD} {m : Nat} (hk : ∀ s, Post (fun c _ => deep c ≤ m) (kid s)) (g : ByteArray) (kind : Int) (s : S) : Post (fun c _ => deep c ≤ m + 1) (series kid g kind s) := by
  unfold series
  refine (hk s).bind fun c s' hc => (deep_more hk g _ [c] s' fun d hd => by rw [List.mem_singleton.1 hd]; exact hc).bind fun l s'' hl => ?_
  match l, hl with
  | [], _ => exact .ok (by show deepL [] + 1 ≤ _; simp [deepL])
  | [d], hl => exact .ok (by show deep d ≤ _; have := hl d List.mem_cons_self; omega)
  | d :: e :: r, hl => exact .ok (by show deepL (d :: e :: r) + 1 ≤ _; have := deepL_all _ hl; omega)
theorem deep_leafs (s : S) : Post (fun c _ => deep c ≤ 1) (regCond s) ∧ Post (fun c _ => deep c ≤ 1) (locCond s) ∧ Post (fun c _ => deep c ≤ 1) (truth s) := by
  have tr : ∀ {α : Type} (r : R α), Post (fun _ _ => True) r := fun r _ _ _ => trivial
  refine ⟨?_, ?_, ?_⟩
  · exact (tr _).bind fun _ s _ => (tr _).bind fun _ s _ => (tr _).bind fun _ s _ => (tr _).bind fun _ s _ => (tr _).bind fun _ s _ => .ok (Nat.le_refl 1)
  · exact (tr _).bind fun _ s _ => (tr _).bind fun _ s _ => (tr _).bind fun _ s _ => .ok (Nat.le_refl 1)
  · exact (tr _).bind fun _ s _ => .ok (Nat.le_refl 1)
theorem deep_factor : ∀ (n : Nat) (s : S), Post (fun c _ => deep c ≤ 2 * n) (factor n s)
  | 0, s => .bad
  | n + 1, s => by
    have tr : ∀ {α : Type} (r : R α), Post (fun _ _ => True) r := fun r _ _ _ => trivial
    have hl := deep_leafs s
    unfold factor
    simp only
    split
    · exact (tr _).bind fun _ s _ => (deep_factor n s).bind fun c s hc => .ok (by show deepL [c] + 1 ≤ _; simp only [deepL]; omega)
    split
    · exact (tr _).bind fun _ s _ => (deep_series (fun s => deep_series (deep_factor n) _ _ s) _ _ s).bind fun c s hc => (tr _).bind fun _ s _ => .ok (by omega)
    split
    · exact hl.1.mono fun _ _ h => by omega
    split
    · exact hl.2.1.mono fun _ _ h => by omega
    split
    · exact hl.2.2.mono fun _ _ h => by omega
    · exact .bad
theorem deep_disj (n : Nat) (s : S) : Post (fun c _ => deep c ≤ 2 * n + 2) (disj n s) := deep_series (fun s => deep_series (deep_factor n) _ _ s) _ _ s
/-- Only what is still to be read, and the locations with their values, have moved. -/
def Lv (s s' : S) : Prop := s'.opn = s.opn ∧ s'.name = s.name ∧ s'.threads = s.threads ∧ s'.ask = s.ask ∧ s'.cond = s.cond ∧ s'.done = s.done ∧ s'.size = s.size
theorem Lv.refl (s : S) : Lv s s := ⟨rfl, rfl, rfl, rfl, rfl, rfl, rfl⟩
theorem lv_stb (s0 : S) : Stb (Lv s0) := ⟨fun _ h => h, fun _ h _ _ _ _ _ => h⟩
theorem len_stb (n : Nat) : Stb fun s => s.rest.length ≤ n :=
  ⟨fun s h => by show s.rest.tail.length ≤ n; rw [List.length_tail]; omega, fun s h _ _ _ _ _ => by show s.rest.tail.length ≤ n; rw [List.length_tail]; omega⟩
end PX
end Go.Proofs.Ytglbmiadgdadfaa
end
