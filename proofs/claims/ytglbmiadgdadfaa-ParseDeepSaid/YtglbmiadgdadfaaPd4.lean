/- ParSer, ParDec, ParAll, ParDeep, ParDeepRef, AppRows in one text, for the claim. -/
import Derived.Test.YtglbmiadgdadfaaPd3
import Derived.WalkKit
import Derived.BigRegion
import Derived.Laws.AppendOwnNone
import Derived.Laws.OwnMore
import Derived.Deep.RegionLaw
import Derived.Deep.RegionLawGrows
import Derived.Test.YtglbmiadgdadfaaProg

section
/- The parser's conditions: a series. -/
namespace Go.Proofs.Ytglbmiadgdadfaa
open Go.RowKit Go.Shelf

attribute [local go_sem] Oper.semAt_some
namespace PP
theorem take_lt {l : List ByteArray} {s s' : PX.S} {t : TokD} (hl : SymsOk l) (h : PX.take l s = .ok t s') : s'.rest.length < s.rest.length := by
  unfold PX.take PX.takeIf at h
  split at h
  · rename_i hf
    have hne := isS_ne hl hf
    cases h
    show s.rest.tail.length < _
    rw [List.length_tail]
    have := List.length_pos_iff.2 hne
    omega
  · cases h
theorem takes_lt {x : ByteArray} {s s' : PX.S} (hx : x ≠ ⟨#[]⟩) (h : PX.takes x s = .ok true s') : s'.rest.length < s.rest.length := by
  unfold PX.takes at h
  split at h
  · rcases ht : PX.take [x] s with ⟨t, s1⟩ | ⟨pl, er⟩
    · rw [ht] at h; cases h; exact take_lt (symsOk_one hx) ht
    · rw [ht] at h; cases h
  · cases h
mutual
theorem CondM.mono' {W W' : World} {Q Q' : Nat → Prop} (hW : ∀ (g : Nat) (C : Array Value), Q g → W.heap[g]? = some (.cells C 24 (0, 0)) → W'.heap[g]? = some (.cells C 24 (0, 0))) (hQ : ∀ (g : Nat) (C : Array Value), Q g → W.heap[g]? = some (.cells C 24 (0, 0)) → Q' g) : ∀ (c : PX.CondD) (x : CV), CondM W Q x c → CondM W' Q' x c
  | .mk k t n v kids, x, h => by
    refine ⟨h.1, h.2.1, h.2.2.1, h.2.2.2.1, h.2.2.2.2.imp id ?_⟩
    rintro ⟨g, cap, C, ys, h1, h2, h3, h4, h5, h6, h7, h8⟩
    exact ⟨g, cap, C, ys, h1, h2, h3, h4, hQ g C h5 h6, hW g C h5 h6, h7, KidsM.mono' hW hQ kids ys h8⟩
theorem KidsM.mono' {W W' : World} {Q Q' : Nat → Prop} (hW : ∀ (g : Nat) (C : Array Value), Q g → W.heap[g]? = some (.cells C 24 (0, 0)) → W'.heap[g]? = some (.cells C 24 (0, 0))) (hQ : ∀ (g : Nat) (C : Array Value), Q g → W.heap[g]? = some (.cells C 24 (0, 0)) → Q' g) : ∀ (l : List PX.CondD) (ys : List CV), KidsM W Q ys l → KidsM W' Q' ys l
  | [], _, h => h
  | c :: r, ys, h => by
    obtain ⟨y, yr, rfl, h1, h2⟩ := h
    exact ⟨y, yr, rfl, CondM.mono' hW hQ c y h1, KidsM.mono' hW hQ r yr h2⟩
end
theorem Tr.grow {w W W' : World} {b base n size : Nat} {s : PX.S} {h g : Hd} {v : Value} {xs : List Value} (T : Tr w b h W s g) (hO : W.ownsRow base 24 size v n xs) (hb : w.heap.size < base) (hbw : b < w.heap.size) (hG : W.grownBy W' v.ownBlock) : Tr w b h W' s g := by
  have keep : ∀ (i : Nat) (D : Array Value) (t : TypeId), t ≠ 24 → W.heap[i]? = some (.cells D t (0, 0)) → W'.heap[i]? = some (.cells D t (0, 0)) := fun i D t ht hi => by
    rw [hG.block i (lt_of_heap hi) fun e' => by
      obtain ⟨_, cur', h'⟩ := own_rowT hO e'.symm
      rw [hi] at h'; cases h'; exact ht rfl]
    exact hi
  refine ⟨⟨hG.os.trans T.fr.os, hG.tape.trans T.fr.tape, hG.output.trans T.fr.output, Nat.le_trans T.fr.size hG.size, fun i o hi hib => ?_⟩, ⟨?_, ⟨fun ho => ⟨own_sameT (T.ls.locs.1 ho).1 fun i cur hi hh => keep i cur _ (by decide) hh, (T.ls.locs.1 ho).2⟩, fun ho => ?_⟩, fun ho => own_sameT (T.ls.init ho) fun i cur hi hh => keep i cur _ (by decide) hh⟩, T.hd⟩
  · have h1 := T.fr.block i o hi hib
    rw [hG.block i (lt_of_heap h1) fun e' => by
      have := (own_rowT hO e'.symm).1
      have := lt_of_heap hi
      omega]
    exact h1
  · obtain ⟨vr, h1, h2, h3, h4⟩ := T.ls.ps
    exact ⟨vr, keep b _ _ (by decide) h1, h2.same fun C hC => keep _ _ _ (by decide) hC, h3, Nat.lt_of_lt_of_le h4 hG.size⟩
  · obtain ⟨e1, a, cap, e2, e3⟩ := T.ls.locs.2 ho
    refine ⟨e1, a, cap, e2, fun h0 => ?_⟩
    obtain ⟨i, off, D, e4, e5, e6, e7⟩ := e3 h0
    exact ⟨i, off, D, e4, e5, (hG.block i (lt_of_heap e6) fun e' => by
      have := (own_rowT hO e'.symm).1
      omega).trans e6, e7⟩
theorem infoCond : ∃ i : TypeInfo, Try.prog.info? 24 = some i ∧ i.zero = some (.agg #[.int .u8 0, .int .u8 0, .int .u8 0, .int .u8 0, .slice none 0 0]) ∧ i.size = 5 ∧ i.bytes = 32 := by
  have h : (Try.prog.info? 24).map (fun i => (i.zero, i.size, i.bytes)) = some (some (.agg #[.int .u8 0, .int .u8 0, .int .u8 0, .int .u8 0, .slice none 0 0]), 5, 32) := by kernel_rfl
  cases hi : Try.prog.info? 24 with
  | none => rw [hi] at h; cases h
  | some i =>
    rw [hi] at h
    simp only [Option.map_some, Option.some.injEq, Prod.mk.injEq] at h
    exact ⟨i, rfl, h.1, h.2.1, h.2.2⟩
theorem cond_cells (w : World) (x : CV) : ∀ (j : Nat) (u : Value), (condC x).toList[j]? = some u → (w.alloc (.cells (condC x) 24)).cell? (Addr.add ⟨w.heap.size, 0, none⟩ j) = some u := fun j u hu => by
  rw [Go.WideShapes.add_plain, Nat.zero_add]
  have := cell_of_row _ w.heap.size j _ _ _ (heap_alloc_new w (.cells (condC x) 24))
  rw [this, ← Array.getElem?_toList]
  exact hu
def SerI (w : World) (b : Nat) (h : Hd) (N M : Nat) (rK : PX.S → PX.R PX.CondD) (x : ByteArray) (RM : PX.R (List PX.CondD)) (o : Value) (wr : World) : Prop :=
  ∃ (acc : List PX.CondD) (ys : List CV) (s' : PX.S) (g' : Hd) (m : Nat), Tr w b h wr s' g' ∧ wr.ownsRow (w.heap.size + 1) 24 5 o acc.length (cellsC ys) ∧ KidsM wr (fun i => w.heap.size < i ∧ o.ownBlock ≠ some i) ys acc ∧
    wr.heap[w.heap.size]? = some (.cells (condC zC) 24 (0, 0)) ∧ 0 < acc.length ∧ s'.rest.length < m ∧ acc.length + s'.rest.length ≤ M ∧ PX.more rK x m acc s' = RM
def restLen (b : Nat) (W : World) : Nat := match W.cell? ⟨b, 0, none⟩ with
  | some (.slice _ n _) => n
  | _ => 0
theorem restLen_ps {W : World} {b : Nat} {s : PX.S} {h : Hd} (p : PS W b s h) : restLen b W = s.rest.length := by
  obtain ⟨vr, h1, ⟨_, a, cap, rfl, _⟩, _⟩ := p
  unfold restLen
  rw [cell_of_row _ b 0 _ _ _ h1]
  rfl
set_option maxRecDepth 100000 in
set_option maxHeartbeats 16000000 in
theorem series_of (b N : Nat) (kf : Nat) (x : ByteArray) (kind : Int) (rK : PX.S → PX.R PX.CondD) (s : PX.S) (h : Hd) (w : World) (L : LS w b s h) (hx : x ≠ ⟨#[]⟩) (hN : N ≤ 100000)
    (hent : ∀ args W, (callFunc kf args).run Try.prog W = .ok (.enter kf args) W)
    (hK : ∀ (s' : PX.S) (h' : Hd) (W : World), s'.rest.length < N → LS W b s' h' → Calls Try.prog kf #[.pointer (some ⟨b, 0, none⟩)] W (Ends2 W b h' (rK s')))
    (hdec : ∀ (s' s'' : PX.S) (c : PX.CondD), s'.rest.length < N → rK s' = .ok c s'' → s''.rest.length < s'.rest.length) (hs : s.rest.length < N) :
    Calls Try.prog 39 #[.pointer (some ⟨b, 0, none⟩), .string x, .int .u8 kind, .func (.func kf) #[] #[]] w (Ends2 w b h (PX.series rK x kind s)) := by
  have hbl := L.ps.lt
  have hgl := L.ps.g_lt
  have U0 := (Tr.start L).alloc (.cells #[.int .u8 0, .int .u8 0, .int .u8 0, .int .u8 0, .slice none 0 0] 24)
  have z0 := newCond w
  have C1 := Lib.hid (hK s h _ hs U0.ls)
  have hT := Lib.hid fun s' h' W (p : PS W b s' h') => takes_any b s' h' x W p hx
  obtain ⟨R, e0⟩ : ∃ R, PX.series rK x kind s = R := ⟨_, rfl⟩
  rw [e0]
  replace e0 := Lib.hid e0
  replace U0 := Lib.hid U0
  replace z0 := Lib.hid z0
  replace hK := Lib.hid hK
  replace hdec := Lib.hid hdec
  go_enter Try.func39, Try.ntmps39
  go_wp2_with fail
  refine call2 C1.out (fun c x1 s1 w1 vl vi hx1 F1 M1 L1 => ?_) (fun pl er w1 hx F => ⟨rfl, Ends2.bad (U0.out.fr.trans F) (by rw [← e0.out]; unfold PX.series; rw [hx]; rfl)⟩)
  obtain ⟨xa, xl, xc, hu⟩ := M1.slice
  obtain ⟨xk, xt, xn, xv, xu⟩ := x1
  obtain rfl : xu = .slice xa xl xc := hu
  dsimp only [condV]
  have U1 := (U0.out.step1 F1 L1).alloc (.cells (condC ⟨xk, xt, xn, xv, .slice xa xl xc⟩) 24)
  have q1 := F1.box z0.out (by omega) condT1
  have hs1 := lt_of_heap q1
  have hd1 := hdec.out _ _ _ hs hx1
  obtain ⟨RM, hRM⟩ : ∃ RM, PX.more rK x s.rest.length [c] s1 = RM := ⟨_, rfl⟩
  have hRM' := hRM
  replace hRM := Lib.hid hRM
  have hI : Hid (SerI w b h N s.rest.length rK x RM (.slice (some ⟨w1.heap.size, 0, none⟩) 1 1) (w1.alloc (.cells (condC ⟨xk, xt, xn, xv, .slice xa xl xc⟩) 24))) := Lib.hid (by
    have ha := heap_alloc_new w1 (.cells (condC ⟨xk, xt, xn, xv, .slice xa xl xc⟩) 24)
    refine ⟨[c], [⟨xk, xt, xn, xv, .slice xa xl xc⟩], s1, _, s.rest.length, U1, ⟨rfl, .inr ⟨w1.heap.size, 1, _, rfl, hs1, ha, Nat.le_refl _, by unfold maxLen; omega, rfl, ?_⟩⟩, ⟨_, [], rfl, ?_, rfl⟩, row_alloc q1 _, Nat.one_pos, hd1, ?_, hRM'⟩
    · show List.take 5 (condC _).toList = (condC _).toList ++ []
      rw [List.append_nil]
      exact List.take_of_length_le (Nat.le_refl 5)
    · refine CondM.mono' ?_ ?_ c _ M1
      · intro g C hq hh
        exact row_alloc hh _
      · intro g C hq hh
        refine ⟨?_, ?_⟩
        · have h2 : (w.alloc (.cells #[.int .u8 0, .int .u8 0, .int .u8 0, .int .u8 0, .slice none 0 0] 24)).heap.size ≤ g := hq
          rw [World.size_alloc] at h2
          exact h2
        · have h3 := lt_of_heap hh
          intro e
          have : w1.heap.size = g := by simpa [Value.ownBlock] using e
          omega
    · show 1 + s1.rest.length ≤ _
      omega)
  clear U1
  unfold condC at hI
  go_wp2_with fail
  go_loopw [9] (fun o wr => SerI w b h N s.rest.length rK x RM o wr) (fun _ wr => restLen b wr)
  case atStart => exact hI.out
  case round =>
    obtain ⟨acc, ys, s', g', m, T, hO, hM, hz, h0, hm, hle, hR⟩ := hrel
    obtain ⟨m, rfl⟩ : ∃ m', m = m' + 1 := ⟨m - 1, by omega⟩
    rcases rt : PX.takes x s' with ⟨r, s2⟩ | ⟨pl, er⟩
    · cases r
      · have hRMk : RM = .ok acc s2 := by rw [← hR]; simp only [PX.more, PX.R.bind, rt, Bool.false_eq_true, if_false]
        have c1 := hT.out s' g' wr T.ls.ps
        rw [rt] at c1
        replace c1 := Lib.hid c1
        have hmv := mv_takes rt
        replace hO := Lib.hid hO
        replace hM := Lib.hid hM
        clear rt hR
        obtain ⟨n, hn⟩ : ∃ n, acc.length = n := ⟨_, rfl⟩
        obtain ⟨-, ⟨-, hz0⟩ | ⟨g9, cap9, cur, rfl, hg9, hcur, hnc, hcm, hsz, htk⟩⟩ := hO.out
        · omega
        rw [hn] at htk hnc
        by_cases h1 : n = 1
        · subst h1
          obtain ⟨c', rfl⟩ : ∃ c', acc = [c'] := by
            match acc, hn with
            | [c'], _ => exact ⟨c', rfl⟩
          obtain ⟨y, yr, rfl, hy, rfl⟩ := hM.out
          obtain ⟨ya, yl, yc, hu⟩ := hy.slice
          obtain ⟨yk, yt, yn, yv, yu⟩ := y
          obtain rfl : yu = .slice ya yl yc := hu
          have hcur5 : ∀ j, j < 5 → cur[j]? = (condC ⟨yk, yt, yn, yv, .slice ya yl yc⟩)[j]? := fun j hj => by
            have e := congrArg (fun l : List Value => l[j]?) htk
            simp only [Nat.one_mul, List.getElem?_take, hj, if_true] at e
            rw [Array.getElem?_toList] at e
            rw [e]
            simp [cellsC]
          rw [hn]
          go_wp2_with (first
            | (go_at_call 48; refine (c1.out).mono ?_; rintro e w2 ⟨F2, rfl, P2⟩; dsimp only
               have U2 := T.step0 F2 hmv P2
               have z2 := F2.box hz (by omega) (by simp)
               have g2 := F2.box hcur (by omega) (by simp)
               have y0 := (cell_of_row _ g9 0 _ _ _ g2).trans (hcur5 0 (by omega))
               have y1 := (cell_of_row _ g9 1 _ _ _ g2).trans (hcur5 1 (by omega))
               have y2 := (cell_of_row _ g9 2 _ _ _ g2).trans (hcur5 2 (by omega))
               have y3 := (cell_of_row _ g9 3 _ _ _ g2).trans (hcur5 3 (by omega))
               have y4 := (cell_of_row _ g9 4 _ _ _ g2).trans (hcur5 4 (by omega))
               unfold condC at y0 y1 y2 y3 y4
               simp only [List.getElem?_toArray, List.getElem?_cons_zero, List.getElem?_cons_succ] at y0 y1 y2 y3 y4
               obtain ⟨v0, v1, v2, v3, v4⟩ := row_cond z2
               have fv := fun j => frozen_of_row _ _ j _ _ z2
               have V2 := Lib.hid z2
               have G2 := Lib.hid g2
               have FF := Lib.hid F2
               clear g2
               replace U2 := Lib.hid U2))
          have Z := setCond_row ⟨yk, yt, yn, yv, .slice ya yl yc⟩ V2.out
          have hC : CondM (setCond w2 w.heap.size ⟨yk, yt, yn, yv, .slice ya yl yc⟩) (fun i => w.heap.size ≤ i) ⟨yk, yt, yn, yv, .slice ya yl yc⟩ c' := by
            refine CondM.mono ?_ ?_ c' _ hy
            · intro g C hq hh
              have h1 : w.heap.size < g := hq.1
              exact setCond_keep (FF.out.box hh (by omega) (by simp)) (Nat.ne_of_gt h1)
            · intro g hq
              exact Nat.le_of_lt hq.1
          have hTT := Tr.cond (c := c') (r := R) (U2.out.setCond (Nat.le_refl _) hbl hgl ⟨yk, yt, yn, yv, .slice ya yl yc⟩ V2.out) (by rw [← e0.out]; unfold PX.series; rw [hx1]; simp only [PX.R.bind]; rw [hRM', hRMk]) hC
          refine bodyPost_ret (v := condV ⟨yk, yt, yn, yv, .slice ya yl yc⟩) ?_ rfl hTT
          exact cond_results (p := 8) rfl _ _ w.heap.size ⟨yk, yt, yn, yv, .slice ya yl yc⟩ rfl Z
        · have t1 : ((n : Int) == 1) = false := by simp; omega
          rw [hn]
          go_wp2_with (first
            | (go_at_call 48; refine (c1.out).mono ?_; rintro e w2 ⟨F2, rfl, P2⟩; dsimp only
               have U2 := T.step0 F2 hmv P2
               have z2 := F2.box hz (by omega) (by simp)
               have g2 := F2.box hcur (by omega) (by simp)
               obtain ⟨v0, v1, v2, v3, v4⟩ := row_cond z2
               have fv := fun j => frozen_of_row _ _ j _ _ z2
               have V2 := Lib.hid z2
               have G2 := Lib.hid g2
               have FF := Lib.hid F2
               clear g2
               replace U2 := Lib.hid U2))
          have Z := setCond_row { k := kind, u := .slice (some ⟨g9, 0, none⟩) n cap9 } V2.out
          have hC : CondM (setCond w2 w.heap.size { k := kind, u := .slice (some ⟨g9, 0, none⟩) n cap9 }) (fun i => w.heap.size ≤ i) { k := kind, u := .slice (some ⟨g9, 0, none⟩) n cap9 } (.mk kind 0 0 0 acc) := by
            refine ⟨rfl, rfl, rfl, rfl, .inr ⟨g9, cap9, cur, ys, by rw [hn], h0, by rw [hn]; exact hnc, hcm, Nat.le_of_lt hg9, setCond_keep G2.out (by omega), by rw [hn]; exact htk, ?_⟩⟩
            refine KidsM.mono (W := wr) (Q := fun i => w.heap.size < i ∧ (Value.slice (some ⟨g9, 0, none⟩) acc.length cap9).ownBlock ≠ some i) (fun g C hq hh => ?_) (fun g hq => ?_) acc ys hM.out
            · have h1 : w.heap.size < g := hq.1
              exact setCond_keep (FF.out.box hh (by omega) (by simp)) (Nat.ne_of_gt h1)
            · exact Nat.le_of_lt hq.1
          have hTT := Tr.cond (c := .mk kind 0 0 0 acc) (r := R) (U2.out.setCond (Nat.le_refl _) hbl hgl { k := kind, u := .slice (some ⟨g9, 0, none⟩) n cap9 } V2.out) (by
            rw [← e0.out]; unfold PX.series; rw [hx1]; simp only [PX.R.bind]; rw [hRM', hRMk]
            match acc, hn, h0 with
            | [], _, h0 => simp at h0
            | [_], hn, _ => exact absurd hn.symm h1
            | _ :: _ :: _, _, _ => rfl) hC
          refine bodyPost_ret (v := condV { k := kind, u := .slice (some ⟨g9, 0, none⟩) n cap9 }) ?_ rfl hTT
          exact cond_results (p := 8) rfl _ _ w.heap.size { k := kind, u := .slice (some ⟨g9, 0, none⟩) n cap9 } rfl Z
      · have hmv := mv_takes rt
        have hs2' : s2.rest.length < s'.rest.length := takes_lt hx rt
        have c1 := hT.out s' g' wr T.ls.ps
        rw [rt] at c1
        replace c1 := Lib.hid c1
        have hN2 : s2.rest.length < N := by omega
        have hkk := fun W (L' : LS W b s2 g') => hK.out s2 g' W hN2 L'
        rcases rk : rK s2 with ⟨c3, s3⟩ | ⟨pl, er⟩
        · have hd3 := hdec.out _ _ _ hN2 rk
          have hRMk : PX.more rK x m (acc ++ [c3]) s3 = RM := by rw [← hR]; simp only [PX.more, PX.R.bind, rt, if_true, rk]
          rw [rk] at hkk
          replace hkk := Lib.hid hkk
          replace hO := Lib.hid hO
          replace hM := Lib.hid hM
          replace hz := Lib.hid hz
          obtain ⟨i0, hi0, hy0, hy1, hy2⟩ := infoCond
          clear rt rk hR
          go_wp2_with (first
            | (go_at_call 48; refine (c1.out).mono ?_; rintro e w2 ⟨F2, rfl, P2⟩; dsimp only
               have U2 := T.step0 F2 hmv P2))
          refine (hkk.out _ U2.ls).mono ?_
          rintro e w3 ⟨F3, x3, rfl, M3, vl3, vi3, L3⟩
          obtain ⟨ya, yl, yc, hu⟩ := M3.slice
          obtain ⟨yk, yt, yn, yv, yu⟩ := x3
          obtain rfl : yu = .slice ya yl yc := hu
          dsimp only [condV]
          have U3 := (U2.step1 F3 L3).alloc (.cells (condC ⟨yk, yt, yn, yv, .slice ya yl yc⟩) 24)
          have hk3 : ∀ (i : Nat) (C : Array Value), i ≠ b → wr.heap[i]? = some (.cells C 24 (0, 0)) → (w3.alloc (.cells (condC ⟨yk, yt, yn, yv, .slice ya yl yc⟩) 24)).heap[i]? = some (.cells C 24 (0, 0)) := fun i C hi hh => row_alloc (F3.box (F2.box hh hi (by simp)) hi condT1) _
          have O3 := own_sameT hO.out fun i C hi hh => hk3 i C (by omega) hh
          have hlt3 : w.heap.size < w3.heap.size := lt_of_heap (F3.box (F2.box hz.out (by omega) (by simp)) (by omega) condT1)
          have r2 := Lib.hid (cond_cells w3 ⟨yk, yt, yn, yv, .slice ya yl yc⟩)
          have r3 : Hid (∀ u ∈ (condC ⟨yk, yt, yn, yv, .slice ya yl yc⟩).toList, u.oneCell' = true) := Lib.hid fun u hu => by
            simp only [condC, List.mem_cons, List.not_mem_nil, or_false] at hu
            rcases hu with rfl | rfl | rfl | rfl | rfl <;> rfl
          have hwr : wr.heap.size ≤ w3.heap.size := Nat.le_trans F2.size F3.size
          have hw2 := F2.size
          replace O3 := Lib.hid O3
          replace U3 := Lib.hid U3
          replace hk3 := Lib.hid hk3
          replace M3 := Lib.hid M3
          clear U2
          go_wp2_with (at_builtin; refine wpList_append_own_at _ rfl _ _ 22 rfl (w.heap.size + 1) 24 i0 _ 5 32 Try.underlying22 hi0 hy0 hy1 hy2 rfl (by decide) _ _ _ rfl O3.out ⟨w3.heap.size, 0, none⟩ 1 1 _ rfl rfl r2.out r3.out (by unfold maxLen; omega) (by omega) (by simp; omega) ?_; intro v' w4 hown4 hgrow4 _ hblk4)
          have hG : (w3.alloc (.cells (condC ⟨yk, yt, yn, yv, .slice ya yl yc⟩) 24)).grownBy w4 u9.ownBlock := hgrow4
          have hB : v'.ownBlock = u9.ownBlock ∨ v'.ownBlock = some (w3.heap.size + 1) := by
            have := hblk4
            simp only [World.size_alloc] at this
            exact this
          have hwlt : w.heap.size < wr.heap.size := lt_of_heap hz.out
          have T4 := Tr.grow U3.out O3.out (Nat.lt_succ_self _) hbl hG
          have hgo : ∀ (i : Nat) (C : Array Value), u9.ownBlock ≠ some i → (w3.alloc (.cells (condC ⟨yk, yt, yn, yv, .slice ya yl yc⟩) 24)).heap[i]? = some (.cells C 24 (0, 0)) → w4.heap[i]? = some (.cells C 24 (0, 0)) := fun i C hi hh => (hG.block i (lt_of_heap hh) (fun e => hi e.symm)).trans hh
          have hown9 : ∀ i, u9.ownBlock = some i → w.heap.size < i ∧ i < wr.heap.size := fun i hi => by
            obtain ⟨a1, C, a2⟩ := own_rowT hO.out hi
            exact ⟨a1, lt_of_heap a2⟩
          refine ⟨⟨acc ++ [c3], ys ++ [⟨yk, yt, yn, yv, .slice ya yl yc⟩], s3, _, m, T4, ?_, KidsM.snoc _ _ (KidsM.mono' ?_ ?_ acc ys hM.out) (CondM.mono' ?_ ?_ c3 _ M3.out), ?_, ?_, ?_, ?_, hRMk⟩, ?_⟩
          · rw [List.length_append, List.length_singleton, cellsC_snoc]
            exact hown4
          · intro g C hq hh
            exact hgo g C hq.2 (hk3.out g C (by have := hq.1; omega) hh)
          · intro g C hq hh
            refine ⟨hq.1, fun e => ?_⟩
            rcases hB with e2 | e2
            · exact hq.2 (e2 ▸ e)
            · rw [e2] at e
              have h3 := lt_of_heap hh
              have : w3.heap.size + 1 = g := by simpa using e
              omega
          · intro g C hq hh
            have hq' : w2.heap.size ≤ g := hq
            exact hgo g C (fun e => by have := (hown9 g e).2; omega) (row_alloc hh _)
          · intro g C hq hh
            have hq' : w2.heap.size ≤ g := hq
            have h3 := lt_of_heap hh
            refine ⟨by omega, fun e => ?_⟩
            rcases hB with e2 | e2
            · rw [e2] at e
              have := (hown9 g e).2
              omega
            · rw [e2] at e
              have : w3.heap.size + 1 = g := by simpa using e
              omega
          · exact hgo _ _ (fun e => by have := (hown9 _ e).1; omega) (hk3.out _ _ (by omega) hz.out)
          · simp
          · omega
          · rw [List.length_append, List.length_singleton]; omega
          · rw [restLen_ps T4.ls.ps, restLen_ps T.ls.ps]; omega
        · have hRMk : RM = .bad pl er := by rw [← hR]; simp only [PX.more, PX.R.bind, rt, if_true, rk]
          rw [rk] at hkk
          replace hkk := Lib.hid hkk
          clear rt rk hR
          go_wp2_with (first
            | (go_at_call 48; refine (c1.out).mono ?_; rintro e w2 ⟨F2, rfl, P2⟩; dsimp only
               have U2 := T.step0 F2 hmv P2))
          refine (hkk.out _ U2.ls).mono ?_
          rintro e w3 ⟨F3, rfl⟩
          refine ⟨rfl, U2.fr.trans F3, ?_⟩
          rw [← e0.out]; unfold PX.series; rw [hx1]; simp only [PX.R.bind]; rw [hRM', hRMk]
          rfl
    · have c1 := hT.out s' g' wr T.ls.ps
      rw [rt] at c1
      replace c1 := Lib.hid c1
      go_wp2_with (first
        | (go_at_call 48; refine (c1.out).mono ?_; rintro e w2 ⟨F2, rfl⟩))
      have hRM : RM = .bad pl er := by rw [← hR]; simp only [PX.more, PX.R.bind, rt]
      refine ⟨rfl, T.fr.trans F2.up, ?_⟩
      rw [← e0.out]; unfold PX.series; rw [hx1]; simp only [PX.R.bind]; rw [hRM', hRM]
      show Ending.panicked _ = failE _ _
      symm
      assumption
end PP
end Go.Proofs.Ytglbmiadgdadfaa
end

section
/- What a condition's parts read. -/
namespace Go.Proofs.Ytglbmiadgdadfaa
open Go.RowKit Go.Shelf
namespace PP
theorem takes_le {x : ByteArray} {s s' : PX.S} {r : Bool} (hx : x ≠ ⟨#[]⟩) (h : PX.takes x s = .ok r s') : s'.rest.length ≤ s.rest.length := by
  cases r with
  | true => exact Nat.le_of_lt (takes_lt hx h)
  | false =>
    unfold PX.takes at h
    split at h
    · rcases ht : PX.take [x] s with ⟨t, s1⟩ | ⟨pl, er⟩
      · rw [ht] at h; cases h
      · rw [ht] at h; cases h
    · cases h; exact Nat.le_refl _
/-- A part's .ok reads at least one token. -/
def Dec (k : PX.S → PX.R PX.CondD) : Prop := ∀ (s s' : PX.S) (c : PX.CondD), k s = .ok c s' → s'.rest.length < s.rest.length
theorem more_le {k : PX.S → PX.R PX.CondD} (hk : Dec k) {x : ByteArray} (hx : x ≠ ⟨#[]⟩) : ∀ (m : Nat) (acc l : List PX.CondD) (s s' : PX.S), PX.more k x m acc s = .ok l s' → s'.rest.length ≤ s.rest.length
  | 0, acc, l, s, s', h => by simp only [PX.more] at h; cases h; exact Nat.le_refl _
  | m + 1, acc, l, s, s', h => by
    simp only [PX.more] at h
    rcases ht : PX.takes x s with ⟨r, s1⟩ | ⟨pl, er⟩
    · rw [ht] at h
      simp only [PX.R.bind] at h
      have h1 := takes_le hx ht
      cases r with
      | false => simp only [Bool.false_eq_true, if_false] at h; cases h; exact h1
      | true =>
        simp only [if_true] at h
        rcases hc : k s1 with ⟨c, s2⟩ | ⟨pl, er⟩
        · rw [hc] at h
          have h2 := hk _ _ _ hc
          have h3 := more_le hk hx m _ _ _ _ h
          omega
        · rw [hc] at h; cases h
    · rw [ht] at h; cases h
theorem series_dec {k : PX.S → PX.R PX.CondD} (hk : Dec k) {x : ByteArray} (hx : x ≠ ⟨#[]⟩) (kind : Int) : Dec (PX.series k x kind) := by
  intro s s' c h
  unfold PX.series at h
  rcases h1 : k s with ⟨c1, s1⟩ | ⟨pl, er⟩
  · rw [h1] at h
    simp only [PX.R.bind] at h
    rcases h2 : PX.more k x s.rest.length [c1] s1 with ⟨l, s2⟩ | ⟨pl, er⟩
    · rw [h2] at h
      have h3 := hk _ _ _ h1
      have h4 := more_le hk hx _ _ _ _ _ h2
      have : s2 = s' := by cases h; rfl
      subst this
      omega
    · rw [h2] at h; cases h
  · rw [h1] at h; cases h
end PP
end Go.Proofs.Ytglbmiadgdadfaa
end

section
/- The parser's conditions: factors, conjunctions and disjunctions, all of them. -/
namespace Go.Proofs.Ytglbmiadgdadfaa
open Go.RowKit Go.Shelf

attribute [local go_sem] Oper.semAt_some
namespace PP
theorem num_lt {s s' : PX.S} {r : Int} (h : PX.num s = .ok r s') : s'.rest.length < s.rest.length := by
  unfold PX.num at h
  rcases ht : PX.take [PX.sNUM] s with ⟨t, s1⟩ | ⟨pl, er⟩
  · rw [ht] at h; cases h; exact take_lt (symsOk_one (by decide)) ht
  · rw [ht] at h; cases h
theorem reg_lt {s s' : PX.S} {r : Int} (h : PX.reg s = .ok r s') : s'.rest.length < s.rest.length := by
  unfold PX.reg at h
  rcases ht : PX.take [PX.sREG] s with ⟨t, s1⟩ | ⟨pl, er⟩
  · rw [ht] at h; cases h; exact take_lt (symsOk_one (by decide)) ht
  · rw [ht] at h; cases h
theorem addLoc_rest {x : ByteArray} {p : Int} {s s' : PX.S} {u : Unit} (h : PX.addLoc x p s = .ok u s') : s'.rest = s.rest := by
  unfold PX.addLoc at h
  split at h
  · split at h
    · cases h
    · cases h; rfl
  · cases h
theorem loc_lt {s s' : PX.S} {r : Int} (h : PX.loc s = .ok r s') : s'.rest.length < s.rest.length := by
  unfold PX.loc at h
  rcases ht : PX.take [PX.sNAME] s with ⟨t, s1⟩ | ⟨pl, er⟩
  · rw [ht] at h
    have h1 := take_lt (symsOk_one (by decide)) ht
    simp only [PX.R.bind] at h
    split at h
    · cases h; exact h1
    · rcases ha : PX.addLoc t.x t.p s1 with ⟨u, s2⟩ | ⟨pl, er⟩
      · rw [ha] at h
        cases h
        rw [addLoc_rest ha]; exact h1
      · rw [ha] at h; cases h
  · rw [ht] at h; cases h
theorem dec_truth : Dec PX.truth := by
  intro s s' c h
  unfold PX.truth at h
  rcases ht : PX.take [PX.kTrue] s with ⟨t, s1⟩ | ⟨pl, er⟩
  · rw [ht] at h; cases h; exact take_lt (symsOk_one (by decide)) ht
  · rw [ht] at h; cases h
theorem dec_locCond : Dec PX.locCond := by
  intro s s' c h
  unfold PX.locCond at h
  rcases h1 : PX.loc s with ⟨n, s1⟩ | ⟨pl, er⟩
  · rw [h1] at h
    simp only [PX.R.bind] at h
    rcases h2 : PX.take [PX.gEq] s1 with ⟨t, s2⟩ | ⟨pl, er⟩
    · rw [h2] at h
      simp only at h
      rcases h3 : PX.num s2 with ⟨v, s3⟩ | ⟨pl, er⟩
      · rw [h3] at h
        have a := loc_lt h1
        have b := take_lt (symsOk_one (by decide)) h2
        have c := num_lt h3
        cases h
        omega
      · rw [h3] at h; cases h
    · rw [h2] at h; cases h
  · rw [h1] at h; cases h
theorem dec_regCond : Dec PX.regCond := by
  intro s s' c h
  unfold PX.regCond at h
  rcases h1 : PX.num s with ⟨t, s1⟩ | ⟨pl, er⟩
  · rw [h1] at h
    simp only [PX.R.bind] at h
    rcases h2 : PX.take [PX.gColon] s1 with ⟨u, s2⟩ | ⟨pl, er⟩
    · rw [h2] at h
      simp only at h
      rcases h3 : PX.reg s2 with ⟨n, s3⟩ | ⟨pl, er⟩
      · rw [h3] at h
        simp only at h
        rcases h4 : PX.take [PX.gEq] s3 with ⟨u4, s4⟩ | ⟨pl, er⟩
        · rw [h4] at h
          simp only at h
          rcases h5 : PX.num s4 with ⟨v, s5⟩ | ⟨pl, er⟩
          · rw [h5] at h
            have a := num_lt h1
            have b := take_lt (symsOk_one (by decide)) h2
            have c := reg_lt h3
            have d := take_lt (symsOk_one (by decide)) h4
            have e := num_lt h5
            cases h
            omega
          · rw [h5] at h; cases h
        · rw [h4] at h; cases h
      · rw [h3] at h; cases h
    · rw [h2] at h; cases h
  · rw [h1] at h; cases h
theorem dec_factor : ∀ n, Dec (PX.factor n)
  | 0 => fun s s' c h => by cases h
  | n + 1 => by
    intro s s' c h
    have ih := dec_factor n
    rw [factor_eq] at h
    split at h
    · rcases h1 : PX.take [PX.gNot] s with ⟨t, s1⟩ | ⟨pl, er⟩
      · rw [h1] at h
        simp only [PX.R.bind] at h
        rcases h2 : PX.factor n s1 with ⟨c1, s2⟩ | ⟨pl, er⟩
        · rw [h2] at h
          have a := take_lt (symsOk_one (by decide)) h1
          have b := ih _ _ _ h2
          cases h
          omega
        · rw [h2] at h; cases h
      · rw [h1] at h; cases h
    · split at h
      · rcases h1 : PX.take [PX.gOpen] s with ⟨t, s1⟩ | ⟨pl, er⟩
        · rw [h1] at h
          simp only [PX.R.bind] at h
          rcases h2 : PX.series (PX.series (PX.factor n) PX.gAnd 3) PX.gOr 4 s1 with ⟨c1, s2⟩ | ⟨pl, er⟩
          · rw [h2] at h
            simp only at h
            rcases h3 : PX.take [PX.gClose] s2 with ⟨t, s3⟩ | ⟨pl, er⟩
            · rw [h3] at h
              have a := take_lt (symsOk_one (by decide)) h1
              have b := series_dec (series_dec ih (by decide) 3) (by decide) 4 _ _ _ h2
              have d := take_lt (symsOk_one (by decide)) h3
              cases h
              omega
            · rw [h3] at h; cases h
          · rw [h2] at h; cases h
        · rw [h1] at h; cases h
      · split at h
        · exact dec_regCond _ _ _ h
        · split at h
          · exact dec_locCond _ _ _ h
          · split at h
            · exact dec_truth _ _ _ h
            · cases h

set_option maxRecDepth 100000 in
set_option maxHeartbeats 16000000 in
theorem conjunction_of (b n : Nat) (hn : n ≤ 100000)
    (hF : ∀ (s' : PX.S) (h' : Hd) (W : World), s'.rest.length < n → LS W b s' h' → Calls Try.prog 50 #[.pointer (some ⟨b, 0, none⟩)] W (Ends2 W b h' (PX.factor n s')))
    (s : PX.S) (h : Hd) (w : World) (hs : s.rest.length < n) (L : LS w b s h) :
    Calls Try.prog 40 #[.pointer (some ⟨b, 0, none⟩)] w (Ends2 w b h (PX.series (PX.factor n) PX.gAnd 3 s)) := by
  have hbl := L.ps.lt
  have hgl := L.ps.g_lt
  have U0 := (Tr.start L).alloc (.cells #[.int .u8 0, .int .u8 0, .int .u8 0, .int .u8 0, .slice none 0 0] 24)
  have z0 := newCond w
  have C1 := Lib.hid (series_of b n 50 PX.gAnd 3 (PX.factor n) s h _ U0.ls (by decide) hn (enters Try.func50 (by kernel_rfl) rfl) hF (fun s' s'' c _ hc => dec_factor n s' s'' c hc) hs)
  obtain ⟨R, hR⟩ : ∃ R, PX.series (PX.factor n) PX.gAnd 3 s = R := ⟨_, rfl⟩
  rw [hR] at C1 ⊢
  replace U0 := Lib.hid U0
  replace z0 := Lib.hid z0
  clear hF hR
  go_enter Try.func40, Try.ntmps40
  go_wp2_with (first
    | (go_at_call 39; refine call2 C1.out (fun c x s5 w5 vl vi hx5 F5 M5 L5 => ?_) (fun pl er w5 hx F => ⟨rfl, Ends2.bad (U0.out.fr.trans F) hx⟩)
       obtain ⟨xa, xl, xc, hu⟩ := M5.slice
       obtain ⟨xk, xt, xn, xv, xu⟩ := x
       obtain rfl : xu = .slice xa xl xc := hu
       dsimp only [condV]
       have U5 := U0.out.step1 F5 L5
       have z5 := F5.box z0.out (by omega) condT1
       have hs0 := lt_of_heap z0.out
       obtain ⟨v0, v1, v2, v3, v4⟩ := row_cond z5
       have fv := fun j => frozen_of_row _ _ j _ _ z5
       have V5 := Lib.hid z5
       replace U5 := Lib.hid U5
       replace M5 := Lib.hid M5))
  have Z := setCond_row ⟨xk, xt, xn, xv, .slice xa xl xc⟩ V5.out
  have hM : CondM (setCond w5 w.heap.size ⟨xk, xt, xn, xv, .slice xa xl xc⟩) (fun i => w.heap.size ≤ i) ⟨xk, xt, xn, xv, .slice xa xl xc⟩ c := by
    refine CondM.mono (W := w5) (Q := fun i => (w.alloc (.cells #[.int .u8 0, .int .u8 0, .int .u8 0, .int .u8 0, .slice none 0 0] 24)).heap.size ≤ i) (fun g C hq hh => ?_) (fun g hq => ?_) c _ M5.out
    · exact setCond_keep hh (Nat.ne_of_gt (Nat.lt_of_lt_of_le hs0 hq))
    · exact Nat.le_trans (Nat.le_of_lt hs0) hq
  have hT := Tr.cond (c := c) (r := R) (U5.out.setCond (Nat.le_refl _) hbl hgl ⟨xk, xt, xn, xv, .slice xa xl xc⟩ V5.out) hx5 hM
  refine bodyPost_ret (v := condV ⟨xk, xt, xn, xv, .slice xa xl xc⟩) ?_ rfl hT
  exact cond_results (p := 2) rfl _ _ w.heap.size ⟨xk, xt, xn, xv, .slice xa xl xc⟩ rfl Z

set_option maxRecDepth 100000 in
set_option maxHeartbeats 16000000 in
theorem disjunction_of (b n : Nat) (hn : n ≤ 100000)
    (hF : ∀ (s' : PX.S) (h' : Hd) (W : World), s'.rest.length < n → LS W b s' h' → Calls Try.prog 50 #[.pointer (some ⟨b, 0, none⟩)] W (Ends2 W b h' (PX.factor n s')))
    (s : PX.S) (h : Hd) (w : World) (hs : s.rest.length < n) (L : LS w b s h) :
    Calls Try.prog 26 #[.pointer (some ⟨b, 0, none⟩)] w (Ends2 w b h (PX.series (PX.series (PX.factor n) PX.gAnd 3) PX.gOr 4 s)) := by
  have hbl := L.ps.lt
  have hgl := L.ps.g_lt
  have U0 := (Tr.start L).alloc (.cells #[.int .u8 0, .int .u8 0, .int .u8 0, .int .u8 0, .slice none 0 0] 24)
  have z0 := newCond w
  have C1 := Lib.hid (series_of b n 40 PX.gOr 4 (PX.series (PX.factor n) PX.gAnd 3) s h _ U0.ls (by decide) hn (enters Try.func40 (by kernel_rfl) rfl) (fun s' h' W hs' L' => conjunction_of b n hn hF s' h' W hs' L') (fun s' s'' c _ hc => series_dec (dec_factor n) (by decide) 3 s' s'' c hc) hs)
  obtain ⟨R, hR⟩ : ∃ R, PX.series (PX.series (PX.factor n) PX.gAnd 3) PX.gOr 4 s = R := ⟨_, rfl⟩
  rw [hR] at C1 ⊢
  replace U0 := Lib.hid U0
  replace z0 := Lib.hid z0
  clear hF hR
  go_enter Try.func26, Try.ntmps26
  go_wp2_with (first
    | (go_at_call 39; refine call2 C1.out (fun c x s5 w5 vl vi hx5 F5 M5 L5 => ?_) (fun pl er w5 hx F => ⟨rfl, Ends2.bad (U0.out.fr.trans F) hx⟩)
       obtain ⟨xa, xl, xc, hu⟩ := M5.slice
       obtain ⟨xk, xt, xn, xv, xu⟩ := x
       obtain rfl : xu = .slice xa xl xc := hu
       dsimp only [condV]
       have U5 := U0.out.step1 F5 L5
       have z5 := F5.box z0.out (by omega) condT1
       have hs0 := lt_of_heap z0.out
       obtain ⟨v0, v1, v2, v3, v4⟩ := row_cond z5
       have fv := fun j => frozen_of_row _ _ j _ _ z5
       have V5 := Lib.hid z5
       replace U5 := Lib.hid U5
       replace M5 := Lib.hid M5))
  have Z := setCond_row ⟨xk, xt, xn, xv, .slice xa xl xc⟩ V5.out
  have hM : CondM (setCond w5 w.heap.size ⟨xk, xt, xn, xv, .slice xa xl xc⟩) (fun i => w.heap.size ≤ i) ⟨xk, xt, xn, xv, .slice xa xl xc⟩ c := by
    refine CondM.mono (W := w5) (Q := fun i => (w.alloc (.cells #[.int .u8 0, .int .u8 0, .int .u8 0, .int .u8 0, .slice none 0 0] 24)).heap.size ≤ i) (fun g C hq hh => ?_) (fun g hq => ?_) c _ M5.out
    · exact setCond_keep hh (Nat.ne_of_gt (Nat.lt_of_lt_of_le hs0 hq))
    · exact Nat.le_trans (Nat.le_of_lt hs0) hq
  have hT := Tr.cond (c := c) (r := R) (U5.out.setCond (Nat.le_refl _) hbl hgl ⟨xk, xt, xn, xv, .slice xa xl xc⟩ V5.out) hx5 hM
  refine bodyPost_ret (v := condV ⟨xk, xt, xn, xv, .slice xa xl xc⟩) ?_ rfl hT
  exact cond_results (p := 2) rfl _ _ w.heap.size ⟨xk, xt, xn, xv, .slice xa xl xc⟩ rfl Z

theorem factor_any (b : Nat) : ∀ (n : Nat), n ≤ 100000 → ∀ (s : PX.S) (h : Hd) (w : World), s.rest.length < n → LS w b s h →
    Calls Try.prog 50 #[.pointer (some ⟨b, 0, none⟩)] w (Ends2 w b h (PX.factor n s))
  | 0, _ => fun s h w hs _ => by omega
  | n + 1, hn => fun s h w hs L => by
    have ih := factor_any b n (by omega)
    refine factor_of b s h w n L (fun t s' h' W ht L' => ?_) (fun t s' h' W ht L' => ?_)
    · have := take_lt (symsOk_one (by decide)) ht
      exact ih s' h' W (by omega) L'
    · have := take_lt (symsOk_one (by decide)) ht
      exact disjunction_of b n (by omega) ih s' h' W (by omega) L'
theorem disj_any (b n : Nat) (hn : n ≤ 100000) (s : PX.S) (h : Hd) (w : World) (hs : s.rest.length < n) (L : LS w b s h) :
    Calls Try.prog 26 #[.pointer (some ⟨b, 0, none⟩)] w (Ends2 w b h (PX.disj n s)) :=
  disjunction_of b n hn (factor_any b n hn) s h w hs L
end PP
end Go.Proofs.Ytglbmiadgdadfaa
end

section
/- A condition's depth. -/
namespace Go.Proofs.Ytglbmiadgdadfaa
open Go.RowKit Go.Shelf

attribute [local go_sem] Oper.semAt_some
namespace PP
mutual
/-- The cells x hold the condition, wherever its parts lie. -/
def CondR (W : World) (x : CV) : PX.CondD → Prop
  | .mk k t n v kids => x.k = k ∧ x.t = t ∧ x.n = n ∧ x.v = v ∧ ∃ (a : Option Addr) (cap : Nat), x.u = .slice a kids.length cap ∧ kids.length ≤ cap ∧ cap ≤ maxLen ∧
      (0 < kids.length → ∃ (g off : Nat) (ys : List CV), a = some ⟨g, off, none⟩ ∧ g < W.heap.size ∧
        (∀ (i j : Nat) (y : CV), ys[i]? = some y → j < 5 → ∀ U : World, U.heap[g]? = W.heap[g]? → U.cell? ⟨g, off + i * 5 + j, none⟩ = (condC y)[j]?) ∧ KidsR W ys kids)
def KidsR (W : World) (ys : List CV) : List PX.CondD → Prop
  | [] => ys = []
  | c :: r => ∃ y yr, ys = y :: yr ∧ CondR W y c ∧ KidsR W yr r
end
theorem lt_same {W W' : World} {g : Nat} (h : W'.heap[g]? = W.heap[g]?) (hg : g < W.heap.size) : g < W'.heap.size :=
  lt_of_heap (h.trans (Array.getElem?_eq_getElem hg))
mutual
theorem CondR.keep {W W' : World} (hW : ∀ g : Nat, g < W.heap.size → W'.heap[g]? = W.heap[g]?) : ∀ (c : PX.CondD) (x : CV), CondR W x c → CondR W' x c
  | .mk k t n v kids, x, h => by
    obtain ⟨h1, h2, h3, h4, a, cap, h5, h6, h7, h8⟩ := h
    refine ⟨h1, h2, h3, h4, a, cap, h5, h6, h7, fun h0 => ?_⟩
    obtain ⟨g, off, ys, e1, e2, e3, e4⟩ := h8 h0
    exact ⟨g, off, ys, e1, lt_same (hW g e2) e2, fun i j y hy hj U hU => e3 i j y hy hj U (hU.trans (hW g e2)), KidsR.keep hW kids ys e4⟩
theorem KidsR.keep {W W' : World} (hW : ∀ g : Nat, g < W.heap.size → W'.heap[g]? = W.heap[g]?) : ∀ (l : List PX.CondD) (ys : List CV), KidsR W ys l → KidsR W' ys l
  | [], _, h => h
  | c :: r, ys, h => by
    obtain ⟨y, yr, rfl, h1, h2⟩ := h
    exact ⟨y, yr, rfl, CondR.keep hW c y h1, KidsR.keep hW r yr h2⟩
end
theorem CondR.slice {W : World} {x : CV} {c : PX.CondD} (h : CondR W x c) : ∃ a n cap, x.u = .slice a n cap := by
  cases c with
  | mk k t n v kids =>
    obtain ⟨_, _, _, _, a, cap, h, _⟩ := h
    exact ⟨a, _, cap, h⟩
theorem CondR.below {W W' : World} {x : CV} {c : PX.CondD} (h : CondR W x c) (B : Below W.heap.size W W') : CondR W' x c :=
  CondR.keep (fun g hg => B.block g hg) c x h
theorem KidsR.length {W : World} : ∀ (l : List PX.CondD) (ys : List CV), KidsR W ys l → ys.length = l.length
  | [], _, h => by rw [h]; rfl
  | c :: r, ys, h => by
    obtain ⟨y, yr, rfl, _, h2⟩ := h
    simp [KidsR.length r yr h2]
theorem KidsR.at {W : World} : ∀ (l : List PX.CondD) (ys : List CV), KidsR W ys l → ∀ (i : Nat) (c : PX.CondD), l[i]? = some c → ∃ y, ys[i]? = some y ∧ CondR W y c
  | [], _, _, i, c, hc => by simp at hc
  | d :: r, ys, h, i, c, hc => by
    obtain ⟨y, yr, rfl, h1, h2⟩ := h
    cases i with
    | zero => simp at hc; subst hc; exact ⟨y, rfl, h1⟩
    | succ i => exact KidsR.at r yr h2 i c (by simpa using hc)
theorem cellsC_at : ∀ (ys : List CV) (i j : Nat) (y : CV), ys[i]? = some y → j < 5 → (cellsC ys)[i * 5 + j]? = (condC y)[j]?
  | [], i, j, y, h, _ => by simp at h
  | z :: zs, 0, j, y, h, hj => by
    simp at h; subst h
    unfold cellsC
    rw [List.flatMap_cons, List.getElem?_append_left (by show _ < 5; omega)]
    simp
  | z :: zs, i + 1, j, y, h, hj => by
    unfold cellsC
    rw [List.flatMap_cons, List.getElem?_append_right (by show 5 ≤ _; omega)]
    have e : (i + 1) * 5 + j - (condC z).toList.length = i * 5 + j := by show _ - 5 = _; omega
    rw [e]
    exact cellsC_at zs i j y (by simpa using h) hj
mutual
theorem CondM.toR {W : World} {Q : Nat → Prop} : ∀ (c : PX.CondD) (x : CV), CondM W Q x c → CondR W x c
  | .mk k t n v kids, x, h => by
    obtain ⟨h1, h2, h3, h4, h5⟩ := h
    refine ⟨h1, h2, h3, h4, ?_⟩
    rcases h5 with ⟨rfl, h5⟩ | ⟨g, cap, C, ys, h5, h6, h7, h8, h9, h10, h11, h12⟩
    · exact ⟨none, 0, h5, Nat.le_refl _, Nat.zero_le _, fun h => by simp at h⟩
    · refine ⟨_, cap, h5, h7, h8, fun _ => ⟨g, 0, ys, rfl, lt_of_heap h10, fun i j y hy hj U hU => ?_, KidsM.toR kids ys h12⟩⟩
      rw [cell_of_row U g _ _ _ _ (hU.trans h10)]
      have hi := (List.getElem?_eq_some_iff.1 hy).1
      rw [KidsM.length kids ys h12] at hi
      have e := congrArg (fun l : List Value => l[i * 5 + j]?) h11
      simp only [List.getElem?_take, if_pos (show i * 5 + j < kids.length * 5 by omega)] at e
      rw [Array.getElem?_toList] at e
      rw [Nat.zero_add, e]
      exact cellsC_at ys i j y hy hj
theorem KidsM.toR {W : World} {Q : Nat → Prop} : ∀ (l : List PX.CondD) (ys : List CV), KidsM W Q ys l → KidsR W ys l
  | [], _, h => h
  | c :: r, ys, h => by
    obtain ⟨y, yr, rfl, h1, h2⟩ := h
    exact ⟨y, yr, rfl, CondM.toR c y h1, KidsM.toR r yr h2⟩
end
theorem deepL_take (l : List PX.CondD) (i : Nat) (c : PX.CondD) (h : l[i]? = some c) : PX.deepL (l.take (i + 1)) = max (PX.deepL (l.take i)) (PX.deep c) := by
  induction l generalizing i with
  | nil => simp at h
  | cons d r ih =>
    cases i with
    | zero => simp at h; subst h; simp [PX.deepL]
    | succ i =>
      simp only [List.take_succ_cons, PX.deepL]
      rw [ih i (by simpa using h)]
      omega
theorem deepL_le (l : List PX.CondD) (i : Nat) (c : PX.CondD) (h : l[i]? = some c) : PX.deep c ≤ PX.deepL l := by
  induction l generalizing i with
  | nil => simp at h
  | cons d r ih =>
    simp only [PX.deepL]
    cases i with
    | zero => simp at h; subst h; omega
    | succ i => have := ih i (by simpa using h); omega
theorem deepL_take_le (l : List PX.CondD) (i : Nat) : PX.deepL (l.take i) ≤ PX.deepL l := by
  induction l generalizing i with
  | nil => simp
  | cons d r ih =>
    cases i with
    | zero => simp [PX.deepL]
    | succ i => simp only [List.take_succ_cons, PX.deepL]; have := ih i; omega
set_option maxRecDepth 100000 in
set_option maxHeartbeats 8000000 in
theorem deep_any : ∀ (m : Nat) (c : PX.CondD) (x : CV) (w : World), PX.deep c ≤ m → m < 2 ^ 60 → CondR w x c →
    Calls Try.prog 7 #[condV x] w fun e w' => e = .returned (.int .i64 (PX.deep c)) ∧ Below w.heap.size w w'
  | 0, .mk k t n v kids, x, w, hm, _, _ => by simp [PX.deep] at hm
  | m + 1, .mk k t n v kids, x, w, hm, hb, h => by
    have ih := deep_any m
    obtain ⟨h1, h2, h3, h4, a, cap, h5, h6, h7, h8⟩ := id h
    obtain ⟨xk, xt, xn, xv, xu⟩ := x
    simp only at h1 h2 h3 h4 h5
    subst h1 h2 h3 h4 h5
    have hd : PX.deepL kids ≤ m := by simp only [PX.deep] at hm; omega
    have hkid : ∀ (i : Nat) (d : PX.CondD) (W : World), Below w.heap.size w W → kids[i]? = some d → ∃ g off y, a = some ⟨g, off, none⟩ ∧ CondR W y d ∧ ∀ j, j < 5 → W.cell? ⟨g, off + i * 5 + j, none⟩ = (condC y)[j]? := fun i d W B hi => by
      have h0 := (List.getElem?_eq_some_iff.1 hi).1
      obtain ⟨g, off, ys, rfl, e2, e3, e4⟩ := h8 (by omega)
      obtain ⟨y, hy, hR⟩ := KidsR.at kids ys e4 i d hi
      exact ⟨g, off, y, rfl, hR.below B, fun j hj => e3 i j y hy hj W (B.block g e2)⟩
    obtain ⟨N, hN⟩ : ∃ N, kids.length = N := ⟨_, rfl⟩
    obtain ⟨D, hD⟩ : ∃ D, PX.deep (.mk xk xt xn xv kids) = D := ⟨_, rfl⟩
    have hD' : PX.deepL kids + 1 = D := hD
    rw [hD]
    have hN6 : N ≤ cap := by omega
    have hN63 : N ≤ 9223372036854775807 := by unfold maxLen at h7; omega
    unfold condV
    simp only
    rw [hN]
    have B0 := (Below.refl w.heap.size w).alloc (Nat.le_refl _) (.cells #[.int .u8 xk, .int .u8 xt, .int .u8 xn, .int .u8 xv, .slice a N cap] 24)
    have z0 := heap_alloc_new w (.cells #[.int .u8 xk, .int .u8 xt, .int .u8 xn, .int .u8 xv, .slice a N cap] 24)
    have c4 := cell_of_row _ w.heap.size 4 _ _ _ z0
    simp only [List.getElem?_toArray, List.getElem?_cons_zero, List.getElem?_cons_succ] at c4
    replace B0 := Lib.hid B0
    clear z0 h8
    replace hkid := Lib.hid hkid
    replace hD' := Lib.hid hD'
    replace ih := Lib.hid ih
    clear hD h
    go_enter Try.func7, Try.ntmps7
    go_wp2
    go_loopw [3, 9] (fun d i wr => ∃ (q e : Nat), q ≤ N ∧ Hid (e = PX.deepL (kids.take q)) ∧ i = .int .i64 (q : Int) ∧ d = .int .i64 (e : Int) ∧ Hid (Below w.heap.size w wr)) (fun _ i _ => N - (intOf i).toNat)
    case atStart => exact ⟨0, 0, by omega, Lib.hid (by simp [PX.deepL]), rfl, rfl, B0⟩
    case round =>
      obtain ⟨q, e, hq, he, rfl, rfl, hB⟩ := hrel
      by_cases hlt : q < N
      · obtain ⟨d, hd1⟩ : ∃ d, kids[q]? = some d := ⟨kids[q]'(by omega), List.getElem?_eq_getElem (by omega)⟩
        obtain ⟨g, off, y, rfl, hR, hc⟩ := hkid.out q d wr hB.out hd1
        have e0 := hc 0 (by omega)
        have e1 := hc 1 (by omega)
        have e2 := hc 2 (by omega)
        have e3 := hc 3 (by omega)
        have e4 := hc 4 (by omega)
        obtain ⟨ya, yl, yc, hyu⟩ := hR.slice
        obtain ⟨yk, yt, yn, yv, yu⟩ := y
        obtain rfl : yu = .slice ya yl yc := hyu
        unfold condC at e0 e1 e2 e3 e4
        simp only [List.getElem?_toArray, List.getElem?_cons_zero, List.getElem?_cons_succ, Nat.add_zero] at e0 e1 e2 e3 e4
        have t1 : decide (q < N) = true := by simpa using hlt
        have hq1 := deepL_take kids q d hd1
        have hq2 := deepL_le kids q d hd1
        have hq3 := deepL_take_le kids q
        rw [← he.out] at hq1 hq3
        obtain ⟨f, hf⟩ : ∃ f, PX.deep d = f := ⟨_, rfl⟩
        have hA := (Below.refl wr.heap.size wr).alloc (Nat.le_refl _) (.cells #[.int .u8 yk, .int .u8 yt, .int .u8 yn, .int .u8 yv, .slice ya yl yc] 24)
        have z1 := heap_alloc_new wr (.cells (condC ⟨yk, yt, yn, yv, .slice ya yl yc⟩) 24)
        obtain ⟨v0, v1, v2, v3, v4⟩ := row_cond z1
        unfold condC at v0 v1 v2 v3 v4
        have cD := ih.out d ⟨yk, yt, yn, yv, .slice ya yl yc⟩ (wr.alloc (.cells #[.int .u8 yk, .int .u8 yt, .int .u8 yn, .int .u8 yv, .slice ya yl yc] 24)) (by omega) (by omega) (hR.below hA)
        unfold condV at cD
        rw [hf] at cD
        replace cD := Lib.hid cD
        replace hA := Lib.hid hA
        rw [hf] at hq1 hq2
        clear hc hR z1 hd1
        go_wp2_with (first
          | (go_at_call 7; refine (cD.out).mono ?_; rintro e5 w3 ⟨rfl, B3⟩))
        refine ⟨⟨q + 1, max e f, by omega, Lib.hid hq1.symm, rfl, ?_, Lib.hid (hB.out.trans ((hA.out.trans (B3.mono hA.out.size)).mono hB.out.size))⟩, ?_⟩
        · congr 1
          split <;> omega
        · simp [intOf]; omega
      · obtain rfl : q = N := by omega
        have t1 : decide (q < q) = false := by simp
        have hE : (e : Int) + 1 = (D : Int) := by
          have h1 := hD'.out
          have h2 := he.out
          rw [← hN, List.take_length] at h2
          omega
        have hw : wrap64 (D : Int) = D := IntWalk.wrap64_in _ (by have := hD'.out; omega)
        go_wp2
        go_ret
        rw [hw]
        exact ⟨rfl, hB.out⟩
end PP
end Go.Proofs.Ytglbmiadgdadfaa
end

section
/- The reference's depth of a condition. -/
namespace Go.Proofs.Ytglbmiadgdadfaa
open Go.RowKit Go.Shelf

attribute [local go_sem] Oper.semAt_some
namespace PP
set_option maxRecDepth 100000 in
set_option maxHeartbeats 8000000 in
theorem refDeep_any : ∀ (m : Nat) (c : PX.CondD) (x : CV) (w : World), PX.deep c ≤ m → m < 2 ^ 60 → CondR w x c →
    Calls Try.prog 8 #[condV x] w fun e w' => e = .returned (.int .i64 (PX.deep c)) ∧ Below w.heap.size w w'
  | 0, .mk k t n v kids, x, w, hm, _, _ => by simp [PX.deep] at hm
  | m + 1, .mk k t n v kids, x, w, hm, hb, h => by
    have ih := refDeep_any m
    obtain ⟨h1, h2, h3, h4, a, cap, h5, h6, h7, h8⟩ := id h
    obtain ⟨xk, xt, xn, xv, xu⟩ := x
    simp only at h1 h2 h3 h4 h5
    subst h1 h2 h3 h4 h5
    have hd : PX.deepL kids ≤ m := by simp only [PX.deep] at hm; omega
    have hkid : ∀ (i : Nat) (d : PX.CondD) (W : World), Below w.heap.size w W → kids[i]? = some d → ∃ g off y, a = some ⟨g, off, none⟩ ∧ CondR W y d ∧ ∀ j, j < 5 → W.cell? ⟨g, off + i * 5 + j, none⟩ = (condC y)[j]? := fun i d W B hi => by
      have h0 := (List.getElem?_eq_some_iff.1 hi).1
      obtain ⟨g, off, ys, rfl, e2, e3, e4⟩ := h8 (by omega)
      obtain ⟨y, hy, hR⟩ := KidsR.at kids ys e4 i d hi
      exact ⟨g, off, y, rfl, hR.below B, fun j hj => e3 i j y hy hj W (B.block g e2)⟩
    obtain ⟨N, hN⟩ : ∃ N, kids.length = N := ⟨_, rfl⟩
    obtain ⟨D, hD⟩ : ∃ D, PX.deep (.mk xk xt xn xv kids) = D := ⟨_, rfl⟩
    have hD' : PX.deepL kids + 1 = D := hD
    rw [hD]
    have hN6 : N ≤ cap := by omega
    have hN63 : N ≤ 9223372036854775807 := by unfold maxLen at h7; omega
    unfold condV
    simp only
    rw [hN]
    have B0 := (Below.refl w.heap.size w).alloc (Nat.le_refl _) (.cells #[.int .u8 xk, .int .u8 xt, .int .u8 xn, .int .u8 xv, .slice a N cap] 24)
    have z0 := heap_alloc_new w (.cells #[.int .u8 xk, .int .u8 xt, .int .u8 xn, .int .u8 xv, .slice a N cap] 24)
    have c4 := cell_of_row _ w.heap.size 4 _ _ _ z0
    simp only [List.getElem?_toArray, List.getElem?_cons_zero, List.getElem?_cons_succ] at c4
    replace B0 := Lib.hid B0
    clear z0 h8
    replace hkid := Lib.hid hkid
    replace hD' := Lib.hid hD'
    replace ih := Lib.hid ih
    clear hD h
    have hsz : Hid ((w.alloc (.cells #[.int .u8 xk, .int .u8 xt, .int .u8 xn, .int .u8 xv, .slice a N cap] 24)).heap.size = w.heap.size + 1) := Lib.hid (World.size_alloc _ _)
    go_enter Try.func8, Try.ntmps8
    go_wp2
    go_loopw [3, 4] (fun d i wr => ∃ (q e : Nat), q ≤ N ∧ Hid (e = PX.deepL (kids.take q)) ∧ i = .int .i64 (q : Int) ∧ d = .int .i64 (e : Int) ∧ Hid (Below (w.heap.size + 1) (w.alloc (.cells #[.int .u8 xk, .int .u8 xt, .int .u8 xn, .int .u8 xv, .slice a N cap] 24)) wr)) (fun _ i _ => N - (intOf i).toNat)
    case atStart => exact ⟨0, 0, by omega, Lib.hid (by simp [PX.deepL]), rfl, rfl, Lib.hid (Below.refl _ _)⟩
    case round =>
      obtain ⟨q, e, hq, he, rfl, rfl, hB1⟩ := hrel
      have c4 : wr.cell? ⟨w.heap.size, 4, none⟩ = some (.slice a N cap) := (hB1.out.cell (p := ⟨w.heap.size, 4, none⟩) (by simp)).trans c4
      have hB := Lib.hid (B0.out.trans (hB1.out.mono (by omega)))
      by_cases hlt : q < N
      · obtain ⟨d, hd1⟩ : ∃ d, kids[q]? = some d := ⟨kids[q]'(by omega), List.getElem?_eq_getElem (by omega)⟩
        obtain ⟨g, off, y, rfl, hR, hc⟩ := hkid.out q d wr hB.out hd1
        have e0 := hc 0 (by omega)
        have e1 := hc 1 (by omega)
        have e2 := hc 2 (by omega)
        have e3 := hc 3 (by omega)
        have e4 := hc 4 (by omega)
        obtain ⟨ya, yl, yc, hyu⟩ := hR.slice
        obtain ⟨yk, yt, yn, yv, yu⟩ := y
        obtain rfl : yu = .slice ya yl yc := hyu
        unfold condC at e0 e1 e2 e3 e4
        simp only [List.getElem?_toArray, List.getElem?_cons_zero, List.getElem?_cons_succ, Nat.add_zero] at e0 e1 e2 e3 e4
        have t1 : decide (q < N) = true := by simpa using hlt
        have hq1 := deepL_take kids q d hd1
        have hq2 := deepL_le kids q d hd1
        have hq3 := deepL_take_le kids q
        rw [← he.out] at hq1 hq3
        obtain ⟨f, hf⟩ : ∃ f, PX.deep d = f := ⟨_, rfl⟩
        have cD := ih.out d ⟨yk, yt, yn, yv, .slice ya yl yc⟩ wr (by omega) (by omega) hR
        unfold condV at cD
        rw [hf] at cD
        replace cD := Lib.hid cD
        rw [hf] at hq1 hq2
        clear hc hR hd1
        go_wp2_with (first
          | (go_at_call 8; refine (cD.out).mono ?_; rintro e5 w3 ⟨rfl, B3⟩))
        refine ⟨⟨q + 1, max e f, by omega, Lib.hid hq1.symm, rfl, ?_, Lib.hid (hB1.out.trans (B3.mono (Nat.le_trans (Nat.le_of_eq hsz.out.symm) hB1.out.size)))⟩, ?_⟩
        · congr 1
          split <;> omega
        · simp [intOf]; omega
      · obtain rfl : q = N := by omega
        have t1 : decide (q < q) = false := by simp
        have hE : (e : Int) + 1 = (D : Int) := by
          have h1 := hD'.out
          have h2 := he.out
          rw [← hN, List.take_length] at h2
          omega
        have hw : wrap64 (D : Int) = D := IntWalk.wrap64_in _ (by have := hD'.out; omega)
        go_wp2
        go_ret
        rw [hw]
        exact ⟨rfl, hB.out⟩
end PP
end Go.Proofs.Ytglbmiadgdadfaa
end

section
/- An append of rows to a row of one's own, in a region that draws its order. -/
namespace Go.Proofs.Ytglbmiadgdadfaa
open Go.RowKit

attribute [local go_sem] Oper.semAt_some
theorem step_append_rows {P : Program} {ops : Array Oper} {o : Oper} {a : Act} {w : World} {K : Act → World → Prop} {Q : Exit → Act → World → Prop} {E : Prop}
    (hg : o.guard = none) (s x : Operand) (t : TypeId) (hop : o.op = Op.call { callee := Callee.builtin Builtin.append, args := #[s, x], argTypes := #[t, t] })
    (base : Nat) (e : TypeId) (i : TypeInfo) (z : Value) (size bytes : Nat) (ht : P.underlying t = some (.slice e)) (hi : P.info? e = some i) (hz : i.zero = some z)
    (hsize : i.size = size) (hby : i.bytes = bytes) (hzs : z.cells.size = size) (hsz : 0 < size)
    (v : Value) (n : Nat) (xs : List Value) (hs : a.eval s = v) (hown : w.ownsRow base e size v n xs)
    (ad : Addr) (m c : Nat) (news : List Value) (hx : a.eval x = .slice (some ad) m c) (hl : news.length = m * size) (hnews : ∀ j u, news[j]? = some u → w.cell? (ad.add j) = some u) (h1 : ∀ u ∈ news, u.oneCell' = true)
    (h63 : n + m ≤ maxLen) (hbytes : (n + m) * bytes ≤ 140737488355328) (hbase : base ≤ w.heap.size)
    (h : ∀ v' w', w'.ownsRow base e size v' (n + m) (xs ++ news) → w.grownBy w' v.ownBlock → (v' = .slice none 0 0 ↔ v = .slice none 0 0 ∧ m = 0) → K (a.put o.dst v') w') :
    if Region.wanted o (yielded ops a.tmps) = true then Oper.wp P o a w K Q else E := by
  have hw : Region.wanted o (yielded ops a.tmps) = true := by simp [Region.wanted, hg]
  rw [if_pos hw]
  exact wp_append_own w s x t hop base e i z size bytes ht hi hz hsize hby hzs hsz v n xs hs hown ad m c news hx hl hnews h1 h63 hbytes hbase h
theorem row_form {W : World} {base size n : Nat} {e : TypeId} {v : Value} {xs : List Value} (h : W.ownsRow base e size v n xs) : (v = .slice none 0 0 ∧ n = 0) ∨ ∃ g cap, v = .slice (some ⟨g, 0, none⟩) n cap := by
  rcases h.2 with h0 | ⟨g, cap, cur, rfl, _⟩
  · exact .inl h0
  · exact .inr ⟨g, cap, rfl⟩
end Go.Proofs.Ytglbmiadgdadfaa
end
