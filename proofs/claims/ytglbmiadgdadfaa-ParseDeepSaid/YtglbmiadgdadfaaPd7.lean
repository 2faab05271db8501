/- ParLine5, ParLine6, ParLast, ParLine7 in one text, for the claim. -/
import Derived.Test.YtglbmiadgdadfaaPd6
import Derived.BigRegion
import Derived.Deep.RegionLaw
import Derived.Deep.RegionWith
import Derived.Deep.RegionLawGrows
import Derived.Deep.DeepCutAuto
import Derived.Deep.DeepMust
import Derived.Test.YtglbmiadgdadfaaPd4
import Derived.Test.YtglbmiadgdadfaaPd5

section
/- The parser's lines: a thread's own line. -/
namespace Go.Proofs.Ytglbmiadgdadfaa
open Go.RowKit Go.Shelf

attribute [local go_sem] Oper.semAt_some
namespace PP
theorem grown_keep {base n size : Nat} {e : TypeId} {v : Value} {xs : List Value} {W W' : World} (ho : W.ownsRow base e size v n xs) (hG : W.grownBy W' v.ownBlock) (i : Nat) (D : Array Value) (t : TypeId) (ht : t ≠ e) (hi : W.heap[i]? = some (.cells D t (0, 0))) : W'.heap[i]? = some (.cells D t (0, 0)) := by
  rw [hG.block i (lt_of_heap hi) fun e' => by
    obtain ⟨_, cur', h'⟩ := own_rowT ho e'.symm
    rw [hi] at h'; cases h'; exact ht rfl]
  exact hi
/-- The threads have changed, and nothing else but rows of theirs. -/
theorem LT.newThr {W W' : World} {b : Nat} {s : PX.S} {g : Hd} (L : LT W b s g) (hk : ∀ (i : Nat) (D : Array Value) (t : TypeId), t ≠ 42 → t ≠ 46 → W.heap[i]? = some (.cells D t (0, 0)) → W'.heap[i]? = some (.cells D t (0, 0))) (hsz : W.heap.size ≤ W'.heap.size) {th' : List (List PX.InsD)} (hthr : ThrM W' (b + 1) g.vt th') : LT W' b { s with threads := th' } g := by
  obtain ⟨x, a0, a1, a2, a3, a4, a5⟩ := L.cnd
  refine ⟨⟨?_, ⟨fun ho => ⟨own_sameT (L.ls.locs.1 ho).1 fun i cur hi hh => hk i cur _ (by decide) (by decide) hh, (L.ls.locs.1 ho).2⟩, fun hf => by rw [show ({ s with threads := th' } : PX.S).opn = true from L.opn] at hf; cases hf⟩, fun ho => own_sameT (L.ls.init L.opn) fun i cur hi hh => hk i cur _ (by decide) (by decide) hh⟩, L.opn, hthr, x, a0, a1, a2, a3, a4, ?_⟩
  · obtain ⟨vr, h1, h2, h3, h4⟩ := L.ls.ps
    exact ⟨vr, hk b _ _ (by decide) (by decide) h1, h2.same fun C hC => hk _ C _ (by decide) (by decide) hC, h3, Nat.lt_of_lt_of_le h4 hsz⟩
  · exact CondM.mono (fun i C hi hh => hk i C _ (by decide) (by decide) hh) (fun _ hi => hi) _ _ a5
theorem psC_7 (vr : Value) (s : PX.S) (h : Hd) (v : Value) : (psC vr s h).setIfInBounds 7 v = psC vr s { h with vt := v } := by
  unfold psC; simp only [List.setIfInBounds_toArray, List.set_cons_succ, List.set_cons_zero]
/-- The threads' row is another one: so is the parser's own cell. -/
theorem LT.newVt {W W' : World} {b : Nat} {s : PX.S} {g : Hd} (L : LT W b s g) (hk : ∀ (i : Nat) (D : Array Value) (t : TypeId), t ≠ 42 → t ≠ 46 → W.heap[i]? = some (.cells D t (0, 0)) → W'.heap[i]? = some (.cells D t (0, 0))) (hsz : W.heap.size ≤ W'.heap.size) {th' : List (List PX.InsD)} {vt' : Value} (hthr : ThrM W' (b + 1) vt' th') : LT (W'.setCell ⟨b, 7, none⟩ vt') b { s with threads := th' } { g with vt := vt' } := by
  obtain ⟨x, a0, a1, a2, a3, a4, a5⟩ := L.cnd
  have hp : PS W' b s g := by
    obtain ⟨vr, h1, h2, h3, h4⟩ := L.ls.ps
    exact ⟨vr, hk b _ _ (by decide) (by decide) h1, h2.same fun C hC => hk _ C _ (by decide) (by decide) hC, h3, Nat.lt_of_lt_of_le h4 hsz⟩
  have hl : LS W' b s g := ⟨hp, ⟨fun ho => ⟨own_sameT (L.ls.locs.1 ho).1 fun i cur hi hh => hk i cur _ (by decide) (by decide) hh, (L.ls.locs.1 ho).2⟩, fun hf => by rw [L.opn] at hf; cases hf⟩, fun ho => own_sameT (L.ls.init L.opn) fun i cur hi hh => hk i cur _ (by decide) (by decide) hh⟩
  refine ⟨hl.row 7 vt' rfl rfl (fun vr => psC_7 vr s g vt') rfl rfl rfl rfl rfl, L.opn, hthr.keep fun i cur t _ hi hh => (Below.heap_setCell W' ⟨b, 7, none⟩ vt' i (by show i ≠ b; omega)).trans hh, x, a0, a1, a2, a3, a4, ?_⟩
  exact CondM.mono (fun i C hi hh => (Below.heap_setCell W' ⟨b, 7, none⟩ vt' i (Nat.ne_of_gt hi)).trans (hk i C _ (by decide) (by decide) hh)) (fun _ hi => hi) _ _ a5
theorem infoThr : ∃ i : TypeInfo, Try.prog.info? 42 = some i ∧ i.zero = some (.slice none 0 0) ∧ i.size = 1 ∧ i.bytes = 24 := by
  have h : (Try.prog.info? 42).map (fun i => (i.zero, i.size, i.bytes)) = some (some (.slice none 0 0), 1, 24) := by kernel_rfl
  cases hi : Try.prog.info? 42 with
  | none => rw [hi] at h; cases h
  | some i =>
    rw [hi] at h
    simp only [Option.map_some, Option.some.injEq, Prod.mk.injEq] at h
    exact ⟨i, rfl, h.1, h.2.1, h.2.2⟩
theorem insT2 : 46 ∈ T2 := by simp [T2]
theorem thrT2 : 42 ∈ T2 := by simp [T2]
theorem ThrM.sl {W : World} {base : Nat} {v : Value} {l : List (List PX.InsD)} (h : ThrM W base v l) : ∃ a cap, v = .slice a l.length cap := by
  obtain ⟨vs, h1, _⟩ := h
  rcases h1.2 with ⟨rfl, h0⟩ | ⟨g, cap, cur, rfl, _⟩
  · exact ⟨none, 0, by rw [h0]⟩
  · exact ⟨_, cap, rfl⟩

set_option maxRecDepth 100000 in
set_option maxHeartbeats 16000000 in
theorem threadLine_any (b : Nat) (s : PX.S) (h : Hd) (w : World) (L : LT w b s h) (h4' : s.threads.length ≤ 4) :
    Calls Try.prog 36 #[.pointer (some ⟨b, 0, none⟩)] w (EndsP w b h (PX.threadLine s)) := by
  have hbl := L.ls.ps.lt
  have U0 := (TP.start L).alloc (.cells #[.string ⟨#[116, 104, 114, 101, 97, 100]⟩] 9)
  have C1 := take_any b s h _ [PX.kThread] _ U0.lt.ls.ps (strSl_one _ _) (symsOk_bs (by decide))
  have C3 := Lib.hid fun s g W (p : PS (W.alloc (.cells #[.string ⟨#[69, 78, 68]⟩] 9)) b s g) => take_any b s g _ [PX.sEND] _ p (strSl_one W _) (symsOk_one (by decide))
  have CF := Lib.hid fun W pl => fail_any pl 5 W
  obtain ⟨R, e0⟩ : ∃ R, PX.threadLine s = R := ⟨_, rfl⟩
  rw [e0]
  obtain ⟨a7, cap7, hvt⟩ := L.thr.sl
  obtain ⟨n, hn⟩ : ∃ n, s.threads.length = n := ⟨_, rfl⟩
  rw [hn] at hvt h4'
  replace e0 := Lib.hid e0
  replace C1 := Lib.hid C1
  replace U0 := Lib.hid U0
  by_cases h4 : n = 4
  · have t1 : ((n : Int) == 4) = true := by simp; omega
    clear h4'
    replace h4 := Lib.hid h4
    go_enter Try.func36, Try.ntmps36
    go_wp2_with (first
      | (go_at_call 41; refine call0 C1.out (fun t s1 w1 hx1 F1 P1 => ?_) (fun pl er w1 hx F => ⟨rfl, EndsP.bad (U0.out.fr.trans F.up) (by rw [← e0.out]; unfold PX.threadLine; rw [hx]; rfl)⟩)
         dsimp only [tokV]
         have U1 := (U0.out.step0 F1 (mv_take hx1) P1).alloc (.cells #[.int .u8 t.k, .string t.x, .int .i64 t.p] 61)
         obtain ⟨vr1, d1, fb1⟩ := U1.lt.ls.ps.cellAt 7
         unfold psC at d1
         simp only [List.getElem?_toArray, List.getElem?_cons_zero, List.getElem?_cons_succ, hvt] at d1
         have hz := heap_alloc_new w1 (.cells #[.int .u8 t.k, .string t.x, .int .i64 t.p] 61)
         have hz2 := cell_of_row _ _ 2 _ _ _ hz
         simp only [List.getElem?_toArray, List.getElem?_cons_zero, List.getElem?_cons_succ] at hz2
         replace U1 := Lib.hid U1)
      | (go_at_call 28; refine (CF.out _ _).mono ?_; rintro e w4 ⟨rfl, rfl⟩))
    refine ⟨rfl, ?_⟩
    first
      | (rename_i hh; rw [← hh])
      | (rename_i hh _; rw [← hh])
    refine EndsP.bad U1.out.fr ?_
    rw [← e0.out]; unfold PX.threadLine; rw [hx1]; simp only [PX.R.bind]
    rw [if_pos (by obtain ⟨l, rfl⟩ := mv_take hx1; show s.threads.length = 4; rw [hn]; exact h4.out)]
  · have t1 : ((n : Int) == 4) = false := by simp; omega
    obtain ⟨i0, hi0, hy0, hy1, hy2⟩ := infoThr
    go_enter Try.func36, Try.ntmps36
    go_wp2_with (first
      | (go_at_call 41; have V := fb1; refine call0 c3.out (fun t3 s3 w3 hx3 F3 P3 => ?_) (fun pl er w3 hx F => ⟨rfl, EndsP.bad (U1.out.fr.trans F.up) (by rw [← e0.out]; unfold PX.threadLine; rw [hx1]; simp only [PX.R.bind]; rw [if_neg (by obtain ⟨l, rfl⟩ := mv_take hx1; show ¬ s.threads.length = 4; rw [hn]; exact h4)]; rw [hx])⟩)
         dsimp only [tokV]
         have U3 := U1.out.step0 F3 (mv_take hx3) P3
         obtain ⟨vr3, d3, fb3⟩ := U3.lt.ls.ps.cellAt 7
         unfold psC at d3
         simp only [List.getElem?_toArray, List.getElem?_cons_zero, List.getElem?_cons_succ, hvt] at d3
         obtain ⟨vs, o1, o2⟩ := id U3.lt.thr
         have hl3 : s3.threads.length = n := by obtain ⟨l, rfl⟩ := mv_take hx3; obtain ⟨l', rfl⟩ := mv_take hx1; exact hn
         rw [hl3, hvt] at o1
         have r1 := Lib.hid (World.ownsRow.alloc o1 (.cells #[.slice none 0 0] 42))
         have r2 := Lib.hid (one_cell w3 (.slice none 0 0) 42)
         have r3 : Hid (∀ u ∈ [Value.slice none 0 0], u.oneCell' = true) := Lib.hid fun u hu => by simp at hu; subst hu; rfl
         have hb3 := U3.lt.ls.ps.lt
         replace U3 := Lib.hid U3
         replace o1 := Lib.hid o1
         replace o2 := Lib.hid o2)
      | (go_at_call 41; refine call0 C1.out (fun t s1 w1 hx1 F1 P1 => ?_) (fun pl er w1 hx F => ⟨rfl, EndsP.bad (U0.out.fr.trans F.up) (by rw [← e0.out]; unfold PX.threadLine; rw [hx]; rfl)⟩)
         dsimp only [tokV]
         have U1 := (U0.out.step0 F1 (mv_take hx1) P1).alloc (.cells #[.int .u8 t.k, .string t.x, .int .i64 t.p] 61)
         obtain ⟨vr1, d1, fb1⟩ := U1.lt.ls.ps.cellAt 7
         unfold psC at d1
         simp only [List.getElem?_toArray, List.getElem?_cons_zero, List.getElem?_cons_succ, hvt] at d1
         replace U1 := U1.alloc (.cells #[.string ⟨#[69, 78, 68]⟩] 9)
         have c3 := C3.out _ _ _ U1.lt.ls.ps
         simp only [World.size_alloc] at c3
         replace c3 := Lib.hid c3
         replace U1 := Lib.hid U1)
      | (at_builtin; refine wpList_append_own_at _ rfl _ _ 37 rfl (b + 1) 42 i0 _ 1 24 Try.underlying37 hi0 hy0 hy1 hy2 rfl (by decide) _ _ _ rfl r1.out ⟨w3.heap.size, 0, none⟩ 1 1 _ rfl rfl r2.out r3.out (by unfold maxLen; omega) (by omega) (by simp; omega) ?_; intro v' w5 hown5 hgrow5 _ _
         have hk5 : ∀ (i : Nat) (D : Array Value) (t : TypeId), t ≠ 42 → w3.heap[i]? = some (.cells D t (0, 0)) → w5.heap[i]? = some (.cells D t (0, 0)) := fun i D t ht hi => grown_keep r1.out hgrow5 i D t ht (row_alloc hi _)
         have hF5 := U3.out.fr.trans ((Fr.of_below (T := T2) (b := b) ((Below.refl w3.heap.size w3).alloc (Nat.le_refl _) (.cells #[.slice none 0 0] 42))).trans (Fr.grown (T := T2) r1.out (Nat.lt_succ_self b) thrT2 hgrow5))
         obtain ⟨g', cap', rfl⟩ := own_formT hown5
         have hL5 := LT.newVt (W' := w5) (vt' := .slice (some ⟨g', 0, none⟩) (n + 1) cap') (th' := s3.threads ++ [[]]) U3.out.lt (fun i D t h1 _ hi => hk5 i D t h1 hi) (by have := hgrow5.size; simp at this; omega) ⟨vs ++ [.slice none 0 0], by rw [List.length_append, List.length_singleton, hl3]; exact hown5, (o2.out.keep fun g cur hg hh => hk5 g cur _ (by decide) hh).push⟩
         have U5 : Hid (TP w b h _ _ _) := Lib.hid ⟨hF5.setB 7 (.slice (some ⟨g', 0, none⟩) (n + 1) cap'), hL5, U3.out.hg⟩
         obtain ⟨vr5, h51, -⟩ := id U3.out.lt.ls.ps
         have h52 := hk5 b _ _ (by decide) h51
         have c57 := cell_of_row _ b 7 _ _ _ h52
         have f57 := frozen_of_row _ b 7 _ _ h52
         have f514 := frozen_of_row _ b 14 _ _ h52
         have c514 := cell_of_row _ b 14 _ _ _ h52
         unfold psC at c57 c514
         simp only [List.getElem?_toArray, List.getElem?_cons_zero, List.getElem?_cons_succ] at c57 c514
         clear hk5 hF5 hL5 hown5 hgrow5 h51 h52))
    go_end0
    exact (U5.out.setDone 3).ok (by rw [← e0.out]; unfold PX.threadLine; rw [hx1]; simp only [PX.R.bind]; rw [if_neg (by obtain ⟨l, rfl⟩ := mv_take hx1; show ¬ s.threads.length = 4; rw [hn]; exact h4)]; rw [hx3])
end PP
end Go.Proofs.Ytglbmiadgdadfaa
end

section
/- The parser's lines: an instruction. -/
namespace Go.Proofs.Ytglbmiadgdadfaa
open Go.RowKit Go.Shelf

attribute [local go_sem] Oper.semAt_some
namespace PP
theorem step_append_at {P : Program} {ops : Array Oper} {o : Oper} {a : Act} {w : World} {K : Act → World → Prop} {Q : Exit → Act → World → Prop} {E : Prop}
    (hg : o.guard = none) (s x : Operand) (t : TypeId) (hop : o.op = Op.call { callee := Callee.builtin Builtin.append, args := #[s, x], argTypes := #[t, t] })
    (base : Nat) (e : TypeId) (i : TypeInfo) (z : Value) (size bytes : Nat) (ht : P.underlying t = some (.slice e)) (hi : P.info? e = some i) (hz : i.zero = some z)
    (hsize : i.size = size) (hby : i.bytes = bytes) (hzs : z.cells.size = size) (hsz : 0 < size)
    (v : Value) (n : Nat) (xs : List Value) (hs : a.eval s = v) (hown : w.ownsRow base e size v n xs)
    (ad : Addr) (m c : Nat) (news : List Value) (hx : a.eval x = .slice (some ad) m c) (hl : news.length = m * size) (hnews : ∀ j u, news[j]? = some u → w.cell? (ad.add j) = some u) (h1 : ∀ u ∈ news, u.oneCell' = true)
    (h63 : n + m ≤ maxLen) (hbytes : (n + m) * bytes ≤ 140737488355328) (hbase : base ≤ w.heap.size)
    (h : ∀ v' w', w'.ownsRow base e size v' (n + m) (xs ++ news) → w.grownBy w' v.ownBlock → (v'.ownBlock = v.ownBlock ∨ v'.ownBlock = some w.heap.size) → K (a.put o.dst v') w') :
    if Region.wanted o (yielded ops a.tmps) = true then Oper.wp P o a w K Q else E := by
  have hw : Region.wanted o (yielded ops a.tmps) = true := by simp [Region.wanted, hg]
  rw [if_pos hw]
  obtain ⟨v', w', hr, h2, h3, _, h5⟩ := run_append_own_at (P := P) w base t o.type e i z size bytes ht hi hz hsize hby hzs hsz v n xs hown ad m c news hl hnews h1 h63 hbytes hbase
  unfold Oper.wp execOp
  simp only [hop, resolve, invoke, builtin, Sem.run_bind, Sem.run_pure, Result.andThen_ok, List.map_toArray, List.map_cons, List.map_nil, hs, hx, hr]
  exact h _ _ h2 h3 h5
theorem infoIns : ∃ i : TypeInfo, Try.prog.info? 46 = some i ∧ i.zero = some (insV { op := 0 }) ∧ i.size = 10 ∧ i.bytes = 10 := by
  have h : (Try.prog.info? 46).map (fun i => (i.zero, i.size, i.bytes)) = some (some (insV { op := 0 }), 10, 10) := by kernel_rfl
  cases hi : Try.prog.info? 46 with
  | none => rw [hi] at h; cases h
  | some i =>
    rw [hi] at h
    simp only [Option.map_some, Option.some.injEq, Prod.mk.injEq] at h
    exact ⟨i, rfl, h.1, h.2.1, h.2.2⟩
theorem ins_cells (w : World) (x : PX.InsD) : ∀ (j : Nat) (u : Value), (insC x).toList[j]? = some u → (w.alloc (.cells (insC x) 46)).cell? (Addr.add ⟨w.heap.size, 0, none⟩ j) = some u := fun j u hu => by
  rw [Go.WideShapes.add_plain, Nat.zero_add]
  have := cell_of_row _ w.heap.size j _ _ _ (heap_alloc_new w (.cells (insC x) 46))
  rw [this, ← Array.getElem?_toList]
  exact hu
theorem insLine_eq (s : PX.S) (li : List (List PX.InsD)) (k : List PX.InsD) (hth : s.threads = li ++ [k]) : PX.insLine s = if k.length = 12 then .bad (PX.next s).p 5 else (PX.ins s).bind fun x s => (PX.take [PX.sEND] { s with threads := s.threads.dropLast ++ [s.threads.getLastD [] ++ [x]] }).bind fun _ s => .ok () s := by
  unfold PX.insLine
  rw [hth]
  simp

set_option maxRecDepth 100000 in
set_option maxHeartbeats 16000000 in
theorem insLine_any (b : Nat) (s : PX.S) (h : Hd) (w : World) (L : LT w b s h) (h0 : s.threads ≠ []) (h4 : s.threads.length ≤ 4) (h12 : ∀ k ∈ s.threads, k.length ≤ 12) :
    Calls Try.prog 37 #[.pointer (some ⟨b, 0, none⟩)] w (EndsP w b h (PX.insLine s)) := by
  have hbl := L.ls.ps.lt
  obtain ⟨li, k, hth⟩ : ∃ li k, s.threads = li ++ [k] := ⟨_, _, (List.dropLast_concat_getLast h0).symm⟩
  have hk12 := h12 k (by rw [hth]; simp)
  obtain ⟨vs, o1, o2⟩ := id L.thr
  rw [hth] at o1 o2 h4
  obtain ⟨n, hn⟩ : ∃ n, li.length = n := ⟨_, rfl⟩
  rw [List.length_append, List.length_singleton, hn] at o1 h4
  obtain ⟨gT, cT, hvt⟩ := own_formT o1
  rw [hvt] at o1
  have hvs : vs.length = n + 1 := by rw [o2.1]; simp [hn]
  obtain ⟨vi, u, rfl⟩ : ∃ vi u, vs = vi ++ [u] := ⟨_, _, (List.dropLast_concat_getLast (l := vs) (by intro e; rw [e] at hvs; simp at hvs)).symm⟩
  have hvi : vi.length = n := by simp at hvs; exact hvs
  have ou := o2.2.1 n u k (by rw [← hvi, List.getElem?_append_right (Nat.le_refl _)]; simp) (by rw [← hn, List.getElem?_append_right (Nat.le_refl _)]; simp)
  have cTn : w.cell? ⟨gT, n, none⟩ = some u := by
    rw [World.ownsRow.cellAt o1 n (by omega), ← hvi, List.getElem?_append_right (Nat.le_refl _)]; simp
  obtain ⟨a9, c9, hu⟩ : ∃ a c, u = .slice a k.length c := by
    rcases ou.2 with ⟨rfl, h0⟩ | ⟨g, cap, cur, rfl, _⟩
    · exact ⟨none, 0, by rw [h0]⟩
    · exact ⟨_, cap, rfl⟩
  obtain ⟨q, hq⟩ : ∃ q, k.length = q := ⟨_, rfl⟩
  rw [hq] at hu hk12
  obtain ⟨vr0, d0, fb0⟩ := L.ls.ps.cellAt 7
  unfold psC at d0
  simp only [List.getElem?_toArray, List.getElem?_cons_zero, List.getElem?_cons_succ, hvt] at d0
  have C0 : Hid (∀ W, PS W b s h → Calls Try.prog 21 #[.pointer (some ⟨b, 0, none⟩)] W fun e w' => e = .returned (.agg #[.int .u8 (PX.next s).k, .string (PX.next s).x, .int .i64 (PX.next s).p]) ∧ Below W.heap.size W w') := Lib.hid fun W (p : PS W b s h) => next_any b s h W p
  have CI := Lib.hid fun W (L' : LS W b s h) => ins_any b s h W L'
  have CE := Lib.hid fun s g W (p : PS (W.alloc (.cells #[.string ⟨#[69, 78, 68]⟩] 9)) b s g) => take_any b s g _ [PX.sEND] _ p (strSl_one W _) (symsOk_one (by decide))
  have CF := Lib.hid fun W pl => fail_any pl 5 W
  have e0 := insLine_eq s li k hth
  rw [hq] at e0
  obtain ⟨R, hR⟩ : ∃ R, PX.insLine s = R := ⟨_, rfl⟩
  rw [hR] at e0 ⊢
  have U0 := TP.start L
  replace e0 := Lib.hid e0
  replace U0 := Lib.hid U0
  replace o1 := Lib.hid o1
  replace o2 := Lib.hid o2
  replace ou := Lib.hid ou
  replace hth := Lib.hid hth
  subst hu
  replace hq := Lib.hid hq
  clear hvs
  by_cases hq12 : q = 12
  · have t1 : ((q : Int) == 12) = true := by simp; omega
    replace hq12 := Lib.hid hq12
    clear hk12
    have hf2 := tok_f2
    go_enter Try.func37, Try.ntmps37
    go_wp2_with fail
    go_quiet (fail)
    have U1 := Lib.hid (U0.out.below (drewB w nq))
    go_wp2_with (first
      | (go_at_call 21; refine (C0.out _ U1.out.lt.ls.ps).mono ?_; rintro e w2 ⟨rfl, B2⟩
         have U2 := Lib.hid (U1.out.below B2))
      | (go_at_call 28; refine (CF.out _ _).mono ?_; rintro e w4 ⟨rfl, rfl⟩))
    refine ⟨rfl, ?_⟩
    first
      | (rename_i hh; rw [← hh])
      | (rename_i hh _; rw [← hh])
    refine EndsP.bad U2.out.fr ?_
    rw [e0.out, if_pos hq12.out]
  · have t1 : ((q : Int) == 12) = false := by simp; omega
    have e1 : Hid (R = (PX.ins s).bind fun x s => (PX.take [PX.sEND] { s with threads := s.threads.dropLast ++ [s.threads.getLastD [] ++ [x]] }).bind fun _ s => .ok () s) := Lib.hid (by rw [e0.out, if_neg hq12])
    obtain ⟨i0, hi0, hy0, hy1, hy2⟩ := infoIns
    replace hq12 := Lib.hid hq12
    go_enter Try.func37, Try.ntmps37
    go_wp2_with fail
    go_quiet (fail)
    have U1 := U0.out.below (drewB w nq)
    have D1 := Lib.hid (U1.below (drewB1 (w.drewN nq)))
    have cD := cTn
    have hBD : Below w.heap.size w (w.drewN nq).drew := (drewB w nq).trans (drewB1 (w.drewN nq))
    have oD1 := Lib.hid (own_sameT (W' := (w.drewN nq).drew) o1.out fun g cur _ hh => (hBD.block g (lt_of_heap hh)).trans hh)
    have oD2 := Lib.hid (o2.out.keep (W' := (w.drewN nq).drew) fun g cur _ hh => (hBD.block g (lt_of_heap hh)).trans hh)
    have oDu := Lib.hid (own_sameT (W' := (w.drewN nq).drew) ou.out fun g cur _ hh => (hBD.block g (lt_of_heap hh)).trans hh)
    clear o1 o2 ou cD hBD
    go_wp2_with fail
    go_region_law (first
      | (refine step_append_at rfl (.tmp 30) (.tmp 33) 42 rfl (b + 1) 46 i0 _ 10 10 Try.underlying42 hi0 hy0 hy1 hy2 rfl (by decide) _ q _ rfl r1.out ⟨w2.heap.size, 0, none⟩ 1 1 _ rfl rfl r2.out r3.out (by unfold maxLen; omega) (by omega) (by simp; omega) ?_
         intro v' w5 hown5 hgrow5 hblk5
         obtain ⟨g9, c5, rfl⟩ := own_formT hown5
         have o5 := own_sameT (W' := w5) pD1.out fun g cur _ hh => grown_keep r1.out hgrow5 g cur _ (by decide) (row_alloc hh _)
         have f5 := World.ownsRow.frozenAt o5 n
         have c5n : w5.cell? ⟨gT, n, none⟩ = some (.slice a9 q c9) := by
           rw [World.ownsRow.cellAt o5 n (by omega), ← hvi, List.getElem?_append_right (Nat.le_refl _)]; simp
         have X5 := Lib.hid (And.intro hown5 (And.intro hgrow5 (And.intro hblk5 o5)))
         clear hown5 hgrow5 hblk5 o5)
      | (go_simp
         go_at_call 49
         refine call1 (CI.out _ D1.out.lt.ls) (fun x s2 w2 vl vi' hx2 F2 L2 => ?_) (fun pl er w2 hx F => ⟨rfl, EndsP.bad (D1.out.fr.trans (F.mono T1_T2)) (by rw [e1.out, hx]; rfl)⟩)
         dsimp only [insV]
         have hlv := PX.keep_ins (PX.lv_stb s) s (PX.Lv.refl s) _ _ hx2
         have U2 := D1.out.step1 F2 hlv L2
         have pD1 := own_sameT (W' := w2) oD1.out fun g cur hg hh => F2.box hh (by omega) (by simp [T1])
         have pDu := own_sameT (W' := w2) oDu.out fun g cur hg hh => F2.box hh (by omega) insT1
         have pD2 := Lib.hid (oD2.out.keep (W' := w2) fun g cur hg hh => F2.box hh (by omega) insT1)
         have cT2 : w2.cell? ⟨gT, n, none⟩ = some (.slice a9 q c9) := by
           rw [World.ownsRow.cellAt pD1 n (by omega), ← hvi, List.getElem?_append_right (Nat.le_refl _)]; simp
         have cT3 : (w2.alloc (.cells (insC x) 46)).cell? ⟨gT, n, none⟩ = some (.slice a9 q c9) := by
           rw [World.ownsRow.cellAt (World.ownsRow.alloc pD1 _) n (by omega), ← hvi, List.getElem?_append_right (Nat.le_refl _)]; simp
         unfold insC at cT3
         rw [hq.out] at pDu
         have r1 := Lib.hid (World.ownsRow.alloc pDu (.cells (insC x) 46))
         have r2 := Lib.hid (ins_cells w2 x)
         have r3 : Hid (∀ u ∈ (insC x).toList, u.oneCell' = true) := Lib.hid fun u hu => by
           simp only [insC, List.mem_cons, List.not_mem_nil, or_false] at hu
           rcases hu with rfl | rfl | rfl | rfl | rfl | rfl | rfl | rfl | rfl | rfl <;> rfl
         have hb2 := U2.lt.ls.ps.lt
         replace pD1 := Lib.hid pD1
         replace U2 := Lib.hid U2
         replace hlv := Lib.hid hlv
         clear pDu))
    all_goals
      have hst : ∀ (i : Nat) (D : Array Value) (t : TypeId), t ≠ 42 → w5.heap[i]? = some (.cells D t (0, 0)) → (w5.setCell ⟨gT, n, none⟩ (.slice (some ⟨g9, 0, none⟩) (q + 1) c5)).heap[i]? = some (.cells D t (0, 0)) := fun i D t ht hi => (Below.heap_setCell w5 ⟨gT, n, none⟩ _ i (by
        show i ≠ gT
        rintro rfl
        obtain ⟨_, cur, hC⟩ := own_rowT X5.out.2.2.2 (g := i) rfl
        rw [hC] at hi; cases hi; exact ht rfl)).trans hi
      have hth2 : s2.threads = li ++ [k] := by rw [hlv.out.2.2.1]; exact hth.out
      have hgs := X5.out.2.1.size
      have hthr : ThrM (w5.setCell ⟨gT, n, none⟩ (.slice (some ⟨g9, 0, none⟩) (q + 1) c5)) (b + 1) h.vt (li ++ [k ++ [x]]) := by
        refine ⟨vi ++ [.slice (some ⟨g9, 0, none⟩) (q + 1) c5], ?_, ThrR.last pD2.out (by rw [hvi, hn]) (fun g cur hg hne hh => ?_) ?_ ?_⟩
        · have := (World.ownsRow.stored X5.out.2.2.2 n (.slice (some ⟨g9, 0, none⟩) (q + 1) c5)).1
          rw [show (vi ++ [Value.slice a9 q c9]).set n (.slice (some ⟨g9, 0, none⟩) (q + 1) c5) = vi ++ [.slice (some ⟨g9, 0, none⟩) (q + 1) c5] by rw [← hvi, List.set_append_right _ _ (Nat.le_refl _)]; simp] at this
          rw [hvt, List.length_append, List.length_singleton, hn]
          exact this
        · refine hst g cur _ (by decide) ?_
          rw [X5.out.2.1.block g (by have := lt_of_heap hh; simp; omega) (fun e => hne e.symm)]
          exact row_alloc hh _
        · rcases X5.out.2.2.1 with e | e
          · exact .inl e
          · exact .inr ⟨_, e, by simp⟩
        · rw [List.length_append, List.length_singleton, hq.out, cellsI_snoc]
          exact own_sameT X5.out.1 fun g cur _ hh => hst g cur _ (by decide) hh
      have hL6 := LT.newThr (W' := w5.setCell ⟨gT, n, none⟩ (.slice (some ⟨g9, 0, none⟩) (q + 1) c5)) U2.out.lt (fun i D t h1 h2 hi => hst i D t h1 (grown_keep r1.out X5.out.2.1 i D t h2 (row_alloc hi _))) (by simp at hgs ⊢; omega) hthr
      have hF6 : Fr T2 b w (w5.setCell ⟨gT, n, none⟩ (.slice (some ⟨g9, 0, none⟩) (q + 1) c5)) := by
        obtain ⟨hbk, cur, hC⟩ := own_rowT X5.out.2.2.2 (g := gT) rfl
        exact ((U2.out.fr.trans (Fr.of_below ((Below.refl w2.heap.size w2).alloc (Nat.le_refl _) (.cells (insC x) 46)))).trans (Fr.grown r1.out (Nat.lt_succ_self b) insT2 X5.out.2.1)).trans (Fr.setT (by omega) hC thrT2 n _)
      have e2 : Hid (R = (PX.take [PX.sEND] { s2 with threads := li ++ [k ++ [x]] }).bind fun _ s => .ok () s) := Lib.hid (by
        rw [e1.out, hx2]; simp only [PX.R.bind]; rw [hth2]; simp)
      have U6 : TP w b h (w5.setCell ⟨gT, n, none⟩ (.slice (some ⟨g9, 0, none⟩) (q + 1) c5)) _ _ := ⟨hF6, hL6, rfl⟩
      replace U6 := U6.alloc (.cells #[.string ⟨#[69, 78, 68]⟩] 9)
      have c6 := CE.out _ _ _ U6.lt.ls.ps
      simp only [World.size_setCell] at c6
      replace c6 := Lib.hid c6
      replace U6 := Lib.hid U6
      clear hst hthr hL6 hF6
      go_wp2_with (first
        | (go_at_call 41; refine call0 c6.out (fun t7 s7 w7 hx7 F7 P7 => ?_) (fun pl er w7 hx F => ⟨rfl, EndsP.bad (U6.out.fr.trans F.up) (by rw [e2.out, hx]; rfl)⟩)
           dsimp only [tokV]
           have U7 := Lib.hid (U6.out.step0 F7 (mv_take hx7) P7)))
      go_end0
      exact U7.out.ok (by rw [e2.out, hx7]; rfl)
end PP
end Go.Proofs.Ytglbmiadgdadfaa
end

section
/- The parser's last condition. -/
namespace Go.Proofs.Ytglbmiadgdadfaa
open Go.RowKit Go.Shelf

attribute [local go_sem] Oper.semAt_some
namespace PP
set_option maxRecDepth 100000 in
set_option maxHeartbeats 16000000 in
theorem lastCond_any (b : Nat) (at_ : Int) (s : PX.S) (h : Hd) (w : World) (L : LS w b s h) (hlen : s.rest.length < 100000) :
    Calls Try.prog 20 #[.pointer (some ⟨b, 0, none⟩), .int .i64 at_] w (Ends2 w b h (PX.lastCond at_ s)) := by
  have hbl := L.ps.lt
  have hgl := L.ps.g_lt
  have U0 := (Tr.start L).alloc (.cells #[.int .u8 0, .int .u8 0, .int .u8 0, .int .u8 0, .slice none 0 0] 24)
  have z0 := newCond w
  have C1 := Lib.hid (disj_any b (s.rest.length + 1) (by omega) s h _ (by omega) U0.ls)
  have C2 := Lib.hid fun s g W (p : PS W b s g) => takeLast_any b s g W p
  have C3 := Lib.hid fun (c : PX.CondD) (x : CV) (W : World) (hc : CondR W x c) (hd : PX.deep c ≤ 2 * (s.rest.length + 1) + 2) => deep_any _ c x W hd (by omega) hc
  have C4 := Lib.hid fun W => fail_any at_ 5 W
  have hdp := PX.deep_disj (s.rest.length + 1) s
  obtain ⟨R, e0⟩ : ∃ R, PX.lastCond at_ s = R := ⟨_, rfl⟩
  rw [e0]
  replace e0 := Lib.hid e0
  replace hdp := Lib.hid hdp
  replace U0 := Lib.hid U0
  replace z0 := Lib.hid z0
  go_enter Try.func20, Try.ntmps20
  go_wp2_with (first
    | (go_at_call 26; refine call2 C1.out (fun c x s1 w1 vl vi hx1 F1 M1 L1 => ?_) (fun pl er w1 hx F => ⟨rfl, Ends2.bad (U0.out.fr.trans F) (by rw [← e0.out]; unfold PX.lastCond; rw [hx]; rfl)⟩)
       obtain ⟨xa, xl, xc, hu⟩ := M1.slice
       obtain ⟨xk, xt, xn, xv, xu⟩ := x
       obtain rfl : xu = .slice xa xl xc := hu
       dsimp only [condV]
       have hdc := hdp.out _ _ hx1
       have U1 := (U0.out.step1 F1 L1).alloc (.cells (condC ⟨xk, xt, xn, xv, .slice xa xl xc⟩) 24)
       have q1 := F1.box z0.out (by omega) condT1
       have hs1 := lt_of_heap q1
       have hs0 := lt_of_heap z0.out
       have x1 := Lib.hid (heap_alloc_new w1 (.cells (condC ⟨xk, xt, xn, xv, .slice xa xl xc⟩) 24))
       have z1 := Lib.hid (row_alloc q1 (.cells (condC ⟨xk, xt, xn, xv, .slice xa xl xc⟩) 24))
       have c2 := C2.out _ _ _ U1.ls.ps
       unfold condC at c2
       replace c2 := Lib.hid c2
       replace U1 := Lib.hid U1
       replace M1 := Lib.hid M1
       replace hdc := Lib.hid hdc)
    | (go_at_call 27; refine call0 c2.out (fun u s2 w2 hx2 F2 P2 => ?_) (fun pl er w2 hx F => ⟨rfl, Ends2.bad (U1.out.fr.trans F.up) (by rw [← e0.out]; unfold PX.lastCond; rw [hx1]; simp only [PX.R.bind, hx])⟩)
       dsimp only
       have U2 := U1.out.step0 F2 (mv_takeLast hx2) P2
       have x2 := F2.box x1.out (by omega) (by simp)
       have z2 := F2.box z1.out (by omega) (by simp)
       have M2 := CondM.mono (W' := w2) (Q' := fun g => (w.alloc (.cells #[.int .u8 0, .int .u8 0, .int .u8 0, .int .u8 0, .slice none 0 0] 24)).heap.size ≤ g) (fun g C hq hh => F2.box (row_alloc hh _) (by have : (w.alloc (.cells #[.int .u8 0, .int .u8 0, .int .u8 0, .int .u8 0, .slice none 0 0] 24)).heap.size ≤ g := hq; simp only [World.size_alloc] at this; omega) (by simp)) (fun g hq => hq) c _ M1.out
       have c3 := C3.out c _ w2 (CondM.toR c _ M2) hdc.out
       unfold condV at c3
       replace c3 := Lib.hid c3
       obtain ⟨y0, y1, y2, y3, y4⟩ := row_cond x2
       have X2 := Lib.hid x2
       have Z2 := Lib.hid z2
       clear z2 x2
       replace U2 := Lib.hid U2
       replace M2 := Lib.hid M2)
    | (go_at_call 7; refine (c3.out).mono ?_; rintro e w3 ⟨rfl, B3⟩
       have U3 := U2.out.below B3
       have x3 := (B3.block _ (lt_of_heap X2.out)).trans X2.out
       have z3 := (B3.block _ (lt_of_heap Z2.out)).trans Z2.out
       obtain ⟨v0, v1, v2, v3, v4⟩ := row_cond x3
       obtain ⟨u0, u1, u2, u3, u4⟩ := row_cond z3
       have fz := fun j => frozen_of_row _ _ j _ _ z3
       have V3 := Lib.hid z3
       clear z3 x3
       replace U3 := Lib.hid U3)
    | (go_at_call 28; refine (C4.out _).mono ?_; rintro e w4 ⟨rfl, rfl⟩))
  · refine ⟨rfl, ?_⟩
    first
      | (rename_i hh; rw [← hh])
      | (rename_i hh _; rw [← hh])
      | (rename_i hh _ _; rw [← hh])
    refine Ends2.bad U3.out.fr ?_
    rw [← e0.out]; unfold PX.lastCond; rw [hx1]; simp only [PX.R.bind, hx2]
    rw [if_pos (by omega)]
  · have Z := setCond_row ⟨xk, xt, xn, xv, .slice xa xl xc⟩ V3.out
    have hM : CondM (setCond w3 w.heap.size ⟨xk, xt, xn, xv, .slice xa xl xc⟩) (fun i => w.heap.size ≤ i) ⟨xk, xt, xn, xv, .slice xa xl xc⟩ c := by
      refine CondM.mono (fun g C hq hh => ?_) (fun g hq => ?_) c _ M2.out
      · have hq' : (w.alloc (.cells #[.int .u8 0, .int .u8 0, .int .u8 0, .int .u8 0, .slice none 0 0] 24)).heap.size ≤ g := hq
        rw [World.size_alloc] at hq'
        exact setCond_keep ((B3.block g (lt_of_heap hh)).trans hh) (by omega)
      · have hq' : (w.alloc (.cells #[.int .u8 0, .int .u8 0, .int .u8 0, .int .u8 0, .slice none 0 0] 24)).heap.size ≤ g := hq
        rw [World.size_alloc] at hq'
        show w.heap.size ≤ g
        omega
    have hT := Tr.cond (c := c) (r := R) (U3.out.setCond (Nat.le_refl _) hbl hgl ⟨xk, xt, xn, xv, .slice xa xl xc⟩ V3.out) (by
      rw [← e0.out]; unfold PX.lastCond; rw [hx1]; simp only [PX.R.bind, hx2]
      rw [if_neg (by omega)]) hM
    refine bodyPost_ret (v := condV ⟨xk, xt, xn, xv, .slice xa xl xc⟩) ?_ rfl hT
    exact cond_results (p := 4) rfl _ _ w.heap.size ⟨xk, xt, xn, xv, .slice xa xl xc⟩ rfl Z

set_option maxRecDepth 100000 in
set_option maxHeartbeats 16000000 in
theorem onlyCond_any (b : Nat) (s : PX.S) (h : Hd) (w : World) (L : LS w b s h) (hlen : s.rest.length < 100000) :
    Calls Try.prog 14 #[.pointer (some ⟨b, 0, none⟩)] w (Ends2 w b h (PX.onlyCond s)) := by
  have hbl := L.ps.lt
  have hgl := L.ps.g_lt
  have U0 := (Tr.start L).alloc (.cells #[.int .u8 0, .int .u8 0, .int .u8 0, .int .u8 0, .slice none 0 0] 24)
  have z0 := newCond w
  have C1 := Lib.hid (next_any b s h _ U0.ls.ps)
  have C2 := Lib.hid fun W (L' : LS W b s h) => lastCond_any b (PX.next s).p s h W L' hlen
  obtain ⟨R, e0⟩ : ∃ R, PX.lastCond (PX.next s).p s = R := ⟨_, rfl⟩
  have e1 : PX.onlyCond s = R := e0
  rw [e1]
  rw [e0] at C2
  clear e0 e1
  replace U0 := Lib.hid U0
  replace z0 := Lib.hid z0
  have hf2 := tok_f2
  generalize PX.next s = tk at *
  go_enter Try.func14, Try.ntmps14
  go_wp2_with (first
    | (go_at_call 21; refine (C1.out).mono ?_; rintro e w1 ⟨rfl, B1⟩; dsimp only [tokV]
       have U1 := U0.out.below B1
       have z1 := (B1.block _ (lt_of_heap z0.out)).trans z0.out)
    | (go_at_call 20; refine call2 (C2.out _ U1.ls) (fun c x s5 w5 vl vi hx5 F5 M5 L5 => ?_) (fun pl er w5 hx F => ⟨rfl, Ends2.bad (U1.fr.trans F) hx⟩)
       obtain ⟨xa, xl, xc, hu⟩ := M5.slice
       obtain ⟨xk, xt, xn, xv, xu⟩ := x
       obtain rfl : xu = .slice xa xl xc := hu
       dsimp only [condV]
       have U5 := U1.step1 F5 L5
       have z5 := F5.box z1 (by omega) condT1
       have hs0 := lt_of_heap z1
       obtain ⟨v0, v1, v2, v3, v4⟩ := row_cond z5
       have fv := fun j => frozen_of_row _ _ j _ _ z5
       have V5 := Lib.hid z5
       replace U5 := Lib.hid U5
       replace M5 := Lib.hid M5))
  have Z := setCond_row ⟨xk, xt, xn, xv, .slice xa xl xc⟩ V5.out
  have hM : CondM (setCond w5 w.heap.size ⟨xk, xt, xn, xv, .slice xa xl xc⟩) (fun i => w.heap.size ≤ i) ⟨xk, xt, xn, xv, .slice xa xl xc⟩ c := by
    refine CondM.mono (W := w5) (Q := fun i => w1.heap.size ≤ i) (fun g C hq hh => ?_) (fun g hq => ?_) c _ M5.out
    · exact setCond_keep hh (Nat.ne_of_gt (Nat.lt_of_lt_of_le hs0 hq))
    · exact Nat.le_trans (Nat.le_of_lt hs0) hq
  have hT := Tr.cond (c := c) (r := R) (U5.out.setCond (Nat.le_refl _) hbl hgl ⟨xk, xt, xn, xv, .slice xa xl xc⟩ V5.out) hx5 hM
  refine bodyPost_ret (v := condV ⟨xk, xt, xn, xv, .slice xa xl xc⟩) ?_ rfl hT
  exact cond_results (p := 2) rfl _ _ w.heap.size ⟨xk, xt, xn, xv, .slice xa xl xc⟩ rfl Z
end PP
end Go.Proofs.Ytglbmiadgdadfaa
end

section
/- The parser's lines: the query. -/
namespace Go.Proofs.Ytglbmiadgdadfaa
open Go.RowKit Go.Shelf

attribute [local go_sem] Oper.semAt_some
namespace PP
theorem psC_9 (vr : Value) (s : PX.S) (h : Hd) (v : Value) : (psC vr s h).setIfInBounds 9 v = psC vr s { h with c0 := v } := by
  unfold psC; simp only [List.setIfInBounds_toArray, List.set_cons_succ, List.set_cons_zero]
theorem psC_10 (vr : Value) (s : PX.S) (h : Hd) (v : Value) : (psC vr s h).setIfInBounds 10 v = psC vr s { h with c1 := v } := by
  unfold psC; simp only [List.setIfInBounds_toArray, List.set_cons_succ, List.set_cons_zero]
theorem psC_11 (vr : Value) (s : PX.S) (h : Hd) (v : Value) : (psC vr s h).setIfInBounds 11 v = psC vr s { h with c2 := v } := by
  unfold psC; simp only [List.setIfInBounds_toArray, List.set_cons_succ, List.set_cons_zero]
theorem psC_12 (vr : Value) (s : PX.S) (h : Hd) (v : Value) : (psC vr s h).setIfInBounds 12 v = psC vr s { h with c3 := v } := by
  unfold psC; simp only [List.setIfInBounds_toArray, List.set_cons_succ, List.set_cons_zero]
theorem psC_13 (vr : Value) (s : PX.S) (h : Hd) (v : Value) : (psC vr s h).setIfInBounds 13 v = psC vr s { h with c4 := v } := by
  unfold psC; simp only [List.setIfInBounds_toArray, List.set_cons_succ, List.set_cons_zero]
/-- The parser's condition is written. -/
theorem LT.newCond {W : World} {b : Nat} {s : PX.S} {g : Hd} (L : LT W b s g) (x : CV) (c : PX.CondD) (M : CondM W (fun i => b < i) x c) :
    LT (((((W.setCell ⟨b, 9, none⟩ (.int .u8 x.k)).setCell ⟨b, 10, none⟩ (.int .u8 x.t)).setCell ⟨b, 11, none⟩ (.int .u8 x.n)).setCell ⟨b, 12, none⟩ (.int .u8 x.v)).setCell ⟨b, 13, none⟩ x.u) b { s with cond := c } { g with c0 := .int .u8 x.k, c1 := .int .u8 x.t, c2 := .int .u8 x.n, c3 := .int .u8 x.v, c4 := x.u } := by
  have h1 := L.ls.row (s' := s) (h' := { g with c0 := .int .u8 x.k }) 9 (.int .u8 x.k) rfl rfl (fun vr => psC_9 vr s g _) rfl rfl rfl rfl rfl
  have h2 := h1.row (s' := s) (h' := { g with c0 := .int .u8 x.k, c1 := .int .u8 x.t }) 10 (.int .u8 x.t) rfl rfl (fun vr => psC_10 vr s _ _) rfl rfl rfl rfl rfl
  have h3 := h2.row (s' := s) (h' := { g with c0 := .int .u8 x.k, c1 := .int .u8 x.t, c2 := .int .u8 x.n }) 11 (.int .u8 x.n) rfl rfl (fun vr => psC_11 vr s _ _) rfl rfl rfl rfl rfl
  have h4 := h3.row (s' := s) (h' := { g with c0 := .int .u8 x.k, c1 := .int .u8 x.t, c2 := .int .u8 x.n, c3 := .int .u8 x.v }) 12 (.int .u8 x.v) rfl rfl (fun vr => psC_12 vr s _ _) rfl rfl rfl rfl rfl
  have h5 := h4.row (s' := { s with cond := c }) (h' := { g with c0 := .int .u8 x.k, c1 := .int .u8 x.t, c2 := .int .u8 x.n, c3 := .int .u8 x.v, c4 := x.u }) 13 x.u rfl rfl (fun vr => psC_13 vr s _ _) rfl rfl rfl rfl rfl
  have keep : ∀ (i : Nat) (o : Obj), i ≠ b → W.heap[i]? = some o → (((((W.setCell ⟨b, 9, none⟩ (.int .u8 x.k)).setCell ⟨b, 10, none⟩ (.int .u8 x.t)).setCell ⟨b, 11, none⟩ (.int .u8 x.n)).setCell ⟨b, 12, none⟩ (.int .u8 x.v)).setCell ⟨b, 13, none⟩ x.u).heap[i]? = some o := fun i o hi hh =>
    row_keep (row_keep (row_keep (row_keep (row_keep hh hi 9 _) hi 10 _) hi 11 _) hi 12 _) hi 13 _
  exact ⟨h5, L.opn, L.thr.keep fun i cur t _ hi hh => keep i _ (by omega) hh, x, rfl, rfl, rfl, rfl, rfl, CondM.mono (fun i C hi hh => keep i _ (Nat.ne_of_gt hi) hh) (fun _ hi => hi) _ _ M⟩
theorem ask_lit (x : ByteArray) : PX.askOf x = if x.toList == [115, 111, 109, 101] then 1 else if x.toList == [110, 111, 110, 101] then 2 else if x.toList == [97, 108, 108] then 3 else 0 := by
  unfold PX.askOf PX.kSome PX.kNone PX.kAll
  simp only [beq_lit]

set_option maxRecDepth 100000 in
set_option maxHeartbeats 16000000 in
theorem queryLine_any (b : Nat) (s : PX.S) (h : Hd) (w : World) (L : LT w b s h) (hlen : s.rest.length < 100000) :
    Calls Try.prog 38 #[.pointer (some ⟨b, 0, none⟩)] w (EndsP w b h (PX.queryLine s)) := by
  have hbl := L.ls.ps.lt
  have U0 := (TP.start L).alloc (.cells #[.string ⟨#[115, 111, 109, 101]⟩, .string ⟨#[110, 111, 110, 101]⟩, .string ⟨#[97, 108, 108]⟩] 9)
  have C1 := take_any b s h _ [PX.kSome, PX.kNone, PX.kAll] _ U0.lt.ls.ps (strSl_three _ _ _ _) (symsOk_three (x := [115, 111, 109, 101]) (y := [110, 111, 110, 101]) (z := [97, 108, 108]) (by decide) (by decide) (by decide))
  obtain ⟨R, hR⟩ : ∃ R, PX.queryLine s = R := ⟨_, rfl⟩
  rw [hR]
  rcases ht : PX.take [PX.kSome, PX.kNone, PX.kAll] s with ⟨t, s1⟩ | ⟨pl, er⟩
  · have m1 := mv_take ht
    have hl1 : s1.rest.length < 100000 := by
      have := PX.keep_take (PX.len_stb s.rest.length) _ s (Nat.le_refl _) _ _ ht
      omega
    rw [ht] at C1
    have CL := Lib.hid fun s g W (L' : LS W b s g) (hl : s.rest.length < 100000) => lastCond_any b t.p s g W L' hl
    have ha := ask_lit t.x
    replace C1 := Lib.hid C1
    replace U0 := Lib.hid U0
    replace m1 := Lib.hid m1
    by_cases y1 : (t.x.toList == [115, 111, 109, 101]) = true
    · have hask : (if PX.askOf t.x = 0 then s1.ask else PX.askOf t.x) = 1 := by rw [ha]; simp [y1]
      have e0 : Hid (R = (PX.lastCond t.p { s1 with ask := 1 }).bind fun c s => .ok () { s with cond := c, done := 4 }) := Lib.hid (by
        rw [← hR]; unfold PX.queryLine; rw [ht]; simp only [PX.R.bind]; rw [hask])
      clear hR ht ha hask
      go_enter Try.func38, Try.ntmps38
      go_wp2_with (first
        | (go_at_call 41; refine (C1.out).mono ?_; rintro e w1 ⟨F1, rfl, P1⟩; dsimp only [tokV]
           have U1 := (U0.out.step0 F1 m1.out P1).alloc (.cells #[.int .u8 t.k, .string t.x, .int .i64 t.p] 61)
           have hz := heap_alloc_new w1 (.cells #[.int .u8 t.k, .string t.x, .int .i64 t.p] 61)
           have hz1 := cell_of_row _ _ 1 _ _ _ hz
           have hb1 : b < w1.heap.size := P1.lt
           simp only [List.getElem?_toArray, List.getElem?_cons_zero, List.getElem?_cons_succ] at hz1
           obtain ⟨vr1, d8, f8⟩ := U1.lt.ls.ps.cellAt 8
           unfold psC at d8
           simp only [List.getElem?_toArray, List.getElem?_cons_zero, List.getElem?_cons_succ] at d8
           have hy := heap_alloc_new (w1.setCell ⟨b, 8, none⟩ (.int .u8 1)) (.cells #[.int .u8 t.k, .string t.x, .int .i64 t.p] 61)
           have hz2 := cell_of_row _ _ 2 _ _ _ hy
           have hz3 := cell_of_row _ _ 2 _ _ _ hz
           simp only [List.getElem?_toArray, List.getElem?_cons_zero, List.getElem?_cons_succ, World.size_setCell] at hz2 hz3
           have U2 := Lib.hid (((U0.out.step0 F1 m1.out P1).setAsk 1).alloc (.cells #[.int .u8 t.k, .string t.x, .int .i64 t.p] 61))
           clear hy
           clear hz)
        | (go_at_call 20; refine call2 (CL.out _ _ _ U2.out.lt.ls hl1) (fun c x s5 w5 vl vi hx5 F5 M5 L5 => ?_) (fun pl er w5 hx F => ⟨rfl, EndsP.bad (U2.out.fr.trans (F.mono T1_T2)) (by rw [e0.out, hx]; rfl)⟩)
           obtain ⟨xa, xl, xc, hu⟩ := M5.slice
           obtain ⟨xk, xt, xn, xv, xu⟩ := x
           obtain rfl : xu = .slice xa xl xc := hu
           dsimp only [condV]
           have hlv := PX.keep_lastCond (PX.lv_stb _) _ _ (PX.Lv.refl _) _ _ hx5
           have U5 := U2.out.step1 F5 hlv L5
           obtain ⟨vr5, h5, -⟩ := id U5.lt.ls.ps
           have g9 := cell_of_row _ b 9 _ _ _ h5
           have g10 := cell_of_row _ b 10 _ _ _ h5
           have g11 := cell_of_row _ b 11 _ _ _ h5
           have g12 := cell_of_row _ b 12 _ _ _ h5
           have g13 := cell_of_row _ b 13 _ _ _ h5
           have g14 := cell_of_row _ b 14 _ _ _ h5
           unfold psC at g9 g10 g11 g12 g13 g14
           simp only [List.getElem?_toArray, List.getElem?_cons_zero, List.getElem?_cons_succ] at g9 g10 g11 g12 g13 g14
           have fb := fun j => frozen_of_row _ b j _ _ h5
           have M6 : CondM w5 (fun i => b < i) ⟨xk, xt, xn, xv, .slice xa xl xc⟩ c := CondM.mono (fun _ _ _ hh => hh) (fun i hi => Nat.lt_of_lt_of_le hb1 (Nat.le_trans (by simp) hi)) _ _ M5
           have L6 := U5.lt.newCond ⟨xk, xt, xn, xv, .slice xa xl xc⟩ c M6
           have U6 : TP w b h _ _ _ := ⟨((((U5.fr.setB 9 (.int .u8 xk)).setB 10 (.int .u8 xt)).setB 11 (.int .u8 xn)).setB 12 (.int .u8 xv)).setB 13 (.slice xa xl xc), L6, U5.hg⟩
           replace U6 := Lib.hid U6
           clear h5 M6 L6 U5 M5 L5))
      go_end0
      exact (U6.out.setDone 4).ok (by rw [e0.out, hx5]; rfl)
    by_cases y2 : (t.x.toList == [110, 111, 110, 101]) = true
    · have hask : (if PX.askOf t.x = 0 then s1.ask else PX.askOf t.x) = 2 := by rw [ha]; simp [y1, y2]
      have e0 : Hid (R = (PX.lastCond t.p { s1 with ask := 2 }).bind fun c s => .ok () { s with cond := c, done := 4 }) := Lib.hid (by
        rw [← hR]; unfold PX.queryLine; rw [ht]; simp only [PX.R.bind]; rw [hask])
      clear hR ht ha hask
      go_enter Try.func38, Try.ntmps38
      go_wp2_with (first
        | (go_at_call 41; refine (C1.out).mono ?_; rintro e w1 ⟨F1, rfl, P1⟩; dsimp only [tokV]
           have U1 := (U0.out.step0 F1 m1.out P1).alloc (.cells #[.int .u8 t.k, .string t.x, .int .i64 t.p] 61)
           have hz := heap_alloc_new w1 (.cells #[.int .u8 t.k, .string t.x, .int .i64 t.p] 61)
           have hz1 := cell_of_row _ _ 1 _ _ _ hz
           have hb1 : b < w1.heap.size := P1.lt
           simp only [List.getElem?_toArray, List.getElem?_cons_zero, List.getElem?_cons_succ] at hz1
           obtain ⟨vr1, d8, f8⟩ := U1.lt.ls.ps.cellAt 8
           unfold psC at d8
           simp only [List.getElem?_toArray, List.getElem?_cons_zero, List.getElem?_cons_succ] at d8
           have hy := heap_alloc_new (w1.setCell ⟨b, 8, none⟩ (.int .u8 2)) (.cells #[.int .u8 t.k, .string t.x, .int .i64 t.p] 61)
           have hz2 := cell_of_row _ _ 2 _ _ _ hy
           have hz3 := cell_of_row _ _ 2 _ _ _ hz
           simp only [List.getElem?_toArray, List.getElem?_cons_zero, List.getElem?_cons_succ, World.size_setCell] at hz2 hz3
           have U2 := Lib.hid (((U0.out.step0 F1 m1.out P1).setAsk 2).alloc (.cells #[.int .u8 t.k, .string t.x, .int .i64 t.p] 61))
           clear hy
           clear hz)
        | (go_at_call 20; refine call2 (CL.out _ _ _ U2.out.lt.ls hl1) (fun c x s5 w5 vl vi hx5 F5 M5 L5 => ?_) (fun pl er w5 hx F => ⟨rfl, EndsP.bad (U2.out.fr.trans (F.mono T1_T2)) (by rw [e0.out, hx]; rfl)⟩)
           obtain ⟨xa, xl, xc, hu⟩ := M5.slice
           obtain ⟨xk, xt, xn, xv, xu⟩ := x
           obtain rfl : xu = .slice xa xl xc := hu
           dsimp only [condV]
           have hlv := PX.keep_lastCond (PX.lv_stb _) _ _ (PX.Lv.refl _) _ _ hx5
           have U5 := U2.out.step1 F5 hlv L5
           obtain ⟨vr5, h5, -⟩ := id U5.lt.ls.ps
           have g9 := cell_of_row _ b 9 _ _ _ h5
           have g10 := cell_of_row _ b 10 _ _ _ h5
           have g11 := cell_of_row _ b 11 _ _ _ h5
           have g12 := cell_of_row _ b 12 _ _ _ h5
           have g13 := cell_of_row _ b 13 _ _ _ h5
           have g14 := cell_of_row _ b 14 _ _ _ h5
           unfold psC at g9 g10 g11 g12 g13 g14
           simp only [List.getElem?_toArray, List.getElem?_cons_zero, List.getElem?_cons_succ] at g9 g10 g11 g12 g13 g14
           have fb := fun j => frozen_of_row _ b j _ _ h5
           have M6 : CondM w5 (fun i => b < i) ⟨xk, xt, xn, xv, .slice xa xl xc⟩ c := CondM.mono (fun _ _ _ hh => hh) (fun i hi => Nat.lt_of_lt_of_le hb1 (Nat.le_trans (by simp) hi)) _ _ M5
           have L6 := U5.lt.newCond ⟨xk, xt, xn, xv, .slice xa xl xc⟩ c M6
           have U6 : TP w b h _ _ _ := ⟨((((U5.fr.setB 9 (.int .u8 xk)).setB 10 (.int .u8 xt)).setB 11 (.int .u8 xn)).setB 12 (.int .u8 xv)).setB 13 (.slice xa xl xc), L6, U5.hg⟩
           replace U6 := Lib.hid U6
           clear h5 M6 L6 U5 M5 L5))
      go_end0
      exact (U6.out.setDone 4).ok (by rw [e0.out, hx5]; rfl)
    by_cases y3 : (t.x.toList == [97, 108, 108]) = true
    · have hask : (if PX.askOf t.x = 0 then s1.ask else PX.askOf t.x) = 3 := by rw [ha]; simp [y1, y2, y3]
      have e0 : Hid (R = (PX.lastCond t.p { s1 with ask := 3 }).bind fun c s => .ok () { s with cond := c, done := 4 }) := Lib.hid (by
        rw [← hR]; unfold PX.queryLine; rw [ht]; simp only [PX.R.bind]; rw [hask])
      clear hR ht ha hask
      go_enter Try.func38, Try.ntmps38
      go_wp2_with (first
        | (go_at_call 41; refine (C1.out).mono ?_; rintro e w1 ⟨F1, rfl, P1⟩; dsimp only [tokV]
           have U1 := (U0.out.step0 F1 m1.out P1).alloc (.cells #[.int .u8 t.k, .string t.x, .int .i64 t.p] 61)
           have hz := heap_alloc_new w1 (.cells #[.int .u8 t.k, .string t.x, .int .i64 t.p] 61)
           have hz1 := cell_of_row _ _ 1 _ _ _ hz
           have hb1 : b < w1.heap.size := P1.lt
           simp only [List.getElem?_toArray, List.getElem?_cons_zero, List.getElem?_cons_succ] at hz1
           obtain ⟨vr1, d8, f8⟩ := U1.lt.ls.ps.cellAt 8
           unfold psC at d8
           simp only [List.getElem?_toArray, List.getElem?_cons_zero, List.getElem?_cons_succ] at d8
           have hy := heap_alloc_new (w1.setCell ⟨b, 8, none⟩ (.int .u8 3)) (.cells #[.int .u8 t.k, .string t.x, .int .i64 t.p] 61)
           have hz2 := cell_of_row _ _ 2 _ _ _ hy
           have hz3 := cell_of_row _ _ 2 _ _ _ hz
           simp only [List.getElem?_toArray, List.getElem?_cons_zero, List.getElem?_cons_succ, World.size_setCell] at hz2 hz3
           have U2 := Lib.hid (((U0.out.step0 F1 m1.out P1).setAsk 3).alloc (.cells #[.int .u8 t.k, .string t.x, .int .i64 t.p] 61))
           clear hy
           clear hz)
        | (go_at_call 20; refine call2 (CL.out _ _ _ U2.out.lt.ls hl1) (fun c x s5 w5 vl vi hx5 F5 M5 L5 => ?_) (fun pl er w5 hx F => ⟨rfl, EndsP.bad (U2.out.fr.trans (F.mono T1_T2)) (by rw [e0.out, hx]; rfl)⟩)
           obtain ⟨xa, xl, xc, hu⟩ := M5.slice
           obtain ⟨xk, xt, xn, xv, xu⟩ := x
           obtain rfl : xu = .slice xa xl xc := hu
           dsimp only [condV]
           have hlv := PX.keep_lastCond (PX.lv_stb _) _ _ (PX.Lv.refl _) _ _ hx5
           have U5 := U2.out.step1 F5 hlv L5
           obtain ⟨vr5, h5, -⟩ := id U5.lt.ls.ps
           have g9 := cell_of_row _ b 9 _ _ _ h5
           have g10 := cell_of_row _ b 10 _ _ _ h5
           have g11 := cell_of_row _ b 11 _ _ _ h5
           have g12 := cell_of_row _ b 12 _ _ _ h5
           have g13 := cell_of_row _ b 13 _ _ _ h5
           have g14 := cell_of_row _ b 14 _ _ _ h5
           unfold psC at g9 g10 g11 g12 g13 g14
           simp only [List.getElem?_toArray, List.getElem?_cons_zero, List.getElem?_cons_succ] at g9 g10 g11 g12 g13 g14
           have fb := fun j => frozen_of_row _ b j _ _ h5
           have M6 : CondM w5 (fun i => b < i) ⟨xk, xt, xn, xv, .slice xa xl xc⟩ c := CondM.mono (fun _ _ _ hh => hh) (fun i hi => Nat.lt_of_lt_of_le hb1 (Nat.le_trans (by simp) hi)) _ _ M5
           have L6 := U5.lt.newCond ⟨xk, xt, xn, xv, .slice xa xl xc⟩ c M6
           have U6 : TP w b h _ _ _ := ⟨((((U5.fr.setB 9 (.int .u8 xk)).setB 10 (.int .u8 xt)).setB 11 (.int .u8 xn)).setB 12 (.int .u8 xv)).setB 13 (.slice xa xl xc), L6, U5.hg⟩
           replace U6 := Lib.hid U6
           clear h5 M6 L6 U5 M5 L5))
      go_end0
      exact (U6.out.setDone 4).ok (by rw [e0.out, hx5]; rfl)
    · have hask : (if PX.askOf t.x = 0 then s1.ask else PX.askOf t.x) = s1.ask := by rw [ha]; simp [y1, y2, y3]
      have e0 : Hid (R = (PX.lastCond t.p s1).bind fun c s => .ok () { s with cond := c, done := 4 }) := Lib.hid (by
        rw [← hR]; unfold PX.queryLine; rw [ht]; simp only [PX.R.bind]; rw [hask])
      clear hR ht ha hask
      go_enter Try.func38, Try.ntmps38
      go_wp2_with (first
        | (go_at_call 41; refine (C1.out).mono ?_; rintro e w1 ⟨F1, rfl, P1⟩; dsimp only [tokV]
           have U1 := (U0.out.step0 F1 m1.out P1).alloc (.cells #[.int .u8 t.k, .string t.x, .int .i64 t.p] 61)
           have hz := heap_alloc_new w1 (.cells #[.int .u8 t.k, .string t.x, .int .i64 t.p] 61)
           have hz1 := cell_of_row _ _ 1 _ _ _ hz
           have hb1 : b < w1.heap.size := P1.lt
           simp only [List.getElem?_toArray, List.getElem?_cons_zero, List.getElem?_cons_succ] at hz1
           have hz2 := cell_of_row _ _ 2 _ _ _ hz
           simp only [List.getElem?_toArray, List.getElem?_cons_zero, List.getElem?_cons_succ] at hz2
           have U2 := Lib.hid U1
           clear hz)
        | (go_at_call 20; refine call2 (CL.out _ _ _ U2.out.lt.ls hl1) (fun c x s5 w5 vl vi hx5 F5 M5 L5 => ?_) (fun pl er w5 hx F => ⟨rfl, EndsP.bad (U2.out.fr.trans (F.mono T1_T2)) (by rw [e0.out, hx]; rfl)⟩)
           obtain ⟨xa, xl, xc, hu⟩ := M5.slice
           obtain ⟨xk, xt, xn, xv, xu⟩ := x
           obtain rfl : xu = .slice xa xl xc := hu
           dsimp only [condV]
           have hlv := PX.keep_lastCond (PX.lv_stb _) _ _ (PX.Lv.refl _) _ _ hx5
           have U5 := U2.out.step1 F5 hlv L5
           obtain ⟨vr5, h5, -⟩ := id U5.lt.ls.ps
           have g9 := cell_of_row _ b 9 _ _ _ h5
           have g10 := cell_of_row _ b 10 _ _ _ h5
           have g11 := cell_of_row _ b 11 _ _ _ h5
           have g12 := cell_of_row _ b 12 _ _ _ h5
           have g13 := cell_of_row _ b 13 _ _ _ h5
           have g14 := cell_of_row _ b 14 _ _ _ h5
           unfold psC at g9 g10 g11 g12 g13 g14
           simp only [List.getElem?_toArray, List.getElem?_cons_zero, List.getElem?_cons_succ] at g9 g10 g11 g12 g13 g14
           have fb := fun j => frozen_of_row _ b j _ _ h5
           have M6 : CondM w5 (fun i => b < i) ⟨xk, xt, xn, xv, .slice xa xl xc⟩ c := CondM.mono (fun _ _ _ hh => hh) (fun i hi => Nat.lt_of_lt_of_le hb1 (Nat.le_trans (by simp) hi)) _ _ M5
           have L6 := U5.lt.newCond ⟨xk, xt, xn, xv, .slice xa xl xc⟩ c M6
           have U6 : TP w b h _ _ _ := ⟨((((U5.fr.setB 9 (.int .u8 xk)).setB 10 (.int .u8 xt)).setB 11 (.int .u8 xn)).setB 12 (.int .u8 xv)).setB 13 (.slice xa xl xc), L6, U5.hg⟩
           replace U6 := Lib.hid U6
           clear h5 M6 L6 U5 M5 L5))
      go_end0
      exact (U6.out.setDone 4).ok (by rw [e0.out, hx5]; rfl)
  · have e0 : R = .bad pl er := by rw [← hR]; unfold PX.queryLine; rw [ht]; rfl
    rw [ht] at C1
    rw [e0]
    replace C1 := Lib.hid C1
    go_enter Try.func38, Try.ntmps38
    go_wp2_with (first
      | (go_at_call 41; refine (C1.out).mono ?_; rintro e w1 ⟨F1, rfl⟩))
    refine ⟨rfl, U0.fr.trans F1.up, ?_⟩
    show Ending.panicked _ = failE _ _
    symm
    assumption
end PP
end Go.Proofs.Ytglbmiadgdadfaa
end
