/- ParLine6, ParDeep, ParLast, ParLine7 in one text, for the claim. -/
import Derived.BigRegion
import Derived.Deep.RegionLaw
import Derived.Deep.RegionWith
import Derived.Deep.RegionLawGrows
import Derived.Deep.DeepCutAuto
import Derived.Deep.DeepMust
import Derived.Test.YtijipgiclkkfhaaPt5
import Derived.Test.YtijipgiclkkfhaaPt4

section
/- The parser's lines: an instruction. -/
namespace Go.Proofs.Ytijipgiclkkfhaa
open Go.RowKit Go.Shelf

attribute [local go_sem] Oper.semAt_some
namespace PP
theorem step_append_at {P : Program} {ops : Array Oper} {o : Oper} {a : Act} {w : World} {K : Act → World → Prop} {Q : Exit → Act → World → Prop} {E : Prop}
    (hg : o.guard = none) (s x : Operand) (t : TypeId) (hop : o.op = Op.call { callee := Callee.builtin Builtin.append, args := #[s, x], argTypes := #[t, t] })
    (base : Nat) (e : TypeId) (i : TypeInfo) (z : Value) (size bytes : Nat) (ht : P.underlying t = some (.slice e)) (hi : P.info? e = some i) (hz : i.zero = some z)
    (hsize : i.size = size) (hby : i.bytes = bytes) (hzs : z.cells.size = size) (hsz : 0 < size)
    (v : Value) (n : Nat) (xs : List Value) (hs : a.eval s = v) (hown : w.ownsRow base e size v n xs)
    (ad : Addr) (m c : Nat) (news : List Value) (hx : a.eval x = .slice (some ad) m c) (hl : news.length = m * size) (hnews : ∀ j u, news[j]? = some u → w.cell? (ad.add j) = some u) (h1 : ∀ u ∈ news, u.oneCell' = true)
    (h63 : n + m ≤ maxLen) (hbytes : (n + m) * bytes ≤ 140737488355328) (hbase : base ≤ w.heap.size)
    (h : ∀ v' w', w'.ownsRow base e size v' (n + m) (xs ++ news) → w.grownBy w' v.ownBlock → (v'.ownBlock = v.ownBlock ∨ v'.ownBlock = some w.heap.size) → K (a.put o.dst v') w') :
    if Region.wanted o (yielded ops a.tmps) = true then Oper.wp P o a w K Q else E := by
  have hw : Region.wanted o (yielded ops a.tmps) = true := by simp [Region.wanted, hg]
  rw [if_pos hw]
  obtain ⟨v', w', hr, h2, h3, _, h5⟩ := run_append_own_at (P := P) w base t o.type e i z size bytes ht hi hz hsize hby hzs hsz v n xs hown ad m c news hl hnews h1 h63 hbytes hbase
  unfold Oper.wp execOp
  simp only [hop, resolve, invoke, builtin, Sem.run_bind, Sem.run_pure, Result.andThen_ok, List.map_toArray, List.map_cons, List.map_nil, hs, hx, hr]
  exact h _ _ h2 h3 h5
theorem infoIns : ∃ i : TypeInfo, Try.prog.info? 48 = some i ∧ i.zero = some (insV { op := 0 }) ∧ i.size = 10 ∧ i.bytes = 10 := by
  have h : (Try.prog.info? 48).map (fun i => (i.zero, i.size, i.bytes)) = some (some (insV { op := 0 }), 10, 10) := by kernel_rfl
  cases hi : Try.prog.info? 48 with
  | none => rw [hi] at h; cases h
  | some i =>
    rw [hi] at h
    simp only [Option.map_some, Option.some.injEq, Prod.mk.injEq] at h
    exact ⟨i, rfl, h.1, h.2.1, h.2.2⟩
theorem ins_cells (w : World) (x : PX.InsD) : ∀ (j : Nat) (u : Value), (insC x).toList[j]? = some u → (w.alloc (.cells (insC x) 48)).cell? (Addr.add ⟨w.heap.size, 0, none⟩ j) = some u := fun j u hu => by
  rw [Go.WideShapes.add_plain, Nat.zero_add]
  have := cell_of_row _ w.heap.size j _ _ _ (heap_alloc_new w (.cells (insC x) 48))
  rw [this, ← Array.getElem?_toList]
  exact hu
theorem insLine_eq (s : PX.S) (li : List (List PX.InsD)) (k : List PX.InsD) (hth : s.threads = li ++ [k]) : PX.insLine s = if k.length = 12 then .bad (PX.next s).p 5 else (PX.ins s).bind fun x s => (PX.take [PX.sEND] { s with threads := s.threads.dropLast ++ [s.threads.getLastD [] ++ [x]] }).bind fun _ s => .ok () s := by
  unfold PX.insLine
  rw [hth]
  simp

set_option maxRecDepth 100000 in
set_option maxHeartbeats 16000000 in
theorem insLine_any (b : Nat) (s : PX.S) (h : Hd) (w : World) (L : LT w b s h) (h0 : s.threads ≠ []) (h4 : s.threads.length ≤ 4) (h12 : ∀ k ∈ s.threads, k.length ≤ 12) :
    Calls Try.prog 56 #[.pointer (some ⟨b, 0, none⟩)] w (EndsP w b h (PX.insLine s)) := by
  have hbl := L.ls.ps.lt
  obtain ⟨li, k, hth⟩ : ∃ li k, s.threads = li ++ [k] := ⟨_, _, (List.dropLast_concat_getLast h0).symm⟩
  have hk12 := h12 k (by rw [hth]; simp)
  obtain ⟨vs, o1, o2⟩ := id L.thr
  rw [hth] at o1 o2 h4
  obtain ⟨n, hn⟩ : ∃ n, li.length = n := ⟨_, rfl⟩
  rw [List.length_append, List.length_singleton, hn] at o1 h4
  obtain ⟨gT, cT, hvt⟩ := own_formT o1
  rw [hvt] at o1
  have hvs : vs.length = n + 1 := by rw [o2.1]; simp [hn]
  obtain ⟨vi, u, rfl⟩ : ∃ vi u, vs = vi ++ [u] := ⟨_, _, (List.dropLast_concat_getLast (l := vs) (by intro e; rw [e] at hvs; simp at hvs)).symm⟩
  have hvi : vi.length = n := by simp at hvs; exact hvs
  have ou := o2.2.1 n u k (by rw [← hvi, List.getElem?_append_right (Nat.le_refl _)]; simp) (by rw [← hn, List.getElem?_append_right (Nat.le_refl _)]; simp)
  have cTn : w.cell? ⟨gT, n, none⟩ = some u := by
    rw [World.ownsRow.cellAt o1 n (by omega), ← hvi, List.getElem?_append_right (Nat.le_refl _)]; simp
  obtain ⟨a9, c9, hu⟩ : ∃ a c, u = .slice a k.length c := by
    rcases ou.2 with ⟨rfl, h0⟩ | ⟨g, cap, cur, rfl, _⟩
    · exact ⟨none, 0, by rw [h0]⟩
    · exact ⟨_, cap, rfl⟩
  obtain ⟨q, hq⟩ : ∃ q, k.length = q := ⟨_, rfl⟩
  rw [hq] at hu hk12
  obtain ⟨vr0, d0, fb0⟩ := L.ls.ps.cellAt 7
  unfold psC at d0
  simp only [List.getElem?_toArray, List.getElem?_cons_zero, List.getElem?_cons_succ, hvt] at d0
  have C0 : Hid (∀ W, PS W b s h → Calls Try.prog 47 #[.pointer (some ⟨b, 0, none⟩)] W fun e w' => e = .returned (.agg #[.int .u8 (PX.next s).k, .string (PX.next s).x, .int .i64 (PX.next s).p]) ∧ Below W.heap.size W w') := Lib.hid fun W (p : PS W b s h) => next_any b s h W p
  have CI := Lib.hid fun W (L' : LS W b s h) => ins_any b s h W L'
  have CE := Lib.hid fun s g W (p : PS (W.alloc (.cells #[.string ⟨#[69, 78, 68]⟩] 9)) b s g) => take_any b s g _ [PX.sEND] _ p (strSl_one W _) (symsOk_one (by decide))
  have CF := Lib.hid fun W pl => fail_any pl 5 W
  have e0 := insLine_eq s li k hth
  rw [hq] at e0
  obtain ⟨R, hR⟩ : ∃ R, PX.insLine s = R := ⟨_, rfl⟩
  rw [hR] at e0 ⊢
  have U0 := TP.start L
  replace e0 := Lib.hid e0
  replace U0 := Lib.hid U0
  replace o1 := Lib.hid o1
  replace o2 := Lib.hid o2
  replace ou := Lib.hid ou
  replace hth := Lib.hid hth
  subst hu
  replace hq := Lib.hid hq
  clear hvs
  by_cases hq12 : q = 12
  · have t1 : ((q : Int) == 12) = true := by simp; omega
    replace hq12 := Lib.hid hq12
    clear hk12
    have hf2 := tok_f2
    go_enter Try.func56, Try.ntmps56
    go_wp2_with fail
    go_quiet (fail)
    have U1 := Lib.hid (U0.out.below (drewB w nq))
    go_wp2_with (first
      | (go_at_call 47; refine (C0.out _ U1.out.lt.ls.ps).mono ?_; rintro e w2 ⟨rfl, B2⟩
         have U2 := Lib.hid (U1.out.below B2))
      | (go_at_call 52; refine (CF.out _ _).mono ?_; rintro e w4 ⟨rfl, rfl⟩))
    refine ⟨rfl, ?_⟩
    first
      | (rename_i hh; rw [← hh])
      | (rename_i hh _; rw [← hh])
    refine EndsP.bad U2.out.fr ?_
    rw [e0.out, if_pos hq12.out]
  · have t1 : ((q : Int) == 12) = false := by simp; omega
    have e1 : Hid (R = (PX.ins s).bind fun x s => (PX.take [PX.sEND] { s with threads := s.threads.dropLast ++ [s.threads.getLastD [] ++ [x]] }).bind fun _ s => .ok () s) := Lib.hid (by rw [e0.out, if_neg hq12])
    obtain ⟨i0, hi0, hy0, hy1, hy2⟩ := infoIns
    replace hq12 := Lib.hid hq12
    go_enter Try.func56, Try.ntmps56
    go_wp2_with fail
    go_quiet (fail)
    have U1 := U0.out.below (drewB w nq)
    have D1 := Lib.hid (U1.below (drewB1 (w.drewN nq)))
    have cD := cTn
    have hBD : Below w.heap.size w (w.drewN nq).drew := (drewB w nq).trans (drewB1 (w.drewN nq))
    have oD1 := Lib.hid (own_sameT (W' := (w.drewN nq).drew) o1.out fun g cur _ hh => (hBD.block g (lt_of_heap hh)).trans hh)
    have oD2 := Lib.hid (o2.out.keep (W' := (w.drewN nq).drew) fun g cur _ hh => (hBD.block g (lt_of_heap hh)).trans hh)
    have oDu := Lib.hid (own_sameT (W' := (w.drewN nq).drew) ou.out fun g cur _ hh => (hBD.block g (lt_of_heap hh)).trans hh)
    clear o1 o2 ou cD hBD
    go_wp2_with fail
    go_region_law (first
      | (refine step_append_at rfl (.tmp 30) (.tmp 33) 44 rfl (b + 1) 48 i0 _ 10 10 Try.underlying44 hi0 hy0 hy1 hy2 rfl (by decide) _ q _ rfl r1.out ⟨w2.heap.size, 0, none⟩ 1 1 _ rfl rfl r2.out r3.out (by unfold maxLen; omega) (by omega) (by simp; omega) ?_
         intro v' w5 hown5 hgrow5 hblk5
         obtain ⟨g9, c5, rfl⟩ := own_formT hown5
         have o5 := own_sameT (W' := w5) pD1.out fun g cur _ hh => grown_keep r1.out hgrow5 g cur _ (by decide) (row_alloc hh _)
         have f5 := World.ownsRow.frozenAt o5 n
         have c5n : w5.cell? ⟨gT, n, none⟩ = some (.slice a9 q c9) := by
           rw [World.ownsRow.cellAt o5 n (by omega), ← hvi, List.getElem?_append_right (Nat.le_refl _)]; simp
         have X5 := Lib.hid (And.intro hown5 (And.intro hgrow5 (And.intro hblk5 o5)))
         clear hown5 hgrow5 hblk5 o5)
      | (go_simp
         go_at_call 69
         refine call1 (CI.out _ D1.out.lt.ls) (fun x s2 w2 vl vi' hx2 F2 L2 => ?_) (fun pl er w2 hx F => ⟨rfl, EndsP.bad (D1.out.fr.trans (F.mono T1_T2)) (by rw [e1.out, hx]; rfl)⟩)
         dsimp only [insV]
         have hlv := PX.keep_ins (PX.lv_stb s) s (PX.Lv.refl s) _ _ hx2
         have U2 := D1.out.step1 F2 hlv L2
         have pD1 := own_sameT (W' := w2) oD1.out fun g cur hg hh => F2.box hh (by omega) (by simp [T1])
         have pDu := own_sameT (W' := w2) oDu.out fun g cur hg hh => F2.box hh (by omega) insT1
         have pD2 := Lib.hid (oD2.out.keep (W' := w2) fun g cur hg hh => F2.box hh (by omega) insT1)
         have cT2 : w2.cell? ⟨gT, n, none⟩ = some (.slice a9 q c9) := by
           rw [World.ownsRow.cellAt pD1 n (by omega), ← hvi, List.getElem?_append_right (Nat.le_refl _)]; simp
         have cT3 : (w2.alloc (.cells (insC x) 48)).cell? ⟨gT, n, none⟩ = some (.slice a9 q c9) := by
           rw [World.ownsRow.cellAt (World.ownsRow.alloc pD1 _) n (by omega), ← hvi, List.getElem?_append_right (Nat.le_refl _)]; simp
         unfold insC at cT3
         rw [hq.out] at pDu
         have r1 := Lib.hid (World.ownsRow.alloc pDu (.cells (insC x) 48))
         have r2 := Lib.hid (ins_cells w2 x)
         have r3 : Hid (∀ u ∈ (insC x).toList, u.oneCell' = true) := Lib.hid fun u hu => by
           simp only [insC, List.mem_cons, List.not_mem_nil, or_false] at hu
           rcases hu with rfl | rfl | rfl | rfl | rfl | rfl | rfl | rfl | rfl | rfl <;> rfl
         have hb2 := U2.lt.ls.ps.lt
         replace pD1 := Lib.hid pD1
         replace U2 := Lib.hid U2
         replace hlv := Lib.hid hlv
         clear pDu))
    all_goals
      have hst : ∀ (i : Nat) (D : Array Value) (t : TypeId), t ≠ 44 → w5.heap[i]? = some (.cells D t (0, 0)) → (w5.setCell ⟨gT, n, none⟩ (.slice (some ⟨g9, 0, none⟩) (q + 1) c5)).heap[i]? = some (.cells D t (0, 0)) := fun i D t ht hi => (Below.heap_setCell w5 ⟨gT, n, none⟩ _ i (by
        show i ≠ gT
        rintro rfl
        obtain ⟨_, cur, hC⟩ := own_rowT X5.out.2.2.2 (g := i) rfl
        rw [hC] at hi; cases hi; exact ht rfl)).trans hi
      have hth2 : s2.threads = li ++ [k] := by rw [hlv.out.2.2.1]; exact hth.out
      have hgs := X5.out.2.1.size
      have hthr : ThrM (w5.setCell ⟨gT, n, none⟩ (.slice (some ⟨g9, 0, none⟩) (q + 1) c5)) (b + 1) h.vt (li ++ [k ++ [x]]) := by
        refine ⟨vi ++ [.slice (some ⟨g9, 0, none⟩) (q + 1) c5], ?_, ThrR.last pD2.out (by rw [hvi, hn]) (fun g cur hg hne hh => ?_) ?_ ?_⟩
        · have := (World.ownsRow.stored X5.out.2.2.2 n (.slice (some ⟨g9, 0, none⟩) (q + 1) c5)).1
          rw [show (vi ++ [Value.slice a9 q c9]).set n (.slice (some ⟨g9, 0, none⟩) (q + 1) c5) = vi ++ [.slice (some ⟨g9, 0, none⟩) (q + 1) c5] by rw [← hvi, List.set_append_right _ _ (Nat.le_refl _)]; simp] at this
          rw [hvt, List.length_append, List.length_singleton, hn]
          exact this
        · refine hst g cur _ (by decide) ?_
          rw [X5.out.2.1.block g (by have := lt_of_heap hh; simp; omega) (fun e => hne e.symm)]
          exact row_alloc hh _
        · rcases X5.out.2.2.1 with e | e
          · exact .inl e
          · exact .inr ⟨_, e, by simp⟩
        · rw [List.length_append, List.length_singleton, hq.out, cellsI_snoc]
          exact own_sameT X5.out.1 fun g cur _ hh => hst g cur _ (by decide) hh
      have hL6 := LT.newThr (W' := w5.setCell ⟨gT, n, none⟩ (.slice (some ⟨g9, 0, none⟩) (q + 1) c5)) U2.out.lt (fun i D t h1 h2 hi => hst i D t h1 (grown_keep r1.out X5.out.2.1 i D t h2 (row_alloc hi _))) (by simp at hgs ⊢; omega) hthr
      have hF6 : Fr T2 b w (w5.setCell ⟨gT, n, none⟩ (.slice (some ⟨g9, 0, none⟩) (q + 1) c5)) := by
        obtain ⟨hbk, cur, hC⟩ := own_rowT X5.out.2.2.2 (g := gT) rfl
        exact ((U2.out.fr.trans (Fr.of_below ((Below.refl w2.heap.size w2).alloc (Nat.le_refl _) (.cells (insC x) 48)))).trans (Fr.grown r1.out (Nat.lt_succ_self b) insT2 X5.out.2.1)).trans (Fr.setT (by omega) hC thrT2 n _)
      have e2 : Hid (R = (PX.take [PX.sEND] { s2 with threads := li ++ [k ++ [x]] }).bind fun _ s => .ok () s) := Lib.hid (by
        rw [e1.out, hx2]; simp only [PX.R.bind]; rw [hth2]; simp)
      have U6 : TP w b h (w5.setCell ⟨gT, n, none⟩ (.slice (some ⟨g9, 0, none⟩) (q + 1) c5)) _ _ := ⟨hF6, hL6, rfl⟩
      replace U6 := U6.alloc (.cells #[.string ⟨#[69, 78, 68]⟩] 9)
      have c6 := CE.out _ _ _ U6.lt.ls.ps
      simp only [World.size_setCell] at c6
      replace c6 := Lib.hid c6
      replace U6 := Lib.hid U6
      clear hst hthr hL6 hF6
      go_wp2_with (first
        | (go_at_call 65; refine call0 c6.out (fun t7 s7 w7 hx7 F7 P7 => ?_) (fun pl er w7 hx F => ⟨rfl, EndsP.bad (U6.out.fr.trans F.up) (by rw [e2.out, hx]; rfl)⟩)
           dsimp only [tokV]
           have U7 := Lib.hid (U6.out.step0 F7 (mv_take hx7) P7)))
      go_end0
      exact U7.out.ok (by rw [e2.out, hx7]; rfl)
end PP
end Go.Proofs.Ytijipgiclkkfhaa
end

section
/- A condition's depth. -/
namespace Go.Proofs.Ytijipgiclkkfhaa
open Go.RowKit Go.Shelf

attribute [local go_sem] Oper.semAt_some
namespace PP
mutual
/-- The cells x hold the condition, wherever its parts lie. -/
def CondR (W : World) (x : CV) : PX.CondD → Prop
  | .mk k t n v kids => x.k = k ∧ x.t = t ∧ x.n = n ∧ x.v = v ∧ ∃ (a : Option Addr) (cap : Nat), x.u = .slice a kids.length cap ∧ kids.length ≤ cap ∧ cap ≤ maxLen ∧
      (0 < kids.length → ∃ (g off : Nat) (C : Array Value) (ys : List CV), a = some ⟨g, off, none⟩ ∧ W.heap[g]? = some (.cells C 24 (0, 0)) ∧
        (∀ (i j : Nat) (y : CV), ys[i]? = some y → j < 5 → C[off + i * 5 + j]? = (condC y)[j]?) ∧ KidsR W ys kids)
def KidsR (W : World) (ys : List CV) : List PX.CondD → Prop
  | [] => ys = []
  | c :: r => ∃ y yr, ys = y :: yr ∧ CondR W y c ∧ KidsR W yr r
end
mutual
theorem CondR.keep {W W' : World} (hW : ∀ (g : Nat) (C : Array Value), W.heap[g]? = some (.cells C 24 (0, 0)) → W'.heap[g]? = some (.cells C 24 (0, 0))) : ∀ (c : PX.CondD) (x : CV), CondR W x c → CondR W' x c
  | .mk k t n v kids, x, h => by
    obtain ⟨h1, h2, h3, h4, a, cap, h5, h6, h7, h8⟩ := h
    refine ⟨h1, h2, h3, h4, a, cap, h5, h6, h7, fun h0 => ?_⟩
    obtain ⟨g, off, C, ys, e1, e2, e3, e4⟩ := h8 h0
    exact ⟨g, off, C, ys, e1, hW g C e2, e3, KidsR.keep hW kids ys e4⟩
theorem KidsR.keep {W W' : World} (hW : ∀ (g : Nat) (C : Array Value), W.heap[g]? = some (.cells C 24 (0, 0)) → W'.heap[g]? = some (.cells C 24 (0, 0))) : ∀ (l : List PX.CondD) (ys : List CV), KidsR W ys l → KidsR W' ys l
  | [], _, h => h
  | c :: r, ys, h => by
    obtain ⟨y, yr, rfl, h1, h2⟩ := h
    exact ⟨y, yr, rfl, CondR.keep hW c y h1, KidsR.keep hW r yr h2⟩
end
theorem CondR.slice {W : World} {x : CV} {c : PX.CondD} (h : CondR W x c) : ∃ a n cap, x.u = .slice a n cap := by
  cases c with
  | mk k t n v kids =>
    obtain ⟨_, _, _, _, a, cap, h, _⟩ := h
    exact ⟨a, _, cap, h⟩
theorem CondR.below {W W' : World} {x : CV} {c : PX.CondD} (h : CondR W x c) (B : Below W.heap.size W W') : CondR W' x c :=
  CondR.keep (fun g _ hg => (B.block g (lt_of_heap hg)).trans hg) c x h
theorem KidsR.length {W : World} : ∀ (l : List PX.CondD) (ys : List CV), KidsR W ys l → ys.length = l.length
  | [], _, h => by rw [h]; rfl
  | c :: r, ys, h => by
    obtain ⟨y, yr, rfl, _, h2⟩ := h
    simp [KidsR.length r yr h2]
theorem KidsR.at {W : World} : ∀ (l : List PX.CondD) (ys : List CV), KidsR W ys l → ∀ (i : Nat) (c : PX.CondD), l[i]? = some c → ∃ y, ys[i]? = some y ∧ CondR W y c
  | [], _, _, i, c, hc => by simp at hc
  | d :: r, ys, h, i, c, hc => by
    obtain ⟨y, yr, rfl, h1, h2⟩ := h
    cases i with
    | zero => simp at hc; subst hc; exact ⟨y, rfl, h1⟩
    | succ i => exact KidsR.at r yr h2 i c (by simpa using hc)
theorem cellsC_at : ∀ (ys : List CV) (i j : Nat) (y : CV), ys[i]? = some y → j < 5 → (cellsC ys)[i * 5 + j]? = (condC y)[j]?
  | [], i, j, y, h, _ => by simp at h
  | z :: zs, 0, j, y, h, hj => by
    simp at h; subst h
    unfold cellsC
    rw [List.flatMap_cons, List.getElem?_append_left (by show _ < 5; omega)]
    simp
  | z :: zs, i + 1, j, y, h, hj => by
    unfold cellsC
    rw [List.flatMap_cons, List.getElem?_append_right (by show 5 ≤ _; omega)]
    have e : (i + 1) * 5 + j - (condC z).toList.length = i * 5 + j := by show _ - 5 = _; omega
    rw [e]
    exact cellsC_at zs i j y (by simpa using h) hj
mutual
theorem CondM.toR {W : World} {Q : Nat → Prop} : ∀ (c : PX.CondD) (x : CV), CondM W Q x c → CondR W x c
  | .mk k t n v kids, x, h => by
    obtain ⟨h1, h2, h3, h4, h5⟩ := h
    refine ⟨h1, h2, h3, h4, ?_⟩
    rcases h5 with ⟨rfl, h5⟩ | ⟨g, cap, C, ys, h5, h6, h7, h8, h9, h10, h11, h12⟩
    · exact ⟨none, 0, h5, Nat.le_refl _, Nat.zero_le _, fun h => by simp at h⟩
    · refine ⟨_, cap, h5, h7, h8, fun _ => ⟨g, 0, C, ys, rfl, h10, fun i j y hy hj => ?_, KidsM.toR kids ys h12⟩⟩
      have hi := (List.getElem?_eq_some_iff.1 hy).1
      rw [KidsM.length kids ys h12] at hi
      have e := congrArg (fun l : List Value => l[i * 5 + j]?) h11
      simp only [List.getElem?_take, if_pos (show i * 5 + j < kids.length * 5 by omega)] at e
      rw [Array.getElem?_toList] at e
      rw [Nat.zero_add, e]
      exact cellsC_at ys i j y hy hj
theorem KidsM.toR {W : World} {Q : Nat → Prop} : ∀ (l : List PX.CondD) (ys : List CV), KidsM W Q ys l → KidsR W ys l
  | [], _, h => h
  | c :: r, ys, h => by
    obtain ⟨y, yr, rfl, h1, h2⟩ := h
    exact ⟨y, yr, rfl, CondM.toR c y h1, KidsM.toR r yr h2⟩
end
theorem deepL_take (l : List PX.CondD) (i : Nat) (c : PX.CondD) (h : l[i]? = some c) : PX.deepL (l.take (i + 1)) = max (PX.deepL (l.take i)) (PX.deep c) := by
  induction l generalizing i with
  | nil => simp at h
  | cons d r ih =>
    cases i with
    | zero => simp at h; subst h; simp [PX.deepL]
    | succ i =>
      simp only [List.take_succ_cons, PX.deepL]
      rw [ih i (by simpa using h)]
      omega
theorem deepL_le (l : List PX.CondD) (i : Nat) (c : PX.CondD) (h : l[i]? = some c) : PX.deep c ≤ PX.deepL l := by
  induction l generalizing i with
  | nil => simp at h
  | cons d r ih =>
    simp only [PX.deepL]
    cases i with
    | zero => simp at h; subst h; omega
    | succ i => have := ih i (by simpa using h); omega
theorem deepL_take_le (l : List PX.CondD) (i : Nat) : PX.deepL (l.take i) ≤ PX.deepL l := by
  induction l generalizing i with
  | nil => simp
  | cons d r ih =>
    cases i with
    | zero => simp [PX.deepL]
    | succ i => simp only [List.take_succ_cons, PX.deepL]; have := ih i; omega
set_option maxRecDepth 100000 in
set_option maxHeartbeats 8000000 in
theorem deep_any : ∀ (m : Nat) (c : PX.CondD) (x : CV) (w : World), PX.deep c ≤ m → m < 2 ^ 60 → CondR w x c →
    Calls Try.prog 9 #[condV x] w fun e w' => e = .returned (.int .i64 (PX.deep c)) ∧ Below w.heap.size w w'
  | 0, .mk k t n v kids, x, w, hm, _, _ => by simp [PX.deep] at hm
  | m + 1, .mk k t n v kids, x, w, hm, hb, h => by
    have ih := deep_any m
    obtain ⟨h1, h2, h3, h4, a, cap, h5, h6, h7, h8⟩ := id h
    obtain ⟨xk, xt, xn, xv, xu⟩ := x
    simp only at h1 h2 h3 h4 h5
    subst h1 h2 h3 h4 h5
    have hd : PX.deepL kids ≤ m := by simp only [PX.deep] at hm; omega
    have hkid : ∀ (i : Nat) (d : PX.CondD) (W : World), Below w.heap.size w W → kids[i]? = some d → ∃ g off y, a = some ⟨g, off, none⟩ ∧ CondR W y d ∧ ∀ j, j < 5 → W.cell? ⟨g, off + i * 5 + j, none⟩ = (condC y)[j]? := fun i d W B hi => by
      have h0 := (List.getElem?_eq_some_iff.1 hi).1
      obtain ⟨g, off, C, ys, rfl, e2, e3, e4⟩ := h8 (by omega)
      obtain ⟨y, hy, hR⟩ := KidsR.at kids ys e4 i d hi
      refine ⟨g, off, y, rfl, hR.below B, fun j hj => ?_⟩
      rw [cell_of_row _ g _ _ _ _ ((B.block g (lt_of_heap e2)).trans e2)]
      exact e3 i j y hy hj
    obtain ⟨N, hN⟩ : ∃ N, kids.length = N := ⟨_, rfl⟩
    obtain ⟨D, hD⟩ : ∃ D, PX.deep (.mk xk xt xn xv kids) = D := ⟨_, rfl⟩
    have hD' : PX.deepL kids + 1 = D := hD
    rw [hD]
    have hN6 : N ≤ cap := by omega
    have hN63 : N ≤ 9223372036854775807 := by unfold maxLen at h7; omega
    unfold condV
    simp only
    rw [hN]
    have B0 := (Below.refl w.heap.size w).alloc (Nat.le_refl _) (.cells #[.int .u8 xk, .int .u8 xt, .int .u8 xn, .int .u8 xv, .slice a N cap] 24)
    have z0 := heap_alloc_new w (.cells #[.int .u8 xk, .int .u8 xt, .int .u8 xn, .int .u8 xv, .slice a N cap] 24)
    have c4 := cell_of_row _ w.heap.size 4 _ _ _ z0
    simp only [List.getElem?_toArray, List.getElem?_cons_zero, List.getElem?_cons_succ] at c4
    replace B0 := Lib.hid B0
    clear z0 h8
    replace hkid := Lib.hid hkid
    replace hD' := Lib.hid hD'
    replace ih := Lib.hid ih
    clear hD h
    go_enter Try.func9, Try.ntmps9
    go_wp2
    go_loopw [3, 9] (fun d i wr => ∃ (q e : Nat), q ≤ N ∧ Hid (e = PX.deepL (kids.take q)) ∧ i = .int .i64 (q : Int) ∧ d = .int .i64 (e : Int) ∧ Hid (Below w.heap.size w wr)) (fun _ i _ => N - (intOf i).toNat)
    case atStart => exact ⟨0, 0, by omega, Lib.hid (by simp [PX.deepL]), rfl, rfl, B0⟩
    case round =>
      obtain ⟨q, e, hq, he, rfl, rfl, hB⟩ := hrel
      by_cases hlt : q < N
      · obtain ⟨d, hd1⟩ : ∃ d, kids[q]? = some d := ⟨kids[q]'(by omega), List.getElem?_eq_getElem (by omega)⟩
        obtain ⟨g, off, y, rfl, hR, hc⟩ := hkid.out q d wr hB.out hd1
        have e0 := hc 0 (by omega)
        have e1 := hc 1 (by omega)
        have e2 := hc 2 (by omega)
        have e3 := hc 3 (by omega)
        have e4 := hc 4 (by omega)
        obtain ⟨ya, yl, yc, hyu⟩ := hR.slice
        obtain ⟨yk, yt, yn, yv, yu⟩ := y
        obtain rfl : yu = .slice ya yl yc := hyu
        unfold condC at e0 e1 e2 e3 e4
        simp only [List.getElem?_toArray, List.getElem?_cons_zero, List.getElem?_cons_succ, Nat.add_zero] at e0 e1 e2 e3 e4
        have t1 : decide (q < N) = true := by simpa using hlt
        have hq1 := deepL_take kids q d hd1
        have hq2 := deepL_le kids q d hd1
        have hq3 := deepL_take_le kids q
        rw [← he.out] at hq1 hq3
        obtain ⟨f, hf⟩ : ∃ f, PX.deep d = f := ⟨_, rfl⟩
        have hA := (Below.refl wr.heap.size wr).alloc (Nat.le_refl _) (.cells #[.int .u8 yk, .int .u8 yt, .int .u8 yn, .int .u8 yv, .slice ya yl yc] 24)
        have z1 := heap_alloc_new wr (.cells (condC ⟨yk, yt, yn, yv, .slice ya yl yc⟩) 24)
        obtain ⟨v0, v1, v2, v3, v4⟩ := row_cond z1
        unfold condC at v0 v1 v2 v3 v4
        have cD := ih.out d ⟨yk, yt, yn, yv, .slice ya yl yc⟩ (wr.alloc (.cells #[.int .u8 yk, .int .u8 yt, .int .u8 yn, .int .u8 yv, .slice ya yl yc] 24)) (by omega) (by omega) (hR.below hA)
        unfold condV at cD
        rw [hf] at cD
        replace cD := Lib.hid cD
        replace hA := Lib.hid hA
        rw [hf] at hq1 hq2
        clear hc hR z1 hd1
        go_wp2_with (first
          | (go_at_call 9; refine (cD.out).mono ?_; rintro e5 w3 ⟨rfl, B3⟩))
        refine ⟨⟨q + 1, max e f, by omega, Lib.hid hq1.symm, rfl, ?_, Lib.hid (hB.out.trans ((hA.out.trans (B3.mono hA.out.size)).mono hB.out.size))⟩, ?_⟩
        · congr 1
          split <;> omega
        · simp [intOf]; omega
      · obtain rfl : q = N := by omega
        have t1 : decide (q < q) = false := by simp
        have hE : (e : Int) + 1 = (D : Int) := by
          have h1 := hD'.out
          have h2 := he.out
          rw [← hN, List.take_length] at h2
          omega
        have hw : wrap64 (D : Int) = D := IntWalk.wrap64_in _ (by have := hD'.out; omega)
        go_wp2
        go_ret
        rw [hw]
        exact ⟨rfl, hB.out⟩
end PP
end Go.Proofs.Ytijipgiclkkfhaa
end

section
/- The parser's last condition. -/
namespace Go.Proofs.Ytijipgiclkkfhaa
open Go.RowKit Go.Shelf

attribute [local go_sem] Oper.semAt_some
namespace PP
set_option maxRecDepth 100000 in
set_option maxHeartbeats 16000000 in
theorem lastCond_any (b : Nat) (at_ : Int) (s : PX.S) (h : Hd) (w : World) (L : LS w b s h) (hlen : s.rest.length < 100000) :
    Calls Try.prog 46 #[.pointer (some ⟨b, 0, none⟩), .int .i64 at_] w (Ends2 w b h (PX.lastCond at_ s)) := by
  have hbl := L.ps.lt
  have hgl := L.ps.g_lt
  have U0 := (Tr.start L).alloc (.cells #[.int .u8 0, .int .u8 0, .int .u8 0, .int .u8 0, .slice none 0 0] 24)
  have z0 := newCond w
  have C1 := Lib.hid (disj_any b (s.rest.length + 1) (by omega) s h _ (by omega) U0.ls)
  have C2 := Lib.hid fun s g W (p : PS W b s g) => takeLast_any b s g W p
  have C3 := Lib.hid fun (c : PX.CondD) (x : CV) (W : World) (hc : CondR W x c) (hd : PX.deep c ≤ 2 * (s.rest.length + 1) + 2) => deep_any _ c x W hd (by omega) hc
  have C4 := Lib.hid fun W => fail_any at_ 5 W
  have hdp := PX.deep_disj (s.rest.length + 1) s
  obtain ⟨R, e0⟩ : ∃ R, PX.lastCond at_ s = R := ⟨_, rfl⟩
  rw [e0]
  replace e0 := Lib.hid e0
  replace hdp := Lib.hid hdp
  replace U0 := Lib.hid U0
  replace z0 := Lib.hid z0
  go_enter Try.func46, Try.ntmps46
  go_wp2_with (first
    | (go_at_call 58; refine call2 C1.out (fun c x s1 w1 vl vi hx1 F1 M1 L1 => ?_) (fun pl er w1 hx F => ⟨rfl, Ends2.bad (U0.out.fr.trans F) (by rw [← e0.out]; unfold PX.lastCond; rw [hx]; rfl)⟩)
       obtain ⟨xa, xl, xc, hu⟩ := M1.slice
       obtain ⟨xk, xt, xn, xv, xu⟩ := x
       obtain rfl : xu = .slice xa xl xc := hu
       dsimp only [condV]
       have hdc := hdp.out _ _ hx1
       have U1 := (U0.out.step1 F1 L1).alloc (.cells (condC ⟨xk, xt, xn, xv, .slice xa xl xc⟩) 24)
       have q1 := F1.box z0.out (by omega) condT1
       have hs1 := lt_of_heap q1
       have hs0 := lt_of_heap z0.out
       have x1 := Lib.hid (heap_alloc_new w1 (.cells (condC ⟨xk, xt, xn, xv, .slice xa xl xc⟩) 24))
       have z1 := Lib.hid (row_alloc q1 (.cells (condC ⟨xk, xt, xn, xv, .slice xa xl xc⟩) 24))
       have c2 := C2.out _ _ _ U1.ls.ps
       unfold condC at c2
       replace c2 := Lib.hid c2
       replace U1 := Lib.hid U1
       replace M1 := Lib.hid M1
       replace hdc := Lib.hid hdc)
    | (go_at_call 59; refine call0 c2.out (fun u s2 w2 hx2 F2 P2 => ?_) (fun pl er w2 hx F => ⟨rfl, Ends2.bad (U1.out.fr.trans F.up) (by rw [← e0.out]; unfold PX.lastCond; rw [hx1]; simp only [PX.R.bind, hx])⟩)
       dsimp only
       have U2 := U1.out.step0 F2 (mv_takeLast hx2) P2
       have x2 := F2.box x1.out (by omega) (by simp)
       have z2 := F2.box z1.out (by omega) (by simp)
       have M2 := CondM.mono (W' := w2) (Q' := fun g => (w.alloc (.cells #[.int .u8 0, .int .u8 0, .int .u8 0, .int .u8 0, .slice none 0 0] 24)).heap.size ≤ g) (fun g C hq hh => F2.box (row_alloc hh _) (by have : (w.alloc (.cells #[.int .u8 0, .int .u8 0, .int .u8 0, .int .u8 0, .slice none 0 0] 24)).heap.size ≤ g := hq; simp only [World.size_alloc] at this; omega) (by simp)) (fun g hq => hq) c _ M1.out
       have c3 := C3.out c _ w2 (CondM.toR c _ M2) hdc.out
       unfold condV at c3
       replace c3 := Lib.hid c3
       obtain ⟨y0, y1, y2, y3, y4⟩ := row_cond x2
       have X2 := Lib.hid x2
       have Z2 := Lib.hid z2
       clear z2 x2
       replace U2 := Lib.hid U2
       replace M2 := Lib.hid M2)
    | (go_at_call 9; refine (c3.out).mono ?_; rintro e w3 ⟨rfl, B3⟩
       have U3 := U2.out.below B3
       have x3 := (B3.block _ (lt_of_heap X2.out)).trans X2.out
       have z3 := (B3.block _ (lt_of_heap Z2.out)).trans Z2.out
       obtain ⟨v0, v1, v2, v3, v4⟩ := row_cond x3
       obtain ⟨u0, u1, u2, u3, u4⟩ := row_cond z3
       have fz := fun j => frozen_of_row _ _ j _ _ z3
       have V3 := Lib.hid z3
       clear z3 x3
       replace U3 := Lib.hid U3)
    | (go_at_call 52; refine (C4.out _).mono ?_; rintro e w4 ⟨rfl, rfl⟩))
  · refine ⟨rfl, ?_⟩
    first
      | (rename_i hh; rw [← hh])
      | (rename_i hh _; rw [← hh])
      | (rename_i hh _ _; rw [← hh])
    refine Ends2.bad U3.out.fr ?_
    rw [← e0.out]; unfold PX.lastCond; rw [hx1]; simp only [PX.R.bind, hx2]
    rw [if_pos (by omega)]
  · have Z := setCond_row ⟨xk, xt, xn, xv, .slice xa xl xc⟩ V3.out
    have hM : CondM (setCond w3 w.heap.size ⟨xk, xt, xn, xv, .slice xa xl xc⟩) (fun i => w.heap.size ≤ i) ⟨xk, xt, xn, xv, .slice xa xl xc⟩ c := by
      refine CondM.mono (fun g C hq hh => ?_) (fun g hq => ?_) c _ M2.out
      · have hq' : (w.alloc (.cells #[.int .u8 0, .int .u8 0, .int .u8 0, .int .u8 0, .slice none 0 0] 24)).heap.size ≤ g := hq
        rw [World.size_alloc] at hq'
        exact setCond_keep ((B3.block g (lt_of_heap hh)).trans hh) (by omega)
      · have hq' : (w.alloc (.cells #[.int .u8 0, .int .u8 0, .int .u8 0, .int .u8 0, .slice none 0 0] 24)).heap.size ≤ g := hq
        rw [World.size_alloc] at hq'
        show w.heap.size ≤ g
        omega
    have hT := Tr.cond (c := c) (r := R) (U3.out.setCond (Nat.le_refl _) hbl hgl ⟨xk, xt, xn, xv, .slice xa xl xc⟩ V3.out) (by
      rw [← e0.out]; unfold PX.lastCond; rw [hx1]; simp only [PX.R.bind, hx2]
      rw [if_neg (by omega)]) hM
    refine bodyPost_ret (v := condV ⟨xk, xt, xn, xv, .slice xa xl xc⟩) ?_ rfl hT
    exact cond_results (p := 4) rfl _ _ w.heap.size ⟨xk, xt, xn, xv, .slice xa xl xc⟩ rfl Z

set_option maxRecDepth 100000 in
set_option maxHeartbeats 16000000 in
theorem onlyCond_any (b : Nat) (s : PX.S) (h : Hd) (w : World) (L : LS w b s h) (hlen : s.rest.length < 100000) :
    Calls Try.prog 33 #[.pointer (some ⟨b, 0, none⟩)] w (Ends2 w b h (PX.onlyCond s)) := by
  have hbl := L.ps.lt
  have hgl := L.ps.g_lt
  have U0 := (Tr.start L).alloc (.cells #[.int .u8 0, .int .u8 0, .int .u8 0, .int .u8 0, .slice none 0 0] 24)
  have z0 := newCond w
  have C1 := Lib.hid (next_any b s h _ U0.ls.ps)
  have C2 := Lib.hid fun W (L' : LS W b s h) => lastCond_any b (PX.next s).p s h W L' hlen
  obtain ⟨R, e0⟩ : ∃ R, PX.lastCond (PX.next s).p s = R := ⟨_, rfl⟩
  have e1 : PX.onlyCond s = R := e0
  rw [e1]
  rw [e0] at C2
  clear e0 e1
  replace U0 := Lib.hid U0
  replace z0 := Lib.hid z0
  have hf2 := tok_f2
  generalize PX.next s = tk at *
  go_enter Try.func33, Try.ntmps33
  go_wp2_with (first
    | (go_at_call 47; refine (C1.out).mono ?_; rintro e w1 ⟨rfl, B1⟩; dsimp only [tokV]
       have U1 := U0.out.below B1
       have z1 := (B1.block _ (lt_of_heap z0.out)).trans z0.out)
    | (go_at_call 46; refine call2 (C2.out _ U1.ls) (fun c x s5 w5 vl vi hx5 F5 M5 L5 => ?_) (fun pl er w5 hx F => ⟨rfl, Ends2.bad (U1.fr.trans F) hx⟩)
       obtain ⟨xa, xl, xc, hu⟩ := M5.slice
       obtain ⟨xk, xt, xn, xv, xu⟩ := x
       obtain rfl : xu = .slice xa xl xc := hu
       dsimp only [condV]
       have U5 := U1.step1 F5 L5
       have z5 := F5.box z1 (by omega) condT1
       have hs0 := lt_of_heap z1
       obtain ⟨v0, v1, v2, v3, v4⟩ := row_cond z5
       have fv := fun j => frozen_of_row _ _ j _ _ z5
       have V5 := Lib.hid z5
       replace U5 := Lib.hid U5
       replace M5 := Lib.hid M5))
  have Z := setCond_row ⟨xk, xt, xn, xv, .slice xa xl xc⟩ V5.out
  have hM : CondM (setCond w5 w.heap.size ⟨xk, xt, xn, xv, .slice xa xl xc⟩) (fun i => w.heap.size ≤ i) ⟨xk, xt, xn, xv, .slice xa xl xc⟩ c := by
    refine CondM.mono (W := w5) (Q := fun i => w1.heap.size ≤ i) (fun g C hq hh => ?_) (fun g hq => ?_) c _ M5.out
    · exact setCond_keep hh (Nat.ne_of_gt (Nat.lt_of_lt_of_le hs0 hq))
    · exact Nat.le_trans (Nat.le_of_lt hs0) hq
  have hT := Tr.cond (c := c) (r := R) (U5.out.setCond (Nat.le_refl _) hbl hgl ⟨xk, xt, xn, xv, .slice xa xl xc⟩ V5.out) hx5 hM
  refine bodyPost_ret (v := condV ⟨xk, xt, xn, xv, .slice xa xl xc⟩) ?_ rfl hT
  exact cond_results (p := 2) rfl _ _ w.heap.size ⟨xk, xt, xn, xv, .slice xa xl xc⟩ rfl Z
end PP
end Go.Proofs.Ytijipgiclkkfhaa
end

section
/- The parser's lines: the query. -/
namespace Go.Proofs.Ytijipgiclkkfhaa
open Go.RowKit Go.Shelf

attribute [local go_sem] Oper.semAt_some
namespace PP
theorem psC_9 (vr : Value) (s : PX.S) (h : Hd) (v : Value) : (psC vr s h).setIfInBounds 9 v = psC vr s { h with c0 := v } := by
  unfold psC; simp only [List.setIfInBounds_toArray, List.set_cons_succ, List.set_cons_zero]
theorem psC_10 (vr : Value) (s : PX.S) (h : Hd) (v : Value) : (psC vr s h).setIfInBounds 10 v = psC vr s { h with c1 := v } := by
  unfold psC; simp only [List.setIfInBounds_toArray, List.set_cons_succ, List.set_cons_zero]
theorem psC_11 (vr : Value) (s : PX.S) (h : Hd) (v : Value) : (psC vr s h).setIfInBounds 11 v = psC vr s { h with c2 := v } := by
  unfold psC; simp only [List.setIfInBounds_toArray, List.set_cons_succ, List.set_cons_zero]
theorem psC_12 (vr : Value) (s : PX.S) (h : Hd) (v : Value) : (psC vr s h).setIfInBounds 12 v = psC vr s { h with c3 := v } := by
  unfold psC; simp only [List.setIfInBounds_toArray, List.set_cons_succ, List.set_cons_zero]
theorem psC_13 (vr : Value) (s : PX.S) (h : Hd) (v : Value) : (psC vr s h).setIfInBounds 13 v = psC vr s { h with c4 := v } := by
  unfold psC; simp only [List.setIfInBounds_toArray, List.set_cons_succ, List.set_cons_zero]
/-- The parser's condition is written. -/
theorem LT.newCond {W : World} {b : Nat} {s : PX.S} {g : Hd} (L : LT W b s g) (x : CV) (c : PX.CondD) (M : CondM W (fun i => b < i) x c) :
    LT (((((W.setCell ⟨b, 9, none⟩ (.int .u8 x.k)).setCell ⟨b, 10, none⟩ (.int .u8 x.t)).setCell ⟨b, 11, none⟩ (.int .u8 x.n)).setCell ⟨b, 12, none⟩ (.int .u8 x.v)).setCell ⟨b, 13, none⟩ x.u) b { s with cond := c } { g with c0 := .int .u8 x.k, c1 := .int .u8 x.t, c2 := .int .u8 x.n, c3 := .int .u8 x.v, c4 := x.u } := by
  have h1 := L.ls.row (s' := s) (h' := { g with c0 := .int .u8 x.k }) 9 (.int .u8 x.k) rfl rfl (fun vr => psC_9 vr s g _) rfl rfl rfl rfl rfl
  have h2 := h1.row (s' := s) (h' := { g with c0 := .int .u8 x.k, c1 := .int .u8 x.t }) 10 (.int .u8 x.t) rfl rfl (fun vr => psC_10 vr s _ _) rfl rfl rfl rfl rfl
  have h3 := h2.row (s' := s) (h' := { g with c0 := .int .u8 x.k, c1 := .int .u8 x.t, c2 := .int .u8 x.n }) 11 (.int .u8 x.n) rfl rfl (fun vr => psC_11 vr s _ _) rfl rfl rfl rfl rfl
  have h4 := h3.row (s' := s) (h' := { g with c0 := .int .u8 x.k, c1 := .int .u8 x.t, c2 := .int .u8 x.n, c3 := .int .u8 x.v }) 12 (.int .u8 x.v) rfl rfl (fun vr => psC_12 vr s _ _) rfl rfl rfl rfl rfl
  have h5 := h4.row (s' := { s with cond := c }) (h' := { g with c0 := .int .u8 x.k, c1 := .int .u8 x.t, c2 := .int .u8 x.n, c3 := .int .u8 x.v, c4 := x.u }) 13 x.u rfl rfl (fun vr => psC_13 vr s _ _) rfl rfl rfl rfl rfl
  have keep : ∀ (i : Nat) (o : Obj), i ≠ b → W.heap[i]? = some o → (((((W.setCell ⟨b, 9, none⟩ (.int .u8 x.k)).setCell ⟨b, 10, none⟩ (.int .u8 x.t)).setCell ⟨b, 11, none⟩ (.int .u8 x.n)).setCell ⟨b, 12, none⟩ (.int .u8 x.v)).setCell ⟨b, 13, none⟩ x.u).heap[i]? = some o := fun i o hi hh =>
    row_keep (row_keep (row_keep (row_keep (row_keep hh hi 9 _) hi 10 _) hi 11 _) hi 12 _) hi 13 _
  exact ⟨h5, L.opn, L.thr.keep fun i cur t _ hi hh => keep i _ (by omega) hh, x, rfl, rfl, rfl, rfl, rfl, CondM.mono (fun i C hi hh => keep i _ (Nat.ne_of_gt hi) hh) (fun _ hi => hi) _ _ M⟩
theorem ask_lit (x : ByteArray) : PX.askOf x = if x.toList == [115, 111, 109, 101] then 1 else if x.toList == [110, 111, 110, 101] then 2 else if x.toList == [97, 108, 108] then 3 else 0 := by
  unfold PX.askOf PX.kSome PX.kNone PX.kAll
  simp only [beq_lit]

set_option maxRecDepth 100000 in
set_option maxHeartbeats 16000000 in
theorem queryLine_any (b : Nat) (s : PX.S) (h : Hd) (w : World) (L : LT w b s h) (hlen : s.rest.length < 100000) :
    Calls Try.prog 57 #[.pointer (some ⟨b, 0, none⟩)] w (EndsP w b h (PX.queryLine s)) := by
  have hbl := L.ls.ps.lt
  have U0 := (TP.start L).alloc (.cells #[.string ⟨#[115, 111, 109, 101]⟩, .string ⟨#[110, 111, 110, 101]⟩, .string ⟨#[97, 108, 108]⟩] 9)
  have C1 := take_any b s h _ [PX.kSome, PX.kNone, PX.kAll] _ U0.lt.ls.ps (strSl_three _ _ _ _) (symsOk_three (x := [115, 111, 109, 101]) (y := [110, 111, 110, 101]) (z := [97, 108, 108]) (by decide) (by decide) (by decide))
  obtain ⟨R, hR⟩ : ∃ R, PX.queryLine s = R := ⟨_, rfl⟩
  rw [hR]
  rcases ht : PX.take [PX.kSome, PX.kNone, PX.kAll] s with ⟨t, s1⟩ | ⟨pl, er⟩
  · have m1 := mv_take ht
    have hl1 : s1.rest.length < 100000 := by
      have := PX.keep_take (PX.len_stb s.rest.length) _ s (Nat.le_refl _) _ _ ht
      omega
    rw [ht] at C1
    have CL := Lib.hid fun s g W (L' : LS W b s g) (hl : s.rest.length < 100000) => lastCond_any b t.p s g W L' hl
    have ha := ask_lit t.x
    replace C1 := Lib.hid C1
    replace U0 := Lib.hid U0
    replace m1 := Lib.hid m1
    by_cases y1 : (t.x.toList == [115, 111, 109, 101]) = true
    · have hask : (if PX.askOf t.x = 0 then s1.ask else PX.askOf t.x) = 1 := by rw [ha]; simp [y1]
      have e0 : Hid (R = (PX.lastCond t.p { s1 with ask := 1 }).bind fun c s => .ok () { s with cond := c, done := 4 }) := Lib.hid (by
        rw [← hR]; unfold PX.queryLine; rw [ht]; simp only [PX.R.bind]; rw [hask])
      clear hR ht ha hask
      go_enter Try.func57, Try.ntmps57
      go_wp2_with (first
        | (go_at_call 65; refine (C1.out).mono ?_; rintro e w1 ⟨F1, rfl, P1⟩; dsimp only [tokV]
           have U1 := (U0.out.step0 F1 m1.out P1).alloc (.cells #[.int .u8 t.k, .string t.x, .int .i64 t.p] 58)
           have hz := heap_alloc_new w1 (.cells #[.int .u8 t.k, .string t.x, .int .i64 t.p] 58)
           have hz1 := cell_of_row _ _ 1 _ _ _ hz
           have hb1 : b < w1.heap.size := P1.lt
           simp only [List.getElem?_toArray, List.getElem?_cons_zero, List.getElem?_cons_succ] at hz1
           obtain ⟨vr1, d8, f8⟩ := U1.lt.ls.ps.cellAt 8
           unfold psC at d8
           simp only [List.getElem?_toArray, List.getElem?_cons_zero, List.getElem?_cons_succ] at d8
           have hy := heap_alloc_new (w1.setCell ⟨b, 8, none⟩ (.int .u8 1)) (.cells #[.int .u8 t.k, .string t.x, .int .i64 t.p] 58)
           have hz2 := cell_of_row _ _ 2 _ _ _ hy
           have hz3 := cell_of_row _ _ 2 _ _ _ hz
           simp only [List.getElem?_toArray, List.getElem?_cons_zero, List.getElem?_cons_succ, World.size_setCell] at hz2 hz3
           have U2 := Lib.hid (((U0.out.step0 F1 m1.out P1).setAsk 1).alloc (.cells #[.int .u8 t.k, .string t.x, .int .i64 t.p] 58))
           clear hy
           clear hz)
        | (go_at_call 46; refine call2 (CL.out _ _ _ U2.out.lt.ls hl1) (fun c x s5 w5 vl vi hx5 F5 M5 L5 => ?_) (fun pl er w5 hx F => ⟨rfl, EndsP.bad (U2.out.fr.trans (F.mono T1_T2)) (by rw [e0.out, hx]; rfl)⟩)
           obtain ⟨xa, xl, xc, hu⟩ := M5.slice
           obtain ⟨xk, xt, xn, xv, xu⟩ := x
           obtain rfl : xu = .slice xa xl xc := hu
           dsimp only [condV]
           have hlv := PX.keep_lastCond (PX.lv_stb _) _ _ (PX.Lv.refl _) _ _ hx5
           have U5 := U2.out.step1 F5 hlv L5
           obtain ⟨vr5, h5, -⟩ := id U5.lt.ls.ps
           have g9 := cell_of_row _ b 9 _ _ _ h5
           have g10 := cell_of_row _ b 10 _ _ _ h5
           have g11 := cell_of_row _ b 11 _ _ _ h5
           have g12 := cell_of_row _ b 12 _ _ _ h5
           have g13 := cell_of_row _ b 13 _ _ _ h5
           have g14 := cell_of_row _ b 14 _ _ _ h5
           unfold psC at g9 g10 g11 g12 g13 g14
           simp only [List.getElem?_toArray, List.getElem?_cons_zero, List.getElem?_cons_succ] at g9 g10 g11 g12 g13 g14
           have fb := fun j => frozen_of_row _ b j _ _ h5
           have M6 : CondM w5 (fun i => b < i) ⟨xk, xt, xn, xv, .slice xa xl xc⟩ c := CondM.mono (fun _ _ _ hh => hh) (fun i hi => Nat.lt_of_lt_of_le hb1 (Nat.le_trans (by simp) hi)) _ _ M5
           have L6 := U5.lt.newCond ⟨xk, xt, xn, xv, .slice xa xl xc⟩ c M6
           have U6 : TP w b h _ _ _ := ⟨((((U5.fr.setB 9 (.int .u8 xk)).setB 10 (.int .u8 xt)).setB 11 (.int .u8 xn)).setB 12 (.int .u8 xv)).setB 13 (.slice xa xl xc), L6, U5.hg⟩
           replace U6 := Lib.hid U6
           clear h5 M6 L6 U5 M5 L5))
      go_end0
      exact (U6.out.setDone 4).ok (by rw [e0.out, hx5]; rfl)
    by_cases y2 : (t.x.toList == [110, 111, 110, 101]) = true
    · have hask : (if PX.askOf t.x = 0 then s1.ask else PX.askOf t.x) = 2 := by rw [ha]; simp [y1, y2]
      have e0 : Hid (R = (PX.lastCond t.p { s1 with ask := 2 }).bind fun c s => .ok () { s with cond := c, done := 4 }) := Lib.hid (by
        rw [← hR]; unfold PX.queryLine; rw [ht]; simp only [PX.R.bind]; rw [hask])
      clear hR ht ha hask
      go_enter Try.func57, Try.ntmps57
      go_wp2_with (first
        | (go_at_call 65; refine (C1.out).mono ?_; rintro e w1 ⟨F1, rfl, P1⟩; dsimp only [tokV]
           have U1 := (U0.out.step0 F1 m1.out P1).alloc (.cells #[.int .u8 t.k, .string t.x, .int .i64 t.p] 58)
           have hz := heap_alloc_new w1 (.cells #[.int .u8 t.k, .string t.x, .int .i64 t.p] 58)
           have hz1 := cell_of_row _ _ 1 _ _ _ hz
           have hb1 : b < w1.heap.size := P1.lt
           simp only [List.getElem?_toArray, List.getElem?_cons_zero, List.getElem?_cons_succ] at hz1
           obtain ⟨vr1, d8, f8⟩ := U1.lt.ls.ps.cellAt 8
           unfold psC at d8
           simp only [List.getElem?_toArray, List.getElem?_cons_zero, List.getElem?_cons_succ] at d8
           have hy := heap_alloc_new (w1.setCell ⟨b, 8, none⟩ (.int .u8 2)) (.cells #[.int .u8 t.k, .string t.x, .int .i64 t.p] 58)
           have hz2 := cell_of_row _ _ 2 _ _ _ hy
           have hz3 := cell_of_row _ _ 2 _ _ _ hz
           simp only [List.getElem?_toArray, List.getElem?_cons_zero, List.getElem?_cons_succ, World.size_setCell] at hz2 hz3
           have U2 := Lib.hid (((U0.out.step0 F1 m1.out P1).setAsk 2).alloc (.cells #[.int .u8 t.k, .string t.x, .int .i64 t.p] 58))
           clear hy
           clear hz)
        | (go_at_call 46; refine call2 (CL.out _ _ _ U2.out.lt.ls hl1) (fun c x s5 w5 vl vi hx5 F5 M5 L5 => ?_) (fun pl er w5 hx F => ⟨rfl, EndsP.bad (U2.out.fr.trans (F.mono T1_T2)) (by rw [e0.out, hx]; rfl)⟩)
           obtain ⟨xa, xl, xc, hu⟩ := M5.slice
           obtain ⟨xk, xt, xn, xv, xu⟩ := x
           obtain rfl : xu = .slice xa xl xc := hu
           dsimp only [condV]
           have hlv := PX.keep_lastCond (PX.lv_stb _) _ _ (PX.Lv.refl _) _ _ hx5
           have U5 := U2.out.step1 F5 hlv L5
           obtain ⟨vr5, h5, -⟩ := id U5.lt.ls.ps
           have g9 := cell_of_row _ b 9 _ _ _ h5
           have g10 := cell_of_row _ b 10 _ _ _ h5
           have g11 := cell_of_row _ b 11 _ _ _ h5
           have g12 := cell_of_row _ b 12 _ _ _ h5
           have g13 := cell_of_row _ b 13 _ _ _ h5
           have g14 := cell_of_row _ b 14 _ _ _ h5
           unfold psC at g9 g10 g11 g12 g13 g14
           simp only [List.getElem?_toArray, List.getElem?_cons_zero, List.getElem?_cons_succ] at g9 g10 g11 g12 g13 g14
           have fb := fun j => frozen_of_row _ b j _ _ h5
           have M6 : CondM w5 (fun i => b < i) ⟨xk, xt, xn, xv, .slice xa xl xc⟩ c := CondM.mono (fun _ _ _ hh => hh) (fun i hi => Nat.lt_of_lt_of_le hb1 (Nat.le_trans (by simp) hi)) _ _ M5
           have L6 := U5.lt.newCond ⟨xk, xt, xn, xv, .slice xa xl xc⟩ c M6
           have U6 : TP w b h _ _ _ := ⟨((((U5.fr.setB 9 (.int .u8 xk)).setB 10 (.int .u8 xt)).setB 11 (.int .u8 xn)).setB 12 (.int .u8 xv)).setB 13 (.slice xa xl xc), L6, U5.hg⟩
           replace U6 := Lib.hid U6
           clear h5 M6 L6 U5 M5 L5))
      go_end0
      exact (U6.out.setDone 4).ok (by rw [e0.out, hx5]; rfl)
    by_cases y3 : (t.x.toList == [97, 108, 108]) = true
    · have hask : (if PX.askOf t.x = 0 then s1.ask else PX.askOf t.x) = 3 := by rw [ha]; simp [y1, y2, y3]
      have e0 : Hid (R = (PX.lastCond t.p { s1 with ask := 3 }).bind fun c s => .ok () { s with cond := c, done := 4 }) := Lib.hid (by
        rw [← hR]; unfold PX.queryLine; rw [ht]; simp only [PX.R.bind]; rw [hask])
      clear hR ht ha hask
      go_enter Try.func57, Try.ntmps57
      go_wp2_with (first
        | (go_at_call 65; refine (C1.out).mono ?_; rintro e w1 ⟨F1, rfl, P1⟩; dsimp only [tokV]
           have U1 := (U0.out.step0 F1 m1.out P1).alloc (.cells #[.int .u8 t.k, .string t.x, .int .i64 t.p] 58)
           have hz := heap_alloc_new w1 (.cells #[.int .u8 t.k, .string t.x, .int .i64 t.p] 58)
           have hz1 := cell_of_row _ _ 1 _ _ _ hz
           have hb1 : b < w1.heap.size := P1.lt
           simp only [List.getElem?_toArray, List.getElem?_cons_zero, List.getElem?_cons_succ] at hz1
           obtain ⟨vr1, d8, f8⟩ := U1.lt.ls.ps.cellAt 8
           unfold psC at d8
           simp only [List.getElem?_toArray, List.getElem?_cons_zero, List.getElem?_cons_succ] at d8
           have hy := heap_alloc_new (w1.setCell ⟨b, 8, none⟩ (.int .u8 3)) (.cells #[.int .u8 t.k, .string t.x, .int .i64 t.p] 58)
           have hz2 := cell_of_row _ _ 2 _ _ _ hy
           have hz3 := cell_of_row _ _ 2 _ _ _ hz
           simp only [List.getElem?_toArray, List.getElem?_cons_zero, List.getElem?_cons_succ, World.size_setCell] at hz2 hz3
           have U2 := Lib.hid (((U0.out.step0 F1 m1.out P1).setAsk 3).alloc (.cells #[.int .u8 t.k, .string t.x, .int .i64 t.p] 58))
           clear hy
           clear hz)
        | (go_at_call 46; refine call2 (CL.out _ _ _ U2.out.lt.ls hl1) (fun c x s5 w5 vl vi hx5 F5 M5 L5 => ?_) (fun pl er w5 hx F => ⟨rfl, EndsP.bad (U2.out.fr.trans (F.mono T1_T2)) (by rw [e0.out, hx]; rfl)⟩)
           obtain ⟨xa, xl, xc, hu⟩ := M5.slice
           obtain ⟨xk, xt, xn, xv, xu⟩ := x
           obtain rfl : xu = .slice xa xl xc := hu
           dsimp only [condV]
           have hlv := PX.keep_lastCond (PX.lv_stb _) _ _ (PX.Lv.refl _) _ _ hx5
           have U5 := U2.out.step1 F5 hlv L5
           obtain ⟨vr5, h5, -⟩ := id U5.lt.ls.ps
           have g9 := cell_of_row _ b 9 _ _ _ h5
           have g10 := cell_of_row _ b 10 _ _ _ h5
           have g11 := cell_of_row _ b 11 _ _ _ h5
           have g12 := cell_of_row _ b 12 _ _ _ h5
           have g13 := cell_of_row _ b 13 _ _ _ h5
           have g14 := cell_of_row _ b 14 _ _ _ h5
           unfold psC at g9 g10 g11 g12 g13 g14
           simp only [List.getElem?_toArray, List.getElem?_cons_zero, List.getElem?_cons_succ] at g9 g10 g11 g12 g13 g14
           have fb := fun j => frozen_of_row _ b j _ _ h5
           have M6 : CondM w5 (fun i => b < i) ⟨xk, xt, xn, xv, .slice xa xl xc⟩ c := CondM.mono (fun _ _ _ hh => hh) (fun i hi => Nat.lt_of_lt_of_le hb1 (Nat.le_trans (by simp) hi)) _ _ M5
           have L6 := U5.lt.newCond ⟨xk, xt, xn, xv, .slice xa xl xc⟩ c M6
           have U6 : TP w b h _ _ _ := ⟨((((U5.fr.setB 9 (.int .u8 xk)).setB 10 (.int .u8 xt)).setB 11 (.int .u8 xn)).setB 12 (.int .u8 xv)).setB 13 (.slice xa xl xc), L6, U5.hg⟩
           replace U6 := Lib.hid U6
           clear h5 M6 L6 U5 M5 L5))
      go_end0
      exact (U6.out.setDone 4).ok (by rw [e0.out, hx5]; rfl)
    · have hask : (if PX.askOf t.x = 0 then s1.ask else PX.askOf t.x) = s1.ask := by rw [ha]; simp [y1, y2, y3]
      have e0 : Hid (R = (PX.lastCond t.p s1).bind fun c s => .ok () { s with cond := c, done := 4 }) := Lib.hid (by
        rw [← hR]; unfold PX.queryLine; rw [ht]; simp only [PX.R.bind]; rw [hask])
      clear hR ht ha hask
      go_enter Try.func57, Try.ntmps57
      go_wp2_with (first
        | (go_at_call 65; refine (C1.out).mono ?_; rintro e w1 ⟨F1, rfl, P1⟩; dsimp only [tokV]
           have U1 := (U0.out.step0 F1 m1.out P1).alloc (.cells #[.int .u8 t.k, .string t.x, .int .i64 t.p] 58)
           have hz := heap_alloc_new w1 (.cells #[.int .u8 t.k, .string t.x, .int .i64 t.p] 58)
           have hz1 := cell_of_row _ _ 1 _ _ _ hz
           have hb1 : b < w1.heap.size := P1.lt
           simp only [List.getElem?_toArray, List.getElem?_cons_zero, List.getElem?_cons_succ] at hz1
           have hz2 := cell_of_row _ _ 2 _ _ _ hz
           simp only [List.getElem?_toArray, List.getElem?_cons_zero, List.getElem?_cons_succ] at hz2
           have U2 := Lib.hid U1
           clear hz)
        | (go_at_call 46; refine call2 (CL.out _ _ _ U2.out.lt.ls hl1) (fun c x s5 w5 vl vi hx5 F5 M5 L5 => ?_) (fun pl er w5 hx F => ⟨rfl, EndsP.bad (U2.out.fr.trans (F.mono T1_T2)) (by rw [e0.out, hx]; rfl)⟩)
           obtain ⟨xa, xl, xc, hu⟩ := M5.slice
           obtain ⟨xk, xt, xn, xv, xu⟩ := x
           obtain rfl : xu = .slice xa xl xc := hu
           dsimp only [condV]
           have hlv := PX.keep_lastCond (PX.lv_stb _) _ _ (PX.Lv.refl _) _ _ hx5
           have U5 := U2.out.step1 F5 hlv L5
           obtain ⟨vr5, h5, -⟩ := id U5.lt.ls.ps
           have g9 := cell_of_row _ b 9 _ _ _ h5
           have g10 := cell_of_row _ b 10 _ _ _ h5
           have g11 := cell_of_row _ b 11 _ _ _ h5
           have g12 := cell_of_row _ b 12 _ _ _ h5
           have g13 := cell_of_row _ b 13 _ _ _ h5
           have g14 := cell_of_row _ b 14 _ _ _ h5
           unfold psC at g9 g10 g11 g12 g13 g14
           simp only [List.getElem?_toArray, List.getElem?_cons_zero, List.getElem?_cons_succ] at g9 g10 g11 g12 g13 g14
           have fb := fun j => frozen_of_row _ b j _ _ h5
           have M6 : CondM w5 (fun i => b < i) ⟨xk, xt, xn, xv, .slice xa xl xc⟩ c := CondM.mono (fun _ _ _ hh => hh) (fun i hi => Nat.lt_of_lt_of_le hb1 (Nat.le_trans (by simp) hi)) _ _ M5
           have L6 := U5.lt.newCond ⟨xk, xt, xn, xv, .slice xa xl xc⟩ c M6
           have U6 : TP w b h _ _ _ := ⟨((((U5.fr.setB 9 (.int .u8 xk)).setB 10 (.int .u8 xt)).setB 11 (.int .u8 xn)).setB 12 (.int .u8 xv)).setB 13 (.slice xa xl xc), L6, U5.hg⟩
           replace U6 := Lib.hid U6
           clear h5 M6 L6 U5 M5 L5))
      go_end0
      exact (U6.out.setDone 4).ok (by rw [e0.out, hx5]; rfl)
  · have e0 : R = .bad pl er := by rw [← hR]; unfold PX.queryLine; rw [ht]; rfl
    rw [ht] at C1
    rw [e0]
    replace C1 := Lib.hid C1
    go_enter Try.func57, Try.ntmps57
    go_wp2_with (first
      | (go_at_call 65; refine (C1.out).mono ?_; rintro e w1 ⟨F1, rfl⟩))
    refine ⟨rfl, U0.fr.trans F1.up, ?_⟩
    show Ending.panicked _ = failE _ _
    symm
    assumption
end PP
end Go.Proofs.Ytijipgiclkkfhaa
end
