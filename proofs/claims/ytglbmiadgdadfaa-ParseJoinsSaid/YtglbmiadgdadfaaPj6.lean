/- ParLine2, ParLine3, ParLine4, ParLine5, ParLine6, ParDeep in one text, for the claim. -/
import Derived.Test.YtglbmiadgdadfaaPj5
import Derived.Test.YtglbmiadgdadfaaRegionBelow
import Derived.BigRegion
import Derived.Deep.RegionLaw
import Derived.Deep.RegionWith
import Derived.Deep.RegionLawGrows
import Derived.Deep.DeepCutAuto
import Derived.Deep.DeepMust
import Derived.Test.YtglbmiadgdadfaaPj4

section
/- The parser's lines: the title, a thread's own line. -/
namespace Go.Proofs.Ytglbmiadgdadfaa
open Go.RowKit Go.Shelf

attribute [local go_sem] Oper.semAt_some
namespace PP
theorem mv_takeWord {s s' : PX.S} {t : TokD} (h : PX.takeWord s = .ok t s') : Mv s s' := by
  unfold PX.takeWord PX.takeIf at h
  split at h
  · cases h; exact ⟨_, rfl⟩
  · cases h
theorem psC_4 (vr : Value) (s : PX.S) (h : Hd) (x : ByteArray) : (psC vr s h).setIfInBounds 4 (.string x) = psC vr { s with name := x } h := by
  unfold psC; simp only [List.setIfInBounds_toArray, List.set_cons_succ, List.set_cons_zero]
theorem psC_14 (vr : Value) (s : PX.S) (h : Hd) (n : Int) : (psC vr s h).setIfInBounds 14 (.int .u8 n) = psC vr { s with done := n } h := by
  unfold psC; simp only [List.setIfInBounds_toArray, List.set_cons_succ, List.set_cons_zero]
theorem psC_8 (vr : Value) (s : PX.S) (h : Hd) (n : Int) : (psC vr s h).setIfInBounds 8 (.int .u8 n) = psC vr { s with ask := n } h := by
  unfold psC; simp only [List.setIfInBounds_toArray, List.set_cons_succ, List.set_cons_zero]
theorem PS.cellAt {W : World} {b : Nat} {s : PX.S} {h : Hd} (p : PS W b s h) (j : Nat) : ∃ vr, W.cell? ⟨b, j, none⟩ = (psC vr s h)[j]? ∧ W.frozen? ⟨b, j, none⟩ = false := by
  obtain ⟨vr, h1, _⟩ := p
  exact ⟨vr, cell_of_row _ b j _ _ _ h1, frozen_of_row _ b j _ _ h1⟩
theorem TP.setName {w W : World} {b : Nat} {s : PX.S} {h g : Hd} (T : TP w b h W s g) (x : ByteArray) : TP w b h (W.setCell ⟨b, 4, none⟩ (.string x)) { s with name := x } g :=
  T.row 4 _ rfl rfl (fun vr => psC_4 vr s g x) rfl rfl rfl rfl rfl rfl rfl rfl ⟨rfl, rfl, rfl, rfl, rfl⟩
theorem TP.setDone {w W : World} {b : Nat} {s : PX.S} {h g : Hd} (T : TP w b h W s g) (n : Int) : TP w b h (W.setCell ⟨b, 14, none⟩ (.int .u8 n)) { s with done := n } g :=
  T.row 14 _ rfl rfl (fun vr => psC_14 vr s g n) rfl rfl rfl rfl rfl rfl rfl rfl ⟨rfl, rfl, rfl, rfl, rfl⟩
theorem TP.setAsk {w W : World} {b : Nat} {s : PX.S} {h g : Hd} (T : TP w b h W s g) (n : Int) : TP w b h (W.setCell ⟨b, 8, none⟩ (.int .u8 n)) { s with ask := n } g :=
  T.row 8 _ rfl rfl (fun vr => psC_8 vr s g n) rfl rfl rfl rfl rfl rfl rfl rfl ⟨rfl, rfl, rfl, rfl, rfl⟩

set_option maxRecDepth 100000 in
set_option maxHeartbeats 16000000 in
theorem titleLine_any (b : Nat) (s : PX.S) (h : Hd) (w : World) (L : LT w b s h) :
    Calls Try.prog 34 #[.pointer (some ⟨b, 0, none⟩)] w (EndsP w b h (PX.titleLine s)) := by
  have hbl := L.ls.ps.lt
  have U0 := (TP.start L).alloc (.cells #[.string ⟨#[116, 101, 115, 116]⟩] 9)
  have C1 := take_any b s h _ [PX.kTest] _ U0.lt.ls.ps (strSl_one _ _) (symsOk_bs (by decide))
  have C2 := Lib.hid fun s g W (p : PS W b s g) => takeWord_any b s g W p
  have C3 := Lib.hid fun s g W (p : PS (W.alloc (.cells #[.string ⟨#[69, 78, 68]⟩] 9)) b s g) => take_any b s g _ [PX.sEND] _ p (strSl_one W _) (symsOk_one (by decide))
  obtain ⟨R, e0⟩ : ∃ R, PX.titleLine s = R := ⟨_, rfl⟩
  rw [e0]
  replace e0 := Lib.hid e0
  replace C1 := Lib.hid C1
  replace U0 := Lib.hid U0
  have hf1 := tok_f1
  go_enter Try.func34, Try.ntmps34
  go_wp2_with (first
    | (go_at_call 41; have V := fb2; refine call0 c3.out (fun t3 s3 w3 hx3 F3 P3 => ?_) (fun pl er w3 hx F => ⟨rfl, EndsP.bad (U2.out.fr.trans F.up) (by rw [← e0.out]; unfold PX.titleLine; rw [hx1]; simp only [PX.R.bind, hx2, hx])⟩)
       dsimp only [tokV]
       have U3 := U2.out.step0 F3 (mv_take hx3) P3
       obtain ⟨vr3, d3, fb3⟩ := U3.lt.ls.ps.cellAt 14
       replace U3 := Lib.hid U3)
    | (go_at_call 41; refine call0 C1.out (fun t s1 w1 hx1 F1 P1 => ?_) (fun pl er w1 hx F => ⟨rfl, EndsP.bad (U0.out.fr.trans F.up) (by rw [← e0.out]; unfold PX.titleLine; rw [hx]; rfl)⟩)
       dsimp only [tokV]
       have U1 := U0.out.step0 F1 (mv_take hx1) P1
       have c2 := Lib.hid (C2.out _ _ _ U1.lt.ls.ps))
    | (go_at_call 46; refine call0 c2.out (fun t2 s2 w2 hx2 F2 P2 => ?_) (fun pl er w2 hx F => ⟨rfl, EndsP.bad (U1.fr.trans F.up) (by rw [← e0.out]; unfold PX.titleLine; rw [hx1]; simp only [PX.R.bind, hx])⟩)
       dsimp only [tokV]
       have U2 := U1.step0 F2 (mv_takeWord hx2) P2
       obtain ⟨vr2, d2, fb2⟩ := U2.lt.ls.ps.cellAt 4
       replace U2 := (U2.setName t2.x).alloc (.cells #[.string ⟨#[69, 78, 68]⟩] 9)
       have c3 := C3.out _ _ _ U2.lt.ls.ps
       simp only [World.size_setCell] at c3
       replace c3 := Lib.hid c3
       replace U2 := Lib.hid U2))
  go_end0
  exact (U3.out.setDone 1).ok (by rw [← e0.out]; unfold PX.titleLine; rw [hx1]; simp only [PX.R.bind, hx2, hx3])
end PP
end Go.Proofs.Ytglbmiadgdadfaa
end

section
/- The parser's lines: the initial values. -/
namespace Go.Proofs.Ytglbmiadgdadfaa
open Go.RowKit Go.Shelf
open Go.BigFrame

attribute [local go_sem] Oper.semAt_some
namespace PP
theorem loc_range {s s' : PX.S} {l : Int} (h : PX.loc s = .ok l s') : 0 ≤ l ∧ l < 256 := by
  have : PX.Post (fun l _ => 0 ≤ l ∧ l < 256) (PX.loc s) := by
    unfold PX.loc
    refine PX.Post.bind (Q := fun _ _ => True) (fun _ _ _ => trivial) fun t s _ => ?_
    split
    · exact .ok (by omega)
    · exact PX.Post.bind (Q := fun _ _ => True) (fun _ _ _ => trivial) fun _ s' _ => .ok (by omega)
  exact this _ _ h
theorem loc_new {s s' : PX.S} {l : Int} (h : PX.loc s = .ok l s') (ho : s.opn = true) (h6 : s.locs.length ≤ 6) (hn : ¬ l < (s.locs.length : Int)) : l = (s.locs.length : Int) ∧ s'.locs.length = s.locs.length + 1 := by
  have : PX.Post (fun l s' => ¬ l < (s.locs.length : Int) → l = (s.locs.length : Int) ∧ s'.locs.length = s.locs.length + 1) (PX.loc s) := by
    unfold PX.loc PX.take PX.takeIf
    split
    · simp only [PX.R.bind]
      split
      · rename_i i hi
        have hi' : i < s.locs.length := by
          have := List.findIdx?_eq_some_iff_findIdx_eq.1 hi
          omega
        exact .ok fun hh => by omega
      · refine PX.Post.bind (Q := fun _ s' => s'.locs.length = s.locs.length + 1) ?_ fun _ s' hs => .ok fun hh => ⟨by omega, hs⟩
        unfold PX.addLoc
        by_cases h1 : s.opn = true
        · by_cases h2 : s.locs.length = 6
          · simp only [h1, h2, if_true]; exact .bad
          · simp only [h1, h2, if_true, if_false]; exact .ok (by simp)
        · exact absurd ho h1
    · exact .bad
  exact this _ _ h hn
theorem Fr.setT {T : List TypeId} {b k : Nat} {W : World} {C : Array Value} {t : TypeId} {p : Nat × Nat} (hk : b < k) (hC : W.heap[k]? = some (.cells C t p)) (ht : t ∈ T) (j : Nat) (v : Value) : Fr T b W (W.setCell ⟨k, j, none⟩ v) :=
  ⟨rfl, rfl, rfl, Nat.le_of_eq (by simp), fun i o hi hb => (Below.heap_setCell W ⟨k, j, none⟩ v i (by
    show i ≠ k
    rintro rfl
    rw [hC] at hi
    cases hi
    rcases hb with h | ⟨_, h⟩
    · omega
    · exact h t ht _ _ rfl)).trans hi⟩
theorem u8T2 : 5 ∈ T2 := by simp [T2]
theorem TP.setInit {w W : World} {b : Nat} {s : PX.S} {h g : Hd} (T : TP w b h W s g) {k n cap : Nat} (hv : g.vi = .slice (some ⟨k, 0, none⟩) n cap) (j : Nat) (v : Int) : TP w b h (W.setCell ⟨k, j, none⟩ (.int .u8 v)) { s with init := s.init.set j v } g := by
  have ho := T.lt.opn
  have hI := T.lt.ls.init ho
  rw [hv] at hI
  obtain ⟨hbk, cur, hC⟩ := own_rowT hI (g := k) rfl
  have hn : s.locs.length = n := by
    rcases hI.2 with ⟨e, _⟩ | ⟨_, _, _, e, _⟩
    · cases e
    · cases e; rfl
  subst hn
  have hst : ∀ (i : Nat) (D : Array Value) (t : TypeId), t ≠ 5 → W.heap[i]? = some (.cells D t (0, 0)) → (W.setCell ⟨k, j, none⟩ (.int .u8 v)).heap[i]? = some (.cells D t (0, 0)) := fun i D t ht hi => (Below.heap_setCell W ⟨k, j, none⟩ _ i (by
    show i ≠ k
    rintro rfl
    rw [hC] at hi; cases hi; exact ht rfl)).trans hi
  obtain ⟨x, a0, a1, a2, a3, a4, a5⟩ := T.lt.cnd
  refine ⟨T.fr.trans (Fr.setT (by omega) hC u8T2 j _), ⟨⟨?_, ⟨fun ho => ⟨own_sameT (T.lt.ls.locs.1 ho).1 fun i cur' hi hh => hst i cur' _ (by decide) hh, (T.lt.ls.locs.1 ho).2⟩, fun hf => by rw [show ({ s with init := s.init.set j v } : PX.S).opn = true from ho] at hf; cases hf⟩, fun _ => ?_⟩, ho, ?_, x, a0, a1, a2, a3, a4, ?_⟩, T.hg⟩
  · obtain ⟨vr, h1, h2, h3, h4⟩ := T.lt.ls.ps
    exact ⟨vr, hst b _ _ (by decide) h1, h2.same fun C hC' => hst _ C _ (by decide) hC', h3, by simpa using h4⟩
  · have := (World.ownsRow.stored hI (j := j) (.int .u8 v)).1
    rw [← hv] at this
    have e : (s.init.set j v).map (Value.int .u8) = (s.init.map (Value.int .u8)).set j (.int .u8 v) := by rw [List.map_set]
    show World.ownsRow _ _ _ _ _ _ ((s.init.set j v).map (Value.int .u8))
    rw [e]
    exact this
  · exact T.lt.thr.keep fun i cur' t ht hi hh => hst i cur' t (by
      simp only [List.mem_cons, List.not_mem_nil, or_false] at ht
      rcases ht with rfl | rfl <;> decide) hh
  · exact CondM.mono (fun i C hi hh => hst i C _ (by decide) hh) (fun _ hi => hi) _ _ a5

set_option maxRecDepth 100000 in
set_option maxHeartbeats 16000000 in
theorem value_any (b : Nat) (s : PX.S) (h : Hd) (w : World) (L : LT w b s h) :
    Calls Try.prog 47 #[.pointer (some ⟨b, 0, none⟩)] w (EndsP w b h (PX.value s)) := by
  have hbl := L.ls.ps.lt
  have C0 : Hid (∀ W, PS W b s h → Calls Try.prog 21 #[.pointer (some ⟨b, 0, none⟩)] W fun e w' => e = .returned (.agg #[.int .u8 (PX.next s).k, .string (PX.next s).x, .int .i64 (PX.next s).p]) ∧ Below W.heap.size W w') := Lib.hid fun W (p : PS W b s h) => next_any b s h W p
  have CL := Lib.hid fun W (L' : LS W b s h) => loc_any b s h W L'
  have CE := Lib.hid fun s g W (p : PS (W.alloc (.cells #[.string ⟨#[61]⟩] 9)) b s g) => take_any b s g _ [PX.gEq] _ p (strSl_one W _) (symsOk_bs (by decide))
  have CN := Lib.hid fun s g W (p : PS W b s g) => PP.num_any b s g W p
  have CF := Lib.hid fun W pl => fail_any pl 51 W
  obtain ⟨R, e0⟩ : ∃ R, PX.value s = R := ⟨_, rfl⟩
  rw [e0]
  obtain ⟨n, hn⟩ : ∃ n, s.locs.length = n := ⟨_, rfl⟩
  obtain ⟨a2, cap2, hvl⟩ : ∃ a cap, h.vl = .slice a n cap := by
    obtain ⟨_, a, cap, e, _⟩ := L.ls.locs.sl; exact ⟨a, cap, by rw [e, hn]⟩
  obtain ⟨pt, hpt⟩ : ∃ pt, (PX.next s).p = pt := ⟨_, rfl⟩
  obtain ⟨vr, q1, -⟩ := id L.ls.ps
  have hc2 : ∀ W, Below w.heap.size w W → W.cell? ⟨b, 2, none⟩ = some (.slice a2 n cap2) := fun W hW => (cell_of_row _ b 2 _ _ _ ((hW.block b hbl).trans q1)).trans (congrArg some hvl)
  have U0 := TP.start L
  have h6 := (L.ls.locs.1 L.opn).2
  have hopn := L.opn
  replace e0 := Lib.hid e0
  replace U0 := Lib.hid U0
  replace L := Lib.hid L
  replace hc2 := Lib.hid hc2
  have hf2 := tok_f2
  clear q1
  go_enter Try.func47, Try.ntmps47
  go_wp2_with fail
  refine wp_region_below w.heap.size w (by kernel_rfl) (by kernel_rfl) (Below.refl _ _) ?_
  repeat (first
    | (go_big_quiet_step (first
      | (intro _; exact rfl)
      | (intro hW; go_at_call 21; exact Calls.below_of hW (C0.out _ (L.out.ls.ps.below hW)))))
    | (refine wpQuiet_want rfl fun K hK => ?_
       refine quiet_load 29 (.tmp 12) rfl ⟨b, 2, none⟩ rfl _ (fun _ => by kernel_rfl) hc2.out (hK _ ?_)
       clear hK K
       simp only [Act.put, List.setIfInBounds_toArray, List.set_cons_succ, List.set_cons_zero]))
  refine wpQuiet_nil ?_
  intro w1 hB1
  have U1 := U0.out.below hB1
  have c1 := CL.out _ U1.lt.ls
  rcases hl : PX.loc s with ⟨l, s2⟩ | ⟨pl, er⟩
  · obtain ⟨l0, l1⟩ := loc_range hl
    have hwl : IntKind.i64.wrap l = l := IntWalk.i64_in _ (by omega)
    have hlv := PX.keep_loc (PX.lv_stb s) s (PX.Lv.refl s) _ _ hl
    rw [hl] at c1
    replace c1 := Lib.hid c1
    by_cases hlt : l < (n : Int)
    · have t1 : decide (l < (n : Int)) = true := by simpa using hlt
      have hR : R = .bad pt 51 := by
        rw [← e0.out]; unfold PX.value; rw [hl]; simp only [PX.R.bind]; rw [if_pos (by rw [hn]; exact hlt), hpt]
      rw [hR]
      clear hlt
      go_wp2_with (first
        | (go_at_call 64; refine (c1.out).mono ?_; rintro e w2 ⟨F2, rfl, vl, vi, L2⟩; dsimp only)
        | (go_at_call 28; refine (CF.out _ _).mono ?_; rintro e w4 ⟨rfl, rfl⟩))
      refine ⟨rfl, U1.fr.trans (F2.mono T1_T2), ?_⟩
      show Ending.panicked _ = failE _ _
      symm
      assumption
    · have t1 : decide (l < (n : Int)) = false := by simpa using hlt
      obtain ⟨h8, h9⟩ := loc_new hl hopn h6 (by rw [hn]; exact hlt)
      rw [hn] at h8 h9
      subst h8
      have e1 : Hid (R = ((PX.take [PX.gEq] s2).bind fun _ s => (PX.num s).bind fun v s => .ok () { s with init := s.init.set n v })) := Lib.hid (by
        rw [← e0.out]; unfold PX.value; rw [hl]; simp only [PX.R.bind]; rw [if_neg (by rw [hn]; exact hlt)]; rfl)
      have ho2 : s2.opn = true := by rw [hlv.1]; exact hopn
      replace hlv := Lib.hid hlv
      replace U1 := Lib.hid U1
      clear hlt hl e0
      go_wp2_with (first
        | (go_at_call 64; refine (c1.out).mono ?_; rintro e w2 ⟨F2, rfl, vl, vi, L2⟩; dsimp only
           have U2 := (U1.out.step1 F2 hlv.out L2).alloc (.cells #[.string ⟨#[61]⟩] 9)
           have c2 := Lib.hid (CE.out s2 _ w2 U2.lt.ls.ps)
           replace U2 := Lib.hid U2)
        | (go_at_call 41; refine call0 c2.out (fun t s3 w3 hx3 F3 P3 => ?_) (fun pl er w3 hx F => ⟨rfl, EndsP.bad (U2.out.fr.trans F.up) (by rw [e1.out, hx]; rfl)⟩)
           dsimp only [tokV]
           have m3 := mv_take hx3
           have U3 := (U2.out.step0 F3 m3 P3).below (drewB1 w3)
           have hI := U3.lt.ls.init (by obtain ⟨l, rfl⟩ := m3; exact ho2)
           rw [show s3.locs.length = n + 1 by obtain ⟨l, rfl⟩ := m3; exact h9] at hI
           obtain ⟨k, cap, hvi⟩ := own_formT hI
           simp only at hvi
           subst hvi
           have hnm : n < n + 1 := Nat.lt_succ_self n
           generalize n + 1 = m at *
           obtain ⟨vr3, d3, fb3⟩ := U3.lt.ls.ps.cellAt 6
           unfold psC at d3
           simp only [List.getElem?_toArray, List.getElem?_cons_zero, List.getElem?_cons_succ] at d3
           have h93 : s3.locs.length = m := by obtain ⟨l, rfl⟩ := m3; exact h9
           replace h93 := Lib.hid h93
           replace U3 := Lib.hid U3
           clear hI))
      go_region_with (first
        | (go_at_call 65; refine call0 (CN.out _ _ _ U3.out.lt.ls.ps) (fun v s4 w4 hx4 F4 P4 => ?_) (fun pl er w4 hx F => ⟨rfl, EndsP.bad (U3.out.fr.trans F.up) (by rw [e1.out, hx3]; simp only [PX.R.bind, hx])⟩)
           dsimp only
           have m4 := mv_num hx4
           have U4 := U3.out.step0 F4 m4 P4
           obtain ⟨vr4, d4, fb4⟩ := U4.lt.ls.ps.cellAt 6
           unfold psC at d4
           simp only [List.getElem?_toArray, List.getElem?_cons_zero, List.getElem?_cons_succ] at d4
           have hI4 := U4.lt.ls.init U4.lt.opn
           rw [show s4.locs.length = m by obtain ⟨l, rfl⟩ := m4; exact h93.out] at hI4
           obtain ⟨cv, hcv⟩ : ∃ cv, w4.cell? ⟨k, n, none⟩ = some cv := by
             rw [World.ownsRow.cellAt hI4 n (by omega)]
             exact ⟨_, List.getElem?_eq_getElem (by rw [hI4.1]; omega)⟩
           obtain ⟨hbk, cur, hC⟩ := own_rowT hI4 (g := k) rfl
           have fk := frozen_of_row _ k n _ _ hC
           have U5 := Lib.hid (U4.setInit rfl n v)
           clear hI4 hC))
      all_goals
        go_end0
        exact U5.out.ok (by rw [e1.out, hx3]; simp only [PX.R.bind, hx4])
  · rw [hl] at c1
    replace c1 := Lib.hid c1
    have hR : R = .bad pl er := by
      rw [← e0.out]; unfold PX.value; rw [hl]; rfl
    rw [hR]
    go_wp2_with (first
      | (go_at_call 64; refine (c1.out).mono ?_; rintro e w2 ⟨F2, rfl⟩))
    refine ⟨rfl, U1.fr.trans (F2.mono T1_T2), ?_⟩
    show Ending.panicked _ = failE _ _
    symm
    assumption
theorem keep_value {P : PX.S → Prop} (st : PX.Stb P) (hi : ∀ s l, P s → P { s with init := l }) (s : PX.S) (h : P s) : PX.Post (fun _ s' => P s') (PX.value s) := by
  unfold PX.value
  refine (PX.keep_loc st s h).bind fun l s' h => ?_
  split
  · exact .bad
  · exact (PX.keep_take st _ s' h).bind fun _ s h => (PX.keep_num st s h).bind fun _ s h => .ok (hi s _ h)
theorem value_lt {s s' : PX.S} {u : Unit} (h : PX.value s = .ok u s') : s'.rest.length < s.rest.length := by
  have : PX.Post (fun _ s' => s'.rest.length < s.rest.length) (PX.value s) := by
    unfold PX.value
    refine PX.Post.bind (Q := fun _ s' => s'.rest.length < s.rest.length) (fun _ _ e => loc_lt e) fun l s1 h1 => ?_
    split
    · exact .bad
    · have k : PX.Post (fun _ s' => s'.rest.length ≤ s1.rest.length) ((PX.take [PX.gEq] s1).bind fun _ s => (PX.num s).bind fun v s => .ok () { s with init := s.init.set l.toNat v }) :=
        (PX.keep_take (PX.len_stb s1.rest.length) _ s1 (Nat.le_refl _)).bind fun _ s h => (PX.keep_num (PX.len_stb s1.rest.length) s h).bind fun _ s h => .ok h
      exact k.mono fun _ _ h => by omega
  exact this _ _ h
end PP
end Go.Proofs.Ytglbmiadgdadfaa
end

section
/- The parser's lines: the init line. -/
namespace Go.Proofs.Ytglbmiadgdadfaa
open Go.RowKit Go.Shelf

attribute [local go_sem] Oper.semAt_some
namespace PP
theorem TP.stepP {w W W' : World} {b : Nat} {s s' : PX.S} {h g g' : Hd} (T : TP w b h W s g) (F : Fr T2 b W W') (hg : g'.g = g.g) (L : LT W' b s' g') : TP w b h W' s' g' := ⟨T.fr.trans F, L, hg.trans T.hg⟩
def IniI (w : World) (b : Nat) (h : Hd) (RV : PX.R Unit) (wr : World) : Prop :=
  ∃ (s' : PX.S) (g' : Hd) (m : Nat), TP w b h wr s' g' ∧ s'.rest.length < m ∧ PX.values m s' = RV
set_option maxRecDepth 100000 in
set_option maxHeartbeats 16000000 in
theorem initLine_any (b : Nat) (s : PX.S) (h : Hd) (w : World) (L : LT w b s h) :
    Calls Try.prog 35 #[.pointer (some ⟨b, 0, none⟩)] w (EndsP w b h (PX.initLine s)) := by
  have hbl := L.ls.ps.lt
  have U0 := (TP.start L).alloc (.cells #[.string ⟨#[105, 110, 105, 116]⟩] 9)
  have C1 := take_any b s h _ [PX.kInit] _ U0.lt.ls.ps (strSl_one _ _) (symsOk_bs (by decide))
  have CV := Lib.hid fun s g W (L' : LT W b s g) => value_any b s g W L'
  have CT := Lib.hid fun s' h' W (p : PS W b s' h') => takes_any b s' h' PX.sEND W p (by decide)
  obtain ⟨R, e0⟩ : ∃ R, PX.initLine s = R := ⟨_, rfl⟩
  rw [e0]
  replace e0 := Lib.hid e0
  replace C1 := Lib.hid C1
  replace U0 := Lib.hid U0
  go_enter Try.func35, Try.ntmps35
  go_wp2_with (first
    | (go_at_call 41; refine call0 C1.out (fun t s1 w1 hx1 F1 P1 => ?_) (fun pl er w1 hx F => ⟨rfl, EndsP.bad (U0.out.fr.trans F.up) (by rw [← e0.out]; unfold PX.initLine; rw [hx]; rfl)⟩)
       dsimp only [tokV]
       have U1 := U0.out.step0 F1 (mv_take hx1) P1)
    | (go_at_call 47; refine callP (CV.out _ _ _ U1.lt) (fun s2 w2 g2 hx2 F2 hg2 L2 => ?_) (fun pl er w2 hx F => ⟨rfl, EndsP.bad (U1.fr.trans F) (by rw [← e0.out]; unfold PX.initLine; rw [hx1]; simp only [PX.R.bind, hx])⟩)
       have U2 := Lib.hid (U1.stepP F2 hg2 L2)))
  obtain ⟨RV, hRV⟩ : ∃ RV, PX.values (s1.rest.length + 1) s2 = RV := ⟨_, rfl⟩
  have e1 : Hid (R = RV.bind fun _ s => .ok () { s with done := 2 }) := Lib.hid (by
    rw [← e0.out]; unfold PX.initLine; rw [hx1]; simp only [PX.R.bind, hx2]; rw [hRV])
  have hv := value_lt hx2
  replace hRV := Lib.hid hRV
  go_loopw [] (fun wr => IniI w b h RV wr) (fun wr => restLen b wr)
  case atStart => exact ⟨s2, g2, s1.rest.length + 1, U2.out, by omega, hRV.out⟩
  case round =>
    obtain ⟨s3, g3, m, T, hm, hR⟩ := hrel
    obtain ⟨m, rfl⟩ : ∃ m', m = m' + 1 := ⟨m - 1, by omega⟩
    have c1 := CT.out s3 g3 wr T.lt.ls.ps
    rcases rt : PX.takes PX.sEND s3 with ⟨r, s4⟩ | ⟨pl, er⟩
    · have hmv := mv_takes rt
      rw [rt] at c1
      replace c1 := Lib.hid c1
      cases r
      · have hR' : Hid (RV = (PX.value s4).bind fun _ s => PX.values m s) := Lib.hid (by rw [← hR]; simp only [PX.values, PX.R.bind, rt, Bool.false_eq_true, if_false])
        have hs4 : s4 = s3 := by
          unfold PX.takes at rt
          split at rt
          · rcases ht : PX.take [PX.sEND] s3 with ⟨t, s1⟩ | ⟨pl, er⟩
            · rw [ht] at rt; cases rt
            · rw [ht] at rt; cases rt
          · cases rt; rfl
        subst hs4
        clear rt hR
        go_wp2_with (first
          | (go_at_call 48; refine (c1.out).mono ?_; rintro e w2 ⟨F2, rfl, P2⟩; dsimp only
             have U3 := T.step0 F2 hmv P2)
          | (go_at_call 47; refine callP (CV.out _ _ _ U3.lt) (fun s5 w5 g5 hx5 F5 hg5 L5 => ?_) (fun pl er w5 hx F => ⟨rfl, EndsP.bad (U3.fr.trans F) (by rw [e1.out, hR'.out, hx]; rfl)⟩)
             have U5 := Lib.hid (U3.stepP F5 hg5 L5)))
        have hlt := value_lt hx5
        have hR5 := hR'.out
        rw [hx5] at hR5
        refine ⟨⟨s5, g5, m, U5.out, by omega, hR5.symm⟩, ?_⟩
        rw [restLen_ps U5.out.lt.ls.ps, restLen_ps T.lt.ls.ps]
        exact hlt
      · have hR' : Hid (RV = .ok () s4) := Lib.hid (by rw [← hR]; simp only [PX.values, PX.R.bind, rt, if_true])
        clear rt hR
        go_wp2_with (first
          | (go_at_call 48; refine (c1.out).mono ?_; rintro e w2 ⟨F2, rfl, P2⟩; dsimp only
             have U3 := T.step0 F2 hmv P2
             obtain ⟨vr3, d3, fb3⟩ := U3.lt.ls.ps.cellAt 14
             replace U3 := Lib.hid U3))
        go_end0
        exact (U3.out.setDone 2).ok (by rw [e1.out, hR'.out]; rfl)
    · have hR' : RV = .bad pl er := by rw [← hR]; simp only [PX.values, PX.R.bind, rt]
      rw [rt] at c1
      replace c1 := Lib.hid c1
      go_wp2_with (first
        | (go_at_call 48; refine (c1.out).mono ?_; rintro e w2 ⟨F2, rfl⟩))
      refine ⟨rfl, T.fr.trans F2.up, ?_⟩
      rw [e1.out, hR']
      show Ending.panicked _ = failE _ _
      symm
      assumption
end PP
end Go.Proofs.Ytglbmiadgdadfaa
end

section
/- The parser's lines: a thread's own line. -/
namespace Go.Proofs.Ytglbmiadgdadfaa
open Go.RowKit Go.Shelf

attribute [local go_sem] Oper.semAt_some
namespace PP
theorem grown_keep {base n size : Nat} {e : TypeId} {v : Value} {xs : List Value} {W W' : World} (ho : W.ownsRow base e size v n xs) (hG : W.grownBy W' v.ownBlock) (i : Nat) (D : Array Value) (t : TypeId) (ht : t ≠ e) (hi : W.heap[i]? = some (.cells D t (0, 0))) : W'.heap[i]? = some (.cells D t (0, 0)) := by
  rw [hG.block i (lt_of_heap hi) fun e' => by
    obtain ⟨_, cur', h'⟩ := own_rowT ho e'.symm
    rw [hi] at h'; cases h'; exact ht rfl]
  exact hi
/-- The threads have changed, and nothing else but rows of theirs. -/
theorem LT.newThr {W W' : World} {b : Nat} {s : PX.S} {g : Hd} (L : LT W b s g) (hk : ∀ (i : Nat) (D : Array Value) (t : TypeId), t ≠ 42 → t ≠ 46 → W.heap[i]? = some (.cells D t (0, 0)) → W'.heap[i]? = some (.cells D t (0, 0))) (hsz : W.heap.size ≤ W'.heap.size) {th' : List (List PX.InsD)} (hthr : ThrM W' (b + 1) g.vt th') : LT W' b { s with threads := th' } g := by
  obtain ⟨x, a0, a1, a2, a3, a4, a5⟩ := L.cnd
  refine ⟨⟨?_, ⟨fun ho => ⟨own_sameT (L.ls.locs.1 ho).1 fun i cur hi hh => hk i cur _ (by decide) (by decide) hh, (L.ls.locs.1 ho).2⟩, fun hf => by rw [show ({ s with threads := th' } : PX.S).opn = true from L.opn] at hf; cases hf⟩, fun ho => own_sameT (L.ls.init L.opn) fun i cur hi hh => hk i cur _ (by decide) (by decide) hh⟩, L.opn, hthr, x, a0, a1, a2, a3, a4, ?_⟩
  · obtain ⟨vr, h1, h2, h3, h4⟩ := L.ls.ps
    exact ⟨vr, hk b _ _ (by decide) (by decide) h1, h2.same fun C hC => hk _ C _ (by decide) (by decide) hC, h3, Nat.lt_of_lt_of_le h4 hsz⟩
  · exact CondM.mono (fun i C hi hh => hk i C _ (by decide) (by decide) hh) (fun _ hi => hi) _ _ a5
theorem psC_7 (vr : Value) (s : PX.S) (h : Hd) (v : Value) : (psC vr s h).setIfInBounds 7 v = psC vr s { h with vt := v } := by
  unfold psC; simp only [List.setIfInBounds_toArray, List.set_cons_succ, List.set_cons_zero]
/-- The threads' row is another one: so is the parser's own cell. -/
theorem LT.newVt {W W' : World} {b : Nat} {s : PX.S} {g : Hd} (L : LT W b s g) (hk : ∀ (i : Nat) (D : Array Value) (t : TypeId), t ≠ 42 → t ≠ 46 → W.heap[i]? = some (.cells D t (0, 0)) → W'.heap[i]? = some (.cells D t (0, 0))) (hsz : W.heap.size ≤ W'.heap.size) {th' : List (List PX.InsD)} {vt' : Value} (hthr : ThrM W' (b + 1) vt' th') : LT (W'.setCell ⟨b, 7, none⟩ vt') b { s with threads := th' } { g with vt := vt' } := by
  obtain ⟨x, a0, a1, a2, a3, a4, a5⟩ := L.cnd
  have hp : PS W' b s g := by
    obtain ⟨vr, h1, h2, h3, h4⟩ := L.ls.ps
    exact ⟨vr, hk b _ _ (by decide) (by decide) h1, h2.same fun C hC => hk _ C _ (by decide) (by decide) hC, h3, Nat.lt_of_lt_of_le h4 hsz⟩
  have hl : LS W' b s g := ⟨hp, ⟨fun ho => ⟨own_sameT (L.ls.locs.1 ho).1 fun i cur hi hh => hk i cur _ (by decide) (by decide) hh, (L.ls.locs.1 ho).2⟩, fun hf => by rw [L.opn] at hf; cases hf⟩, fun ho => own_sameT (L.ls.init L.opn) fun i cur hi hh => hk i cur _ (by decide) (by decide) hh⟩
  refine ⟨hl.row 7 vt' rfl rfl (fun vr => psC_7 vr s g vt') rfl rfl rfl rfl rfl, L.opn, hthr.keep fun i cur t _ hi hh => (Below.heap_setCell W' ⟨b, 7, none⟩ vt' i (by show i ≠ b; omega)).trans hh, x, a0, a1, a2, a3, a4, ?_⟩
  exact CondM.mono (fun i C hi hh => (Below.heap_setCell W' ⟨b, 7, none⟩ vt' i (Nat.ne_of_gt hi)).trans (hk i C _ (by decide) (by decide) hh)) (fun _ hi => hi) _ _ a5
theorem infoThr : ∃ i : TypeInfo, Try.prog.info? 42 = some i ∧ i.zero = some (.slice none 0 0) ∧ i.size = 1 ∧ i.bytes = 24 := by
  have h : (Try.prog.info? 42).map (fun i => (i.zero, i.size, i.bytes)) = some (some (.slice none 0 0), 1, 24) := by kernel_rfl
  cases hi : Try.prog.info? 42 with
  | none => rw [hi] at h; cases h
  | some i =>
    rw [hi] at h
    simp only [Option.map_some, Option.some.injEq, Prod.mk.injEq] at h
    exact ⟨i, rfl, h.1, h.2.1, h.2.2⟩
theorem insT2 : 46 ∈ T2 := by simp [T2]
theorem thrT2 : 42 ∈ T2 := by simp [T2]
theorem ThrM.sl {W : World} {base : Nat} {v : Value} {l : List (List PX.InsD)} (h : ThrM W base v l) : ∃ a cap, v = .slice a l.length cap := by
  obtain ⟨vs, h1, _⟩ := h
  rcases h1.2 with ⟨rfl, h0⟩ | ⟨g, cap, cur, rfl, _⟩
  · exact ⟨none, 0, by rw [h0]⟩
  · exact ⟨_, cap, rfl⟩

set_option maxRecDepth 100000 in
set_option maxHeartbeats 16000000 in
theorem threadLine_any (b : Nat) (s : PX.S) (h : Hd) (w : World) (L : LT w b s h) (h4' : s.threads.length ≤ 4) :
    Calls Try.prog 36 #[.pointer (some ⟨b, 0, none⟩)] w (EndsP w b h (PX.threadLine s)) := by
  have hbl := L.ls.ps.lt
  have U0 := (TP.start L).alloc (.cells #[.string ⟨#[116, 104, 114, 101, 97, 100]⟩] 9)
  have C1 := take_any b s h _ [PX.kThread] _ U0.lt.ls.ps (strSl_one _ _) (symsOk_bs (by decide))
  have C3 := Lib.hid fun s g W (p : PS (W.alloc (.cells #[.string ⟨#[69, 78, 68]⟩] 9)) b s g) => take_any b s g _ [PX.sEND] _ p (strSl_one W _) (symsOk_one (by decide))
  have CF := Lib.hid fun W pl => fail_any pl 5 W
  obtain ⟨R, e0⟩ : ∃ R, PX.threadLine s = R := ⟨_, rfl⟩
  rw [e0]
  obtain ⟨a7, cap7, hvt⟩ := L.thr.sl
  obtain ⟨n, hn⟩ : ∃ n, s.threads.length = n := ⟨_, rfl⟩
  rw [hn] at hvt h4'
  replace e0 := Lib.hid e0
  replace C1 := Lib.hid C1
  replace U0 := Lib.hid U0
  by_cases h4 : n = 4
  · have t1 : ((n : Int) == 4) = true := by simp; omega
    clear h4'
    replace h4 := Lib.hid h4
    go_enter Try.func36, Try.ntmps36
    go_wp2_with (first
      | (go_at_call 41; refine call0 C1.out (fun t s1 w1 hx1 F1 P1 => ?_) (fun pl er w1 hx F => ⟨rfl, EndsP.bad (U0.out.fr.trans F.up) (by rw [← e0.out]; unfold PX.threadLine; rw [hx]; rfl)⟩)
         dsimp only [tokV]
         have U1 := (U0.out.step0 F1 (mv_take hx1) P1).alloc (.cells #[.int .u8 t.k, .string t.x, .int .i64 t.p] 61)
         obtain ⟨vr1, d1, fb1⟩ := U1.lt.ls.ps.cellAt 7
         unfold psC at d1
         simp only [List.getElem?_toArray, List.getElem?_cons_zero, List.getElem?_cons_succ, hvt] at d1
         have hz := heap_alloc_new w1 (.cells #[.int .u8 t.k, .string t.x, .int .i64 t.p] 61)
         have hz2 := cell_of_row _ _ 2 _ _ _ hz
         simp only [List.getElem?_toArray, List.getElem?_cons_zero, List.getElem?_cons_succ] at hz2
         replace U1 := Lib.hid U1)
      | (go_at_call 28; refine (CF.out _ _).mono ?_; rintro e w4 ⟨rfl, rfl⟩))
    refine ⟨rfl, ?_⟩
    first
      | (rename_i hh; rw [← hh])
      | (rename_i hh _; rw [← hh])
    refine EndsP.bad U1.out.fr ?_
    rw [← e0.out]; unfold PX.threadLine; rw [hx1]; simp only [PX.R.bind]
    rw [if_pos (by obtain ⟨l, rfl⟩ := mv_take hx1; show s.threads.length = 4; rw [hn]; exact h4.out)]
  · have t1 : ((n : Int) == 4) = false := by simp; omega
    obtain ⟨i0, hi0, hy0, hy1, hy2⟩ := infoThr
    go_enter Try.func36, Try.ntmps36
    go_wp2_with (first
      | (go_at_call 41; have V := fb1; refine call0 c3.out (fun t3 s3 w3 hx3 F3 P3 => ?_) (fun pl er w3 hx F => ⟨rfl, EndsP.bad (U1.out.fr.trans F.up) (by rw [← e0.out]; unfold PX.threadLine; rw [hx1]; simp only [PX.R.bind]; rw [if_neg (by obtain ⟨l, rfl⟩ := mv_take hx1; show ¬ s.threads.length = 4; rw [hn]; exact h4)]; rw [hx])⟩)
         dsimp only [tokV]
         have U3 := U1.out.step0 F3 (mv_take hx3) P3
         obtain ⟨vr3, d3, fb3⟩ := U3.lt.ls.ps.cellAt 7
         unfold psC at d3
         simp only [List.getElem?_toArray, List.getElem?_cons_zero, List.getElem?_cons_succ, hvt] at d3
         obtain ⟨vs, o1, o2⟩ := id U3.lt.thr
         have hl3 : s3.threads.length = n := by obtain ⟨l, rfl⟩ := mv_take hx3; obtain ⟨l', rfl⟩ := mv_take hx1; exact hn
         rw [hl3, hvt] at o1
         have r1 := Lib.hid (World.ownsRow.alloc o1 (.cells #[.slice none 0 0] 42))
         have r2 := Lib.hid (one_cell w3 (.slice none 0 0) 42)
         have r3 : Hid (∀ u ∈ [Value.slice none 0 0], u.oneCell' = true) := Lib.hid fun u hu => by simp at hu; subst hu; rfl
         have hb3 := U3.lt.ls.ps.lt
         replace U3 := Lib.hid U3
         replace o1 := Lib.hid o1
         replace o2 := Lib.hid o2)
      | (go_at_call 41; refine call0 C1.out (fun t s1 w1 hx1 F1 P1 => ?_) (fun pl er w1 hx F => ⟨rfl, EndsP.bad (U0.out.fr.trans F.up) (by rw [← e0.out]; unfold PX.threadLine; rw [hx]; rfl)⟩)
         dsimp only [tokV]
         have U1 := (U0.out.step0 F1 (mv_take hx1) P1).alloc (.cells #[.int .u8 t.k, .string t.x, .int .i64 t.p] 61)
         obtain ⟨vr1, d1, fb1⟩ := U1.lt.ls.ps.cellAt 7
         unfold psC at d1
         simp only [List.getElem?_toArray, List.getElem?_cons_zero, List.getElem?_cons_succ, hvt] at d1
         replace U1 := U1.alloc (.cells #[.string ⟨#[69, 78, 68]⟩] 9)
         have c3 := C3.out _ _ _ U1.lt.ls.ps
         simp only [World.size_alloc] at c3
         replace c3 := Lib.hid c3
         replace U1 := Lib.hid U1)
      | (at_builtin; refine wpList_append_own_at _ rfl _ _ 37 rfl (b + 1) 42 i0 _ 1 24 Try.underlying37 hi0 hy0 hy1 hy2 rfl (by decide) _ _ _ rfl r1.out ⟨w3.heap.size, 0, none⟩ 1 1 _ rfl rfl r2.out r3.out (by unfold maxLen; omega) (by omega) (by simp; omega) ?_; intro v' w5 hown5 hgrow5 _ _
         have hk5 : ∀ (i : Nat) (D : Array Value) (t : TypeId), t ≠ 42 → w3.heap[i]? = some (.cells D t (0, 0)) → w5.heap[i]? = some (.cells D t (0, 0)) := fun i D t ht hi => grown_keep r1.out hgrow5 i D t ht (row_alloc hi _)
         have hF5 := U3.out.fr.trans ((Fr.of_below (T := T2) (b := b) ((Below.refl w3.heap.size w3).alloc (Nat.le_refl _) (.cells #[.slice none 0 0] 42))).trans (Fr.grown (T := T2) r1.out (Nat.lt_succ_self b) thrT2 hgrow5))
         obtain ⟨g', cap', rfl⟩ := own_formT hown5
         have hL5 := LT.newVt (W' := w5) (vt' := .slice (some ⟨g', 0, none⟩) (n + 1) cap') (th' := s3.threads ++ [[]]) U3.out.lt (fun i D t h1 _ hi => hk5 i D t h1 hi) (by have := hgrow5.size; simp at this; omega) ⟨vs ++ [.slice none 0 0], by rw [List.length_append, List.length_singleton, hl3]; exact hown5, (o2.out.keep fun g cur hg hh => hk5 g cur _ (by decide) hh).push⟩
         have U5 : Hid (TP w b h _ _ _) := Lib.hid ⟨hF5.setB 7 (.slice (some ⟨g', 0, none⟩) (n + 1) cap'), hL5, U3.out.hg⟩
         obtain ⟨vr5, h51, -⟩ := id U3.out.lt.ls.ps
         have h52 := hk5 b _ _ (by decide) h51
         have c57 := cell_of_row _ b 7 _ _ _ h52
         have f57 := frozen_of_row _ b 7 _ _ h52
         have f514 := frozen_of_row _ b 14 _ _ h52
         have c514 := cell_of_row _ b 14 _ _ _ h52
         unfold psC at c57 c514
         simp only [List.getElem?_toArray, List.getElem?_cons_zero, List.getElem?_cons_succ] at c57 c514
         clear hk5 hF5 hL5 hown5 hgrow5 h51 h52))
    go_end0
    exact (U5.out.setDone 3).ok (by rw [← e0.out]; unfold PX.threadLine; rw [hx1]; simp only [PX.R.bind]; rw [if_neg (by obtain ⟨l, rfl⟩ := mv_take hx1; show ¬ s.threads.length = 4; rw [hn]; exact h4)]; rw [hx3])
end PP
end Go.Proofs.Ytglbmiadgdadfaa
end

section
/- The parser's lines: an instruction. -/
namespace Go.Proofs.Ytglbmiadgdadfaa
open Go.RowKit Go.Shelf

attribute [local go_sem] Oper.semAt_some
namespace PP
theorem step_append_at {P : Program} {ops : Array Oper} {o : Oper} {a : Act} {w : World} {K : Act → World → Prop} {Q : Exit → Act → World → Prop} {E : Prop}
    (hg : o.guard = none) (s x : Operand) (t : TypeId) (hop : o.op = Op.call { callee := Callee.builtin Builtin.append, args := #[s, x], argTypes := #[t, t] })
    (base : Nat) (e : TypeId) (i : TypeInfo) (z : Value) (size bytes : Nat) (ht : P.underlying t = some (.slice e)) (hi : P.info? e = some i) (hz : i.zero = some z)
    (hsize : i.size = size) (hby : i.bytes = bytes) (hzs : z.cells.size = size) (hsz : 0 < size)
    (v : Value) (n : Nat) (xs : List Value) (hs : a.eval s = v) (hown : w.ownsRow base e size v n xs)
    (ad : Addr) (m c : Nat) (news : List Value) (hx : a.eval x = .slice (some ad) m c) (hl : news.length = m * size) (hnews : ∀ j u, news[j]? = some u → w.cell? (ad.add j) = some u) (h1 : ∀ u ∈ news, u.oneCell' = true)
    (h63 : n + m ≤ maxLen) (hbytes : (n + m) * bytes ≤ 140737488355328) (hbase : base ≤ w.heap.size)
    (h : ∀ v' w', w'.ownsRow base e size v' (n + m) (xs ++ news) → w.grownBy w' v.ownBlock → (v'.ownBlock = v.ownBlock ∨ v'.ownBlock = some w.heap.size) → K (a.put o.dst v') w') :
    if Region.wanted o (yielded ops a.tmps) = true then Oper.wp P o a w K Q else E := by
  have hw : Region.wanted o (yielded ops a.tmps) = true := by simp [Region.wanted, hg]
  rw [if_pos hw]
  obtain ⟨v', w', hr, h2, h3, _, h5⟩ := run_append_own_at (P := P) w base t o.type e i z size bytes ht hi hz hsize hby hzs hsz v n xs hown ad m c news hl hnews h1 h63 hbytes hbase
  unfold Oper.wp execOp
  simp only [hop, resolve, invoke, builtin, Sem.run_bind, Sem.run_pure, Result.andThen_ok, List.map_toArray, List.map_cons, List.map_nil, hs, hx, hr]
  exact h _ _ h2 h3 h5
theorem infoIns : ∃ i : TypeInfo, Try.prog.info? 46 = some i ∧ i.zero = some (insV { op := 0 }) ∧ i.size = 10 ∧ i.bytes = 10 := by
  have h : (Try.prog.info? 46).map (fun i => (i.zero, i.size, i.bytes)) = some (some (insV { op := 0 }), 10, 10) := by kernel_rfl
  cases hi : Try.prog.info? 46 with
  | none => rw [hi] at h; cases h
  | some i =>
    rw [hi] at h
    simp only [Option.map_some, Option.some.injEq, Prod.mk.injEq] at h
    exact ⟨i, rfl, h.1, h.2.1, h.2.2⟩
theorem ins_cells (w : World) (x : PX.InsD) : ∀ (j : Nat) (u : Value), (insC x).toList[j]? = some u → (w.alloc (.cells (insC x) 46)).cell? (Addr.add ⟨w.heap.size, 0, none⟩ j) = some u := fun j u hu => by
  rw [Go.WideShapes.add_plain, Nat.zero_add]
  have := cell_of_row _ w.heap.size j _ _ _ (heap_alloc_new w (.cells (insC x) 46))
  rw [this, ← Array.getElem?_toList]
  exact hu
theorem insLine_eq (s : PX.S) (li : List (List PX.InsD)) (k : List PX.InsD) (hth : s.threads = li ++ [k]) : PX.insLine s = if k.length = 12 then .bad (PX.next s).p 5 else (PX.ins s).bind fun x s => (PX.take [PX.sEND] { s with threads := s.threads.dropLast ++ [s.threads.getLastD [] ++ [x]] }).bind fun _ s => .ok () s := by
  unfold PX.insLine
  rw [hth]
  simp

set_option maxRecDepth 100000 in
set_option maxHeartbeats 16000000 in
theorem insLine_any (b : Nat) (s : PX.S) (h : Hd) (w : World) (L : LT w b s h) (h0 : s.threads ≠ []) (h4 : s.threads.length ≤ 4) (h12 : ∀ k ∈ s.threads, k.length ≤ 12) :
    Calls Try.prog 37 #[.pointer (some ⟨b, 0, none⟩)] w (EndsP w b h (PX.insLine s)) := by
  have hbl := L.ls.ps.lt
  obtain ⟨li, k, hth⟩ : ∃ li k, s.threads = li ++ [k] := ⟨_, _, (List.dropLast_concat_getLast h0).symm⟩
  have hk12 := h12 k (by rw [hth]; simp)
  obtain ⟨vs, o1, o2⟩ := id L.thr
  rw [hth] at o1 o2 h4
  obtain ⟨n, hn⟩ : ∃ n, li.length = n := ⟨_, rfl⟩
  rw [List.length_append, List.length_singleton, hn] at o1 h4
  obtain ⟨gT, cT, hvt⟩ := own_formT o1
  rw [hvt] at o1
  have hvs : vs.length = n + 1 := by rw [o2.1]; simp [hn]
  obtain ⟨vi, u, rfl⟩ : ∃ vi u, vs = vi ++ [u] := ⟨_, _, (List.dropLast_concat_getLast (l := vs) (by intro e; rw [e] at hvs; simp at hvs)).symm⟩
  have hvi : vi.length = n := by simp at hvs; exact hvs
  have ou := o2.2.1 n u k (by rw [← hvi, List.getElem?_append_right (Nat.le_refl _)]; simp) (by rw [← hn, List.getElem?_append_right (Nat.le_refl _)]; simp)
  have cTn : w.cell? ⟨gT, n, none⟩ = some u := by
    rw [World.ownsRow.cellAt o1 n (by omega), ← hvi, List.getElem?_append_right (Nat.le_refl _)]; simp
  obtain ⟨a9, c9, hu⟩ : ∃ a c, u = .slice a k.length c := by
    rcases ou.2 with ⟨rfl, h0⟩ | ⟨g, cap, cur, rfl, _⟩
    · exact ⟨none, 0, by rw [h0]⟩
    · exact ⟨_, cap, rfl⟩
  obtain ⟨q, hq⟩ : ∃ q, k.length = q := ⟨_, rfl⟩
  rw [hq] at hu hk12
  obtain ⟨vr0, d0, fb0⟩ := L.ls.ps.cellAt 7
  unfold psC at d0
  simp only [List.getElem?_toArray, List.getElem?_cons_zero, List.getElem?_cons_succ, hvt] at d0
  have C0 : Hid (∀ W, PS W b s h → Calls Try.prog 21 #[.pointer (some ⟨b, 0, none⟩)] W fun e w' => e = .returned (.agg #[.int .u8 (PX.next s).k, .string (PX.next s).x, .int .i64 (PX.next s).p]) ∧ Below W.heap.size W w') := Lib.hid fun W (p : PS W b s h) => next_any b s h W p
  have CI := Lib.hid fun W (L' : LS W b s h) => ins_any b s h W L'
  have CE := Lib.hid fun s g W (p : PS (W.alloc (.cells #[.string ⟨#[69, 78, 68]⟩] 9)) b s g) => take_any b s g _ [PX.sEND] _ p (strSl_one W _) (symsOk_one (by decide))
  have CF := Lib.hid fun W pl => fail_any pl 5 W
  have e0 := insLine_eq s li k hth
  rw [hq] at e0
  obtain ⟨R, hR⟩ : ∃ R, PX.insLine s = R := ⟨_, rfl⟩
  rw [hR] at e0 ⊢
  have U0 := TP.start L
  replace e0 := Lib.hid e0
  replace U0 := Lib.hid U0
  replace o1 := Lib.hid o1
  replace o2 := Lib.hid o2
  replace ou := Lib.hid ou
  replace hth := Lib.hid hth
  subst hu
  replace hq := Lib.hid hq
  clear hvs
  by_cases hq12 : q = 12
  · have t1 : ((q : Int) == 12) = true := by simp; omega
    replace hq12 := Lib.hid hq12
    clear hk12
    have hf2 := tok_f2
    go_enter Try.func37, Try.ntmps37
    go_wp2_with fail
    go_quiet (fail)
    have U1 := Lib.hid (U0.out.below (drewB w nq))
    go_wp2_with (first
      | (go_at_call 21; refine (C0.out _ U1.out.lt.ls.ps).mono ?_; rintro e w2 ⟨rfl, B2⟩
         have U2 := Lib.hid (U1.out.below B2))
      | (go_at_call 28; refine (CF.out _ _).mono ?_; rintro e w4 ⟨rfl, rfl⟩))
    refine ⟨rfl, ?_⟩
    first
      | (rename_i hh; rw [← hh])
      | (rename_i hh _; rw [← hh])
    refine EndsP.bad U2.out.fr ?_
    rw [e0.out, if_pos hq12.out]
  · have t1 : ((q : Int) == 12) = false := by simp; omega
    have e1 : Hid (R = (PX.ins s).bind fun x s => (PX.take [PX.sEND] { s with threads := s.threads.dropLast ++ [s.threads.getLastD [] ++ [x]] }).bind fun _ s => .ok () s) := Lib.hid (by rw [e0.out, if_neg hq12])
    obtain ⟨i0, hi0, hy0, hy1, hy2⟩ := infoIns
    replace hq12 := Lib.hid hq12
    go_enter Try.func37, Try.ntmps37
    go_wp2_with fail
    go_quiet (fail)
    have U1 := U0.out.below (drewB w nq)
    have D1 := Lib.hid (U1.below (drewB1 (w.drewN nq)))
    have cD := cTn
    have hBD : Below w.heap.size w (w.drewN nq).drew := (drewB w nq).trans (drewB1 (w.drewN nq))
    have oD1 := Lib.hid (own_sameT (W' := (w.drewN nq).drew) o1.out fun g cur _ hh => (hBD.block g (lt_of_heap hh)).trans hh)
    have oD2 := Lib.hid (o2.out.keep (W' := (w.drewN nq).drew) fun g cur _ hh => (hBD.block g (lt_of_heap hh)).trans hh)
    have oDu := Lib.hid (own_sameT (W' := (w.drewN nq).drew) ou.out fun g cur _ hh => (hBD.block g (lt_of_heap hh)).trans hh)
    clear o1 o2 ou cD hBD
    go_wp2_with fail
    go_region_law (first
      | (refine step_append_at rfl (.tmp 30) (.tmp 33) 42 rfl (b + 1) 46 i0 _ 10 10 Try.underlying42 hi0 hy0 hy1 hy2 rfl (by decide) _ q _ rfl r1.out ⟨w2.heap.size, 0, none⟩ 1 1 _ rfl rfl r2.out r3.out (by unfold maxLen; omega) (by omega) (by simp; omega) ?_
         intro v' w5 hown5 hgrow5 hblk5
         obtain ⟨g9, c5, rfl⟩ := own_formT hown5
         have o5 := own_sameT (W' := w5) pD1.out fun g cur _ hh => grown_keep r1.out hgrow5 g cur _ (by decide) (row_alloc hh _)
         have f5 := World.ownsRow.frozenAt o5 n
         have c5n : w5.cell? ⟨gT, n, none⟩ = some (.slice a9 q c9) := by
           rw [World.ownsRow.cellAt o5 n (by omega), ← hvi, List.getElem?_append_right (Nat.le_refl _)]; simp
         have X5 := Lib.hid (And.intro hown5 (And.intro hgrow5 (And.intro hblk5 o5)))
         clear hown5 hgrow5 hblk5 o5)
      | (go_simp
         go_at_call 49
         refine call1 (CI.out _ D1.out.lt.ls) (fun x s2 w2 vl vi' hx2 F2 L2 => ?_) (fun pl er w2 hx F => ⟨rfl, EndsP.bad (D1.out.fr.trans (F.mono T1_T2)) (by rw [e1.out, hx]; rfl)⟩)
         dsimp only [insV]
         have hlv := PX.keep_ins (PX.lv_stb s) s (PX.Lv.refl s) _ _ hx2
         have U2 := D1.out.step1 F2 hlv L2
         have pD1 := own_sameT (W' := w2) oD1.out fun g cur hg hh => F2.box hh (by omega) (by simp [T1])
         have pDu := own_sameT (W' := w2) oDu.out fun g cur hg hh => F2.box hh (by omega) insT1
         have pD2 := Lib.hid (oD2.out.keep (W' := w2) fun g cur hg hh => F2.box hh (by omega) insT1)
         have cT2 : w2.cell? ⟨gT, n, none⟩ = some (.slice a9 q c9) := by
           rw [World.ownsRow.cellAt pD1 n (by omega), ← hvi, List.getElem?_append_right (Nat.le_refl _)]; simp
         have cT3 : (w2.alloc (.cells (insC x) 46)).cell? ⟨gT, n, none⟩ = some (.slice a9 q c9) := by
           rw [World.ownsRow.cellAt (World.ownsRow.alloc pD1 _) n (by omega), ← hvi, List.getElem?_append_right (Nat.le_refl _)]; simp
         unfold insC at cT3
         rw [hq.out] at pDu
         have r1 := Lib.hid (World.ownsRow.alloc pDu (.cells (insC x) 46))
         have r2 := Lib.hid (ins_cells w2 x)
         have r3 : Hid (∀ u ∈ (insC x).toList, u.oneCell' = true) := Lib.hid fun u hu => by
           simp only [insC, List.mem_cons, List.not_mem_nil, or_false] at hu
           rcases hu with rfl | rfl | rfl | rfl | rfl | rfl | rfl | rfl | rfl | rfl <;> rfl
         have hb2 := U2.lt.ls.ps.lt
         replace pD1 := Lib.hid pD1
         replace U2 := Lib.hid U2
         replace hlv := Lib.hid hlv
         clear pDu))
    all_goals
      have hst : ∀ (i : Nat) (D : Array Value) (t : TypeId), t ≠ 42 → w5.heap[i]? = some (.cells D t (0, 0)) → (w5.setCell ⟨gT, n, none⟩ (.slice (some ⟨g9, 0, none⟩) (q + 1) c5)).heap[i]? = some (.cells D t (0, 0)) := fun i D t ht hi => (Below.heap_setCell w5 ⟨gT, n, none⟩ _ i (by
        show i ≠ gT
        rintro rfl
        obtain ⟨_, cur, hC⟩ := own_rowT X5.out.2.2.2 (g := i) rfl
        rw [hC] at hi; cases hi; exact ht rfl)).trans hi
      have hth2 : s2.threads = li ++ [k] := by rw [hlv.out.2.2.1]; exact hth.out
      have hgs := X5.out.2.1.size
      have hthr : ThrM (w5.setCell ⟨gT, n, none⟩ (.slice (some ⟨g9, 0, none⟩) (q + 1) c5)) (b + 1) h.vt (li ++ [k ++ [x]]) := by
        refine ⟨vi ++ [.slice (some ⟨g9, 0, none⟩) (q + 1) c5], ?_, ThrR.last pD2.out (by rw [hvi, hn]) (fun g cur hg hne hh => ?_) ?_ ?_⟩
        · have := (World.ownsRow.stored X5.out.2.2.2 n (.slice (some ⟨g9, 0, none⟩) (q + 1) c5)).1
          rw [show (vi ++ [Value.slice a9 q c9]).set n (.slice (some ⟨g9, 0, none⟩) (q + 1) c5) = vi ++ [.slice (some ⟨g9, 0, none⟩) (q + 1) c5] by rw [← hvi, List.set_append_right _ _ (Nat.le_refl _)]; simp] at this
          rw [hvt, List.length_append, List.length_singleton, hn]
          exact this
        · refine hst g cur _ (by decide) ?_
          rw [X5.out.2.1.block g (by have := lt_of_heap hh; simp; omega) (fun e => hne e.symm)]
          exact row_alloc hh _
        · rcases X5.out.2.2.1 with e | e
          · exact .inl e
          · exact .inr ⟨_, e, by simp⟩
        · rw [List.length_append, List.length_singleton, hq.out, cellsI_snoc]
          exact own_sameT X5.out.1 fun g cur _ hh => hst g cur _ (by decide) hh
      have hL6 := LT.newThr (W' := w5.setCell ⟨gT, n, none⟩ (.slice (some ⟨g9, 0, none⟩) (q + 1) c5)) U2.out.lt (fun i D t h1 h2 hi => hst i D t h1 (grown_keep r1.out X5.out.2.1 i D t h2 (row_alloc hi _))) (by simp at hgs ⊢; omega) hthr
      have hF6 : Fr T2 b w (w5.setCell ⟨gT, n, none⟩ (.slice (some ⟨g9, 0, none⟩) (q + 1) c5)) := by
        obtain ⟨hbk, cur, hC⟩ := own_rowT X5.out.2.2.2 (g := gT) rfl
        exact ((U2.out.fr.trans (Fr.of_below ((Below.refl w2.heap.size w2).alloc (Nat.le_refl _) (.cells (insC x) 46)))).trans (Fr.grown r1.out (Nat.lt_succ_self b) insT2 X5.out.2.1)).trans (Fr.setT (by omega) hC thrT2 n _)
      have e2 : Hid (R = (PX.take [PX.sEND] { s2 with threads := li ++ [k ++ [x]] }).bind fun _ s => .ok () s) := Lib.hid (by
        rw [e1.out, hx2]; simp only [PX.R.bind]; rw [hth2]; simp)
      have U6 : TP w b h (w5.setCell ⟨gT, n, none⟩ (.slice (some ⟨g9, 0, none⟩) (q + 1) c5)) _ _ := ⟨hF6, hL6, rfl⟩
      replace U6 := U6.alloc (.cells #[.string ⟨#[69, 78, 68]⟩] 9)
      have c6 := CE.out _ _ _ U6.lt.ls.ps
      simp only [World.size_setCell] at c6
      replace c6 := Lib.hid c6
      replace U6 := Lib.hid U6
      clear hst hthr hL6 hF6
      go_wp2_with (first
        | (go_at_call 41; refine call0 c6.out (fun t7 s7 w7 hx7 F7 P7 => ?_) (fun pl er w7 hx F => ⟨rfl, EndsP.bad (U6.out.fr.trans F.up) (by rw [e2.out, hx]; rfl)⟩)
           dsimp only [tokV]
           have U7 := Lib.hid (U6.out.step0 F7 (mv_take hx7) P7)))
      go_end0
      exact U7.out.ok (by rw [e2.out, hx7]; rfl)
end PP
end Go.Proofs.Ytglbmiadgdadfaa
end

section
/- A condition's depth. -/
namespace Go.Proofs.Ytglbmiadgdadfaa
open Go.RowKit Go.Shelf

attribute [local go_sem] Oper.semAt_some
namespace PP
mutual
/-- The cells x hold the condition, wherever its parts lie. -/
def CondR (W : World) (x : CV) : PX.CondD → Prop
  | .mk k t n v kids => x.k = k ∧ x.t = t ∧ x.n = n ∧ x.v = v ∧ ∃ (a : Option Addr) (cap : Nat), x.u = .slice a kids.length cap ∧ kids.length ≤ cap ∧ cap ≤ maxLen ∧
      (0 < kids.length → ∃ (g off : Nat) (ys : List CV), a = some ⟨g, off, none⟩ ∧ g < W.heap.size ∧
        (∀ (i j : Nat) (y : CV), ys[i]? = some y → j < 5 → ∀ U : World, U.heap[g]? = W.heap[g]? → U.cell? ⟨g, off + i * 5 + j, none⟩ = (condC y)[j]?) ∧ KidsR W ys kids)
def KidsR (W : World) (ys : List CV) : List PX.CondD → Prop
  | [] => ys = []
  | c :: r => ∃ y yr, ys = y :: yr ∧ CondR W y c ∧ KidsR W yr r
end
theorem lt_same {W W' : World} {g : Nat} (h : W'.heap[g]? = W.heap[g]?) (hg : g < W.heap.size) : g < W'.heap.size :=
  lt_of_heap (h.trans (Array.getElem?_eq_getElem hg))
mutual
theorem CondR.keep {W W' : World} (hW : ∀ g : Nat, g < W.heap.size → W'.heap[g]? = W.heap[g]?) : ∀ (c : PX.CondD) (x : CV), CondR W x c → CondR W' x c
  | .mk k t n v kids, x, h => by
    obtain ⟨h1, h2, h3, h4, a, cap, h5, h6, h7, h8⟩ := h
    refine ⟨h1, h2, h3, h4, a, cap, h5, h6, h7, fun h0 => ?_⟩
    obtain ⟨g, off, ys, e1, e2, e3, e4⟩ := h8 h0
    exact ⟨g, off, ys, e1, lt_same (hW g e2) e2, fun i j y hy hj U hU => e3 i j y hy hj U (hU.trans (hW g e2)), KidsR.keep hW kids ys e4⟩
theorem KidsR.keep {W W' : World} (hW : ∀ g : Nat, g < W.heap.size → W'.heap[g]? = W.heap[g]?) : ∀ (l : List PX.CondD) (ys : List CV), KidsR W ys l → KidsR W' ys l
  | [], _, h => h
  | c :: r, ys, h => by
    obtain ⟨y, yr, rfl, h1, h2⟩ := h
    exact ⟨y, yr, rfl, CondR.keep hW c y h1, KidsR.keep hW r yr h2⟩
end
theorem CondR.slice {W : World} {x : CV} {c : PX.CondD} (h : CondR W x c) : ∃ a n cap, x.u = .slice a n cap := by
  cases c with
  | mk k t n v kids =>
    obtain ⟨_, _, _, _, a, cap, h, _⟩ := h
    exact ⟨a, _, cap, h⟩
theorem CondR.below {W W' : World} {x : CV} {c : PX.CondD} (h : CondR W x c) (B : Below W.heap.size W W') : CondR W' x c :=
  CondR.keep (fun g hg => B.block g hg) c x h
theorem KidsR.length {W : World} : ∀ (l : List PX.CondD) (ys : List CV), KidsR W ys l → ys.length = l.length
  | [], _, h => by rw [h]; rfl
  | c :: r, ys, h => by
    obtain ⟨y, yr, rfl, _, h2⟩ := h
    simp [KidsR.length r yr h2]
theorem KidsR.at {W : World} : ∀ (l : List PX.CondD) (ys : List CV), KidsR W ys l → ∀ (i : Nat) (c : PX.CondD), l[i]? = some c → ∃ y, ys[i]? = some y ∧ CondR W y c
  | [], _, _, i, c, hc => by simp at hc
  | d :: r, ys, h, i, c, hc => by
    obtain ⟨y, yr, rfl, h1, h2⟩ := h
    cases i with
    | zero => simp at hc; subst hc; exact ⟨y, rfl, h1⟩
    | succ i => exact KidsR.at r yr h2 i c (by simpa using hc)
theorem cellsC_at : ∀ (ys : List CV) (i j : Nat) (y : CV), ys[i]? = some y → j < 5 → (cellsC ys)[i * 5 + j]? = (condC y)[j]?
  | [], i, j, y, h, _ => by simp at h
  | z :: zs, 0, j, y, h, hj => by
    simp at h; subst h
    unfold cellsC
    rw [List.flatMap_cons, List.getElem?_append_left (by show _ < 5; omega)]
    simp
  | z :: zs, i + 1, j, y, h, hj => by
    unfold cellsC
    rw [List.flatMap_cons, List.getElem?_append_right (by show 5 ≤ _; omega)]
    have e : (i + 1) * 5 + j - (condC z).toList.length = i * 5 + j := by show _ - 5 = _; omega
    rw [e]
    exact cellsC_at zs i j y (by simpa using h) hj
mutual
theorem CondM.toR {W : World} {Q : Nat → Prop} : ∀ (c : PX.CondD) (x : CV), CondM W Q x c → CondR W x c
  | .mk k t n v kids, x, h => by
    obtain ⟨h1, h2, h3, h4, h5⟩ := h
    refine ⟨h1, h2, h3, h4, ?_⟩
    rcases h5 with ⟨rfl, h5⟩ | ⟨g, cap, C, ys, h5, h6, h7, h8, h9, h10, h11, h12⟩
    · exact ⟨none, 0, h5, Nat.le_refl _, Nat.zero_le _, fun h => by simp at h⟩
    · refine ⟨_, cap, h5, h7, h8, fun _ => ⟨g, 0, ys, rfl, lt_of_heap h10, fun i j y hy hj U hU => ?_, KidsM.toR kids ys h12⟩⟩
      rw [cell_of_row U g _ _ _ _ (hU.trans h10)]
      have hi := (List.getElem?_eq_some_iff.1 hy).1
      rw [KidsM.length kids ys h12] at hi
      have e := congrArg (fun l : List Value => l[i * 5 + j]?) h11
      simp only [List.getElem?_take, if_pos (show i * 5 + j < kids.length * 5 by omega)] at e
      rw [Array.getElem?_toList] at e
      rw [Nat.zero_add, e]
      exact cellsC_at ys i j y hy hj
theorem KidsM.toR {W : World} {Q : Nat → Prop} : ∀ (l : List PX.CondD) (ys : List CV), KidsM W Q ys l → KidsR W ys l
  | [], _, h => h
  | c :: r, ys, h => by
    obtain ⟨y, yr, rfl, h1, h2⟩ := h
    exact ⟨y, yr, rfl, CondM.toR c y h1, KidsM.toR r yr h2⟩
end
theorem deepL_take (l : List PX.CondD) (i : Nat) (c : PX.CondD) (h : l[i]? = some c) : PX.deepL (l.take (i + 1)) = max (PX.deepL (l.take i)) (PX.deep c) := by
  induction l generalizing i with
  | nil => simp at h
  | cons d r ih =>
    cases i with
    | zero => simp at h; subst h; simp [PX.deepL]
    | succ i =>
      simp only [List.take_succ_cons, PX.deepL]
      rw [ih i (by simpa using h)]
      omega
theorem deepL_le (l : List PX.CondD) (i : Nat) (c : PX.CondD) (h : l[i]? = some c) : PX.deep c ≤ PX.deepL l := by
  induction l generalizing i with
  | nil => simp at h
  | cons d r ih =>
    simp only [PX.deepL]
    cases i with
    | zero => simp at h; subst h; omega
    | succ i => have := ih i (by simpa using h); omega
theorem deepL_take_le (l : List PX.CondD) (i : Nat) : PX.deepL (l.take i) ≤ PX.deepL l := by
  induction l generalizing i with
  | nil => simp
  | cons d r ih =>
    cases i with
    | zero => simp [PX.deepL]
    | succ i => simp only [List.take_succ_cons, PX.deepL]; have := ih i; omega
set_option maxRecDepth 100000 in
set_option maxHeartbeats 8000000 in
theorem deep_any : ∀ (m : Nat) (c : PX.CondD) (x : CV) (w : World), PX.deep c ≤ m → m < 2 ^ 60 → CondR w x c →
    Calls Try.prog 7 #[condV x] w fun e w' => e = .returned (.int .i64 (PX.deep c)) ∧ Below w.heap.size w w'
  | 0, .mk k t n v kids, x, w, hm, _, _ => by simp [PX.deep] at hm
  | m + 1, .mk k t n v kids, x, w, hm, hb, h => by
    have ih := deep_any m
    obtain ⟨h1, h2, h3, h4, a, cap, h5, h6, h7, h8⟩ := id h
    obtain ⟨xk, xt, xn, xv, xu⟩ := x
    simp only at h1 h2 h3 h4 h5
    subst h1 h2 h3 h4 h5
    have hd : PX.deepL kids ≤ m := by simp only [PX.deep] at hm; omega
    have hkid : ∀ (i : Nat) (d : PX.CondD) (W : World), Below w.heap.size w W → kids[i]? = some d → ∃ g off y, a = some ⟨g, off, none⟩ ∧ CondR W y d ∧ ∀ j, j < 5 → W.cell? ⟨g, off + i * 5 + j, none⟩ = (condC y)[j]? := fun i d W B hi => by
      have h0 := (List.getElem?_eq_some_iff.1 hi).1
      obtain ⟨g, off, ys, rfl, e2, e3, e4⟩ := h8 (by omega)
      obtain ⟨y, hy, hR⟩ := KidsR.at kids ys e4 i d hi
      exact ⟨g, off, y, rfl, hR.below B, fun j hj => e3 i j y hy hj W (B.block g e2)⟩
    obtain ⟨N, hN⟩ : ∃ N, kids.length = N := ⟨_, rfl⟩
    obtain ⟨D, hD⟩ : ∃ D, PX.deep (.mk xk xt xn xv kids) = D := ⟨_, rfl⟩
    have hD' : PX.deepL kids + 1 = D := hD
    rw [hD]
    have hN6 : N ≤ cap := by omega
    have hN63 : N ≤ 9223372036854775807 := by unfold maxLen at h7; omega
    unfold condV
    simp only
    rw [hN]
    have B0 := (Below.refl w.heap.size w).alloc (Nat.le_refl _) (.cells #[.int .u8 xk, .int .u8 xt, .int .u8 xn, .int .u8 xv, .slice a N cap] 24)
    have z0 := heap_alloc_new w (.cells #[.int .u8 xk, .int .u8 xt, .int .u8 xn, .int .u8 xv, .slice a N cap] 24)
    have c4 := cell_of_row _ w.heap.size 4 _ _ _ z0
    simp only [List.getElem?_toArray, List.getElem?_cons_zero, List.getElem?_cons_succ] at c4
    replace B0 := Lib.hid B0
    clear z0 h8
    replace hkid := Lib.hid hkid
    replace hD' := Lib.hid hD'
    replace ih := Lib.hid ih
    clear hD h
    go_enter Try.func7, Try.ntmps7
    go_wp2
    go_loopw [3, 9] (fun d i wr => ∃ (q e : Nat), q ≤ N ∧ Hid (e = PX.deepL (kids.take q)) ∧ i = .int .i64 (q : Int) ∧ d = .int .i64 (e : Int) ∧ Hid (Below w.heap.size w wr)) (fun _ i _ => N - (intOf i).toNat)
    case atStart => exact ⟨0, 0, by omega, Lib.hid (by simp [PX.deepL]), rfl, rfl, B0⟩
    case round =>
      obtain ⟨q, e, hq, he, rfl, rfl, hB⟩ := hrel
      by_cases hlt : q < N
      · obtain ⟨d, hd1⟩ : ∃ d, kids[q]? = some d := ⟨kids[q]'(by omega), List.getElem?_eq_getElem (by omega)⟩
        obtain ⟨g, off, y, rfl, hR, hc⟩ := hkid.out q d wr hB.out hd1
        have e0 := hc 0 (by omega)
        have e1 := hc 1 (by omega)
        have e2 := hc 2 (by omega)
        have e3 := hc 3 (by omega)
        have e4 := hc 4 (by omega)
        obtain ⟨ya, yl, yc, hyu⟩ := hR.slice
        obtain ⟨yk, yt, yn, yv, yu⟩ := y
        obtain rfl : yu = .slice ya yl yc := hyu
        unfold condC at e0 e1 e2 e3 e4
        simp only [List.getElem?_toArray, List.getElem?_cons_zero, List.getElem?_cons_succ, Nat.add_zero] at e0 e1 e2 e3 e4
        have t1 : decide (q < N) = true := by simpa using hlt
        have hq1 := deepL_take kids q d hd1
        have hq2 := deepL_le kids q d hd1
        have hq3 := deepL_take_le kids q
        rw [← he.out] at hq1 hq3
        obtain ⟨f, hf⟩ : ∃ f, PX.deep d = f := ⟨_, rfl⟩
        have hA := (Below.refl wr.heap.size wr).alloc (Nat.le_refl _) (.cells #[.int .u8 yk, .int .u8 yt, .int .u8 yn, .int .u8 yv, .slice ya yl yc] 24)
        have z1 := heap_alloc_new wr (.cells (condC ⟨yk, yt, yn, yv, .slice ya yl yc⟩) 24)
        obtain ⟨v0, v1, v2, v3, v4⟩ := row_cond z1
        unfold condC at v0 v1 v2 v3 v4
        have cD := ih.out d ⟨yk, yt, yn, yv, .slice ya yl yc⟩ (wr.alloc (.cells #[.int .u8 yk, .int .u8 yt, .int .u8 yn, .int .u8 yv, .slice ya yl yc] 24)) (by omega) (by omega) (hR.below hA)
        unfold condV at cD
        rw [hf] at cD
        replace cD := Lib.hid cD
        replace hA := Lib.hid hA
        rw [hf] at hq1 hq2
        clear hc hR z1 hd1
        go_wp2_with (first
          | (go_at_call 7; refine (cD.out).mono ?_; rintro e5 w3 ⟨rfl, B3⟩))
        refine ⟨⟨q + 1, max e f, by omega, Lib.hid hq1.symm, rfl, ?_, Lib.hid (hB.out.trans ((hA.out.trans (B3.mono hA.out.size)).mono hB.out.size))⟩, ?_⟩
        · congr 1
          split <;> omega
        · simp [intOf]; omega
      · obtain rfl : q = N := by omega
        have t1 : decide (q < q) = false := by simp
        have hE : (e : Int) + 1 = (D : Int) := by
          have h1 := hD'.out
          have h2 := he.out
          rw [← hN, List.take_length] at h2
          omega
        have hw : wrap64 (D : Int) = D := IntWalk.wrap64_in _ (by have := hD'.out; omega)
        go_wp2
        go_ret
        rw [hw]
        exact ⟨rfl, hB.out⟩
end PP
end Go.Proofs.Ytglbmiadgdadfaa
end
