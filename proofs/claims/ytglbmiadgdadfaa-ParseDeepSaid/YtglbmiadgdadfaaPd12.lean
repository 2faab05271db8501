/- ParJoin2, ParCondAny, CondArg in one text, for the claim. -/
import Derived.Test.YtglbmiadgdadfaaPd11
import Derived.Test.YtglbmiadgdadfaaPd9
import Derived.Test.YtglbmiadgdadfaaPd10
import Derived.ChangeSlices
import Derived.ChangeArms
import Derived.WideShapes
import Derived.OpenShut
import Derived.Deep.Strs
import Derived.SizedLaws
import Derived.Test.YtglbmiadgdadfaaPd4

section
/- typed of seisinlaw05; what the joined texts parse as. -/
namespace Go.Proofs.Ytglbmiadgdadfaa
open Go.RowKit Go.Shelf
open Go.BigFrame

attribute [local go_sem] Oper.semAt_some
namespace PP
theorem apS (a b : ByteArray) : bsOf (a ++ b) = bsOf a ++ bsOf b := by unfold bsOf; simp
theorem apN (a b : ByteArray) : (a ++ b).size = a.size + b.size := by rw [← bsOf_length, apS, List.length_append, bsOf_length, bsOf_length]
def tyS (l : List TokD) : ByteArray := ⟨(jb l).toArray⟩
theorem bsOf_tyS (l : List TokD) : bsOf (tyS l) = jb l := by unfold tyS bsOf; simp
theorem tyS_size (s : ByteArray) : (tyS (toks s)).size ≤ 3 * s.size := by rw [← bsOf_length, bsOf_tyS]; exact jb_len s
theorem jb_append (a b : List TokD) : jb (a ++ b) = jb a ++ jb b := by unfold jb; rw [List.flatMap_append]
set_option maxRecDepth 100000 in
set_option maxHeartbeats 4000000 in
theorem typed_fn (s : ByteArray) (hs : s.size ≤ 4000) (w : World) : Calls Try.prog 10 #[.string s] w fun e w' => e = .returned (.string (tyS (toks s))) ∧ Below w.heap.size w w' := by
  have CL := Lib.hid fun W => lexT s W
  have hj := jb_len s
  generalize (LX.out (bsOf s)).2.1 = pl at CL
  generalize (LX.out (bsOf s)).2.2 = er at CL
  generalize toks s = ts at *
  go_enter Try.func10, Try.ntmps10
  go_wp2_with fail
  refine (CL.out w).mono ?_
  rintro e w1 ⟨v, rfl, hl, B1⟩
  obtain ⟨hm, a, cap, rfl, hc⟩ := hl
  obtain ⟨N, hN⟩ : ∃ N, ts.length = N := ⟨_, rfl⟩
  rw [hN] at hm hc ⊢
  unfold maxLen at hm
  replace hc := Lib.hid hc
  replace B1 := Lib.hid B1
  clear CL
  go_wp2
  go_loop [6, 7] (fun o i => ∃ (q : Nat) (P : ByteArray), q ≤ N ∧ o = .string P ∧ i = .int .i64 (q : Int) ∧ Hid (bsOf P = jb (ts.take q))) (fun _ i => N - (intOf i).toNat)
  case atStart => exact ⟨0, ⟨#[]⟩, by omega, rfl, rfl, Lib.hid rfl⟩
  case round =>
    obtain ⟨q, P, hq, rfl, rfl, hP⟩ := hrel
    by_cases hlt : q < N
    · obtain ⟨g, rfl, hg, hcc⟩ := hc.out (by omega)
      obtain ⟨t, ht⟩ : ∃ t, ts[q]? = some t := ⟨ts[q]'(by omega), List.getElem?_eq_getElem (by omega)⟩
      obtain ⟨e1, e2, e3⟩ := hcc q t ht
      have u1 : decide (q < N) = true := by simpa using hlt
      have hsplit : jb ts = jb (ts.take q) ++ (32 :: (bsOf t.x ++ jb (ts.drop (q + 1)))) := by
        conv => lhs; rw [← List.take_append_drop q ts]
        rw [jb_append, List.drop_eq_getElem_cons (by omega : q < ts.length), jb_cons]
        have : ts[q]'(by omega) = t := by
          have := List.getElem?_eq_getElem (by omega : q < ts.length)
          rw [ht] at this
          exact (Option.some.inj this).symm
        rw [this]
      have hlen := congrArg List.length hsplit
      rw [← hP.out] at hlen
      simp only [List.length_append, List.length_cons, bsOf_length] at hlen
      obtain ⟨x, hx⟩ : ∃ x, t.x = x := ⟨_, rfl⟩
      rw [hx] at e2 hlen
      have q1 : (9223372036854775807 < P.size + 1) = False := eq_false (by omega)
      have q2 : (9223372036854775807 < P.size + 1 + x.size) = False := eq_false (by omega)
      have hnew : Hid (bsOf (P ++ ⟨#[32]⟩ ++ x) = jb (ts.take (q + 1))) := Lib.hid (by
        rw [List.take_add_one, ht, jb_append, apS, apS, hP.out]
        show _ = _ ++ jb [t]
        rw [jb_cons, hx]
        show _ ++ [32] ++ bsOf x = _ ++ 32 :: (bsOf x ++ [])
        simp)
      clear hcc ht hsplit hlen hx e1 e3
      go_wp2
      exact ⟨⟨q + 1, _, by omega, rfl, by go_num, hnew⟩, by simp [intOf]; omega⟩
    · have u1 : decide (q < N) = false := by simpa using hlt
      have hfin : P = tyS ts := bsOf_inj (by
        rw [bsOf_tyS, hP.out, List.take_of_length_le (by omega)])
      subst hfin
      go_wp2
      go_ret
      exact ⟨rfl, B1.out⟩
/-- A text that reads as given: its tokens. -/
theorem toks_reads {J : ByteArray} {ts : List (Nat × List UInt8)} (h : LX.Reads (bsOf J) false ts) (hJ : J.size ≤ 16384) : (LX.out (bsOf J)).2.2 = 0 ∧ (toks J).map shoD = ts.map fun x => ((x.1 : Int), (⟨x.2.toArray⟩ : ByteArray)) := by
  obtain ⟨q1, q2⟩ := h.out (by rw [bsOf_length]; exact hJ)
  refine ⟨by rw [q1], ?_⟩
  rw [← q2]
  unfold toks
  rw [List.map_map, List.map_map]
  apply List.map_congr_left
  intro t _
  simp only [Function.comp_apply, shoD, tokD, LX.sho]
  rw [← bsOf_extract]
  rfl
theorem shoD_sh (r : List TokD) (h : ∀ t ∈ r, TokN t) : (r.map sh).map (fun x => ((x.1 : Int), (⟨x.2.toArray⟩ : ByteArray))) = r.map shoD := by
  rw [List.map_map]
  apply List.map_congr_left
  intro t ht
  have h0 := (h t ht).1
  show ((t.k.toNat : Int), (⟨(bsOf t.x).toArray⟩ : ByteArray)) = (t.k, t.x)
  rw [Int.toNat_of_nonneg h0]
  rfl
theorem sy_sign {t : TokD} {b : ByteArray} (h : shoD t = (3, b)) : PX.sy t = b := by
  unfold shoD at h
  have h1 : t.k = 3 := congrArg Prod.fst h
  have h2 : t.x = b := congrArg Prod.snd h
  unfold PX.sy
  rw [if_neg (by omega), if_neg (by omega), if_pos h1, h2]
theorem sy_end {t : TokD} {b : ByteArray} (h : shoD t = (4, b)) : PX.sy t = PX.sEND := by
  unfold shoD at h
  have h1 : t.k = 4 := congrArg Prod.fst h
  unfold PX.sy
  rw [if_neg (by omega), if_neg (by omega), if_neg (by omega), if_pos h1]
/-- A valid condition's text. -/
theorem readC_ok {s : ByteArray} {l : List ByteArray} {c : PX.CondD} {st : PX.S} (h : readC s l = .ok c st) : (LX.out (bsOf s)).2.2 = 0 ∧ PX.onlyCond (PX.start s l false) = .ok c st := by
  rw [readC_eq] at h
  split at h
  · rename_i he; exact ⟨he, h⟩
  · cases h
section
variable {a b : ByteArray} {l : List ByteArray} {c d : PX.CondD} {sta stb : PX.S} (ha : readC a l = .ok c sta)
include ha
theorem readC_deep : PX.deep c ≤ 20 := by
  obtain ⟨_, _, _, _, _, h, _⟩ := PX.whole (s := PX.start a l false) rfl (readC_ok ha).2
  exact h
theorem joins_not {J : ByteArray} (hJ : bsOf J = 33 :: 32 :: 40 :: (jb (toks a) ++ [41])) (hs : J.size ≤ 16384) :
    (PX.deep c < 20 → ∃ s1, readC J l = .ok (.mk 5 0 0 0 [c]) s1) ∧ (20 ≤ PX.deep c → ∃ p, readC J l = .bad p 5) := by
  obtain ⟨he, ho⟩ := readC_ok ha
  obtain ⟨r, e, h1, h2, h3, h4, -⟩ := PX.whole (s := PX.start a l false) rfl ho
  obtain ⟨j1, j2⟩ := toks_whole he h1 h3
  have hr := reads_not j2
  have hb : bsOf J = 33 :: 32 :: 40 :: (jb r ++ 32 :: [41]) := by rw [hJ, j1]; simp
  rw [← hb] at hr
  obtain ⟨k1, k2⟩ := toks_reads hr hs
  simp only [List.map_cons, List.map_append, shoD_sh r j2] at k2
  obtain ⟨N, R1, t1, n1, k3⟩ := List.map_eq_cons_iff.1 k2
  obtain ⟨P, R2, t2, n2, k4⟩ := List.map_eq_cons_iff.1 k3
  obtain ⟨r', R3, t3, n3, k5⟩ := List.map_eq_append_iff.1 k4
  obtain ⟨C, R4, t4, n4, k6⟩ := List.map_eq_cons_iff.1 k5
  obtain ⟨E, R5, t5, n5, k7⟩ := List.map_eq_cons_iff.1 k6
  obtain rfl : R5 = [] := by simpa using k7
  subst t5; subst t4; subst t3; subst t2
  rw [readC_eq, if_pos k1]
  exact PX.join_not (sa := PX.start a l false) rfl rfl ho h1 (s := PX.start J l false) ⟨t1, rfl, rfl⟩ (PX.sameT_of _ _ n3.symm fun _ _ => trivial) (sy_sign n1) (sy_sign n2) (sy_sign n4) (sy_end n5)
theorem joins_two (hb : readC b l = .ok d stb) {J : ByteArray} {x : UInt8} {k : Int} (hx : (x = 38 ∧ k = 3) ∨ (x = 124 ∧ k = 4)) (hJ : bsOf J = 40 :: (jb (toks a) ++ 41 :: 32 :: x :: 32 :: 40 :: (jb (toks b) ++ [41]))) (hs : J.size ≤ 16384) :
    (max (PX.deep c) (PX.deep d) < 20 → ∃ s1, readC J l = .ok (.mk k 0 0 0 [c, d]) s1) ∧ (20 ≤ max (PX.deep c) (PX.deep d) → ∃ p, readC J l = .bad p 5) := by
  obtain ⟨he, ho⟩ := readC_ok ha
  obtain ⟨he', ho'⟩ := readC_ok hb
  obtain ⟨r, e, h1, h2, h3, h4, -⟩ := PX.whole (s := PX.start a l false) rfl ho
  obtain ⟨q, e', h1', h2', h3', h4', -⟩ := PX.whole (s := PX.start b l false) rfl ho'
  obtain ⟨j1, j2⟩ := toks_whole he h1 h3
  obtain ⟨j1', j2'⟩ := toks_whole he' h1' h3'
  have hcl : LX.cls (x.toNat : Int) = 7 := by rcases hx with ⟨rfl, _⟩ | ⟨rfl, _⟩ <;> decide
  have hr := reads_two j2 j2' hcl
  have hbb : bsOf J = 40 :: (jb r ++ 32 :: (41 :: 32 :: x :: 32 :: 40 :: (jb q ++ 32 :: [41]))) := by rw [hJ, j1, j1']; simp
  rw [← hbb] at hr
  obtain ⟨k1, k2⟩ := toks_reads hr hs
  simp only [List.map_cons, List.map_append, shoD_sh r j2, shoD_sh q j2'] at k2
  obtain ⟨P, R2, t2, n2, k4⟩ := List.map_eq_cons_iff.1 k2
  obtain ⟨r', R3, t3, n3, k5⟩ := List.map_eq_append_iff.1 k4
  obtain ⟨C, R4, t4, n4, k6⟩ := List.map_eq_cons_iff.1 k5
  obtain ⟨A, R5, t5, n5, k7⟩ := List.map_eq_cons_iff.1 k6
  obtain ⟨P2, R6, t6, n6, k8⟩ := List.map_eq_cons_iff.1 k7
  obtain ⟨q', R7, t7, n7, k9⟩ := List.map_eq_append_iff.1 k8
  obtain ⟨C2, R8, t8, n8, k10⟩ := List.map_eq_cons_iff.1 k9
  obtain ⟨E, R9, t9, n9, k11⟩ := List.map_eq_cons_iff.1 k10
  obtain rfl : R9 = [] := by simpa using k11
  subst t9; subst t8; subst t7; subst t6; subst t5; subst t4; subst t3
  rw [readC_eq, if_pos k1]
  refine PX.join_two (sa := PX.start a l false) (sb := PX.start b l false) rfl rfl ho h1 rfl rfl ho' h1' (s := PX.start J l false) ⟨t2, rfl, rfl⟩ (PX.sameT_of _ _ n3.symm fun _ _ => trivial) (PX.sameT_of _ _ n7.symm fun _ _ => trivial) (sy_sign n2) (sy_sign n4) (sy_sign n6) (sy_sign n8) (sy_end n9) k ?_
  rcases hx with ⟨rfl, rfl⟩ | ⟨rfl, rfl⟩
  · exact .inl ⟨sy_sign n5, rfl⟩
  · exact .inr ⟨sy_sign n5, rfl⟩
end
end PP
end Go.Proofs.Ytglbmiadgdadfaa
end

section
/- Cond, of any text. -/
namespace Go.Proofs.Ytglbmiadgdadfaa
open Go.RowKit Go.Shelf

attribute [local go_sem] Oper.semAt_some
namespace PP
/-- What Cond answers. -/
def CondPost (s : ByteArray) (l : List ByteArray) (w : World) (e : Ending) (w' : World) : Prop :=
  Below w.heap.size w w' ∧ match readC s l with
    | .ok c _ => ∃ x, e = .returned (.tuple #[condV x, .int .i64 0, .int .i64 0]) ∧ CondR w' x c
    | .bad p x => e = .returned (.tuple #[.agg condZ, .int .i64 p, .int .i64 x])
theorem LocsOk.lift {W W' : World} {b b' : Nat} {v : Value} {l : List ByteArray} (h : LocsOk W b false v l) (B : Below W.heap.size W W') (hb : b ≤ b') : LocsOk W' b' false v l := by
  refine ⟨fun h => (by cases h), fun ho => ?_⟩
  obtain ⟨h1, a, cap, rfl, h2⟩ := h.2 ho
  refine ⟨h1, a, cap, rfl, fun h0 => ?_⟩
  obtain ⟨g, off, C, rfl, hg, h3, h4⟩ := h2 h0
  exact ⟨g, off, C, rfl, by omega, (B.block g (lt_of_heap h3)).trans h3, h4⟩
theorem cond_results5 (tmps : Array Value) (W : World) (k : Nat) (cs : Array Value) (p x : Int) (hs : cs.size = 5) (h2 : tmps[4]?.getD undef = .pointer (some ⟨k, 0, none⟩)) (h3 : tmps[5]?.getD undef = .int .i64 p) (h4 : tmps[6]?.getD undef = .int .i64 x)
    (r0 : W.heap[k]? = some (.cells cs 24 (0, 0))) :
    (results Try.f9 tmps).run Try.prog W = .ok (.tuple #[.agg cs, .int .i64 p, .int .i64 x]) W := by
  have l0 := run_loadVar_row (P := Try.prog) W k 24 24 cs (0, 0) _ r0 Try.underlying24 rfl (by rw [sizeCond, hs])
  simp [results, Try.results9, h2, h3, h4, asAddr, l0]
set_option maxRecDepth 100000 in
set_option maxHeartbeats 16000000 in
theorem cond_any (s : ByteArray) (l : List ByteArray) (vl : Value) (w : World) (hl : LocsOk w w.heap.size false vl l) : Calls Try.prog 9 #[.string s, vl] w (CondPost s l w) := by
  have z0 := row_alloc (heap_alloc_new w (.cells condZ 24)) (.cells (parZ false vl) 54)
  have zb := heap_alloc_new (w.alloc (.cells condZ 24)) (.cells (parZ false vl) 54)
  have B0 := ((Below.refl w.heap.size w).alloc (Nat.le_refl _) (.cells condZ 24)).alloc (by simp) (.cells (parZ false vl) 54)
  simp only [World.size_alloc] at zb
  have CR := readCond_any s l vl (w.heap.size + 1) _ zb (hl.lift B0 (by omega))
  obtain ⟨va, vn, vc, rfl⟩ : ∃ a n c, vl = .slice a n c := by
    obtain ⟨_, a, cap, e, _⟩ := hl.2 rfl
    exact ⟨_, _, _, e⟩
  clear hl
  unfold ReadCPost at CR
  unfold CondPost
  unfold condZ parZ at CR B0 z0
  have ht2 : 24 ∉ T1 := by simp [T1]
  replace B0 := Lib.hid B0
  rcases hp : readC s l with ⟨c, st⟩ | ⟨p, x⟩
  · rw [hp] at CR
    replace CR := Lib.hid CR
    go_enter Try.func9, Try.ntmps9
    go_wp2_with (first
      | (go_at_call 13; refine (CR.out).mono ?_; rintro e w1 ⟨F1, xc, rfl, P1⟩
         have r0 := F1.box z0 (by omega) ht2
         have B1 := Lib.hid (B0.out.trans ((Fr.below F1 (by simp)).mono (by omega)))
         obtain ⟨xa, xl, xp, hu⟩ := CondM.slice P1
         obtain ⟨xk, xt, xn, xv, xu⟩ := xc
         simp only at hu
         subst hu
         unfold condV
         simp only
         have d0 := cell_of_row _ w.heap.size 0 _ _ _ r0
         have d1 := cell_of_row _ w.heap.size 1 _ _ _ r0
         have d2 := cell_of_row _ w.heap.size 2 _ _ _ r0
         have d3 := cell_of_row _ w.heap.size 3 _ _ _ r0
         have d4 := cell_of_row _ w.heap.size 4 _ _ _ r0
         simp only [List.getElem?_toArray, List.getElem?_cons_zero, List.getElem?_cons_succ] at d0 d1 d2 d3 d4
         have f0 := fun j => frozen_of_row _ w.heap.size j _ _ r0
         replace r0 := Lib.hid r0
         replace P1 := Lib.hid P1))
    have q0 := setCond_row (y := cvZ) ⟨xk, xt, xn, xv, .slice xa xl xp⟩ r0.out
    have hB := (setCond_fr (T := []) (b := w.heap.size) ⟨xk, xt, xn, xv, .slice xa xl xp⟩ (Fr.of_below B1.out) (Nat.le_refl _)).below (Nat.le_refl _)
    have hPk : CondR (setCond w1 w.heap.size ⟨xk, xt, xn, xv, .slice xa xl xp⟩) ⟨xk, xt, xn, xv, .slice xa xl xp⟩ c :=
      CondM.toR _ _ (CondM.mono (Q' := fun _ => True) (fun i D hi hh => setCond_keep hh (by simp at hi; omega)) (fun _ _ => trivial) _ _ P1.out)
    obtain ⟨Y, hY⟩ : ∃ Y, setCond w1 w.heap.size ⟨xk, xt, xn, xv, .slice xa xl xp⟩ = Y := ⟨_, rfl⟩
    rw [hY] at q0 hPk hB
    unfold setCond at hY
    simp only at hY
    rw [hY]
    clear hY
    have hR : CondPost s l w (.returned (.tuple #[.agg #[.int .u8 xk, .int .u8 xt, .int .u8 xn, .int .u8 xv, .slice xa xl xp], .int .i64 0, .int .i64 0])) Y := by
      unfold CondPost
      rw [hp]
      exact ⟨hB, ⟨xk, xt, xn, xv, .slice xa xl xp⟩, rfl, hPk⟩
    unfold CondPost at hR
    rw [hp] at hR
    exact bodyPost_ret (v := .tuple #[.agg #[.int .u8 xk, .int .u8 xt, .int .u8 xn, .int .u8 xv, .slice xa xl xp], .int .i64 0, .int .i64 0]) (cond_results5 _ _ w.heap.size #[.int .u8 xk, .int .u8 xt, .int .u8 xn, .int .u8 xv, .slice xa xl xp] 0 0 rfl rfl rfl rfl q0) rfl hR
  · rw [hp] at CR
    replace CR := Lib.hid CR
    go_enter Try.func9, Try.ntmps9
    go_wp2_with (first
      | (go_at_call 13; refine (CR.out).mono ?_; rintro e w1 ⟨F1, rfl⟩
         have r0 := F1.box z0 (by omega) ht2
         have B1 := Lib.hid (B0.out.trans ((Fr.below F1 (by simp)).mono (by omega)))
         have d0 := cell_of_row _ w.heap.size 0 _ _ _ r0
         have d1 := cell_of_row _ w.heap.size 1 _ _ _ r0
         have d2 := cell_of_row _ w.heap.size 2 _ _ _ r0
         have d3 := cell_of_row _ w.heap.size 3 _ _ _ r0
         have d4 := cell_of_row _ w.heap.size 4 _ _ _ r0
         simp only [List.getElem?_toArray, List.getElem?_cons_zero, List.getElem?_cons_succ] at d0 d1 d2 d3 d4
         have f0 := fun j => frozen_of_row _ w.heap.size j _ _ r0
         replace r0 := Lib.hid r0))
    have q0 := setCond_row (y := cvZ) cvZ r0.out
    have hB := (setCond_fr (T := []) (b := w.heap.size) cvZ (Fr.of_below B1.out) (Nat.le_refl _)).below (Nat.le_refl _)
    obtain ⟨Y, hY⟩ : ∃ Y, setCond w1 w.heap.size cvZ = Y := ⟨_, rfl⟩
    rw [hY] at q0 hB
    unfold setCond cvZ at hY
    simp only at hY
    rw [hY]
    clear hY
    exact bodyPost_ret (v := .tuple #[.agg condZ, .int .i64 p, .int .i64 x]) (cond_results5 _ _ w.heap.size condZ p x rfl rfl rfl rfl q0) rfl ⟨hB, rfl⟩
end PP
end Go.Proofs.Ytglbmiadgdadfaa
end

section
/- A condition that came in as an argument: it reads as one, wherever its parts lie. -/
namespace Go.Proofs.Ytglbmiadgdadfaa
open Go.ChangeShapes Go.WideShapes Go.RowKit
namespace PP
theorem condCellsOf : Try.prog.cellsOf 24 = 5 := by kernel_rfl
theorem u8CellsOf : Try.prog.cellsOf 5 = 1 := by kernel_rfl
theorem kidsCellsOf : Try.prog.cellsOf 22 = 1 := by kernel_rfl
mutual
/-- All its numbers are bytes. -/
def CondB : PX.CondD → Prop
  | .mk k t n v kids => (0 ≤ k ∧ k ≤ 255) ∧ (0 ≤ t ∧ t ≤ 255) ∧ (0 ≤ n ∧ n ≤ 255) ∧ (0 ≤ v ∧ v ≤ 255) ∧ KidsB kids
def KidsB : List PX.CondD → Prop
  | [] => True
  | c :: l => CondB c ∧ KidsB l
end
theorem kidsR_zip {W : World} : ∀ l : List (CV × PX.CondD), (∀ p ∈ l, CondR W p.1 p.2 ∧ CondB p.2) → KidsR W (l.map (·.1)) (l.map (·.2)) ∧ KidsB (l.map (·.2))
  | [], _ => ⟨rfl, trivial⟩
  | p :: l, h => by
    have h0 := h p List.mem_cons_self
    have ih := kidsR_zip l fun q hq => h q (List.mem_cons_of_mem _ hq)
    exact ⟨⟨p.1, l.map (·.1), rfl, h0.1, ih.1⟩, h0.2, ih.2⟩
theorem five_of {α : Type} {l : List α} (h : l.length = 5) : ∃ a b c d e, l = [a, b, c, d, e] :=
  match l, h with
  | [a, b, c, d, e], _ => ⟨a, b, c, d, e, rfl⟩
theorem byte_of_wf {a : Int} (h : (Lit.int .u8 a).wf = true) : 0 ≤ a ∧ a ≤ 255 := by
  simpa [Lit.wf, IntKind.min, IntKind.max, IntKind.signed, IntKind.bits] using h
set_option maxRecDepth 100000 in
theorem cond_of_trod {H : Type} {enc : TypeId × Value → H} {W : World} (fuel : Nat) : ∀ (cs : List Value) (x : DataW H × List MemPlace),
    DataW.trod enc Try.prog W 0 (fun _ => true) true fuel 24 cs = some x → ∃ (y : CV) (c : PX.CondD), cs = (condC y).toList ∧ CondR W y c ∧ CondB c := by
  induction fuel using Nat.strongRecOn with
  | ind fuel ih =>
    intro cs x h
    obtain ⟨xs, n, rfl, -, hl, hlen, hf⟩ := DataW.trod_struct Try.underlying24 h
    rw [condCellsOf] at hl
    obtain ⟨c0, c1, c2, c3, c4, rfl⟩ := five_of hl
    obtain ⟨x0, x1, x2, x3, x4, rfl⟩ := five_of (show xs.length = 5 from hlen)
    have r0 : DataW.trod enc Try.prog W 0 (fun _ => true) true n 5 (([c0, c1, c2, c3, c4].drop 0).take (Try.prog.cellsOf 5)) = some x0 := hf 0 _ rfl
    have r1 : DataW.trod enc Try.prog W 0 (fun _ => true) true n 5 (([c0, c1, c2, c3, c4].drop 1).take (Try.prog.cellsOf 5)) = some x1 := hf 1 _ rfl
    have r2 : DataW.trod enc Try.prog W 0 (fun _ => true) true n 5 (([c0, c1, c2, c3, c4].drop 2).take (Try.prog.cellsOf 5)) = some x2 := hf 2 _ rfl
    have r3 : DataW.trod enc Try.prog W 0 (fun _ => true) true n 5 (([c0, c1, c2, c3, c4].drop 3).take (Try.prog.cellsOf 5)) = some x3 := hf 3 _ rfl
    have r4 : DataW.trod enc Try.prog W 0 (fun _ => true) true n 22 (([c0, c1, c2, c3, c4].drop 4).take (Try.prog.cellsOf 22)) = some x4 := hf 4 _ rfl
    clear hf h
    rw [u8CellsOf] at r0 r1 r2 r3
    rw [kidsCellsOf] at r4
    obtain ⟨k, hk, -, wk⟩ := DataW.trod_int Try.underlying5 r0
    obtain ⟨t, ht, -, wt⟩ := DataW.trod_int Try.underlying5 r1
    obtain ⟨m, hm, -, wm⟩ := DataW.trod_int Try.underlying5 r2
    obtain ⟨v, hv, -, wv⟩ := DataW.trod_int Try.underlying5 r3
    obtain rfl : c0 = .int .u8 k := by simpa using hk
    obtain rfl : c1 = .int .u8 t := by simpa using ht
    obtain rfl : c2 = .int .u8 m := by simpa using hm
    obtain rfl : c3 = .int .u8 v := by simpa using hv
    clear hk ht hm hv r0 r1 r2 r3
    rcases DataW.trod_slice Try.underlying22 r4 with ⟨hcs, _⟩ | ⟨a, len, cap, elems, rest, n', rfl, hcs, -, -, hle, hmx, hel, hread, -, -⟩
    · obtain rfl : c4 = .slice none 0 0 := by simpa using hcs
      exact ⟨⟨k, t, m, v, .slice none 0 0⟩, .mk k t m v [], rfl, ⟨rfl, rfl, rfl, rfl, none, 0, rfl, Nat.le_refl _, Nat.zero_le _, fun h => by simp at h⟩, byte_of_wf wk, byte_of_wf wt, byte_of_wf wm, byte_of_wf wv, trivial⟩
    · obtain rfl : c4 = .slice (some a) len cap := by simpa using hcs
      have hcell : ∀ i, i < len → ∃ p : CV × PX.CondD, (∀ j, j < 5 → W.cell? ((a.add (i * 5)).add j) = (condC p.1)[j]?) ∧ CondR W p.1 p.2 ∧ CondB p.2 := by
        intro i hi
        have h1 := hread i hi
        rw [condCellsOf, List.getElem?_eq_getElem (by omega)] at h1
        obtain ⟨cs2, hc2, ht2⟩ := Option.bind_eq_some_iff.1 h1
        obtain ⟨-, hl2, hc⟩ := World.cells?_some hc2
        obtain ⟨y, c, rfl, hR, hB⟩ := ih n' (by omega) cs2 _ ht2
        exact ⟨⟨y, c⟩, fun j hj => (hc j hj).trans (Array.getElem?_toList ..), hR, hB⟩
      by_cases h0 : len = 0
      · subst h0
        exact ⟨⟨k, t, m, v, .slice (some a) 0 cap⟩, .mk k t m v [], rfl, ⟨rfl, rfl, rfl, rfl, some a, cap, rfl, Nat.zero_le _, hmx, fun h => by simp at h⟩, byte_of_wf wk, byte_of_wf wt, byte_of_wf wm, byte_of_wf wv, trivial⟩
      obtain ⟨b, off, spot⟩ := a
      obtain ⟨hspot, hb⟩ : spot = none ∧ b < W.heap.size := by
        obtain ⟨p, h1, _⟩ := hcell 0 (by omega)
        have h2 := h1 0 (by omega)
        have h3 : (condC p.1)[0]? = some (.int .u8 p.1.k) := rfl
        rw [h3] at h2
        exact ⟨by simpa [Addr.add] using World.cell?_spot h2, World.block_lt_of_cell? W _ h2⟩
      subst hspot
      let f : Nat → CV × PX.CondD := fun i => if h : i < len then Classical.choose (hcell i h) else ⟨zC, .mk 0 0 0 0 []⟩
      have hf : ∀ i, i < len → (∀ j, j < 5 → W.cell? ⟨b, off + i * 5 + j, none⟩ = (condC (f i).1)[j]?) ∧ CondR W (f i).1 (f i).2 ∧ CondB (f i).2 := by
        intro i hi
        have e : f i = Classical.choose (hcell i hi) := dif_pos hi
        obtain ⟨h1, h2, h3⟩ := Classical.choose_spec (hcell i hi)
        rw [← e] at h1 h2 h3
        refine ⟨fun j hj => ?_, h2, h3⟩
        have := h1 j hj
        rw [Go.WideShapes.add_plain, Go.WideShapes.add_plain] at this
        exact this
      have hz := kidsR_zip (W := W) ((List.range len).map f) fun p hp => by
        obtain ⟨i, hi, rfl⟩ := List.mem_map.1 hp
        exact (hf i (List.mem_range.1 hi)).2
      have hlk : (((List.range len).map f).map (·.2)).length = len := by simp
      refine ⟨⟨k, t, m, v, .slice (some ⟨b, off, none⟩) len cap⟩, .mk k t m v (((List.range len).map f).map (·.2)), rfl, ⟨rfl, rfl, rfl, rfl, some ⟨b, off, none⟩, cap, by rw [hlk], by rw [hlk]; exact hle, hmx, fun _ => ⟨b, off, ((List.range len).map f).map (·.1), rfl, hb, fun i j y hy hj U hU => ?_, hz.1⟩⟩, byte_of_wf wk, byte_of_wf wt, byte_of_wf wm, byte_of_wf wv, hz.2⟩
      have hi : i < len := by have := (List.getElem?_eq_some_iff.1 hy).1; simpa using this
      have he : y = (f i).1 := by simp [hi] at hy; exact hy.symm
      subst he
      rw [cell_same (Array.getElem?_eq_getElem hb) (hU.trans (Array.getElem?_eq_getElem hb))]
      exact (hf i hi).1 j hj
set_option maxRecDepth 100000 in
/-- A condition given as an argument. -/
theorem condArg {H : Type} {enc : TypeId × Value → H} {W : World} {base : Nat} {v : Value} {d : DataW H} {p : List MemPlace}
    (hv : Value.okWide Try.prog W .any base 24 v) (h : DataW.Trod enc Try.prog W 0 (fun _ => true) true 24 v d p) : ∃ (y : CV) (c : PX.CondD), v = condV y ∧ CondR W y c ∧ CondB c := by
  obtain ⟨fuel, hf⟩ := h
  obtain ⟨y, c, hc, hR, hB⟩ := cond_of_trod fuel _ _ hf
  refine ⟨y, c, ?_, hR, hB⟩
  obtain ⟨cs, rfl, -⟩ := okWide_struct Try.underlying24 hv
  have h1 : cs.toList = (condC y).toList := hc
  have h2 : cs = condC y := Array.toList_inj.1 h1
  rw [h2]
  rfl
end PP
end Go.Proofs.Ytglbmiadgdadfaa
end
