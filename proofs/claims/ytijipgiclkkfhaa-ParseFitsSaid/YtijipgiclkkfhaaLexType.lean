/- lex.spaced: the texts of tokens, with the spaces between. -/
import Derived.Lib.AppendStr
import Derived.Test.YtijipgiclkkfhaaLexLex
namespace Go.Proofs.Ytijipgiclkkfhaa
open Go.RowKit Go.Shelf

attribute [local go_sem] Oper.semAt_some
/-- A token as data: its kind, its text, its offset. -/
structure TokD where
  k : Int
  x : ByteArray
  p : Int
/-- A slice of tokens that lies below n₀. -/
def TokSl (n₀ : Nat) (W : World) (v : Value) (ts : List TokD) : Prop :=
  ts.length ≤ maxLen ∧ ∃ a cap, v = .slice a ts.length cap ∧ (0 < ts.length → ∃ b, a = some ⟨b, 0, none⟩ ∧ b < n₀ ∧ ∀ (j : Nat) (t : TokD), ts[j]? = some t →
    W.cell? ⟨b, j * 3, none⟩ = some (.int .u8 t.k) ∧ W.cell? ⟨b, j * 3 + 1, none⟩ = some (.string t.x) ∧ W.cell? ⟨b, j * 3 + 2, none⟩ = some (.int .i64 t.p))
theorem TokSl.below {n₀ : Nat} {W W' : World} {v : Value} {ts : List TokD} (h : TokSl n₀ W v ts) (hb : Below n₀ W W') : TokSl n₀ W' v ts := by
  obtain ⟨hl, a, cap, rfl, h⟩ := h
  refine ⟨hl, a, cap, rfl, fun h0 => ?_⟩
  obtain ⟨b, rfl, hbn, hc⟩ := h h0
  refine ⟨b, rfl, hbn, fun j t hj => ?_⟩
  obtain ⟨h1, h2, h3⟩ := hc j t hj
  exact ⟨(hb.cell (p := ⟨b, j * 3, none⟩) hbn).trans h1, (hb.cell (p := ⟨b, j * 3 + 1, none⟩) hbn).trans h2, (hb.cell (p := ⟨b, j * 3 + 2, none⟩) hbn).trans h3⟩
theorem TokSl.mono {n₀ n₁ : Nat} {W : World} {v : Value} {ts : List TokD} (h : TokSl n₀ W v ts) (hn : n₀ ≤ n₁) : TokSl n₁ W v ts := by
  obtain ⟨hl, a, cap, rfl, h⟩ := h
  refine ⟨hl, a, cap, rfl, fun h0 => ?_⟩
  obtain ⟨b, rfl, hbn, hc⟩ := h h0
  exact ⟨b, rfl, by omega, hc⟩
theorem TokSl.on {W W' : World} {v : Value} {ts : List TokD} (h : TokSl W.heap.size W v ts) (hb : Below W.heap.size W W') : TokSl W'.heap.size W' v ts := (h.below hb).mono hb.size
/-- The tokens of a text as data. -/
def tokD (s : ByteArray) (t : LX.Tk) : TokD := ⟨(t.kind : Int), s.extract t.lo t.hi, (t.lo : Int)⟩
theorem toksC_get (s : ByteArray) : ∀ (l : List LX.Tk) (j : Nat) (t : LX.Tk), l[j]? = some t → (toksC s l)[j * 3]? = some (.int .u8 (t.kind : Int)) ∧ (toksC s l)[j * 3 + 1]? = some (.string (s.extract t.lo t.hi)) ∧ (toksC s l)[j * 3 + 2]? = some (.int .i64 (t.lo : Int))
  | [], j, t, h => by simp at h
  | u :: l, 0, t, h => by
    simp at h; subst h
    unfold toksC tokC
    simp
  | u :: l, j + 1, t, h => by
    have := toksC_get s l j t (by simpa using h)
    have e : toksC s (u :: l) = tokC s u ++ toksC s l := by unfold toksC; simp
    have hl : (tokC s u).length = 3 := rfl
    rw [e, List.getElem?_append_right (by omega), List.getElem?_append_right (by omega), List.getElem?_append_right (by omega), hl, show (j + 1) * 3 - 3 = j * 3 by omega, show (j + 1) * 3 + 1 - 3 = j * 3 + 1 by omega, show (j + 1) * 3 + 2 - 3 = j * 3 + 2 by omega]
    exact this
theorem tokSl_own {W : World} {base : Nat} {v : Value} {s : ByteArray} {l : List LX.Tk} (h : W.ownsRow base 58 3 v l.length (toksC s l)) (hm : l.length ≤ maxLen) : TokSl W.heap.size W v (l.map (tokD s)) := by
  refine ⟨by rw [List.length_map]; exact hm, ?_⟩
  rw [List.length_map]
  rcases h.2 with ⟨rfl, h0⟩ | ⟨g, cap, cur, rfl, hg, hheap, hnc, hc1, hc2, hc3⟩
  · exact ⟨none, 0, by rw [h0], fun h => by omega⟩
  · refine ⟨_, cap, rfl, fun _ => ⟨g, rfl, (Array.getElem?_eq_some_iff.1 hheap).1, fun j t ht => ?_⟩⟩
    rw [List.getElem?_map] at ht
    obtain ⟨u, hu, rfl⟩ := Option.map_eq_some_iff.1 ht
    obtain ⟨a1, a2, a3⟩ := toksC_get s l j u hu
    have hjl := (List.getElem?_eq_some_iff.1 hu).1
    exact ⟨(h.cellAt (j * 3) (by omega)).trans a1, (h.cellAt (j * 3 + 1) (by omega)).trans a2, (h.cellAt (j * 3 + 2) (by omega)).trans a3⟩

def bsp : ByteArray := ⟨#[32]⟩
def bnl : ByteArray := ⟨#[10]⟩
def bno : ByteArray := ⟨#[]⟩
/-- Each token's text with what separates it from the one before. -/
def spL (sp : ByteArray) : List TokD → List (ByteArray × ByteArray)
  | [] => []
  | t :: ts => if t.k = 4 then (bno, bnl) :: spL bno ts else (sp, t.x) :: spL bsp ts
theorem spL_at {sp : ByteArray} {ts : List TokD} {k : Nat} {t : TokD} (h : ts[k]? = some t) : spL sp (ts.drop k) = if t.k = 4 then (bno, bnl) :: spL bno (ts.drop (k + 1)) else (sp, t.x) :: spL bsp (ts.drop (k + 1)) := by
  have hk := (List.getElem?_eq_some_iff.1 h).1
  rw [List.drop_eq_getElem_cons hk, (List.getElem?_eq_some_iff.1 h).2]
  rfl

set_option maxHeartbeats 400000 in
theorem spaced_any (a : Option Addr) (n c : Nat) (w : World) :
    Calls Try.prog 26 #[.slice a n c] w fun e w' => e = .returned (.func (.func 43) #[] #[.pointer (some ⟨w.heap.size, 0, none⟩)]) ∧ w.alloc (.cells #[.slice a n c] 29) = w' := by
  go_enter Try.func26, Try.ntmps26
  go_wp2
  go_ret
  exact ⟨rfl, rfl⟩

/-- The blocks of kp lie as they lay. -/
def KB (kp : Nat → Prop) (W W' : World) : Prop := W.heap.size ≤ W'.heap.size ∧ ∀ k o, kp k → W.heap[k]? = some o → W'.heap[k]? = some o
theorem KB.refl (kp : Nat → Prop) (W : World) : KB kp W W := ⟨Nat.le_refl _, fun _ _ _ h => h⟩
theorem KB.trans {kp : Nat → Prop} {A B C : World} (h : KB kp A B) (k : KB kp B C) : KB kp A C := ⟨Nat.le_trans h.1 k.1, fun i o hi hs => k.2 i o hi (h.2 i o hi hs)⟩
theorem KB.of_below {kp : Nat → Prop} {W W' : World} (h : Below W.heap.size W W') : KB kp W W' := ⟨h.size, fun k _ _ hs => (h.block k (Array.getElem?_eq_some_iff.1 hs).1).trans hs⟩
theorem KB.of_keep {kp : Nat → Prop} {e : TypeId} {m : Nat} {W W' : World} (h : Keep e kp m W W') : KB kp W W' := ⟨h.size, fun k o hk hs => h.block k o (.inl hk) hs⟩
def encS (x : ByteArray × ByteArray) : Array Value := #[.string x.1, .string x.2]
def SpRel (kp : Nat → Prop) (ts : List TokD) (J : List (ByteArray × ByteArray) → World → Prop) (W : World) (u i : Value) (wr : World) : Prop :=
  ∃ (k : Nat) (sp : ByteArray) (pr : List (ByteArray × ByteArray)), k ≤ ts.length ∧ u = .string sp ∧ i = .int .i64 (k : Int) ∧ J pr wr ∧ KB kp W wr ∧ Hid (spL bno ts = pr ++ spL sp (ts.drop k))
def SpEnd (ts : List TokD) (J Jx : List (ByteArray × ByteArray) → World → Prop) (e : Ending) (W' : World) : Prop :=
  (∃ v, e = .returned v) ∧ (J (spL bno ts) W' ∨ ∃ pre, pre <+: spL bno ts ∧ Jx pre W')

set_option maxRecDepth 100000 in
set_option maxHeartbeats 4000000 in
theorem spaced1_gives (n : Nat) (hn : 1 ≤ n) (n₀ : Nat) (v : Value) (ts : List TokD) (B1 : Nat) (w : World) (hB1 : w.heap[B1]? = some (.cells #[v] 29 (0, 0))) (hn₀ : n₀ ≤ w.heap.size) (hv : TokSl n₀ w v ts) :
    GivesTill Fence.wide n Try.prog 43 #[.pointer (some ⟨B1, 0, none⟩)] encS exN 5 (fun k => k < n₀ ∨ k = B1) (spL bno ts) w := by
  intro l J Jx W hW hJ hJx hY hJ0
  replace hY := Lib.hid (fun pre x W1 hj hp => yield_wide (m' := n - 1) (hY pre x W1 hj hp))
  have hlt1 := (Array.getElem?_eq_some_iff.1 hB1).1
  have hB : W.heap[B1]? = some (.cells #[v] 29 (0, 0)) := (hW.block B1 hlt1).trans hB1
  have c0 : W.cell? ⟨B1, 0, none⟩ = some v := cell_of_row W B1 0 _ _ (0, 0) hB
  have hWn : n₀ ≤ W.heap.size := Nat.le_trans hn₀ hW.size
  have hWB : B1 < W.heap.size := Nat.lt_of_lt_of_le hlt1 hW.size
  replace hv := hv.below (hW.mono hn₀)
  obtain ⟨hm, a, cap, rfl, hcell⟩ := hv
  unfold maxLen at hm
  replace hcell := Lib.hid hcell
  suffices H : CallsIn Fence.wide n Try.prog 43 (#[.func (.yield l) #[] #[]] ++ #[.pointer (some ⟨B1, 0, none⟩)]) W (SpEnd ts J Jx) from H.mono fun _ _ h => ⟨h.1, h.2⟩
  refine callsIn_of_wp Try.func43 rfl trivial ?_ rfl
  simp only [Try.ntmps43, List.size_toArray, List.length_cons, List.length_nil, Nat.reduceAdd, Nat.reduceSub, Array.replicate_succ, Array.replicate_zero, List.push_toArray, List.append_toArray, List.nil_append, List.cons_append]
  gi_wp2_with fail
  gi_loopw [3, 9] (fun u i wr => SpRel (fun k => k < n₀ ∨ k = B1) ts J W u i wr) (fun _ i _ => ts.length - (intOf i).toNat)
  case atStart => exact ⟨0, bno, [], by omega, rfl, rfl, hJ0, KB.refl _ _, Lib.hid rfl⟩
  case round =>
    obtain ⟨k, sp, pr, hk, rfl, rfl, hJr, hK, hYr⟩ := hrel
    by_cases hlt : k < ts.length
    · obtain ⟨b, rfl, hbn, hc⟩ := hcell.out (by omega)
      obtain ⟨t, ht⟩ : ∃ t, ts[k]? = some t := ⟨ts[k], List.getElem?_eq_getElem hlt⟩
      obtain ⟨e1, e2, e3⟩ := hc k t ht
      have t1 : decide (k < ts.length) = true := by simpa using hlt
      have blk : ∀ (o : Nat) (u : Value), W.cell? ⟨b, o, none⟩ = some u → wr.cell? ⟨b, o, none⟩ = some u := fun o u h => by
        obtain ⟨ob, hob⟩ : ∃ ob, W.heap[b]? = some ob := ⟨W.heap[b]'(by omega), Array.getElem?_eq_getElem (by omega)⟩
        have h2 := hK.2 b ob (.inl hbn) hob
        rw [← h]
        exact World.cell?_of_block (by rw [h2, hob])
      replace e1 := blk _ _ e1
      replace e2 := blk _ _ e2
      replace e3 := blk _ _ e3
      have hsp := spL_at (sp := sp) ht
      clear hc blk c0
      by_cases h4 : t.k = 4
      · have t4 : (t.k == 4) = true := by rw [h4]; rfl
        gi_upto_region 7 with fail
        have hT := TokAt.new wr 4 ⟨#[10]⟩ t.p
        have hJ4 := hJ _ _ _ hJr (Chg.alloc wr (.cells #[.int .u8 4, .string ⟨#[10]⟩, .int .i64 t.p] 58))
        have hK4 := hK.trans (KB.of_below ((Below.refl _ wr).alloc (Nat.le_refl _) (.cells #[.int .u8 4, .string ⟨#[10]⟩, .int .i64 t.p] 58)))
        generalize wr.alloc (.cells #[.int .u8 4, .string ⟨#[10]⟩, .int .i64 t.p] 58) = w4 at *
        have hY2 : Hid (spL bno ts = (pr ++ [(⟨#[]⟩, ⟨#[10]⟩)]) ++ spL ⟨#[]⟩ (ts.drop (k + 1))) := Lib.hid (by rw [hYr.out, hsp, if_pos h4, List.append_assoc]; rfl)
        have hpr : Hid (pr ++ [(⟨#[]⟩, ⟨#[10]⟩)] <+: spL bno ts) := Lib.hid ⟨_, hY2.out.symm⟩
        obtain ⟨fn, tmps, assign, body, hy, hRd⟩ := hY.out pr (⟨#[]⟩, ⟨#[10]⟩) w4 hJ4 hpr.out
        simp only [encS] at hy
        have c1 := hT.c1
        clear hT hJ4 hsp hJr hK e1 e2 e3
        gi_wp2
        refine hRd.mono ?_
        rintro e w5 ⟨hk5, ⟨rfl, hJ5⟩ | ⟨rfl, hJx5⟩⟩
        · gi_wp2
          go_roundw
          case rel => exact ⟨k + 1, ⟨#[]⟩, _, by omega, rfl, by go_num, hJ5, hK4.trans (KB.of_keep hk5), hY2⟩
          case measure => simp [intOf]; omega
        · gi_wp2
          refine bodyPost_ret (results_none rfl _ _ _) rfl ?_
          exact ⟨⟨_, rfl⟩, .inr ⟨_, hpr.out, hJx5⟩⟩
      · have t4 : (t.k == 4) = false := by simpa using h4
        gi_upto_region 7 with fail
        have hT := TokAt.new wr t.k t.x t.p
        have hJ4 := hJ _ _ _ hJr (Chg.alloc wr (.cells #[.int .u8 t.k, .string t.x, .int .i64 t.p] 58))
        have hK4 := hK.trans (KB.of_below ((Below.refl _ wr).alloc (Nat.le_refl _) (.cells #[.int .u8 t.k, .string t.x, .int .i64 t.p] 58)))
        generalize wr.alloc (.cells #[.int .u8 t.k, .string t.x, .int .i64 t.p] 58) = w4 at *
        have hY2 : Hid (spL bno ts = (pr ++ [(sp, t.x)]) ++ spL ⟨#[32]⟩ (ts.drop (k + 1))) := Lib.hid (by rw [hYr.out, hsp, if_neg h4, List.append_assoc]; rfl)
        have hpr : Hid (pr ++ [(sp, t.x)] <+: spL bno ts) := Lib.hid ⟨_, hY2.out.symm⟩
        obtain ⟨fn, tmps, assign, body, hy, hRd⟩ := hY.out pr (sp, t.x) w4 hJ4 hpr.out
        simp only [encS] at hy
        have c1 := hT.c1
        clear hT hJ4 hsp hJr hK e1 e2 e3
        gi_wp2
        refine hRd.mono ?_
        rintro e w5 ⟨hk5, ⟨rfl, hJ5⟩ | ⟨rfl, hJx5⟩⟩
        · gi_wp2
          go_roundw
          case rel => exact ⟨k + 1, ⟨#[32]⟩, _, by omega, rfl, by go_num, hJ5, hK4.trans (KB.of_keep hk5), hY2⟩
          case measure => simp [intOf]; omega
        · gi_wp2
          refine bodyPost_ret (results_none rfl _ _ _) rfl ?_
          exact ⟨⟨_, rfl⟩, .inr ⟨_, hpr.out, hJx5⟩⟩
    · obtain rfl : k = ts.length := by omega
      have t1 : decide (ts.length < ts.length) = false := by simp
      have hYe : Hid (spL bno ts = pr) := Lib.hid (by rw [hYr.out, List.drop_length]; simp [spL])
      gi_wp2
      go_end0
      exact ⟨⟨_, rfl⟩, .inl (by rw [hYe.out]; exact hJr)⟩
end Go.Proofs.Ytijipgiclkkfhaa
