/- The parser's locations. -/
import Derived.Maps.AppendAt
import Derived.Laws.AppendOwnNone
import Derived.Test.YtglbmiadgdadfaaParCur3
namespace Go.Proofs.Ytglbmiadgdadfaa
open Go.RowKit Go.Shelf

attribute [local go_sem] Oper.semAt_some
namespace PP
theorem cell_at_other (W : World) (b i j : Nat) (v : Value) (h : i ≠ j) : (W.setCell ⟨b, i, none⟩ v).cell? ⟨b, j, none⟩ = W.cell? ⟨b, j, none⟩ := by
  apply World.cell?_setCell_other; intro e; exact h (congrArg Addr.off e)
/-- Only what is still to be read has moved. -/
def Mv (s s' : PX.S) : Prop := ∃ l, s' = { s with rest := l }
theorem Mv.refl (s : PX.S) : Mv s s := ⟨s.rest, rfl⟩
theorem Mv.trans {a b c : PX.S} (h : Mv a b) (k : Mv b c) : Mv a c := by
  obtain ⟨l, rfl⟩ := h; obtain ⟨m, rfl⟩ := k; exact ⟨m, rfl⟩
theorem mv_take {l : List ByteArray} {s s' : PX.S} {t : TokD} (h : PX.take l s = .ok t s') : Mv s s' := by
  unfold PX.take PX.takeIf at h
  split at h
  · cases h; exact ⟨_, rfl⟩
  · cases h
theorem mv_takes {x : ByteArray} {s s' : PX.S} {r : Bool} (h : PX.takes x s = .ok r s') : Mv s s' := by
  unfold PX.takes at h
  split at h
  · rcases ht : PX.take [x] s with ⟨t, s1⟩ | ⟨pl, er⟩
    · rw [ht] at h; cases h; exact mv_take ht
    · rw [ht] at h; cases h
  · cases h; exact Mv.refl _
theorem mv_num {s s' : PX.S} {r : Int} (h : PX.num s = .ok r s') : Mv s s' := by
  unfold PX.num at h
  rcases ht : PX.take [PX.sNUM] s with ⟨t, s1⟩ | ⟨pl, er⟩
  · rw [ht] at h; cases h; exact mv_take ht
  · rw [ht] at h; cases h
theorem mv_reg {s s' : PX.S} {r : Int} (h : PX.reg s = .ok r s') : Mv s s' := by
  unfold PX.reg at h
  rcases ht : PX.take [PX.sREG] s with ⟨t, s1⟩ | ⟨pl, er⟩
  · rw [ht] at h; cases h; exact mv_take ht
  · rw [ht] at h; cases h
theorem mv_arg {s s' : PX.S} {r : PX.ArgD} (h : PX.arg s = .ok r s') : Mv s s' := by
  unfold PX.arg at h
  split at h
  · rcases ht : PX.reg s with ⟨t, s1⟩ | ⟨pl, er⟩
    · rw [ht] at h; cases h; exact mv_reg ht
    · rw [ht] at h; cases h
  · rcases ht : PX.num s with ⟨t, s1⟩ | ⟨pl, er⟩
    · rw [ht] at h; cases h; exact mv_num ht
    · rw [ht] at h; cases h
theorem own_sameT {W W' : World} {base n size : Nat} {e : TypeId} {v : Value} {xs : List Value} (ho : W.ownsRow base e size v n xs) (h : ∀ (g : Nat) (cur : Array Value), base ≤ g → W.heap[g]? = some (.cells cur e (0, 0)) → W'.heap[g]? = some (.cells cur e (0, 0))) : W'.ownsRow base e size v n xs := by
  refine ⟨ho.1, ho.2.imp id ?_⟩
  rintro ⟨g, cap, cur, rfl, h1, h2, h3⟩
  exact ⟨g, cap, cur, rfl, h1, h g cur h1 h2, h3⟩
theorem own_rowT {W : World} {base n size : Nat} {e : TypeId} {v : Value} {xs : List Value} (ho : W.ownsRow base e size v n xs) {g : Nat} (hg : v.ownBlock = some g) : base ≤ g ∧ ∃ cur, W.heap[g]? = some (.cells cur e (0, 0)) := by
  rcases ho.2 with ⟨rfl, _⟩ | ⟨g', cap, cur, rfl, h1, h2, _⟩
  · simp [Value.ownBlock] at hg
  · simp [Value.ownBlock] at hg; subst hg; exact ⟨h1, cur, h2⟩
theorem Fr.grown {T : List TypeId} {b base n size : Nat} {e : TypeId} {v : Value} {xs : List Value} {W W' : World} (ho : W.ownsRow base e size v n xs) (hb : b < base) (he : e ∈ T) (hg : W.grownBy W' v.ownBlock) : Fr T b W W' :=
  ⟨hg.os, hg.tape, hg.output, hg.size, fun k o hk hkb => by
    rw [hg.block k (lt_of_heap hk) (fun e' => by
      obtain ⟨h1, cur, h2⟩ := own_rowT ho e'.symm
      rw [hk] at h2
      cases h2
      rcases hkb with h | ⟨_, h⟩
      · omega
      · exact h e he _ _ rfl)]
    exact hk⟩
theorem grown_b {base n size b : Nat} {e : TypeId} {v : Value} {xs : List Value} {W W' : World} (ho : W.ownsRow base e size v n xs) (hb : b < base) (hlt : b < W.heap.size) (hg : W.grownBy W' v.ownBlock) : W'.heap[b]? = W.heap[b]? :=
  hg.block b hlt fun e' => by have := (own_rowT ho e'.symm).1; omega
theorem grown_row {base n size base2 n2 size2 : Nat} {e e2 : TypeId} {v v2 : Value} {xs xs2 : List Value} {W W' : World} (ho : W.ownsRow base e size v n xs) (ho2 : W.ownsRow base2 e2 size2 v2 n2 xs2) (he : e ≠ e2) (hg : W.grownBy W' v.ownBlock) : W'.ownsRow base2 e2 size2 v2 n2 xs2 :=
  own_sameT ho2 fun g cur _ hh => by
    rw [hg.block g (lt_of_heap hh) fun e' => by
      obtain ⟨_, cur', h'⟩ := own_rowT ho e'.symm
      rw [hh] at h'; cases h'; exact he rfl]
    exact hh
theorem own_formT {W : World} {base n size : Nat} {e : TypeId} {v : Value} {xs : List Value} (ho : W.ownsRow base e size v (n + 1) xs) : ∃ g cap, v = .slice (some ⟨g, 0, none⟩) (n + 1) cap := by
  rcases ho.2 with ⟨rfl, h⟩ | ⟨g, cap, cur, rfl, _⟩
  · exact absurd h (by omega)
  · exact ⟨g, cap, rfl⟩
theorem one_cell (w : World) (v : Value) (t : TypeId) : ∀ (j : Nat) (u : Value), [v][j]? = some u → (w.alloc (.cells #[v] t)).cell? (Addr.add ⟨w.heap.size, 0, none⟩ j) = some u := fun j u hu => by
  have hj : j = 0 := by have := (List.getElem?_eq_some_iff.1 hu).1; simpa using this
  subst hj; cases hu
  exact cell_of_row _ _ 0 _ _ _ (heap_alloc_new w (.cells #[v] t))
/-- The names of the locations: the parser's own row, or given ones. -/
def LocsOk (W : World) (b : Nat) (opn : Bool) (v : Value) (l : List ByteArray) : Prop :=
  (opn = true → W.ownsRow (b + 1) 9 1 v l.length (l.map .string) ∧ l.length ≤ 6) ∧
  (opn = false → l.length ≤ maxLen ∧ ∃ (a : Option Addr) (cap : Nat), v = .slice a l.length cap ∧ (0 < l.length → ∃ (g off : Nat) (o : Obj), a = some ⟨g, off, none⟩ ∧ g < b ∧ W.heap[g]? = some o ∧ ∀ (j : Nat) (x : ByteArray), l[j]? = some x → ∀ U : World, U.heap[g]? = some o → U.cell? ⟨g, off + j, none⟩ = some (.string x)))
theorem LocsOk.sl {W : World} {b : Nat} {opn : Bool} {v : Value} {l : List ByteArray} (h : LocsOk W b opn v l) : StrC W v l := by
  cases opn
  · obtain ⟨h1, a, cap, rfl, h2⟩ := h.2 rfl
    refine ⟨h1, a, cap, rfl, fun h0 => ?_⟩
    obtain ⟨g, off, o, rfl, -, h3, h4⟩ := h2 h0
    exact ⟨g, off, rfl, fun j x hx => h4 j x hx W h3⟩
  · obtain ⟨ho, h6⟩ := h.1 rfl
    refine ⟨by unfold maxLen; omega, ?_⟩
    rcases ho.2 with ⟨rfl, h0⟩ | ⟨g, cap, cur, rfl, hg, hheap, hnc, hc1, hc2, hc3⟩
    · exact ⟨none, 0, by rw [h0], fun h => by omega⟩
    · refine ⟨_, cap, rfl, fun _ => ⟨g, 0, rfl, fun j x hj => ?_⟩⟩
      have := ho.cellAt j (by have := (List.getElem?_eq_some_iff.1 hj).1; omega)
      rw [List.getElem?_map, hj] at this
      rw [Nat.zero_add]; exact this
theorem LocsOk.up {W W' : World} {b : Nat} {opn : Bool} {v : Value} {l : List ByteArray} (h : LocsOk W b opn v l) (F : Fr [] b W W') : LocsOk W' b opn v l := by
  refine ⟨fun ho => ⟨own_sameT (h.1 ho).1 fun g cur hg hh => F.box hh (by omega) (by simp), (h.1 ho).2⟩, fun ho => ?_⟩
  obtain ⟨h1, a, cap, rfl, h2⟩ := h.2 ho
  refine ⟨h1, a, cap, rfl, fun h0 => ?_⟩
  obtain ⟨g, off, o, rfl, hg, h3, h4⟩ := h2 h0
  exact ⟨g, off, o, rfl, hg, F.block g o h3 (.inl hg), h4⟩
/-- Block b holds the parser, and its locations and their values stand. -/
structure LS (W : World) (b : Nat) (s : PX.S) (h : Hd) : Prop where
  ps : PS W b s h
  locs : LocsOk W b s.opn h.vl s.locs
  init : s.opn = true → W.ownsRow (b + 1) 5 1 h.vi s.locs.length (s.init.map (.int .u8))
theorem LS.up {W W' : World} {b : Nat} {s s' : PX.S} {h : Hd} (L : LS W b s h) (F : Fr [] b W W') (m : Mv s s') (P : PS W' b s' h) : LS W' b s' h := by
  obtain ⟨l, rfl⟩ := m
  exact ⟨P, L.locs.up F, fun ho => own_sameT (L.init ho) fun g cur hg hh => F.box hh (by omega) (by simp)⟩
theorem LS.below {W W' : World} {b : Nat} {s : PX.S} {h : Hd} (L : LS W b s h) (B : Below W.heap.size W W') : LS W' b s h :=
  L.up (.of_below B) (Mv.refl s) (L.ps.below B)
/-- The types of the parser's own rows. -/
def T1 : List TypeId := [9, 5]
/-- What a part of the parser answers that may make locations. -/
def Ends1 {α : Type} (W : World) (b : Nat) (h : Hd) (enc : α → Value) (r : PX.R α) (e : Ending) (W' : World) : Prop :=
  Fr T1 b W W' ∧ match r with
    | .ok a s => e = .returned (enc a) ∧ ∃ vl vi, LS W' b s { h with vl := vl, vi := vi }
    | .bad p x => e = failE p x
theorem infoStr : ∃ i : TypeInfo, Try.prog.info? 9 = some i ∧ i.zero = some (.string ⟨#[]⟩) ∧ i.size = 1 ∧ i.bytes = 16 := by
  have h : (Try.prog.info? 9).map (fun i => (i.zero, i.size, i.bytes)) = some (some (.string ⟨#[]⟩), 1, 16) := by kernel_rfl
  cases hi : Try.prog.info? 9 with
  | none => rw [hi] at h; cases h
  | some i =>
    rw [hi] at h
    simp only [Option.map_some, Option.some.injEq, Prod.mk.injEq] at h
    exact ⟨i, rfl, h.1, h.2.1, h.2.2⟩
theorem infoU8 : ∃ i : TypeInfo, Try.prog.info? 5 = some i ∧ i.zero = some (.int .u8 0) ∧ i.size = 1 ∧ i.bytes = 1 := by
  have h : (Try.prog.info? 5).map (fun i => (i.zero, i.size, i.bytes)) = some (some (.int .u8 0), 1, 1) := by kernel_rfl
  cases hi : Try.prog.info? 5 with
  | none => rw [hi] at h; cases h
  | some i =>
    rw [hi] at h
    simp only [Option.map_some, Option.some.injEq, Prod.mk.injEq] at h
    exact ⟨i, rfl, h.1, h.2.1, h.2.2⟩

set_option maxRecDepth 100000 in
set_option maxHeartbeats 8000000 in
theorem addLoc_any (b : Nat) (s : PX.S) (h : Hd) (x : ByteArray) (pl : Int) (w : World) (L : LS w b s h) :
    Calls Try.prog 74 #[.pointer (some ⟨b, 0, none⟩), .string x, .int .i64 pl] w (Ends1 w b h (fun _ => .tuple #[]) (PX.addLoc x pl s)) := by
  obtain ⟨vr, q1, -⟩ := L.ps
  have c3 := cell_of_row _ b 3 _ _ _ q1
  have c2 := cell_of_row _ b 2 _ _ _ q1
  have c6 := cell_of_row _ b 6 _ _ _ q1
  have hblt := lt_of_heap q1
  unfold psC at c2 c3 c6
  simp only [List.getElem?_toArray, List.getElem?_cons_zero, List.getElem?_cons_succ] at c2 c3 c6
  have hF := Lib.hid fun W e => fail_any pl e W
  unfold PX.addLoc
  cases ho : s.opn
  · rw [if_neg (by simp)]
    rw [ho] at c3
    go_enter Try.func74, Try.ntmps74
    go_wp2_with (first | (go_at_call 28; refine (hF.out _ _).mono ?_; rintro e w4 ⟨rfl, rfl⟩))
    refine ⟨rfl, Fr.refl _ _ _, ?_⟩
    show Ending.panicked _ = failE _ _; symm; assumption
  · rw [if_pos rfl]
    rw [ho] at c3
    obtain ⟨n, hn⟩ : ∃ n, s.locs.length = n := ⟨_, rfl⟩
    obtain ⟨a, cap, hvl⟩ : ∃ a cap, h.vl = .slice a n cap := by
      obtain ⟨_, a, cap, e, _⟩ := L.locs.sl; exact ⟨a, cap, by rw [e, hn]⟩
    obtain ⟨hr, h6⟩ := L.locs.1 ho
    by_cases h6' : s.locs.length = 6
    · rw [if_pos h6']
      have hn6 : n = 6 := by omega
      subst hn6
      rw [hvl] at c2
      go_enter Try.func74, Try.ntmps74
      go_wp2_with (first | (go_at_call 28; refine (hF.out _ _).mono ?_; rintro e w4 ⟨rfl, rfl⟩))
      refine ⟨rfl, Fr.refl _ _ _, ?_⟩
      show Ending.panicked _ = failE _ _; symm; assumption
    · rw [if_neg h6']
      have t1 : ((n : Int) == 6) = false := by simp; omega
      have hr' := hr
      rw [hn] at hr'
      rw [hvl] at c2 hr'
      obtain ⟨i0, hi0, hz0, hz1, hz2⟩ := infoStr
      obtain ⟨j0, hj0, hy0, hy1, hy2⟩ := infoU8
      have fb : w.frozen? ⟨b, 2, none⟩ = false := frozen_of_row _ b 2 _ _ q1
      have r1 := Lib.hid (World.ownsRow.alloc hr' (.cells #[.string x] 9))
      have r2 := Lib.hid (one_cell w (.string x) 9)
      have r3 : Hid (∀ u ∈ [Value.string x], u.oneCell' = true) := Lib.hid fun u hu => by simp at hu; subst hu; rfl
      have s3 : Hid (∀ u ∈ [Value.int .u8 0], u.oneCell' = true) := Lib.hid fun u hu => by simp at hu; subst hu; rfl
      have hI := Lib.hid (World.ownsRow.alloc (L.init ho) (.cells #[.string x] 9))
      have B1 := (Below.refl w.heap.size w).alloc (Nat.le_refl _) (.cells #[.string x] 9)
      have hTk := Lib.hid L.ps
      replace B1 := Lib.hid B1
      rw [hn] at hI
      go_enter Try.func74, Try.ntmps74
      go_wp2_with (first
        | (at_builtin; refine wpList_append_own_at _ rfl _ _ 29 rfl (b + 1) 9 i0 _ 1 16 Try.underlying29 hi0 hz0 hz1 hz2 rfl (by decide) _ _ _ rfl r1.out ⟨w.heap.size, 0, none⟩ 1 1 _ rfl rfl r2.out r3.out (by unfold maxLen; omega) (by omega) (by simp; omega) ?_; intro v' w1 hown' hgrow _ _
           have hfr := Fr.trans (Fr.of_below (T := T1) (b := b) B1.out) (Fr.grown (T := T1) r1.out (by omega) (by simp [T1]) hgrow)
           have hI1 := grown_row r1.out hI.out (by decide) hgrow
           have hb1 := (grown_b r1.out (by omega) (by simp; omega) hgrow).trans ((B1.out.block b hblt).trans q1)
           obtain ⟨g', cap', rfl⟩ := own_formT hown'
           have e2 := cell_of_row _ b 2 _ _ _ hb1
           have e6 := (cell_at_other w1 b 2 6 (.slice (some ⟨g', 0, none⟩) (n + 1) cap') (by omega)).trans (cell_of_row _ b 6 _ _ _ hb1)
           have fb2 : w1.frozen? ⟨b, 2, none⟩ = false := frozen_of_row _ b 2 _ _ hb1
           unfold psC at e2 e6
           simp only [List.getElem?_toArray, List.getElem?_cons_zero, List.getElem?_cons_succ] at e2 e6
           have hb2 := heap_setCell_same w1 b 2 _ _ (.slice (some ⟨g', 0, none⟩) (n + 1) cap') hb1
           have hI2 := own_sameT (W' := w1.setCell ⟨b, 2, none⟩ (.slice (some ⟨g', 0, none⟩) (n + 1) cap')) hI1 fun g cur hg hh => (Below.heap_setCell w1 ⟨b, 2, none⟩ _ g (by show g ≠ b; omega)).trans hh
           have hL2 := own_sameT (W' := w1.setCell ⟨b, 2, none⟩ (.slice (some ⟨g', 0, none⟩) (n + 1) cap')) hown' fun g cur hg hh => (Below.heap_setCell w1 ⟨b, 2, none⟩ _ g (by show g ≠ b; omega)).trans hh
           have s1 := Lib.hid (World.ownsRow.alloc hI2 (.cells #[.int .u8 0] 5))
           have l1 := Lib.hid (World.ownsRow.alloc hL2 (.cells #[.int .u8 0] 5))
           have s2 := one_cell (w1.setCell ⟨b, 2, none⟩ (.slice (some ⟨g', 0, none⟩) (n + 1) cap')) (.int .u8 0) 5
           simp only [World.size_setCell] at s2
           replace s2 := Lib.hid s2
           have hfr2 := Lib.hid ((hfr.setB 2 (.slice (some ⟨g', 0, none⟩) (n + 1) cap')).alloc (.cells #[.int .u8 0] 5))
           have hb3 := Lib.hid ((((Below.refl _ (w1.setCell ⟨b, 2, none⟩ (.slice (some ⟨g', 0, none⟩) (n + 1) cap'))).alloc (Nat.le_refl _) (.cells #[.int .u8 0] 5)).block b (by have := lt_of_heap hb1; simpa using this)).trans hb2)
           have hs1 := lt_of_heap hb1
           clear hI1; clear hI2; clear hL2; clear hown'; clear hgrow; clear hfr; clear hb2)
        | (at_builtin; refine wpList_append_own_at _ rfl _ _ 36 rfl (b + 1) 5 j0 _ 1 1 Try.underlying36 hj0 hy0 hy1 hy2 rfl (by decide) _ _ _ rfl s1.out ⟨w1.heap.size, 0, none⟩ 1 1 _ rfl rfl s2.out s3.out (by unfold maxLen; omega) (by omega) (by simp; omega) ?_; intro v'' w3 hown3 hgrow3 _ _
           have hfr3 := Fr.trans hfr2.out (Fr.grown (T := T1) s1.out (by omega) (by simp [T1]) hgrow3)
           have hl3 := grown_row s1.out l1.out (by decide) hgrow3
           have hb4 := (grown_b s1.out (by omega) (by simp; omega) hgrow3).trans hb3.out
           obtain ⟨g2, cap2, rfl⟩ := own_formT hown3
           have e63 : w3.cell? ⟨b, 6, none⟩ = some h.vi := cell_of_row _ b 6 _ _ _ hb4
           have fb3 : w3.frozen? ⟨b, 6, none⟩ = false := frozen_of_row _ b 6 _ _ hb4))
      go_end0
      have F := hfr3.setB 6 (.slice (some ⟨g2, 0, none⟩) (n + 1) cap2)
      have hb5 := heap_setCell_same w3 b 6 _ _ (.slice (some ⟨g2, 0, none⟩) (n + 1) cap2) hb4
      have hset : ∀ (g : Nat) (o : Obj), b + 1 ≤ g → w3.heap[g]? = some o → (w3.setCell ⟨b, 6, none⟩ (.slice (some ⟨g2, 0, none⟩) (n + 1) cap2)).heap[g]? = some o := fun g o hg hh => (Below.heap_setCell w3 ⟨b, 6, none⟩ _ g (by show g ≠ b; omega)).trans hh
      have hl5 := own_sameT hl3 fun g cur hg hh => hset g _ hg hh
      have hi5 := own_sameT hown3 fun g cur hg hh => hset g _ hg hh
      obtain ⟨vr', p1, p2, p3, p4⟩ := hTk.out
      have hvr : vr' = vr := by
        rw [q1] at p1
        simp only [Option.some.injEq, Obj.cells.injEq, psC] at p1
        have := congrArg (fun a : Array Value => a[0]?) p1.1
        simpa using this.symm
      subst hvr
      refine ⟨F, rfl, .slice (some ⟨g', 0, none⟩) (n + 1) cap', .slice (some ⟨g2, 0, none⟩) (n + 1) cap2, ⟨⟨vr', hb5.trans ?_, p2.same fun C hC => F.box hC (fun e => by rw [e, q1] at hC; cases hC) (by simp [T1]), p3, Nat.lt_of_lt_of_le p4 F.size⟩, ⟨fun _ => ⟨?_, ?_⟩, fun hh => by cases hh⟩, fun _ => ?_⟩⟩
      · rw [← ho]; rfl
      · have e1 : (s.locs ++ [x]).length = n + 1 := by simp [hn]
        have e2 : (s.locs ++ [x]).map Value.string = s.locs.map Value.string ++ [Value.string x] := by simp
        show World.ownsRow _ _ _ _ _ (s.locs ++ [x]).length ((s.locs ++ [x]).map Value.string)
        rw [e1, e2]
        exact hl5
      · show (s.locs ++ [x]).length ≤ 6
        simp; omega
      · have e1 : (s.locs ++ [x]).length = n + 1 := by simp [hn]
        have e2 : (s.init ++ [0]).map (Value.int .u8) = s.init.map (Value.int .u8) ++ [Value.int .u8 0] := by simp
        show World.ownsRow _ _ _ _ _ (s.locs ++ [x]).length ((s.init ++ [0]).map (Value.int .u8))
        rw [e1, e2]
        exact hi5
end PP
end Go.Proofs.Ytglbmiadgdadfaa
