/- lex.Lex. -/
import Derived.Maps.AppendAt
import Derived.RegionIn
import Derived.Maps.OwnIn
import Derived.Shelf.Abstract
import Derived.RangeFuncBox
import Derived.RangeFuncKeeps
import Derived.RangeFuncRecord
import Derived.RangeFuncLeaves
import Derived.Test.YtglbmiadgdadfaaLexToks
namespace Go.Proofs.Ytglbmiadgdadfaa
open Go.RowKit Go.Shelf

attribute [local go_sem] Oper.semAt_some
namespace LX
/-- What Lex answers. -/
def out (L : List UInt8) : List Tk × Nat × Nat :=
  if 16384 < L.length then ([], 0, 3)
  else match (ys L 0 false).find? (fun x => x.2 != 0) with
    | some x => ([], x.1.lo, x.2)
    | none => ((ys L 0 false).map (·.1), 0, 0)
end LX
def tokC (s : ByteArray) (t : LX.Tk) : List Value := [.int .u8 (t.kind : Int), .string (s.extract t.lo t.hi), .int .i64 (t.lo : Int)]
def toksC (s : ByteArray) (l : List LX.Tk) : List Value := l.flatMap (tokC s)
theorem toksC_length (s : ByteArray) : ∀ l : List LX.Tk, (toksC s l).length = l.length * 3
  | [] => rfl
  | t :: l => by
    have := toksC_length s l
    unfold toksC at *
    rw [List.flatMap_cons, List.length_append, this, List.length_cons]
    simp [tokC]; omega
theorem toksC_snoc (s : ByteArray) (l : List LX.Tk) (t : LX.Tk) : toksC s (l ++ [t]) = toksC s l ++ tokC s t := by unfold toksC; simp

theorem Chg.boxedL {B b : Nat} {W W' : World} {t : TypeId} {v : Value} (h : Chg exL B 0 W W') (hb : Boxed W b t v) (ht : t ≠ 83) : Boxed W' b t v :=
  h.block b _ (.inr ⟨rfl, fun ⟨_, _, he⟩ => ht (by cases he; rfl)⟩) hb
theorem Chg.ownL {B base n : Nat} {W W' : World} {v : Value} {xs : List Value} (h : Chg exL B 0 W W') (ho : W.ownsRow base 61 3 v n xs) : W'.ownsRow base 61 3 v n xs := by
  refine ⟨ho.1, ho.2.imp id ?_⟩
  rintro ⟨g, cap, cur, rfl, h1, h2, h3⟩
  exact ⟨g, cap, cur, rfl, h1, h.block g _ (.inr ⟨rfl, fun ⟨_, _, he⟩ => by cases he⟩) h2, h3⟩
theorem Chg.belowL {ex : Nat → Nat → Obj → Prop} {B g n : Nat} {w W W' : World} (h : Chg ex B g W W') (hb : Below n w W) (hB : n ≤ B) (hn : n ≤ w.heap.size) : Below n w W' :=
  ⟨h.os.trans hb.os, h.tape.trans hb.tape, h.output.trans hb.output, Nat.le_trans hb.size h.size, fun k hk => by
    obtain ⟨o, ho⟩ : ∃ o, W.heap[k]? = some o := ⟨W.heap[k]'(by have := hb.size; omega), Array.getElem?_eq_getElem (by have := hb.size; omega)⟩
    rw [h.block k o (.inl (by omega)) ho, ← ho, hb.block k hk]⟩
theorem own_same {W W' : World} {base n : Nat} {v : Value} {xs : List Value} (ho : W.ownsRow base 61 3 v n xs) (h : ∀ g cur, v.ownBlock = some g → W.heap[g]? = some (.cells cur 61 (0, 0)) → W'.heap[g]? = some (.cells cur 61 (0, 0))) : W'.ownsRow base 61 3 v n xs := by
  refine ⟨ho.1, ho.2.imp id ?_⟩
  rintro ⟨g, cap, cur, rfl, h1, h2, h3⟩
  exact ⟨g, cap, cur, rfl, h1, h g cur rfl h2, h3⟩
theorem own_row {W : World} {base n : Nat} {v : Value} {xs : List Value} (ho : W.ownsRow base 61 3 v n xs) {g : Nat} (hg : v.ownBlock = some g) : ∃ cur, W.heap[g]? = some (.cells cur 61 (0, 0)) := by
  rcases ho.2 with ⟨rfl, _⟩ | ⟨g', cap, cur, rfl, _, h2, _⟩
  · simp [Value.ownBlock] at hg
  · simp [Value.ownBlock] at hg; subst hg; exact ⟨cur, h2⟩
theorem own_ne {W : World} {base n b : Nat} {v u : Value} {xs : List Value} {t : TypeId} (ho : W.ownsRow base 61 3 v n xs) (hb : Boxed W b t u) (ht : t ≠ 61) : v.ownBlock ≠ some b := fun hg => by
  obtain ⟨cur, h⟩ := own_row ho hg
  unfold Boxed at hb
  rw [hb] at h; cases h; exact ht rfl
theorem own_set {W : World} {base n b : Nat} {v u : Value} {xs : List Value} {t : TypeId} (ho : W.ownsRow base 61 3 v n xs) (hb : Boxed W b t u) (ht : t ≠ 61) (u' : Value) : (W.setCell ⟨b, 0, none⟩ u').ownsRow base 61 3 v n xs :=
  own_same ho fun g cur hg hh => (Below.heap_setCell W ⟨b, 0, none⟩ u' g (by rintro rfl; exact own_ne ho hb ht hg)).trans hh
theorem own_form {W : World} {base n : Nat} {v : Value} {xs : List Value} (ho : W.ownsRow base 61 3 v n xs) : v = .slice none 0 0 ∨ ∃ g n cap, v = .slice (some ⟨g, 0, none⟩) n cap := by
  rcases ho.2 with ⟨rfl, h⟩ | ⟨g, cap, cur, rfl, _⟩
  · exact .inl rfl
  · exact .inr ⟨g, _, cap, rfl⟩
theorem own_succ {W : World} {base n : Nat} {v : Value} {xs : List Value} (ho : W.ownsRow base 61 3 v (n + 1) xs) : ∃ g cap, v = .slice (some ⟨g, 0, none⟩) (n + 1) cap := by
  rcases ho.2 with ⟨rfl, h⟩ | ⟨g, cap, cur, rfl, _⟩
  · exact absurd h (by omega)
  · exact ⟨g, cap, rfl⟩
namespace LX
theorem ys_len : ∀ (n : Nat) {L : List UInt8} {i : Nat} {u : Bool}, L.length - i = n → (ys L i u).length ≤ 2 * n + if u then 1 else 0 := by
  intro n
  induction n using Nat.strongRecOn with
  | _ n ih =>
    intro L i u hn
    by_cases h : i < L.length
    · have hr := clAt_range L i
      have : clAt L i = 0 ∨ clAt L i = 1 ∨ clAt L i = 2 ∨ clAt L i = 3 ∨ clAt L i = 4 ∨ clAt L i = 5 ∨ clAt L i = 6 ∨ clAt L i = 7 := by omega
      have step : ∀ (j : Nat), i < j → (ys L j true).length + 1 ≤ 2 * n := fun j hj => by
        have := ih (L.length - j) (by omega) (u := true) rfl
        simp at this; omega
      rcases this with hc | hc | hc | hc | hc | hc | hc | hc
      · rw [ys_stray h (.inl hc)]; simp; omega
      · rw [ys_blank h hc]; have := ih (L.length - (i + 1)) (by omega) (u := u) rfl; omega
      · rw [ys_newline h hc, List.length_append]
        have := ih (L.length - (i + 1)) (by omega) (u := false) rfl
        cases u <;> simp at this ⊢ <;> omega
      · rw [ys_hash h hc]; have hg := run_gt (p := inC) h (by rw [hc]; rfl); have := ih (L.length - run inC L i) (by omega) (u := u) rfl; omega
      · rw [ys_word h hc]
        split
        · simp; omega
        · have := step _ (run_gt (p := inW) h (by rw [hc]; rfl)); simp only [List.length_cons]; omega
      · rw [ys_num h hc]
        split
        · have := step _ (run_gt (p := inN) h (by rw [hc]; rfl)); simp only [List.length_cons]; omega
        · simp; omega
      · rw [ys_stray h (.inr hc)]; simp; omega
      · rw [ys_sign h hc]
        have := step (i + signLen L i) (by have := signLen_pos L i; omega); simp only [List.length_cons]; omega
    · rw [ys_end (by omega)]; cases u <;> simp
theorem out_ok {L : List UInt8} (h : L.length ≤ 16384) (h0 : ∀ x ∈ ys L 0 false, x.2 = 0) : out L = ((ys L 0 false).map (·.1), 0, 0) := by
  unfold out
  rw [if_neg (by omega)]
  have : (ys L 0 false).find? (fun x => x.2 != 0) = none := by rw [List.find?_eq_none]; intro x hx; simp [h0 x hx]
  rw [this]
theorem out_bad {L : List UInt8} (h : L.length ≤ 16384) {pre : List (Tk × Nat)} {x : Tk × Nat} (hp : pre ++ [x] <+: ys L 0 false) (h0 : ∀ y ∈ pre, y.2 = 0) (hx : x.2 ≠ 0) : out L = ([], x.1.lo, x.2) := by
  obtain ⟨r, hr⟩ := hp
  unfold out
  rw [if_neg (by omega), ← hr, List.append_assoc, List.find?_append]
  have : pre.find? (fun x => x.2 != 0) = none := by rw [List.find?_eq_none]; intro x hx; simp [h0 x hx]
  rw [this]
  simp [hx]
theorem out_big {L : List UInt8} (h : 16384 < L.length) : out L = ([], 0, 3) := by unfold out; rw [if_pos h]
end LX
theorem infoTok : ∃ i : TypeInfo, Try.prog.info? 61 = some i ∧ i.zero = some (.agg #[.int .u8 0, .string ⟨#[]⟩, .int .i64 0]) ∧ i.size = 3 ∧ i.bytes = 32 := by
  have h : (Try.prog.info? 61).map (fun i => (i.zero, i.size, i.bytes)) = some (some (.agg #[.int .u8 0, .string ⟨#[]⟩, .int .i64 0]), 3, 32) := by kernel_rfl
  cases hi : Try.prog.info? 61 with
  | none => rw [hi] at h; cases h
  | some i =>
    rw [hi] at h
    simp only [Option.map_some, Option.some.injEq, Prod.mk.injEq] at h
    exact ⟨i, rfl, h.1, h.2.1, h.2.2⟩
/-- What the loop of Lex carries: all so far are valid, and lie in the row; or the first invalid one has been met. -/
def LexI (s : ByteArray) (w : World) (pre : List (LX.Tk × Nat)) (W : World) : Prop :=
  (∀ x ∈ pre, x.2 = 0) ∧ (∃ v, Boxed W w.heap.size 49 v ∧ W.ownsRow w.heap.size 61 3 v pre.length (toksC s (pre.map (·.1)))) ∧
    Boxed W (w.heap.size + 1) 3 (.int .i64 0) ∧ Boxed W (w.heap.size + 1 + 1) 30 (.int .i64 0) ∧ Below w.heap.size w W
def LexX (w : World) (c : Code) (pre : List (LX.Tk × Nat)) (W : World) : Prop :=
  c = .ret ∧ (∃ pre' x, pre = pre' ++ [x] ∧ (∀ y ∈ pre', y.2 = 0) ∧ x.2 ≠ 0 ∧ Boxed W w.heap.size 49 (.slice none 0 0) ∧ Boxed W (w.heap.size + 1) 3 (.int .i64 (x.1.lo : Int)) ∧ Boxed W (w.heap.size + 1 + 1) 30 (.int .i64 (x.2 : Int))) ∧ Below w.heap.size w W

def LexPost (s : ByteArray) (w : World) (e : Ending) (w' : World) : Prop :=
  ∃ v, e = .returned (.tuple #[v, .int .i64 ((LX.out (bsOf s)).2.1 : Int), .int .i64 ((LX.out (bsOf s)).2.2 : Int)]) ∧
    w'.ownsRow w.heap.size 61 3 v (LX.out (bsOf s)).1.length (toksC s (LX.out (bsOf s)).1) ∧ Below w.heap.size w w'

set_option maxRecDepth 100000 in
set_option maxHeartbeats 1000000 in
theorem lex_big (s : ByteArray) (w : World) (hbig : 16384 < s.size) : Calls Try.prog 15 #[.string s] w (LexPost s w) := by
  have t1 : decide (16384 < (s.size : Int)) = true := by simp; omega
  have hout := Lib.hid (LX.out_big (L := bsOf s) (by rw [bsOf_length]; exact hbig))
  have b2 := Boxed.new w 49 (.slice none 0 0)
  have b3 := Boxed.new (w.alloc (.cells #[.slice none 0 0] 49)) 3 (.int .i64 0)
  have b4 := Boxed.new ((w.alloc (.cells #[.slice none 0 0] 49)).alloc (.cells #[.int .i64 0] 3)) 30 (.int .i64 3)
  simp only [World.size_alloc] at b3 b4
  replace b2 := (b2.alloc (.cells #[.int .i64 0] 3)).alloc (.cells #[.int .i64 3] 30)
  replace b3 := b3.alloc (.cells #[.int .i64 3] 30)
  have hB : Below w.heap.size w (((w.alloc (.cells #[.slice none 0 0] 49)).alloc (.cells #[.int .i64 0] 3)).alloc (.cells #[.int .i64 3] 30)) :=
    (((Below.refl _ w).alloc (Nat.le_refl _) _).alloc (by simp) _).alloc (by simp; omega) _
  go_enter Try.func15, Try.ntmps15
  go_wp2
  generalize ((w.alloc (.cells #[.slice none 0 0] 49)).alloc (.cells #[.int .i64 0] 3)).alloc (.cells #[.int .i64 3] 30) = W1 at *
  have k1 := b2.cell
  have k2 := b3.cell
  have k3 := b4.cell
  refine bodyPost_ret (v := .tuple #[.slice none 0 0, .int .i64 0, .int .i64 3]) (by simp [results, Try.f15, go_sem, k1, k2, k3]) rfl ?_
  unfold LexPost
  rw [hout.out]
  exact ⟨_, rfl, World.ownsRow_nil _ _ _ _, hB⟩

set_option maxRecDepth 100000 in
set_option maxHeartbeats 4000000 in
theorem lex_in (s : ByteArray) (w : World) : CallsIn Fence.wide 7 Try.prog 15 #[.string s] w (LexPost s w) := by
  have hlen := Lib.hid (bsOf_length s)
  by_cases hbig : 16384 < s.size
  · exact callsIn_wide.2 (lex_big s w hbig)
  · have t1 : decide (16384 < (s.size : Int)) = false := by simp; omega
    have b2 := Boxed.new w 49 (.slice none 0 0)
    have b3 := Boxed.new (w.alloc (.cells #[.slice none 0 0] 49)) 3 (.int .i64 0)
    have b4 := Boxed.new ((w.alloc (.cells #[.slice none 0 0] 49)).alloc (.cells #[.int .i64 0] 3)) 30 (.int .i64 0)
    simp only [World.size_alloc] at b3 b4
    replace b2 := (b2.alloc (.cells #[.int .i64 0] 3)).alloc (.cells #[.int .i64 0] 30)
    replace b3 := b3.alloc (.cells #[.int .i64 0] 30)
    have hB : Below w.heap.size w (((w.alloc (.cells #[.slice none 0 0] 49)).alloc (.cells #[.int .i64 0] 3)).alloc (.cells #[.int .i64 0] 30)) :=
      (((Below.refl _ w).alloc (Nat.le_refl _) _).alloc (by simp) _).alloc (by simp; omega) _
    have hz : (((w.alloc (.cells #[.slice none 0 0] 49)).alloc (.cells #[.int .i64 0] 3)).alloc (.cells #[.int .i64 0] 30)).heap.size = w.heap.size + 1 + 1 + 1 := by simp
    refine callsIn_of_wp_marks Try.func15 rfl trivial ?_ rfl
    simp only [Try.ntmps15, List.size_toArray, List.length_cons, List.length_nil, Nat.reduceAdd, Nat.reduceSub, Array.replicate_succ, Array.replicate_zero, List.push_toArray, List.append_toArray, List.nil_append, List.cons_append]
    gi_wp2_with fail
    generalize ((w.alloc (.cells #[.slice none 0 0] 49)).alloc (.cells #[.int .i64 0] 3)).alloc (.cells #[.int .i64 0] 30) = W1 at *
    refine ⟨trivial, ?_⟩
    refine (callsIn_wide.2 (tokens_any s W1)).mono ?_
    rintro e w2 ⟨rfl, h2⟩
    have hS2 : w2.heap[W1.heap.size]? = some (.cells #[.string s] 9 (0, 0)) := by rw [← h2]; exact heap_alloc_new W1 _
    have hB2 : Below W1.heap.size W1 w2 := by rw [← h2]; exact (Below.refl _ W1).alloc (Nat.le_refl _) _
    clear h2
    have hz2 := hB2.size
    have hI0 : LexI s w [] w2 := ⟨by simp, ⟨_, (hB2.block _ (by omega)).trans b2, World.ownsRow_nil _ _ _ _⟩, (hB2.block _ (by omega)).trans b3, (hB2.block _ (by omega)).trans b4, hB.trans (hB2.mono hB.size)⟩
    clear b2 b3 b4 hB hB2
    rw [hz] at hz2 hS2
    gi_wp2_with fail
    refine range_till rfl (by omega) (gf := 29) (lb := #[.pointer (some ⟨w.heap.size + 1 + 1 + 1, 0, none⟩)]) rfl trivial (enters_of Try.func29 (by kernel_rfl) rfl)
      (tokens1_gives 6 (by omega) s (by omega) _ w2 hS2) (fun k hk => hk.elim) (fun _ => rfl) (LexI s w) (LexX w) ?clI ?clX hI0
      (fun x W => W.alloc (.cells #[.int .u8 (x.1.kind : Int), .string (s.extract x.1.lo x.1.hi), .int .i64 (x.1.lo : Int)] 61)) (fun x W => (Below.refl _ W).alloc (Nat.le_refl _) _)
      (fun x W0 => { tmps := #[.string s, undef, .pointer (some ⟨w.heap.size, 0, none⟩), .pointer (some ⟨w.heap.size + 1, 0, none⟩), .pointer (some ⟨w.heap.size + 1 + 1, 0, none⟩), .pointer (some ⟨W0.heap.size, 0, none⟩), .int .i64 (x.2 : Int), .string s, .int .i64 (s.size : Int), .bool false, .string s, .func (.func 29) #[] #[.pointer (some ⟨w.heap.size + 1 + 1 + 1, 0, none⟩)], tokV s x.1, .int .i64 (x.2 : Int), undef, undef, undef, undef, undef, undef, undef, undef, undef, undef], defers := [] }) ?assign ?body ?done ?stop
    case clI =>
      rintro pre A A' ⟨h1, ⟨v, h2, h3⟩, h5, h6, h7⟩ hc
      exact ⟨h1, ⟨v, hc.boxedL h2 (by decide), hc.ownL h3⟩, hc.boxedL h5 (by decide), hc.boxedL h6 (by decide), hc.belowL h7 (by omega) (Nat.le_refl _)⟩
    case clX =>
      rintro c pre A A' ⟨h1, ⟨pre', x, h2, h3, h4, h5, h6, h7⟩, h8⟩ hc
      exact ⟨h1, ⟨pre', x, h2, h3, h4, hc.boxedL h5 (by decide), hc.boxedL h6 (by decide), hc.boxedL h7 (by decide)⟩, hc.belowL h8 (by omega) (Nat.le_refl _)⟩
    case assign =>
      intro l x W K hK
      simp only [encL, tokV] at hK ⊢
      gi_wp2
      exact hK
    case body =>
      rintro l pre x W0 W ⟨h1, ⟨v, h2, h3⟩, h5, h6, h7⟩ hpre hsz hcells hW0
      have hT : TokAt W W0.heap.size (x.1.kind : Int) (s.extract x.1.lo x.1.hi) (x.1.lo : Int) := hcells _ _ (heap_alloc_new W0 _) rfl
      by_cases he : x.2 = 0
      · have te : ((x.2 : Int) != 0) = false := by rw [he]; rfl
        have hall : ∀ y ∈ pre ++ [x], y.2 = 0 := fun y hy => by
          rcases List.mem_append.1 hy with h | h
          · exact h1 y h
          · simp at h; subst h; exact he
        replace he := Lib.hid he
        have hlen2 : pre.length + 1 ≤ 32769 := by
          have ha := hpre.length_le
          have hb := LX.ys_len (bsOf s).length (L := bsOf s) (i := 0) (u := false) rfl
          rw [List.length_append, List.length_singleton] at ha
          rw [hlen.out] at hb
          simp at hb
          omega
        have c2 := h2.cell
        have l0 := hT.c0
        have l1 := hT.c1
        have l2 := hT.c2
        have hN := TokAt.new W (x.1.kind : Int) (s.extract x.1.lo x.1.hi) (x.1.lo : Int)
        have hbN : Below W.heap.size W (W.alloc (.cells #[.int .u8 (x.1.kind : Int), .string (s.extract x.1.lo x.1.hi), .int .i64 (x.1.lo : Int)] 61)) := (Below.refl _ W).alloc (Nat.le_refl _) _
        have h3N := Lib.hid (own_same h3 fun g cur _ hh => (hbN.block g (Array.getElem?_eq_some_iff.1 hh).1).trans hh)
        have h2N := Lib.hid (show Boxed _ _ _ _ from (hbN.block _ (Array.getElem?_eq_some_iff.1 h2).1).trans h2)
        have h5N := Lib.hid (show Boxed _ _ _ _ from (hbN.block _ (Array.getElem?_eq_some_iff.1 h5).1).trans h5)
        have h6N := Lib.hid (show Boxed _ _ _ _ from (hbN.block _ (Array.getElem?_eq_some_iff.1 h6).1).trans h6)
        have hnews : Hid (∀ (j : Nat) u, (tokC s x.1)[j]? = some u → (W.alloc (.cells #[.int .u8 (x.1.kind : Int), .string (s.extract x.1.lo x.1.hi), .int .i64 (x.1.lo : Int)] 61)).cell? ((⟨W.heap.size, 0, none⟩ : Addr).add j) = some u) := Lib.hid fun j u hu => by
          rcases j with _ | _ | _ | j
          · simp [tokC] at hu; subst hu; exact hN.c0
          · simp [tokC] at hu; subst hu; exact hN.c1
          · simp [tokC] at hu; subst hu; exact hN.c2
          · simp [tokC] at hu
        have hone : ∀ u ∈ tokC s x.1, u.oneCell' = true := by intro u hu; simp [tokC] at hu; rcases hu with rfl | rfl | rfl <;> rfl
        replace hone := Lib.hid hone
        obtain ⟨i0, hi, hz0, hz1, hz2'⟩ := infoTok
        have hzN : (W.alloc (.cells #[.int .u8 (x.1.kind : Int), .string (s.extract x.1.lo x.1.hi), .int .i64 (x.1.lo : Int)] 61)).heap.size = W.heap.size + 1 := by simp
        have hbase : w.heap.size ≤ (W.alloc (.cells #[.int .u8 (x.1.kind : Int), .string (s.extract x.1.lo x.1.hi), .int .i64 (x.1.lo : Int)] 61)).heap.size := by rw [hzN]; have := h7.size; omega
        replace hbase := Lib.hid hbase
        have hbN' := Lib.hid hbN
        have H7 := Lib.hid h7
        have hap : Hid (∀ (v' : Value) (w1 : World), w1.ownsRow w.heap.size 61 3 v' (pre.length + 1) (toksC s (pre.map (·.1)) ++ tokC s x.1) →
            (W.alloc (.cells #[.int .u8 (x.1.kind : Int), .string (s.extract x.1.lo x.1.hi), .int .i64 (x.1.lo : Int)] 61)).grownBy w1 v.ownBlock →
            Boxed w1 w.heap.size 49 v ∧ Keep 61 (fun _ => False) w2.heap.size W (w1.setCell ⟨w.heap.size, 0, none⟩ v') ∧ LexI s w (pre ++ [x]) (w1.setCell ⟨w.heap.size, 0, none⟩ v')) := Lib.hid fun v' w1 ho hg => by
          have hbx : Boxed w1 w.heap.size 49 v := (hg.block _ (Array.getElem?_eq_some_iff.1 h2N.out).1 (fun e => own_ne h3N.out h2N.out (by decide) e.symm)).trans h2N.out
          have hb5 : Boxed w1 (w.heap.size + 1) 3 (.int .i64 0) := (hg.block _ (Array.getElem?_eq_some_iff.1 h5N.out).1 (fun e => own_ne h3N.out h5N.out (by decide) e.symm)).trans h5N.out
          have hb6 : Boxed w1 (w.heap.size + 1 + 1) 30 (.int .i64 0) := (hg.block _ (Array.getElem?_eq_some_iff.1 h6N.out).1 (fun e => own_ne h3N.out h6N.out (by decide) e.symm)).trans h6N.out
          refine ⟨hbx, ((Keep.of_below hbN'.out).trans (Keep.of_grown hg fun k hk => ⟨fun h => h, fun o ho' => ?_⟩)).trans (Keep.setCell _ _ _ (fun h => h) (by show w.heap.size < _; omega)), hall, ⟨v', hbx.set _, ?_⟩, hb5.other (by omega) _, hb6.other (by omega) _, ?_⟩
          · obtain ⟨cur, hcur⟩ := own_row h3N.out hk
            rw [hcur] at ho'; cases ho'; exact ⟨_, _, rfl⟩
          · rw [List.map_append, List.map_singleton, toksC_snoc, List.length_append, List.length_singleton]
            exact own_set ho hbx (by decide) _
          · refine (((H7.out.trans (hbN'.out.mono H7.out.size)).grown hg (by rw [hzN]; have := H7.out.size; omega) fun j hj => ?_)).setCell (by simp) _
            rcases h3N.out.2 with ⟨rfl, _⟩ | ⟨g, cap, cur, rfl, hbg, _⟩
            · simp [Value.ownBlock] at hj
            · simp [Value.ownBlock] at hj; omega
        clear h2 h3 h5 h6 h7 hN hbN hcells hsz hT hzN
        gi_wp2_with (gi_at_builtin; refine wpListIn_append_own_at _ rfl _ _ 49 rfl w.heap.size 61 i0 _ 3 32 Try.underlying49 hi hz0 hz1 hz2' rfl (by decide) v pre.length _ rfl h3N.out ⟨W.heap.size, 0, none⟩ 1 1 (tokC s x.1) rfl rfl hnews.out hone.out (by unfold maxLen; omega) (by omega) hbase.out ?_; intro v' w1 hown' hgrow _ _; obtain ⟨g', cap', hv'⟩ := own_succ hown'; subst hv'; obtain ⟨q1, q2, q3⟩ := hap.out _ w1 hown' hgrow; have hc1 := q1.cell; have hf1 := q1.frozen)
        exact ⟨q2, q3⟩
      · have te : ((x.2 : Int) != 0) = true := by simp; omega
        have c2 := h2.cell
        have c3 := h5.cell
        have c4 := h6.cell
        have f2 := h2.frozen
        have f3 := h5.frozen
        have f4 := h6.frozen
        have l2 := hT.c2
        replace he := Lib.hid he
        have F : Keep 61 (fun _ => False) w2.heap.size W ((((W.setCell ⟨w.heap.size, 0, none⟩ (.slice none 0 0)).setCell ⟨w.heap.size + 1, 0, none⟩ (.int .i64 (x.1.lo : Int))).setCell ⟨w.heap.size + 1 + 1, 0, none⟩ (.int .i64 (x.2 : Int))).drew) ∧
            LexX w .ret (pre ++ [x]) ((((W.setCell ⟨w.heap.size, 0, none⟩ (.slice none 0 0)).setCell ⟨w.heap.size + 1, 0, none⟩ (.int .i64 (x.1.lo : Int))).setCell ⟨w.heap.size + 1 + 1, 0, none⟩ (.int .i64 (x.2 : Int))).drew) := by
          refine ⟨(((Keep.setCell _ _ _ (fun h => h) (by show w.heap.size < _; omega)).trans (Keep.setCell _ _ _ (fun h => h) (by show w.heap.size + 1 < _; omega))).trans (Keep.setCell _ _ _ (fun h => h) (by show w.heap.size + 1 + 1 < _; omega))).trans (Keep.drew _), rfl, ⟨pre, x, rfl, h1, he.out, ?_, ?_, ?_⟩, ?_⟩
          · exact ((h2.set (.slice none 0 0)).other (by omega) _).other (by omega) _
          · exact ((h5.other (by omega) _).set _).other (by omega) _
          · exact ((h6.other (by omega) _).other (by omega) _).set _
          · exact (((h7.setCell (by simp) _).setCell (by simp) _).setCell (by simp; omega) _).drew
        replace F := Lib.hid F
        gi_upto_region 7 with fail
        gi_region
        all_goals
          gi_wp2
          exact F.out
    case done =>
      rintro D W hD ⟨h1, ⟨v, h2, h3⟩, h5, h6, h7⟩ hK
      have hvf := own_form h3
      have c2 := h2.cell
      have c3 := h5.cell
      have c4 := h6.cell
      have f2 := h2.frozen
      have f3 := h5.frozen
      have f4 := h6.frozen
      have hout := Lib.hid (LX.out_ok (L := bsOf s) (by rw [hlen.out]; omega) h1)
      have F : Hid (∃ W', W' = ((W.setCell ⟨w.heap.size, 0, none⟩ v).setCell ⟨w.heap.size + 1, 0, none⟩ (.int .i64 0)).setCell ⟨w.heap.size + 1 + 1, 0, none⟩ (.int .i64 0) ∧ W'.heap[D]? = some (.deferred (some [])) ∧ Boxed W' w.heap.size 49 v ∧ Boxed W' (w.heap.size + 1) 3 (.int .i64 0) ∧ Boxed W' (w.heap.size + 1 + 1) 30 (.int .i64 0) ∧
          W'.ownsRow w.heap.size 61 3 v (LX.ys (bsOf s) 0 false).length (toksC s ((LX.ys (bsOf s) 0 false).map (·.1))) ∧ Below w.heap.size w W') := Lib.hid ⟨_, rfl,
        (Below.heap_setCell _ _ _ D (by show D ≠ w.heap.size + 1 + 1; omega)).trans ((Below.heap_setCell _ _ _ D (by show D ≠ w.heap.size + 1; omega)).trans ((Below.heap_setCell _ _ _ D (by show D ≠ w.heap.size; omega)).trans hK)),
        ((h2.set _).other (by omega) _).other (by omega) _, ((h5.other (by omega) _).set _).other (by omega) _, ((h6.other (by omega) _).other (by omega) _).set _,
        own_set (own_set (own_set h3 h2 (by decide) _) (h5.other (by omega) _) (by decide) _) ((h6.other (by omega) _).other (by omega) _) (by decide) _,
        ((h7.setCell (by simp) _).setCell (by simp) _).setCell (by simp; omega) _⟩
      clear h2 h3 h5 h6 h7 hK
      obtain ⟨u, hu⟩ : ∃ u, Hid (u = v) := ⟨v, Lib.hid rfl⟩
      rcases hvf with rfl | ⟨g, nn, cap, rfl⟩
      all_goals
        gi_wp2
        obtain ⟨W', hW', hD', g2, g5, g6, g3, g7⟩ := F.out
        rw [← hW']
        have k1 := cell_kept g2.cell (grownBy_putObj' W' D (.deferred none)) (fun r e => by cases e; exact ⟨_, hD', rfl⟩)
        have k2 := cell_kept g5.cell (grownBy_putObj' W' D (.deferred none)) (fun r e => by cases e; exact ⟨_, hD', rfl⟩)
        have k3 := cell_kept g6.cell (grownBy_putObj' W' D (.deferred none)) (fun r e => by cases e; exact ⟨_, hD', rfl⟩)
        refine ⟨by simp, .inl ⟨_, _, rfl, run_takeDeferred hD', ?_⟩⟩
        refine ⟨.tuple #[u, .int .i64 0, .int .i64 0], ?_, ?_⟩
        · rw [hu.out]; simp [results, Try.f15, go_sem, k1, k2, k3]
        · unfold LexPost
          rw [hu.out]
          rw [hout.out]
          refine ⟨_, rfl, ?_, g7.trans (belowK_b (w := w) (Nat.le_refl _) _ D _ _ (by omega) hD' rfl rfl)⟩
          have := ownsRow_putObj g3 (.deferred none) hD' rfl
          simpa using this
    case stop =>
      rintro D c pre W hD hpre ⟨rfl, ⟨pre', x, rfl, h1, hx, h5, h6, h7⟩, h8⟩ hK
      have hout := Lib.hid (LX.out_bad (L := bsOf s) (by rw [hlen.out]; omega) hpre h1 hx)
      gi_wp2
      have k1 := cell_kept h5.cell (grownBy_putObj' W D (.deferred none)) (fun r e => by cases e; exact ⟨_, hK, rfl⟩)
      have k2 := cell_kept h6.cell (grownBy_putObj' W D (.deferred none)) (fun r e => by cases e; exact ⟨_, hK, rfl⟩)
      have k3 := cell_kept h7.cell (grownBy_putObj' W D (.deferred none)) (fun r e => by cases e; exact ⟨_, hK, rfl⟩)
      refine ⟨by simp, .inl ⟨_, _, rfl, run_takeDeferred hK, ?_⟩⟩
      refine ⟨.tuple #[.slice none 0 0, .int .i64 (x.1.lo : Int), .int .i64 (x.2 : Int)], ?_, ?_⟩
      · simp [results, Try.f15, go_sem, k1, k2, k3]
      · unfold LexPost
        rw [hout.out]
        exact ⟨_, rfl, World.ownsRow_nil _ _ _ _, h8.trans (belowK_b (w := w) (Nat.le_refl _) _ D _ _ (by omega) hK rfl rfl)⟩
theorem lex_any (s : ByteArray) (w : World) : Calls Try.prog 15 #[.string s] w (LexPost s w) := callsIn_wide.1 (lex_in s w)
end Go.Proofs.Ytglbmiadgdadfaa
