/- The document's Lex. -/
import Derived.Maps.AppendAt
import Derived.Test.YtcahdnghdblanaaLexRefS
import Derived.Test.YtcahdnghdblanaaLexRefT
namespace Go.Proofs.Ytcahdnghdblanaa
open Go.RowKit Go.Shelf

attribute [local go_sem] Oper.semAt_some
def rtokC (s : ByteArray) (t : LX.Tk) : List Value := [.int .i64 (t.kind : Int), .string (s.extract t.lo t.hi), .int .i64 (t.lo : Int)]
def rtoksC (s : ByteArray) (l : List LX.Tk) : List Value := l.flatMap (rtokC s)
theorem rtoksC_snoc (s : ByteArray) (l : List LX.Tk) (t : LX.Tk) : rtoksC s (l ++ [t]) = rtoksC s l ++ rtokC s t := by unfold rtoksC; simp
theorem rtoksC_length (s : ByteArray) : ∀ l : List LX.Tk, (rtoksC s l).length = l.length * 3
  | [] => rfl
  | t :: l => by
    have := rtoksC_length s l
    unfold rtoksC at *
    rw [List.flatMap_cons, List.length_append, this, List.length_cons]
    simp [rtokC]; omega
theorem infoRTok : ∃ i : TypeInfo, Try.prog.info? 49 = some i ∧ i.zero = some (.agg #[.int .i64 0, .string ⟨#[]⟩, .int .i64 0]) ∧ i.size = 3 ∧ i.bytes = 32 := by
  have h : (Try.prog.info? 49).map (fun i => (i.zero, i.size, i.bytes)) = some (some (.agg #[.int .i64 0, .string ⟨#[]⟩, .int .i64 0]), 3, 32) := by kernel_rfl
  cases hi : Try.prog.info? 49 with
  | none => rw [hi] at h; cases h
  | some i =>
    rw [hi] at h
    simp only [Option.map_some, Option.some.injEq, Prod.mk.injEq] at h
    exact ⟨i, rfl, h.1, h.2.1, h.2.2⟩
/-- The row of tokens that the document's Lex keeps. -/
def ROwn (base : Nat) (s : ByteArray) (W : World) (v : Value) (pre : List LX.Tk) : Prop := W.ownsRow base 49 3 v pre.length (rtoksC s pre)
theorem ROwn.last {base : Nat} {s : ByteArray} {W : World} {v : Value} {pre : List LX.Tk} {t : LX.Tk} (h : ROwn base s W v (pre ++ [t])) :
    ∃ g cap, v = .slice (some ⟨g, 0, none⟩) (pre.length + 1) cap ∧ W.cell? ⟨g, pre.length * 3, none⟩ = some (.int .i64 (t.kind : Int)) := by
  have h2 : W.ownsRow base 49 3 v (pre.length + 1) (rtoksC s (pre ++ [t])) := by have := h; unfold ROwn at this; rwa [List.length_append, List.length_singleton] at this
  rcases h2.2 with ⟨rfl, h0⟩ | ⟨g, cap, cur, rfl, _⟩
  · exact absurd h0 (by omega)
  · refine ⟨g, cap, rfl, (h2.cellAt (pre.length * 3) (by omega)).trans ?_⟩
    rw [rtoksC_snoc, List.getElem?_append_right (by rw [rtoksC_length]; exact Nat.le_refl _), rtoksC_length, Nat.sub_self]
    rfl
theorem rapp (s : ByteArray) (base : Nat) (w wr : World) (v : Value) (pre : List LX.Tk) (t : LX.Tk) (z p : Int) (x : ByteArray) (hz : z = (t.kind : Int)) (hx : x = s.extract t.lo t.hi) (hp : p = (t.lo : Int)) (hbase : base = w.heap.size)
    (ho : ROwn base s wr v pre) (hB : Below w.heap.size w wr) :
    (wr.alloc (.cells #[.int .i64 z, .string x, .int .i64 p] 49)).ownsRow base 49 3 v pre.length (rtoksC s pre) ∧
      (∀ (j : Nat) u, [Value.int .i64 z, .string x, .int .i64 p][j]? = some u → (wr.alloc (.cells #[.int .i64 z, .string x, .int .i64 p] 49)).cell? ((⟨wr.heap.size, 0, none⟩ : Addr).add j) = some u) ∧
      (∀ u ∈ [Value.int .i64 z, .string x, .int .i64 p], u.oneCell' = true) ∧ base ≤ (wr.alloc (.cells #[.int .i64 z, .string x, .int .i64 p] 49)).heap.size ∧
      (∀ (v' : Value) (w1 : World), w1.ownsRow base 49 3 v' (pre.length + 1) (rtoksC s pre ++ [Value.int .i64 z, .string x, .int .i64 p]) →
        (wr.alloc (.cells #[.int .i64 z, .string x, .int .i64 p] 49)).grownBy w1 v.ownBlock → ROwn base s w1 v' (pre ++ [t]) ∧ Below w.heap.size w w1) := by
  subst hz hx hp hbase
  have hT := heap_alloc_new wr (.cells #[.int .i64 (t.kind : Int), .string (s.extract t.lo t.hi), .int .i64 (t.lo : Int)] 49)
  have hB2 : Below w.heap.size w (wr.alloc (.cells #[.int .i64 (t.kind : Int), .string (s.extract t.lo t.hi), .int .i64 (t.lo : Int)] 49)) := hB.alloc hB.size _
  refine ⟨World.ownsRow.alloc ho _, ?_, ?_, hB2.size, ?_⟩
  · rintro (_ | _ | _ | j) u hu
    · simp at hu; subst hu; exact cell_of_row _ _ 0 _ _ _ hT
    · simp at hu; subst hu; exact cell_of_row _ _ 1 _ _ _ hT
    · simp at hu; subst hu; exact cell_of_row _ _ 2 _ _ _ hT
    · simp at hu
  · intro u hu; simp at hu; rcases hu with rfl | rfl | rfl <;> rfl
  · intro v' w1 h1 hg
    refine ⟨?_, hB2.grown hg hB2.size fun j hj => ?_⟩
    · unfold ROwn
      rw [List.length_append, List.length_singleton, rtoksC_snoc]
      exact h1
    · rcases ho.2 with ⟨rfl, _⟩ | ⟨g, cap, cur, rfl, hbg, _⟩
      · simp [Value.ownBlock] at hj
      · simp [Value.ownBlock] at hj; omega
/-- Whether the line has a token. -/
def endU (pre : List LX.Tk) : Bool := match pre.getLast? with
  | some t => t.kind != 4
  | none => false
theorem endU_snoc (pre : List LX.Tk) (t : LX.Tk) : endU (pre ++ [t]) = (t.kind != 4) := by unfold endU; rw [List.getLast?_append]; rfl
def zeroE (pre : List LX.Tk) : List (LX.Tk × Nat) := pre.map fun t => (t, 0)
theorem zeroE_snoc (pre : List LX.Tk) (t : LX.Tk) : zeroE (pre ++ [t]) = zeroE pre ++ [(t, 0)] := by unfold zeroE; simp
/-- What lexing has met so far. -/
def Met (L : List UInt8) (i : Nat) (pre : List LX.Tk) : Prop := LX.ys L 0 false = zeroE pre ++ LX.ys L i (endU pre)
theorem Met.room {L : List UInt8} {i : Nat} {pre : List LX.Tk} (h : Met L i pre) (hL : L.length ≤ 16384) : pre.length ≤ 32769 := by
  have := LX.ys_len L.length (L := L) (i := 0) (u := false) rfl
  unfold Met zeroE at h
  rw [h, List.length_append, List.length_map] at this
  simp at this; omega
theorem Met.bad {L : List UInt8} {i : Nat} {pre : List LX.Tk} {t : LX.Tk} {n : Nat} (h : Met L i pre) (hL : L.length ≤ 16384) (hy : LX.ys L i (endU pre) = [(t, n)]) (hn : n ≠ 0) : LX.out L = ([], t.lo, n) := by
  refine LX.out_bad (x := (t, n)) hL (pre := zeroE pre) ?_ ?_ hn
  · unfold Met at h; rw [h, hy]; exact List.prefix_refl _
  · intro y hy; unfold zeroE at hy; simp at hy; obtain ⟨a, -, rfl⟩ := hy; rfl
theorem Met.good {L : List UInt8} {i : Nat} {pre : List LX.Tk} (h : Met L i pre) (hL : L.length ≤ 16384) (hy : LX.ys L i (endU pre) = []) : LX.out L = (pre, 0, 0) := by
  unfold Met at h
  rw [hy, List.append_nil] at h
  rw [LX.out_ok hL (by rw [h]; intro x hx; unfold zeroE at hx; simp at hx; obtain ⟨a, -, rfl⟩ := hx; rfl), h]
  unfold zeroE
  rw [List.map_map, show ((fun x : LX.Tk × Nat => x.1) ∘ fun t => (t, 0)) = id from rfl, List.map_id]
theorem Met.goes {L : List UInt8} {i j : Nat} {pre : List LX.Tk} {t : LX.Tk} (h : Met L i pre) (hy : LX.ys L i (endU pre) = (t, 0) :: LX.ys L j (t.kind != 4)) : Met L j (pre ++ [t]) := by
  unfold Met at *
  rw [h, hy, zeroE_snoc, endU_snoc, List.append_assoc]; rfl
theorem Met.skips {L : List UInt8} {i j : Nat} {pre : List LX.Tk} (h : Met L i pre) (hy : LX.ys L i (endU pre) = LX.ys L j (endU pre)) : Met L j pre := by
  unfold Met at *
  rw [h, hy]
theorem Met.start (L : List UInt8) : Met L 0 [] := rfl
theorem rgo (s : ByteArray) (base i j : Nat) (w wr : World) (v : Value) (pre : List LX.Tk) (t : LX.Tk) (z p : Int) (x : ByteArray) (hz : z = (t.kind : Int)) (hx : x = s.extract t.lo t.hi) (hp : p = (t.lo : Int)) (hbase : base = w.heap.size)
    (ho : ROwn base s wr v pre) (hB : Below w.heap.size w wr) (hM : Met (bsOf s) i pre) (hy : LX.ys (bsOf s) i (endU pre) = (t, 0) :: LX.ys (bsOf s) j (t.kind != 4)) :
    Hid ((wr.alloc (.cells #[.int .i64 z, .string x, .int .i64 p] 49)).ownsRow base 49 3 v pre.length (rtoksC s pre)) ∧
      Hid (∀ (j : Nat) u, [Value.int .i64 z, .string x, .int .i64 p][j]? = some u → (wr.alloc (.cells #[.int .i64 z, .string x, .int .i64 p] 49)).cell? ((⟨wr.heap.size, 0, none⟩ : Addr).add j) = some u) ∧
      Hid (∀ u ∈ [Value.int .i64 z, .string x, .int .i64 p], u.oneCell' = true) ∧ Hid (base ≤ (wr.alloc (.cells #[.int .i64 z, .string x, .int .i64 p] 49)).heap.size) ∧
      Hid (∀ (v' : Value) (w1 : World), w1.ownsRow base 49 3 v' (pre.length + 1) (rtoksC s pre ++ [Value.int .i64 z, .string x, .int .i64 p]) →
        (wr.alloc (.cells #[.int .i64 z, .string x, .int .i64 p] 49)).grownBy w1 v.ownBlock → Hid (ROwn base s w1 v' (pre ++ [t]) ∧ Below w.heap.size w w1 ∧ Met (bsOf s) j (pre ++ [t]))) := by
  obtain ⟨r1, r2, r3, r4, r5⟩ := rapp s base w wr v pre t z p x hz hx hp hbase ho hB
  exact ⟨Lib.hid r1, Lib.hid r2, Lib.hid r3, Lib.hid r4, Lib.hid fun v' w1 h1 h2 => Lib.hid ⟨(r5 v' w1 h1 h2).1, (r5 v' w1 h1 h2).2, hM.goes hy⟩⟩
theorem ROwn.same {base : Nat} {s : ByteArray} {W W' : World} {v : Value} {pre : List LX.Tk} (h : ROwn base s W v pre) (hB : ∀ B, Below B W W') : ROwn base s W' v pre := by
  refine ⟨h.1, h.2.imp id ?_⟩
  rintro ⟨g, cap, cur, rfl, h1, h2, h3⟩
  exact ⟨g, cap, cur, rfl, h1, ((hB (g + 1)).block g (by omega)).trans h2, h3⟩
theorem cls_nl {z : Int} : LX.cls z = 2 ↔ z = 10 := by
  unfold LX.cls; repeat' split
  all_goals omega
theorem cls_hash {z : Int} : LX.cls z = 3 ↔ z = 35 := by
  unfold LX.cls; repeat' split
  all_goals omega
def RLexPost (s : ByteArray) (w : World) (e : Ending) (w' : World) : Prop :=
  ∃ v, e = .returned (.tuple #[v, .int .i64 ((LX.out (bsOf s)).2.1 : Int), .int .i64 ((LX.out (bsOf s)).2.2 : Int)]) ∧ ROwn w.heap.size s w' v (LX.out (bsOf s)).1 ∧ Below w.heap.size w w'
theorem ROwn.form {base : Nat} {s : ByteArray} {W : World} {v : Value} {pre : List LX.Tk} (h : ROwn base s W v pre) : (v = .slice none 0 0 ∧ pre.length = 0) ∨ ∃ g cap, v = .slice (some ⟨g, 0, none⟩) pre.length cap := by
  rcases h.2 with h0 | ⟨g, cap, cur, rfl, _⟩
  · exact .inl h0
  · exact .inr ⟨g, cap, rfl⟩
theorem ROwn.forms {base : Nat} {s : ByteArray} {W : World} {v : Value} {pre : List LX.Tk} (h : ROwn base s W v pre) : ∃ a cap, v = .slice a pre.length cap := by
  rcases h.form with ⟨rfl, h0⟩ | ⟨g, cap, rfl⟩
  · exact ⟨none, 0, by rw [h0]⟩
  · exact ⟨_, cap, rfl⟩
theorem ROwn.nil (base : Nat) (s : ByteArray) (W : World) : ROwn base s W (.slice none 0 0) [] := World.ownsRow_nil _ _ _ _
end Go.Proofs.Ytcahdnghdblanaa
