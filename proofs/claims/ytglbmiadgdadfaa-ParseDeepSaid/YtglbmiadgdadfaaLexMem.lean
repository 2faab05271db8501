/- An input behind a pointer, and the functions that read it: done, next, take. -/
import Derived.Below
import Derived.Deep.QuietTactic
import Derived.BigQuiet
import Derived.Deep.Draws
import Derived.Laws.Rows
import Derived.Laws.AppendOwn
import Derived.RegionTactic
import Derived.ChangeAlike
import Derived.Outline
import Derived.IntWalk
import Derived.LoopTactic
import Derived.Test.YtglbmiadgdadfaaLexCls
namespace Go.Proofs.Ytglbmiadgdadfaa
open Go.RowKit

attribute [local go_sem] Oper.semAt_some

/-- Block b holds an input over s that stands at i, and tl behind it. -/
def InAt (w : World) (b : Nat) (s : ByteArray) (i : Nat) (tl : List Value) (t : TypeId) : Prop := w.heap[b]? = some (.cells (.string s :: .int .i64 (i : Int) :: tl).toArray t (0, 0))
section
variable {w w' : World} {b : Nat} {s : ByteArray} {i : Nat} {tl : List Value} {t : TypeId}
theorem InAt.lt (h : InAt w b s i tl t) : b < w.heap.size := (Array.getElem?_eq_some_iff.1 h).1
theorem InAt.cell (h : InAt w b s i tl t) (o : Nat) : w.cell? ⟨b, o, none⟩ = (Value.string s :: .int .i64 (i : Int) :: tl)[o]? := by rw [cell_of_row w b o _ t (0, 0) h]; simp
theorem InAt.text (h : InAt w b s i tl t) : w.cell? ⟨b, 0, none⟩ = some (.string s) := h.cell 0
theorem InAt.at_ (h : InAt w b s i tl t) : w.cell? ⟨b, 1, none⟩ = some (.int .i64 (i : Int)) := h.cell 1
theorem InAt.frozen (h : InAt w b s i tl t) (o : Nat) : w.frozen? ⟨b, o, none⟩ = false := by unfold InAt at h; simp [World.frozen?, h]
theorem InAt.drewN (h : InAt w b s i tl t) (n : Nat) : InAt (w.drewN n) b s i tl t := h
theorem InAt.set (h : InAt w b s i tl t) (j : Nat) : InAt (w.setCell ⟨b, 1, none⟩ (.int .i64 (j : Int))) b s j tl t := by
  unfold InAt at h ⊢
  simp [World.setCell, Array.getElem?_modify, h]
theorem InAt.alloc (h : InAt w b s i tl t) (o : Obj) : InAt (w.alloc o) b s i tl t := (Below.heap_alloc w o b h.lt).trans h
theorem InAt.far (h : InAt w b s i tl t) {p : Addr} (hp : b ≠ p.block) (u : Value) : InAt (w.setCell p u) b s i tl t := (Below.heap_setCell w p u b hp).trans h
theorem InAt.below {B : Nat} (h : InAt w b s i tl t) (hb : Below B w w') (hg : b < B) : InAt w' b s i tl t := (hb.block b hg).trans h
end

/-- Nothing but draws; the cell at (b, 1) turned, and draws. -/
def Drw (w w' : World) : Prop := ∃ n, w' = w.drewN n
def Put (b : Nat) (j : Nat) (w w' : World) : Prop := ∃ n, w' = (w.setCell ⟨b, 1, none⟩ (.int .i64 (j : Int))).drewN n
section
variable {w w' w2 : World} {b : Nat} {s : ByteArray} {i j k : Nat} {tl : List Value} {t : TypeId}
theorem Drw.refl (w : World) : Drw w w := ⟨0, rfl⟩
theorem Drw.of (w : World) (n : Nat) : Drw w (w.drewN n) := ⟨n, rfl⟩
theorem Drw.trans (h : Drw w w') (g : Drw w' w2) : Drw w w2 := by
  obtain ⟨n, rfl⟩ := h; obtain ⟨m, rfl⟩ := g; exact ⟨n + m, by rw [World.drewN_drewN]⟩
theorem Drw.drewN (h : Drw w w') (n : Nat) : Drw w (w'.drewN n) := h.trans (.of _ _)
theorem InAt.drw (h : InAt w b s i tl t) (d : Drw w w') : InAt w' b s i tl t := by obtain ⟨n, rfl⟩ := d; exact h
theorem InAt.put (h : InAt w b s i tl t) (d : Put b j w w') : InAt w' b s j tl t := by obtain ⟨n, rfl⟩ := d; exact h.set j
theorem Put.drewN (h : Put b j w w') (n : Nat) : Put b j w (w'.drewN n) := by obtain ⟨m, rfl⟩ := h; exact ⟨m + n, by rw [World.drewN_drewN]⟩
theorem setCell_drewN (w : World) (a : Addr) (v : Value) (n : Nat) : (w.drewN n).setCell a v = (w.setCell a v).drewN n := rfl
theorem Put.drw (h : Put b j w w') (g : Drw w' w2) : Put b j w w2 := by obtain ⟨n, rfl⟩ := g; exact h.drewN n
theorem Drw.put (h : Drw w w') (g : Put b j w' w2) : Put b j w w2 := by
  obtain ⟨n, rfl⟩ := h; obtain ⟨m, rfl⟩ := g; exact ⟨n + m, by rw [setCell_drewN, World.drewN_drewN]⟩
theorem Put.set (h : Drw w w') (j : Nat) (n : Nat) : Put b j w ((w'.setCell ⟨b, 1, none⟩ (.int .i64 (j : Int))).drewN n) := h.put ⟨n, rfl⟩
theorem setCell_setCell (w : World) (blk off : Nat) (v v' : Value) : (w.setCell ⟨blk, off, none⟩ v).setCell ⟨blk, off, none⟩ v' = w.setCell ⟨blk, off, none⟩ v' := by
  unfold World.setCell
  simp only [World.mk.injEq, and_true]
  apply Array.ext_getElem?
  intro k
  simp only [Array.getElem?_modify]
  split
  · cases w.heap[k]? with
    | none => rfl
    | some o => cases o <;> simp
  · rfl
theorem Put.put (h : Put b j w w') (g : Put b k w' w2) : Put b k w w2 := by
  obtain ⟨n, rfl⟩ := h; obtain ⟨m, rfl⟩ := g; exact ⟨n + m, by rw [setCell_drewN, World.drewN_drewN, setCell_setCell]⟩
theorem Put.size (h : Put b j w w') : w'.heap.size = w.heap.size := by obtain ⟨n, rfl⟩ := h; show (w.setCell _ _).heap.size = _; simp [World.setCell]
theorem Put.grown (h : Put b j w w') : w.grownBy w' (some b) := by
  have hs := h.size
  obtain ⟨n, rfl⟩ := h
  exact ⟨rfl, rfl, rfl, by omega, fun k hk hne => (Below.heap_setCell w ⟨b, 1, none⟩ _ k (by rintro rfl; exact hne rfl))⟩
theorem Drw.grown (h : Drw w w') (r : Option Nat) : w.grownBy w' r := by
  obtain ⟨n, rfl⟩ := h
  exact ⟨rfl, rfl, rfl, Nat.le_refl _, fun _ _ _ => rfl⟩
theorem Drw.below {B : Nat} (h : Drw w w') : Below B w w' := by
  obtain ⟨n, rfl⟩ := h
  exact ⟨rfl, rfl, rfl, Nat.le_refl _, fun _ _ => rfl⟩
theorem Put.below {B : Nat} (h : Put b j w w') (hb : B ≤ b) : Below B w w' := by
  have g := h.grown
  have hs : w'.heap.size = w.heap.size := by obtain ⟨n, rfl⟩ := h; show (w.setCell _ _).heap.size = _; simp [World.setCell]
  exact ⟨g.os, g.tape, g.output, g.size, fun k hk => by
    by_cases hlt : k < w.heap.size
    · exact g.block k hlt (fun e => by cases e; omega)
    · rw [Array.getElem?_eq_none (by omega), Array.getElem?_eq_none (by omega)]⟩
theorem Drw.size (h : Drw w w') : w'.heap.size = w.heap.size := by obtain ⟨n, rfl⟩ := h; rfl
end
theorem quiet_left {P : Program} {f : FuncId} {args : Array Value} {w : World} {n : Nat} {v : Value}
    (h : Calls P f args (w.drewN n) fun e w' => e = .returned v ∧ w.drewN n = w') : Calls P f args (w.drewN n) fun e w' => e = .returned v ∧ ∃ m, w' = w.drewN m :=
  h.mono fun _ _ ⟨he, hm⟩ => ⟨he, n, hm.symm⟩
/-- A string's bytes. -/
def bsOf (s : ByteArray) : List UInt8 := s.data.toList
theorem bsOf_length (s : ByteArray) : (bsOf s).length = s.size := by unfold bsOf; simp
theorem clAt_get (s : ByteArray) (k : Nat) (h : k < s.size) : LX.cls ((s[k]'h).toNat : Int) = LX.clAt (bsOf s) k :=
  (LX.clAt_lt (L := bsOf s) (k := k) (by rw [bsOf_length]; exact h)).symm
theorem byte_range (b : UInt8) : (0 : Int) ≤ (b.toNat : Int) ∧ (b.toNat : Int) ≤ 255 := by have := b.toNat_lt; omega

set_option maxRecDepth 100000 in
set_option maxHeartbeats 1000000 in
theorem done_any {b : Nat} {s : ByteArray} {i : Nat} {tl : List Value} {t : TypeId} (w : World) (h : InAt w b s i tl t) :
    Calls Try.prog 31 #[.pointer (some ⟨b, 0, none⟩)] w fun e w' => e = .returned (.bool ((i : Int) == (s.size : Int))) ∧ Drw w w' := by
  have c0 := h.text
  have c1 := h.at_
  go_enter Try.func31, Try.ntmps31
  go_wp2
  go_quiet (fail)
  go_wp2
  go_ret
  exact ⟨rfl, .of _ _⟩

set_option maxRecDepth 100000 in
set_option maxHeartbeats 2000000 in
theorem next_any {b : Nat} {s : ByteArray} {i : Nat} {tl : List Value} {t : TypeId} (w : World) (h : InAt w b s i tl t) (hi : i ≤ s.size) :
    Calls Try.prog 43 #[.pointer (some ⟨b, 0, none⟩)] w fun e w' => e = .returned (.int .u8 (LX.clAt (bsOf s) i)) ∧ Drw w w' := by
  by_cases hlt : i < s.size
  · have t0 : ((i : Int) == (s.size : Int)) = false := by simp; omega
    have hb := byte_range (s[i]'hlt)
    have hc := Lib.hid (clAt_get s i hlt)
    go_enter Try.func43, Try.ntmps43
    go_wp2_with fail
    refine (done_any w h).mono ?_
    rintro e w1 ⟨rfl, hd⟩
    have h1 := h.drw hd
    have c0 := h1.text
    have c1 := h1.at_
    go_wp2
    go_quiet ((go_at_call 56; exact quiet_left (classOf_any _ (by omega) (by omega) _)))
    go_wp2
    go_ret
    exact ⟨ret_num hc.out, hd.drewN _⟩
  · have t0 : ((i : Int) == (s.size : Int)) = true := by simp; omega
    go_enter Try.func43, Try.ntmps43
    go_wp2_with fail
    refine (done_any w h).mono ?_
    rintro e w1 ⟨rfl, hd⟩
    go_wp2
    go_ret
    exact ⟨ret_num (LX.clAt_ge (L := bsOf s) (k := i) (by rw [bsOf_length]; omega)).symm, hd⟩

set_option maxRecDepth 100000 in
set_option maxHeartbeats 2000000 in
theorem take_any {b : Nat} {s : ByteArray} {i n : Nat} {tl : List Value} {t : TypeId} (w : World) (h : InAt w b s i tl t) (hi : i + n ≤ s.size) (hm : s.size ≤ maxLen) :
    Calls Try.prog 32 #[.pointer (some ⟨b, 0, none⟩), .int .i64 (n : Int)] w fun e w' => e = .returned (.string (s.extract i (i + n))) ∧ Put b (i + n) w w' := by
  unfold maxLen at hm
  have c0 := h.text
  have c1 := h.at_
  have f1 := h.frozen 1
  have q0 : (0 : Int) ≤ (i : Int) := by omega
  have q1 : (i : Int) ≤ (i : Int) + (n : Int) := by omega
  have q2 : (i : Int) + (n : Int) ≤ (s.size : Int) := by omega
  go_enter Try.func32, Try.ntmps32
  go_wp2
  go_quiet (fail)
  go_wp2
  go_ret
  refine ⟨rfl, nq, ?_⟩
  rw [show ((i + n : Nat) : Int) = (i : Int) + (n : Int) by omega]
end Go.Proofs.Ytglbmiadgdadfaa
