/- Frames: what a call may have changed. -/
import Derived.WalkKit
import Derived.WalkLawsBesides
import Derived.BigQuiet
import Derived.Test.YtglbmiadgdadfaaProg
namespace Go.Proofs.Ytglbmiadgdadfaa
open Go.RowKit

namespace PP
theorem bbeq (a b : ByteArray) : (a == b) = decide (a = b) := by
  cases a with | mk d => 
  cases b with | mk f => 
  show (ByteArray.beq ⟨d⟩ ⟨f⟩) = _
  simp only [ByteArray.beq]
  by_cases h : d = f
  · simp [h]
  · simp [h]
instance : LawfulBEq ByteArray where
  eq_of_beq {a b} h := by rw [bbeq] at h; exact of_decide_eq_true h
  rfl {a} := by rw [bbeq]; simp
/-- Outside block b only cells of the types T behind it may have changed. -/
structure Fr (T : List TypeId) (b : Nat) (W W' : World) : Prop where
  os : W'.os = W.os
  tape : W'.tape = W.tape
  output : W'.output = W.output
  size : W.heap.size ≤ W'.heap.size
  block : ∀ k o, W.heap[k]? = some o → (k < b ∨ b < k ∧ ∀ t ∈ T, ∀ C p, o ≠ .cells C t p) → W'.heap[k]? = some o
theorem Fr.refl (T : List TypeId) (b : Nat) (W : World) : Fr T b W W := ⟨rfl, rfl, rfl, Nat.le_refl _, fun _ _ h _ => h⟩
theorem Fr.trans {T : List TypeId} {b : Nat} {A B C : World} (h : Fr T b A B) (k : Fr T b B C) : Fr T b A C :=
  ⟨k.os.trans h.os, k.tape.trans h.tape, k.output.trans h.output, Nat.le_trans h.size k.size, fun i o hi hb => k.block i o (h.block i o hi hb) hb⟩
theorem Fr.mono {T U : List TypeId} {b : Nat} {A B : World} (h : Fr T b A B) (hs : ∀ t ∈ T, t ∈ U) : Fr U b A B :=
  ⟨h.os, h.tape, h.output, h.size, fun k o hk hb => h.block k o hk (hb.imp id fun ⟨x, y⟩ => ⟨x, fun t ht => y t (hs t ht)⟩)⟩
theorem Fr.up {T : List TypeId} {b : Nat} {A B : World} (h : Fr [] b A B) : Fr T b A B := h.mono (by simp)
theorem lt_of_heap {W : World} {k : Nat} {o : Obj} (h : W.heap[k]? = some o) : k < W.heap.size := (Array.getElem?_eq_some_iff.1 h).1
theorem Fr.of_below {T : List TypeId} {b : Nat} {W W' : World} (h : Below W.heap.size W W') : Fr T b W W' :=
  ⟨h.os, h.tape, h.output, h.size, fun k o hk _ => (h.block k (lt_of_heap hk)).trans hk⟩
theorem Fr.below {T : List TypeId} {b : Nat} {W W' : World} (h : Fr T b W W') (hb : b ≤ W.heap.size) : Below b W W' :=
  ⟨h.os, h.tape, h.output, h.size, fun k hk => by
    have hk' : k < W.heap.size := Nat.lt_of_lt_of_le hk hb
    rw [h.block k _ (Array.getElem?_eq_getElem hk') (.inl hk), Array.getElem?_eq_getElem hk']⟩
theorem Fr.set {T : List TypeId} {b : Nat} (W : World) (j : Nat) (v : Value) : Fr T b W (W.setCell ⟨b, j, none⟩ v) :=
  ⟨rfl, rfl, rfl, Nat.le_of_eq (by simp), fun k o hk hb => (Below.heap_setCell W ⟨b, j, none⟩ v k (by show k ≠ b; omega)).trans hk⟩
theorem Fr.alloc {T : List TypeId} {b : Nat} {W W' : World} (h : Fr T b W W') (o : Obj) : Fr T b W (W'.alloc o) :=
  h.trans (.of_below ((Below.refl _ W').alloc (Nat.le_refl _) o))
theorem Fr.setNew {T : List TypeId} {b k : Nat} {W W' : World} (h : Fr T b W W') (hk : W.heap.size ≤ k) (j : Nat) (v : Value) : Fr T b W (W'.setCell ⟨k, j, none⟩ v) :=
  ⟨h.os, h.tape, h.output, by simpa using h.size, fun i o hi hb => (Below.heap_setCell W' ⟨k, j, none⟩ v i (by have := lt_of_heap hi; show i ≠ k; omega)).trans (h.block i o hi hb)⟩
theorem Fr.setB {T : List TypeId} {b : Nat} {W W' : World} (h : Fr T b W W') (j : Nat) (v : Value) : Fr T b W (W'.setCell ⟨b, j, none⟩ v) := h.trans (.set W' j v)
theorem Fr.box {T : List TypeId} {b k : Nat} {W W' : World} (h : Fr T b W W') {C : Array Value} {t : TypeId} {p : Nat × Nat} (hk : W.heap[k]? = some (.cells C t p)) (hb : k ≠ b) (ht : t ∉ T) : W'.heap[k]? = some (.cells C t p) :=
  h.block k _ hk (by
    rcases Nat.lt_or_gt_of_ne hb with h | h
    · exact .inl h
    · exact .inr ⟨h, fun u hu D q he => by cases he; exact ht hu⟩)

theorem cell_past (W : World) {b k : Nat} (h : b ≠ k) (i j : Nat) (v : Value) : (W.setCell ⟨b, i, none⟩ v).cell? ⟨k, j, none⟩ = W.cell? ⟨k, j, none⟩ :=
  by apply World.cell?_setCell_other; intro e; exact h (congrArg Addr.block e)
end PP
end Go.Proofs.Ytglbmiadgdadfaa
