/- OrdArg, RelFine, RangeSome, WideTail, OrdReady in one text, for the claim. -/
import Derived.Test.YtpbljciblgcgfaaDoorLaw
import Derived.Test.YtpbljciblgcgfaaDoorOrdMarks
import Derived.ChangeSlices
import Derived.Test.YtpbljciblgcgfaaDoorRows
import Derived.Test.YtpbljciblgcgfaaDoorRelKeep
import Derived.Test.YtpbljciblgcgfaaDoorRangeAll
import Derived.StillTailTactics
import Derived.TacticsIn
import Derived.OrdersIn
import Derived.CallsIn
import Derived.Test.YtpbljciblgcgfaaDoorRoundTail
import Derived.Sort.CutIn
import Derived.Test.YtpbljciblgcgfaaDoorRelSets2
import Derived.Test.YtpbljciblgcgfaaDoorMarksNext

section
/- A slice of integers that came in, for the cards of stage 3. -/
namespace Go.Proofs.YtpbljciblgcgfaaDoor
open Go.ChangeShapes Go.WideShapes Go.ChangeAt Go.RowKit

set_option maxRecDepth 100000 in
/-- A slice of integers that came in: what it holds, in blocks that were there. -/
theorem numSl_of_open {H : Type} {enc : TypeId × Value → H} {W : World} {base : Nat} {t e : TypeId} {q : IntKind} {v : Value} {d : DataW H} {p : List MemPlace}
    (ht : Tryd.prog.underlying t = some (.slice e)) (he : Tryd.prog.underlying e = some (.int q)) (hc : Tryd.prog.cellsOf e = 1) (hv : Value.okWide Tryd.prog W .any base t v)
    (h : DataW.Trod enc Tryd.prog W 0 (fun _ => true) true t v d p) :
    ∃ zs : List Int, NumSl q W.heap.size W v zs ∧ (∀ z ∈ zs, (Lit.int q z).wf = true) ∧ ∀ len cap, v = .slice none len cap → len = 0 ∧ cap = 0 := by
  obtain ⟨a0, len, cap, rfl⟩ := okWide_slice ht hv
  obtain ⟨fuel, hf⟩ := h
  rcases open_ints ht he hc hf with ⟨hcs, _⟩ | ⟨a, len', cap', zs, hcs, _, hl, hm, hz, hx, hcell, hwz⟩
  · refine ⟨[], ⟨by simp, none, 0, ?_, fun h => by simp at h⟩, fun z hz => by simp at hz, ?_⟩
    · have hcs0 : [Value.slice a0 len cap] = [Value.slice none 0 0] := hcs
      simpa using hcs0
    · intro l c h
      have hcs0 : [Value.slice a0 len cap] = [Value.slice none 0 0] := hcs
      rw [h] at hcs0
      simpa using hcs0
  · have hcs' : Value.slice a0 len cap = Value.slice (some a) len' cap' := by
      have hcs0 : [Value.slice a0 len cap] = [Value.slice (some a) len' cap'] := hcs
      simpa using hcs0
    rw [if_pos rfl] at hz
    have hlen : (zs.take len').length = len' := by rw [List.length_take]; omega
    refine ⟨zs.take len', ⟨by rw [hlen]; omega, some a, cap', by rw [hlen]; exact hcs', fun h0 => ?_⟩, fun z hz' => hwz z (List.mem_of_mem_take hz'), fun l c h => by rw [h] at hcs'; cases hcs'⟩
    rw [hlen] at h0 ⊢
    obtain ⟨b, off, rfl, hc'⟩ := ints_at hcell (by omega)
    refine ⟨b, off, rfl, ?_, fun j hj => ?_⟩
    · have h1 := hc' 0 (by omega)
      by_cases hs : b < W.heap.size
      · exact hs
      · simp [World.cell?, Array.getElem?_eq_none (show W.heap.size ≤ b by omega)] at h1
    · rw [hc' j (by omega), List.getElem?_take_of_lt hj]
      rfl
end Go.Proofs.YtpbljciblgcgfaaDoor
end

section
/- seisinlaw02.Fine: any relation, made right. -/
namespace Go.Proofs.YtpbljciblgcgfaaDoor
open Go.RowKit Go.Shelf

attribute [local go_sem] Oper.semAt_some

/-- How many items are left. -/
def fineN (n most : Int) : Int := (n.tmod (most + 1) + most + 1) % (most + 1)
/-- The rows that are left. -/
def fineF (f : Nat → Nat) (M : Nat) : Nat → Nat := fun i => if i < M then f i &&& (2 ^ M - 1) else 0
def fineK (f : Nat → Nat) (M k : Nat) : Nat → Nat := fun i => if i < k then fineF f M i else f i
theorem relC_setN (n : Int) (f : Nat → Nat) (m : Int) : (relC n f).setIfInBounds 0 (.int .i64 m) = relC m f := by simp [relC]
theorem fineN_bd (n : Int) {most : Int} (h0 : 0 ≤ most) : 0 ≤ fineN n most ∧ fineN n most ≤ most := by
  have p1 : 0 < most + 1 := by omega
  have := Int.emod_nonneg (n.tmod (most + 1) + most + 1) (show most + 1 ≠ 0 by omega)
  have := Int.emod_lt_of_pos (n.tmod (most + 1) + most + 1) p1
  unfold fineN
  omega
theorem fineN_id {n most : Int} (h0 : 0 ≤ n) (h1 : n ≤ most) : fineN n most = n := by
  unfold fineN
  rw [Int.tmod_eq_emod_of_nonneg h0, Int.emod_eq_of_lt h0 (by omega), show n + most + 1 = n + (most + 1) by omega, Int.add_emod_right, Int.emod_eq_of_lt h0 (by omega)]
theorem fine_bit {f : Nat → Nat} {M i j : Nat} : Bt (fineF f M) i j ↔ i < M ∧ j < M ∧ Bt f i j := by
  unfold Bt fineF
  split
  · rename_i h
    rw [Nat.testBit_and, Nat.testBit_two_pow_sub_one]
    simp [h, and_comm]
  · rename_i h
    simp [h]
theorem fine_64 {f : Nat → Nat} (hf : R64 f) (M : Nat) : R64 (fineF f M) := by
  intro i
  unfold fineF
  split
  · exact Nat.lt_of_le_of_lt Nat.and_le_left (hf i)
  · exact Nat.two_pow_pos 64
theorem fine_rgt {f : Nat → Nat} {M : Nat} (h : M ≤ 48) : Rgt M (fineF f M) := rgt_iff.2 ⟨h, fun _ _ _ hb => ⟨(fine_bit.1 hb).1, (fine_bit.1 hb).2.1⟩⟩
theorem fineK_at (f : Nat → Nat) (M k : Nat) : fineK f M k k = f k := by simp [fineK]
theorem fineK_step (f : Nat → Nat) (M k x : Nat) (hx : x = fineF f M k) : upd (fineK f M k) k x = fineK f M (k + 1) := by
  funext i
  unfold upd fineK
  by_cases h : i = k
  · subst h; rw [if_pos rfl, if_pos (by omega), hx]
  · rw [if_neg h]
    by_cases h2 : i < k
    · rw [if_pos h2, if_pos (by omega)]
    · rw [if_neg h2, if_neg (by omega)]
theorem upd_upd (f : Nat → Nat) (k x y : Nat) : upd (upd f k x) k y = upd f k y := by
  funext i
  unfold upd
  split <;> rfl

set_option maxHeartbeats 4000000 in
set_option maxRecDepth 100000 in
theorem fine_any (n most : Int) (f : Nat → Nat) (hf : R64 f) (h0 : 0 ≤ most) (h1 : most ≤ 48) (M : Nat) (hM : (M : Int) = fineN n most) (w : World) :
    Calls Tryd.prog 61 #[.agg (relC n f), .int .i64 most] w fun e w' => e = .returned (.agg (relC M (fineF f M))) ∧ Below w.heap.size w w' := by
  have hA : RelAt ((w.alloc (.cells (relC n f) 26)).alloc (.cells (relC 0 zf) 26)) w.heap.size n f := (RelAt.new w n f).alloc _
  have hZ := RelAt.new (w.alloc (.cells (relC n f) 26)) 0 zf
  rw [World.size_alloc] at hZ
  have hB : Below w.heap.size w ((w.alloc (.cells (relC n f) 26)).alloc (.cells (relC 0 zf) 26)) := ((Below.refl _ w).alloc (Nat.le_refl _) _).alloc (by simp) _
  have p1 : 0 < most + 1 := by omega
  have r0 : -(most + 1) < n.tmod (most + 1) := by
    have := Int.lt_tmod_of_pos n p1
    omega
  have r1 := Int.tmod_lt_of_pos n p1
  have hn := hA.num
  have hfz := hA.free 0
  have hMM : (n.tmod (most + 1) + most + 1) % (most + 1) = (M : Int) := hM.symm
  have hM48 : M ≤ 48 := by have := fineN_bd n h0; omega
  have hset := relC_setN n f
  replace hM := Lib.hid hM
  have hA2 : RelAt ((w.alloc (.cells (relC M f) 26)).alloc (.cells (relC 0 zf) 26)) w.heap.size M f := (RelAt.new w M f).alloc _
  have hZ2 := RelAt.new (w.alloc (.cells (relC M f) 26)) 0 zf
  rw [World.size_alloc] at hZ2
  have hB2 : Below w.heap.size w ((w.alloc (.cells (relC M f) 26)).alloc (.cells (relC 0 zf) 26)) := ((Below.refl _ w).alloc (Nat.le_refl _) _).alloc (by simp) _
  clear hZ hB
  obtain ⟨q, hq⟩ : ∃ q, q = 2 ^ M := ⟨_, rfl⟩
  have hq0 : 0 < q := by rw [hq]; exact Nat.two_pow_pos M
  have hq1 : q < 2 ^ 49 := by rw [hq]; exact Nat.pow_lt_pow_right (by omega) (by omega)
  have hsh : IntKind.u64.wrap (2 ^ M) = (q : Int) := by rw [hq]; exact shl1_nat M (by omega)
  have hM64 : (M : Int) < 64 := by omega
  have hwr : IntKind.u64.wrap ((q : Int) - 1) = (q : Int) - 1 := by rw [IntKind.wrap_u64]; omega
  replace hq := Lib.hid hq
  go_enter Tryd.func61, Tryd.ntmps61
  go_wp2
  clear hn hfz hset hA hMM
  go_loopw [18] (fun i W => ∃ k : Nat, k ≤ 48 ∧ i = .int .i64 k ∧ RelAt W w.heap.size M (fineK f M k) ∧ RelAt W (w.heap.size + 1) 0 zf ∧ Below w.heap.size w W) (fun i _ => 48 - (intOf i).toNat)
  case atStart => exact ⟨0, by omega, rfl, hA2.congr (fun i _ => by simp [fineK]), hZ2, hB2⟩
  case round =>
    obtain ⟨k, hk, rfl, hR, hZ, hB⟩ := hrel
    clear hA2 hZ2 hB2
    by_cases hlt : k < 48
    · have k48 : (k : Int) < 48 := by omega
      have hn := hR.num
      have hrow := hR.row k hlt
      have hfr := hR.free (1 + k)
      rw [fineK_at] at hrow
      by_cases hge : M ≤ k
      · have t0 : decide ((M : Int) ≤ (k : Int)) = true := by simpa using hge
        have h0q : bits BinOp.and IntKind.u64 0 ((q : Int) - 1) = 0 := by
          rw [show (q : Int) - 1 = ((q - 1 : Nat) : Int) by omega]
          exact (u64_and_nat 0 (q - 1) (by omega) (by omega)).trans (by simp)
        go_wp2
        refine wp_region_tail 11 (by kernel_rfl) (by kernel_rfl) ?_
        simp only [List.take_succ_cons, List.take_zero, List.drop_succ_cons, List.drop_zero]
        repeat still_step
        refine wpStill_nil ?_
        go_wp2
        go_roundw
        case rel =>
          refine ⟨k + 1, by omega, by go_num, ?_, ?_, ?_⟩
          · rw [← fineK_step f M k 0 (by unfold fineF; rw [if_neg (by omega)]), ← upd_upd _ k 0 0]
            exact ((hR.set k 0 hlt).set k 0 hlt).drew
          · exact ((hZ.other _ _ (by simp)).other _ _ (by simp)).drew
          · exact ((hB.setCell (by simp) _).setCell (by simp) _).drew
        case measure => simp [intOf]; omega
      · have t0 : decide ((M : Int) ≤ (k : Int)) = false := by simpa using hge
        have hfq : bits BinOp.and IntKind.u64 (f k : Int) ((q : Int) - 1) = (fineF f M k : Int) := by
          rw [show (q : Int) - 1 = ((q - 1 : Nat) : Int) by omega, u64_and_nat _ _ (hf k) (by omega), hq.out]
          unfold fineF
          rw [if_pos (by omega)]
        go_wp2
        refine wp_region_tail 11 (by kernel_rfl) (by kernel_rfl) ?_
        simp only [List.take_succ_cons, List.take_zero, List.drop_succ_cons, List.drop_zero]
        repeat still_step
        refine wpStill_nil ?_
        go_wp2
        go_roundw
        case rel =>
          refine ⟨k + 1, by omega, by go_num, ?_, ?_, ?_⟩
          · rw [← fineK_step f M k _ rfl]
            exact (hR.set k _ hlt).drew
          · exact (hZ.other _ _ (by simp)).drew
          · exact (hB.setCell (by simp) _).drew
        case measure => simp [intOf]; omega
    · obtain rfl : k = 48 := by omega
      have l1 := hR.ld
      obtain ⟨W4, hs4, hR4, hO4⟩ := hZ.put M (fineK f M 48)
      go_wp2
      refine bodyPost_ret (results_rel rfl _ _ _ _ _ rfl hR4) rfl ?_
      exact ⟨by rw [relC_congr (f := fineK f M 48) (g := fineF f M) (fun i hi => by simp [fineK, hi])], below_only hB hO4 (by omega)⟩
theorem RelAt.setN {W : World} {b : Nat} {n : Int} {f : Nat → Nat} (h : RelAt W b n f) (m : Int) : RelAt (W.setCell ⟨b, 0, none⟩ (.int .i64 m)) b m f := by
  unfold RelAt
  rw [heap_setCell_same W b _ _ _ _ h, relC_setN]
theorem fine_ok (n : Int) {most : Int} (f : Nat → Nat) (hf : R64 f) (h0 : 0 ≤ most) (h1 : most ≤ 48) : ∃ M : Nat, (M : Int) = fineN n most ∧ (M : Int) ≤ most ∧ R64 (fineF f M) ∧ Rgt M (fineF f M) ∧
    ∀ w, Calls Tryd.prog 61 #[.agg (relC n f), .int .i64 most] w fun e w' => e = .returned (.agg (relC M (fineF f M))) ∧ Below w.heap.size w w' := by
  have hb := fineN_bd n h0
  exact ⟨(fineN n most).toNat, by omega, by omega, fine_64 hf _, fine_rgt (by omega), fun w => fine_any n most f hf h0 h1 _ (by omega) w⟩
/-- The same where the number of items is already one of those. -/
theorem fine_keep (N : Nat) {most : Int} (f : Nat → Nat) (hf : R64 f) (h1 : (N : Int) ≤ most) (h2 : most ≤ 48) : R64 (fineF f N) ∧ Rgt N (fineF f N) ∧
    ∀ w, Calls Tryd.prog 61 #[.agg (relC N f), .int .i64 most] w fun e w' => e = .returned (.agg (relC N (fineF f N))) ∧ Below w.heap.size w w' :=
  ⟨fine_64 hf _, fine_rgt (by omega), fun w => fine_any N most f hf (by omega) h2 N (fineN_id (by omega) h1).symm w⟩
end Go.Proofs.YtpbljciblgcgfaaDoor
end

section
/- A range over a function whose body may leave the loop, over an iterator that itself ranges over functions, calls itself and writes rows of its own: the caller's invariant may be carried through all that. -/
namespace Go.Proofs.YtpbljciblgcgfaaDoor
open Go.RowKit

/-- What an iterator may do to a caller's invariant: blocks below B, and those from B on that are cells and no exceptions, lie as they lay. -/
structure Chg (ex : Nat → Nat → Obj → Prop) (B g : Nat) (W W' : World) : Prop where
  os : W'.os = W.os
  tape : W'.tape = W.tape
  output : W'.output = W.output
  size : W.heap.size ≤ W'.heap.size
  block : ∀ k o, (k < B ∨ (o.isCells = true ∧ ¬ ex g k o)) → W.heap[k]? = some o → W'.heap[k]? = some o
section
variable {ex : Nat → Nat → Obj → Prop} {B g : Nat} {W W' W2 : World}
theorem Chg.refl (W : World) : Chg ex B g W W := ⟨rfl, rfl, rfl, Nat.le_refl _, fun _ _ _ h => h⟩
theorem Chg.trans (h : Chg ex B g W W') (k : Chg ex B g W' W2) : Chg ex B g W W2 :=
  ⟨k.os.trans h.os, k.tape.trans h.tape, k.output.trans h.output, Nat.le_trans h.size k.size, fun i o hi hs => k.block i o hi (h.block i o hi hs)⟩
theorem Chg.weaken {B' : Nat} (h : Chg ex B' g W W') (hB : B ≤ B') : Chg ex B g W W' :=
  ⟨h.os, h.tape, h.output, h.size, fun k o hk hs => h.block k o (hk.imp_left fun x => Nat.lt_of_lt_of_le x hB) hs⟩
/-- A step that has no exceptions from B' on. -/
theorem Chg.sharper {ex' : Nat → Nat → Obj → Prop} {B' g' : Nat} (h : Chg ex' B' g' W W') (hB : B ≤ B') (he : ∀ k o, B' ≤ k → ex' g' k o → ex g k o) : Chg ex B g W W' :=
  ⟨h.os, h.tape, h.output, h.size, fun k o hk hs => by
    by_cases hl : k < B'
    · exact h.block k o (.inl hl) hs
    · rcases hk with hk | ⟨hk, hx⟩
      · omega
      · exact h.block k o (.inr ⟨hk, fun hh => hx (he k o (by omega) hh)⟩) hs⟩
theorem Chg.of_below (h : Below W.heap.size W W') : Chg ex B g W W' :=
  ⟨h.os, h.tape, h.output, h.size, fun k _ _ hs => (h.block k (Array.getElem?_eq_some_iff.1 hs).1).trans hs⟩
theorem Chg.drew (W : World) : Chg ex B g W W.drew := ⟨rfl, rfl, rfl, Nat.le_refl _, fun _ _ _ h => h⟩
theorem Chg.alloc (W : World) (o : Obj) : Chg ex B g W (W.alloc o) := .of_below ((Below.refl _ W).alloc (Nat.le_refl _) _)
theorem Chg.putObj (W : World) (l : Nat) {o : Obj} (o' : Obj) (hl : W.heap[l]? = some o) (h1 : B ≤ l) (h2 : o.isCells = false) : Chg ex B g W (W.putObj l o') :=
  ⟨rfl, rfl, rfl, by simp, fun k o2 hk h => (World.putObj_heap_other (by
    rintro rfl
    rw [hl] at h; cases h
    rcases hk with hk | ⟨hk, _⟩
    · omega
    · rw [h2] at hk; cases hk)).trans h⟩
theorem Chg.setCell (W : World) (a : Addr) (v : Value) (h1 : B ≤ a.block) (h2 : ∀ o, W.heap[a.block]? = some o → ex g a.block o) : Chg ex B g W (W.setCell a v) :=
  ⟨rfl, rfl, rfl, by simp [World.setCell], fun k o hk h => (Below.heap_setCell W a v k (by
    rintro rfl
    rcases hk with hk | ⟨_, hk⟩
    · omega
    · exact hk (h2 o h))).trans h⟩
theorem Chg.setRow (W : World) (b : Nat) (cs : Array Value) (h1 : B ≤ b) (h2 : ∀ o, W.heap[b]? = some o → ex g b o) : Chg ex B g W (W.setRow b cs) :=
  ⟨rfl, rfl, rfl, by simp, fun k o hk h => (Go.setRow_other W b k cs (by
    rintro rfl
    rcases hk with hk | ⟨_, hk⟩
    · omega
    · exact hk (h2 o h))).trans h⟩
theorem Chg.of_own {row : Option Nat} (hg : W.grownBy W' row) (hr : ∀ r, row = some r → B ≤ r ∧ ∃ o : Obj, W.heap[r]? = some o ∧ o.isCells = false) : Chg ex B g W W' :=
  ⟨hg.os, hg.tape, hg.output, hg.size, fun k o hk h => (hg.block k (Array.getElem?_eq_some_iff.1 h).1 (fun e => by
    obtain ⟨h1, o', h2, h3⟩ := hr k e.symm
    rw [h] at h2; cases h2
    rcases hk with hk | ⟨hk, _⟩
    · omega
    · rw [h3] at hk; cases hk)).trans h⟩
end
/-- A caller's invariant that bears it. -/
def Cl {β : Type} (ex : Nat → Nat → Obj → Prop) (B : Nat) (J : Nat → β → World → Prop) : Prop := ∀ g s W W', J g s W → Chg ex B g W W' → J g s W'
theorem Cl.up {β : Type} {ex : Nat → Nat → Obj → Prop} {B B' : Nat} {J : Nat → β → World → Prop} (h : Cl ex B J) (hB : B ≤ B') : Cl ex B' J := fun g s W W' hs hc => h g s W W' hs (hc.weaken hB)
theorem Cl.and {β : Type} {ex : Nat → Nat → Obj → Prop} {B : Nat} {J K : Nat → β → World → Prop} (h : Cl ex B J) (k : Cl ex B K) : Cl ex B (fun g s W => J g s W ∧ K g s W) := fun g s W W' hs hc => ⟨h g s W W' hs.1 hc, k g s W W' hs.2 hc⟩
/-- No exceptions. -/
def exN : Nat → Nat → Obj → Prop := fun _ _ _ => False

/-- The blocks of kp, and those from m on, lie as they lay. -/
structure KeepK (kp : Nat → Prop) (m : Nat) (W W' : World) : Prop where
  os : W'.os = W.os
  tape : W'.tape = W.tape
  output : W'.output = W.output
  size : W.heap.size ≤ W'.heap.size
  block : ∀ k o, (kp k ∨ m ≤ k) → W.heap[k]? = some o → W'.heap[k]? = some o
section
variable {kp : Nat → Prop} {m : Nat} {W W' W2 : World}
theorem KeepK.refl (W : World) : KeepK kp m W W := ⟨rfl, rfl, rfl, Nat.le_refl _, fun _ _ _ h => h⟩
theorem KeepK.trans (h : KeepK kp m W W') (k : KeepK kp m W' W2) : KeepK kp m W W2 :=
  ⟨k.os.trans h.os, k.tape.trans h.tape, k.output.trans h.output, Nat.le_trans h.size k.size, fun i o hi hs => k.block i o hi (h.block i o hi hs)⟩
theorem KeepK.weaken (h : KeepK kp m W W') {kp' : Nat → Prop} {m' : Nat} (hk : ∀ k, (kp' k ∨ m' ≤ k) → (kp k ∨ m ≤ k)) : KeepK kp' m' W W' :=
  ⟨h.os, h.tape, h.output, h.size, fun i o hi hs => h.block i o (hk i hi) hs⟩
theorem KeepK.of_below (h : Below W.heap.size W W') : KeepK kp m W W' := ⟨h.os, h.tape, h.output, h.size, fun k _ _ hs => (h.block k (Array.getElem?_eq_some_iff.1 hs).1).trans hs⟩
theorem KeepK.putObj (W : World) (l : Nat) (o : Obj) (h1 : ¬ kp l) (h2 : l < m) : KeepK kp m W (W.putObj l o) :=
  ⟨rfl, rfl, rfl, by simp, fun k o' hk h => (World.putObj_heap_other (by rintro rfl; rcases hk with hk | hk; exact h1 hk; omega)).trans h⟩
theorem KeepK.setCell (W : World) (a : Addr) (v : Value) (h1 : ¬ kp a.block) (h2 : a.block < m) : KeepK kp m W (W.setCell a v) :=
  ⟨rfl, rfl, rfl, by simp [World.setCell], fun k o' hk h => (Below.heap_setCell W a v k (by rintro rfl; rcases hk with hk | hk; exact h1 hk; omega)).trans h⟩
theorem KeepK.alloc (W : World) (o : Obj) : KeepK kp m W (W.alloc o) := .of_below ((Below.refl _ W).alloc (Nat.le_refl _) _)
end

/-- What an iterator promises that hands over the list L as long as the body wants more. -/
def GivesSome {α : Type} (F : Fence) (n : Nat) (P : Program) (gf : Nat) (lb : Array Value) (encs : Nat → α → Array Value) (ex : Nat → Nat → Obj → Prop) (kp : Nat → Prop) (X : Nat → α → World → Prop) (L : List α) (w : World) : Prop :=
  ∀ (l : Nat) (J Jx : Nat → List α → World → Prop) (W : World), Below w.heap.size w W → Cl ex W.heap.size J → Cl ex W.heap.size Jx →
    (∀ g pre x W1, J g pre W1 → X g x W1 → W.heap.size ≤ g → pre ++ [x] <+: L → YieldAt F (n - 1) P l (encs g x) W1 fun en W' => KeepK kp W.heap.size W1 W' ∧
      ((en = .returned (.bool true) ∧ J g (pre ++ [x]) W') ∨ (en = .returned (.bool false) ∧ Jx g (pre ++ [x]) W'))) →
    (∀ g, W.heap.size ≤ g → J g [] W) →
    CallsIn F n P gf (#[.func (.yield l) #[] #[]] ++ lb) W fun en W' => (∃ v, en = .returned v) ∧ ((∃ g, J g L W') ∨ ∃ g pre, pre <+: L ∧ Jx g pre W')

/-- How a round of such a loop ends. -/
def someEnd {α : Type} (kp : Nat → Prop) (m : Nat) (I : Nat → List α → World → Prop) (Ix : Code → Nat → List α → World → Prop) (g : Nat) (xs : List α) (W : World) : Exit → Act → World → Prop
  | .normal, _, W' => KeepK kp m W W' ∧ I g xs W'
  | .ret, _, W' => KeepK kp m W W' ∧ Ix .ret g xs W'
  | .exit id, _, W' => KeepK kp m W W' ∧ Ix (.exit id) g xs W'
  | .goto t, _, W' => KeepK kp m W W' ∧ Ix (.goto t) g xs W'
  | _, _, _ => False

theorem range_some {F : Fence} {n : Nat} {P : Program} {w : World} {α : Type} {gx : Operand} {ps : Array Tmp} {assign body : Code} {Q : Exit → Act → World → Prop} {a : Act}
    (hro : F.round = none) (h1 : 1 ≤ n) {gf : Nat} {lb : Array Value} (hg : a.eval gx = .func (.func gf) #[] lb) (hFg : F.fn gf) (eg : ∀ args w, (callFunc gf args).run P w = .ok (.enter gf args) w)
    {encs : Nat → α → Array Value} {ex : Nat → Nat → Obj → Prop} {kp : Nat → Prop} {X : Nat → α → World → Prop} {L : List α} (hseq : GivesSome F (n - 1) P gf lb encs ex kp X L w) (hkp : ∀ k, kp k → k < w.heap.size) (hps : ∀ g x, (encs g x).size = ps.size)
    (hX : ∀ g x W l o o', X g x W → W.heap[l]? = some o → o.isCells = false → X g x (W.putObj l o'))
    (I : Nat → List α → World → Prop) (Ix : Code → Nat → List α → World → Prop) (hI : Cl ex w.heap.size I) (hIx : ∀ c, Cl ex w.heap.size (Ix c)) (h0 : ∀ g, w.heap.size ≤ g → I g [] w) (a₁ : Nat → α → Act)
    (hassign : ∀ (l g : Nat) (x : α) (W : World) (K : Act → World → Prop), K (a₁ g x) W →
      assign.wpIn (F.inRound l) (n - 1 - 1) P (Exit.then K (fun _ _ _ => False)) { tmps := (ps.zip (encs g x)).foldl (fun t (p, v) => t.setIfInBounds p v) a.tmps, defers := [] } W)
    (hbody : ∀ (l g : Nat) (pre : List α) (x : α) (W : World), w.heap.size ≤ g → I g pre W → X g x W → pre ++ [x] <+: L → body.wpIn (F.inRound l) (n - 1 - 1) P (someEnd kp w.heap.size I Ix g (pre ++ [x]) W) (a₁ g x) W)
    (hdone : ∀ (D g : Nat) (W : World), w.heap.size ≤ D → I g L W → W.heap[D]? = some (.deferred (some [])) → Q .normal { a with defers := { target := .collected D, args := #[] } :: a.defers } W)
    (hstop : ∀ (D g : Nat) (c : Code) (pre : List α) (W : World), w.heap.size ≤ D → pre <+: L → Ix c g pre W → W.heap[D]? = some (.deferred (some [])) → c.wpIn F n P Q { a with defers := { target := .collected D, args := #[] } :: a.defers } W) :
    (Code.rangeFunc gx ps assign body).wpIn F n P Q a w := by
  refine wpIn_rangeFunc fun fn hfn => ?_
  rw [hro]
  obtain ⟨rc, hrc⟩ : ∃ rc : LoopState → Option Code → Loop, rc = fun st pe => { state := st, pending := pe, fn, tmps := a.tmps, params := ps, assign, body, defers := w.heap.size } := ⟨_, rfl⟩
  have hen := run_enterLoop_outer (P := P) (w := w) fn a.tmps ps assign body
  have hloop : ((w.alloc (.deferred (some []))).alloc (.loop (rc .ready none))).heap[w.heap.size + 1]? = some (.loop (rc .ready none)) := by
    have := World.alloc_heap_new (w.alloc (.deferred (some []))) (.loop (rc .ready none)); rwa [World.size_alloc] at this
  have hdef : ((w.alloc (.deferred (some []))).alloc (.loop (rc .ready none))).heap[w.heap.size]? = some (.deferred (some [])) :=
    (Below.heap_alloc _ _ _ (by simp)).trans (World.alloc_heap_new w _)
  have hIn : ∀ g, w.heap.size + 2 ≤ g → I g [] ((w.alloc (.deferred (some []))).alloc (.loop (rc .ready none))) := fun g hg => hI _ _ _ _ (hI _ _ _ _ (h0 g (by omega)) (.alloc _ _)) (.alloc _ _)
  have hbl : Below w.heap.size w ((w.alloc (.deferred (some []))).alloc (.loop (rc .ready none))) := ((Below.refl _ w).alloc (Nat.le_refl _) _).alloc (by simp) _
  have hsz : ((w.alloc (.deferred (some []))).alloc (.loop (rc .ready none))).heap.size = w.heap.size + 2 := by simp
  rw [show ({ state := .ready, pending := none, fn, tmps := a.tmps, params := ps, assign, body, defers := w.heap.size } : Loop) = rc .ready none by rw [hrc]] at hen
  generalize (w.alloc (.deferred (some []))).alloc (.loop (rc .ready none)) = W1 at *
  refine ⟨_, _, W1, { target := .fn (.func gf) lb, args := #[.func (.yield (w.heap.size + 1)) #[] #[]] }, W1, gf, #[.func (.yield (w.heap.size + 1)) #[] #[]] ++ lb, W1, hen, ?_, ?_, ?_, fun _ => h1, ?_⟩
  · simp only [resolve, hg]
    simp [go_sem]
  · intro f' hf'
    simp [Target.leads] at hf'
    subst hf'
    exact hFg
  · simp [invoke, go_sem, eg]
  · refine (hseq (w.heap.size + 1) (fun g pre W => I g pre W ∧ W.heap[w.heap.size + 1]? = some (.loop (rc .ready none)) ∧ W.heap[w.heap.size]? = some (.deferred (some [])))
      (fun g pre W => ∃ c, Ix c g pre W ∧ W.heap[w.heap.size + 1]? = some (.loop (rc .done (some c))) ∧ W.heap[w.heap.size]? = some (.deferred (some []))) W1 hbl ?_ ?_ ?_ (fun g hg => ⟨hIn g (by omega), hloop, hdef⟩)).mono ?_
    · rintro g s A B ⟨hi, hl, hd⟩ hc
      exact ⟨hI g s A B hi (hc.weaken (by omega)), hc.block _ _ (.inl (by omega)) hl, hc.block _ _ (.inl (by omega)) hd⟩
    · rintro g s A B ⟨c, hi, hl, hd⟩ hc
      exact ⟨c, hIx c g s A B hi (hc.weaken (by omega)), hc.block _ _ (.inl (by omega)) hl, hc.block _ _ (.inl (by omega)) hd⟩
    · rintro g pre x W ⟨hi, hl, hd⟩ hx hg hlen
      have hlt := (Array.getElem?_eq_some_iff.1 hl).1
      have hy := run_yield (P := P) (args := encs g x) hl (by rw [hrc]; exact hps g x)
      rw [hrc] at hy
      refine ⟨fn, _, assign, body, hy, roundIn_of_wpIn hfn (hassign _ g x W _ ⟨_, run_beginRound hl (by rw [hrc]), ?_⟩)⟩
      have hst : ({ rc .ready none with state := .busy } : Loop) = rc .busy none := by rw [hrc]
      rw [hst]
      have k1 : ¬ kp (w.heap.size + 1) := fun h => by have := hkp _ h; omega
      refine wpIn_mono (hbody _ g pre x _ (by omega) (hI _ _ _ _ hi (Chg.putObj W _ _ hl (by omega) rfl)) (hX _ _ _ _ _ _ hx hl rfl) hlen) ?_
      have fin : ∀ (jump : Option Code) (W3 : World), KeepK kp w.heap.size (W.putObj (w.heap.size + 1) (.loop (rc .busy none))) W3 →
          (Instr.endRound (w.heap.size + 1) jump).run P W3 = .ok (.bool jump.isNone) (W3.putObj (w.heap.size + 1) (.loop (rc (if jump.isNone then .ready else .done) jump))) ∧
          W3.heap[w.heap.size + 1]? = some (.loop (rc .busy none)) ∧
          (W3.putObj (w.heap.size + 1) (.loop (rc (if jump.isNone then .ready else .done) jump))).heap[w.heap.size + 1]? = some (.loop (rc (if jump.isNone then .ready else .done) jump)) ∧
          (W3.putObj (w.heap.size + 1) (.loop (rc (if jump.isNone then .ready else .done) jump))).heap[w.heap.size]? = some (.deferred (some [])) ∧
          KeepK kp W1.heap.size W (W3.putObj (w.heap.size + 1) (.loop (rc (if jump.isNone then .ready else .done) jump))) := fun jump W3 hk => by
        have hl3 : W3.heap[w.heap.size + 1]? = some (.loop (rc .busy none)) := hk.block _ _ (.inr (by omega)) (World.putObj_heap_same hlt)
        have hd3 : W3.heap[w.heap.size]? = some (.deferred (some [])) := hk.block _ _ (.inr (by omega)) ((World.putObj_heap_other (by omega)).trans hd)
        have := run_endRound (P := P) jump hl3
        rw [hrc] at this hl3 ⊢
        exact ⟨this, hl3, World.putObj_heap_same (Array.getElem?_eq_some_iff.1 hl3).1, (World.putObj_heap_other (by omega)).trans hd3,
          ((KeepK.putObj W _ _ k1 (by omega)).trans ((by rw [hrc] at hk; exact hk.weaken fun k h => h.imp_right (by omega)))).trans (KeepK.putObj W3 _ _ k1 (by omega))⟩
      rintro en a3 W3 hp
      cases en with
      | normal =>
        obtain ⟨hk, hi3⟩ := hp
        obtain ⟨hr, hl3, hl4, hk4, hK⟩ := fin none W3 hk
        exact ⟨_, _, hr, hK, .inl ⟨rfl, hI _ _ _ _ hi3 (Chg.putObj W3 _ _ hl3 (by omega) rfl), hl4, hk4⟩⟩
      | ret =>
        obtain ⟨hk, hi3⟩ := hp
        obtain ⟨hr, hl3, hl4, hk4, hK⟩ := fin (some .ret) W3 hk
        exact ⟨_, _, hr, hK, .inr ⟨rfl, .ret, hIx _ _ _ _ _ hi3 (Chg.putObj W3 _ _ hl3 (by omega) rfl), hl4, hk4⟩⟩
      | exit id =>
        obtain ⟨hk, hi3⟩ := hp
        obtain ⟨hr, hl3, hl4, hk4, hK⟩ := fin (some (.exit id)) W3 hk
        exact ⟨_, _, hr, hK, .inr ⟨rfl, .exit id, hIx _ _ _ _ _ hi3 (Chg.putObj W3 _ _ hl3 (by omega) rfl), hl4, hk4⟩⟩
      | goto t =>
        obtain ⟨hk, hi3⟩ := hp
        obtain ⟨hr, hl3, hl4, hk4, hK⟩ := fin (some (.goto t)) W3 hk
        exact ⟨_, _, hr, hK, .inr ⟨rfl, .goto t, hIx _ _ _ _ _ hi3 (Chg.putObj W3 _ _ hl3 (by omega) rfl), hl4, hk4⟩⟩
      | panic ch => exact hp.elim
      | outgrown => exact hp.elim
    · rintro en W2 ⟨⟨v, rfl⟩, ⟨g, hi, hl, hd⟩ | ⟨g, pre, hpre, c, hi, hl, hd⟩⟩
      · exact ⟨none, _, by have := run_endLoop (P := P) hl (by rw [hrc]; simp); rw [hrc] at this; exact this, hdone _ g _ (Nat.le_refl _) (hI _ _ _ _ hi (Chg.putObj W2 _ _ hl (by omega) rfl)) ((World.putObj_heap_other (by omega)).trans hd)⟩
      · exact ⟨some c, _, by have := run_endLoop (P := P) hl (by rw [hrc]; simp); rw [hrc] at this; exact this, hstop _ g c pre _ (Nat.le_refl _) hpre (hIx _ _ _ _ _ hi (Chg.putObj W2 _ _ hl (by omega) rfl)) ((World.putObj_heap_other (by omega)).trans hd)⟩
end Go.Proofs.YtpbljciblgcgfaaDoor
end

section
/- A region that draws its order, at the wide fence: all but its last operations only look, and the last ones wait for all the others; and what a walk without a fence shows. -/
namespace Go.Proofs.YtpbljciblgcgfaaDoor

section
variable {P : Program} {ops : Array Oper} {md : Region.Mode} {w : World} {l m : Nat} {Q : Exit → Act → World → Prop}

theorem wpOpIn_of_stOp_w {i : Nat} {a : Act} {K : Act → Prop} {K' : Act → World → Prop} (hd : ∀ o, ops[i]? = some o → ∀ c, o.op ≠ .defer c)
    (h : ∀ a, K a → K' a w) (hh : stOp P ops w i K a) : wpOpIn Fence.wide m P ops Q i K' a w := by
  unfold stOp at hh
  unfold wpOpIn
  split
  · rename_i ho; simp only [ho] at hh; exact h _ hh
  · rename_i o ho
    simp only [ho] at hh
    split
    · rename_i hw
      simp only [hw, if_true] at hh
      refine ⟨fun _ _ => trivial, ?_⟩
      rw [Oper.semAt_eq _ _ _ (hd o ho)]
      unfold Oper.still at hh
      generalize (execOp a.eval o).run P w = r at *
      cases r with
      | ok x w' =>
        cases x <;> simp only [Oper.stillUpon] at hh
        case value v => obtain ⟨rfl, hk⟩ := hh; exact h _ hk
        case skip => obtain ⟨rfl, hk⟩ := hh; exact h _ hk
        case enter f args =>
          obtain ⟨rfl, v, hc, hk⟩ := hh
          refine ⟨(fun hx => nomatch hx), callsIn_wide.2 (hc.mono ?_)⟩
          rintro e w'' ⟨rfl, rfl⟩
          exact h _ hk
      | halt x w' => simp [Oper.stillUpon] at hh
    · rename_i hw
      simp only [hw] at hh
      exact ⟨fun _ _ => trivial, h _ hh⟩

theorem wpAnyIn_of_head_w {n g : Nat} {L : Array Bool → Act → Prop} (hd : ∀ (i : Nat) o, ops[i]? = some o → ∀ c, o.op ≠ .defer c)
    (hL : ∀ listed a, L listed a → wpAnyIn Fence.wide m P md ops Q g listed a w) :
    ∀ (f : Nat) (listed : Array Bool) (a : Act), wpAnyL P md ops w n L f listed a → wpAnyIn Fence.wide m P md ops Q (f + g) listed a w
  | 0, listed, a, h => by rw [Nat.zero_add]; exact hL _ _ h
  | f + 1, listed, a, h => by
    rw [show f + 1 + g = (f + g) + 1 by omega]
    exact ⟨fun h0 => absurd h0 h.1, fun i hi => wpOpIn_of_stOp_w (hd i) (fun a' h' => wpAnyIn_of_head_w hd hL f _ a' h') (h.2 i hi).2⟩

/-- The law: n operations look, in whatever order; what follows them is one by one. -/
theorem wpIn_wide_tail {id : Nat} {a : Act} {w : World} {os : List Oper} (n : Nat) (hm : P.follows .mixedOrders = true) (hB : Region.lexTailB .any os.toArray n = true)
    (hd : (os.all fun o => match o.op with | .defer _ => false | _ => true) = true)
    (h : wpStill P os.toArray w.drew (fun a' => wpListIn Fence.wide m P os.toArray Q (os.drop n) a' w.drew) (os.take n) a) :
    (Code.region id os.toArray true).wpIn Fence.wide m P Q a w := by
  simp only [Region.lexTailB, Bool.and_eq_true, decide_eq_true_eq] at hB
  obtain ⟨⟨⟨⟨hsel, hn⟩, hs⟩, hc⟩, hlex⟩ := hB
  have hn' : n < os.length := by simpa using hn
  have htl : (os.take n).length = n := by simp; omega
  have hdl : (os.drop n).length = os.toArray.size - n := by simp
  have hdef : ∀ (i : Nat) o, os.toArray[i]? = some o → ∀ c, o.op ≠ .defer c := by
    intro i o ho c hop
    have ho' : os[i]? = some o := by simpa using ho
    have := List.all_eq_true.1 hd o (List.mem_of_getElem? ho')
    rw [hop] at this
    cases this
  have inv0 : HeadInv .any os.toArray n (Array.replicate os.toArray.size false) :=
    ⟨by simp, fun j oj _ hl => (by rw [getD_replicate_false] at hl; cases hl), fun t _ ht => getD_in (by simpa using ht) (getD_replicate_false _ _)⟩
  have H := wpAnyL_lex (md := .any) (g := os.toArray.size - n) hsel hs hc hn (os.take n) 0 _ a (fun j hj => by
    have hj' : j < n := by rw [htl] at hj; exact hj
    simp [hj']) (by simpa using htl) inv0 (by rw [htl]; exact hlex) h
  refine wpIn_region_any hm ?_
  have := wpAnyIn_of_head_w (Q := Q) (g := os.toArray.size - n) hdef (fun listed a' hL => by
    have := wpAnyIn_of_seq (F := Fence.wide) (md := .any) (Q := Q) (os.drop n) n listed a' w.drew (fun j => by simp [List.getElem?_drop]) (by rw [hdl]; exact hL.1) hL.2
    rwa [hdl] at this) _ _ _ H
  rw [htl, show n + (os.toArray.size - n) = os.toArray.size by omega] at this
  exact this

end
/-! A region that draws its order at a fence that bars no function, in a round or not: an operation that only looks, and sees the same as long as the class C of worlds is kept, may be taken first. -/
section
variable {F : Fence} {m : Nat} {P : Program} {ops : Array Oper} {md : Region.Mode} {Q : Exit → Act → World → Prop} {C : World → Prop}

def wpAnyC (F : Fence) (m : Nat) (P : Program) (md : Region.Mode) (ops : Array Oper) (C : World → Prop) (Q : Exit → Act → World → Prop) : Nat → Array Bool → Act → World → Prop
  | 0, listed, a, w => C w ∧ Region.ready md ops listed = [] ∧ Q .normal a w
  | f + 1, listed, a, w => C w ∧ (Region.ready md ops listed = [] → Q .normal a w) ∧ ∀ i ∈ Region.ready md ops listed, wpOpIn F m P ops Q i (wpAnyC F m P md ops C Q f (listed.setIfInBounds i true)) a w
theorem wpAnyC.cls : ∀ {f : Nat} {listed : Array Bool} {a : Act} {w : World}, wpAnyC F m P md ops C Q f listed a w → C w
  | 0, _, _, _, h => h.1
  | _ + 1, _, _, _, h => h.1
theorem wpAnyC.any : ∀ {f : Nat} {listed : Array Bool} {a : Act} {w : World}, wpAnyC F m P md ops C Q f listed a w → wpAnyIn F m P md ops Q f listed a w
  | 0, _, _, _, h => h.2
  | _ + 1, _, _, _, h => ⟨h.2.1, fun i hi => wpOpIn_mono (fun _ _ h' => h'.any) (h.2.2 i hi)⟩

/-- What an operation yields in whatever world of the class. -/
def YieldsC (P : Program) (ops : Array Oper) (C : World → Prop) (o : Oper) (v : Value) (a : Act) : Prop :=
  (Region.wanted o (yielded ops a.tmps) = true ∧ ∀ W, C W → (execOp a.eval o).run P W = .ok (.value v) W) ∨ (Region.wanted o (yielded ops a.tmps) = false ∧ v = undef)
theorem YieldsC.wpOpIn {i : Nat} {o : Oper} {v : Value} {a : Act} (hF : ∀ f, F.fn f) (hd : ∀ c, o.op ≠ .defer c) (hi : ops[i]? = some o) (hy : YieldsC P ops C o v a)
    {K : Act → World → Prop} {w : World} (hC : C w) (h : K (a.put o.dst v) w) : wpOpIn F m P ops Q i K a w := by
  unfold Go.wpOpIn
  simp only [hi]
  rcases hy with ⟨hw, hv⟩ | ⟨hw, rfl⟩
  · simp only [hw, if_true, Oper.wpIn, Oper.semAt_eq _ _ _ hd, hv w hC, Oper.uponIn]; exact ⟨fun f _ => hF f, h⟩
  · simp only [hw, Bool.false_eq_true, if_false]; exact ⟨fun f _ => hF f, h⟩
theorem YieldsC.of_same {o : Oper} {v : Value} {a a' : Act} (hy : YieldsC P ops C o v a) (he : execOp a'.eval o = execOp a.eval o)
    (hw : Region.wanted o (yielded ops a'.tmps) = Region.wanted o (yielded ops a.tmps)) : YieldsC P ops C o v a' := by
  unfold YieldsC at *
  rw [he, hw]
  exact hy

theorem wpOpIn_putC {j : Nat} {oi oj : Oper} {v : Value} (hF : ∀ f, F.fn f) (hd : ∀ c, oj.op ≠ .defer c) (hj : ops[j]? = some oj) (hap : oi.apart ops oj = true)
    (hsi : ∀ cs b, oi.op ≠ .select cs b) (hsj : ∀ cs b, oj.op ≠ .select cs b)
    (hQ : ∀ c a w, Q (.panic c) (a.put oi.dst v) w → Q (.panic c) a w) {K : Act → World → Prop} {a : Act} {w : World}
    (hy : YieldsC P ops C oi v a) (h : wpOpIn F m P ops Q j K (a.put oi.dst v) w) :
    wpOpIn F m P ops Q j (fun a' w' => YieldsC P ops C oi v a' ∧ K (a'.put oi.dst v) w') a w := by
  obtain ⟨h1, h2, h3⟩ := Oper.apart_spec hap
  have keep : ∀ (a : Act), YieldsC P ops C oi v a → ∀ u, YieldsC P ops C oi v (a.put oj.dst u) := fun a hy u =>
    hy.of_same (execOp_put oi hsi a oj.dst u h3) (wanted_put oi a oj.dst u h3)
  unfold wpOpIn at *
  simp only [hj] at *
  rw [wanted_put oj a oi.dst v h1] at h
  split
  · rename_i hw
    simp only [hw, if_true] at h
    unfold Oper.wpIn at *
    refine ⟨fun f _ => hF f, ?_⟩
    have h := h.2
    rw [Oper.semAt_eq _ _ _ hd, execOp_put oj hsj a oi.dst v h1] at h
    rw [Oper.semAt_eq _ _ _ hd]
    generalize (execOp a.eval oj).run P w = r at *
    cases r with
    | ok x w' =>
      cases x <;> simp only [Oper.uponIn] at h ⊢
      case value u => exact ⟨keep a hy u, by rw [← Act.put_comm a v u h2]; exact h⟩
      case skip => exact ⟨keep a hy _, by rw [← Act.put_comm a v undef h2]; exact h⟩
      case defer d =>
        refine ⟨keep _ (hy.of_same (a' := { a with defers := d :: a.defers }) rfl rfl) _, ?_⟩
        rw [← Act.put_comm _ v undef h2, ← Act.put_defers]
        exact h
      case enter f args =>
        refine ⟨h.1, CallsIn.mono h.2 fun e w'' he => ?_⟩
        cases e with
        | returned u => exact ⟨keep a hy u, by rw [← Act.put_comm a v u h2]; exact he⟩
        | panicked c => exact hQ _ _ _ he
        | outgrown => exact he
      case row row args => exact ⟨h.1, RowsIn.mono h.2 fun u w'' he => ⟨keep a hy u, by rw [← Act.put_comm a v u h2]; exact he⟩⟩
      case round l f tmps assign body =>
        refine ⟨h.1, RoundIn.mono h.2 fun e w'' he => ?_⟩
        cases e with
        | returned u => exact ⟨keep a hy u, by rw [← Act.put_comm a v u h2]; exact he⟩
        | panicked c => exact hQ _ _ _ he
        | outgrown => exact he
    | halt x w' =>
      cases x <;> simp only [Oper.uponIn] at h ⊢
      case panic u => exact hQ _ _ _ h
  · rename_i hw
    simp only [hw] at h
    exact ⟨fun f _ => hF f, keep a hy _, by rw [← Act.put_comm a v undef h2]; exact h.2⟩

theorem wpAnyC_first {i : Nat} {oi : Oper} {v : Value} (hF : ∀ f, F.fn f) (hd : ∀ (j : Nat) (o : Oper) c, ops[j]? = some o → o.op ≠ .defer c) (hi : ops[i]? = some oi) (hsel : ∀ (j : Nat) (o : Oper) cs b, ops[j]? = some o → o.op ≠ .select cs b)
    (hQ : ∀ c a w, Q (.panic c) (a.put oi.dst v) w → Q (.panic c) a w) :
    ∀ (fuel : Nat) (listed : Array Bool) (a : Act) (w : World),
      (∀ j oj, ops[j]? = some oj → j ≠ i → listed.getD j true = false → (∀ e ∈ oj.after, Region.binds md e = true → e.on ≠ i) → oi.apart ops oj = true) →
      i ∈ Region.ready md ops listed → YieldsC P ops C oi v a →
      wpAnyC F m P md ops C Q fuel (listed.setIfInBounds i true) (a.put oi.dst v) w → wpAnyC F m P md ops C Q (fuel + 1) listed a w := by
  intro fuel
  induction fuel with
  | zero =>
    intro listed a w _ hr hy H
    refine ⟨H.1, fun h => (by rw [h] at hr; cases hr), fun j hj => ?_⟩
    by_cases hji : j = i
    · subst hji; exact hy.wpOpIn hF (hd j oi · hi) hi H.1 H
    · have := ready_mono hj hji
      rw [H.2.1] at this
      cases this
  | succ fuel ih =>
    intro listed a w hfree hr hy H
    refine ⟨H.1, fun h => (by rw [h] at hr; cases hr), fun j hj => ?_⟩
    by_cases hji : j = i
    · subst hji; exact hy.wpOpIn hF (hd j oi · hi) hi H.1 H
    · have h1 := H.2.2 j (ready_mono hj hji)
      obtain ⟨hjun, oj, hoj, hall⟩ := mem_ready.1 hj
      have hnot : ∀ e ∈ oj.after, Region.binds md e = true → e.on ≠ i := fun e he hb heq => by
        have h1 := hall e he hb
        have h0 := (mem_ready.1 hr).1
        rw [heq] at h1
        rcases Nat.lt_or_ge i listed.size with h' | h'
        · simp [h'] at h0 h1; rw [h0] at h1; cases h1
        · simp [Array.getElem?_eq_none h'] at h1
      have h2 := wpOpIn_putC hF (hd j oj · hoj) hoj (hfree j oj hoj hji hjun hnot) (fun cs b => hsel i oi cs b hi) (fun cs b => hsel j oj cs b hoj) hQ hy h1
      have hfree' : ∀ k ok, ops[k]? = some ok → k ≠ i → (listed.setIfInBounds j true).getD k true = false →
          (∀ e ∈ ok.after, Region.binds md e = true → e.on ≠ i) → oi.apart ops ok = true := fun k ok hk hki hun hno => by
        refine hfree k ok hk hki ?_ hno
        by_cases hjk : j = k
        · subst hjk; exact hjun
        · rw [getD_set_ne true hjk] at hun; exact hun
      refine wpOpIn_mono (fun a' w' h3 => ih (listed.setIfInBounds j true) a' w' hfree' (ready_mono hr (Ne.symm hji)) h3.1 ?_) h2
      rw [Array.setIfInBounds_comm _ _ hji]
      exact h3.2

def noDefer (ops : Array Oper) : Bool := ops.all fun o => match o.op with | .defer _ => false | _ => true
theorem noDefer_spec (h : noDefer ops = true) : ∀ (j : Nat) (o : Oper) c, ops[j]? = some o → o.op ≠ .defer c := by
  intro j o c ho hop
  have := Array.all_eq_true_iff_forall_mem.1 h o (Array.mem_of_getElem? ho)
  simp only [hop] at this
  cases this
/-- An operation that only looks is taken first. -/
theorem heldIn_take {i : Nat} {oi : Oper} {t : Tmp} {v : Value} {fuel : Nat} {listed : Array Bool} {a : Act} {w : World} (hF : ∀ f, F.fn f) (hd : noDefer ops = true) (hs : Region.noSelect ops = true)
    (hQ : ∀ c a d v w, Q (.panic c) (Act.put a d v) w → Q (.panic c) a w) (hi : ops[i]? = some oi) (ht : oi.dst = some t)
    (hf : (Region.free md ops listed i && (Region.ready md ops listed).contains i && Region.wanted oi (yielded ops a.tmps)) = true)
    (hy : ∀ W, C W → (execOp a.eval oi).run P W = .ok (.value v) W)
    (h : wpAnyC F m P md ops C Q fuel (listed.setIfInBounds i true) (a.put (some t) v) w) : wpAnyC F m P md ops C Q (fuel + 1) listed a w := by
  rw [← ht] at h
  simp only [Bool.and_eq_true] at hf
  exact wpAnyC_first hF (noDefer_spec hd) hi (Region.noSelect_spec hs) (fun c a w => hQ c a _ _ w) fuel listed a w (Region.free_spec hi hf.1.1) (by simpa using hf.1.2) (.inl ⟨hf.2, hy⟩) h
/-- The one operation that is ready. -/
theorem heldIn_one {i : Nat} {oi : Oper} {fuel : Nat} {listed : Array Bool} {a : Act} {w : World} (hi : ops[i]? = some oi) (hC : C w) (hr : Region.ready md ops listed = [i])
    (hw : Region.wanted oi (yielded ops a.tmps) = true) (h : oi.wpIn F m P a w (wpAnyC F m P md ops C Q fuel (listed.setIfInBounds i true)) Q) : wpAnyC F m P md ops C Q (fuel + 1) listed a w := by
  refine ⟨hC, fun h0 => (by rw [hr] at h0; cases h0), fun j hj => ?_⟩
  rw [hr] at hj
  obtain rfl : j = i := by simpa using hj
  unfold wpOpIn
  simp only [hi, hw, if_true]
  exact h
/-- append, its run known. -/
theorem wpIn_append_run {n : Nat} {o : Oper} {a : Act} {w : World} {K : Act → World → Prop} (hF : ∀ f, F.fn f) (s x : Operand) (t : TypeId) (hop : o.op = Op.call { callee := Callee.builtin Builtin.append, args := #[s, x], argTypes := #[t, t] }) {v1 v2 v : Value} {w' : World}
    (hs : a.eval s = v1) (hx : a.eval x = v2) (hr : (Builtin.append_ #[t, t] o.type #[v1, v2]).run P w = .ok v w') (h : K (a.put o.dst v) w') : o.wpIn F n P a w K Q := by
  refine ⟨fun f _ => hF f, ?_⟩
  rw [Oper.semAt_eq _ _ _ (fun c h => by rw [hop] at h; cases h)]
  unfold execOp
  simp only [hop, resolve, invoke, builtin, Sem.run_bind, Sem.run_pure, Result.andThen_ok, List.map_toArray, List.map_cons, List.map_nil, hs, hx, hr]
  exact h
/-- A call of a Go function, by its contract. -/
theorem wpIn_call_run {n : Nat} {o : Oper} {a : Act} {w : World} {K : Act → World → Prop} (hF : ∀ f, F.fn f) (hdp : F.depth = none) (hd : ∀ c, o.op ≠ .defer c) {f : FuncId} {args : Array Value}
    (hr : (execOp a.eval o).run P w = .ok (.enter f args) w) {R : Ending → World → Prop} (hc : CallsIn F (n - 1) P f args w R) (h : ∀ e w', R e w' → ∃ v, e = .returned v ∧ K (a.put o.dst v) w') : o.wpIn F n P a w K Q := by
  refine ⟨fun f _ => hF f, ?_⟩
  rw [Oper.semAt_eq _ _ _ hd, hr]
  refine ⟨fun h => (by rw [hdp] at h; cases h), hc.mono fun e w' he => ?_⟩
  obtain ⟨v, rfl, hk⟩ := h e w' he
  exact hk
theorem wpIn_value_run {n : Nat} {o : Oper} {a : Act} {w : World} {K : Act → World → Prop} (hF : ∀ f, F.fn f) (hd : ∀ c, o.op ≠ .defer c) {v : Value} {w' : World}
    (hr : (execOp a.eval o).run P w = .ok (.value v) w') (h : K (a.put o.dst v) w') : o.wpIn F n P a w K Q := by
  refine ⟨fun f _ => hF f, ?_⟩
  rw [Oper.semAt_eq _ _ _ hd, hr]
  exact h
/-- The two operations that are ready. -/
theorem heldIn_two {i j : Nat} {oi oj : Oper} {fuel : Nat} {listed : Array Bool} {a : Act} {w : World} (hi : ops[i]? = some oi) (hj : ops[j]? = some oj) (hC : C w) (hr : Region.ready md ops listed = [i, j])
    (hw : Region.wanted oi (yielded ops a.tmps) = true) (hw' : Region.wanted oj (yielded ops a.tmps) = true) (h : oi.wpIn F m P a w (wpAnyC F m P md ops C Q fuel (listed.setIfInBounds i true)) Q)
    (h' : oj.wpIn F m P a w (wpAnyC F m P md ops C Q fuel (listed.setIfInBounds j true)) Q) : wpAnyC F m P md ops C Q (fuel + 1) listed a w := by
  refine ⟨hC, fun h0 => (by rw [hr] at h0; cases h0), fun k hk => ?_⟩
  rw [hr] at hk
  rcases List.mem_cons.1 hk with rfl | hk
  · unfold wpOpIn
    simp only [hi, hw, if_true]
    exact h
  · obtain rfl : k = j := by simpa using hk
    unfold wpOpIn
    simp only [hj, hw', if_true]
    exact h'
theorem heldIn_done {listed : Array Bool} {a : Act} {w : World} (hC : C w) (hr : Region.ready md ops listed = []) (h : Q .normal a w) : wpAnyC F m P md ops C Q 0 listed a w := ⟨hC, hr, h⟩
/-- A call that leaves the world, and an operation that yields, in either order. -/
theorem heldIn_call_or {i j : Nat} {oi oj : Oper} {fuel : Nat} {listed : Array Bool} {a : Act} {w w' : World} {v u : Value} {ti tj : Tmp} {f : FuncId} {args : Array Value} (hF : ∀ f, F.fn f) (hdp : F.depth = none)
    (hdi : ∀ c, oi.op ≠ .defer c) (hdj : ∀ c, oj.op ≠ .defer c) (hi : ops[i]? = some oi) (hj : ops[j]? = some oj) (hti : oi.dst = some ti) (htj : oj.dst = some tj) (hC : C w) (hC' : C w')
    (hr : Region.ready md ops listed = [i, j]) (hri : Region.ready md ops (listed.setIfInBounds i true) = [j]) (hrj : Region.ready md ops (listed.setIfInBounds j true) = [i])
    (hwi : oi.guard = none) (hwj : oj.guard = none)
    (hci : (execOp a.eval oi).run P w = .ok (.enter f args) w) (hci' : (execOp (a.put (some tj) u).eval oi).run P w' = .ok (.enter f args) w')
    (hcall : ∀ W, CallsIn F (m - 1) P f args W fun e W' => e = .returned v ∧ W = W')
    (hvj : (execOp a.eval oj).run P w = .ok (.value u) w') (hvj' : (execOp (a.put (some ti) v).eval oj).run P w = .ok (.value u) w')
    (hcomm : (a.put (some tj) u).put (some ti) v = (a.put (some ti) v).put (some tj) u) (hl : (listed.setIfInBounds j true).setIfInBounds i true = (listed.setIfInBounds i true).setIfInBounds j true)
    (h : wpAnyC F m P md ops C Q fuel ((listed.setIfInBounds i true).setIfInBounds j true) ((a.put (some ti) v).put (some tj) u) w') : wpAnyC F m P md ops C Q (fuel + 2) listed a w := by
  have wi : ∀ t, Region.wanted oi (yielded ops t) = true := fun t => by simp [Region.wanted, hwi]
  have wj : ∀ t, Region.wanted oj (yielded ops t) = true := fun t => by simp [Region.wanted, hwj]
  refine heldIn_two hi hj hC hr (wi _) (wj _) ?_ ?_
  · refine wpIn_call_run hF hdp hdi hci (hcall w) ?_
    rintro e W' ⟨rfl, rfl⟩
    refine ⟨_, rfl, ?_⟩
    rw [hti]
    refine heldIn_one hj hC hri (wj _) (wpIn_value_run hF hdj hvj' ?_)
    rw [htj]
    exact h
  · refine wpIn_value_run hF hdj hvj ?_
    rw [htj]
    refine heldIn_one hi hC' hrj (wi _) (wpIn_call_run hF hdp hdi hci' (hcall w') ?_)
    rintro e W' ⟨rfl, rfl⟩
    refine ⟨_, rfl, ?_⟩
    rw [hti, hcomm, hl]
    exact h
/-- Q, but 'False' at a panic. -/
def NoP (Q : Exit → Act → World → Prop) : Exit → Act → World → Prop
  | .panic _, _, _ => False
  | e, a, w => Q e a w
theorem NoP.imp {Q : Exit → Act → World → Prop} : ∀ (e : Exit) (a : Act) (w : World), NoP Q e a w → Q e a w := fun e a w h => by
  cases e <;> first | exact h | exact (h : False).elim
theorem heldIn_doneP {listed : Array Bool} {a : Act} {w : World} (hC : C w) (hr : Region.ready md ops listed = []) (h : Q .normal a w) : wpAnyC F m P md ops C (NoP Q) 0 listed a w := ⟨hC, hr, h⟩
theorem wpIn_region_held {id : Nat} {a : Act} {w : World} {os : List Oper} (C : World → Prop) (hm : P.follows .mixedOrders = true)
    (h : wpAnyC F m P .any os.toArray C Q os.length (Array.replicate os.length false) a w.drew) : (Code.region id os.toArray true).wpIn F m P Q a w := by
  refine wpIn_region_any hm ?_
  have := h.any
  simpa using this
/-- The same where the post hangs on the frame at a panic. -/
theorem wpIn_region_heldP {id : Nat} {a : Act} {w : World} {os : List Oper} (C : World → Prop) (hm : P.follows .mixedOrders = true)
    (h : wpAnyC F m P .any os.toArray C (NoP Q) os.length (Array.replicate os.length false) a w.drew) : (Code.region id os.toArray true).wpIn F m P Q a w :=
  wpIn_mono (wpIn_region_held C hm h) NoP.imp
end
end Go.Proofs.YtpbljciblgcgfaaDoor
end

section
/- order.ready: the items of a set with no predecessor in it, in order. -/
namespace Go.Proofs.YtpbljciblgcgfaaDoor
open Go.RowKit Go.Shelf

attribute [local go_sem] Oper.semAt_some

/-- The items of t with no predecessor in s, B being the predecessors' rows. -/
def readyT (B : Nat → Nat) (s t : Nat) : List Nat := (MM.els t).filter fun a => decide (B a &&& s = 0)
def readyL (B : Nat → Nat) (s : Nat) : List Nat := readyT B s s

/-- The blocks of kp lie as they lay. -/
structure KeepS (kp : Nat → Prop) (W W' : World) : Prop where
  os : W'.os = W.os
  tape : W'.tape = W.tape
  output : W'.output = W.output
  size : W.heap.size ≤ W'.heap.size
  block : ∀ k o, kp k → W.heap[k]? = some o → W'.heap[k]? = some o
section
variable {kp : Nat → Prop} {W W' W2 : World}
theorem KeepS.refl (W : World) : KeepS kp W W := ⟨rfl, rfl, rfl, Nat.le_refl _, fun _ _ _ h => h⟩
theorem KeepS.trans (h : KeepS kp W W') (k : KeepS kp W' W2) : KeepS kp W W2 :=
  ⟨k.os.trans h.os, k.tape.trans h.tape, k.output.trans h.output, Nat.le_trans h.size k.size, fun i o hi hs => k.block i o hi (h.block i o hi hs)⟩
theorem KeepS.of_below (h : Below W.heap.size W W') : KeepS kp W W' := ⟨h.os, h.tape, h.output, h.size, fun k _ _ hs => (h.block k (Array.getElem?_eq_some_iff.1 hs).1).trans hs⟩
theorem KeepS.below {n : Nat} (h : KeepS kp W W') (hk : ∀ k, k < n → kp k) (hn : n ≤ W.heap.size) : Below n W W' :=
  ⟨h.os, h.tape, h.output, h.size, fun k hlt => by
    obtain ⟨o, ho⟩ : ∃ o, W.heap[k]? = some o := ⟨W.heap[k]'(by omega), Array.getElem?_eq_getElem (by omega)⟩
    rw [h.block k o (hk k hlt) ho, ho]⟩
theorem KeepK.toS {m : Nat} (h : KeepK kp m W W') {kp' : Nat → Prop} (hk : ∀ k, kp' k → (kp k ∨ m ≤ k)) : KeepS kp' W W' := ⟨h.os, h.tape, h.output, h.size, fun k o hk' => h.block k o (hk k hk')⟩
theorem keepS_b {w : World} (hk : ∀ k, kp k → k < w.heap.size) (W : World) (l : Nat) (o o' : Obj) (hl : w.heap.size ≤ l) (_ : W.heap[l]? = some o) (_ : o.isCells = false) (_ : o.isWalk = false) : KeepS kp W (W.putObj l o') :=
  ⟨rfl, rfl, rfl, by simp, fun k o' hk' h => (World.putObj_heap_other (by rintro rfl; have := hk _ hk'; omega)).trans h⟩
theorem boxed_on {W W' : World} {B : Nat} {t : TypeId} {v : Value} (h : Boxed W B t v) (hb : Below W.heap.size W W') : Boxed W' B t v := (hb.block B (Array.getElem?_eq_some_iff.1 h).1).trans h
theorem grown_of_below (h : Below W.heap.size W W') : W.grownBy W' none := ⟨h.os, h.tape, h.output, h.size, fun k hk _ => h.block k hk⟩
end

set_option maxHeartbeats 400000 in
theorem ready_any (bp : Addr) (x : Int) (w : World) :
    Calls Tryd.prog 101 #[.pointer (some bp), .int .u64 x] w fun e w' => e = .returned (.func (.func 103) #[] #[.pointer (some ⟨w.heap.size + 1, 0, none⟩), .pointer (some ⟨w.heap.size, 0, none⟩)]) ∧ (w.alloc (.cells #[.pointer (some bp)] 82)).alloc (.cells #[.int .u64 x] 23) = w' := by
  go_enter Tryd.func101, Tryd.ntmps101
  go_wp2
  go_ret
  exact ⟨rfl, rfl⟩

set_option maxRecDepth 100000 in
set_option maxHeartbeats 1000000 in
theorem ready1_gives (n : Nat) (hn : 1 ≤ n) (B1 B2 Bn n₀ : Nat) (hn₀ : 0 < n₀) (N : Int) (B : Nat → Nat) (hB : R64 B) (s : Nat) (hs : s < 2 ^ 48) (w : World) (hT : Tab w) (hsz : n₀ ≤ w.heap.size)
    (hb1 : Boxed w B1 23 (.int .u64 (s : Int))) (hb2 : Boxed w B2 82 (.pointer (some ⟨Bn, 0, none⟩))) (hR : RelAt w Bn N B) :
    GivesSome Fence.wide n Tryd.prog 103 #[.pointer (some ⟨B1, 0, none⟩), .pointer (some ⟨B2, 0, none⟩)] (fun (_ : Nat) (k : Nat) => #[Value.int .i64 k]) exN (fun k => k < n₀ ∨ k = Bn ∨ k = B1 ∨ k = B2) (fun _ _ _ => True) (readyL B s) w := by
  intro l J' Jx' W hW hA' hAx' hY' hJ0'
  have hA := hA' W.heap.size
  have hJ0 := hJ0' W.heap.size (Nat.le_refl _)
  have hY : ∀ pre (x : Nat) W1, J' W.heap.size pre W1 → pre ++ [x] <+: readyL B s → YieldAt Fence.wide (n - 1) Tryd.prog l #[.int .i64 x] W1 fun en W' => KeepS (fun k => k < n₀ ∨ k = Bn ∨ k = B1 ∨ k = B2) W1 W' ∧
      ((en = .returned (.bool true) ∧ J' W.heap.size (pre ++ [x]) W') ∨ (en = .returned (.bool false) ∧ Jx' W.heap.size (pre ++ [x]) W')) := fun pre x W1 hj hp =>
    (hY' _ pre x W1 hj trivial (Nat.le_refl _) hp).mono fun e W' h => ⟨h.1.toS fun k hk => .inl hk, h.2⟩
  clear hY' hJ0' hA' hAx'
  suffices H : CallsIn Fence.wide n Tryd.prog 103 (#[.func (.yield l) #[] #[]] ++ #[.pointer (some ⟨B1, 0, none⟩), .pointer (some ⟨B2, 0, none⟩)]) W fun e W' => (∃ v, e = .returned v) ∧ ((∃ ys, ys = readyL B s ∧ J' W.heap.size ys W') ∨ (∃ pre, pre <+: readyL B s ∧ Jx' W.heap.size pre W')) from
    H.mono fun e W' ⟨h1, h2⟩ => ⟨h1, by
      rcases h2 with ⟨ys, rfl, h⟩ | ⟨pre, hp, h⟩
      · exact .inl ⟨_, h⟩
      · exact .inr ⟨_, pre, hp, h⟩⟩
  generalize J' W.heap.size = J at *
  generalize Jx' W.heap.size = Jx at *
  replace hT := hT.below hW hT.pos
  replace hR := hR.below hW hR.lt
  replace hb1 := boxed_on hb1 hW
  replace hb2 := boxed_on hb2 hW
  refine callsIn_of_wp Tryd.func103 rfl trivial ?_ rfl
  simp only [Tryd.ntmps103, List.size_toArray, List.length_cons, List.length_nil, Nat.reduceAdd, Nat.reduceSub, Array.replicate_succ, Array.replicate_zero, List.push_toArray, List.append_toArray, List.nil_append, List.cons_append]
  have c1 := hb1.cell
  gi_wp2
  gi_loopw [4] (fun p wr => ∃ (pre : List Nat) (x : Int), p = .int .u64 x ∧ 0 ≤ x ∧ x < 18446744073709551616 ∧ MM.els s = pre ++ MM.els x.toNat ∧ J (pre.filter fun a => decide (B a &&& s = 0)) wr ∧ KeepS (fun k => k < n₀ ∨ k = Bn ∨ k = B1 ∨ k = B2) W wr)
    (fun p _ => (MM.els (intOf p).toNat).length)
  case atStart => exact ⟨[], s, rfl, by omega, by omega, rfl, hJ0, KeepS.refl _⟩
  case round =>
    obtain ⟨pre, x, rfl, hx0, hx1, hx, hJs, hK⟩ := hrel
    by_cases hz : x = 0
    · subst hz
      gi_wp2
      go_end0
      refine ⟨⟨_, rfl⟩, .inl ⟨_, ?_, hJs⟩⟩
      rw [readyL, readyT, hx]
      simp [MM.els_zero]
    · obtain ⟨k, hk, he, hi0, hi1, ht, hr0, hr1⟩ := MM.low x (by omega) hx1
      have hne : (x != 0) = true := by simp; exact hz
      have hpos : 0 < x := by omega
      have hT' : Tab wr := hT.below (hK.below (n := n₀) (fun k h => .inl h) (Nat.le_trans hsz hW.size)) hn₀
      have hks : k < 48 ∧ s.testBit k = true := by
        have h1 : k ∈ MM.els s := by rw [hx, he]; simp
        refine ⟨Decidable.byContradiction fun h => ?_, (MM.mem_els.1 h1).2⟩
        have h2 := (MM.mem_els.1 h1).2
        rw [Nat.testBit_lt_two_pow (Nat.lt_of_lt_of_le hs (Nat.pow_le_pow_right (by omega) (by omega)))] at h2
        cases h2
      have hF := first_any x hx0 hx1 wr hT'
      rw [show nextOf (MM.els x.toNat) (-1) = some k by rw [he, nextOf, List.find?_cons_of_pos (by simp; omega)]] at hF
      have Hx := Lib.hid hx
      have He := Lib.hid he
      have HF := Lib.hid hF
      clear hx he ht hz hF
      gi_wp2_with fail
      refine ⟨trivial, ?_⟩
      refine (callsIn_wide.2 HF.out).mono ?_
      rintro e w1 ⟨rfl, h1⟩
      have hK1 := hK.trans (KeepS.of_below h1)
      have hJ1 := hA _ _ _ hJs (Chg.of_below h1)
      have c1 := Boxed.cell (show Boxed w1 B1 23 (.int .u64 (s : Int)) from hK1.block _ _ (.inr (.inr (.inl rfl))) hb1)
      have c2 := Boxed.cell (show Boxed w1 B2 82 (.pointer (some ⟨Bn, 0, none⟩)) from hK1.block _ _ (.inr (.inr (.inr rfl))) hb2)
      have hR1 : RelAt w1 Bn N B := hK1.block _ _ (.inr (.inl rfl)) hR
      have c3 := hR1.row k hks.1
      have k48 : (k : Int) < 48 := by omega
      have hand := u64_and (B k : Int) (s : Int) (by omega) (by have := hB k; omega) (by omega) (by omega)
      rw [Int.toNat_natCast, Int.toNat_natCast] at hand
      simp only [optV]
      have hm : Tryd.prog.follows .mixedOrders = true := by kernel_rfl
      have hK2 : KeepS (fun k => k < n₀ ∨ k = Bn ∨ k = B1 ∨ k = B2) W w1.drew := hK1.trans ⟨rfl, rfl, rfl, Nat.le_refl _, fun _ _ _ h => h⟩
      have hJ2 := hA _ _ w1.drew hJ1 (Chg.drew _)
      have hall : readyL B s = (pre.filter fun a => decide (B a &&& s = 0)) ++ (k :: MM.els (bits BinOp.and IntKind.u64 x (x - 1)).toNat).filter fun a => decide (B a &&& s = 0) := by
        rw [readyL, readyT, Hx.out, He.out, List.filter_append]
      replace hall := Lib.hid hall
      replace hK2 := Lib.hid hK2
      replace hJ2 := Lib.hid hJ2
      clear hK1 hJ1 hK hJs
      cases hq : decide (B k &&& s = 0)
      · have ha : (bits BinOp.and IntKind.u64 (B k : Int) (s : Int) == 0) = false := by rw [hand]; simpa using hq
        clear hand
        gi_upto_region 4 with fail
        refine wpIn_wide_tail 12 hm (by kernel_rfl) (by kernel_rfl) ?_
        simp only [List.take_succ_cons, List.take_zero, List.drop_succ_cons, List.drop_zero]
        repeat still_step
        refine wpStill_nil ?_
        refine wpListIn_skip ?g1 ?g2 ?_
        case g1 => rfl
        case g2 => rfl
        refine wpListIn_skip ?g1 ?g2 ?_
        case g1 => rfl
        case g2 => rfl
        simp only [Act.put, List.setIfInBounds_toArray, List.set_cons_succ, List.set_cons_zero]
        gi_wp2
        go_roundw
        case rel => exact ⟨pre ++ [k], _, rfl, hr0, hr1, by rw [Hx.out, He.out]; simp, by rw [List.filter_append, show [k].filter (fun a => decide (B a &&& s = 0)) = [] by simp [hq], List.append_nil]; exact hJ2.out, hK2.out⟩
        case measure => simp only [intOf]; rw [He.out]; simp
      · have ha : (bits BinOp.and IntKind.u64 (B k : Int) (s : Int) == 0) = true := by rw [hand]; simpa using hq
        clear hand
        obtain ⟨fn, tmps, assign, body, hy, hRd⟩ := hY _ k _ hJ2.out (by rw [hall.out, List.filter_cons_of_pos (by simpa using hq)]; exact ⟨(MM.els (bits BinOp.and IntKind.u64 x (x - 1)).toNat).filter fun a => decide (B a &&& s = 0), by simp⟩)
        gi_upto_region 4 with fail
        refine wpIn_wide_tail 12 hm (by kernel_rfl) (by kernel_rfl) ?_
        simp only [List.take_succ_cons, List.take_zero, List.drop_succ_cons, List.drop_zero]
        repeat still_step
        refine wpStill_nil ?_
        gi_wp2
        refine hRd.mono ?_
        rintro e W3 ⟨hk3, ⟨rfl, hJ3⟩ | ⟨rfl, hJx3⟩⟩
        · gi_wp2
          go_roundw
          case rel => exact ⟨pre ++ [k], _, rfl, hr0, hr1, by rw [Hx.out, He.out]; simp, by rw [List.filter_append, show [k].filter (fun a => decide (B a &&& s = 0)) = [k] by simp [hq]]; exact hJ3, hK2.out.trans hk3⟩
          case measure => simp only [intOf]; rw [He.out]; simp
        · gi_wp2
          refine bodyPost_ret (results_none rfl _ _ _) rfl ?_
          refine ⟨⟨_, rfl⟩, .inr ⟨_, ?_, hJx3⟩⟩
          rw [hall.out, List.filter_cons_of_pos (by simpa using hq)]
          exact ⟨(MM.els (bits BinOp.and IntKind.u64 x (x - 1)).toNat).filter fun a => decide (B a &&& s = 0), by simp⟩
end Go.Proofs.YtpbljciblgcgfaaDoor
end
