/- rel.build, rel.combine. -/
import Derived.Test.YtakhmjohncidoaaDoorRelRight
namespace Go.Proofs.YtakhmjohncidoaaDoor
open Go.RowKit Go.Shelf

attribute [local go_sem] Oper.semAt_some

/-- Only block b may have turned. -/
structure Only (b : Nat) (W W' : World) : Prop where
  os : W'.os = W.os
  tape : W'.tape = W.tape
  output : W'.output = W.output
  size : W'.heap.size = W.heap.size
  block : ∀ k, k ≠ b → W'.heap[k]? = W.heap[k]?

theorem below_only {B b : Nat} {a W W' : World} (h : Below B a W) (ho : Only b W W') (hb : B ≤ b) : Below B a W' :=
  h.trans ⟨ho.os, ho.tape, ho.output, by rw [ho.size]; exact Nat.le_refl _, fun k hk => ho.block k (by omega)⟩
theorem RelAt.only {W W' : World} {b c : Nat} {n : Int} {f : Nat → Nat} (h : RelAt W b n f) (ho : Only c W W') (hb : b ≠ c) : RelAt W' b n f := (ho.block b hb).trans h
theorem RelAt.below {W W' : World} {b B : Nat} {n : Int} {f : Nat → Nat} (h : RelAt W b n f) (hb : Below B W W') (hlt : b < B) : RelAt W' b n f := (hb.block b hlt).trans h
theorem Only.setCell (W : World) (a : Addr) (v : Value) : Only a.block W (W.setCell a v) :=
  ⟨rfl, rfl, rfl, by simp [World.setCell], fun k hk => heap_setCell_other W a k v hk⟩

/-- A whole relation stored into another's place. -/
theorem RelAt.put {W : World} {b : Nat} {n : Int} {f : Nat → Nat} (h : RelAt W b n f) (m : Int) (g : Nat → Nat) :
    ∃ W', (stRel (.pointer (some ⟨b, 0, none⟩)) (.agg (relC m g))).run Tryd.prog W = .ok () W' ∧ RelAt W' b m g ∧ Only b W W' :=
  ⟨_, h.st m g, h.setRow m g, ⟨rfl, rfl, rfl, by simp [World.setRow], fun k hk => Go.setRow_other W b k _ hk⟩⟩

/-- The rows of items alone. -/
def cutF (n : Int) (F : Nat → Nat) : Nat → Nat := fun i => if (i : Int) < n then F i else 0
theorem cutF_zero (F : Nat → Nat) : cutF 0 F = zf := by
  funext i; unfold cutF zf; rw [if_neg (by omega)]
theorem cutF_upd (k : Nat) (F : Nat → Nat) : upd (cutF k F) k (F k) = cutF ((k + 1 : Nat) : Int) F := by
  funext i
  unfold upd cutF
  by_cases h : i = k
  · subst h; rw [if_pos rfl, if_pos (by omega)]
  · rw [if_neg h]
    by_cases h2 : (i : Int) < k
    · rw [if_pos h2, if_pos (by omega)]
    · rw [if_neg h2, if_neg (by omega)]
theorem cutF_64 (n : Int) {F : Nat → Nat} (h : R64 F) : R64 (cutF n F) := by
  intro i; unfold cutF; split
  · exact h i
  · exact Nat.two_pow_pos 64

theorem results_rel {fn : Func} {p : Tmp} (h : fn.results = #[.cell p 26]) (tmps : Array Value) (w : World) (b : Nat) (n : Int) (f : Nat → Nat)
    (hp : tmps.getD p undef = .pointer (some ⟨b, 0, none⟩)) (hR : RelAt w b n f) : (results fn tmps).run Tryd.prog w = .ok (.agg (relC n f)) w :=
  results_cell_row h tmps w b 26 (relC n f) (0, 0) _ hp hR Tryd.underlying26 rfl (by rw [relC_size]; exact infoRel)
theorem results_rel2 {fn : Func} {p q : Tmp} (h : fn.results = #[.cell p 26, .tmp q]) (tmps : Array Value) (w : World) (b : Nat) (n : Int) (f : Nat → Nat)
    (hp : tmps.getD p undef = .pointer (some ⟨b, 0, none⟩)) (hR : RelAt w b n f) : (results fn tmps).run Tryd.prog w = .ok (.tuple #[.agg (relC n f), tmps.getD q undef]) w := by
  have hl := run_loadVar_row w b 26 26 (relC n f) (0, 0) _ hR Tryd.underlying26 rfl (by rw [relC_size]; exact infoRel)
  have hp' : tmps[p]?.getD undef = .pointer (some ⟨b, 0, none⟩) := by simpa using hp
  simp [results, h, hp', asAddr, hl]

set_option maxHeartbeats 1000000 in
set_option maxRecDepth 100000 in
theorem build_any (n : Int) (g : Nat) (lb : Array Value) (F : Nat → Nat) (w : World) (hn0 : 0 ≤ n) (hn1 : n ≤ 48)
    (heg : ∀ args w, (callFunc g args).run Tryd.prog w = .ok (.enter g args) w)
    (hg : ∀ (W : World) (k : Nat), (k : Int) < n → Below w.heap.size w W → Calls Tryd.prog g (#[.int .i64 (k : Int)] ++ lb) W fun e W' => e = .returned (.int .u64 (F k : Int)) ∧ Below W.heap.size W W') :
    Calls Tryd.prog 50 #[.int .i64 n, .func (.func g) #[] lb] w fun e w' => e = .returned (.agg (relC n (cutF n F))) ∧ Below w.heap.size w w' := by
  have HG := Lib.hid hg
  clear hg
  obtain ⟨W1, hs1, hR1, hO1⟩ := (RelAt.new (w.alloc (.cells (relC 0 zf) 26)) 0 zf).put n zf
  rw [World.size_alloc] at hs1 hR1 hO1
  have hZ1 : RelAt W1 w.heap.size 0 zf := ((RelAt.new w 0 zf).alloc _).only hO1 (by omega)
  have hB1 : Below w.heap.size w W1 := below_only (((Below.refl _ w).alloc (Nat.le_refl _) _).alloc (by simp) _) hO1 (by omega)
  have hz1 : W1.heap.size = w.heap.size + 2 := by rw [hO1.size]; simp
  clear hO1
  have Hz1 := Lib.hid hz1
  clear hz1
  go_enter Tryd.func50, Tryd.ntmps50
  go_wp2
  clear hs1
  go_loopw [10] (fun i W => ∃ k : Nat, (k : Int) ≤ n ∧ i = .int .i64 k ∧ RelAt W (w.heap.size + 1) n (cutF k F) ∧ RelAt W w.heap.size 0 zf ∧ Below w.heap.size w W ∧ w.heap.size + 2 ≤ W.heap.size) (fun i _ => (n - intOf i).toNat)
  case atStart => exact ⟨0, by omega, rfl, by rw [show ((0 : Nat) : Int) = 0 from rfl, cutF_zero]; exact hR1, hZ1, hB1, by rw [Hz1.out]; exact Nat.le_refl _⟩
  case round =>
    obtain ⟨k, hk, rfl, hR, hZ, hB, hsz⟩ := hrel
    clear hR1 hZ1 hB1
    by_cases hlt : (k : Int) < n
    · have HC := Lib.hid (HG.out wr k hlt hB)
      go_wp2_with fail
      refine HC.out.mono ?_
      rintro e W2 ⟨rfl, hb⟩
      replace hR := hR.below hb (by omega)
      replace hZ := hZ.below hb (by omega)
      replace hB := hB.trans (hb.mono hB.size)
      replace hsz := Nat.le_trans hsz hb.size
      clear hb
      have hc := hR.row k (by omega)
      have hf := hR.free (1 + k)
      go_wp2
      go_roundw
      case rel => exact ⟨k + 1, by omega, by go_num, by rw [← cutF_upd]; exact hR.set k (F k) (by omega), hZ.other _ _ (by simp), hB.setCell (by simp) _, by simpa using hsz⟩
      case measure => simp [intOf]; omega
    · obtain rfl : n = (k : Int) := by omega
      have hL := hR.ld
      obtain ⟨W3, hs3, hR3, hO3⟩ := hZ.put k (cutF k F)
      go_wp2
      exact bodyPost_ret (results_rel rfl _ _ _ _ _ rfl hR3) rfl ⟨rfl, below_only hB hO3 (Nat.le_refl _)⟩
end Go.Proofs.YtakhmjohncidoaaDoor
