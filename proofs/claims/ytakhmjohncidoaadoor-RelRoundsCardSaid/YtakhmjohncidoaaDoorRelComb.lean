/- rel.combine; rel.Union, Both, Less. -/
import Derived.BigQuiet
import Derived.Deep.QuietTactic
import Derived.Test.YtakhmjohncidoaaDoorRelBuild
namespace Go.Proofs.YtakhmjohncidoaaDoor
open Go.RowKit Go.Shelf

attribute [local go_sem] Oper.semAt_some

/-- May the two be combined? -/
def combB (n m : Int) (f g : Nat → Nat) : Bool := decide (n = m) && (rightB n f && rightB m g)
theorem combB_iff {n m : Int} {f g : Nat → Nat} : combB n m f g = true ↔ n = m ∧ rightB n f = true ∧ rightB m g = true := by simp [combB]
def opN (b : Bool) (n : Int) : Int := if b then n else 0
def opF (b : Bool) (n : Int) (F : Nat → Nat) : Nat → Nat := if b then cutF n F else zf
def opE (b : Bool) : Int := if b then 0 else 2
theorem zf_64 : R64 zf := fun _ => Nat.two_pow_pos 64
theorem opF_64 (b : Bool) (n : Int) {F : Nat → Nat} (h : R64 F) : R64 (opF b n F) := by
  unfold opF; split
  · exact cutF_64 n h
  · exact zf_64

/-- What combine answers. -/
def CombPost (b : Bool) (n : Int) (F : Nat → Nat) (w : World) (e : Ending) (w' : World) : Prop :=
  e = .returned (.tuple #[.agg (relC (opN b n) (opF b n F)), .int .i64 (opE b)]) ∧ Below w.heap.size w w'

set_option maxHeartbeats 2000000 in
set_option maxRecDepth 100000 in
theorem combine_any (n m : Int) (f g : Nat → Nat) (hf : R64 f) (hg64 : R64 g) (c : Nat) (lb : Array Value) (F : Nat → Nat) (w : World)
    (heg : ∀ args w, (callFunc c args).run Tryd.prog w = .ok (.enter c args) w)
    (hg : combB n m f g = true → ∀ (W : World) (k : Nat), (k : Int) < n → Below w.heap.size w W → Calls Tryd.prog c (#[.int .i64 (k : Int)] ++ lb) W fun e W' => e = .returned (.int .u64 (F k : Int)) ∧ Below W.heap.size W W') :
    Calls Tryd.prog 54 #[.agg (relC n f), .agg (relC m g), .func (.func c) #[] lb] w (CombPost (combB n m f g) n F w) := by
  have R1 := Lib.hid (fun w => right_any n f w hf)
  have R2 := Lib.hid (fun w => right_any m g w hg64)
  have hA : RelAt (((w.alloc (.cells (relC n f) 26)).alloc (.cells (relC m g) 26)).alloc (.cells (relC 0 zf) 26)) w.heap.size n f := ((RelAt.new w n f).alloc _).alloc _
  have hM : RelAt (((w.alloc (.cells (relC n f) 26)).alloc (.cells (relC m g) 26)).alloc (.cells (relC 0 zf) 26)) (w.heap.size + 1) m g := by
    have := (RelAt.new (w.alloc (.cells (relC n f) 26)) m g).alloc (.cells (relC 0 zf) 26)
    rwa [World.size_alloc] at this
  have hZ : RelAt (((w.alloc (.cells (relC n f) 26)).alloc (.cells (relC m g) 26)).alloc (.cells (relC 0 zf) 26)) (w.heap.size + 1 + 1) 0 zf := by
    have := (RelAt.new ((w.alloc (.cells (relC n f) 26)).alloc (.cells (relC m g) 26)) 0 zf)
    rwa [World.size_alloc, World.size_alloc] at this
  have hB : Below w.heap.size w (((w.alloc (.cells (relC n f) 26)).alloc (.cells (relC m g) 26)).alloc (.cells (relC 0 zf) 26)) :=
    (((Below.refl _ w).alloc (Nat.le_refl _) _).alloc (by simp) _).alloc (by simp; omega) _
  have hs : (((w.alloc (.cells (relC n f) 26)).alloc (.cells (relC m g) 26)).alloc (.cells (relC 0 zf) 26)).heap.size = w.heap.size + 3 := by simp
  have HG := Lib.hid hg
  clear hg
  have Hs := Lib.hid hs
  clear hs
  have n1 := hA.num
  have n2 := hM.num
  have l1 := hA.ld
  have l2 := hM.ld
  by_cases hnm : n = m
  · have t0 : (n != m) = false := by simp [hnm]
    cases h1 : rightB n f
    · have hc := Lib.hid (show combB n m f g = false by simp [combB, h1])
      rw [h1] at R1
      clear h1 hnm
      go_enter Tryd.func54, Tryd.ntmps54
      go_wp2_with fail
      refine (R1.out _).mono ?_
      rintro e W1 ⟨rfl, hb⟩
      replace hZ := hZ.below hb (by rw [Hs.out]; omega)
      replace hB := hB.trans (hb.mono hB.size)
      obtain ⟨W3, hs3, hR3, hO3⟩ := hZ.put 0 zf
      clear hb
      go_wp2
      refine bodyPost_ret (results_rel2 rfl _ _ _ _ _ rfl hR3) rfl ?_
      rw [hc.out]
      exact ⟨rfl, below_only hB hO3 (by omega)⟩
    · cases h2 : rightB m g
      · have hc := Lib.hid (show combB n m f g = false by simp [combB, h2])
        rw [h1] at R1
        rw [h2] at R2
        clear h1 h2 hnm
        go_enter Tryd.func54, Tryd.ntmps54
        go_wp2_with fail
        refine (R1.out _).mono ?_
        rintro e W1 ⟨rfl, hb⟩
        replace hZ := hZ.below hb (by rw [Hs.out]; omega)
        replace hB := hB.trans (hb.mono hB.size)
        replace hM := hM.below hb (by rw [Hs.out]; omega)
        replace Hs := Lib.hid (show w.heap.size + 3 ≤ W1.heap.size by have := hb.size; rw [Hs.out] at this; exact this)
        clear hb
        have l3 := hM.ld
        go_wp2_with fail
        refine (R2.out _).mono ?_
        rintro e W2 ⟨rfl, hb⟩
        replace hZ := hZ.below hb (by have := Hs.out; omega)
        replace hB := hB.trans (hb.mono hB.size)
        clear l3 hb
        obtain ⟨W3, hs3, hR3, hO3⟩ := hZ.put 0 zf
        go_wp2
        refine bodyPost_ret (results_rel2 rfl _ _ _ _ _ rfl hR3) rfl ?_
        rw [hc.out]
        exact ⟨rfl, below_only hB hO3 (by omega)⟩
      · have hc := Lib.hid (combB_iff.2 ⟨hnm, h1, h2⟩)
        have hn := sizedB_iff.1 (show sizedB n = true by rw [rightB, Bool.and_eq_true] at h1; exact h1.1)
        obtain ⟨hn0, hn1⟩ := hn
        rw [h1] at R1
        rw [h2] at R2
        clear h1 h2 hnm
        go_enter Tryd.func54, Tryd.ntmps54
        go_wp2_with fail
        refine (R1.out _).mono ?_
        rintro e W1 ⟨rfl, hb⟩
        replace hZ := hZ.below hb (by rw [Hs.out]; omega)
        replace hB := hB.trans (hb.mono hB.size)
        replace hM := hM.below hb (by rw [Hs.out]; omega)
        replace hA := hA.below hb (by rw [Hs.out]; omega)
        replace Hs := Lib.hid (show w.heap.size + 3 ≤ W1.heap.size by have := hb.size; rw [Hs.out] at this; exact this)
        clear hb
        have l3 := hM.ld
        go_wp2_with fail
        refine (R2.out _).mono ?_
        rintro e W2 ⟨rfl, hb⟩
        replace hZ := hZ.below hb (by have := Hs.out; omega)
        replace hA := hA.below hb (by have := Hs.out; omega)
        replace hB := hB.trans (hb.mono hB.size)
        replace Hs := Lib.hid (Nat.le_trans Hs.out hb.size)
        clear l3 hb
        have n3 := hA.num
        have HC := Lib.hid (build_any n c lb F W2 hn0 hn1 heg (fun W k hk hb => HG.out hc.out W k hk (hB.trans (hb.mono hB.size))))
        go_wp2_with fail
        refine HC.out.mono ?_
        rintro e W4 ⟨rfl, hb⟩
        replace hZ := hZ.below hb (by have := Hs.out; omega)
        replace hB := hB.trans (hb.mono hB.size)
        clear hb
        obtain ⟨W3, hs3, hR3, hO3⟩ := hZ.put n (cutF n F)
        go_wp2
        refine bodyPost_ret (results_rel2 rfl _ _ _ _ _ rfl hR3) rfl ?_
        rw [hc.out]
        exact ⟨rfl, below_only hB hO3 (by omega)⟩
  · have t0 : (n != m) = true := by simp [hnm]
    have hc := Lib.hid (show combB n m f g = false by simp [combB, hnm])
    clear hnm
    obtain ⟨W3, hs3, hR3, hO3⟩ := hZ.put 0 zf
    go_enter Tryd.func54, Tryd.ntmps54
    go_wp2
    refine bodyPost_ret (results_rel2 rfl _ _ _ _ _ rfl hR3) rfl ?_
    rw [hc.out]
    exact ⟨rfl, below_only hB hO3 (by omega)⟩

def unionF (f g : Nat → Nat) : Nat → Nat := fun i => f i ||| g i
set_option maxHeartbeats 1000000 in
set_option maxRecDepth 100000 in
theorem union1_any (n m : Int) (f g : Nat → Nat) (hf : R64 f) (hg : R64 g) (a b k : Nat) (hk : k < 48) (w : World) (hA : RelAt w a n f) (hB : RelAt w b m g) :
    Calls Tryd.prog 55 #[.int .i64 (k : Int), .pointer (some ⟨a, 0, none⟩), .pointer (some ⟨b, 0, none⟩)] w fun e w' => e = .returned (.int .u64 (unionF f g k : Int)) ∧ Below w.heap.size w w' := by
  have c1 := hA.row k hk
  have c2 := hB.row k hk
  have k1 : (k : Int) < 48 := by omega
  have hr := Lib.hid (u64_or_nat (f k) (g k) (hf k) (hg k))
  go_enter Tryd.func55, Tryd.ntmps55
  go_wp2
  go_quiet (fail)
  go_wp2
  go_ret
  refine ⟨?_, below_drewN (Below.refl _ _) nq⟩
  rw [hr.out]
  rfl

def bothF (f g : Nat → Nat) : Nat → Nat := fun i => f i &&& g i
set_option maxHeartbeats 1000000 in
set_option maxRecDepth 100000 in
theorem both1_any (n m : Int) (f g : Nat → Nat) (hf : R64 f) (hg : R64 g) (a b k : Nat) (hk : k < 48) (w : World) (hA : RelAt w a n f) (hB : RelAt w b m g) :
    Calls Tryd.prog 56 #[.int .i64 (k : Int), .pointer (some ⟨a, 0, none⟩), .pointer (some ⟨b, 0, none⟩)] w fun e w' => e = .returned (.int .u64 (bothF f g k : Int)) ∧ Below w.heap.size w w' := by
  have c1 := hA.row k hk
  have c2 := hB.row k hk
  have k1 : (k : Int) < 48 := by omega
  have hr := Lib.hid (u64_and_nat (f k) (g k) (hf k) (hg k))
  go_enter Tryd.func56, Tryd.ntmps56
  go_wp2
  go_quiet (fail)
  go_wp2
  go_ret
  refine ⟨?_, below_drewN (Below.refl _ _) nq⟩
  rw [hr.out]
  rfl

def lessF (f g : Nat → Nat) : Nat → Nat := fun i => f i &&& (18446744073709551615 - g i)
set_option maxHeartbeats 1000000 in
set_option maxRecDepth 100000 in
theorem less1_any (n m : Int) (f g : Nat → Nat) (hf : R64 f) (hg : R64 g) (a b k : Nat) (hk : k < 48) (w : World) (hA : RelAt w a n f) (hB : RelAt w b m g) :
    Calls Tryd.prog 57 #[.int .i64 (k : Int), .pointer (some ⟨a, 0, none⟩), .pointer (some ⟨b, 0, none⟩)] w fun e w' => e = .returned (.int .u64 (lessF f g k : Int)) ∧ Below w.heap.size w w' := by
  have c1 := hA.row k hk
  have c2 := hB.row k hk
  have k1 : (k : Int) < 48 := by omega
  have hr := Lib.hid (u64_andNot_nat (f k) (g k) (hf k) (hg k))
  go_enter Tryd.func57, Tryd.ntmps57
  go_wp2
  go_quiet (fail)
  go_wp2
  go_ret
  refine ⟨?_, below_drewN (Below.refl _ _) nq⟩
  rw [hr.out]
  rfl
end Go.Proofs.YtakhmjohncidoaaDoor
