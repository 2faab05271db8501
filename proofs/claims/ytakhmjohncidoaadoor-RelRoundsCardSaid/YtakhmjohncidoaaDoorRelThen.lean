/- rel.Id, rel.Cross, rel.Then; single bits. -/
import Derived.Test.YtakhmjohncidoaaDoorRelImage
namespace Go.Proofs.YtakhmjohncidoaaDoor
open Go.RowKit Go.Shelf

attribute [local go_sem] Oper.semAt_some

theorem shr_bit (x i : Int) (h0 : 0 ≤ x) : (x / 2 ^ i.toNat) % 2 = if x.toNat.testBit i.toNat then 1 else 0 := by
  rw [Nat.testBit_eq_decide_div_mod_eq]
  obtain ⟨X, rfl⟩ := Int.eq_ofNat_of_zero_le h0
  have e : ((X : Int) / 2 ^ i.toNat) = ((X / 2 ^ i.toNat : Nat) : Int) := by simp
  rw [e, Int.toNat_natCast]
  generalize X / 2 ^ i.toNat = y
  by_cases h : y % 2 = 1
  · simp [h]; omega
  · simp [h]; omega

theorem and_pow (s i : Nat) : s &&& 2 ^ i = if s.testBit i then 2 ^ i else 0 := by
  apply Nat.eq_of_testBit_eq
  intro j
  rw [Nat.testBit_and, Nat.testBit_two_pow]
  by_cases h : i = j
  · subst h
    cases hs : s.testBit i <;> simp
  · cases hs : s.testBit i <;> simp [h]

/-- Bit tests, as the walk spells them. -/
theorem bit_and (x k : Nat) (hx : x < 2 ^ 64) : bits BinOp.and IntKind.u64 ((x : Int) / 2 ^ k) 1 = ((if x.testBit k then 1 else 0 : Nat) : Int) := by
  have e : ((x : Int) / 2 ^ k) = ((x / 2 ^ k : Nat) : Int) := by simp
  have hle : x / 2 ^ k ≤ x := Nat.div_le_self _ _
  rw [e, show (1 : Int) = ((1 : Nat) : Int) by rfl, u64_and_nat _ _ (by omega) (by omega), Nat.and_one_is_mod, Nat.testBit_eq_decide_div_mod_eq]
  by_cases h : x / 2 ^ k % 2 = 1
  · simp [h]
  · have : x / 2 ^ k % 2 = 0 := by omega
    simp [this]
theorem bit_is0 (x k : Nat) (hx : x < 2 ^ 64) : (bits BinOp.and IntKind.u64 ((x : Int) / 2 ^ k) 1 == 0) = !x.testBit k := by
  rw [bit_and x k hx]; cases x.testBit k <;> rfl
theorem bit_is1 (x k : Nat) (hx : x < 2 ^ 64) : (bits BinOp.and IntKind.u64 ((x : Int) / 2 ^ k) 1 == 1) = x.testBit k := by
  rw [bit_and x k hx]; cases x.testBit k <;> rfl

theorem shl1_nat (k : Nat) (hk : k < 64) : IntKind.u64.wrap (2 ^ k) = ((2 ^ k : Nat) : Int) := by
  exact shl1_u64 (k : Int) (by omega) (by omega)

/-- The identity's rows. -/
def idF (s : Nat) : Nat → Nat := fun i => if s.testBit i then 2 ^ i else 0
theorem idF_48 (s n : Nat) (hn : n ≤ 48) : R64 (cutF n (idF s)) := by
  intro i
  unfold cutF idF
  split
  · split
    · exact Nat.pow_lt_pow_right (by omega) (by omega)
    · exact Nat.two_pow_pos 64
  · exact Nat.two_pow_pos 64

set_option maxHeartbeats 1000000 in
set_option maxRecDepth 100000 in
theorem id1_any (s b k : Nat) (hs : s < 2 ^ 64) (hk : k < 48) (w : World) (hA : w.cell? ⟨b, 0, none⟩ = some (.int .u64 (s : Int))) :
    Calls Tryd.prog 51 #[.int .i64 (k : Int), .pointer (some ⟨b, 0, none⟩)] w fun e w' => e = .returned (.int .u64 (idF s k : Int)) ∧ Below w.heap.size w w' := by
  have k1 : (k : Int) < 64 := by omega
  have hr := Lib.hid (show bits BinOp.and IntKind.u64 (s : Int) (IntKind.u64.wrap (2 ^ k)) = (idF s k : Int) by
    have hp : 2 ^ k < 2 ^ 64 := Nat.pow_lt_pow_right (by omega) (by omega)
    rw [shl1_nat k (by omega), u64_and_nat _ _ hs hp, and_pow]; rfl)
  go_enter Tryd.func51, Tryd.ntmps51
  go_wp2
  go_quiet (fail)
  go_wp2
  go_ret
  refine ⟨?_, below_drewN (Below.refl _ _) nq⟩
  rw [← hr.out]
  rfl

set_option maxHeartbeats 1000000 in
set_option maxRecDepth 100000 in
theorem cross1_any (s t b c k : Nat) (hs : s < 2 ^ 64) (hk : k < 48) (w : World) (hA : w.cell? ⟨b, 0, none⟩ = some (.int .u64 (s : Int))) (hC : w.cell? ⟨c, 0, none⟩ = some (.int .u64 (t : Int))) :
    Calls Tryd.prog 53 #[.int .i64 (k : Int), .pointer (some ⟨b, 0, none⟩), .pointer (some ⟨c, 0, none⟩)] w fun e w' => e = .returned (.int .u64 ((if s.testBit k then t else 0 : Nat) : Int)) ∧ Below w.heap.size w w' := by
  have k1 : (k : Int) < 64 := by omega
  have hb := bit_is0 s k hs
  cases h : s.testBit k
  · rw [h] at hb
    clear h
    go_enter Tryd.func53, Tryd.ntmps53
    go_wp2
    go_ret
    exact ⟨rfl, Below.refl _ _⟩
  · rw [h] at hb
    clear h
    go_enter Tryd.func53, Tryd.ntmps53
    go_wp2
    go_ret
    exact ⟨rfl, Below.refl _ _⟩

/-- The composition's rows. -/
def thenF (f g : Nat → Nat) : Nat → Nat := fun i => imgF g (f i)
theorem thenF_64 (f : Nat → Nat) {g : Nat → Nat} (hg : R64 g) : R64 (thenF f g) := fun _ => imgL_lt g hg _

theorem right_row {n : Int} {f : Nat → Nat} (h : rightB n f = true) (i : Nat) (hi : i < 48) : f i < 2 ^ 48 := by
  obtain ⟨⟨h0, h1⟩, hr⟩ := rightB_iff.1 h
  have := hr i hi
  unfold okRow at this
  split at this
  · have h2 : f i < 2 ^ n.toNat := by simpa using this
    exact Nat.lt_of_lt_of_le h2 (Nat.pow_le_pow_right (by omega) (by omega))
  · have h2 : f i = 0 := by simpa using this
    rw [h2]; exact Nat.two_pow_pos 48

set_option maxHeartbeats 1000000 in
set_option maxRecDepth 100000 in
theorem then1_any (n m : Int) (f g : Nat → Nat) (hg : R64 g) (a b k : Nat) (hk : k < 48) (hfk : f k < 2 ^ 48) (w : World) (hA : RelAt w a n f) (hB : RelAt w b m g) (hT : Tab w) :
    Calls Tryd.prog 58 #[.int .i64 (k : Int), .pointer (some ⟨b, 0, none⟩), .pointer (some ⟨a, 0, none⟩)] w fun e w' => e = .returned (.int .u64 (thenF f g k : Int)) ∧ Below w.heap.size w w' := by
  have c1 := hA.row k hk
  have k1 : (k : Int) < 48 := by omega
  have HC := Lib.hid (image_any b m g hg (f k) hfk w hB hT)
  go_enter Tryd.func58, Tryd.ntmps58
  go_wp2_with fail
  refine HC.out.mono ?_
  rintro e w1 ⟨rfl, hb⟩
  go_wp2
  go_ret
  exact ⟨rfl, hb⟩

set_option maxHeartbeats 1000000 in
set_option maxRecDepth 100000 in
theorem thens_any (n m : Int) (f g : Nat → Nat) (hf : R64 f) (hg : R64 g) (w : World) (hT : Tab w) :
    Calls Tryd.prog 17 #[.agg (relC n f), .agg (relC m g)] w (CombPost (combB n m f g) n (thenF f g) w) := by
  have hA : RelAt (((w.alloc (.cells (relC n f) 26)).alloc (.cells (relC m g) 26)).alloc (.cells (relC 0 zf) 26)) w.heap.size n f := ((RelAt.new w n f).alloc _).alloc _
  have hM : RelAt (((w.alloc (.cells (relC n f) 26)).alloc (.cells (relC m g) 26)).alloc (.cells (relC 0 zf) 26)) (w.heap.size + 1) m g := by
    have := (RelAt.new (w.alloc (.cells (relC n f) 26)) m g).alloc (.cells (relC 0 zf) 26)
    rwa [World.size_alloc] at this
  have hZ : RelAt (((w.alloc (.cells (relC n f) 26)).alloc (.cells (relC m g) 26)).alloc (.cells (relC 0 zf) 26)) (w.heap.size + 1 + 1) 0 zf := by
    have := (RelAt.new ((w.alloc (.cells (relC n f) 26)).alloc (.cells (relC m g) 26)) 0 zf)
    rwa [World.size_alloc, World.size_alloc] at this
  have hB : Below w.heap.size w (((w.alloc (.cells (relC n f) 26)).alloc (.cells (relC m g) 26)).alloc (.cells (relC 0 zf) 26)) :=
    (((Below.refl _ w).alloc (Nat.le_refl _) _).alloc (by simp) _).alloc (by simp; omega) _
  have Hs := Lib.hid (show (((w.alloc (.cells (relC n f) 26)).alloc (.cells (relC m g) 26)).alloc (.cells (relC 0 zf) 26)).heap.size = w.heap.size + 3 by simp)
  have HC := Lib.hid (combine_any n m f g hf hg 58 #[.pointer (some ⟨w.heap.size + 1, 0, none⟩), .pointer (some ⟨w.heap.size, 0, none⟩)] (thenF f g) (((w.alloc (.cells (relC n f) 26)).alloc (.cells (relC m g) 26)).alloc (.cells (relC 0 zf) 26))
    (enters_of Tryd.func58 (by kernel_rfl) rfl)
    (fun hc W k hk hb => by
      have hr := (combB_iff.1 hc).2.1
      have hn := (rightB_iff.1 hr).1
      exact then1_any n m f g hg w.heap.size (w.heap.size + 1) k (by omega) (right_row hr k (by omega)) W (hA.below hb (by rw [Hs.out]; omega)) (hM.below hb (by rw [Hs.out]; omega)) ((hT.below hB hT.pos).below hb (by rw [Hs.out]; have := hT.pos; omega))))
  have l1 := hA.ld
  have l2 := hM.ld
  go_enter Tryd.func17, Tryd.ntmps17
  go_wp2_with fail
  refine HC.out.mono ?_
  rintro e W1 ⟨rfl, hb⟩
  replace hZ := hZ.below hb (by rw [Hs.out]; omega)
  replace hB := hB.trans (hb.mono hB.size)
  clear hb l1 l2
  obtain ⟨W3, hs3, hR3, hO3⟩ := hZ.put (opN (combB n m f g) n) (opF (combB n m f g) n (thenF f g))
  go_wp2
  exact bodyPost_ret (results_rel2 rfl _ _ _ _ _ rfl hR3) rfl ⟨rfl, below_only hB hO3 (by omega)⟩

set_option maxHeartbeats 1000000 in
set_option maxRecDepth 100000 in
theorem id_any (n : Int) (s : Nat) (hs : s < 2 ^ 64) (w : World) :
    Calls Tryd.prog 10 #[.int .i64 n, .int .u64 (s : Int)] w fun e w' => e = .returned (.agg (relC (opN (sizedB n) n) (opF (sizedB n) n (idF s)))) ∧ Below w.heap.size w w' := by
  have hZ : RelAt ((w.alloc (.cells #[.int .u64 (s : Int)] 23)).alloc (.cells (relC 0 zf) 26)) (w.heap.size + 1) 0 zf := by
    have := (RelAt.new (w.alloc (.cells #[.int .u64 (s : Int)] 23)) 0 zf)
    rwa [World.size_alloc] at this
  have hS : Boxed ((w.alloc (.cells #[.int .u64 (s : Int)] 23)).alloc (.cells (relC 0 zf) 26)) w.heap.size 23 (.int .u64 (s : Int)) := (Boxed.new w 23 (.int .u64 (s : Int))).alloc _
  have hB : Below w.heap.size w ((w.alloc (.cells #[.int .u64 (s : Int)] 23)).alloc (.cells (relC 0 zf) 26)) :=
    ((Below.refl _ w).alloc (Nat.le_refl _) _).alloc (by simp) _
  have Hs := Lib.hid (show ((w.alloc (.cells #[.int .u64 (s : Int)] 23)).alloc (.cells (relC 0 zf) 26)).heap.size = w.heap.size + 2 by simp)
  have CS := Lib.hid (fun w => sized_any n w)
  cases h : sizedB n
  · rw [h] at CS
    clear h
    obtain ⟨W3, hs3, hR3, hO3⟩ := hZ.put 0 zf
    go_enter Tryd.func10, Tryd.ntmps10
    go_wp2_with fail
    refine (CS.out _).mono ?_
    rintro e w1 ⟨rfl, rfl⟩
    go_wp2
    exact bodyPost_ret (results_rel rfl _ _ _ _ _ rfl hR3) rfl ⟨rfl, below_only hB hO3 (by omega)⟩
  · obtain ⟨hn0, hn1⟩ := sizedB_iff.1 h
    rw [h] at CS
    clear h
    have HC := Lib.hid (build_any n 51 #[.pointer (some ⟨w.heap.size, 0, none⟩)] (idF s) ((w.alloc (.cells #[.int .u64 (s : Int)] 23)).alloc (.cells (relC 0 zf) 26)) hn0 hn1
      (enters_of Tryd.func51 (by kernel_rfl) rfl)
      (fun W k hk hb => id1_any s w.heap.size k hs (by omega) W ((hb.cell (p := ⟨w.heap.size, 0, none⟩) (by simp; omega)).trans hS.cell)))
    go_enter Tryd.func10, Tryd.ntmps10
    go_wp2_with fail
    refine (CS.out _).mono ?_
    rintro e w1 ⟨rfl, rfl⟩
    go_wp2_with fail
    refine HC.out.mono ?_
    rintro e W1 ⟨rfl, hb⟩
    replace hZ := hZ.below hb (by rw [Hs.out]; omega)
    replace hB := hB.trans (hb.mono hB.size)
    clear hb
    obtain ⟨W3, hs3, hR3, hO3⟩ := hZ.put n (cutF n (idF s))
    go_wp2
    exact bodyPost_ret (results_rel rfl _ _ _ _ _ rfl hR3) rfl ⟨rfl, below_only hB hO3 (by omega)⟩
end Go.Proofs.YtakhmjohncidoaaDoor
