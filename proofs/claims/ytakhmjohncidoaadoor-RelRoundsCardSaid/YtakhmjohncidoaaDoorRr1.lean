/- RelFine, RefBits, RefRel1, RefRel2, AppendKeeps in one text, for the claim. -/
import Derived.Test.YtakhmjohncidoaaDoorRelKeep
import Derived.Test.YtakhmjohncidoaaDoorRelKept
import Derived.Laws.AppendOwnNone
import Derived.Deep.RegionLaw

section
/- seisinlaw02.Fine: any relation, made right. -/
namespace Go.Proofs.YtakhmjohncidoaaDoor
open Go.RowKit Go.Shelf

attribute [local go_sem] Oper.semAt_some

/-- How many items are left. -/
def fineN (n most : Int) : Int := (n.tmod (most + 1) + most + 1) % (most + 1)
/-- The rows that are left. -/
def fineF (f : Nat → Nat) (M : Nat) : Nat → Nat := fun i => if i < M then f i &&& (2 ^ M - 1) else 0
def fineK (f : Nat → Nat) (M k : Nat) : Nat → Nat := fun i => if i < k then fineF f M i else f i
theorem relC_setN (n : Int) (f : Nat → Nat) (m : Int) : (relC n f).setIfInBounds 0 (.int .i64 m) = relC m f := by simp [relC]
theorem fineN_bd (n : Int) {most : Int} (h0 : 0 ≤ most) : 0 ≤ fineN n most ∧ fineN n most ≤ most := by
  have p1 : 0 < most + 1 := by omega
  have := Int.emod_nonneg (n.tmod (most + 1) + most + 1) (show most + 1 ≠ 0 by omega)
  have := Int.emod_lt_of_pos (n.tmod (most + 1) + most + 1) p1
  unfold fineN
  omega
theorem fineN_id {n most : Int} (h0 : 0 ≤ n) (h1 : n ≤ most) : fineN n most = n := by
  unfold fineN
  rw [Int.tmod_eq_emod_of_nonneg h0, Int.emod_eq_of_lt h0 (by omega), show n + most + 1 = n + (most + 1) by omega, Int.add_emod_right, Int.emod_eq_of_lt h0 (by omega)]
theorem fine_bit {f : Nat → Nat} {M i j : Nat} : Bt (fineF f M) i j ↔ i < M ∧ j < M ∧ Bt f i j := by
  unfold Bt fineF
  split
  · rename_i h
    rw [Nat.testBit_and, Nat.testBit_two_pow_sub_one]
    simp [h, and_comm]
  · rename_i h
    simp [h]
theorem fine_64 {f : Nat → Nat} (hf : R64 f) (M : Nat) : R64 (fineF f M) := by
  intro i
  unfold fineF
  split
  · exact Nat.lt_of_le_of_lt Nat.and_le_left (hf i)
  · exact Nat.two_pow_pos 64
theorem fine_rgt {f : Nat → Nat} {M : Nat} (h : M ≤ 48) : Rgt M (fineF f M) := rgt_iff.2 ⟨h, fun _ _ _ hb => ⟨(fine_bit.1 hb).1, (fine_bit.1 hb).2.1⟩⟩
theorem fineK_at (f : Nat → Nat) (M k : Nat) : fineK f M k k = f k := by simp [fineK]
theorem fineK_step (f : Nat → Nat) (M k x : Nat) (hx : x = fineF f M k) : upd (fineK f M k) k x = fineK f M (k + 1) := by
  funext i
  unfold upd fineK
  by_cases h : i = k
  · subst h; rw [if_pos rfl, if_pos (by omega), hx]
  · rw [if_neg h]
    by_cases h2 : i < k
    · rw [if_pos h2, if_pos (by omega)]
    · rw [if_neg h2, if_neg (by omega)]
theorem upd_upd (f : Nat → Nat) (k x y : Nat) : upd (upd f k x) k y = upd f k y := by
  funext i
  unfold upd
  split <;> rfl

theorem RelAt.setN {W : World} {b : Nat} {n : Int} {f : Nat → Nat} (h : RelAt W b n f) (m : Int) : RelAt (W.setCell ⟨b, 0, none⟩ (.int .i64 m)) b m f := by
  unfold RelAt
  rw [heap_setCell_same W b _ _ _ _ h, relC_setN]
end Go.Proofs.YtakhmjohncidoaaDoor
end

section
/- The document's answers for layer 1, as the reference of layer 2 uses them: Has, With; and rows that are filled bit by bit. -/
namespace Go.Proofs.YtakhmjohncidoaaDoor
open Go.RowKit Go.Shelf

attribute [local go_sem] Oper.semAt_some

set_option maxRecDepth 100000 in
set_option maxHeartbeats 400000 in
theorem has_any (x i : Int) (h0 : 0 ≤ x) (_h1 : x < 18446744073709551616) (i0 : 0 ≤ i) (i1 : i < 64) (w : World) :
    Calls Tryd.prog 47 #[.int .u64 x, .int .i64 i] w fun e w' => e = .returned (.bool (x.toNat.testBit i.toNat)) ∧ w = w' := by
  have t0 : decide (0 ≤ i) = true := by simpa using i0
  have t1 : decide (i < 64) = true := by simpa using i1
  have hb := shr_bit x i h0
  have hd : 0 ≤ x / 2 ^ i.toNat := Int.ediv_nonneg h0 (Int.le_of_lt (Int.pow_pos (by decide)))
  have hle : x / 2 ^ i.toNat ≤ x := Int.ediv_le_self _ h0
  cases h : x.toNat.testBit i.toNat
  · rw [h] at hb
    have hb' : x / 2 ^ i.toNat % 2 = 0 := hb
    clear hb h
    go_enter Tryd.func47, Tryd.ntmps47
    go_wp2
    go_ret
    exact ⟨rfl, rfl⟩
  · rw [h] at hb
    have hb' : x / 2 ^ i.toNat % 2 = 1 := hb
    clear hb h
    go_enter Tryd.func47, Tryd.ntmps47
    go_wp2
    go_ret
    exact ⟨rfl, rfl⟩

/-- A set and one number more. -/
def withOf (x i : Int) : Int := ((x.toNat ||| 2 ^ i.toNat : Nat) : Int)
theorem withOf_bd (x i : Int) (h0 : 0 ≤ x) (h1 : x < 18446744073709551616) (i0 : 0 ≤ i) (i1 : i < 64) : 0 ≤ withOf x i ∧ withOf x i < 18446744073709551616 := by
  have h : x.toNat ||| 2 ^ i.toNat < 2 ^ 64 := Nat.or_lt_two_pow (by omega) (Nat.pow_lt_pow_right (by omega) (by omega))
  unfold withOf
  omega
theorem withOf_has (x i : Int) (h0 : 0 ≤ x) (h : x.toNat.testBit i.toNat = true) : withOf x i = x := by
  have e : x.toNat ||| 2 ^ i.toNat = x.toNat := by
    apply Nat.eq_of_testBit_eq
    intro j
    rw [Nat.testBit_or, Nat.testBit_two_pow]
    by_cases hj : i.toNat = j
    · subst hj; simp [h]
    · simp [hj]
  unfold withOf
  rw [e]
  omega
theorem or_pow_add (x i : Nat) (h : x.testBit i = false) : x ||| 2 ^ i = x + 2 ^ i := by
  have hp := Nat.two_pow_pos i
  have hd := Nat.div_add_mod x (2 ^ i)
  have hlt := Nat.mod_lt x hp
  rw [Nat.testBit_eq_decide_div_mod_eq] at h
  simp only [decide_eq_false_iff_not] at h
  have e2 : x = 2 ^ i * (2 * (x / 2 ^ i / 2)) + x % 2 ^ i := by
    have : 2 * (x / 2 ^ i / 2) = x / 2 ^ i := by omega
    rw [this]; omega
  have e3 : x + 2 ^ i = 2 ^ i * (2 * (x / 2 ^ i / 2) + 1) + x % 2 ^ i := by rw [Nat.mul_add]; omega
  apply Nat.eq_of_testBit_eq
  intro j
  rw [e3, Nat.testBit_or, Nat.testBit_two_pow, Nat.testBit_two_pow_mul_add _ hlt]
  have hx : x.testBit j = if j < i then (x % 2 ^ i).testBit j else (2 * (x / 2 ^ i / 2)).testBit (j - i) := by
    have := Nat.testBit_two_pow_mul_add (2 * (x / 2 ^ i / 2)) hlt j
    rwa [← e2] at this
  rw [hx]
  by_cases hj : j < i
  · have : i ≠ j := by omega
    simp [hj, this]
  · by_cases hji : j = i
    · subst hji; simp [Nat.testBit_zero]
    · have : i ≠ j := fun e => hji e.symm
      obtain ⟨d, rfl⟩ : ∃ d, j = i + (d + 1) := ⟨j - i - 1, by omega⟩
      rw [if_neg hj, if_neg hj, show i + (d + 1) - i = d + 1 by omega, Nat.testBit_succ, Nat.testBit_succ]
      simp only [this, decide_false, Bool.or_false]
      congr 1
      omega
theorem withOf_not (x i : Int) (h0 : 0 ≤ x) (h1 : x < 18446744073709551616) (i0 : 0 ≤ i) (i1 : i < 64) (h : x.toNat.testBit i.toNat = false) : IntKind.u64.wrap (x + IntKind.u64.wrap (2 ^ i.toNat)) = withOf x i := by
  have hb := withOf_bd x i h0 h1 i0 i1
  rw [shl1_u64 i i0 i1]
  unfold withOf at *
  rw [or_pow_add x.toNat i.toNat h] at *
  generalize 2 ^ i.toNat = p at *
  rw [IntKind.wrap_u64]
  omega

set_option maxRecDepth 100000 in
set_option maxHeartbeats 400000 in
theorem with_any (x i : Int) (h0 : 0 ≤ x) (h1 : x < 18446744073709551616) (i0 : 0 ≤ i) (i1 : i < 64) (w : World) :
    Calls Tryd.prog 49 #[.int .u64 x, .int .i64 i] w fun e w' => e = .returned (.int .u64 (withOf x i)) ∧ w = w' := by
  have t0 : decide (i < 0) = false := by simp; omega
  have t1 : decide (63 < i) = false := by simp; omega
  have CH := has_any x i h0 h1 i0 i1 w
  cases h : x.toNat.testBit i.toNat
  · rw [h] at CH
    replace CH := Lib.hid CH
    have hw := Lib.hid (withOf_not x i h0 h1 i0 i1 h)
    clear h
    go_enter Tryd.func49, Tryd.ntmps49
    go_wp2_with fail
    refine CH.out.mono ?_
    rintro e w1 ⟨rfl, rfl⟩
    go_wp2
    go_ret
    rw [← hw.out]
    exact ⟨rfl, rfl⟩
  · rw [h] at CH
    replace CH := Lib.hid CH
    have hw := Lib.hid (withOf_has x i h0 h)
    clear h
    go_enter Tryd.func49, Tryd.ntmps49
    go_wp2_with fail
    refine CH.out.mono ?_
    rintro e w1 ⟨rfl, rfl⟩
    go_wp2
    go_ret
    rw [hw.out]
    exact ⟨rfl, rfl⟩

theorem refHas (x i : Nat) (hx : x < 2 ^ 64) (hi : i < 64) (w : World) : Calls Tryd.prog 47 #[.int .u64 (x : Int), .int .i64 (i : Int)] w fun e w' => e = .returned (.bool (x.testBit i)) ∧ w = w' := by
  have := has_any (x : Int) (i : Int) (by omega) (by omega) (by omega) (by omega) w
  rwa [Int.toNat_natCast, Int.toNat_natCast] at this
theorem refWith (x i : Nat) (hx : x < 2 ^ 64) (hi : i < 64) (w : World) : Calls Tryd.prog 49 #[.int .u64 (x : Int), .int .i64 (i : Int)] w fun e w' => e = .returned (.int .u64 ((x ||| 2 ^ i : Nat) : Int)) ∧ w = w' := by
  have := with_any (x : Int) (i : Int) (by omega) (by omega) (by omega) (by omega) w
  unfold withOf at this
  rwa [Int.toNat_natCast, Int.toNat_natCast] at this

/-- The bits below m that q says. -/
def rowB (q : Nat → Bool) (m : Nat) : Nat := (List.range m).foldl (fun s j => if q j then s ||| 2 ^ j else s) 0
theorem rowB_succ (q : Nat → Bool) (m : Nat) : rowB q (m + 1) = if q m then rowB q m ||| 2 ^ m else rowB q m := by
  unfold rowB; rw [List.range_succ, List.foldl_append]; rfl
theorem rowB_bit (q : Nat → Bool) (m j : Nat) : (rowB q m).testBit j = (decide (j < m) && q j) := by
  induction m with
  | zero => simp [rowB]
  | succ m ih =>
    rw [rowB_succ]
    split
    · rename_i h
      rw [Nat.testBit_or, ih, Nat.testBit_two_pow]
      by_cases hj : j = m
      · subst hj; simp [h]
      · have h1 : decide (m = j) = false := by simp; omega
        have h2 : decide (j < m + 1) = decide (j < m) := by simp; omega
        rw [h1, h2, Bool.or_false]
    · rename_i h
      rw [ih]
      by_cases hj : j = m
      · subst hj; simp [h]
      · have h2 : decide (j < m + 1) = decide (j < m) := by simp; omega
        rw [h2]
theorem rowB_lt (q : Nat → Bool) {m : Nat} : rowB q m < 2 ^ m := lt_of_bits fun j hj => by
  rw [rowB_bit, Bool.and_eq_true, decide_eq_true_iff] at hj; exact hj.1
theorem rowB_64 (q : Nat → Bool) {m : Nat} (h : m ≤ 48) : rowB q m < 2 ^ 64 := Nat.lt_of_lt_of_le (rowB_lt q) (Nat.pow_le_pow_right (by omega) (by omega))
/-- The rows below a, and row a as far as b. -/
def fillF (p : Nat → Nat → Bool) (N a b : Nat) : Nat → Nat := fun i => if i < a then rowB (p i) N else if i = a then rowB (p i) b else 0
theorem fill_64 (p : Nat → Nat → Bool) {N a b : Nat} (h : N ≤ 48) (hb : b ≤ 48) : R64 (fillF p N a b) := by
  intro i
  unfold fillF
  split
  · exact rowB_64 _ h
  · split
    · exact rowB_64 _ hb
    · exact Nat.two_pow_pos 64
theorem fill_start (p : Nat → Nat → Bool) (N : Nat) : fillF p N 0 0 = zf := by
  funext i
  unfold fillF zf
  rw [if_neg (by omega)]
  split
  · rfl
  · rfl
theorem fill_next (p : Nat → Nat → Bool) (N a : Nat) : fillF p N a N = fillF p N (a + 1) 0 := by
  funext i
  unfold fillF
  by_cases h1 : i < a
  · rw [if_pos h1, if_pos (by omega)]
  · rw [if_neg h1]
    by_cases h2 : i = a
    · subst h2; rw [if_pos rfl, if_pos (by omega)]
    · rw [if_neg h2, if_neg (by omega)]
      split
      · rfl
      · rfl
theorem fill_yes (p : Nat → Nat → Bool) (N a b : Nat) (h : p a b = true) : upd (fillF p N a b) a (fillF p N a b a ||| 2 ^ b) = fillF p N a (b + 1) := by
  funext i
  unfold upd fillF
  by_cases h2 : i = a
  · subst h2
    rw [if_pos rfl, if_neg (by omega), if_pos rfl, if_neg (by omega), if_pos rfl, rowB_succ, if_pos h]
  · rw [if_neg h2, if_neg h2, if_neg h2]
theorem fill_no (p : Nat → Nat → Bool) (N a b : Nat) (h : p a b = false) : fillF p N a b = fillF p N a (b + 1) := by
  funext i
  unfold fillF
  by_cases h2 : i = a
  · subst h2
    rw [if_neg (by omega), if_pos rfl, if_neg (by omega), if_pos rfl, rowB_succ, h]; rfl
  · rw [if_neg h2, if_neg h2]
theorem bt_fill (p : Nat → Nat → Bool) (N i j : Nat) : Bt (fillF p N N 0) i j ↔ i < N ∧ j < N ∧ p i j = true := by
  unfold Bt fillF
  by_cases h1 : i < N
  · rw [if_pos h1, rowB_bit, Bool.and_eq_true, decide_eq_true_iff]
    exact ⟨fun h => ⟨h1, h.1, h.2⟩, fun h => ⟨h.2.1, h.2.2⟩⟩
  · rw [if_neg h1]
    constructor
    · intro h
      exfalso
      split at h
      · rw [rowB_bit] at h; simp at h
      · simp at h
    · rintro ⟨h, _⟩; exact absurd h h1

set_option maxRecDepth 100000 in
set_option maxHeartbeats 2000000 in
/-- seisinref02.with -/
theorem refwith_any (n : Int) (f : Nat → Nat) (hf : R64 f) (a b : Nat) (ha : a < 48) (hb : b < 64) (w : World) :
    Calls Tryd.prog 52 #[.agg (relC n f), .int .i64 (a : Int), .int .i64 (b : Int)] w fun e w' => e = .returned (.agg (relC n (upd f a (f a ||| 2 ^ b)))) ∧ Below w.heap.size w w' := by
  have CW := Lib.hid (fun w => show Calls Tryd.prog 49 #[.int .u64 (f a : Int), .int .i64 (b : Int)] w fun e w' => e = .returned (.int .u64 ((f a ||| 2 ^ b : Nat) : Int)) ∧ Below w.heap.size w w' from
    (refWith (f a) b (hf a) hb w).mono fun e w' ⟨he, hw⟩ => ⟨he, hw ▸ Below.refl _ _⟩)
  have hA := (RelAt.new w n f).alloc (.cells (relC 0 zf) 26)
  have hZ := RelAt.new (w.alloc (.cells (relC n f) 26)) 0 zf
  rw [World.size_alloc] at hZ
  have hB := thru (below_new w (.cells (relC n f) 26)) (below_new _ (.cells (relC 0 zf) 26))
  have c1 := hA.row a ha
  have z1 : (a : Int) < 48 := by omega
  go_enter Tryd.func52, Tryd.ntmps52
  go_wp2_with fail
  refine (CW.out _).mono ?_
  rintro e w1 ⟨rfl, h⟩
  replace hA := hA.on h
  replace hZ := hZ.on h
  replace hB := thru hB h
  clear h c1
  have c1 := hA.row a ha
  have f1 := hA.free (1 + a)
  have hA2 := hA.set a (f a ||| 2 ^ b) ha
  have hZ2 := hZ.other ⟨w.heap.size, 1 + a, none⟩ (.int .u64 ((f a ||| 2 ^ b : Nat) : Int)) (by simp)
  have hB2 : Below w.heap.size w (w1.setCell ⟨w.heap.size, 1 + a, none⟩ (.int .u64 ((f a ||| 2 ^ b : Nat) : Int))) := hB.setCell (Nat.le_refl _) _
  have l1 := hA2.ld
  obtain ⟨W3, hs3, hR3, hO3⟩ := hZ2.put n (upd f a (f a ||| 2 ^ b))
  have hB3 := below_only hB2 hO3 (by omega)
  clear hA hZ hB hA2 hZ2 hB2 hO3
  generalize hx : f a ||| 2 ^ b = x at *
  generalize hg : upd f a x = g at *
  replace hx := Lib.hid hx
  replace hg := Lib.hid hg
  go_wp2
  refine bodyPost_ret (results_rel rfl _ _ _ _ _ rfl hR3) rfl ?_
  exact ⟨by rw [hx.out, hg.out], hB3⟩
end Go.Proofs.YtakhmjohncidoaaDoor
end

section
/- The document's answers for layer 2: Right, Has, Cross, Id. -/
namespace Go.Proofs.YtakhmjohncidoaaDoor
open Go.RowKit Go.Shelf

attribute [local go_sem] Oper.semAt_some

theorem rightB_of {n : Int} {f : Nat → Nat} (hf : R64 f) : rightB n f = true ↔ (0 ≤ n ∧ n ≤ 48) ∧ ∀ a, a < 48 → ∀ b, b < 64 → (f a).testBit b = true → (a : Int) < n ∧ (b : Int) < n := by
  constructor
  · intro h
    have h0 := (rightB_iff.1 h).1
    refine ⟨h0, fun a ha b _ hb => ?_⟩
    have hr : Rgt n.toNat f := by unfold Rgt; rwa [Int.toNat_of_nonneg h0.1]
    have := (rgt_iff.1 hr).2 a ha b hb
    omega
  · rintro ⟨h0, h⟩
    have hr : Rgt n.toNat f := rgt_iff.2 ⟨by omega, fun a ha b hb => by
      have := h a ha b (bit_lt (hf a) hb) hb
      omega⟩
    unfold Rgt at hr
    rwa [Int.toNat_of_nonneg h0.1] at hr

set_option maxRecDepth 100000 in
set_option maxHeartbeats 4000000 in
theorem refRight_any (n : Int) (f : Nat → Nat) (hf : R64 f) (w : World) :
    Calls Tryd.prog 7 #[.agg (relC n f)] w fun e w' => e = .returned (.bool (rightB n f)) ∧ Below w.heap.size w w' := by
  have hr := Lib.hid (rightB_of (n := n) hf)
  have hA := RelAt.new w n f
  have hB := below_new w (.cells (relC n f) 26)
  have n1 := hA.num
  by_cases h0 : n < 0
  · have hv := Lib.hid (show rightB n f = false by rw [Bool.eq_false_iff]; intro h; have := (hr.out.1 h).1; omega)
    go_enter Tryd.func7, Tryd.ntmps7
    go_wp2
    go_ret
    rw [hv.out]
    exact ⟨rfl, hB⟩
  · by_cases h1 : 48 < n
    · have hv := Lib.hid (show rightB n f = false by rw [Bool.eq_false_iff]; intro h; have := (hr.out.1 h).1; omega)
      go_enter Tryd.func7, Tryd.ntmps7
      go_wp2
      go_ret
      rw [hv.out]
      exact ⟨rfl, hB⟩
    · obtain ⟨N, rfl⟩ : ∃ N : Nat, n = (N : Int) := ⟨n.toNat, by omega⟩
      have hN : N ≤ 48 := by omega
      have CH := Lib.hid (fun w a b (hb : b < 64) => refHas (f a) b (hf a) hb w)
      have hAh := Lib.hid hA
      clear hA h0 h1
      generalize hW : w.alloc (.cells (relC N f) 26) = W0 at *
      have hAW : RelAt W0 w.heap.size N f := hAh.out
      have Hh := Lib.hid hAW
      clear hAh hAW
      have hn : W0.cell? ⟨w.heap.size, 0, none⟩ = some (.int .i64 (N : Int)) := Hh.out.num
      go_enter Tryd.func7, Tryd.ntmps7
      go_wp2
      go_loopw [3] (fun i W => ∃ k : Nat, k ≤ 48 ∧ i = .int .i64 k ∧ W0 = W ∧ Hid (∀ a, a < k → ∀ b, b < 64 → (f a).testBit b = true → (a : Int) < N ∧ (b : Int) < N)) (fun i _ => 48 - (intOf i).toNat)
      case atStart => exact ⟨0, by omega, rfl, rfl, Lib.hid (fun a h => by omega)⟩
      case round =>
        obtain ⟨k, hk, rfl, rfl, hall⟩ := hrel
        by_cases hk48 : k < 48
        · have c1 := Hh.out.row k hk48
          have t1 : decide ((k : Int) < 48) = true := by simp; omega
          have CK := Lib.hid (fun w b hb => CH.out w k b hb)
          go_wp2
          go_loopw [4] (fun j W => ∃ m : Nat, m ≤ 64 ∧ j = .int .i64 m ∧ W0 = W ∧ Hid (∀ b, b < m → (f k).testBit b = true → (k : Int) < N ∧ (b : Int) < N)) (fun j _ => 64 - (intOf j).toNat)
          case atStart => exact ⟨0, by omega, rfl, rfl, Lib.hid (fun a h => by omega)⟩
          case round =>
            obtain ⟨m, hm, rfl, rfl, hrow⟩ := hrel
            by_cases hm64 : m < 64
            · have cH := CK.out W0 m hm64
              have hstep : ∀ (h : (f k).testBit m = true → (k : Int) < N ∧ (m : Int) < N), Hid (∀ b, b < m + 1 → (f k).testBit b = true → (k : Int) < N ∧ (b : Int) < N) := fun h => Lib.hid fun b hb => by
                by_cases he : b = m
                · subst he; exact h
                · exact hrow.out b (by omega)
              have hbad : (f k).testBit m = true → ¬ ((k : Int) < N ∧ (m : Int) < N) → rightB N f = false := fun h1 h2 => by
                rw [Bool.eq_false_iff]; intro h; exact h2 ((hr.out.1 h).2 k hk48 m hm64 h1)
              replace hstep := Lib.hid hstep
              replace hbad := Lib.hid hbad
              cases hb : (f k).testBit m
              · rw [hb] at cH hstep hbad
                have hs := Lib.hid (hstep.out (fun h => by cases h))
                replace cH := Lib.hid cH
                clear hb hbad hstep
                go_wp2_with fail
                refine cH.out.mono ?_
                rintro e w1 ⟨rfl, rfl⟩
                go_wp2
                go_roundw
                case rel => exact ⟨m + 1, by omega, by go_num, trivial, hs.out⟩
                case measure => simp [intOf]; omega
              · rw [hb] at cH hstep hbad
                replace cH := Lib.hid cH
                clear hb
                by_cases h1 : N ≤ k
                · have hv := Lib.hid (hbad.out rfl (by omega))
                  clear hbad hstep
                  go_wp2_with fail
                  refine cH.out.mono ?_
                  rintro e w1 ⟨rfl, rfl⟩
                  go_wp2
                  go_ret
                  rw [hv.out]
                  exact ⟨rfl, hB⟩
                · by_cases h2 : N ≤ m
                  · have hv := Lib.hid (hbad.out rfl (by omega))
                    clear hbad hstep
                    go_wp2_with fail
                    refine cH.out.mono ?_
                    rintro e w1 ⟨rfl, rfl⟩
                    go_wp2
                    go_ret
                    rw [hv.out]
                    exact ⟨rfl, hB⟩
                  · have hs := Lib.hid (hstep.out (fun _ => by omega))
                    clear hbad hstep
                    go_wp2_with fail
                    refine cH.out.mono ?_
                    rintro e w1 ⟨rfl, rfl⟩
                    go_wp2
                    go_roundw
                    case rel => exact ⟨m + 1, by omega, by go_num, trivial, hs.out⟩
                    case measure => simp [intOf]; omega
            · obtain rfl : m = 64 := by omega
              go_wp2
              go_roundw
              case rel => exact ⟨k + 1, by omega, by go_num, trivial, Lib.hid (fun a ha b hb => by
                by_cases he : a = k
                · subst he; exact hrow.out b hb
                · exact hall.out a (by omega) b hb)⟩
              case measure => simp [intOf]; omega
        · obtain rfl : k = 48 := by omega
          have hv := Lib.hid (hr.out.2 ⟨by omega, hall.out⟩)
          go_wp2
          go_ret
          rw [hv.out]
          exact ⟨rfl, hB⟩
end Go.Proofs.YtakhmjohncidoaaDoor
end

section
/- The document's answers for layer 2: Cross, Id. -/
namespace Go.Proofs.YtakhmjohncidoaaDoor
open Go.RowKit Go.Shelf

attribute [local go_sem] Oper.semAt_some

/-- The pairs of a set with another. -/
def crossP (s t : Nat) : Nat → Nat → Bool := fun a b => s.testBit a && t.testBit b
def idP (s : Nat) : Nat → Nat → Bool := fun a b => s.testBit a && decide (a = b)
theorem wstep {n : Int} {p : Nat → Nat → Bool} {N a b : Nat} (hN : N ≤ 48) (ha : a < N) (hb : b < N) (h : p a b = true) (w : World) :
    Calls Tryd.prog 52 #[.agg (relC n (fillF p N a b)), .int .i64 (a : Int), .int .i64 (b : Int)] w fun e w' => e = .returned (.agg (relC n (fillF p N a (b + 1)))) ∧ Below w.heap.size w w' := by
  have := refwith_any n (fillF p N a b) (fill_64 p hN (by omega)) a b (by omega) (by omega) w
  rwa [fill_yes p N a b h] at this

set_option maxRecDepth 100000 in
set_option maxHeartbeats 4000000 in
theorem refCross_bad (n : Int) (s t : Nat) (h01 : n < 0 ∨ 48 < n) (w : World) :
    Calls Tryd.prog 13 #[.int .i64 n, .int .u64 (s : Int), .int .u64 (t : Int)] w fun e w' => e = .returned (.agg (relC 0 zf)) ∧ Below w.heap.size w w' := by
  have hZ := RelAt.new w 0 zf
  have hB := below_new w (.cells (relC 0 zf) 26)
  obtain ⟨W3, hs3, hR3, hO3⟩ := hZ.put 0 zf
  have hB3 := below_only hB hO3 (Nat.le_refl _)
  clear hZ hB hO3
  rcases h01 with h0 | h0
  all_goals
    go_enter Tryd.func13, Tryd.ntmps13
    go_wp2
    refine bodyPost_ret (results_rel rfl _ _ _ _ _ rfl hR3) rfl ?_
    exact ⟨rfl, hB3⟩
set_option maxRecDepth 100000 in
set_option maxHeartbeats 4000000 in
theorem refCross_ok (N s t : Nat) (hN : N ≤ 48) (hs : s < 2 ^ 64) (ht : t < 2 ^ 64) (w : World) :
    Calls Tryd.prog 13 #[.int .i64 (N : Int), .int .u64 (s : Int), .int .u64 (t : Int)] w fun e w' => e = .returned (.agg (relC N (fillF (crossP s t) N N 0))) ∧ Below w.heap.size w w' := by
  have hZ := RelAt.new w 0 zf
  have hB := below_new w (.cells (relC 0 zf) 26)
  have CS := Lib.hid (fun w b (hb : b < 64) => refHas s b hs hb w)
  have CT := Lib.hid (fun w b (hb : b < 64) => refHas t b ht hb w)
  obtain ⟨W3, hs3, hR3, h3, hz3⟩ := Ex.lay (w.alloc (.cells (relC 0 zf) 26)) N zf
  have hX : Kept w W3 [(w.heap.size + 1, (N : Int), fillF (crossP s t) N 0 0), (w.heap.size, 0, zf)] := by
    refine ⟨thru hB h3, ?_⟩
    simp only [List.mem_cons, List.not_mem_nil, or_false]
    rintro p (rfl | rfl)
    · rw [fill_start]; rwa [World.size_alloc] at hR3
    · exact hZ.on h3
  rw [World.size_alloc] at hs3
  clear hR3 h3 hz3 hZ hB
  have t1 : decide ((N : Int) < 0) = false := by simp
  have t2 : decide (48 < (N : Int)) = false := by simp; omega
  have le1 : w.heap.size ≤ w.heap.size + 1 := by omega
  have ne1 : w.heap.size ≠ w.heap.size + 1 := by omega
  go_enter Tryd.func13, Tryd.ntmps13
  go_wp2
  clear hs3
  go_loopw [8] (fun i W => ∃ k : Nat, k ≤ N ∧ i = .int .i64 k ∧ Kept w W [(w.heap.size + 1, (N : Int), fillF (crossP s t) N k 0), (w.heap.size, 0, zf)]) (fun i _ => N - (intOf i).toNat)
  case atStart => exact ⟨0, by omega, rfl, hX⟩
  case round =>
    clear hX
    obtain ⟨k, hk, rfl, hX⟩ := hrel
    by_cases hkN : k < N
    · have tk : decide (k < N) = true := by simpa using hkN
      go_wp2
      go_loopw [9] (fun j W => ∃ m : Nat, m ≤ N ∧ j = .int .i64 m ∧ Kept w W [(w.heap.size + 1, (N : Int), fillF (crossP s t) N k m), (w.heap.size, 0, zf)]) (fun j _ => N - (intOf j).toNat)
      case atStart => exact ⟨0, by omega, rfl, hX⟩
      case round =>
        clear hX
        obtain ⟨m, hm, rfl, hX⟩ := hrel
        by_cases hmN : m < N
        · have tm : decide (m < N) = true := by simpa using hmN
          have cS := CS.out wr k (by omega)
          have cT := CT.out wr m (by omega)
          have cW := Lib.hid (fun h w => wstep (n := (N : Int)) (p := crossP s t) hN hkN hmN h w)
          have hno := Lib.hid (fill_no (crossP s t) N k m)
          have hl := (hX.at (b := w.heap.size + 1) (n := N) (f := fillF (crossP s t) N k m) (by simp))
          have l1 := hl.ld
          have hcr : crossP s t k m = (s.testBit k && t.testBit m) := rfl
          rw [hcr] at cW hno
          have hXh := Lib.hid hX
          have hlh := Lib.hid hl
          clear hX hl hcr
          cases hb1 : s.testBit k
          · rw [hb1] at cS cW hno
            have e := Lib.hid (hno.out rfl)
            replace cS := Lib.hid cS
            clear hb1 cW hno cT
            go_wp2_with fail
            refine cS.out.mono ?_
            rintro e w1 ⟨rfl, rfl⟩
            go_wp2
            go_roundw
            case rel => exact ⟨m + 1, by omega, by go_num, by rw [← e.out]; exact hXh.out⟩
            case measure => simp [intOf]; omega
          · rw [hb1] at cS cW hno
            replace cS := Lib.hid cS
            clear hb1
            cases hb2 : t.testBit m
            · rw [hb2] at cT cW hno
              have e := Lib.hid (hno.out rfl)
              replace cT := Lib.hid cT
              clear hb2 cW hno
              go_wp2_with fail
              refine cS.out.mono ?_
              rintro e w1 ⟨rfl, rfl⟩
              go_wp2_with fail
              refine cT.out.mono ?_
              rintro e w1 ⟨rfl, rfl⟩
              go_wp2
              go_roundw
              case rel => exact ⟨m + 1, by omega, by go_num, by rw [← e.out]; exact hXh.out⟩
              case measure => simp [intOf]; omega
            · rw [hb2] at cT cW
              replace cT := Lib.hid cT
              have cW' := Lib.hid (cW.out rfl)
              clear hb2 cW hno
              go_wp2_with fail
              refine cS.out.mono ?_
              rintro e w1 ⟨rfl, rfl⟩
              go_wp2_with fail
              refine cT.out.mono ?_
              rintro e w1 ⟨rfl, rfl⟩
              go_wp2_with fail
              clear l1
              refine (cW'.out _).mono ?_
              rintro e w1 ⟨rfl, h⟩
              obtain ⟨W4, hs4, hR4, hO4⟩ := (hlh.out.on h).put N (fillF (crossP s t) N k (m + 1))
              have hX4 := (((hXh.out.on h).less (l' := [(w.heap.size, 0, zf)]) (by simp)).only hO4 le1 (by simp)).cons hR4
              clear h hR4 hO4
              go_wp2
              go_roundw
              case rel => exact ⟨m + 1, by omega, by go_num, hX4⟩
              case measure => simp [intOf]; omega
        · obtain rfl : m = N := by omega
          go_wp2
          go_roundw
          case rel => exact ⟨k + 1, by omega, by go_num, by rw [← fill_next]; exact hX⟩
          case measure => simp [intOf]; omega
    · obtain rfl : k = N := by omega
      have l1 := (hX.at (b := w.heap.size + 1) (n := k) (f := fillF (crossP s t) k k 0) (by simp)).ld
      obtain ⟨W4, hs4, hR4, hO4⟩ := (hX.at (b := w.heap.size) (n := 0) (f := zf) (by simp)).put k (fillF (crossP s t) k k 0)
      have hB4 := below_only hX.1 hO4 (Nat.le_refl _)
      clear hX hO4
      go_wp2
      refine bodyPost_ret (results_rel rfl _ _ _ _ _ rfl hR4) rfl ?_
      exact ⟨rfl, hB4⟩

theorem cut_skip {F : Nat → Nat} {k : Nat} (h : F k = 0) : cutF (k : Int) F = cutF ((k + 1 : Nat) : Int) F := by
  funext i
  unfold cutF
  by_cases h1 : (i : Int) < k
  · rw [if_pos h1, if_pos (by omega)]
  · rw [if_neg h1]
    by_cases h2 : i = k
    · subst h2; rw [if_pos (by omega), h]
    · rw [if_neg (by omega)]
set_option maxRecDepth 100000 in
theorem refId_bad (n : Int) (s : Nat) (h01 : n < 0 ∨ 48 < n) (w : World) :
    Calls Tryd.prog 11 #[.int .i64 n, .int .u64 (s : Int)] w fun e w' => e = .returned (.agg (relC 0 zf)) ∧ Below w.heap.size w w' := by
  have hZ := RelAt.new w 0 zf
  have hB := below_new w (.cells (relC 0 zf) 26)
  obtain ⟨W3, hs3, hR3, hO3⟩ := hZ.put 0 zf
  have hB3 := below_only hB hO3 (Nat.le_refl _)
  clear hZ hB hO3
  rcases h01 with h0 | h0
  all_goals
    go_enter Tryd.func11, Tryd.ntmps11
    go_wp2
    refine bodyPost_ret (results_rel rfl _ _ _ _ _ rfl hR3) rfl ?_
    exact ⟨rfl, hB3⟩
set_option maxRecDepth 100000 in
set_option maxHeartbeats 4000000 in
theorem refId_ok (N s : Nat) (hN : N ≤ 48) (hs : s < 2 ^ 64) (w : World) :
    Calls Tryd.prog 11 #[.int .i64 (N : Int), .int .u64 (s : Int)] w fun e w' => e = .returned (.agg (relC N (cutF N (idF s)))) ∧ Below w.heap.size w w' := by
  have hZ := RelAt.new w 0 zf
  have hB := below_new w (.cells (relC 0 zf) 26)
  have CS := Lib.hid (fun w b (hb : b < 64) => refHas s b hs hb w)
  obtain ⟨W3, hs3, hR3, h3, hz3⟩ := Ex.lay (w.alloc (.cells (relC 0 zf) 26)) N zf
  have hX : Kept w W3 [(w.heap.size + 1, (N : Int), cutF ((0 : Nat) : Int) (idF s)), (w.heap.size, 0, zf)] := by
    refine ⟨thru hB h3, ?_⟩
    simp only [List.mem_cons, List.not_mem_nil, or_false]
    rintro p (rfl | rfl)
    · rw [show ((0 : Nat) : Int) = 0 by rfl, cutF_zero]; rwa [World.size_alloc] at hR3
    · exact hZ.on h3
  rw [World.size_alloc] at hs3
  clear hR3 h3 hz3 hZ hB
  have t1 : decide ((N : Int) < 0) = false := by simp
  have t2 : decide (48 < (N : Int)) = false := by simp; omega
  have le1 : w.heap.size ≤ w.heap.size + 1 := by omega
  have ne1 : w.heap.size ≠ w.heap.size + 1 := by omega
  go_enter Tryd.func11, Tryd.ntmps11
  go_wp2
  clear hs3
  go_loopw [6] (fun i W => ∃ k : Nat, k ≤ N ∧ i = .int .i64 k ∧ Kept w W [(w.heap.size + 1, (N : Int), cutF (k : Int) (idF s)), (w.heap.size, 0, zf)]) (fun i _ => N - (intOf i).toNat)
  case atStart => exact ⟨0, by omega, rfl, hX⟩
  case round =>
    clear hX
    obtain ⟨k, hk, rfl, hX⟩ := hrel
    by_cases hkN : k < N
    · have tk : decide (k < N) = true := by simpa using hkN
      have cS := CS.out wr k (by omega)
      have hl := (hX.at (b := w.heap.size + 1) (n := N) (f := cutF (k : Int) (idF s)) (by simp))
      have l1 := hl.ld
      have hXh := Lib.hid hX
      have hlh := Lib.hid hl
      clear hX hl
      cases hb1 : s.testBit k
      · rw [hb1] at cS
        have e := Lib.hid (cut_skip (F := idF s) (k := k) (by simp [idF, hb1]))
        replace cS := Lib.hid cS
        clear hb1
        go_wp2_with fail
        refine cS.out.mono ?_
        rintro e w1 ⟨rfl, rfl⟩
        go_wp2
        go_roundw
        case rel => exact ⟨k + 1, by omega, by go_num, by rw [← e.out]; exact hXh.out⟩
        case measure => simp [intOf]; omega
      · rw [hb1] at cS
        replace cS := Lib.hid cS
        obtain ⟨G, hG⟩ : ∃ G, G = cutF ((k + 1 : Nat) : Int) (idF s) := ⟨_, rfl⟩
        have cW := Lib.hid (fun w => show Calls Tryd.prog 52 #[.agg (relC N (cutF (k : Int) (idF s))), .int .i64 (k : Int), .int .i64 (k : Int)] w fun e w' => e = .returned (.agg (relC N G)) ∧ Below w.heap.size w w' by
          rw [hG]
          have := refwith_any N (cutF (k : Int) (idF s)) (idF_48 s k (by omega)) k k (by omega) (by omega) w
          rw [show cutF (k : Int) (idF s) k ||| 2 ^ k = idF s k by unfold cutF idF; rw [if_neg (by omega), if_pos hb1, Nat.zero_or], cutF_upd] at this
          exact this)
        clear hb1
        replace hG := Lib.hid hG
        go_wp2_with fail
        refine cS.out.mono ?_
        rintro e w1 ⟨rfl, rfl⟩
        go_wp2_with fail
        clear l1
        refine (cW.out _).mono ?_
        rintro e w1 ⟨rfl, h⟩
        obtain ⟨W4, hs4, hR4, hO4⟩ := (hlh.out.on h).put N G
        have hX4 := (((hXh.out.on h).less (l' := [(w.heap.size, 0, zf)]) (by simp)).only hO4 le1 (by simp)).cons hR4
        clear h hR4 hO4
        go_wp2
        go_roundw
        case rel => exact ⟨k + 1, by omega, by go_num, by rw [← hG.out]; exact hX4⟩
        case measure => simp [intOf]; omega
    · obtain rfl : k = N := by omega
      have l1 := (hX.at (b := w.heap.size + 1) (n := k) (f := cutF (k : Int) (idF s)) (by simp)).ld
      obtain ⟨W4, hs4, hR4, hO4⟩ := (hX.at (b := w.heap.size) (n := 0) (f := zf) (by simp)).put k (cutF (k : Int) (idF s))
      have hB4 := below_only hX.1 hO4 (Nat.le_refl _)
      clear hX hO4
      go_wp2
      refine bodyPost_ret (results_rel rfl _ _ _ _ _ rfl hR4) rfl ?_
      exact ⟨rfl, hB4⟩

/-! ### through, Back -/
/-- Is there an item between the two? -/
def thruK (f g : Nat → Nat) (a c k : Nat) : Bool := (List.range k).any fun b => (f a).testBit b && (g b).testBit c
theorem thruK_succ (f g : Nat → Nat) (a c k : Nat) : thruK f g a c (k + 1) = (thruK f g a c k || ((f a).testBit k && (g k).testBit c)) := by simp [thruK, List.range_succ]
theorem thruK_mono (f g : Nat → Nat) (a c : Nat) {k m : Nat} (h : k ≤ m) (hk : thruK f g a c k = true) : thruK f g a c m = true := by
  unfold thruK at *
  rw [List.any_eq_true] at *
  obtain ⟨x, hx, hp⟩ := hk
  exact ⟨x, List.mem_range.2 (by have := List.mem_range.1 hx; omega), hp⟩
set_option maxRecDepth 100000 in
set_option maxHeartbeats 4000000 in
theorem refThrough_ok (N : Nat) (f g : Nat → Nat) (hN : N ≤ 48) (hf : R64 f) (hg : R64 g) (a c : Nat) (ha : a < 48) (hc : c < 48) (m : Int) (w : World) :
    Calls Tryd.prog 60 #[.agg (relC N f), .agg (relC m g), .int .i64 (a : Int), .int .i64 (c : Int)] w fun e w' => e = .returned (.bool (thruK f g a c N)) ∧ Below w.heap.size w w' := by
  have hA := (RelAt.new w N f).alloc (.cells (relC m g) 26)
  have hM := RelAt.new (w.alloc (.cells (relC N f) 26)) m g
  rw [World.size_alloc] at hM
  have hB := thru (below_new w (.cells (relC N f) 26)) (below_new _ (.cells (relC m g) 26))
  have CF := Lib.hid (fun w b (hb : b < 64) => refHas (f a) b (hf a) hb w)
  have CG := Lib.hid (fun w b => refHas (g b) c (hg b) (by omega) w)
  have c1 := hA.row a ha
  have n1 := hA.num
  have za : (a : Int) < 48 := by omega
  have Hr := Lib.hid (fun b (hb : b < 48) => hM.row b hb)
  clear hA hM
  go_enter Tryd.func60, Tryd.ntmps60
  go_wp2
  generalize (w.alloc (.cells (relC N f) 26)).alloc (.cells (relC m g) 26) = W0 at *
  go_loopw [9] (fun i W => ∃ k : Nat, k ≤ N ∧ i = .int .i64 k ∧ W0 = W ∧ Hid (thruK f g a c k = false)) (fun i _ => N - (intOf i).toNat)
  case atStart => exact ⟨0, by omega, rfl, by first | rfl | trivial, Lib.hid (by simp [thruK])⟩
  case round =>
    obtain ⟨k, hk, rfl, rfl, hno⟩ := hrel
    by_cases hkN : k < N
    · have tk : decide (k < N) = true := by simpa using hkN
      have zk : (k : Int) < 48 := by omega
      have r1 := Hr.out k (by omega)
      have cF := CF.out W0 k (by omega)
      have cG := CG.out W0 k
      have hsucc := thruK_succ f g a c k
      rw [hno.out, Bool.false_or] at hsucc
      cases hb1 : (f a).testBit k
      · rw [hb1] at cF hsucc
        replace cF := Lib.hid cF
        replace hsucc := Lib.hid hsucc
        clear hb1 cG
        go_wp2_with fail
        refine cF.out.mono ?_
        rintro e w1 ⟨rfl, rfl⟩
        go_wp2
        go_roundw
        case rel => exact ⟨k + 1, by omega, by go_num, trivial, Lib.hid hsucc.out⟩
        case measure => simp [intOf]; omega
      · rw [hb1] at cF hsucc
        replace cF := Lib.hid cF
        clear hb1
        cases hb2 : (g k).testBit c
        · rw [hb2] at cG hsucc
          replace cG := Lib.hid cG
          replace hsucc := Lib.hid hsucc
          clear hb2
          go_wp2_with fail
          refine cF.out.mono ?_
          rintro e w1 ⟨rfl, rfl⟩
          go_wp2_with fail
          refine cG.out.mono ?_
          rintro e w1 ⟨rfl, rfl⟩
          go_wp2
          go_roundw
          case rel => exact ⟨k + 1, by omega, by go_num, trivial, Lib.hid hsucc.out⟩
          case measure => simp [intOf]; omega
        · rw [hb2] at cG hsucc
          replace cG := Lib.hid cG
          have hv := Lib.hid (thruK_mono f g a c (show k + 1 ≤ N by omega) hsucc)
          clear hb2 hsucc
          go_wp2_with fail
          refine cF.out.mono ?_
          rintro e w1 ⟨rfl, rfl⟩
          go_wp2_with fail
          refine cG.out.mono ?_
          rintro e w1 ⟨rfl, rfl⟩
          go_wp2
          go_ret
          rw [hv.out]
          exact ⟨rfl, hB⟩
    · obtain rfl : k = N := by omega
      go_wp2
      go_ret
      rw [hno.out]
      exact ⟨rfl, hB⟩

def backP (f : Nat → Nat) : Nat → Nat → Bool := fun a b => (f b).testBit a
set_option maxRecDepth 100000 in
set_option maxHeartbeats 4000000 in
theorem refBack_bad (n : Int) (f : Nat → Nat) (hf : R64 f) (hb : rightB n f = false) (w : World) :
    Calls Tryd.prog 25 #[.agg (relC n f)] w fun e w' => e = .returned (.agg (relC 0 zf)) ∧ Below w.heap.size w w' := by
  have HR := Lib.hid (fun w => show Calls Tryd.prog 7 #[.agg (relC n f)] w fun e w' => e = .returned (.bool false) ∧ Below w.heap.size w w' by have := refRight_any n f hf w; rwa [hb] at this)
  have hA := (RelAt.new w n f).alloc (.cells (relC 0 zf) 26)
  have hZ := RelAt.new (w.alloc (.cells (relC n f) 26)) 0 zf
  rw [World.size_alloc] at hZ
  have hB := thru (below_new w (.cells (relC n f) 26)) (below_new _ (.cells (relC 0 zf) 26))
  have l1 := hA.ld
  go_enter Tryd.func25, Tryd.ntmps25
  go_wp2_with fail
  refine (HR.out _).mono ?_
  rintro e w1 ⟨rfl, h⟩
  obtain ⟨W3, hs3, hR3, hO3⟩ := (hZ.on h).put 0 zf
  have hB3 := below_only (thru hB h) hO3 (by omega)
  clear hA hZ hB hO3 h l1
  go_wp2
  refine bodyPost_ret (results_rel rfl _ _ _ _ _ rfl hR3) rfl ?_
  exact ⟨rfl, hB3⟩
set_option maxRecDepth 100000 in
set_option maxHeartbeats 4000000 in
theorem refBack_ok (N : Nat) (f : Nat → Nat) (hf : R64 f) (hr : Rgt N f) (w : World) :
    Calls Tryd.prog 25 #[.agg (relC N f)] w fun e w' => e = .returned (.agg (relC N (fillF (backP f) N N 0))) ∧ Below w.heap.size w w' := by
  have hN := hr.le
  have HR := Lib.hid (fun w => show Calls Tryd.prog 7 #[.agg (relC N f)] w fun e w' => e = .returned (.bool true) ∧ Below w.heap.size w w' by have := refRight_any N f hf w; rwa [show rightB (N : Int) f = true from hr] at this)
  have CF := Lib.hid (fun w a b (hb : b < 64) => refHas (f a) b (hf a) hb w)
  have hA := (RelAt.new w N f).alloc (.cells (relC 0 zf) 26)
  have hZ := RelAt.new (w.alloc (.cells (relC N f) 26)) 0 zf
  rw [World.size_alloc] at hZ
  have hB := thru (below_new w (.cells (relC N f) 26)) (below_new _ (.cells (relC 0 zf) 26))
  have l1 := hA.ld
  go_enter Tryd.func25, Tryd.ntmps25
  go_wp2_with fail
  refine (HR.out _).mono ?_
  rintro e w1 ⟨rfl, h⟩
  have hX : Kept w w1 [(w.heap.size + 1, (0 : Int), zf), (w.heap.size, (N : Int), f)] := by
    refine ⟨thru hB h, ?_⟩
    simp only [List.mem_cons, List.not_mem_nil, or_false]
    rintro p (rfl | rfl)
    · exact hZ.on h
    · exact hA.on h
  clear h l1 hA hZ hB
  have n1 := (hX.at (b := w.heap.size) (n := N) (f := f) (by simp)).num
  obtain ⟨W3, hs3, hu, h3, -⟩ := Ex.lay w1 N zf
  have hlt1 := (hX.at (b := w.heap.size + 1) (n := 0) (f := zf) (by simp)).lt
  have hsz := hX.1.size
  rw [← fill_start (backP f) N] at hu
  replace hX := (hX.on h3).cons hu
  have hs3' := hs3
  clear h3 hu
  generalize hbr : w1.heap.size = br at *
  have ne1 : w.heap.size + 1 ≠ br := by omega
  have ne2 : w.heap.size ≠ br := by omega
  go_wp2
  clear hs3 hs3' n1
  go_loopw [4] (fun i W => ∃ k : Nat, k ≤ N ∧ i = .int .i64 k ∧ Kept w W [(br, (N : Int), fillF (backP f) N k 0), (w.heap.size + 1, 0, zf), (w.heap.size, (N : Int), f)]) (fun i _ => N - (intOf i).toNat)
  case atStart => exact ⟨0, by omega, rfl, hX⟩
  case round =>
    clear hX
    obtain ⟨k, hk, rfl, hX⟩ := hrel
    have n1 := (hX.at (b := w.heap.size) (n := N) (f := f) (by simp)).num
    by_cases hkN : k < N
    · have tk : decide (k < N) = true := by simpa using hkN
      go_wp2
      clear n1
      go_loopw [5] (fun j W => ∃ m : Nat, m ≤ N ∧ j = .int .i64 m ∧ Kept w W [(br, (N : Int), fillF (backP f) N k m), (w.heap.size + 1, 0, zf), (w.heap.size, (N : Int), f)]) (fun j _ => N - (intOf j).toNat)
      case atStart => exact ⟨0, by omega, rfl, hX⟩
      case round =>
        clear hX
        obtain ⟨m, hm, rfl, hX⟩ := hrel
        have n1 := (hX.at (b := w.heap.size) (n := N) (f := f) (by simp)).num
        by_cases hmN : m < N
        · have tm : decide (m < N) = true := by simpa using hmN
          have zm : (m : Int) < 48 := by omega
          have r1 := (hX.at (b := w.heap.size) (n := N) (f := f) (by simp)).row m (by omega)
          have cF := CF.out wr m k (by omega)
          have cW := Lib.hid (fun h w => wstep (n := (N : Int)) (p := backP f) hN hkN hmN h w)
          have hno := Lib.hid (fill_no (backP f) N k m)
          have hl := (hX.at (b := br) (n := N) (f := fillF (backP f) N k m) (by simp))
          have l1 := hl.ld
          have hcr : backP f k m = (f m).testBit k := rfl
          rw [hcr] at cW hno
          have hXh := Lib.hid hX
          have hlh := Lib.hid hl
          clear hX hl hcr
          cases hb1 : (f m).testBit k
          · rw [hb1] at cF cW hno
            have e := Lib.hid (hno.out rfl)
            replace cF := Lib.hid cF
            clear hb1 cW hno
            go_wp2_with fail
            refine cF.out.mono ?_
            rintro e w1 ⟨rfl, rfl⟩
            go_wp2
            go_roundw
            case rel => exact ⟨m + 1, by omega, by go_num, by rw [← e.out]; exact hXh.out⟩
            case measure => simp [intOf]; omega
          · rw [hb1] at cF cW
            replace cF := Lib.hid cF
            have cW' := Lib.hid (cW.out rfl)
            clear hb1 cW hno
            go_wp2_with fail
            refine cF.out.mono ?_
            rintro e w1 ⟨rfl, rfl⟩
            go_wp2_with fail
            clear l1 n1 r1
            refine (cW'.out _).mono ?_
            rintro e w1 ⟨rfl, h⟩
            obtain ⟨W4, hs4, hR4, hO4⟩ := (hlh.out.on h).put N (fillF (backP f) N k (m + 1))
            have hX4 := (((hXh.out.on h).less (l' := [(w.heap.size + 1, 0, zf), (w.heap.size, (N : Int), f)]) (by simp)).only hO4 (by omega) (by simp only [List.mem_cons, List.not_mem_nil, or_false]; rintro p (rfl | rfl) <;> assumption)).cons hR4
            clear h hR4 hO4
            go_wp2
            go_roundw
            case rel => exact ⟨m + 1, by omega, by go_num, hX4⟩
            case measure => simp [intOf]; omega
        · obtain rfl : m = N := by omega
          go_wp2
          go_roundw
          case rel => exact ⟨k + 1, by omega, by go_num, by rw [← fill_next]; exact hX⟩
          case measure => simp [intOf]; omega
    · obtain rfl : k = N := by omega
      have l1 := (hX.at (b := br) (n := k) (f := fillF (backP f) k k 0) (by simp)).ld
      obtain ⟨W4, hs4, hR4, hO4⟩ := (hX.at (b := w.heap.size + 1) (n := 0) (f := zf) (by simp)).put k (fillF (backP f) k k 0)
      have hB4 := below_only hX.1 hO4 (by omega)
      clear hX hO4
      go_wp2
      refine bodyPost_ret (results_rel rfl _ _ _ _ _ rfl hR4) rfl ?_
      exact ⟨rfl, hB4⟩
end Go.Proofs.YtakhmjohncidoaaDoor
end

section
/- append to a row that the call owns: the old slice still reads as it did. -/
namespace Go.Proofs.YtakhmjohncidoaaDoor
open Go.RowKit Go.Shelf

theorem run_append_keeps {P : Program} (w : World) (base : Nat) (t ty e : TypeId) (i : TypeInfo) (z : Value) (size bytes : Nat) (ht : P.underlying t = some (.slice e)) (hi : P.info? e = some i) (hz : i.zero = some z)
    (hsize : i.size = size) (hby : i.bytes = bytes) (hzs : z.cells.size = size) (hsz : 0 < size) (v : Value) (n : Nat) (xs : List Value) (hown : w.ownsRow base e size v n xs)
    (a : Addr) (m c : Nat) (news : List Value) (hl : news.length = m * size) (hnews : ∀ j u, news[j]? = some u → w.cell? (a.add j) = some u) (h1 : ∀ u ∈ news, u.oneCell' = true)
    (h63 : n + m ≤ maxLen) (hbytes : (n + m) * bytes ≤ 140737488355328) (hbase : base ≤ w.heap.size) :
    ∃ v' w', (Builtin.append_ #[t, t] ty #[v, .slice (some a) m c]).run P w = .ok v' w' ∧ w'.ownsRow base e size v' (n + m) (xs ++ news) ∧ w.grownBy w' v.ownBlock ∧ w'.ownsRow base e size v n xs := by
  obtain ⟨v', w', hr, h2, h3, -⟩ := run_append_own (P := P) w base t ty e i z size bytes ht hi hz hsize hby hzs hsz v n xs hown a m c news hl hnews h1 h63 hbytes hbase
  refine ⟨v', w', hr, h2, h3, hown.1, ?_⟩
  rcases hown.2 with h | ⟨g, cap, cur, rfl, hbg, hg, hnc, hcm, hcs, htake⟩
  · exact .inl h
  · right
    by_cases hroom : n + m ≤ cap
    · have hfit : n * i.size + news.length ≤ cur.size := by rw [hl, hcs, hsize, ← Nat.add_mul]; exact Nat.mul_le_mul_right _ hroom
      have hr2 := run_append_room (P := P) w t ty e i ht hi g n cap cur hg a m c news (by rw [hl, hsize]) hnews h1 hroom hfit
      rw [hr] at hr2
      obtain ⟨rfl, rfl⟩ := Result.ok.inj hr2
      refine ⟨g, cap, _, rfl, hbg, setRow_heap w g cur _ e _ hg, hnc, hcm, ?_, ?_⟩
      · simp only [List.size_toArray, List.length_append, List.length_take, List.length_drop, Array.length_toList]
        omega
      · rw [hsize, htake, List.append_assoc, ← hown.1]
        exact List.take_left
    · have hr2 := run_append_grow (P := P) w t ty e i z ht hi hz ⟨g, 0, none⟩ n cap xs (by rw [hsize]; exact hown.1) (hown.cells (g := g) rfl) a m c news (by rw [hl, hsize]) hnews (by omega) (by unfold maxLen at h63; omega) (growslice_fits (by omega) (by rw [hby]; exact hbytes))
      rw [hr] at hr2
      obtain ⟨rfl, rfl⟩ := Result.ok.inj hr2
      exact ⟨g, cap, cur, rfl, hbg, ((World.grownBy_alloc w.drew _ none).block g (Array.getElem?_eq_some_iff.1 hg).1 (by simp)).trans hg, hnc, hcm, hcs, htake⟩

/-- The same at a step of a region that draws its order. -/
theorem step_append_keeps {P : Program} {ops : Array Oper} {o : Oper} {a : Act} {w : World} {K : Act → World → Prop} {Q : Exit → Act → World → Prop} {E : Prop}
    (hg : o.guard = none) (s x : Operand) (t : TypeId) (hop : o.op = Op.call { callee := Callee.builtin Builtin.append, args := #[s, x], argTypes := #[t, t] })
    (base : Nat) (e : TypeId) (i : TypeInfo) (z : Value) (size bytes : Nat) (ht : P.underlying t = some (.slice e)) (hi : P.info? e = some i) (hz : i.zero = some z)
    (hsize : i.size = size) (hby : i.bytes = bytes) (hzs : z.cells.size = size) (hsz : 0 < size)
    (v : Value) (n : Nat) (xs : List Value) (hs : a.eval s = v) (hown : w.ownsRow base e size v n xs)
    (ad : Addr) (m c : Nat) (news : List Value) (hx : a.eval x = .slice (some ad) m c) (hl : news.length = m * size) (hnews : ∀ j u, news[j]? = some u → w.cell? (ad.add j) = some u) (h1 : ∀ u ∈ news, u.oneCell' = true)
    (h63 : n + m ≤ maxLen) (hbytes : (n + m) * bytes ≤ 140737488355328) (hbase : base ≤ w.heap.size)
    (h : ∀ v' w', w'.ownsRow base e size v' (n + m) (xs ++ news) → w.grownBy w' v.ownBlock → w'.ownsRow base e size v n xs → K (a.put o.dst v') w') :
    if Region.wanted o (yielded ops a.tmps) = true then Oper.wp P o a w K Q else E := by
  have hw : Region.wanted o (yielded ops a.tmps) = true := by simp [Region.wanted, hg]
  rw [if_pos hw]
  obtain ⟨v', w', hr, h2, h3, h4⟩ := run_append_keeps (P := P) w base t o.type e i z size bytes ht hi hz hsize hby hzs hsz v n xs hown ad m c news hl hnews h1 h63 hbytes hbase
  unfold Oper.wp execOp
  simp only [hop, resolve, invoke, builtin, Sem.run_bind, Sem.run_pure, Result.andThen_ok, List.map_toArray, List.map_cons, List.map_nil, hs, hx, hr]
  exact h v' w' h2 h3 h4

/-- 'append(l, l...)' -/
theorem run_append_self {P : Program} (w : World) (base : Nat) (t ty e : TypeId) (i : TypeInfo) (z : Value) (size bytes : Nat) (ht : P.underlying t = some (.slice e)) (hi : P.info? e = some i) (hz : i.zero = some z)
    (hsize : i.size = size) (hby : i.bytes = bytes) (hzs : z.cells.size = size) (hsz : 0 < size) (v : Value) (n : Nat) (xs : List Value) (hown : w.ownsRow base e size v n xs) (h1 : ∀ u ∈ xs, u.oneCell' = true)
    (h63 : n + n ≤ maxLen) (hbytes : (n + n) * bytes ≤ 140737488355328) (hbase : base ≤ w.heap.size) :
    ∃ v' w', (Builtin.append_ #[t, t] ty #[v, v]).run P w = .ok v' w' ∧ w'.ownsRow base e size v' (n + n) (xs ++ xs) ∧ w.grownBy w' v.ownBlock ∧ w'.ownsRow base e size v n xs := by
  rcases hown.2 with ⟨rfl, rfl⟩ | ⟨g, cap, cur, rfl, _⟩
  · have hx : xs = [] := List.eq_nil_of_length_eq_zero (by simpa using hown.1)
    subst hx
    exact ⟨_, w, run_append_owned_none w base t ty e i size ht hi _ 0 [] hown, by simpa using hown, ⟨rfl, rfl, rfl, Nat.le_refl _, fun _ _ _ => rfl⟩, hown⟩
  · exact run_append_keeps w base t ty e i z size bytes ht hi hz hsize hby hzs hsz _ n xs hown ⟨g, 0, none⟩ n cap xs hown.1 (hown.cells (g := g) rfl) h1 h63 hbytes hbase
theorem step_append_self {P : Program} {ops : Array Oper} {o : Oper} {a : Act} {w : World} {K : Act → World → Prop} {Q : Exit → Act → World → Prop} {E : Prop}
    (hg : o.guard = none) (s x : Operand) (t : TypeId) (hop : o.op = Op.call { callee := Callee.builtin Builtin.append, args := #[s, x], argTypes := #[t, t] })
    (base : Nat) (e : TypeId) (i : TypeInfo) (z : Value) (size bytes : Nat) (ht : P.underlying t = some (.slice e)) (hi : P.info? e = some i) (hz : i.zero = some z)
    (hsize : i.size = size) (hby : i.bytes = bytes) (hzs : z.cells.size = size) (hsz : 0 < size)
    (v : Value) (n : Nat) (xs : List Value) (hs : a.eval s = v) (hx : a.eval x = v) (hown : w.ownsRow base e size v n xs) (h1 : ∀ u ∈ xs, u.oneCell' = true)
    (h63 : n + n ≤ maxLen) (hbytes : (n + n) * bytes ≤ 140737488355328) (hbase : base ≤ w.heap.size)
    (h : ∀ v' w', w'.ownsRow base e size v' (n + n) (xs ++ xs) → w.grownBy w' v.ownBlock → w'.ownsRow base e size v n xs → K (a.put o.dst v') w') :
    if Region.wanted o (yielded ops a.tmps) = true then Oper.wp P o a w K Q else E := by
  have hw : Region.wanted o (yielded ops a.tmps) = true := by simp [Region.wanted, hg]
  rw [if_pos hw]
  obtain ⟨v', w', hr, h2, h3, h4⟩ := run_append_self (P := P) w base t o.type e i z size bytes ht hi hz hsize hby hzs hsz v n xs hown h1 h63 hbytes hbase
  unfold Oper.wp execOp
  simp only [hop, resolve, invoke, builtin, Sem.run_bind, Sem.run_pure, Result.andThen_ok, List.map_toArray, List.map_cons, List.map_nil, hs, hx, hr]
  exact h v' w' h2 h3 h4
/-- A row stays when only a relation's block changes. -/
theorem ownsRow_only {W W' : World} {b : Nat} {m : Int} {f : Nat → Nat} {e : TypeId} (he : 26 ≠ e) {base size n : Nat} {v : Value} {xs : List Value} (h : W.ownsRow base e size v n xs) (hR : RelAt W b m f) (hO : Only b W W') : W'.ownsRow base e size v n xs := by
  refine ⟨h.1, ?_⟩
  rcases h.2 with h0 | ⟨g, cap, cur, rfl, hb, hh, r⟩
  · exact .inl h0
  · have hne := relAt_not_row hR he h
    exact .inr ⟨g, cap, cur, rfl, hb, (hO.block g (by rintro rfl; exact hne rfl)).trans hh, r⟩

/-- Relations stay where they are when a row of another type grows. -/
theorem Kept.grown {w W W' : World} {l : List (Nat × Int × (Nat → Nat))} (h : Kept w W l) {e : TypeId} (he : 26 ≠ e) {size k : Nat} {v : Value} {xs : List Value} (hr : W.ownsRow w.heap.size e size v k xs) (hg : W.grownBy W' v.ownBlock) : Kept w W' l :=
  ⟨h.1.grown hg h.1.size (fun j hj => (hr.lt j hj).1), fun p hp => by
    have hR := h.2 p hp
    exact (hg.block p.1 hR.lt (relAt_not_row hR he hr)).trans hR⟩
/-- A relation laid into a block that was made before a call. -/
theorem Kept.lay {w W W' : World} {l : List (Nat × Int × (Nat → Nat))} (h : Kept w W l) (h9 : Below (W.alloc (.cells (relC 0 zf) 26)).heap.size (W.alloc (.cells (relC 0 zf) 26)) W') (n : Int) (F : Nat → Nat) :
    ∃ Wf, (stRel (.pointer (some ⟨W.heap.size, 0, none⟩)) (.agg (relC n F))).run Tryd.prog W' = .ok () Wf ∧ Kept w Wf ((W.heap.size, n, F) :: l) ∧
      ∀ (base : Nat) (e : TypeId) (size k : Nat) (v : Value) (xs : List Value), 26 ≠ e → W.ownsRow base e size v k xs → Wf.ownsRow base e size v k xs := by
  have hX9 := (h.on (below_new W (.cells (relC 0 zf) 26))).on h9
  have hz := (RelAt.new W 0 zf).on h9
  obtain ⟨Wf, hsf, hfin, hO⟩ := hz.put n F
  have hlt := h.lts
  exact ⟨Wf, hsf, (hX9.only hO h.1.size (fun p hp => Nat.ne_of_lt (hlt p hp))).cons hfin, fun base e size k v xs he hr => ownsRow_only he (ownsRow_below (hr.alloc _) h9) hz hO⟩
end Go.Proofs.YtakhmjohncidoaaDoor
end
