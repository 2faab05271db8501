/- The document's answers for layer 1, as the reference of layer 2 uses them: Has, With; and rows that are filled bit by bit. -/
import Derived.Test.YtnfkedcbhjbhkaaDoorRelKept
import Derived.Test.YtnfkedcbhjbhkaaDoorRelFine
namespace Go.Proofs.YtnfkedcbhjbhkaaDoor
open Go.RowKit Go.Shelf

attribute [local go_sem] Oper.semAt_some

set_option maxRecDepth 100000 in
set_option maxHeartbeats 400000 in
theorem has_any (x i : Int) (h0 : 0 ≤ x) (_h1 : x < 18446744073709551616) (i0 : 0 ≤ i) (i1 : i < 64) (w : World) :
    Calls Tryd.prog 72 #[.int .u64 x, .int .i64 i] w fun e w' => e = .returned (.bool (x.toNat.testBit i.toNat)) ∧ w = w' := by
  have t0 : decide (0 ≤ i) = true := by simpa using i0
  have t1 : decide (i < 64) = true := by simpa using i1
  have hb := shr_bit x i h0
  have hd : 0 ≤ x / 2 ^ i.toNat := Int.ediv_nonneg h0 (Int.le_of_lt (Int.pow_pos (by decide)))
  have hle : x / 2 ^ i.toNat ≤ x := Int.ediv_le_self _ h0
  cases h : x.toNat.testBit i.toNat
  · rw [h] at hb
    have hb' : x / 2 ^ i.toNat % 2 = 0 := hb
    clear hb h
    go_enter Tryd.func72, Tryd.ntmps72
    go_wp2
    go_ret
    exact ⟨rfl, rfl⟩
  · rw [h] at hb
    have hb' : x / 2 ^ i.toNat % 2 = 1 := hb
    clear hb h
    go_enter Tryd.func72, Tryd.ntmps72
    go_wp2
    go_ret
    exact ⟨rfl, rfl⟩

/-- A set and one number more. -/
def withOf (x i : Int) : Int := ((x.toNat ||| 2 ^ i.toNat : Nat) : Int)
theorem withOf_bd (x i : Int) (h0 : 0 ≤ x) (h1 : x < 18446744073709551616) (i0 : 0 ≤ i) (i1 : i < 64) : 0 ≤ withOf x i ∧ withOf x i < 18446744073709551616 := by
  have h : x.toNat ||| 2 ^ i.toNat < 2 ^ 64 := Nat.or_lt_two_pow (by omega) (Nat.pow_lt_pow_right (by omega) (by omega))
  unfold withOf
  omega
theorem withOf_has (x i : Int) (h0 : 0 ≤ x) (h : x.toNat.testBit i.toNat = true) : withOf x i = x := by
  have e : x.toNat ||| 2 ^ i.toNat = x.toNat := by
    apply Nat.eq_of_testBit_eq
    intro j
    rw [Nat.testBit_or, Nat.testBit_two_pow]
    by_cases hj : i.toNat = j
    · subst hj; simp [h]
    · simp [hj]
  unfold withOf
  rw [e]
  omega
theorem or_pow_add (x i : Nat) (h : x.testBit i = false) : x ||| 2 ^ i = x + 2 ^ i := by
  have hp := Nat.two_pow_pos i
  have hd := Nat.div_add_mod x (2 ^ i)
  have hlt := Nat.mod_lt x hp
  rw [Nat.testBit_eq_decide_div_mod_eq] at h
  simp only [decide_eq_false_iff_not] at h
  have e2 : x = 2 ^ i * (2 * (x / 2 ^ i / 2)) + x % 2 ^ i := by
    have : 2 * (x / 2 ^ i / 2) = x / 2 ^ i := by omega
    rw [this]; omega
  have e3 : x + 2 ^ i = 2 ^ i * (2 * (x / 2 ^ i / 2) + 1) + x % 2 ^ i := by rw [Nat.mul_add]; omega
  apply Nat.eq_of_testBit_eq
  intro j
  rw [e3, Nat.testBit_or, Nat.testBit_two_pow, Nat.testBit_two_pow_mul_add _ hlt]
  have hx : x.testBit j = if j < i then (x % 2 ^ i).testBit j else (2 * (x / 2 ^ i / 2)).testBit (j - i) := by
    have := Nat.testBit_two_pow_mul_add (2 * (x / 2 ^ i / 2)) hlt j
    rwa [← e2] at this
  rw [hx]
  by_cases hj : j < i
  · have : i ≠ j := by omega
    simp [hj, this]
  · by_cases hji : j = i
    · subst hji; simp [Nat.testBit_zero]
    · have : i ≠ j := fun e => hji e.symm
      obtain ⟨d, rfl⟩ : ∃ d, j = i + (d + 1) := ⟨j - i - 1, by omega⟩
      rw [if_neg hj, if_neg hj, show i + (d + 1) - i = d + 1 by omega, Nat.testBit_succ, Nat.testBit_succ]
      simp only [this, decide_false, Bool.or_false]
      congr 1
      omega
theorem withOf_not (x i : Int) (h0 : 0 ≤ x) (h1 : x < 18446744073709551616) (i0 : 0 ≤ i) (i1 : i < 64) (h : x.toNat.testBit i.toNat = false) : IntKind.u64.wrap (x + IntKind.u64.wrap (2 ^ i.toNat)) = withOf x i := by
  have hb := withOf_bd x i h0 h1 i0 i1
  rw [shl1_u64 i i0 i1]
  unfold withOf at *
  rw [or_pow_add x.toNat i.toNat h] at *
  generalize 2 ^ i.toNat = p at *
  rw [IntKind.wrap_u64]
  omega

set_option maxRecDepth 100000 in
set_option maxHeartbeats 400000 in
theorem with_any (x i : Int) (h0 : 0 ≤ x) (h1 : x < 18446744073709551616) (i0 : 0 ≤ i) (i1 : i < 64) (w : World) :
    Calls Tryd.prog 74 #[.int .u64 x, .int .i64 i] w fun e w' => e = .returned (.int .u64 (withOf x i)) ∧ w = w' := by
  have t0 : decide (i < 0) = false := by simp; omega
  have t1 : decide (63 < i) = false := by simp; omega
  have CH := has_any x i h0 h1 i0 i1 w
  cases h : x.toNat.testBit i.toNat
  · rw [h] at CH
    replace CH := Lib.hid CH
    have hw := Lib.hid (withOf_not x i h0 h1 i0 i1 h)
    clear h
    go_enter Tryd.func74, Tryd.ntmps74
    go_wp2_with fail
    refine CH.out.mono ?_
    rintro e w1 ⟨rfl, rfl⟩
    go_wp2
    go_ret
    rw [← hw.out]
    exact ⟨rfl, rfl⟩
  · rw [h] at CH
    replace CH := Lib.hid CH
    have hw := Lib.hid (withOf_has x i h0 h)
    clear h
    go_enter Tryd.func74, Tryd.ntmps74
    go_wp2_with fail
    refine CH.out.mono ?_
    rintro e w1 ⟨rfl, rfl⟩
    go_wp2
    go_ret
    rw [hw.out]
    exact ⟨rfl, rfl⟩

theorem refHas (x i : Nat) (hx : x < 2 ^ 64) (hi : i < 64) (w : World) : Calls Tryd.prog 72 #[.int .u64 (x : Int), .int .i64 (i : Int)] w fun e w' => e = .returned (.bool (x.testBit i)) ∧ w = w' := by
  have := has_any (x : Int) (i : Int) (by omega) (by omega) (by omega) (by omega) w
  rwa [Int.toNat_natCast, Int.toNat_natCast] at this
theorem refWith (x i : Nat) (hx : x < 2 ^ 64) (hi : i < 64) (w : World) : Calls Tryd.prog 74 #[.int .u64 (x : Int), .int .i64 (i : Int)] w fun e w' => e = .returned (.int .u64 ((x ||| 2 ^ i : Nat) : Int)) ∧ w = w' := by
  have := with_any (x : Int) (i : Int) (by omega) (by omega) (by omega) (by omega) w
  unfold withOf at this
  rwa [Int.toNat_natCast, Int.toNat_natCast] at this

/-- The bits below m that q says. -/
def rowB (q : Nat → Bool) (m : Nat) : Nat := (List.range m).foldl (fun s j => if q j then s ||| 2 ^ j else s) 0
theorem rowB_succ (q : Nat → Bool) (m : Nat) : rowB q (m + 1) = if q m then rowB q m ||| 2 ^ m else rowB q m := by
  unfold rowB; rw [List.range_succ, List.foldl_append]; rfl
theorem rowB_bit (q : Nat → Bool) (m j : Nat) : (rowB q m).testBit j = (decide (j < m) && q j) := by
  induction m with
  | zero => simp [rowB]
  | succ m ih =>
    rw [rowB_succ]
    split
    · rename_i h
      rw [Nat.testBit_or, ih, Nat.testBit_two_pow]
      by_cases hj : j = m
      · subst hj; simp [h]
      · have h1 : decide (m = j) = false := by simp; omega
        have h2 : decide (j < m + 1) = decide (j < m) := by simp; omega
        rw [h1, h2, Bool.or_false]
    · rename_i h
      rw [ih]
      by_cases hj : j = m
      · subst hj; simp [h]
      · have h2 : decide (j < m + 1) = decide (j < m) := by simp; omega
        rw [h2]
theorem rowB_lt (q : Nat → Bool) {m : Nat} : rowB q m < 2 ^ m := lt_of_bits fun j hj => by
  rw [rowB_bit, Bool.and_eq_true, decide_eq_true_iff] at hj; exact hj.1
theorem rowB_64 (q : Nat → Bool) {m : Nat} (h : m ≤ 48) : rowB q m < 2 ^ 64 := Nat.lt_of_lt_of_le (rowB_lt q) (Nat.pow_le_pow_right (by omega) (by omega))
/-- The rows below a, and row a as far as b. -/
def fillF (p : Nat → Nat → Bool) (N a b : Nat) : Nat → Nat := fun i => if i < a then rowB (p i) N else if i = a then rowB (p i) b else 0
theorem fill_64 (p : Nat → Nat → Bool) {N a b : Nat} (h : N ≤ 48) (hb : b ≤ 48) : R64 (fillF p N a b) := by
  intro i
  unfold fillF
  split
  · exact rowB_64 _ h
  · split
    · exact rowB_64 _ hb
    · exact Nat.two_pow_pos 64
theorem fill_start (p : Nat → Nat → Bool) (N : Nat) : fillF p N 0 0 = zf := by
  funext i
  unfold fillF zf
  rw [if_neg (by omega)]
  split
  · rfl
  · rfl
theorem fill_next (p : Nat → Nat → Bool) (N a : Nat) : fillF p N a N = fillF p N (a + 1) 0 := by
  funext i
  unfold fillF
  by_cases h1 : i < a
  · rw [if_pos h1, if_pos (by omega)]
  · rw [if_neg h1]
    by_cases h2 : i = a
    · subst h2; rw [if_pos rfl, if_pos (by omega)]
    · rw [if_neg h2, if_neg (by omega)]
      split
      · rfl
      · rfl
theorem fill_yes (p : Nat → Nat → Bool) (N a b : Nat) (h : p a b = true) : upd (fillF p N a b) a (fillF p N a b a ||| 2 ^ b) = fillF p N a (b + 1) := by
  funext i
  unfold upd fillF
  by_cases h2 : i = a
  · subst h2
    rw [if_pos rfl, if_neg (by omega), if_pos rfl, if_neg (by omega), if_pos rfl, rowB_succ, if_pos h]
  · rw [if_neg h2, if_neg h2, if_neg h2]
theorem fill_no (p : Nat → Nat → Bool) (N a b : Nat) (h : p a b = false) : fillF p N a b = fillF p N a (b + 1) := by
  funext i
  unfold fillF
  by_cases h2 : i = a
  · subst h2
    rw [if_neg (by omega), if_pos rfl, if_neg (by omega), if_pos rfl, rowB_succ, h]; rfl
  · rw [if_neg h2, if_neg h2]
theorem bt_fill (p : Nat → Nat → Bool) (N i j : Nat) : Bt (fillF p N N 0) i j ↔ i < N ∧ j < N ∧ p i j = true := by
  unfold Bt fillF
  by_cases h1 : i < N
  · rw [if_pos h1, rowB_bit, Bool.and_eq_true, decide_eq_true_iff]
    exact ⟨fun h => ⟨h1, h.1, h.2⟩, fun h => ⟨h.2.1, h.2.2⟩⟩
  · rw [if_neg h1]
    constructor
    · intro h
      exfalso
      split at h
      · rw [rowB_bit] at h; simp at h
      · simp at h
    · rintro ⟨h, _⟩; exact absurd h h1

set_option maxRecDepth 100000 in
set_option maxHeartbeats 2000000 in
/-- seisinref02.with -/
theorem refwith_any (n : Int) (f : Nat → Nat) (hf : R64 f) (a b : Nat) (ha : a < 48) (hb : b < 64) (w : World) :
    Calls Tryd.prog 77 #[.agg (relC n f), .int .i64 (a : Int), .int .i64 (b : Int)] w fun e w' => e = .returned (.agg (relC n (upd f a (f a ||| 2 ^ b)))) ∧ Below w.heap.size w w' := by
  have CW := Lib.hid (fun w => show Calls Tryd.prog 74 #[.int .u64 (f a : Int), .int .i64 (b : Int)] w fun e w' => e = .returned (.int .u64 ((f a ||| 2 ^ b : Nat) : Int)) ∧ Below w.heap.size w w' from
    (refWith (f a) b (hf a) hb w).mono fun e w' ⟨he, hw⟩ => ⟨he, hw ▸ Below.refl _ _⟩)
  have hA := (RelAt.new w n f).alloc (.cells (relC 0 zf) 26)
  have hZ := RelAt.new (w.alloc (.cells (relC n f) 26)) 0 zf
  rw [World.size_alloc] at hZ
  have hB := thru (below_new w (.cells (relC n f) 26)) (below_new _ (.cells (relC 0 zf) 26))
  have c1 := hA.row a ha
  have z1 : (a : Int) < 48 := by omega
  go_enter Tryd.func77, Tryd.ntmps77
  go_wp2_with fail
  refine (CW.out _).mono ?_
  rintro e w1 ⟨rfl, h⟩
  replace hA := hA.on h
  replace hZ := hZ.on h
  replace hB := thru hB h
  clear h c1
  have c1 := hA.row a ha
  have f1 := hA.free (1 + a)
  have hA2 := hA.set a (f a ||| 2 ^ b) ha
  have hZ2 := hZ.other ⟨w.heap.size, 1 + a, none⟩ (.int .u64 ((f a ||| 2 ^ b : Nat) : Int)) (by simp)
  have hB2 : Below w.heap.size w (w1.setCell ⟨w.heap.size, 1 + a, none⟩ (.int .u64 ((f a ||| 2 ^ b : Nat) : Int))) := hB.setCell (Nat.le_refl _) _
  have l1 := hA2.ld
  obtain ⟨W3, hs3, hR3, hO3⟩ := hZ2.put n (upd f a (f a ||| 2 ^ b))
  have hB3 := below_only hB2 hO3 (by omega)
  clear hA hZ hB hA2 hZ2 hB2 hO3
  generalize hx : f a ||| 2 ^ b = x at *
  generalize hg : upd f a x = g at *
  replace hx := Lib.hid hx
  replace hg := Lib.hid hg
  go_wp2
  refine bodyPost_ret (results_rel rfl _ _ _ _ _ rfl hR3) rfl ?_
  exact ⟨by rw [hx.out, hg.out], hB3⟩
end Go.Proofs.YtnfkedcbhjbhkaaDoor
