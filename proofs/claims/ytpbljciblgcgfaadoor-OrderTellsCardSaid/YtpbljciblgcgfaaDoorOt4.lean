/- RefBits, OrdBase, OrdTotal, RelPlusAlg in one text, for the claim. -/
import Derived.Test.YtpbljciblgcgfaaDoorOt2
import Derived.Test.YtpbljciblgcgfaaDoorOt1
import Derived.Deep.RegionWith
import Derived.Deep.DeepCutAuto
import Derived.Test.YtpbljciblgcgfaaDoorOrdMarks

section
/- The document's answers for layer 1, as the reference of layer 2 uses them: Has, With; and rows that are filled bit by bit. -/
namespace Go.Proofs.YtpbljciblgcgfaaDoor
open Go.RowKit Go.Shelf

attribute [local go_sem] Oper.semAt_some

set_option maxRecDepth 100000 in
set_option maxHeartbeats 400000 in
theorem has_any (x i : Int) (h0 : 0 ≤ x) (_h1 : x < 18446744073709551616) (i0 : 0 ≤ i) (i1 : i < 64) (w : World) :
    Calls Tryd.prog 67 #[.int .u64 x, .int .i64 i] w fun e w' => e = .returned (.bool (x.toNat.testBit i.toNat)) ∧ w = w' := by
  have t0 : decide (0 ≤ i) = true := by simpa using i0
  have t1 : decide (i < 64) = true := by simpa using i1
  have hb := shr_bit x i h0
  have hd : 0 ≤ x / 2 ^ i.toNat := Int.ediv_nonneg h0 (Int.le_of_lt (Int.pow_pos (by decide)))
  have hle : x / 2 ^ i.toNat ≤ x := Int.ediv_le_self _ h0
  cases h : x.toNat.testBit i.toNat
  · rw [h] at hb
    have hb' : x / 2 ^ i.toNat % 2 = 0 := hb
    clear hb h
    go_enter Tryd.func67, Tryd.ntmps67
    go_wp2
    go_ret
    exact ⟨rfl, rfl⟩
  · rw [h] at hb
    have hb' : x / 2 ^ i.toNat % 2 = 1 := hb
    clear hb h
    go_enter Tryd.func67, Tryd.ntmps67
    go_wp2
    go_ret
    exact ⟨rfl, rfl⟩

/-- A set and one number more. -/
def withOf (x i : Int) : Int := ((x.toNat ||| 2 ^ i.toNat : Nat) : Int)
theorem withOf_bd (x i : Int) (h0 : 0 ≤ x) (h1 : x < 18446744073709551616) (i0 : 0 ≤ i) (i1 : i < 64) : 0 ≤ withOf x i ∧ withOf x i < 18446744073709551616 := by
  have h : x.toNat ||| 2 ^ i.toNat < 2 ^ 64 := Nat.or_lt_two_pow (by omega) (Nat.pow_lt_pow_right (by omega) (by omega))
  unfold withOf
  omega
theorem withOf_has (x i : Int) (h0 : 0 ≤ x) (h : x.toNat.testBit i.toNat = true) : withOf x i = x := by
  have e : x.toNat ||| 2 ^ i.toNat = x.toNat := by
    apply Nat.eq_of_testBit_eq
    intro j
    rw [Nat.testBit_or, Nat.testBit_two_pow]
    by_cases hj : i.toNat = j
    · subst hj; simp [h]
    · simp [hj]
  unfold withOf
  rw [e]
  omega
theorem or_pow_add (x i : Nat) (h : x.testBit i = false) : x ||| 2 ^ i = x + 2 ^ i := by
  have hp := Nat.two_pow_pos i
  have hd := Nat.div_add_mod x (2 ^ i)
  have hlt := Nat.mod_lt x hp
  rw [Nat.testBit_eq_decide_div_mod_eq] at h
  simp only [decide_eq_false_iff_not] at h
  have e2 : x = 2 ^ i * (2 * (x / 2 ^ i / 2)) + x % 2 ^ i := by
    have : 2 * (x / 2 ^ i / 2) = x / 2 ^ i := by omega
    rw [this]; omega
  have e3 : x + 2 ^ i = 2 ^ i * (2 * (x / 2 ^ i / 2) + 1) + x % 2 ^ i := by rw [Nat.mul_add]; omega
  apply Nat.eq_of_testBit_eq
  intro j
  rw [e3, Nat.testBit_or, Nat.testBit_two_pow, Nat.testBit_two_pow_mul_add _ hlt]
  have hx : x.testBit j = if j < i then (x % 2 ^ i).testBit j else (2 * (x / 2 ^ i / 2)).testBit (j - i) := by
    have := Nat.testBit_two_pow_mul_add (2 * (x / 2 ^ i / 2)) hlt j
    rwa [← e2] at this
  rw [hx]
  by_cases hj : j < i
  · have : i ≠ j := by omega
    simp [hj, this]
  · by_cases hji : j = i
    · subst hji; simp [Nat.testBit_zero]
    · have : i ≠ j := fun e => hji e.symm
      obtain ⟨d, rfl⟩ : ∃ d, j = i + (d + 1) := ⟨j - i - 1, by omega⟩
      rw [if_neg hj, if_neg hj, show i + (d + 1) - i = d + 1 by omega, Nat.testBit_succ, Nat.testBit_succ]
      simp only [this, decide_false, Bool.or_false]
      congr 1
      omega
theorem withOf_not (x i : Int) (h0 : 0 ≤ x) (h1 : x < 18446744073709551616) (i0 : 0 ≤ i) (i1 : i < 64) (h : x.toNat.testBit i.toNat = false) : IntKind.u64.wrap (x + IntKind.u64.wrap (2 ^ i.toNat)) = withOf x i := by
  have hb := withOf_bd x i h0 h1 i0 i1
  rw [shl1_u64 i i0 i1]
  unfold withOf at *
  rw [or_pow_add x.toNat i.toNat h] at *
  generalize 2 ^ i.toNat = p at *
  rw [IntKind.wrap_u64]
  omega

set_option maxRecDepth 100000 in
set_option maxHeartbeats 400000 in
theorem with_any (x i : Int) (h0 : 0 ≤ x) (h1 : x < 18446744073709551616) (i0 : 0 ≤ i) (i1 : i < 64) (w : World) :
    Calls Tryd.prog 69 #[.int .u64 x, .int .i64 i] w fun e w' => e = .returned (.int .u64 (withOf x i)) ∧ w = w' := by
  have t0 : decide (i < 0) = false := by simp; omega
  have t1 : decide (63 < i) = false := by simp; omega
  have CH := has_any x i h0 h1 i0 i1 w
  cases h : x.toNat.testBit i.toNat
  · rw [h] at CH
    replace CH := Lib.hid CH
    have hw := Lib.hid (withOf_not x i h0 h1 i0 i1 h)
    clear h
    go_enter Tryd.func69, Tryd.ntmps69
    go_wp2_with fail
    refine CH.out.mono ?_
    rintro e w1 ⟨rfl, rfl⟩
    go_wp2
    go_ret
    rw [← hw.out]
    exact ⟨rfl, rfl⟩
  · rw [h] at CH
    replace CH := Lib.hid CH
    have hw := Lib.hid (withOf_has x i h0 h)
    clear h
    go_enter Tryd.func69, Tryd.ntmps69
    go_wp2_with fail
    refine CH.out.mono ?_
    rintro e w1 ⟨rfl, rfl⟩
    go_wp2
    go_ret
    rw [hw.out]
    exact ⟨rfl, rfl⟩

theorem refHas (x i : Nat) (hx : x < 2 ^ 64) (hi : i < 64) (w : World) : Calls Tryd.prog 67 #[.int .u64 (x : Int), .int .i64 (i : Int)] w fun e w' => e = .returned (.bool (x.testBit i)) ∧ w = w' := by
  have := has_any (x : Int) (i : Int) (by omega) (by omega) (by omega) (by omega) w
  rwa [Int.toNat_natCast, Int.toNat_natCast] at this
theorem refWith (x i : Nat) (hx : x < 2 ^ 64) (hi : i < 64) (w : World) : Calls Tryd.prog 69 #[.int .u64 (x : Int), .int .i64 (i : Int)] w fun e w' => e = .returned (.int .u64 ((x ||| 2 ^ i : Nat) : Int)) ∧ w = w' := by
  have := with_any (x : Int) (i : Int) (by omega) (by omega) (by omega) (by omega) w
  unfold withOf at this
  rwa [Int.toNat_natCast, Int.toNat_natCast] at this

/-- The bits below m that q says. -/
def rowB (q : Nat → Bool) (m : Nat) : Nat := (List.range m).foldl (fun s j => if q j then s ||| 2 ^ j else s) 0
theorem rowB_succ (q : Nat → Bool) (m : Nat) : rowB q (m + 1) = if q m then rowB q m ||| 2 ^ m else rowB q m := by
  unfold rowB; rw [List.range_succ, List.foldl_append]; rfl
theorem rowB_bit (q : Nat → Bool) (m j : Nat) : (rowB q m).testBit j = (decide (j < m) && q j) := by
  induction m with
  | zero => simp [rowB]
  | succ m ih =>
    rw [rowB_succ]
    split
    · rename_i h
      rw [Nat.testBit_or, ih, Nat.testBit_two_pow]
      by_cases hj : j = m
      · subst hj; simp [h]
      · have h1 : decide (m = j) = false := by simp; omega
        have h2 : decide (j < m + 1) = decide (j < m) := by simp; omega
        rw [h1, h2, Bool.or_false]
    · rename_i h
      rw [ih]
      by_cases hj : j = m
      · subst hj; simp [h]
      · have h2 : decide (j < m + 1) = decide (j < m) := by simp; omega
        rw [h2]
theorem rowB_lt (q : Nat → Bool) {m : Nat} : rowB q m < 2 ^ m := lt_of_bits fun j hj => by
  rw [rowB_bit, Bool.and_eq_true, decide_eq_true_iff] at hj; exact hj.1
theorem rowB_64 (q : Nat → Bool) {m : Nat} (h : m ≤ 48) : rowB q m < 2 ^ 64 := Nat.lt_of_lt_of_le (rowB_lt q) (Nat.pow_le_pow_right (by omega) (by omega))
/-- The rows below a, and row a as far as b. -/
def fillF (p : Nat → Nat → Bool) (N a b : Nat) : Nat → Nat := fun i => if i < a then rowB (p i) N else if i = a then rowB (p i) b else 0
theorem fill_64 (p : Nat → Nat → Bool) {N a b : Nat} (h : N ≤ 48) (hb : b ≤ 48) : R64 (fillF p N a b) := by
  intro i
  unfold fillF
  split
  · exact rowB_64 _ h
  · split
    · exact rowB_64 _ hb
    · exact Nat.two_pow_pos 64
theorem fill_start (p : Nat → Nat → Bool) (N : Nat) : fillF p N 0 0 = zf := by
  funext i
  unfold fillF zf
  rw [if_neg (by omega)]
  split
  · rfl
  · rfl
theorem fill_next (p : Nat → Nat → Bool) (N a : Nat) : fillF p N a N = fillF p N (a + 1) 0 := by
  funext i
  unfold fillF
  by_cases h1 : i < a
  · rw [if_pos h1, if_pos (by omega)]
  · rw [if_neg h1]
    by_cases h2 : i = a
    · subst h2; rw [if_pos rfl, if_pos (by omega)]
    · rw [if_neg h2, if_neg (by omega)]
      split
      · rfl
      · rfl
theorem fill_yes (p : Nat → Nat → Bool) (N a b : Nat) (h : p a b = true) : upd (fillF p N a b) a (fillF p N a b a ||| 2 ^ b) = fillF p N a (b + 1) := by
  funext i
  unfold upd fillF
  by_cases h2 : i = a
  · subst h2
    rw [if_pos rfl, if_neg (by omega), if_pos rfl, if_neg (by omega), if_pos rfl, rowB_succ, if_pos h]
  · rw [if_neg h2, if_neg h2, if_neg h2]
theorem fill_no (p : Nat → Nat → Bool) (N a b : Nat) (h : p a b = false) : fillF p N a b = fillF p N a (b + 1) := by
  funext i
  unfold fillF
  by_cases h2 : i = a
  · subst h2
    rw [if_neg (by omega), if_pos rfl, if_neg (by omega), if_pos rfl, rowB_succ, h]; rfl
  · rw [if_neg h2, if_neg h2]
theorem bt_fill (p : Nat → Nat → Bool) (N i j : Nat) : Bt (fillF p N N 0) i j ↔ i < N ∧ j < N ∧ p i j = true := by
  unfold Bt fillF
  by_cases h1 : i < N
  · rw [if_pos h1, rowB_bit, Bool.and_eq_true, decide_eq_true_iff]
    exact ⟨fun h => ⟨h1, h.1, h.2⟩, fun h => ⟨h.2.1, h.2.2⟩⟩
  · rw [if_neg h1]
    constructor
    · intro h
      exfalso
      split at h
      · rw [rowB_bit] at h; simp at h
      · simp at h
    · rintro ⟨h, _⟩; exact absurd h h1

set_option maxRecDepth 100000 in
set_option maxHeartbeats 2000000 in
/-- seisinref02.with -/
theorem refwith_any (n : Int) (f : Nat → Nat) (hf : R64 f) (a b : Nat) (ha : a < 48) (hb : b < 64) (w : World) :
    Calls Tryd.prog 72 #[.agg (relC n f), .int .i64 (a : Int), .int .i64 (b : Int)] w fun e w' => e = .returned (.agg (relC n (upd f a (f a ||| 2 ^ b)))) ∧ Below w.heap.size w w' := by
  have CW := Lib.hid (fun w => show Calls Tryd.prog 69 #[.int .u64 (f a : Int), .int .i64 (b : Int)] w fun e w' => e = .returned (.int .u64 ((f a ||| 2 ^ b : Nat) : Int)) ∧ Below w.heap.size w w' from
    (refWith (f a) b (hf a) hb w).mono fun e w' ⟨he, hw⟩ => ⟨he, hw ▸ Below.refl _ _⟩)
  have hA := (RelAt.new w n f).alloc (.cells (relC 0 zf) 26)
  have hZ := RelAt.new (w.alloc (.cells (relC n f) 26)) 0 zf
  rw [World.size_alloc] at hZ
  have hB := thru (below_new w (.cells (relC n f) 26)) (below_new _ (.cells (relC 0 zf) 26))
  have c1 := hA.row a ha
  have z1 : (a : Int) < 48 := by omega
  go_enter Tryd.func72, Tryd.ntmps72
  go_wp2_with fail
  refine (CW.out _).mono ?_
  rintro e w1 ⟨rfl, h⟩
  replace hA := hA.on h
  replace hZ := hZ.on h
  replace hB := thru hB h
  clear h c1
  have c1 := hA.row a ha
  have f1 := hA.free (1 + a)
  have hA2 := hA.set a (f a ||| 2 ^ b) ha
  have hZ2 := hZ.other ⟨w.heap.size, 1 + a, none⟩ (.int .u64 ((f a ||| 2 ^ b : Nat) : Int)) (by simp)
  have hB2 : Below w.heap.size w (w1.setCell ⟨w.heap.size, 1 + a, none⟩ (.int .u64 ((f a ||| 2 ^ b : Nat) : Int))) := hB.setCell (Nat.le_refl _) _
  have l1 := hA2.ld
  obtain ⟨W3, hs3, hR3, hO3⟩ := hZ2.put n (upd f a (f a ||| 2 ^ b))
  have hB3 := below_only hB2 hO3 (by omega)
  clear hA hZ hB hA2 hZ2 hB2 hO3
  generalize hx : f a ||| 2 ^ b = x at *
  generalize hg : upd f a x = g at *
  replace hx := Lib.hid hx
  replace hg := Lib.hid hg
  go_wp2
  refine bodyPost_ret (results_rel rfl _ _ _ _ _ rfl hR3) rfl ?_
  exact ⟨by rw [hx.out, hg.out], hB3⟩
end Go.Proofs.YtpbljciblgcgfaaDoor
end

section
/- The positions of an order: 48 numbers in an array. -/
namespace Go.Proofs.YtpbljciblgcgfaaDoor
open Go.RowKit Go.Shelf

attribute [local go_sem] Oper.semAt_some

def plL (f : Nat → Nat) : List Value := (List.range 48).map fun i => Value.int .i64 (f i : Int)
def plC (f : Nat → Nat) : Array Value := (plL f).toArray
theorem plL_length (f : Nat → Nat) : (plL f).length = 48 := by simp [plL]
theorem plC_size (f : Nat → Nat) : (plC f).size = 48 := by simp [plC, plL]
theorem plC_get (f : Nat → Nat) (i : Nat) (h : i < 48) : (plC f)[i]? = some (.int .i64 (f i : Int)) := by simp [plC, plL, h]
theorem plC_one (f : Nat → Nat) : (plC f).all (·.oneCell') = true := by
  rw [Array.all_eq_true_iff_forall_mem]
  intro v hv
  simp only [plC, plL, List.mem_toArray, List.mem_map] at hv
  obtain ⟨i, _, rfl⟩ := hv
  rfl
theorem plC_set (f : Nat → Nat) (i x : Nat) (h : i < 48) : (plC f).setIfInBounds i (.int .i64 (x : Int)) = plC (upd f i x) := by
  apply Array.ext_getElem?
  intro j
  rw [Array.getElem?_setIfInBounds, plC_size]
  by_cases hj : i = j
  · subst hj
    rw [if_pos rfl, if_pos h, plC_get _ i h]
    simp [upd]
  · rw [if_neg hj]
    by_cases hj2 : j < 48
    · rw [plC_get _ j hj2, plC_get _ j hj2]
      simp [upd, show j ≠ i by omega]
    · rw [Array.getElem?_eq_none (by rw [plC_size]; omega), Array.getElem?_eq_none (by rw [plC_size]; omega)]
/-- The positions lie in block b. -/
def PlAt (W : World) (b : Nat) (f : Nat → Nat) : Prop := W.heap[b]? = some (.cells (plC f) 97 (0, 0))
theorem infoPl : (Tryd.prog.info? 97).map (·.size) = some 48 := by kernel_rfl
section
variable {W W' : World} {b : Nat} {f : Nat → Nat}
theorem PlAt.lt (h : PlAt W b f) : b < W.heap.size := (Array.getElem?_eq_some_iff.1 h).1
theorem PlAt.row (h : PlAt W b f) (i : Nat) (hi : i < 48) : W.cell? ⟨b, i, none⟩ = some (.int .i64 (f i : Int)) := by rw [cell_of_row W b _ _ _ _ h, plC_get _ i hi]
theorem PlAt.free (h : PlAt W b f) (i : Nat) : W.frozen? ⟨b, i, none⟩ = false := frozen_of_row W b i _ _ h
theorem PlAt.new (W : World) (f : Nat → Nat) : PlAt (W.alloc (.cells (plC f) 97)) W.heap.size f := heap_alloc_new W _
theorem PlAt.alloc (h : PlAt W b f) (o : Obj) : PlAt (W.alloc o) b f := (((Below.refl W.heap.size W).alloc (Nat.le_refl _) o).block b h.lt).trans h
theorem PlAt.drew (h : PlAt W b f) : PlAt W.drew b f := h
theorem PlAt.on (h : PlAt W b f) (hb : Below W.heap.size W W') : PlAt W' b f := (hb.block b h.lt).trans h
theorem PlAt.only {c : Nat} (h : PlAt W b f) (ho : Only c W W') (hb : b ≠ c) : PlAt W' b f := (ho.block b hb).trans h
theorem PlAt.set (h : PlAt W b f) (i x : Nat) (hi : i < 48) : PlAt (W.setCell ⟨b, i, none⟩ (.int .i64 (x : Int))) b (upd f i x) := by
  unfold PlAt
  rw [heap_setCell_same W b _ _ _ _ h, plC_set f i x hi]
theorem PlAt.other (h : PlAt W b f) (a : Addr) (v : Value) (hb : b ≠ a.block) : PlAt (W.setCell a v) b f := (heap_setCell_other W a b v hb).trans h
theorem PlAt.load (h : PlAt W b f) : (Instr.loadAt 97 (.pointer (some ⟨b, 0, none⟩))).run Tryd.prog W = .ok (.agg (plC f)) W := by
  simp only [Instr.loadAt, Instr.sureAddr, Sem.run_bind, Sem.run_pure, Result.andThen_ok]
  exact run_loadVar_row W b 97 97 (plC f) (0, 0) _ h Tryd.underlying97 rfl (by rw [plC_size]; exact infoPl)
theorem PlAt.store (h : PlAt W b f) (g : Nat → Nat) : (Instr.storeAt 97 (.pointer (some ⟨b, 0, none⟩)) (.agg (plC g))).run Tryd.prog W = .ok () (W.setRow b (plC g)) := by
  simp only [Instr.storeAt, Instr.sureAddr, Sem.run_bind, Sem.run_pure, Result.andThen_ok]
  exact run_storeVar_row W b 97 97 (plC f) (plC g) h (by rw [plC_size]; exact infoPl) (by rw [plC_size, plC_size]) (plC_one g)
end
noncomputable def ldPl (p : Value) : Sem Value := Instr.loadAt 97 p
noncomputable def stPl (p v : Value) : Sem Unit := Instr.storeAt 97 p v
noncomputable def zPl : Sem Value := zeroValue 97
@[go_sem ↓] theorem ldPl_eq (p : Value) : Instr.loadAt 97 p = ldPl p := rfl
@[go_sem ↓] theorem stPl_eq (p v : Value) : Instr.storeAt 97 p v = stPl p v := rfl
@[go_sem ↓] theorem zPl_eq : zeroValue 97 = zPl := rfl
@[go_sem] theorem plZero (w : World) : zPl.run Tryd.prog w = .ok (.agg (plC zf)) w := by kernel_rfl
theorem PlAt.ld {W : World} {b : Nat} {f : Nat → Nat} (h : PlAt W b f) : (ldPl (.pointer (some ⟨b, 0, none⟩))).run Tryd.prog W = .ok (.agg (plC f)) W := h.load
theorem PlAt.put {W : World} {b : Nat} {f : Nat → Nat} (h : PlAt W b f) (g : Nat → Nat) :
    ∃ W', (stPl (.pointer (some ⟨b, 0, none⟩)) (.agg (plC g))).run Tryd.prog W = .ok () W' ∧ PlAt W' b g ∧ Only b W W' :=
  ⟨_, h.store g, setRow_heap W b _ _ _ _ h, ⟨rfl, rfl, rfl, by simp, fun k hk => Go.setRow_other W b k _ hk⟩⟩
theorem results_pl {fn : Func} {p q : Tmp} (h : fn.results = #[.cell p 97, .tmp q]) (tmps : Array Value) (w : World) (b : Nat) (f : Nat → Nat)
    (hp : tmps.getD p undef = .pointer (some ⟨b, 0, none⟩)) (hR : PlAt w b f) : (results fn tmps).run Tryd.prog w = .ok (.tuple #[.agg (plC f), tmps.getD q undef]) w := by
  have hl := run_loadVar_row w b 97 97 (plC f) (0, 0) _ hR Tryd.underlying97 rfl (by rw [plC_size]; exact infoPl)
  have hp' : tmps[p]?.getD undef = .pointer (some ⟨b, 0, none⟩) := by simpa using hp
  simp [results, h, hp', asAddr, hl]

/-! ### placesIn -/
/-- Is the list an order of so many items? -/
def ordB (n : Int) (zs : List Int) : Bool := decide (n ≤ 48) && (decide (n = (zs.length : Int)) && (okInts zs && decide (setL zs = allOf n)))
/-- Where each item stands, as far as k. -/
def posK (zs : List Int) : Nat → (Nat → Nat)
  | 0 => zf
  | k + 1 => upd (posK zs k) (zs[k]?.getD 0).toNat k
def PlacesPost (n : Int) (zs : List Int) (w : World) (e : Ending) (w' : World) : Prop :=
  e = .returned (.tuple #[.agg (plC (if ordB n zs then posK zs zs.length else zf)), .bool (ordB n zs)]) ∧ Below w.heap.size w w'

theorem setL_bit (zs : List Int) (j : Nat) : (setL zs).toNat.testBit j = true ↔ ∃ z ∈ zs, z.toNat = j := by
  unfold setL
  rw [Int.toNat_natCast]
  have key : ∀ (l : List Int) (s : Nat), ((l.foldl (fun (s : Nat) z => s ||| 2 ^ z.toNat) s).testBit j = true ↔ s.testBit j = true ∨ ∃ z ∈ l, z.toNat = j) := by
    intro l
    induction l with
    | nil => intro s; simp
    | cons a l ih =>
      intro s
      rw [List.foldl_cons, ih, Nat.testBit_or, Nat.testBit_two_pow, Bool.or_eq_true, decide_eq_true_iff, or_assoc]
      constructor
      · rintro (h | h | ⟨z, hz, h⟩)
        · exact .inl h
        · exact .inr ⟨a, List.mem_cons_self, h⟩
        · exact .inr ⟨z, List.mem_cons_of_mem _ hz, h⟩
      · rintro (h | ⟨z, hz, h⟩)
        · exact .inl h
        · rcases List.mem_cons.1 hz with rfl | hz
          · exact .inr (.inl h)
          · exact .inr (.inr ⟨z, hz, h⟩)
  simpa using key zs 0
theorem ordB_iff {N : Nat} {zs : List Int} : ordB N zs = true ↔ N ≤ 48 ∧ zs.length = N ∧ (∀ z ∈ zs, 0 ≤ z ∧ z < N) ∧ ∀ j, j < N → (j : Int) ∈ zs := by
  unfold ordB
  simp only [Bool.and_eq_true, decide_eq_true_iff]
  constructor
  · rintro ⟨h1, h2, h3, h4⟩
    have hN : N ≤ 48 := by omega
    refine ⟨hN, by omega, fun z hz => ?_, fun j hj => ?_⟩
    · have hz0 := okInts_mem h3 hz
      have hb := (setL_bit zs z.toNat).2 ⟨z, hz, rfl⟩
      rw [h4, allOf_bits N _ hN, decide_eq_true_iff] at hb
      omega
    · have hb : (setL zs).toNat.testBit j = true := by rw [h4, allOf_bits N _ hN]; simpa using hj
      obtain ⟨z, hz, hj2⟩ := (setL_bit zs j).1 hb
      have := okInts_mem h3 hz
      rw [show (j : Int) = z by omega]
      exact hz
  · rintro ⟨h1, h2, h3, h4⟩
    have hok : okInts zs = true := by
      unfold okInts
      rw [List.all_eq_true]
      intro z hz
      have := h3 z hz
      simp only [Bool.and_eq_true, decide_eq_true_iff]
      omega
    refine ⟨by omega, by omega, hok, ?_⟩
    have h5 : (setL zs).toNat = (allOf (N : Int)).toNat := by
      apply Nat.eq_of_testBit_eq
      intro j
      rw [allOf_bits N _ h1, Bool.eq_iff_iff, setL_bit, decide_eq_true_iff]
      constructor
      · rintro ⟨z, hz, rfl⟩; have := h3 z hz; omega
      · intro hj; exact ⟨_, h4 j hj, by simp⟩
    have h6 := setL_nonneg zs
    have h7 := (allOf_bd (N : Int)).1
    omega

set_option maxRecDepth 100000 in
set_option maxHeartbeats 4000000 in
theorem placesIn_any (n : Int) (v : Value) (zs : List Int) (w : World) (hs : IntSl w.heap.size w v zs) :
    Calls Tryd.prog 90 #[.int .i64 n, v] w (PlacesPost n zs w) := by
  have hs' := Lib.hid hs
  obtain ⟨hm, av, cv, rfl, hcell⟩ := hs
  replace hcell := Lib.hid hcell
  unfold maxLen at hm
  have hA := PlAt.new w zf
  have hP := PlAt.new (w.alloc (.cells (plC zf) 97)) zf
  rw [World.size_alloc] at hP
  replace hA := hA.alloc (.cells (plC zf) 97)
  have hB := thru (below_new w (.cells (plC zf) 97)) (below_new _ (.cells (plC zf) 97))
  have lp := hP.ld
  by_cases h1 : 48 < n
  · have ho := Lib.hid (show ordB n zs = false by unfold ordB; rw [decide_eq_false (by omega)]; rfl)
    obtain ⟨W3, hs3, hR3, hO3⟩ := hA.put zf
    have hB3 := below_only hB hO3 (Nat.le_refl _)
    clear hA hP hB hO3
    go_enter Tryd.func90, Tryd.ntmps90
    go_wp2
    refine bodyPost_ret (results_pl rfl _ _ _ _ rfl hR3) rfl ?_
    unfold PlacesPost
    rw [ho.out]
    exact ⟨rfl, hB3⟩
  · by_cases h2 : n = (zs.length : Int)
    · subst h2
      have t2 : ((zs.length : Int) != (zs.length : Int)) = false := by simp
      cases hok : okInts zs
      · have CO := Lib.hid (fun w h => of_bad (.slice av zs.length cv) zs w.heap.size w h hok)
        have ho := Lib.hid (show ordB zs.length zs = false by unfold ordB; rw [hok]; simp)
        obtain ⟨W3, hs3, hR3, hO3⟩ := hA.put zf
        have hB3 := below_only hB hO3 (Nat.le_refl _)
        have hs2 := Lib.hid ((hs'.out.below hB).mono hB.size)
        clear hA hP hB hO3 hok
        go_enter Tryd.func90, Tryd.ntmps90
        go_wp2_with fail
        refine (CO.out _ hs2.out).mono ?_
        rintro e w1 ⟨rfl, rfl⟩
        go_wp2
        refine bodyPost_ret (results_pl rfl _ _ _ _ rfl hR3) rfl ?_
        unfold PlacesPost
        rw [ho.out]
        exact ⟨rfl, hB3⟩
      · have CO := Lib.hid (fun w h => of_good (.slice av zs.length cv) zs w.heap.size w h hok)
        have CA := Lib.hid (fun w => all_any (zs.length : Int) w)
        have hs2 := Lib.hid ((hs'.out.below hB).mono hB.size)
        by_cases he : setL zs = allOf (zs.length : Int)
        · have ho := Lib.hid (show ordB zs.length zs = true by unfold ordB; rw [hok, decide_eq_true he, decide_eq_true (by omega : (zs.length : Int) ≤ 48)]; simp)
          have t3 : (allOf (zs.length : Int) != allOf (zs.length : Int)) = false := by simp
          have hit : ∀ z ∈ zs, 0 ≤ z ∧ z < 48 := fun z hz => by
            have h := (ordB_iff (N := zs.length)).1 ho.out
            have := h.2.2.1 z hz
            omega
          rw [he] at CO
          replace hit := Lib.hid hit
          have hAh := Lib.hid hA
          have hPh := Lib.hid hP
          have hBh := Lib.hid hB
          clear hA hP hB hok lp
          go_enter Tryd.func90, Tryd.ntmps90
          go_wp2_with fail
          refine (CO.out _ hs2.out).mono ?_
          rintro e w1 ⟨rfl, rfl⟩
          go_wp2_with fail
          refine (CA.out _).mono ?_
          rintro e w1 ⟨rfl, rfl⟩
          go_wp2
          go_loopw [36] (fun i W => ∃ k : Nat, k ≤ zs.length ∧ i = .int .i64 k ∧ PlAt W (w.heap.size + 1) (posK zs k) ∧ PlAt W w.heap.size zf ∧ Below w.heap.size w W) (fun i _ => zs.length - (intOf i).toNat)
          case atStart => exact ⟨0, by omega, rfl, hPh.out, hAh.out, hBh.out⟩
          case round =>
            obtain ⟨k, hk, rfl, hP, hA, hB⟩ := hrel
            by_cases hlt : k < zs.length
            · have tk : decide (k < zs.length) = true := by simpa using hlt
              obtain ⟨b, off, rfl, hbn, hc⟩ := hcell.out (by omega)
              have c1 := (hB.cell (p := ⟨b, off + k, none⟩) hbn).trans (hc k hlt)
              have hpos : posK zs (k + 1) = upd (posK zs k) (zs[k]?.getD 0).toNat k := rfl
              have hmem : zs[k]?.getD 0 ∈ zs := by simp [hlt]
              have hx := hit.out _ hmem
              clear hc hmem
              generalize zs[k]?.getD 0 = x at *
              obtain ⟨X, rfl⟩ : ∃ X : Nat, x = (X : Int) := ⟨x.toNat, by omega⟩
              rw [Int.toNat_natCast] at hpos
              have zX : (X : Int) < 48 := by omega
              have r1 := hP.row X (by omega)
              have f1 := hP.free X
              have hP2 := hP.set X k (by omega)
              rw [← hpos] at hP2
              have hA2 := hA.other ⟨w.heap.size + 1, X, none⟩ (.int .i64 (k : Int)) (by simp)
              have hB2 : Below w.heap.size w (wr.setCell ⟨w.heap.size + 1, X, none⟩ (.int .i64 (k : Int))) := hB.setCell (by simp) _
              replace hP2 := Lib.hid hP2
              replace hA2 := Lib.hid hA2
              replace hB2 := Lib.hid hB2
              clear hP hA hB hpos hx
              go_wp2
              go_roundw
              case rel => exact ⟨k + 1, by omega, by go_num, hP2.out, hA2.out, hB2.out⟩
              case measure => simp [intOf]; omega
            · obtain rfl : k = zs.length := by omega
              have lp := hP.ld
              obtain ⟨W3, hs3, hR3, hO3⟩ := hA.put (posK zs zs.length)
              have hB3 := below_only hB hO3 (Nat.le_refl _)
              clear hP hA hB hO3
              go_wp2
              refine bodyPost_ret (results_pl rfl _ _ _ _ rfl hR3) rfl ?_
              unfold PlacesPost
              rw [ho.out]
              exact ⟨rfl, hB3⟩
        · have ho := Lib.hid (show ordB zs.length zs = false by unfold ordB; rw [decide_eq_false he]; simp)
          have t3 : (setL zs != allOf (zs.length : Int)) = true := by simpa using he
          obtain ⟨W3, hs3, hR3, hO3⟩ := hA.put zf
          have hB3 := below_only hB hO3 (Nat.le_refl _)
          clear hA hP hB hO3 hok
          go_enter Tryd.func90, Tryd.ntmps90
          go_wp2_with fail
          refine (CO.out _ hs2.out).mono ?_
          rintro e w1 ⟨rfl, rfl⟩
          go_wp2_with fail
          refine (CA.out _).mono ?_
          rintro e w1 ⟨rfl, rfl⟩
          go_wp2
          refine bodyPost_ret (results_pl rfl _ _ _ _ rfl hR3) rfl ?_
          unfold PlacesPost
          rw [ho.out]
          exact ⟨rfl, hB3⟩
    · have ho := Lib.hid (show ordB n zs = false by unfold ordB; rw [decide_eq_false h2]; simp)
      have t2 : (n != (zs.length : Int)) = true := by simpa using h2
      obtain ⟨W3, hs3, hR3, hO3⟩ := hA.put zf
      have hB3 := below_only hB hO3 (Nat.le_refl _)
      clear hA hP hB hO3
      go_enter Tryd.func90, Tryd.ntmps90
      go_wp2
      refine bodyPost_ret (results_pl rfl _ _ _ _ rfl hR3) rfl ?_
      unfold PlacesPost
      rw [ho.out]
      exact ⟨rfl, hB3⟩
end Go.Proofs.YtpbljciblgcgfaaDoor
end

section
/- order.Total, order.Keeps, order.Of. -/
namespace Go.Proofs.YtpbljciblgcgfaaDoor
open Go.RowKit Go.Shelf

attribute [local go_sem] Oper.semAt_some

/-- New positions, laid. -/
theorem layPl (W : World) (f : Nat → Nat) : ∃ W', (stPl (.pointer (some ⟨W.heap.size, 0, none⟩)) (.agg (plC f))).run Tryd.prog (W.alloc (.cells (plC zf) 97)) = .ok () W' ∧ PlAt W' W.heap.size f ∧ Below W.heap.size W W' := by
  obtain ⟨W', h1, h2, h3⟩ := (PlAt.new W zf).put f
  exact ⟨W', h1, h2, below_only (below_new W _) h3 (Nat.le_refl _)⟩
/-- Does the one stand ahead of the other? -/
def aheadP (f : Nat → Nat) : Nat → Nat → Bool := fun a b => decide (f a < f b)
/-- The relation of an order. -/
def totF (n : Int) (zs : List Int) : Nat → Nat := if ordB n zs then fillF (aheadP (posK zs zs.length)) n.toNat n.toNat 0 else zf
def TotalPost (n : Int) (zs : List Int) (w : World) (e : Ending) (w' : World) : Prop :=
  e = .returned (.tuple #[.agg (relC (opN (ordB n zs) n) (totF n zs)), .int .i64 (opE (ordB n zs))]) ∧ Below w.heap.size w w'

set_option maxRecDepth 100000 in
set_option maxHeartbeats 4000000 in
theorem total_any (n : Int) (v : Value) (zs : List Int) (w : World) (hs : IntSl w.heap.size w v zs) :
    Calls Tryd.prog 54 #[.int .i64 n, v] w (TotalPost n zs w) := by
  have hZ := RelAt.new w 0 zf
  have hB := below_new w (.cells (relC 0 zf) 26)
  have hs2 := Lib.hid ((hs.below hB).mono hB.size)
  have CP := Lib.hid (fun W h => placesIn_any n v zs W h)
  unfold PlacesPost at CP
  cases ho : ordB n zs
  · have hv := Lib.hid ho
    rw [ho] at CP
    clear ho
    go_enter Tryd.func54, Tryd.ntmps54
    go_wp2_with fail
    refine (CP.out _ hs2.out).mono ?_
    rintro e w1 ⟨rfl, h⟩
    obtain ⟨W1, hs1, hp1, h1⟩ := layPl w1 zf
    obtain ⟨W3, hs3, hR3, hO3⟩ := ((hZ.on h).on h1).put 0 zf
    have hB3 := below_only (thru (thru hB h) h1) hO3 (Nat.le_refl _)
    clear h h1 hp1 hO3 hZ hB
    go_wp2
    refine bodyPost_ret (results_rel2 rfl _ _ _ _ _ rfl hR3) rfl ?_
    unfold TotalPost totF
    rw [hv.out]
    exact ⟨rfl, hB3⟩
  · have hv := Lib.hid ho
    rw [ho] at CP
    obtain ⟨N, rfl⟩ : ∃ N : Nat, n = (N : Int) := ⟨n.toNat, by
      unfold ordB at ho
      simp only [Bool.and_eq_true, decide_eq_true_iff] at ho
      omega⟩
    have hoi := ordB_iff.1 ho
    have hN := hoi.1
    have hf48 : ∀ i, posK zs zs.length i < 2 ^ 62 := by
      have key : ∀ k, k ≤ zs.length → ∀ i, posK zs k i < 2 ^ 62 := by
        intro k
        induction k with
        | zero => intro _ i; exact Nat.two_pow_pos 62
        | succ k ih =>
          intro hk i
          show upd (posK zs k) _ k i < _
          unfold upd
          split
          · have := hoi.2.1; omega
          · exact ih (by omega) i
      exact key _ (Nat.le_refl _)
    clear ho hoi
    have htot := Lib.hid (show ordB N zs = true → totF N zs = fillF (aheadP (posK zs zs.length)) N N 0 from fun h => by unfold totF; rw [h, if_pos rfl, Int.toNat_natCast])
    generalize posK zs zs.length = f at *
    generalize hp : aheadP f = p at *
    have hpe : ∀ a b, p a b = decide (f a < f b) := fun a b => by rw [← hp]; rfl
    replace hpe := Lib.hid hpe
    replace hf48 := Lib.hid hf48
    clear hp
    go_enter Tryd.func54, Tryd.ntmps54
    go_wp2_with fail
    refine (CP.out _ hs2.out).mono ?_
    rintro e w1 ⟨rfl, h⟩
    obtain ⟨W1, hs1, hp1, h1⟩ := layPl w1 f
    have hZ1 := (hZ.on h).on h1
    have hB1 := thru (thru hB h) h1
    have hplt := (hZ.on h).lt
    clear h h1 hZ hB
    generalize hbp : w1.heap.size = bp at *
    obtain ⟨W2, hs2', hu, h2, -⟩ := Ex.lay W1 N zf
    rw [← fill_start p N] at hu
    have hpl := (hp1.on h2)
    have hX : Kept w W2 [(W1.heap.size, (N : Int), fillF p N 0 0), (w.heap.size, 0, zf)] := by
      refine ⟨thru hB1 h2, ?_⟩
      simp only [List.mem_cons, List.not_mem_nil, or_false]
      rintro q (rfl | rfl)
      · exact hu
      · exact hZ1.on h2
    have hlt1 := hZ1.lt
    have hltp := hp1.lt
    clear hu h2 hZ1 hB1 hp1
    generalize hbr : W1.heap.size = br at *
    have ne1 : w.heap.size ≠ br := by omega
    have ne2 : bp ≠ br := by omega
    have le1 : w.heap.size ≤ br := by omega
    go_wp2
    clear hs1 hs2'
    replace hbp := Lib.hid hbp
    replace hbr := Lib.hid hbr
    go_loopw [23] (fun i W => ∃ k : Nat, k ≤ N ∧ i = .int .i64 k ∧ PlAt W bp f ∧ Kept w W [(br, (N : Int), fillF p N k 0), (w.heap.size, 0, zf)]) (fun i _ => N - (intOf i).toNat)
    case atStart => exact ⟨0, by omega, rfl, hpl, hX⟩
    case round =>
      clear hX hpl
      obtain ⟨k, hk, rfl, hpl, hX⟩ := hrel
      by_cases hkN : k < N
      · have tk : decide (k < N) = true := by simpa using hkN
        have zk : (k : Int) < 48 := by omega
        go_wp2
        go_loopw [27] (fun j W => ∃ m : Nat, m ≤ N ∧ j = .int .i64 m ∧ PlAt W bp f ∧ Kept w W [(br, (N : Int), fillF p N k m), (w.heap.size, 0, zf)]) (fun j _ => N - (intOf j).toNat)
        case atStart => exact ⟨0, by omega, rfl, hpl, hX⟩
        case round =>
          clear hX hpl
          obtain ⟨m, hm, rfl, hpl, hX⟩ := hrel
          by_cases hmN : m < N
          · have tm : decide (m < N) = true := by simpa using hmN
            have zm : (m : Int) < 48 := by omega
            have zm2 : (m : Int) < 64 := by omega
            have r1 := hpl.row k (by omega)
            have r2 := hpl.row m (by omega)
            have hno := fill_no p N k m
            have hyes := fill_yes p N k m
            rw [hpe.out k m] at hno hyes
            have hXd := Lib.hid hX.drew
            have hpd := Lib.hid hpl.drew
            have hl := (hX.at (b := br) (n := N) (f := fillF p N k m) (by simp))
            have g1 := hl.row k (by omega)
            have g2 := hl.free (1 + k)
            have hx64 := fill_64 p hN (b := m) (a := k) (by omega) k
            by_cases hab : f k < f m
            · rw [decide_eq_true hab] at hyes
              have hyes := hyes rfl
              obtain ⟨q, hq⟩ : ∃ q, q = 2 ^ m := ⟨_, rfl⟩
              have hsh : IntKind.u64.wrap (2 ^ m) = (q : Int) := by rw [hq]; exact shl1_nat m (by omega)
              have hq64 : q < 2 ^ 64 := by rw [hq]; exact Nat.pow_lt_pow_right (by omega) (by omega)
              rw [← hq] at hyes
              have hor := u64_or_nat _ _ hx64 hq64
              have hset := hl.drew.drew.set k (fillF p N k m k ||| q) (by omega)
              rw [hyes] at hset
              have hX2 := ((hX.drew.drew.less (l' := [(w.heap.size, 0, zf)]) (by simp)).set ⟨br, 1 + k, none⟩ (.int .u64 ((fillF p N k m k ||| q : Nat) : Int)) le1 (by simp only [List.mem_cons, List.not_mem_nil, or_false]; rintro z rfl; assumption)).cons hset
              have hp2 := hpl.drew.drew.other ⟨br, 1 + k, none⟩ (.int .u64 ((fillF p N k m k ||| q : Nat) : Int)) ne2
              replace hX2 := Lib.hid hX2
              replace hp2 := Lib.hid hp2
              clear hno hyes hq hl hX hpl hx64 hq64 hset
              generalize fillF p N k m k ||| q = z at *
              generalize fillF p N k m k = z0 at *
              go_upto_region 11 with fail
              go_region
              all_goals
                go_upto_region 12 with fail
                go_region
              all_goals
                go_wp2
                go_roundw
                case rel => exact ⟨m + 1, by omega, by go_num, hp2.out, hX2.out⟩
                case measure => simp [intOf]; omega
            · rw [decide_eq_false hab] at hno
              have hno := Lib.hid (hno rfl)
              clear hyes hl hX hpl g1 g2 hx64
              go_upto_region 11 with fail
              go_region
              all_goals
                go_wp2
                go_roundw
                case rel => exact ⟨m + 1, by omega, by go_num, hpd.out, by rw [← hno.out]; exact hXd.out⟩
                case measure => simp [intOf]; omega
          · obtain rfl : m = N := by omega
            have hXh := Lib.hid hX
            have hph := Lib.hid hpl
            clear hX hpl
            go_wp2
            go_roundw
            case rel => exact ⟨k + 1, by omega, by go_num, hph.out, by rw [← fill_next]; exact hXh.out⟩
            case measure => simp [intOf]; omega
      · obtain rfl : k = N := by omega
        have l1 := (hX.at (b := br) (n := k) (f := fillF p k k 0) (by simp)).ld
        obtain ⟨W4, hs4, hR4, hO4⟩ := (hX.at (b := w.heap.size) (n := 0) (f := zf) (by simp)).put k (fillF p k k 0)
        have hB4 := below_only hX.1 hO4 (Nat.le_refl _)
        clear hX hO4 hpl
        go_wp2
        refine bodyPost_ret (results_rel2 rfl _ _ _ _ _ rfl hR4) rfl ?_
        unfold TotalPost
        rw [htot.out hv.out, hv.out]
        exact ⟨rfl, hB4⟩
end Go.Proofs.YtpbljciblgcgfaaDoor
end

section
/- The transitive closure by its pairs. -/
namespace Go.Proofs.YtpbljciblgcgfaaDoor
open Go.RowKit Go.Shelf

theorem fixed_exists {N : Nat} {f : Nat → Nat} (h : Rgt N f) : ∃ k, Fixed N f k := by
  suffices hs : ∀ m k, miss (iterF N f k) ≤ m → ∃ k, Fixed N f k from hs _ 0 (Nat.le_refl _)
  intro m
  induction m with
  | zero =>
    intro k hk
    cases hq : relB N N (cutF N (stepF (iterF N f k))) (iterF N f k)
    · have := miss_step (right_iter h k) hq
      omega
    · exact ⟨k, (relB_iff.1 hq).2⟩
  | succ m ih =>
    intro k hk
    cases hq : relB N N (cutF N (stepF (iterF N f k))) (iterF N f k)
    · have := miss_step (right_iter h k) hq
      exact ih (k + 1) (by show miss (cutF N (stepF (iterF N f k))) ≤ m; omega)
    · exact ⟨k, (relB_iff.1 hq).2⟩
theorem bt_iter {N : Nat} {f : Nat → Nat} (h : Rgt N f) (k : Nat) {i j : Nat} (hi : i < 48) :
    Bt (iterF N f (k + 1)) i j ↔ Bt (iterF N f k) i j ∨ ∃ m, m < 48 ∧ Bt (iterF N f k) i m ∧ Bt (iterF N f k) m j := by
  have hr : Rgt N (iterF N f k) := right_iter h k
  show Bt (cutF N (stepF (iterF N f k))) i j ↔ _
  have ht := bt_then (g := iterF N f k) (j := j) hr hi
  have e : Bt (stepF (iterF N f k)) i j ↔ Bt (iterF N f k) i j ∨ Bt (thenF (iterF N f k) (iterF N f k)) i j := bt_union _ (thenF _ _) i j
  rw [← ht, ← e]
  unfold Bt cutF
  by_cases hn : (i : Int) < N
  · rw [if_pos hn]
  · rw [if_neg hn]
    constructor
    · intro hc; simp at hc
    · intro hc
      exfalso
      rcases e.1 hc with hc | hc
      · have := hr.fst hi hc; omega
      · obtain ⟨m, _, hc, _⟩ := ht.1 hc
        have := hr.fst hi hc; omega
theorem plus_at {N : Nat} {f : Nat → Nat} (h : Rgt N f) : ∃ k, Fixed N f k ∧ ∀ i j, i < 48 → (Bt (plusF N f) i j ↔ Bt (iterF N f k) i j) := by
  obtain ⟨k, hk⟩ := fixed_exists h
  exact ⟨k, hk, fun i j hi => by unfold Bt; rw [plusF_at h hk i hi]⟩
theorem rgt_plus {N : Nat} {f : Nat → Nat} (h : Rgt N f) : Rgt N (plusF N f) := by
  obtain ⟨k, _, hp⟩ := plus_at h
  have hr : Rgt N (iterF N f k) := right_iter h k
  exact rgt_iff.2 ⟨h.le, fun i hi j hb => ⟨hr.fst hi ((hp i j hi).1 hb), hr.snd hi ((hp i j hi).1 hb)⟩⟩
theorem plus_64 {N : Nat} {f : Nat → Nat} (h : R64 f) : R64 (plusF N f) := by
  unfold plusF
  split
  · exact iterF_64 _ h _
  · exact h
theorem plus_base {N : Nat} {f : Nat → Nat} (h : Rgt N f) {i j : Nat} (hi : i < 48) (hb : Bt f i j) : Bt (plusF N f) i j := by
  obtain ⟨k, _, hp⟩ := plus_at h
  rw [hp i j hi]
  have key : ∀ k, Bt (iterF N f k) i j := by
    intro k
    induction k with
    | zero => exact hb
    | succ k ih => exact (bt_iter h k hi).2 (.inl ih)
  exact key k
theorem plus_trans {N : Nat} {f : Nat → Nat} (h : Rgt N f) {i m j : Nat} (hi : i < 48) (hm : m < 48) (h1 : Bt (plusF N f) i m) (h2 : Bt (plusF N f) m j) : Bt (plusF N f) i j := by
  obtain ⟨k, hk, hp⟩ := plus_at h
  rw [hp i j hi]
  have e := hk i hi
  have : Bt (iterF N f (k + 1)) i j := (bt_iter h k hi).2 (.inr ⟨m, hm, (hp i m hi).1 h1, (hp m j hm).1 h2⟩)
  unfold Bt at this ⊢
  rwa [e] at this
theorem plus_min {N : Nat} {f g : Nat → Nat} (h : Rgt N f) (hb : ∀ i j, i < 48 → Bt f i j → Bt g i j) (ht : ∀ i m j, i < 48 → m < 48 → Bt g i m → Bt g m j → Bt g i j) {i j : Nat} (hi : i < 48) (hp : Bt (plusF N f) i j) : Bt g i j := by
  obtain ⟨k, _, hpk⟩ := plus_at h
  have key : ∀ k i j, i < 48 → Bt (iterF N f k) i j → Bt g i j := by
    intro k
    induction k with
    | zero => exact hb
    | succ k ih =>
      intro i j hi hx
      rcases (bt_iter h k hi).1 hx with hx | ⟨m, hm, h1, h2⟩
      · exact ih i j hi hx
      · exact ht i m j hi hm (ih i m hi h1) (ih m j hm h2)
  exact key k i j hi ((hpk i j hi).1 hp)
theorem plus_plus {N : Nat} {f : Nat → Nat} (h : Rgt N f) : relB N N (plusF N (plusF N f)) (plusF N f) = true :=
  relB_bits fun _ _ hi => ⟨plus_min (rgt_plus h) (fun _ _ _ hb => hb) (fun _ _ _ hi hm => plus_trans h hi hm) hi, plus_base (rgt_plus h) hi⟩

theorem in_true {N : Nat} {f g : Nat → Nat} (hf : Rgt N f) (hg : Rgt N g) (h1 : R64 f) (h2 : R64 g) (h : ∀ i j, i < 48 → Bt f i j → Bt g i j) : inB N N f g = true := by
  have hz : ∀ i, i < 48 → cutF N (lessF f g) i = 0 := by
    intro i hi
    unfold cutF
    split
    · apply Nat.eq_of_testBit_eq
      intro j
      rw [Nat.zero_testBit]
      apply Decidable.byContradiction
      intro hc
      have := (bt_less h1 h2 i j).1 (by simpa using hc)
      exact this.2 (h i j hi this.1)
    · rfl
  have hN := hf.le
  have hr : rightB (N : Int) (cutF N (lessF f g)) = true := rgt_iff.2 ⟨hN, fun i hi j hb => by unfold Bt at hb; rw [hz i hi] at hb; simp at hb⟩
  have hk : fromK (cutF N (lessF f g)) N = 0 := by
    apply Nat.eq_of_testBit_eq
    intro j
    rw [Nat.zero_testBit, fromK_bit]
    by_cases hj : j < N
    · rw [hz j (by omega)]; simp
    · simp [hj]
  unfold inB
  rw [comb_ok hf hg, hr, Int.toNat_natCast, hk]
  rfl
end Go.Proofs.YtpbljciblgcgfaaDoor
end
