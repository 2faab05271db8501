/- rel.Plus, rel.Star. -/
import Derived.Test.YtakhmjohncidoaaDoorRegionBelow
import Derived.Test.YtakhmjohncidoaaDoorRelOf
namespace Go.Proofs.YtakhmjohncidoaaDoor
open Go.RowKit Go.Shelf Go.BigFrame

attribute [local go_sem] Oper.semAt_some

/-- One round of the closure. -/
def stepF (f : Nat → Nat) : Nat → Nat := fun i => f i ||| imgF f (f i)

set_option maxHeartbeats 1000000 in
set_option maxRecDepth 100000 in
theorem plus1_any (n : Int) (f : Nat → Nat) (hf : R64 f) (a k : Nat) (hk : k < 48) (hfk : f k < 2 ^ 48) (w : World) (hA : RelAt w a n f) (hT : Tab w) :
    Calls Tryd.prog 62 #[.int .i64 (k : Int), .pointer (some ⟨a, 0, none⟩)] w fun e w' => e = .returned (.int .u64 (stepF f k : Int)) ∧ Below w.heap.size w w' := by
  have k1 : (k : Int) < 48 := by omega
  have halt := hA.lt
  have hp := hT.pos
  go_enter Tryd.func62, Tryd.ntmps62
  go_wp2_with fail
  refine wp_region_below w.heap.size w (by kernel_rfl) (by kernel_rfl) (Below.refl _ _) ?_
  have hl : ∀ W, Below w.heap.size w W → W.cell? ⟨a, 1 + k, none⟩ = some (.int .u64 (f k : Int)) := fun W hW => (hA.below hW halt).row k hk
  replace hl := Lib.hid hl
  iterate 3 go_big_quiet_step ((intro _; exact rfl))
  refine wpQuiet_want rfl fun K hK => ?_
  refine quiet_load 23 (.tmp 6) rfl ⟨a, 1 + k, none⟩ rfl (.int .u64 (f k : Int)) setAgg hl.out (hK _ ?_)
  clear hK K
  change wpQuiet _ _ _ _ _ { tmps := #[.int .i64 (k : Int), .pointer (some ⟨a, 0, none⟩), undef, .int .u64 0, .int .i64 (k : Int), .pointer (some ⟨a, 1, none⟩), .pointer (some ⟨a, 1 + k, none⟩), .int .u64 (f k : Int), undef, undef, undef, undef, undef, undef], defers := [] }
  iterate 3 go_big_quiet_step ((intro _; exact rfl))
  refine wpQuiet_want rfl fun K hK => ?_
  refine quiet_load 23 (.tmp 10) rfl ⟨a, 1 + k, none⟩ rfl (.int .u64 (f k : Int)) setAgg hl.out (hK _ ?_)
  clear hK K
  change wpQuiet _ _ _ _ _ { tmps := #[.int .i64 (k : Int), .pointer (some ⟨a, 0, none⟩), undef, .int .u64 0, .int .i64 (k : Int), .pointer (some ⟨a, 1, none⟩), .pointer (some ⟨a, 1 + k, none⟩), .int .u64 (f k : Int), .int .i64 (k : Int), .pointer (some ⟨a, 1, none⟩), .pointer (some ⟨a, 1 + k, none⟩), .int .u64 (f k : Int), undef, undef], defers := [] }
  repeat (go_big_quiet_step (first
    | (intro _; exact rfl)
    | (intro hW; go_at_call 59; exact Calls.below_of hW (image_any a n f hf (f k) hfk _ (hA.below hW halt) (hT.below hW hp)))))
  refine wpQuiet_nil ?_
  intro w2 hB
  have hor := Lib.hid (show bits BinOp.or IntKind.u64 (f k : Int) (imgF f (f k) : Int) = (stepF f k : Int) by
    exact u64_or_nat _ _ (hf k) (imgL_lt f hf _))
  go_wp2
  go_ret
  rw [← hor.out]
  exact ⟨rfl, hB⟩

theorem stepF_64 {f : Nat → Nat} (hf : R64 f) : R64 (stepF f) := fun i => Nat.or_lt_two_pow (hf i) (imgL_lt f hf _)

/-- The relation behind k rounds. -/
def iterF (n : Int) (f : Nat → Nat) : Nat → Nat → Nat
  | 0 => f
  | k + 1 => cutF n (stepF (iterF n f k))
theorem iterF_64 (n : Int) {f : Nat → Nat} (hf : R64 f) : ∀ k, R64 (iterF n f k)
  | 0 => hf
  | k + 1 => cutF_64 n (stepF_64 (iterF_64 n hf k))
/-- The rounds have come to their end. -/
def Fixed (n : Int) (f : Nat → Nat) (k : Nat) : Prop := ∀ i, i < 48 → iterF n f (k + 1) i = iterF n f k i
open Classical in
/-- The transitive closure. -/
noncomputable def plusF (n : Int) (f : Nat → Nat) : Nat → Nat := if h : ∃ k, Fixed n f k then iterF n f (Classical.choose h) else f

theorem imgL_congr {f g : Nat → Nat} : ∀ (l : List Nat), (∀ i ∈ l, f i = g i) → imgL f l = imgL g l := by
  intro l h
  unfold imgL
  suffices hs : ∀ (l : List Nat) (s : Nat), (∀ i ∈ l, f i = g i) → l.foldl (fun s i => s ||| f i) s = l.foldl (fun s i => s ||| g i) s from hs l 0 h
  intro l
  induction l with
  | nil => exact fun _ _ => rfl
  | cons i l ih =>
    intro s h
    simp only [List.foldl_cons]
    rw [h i (by simp)]
    exact ih _ fun j hj => h j (by simp [hj])
theorem els_48 {s : Nat} (hs : s < 2 ^ 48) {i : Nat} (hi : i ∈ MM.els s) : i < 48 := by
  rw [MM.mem_els] at hi
  apply Decidable.byContradiction
  intro h
  rw [Nat.testBit_lt_two_pow (Nat.lt_of_lt_of_le hs (Nat.pow_le_pow_right (by omega) (by omega)))] at hi
  cases hi.2
theorem stepF_congr (n : Int) {f g : Nat → Nat} (hn : n ≤ 48) (hf : ∀ i, i < 48 → f i < 2 ^ 48) (h : ∀ i, i < 48 → f i = g i) (i : Nat) : cutF n (stepF f) i = cutF n (stepF g) i := by
  unfold cutF
  split
  · unfold stepF imgF
    rw [← h i (by omega), imgL_congr (MM.els (f i)) fun j hj => h j (els_48 (hf i (by omega)) hj)]
  · rfl

/-- A right relation stays right. -/
theorem imgL_bd (f : Nat → Nat) (m : Nat) : ∀ l : List Nat, (∀ i ∈ l, f i < 2 ^ m) → imgL f l < 2 ^ m := by
  suffices hs : ∀ (l : List Nat) (s : Nat), s < 2 ^ m → (∀ i ∈ l, f i < 2 ^ m) → l.foldl (fun s i => s ||| f i) s < 2 ^ m from fun l h => hs l 0 (Nat.two_pow_pos m) h
  intro l
  induction l with
  | nil => exact fun _ h _ => h
  | cons i l ih => exact fun s hs h => ih _ (Nat.or_lt_two_pow hs (h i (by simp))) fun j hj => h j (by simp [hj])
theorem right_items {n : Int} {f : Nat → Nat} (h : rightB n f = true) (i : Nat) (hi : i < 48) : f i < 2 ^ n.toNat := by
  have := (rightB_iff.1 h).2 i hi
  unfold okRow at this
  split at this
  · simpa using this
  · have h0 : f i = 0 := by simpa using this
    rw [h0]; exact Nat.two_pow_pos _
theorem right_cut {n : Int} {F : Nat → Nat} (hn : 0 ≤ n ∧ n ≤ 48) (h : ∀ i : Nat, (i : Int) < n → F i < 2 ^ n.toNat) : rightB n (cutF n F) = true := by
  refine rightB_iff.2 ⟨hn, fun i hi => ?_⟩
  unfold okRow cutF
  by_cases h1 : (i : Int) < n
  · rw [if_pos h1, if_pos h1]; simpa using h i h1
  · rw [if_neg h1, if_neg h1]; rfl
theorem right_step {n : Int} {f : Nat → Nat} (h : rightB n f = true) : rightB n (cutF n (stepF f)) = true := by
  have hn := (rightB_iff.1 h).1
  refine right_cut hn fun i hi => Nat.or_lt_two_pow (right_items h i (by omega)) (imgL_bd f _ _ fun j hj => right_items h j (els_48 (right_row h i (by omega)) hj))
theorem right_iter {n : Int} {f : Nat → Nat} (h : rightB n f = true) : ∀ k, rightB n (iterF n f k) = true
  | 0 => h
  | k + 1 => right_step (right_iter h k)
theorem fixed_on {n : Int} {f : Nat → Nat} (h : rightB n f = true) {k : Nat} (hk : Fixed n f k) : ∀ j, ∀ i, i < 48 → iterF n f (k + j) i = iterF n f k i
  | 0 => fun _ _ => rfl
  | j + 1 => fun i hi => by
    have ih := fixed_on h hk j
    show cutF n (stepF (iterF n f (k + j))) i = _
    rw [stepF_congr n (rightB_iff.1 h).1.2 (fun i hi => right_row (right_iter h (k + j)) i hi) ih i]
    exact hk i hi
theorem plusF_at {n : Int} {f : Nat → Nat} (h : rightB n f = true) {k : Nat} (hk : Fixed n f k) (i : Nat) (hi : i < 48) : plusF n f i = iterF n f k i := by
  have hex : ∃ k, Fixed n f k := ⟨k, hk⟩
  unfold plusF
  rw [dif_pos hex]
  have hc := Classical.choose_spec hex
  rcases Nat.le_total k (Classical.choose hex) with hle | hle
  · have := fixed_on h hk (Classical.choose hex - k) i hi
    rwa [show k + (Classical.choose hex - k) = Classical.choose hex by omega] at this
  · have := fixed_on h hc (k - Classical.choose hex) i hi
    rw [show Classical.choose hex + (k - Classical.choose hex) = k by omega] at this
    exact this.symm

/-- What is still missing. -/
def miss (f : Nat → Nat) : Nat := ((List.range 48).map fun i => 2 ^ 48 - f i).sum
theorem sum_le (l : List Nat) (F G : Nat → Nat) (h : ∀ i ∈ l, F i ≤ G i) : (l.map F).sum ≤ (l.map G).sum := by
  induction l with
  | nil => exact Nat.le_refl _
  | cons i l ih =>
    have := ih fun j hj => h j (by simp [hj])
    have := h i (by simp)
    simp only [List.map_cons, List.sum_cons]
    omega
theorem sum_lt (l : List Nat) (F G : Nat → Nat) (h : ∀ i ∈ l, F i ≤ G i) (j : Nat) (hj : j ∈ l) (hlt : F j < G j) : (l.map F).sum < (l.map G).sum := by
  induction l with
  | nil => cases hj
  | cons i l ih =>
    have h1 := h i (by simp)
    simp only [List.map_cons, List.sum_cons]
    rcases List.mem_cons.1 hj with rfl | hj
    · have := sum_le l F G fun k hk => h k (by simp [hk])
      omega
    · have := ih (fun k hk => h k (by simp [hk])) hj
      omega
theorem miss_step {n : Int} {f : Nat → Nat} (h : rightB n f = true) (hne : relB n n (cutF n (stepF f)) f = false) : miss (cutF n (stepF f)) < miss f := by
  have hr := right_step h
  have hle : ∀ i, i < 48 → f i ≤ cutF n (stepF f) i := by
    intro i hi
    unfold cutF
    by_cases h1 : (i : Int) < n
    · rw [if_pos h1]; exact Nat.left_le_or
    · rw [if_neg h1]
      have := (rightB_iff.1 h).2 i hi
      unfold okRow at this
      rw [if_neg h1] at this
      have h0 : f i = 0 := by simpa using this
      omega
  obtain ⟨j, hj, hjn⟩ : ∃ j, j < 48 ∧ cutF n (stepF f) j ≠ f j := by
    apply Decidable.byContradiction
    intro hc
    have : relB n n (cutF n (stepF f)) f = true := relB_same fun i hi => Decidable.byContradiction fun hn => hc ⟨i, hi, hn⟩
    rw [this] at hne
    cases hne
  unfold miss
  refine sum_lt _ _ _ (fun i hi => ?_) j (by simpa using hj) ?_
  · have := hle i (by simpa using hi)
    omega
  · have h1 := hle j hj
    have h2 := right_row hr j hj
    omega
theorem plusF_64 (n : Int) {f : Nat → Nat} (hf : R64 f) : R64 (plusF n f) := by
  intro i
  unfold plusF
  split
  · exact iterF_64 n hf _ i
  · exact hf i
end Go.Proofs.YtakhmjohncidoaaDoor
