/- RelPlusAlg, Cycle, OrdMath, RefBits in one text, for the claim. -/
import Derived.Test.YtpmlomhlbmgilaaDoorOwM3
import Derived.Test.YtpmlomhlbmgilaaDoorOwM1

section
/- The transitive closure by its pairs. -/
namespace Go.Proofs.YtpmlomhlbmgilaaDoor
open Go.RowKit Go.Shelf

theorem fixed_exists {N : Nat} {f : Nat → Nat} (h : Rgt N f) : ∃ k, Fixed N f k := by
  suffices hs : ∀ m k, miss (iterF N f k) ≤ m → ∃ k, Fixed N f k from hs _ 0 (Nat.le_refl _)
  intro m
  induction m with
  | zero =>
    intro k hk
    cases hq : relB N N (cutF N (stepF (iterF N f k))) (iterF N f k)
    · have := miss_step (right_iter h k) hq
      omega
    · exact ⟨k, (relB_iff.1 hq).2⟩
  | succ m ih =>
    intro k hk
    cases hq : relB N N (cutF N (stepF (iterF N f k))) (iterF N f k)
    · have := miss_step (right_iter h k) hq
      exact ih (k + 1) (by show miss (cutF N (stepF (iterF N f k))) ≤ m; omega)
    · exact ⟨k, (relB_iff.1 hq).2⟩
theorem bt_iter {N : Nat} {f : Nat → Nat} (h : Rgt N f) (k : Nat) {i j : Nat} (hi : i < 48) :
    Bt (iterF N f (k + 1)) i j ↔ Bt (iterF N f k) i j ∨ ∃ m, m < 48 ∧ Bt (iterF N f k) i m ∧ Bt (iterF N f k) m j := by
  have hr : Rgt N (iterF N f k) := right_iter h k
  show Bt (cutF N (stepF (iterF N f k))) i j ↔ _
  have ht := bt_then (g := iterF N f k) (j := j) hr hi
  have e : Bt (stepF (iterF N f k)) i j ↔ Bt (iterF N f k) i j ∨ Bt (thenF (iterF N f k) (iterF N f k)) i j := bt_union _ (thenF _ _) i j
  rw [← ht, ← e]
  unfold Bt cutF
  by_cases hn : (i : Int) < N
  · rw [if_pos hn]
  · rw [if_neg hn]
    constructor
    · intro hc; simp at hc
    · intro hc
      exfalso
      rcases e.1 hc with hc | hc
      · have := hr.fst hi hc; omega
      · obtain ⟨m, _, hc, _⟩ := ht.1 hc
        have := hr.fst hi hc; omega
theorem plus_at {N : Nat} {f : Nat → Nat} (h : Rgt N f) : ∃ k, Fixed N f k ∧ ∀ i j, i < 48 → (Bt (plusF N f) i j ↔ Bt (iterF N f k) i j) := by
  obtain ⟨k, hk⟩ := fixed_exists h
  exact ⟨k, hk, fun i j hi => by unfold Bt; rw [plusF_at h hk i hi]⟩
theorem rgt_plus {N : Nat} {f : Nat → Nat} (h : Rgt N f) : Rgt N (plusF N f) := by
  obtain ⟨k, _, hp⟩ := plus_at h
  have hr : Rgt N (iterF N f k) := right_iter h k
  exact rgt_iff.2 ⟨h.le, fun i hi j hb => ⟨hr.fst hi ((hp i j hi).1 hb), hr.snd hi ((hp i j hi).1 hb)⟩⟩
theorem plus_64 {N : Nat} {f : Nat → Nat} (h : R64 f) : R64 (plusF N f) := by
  unfold plusF
  split
  · exact iterF_64 _ h _
  · exact h
theorem plus_base {N : Nat} {f : Nat → Nat} (h : Rgt N f) {i j : Nat} (hi : i < 48) (hb : Bt f i j) : Bt (plusF N f) i j := by
  obtain ⟨k, _, hp⟩ := plus_at h
  rw [hp i j hi]
  have key : ∀ k, Bt (iterF N f k) i j := by
    intro k
    induction k with
    | zero => exact hb
    | succ k ih => exact (bt_iter h k hi).2 (.inl ih)
  exact key k
theorem plus_trans {N : Nat} {f : Nat → Nat} (h : Rgt N f) {i m j : Nat} (hi : i < 48) (hm : m < 48) (h1 : Bt (plusF N f) i m) (h2 : Bt (plusF N f) m j) : Bt (plusF N f) i j := by
  obtain ⟨k, hk, hp⟩ := plus_at h
  rw [hp i j hi]
  have e := hk i hi
  have : Bt (iterF N f (k + 1)) i j := (bt_iter h k hi).2 (.inr ⟨m, hm, (hp i m hi).1 h1, (hp m j hm).1 h2⟩)
  unfold Bt at this ⊢
  rwa [e] at this
theorem plus_min {N : Nat} {f g : Nat → Nat} (h : Rgt N f) (hb : ∀ i j, i < 48 → Bt f i j → Bt g i j) (ht : ∀ i m j, i < 48 → m < 48 → Bt g i m → Bt g m j → Bt g i j) {i j : Nat} (hi : i < 48) (hp : Bt (plusF N f) i j) : Bt g i j := by
  obtain ⟨k, _, hpk⟩ := plus_at h
  have key : ∀ k i j, i < 48 → Bt (iterF N f k) i j → Bt g i j := by
    intro k
    induction k with
    | zero => exact hb
    | succ k ih =>
      intro i j hi hx
      rcases (bt_iter h k hi).1 hx with hx | ⟨m, hm, h1, h2⟩
      · exact ih i j hi hx
      · exact ht i m j hi hm (ih i m hi h1) (ih m j hm h2)
  exact key k i j hi ((hpk i j hi).1 hp)
theorem plus_plus {N : Nat} {f : Nat → Nat} (h : Rgt N f) : relB N N (plusF N (plusF N f)) (plusF N f) = true :=
  relB_bits fun _ _ hi => ⟨plus_min (rgt_plus h) (fun _ _ _ hb => hb) (fun _ _ _ hi hm => plus_trans h hi hm) hi, plus_base (rgt_plus h) hi⟩

theorem in_true {N : Nat} {f g : Nat → Nat} (hf : Rgt N f) (hg : Rgt N g) (h1 : R64 f) (h2 : R64 g) (h : ∀ i j, i < 48 → Bt f i j → Bt g i j) : inB N N f g = true := by
  have hz : ∀ i, i < 48 → cutF N (lessF f g) i = 0 := by
    intro i hi
    unfold cutF
    split
    · apply Nat.eq_of_testBit_eq
      intro j
      rw [Nat.zero_testBit]
      apply Decidable.byContradiction
      intro hc
      have := (bt_less h1 h2 i j).1 (by simpa using hc)
      exact this.2 (h i j hi this.1)
    · rfl
  have hN := hf.le
  have hr : rightB (N : Int) (cutF N (lessF f g)) = true := rgt_iff.2 ⟨hN, fun i hi j hb => by unfold Bt at hb; rw [hz i hi] at hb; simp at hb⟩
  have hk : fromK (cutF N (lessF f g)) N = 0 := by
    apply Nat.eq_of_testBit_eq
    intro j
    rw [Nat.zero_testBit, fromK_bit]
    by_cases hj : j < N
    · rw [hz j (by omega)]; simp
    · simp [hj]
  unfold inB
  rw [comb_ok hf hg, hr, Int.toNat_natCast, hk]
  rfl
end Go.Proofs.YtpmlomhlbmgilaaDoor
end

section
/- Walks, cycles, topological orders: what Top, Ring and Plus have to do with each other. -/
namespace Go.Proofs.YtpmlomhlbmgilaaDoor
open Go.RowKit Go.Shelf

/-- A walk of so many steps. -/
def Wk (f : Nat → Nat) : Nat → Nat → Nat → Prop
  | 0, i, j => i = j
  | m + 1, i, j => ∃ k, k < 48 ∧ Bt f i k ∧ Wk f m k j
theorem wk_one {f : Nat → Nat} {i j : Nat} (hj : j < 48) (h : Bt f i j) : Wk f 1 i j := ⟨j, hj, h, rfl⟩
theorem wk_add {f : Nat → Nat} {n k j : Nat} : ∀ {m i : Nat}, Wk f m i k → Wk f n k j → Wk f (m + n) i j
  | 0, i, h, h2 => by cases h; rwa [Nat.zero_add]
  | m + 1, i, ⟨x, hx, hb, h⟩, h2 => by
    rw [show m + 1 + n = (m + n) + 1 by omega]
    exact ⟨x, hx, hb, wk_add h h2⟩
theorem wk_snoc {f : Nat → Nat} {m i j : Nat} : Wk f (m + 1) i j ↔ ∃ k, Wk f m i k ∧ j < 48 ∧ Bt f k j := by
  constructor
  · intro h
    induction m generalizing i with
    | zero => obtain ⟨k, hk, hb, rfl⟩ := h; exact ⟨i, rfl, hk, hb⟩
    | succ m ih =>
      obtain ⟨k, hk, hb, h⟩ := h
      obtain ⟨x, h1, h2, h3⟩ := ih h
      exact ⟨x, ⟨k, hk, hb, h1⟩, h2, h3⟩
  · rintro ⟨k, h, hj, hb⟩
    exact wk_add h (wk_one hj hb)
theorem wk_item {N : Nat} {f : Nat → Nat} (hf : Rgt N f) {m i j : Nat} (hi : i < 48) (h : Wk f (m + 1) i j) : i < N ∧ j < N := by
  have h1 : i < N := by obtain ⟨k, _, hb, _⟩ := h; exact hf.fst hi hb
  refine ⟨h1, ?_⟩
  have key : ∀ (m i : Nat), i < N → Wk f m i j → j < N := by
    intro m
    induction m with
    | zero => intro i hi h; cases h; exact hi
    | succ m ih => intro i hi h; obtain ⟨k, _, hb, h⟩ := h; exact ih k (hf.snd (by have := hf.le; omega) hb) h
  exact key _ _ h1 h
/-- The items of a walk, one after the other. -/
theorem wk_seq {f : Nat → Nat} {j : Nat} : ∀ {m i : Nat}, Wk f m i j → ∃ v : Nat → Nat, v 0 = i ∧ v m = j ∧ ∀ t, t < m → v (t + 1) < 48 ∧ Bt f (v t) (v (t + 1))
  | 0, i, h => ⟨fun _ => i, rfl, h, fun t ht => by omega⟩
  | m + 1, i, ⟨k, hk, hb, h⟩ => by
    obtain ⟨v, h0, h1, h2⟩ := wk_seq h
    refine ⟨fun t => if t = 0 then i else v (t - 1), rfl, by simpa using h1, fun t ht => ?_⟩
    cases t with
    | zero => simp only [if_pos, Nat.zero_add, Nat.one_ne_zero, if_false, Nat.sub_self]; rw [h0]; exact ⟨hk, hb⟩
    | succ t => simpa using h2 t (by omega)
theorem seq_wk {f : Nat → Nat} {v : Nat → Nat} {i : Nat} : ∀ {d : Nat}, (∀ t, t < d → v (i + t + 1) < 48 ∧ Bt f (v (i + t)) (v (i + t + 1))) → Wk f d (v i) (v (i + d))
  | 0, _ => rfl
  | d + 1, h => wk_snoc.2 ⟨v (i + d), seq_wk (fun t ht => h t (by omega)), (h d (by omega)).1, (h d (by omega)).2⟩
theorem nodup_le : ∀ (n : Nat) (l : List Nat), l.Nodup → (∀ x ∈ l, x < n) → l.length ≤ n
  | 0, l, _, h => by
    cases l with
    | nil => simp
    | cons a l => have := h a List.mem_cons_self; omega
  | n + 1, l, hn, h => by
    by_cases hm : n ∈ l
    · have h1 := nodup_le n (l.erase n) (hn.erase n) (fun x hx => by
        have := (hn.mem_erase_iff).1 hx
        have := h x this.2
        omega)
      rw [List.length_erase_of_mem hm] at h1
      omega
    · have := nodup_le n l hn (fun x hx => by have := h x hx; have : x ≠ n := fun e => hm (e ▸ hx); omega)
      omega
/-- Among more numbers than there are, two are the same. -/
theorem pigeon {n m : Nat} {v : Nat → Nat} (hv : ∀ t, t < m → v t < n) (hm : n < m) : ∃ i j, i < j ∧ j < m ∧ v i = v j := by
  refine Classical.byContradiction fun hno => ?_
  have hnd : ((List.range m).map v).Nodup := by
    rw [List.nodup_iff_pairwise_ne, List.pairwise_map]
    refine List.Pairwise.imp_of_mem ?_ (List.pairwise_lt_range (n := m))
    intro a b ha hb hab he
    exact hno ⟨a, b, hab, List.mem_range.1 hb, he⟩
  have := nodup_le n _ hnd (fun x hx => by obtain ⟨t, ht, rfl⟩ := List.mem_map.1 hx; exact hv t (List.mem_range.1 ht))
  simp at this
  omega

/-- Some item comes back to itself. -/
def Cyc (N : Nat) (f : Nat → Nat) : Prop := ∃ a m, a < N ∧ Wk f (m + 1) a a
/-- The shortest walk that comes back is no longer than there are items. -/
theorem cyc_short {N : Nat} {f : Nat → Nat} (hf : Rgt N f) (h : Cyc N f) : ∃ a m, a < N ∧ m < N ∧ Wk f (m + 1) a a := by
  obtain ⟨a, m, ha, hw⟩ := h
  induction m using Nat.strongRecOn generalizing a with
  | ind m ih =>
    by_cases hm : m < N
    · exact ⟨a, m, ha, hm, hw⟩
    · obtain ⟨v, v0, v1, hv⟩ := wk_seq hw
      have hvN : ∀ t, t < m + 1 → v t < N := fun t ht => by
        cases t with
        | zero => rw [v0]; exact ha
        | succ t => exact hf.snd (Nat.lt_of_lt_of_le (by
            cases t with
            | zero => rw [v0]; exact ha
            | succ t => exact hf.snd (by
                have := (hv t (by omega)).2
                rcases Nat.lt_or_ge (v t) 48 with h | h
                · exact h
                · exact absurd this (by
                    cases t with
                    | zero => rw [v0] at h; have := hf.le; omega
                    | succ t => have := (hv t (by omega)).1; omega)) (hv t (by omega)).2) hf.le) (hv t (by omega)).2
      obtain ⟨i, j, hij, hj, he⟩ := pigeon hvN (by omega : N < m + 1)
      have hwk := seq_wk (f := f) (v := v) (i := i) (d := j - i) (fun t ht => hv (i + t) (by omega))
      rw [show i + (j - i) = j by omega, ← he] at hwk
      obtain ⟨d, hd⟩ : ∃ d, j - i = d + 1 := ⟨j - i - 1, by omega⟩
      rw [hd] at hwk
      exact ih d (by omega) (v i) (hvN i (by omega)) hwk
theorem plus_wk {N : Nat} {f : Nat → Nat} (hf : Rgt N f) {i j : Nat} (hi : i < 48) : Bt (plusF N f) i j ↔ ∃ m, Wk f (m + 1) i j := by
  constructor
  · intro h
    obtain ⟨k, _, hk⟩ := plus_at hf
    have h := (hk i j hi).1 h
    have key : ∀ k i j, i < 48 → Bt (iterF N f k) i j → ∃ m, Wk f (m + 1) i j := by
      intro k
      induction k with
      | zero => intro i j hi h; exact ⟨0, wk_one (hf.snd48 hi h) h⟩
      | succ k ih =>
        intro i j hi h
        rcases (bt_iter hf k hi).1 h with h | ⟨m, hm, h1, h2⟩
        · exact ih i j hi h
        · obtain ⟨x, h1⟩ := ih i m hi h1
          obtain ⟨y, h2⟩ := ih m j hm h2
          exact ⟨x + 1 + y, by have := wk_add h1 h2; rwa [show x + 1 + (y + 1) = x + 1 + y + 1 by omega] at this⟩
    exact key k i j hi h
  · rintro ⟨m, h⟩
    induction m generalizing i with
    | zero => obtain ⟨k, hk, hb, rfl⟩ := h; exact plus_base hf hi hb
    | succ m ih => obtain ⟨k, hk, hb, h⟩ := h; exact plus_trans hf hi hk (plus_base hf hi hb) (ih hk h)
theorem irr_plus {N : Nat} {f : Nat → Nat} (hf : Rgt N f) : irrK (plusF N f) N = true ↔ ¬ Cyc N f := by
  rw [irrK_iff]
  constructor
  · rintro h ⟨a, m, ha, hw⟩
    exact h a ha ((plus_wk hf (by have := hf.le; omega)).2 ⟨m, hw⟩)
  · intro h i hi hb
    obtain ⟨m, hw⟩ := (plus_wk hf (by have := hf.le; omega)).1 hb
    exact h ⟨i, m, hi, hw⟩

/-! ### Top -/
/-- All items, each behind those that come before it. -/
structure TopOK (N : Nat) (f : Nat → Nat) (l : List Nat) : Prop where
  nodup : l.Nodup
  mem : ∀ x, x ∈ l ↔ x < N
  pred : ∀ (k : Nat) (x : Nat), l[k]? = some x → ∀ i, i < 48 → Bt f i x → i ∈ l.take k
theorem and_zero_iff (x y : Nat) : x &&& y = 0 ↔ ∀ j, x.testBit j = true → y.testBit j = false := by
  constructor
  · intro h j hx
    have := congrArg (fun z => z.testBit j) h
    simpa [hx] using this
  · intro h
    apply Nat.eq_of_testBit_eq
    intro j
    rw [Nat.testBit_and, Nat.zero_testBit]
    cases hx : x.testBit j
    · rfl
    · simp [h j hx]
theorem mem_els48 {s i : Nat} (hs : s < 2 ^ 48) : i ∈ MM.els s ↔ s.testBit i = true := by
  rw [MM.mem_els]
  exact ⟨fun h => h.2, fun h => ⟨by have := bit_lt hs h; omega, h⟩⟩
theorem top_go {N : Nat} {f : Nat → Nat} (hf : Rgt N f) : ∀ (k s : Nat) (acc : List Nat), s < 2 ^ 48 → (MM.els s).length ≤ k →
    acc.Nodup → (∀ x, x ∈ acc ∨ s.testBit x = true ↔ x < N) → (∀ x, x ∈ acc → s.testBit x = false) → (∀ (k : Nat) (x : Nat), acc[k]? = some x → ∀ i, i < 48 → Bt f i x → i ∈ acc.take k) →
    (∃ l, topGo (backF N f) k s acc = some l ∧ TopOK N f l) ∨ (topGo (backF N f) k s acc = none ∧ Cyc N f) := by
  intro k
  induction k with
  | zero =>
    intro s acc hs hk hnd hall hdis hpred
    have h0 : s = 0 := Decidable.byContradiction fun h => by have := els_pos hs h; omega
    subst h0
    refine .inl ⟨acc, topGo_zero _ _ _, hnd, fun x => ?_, hpred⟩
    rw [← hall x]; simp
  | succ k ih =>
    intro s acc hs hk hnd hall hdis hpred
    by_cases h0 : s = 0
    · subst h0
      refine .inl ⟨acc, topGo_zero _ _ _, hnd, fun x => ?_, hpred⟩
      rw [← hall x]; simp
    · cases hsrc : srcOf (backF N f) s (MM.els s) with
      | none =>
        refine .inr ⟨topGo_none _ _ _ _ h0 hsrc, ?_⟩
        have hp : ∀ x, s.testBit x = true → ∃ y, s.testBit y = true ∧ y < 48 ∧ Bt f y x := by
          intro x hx
          have hx48 := bit_lt hs hx
          have h1 := List.find?_eq_none.1 hsrc x ((mem_els48 hs).2 hx)
          simp only [decide_eq_true_eq] at h1
          rw [and_zero_iff] at h1
          obtain ⟨y, hy⟩ := Classical.not_forall.1 h1
          obtain ⟨hy1, hy2⟩ := Classical.not_imp.1 hy
          have hy1 := (bt_back hf hx48).1 hy1
          exact ⟨y, by simpa using hy2, hy1.1, hy1.2⟩
        obtain ⟨a, ha⟩ : ∃ a, s.testBit a = true := by
          refine Classical.byContradiction fun hn => h0 (Nat.eq_of_testBit_eq fun j => ?_)
          rw [Nat.zero_testBit, Bool.eq_false_iff]
          exact fun hb => hn ⟨j, hb⟩
        -- walks of any length that stay in s
        have hlong : ∀ m x, s.testBit x = true → ∃ v : Nat → Nat, v m = x ∧ (∀ t, t ≤ m → s.testBit (v t) = true) ∧ ∀ t, t < m → v (t + 1) < 48 ∧ Bt f (v t) (v (t + 1)) := by
          intro m
          induction m with
          | zero => intro x hx; exact ⟨fun _ => x, rfl, fun _ _ => hx, fun t ht => by omega⟩
          | succ m ihm =>
            intro x hx
            obtain ⟨y, hy, _, hb⟩ := hp x hx
            obtain ⟨v, v1, v2, v3⟩ := ihm y hy
            refine ⟨fun t => if t ≤ m then v t else x, if_neg (by omega), fun t ht => ?_, fun t ht => ?_⟩
            · show s.testBit (if t ≤ m then v t else x) = true
              split
              · exact v2 t (by assumption)
              · exact hx
            · show (if t + 1 ≤ m then v (t + 1) else x) < 48 ∧ Bt f (if t ≤ m then v t else x) (if t + 1 ≤ m then v (t + 1) else x)
              rw [if_pos (show t ≤ m by omega)]
              split
              · exact v3 t (by omega)
              · obtain rfl : t = m := by omega
                rw [v1]
                exact ⟨bit_lt hs hx, hb⟩
        obtain ⟨v, _, v2, v3⟩ := hlong 48 a ha
        obtain ⟨i, j, hij, hj, he⟩ := pigeon (n := 48) (m := 49) (v := v) (fun t ht => bit_lt hs (v2 t (by omega))) (by omega)
        have hwk := seq_wk (f := f) (v := v) (i := i) (d := j - i) (fun t ht => v3 (i + t) (by omega))
        rw [show i + (j - i) = j by omega, ← he] at hwk
        obtain ⟨d, hd⟩ : ∃ d, j - i = d + 1 := ⟨j - i - 1, by omega⟩
        rw [hd] at hwk
        exact ⟨v i, d, (hall _).1 (.inr (v2 i (by omega))), hwk⟩
      | some a =>
        have ham := srcOf_mem hsrc
        have ha := (mem_els48 hs).1 ham
        have ha48 := bit_lt hs ha
        rw [topGo_some _ _ _ _ h0 a hsrc]
        have hz : backF N f a &&& s = 0 := by
          have := List.find?_some hsrc
          simpa using this
        have hnot : a ∉ acc := fun h => by have := hdis a h; rw [ha] at this; cases this
        refine ih (clr s a) (acc ++ [a]) (clr_lt s a hs) (by have := els_clr_len s a hs ham; omega) ?_ ?_ ?_ ?_
        · rw [List.nodup_append]
          exact ⟨hnd, by simp, fun x hx y hy => by simp at hy; subst hy; exact fun e => hnot (e ▸ hx)⟩
        · intro x
          rw [← hall x, clr_bit s a hs ha48, List.mem_append, List.mem_singleton]
          constructor
          · rintro ((h | rfl) | h)
            · exact .inl h
            · exact .inr ha
            · exact .inr (by rw [Bool.and_eq_true] at h; exact h.1)
          · rintro (h | h)
            · exact .inl (.inl h)
            · by_cases he : x = a
              · exact .inl (.inr he)
              · exact .inr (by rw [h]; simpa using he)
        · intro x hx
          rw [clr_bit s a hs ha48]
          rcases List.mem_append.1 hx with h | h
          · rw [hdis x h]; rfl
          · simp at h; subst h; simp
        · intro m x hm i hi hb
          rcases Nat.lt_or_ge m acc.length with hlt | hge
          · rw [List.getElem?_append_left hlt] at hm
            rw [List.take_append_of_le_length (by omega)]
            exact hpred m x hm i hi hb
          · rw [List.getElem?_append_right hge] at hm
            have hme : m - acc.length = 0 ∧ x = a := by
              cases hd : m - acc.length with
              | zero => rw [hd] at hm; simp at hm; exact ⟨rfl, hm.symm⟩
              | succ d => rw [hd] at hm; simp at hm
            obtain ⟨hme, rfl⟩ := hme
            obtain rfl : m = acc.length := by omega
            rw [List.take_left]
            have hbk : Bt (backF N f) x i := (bt_back hf ha48).2 ⟨hi, hb⟩
            have hsi := (and_zero_iff _ _).1 hz i hbk
            have hiN := hf.fst hi hb
            rcases (hall i).2 hiN with h | h
            · exact h
            · rw [hsi] at h; cases h
theorem top_cyc {N : Nat} {f : Nat → Nat} (hf : Rgt N f) : (∃ l, topF N f = some l ∧ TopOK N f l) ∨ (topF N f = none ∧ Cyc N f) := by
  unfold topF
  rw [show rightB (N : Int) f = true from hf, if_pos rfl, Int.toNat_natCast]
  have ha := fun x => allOf_bits N x hf.le
  refine top_go hf 48 _ [] (allOf_lt48 (N : Int) (by omega) (by have := hf.le; omega)).1 (els_le48 (allOf_lt48 (N : Int) (by omega) (by have := hf.le; omega)).1) List.nodup_nil ?_ (fun x h => by cases h) (fun k x h => by simp at h)
  intro x
  rw [ha x]
  simp
theorem TopOK.acyclic {N : Nat} {f : Nat → Nat} (hf : Rgt N f) {l : List Nat} (h : TopOK N f l) : ¬ Cyc N f := by
  -- an item's place in the list grows along a walk
  have hstep : ∀ i j, i < 48 → Bt f i j → l.idxOf i < l.idxOf j := by
    intro i j hi hb
    have hjl : j ∈ l := (h.mem j).2 (hf.snd hi hb)
    have hlt := List.idxOf_lt_length_iff.2 hjl
    have hget : l[l.idxOf j]? = some j := by rw [List.getElem?_eq_getElem hlt, List.getElem_idxOf hlt]
    have hm := h.pred _ _ hget i hi hb
    obtain ⟨m, hm1, hm2⟩ := List.mem_iff_getElem.1 hm
    rw [List.length_take] at hm1
    rw [List.getElem_take] at hm2
    have hil : i ∈ l := List.mem_of_mem_take hm
    have hidx := List.idxOf_lt_length_iff.2 hil
    have he : l.idxOf i = m := by
      have h1 := List.getElem_idxOf hidx
      exact (List.getElem_inj h.nodup).1 (h1.trans hm2.symm)
    omega
  have hwalk : ∀ m i j, i < 48 → Wk f (m + 1) i j → l.idxOf i < l.idxOf j := by
    intro m
    induction m with
    | zero => rintro i j hi ⟨k, hk, hb, rfl⟩; exact hstep i k hi hb
    | succ m ih => rintro i j hi ⟨k, hk, hb, hw⟩; have := hstep i k hi hb; have := ih k j hk hw; omega
  rintro ⟨a, m, ha, hw⟩
  have := hwalk m a a (by have := hf.le; omega) hw
  omega

/-! ### Ring -/
theorem lowF_mem {s : Nat} (hs : s < 2 ^ 48) (h : s ≠ 0) : s.testBit (lowF s) = true := by
  have hp := els_pos hs h
  cases he : MM.els s with
  | nil => rw [he] at hp; simp at hp
  | cons k l =>
    have hk : lowF s = k := by unfold lowF; rw [he, nextOf_head]; rfl
    rw [hk]
    exact (mem_els48 hs).1 (by rw [he]; exact List.mem_cons_self)
/-- What the list of sets holds: from where a walk of so many steps leads to a. -/
def Away (N : Nat) (f : Nat → Nat) (a : Nat) (aw : List Nat) : Prop := 0 < aw.length ∧ ∀ t, t < aw.length → ∀ i, (aw.getD t 0).testBit i = true ↔ i < N ∧ Wk f t i a
theorem away_start {N : Nat} {f : Nat → Nat} {a : Nat} (ha : a < N) : Away N f a [2 ^ a] := by
  refine ⟨by simp, fun t ht i => ?_⟩
  obtain rfl : t = 0 := by simpa using ht
  show (2 ^ a).testBit i = true ↔ _
  rw [Nat.testBit_two_pow, decide_eq_true_iff]
  constructor
  · rintro rfl; exact ⟨ha, rfl⟩
  · rintro ⟨_, h⟩; exact h.symm
theorem away_step {N : Nat} {f : Nat → Nat} (hf : Rgt N f) {a : Nat} {aw : List Nat} (h : Away N f a aw) (i : Nat) : (imgF (backF N f) (aw.getD (aw.length - 1) 0)).testBit i = true ↔ i < N ∧ Wk f aw.length i a := by
  have hl := h.1
  obtain ⟨L, hL⟩ : ∃ L, aw.length = L + 1 := ⟨aw.length - 1, by omega⟩
  rw [bt_img, hL]
  have h1 := h.2 L (by omega)
  simp only [Nat.add_sub_cancel]
  have hle := hf.le
  constructor
  · rintro ⟨k, _, hk, hb⟩
    have hk := (h1 k).1 hk
    have hb := (bt_back hf (by omega)).1 hb
    exact ⟨hf.fst hb.1 hb.2, k, by omega, hb.2, hk.2⟩
  · rintro ⟨hi, k, hk, hb, hw⟩
    have hkN := hf.snd (by omega : i < 48) hb
    exact ⟨k, by omega, (h1 k).2 ⟨hkN, hw⟩, (bt_back hf hk).2 ⟨by omega, hb⟩⟩
theorem away_snoc {N : Nat} {f : Nat → Nat} (hf : Rgt N f) {a : Nat} {aw : List Nat} (h : Away N f a aw) : Away N f a (aw ++ [imgF (backF N f) (aw.getD (aw.length - 1) 0)]) := by
  refine ⟨by simp, fun t ht i => ?_⟩
  rw [List.length_append, List.length_singleton] at ht
  rcases Nat.lt_or_ge t aw.length with hlt | hge
  · rw [List.getD_eq_getElem?_getD, List.getElem?_append_left hlt, ← List.getD_eq_getElem?_getD]
    exact h.2 t hlt i
  · obtain rfl : t = aw.length := by omega
    rw [List.getD_eq_getElem?_getD, List.getElem?_append_right (Nat.le_refl _), Nat.sub_self]
    exact away_step hf h i
/-- A round of so many steps, that goes through its own items. -/
structure RingL (N : Nat) (f : Nat → Nat) (a : Nat) (l : List Nat) : Prop where
  pos : 0 < l.length
  head : l[0]? = some a
  item : ∀ x ∈ l, x < N
  next : ∀ i x y, l[i]? = some x → l[i + 1]? = some y → Bt f x y
  back : ∀ x, l[l.length - 1]? = some x → Bt f x a
theorem desc_ring {N : Nat} {f : Nat → Nat} (hf : Rgt N f) {a0 : Nat} {aw : List Nat} (hA : Away N f a0 aw) : ∀ (k a : Nat) (acc : List Nat), k < aw.length → a < N → Wk f (k + 1) a a0 →
    acc[acc.length - 1]? = some a → acc[0]? = some a0 → (∀ x ∈ acc, x < N) → (∀ i x y, acc[i]? = some x → acc[i + 1]? = some y → Bt f x y) → RingL N f a0 (descGo f aw k a acc)
  | 0, a, acc, hk, ha, hw, hlast, hhead, hitem, hnext => by
    have hp : 0 < acc.length := (List.getElem?_eq_some_iff.1 hhead).1
    refine ⟨hp, hhead, hitem, hnext, fun x hx => ?_⟩
    change acc[acc.length - 1]? = some x at hx
    rw [hlast] at hx
    cases hx
    obtain ⟨y, _, hb, rfl⟩ := hw
    exact hb
  | k + 1, a, acc, hk, ha, hw, hlast, hhead, hitem, hnext => by
    have hp : 0 < acc.length := (List.getElem?_eq_some_iff.1 hhead).1
    have hle := hf.le
    obtain ⟨x, hx, hb, hw2⟩ := hw
    have hxN := hf.snd (by omega : a < 48) hb
    have hm := (hA.2 (k + 1) hk x).2 ⟨hxN, hw2⟩
    have hfa : f a < 2 ^ 48 := lt_of_bits fun j hj => hf.snd48 (by omega) hj
    have hs : f a &&& aw.getD (k + 1) 0 < 2 ^ 48 := Nat.lt_of_le_of_lt Nat.and_le_left hfa
    have hne : f a &&& aw.getD (k + 1) 0 ≠ 0 := fun h0 => by
      have := (and_zero_iff _ _).1 h0 x hb
      rw [hm] at this; cases this
    have hlow := lowF_mem hs hne
    rw [Nat.testBit_and, Bool.and_eq_true] at hlow
    obtain ⟨b1, b2⟩ := hlow
    have b2 := (hA.2 (k + 1) hk _).1 b2
    unfold descGo
    refine desc_ring hf hA k _ _ (by omega) b2.1 b2.2 ?_ ?_ ?_ ?_
    · simp
    · rw [List.getElem?_append_left hp]; exact hhead
    · intro y hy
      rcases List.mem_append.1 hy with h | h
      · exact hitem y h
      · simp at h; subst h; exact b2.1
    · intro i x y h1 h2
      rcases Nat.lt_or_ge (i + 1) acc.length with hlt | hge
      · rw [List.getElem?_append_left (by omega)] at h1
        rw [List.getElem?_append_left hlt] at h2
        exact hnext i x y h1 h2
      · have h3 : i + 1 < (acc ++ [lowF (f a &&& aw.getD (k + 1) 0)]).length := (List.getElem?_eq_some_iff.1 h2).1
        simp at h3
        obtain rfl : i = acc.length - 1 := by omega
        rw [List.getElem?_append_left (by omega), hlast] at h1
        rw [show acc.length - 1 + 1 = acc.length by omega, List.getElem?_append_right (Nat.le_refl _), Nat.sub_self] at h2
        cases h1
        simp at h2
        rw [← h2]
        exact b1
theorem ring_go {N : Nat} {f : Nat → Nat} (hf : Rgt N f) {a : Nat} (ha : a < N) : ∀ (m : Nat) (aw : List Nat), Away N f a aw → (∀ t, 0 < t → t < aw.length → ¬ Wk f t a a) →
    (∃ l, ringGo f (backF N f) a m aw = some l ∧ RingL N f a l ∧ (∀ t, 0 < t → t < l.length → ¬ Wk f t a a) ∧ Wk f l.length a a) ∨
      (ringGo f (backF N f) a m aw = none ∧ ∀ t, 0 < t → t < aw.length + m → ¬ Wk f t a a)
  | 0, aw, _, hno => .inr ⟨rfl, hno⟩
  | m + 1, aw, hA, hno => by
    have hstep := away_step hf hA a
    rw [ringGo_succ]
    split
    · rename_i hb
      have hw := (hstep.1 hb).2
      have hlen := descF_len f aw a hA.1
      refine .inl ⟨_, rfl, ?_, ?_, ?_⟩
      · unfold descF
        refine desc_ring hf hA _ a [a] (by have := hA.1; omega) ha ?_ rfl rfl ?_ ?_
        · rwa [show aw.length - 1 + 1 = aw.length by have := hA.1; omega]
        · intro x hx; simp at hx; subst hx; exact ha
        · intro i x y _ h; simp at h
      · rw [hlen]; exact hno
      · rw [hlen]; exact hw
    · rename_i hb
      have hnw : ¬ Wk f aw.length a a := fun h => hb (hstep.2 ⟨ha, h⟩)
      have hlen : (aw ++ [imgF (backF N f) (aw.getD (aw.length - 1) 0)]).length = aw.length + 1 := by simp
      have ih := ring_go hf ha m _ (away_snoc hf hA) (by
        intro t h0 ht
        rw [hlen] at ht
        by_cases he : t = aw.length
        · rw [he]; exact hnw
        · exact hno t h0 (by omega))
      rw [hlen] at ih
      rcases ih with h | ⟨h1, h2⟩
      · exact .inl h
      · exact .inr ⟨h1, fun t h0 ht => h2 t h0 (by omega)⟩
/-- What Ring gives: a shortest round, from its least item. -/
structure RingOK (N : Nat) (f : Nat → Nat) (a : Nat) (l : List Nat) : Prop where
  ring : RingL N f a l
  walk : Wk f l.length a a
  short : ∀ x t, x < N → 0 < t → t < l.length → ¬ Wk f t x x
  least : ∀ x, x < a → ¬ Wk f l.length x x
theorem ring_upto {N : Nat} {f : Nat → Nat} (hf : Rgt N f) : ∀ k, k ≤ N →
    (∃ a l, ringUpto N f (backF N f) k = some l ∧ l.length ≤ N ∧ RingL N f a l ∧ Wk f l.length a a ∧ (∀ x t, x < k → 0 < t → t < l.length → ¬ Wk f t x x) ∧ ∀ x, x < a → ¬ Wk f l.length x x) ∨
      (ringUpto N f (backF N f) k = none ∧ ∀ x t, x < k → 0 < t → t ≤ N → ¬ Wk f t x x)
  | 0, _ => .inr ⟨rfl, fun x t h => by omega⟩
  | k + 1, hk => by
    have ih := ring_upto hf k (by omega)
    have hat := ring_go hf (a := k) (by omega) N [2 ^ k] (away_start (by omega)) (fun t h0 ht => by simp at ht; omega)
    have he : ringAtF N f (backF N f) k = ringGo f (backF N f) k N [2 ^ k] := by unfold ringAtF; rw [Int.toNat_natCast]
    have hu : ringUpto N f (backF N f) (k + 1) = better (ringUpto N f (backF N f) k) (ringAtF N f (backF N f) k) := rfl
    rw [hu, he]
    rcases ih with ⟨a, l, h1, hlN, hr, hw, hs, hl⟩ | ⟨h1, hs⟩
    · rcases hat with ⟨m, g1, gr, gs, gw⟩ | ⟨g1, gs⟩
      · have hmN : m.length ≤ N := by have := (ringGo_pos _ _ _ _ _ _ (by simp) g1).2; simp at this; omega
        rw [h1, g1]
        by_cases hlt : m.length < l.length
        · refine .inl ⟨k, m, by simp [better, hlt], hmN, gr, gw, fun x t hx h0 ht => ?_, fun x hx => ?_⟩
          · by_cases hxk : x = k
            · subst hxk; exact gs t h0 ht
            · exact hs x t (by omega) h0 (by omega)
          · exact hs x m.length hx gr.pos hlt
        · refine .inl ⟨a, l, by simp [better, hlt], hlN, hr, hw, fun x t hx h0 ht => ?_, hl⟩
          by_cases hxk : x = k
          · subst hxk; exact gs t h0 (by omega)
          · exact hs x t (by omega) h0 ht
      · rw [h1, g1]
        refine .inl ⟨a, l, rfl, hlN, hr, hw, fun x t hx h0 ht => ?_, hl⟩
        by_cases hxk : x = k
        · subst hxk
          exact gs t h0 (by simp; omega)
        · exact hs x t (by omega) h0 ht
    · rcases hat with ⟨m, g1, gr, gs, gw⟩ | ⟨g1, gs⟩
      · have hmN : m.length ≤ N := by have := (ringGo_pos _ _ _ _ _ _ (by simp) g1).2; simp at this; omega
        rw [h1, g1]
        refine .inl ⟨k, m, rfl, hmN, gr, gw, fun x t hx h0 ht => ?_, fun x hx => hs x m.length hx gr.pos hmN⟩
        by_cases hxk : x = k
        · subst hxk; exact gs t h0 ht
        · exact hs x t (by omega) h0 (by omega)
      · rw [h1, g1]
        refine .inr ⟨rfl, fun x t hx h0 ht => ?_⟩
        by_cases hxk : x = k
        · subst hxk; exact gs t h0 (by simp; omega)
        · exact hs x t (by omega) h0 ht
theorem ring_cyc {N : Nat} {f : Nat → Nat} (hf : Rgt N f) : (∃ a l, ringF N f = some l ∧ l.length ≤ N ∧ RingOK N f a l) ∨ (ringF N f = none ∧ ¬ Cyc N f) := by
  unfold ringF
  rw [show rightB (N : Int) f = true from hf, if_pos rfl, Int.toNat_natCast]
  rcases ring_upto hf N (Nat.le_refl _) with ⟨a, l, h1, hN, hr, hw, hs, hl⟩ | ⟨h1, hs⟩
  · exact .inl ⟨a, l, h1, hN, hr, hw, hs, hl⟩
  · refine .inr ⟨h1, fun hc => ?_⟩
    obtain ⟨x, m, hx, hm, hw⟩ := cyc_short hf hc
    exact hs x (m + 1) hx (by omega) (by omega) hw
theorem RingOK.cyc {N : Nat} {f : Nat → Nat} {a : Nat} {l : List Nat} (h : RingOK N f a l) : Cyc N f :=
  ⟨a, l.length - 1, h.ring.item a (List.mem_of_getElem? h.ring.head), by rw [show l.length - 1 + 1 = l.length by have := h.ring.pos; omega]; exact h.walk⟩
/-- A way along the ring. -/
theorem RingL.way {N : Nat} {f : Nat → Nat} (hf : Rgt N f) {a : Nat} {l : List Nat} (h : RingL N f a l) {i : Nat} : ∀ {d : Nat} (x y : Nat), l[i]? = some x → l[i + d]? = some y → Wk f d x y
  | 0, x, y, h1, h2 => by rw [Nat.add_zero, h1] at h2; cases h2; rfl
  | d + 1, x, y, h1, h2 => by
    have hlt : i + d < l.length := by have := (List.getElem?_eq_some_iff.1 h2).1; omega
    have hz : l[i + d]? = some l[i + d] := List.getElem?_eq_getElem hlt
    have hy := h.item y (List.mem_of_getElem? h2)
    exact wk_snoc.2 ⟨_, RingL.way hf h x _ h1 hz, by have := hf.le; omega, h.next (i + d) _ y hz h2⟩
theorem RingOK.nodup {N : Nat} {f : Nat → Nat} (hf : Rgt N f) {a : Nat} {l : List Nat} (h : RingOK N f a l) {i j x : Nat} (hij : i < j) (hi : l[i]? = some x) (hj : l[j]? = some x) : False := by
  have hw := h.ring.way hf (i := i) (d := j - i) x x hi (by rwa [show i + (j - i) = j by omega])
  have hjl := (List.getElem?_eq_some_iff.1 hj).1
  exact h.short x (j - i) (h.ring.item x (List.mem_of_getElem? hi)) (by omega) (by omega) hw
theorem RingOK.first {N : Nat} {f : Nat → Nat} (hf : Rgt N f) {a : Nat} {l : List Nat} (h : RingOK N f a l) {i x : Nat} (hi : l[i]? = some x) : a ≤ x := by
  rcases Nat.lt_or_ge x a with hlt | hge
  · exfalso
    have hil := (List.getElem?_eq_some_iff.1 hi).1
    have hlast : l[l.length - 1]? = some l[l.length - 1] := List.getElem?_eq_getElem (by omega)
    have hw1 := h.ring.way hf (i := i) (d := l.length - 1 - i) x _ hi (by rwa [show i + (l.length - 1 - i) = l.length - 1 by omega])
    have haN := h.ring.item a (List.mem_of_getElem? h.ring.head)
    have hw2 := wk_snoc.2 ⟨_, hw1, (by have := hf.le; omega : a < 48), h.ring.back _ hlast⟩
    have hw3 := h.ring.way hf (i := 0) (d := i) a x h.ring.head (by rwa [Nat.zero_add])
    have := wk_add hw2 hw3
    rw [show l.length - 1 - i + 1 + i = l.length by omega] at this
    exact h.least x hlt this
  · exact hge
theorem RingOK.step {N : Nat} {f : Nat → Nat} {a : Nat} {l : List Nat} (h : RingOK N f a l) {i x y : Nat} (hi : l[i]? = some x) (hy : l[(i + 1) % l.length]? = some y) : Bt f x y := by
  have hil := (List.getElem?_eq_some_iff.1 hi).1
  by_cases he : i + 1 = l.length
  · rw [he, Nat.mod_self, h.ring.head] at hy
    cases hy
    exact h.ring.back x (by rwa [← he])
  · rw [Nat.mod_eq_of_lt (by omega)] at hy
    exact h.ring.next i x y hi hy
/-- Walks of so many steps, as a relation. -/
def powF (f : Nat → Nat) : Nat → (Nat → Nat)
  | 0 => f
  | k + 1 => thenF (powF f k) f
theorem rgt_pow {N : Nat} {f : Nat → Nat} (hf : Rgt N f) : ∀ k, Rgt N (powF f k)
  | 0 => hf
  | k + 1 => rgt_then (rgt_pow hf k) hf
theorem pow_64 {f : Nat → Nat} (h : R64 f) : ∀ k, R64 (powF f k)
  | 0 => h
  | _ + 1 => thenF_64 _ h
theorem pow_wk {N : Nat} {f : Nat → Nat} (hf : Rgt N f) : ∀ (k : Nat) {i j : Nat}, i < 48 → (Bt (powF f k) i j ↔ Wk f (k + 1) i j)
  | 0, i, j, hi => ⟨fun h => wk_one (hf.snd48 hi h) h, fun ⟨x, _, hb, e⟩ => by cases e; exact hb⟩
  | k + 1, i, j, hi => by
    show Bt (thenF (powF f k) f) i j ↔ _
    rw [bt_then (rgt_pow hf k) hi, wk_snoc]
    constructor
    · rintro ⟨m, hm, h1, h2⟩
      exact ⟨m, (pow_wk hf k hi).1 h1, hf.snd48 hm h2, h2⟩
    · rintro ⟨m, h1, _, h2⟩
      have hm := (wk_item hf hi h1).2
      exact ⟨m, by have := hf.le; omega, (pow_wk hf k hi).2 h1, h2⟩
theorem RingOK.irr {N : Nat} {f : Nat → Nat} (hf : Rgt N f) {a : Nat} {l : List Nat} (h : RingOK N f a l) (k : Nat) (hk : k < l.length) : irrK (powF f k) N = decide (k + 1 < l.length) := by
  have hle := hf.le
  rw [Bool.eq_iff_iff, irrK_iff, decide_eq_true_iff]
  constructor
  · intro hi
    rcases Nat.lt_or_ge (k + 1) l.length with hlt | hge
    · exact hlt
    · exfalso
      have ha := h.ring.item a (List.mem_of_getElem? h.ring.head)
      refine hi a ha ((pow_wk hf k (by omega)).2 ?_)
      rw [show k + 1 = l.length by omega]
      exact h.walk
  · intro hlt i hi hb
    exact h.short i (k + 1) hi (by omega) hlt ((pow_wk hf k (by omega)).1 hb)
end Go.Proofs.YtpmlomhlbmgilaaDoor
end

section
/- The orders that respect a relation: what they are. -/
namespace Go.Proofs.YtpmlomhlbmgilaaDoor
open Go.RowKit Go.Shelf

/-- t goes through s, each ahead of what it precedes. -/
def Ext (B : Nat → Nat) : Nat → List Nat → Prop
  | s, [] => s = 0
  | s, a :: t => a ∈ readyL B s ∧ Ext B (clr s a) t
theorem mem_readyL {B : Nat → Nat} {s a : Nat} (hs : s < 2 ^ 48) : a ∈ readyL B s ↔ s.testBit a = true ∧ B a &&& s = 0 := by
  unfold readyL readyT
  rw [List.mem_filter, mem_els48 hs, decide_eq_true_iff]
theorem mem_compl {B : Nat → Nat} : ∀ {d s : Nat} {xs l : List Nat}, s < 2 ^ 48 → (MM.els s).length = d → (l ∈ compl B d s xs ↔ ∃ t, l = xs ++ t ∧ Ext B s t)
  | 0, s, xs, l, hs, hd => by
    obtain rfl := els_nil hs hd
    simp only [compl, List.mem_singleton]
    constructor
    · rintro rfl; exact ⟨[], by simp, rfl⟩
    · rintro ⟨t, rfl, h⟩
      cases t with
      | nil => simp
      | cons a t => simp [Ext, readyL, readyT, MM.els_zero] at h
  | d + 1, s, xs, l, hs, hd => by
    simp only [compl, List.mem_flatMap]
    constructor
    · rintro ⟨a, ha, hl⟩
      have hm := readyL_mem ha
      have := els_clr_len s a hs hm
      obtain ⟨t, rfl, ht⟩ := (mem_compl (clr_lt s a hs) (by omega)).1 hl
      exact ⟨a :: t, by simp, ha, ht⟩
    · rintro ⟨t, rfl, ht⟩
      cases t with
      | nil => rw [show s = 0 from ht] at hd; simp [MM.els_zero] at hd
      | cons a t =>
        have hm := readyL_mem ht.1
        have := els_clr_len s a hs hm
        exact ⟨a, ht.1, (mem_compl (clr_lt s a hs) (by omega)).2 ⟨t, by simp, ht.2⟩⟩

theorem ext_iff {B : Nat → Nat} : ∀ {t : List Nat} {s : Nat}, s < 2 ^ 48 → (Ext B s t ↔ t.Nodup ∧ (∀ x, x ∈ t ↔ s.testBit x = true) ∧ ∀ (k x : Nat), t[k]? = some x → ∀ i, s.testBit i = true → (B x).testBit i = true → i ∈ t.take k)
  | [], s, hs => by
    constructor
    · rintro rfl; exact ⟨List.nodup_nil, fun x => by simp, fun k x h => by simp at h⟩
    · rintro ⟨_, h, _⟩
      refine Nat.eq_of_testBit_eq fun j => ?_
      have := h j
      simp at this
      rw [this, Nat.zero_testBit]
  | a :: t, s, hs => by
    show (a ∈ readyL B s ∧ Ext B (clr s a) t) ↔ _
    rw [mem_readyL hs]
    by_cases ha : s.testBit a = true
    · have ha48 := bit_lt hs ha
      rw [ext_iff (clr_lt s a hs)]
      have hcb := clr_bit s a hs ha48
      constructor
      · rintro ⟨⟨-, hz⟩, hnd, hmem, hpred⟩
        refine ⟨List.nodup_cons.2 ⟨fun h => ?_, hnd⟩, fun x => ?_, fun k x hx i hi hb => ?_⟩
        · have := (hmem a).1 h
          rw [hcb] at this
          simp at this
        · rw [List.mem_cons, hmem x, hcb, Bool.and_eq_true, decide_eq_true_iff]
          constructor
          · rintro (rfl | h)
            · exact ha
            · exact h.1
          · intro h
            by_cases he : x = a
            · exact .inl he
            · exact .inr ⟨h, he⟩
        · cases k with
          | zero =>
            simp at hx; subst hx
            have := (and_zero_iff _ _).1 hz i hb
            rw [hi] at this; cases this
          | succ k =>
            simp at hx
            rw [List.take_succ_cons, List.mem_cons]
            by_cases he : i = a
            · exact .inl he
            · exact .inr (hpred k x hx i (by rw [hcb, hi]; simpa using he) hb)
      · rintro ⟨hnd, hmem, hpred⟩
        obtain ⟨hna, hnd'⟩ := List.nodup_cons.1 hnd
        refine ⟨⟨ha, (and_zero_iff _ _).2 fun j hj => ?_⟩, hnd', fun x => ?_, fun k x hx i hi hb => ?_⟩
        · cases hs2 : s.testBit j with
          | false => rfl
          | true => have := hpred 0 a rfl j hs2 hj; simp at this
        · rw [hcb, Bool.and_eq_true, decide_eq_true_iff, ← hmem x, List.mem_cons]
          constructor
          · intro h; exact ⟨.inr h, fun e => hna (e ▸ h)⟩
          · rintro ⟨h | h, hne⟩
            · exact absurd h hne
            · exact h
        · rw [hcb, Bool.and_eq_true, decide_eq_true_iff] at hi
          have := hpred (k + 1) x (by simpa using hx) i hi.1 hb
          rw [List.take_succ_cons, List.mem_cons] at this
          exact this.resolve_left hi.2
    · constructor
      · rintro ⟨⟨h, _⟩, _⟩; exact absurd h ha
      · rintro ⟨_, hmem, _⟩; exact absurd ((hmem a).1 (by simp)) ha

theorem els_all_len {N : Nat} (h : N ≤ 48) : (MM.els (allOf (N : Int)).toNat).length = N := by rw [els_all N h, List.length_range]
theorem all_lt {N : Nat} (h : N ≤ 48) : (allOf (N : Int)).toNat < 2 ^ 48 := (allOf_lt48 (N : Int) (by omega) (by omega)).1
/-- Orders' list is all the orders that respect the relation. -/
theorem mem_ordL {N : Nat} {f : Nat → Nat} (hf : Rgt N f) {l : List Nat} : l ∈ ordL N f ↔ TopOK N f l := by
  have hN := hf.le
  have key : l ∈ compl (invF N f) N (allOf (N : Int)).toNat [] ↔ TopOK N f l := by
    rw [mem_compl (all_lt hN) (els_all_len hN)]
    constructor
    · rintro ⟨t, rfl, ht⟩
      obtain ⟨h1, h2, h3⟩ := (ext_iff (all_lt hN)).1 ht
      refine ⟨h1, fun x => by rw [h2 x, allOf_bits N x hN, decide_eq_true_iff], fun k x hx i hi hb => h3 k x hx i (by rw [allOf_bits N i hN, decide_eq_true_iff]; exact hf.fst hi hb) ?_⟩
      have hxN : x < N := by
        have := (h2 x).1 (List.mem_of_getElem? hx)
        rw [allOf_bits N x hN, decide_eq_true_iff] at this
        exact this
      exact (bt_back hf (by omega)).2 ⟨hi, hb⟩
    · intro h
      refine ⟨l, by simp, (ext_iff (all_lt hN)).2 ⟨h.nodup, fun x => by rw [h.mem x, allOf_bits N x hN, decide_eq_true_iff], fun k x hx i _ hb => ?_⟩⟩
      have hxN := (h.mem x).1 (List.mem_of_getElem? hx)
      have := (bt_back hf (show x < 48 by omega)).1 hb
      exact h.pred k x hx i this.1 this.2
  unfold ordL
  split
  · exact key
  · rename_i hn
    constructor
    · intro h; cases h
    · intro h
      rcases top_cyc hf with ⟨l', h1, _⟩ | ⟨_, hc⟩
      · rw [h1] at hn; exact absurd rfl hn
      · exact absurd hc (h.acyclic hf)

/-- Is a list ahead of another of its length? -/
def aheadB : List Nat → List Nat → Bool
  | a :: l, b :: m => if a = b then aheadB l m else decide (a < b)
  | _, _ => false
theorem aheadB_irr : ∀ l : List Nat, aheadB l l = false
  | [] => rfl
  | a :: l => by simp [aheadB, aheadB_irr l]
theorem aheadB_front (xs l m : List Nat) : aheadB (xs ++ l) (xs ++ m) = aheadB l m := by
  induction xs with
  | nil => rfl
  | cons x xs ih => simp [aheadB, ih]
theorem readyL_sorted (B : Nat → Nat) (s : Nat) : (readyL B s).Pairwise (· < ·) := (List.Pairwise.filter _ (List.Pairwise.filter _ List.pairwise_lt_range))
theorem compl_sorted (B : Nat → Nat) : ∀ (d s : Nat) (xs : List Nat), s < 2 ^ 48 → (MM.els s).length = d → (compl B d s xs).Pairwise (fun a b => aheadB a b = true)
  | 0, s, xs, _, _ => by simp [compl]
  | d + 1, s, xs, hs, hd => by
    simp only [compl]
    rw [List.pairwise_flatMap]
    refine ⟨fun a ha => ?_, ?_⟩
    · have := els_clr_len s a hs (readyL_mem ha)
      exact compl_sorted B d _ _ (clr_lt s a hs) (by omega)
    · refine (readyL_sorted B s).imp_of_mem fun {a b} ha hb hlt x hx y hy => ?_
      have h1 := els_clr_len s a hs (readyL_mem ha)
      have h2 := els_clr_len s b hs (readyL_mem hb)
      obtain ⟨t, rfl, _⟩ := (mem_compl (clr_lt s a hs) (by omega)).1 hx
      obtain ⟨u, rfl, _⟩ := (mem_compl (clr_lt s b hs) (by omega)).1 hy
      rw [List.append_assoc, List.append_assoc, aheadB_front]
      simp [aheadB, hlt, show a ≠ b by omega]
theorem ordL_sorted {N : Nat} {f : Nat → Nat} (hf : Rgt N f) : (ordL N f).Pairwise (fun a b => aheadB a b = true) := by
  unfold ordL
  split
  · exact compl_sorted _ _ _ _ (all_lt hf.le) (els_all_len hf.le)
  · exact List.Pairwise.nil
theorem ordL_nodup {N : Nat} {f : Nat → Nat} (hf : Rgt N f) : (ordL N f).Nodup := (ordL_sorted hf).imp fun {a b} h e => by
  subst e
  rw [aheadB_irr] at h
  cases h

def fact : Nat → Nat
  | 0 => 1
  | n + 1 => (n + 1) * fact n
theorem flat_le {α β : Type} (g : α → List β) (m : Nat) : ∀ l : List α, (∀ a ∈ l, (g a).length ≤ m) → (l.flatMap g).length ≤ l.length * m
  | [], _ => by simp
  | a :: l, h => by
    have h1 := h a (by simp)
    have h2 := flat_le g m l fun x hx => h x (by simp [hx])
    rw [List.flatMap_cons, List.length_append, List.length_cons, Nat.add_mul, Nat.one_mul]
    omega
theorem compl_le (B : Nat → Nat) : ∀ (d s : Nat) (xs : List Nat), s < 2 ^ 48 → (MM.els s).length = d → (compl B d s xs).length ≤ fact d
  | 0, s, xs, _, _ => by simp [compl, fact]
  | d + 1, s, xs, hs, hd => by
    simp only [compl, fact]
    refine Nat.le_trans (flat_le _ (fact d) _ fun a ha => ?_) (Nat.mul_le_mul_right _ (by rw [← hd]; exact List.length_filter_le _ _))
    have := els_clr_len s a hs (readyL_mem ha)
    exact compl_le B d _ _ (clr_lt s a hs) (by omega)
theorem ordL_le {N : Nat} {f : Nat → Nat} (hf : Rgt N f) (h6 : N ≤ 6) : (ordL N f).length ≤ 720 := by
  unfold ordL
  split
  · refine Nat.le_trans (compl_le _ _ _ _ (all_lt hf.le) (els_all_len hf.le)) ?_
    have : ∀ n, n ≤ 6 → fact n ≤ 720 := by decide
    exact this N h6
  · exact Nat.zero_le _
theorem ordL_pos {N : Nat} {f : Nat → Nat} (hf : Rgt N f) : ordL N f ≠ [] ↔ ¬ Cyc N f := by
  rcases top_cyc hf with ⟨l, h1, h2⟩ | ⟨h1, hc⟩
  · refine ⟨fun _ => h2.acyclic hf, fun _ e => ?_⟩
    have := (mem_ordL hf).2 h2
    rw [e] at this
    cases this
  · refine ⟨fun h => absurd ?_ h, fun h => absurd hc h⟩
    unfold ordL
    rw [h1]
    rfl

/-- The first of them is Top's. -/
theorem head_compl {N : Nat} {f : Nat → Nat} : ∀ (d s : Nat) (xs : List Nat) (k : Nat) (l : List Nat), s < 2 ^ 48 → (MM.els s).length = d → topGo (backF N f) k s xs = some l → (compl (backF N f) d s xs).head? = some l
  | 0, s, xs, k, l, hs, hd, h => by
    obtain rfl := els_nil hs hd
    rw [topGo_zero] at h
    simpa [compl] using h
  | d + 1, s, xs, k, l, hs, hd, h => by
    have h0 : s ≠ 0 := by rintro rfl; simp [MM.els_zero] at hd
    cases k with
    | zero => simp [topGo, h0] at h
    | succ k =>
      cases hsrc : srcOf (backF N f) s (MM.els s) with
      | none => rw [topGo_none _ _ _ _ h0 hsrc] at h; cases h
      | some a =>
        rw [topGo_some _ _ _ _ h0 a hsrc] at h
        have hm := srcOf_mem hsrc
        have hl := els_clr_len s a hs hm
        have ih := head_compl d (clr s a) (xs ++ [a]) k l (clr_lt s a hs) (by omega) h
        have hr : ∃ t, readyL (backF N f) s = a :: t := by
          have : (readyL (backF N f) s).head? = some a := by
            unfold readyL readyT
            rw [List.head?_filter]
            exact hsrc
          cases hrl : readyL (backF N f) s with
          | nil => rw [hrl] at this; cases this
          | cons b t => rw [hrl] at this; simp at this; subst this; exact ⟨t, rfl⟩
        obtain ⟨t, ht⟩ := hr
        simp only [compl]
        rw [ht, List.flatMap_cons, List.head?_append, ih]
        rfl
theorem ordL_head {N : Nat} {f : Nat → Nat} (hf : Rgt N f) {l : List Nat} (h : topF N f = some l) : (ordL N f).head? = some l := by
  unfold ordL
  rw [h]
  unfold topF at h
  rw [show rightB (N : Int) f = true from hf, if_pos rfl, Int.toNat_natCast] at h
  exact head_compl N _ [] 48 l (all_lt hf.le) (els_all_len hf.le) h

theorem sub_le {α : Type} : ∀ {l m : List α}, l.Nodup → (∀ x ∈ l, x ∈ m) → l.length ≤ m.length
  | [], m, _, _ => Nat.zero_le _
  | a :: l, m, hnd, hsub => by
    obtain ⟨s, t, rfl⟩ := List.append_of_mem (hsub a (by simp))
    have h := sub_le (l := l) (m := s ++ t) (List.nodup_cons.1 hnd).2 fun x hx => by
      have := hsub x (by simp [hx])
      rw [List.mem_append, List.mem_cons] at this
      rw [List.mem_append]
      rcases this with h | rfl | h
      · exact .inl h
      · exact absurd hx (List.nodup_cons.1 hnd).1
      · exact .inr h
    simp at h ⊢
    omega
theorem same_len {α : Type} {l m : List α} (h1 : l.Nodup) (h2 : m.Nodup) (h : ∀ x, x ∈ l ↔ x ∈ m) : l.length = m.length :=
  Nat.le_antisymm (sub_le h1 fun x hx => (h x).1 hx) (sub_le h2 fun x hx => (h x).2 hx)
end Go.Proofs.YtpmlomhlbmgilaaDoor
end

section
/- The document's answers for layer 1, as the reference of layer 2 uses them: Has, With; and rows that are filled bit by bit. -/
namespace Go.Proofs.YtpmlomhlbmgilaaDoor
open Go.RowKit Go.Shelf

attribute [local go_sem] Oper.semAt_some

set_option maxRecDepth 100000 in
set_option maxHeartbeats 400000 in
theorem has_any (x i : Int) (h0 : 0 ≤ x) (_h1 : x < 18446744073709551616) (i0 : 0 ≤ i) (i1 : i < 64) (w : World) :
    Calls Tryd.prog 67 #[.int .u64 x, .int .i64 i] w fun e w' => e = .returned (.bool (x.toNat.testBit i.toNat)) ∧ w = w' := by
  have t0 : decide (0 ≤ i) = true := by simpa using i0
  have t1 : decide (i < 64) = true := by simpa using i1
  have hb := shr_bit x i h0
  have hd : 0 ≤ x / 2 ^ i.toNat := Int.ediv_nonneg h0 (Int.le_of_lt (Int.pow_pos (by decide)))
  have hle : x / 2 ^ i.toNat ≤ x := Int.ediv_le_self _ h0
  cases h : x.toNat.testBit i.toNat
  · rw [h] at hb
    have hb' : x / 2 ^ i.toNat % 2 = 0 := hb
    clear hb h
    go_enter Tryd.func67, Tryd.ntmps67
    go_wp2
    go_ret
    exact ⟨rfl, rfl⟩
  · rw [h] at hb
    have hb' : x / 2 ^ i.toNat % 2 = 1 := hb
    clear hb h
    go_enter Tryd.func67, Tryd.ntmps67
    go_wp2
    go_ret
    exact ⟨rfl, rfl⟩

/-- A set and one number more. -/
def withOf (x i : Int) : Int := ((x.toNat ||| 2 ^ i.toNat : Nat) : Int)
theorem withOf_bd (x i : Int) (h0 : 0 ≤ x) (h1 : x < 18446744073709551616) (i0 : 0 ≤ i) (i1 : i < 64) : 0 ≤ withOf x i ∧ withOf x i < 18446744073709551616 := by
  have h : x.toNat ||| 2 ^ i.toNat < 2 ^ 64 := Nat.or_lt_two_pow (by omega) (Nat.pow_lt_pow_right (by omega) (by omega))
  unfold withOf
  omega
theorem withOf_has (x i : Int) (h0 : 0 ≤ x) (h : x.toNat.testBit i.toNat = true) : withOf x i = x := by
  have e : x.toNat ||| 2 ^ i.toNat = x.toNat := by
    apply Nat.eq_of_testBit_eq
    intro j
    rw [Nat.testBit_or, Nat.testBit_two_pow]
    by_cases hj : i.toNat = j
    · subst hj; simp [h]
    · simp [hj]
  unfold withOf
  rw [e]
  omega
theorem or_pow_add (x i : Nat) (h : x.testBit i = false) : x ||| 2 ^ i = x + 2 ^ i := by
  have hp := Nat.two_pow_pos i
  have hd := Nat.div_add_mod x (2 ^ i)
  have hlt := Nat.mod_lt x hp
  rw [Nat.testBit_eq_decide_div_mod_eq] at h
  simp only [decide_eq_false_iff_not] at h
  have e2 : x = 2 ^ i * (2 * (x / 2 ^ i / 2)) + x % 2 ^ i := by
    have : 2 * (x / 2 ^ i / 2) = x / 2 ^ i := by omega
    rw [this]; omega
  have e3 : x + 2 ^ i = 2 ^ i * (2 * (x / 2 ^ i / 2) + 1) + x % 2 ^ i := by rw [Nat.mul_add]; omega
  apply Nat.eq_of_testBit_eq
  intro j
  rw [e3, Nat.testBit_or, Nat.testBit_two_pow, Nat.testBit_two_pow_mul_add _ hlt]
  have hx : x.testBit j = if j < i then (x % 2 ^ i).testBit j else (2 * (x / 2 ^ i / 2)).testBit (j - i) := by
    have := Nat.testBit_two_pow_mul_add (2 * (x / 2 ^ i / 2)) hlt j
    rwa [← e2] at this
  rw [hx]
  by_cases hj : j < i
  · have : i ≠ j := by omega
    simp [hj, this]
  · by_cases hji : j = i
    · subst hji; simp [Nat.testBit_zero]
    · have : i ≠ j := fun e => hji e.symm
      obtain ⟨d, rfl⟩ : ∃ d, j = i + (d + 1) := ⟨j - i - 1, by omega⟩
      rw [if_neg hj, if_neg hj, show i + (d + 1) - i = d + 1 by omega, Nat.testBit_succ, Nat.testBit_succ]
      simp only [this, decide_false, Bool.or_false]
      congr 1
      omega
theorem withOf_not (x i : Int) (h0 : 0 ≤ x) (h1 : x < 18446744073709551616) (i0 : 0 ≤ i) (i1 : i < 64) (h : x.toNat.testBit i.toNat = false) : IntKind.u64.wrap (x + IntKind.u64.wrap (2 ^ i.toNat)) = withOf x i := by
  have hb := withOf_bd x i h0 h1 i0 i1
  rw [shl1_u64 i i0 i1]
  unfold withOf at *
  rw [or_pow_add x.toNat i.toNat h] at *
  generalize 2 ^ i.toNat = p at *
  rw [IntKind.wrap_u64]
  omega

set_option maxRecDepth 100000 in
set_option maxHeartbeats 400000 in
theorem with_any (x i : Int) (h0 : 0 ≤ x) (h1 : x < 18446744073709551616) (i0 : 0 ≤ i) (i1 : i < 64) (w : World) :
    Calls Tryd.prog 69 #[.int .u64 x, .int .i64 i] w fun e w' => e = .returned (.int .u64 (withOf x i)) ∧ w = w' := by
  have t0 : decide (i < 0) = false := by simp; omega
  have t1 : decide (63 < i) = false := by simp; omega
  have CH := has_any x i h0 h1 i0 i1 w
  cases h : x.toNat.testBit i.toNat
  · rw [h] at CH
    replace CH := Lib.hid CH
    have hw := Lib.hid (withOf_not x i h0 h1 i0 i1 h)
    clear h
    go_enter Tryd.func69, Tryd.ntmps69
    go_wp2_with fail
    refine CH.out.mono ?_
    rintro e w1 ⟨rfl, rfl⟩
    go_wp2
    go_ret
    rw [← hw.out]
    exact ⟨rfl, rfl⟩
  · rw [h] at CH
    replace CH := Lib.hid CH
    have hw := Lib.hid (withOf_has x i h0 h)
    clear h
    go_enter Tryd.func69, Tryd.ntmps69
    go_wp2_with fail
    refine CH.out.mono ?_
    rintro e w1 ⟨rfl, rfl⟩
    go_wp2
    go_ret
    rw [hw.out]
    exact ⟨rfl, rfl⟩

theorem refHas (x i : Nat) (hx : x < 2 ^ 64) (hi : i < 64) (w : World) : Calls Tryd.prog 67 #[.int .u64 (x : Int), .int .i64 (i : Int)] w fun e w' => e = .returned (.bool (x.testBit i)) ∧ w = w' := by
  have := has_any (x : Int) (i : Int) (by omega) (by omega) (by omega) (by omega) w
  rwa [Int.toNat_natCast, Int.toNat_natCast] at this
theorem refWith (x i : Nat) (hx : x < 2 ^ 64) (hi : i < 64) (w : World) : Calls Tryd.prog 69 #[.int .u64 (x : Int), .int .i64 (i : Int)] w fun e w' => e = .returned (.int .u64 ((x ||| 2 ^ i : Nat) : Int)) ∧ w = w' := by
  have := with_any (x : Int) (i : Int) (by omega) (by omega) (by omega) (by omega) w
  unfold withOf at this
  rwa [Int.toNat_natCast, Int.toNat_natCast] at this

/-- The bits below m that q says. -/
def rowB (q : Nat → Bool) (m : Nat) : Nat := (List.range m).foldl (fun s j => if q j then s ||| 2 ^ j else s) 0
theorem rowB_succ (q : Nat → Bool) (m : Nat) : rowB q (m + 1) = if q m then rowB q m ||| 2 ^ m else rowB q m := by
  unfold rowB; rw [List.range_succ, List.foldl_append]; rfl
theorem rowB_bit (q : Nat → Bool) (m j : Nat) : (rowB q m).testBit j = (decide (j < m) && q j) := by
  induction m with
  | zero => simp [rowB]
  | succ m ih =>
    rw [rowB_succ]
    split
    · rename_i h
      rw [Nat.testBit_or, ih, Nat.testBit_two_pow]
      by_cases hj : j = m
      · subst hj; simp [h]
      · have h1 : decide (m = j) = false := by simp; omega
        have h2 : decide (j < m + 1) = decide (j < m) := by simp; omega
        rw [h1, h2, Bool.or_false]
    · rename_i h
      rw [ih]
      by_cases hj : j = m
      · subst hj; simp [h]
      · have h2 : decide (j < m + 1) = decide (j < m) := by simp; omega
        rw [h2]
theorem rowB_lt (q : Nat → Bool) {m : Nat} : rowB q m < 2 ^ m := lt_of_bits fun j hj => by
  rw [rowB_bit, Bool.and_eq_true, decide_eq_true_iff] at hj; exact hj.1
theorem rowB_64 (q : Nat → Bool) {m : Nat} (h : m ≤ 48) : rowB q m < 2 ^ 64 := Nat.lt_of_lt_of_le (rowB_lt q) (Nat.pow_le_pow_right (by omega) (by omega))
/-- The rows below a, and row a as far as b. -/
def fillF (p : Nat → Nat → Bool) (N a b : Nat) : Nat → Nat := fun i => if i < a then rowB (p i) N else if i = a then rowB (p i) b else 0
theorem fill_64 (p : Nat → Nat → Bool) {N a b : Nat} (h : N ≤ 48) (hb : b ≤ 48) : R64 (fillF p N a b) := by
  intro i
  unfold fillF
  split
  · exact rowB_64 _ h
  · split
    · exact rowB_64 _ hb
    · exact Nat.two_pow_pos 64
theorem fill_start (p : Nat → Nat → Bool) (N : Nat) : fillF p N 0 0 = zf := by
  funext i
  unfold fillF zf
  rw [if_neg (by omega)]
  split
  · rfl
  · rfl
theorem fill_next (p : Nat → Nat → Bool) (N a : Nat) : fillF p N a N = fillF p N (a + 1) 0 := by
  funext i
  unfold fillF
  by_cases h1 : i < a
  · rw [if_pos h1, if_pos (by omega)]
  · rw [if_neg h1]
    by_cases h2 : i = a
    · subst h2; rw [if_pos rfl, if_pos (by omega)]
    · rw [if_neg h2, if_neg (by omega)]
      split
      · rfl
      · rfl
theorem fill_yes (p : Nat → Nat → Bool) (N a b : Nat) (h : p a b = true) : upd (fillF p N a b) a (fillF p N a b a ||| 2 ^ b) = fillF p N a (b + 1) := by
  funext i
  unfold upd fillF
  by_cases h2 : i = a
  · subst h2
    rw [if_pos rfl, if_neg (by omega), if_pos rfl, if_neg (by omega), if_pos rfl, rowB_succ, if_pos h]
  · rw [if_neg h2, if_neg h2, if_neg h2]
theorem fill_no (p : Nat → Nat → Bool) (N a b : Nat) (h : p a b = false) : fillF p N a b = fillF p N a (b + 1) := by
  funext i
  unfold fillF
  by_cases h2 : i = a
  · subst h2
    rw [if_neg (by omega), if_pos rfl, if_neg (by omega), if_pos rfl, rowB_succ, h]; rfl
  · rw [if_neg h2, if_neg h2]
theorem bt_fill (p : Nat → Nat → Bool) (N i j : Nat) : Bt (fillF p N N 0) i j ↔ i < N ∧ j < N ∧ p i j = true := by
  unfold Bt fillF
  by_cases h1 : i < N
  · rw [if_pos h1, rowB_bit, Bool.and_eq_true, decide_eq_true_iff]
    exact ⟨fun h => ⟨h1, h.1, h.2⟩, fun h => ⟨h.2.1, h.2.2⟩⟩
  · rw [if_neg h1]
    constructor
    · intro h
      exfalso
      split at h
      · rw [rowB_bit] at h; simp at h
      · simp at h
    · rintro ⟨h, _⟩; exact absurd h h1

set_option maxRecDepth 100000 in
set_option maxHeartbeats 2000000 in
/-- seisinref02.with -/
theorem refwith_any (n : Int) (f : Nat → Nat) (hf : R64 f) (a b : Nat) (ha : a < 48) (hb : b < 64) (w : World) :
    Calls Tryd.prog 72 #[.agg (relC n f), .int .i64 (a : Int), .int .i64 (b : Int)] w fun e w' => e = .returned (.agg (relC n (upd f a (f a ||| 2 ^ b)))) ∧ Below w.heap.size w w' := by
  have CW := Lib.hid (fun w => show Calls Tryd.prog 69 #[.int .u64 (f a : Int), .int .i64 (b : Int)] w fun e w' => e = .returned (.int .u64 ((f a ||| 2 ^ b : Nat) : Int)) ∧ Below w.heap.size w w' from
    (refWith (f a) b (hf a) hb w).mono fun e w' ⟨he, hw⟩ => ⟨he, hw ▸ Below.refl _ _⟩)
  have hA := (RelAt.new w n f).alloc (.cells (relC 0 zf) 26)
  have hZ := RelAt.new (w.alloc (.cells (relC n f) 26)) 0 zf
  rw [World.size_alloc] at hZ
  have hB := thru (below_new w (.cells (relC n f) 26)) (below_new _ (.cells (relC 0 zf) 26))
  have c1 := hA.row a ha
  have z1 : (a : Int) < 48 := by omega
  go_enter Tryd.func72, Tryd.ntmps72
  go_wp2_with fail
  refine (CW.out _).mono ?_
  rintro e w1 ⟨rfl, h⟩
  replace hA := hA.on h
  replace hZ := hZ.on h
  replace hB := thru hB h
  clear h c1
  have c1 := hA.row a ha
  have f1 := hA.free (1 + a)
  have hA2 := hA.set a (f a ||| 2 ^ b) ha
  have hZ2 := hZ.other ⟨w.heap.size, 1 + a, none⟩ (.int .u64 ((f a ||| 2 ^ b : Nat) : Int)) (by simp)
  have hB2 : Below w.heap.size w (w1.setCell ⟨w.heap.size, 1 + a, none⟩ (.int .u64 ((f a ||| 2 ^ b : Nat) : Int))) := hB.setCell (Nat.le_refl _) _
  have l1 := hA2.ld
  obtain ⟨W3, hs3, hR3, hO3⟩ := hZ2.put n (upd f a (f a ||| 2 ^ b))
  have hB3 := below_only hB2 hO3 (by omega)
  clear hA hZ hB hA2 hZ2 hB2 hO3
  generalize hx : f a ||| 2 ^ b = x at *
  generalize hg : upd f a x = g at *
  replace hx := Lib.hid hx
  replace hg := Lib.hid hg
  go_wp2
  refine bodyPost_ret (results_rel rfl _ _ _ _ _ rfl hR3) rfl ?_
  exact ⟨by rw [hx.out, hg.out], hB3⟩
end Go.Proofs.YtpmlomhlbmgilaaDoor
end
