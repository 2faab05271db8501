/- Cycle, OrdKeeps, RangeSome in one text, for the claim. -/
import Derived.Test.YtpmlomhlbmgilaaDoorOtM1
import Derived.Test.YtpmlomhlbmgilaaDoorRelAid2
import Derived.Test.YtpmlomhlbmgilaaDoorRangeAll

section
/- Walks, cycles, topological orders: what Top, Ring and Plus have to do with each other. -/
namespace Go.Proofs.YtpmlomhlbmgilaaDoor
open Go.RowKit Go.Shelf

/-- A walk of so many steps. -/
def Wk (f : Nat → Nat) : Nat → Nat → Nat → Prop
  | 0, i, j => i = j
  | m + 1, i, j => ∃ k, k < 48 ∧ Bt f i k ∧ Wk f m k j
theorem wk_one {f : Nat → Nat} {i j : Nat} (hj : j < 48) (h : Bt f i j) : Wk f 1 i j := ⟨j, hj, h, rfl⟩
theorem wk_add {f : Nat → Nat} {n k j : Nat} : ∀ {m i : Nat}, Wk f m i k → Wk f n k j → Wk f (m + n) i j
  | 0, i, h, h2 => by cases h; rwa [Nat.zero_add]
  | m + 1, i, ⟨x, hx, hb, h⟩, h2 => by
    rw [show m + 1 + n = (m + n) + 1 by omega]
    exact ⟨x, hx, hb, wk_add h h2⟩
theorem wk_snoc {f : Nat → Nat} {m i j : Nat} : Wk f (m + 1) i j ↔ ∃ k, Wk f m i k ∧ j < 48 ∧ Bt f k j := by
  constructor
  · intro h
    induction m generalizing i with
    | zero => obtain ⟨k, hk, hb, rfl⟩ := h; exact ⟨i, rfl, hk, hb⟩
    | succ m ih =>
      obtain ⟨k, hk, hb, h⟩ := h
      obtain ⟨x, h1, h2, h3⟩ := ih h
      exact ⟨x, ⟨k, hk, hb, h1⟩, h2, h3⟩
  · rintro ⟨k, h, hj, hb⟩
    exact wk_add h (wk_one hj hb)
theorem wk_item {N : Nat} {f : Nat → Nat} (hf : Rgt N f) {m i j : Nat} (hi : i < 48) (h : Wk f (m + 1) i j) : i < N ∧ j < N := by
  have h1 : i < N := by obtain ⟨k, _, hb, _⟩ := h; exact hf.fst hi hb
  refine ⟨h1, ?_⟩
  have key : ∀ (m i : Nat), i < N → Wk f m i j → j < N := by
    intro m
    induction m with
    | zero => intro i hi h; cases h; exact hi
    | succ m ih => intro i hi h; obtain ⟨k, _, hb, h⟩ := h; exact ih k (hf.snd (by have := hf.le; omega) hb) h
  exact key _ _ h1 h
/-- The items of a walk, one after the other. -/
theorem wk_seq {f : Nat → Nat} {j : Nat} : ∀ {m i : Nat}, Wk f m i j → ∃ v : Nat → Nat, v 0 = i ∧ v m = j ∧ ∀ t, t < m → v (t + 1) < 48 ∧ Bt f (v t) (v (t + 1))
  | 0, i, h => ⟨fun _ => i, rfl, h, fun t ht => by omega⟩
  | m + 1, i, ⟨k, hk, hb, h⟩ => by
    obtain ⟨v, h0, h1, h2⟩ := wk_seq h
    refine ⟨fun t => if t = 0 then i else v (t - 1), rfl, by simpa using h1, fun t ht => ?_⟩
    cases t with
    | zero => simp only [if_pos, Nat.zero_add, Nat.one_ne_zero, if_false, Nat.sub_self]; rw [h0]; exact ⟨hk, hb⟩
    | succ t => simpa using h2 t (by omega)
theorem seq_wk {f : Nat → Nat} {v : Nat → Nat} {i : Nat} : ∀ {d : Nat}, (∀ t, t < d → v (i + t + 1) < 48 ∧ Bt f (v (i + t)) (v (i + t + 1))) → Wk f d (v i) (v (i + d))
  | 0, _ => rfl
  | d + 1, h => wk_snoc.2 ⟨v (i + d), seq_wk (fun t ht => h t (by omega)), (h d (by omega)).1, (h d (by omega)).2⟩
theorem nodup_le : ∀ (n : Nat) (l : List Nat), l.Nodup → (∀ x ∈ l, x < n) → l.length ≤ n
  | 0, l, _, h => by
    cases l with
    | nil => simp
    | cons a l => have := h a List.mem_cons_self; omega
  | n + 1, l, hn, h => by
    by_cases hm : n ∈ l
    · have h1 := nodup_le n (l.erase n) (hn.erase n) (fun x hx => by
        have := (hn.mem_erase_iff).1 hx
        have := h x this.2
        omega)
      rw [List.length_erase_of_mem hm] at h1
      omega
    · have := nodup_le n l hn (fun x hx => by have := h x hx; have : x ≠ n := fun e => hm (e ▸ hx); omega)
      omega
/-- Among more numbers than there are, two are the same. -/
theorem pigeon {n m : Nat} {v : Nat → Nat} (hv : ∀ t, t < m → v t < n) (hm : n < m) : ∃ i j, i < j ∧ j < m ∧ v i = v j := by
  refine Classical.byContradiction fun hno => ?_
  have hnd : ((List.range m).map v).Nodup := by
    rw [List.nodup_iff_pairwise_ne, List.pairwise_map]
    refine List.Pairwise.imp_of_mem ?_ (List.pairwise_lt_range (n := m))
    intro a b ha hb hab he
    exact hno ⟨a, b, hab, List.mem_range.1 hb, he⟩
  have := nodup_le n _ hnd (fun x hx => by obtain ⟨t, ht, rfl⟩ := List.mem_map.1 hx; exact hv t (List.mem_range.1 ht))
  simp at this
  omega

/-- Some item comes back to itself. -/
def Cyc (N : Nat) (f : Nat → Nat) : Prop := ∃ a m, a < N ∧ Wk f (m + 1) a a
/-- The shortest walk that comes back is no longer than there are items. -/
theorem cyc_short {N : Nat} {f : Nat → Nat} (hf : Rgt N f) (h : Cyc N f) : ∃ a m, a < N ∧ m < N ∧ Wk f (m + 1) a a := by
  obtain ⟨a, m, ha, hw⟩ := h
  induction m using Nat.strongRecOn generalizing a with
  | ind m ih =>
    by_cases hm : m < N
    · exact ⟨a, m, ha, hm, hw⟩
    · obtain ⟨v, v0, v1, hv⟩ := wk_seq hw
      have hvN : ∀ t, t < m + 1 → v t < N := fun t ht => by
        cases t with
        | zero => rw [v0]; exact ha
        | succ t => exact hf.snd (Nat.lt_of_lt_of_le (by
            cases t with
            | zero => rw [v0]; exact ha
            | succ t => exact hf.snd (by
                have := (hv t (by omega)).2
                rcases Nat.lt_or_ge (v t) 48 with h | h
                · exact h
                · exact absurd this (by
                    cases t with
                    | zero => rw [v0] at h; have := hf.le; omega
                    | succ t => have := (hv t (by omega)).1; omega)) (hv t (by omega)).2) hf.le) (hv t (by omega)).2
      obtain ⟨i, j, hij, hj, he⟩ := pigeon hvN (by omega : N < m + 1)
      have hwk := seq_wk (f := f) (v := v) (i := i) (d := j - i) (fun t ht => hv (i + t) (by omega))
      rw [show i + (j - i) = j by omega, ← he] at hwk
      obtain ⟨d, hd⟩ : ∃ d, j - i = d + 1 := ⟨j - i - 1, by omega⟩
      rw [hd] at hwk
      exact ih d (by omega) (v i) (hvN i (by omega)) hwk
theorem plus_wk {N : Nat} {f : Nat → Nat} (hf : Rgt N f) {i j : Nat} (hi : i < 48) : Bt (plusF N f) i j ↔ ∃ m, Wk f (m + 1) i j := by
  constructor
  · intro h
    obtain ⟨k, _, hk⟩ := plus_at hf
    have h := (hk i j hi).1 h
    have key : ∀ k i j, i < 48 → Bt (iterF N f k) i j → ∃ m, Wk f (m + 1) i j := by
      intro k
      induction k with
      | zero => intro i j hi h; exact ⟨0, wk_one (hf.snd48 hi h) h⟩
      | succ k ih =>
        intro i j hi h
        rcases (bt_iter hf k hi).1 h with h | ⟨m, hm, h1, h2⟩
        · exact ih i j hi h
        · obtain ⟨x, h1⟩ := ih i m hi h1
          obtain ⟨y, h2⟩ := ih m j hm h2
          exact ⟨x + 1 + y, by have := wk_add h1 h2; rwa [show x + 1 + (y + 1) = x + 1 + y + 1 by omega] at this⟩
    exact key k i j hi h
  · rintro ⟨m, h⟩
    induction m generalizing i with
    | zero => obtain ⟨k, hk, hb, rfl⟩ := h; exact plus_base hf hi hb
    | succ m ih => obtain ⟨k, hk, hb, h⟩ := h; exact plus_trans hf hi hk (plus_base hf hi hb) (ih hk h)
theorem irr_plus {N : Nat} {f : Nat → Nat} (hf : Rgt N f) : irrK (plusF N f) N = true ↔ ¬ Cyc N f := by
  rw [irrK_iff]
  constructor
  · rintro h ⟨a, m, ha, hw⟩
    exact h a ha ((plus_wk hf (by have := hf.le; omega)).2 ⟨m, hw⟩)
  · intro h i hi hb
    obtain ⟨m, hw⟩ := (plus_wk hf (by have := hf.le; omega)).1 hb
    exact h ⟨i, m, hi, hw⟩

/-! ### Top -/
/-- All items, each behind those that come before it. -/
structure TopOK (N : Nat) (f : Nat → Nat) (l : List Nat) : Prop where
  nodup : l.Nodup
  mem : ∀ x, x ∈ l ↔ x < N
  pred : ∀ (k : Nat) (x : Nat), l[k]? = some x → ∀ i, i < 48 → Bt f i x → i ∈ l.take k
theorem and_zero_iff (x y : Nat) : x &&& y = 0 ↔ ∀ j, x.testBit j = true → y.testBit j = false := by
  constructor
  · intro h j hx
    have := congrArg (fun z => z.testBit j) h
    simpa [hx] using this
  · intro h
    apply Nat.eq_of_testBit_eq
    intro j
    rw [Nat.testBit_and, Nat.zero_testBit]
    cases hx : x.testBit j
    · rfl
    · simp [h j hx]
theorem mem_els48 {s i : Nat} (hs : s < 2 ^ 48) : i ∈ MM.els s ↔ s.testBit i = true := by
  rw [MM.mem_els]
  exact ⟨fun h => h.2, fun h => ⟨by have := bit_lt hs h; omega, h⟩⟩
theorem top_go {N : Nat} {f : Nat → Nat} (hf : Rgt N f) : ∀ (k s : Nat) (acc : List Nat), s < 2 ^ 48 → (MM.els s).length ≤ k →
    acc.Nodup → (∀ x, x ∈ acc ∨ s.testBit x = true ↔ x < N) → (∀ x, x ∈ acc → s.testBit x = false) → (∀ (k : Nat) (x : Nat), acc[k]? = some x → ∀ i, i < 48 → Bt f i x → i ∈ acc.take k) →
    (∃ l, topGo (backF N f) k s acc = some l ∧ TopOK N f l) ∨ (topGo (backF N f) k s acc = none ∧ Cyc N f) := by
  intro k
  induction k with
  | zero =>
    intro s acc hs hk hnd hall hdis hpred
    have h0 : s = 0 := Decidable.byContradiction fun h => by have := els_pos hs h; omega
    subst h0
    refine .inl ⟨acc, topGo_zero _ _ _, hnd, fun x => ?_, hpred⟩
    rw [← hall x]; simp
  | succ k ih =>
    intro s acc hs hk hnd hall hdis hpred
    by_cases h0 : s = 0
    · subst h0
      refine .inl ⟨acc, topGo_zero _ _ _, hnd, fun x => ?_, hpred⟩
      rw [← hall x]; simp
    · cases hsrc : srcOf (backF N f) s (MM.els s) with
      | none =>
        refine .inr ⟨topGo_none _ _ _ _ h0 hsrc, ?_⟩
        have hp : ∀ x, s.testBit x = true → ∃ y, s.testBit y = true ∧ y < 48 ∧ Bt f y x := by
          intro x hx
          have hx48 := bit_lt hs hx
          have h1 := List.find?_eq_none.1 hsrc x ((mem_els48 hs).2 hx)
          simp only [decide_eq_true_eq] at h1
          rw [and_zero_iff] at h1
          obtain ⟨y, hy⟩ := Classical.not_forall.1 h1
          obtain ⟨hy1, hy2⟩ := Classical.not_imp.1 hy
          have hy1 := (bt_back hf hx48).1 hy1
          exact ⟨y, by simpa using hy2, hy1.1, hy1.2⟩
        obtain ⟨a, ha⟩ : ∃ a, s.testBit a = true := by
          refine Classical.byContradiction fun hn => h0 (Nat.eq_of_testBit_eq fun j => ?_)
          rw [Nat.zero_testBit, Bool.eq_false_iff]
          exact fun hb => hn ⟨j, hb⟩
        -- walks of any length that stay in s
        have hlong : ∀ m x, s.testBit x = true → ∃ v : Nat → Nat, v m = x ∧ (∀ t, t ≤ m → s.testBit (v t) = true) ∧ ∀ t, t < m → v (t + 1) < 48 ∧ Bt f (v t) (v (t + 1)) := by
          intro m
          induction m with
          | zero => intro x hx; exact ⟨fun _ => x, rfl, fun _ _ => hx, fun t ht => by omega⟩
          | succ m ihm =>
            intro x hx
            obtain ⟨y, hy, _, hb⟩ := hp x hx
            obtain ⟨v, v1, v2, v3⟩ := ihm y hy
            refine ⟨fun t => if t ≤ m then v t else x, if_neg (by omega), fun t ht => ?_, fun t ht => ?_⟩
            · show s.testBit (if t ≤ m then v t else x) = true
              split
              · exact v2 t (by assumption)
              · exact hx
            · show (if t + 1 ≤ m then v (t + 1) else x) < 48 ∧ Bt f (if t ≤ m then v t else x) (if t + 1 ≤ m then v (t + 1) else x)
              rw [if_pos (show t ≤ m by omega)]
              split
              · exact v3 t (by omega)
              · obtain rfl : t = m := by omega
                rw [v1]
                exact ⟨bit_lt hs hx, hb⟩
        obtain ⟨v, _, v2, v3⟩ := hlong 48 a ha
        obtain ⟨i, j, hij, hj, he⟩ := pigeon (n := 48) (m := 49) (v := v) (fun t ht => bit_lt hs (v2 t (by omega))) (by omega)
        have hwk := seq_wk (f := f) (v := v) (i := i) (d := j - i) (fun t ht => v3 (i + t) (by omega))
        rw [show i + (j - i) = j by omega, ← he] at hwk
        obtain ⟨d, hd⟩ : ∃ d, j - i = d + 1 := ⟨j - i - 1, by omega⟩
        rw [hd] at hwk
        exact ⟨v i, d, (hall _).1 (.inr (v2 i (by omega))), hwk⟩
      | some a =>
        have ham := srcOf_mem hsrc
        have ha := (mem_els48 hs).1 ham
        have ha48 := bit_lt hs ha
        rw [topGo_some _ _ _ _ h0 a hsrc]
        have hz : backF N f a &&& s = 0 := by
          have := List.find?_some hsrc
          simpa using this
        have hnot : a ∉ acc := fun h => by have := hdis a h; rw [ha] at this; cases this
        refine ih (clr s a) (acc ++ [a]) (clr_lt s a hs) (by have := els_clr_len s a hs ham; omega) ?_ ?_ ?_ ?_
        · rw [List.nodup_append]
          exact ⟨hnd, by simp, fun x hx y hy => by simp at hy; subst hy; exact fun e => hnot (e ▸ hx)⟩
        · intro x
          rw [← hall x, clr_bit s a hs ha48, List.mem_append, List.mem_singleton]
          constructor
          · rintro ((h | rfl) | h)
            · exact .inl h
            · exact .inr ha
            · exact .inr (by rw [Bool.and_eq_true] at h; exact h.1)
          · rintro (h | h)
            · exact .inl (.inl h)
            · by_cases he : x = a
              · exact .inl (.inr he)
              · exact .inr (by rw [h]; simpa using he)
        · intro x hx
          rw [clr_bit s a hs ha48]
          rcases List.mem_append.1 hx with h | h
          · rw [hdis x h]; rfl
          · simp at h; subst h; simp
        · intro m x hm i hi hb
          rcases Nat.lt_or_ge m acc.length with hlt | hge
          · rw [List.getElem?_append_left hlt] at hm
            rw [List.take_append_of_le_length (by omega)]
            exact hpred m x hm i hi hb
          · rw [List.getElem?_append_right hge] at hm
            have hme : m - acc.length = 0 ∧ x = a := by
              cases hd : m - acc.length with
              | zero => rw [hd] at hm; simp at hm; exact ⟨rfl, hm.symm⟩
              | succ d => rw [hd] at hm; simp at hm
            obtain ⟨hme, rfl⟩ := hme
            obtain rfl : m = acc.length := by omega
            rw [List.take_left]
            have hbk : Bt (backF N f) x i := (bt_back hf ha48).2 ⟨hi, hb⟩
            have hsi := (and_zero_iff _ _).1 hz i hbk
            have hiN := hf.fst hi hb
            rcases (hall i).2 hiN with h | h
            · exact h
            · rw [hsi] at h; cases h
theorem top_cyc {N : Nat} {f : Nat → Nat} (hf : Rgt N f) : (∃ l, topF N f = some l ∧ TopOK N f l) ∨ (topF N f = none ∧ Cyc N f) := by
  unfold topF
  rw [show rightB (N : Int) f = true from hf, if_pos rfl, Int.toNat_natCast]
  have ha := fun x => allOf_bits N x hf.le
  refine top_go hf 48 _ [] (allOf_lt48 (N : Int) (by omega) (by have := hf.le; omega)).1 (els_le48 (allOf_lt48 (N : Int) (by omega) (by have := hf.le; omega)).1) List.nodup_nil ?_ (fun x h => by cases h) (fun k x h => by simp at h)
  intro x
  rw [ha x]
  simp
theorem TopOK.acyclic {N : Nat} {f : Nat → Nat} (hf : Rgt N f) {l : List Nat} (h : TopOK N f l) : ¬ Cyc N f := by
  -- an item's place in the list grows along a walk
  have hstep : ∀ i j, i < 48 → Bt f i j → l.idxOf i < l.idxOf j := by
    intro i j hi hb
    have hjl : j ∈ l := (h.mem j).2 (hf.snd hi hb)
    have hlt := List.idxOf_lt_length_iff.2 hjl
    have hget : l[l.idxOf j]? = some j := by rw [List.getElem?_eq_getElem hlt, List.getElem_idxOf hlt]
    have hm := h.pred _ _ hget i hi hb
    obtain ⟨m, hm1, hm2⟩ := List.mem_iff_getElem.1 hm
    rw [List.length_take] at hm1
    rw [List.getElem_take] at hm2
    have hil : i ∈ l := List.mem_of_mem_take hm
    have hidx := List.idxOf_lt_length_iff.2 hil
    have he : l.idxOf i = m := by
      have h1 := List.getElem_idxOf hidx
      exact (List.getElem_inj h.nodup).1 (h1.trans hm2.symm)
    omega
  have hwalk : ∀ m i j, i < 48 → Wk f (m + 1) i j → l.idxOf i < l.idxOf j := by
    intro m
    induction m with
    | zero => rintro i j hi ⟨k, hk, hb, rfl⟩; exact hstep i k hi hb
    | succ m ih => rintro i j hi ⟨k, hk, hb, hw⟩; have := hstep i k hi hb; have := ih k j hk hw; omega
  rintro ⟨a, m, ha, hw⟩
  have := hwalk m a a (by have := hf.le; omega) hw
  omega

/-! ### Ring -/
theorem lowF_mem {s : Nat} (hs : s < 2 ^ 48) (h : s ≠ 0) : s.testBit (lowF s) = true := by
  have hp := els_pos hs h
  cases he : MM.els s with
  | nil => rw [he] at hp; simp at hp
  | cons k l =>
    have hk : lowF s = k := by unfold lowF; rw [he, nextOf_head]; rfl
    rw [hk]
    exact (mem_els48 hs).1 (by rw [he]; exact List.mem_cons_self)
/-- What the list of sets holds: from where a walk of so many steps leads to a. -/
def Away (N : Nat) (f : Nat → Nat) (a : Nat) (aw : List Nat) : Prop := 0 < aw.length ∧ ∀ t, t < aw.length → ∀ i, (aw.getD t 0).testBit i = true ↔ i < N ∧ Wk f t i a
theorem away_start {N : Nat} {f : Nat → Nat} {a : Nat} (ha : a < N) : Away N f a [2 ^ a] := by
  refine ⟨by simp, fun t ht i => ?_⟩
  obtain rfl : t = 0 := by simpa using ht
  show (2 ^ a).testBit i = true ↔ _
  rw [Nat.testBit_two_pow, decide_eq_true_iff]
  constructor
  · rintro rfl; exact ⟨ha, rfl⟩
  · rintro ⟨_, h⟩; exact h.symm
theorem away_step {N : Nat} {f : Nat → Nat} (hf : Rgt N f) {a : Nat} {aw : List Nat} (h : Away N f a aw) (i : Nat) : (imgF (backF N f) (aw.getD (aw.length - 1) 0)).testBit i = true ↔ i < N ∧ Wk f aw.length i a := by
  have hl := h.1
  obtain ⟨L, hL⟩ : ∃ L, aw.length = L + 1 := ⟨aw.length - 1, by omega⟩
  rw [bt_img, hL]
  have h1 := h.2 L (by omega)
  simp only [Nat.add_sub_cancel]
  have hle := hf.le
  constructor
  · rintro ⟨k, _, hk, hb⟩
    have hk := (h1 k).1 hk
    have hb := (bt_back hf (by omega)).1 hb
    exact ⟨hf.fst hb.1 hb.2, k, by omega, hb.2, hk.2⟩
  · rintro ⟨hi, k, hk, hb, hw⟩
    have hkN := hf.snd (by omega : i < 48) hb
    exact ⟨k, by omega, (h1 k).2 ⟨hkN, hw⟩, (bt_back hf hk).2 ⟨by omega, hb⟩⟩
theorem away_snoc {N : Nat} {f : Nat → Nat} (hf : Rgt N f) {a : Nat} {aw : List Nat} (h : Away N f a aw) : Away N f a (aw ++ [imgF (backF N f) (aw.getD (aw.length - 1) 0)]) := by
  refine ⟨by simp, fun t ht i => ?_⟩
  rw [List.length_append, List.length_singleton] at ht
  rcases Nat.lt_or_ge t aw.length with hlt | hge
  · rw [List.getD_eq_getElem?_getD, List.getElem?_append_left hlt, ← List.getD_eq_getElem?_getD]
    exact h.2 t hlt i
  · obtain rfl : t = aw.length := by omega
    rw [List.getD_eq_getElem?_getD, List.getElem?_append_right (Nat.le_refl _), Nat.sub_self]
    exact away_step hf h i
/-- A round of so many steps, that goes through its own items. -/
structure RingL (N : Nat) (f : Nat → Nat) (a : Nat) (l : List Nat) : Prop where
  pos : 0 < l.length
  head : l[0]? = some a
  item : ∀ x ∈ l, x < N
  next : ∀ i x y, l[i]? = some x → l[i + 1]? = some y → Bt f x y
  back : ∀ x, l[l.length - 1]? = some x → Bt f x a
theorem desc_ring {N : Nat} {f : Nat → Nat} (hf : Rgt N f) {a0 : Nat} {aw : List Nat} (hA : Away N f a0 aw) : ∀ (k a : Nat) (acc : List Nat), k < aw.length → a < N → Wk f (k + 1) a a0 →
    acc[acc.length - 1]? = some a → acc[0]? = some a0 → (∀ x ∈ acc, x < N) → (∀ i x y, acc[i]? = some x → acc[i + 1]? = some y → Bt f x y) → RingL N f a0 (descGo f aw k a acc)
  | 0, a, acc, hk, ha, hw, hlast, hhead, hitem, hnext => by
    have hp : 0 < acc.length := (List.getElem?_eq_some_iff.1 hhead).1
    refine ⟨hp, hhead, hitem, hnext, fun x hx => ?_⟩
    change acc[acc.length - 1]? = some x at hx
    rw [hlast] at hx
    cases hx
    obtain ⟨y, _, hb, rfl⟩ := hw
    exact hb
  | k + 1, a, acc, hk, ha, hw, hlast, hhead, hitem, hnext => by
    have hp : 0 < acc.length := (List.getElem?_eq_some_iff.1 hhead).1
    have hle := hf.le
    obtain ⟨x, hx, hb, hw2⟩ := hw
    have hxN := hf.snd (by omega : a < 48) hb
    have hm := (hA.2 (k + 1) hk x).2 ⟨hxN, hw2⟩
    have hfa : f a < 2 ^ 48 := lt_of_bits fun j hj => hf.snd48 (by omega) hj
    have hs : f a &&& aw.getD (k + 1) 0 < 2 ^ 48 := Nat.lt_of_le_of_lt Nat.and_le_left hfa
    have hne : f a &&& aw.getD (k + 1) 0 ≠ 0 := fun h0 => by
      have := (and_zero_iff _ _).1 h0 x hb
      rw [hm] at this; cases this
    have hlow := lowF_mem hs hne
    rw [Nat.testBit_and, Bool.and_eq_true] at hlow
    obtain ⟨b1, b2⟩ := hlow
    have b2 := (hA.2 (k + 1) hk _).1 b2
    unfold descGo
    refine desc_ring hf hA k _ _ (by omega) b2.1 b2.2 ?_ ?_ ?_ ?_
    · simp
    · rw [List.getElem?_append_left hp]; exact hhead
    · intro y hy
      rcases List.mem_append.1 hy with h | h
      · exact hitem y h
      · simp at h; subst h; exact b2.1
    · intro i x y h1 h2
      rcases Nat.lt_or_ge (i + 1) acc.length with hlt | hge
      · rw [List.getElem?_append_left (by omega)] at h1
        rw [List.getElem?_append_left hlt] at h2
        exact hnext i x y h1 h2
      · have h3 : i + 1 < (acc ++ [lowF (f a &&& aw.getD (k + 1) 0)]).length := (List.getElem?_eq_some_iff.1 h2).1
        simp at h3
        obtain rfl : i = acc.length - 1 := by omega
        rw [List.getElem?_append_left (by omega), hlast] at h1
        rw [show acc.length - 1 + 1 = acc.length by omega, List.getElem?_append_right (Nat.le_refl _), Nat.sub_self] at h2
        cases h1
        simp at h2
        rw [← h2]
        exact b1
theorem ring_go {N : Nat} {f : Nat → Nat} (hf : Rgt N f) {a : Nat} (ha : a < N) : ∀ (m : Nat) (aw : List Nat), Away N f a aw → (∀ t, 0 < t → t < aw.length → ¬ Wk f t a a) →
    (∃ l, ringGo f (backF N f) a m aw = some l ∧ RingL N f a l ∧ (∀ t, 0 < t → t < l.length → ¬ Wk f t a a) ∧ Wk f l.length a a) ∨
      (ringGo f (backF N f) a m aw = none ∧ ∀ t, 0 < t → t < aw.length + m → ¬ Wk f t a a)
  | 0, aw, _, hno => .inr ⟨rfl, hno⟩
  | m + 1, aw, hA, hno => by
    have hstep := away_step hf hA a
    rw [ringGo_succ]
    split
    · rename_i hb
      have hw := (hstep.1 hb).2
      have hlen := descF_len f aw a hA.1
      refine .inl ⟨_, rfl, ?_, ?_, ?_⟩
      · unfold descF
        refine desc_ring hf hA _ a [a] (by have := hA.1; omega) ha ?_ rfl rfl ?_ ?_
        · rwa [show aw.length - 1 + 1 = aw.length by have := hA.1; omega]
        · intro x hx; simp at hx; subst hx; exact ha
        · intro i x y _ h; simp at h
      · rw [hlen]; exact hno
      · rw [hlen]; exact hw
    · rename_i hb
      have hnw : ¬ Wk f aw.length a a := fun h => hb (hstep.2 ⟨ha, h⟩)
      have hlen : (aw ++ [imgF (backF N f) (aw.getD (aw.length - 1) 0)]).length = aw.length + 1 := by simp
      have ih := ring_go hf ha m _ (away_snoc hf hA) (by
        intro t h0 ht
        rw [hlen] at ht
        by_cases he : t = aw.length
        · rw [he]; exact hnw
        · exact hno t h0 (by omega))
      rw [hlen] at ih
      rcases ih with h | ⟨h1, h2⟩
      · exact .inl h
      · exact .inr ⟨h1, fun t h0 ht => h2 t h0 (by omega)⟩
/-- What Ring gives: a shortest round, from its least item. -/
structure RingOK (N : Nat) (f : Nat → Nat) (a : Nat) (l : List Nat) : Prop where
  ring : RingL N f a l
  walk : Wk f l.length a a
  short : ∀ x t, x < N → 0 < t → t < l.length → ¬ Wk f t x x
  least : ∀ x, x < a → ¬ Wk f l.length x x
theorem ring_upto {N : Nat} {f : Nat → Nat} (hf : Rgt N f) : ∀ k, k ≤ N →
    (∃ a l, ringUpto N f (backF N f) k = some l ∧ l.length ≤ N ∧ RingL N f a l ∧ Wk f l.length a a ∧ (∀ x t, x < k → 0 < t → t < l.length → ¬ Wk f t x x) ∧ ∀ x, x < a → ¬ Wk f l.length x x) ∨
      (ringUpto N f (backF N f) k = none ∧ ∀ x t, x < k → 0 < t → t ≤ N → ¬ Wk f t x x)
  | 0, _ => .inr ⟨rfl, fun x t h => by omega⟩
  | k + 1, hk => by
    have ih := ring_upto hf k (by omega)
    have hat := ring_go hf (a := k) (by omega) N [2 ^ k] (away_start (by omega)) (fun t h0 ht => by simp at ht; omega)
    have he : ringAtF N f (backF N f) k = ringGo f (backF N f) k N [2 ^ k] := by unfold ringAtF; rw [Int.toNat_natCast]
    have hu : ringUpto N f (backF N f) (k + 1) = better (ringUpto N f (backF N f) k) (ringAtF N f (backF N f) k) := rfl
    rw [hu, he]
    rcases ih with ⟨a, l, h1, hlN, hr, hw, hs, hl⟩ | ⟨h1, hs⟩
    · rcases hat with ⟨m, g1, gr, gs, gw⟩ | ⟨g1, gs⟩
      · have hmN : m.length ≤ N := by have := (ringGo_pos _ _ _ _ _ _ (by simp) g1).2; simp at this; omega
        rw [h1, g1]
        by_cases hlt : m.length < l.length
        · refine .inl ⟨k, m, by simp [better, hlt], hmN, gr, gw, fun x t hx h0 ht => ?_, fun x hx => ?_⟩
          · by_cases hxk : x = k
            · subst hxk; exact gs t h0 ht
            · exact hs x t (by omega) h0 (by omega)
          · exact hs x m.length hx gr.pos hlt
        · refine .inl ⟨a, l, by simp [better, hlt], hlN, hr, hw, fun x t hx h0 ht => ?_, hl⟩
          by_cases hxk : x = k
          · subst hxk; exact gs t h0 (by omega)
          · exact hs x t (by omega) h0 ht
      · rw [h1, g1]
        refine .inl ⟨a, l, rfl, hlN, hr, hw, fun x t hx h0 ht => ?_, hl⟩
        by_cases hxk : x = k
        · subst hxk
          exact gs t h0 (by simp; omega)
        · exact hs x t (by omega) h0 ht
    · rcases hat with ⟨m, g1, gr, gs, gw⟩ | ⟨g1, gs⟩
      · have hmN : m.length ≤ N := by have := (ringGo_pos _ _ _ _ _ _ (by simp) g1).2; simp at this; omega
        rw [h1, g1]
        refine .inl ⟨k, m, rfl, hmN, gr, gw, fun x t hx h0 ht => ?_, fun x hx => hs x m.length hx gr.pos hmN⟩
        by_cases hxk : x = k
        · subst hxk; exact gs t h0 ht
        · exact hs x t (by omega) h0 (by omega)
      · rw [h1, g1]
        refine .inr ⟨rfl, fun x t hx h0 ht => ?_⟩
        by_cases hxk : x = k
        · subst hxk; exact gs t h0 (by simp; omega)
        · exact hs x t (by omega) h0 ht
theorem ring_cyc {N : Nat} {f : Nat → Nat} (hf : Rgt N f) : (∃ a l, ringF N f = some l ∧ l.length ≤ N ∧ RingOK N f a l) ∨ (ringF N f = none ∧ ¬ Cyc N f) := by
  unfold ringF
  rw [show rightB (N : Int) f = true from hf, if_pos rfl, Int.toNat_natCast]
  rcases ring_upto hf N (Nat.le_refl _) with ⟨a, l, h1, hN, hr, hw, hs, hl⟩ | ⟨h1, hs⟩
  · exact .inl ⟨a, l, h1, hN, hr, hw, hs, hl⟩
  · refine .inr ⟨h1, fun hc => ?_⟩
    obtain ⟨x, m, hx, hm, hw⟩ := cyc_short hf hc
    exact hs x (m + 1) hx (by omega) (by omega) hw
theorem RingOK.cyc {N : Nat} {f : Nat → Nat} {a : Nat} {l : List Nat} (h : RingOK N f a l) : Cyc N f :=
  ⟨a, l.length - 1, h.ring.item a (List.mem_of_getElem? h.ring.head), by rw [show l.length - 1 + 1 = l.length by have := h.ring.pos; omega]; exact h.walk⟩
/-- A way along the ring. -/
theorem RingL.way {N : Nat} {f : Nat → Nat} (hf : Rgt N f) {a : Nat} {l : List Nat} (h : RingL N f a l) {i : Nat} : ∀ {d : Nat} (x y : Nat), l[i]? = some x → l[i + d]? = some y → Wk f d x y
  | 0, x, y, h1, h2 => by rw [Nat.add_zero, h1] at h2; cases h2; rfl
  | d + 1, x, y, h1, h2 => by
    have hlt : i + d < l.length := by have := (List.getElem?_eq_some_iff.1 h2).1; omega
    have hz : l[i + d]? = some l[i + d] := List.getElem?_eq_getElem hlt
    have hy := h.item y (List.mem_of_getElem? h2)
    exact wk_snoc.2 ⟨_, RingL.way hf h x _ h1 hz, by have := hf.le; omega, h.next (i + d) _ y hz h2⟩
theorem RingOK.nodup {N : Nat} {f : Nat → Nat} (hf : Rgt N f) {a : Nat} {l : List Nat} (h : RingOK N f a l) {i j x : Nat} (hij : i < j) (hi : l[i]? = some x) (hj : l[j]? = some x) : False := by
  have hw := h.ring.way hf (i := i) (d := j - i) x x hi (by rwa [show i + (j - i) = j by omega])
  have hjl := (List.getElem?_eq_some_iff.1 hj).1
  exact h.short x (j - i) (h.ring.item x (List.mem_of_getElem? hi)) (by omega) (by omega) hw
theorem RingOK.first {N : Nat} {f : Nat → Nat} (hf : Rgt N f) {a : Nat} {l : List Nat} (h : RingOK N f a l) {i x : Nat} (hi : l[i]? = some x) : a ≤ x := by
  rcases Nat.lt_or_ge x a with hlt | hge
  · exfalso
    have hil := (List.getElem?_eq_some_iff.1 hi).1
    have hlast : l[l.length - 1]? = some l[l.length - 1] := List.getElem?_eq_getElem (by omega)
    have hw1 := h.ring.way hf (i := i) (d := l.length - 1 - i) x _ hi (by rwa [show i + (l.length - 1 - i) = l.length - 1 by omega])
    have haN := h.ring.item a (List.mem_of_getElem? h.ring.head)
    have hw2 := wk_snoc.2 ⟨_, hw1, (by have := hf.le; omega : a < 48), h.ring.back _ hlast⟩
    have hw3 := h.ring.way hf (i := 0) (d := i) a x h.ring.head (by rwa [Nat.zero_add])
    have := wk_add hw2 hw3
    rw [show l.length - 1 - i + 1 + i = l.length by omega] at this
    exact h.least x hlt this
  · exact hge
theorem RingOK.step {N : Nat} {f : Nat → Nat} {a : Nat} {l : List Nat} (h : RingOK N f a l) {i x y : Nat} (hi : l[i]? = some x) (hy : l[(i + 1) % l.length]? = some y) : Bt f x y := by
  have hil := (List.getElem?_eq_some_iff.1 hi).1
  by_cases he : i + 1 = l.length
  · rw [he, Nat.mod_self, h.ring.head] at hy
    cases hy
    exact h.ring.back x (by rwa [← he])
  · rw [Nat.mod_eq_of_lt (by omega)] at hy
    exact h.ring.next i x y hi hy
/-- Walks of so many steps, as a relation. -/
def powF (f : Nat → Nat) : Nat → (Nat → Nat)
  | 0 => f
  | k + 1 => thenF (powF f k) f
theorem rgt_pow {N : Nat} {f : Nat → Nat} (hf : Rgt N f) : ∀ k, Rgt N (powF f k)
  | 0 => hf
  | k + 1 => rgt_then (rgt_pow hf k) hf
theorem pow_64 {f : Nat → Nat} (h : R64 f) : ∀ k, R64 (powF f k)
  | 0 => h
  | _ + 1 => thenF_64 _ h
theorem pow_wk {N : Nat} {f : Nat → Nat} (hf : Rgt N f) : ∀ (k : Nat) {i j : Nat}, i < 48 → (Bt (powF f k) i j ↔ Wk f (k + 1) i j)
  | 0, i, j, hi => ⟨fun h => wk_one (hf.snd48 hi h) h, fun ⟨x, _, hb, e⟩ => by cases e; exact hb⟩
  | k + 1, i, j, hi => by
    show Bt (thenF (powF f k) f) i j ↔ _
    rw [bt_then (rgt_pow hf k) hi, wk_snoc]
    constructor
    · rintro ⟨m, hm, h1, h2⟩
      exact ⟨m, (pow_wk hf k hi).1 h1, hf.snd48 hm h2, h2⟩
    · rintro ⟨m, h1, _, h2⟩
      have hm := (wk_item hf hi h1).2
      exact ⟨m, by have := hf.le; omega, (pow_wk hf k hi).2 h1, h2⟩
theorem RingOK.irr {N : Nat} {f : Nat → Nat} (hf : Rgt N f) {a : Nat} {l : List Nat} (h : RingOK N f a l) (k : Nat) (hk : k < l.length) : irrK (powF f k) N = decide (k + 1 < l.length) := by
  have hle := hf.le
  rw [Bool.eq_iff_iff, irrK_iff, decide_eq_true_iff]
  constructor
  · intro hi
    rcases Nat.lt_or_ge (k + 1) l.length with hlt | hge
    · exact hlt
    · exfalso
      have ha := h.ring.item a (List.mem_of_getElem? h.ring.head)
      refine hi a ha ((pow_wk hf k (by omega)).2 ?_)
      rw [show k + 1 = l.length by omega]
      exact h.walk
  · intro hlt i hi hb
    exact h.short i (k + 1) hi (by omega) hlt ((pow_wk hf k (by omega)).1 hb)
end Go.Proofs.YtpmlomhlbmgilaaDoor
end

section
/- order.Keeps, order.Of. -/
namespace Go.Proofs.YtpmlomhlbmgilaaDoor
open Go.RowKit Go.Shelf

attribute [local go_sem] Oper.semAt_some

theorem totF_64 (n : Int) (zs : List Int) : R64 (totF n zs) := by
  unfold totF
  split
  · rename_i h
    have hn : n ≤ 48 := by
      unfold ordB at h
      simp only [Bool.and_eq_true, decide_eq_true_iff] at h
      omega
    exact fill_64 _ (by omega) (by omega)
  · exact fun _ => Nat.two_pow_pos 64
/-- Does the order keep the relation? -/
def keepB (n : Int) (f : Nat → Nat) (zs : List Int) : Bool := ordB n zs && inB n n f (totF n zs)
set_option maxRecDepth 100000 in
set_option maxHeartbeats 4000000 in
theorem keeps_any (n : Int) (f : Nat → Nat) (hf : R64 f) (v : Value) (zs : List Int) (w : World) (hs : IntSl w.heap.size w v zs) :
    Calls Tryd.prog 59 #[.agg (relC n f), v] w fun e w' => e = .returned (.bool (keepB n f zs)) ∧ Below w.heap.size w w' := by
  have hA := RelAt.new w n f
  have hB := below_new w (.cells (relC n f) 26)
  have hs2 := Lib.hid ((hs.below hB).mono hB.size)
  have n1 := hA.num
  have CT := Lib.hid (fun W h => total_any n v zs W h)
  unfold TotalPost at CT
  cases ho : ordB n zs
  · have hv := Lib.hid (show keepB n f zs = false by simp [keepB, ho])
    rw [ho] at CT
    change Hid (∀ W, _ → Calls _ _ _ W fun e w' => e = .returned (.tuple #[.agg (relC 0 (totF n zs)), .int .i64 2]) ∧ _) at CT
    clear ho
    go_enter Tryd.func59, Tryd.ntmps59
    go_wp2_with fail
    refine (CT.out _ hs2.out).mono ?_
    rintro e w1 ⟨rfl, h⟩
    obtain ⟨W1, hs1, hu, h1, -⟩ := Ex.lay w1 0 (totF n zs)
    have hB1 := thru (thru hB h) h1
    clear h h1 hu hA hB
    go_wp2
    go_ret
    rw [hv.out]
    exact ⟨rfl, hB1⟩
  · rw [ho] at CT
    change Hid (∀ W, _ → Calls _ _ _ W fun e w' => e = .returned (.tuple #[.agg (relC n (totF n zs)), .int .i64 0]) ∧ _) at CT
    have hg := totF_64 n zs
    have hk : keepB n f zs = inB n n f (totF n zs) := by simp [keepB, ho]
    replace hk := Lib.hid hk
    clear ho
    generalize totF n zs = g at *
    have HL := Lib.hid (fun w => less_any n n f g hf hg w)
    unfold CombPost at HL
    go_enter Tryd.func59, Tryd.ntmps59
    go_wp2_with fail
    refine (CT.out _ hs2.out).mono ?_
    rintro e w1 ⟨rfl, h⟩
    obtain ⟨W1, hs1, hu, h1, -⟩ := Ex.lay w1 n g
    have hA1 := (hA.on h).on h1
    have hB1 := thru (thru hB h) h1
    clear h h1 hA hB n1
    have l1 := hA1.ld
    have l2 := hu.ld
    cases hc : combB n n f g
    · have hi := Lib.hid (show inB n n f g = false by simp [inB, hc])
      rw [hc] at HL
      change Hid (∀ w, Calls _ _ _ w fun e w' => e = .returned (.tuple #[.agg (relC 0 zf), .int .i64 2]) ∧ _) at HL
      clear hc
      go_wp2_with fail
      refine (HL.out _).mono ?_
      rintro e w2 ⟨rfl, h⟩
      obtain ⟨W2, hs2', hu2, h2, -⟩ := Ex.lay w2 0 zf
      have hB2 := thru (thru hB1 h) h2
      clear h h2 hu hu2 hA1 hB1 l1 l2 hs1
      go_wp2
      go_ret
      rw [hk.out, hi.out]
      exact ⟨rfl, hB2⟩
    · have hi := Lib.hid (show inB n n f g = (rightB n (cutF n (lessF f g)) && decide (fromK (cutF n (lessF f g)) n.toNat = 0)) by simp [inB, hc])
      have h64 : R64 (cutF n (lessF f g)) := cutF_64 n (fun i => Nat.lt_of_le_of_lt Nat.and_le_left (hf i))
      rw [hc] at HL
      change Hid (∀ w, Calls _ _ _ w fun e w' => e = .returned (.tuple #[.agg (relC n (cutF n (lessF f g))), .int .i64 0]) ∧ _) at HL
      generalize cutF n (lessF f g) = F at *
      have HE := Lib.hid (fun w => empty_any n F w h64)
      generalize (rightB n F && decide (fromK F n.toNat = 0)) = b at *
      clear hc
      go_wp2_with fail
      refine (HL.out _).mono ?_
      rintro e w2 ⟨rfl, h⟩
      obtain ⟨W2, hs2', hu2, h2, -⟩ := Ex.lay w2 n F
      have hB2 := thru (thru hB1 h) h2
      have l3 := hu2.ld
      clear h h2 hu hA1 hB1 l1 l2 hs1
      go_wp2_with fail
      refine (HE.out _).mono ?_
      rintro e w3 ⟨rfl, h3⟩
      go_wp2
      go_ret
      rw [hk.out, hi.out]
      exact ⟨rfl, thru hB2 h3⟩

/-- What Of answers. -/
def ofO (n : Int) (f : Nat → Nat) : Option (List Nat) := match topF n f with
  | none => none
  | some T => if relB (opN (ordB n (T.map fun k : Nat => (k : Int))) n) n (totF n (T.map fun k : Nat => (k : Int))) f then some T else none
set_option maxRecDepth 100000 in
set_option maxHeartbeats 4000000 in
theorem ordOf_any (n : Int) (f : Nat → Nat) (hf : R64 f) (w : World) (hT : Tab w) :
    Calls Tryd.prog 56 #[.agg (relC n f)] w fun e w' => ∃ v, e = .returned (.tuple #[v, .bool (ofO n f).isSome]) ∧ w'.ownsRow w.heap.size 3 1 v ((ofO n f).getD []).length (((ofO n f).getD []).map intV) ∧ Below w.heap.size w w' := by
  have hA := RelAt.new w n f
  have hB := below_new w (.cells (relC n f) 26)
  have l1 := hA.ld
  have CT := Lib.hid (fun W hT => top_any n f W hf hT)
  unfold TopPost at CT
  have hT1 := tab_new hT (.cells (relC n f) 26)
  cases ht : topF n f with
  | none =>
    have hv := Lib.hid (show ofO n f = none by simp [ofO, ht])
    rw [ht] at CT
    clear ht
    go_enter Tryd.func56, Tryd.ntmps56
    go_wp2_with fail
    refine (CT.out _ hT1).mono ?_
    rintro e w1 ⟨v, rfl, _, h⟩
    simp only [Option.isSome_none]
    go_wp2
    go_ret2
    rw [hv.out]
    exact ⟨_, rfl, World.ownsRow_nil _ _ _ _, thru hB h⟩
  | some T =>
    have hv := (show ofO n f = if relB (opN (ordB n (T.map fun k : Nat => (k : Int))) n) n (totF n (T.map fun k : Nat => (k : Int))) f then some T else none by simp [ofO, ht])
    rw [ht] at CT
    have hTl : T.length ≤ maxLen := by
      have hr : rightB n f = true := by
        cases h : rightB n f
        · simp [topF, h] at ht
        · rfl
      obtain ⟨⟨n0, n1⟩, -⟩ := rightB_iff.1 hr
      obtain ⟨N, rfl⟩ : ∃ N : Nat, n = (N : Int) := ⟨n.toNat, by omega⟩
      rcases top_cyc (show Rgt N f from hr) with ⟨l, h1, h2⟩ | ⟨h1, _⟩
      · rw [h1] at ht
        obtain rfl := Option.some.inj ht
        have := nodup_le N l h2.nodup (fun x hx => (h2.mem x).1 hx)
        unfold maxLen
        omega
      · rw [h1] at ht; cases ht
    clear ht
    have CO := Lib.hid (fun W v h => total_any n v (T.map fun k : Nat => (k : Int)) W h)
    unfold TotalPost at CO
    generalize opN (ordB n (T.map fun k : Nat => (k : Int))) n = n2 at *
    generalize totF n (T.map fun k : Nat => (k : Int)) = g at *
    generalize opE (ordB n (T.map fun k : Nat => (k : Int))) = ev at *
    replace hv := Lib.hid hv
    go_enter Tryd.func56, Tryd.ntmps56
    go_wp2_with fail
    refine (CT.out _ hT1).mono ?_
    rintro e w1 ⟨v, rfl, hrow, h⟩
    change w1.ownsRow _ _ _ _ T.length (T.map intV) at hrow
    simp only [Option.isSome_some]
    have hA1 := hA.on h
    have hB1 := thru hB h
    have hsl : IntSl w1.heap.size w1 v (T.map fun k : Nat => (k : Int)) := by
      have h2 : w1.ownsRow (w.alloc (.cells (relC n f) 26)).heap.size 3 1 v (T.map fun k : Nat => (k : Int)).length ((T.map fun k : Nat => (k : Int)).map (Value.int .i64)) := by
        rw [List.length_map, List.map_map]
        exact hrow
      exact numSl_of_row h2 (by rw [List.length_map]; exact hTl)
    replace hrow := ownsRow_base hrow (b' := w.heap.size) (by simp)
    replace hsl := Lib.hid hsl
    clear h hA hB l1
    have n1 := hA1.num
    go_wp2_with fail
    clear n1
    refine (CO.out _ _ hsl.out).mono ?_
    rintro e w2 ⟨rfl, h⟩
    obtain ⟨W2, hs2, hu, h2, -⟩ := Ex.lay w2 n2 g
    have hA2 := (hA1.on h).on h2
    have hB2 := thru (thru hB1 h) h2
    have hrow2 := Lib.hid (ownsRow_below (ownsRow_below hrow h) h2)
    have l1 := hA2.ld
    have l2 := hu.ld
    clear h h2 hu hA1 hA2 hB1 hrow
    cases hb : relB n2 n g f
    · rw [hb] at hv
      replace hv := Lib.hid (show ofO n f = none by have := hv.out; simpa using this)
      have hbh := hb
      go_wp2
      go_ret2
      rw [hv.out]
      exact ⟨_, rfl, World.ownsRow_nil _ _ _ _, hB2⟩
    · rw [hb] at hv
      replace hv := Lib.hid (show ofO n f = some T by have := hv.out; simpa using this)
      go_wp2
      go_ret2
      rw [hv.out]
      exact ⟨_, rfl, hrow2.out, hB2⟩
end Go.Proofs.YtpmlomhlbmgilaaDoor
end

section
/- A range over a function whose body may leave the loop, over an iterator that itself ranges over functions, calls itself and writes rows of its own: the caller's invariant may be carried through all that. -/
namespace Go.Proofs.YtpmlomhlbmgilaaDoor
open Go.RowKit

/-- What an iterator may do to a caller's invariant: blocks below B, and those from B on that are cells and no exceptions, lie as they lay. -/
structure Chg (ex : Nat → Nat → Obj → Prop) (B g : Nat) (W W' : World) : Prop where
  os : W'.os = W.os
  tape : W'.tape = W.tape
  output : W'.output = W.output
  size : W.heap.size ≤ W'.heap.size
  block : ∀ k o, (k < B ∨ (o.isCells = true ∧ ¬ ex g k o)) → W.heap[k]? = some o → W'.heap[k]? = some o
section
variable {ex : Nat → Nat → Obj → Prop} {B g : Nat} {W W' W2 : World}
theorem Chg.refl (W : World) : Chg ex B g W W := ⟨rfl, rfl, rfl, Nat.le_refl _, fun _ _ _ h => h⟩
theorem Chg.trans (h : Chg ex B g W W') (k : Chg ex B g W' W2) : Chg ex B g W W2 :=
  ⟨k.os.trans h.os, k.tape.trans h.tape, k.output.trans h.output, Nat.le_trans h.size k.size, fun i o hi hs => k.block i o hi (h.block i o hi hs)⟩
theorem Chg.weaken {B' : Nat} (h : Chg ex B' g W W') (hB : B ≤ B') : Chg ex B g W W' :=
  ⟨h.os, h.tape, h.output, h.size, fun k o hk hs => h.block k o (hk.imp_left fun x => Nat.lt_of_lt_of_le x hB) hs⟩
/-- A step that has no exceptions from B' on. -/
theorem Chg.sharper {ex' : Nat → Nat → Obj → Prop} {B' g' : Nat} (h : Chg ex' B' g' W W') (hB : B ≤ B') (he : ∀ k o, B' ≤ k → ex' g' k o → ex g k o) : Chg ex B g W W' :=
  ⟨h.os, h.tape, h.output, h.size, fun k o hk hs => by
    by_cases hl : k < B'
    · exact h.block k o (.inl hl) hs
    · rcases hk with hk | ⟨hk, hx⟩
      · omega
      · exact h.block k o (.inr ⟨hk, fun hh => hx (he k o (by omega) hh)⟩) hs⟩
theorem Chg.of_below (h : Below W.heap.size W W') : Chg ex B g W W' :=
  ⟨h.os, h.tape, h.output, h.size, fun k _ _ hs => (h.block k (Array.getElem?_eq_some_iff.1 hs).1).trans hs⟩
theorem Chg.drew (W : World) : Chg ex B g W W.drew := ⟨rfl, rfl, rfl, Nat.le_refl _, fun _ _ _ h => h⟩
theorem Chg.alloc (W : World) (o : Obj) : Chg ex B g W (W.alloc o) := .of_below ((Below.refl _ W).alloc (Nat.le_refl _) _)
theorem Chg.putObj (W : World) (l : Nat) {o : Obj} (o' : Obj) (hl : W.heap[l]? = some o) (h1 : B ≤ l) (h2 : o.isCells = false) : Chg ex B g W (W.putObj l o') :=
  ⟨rfl, rfl, rfl, by simp, fun k o2 hk h => (World.putObj_heap_other (by
    rintro rfl
    rw [hl] at h; cases h
    rcases hk with hk | ⟨hk, _⟩
    · omega
    · rw [h2] at hk; cases hk)).trans h⟩
theorem Chg.setCell (W : World) (a : Addr) (v : Value) (h1 : B ≤ a.block) (h2 : ∀ o, W.heap[a.block]? = some o → ex g a.block o) : Chg ex B g W (W.setCell a v) :=
  ⟨rfl, rfl, rfl, by simp [World.setCell], fun k o hk h => (Below.heap_setCell W a v k (by
    rintro rfl
    rcases hk with hk | ⟨_, hk⟩
    · omega
    · exact hk (h2 o h))).trans h⟩
theorem Chg.setRow (W : World) (b : Nat) (cs : Array Value) (h1 : B ≤ b) (h2 : ∀ o, W.heap[b]? = some o → ex g b o) : Chg ex B g W (W.setRow b cs) :=
  ⟨rfl, rfl, rfl, by simp, fun k o hk h => (Go.setRow_other W b k cs (by
    rintro rfl
    rcases hk with hk | ⟨_, hk⟩
    · omega
    · exact hk (h2 o h))).trans h⟩
theorem Chg.of_own {row : Option Nat} (hg : W.grownBy W' row) (hr : ∀ r, row = some r → B ≤ r ∧ ∃ o : Obj, W.heap[r]? = some o ∧ o.isCells = false) : Chg ex B g W W' :=
  ⟨hg.os, hg.tape, hg.output, hg.size, fun k o hk h => (hg.block k (Array.getElem?_eq_some_iff.1 h).1 (fun e => by
    obtain ⟨h1, o', h2, h3⟩ := hr k e.symm
    rw [h] at h2; cases h2
    rcases hk with hk | ⟨hk, _⟩
    · omega
    · rw [h3] at hk; cases hk)).trans h⟩
end
/-- A caller's invariant that bears it. -/
def Cl {β : Type} (ex : Nat → Nat → Obj → Prop) (B : Nat) (J : Nat → β → World → Prop) : Prop := ∀ g s W W', J g s W → Chg ex B g W W' → J g s W'
theorem Cl.up {β : Type} {ex : Nat → Nat → Obj → Prop} {B B' : Nat} {J : Nat → β → World → Prop} (h : Cl ex B J) (hB : B ≤ B') : Cl ex B' J := fun g s W W' hs hc => h g s W W' hs (hc.weaken hB)
theorem Cl.and {β : Type} {ex : Nat → Nat → Obj → Prop} {B : Nat} {J K : Nat → β → World → Prop} (h : Cl ex B J) (k : Cl ex B K) : Cl ex B (fun g s W => J g s W ∧ K g s W) := fun g s W W' hs hc => ⟨h g s W W' hs.1 hc, k g s W W' hs.2 hc⟩
/-- No exceptions. -/
def exN : Nat → Nat → Obj → Prop := fun _ _ _ => False

/-- The blocks of kp, and those from m on, lie as they lay. -/
structure KeepK (kp : Nat → Prop) (m : Nat) (W W' : World) : Prop where
  os : W'.os = W.os
  tape : W'.tape = W.tape
  output : W'.output = W.output
  size : W.heap.size ≤ W'.heap.size
  block : ∀ k o, (kp k ∨ m ≤ k) → W.heap[k]? = some o → W'.heap[k]? = some o
section
variable {kp : Nat → Prop} {m : Nat} {W W' W2 : World}
theorem KeepK.refl (W : World) : KeepK kp m W W := ⟨rfl, rfl, rfl, Nat.le_refl _, fun _ _ _ h => h⟩
theorem KeepK.trans (h : KeepK kp m W W') (k : KeepK kp m W' W2) : KeepK kp m W W2 :=
  ⟨k.os.trans h.os, k.tape.trans h.tape, k.output.trans h.output, Nat.le_trans h.size k.size, fun i o hi hs => k.block i o hi (h.block i o hi hs)⟩
theorem KeepK.weaken (h : KeepK kp m W W') {kp' : Nat → Prop} {m' : Nat} (hk : ∀ k, (kp' k ∨ m' ≤ k) → (kp k ∨ m ≤ k)) : KeepK kp' m' W W' :=
  ⟨h.os, h.tape, h.output, h.size, fun i o hi hs => h.block i o (hk i hi) hs⟩
theorem KeepK.of_below (h : Below W.heap.size W W') : KeepK kp m W W' := ⟨h.os, h.tape, h.output, h.size, fun k _ _ hs => (h.block k (Array.getElem?_eq_some_iff.1 hs).1).trans hs⟩
theorem KeepK.putObj (W : World) (l : Nat) (o : Obj) (h1 : ¬ kp l) (h2 : l < m) : KeepK kp m W (W.putObj l o) :=
  ⟨rfl, rfl, rfl, by simp, fun k o' hk h => (World.putObj_heap_other (by rintro rfl; rcases hk with hk | hk; exact h1 hk; omega)).trans h⟩
theorem KeepK.setCell (W : World) (a : Addr) (v : Value) (h1 : ¬ kp a.block) (h2 : a.block < m) : KeepK kp m W (W.setCell a v) :=
  ⟨rfl, rfl, rfl, by simp [World.setCell], fun k o' hk h => (Below.heap_setCell W a v k (by rintro rfl; rcases hk with hk | hk; exact h1 hk; omega)).trans h⟩
theorem KeepK.alloc (W : World) (o : Obj) : KeepK kp m W (W.alloc o) := .of_below ((Below.refl _ W).alloc (Nat.le_refl _) _)
end

/-- What an iterator promises that hands over the list L as long as the body wants more. -/
def GivesSome {α : Type} (F : Fence) (n : Nat) (P : Program) (gf : Nat) (lb : Array Value) (encs : Nat → α → Array Value) (ex : Nat → Nat → Obj → Prop) (kp : Nat → Prop) (X : Nat → α → World → Prop) (L : List α) (w : World) : Prop :=
  ∀ (l : Nat) (J Jx : Nat → List α → World → Prop) (W : World), Below w.heap.size w W → Cl ex W.heap.size J → Cl ex W.heap.size Jx →
    (∀ g pre x W1, J g pre W1 → X g x W1 → W.heap.size ≤ g → pre ++ [x] <+: L → YieldAt F (n - 1) P l (encs g x) W1 fun en W' => KeepK kp W.heap.size W1 W' ∧
      ((en = .returned (.bool true) ∧ J g (pre ++ [x]) W') ∨ (en = .returned (.bool false) ∧ Jx g (pre ++ [x]) W'))) →
    (∀ g, W.heap.size ≤ g → J g [] W) →
    CallsIn F n P gf (#[.func (.yield l) #[] #[]] ++ lb) W fun en W' => (∃ v, en = .returned v) ∧ ((∃ g, J g L W') ∨ ∃ g pre, pre <+: L ∧ Jx g pre W')

/-- How a round of such a loop ends. -/
def someEnd {α : Type} (kp : Nat → Prop) (m : Nat) (I : Nat → List α → World → Prop) (Ix : Code → Nat → List α → World → Prop) (g : Nat) (xs : List α) (W : World) : Exit → Act → World → Prop
  | .normal, _, W' => KeepK kp m W W' ∧ I g xs W'
  | .ret, _, W' => KeepK kp m W W' ∧ Ix .ret g xs W'
  | .exit id, _, W' => KeepK kp m W W' ∧ Ix (.exit id) g xs W'
  | .goto t, _, W' => KeepK kp m W W' ∧ Ix (.goto t) g xs W'
  | _, _, _ => False

theorem range_some {F : Fence} {n : Nat} {P : Program} {w : World} {α : Type} {gx : Operand} {ps : Array Tmp} {assign body : Code} {Q : Exit → Act → World → Prop} {a : Act}
    (hro : F.round = none) (h1 : 1 ≤ n) {gf : Nat} {lb : Array Value} (hg : a.eval gx = .func (.func gf) #[] lb) (hFg : F.fn gf) (eg : ∀ args w, (callFunc gf args).run P w = .ok (.enter gf args) w)
    {encs : Nat → α → Array Value} {ex : Nat → Nat → Obj → Prop} {kp : Nat → Prop} {X : Nat → α → World → Prop} {L : List α} (hseq : GivesSome F (n - 1) P gf lb encs ex kp X L w) (hkp : ∀ k, kp k → k < w.heap.size) (hps : ∀ g x, (encs g x).size = ps.size)
    (hX : ∀ g x W l o o', X g x W → W.heap[l]? = some o → o.isCells = false → X g x (W.putObj l o'))
    (I : Nat → List α → World → Prop) (Ix : Code → Nat → List α → World → Prop) (hI : Cl ex w.heap.size I) (hIx : ∀ c, Cl ex w.heap.size (Ix c)) (h0 : ∀ g, w.heap.size ≤ g → I g [] w) (a₁ : Nat → α → Act)
    (hassign : ∀ (l g : Nat) (x : α) (W : World) (K : Act → World → Prop), K (a₁ g x) W →
      assign.wpIn (F.inRound l) (n - 1 - 1) P (Exit.then K (fun _ _ _ => False)) { tmps := (ps.zip (encs g x)).foldl (fun t (p, v) => t.setIfInBounds p v) a.tmps, defers := [] } W)
    (hbody : ∀ (l g : Nat) (pre : List α) (x : α) (W : World), w.heap.size ≤ g → I g pre W → X g x W → pre ++ [x] <+: L → body.wpIn (F.inRound l) (n - 1 - 1) P (someEnd kp w.heap.size I Ix g (pre ++ [x]) W) (a₁ g x) W)
    (hdone : ∀ (D g : Nat) (W : World), w.heap.size ≤ D → I g L W → W.heap[D]? = some (.deferred (some [])) → Q .normal { a with defers := { target := .collected D, args := #[] } :: a.defers } W)
    (hstop : ∀ (D g : Nat) (c : Code) (pre : List α) (W : World), w.heap.size ≤ D → pre <+: L → Ix c g pre W → W.heap[D]? = some (.deferred (some [])) → c.wpIn F n P Q { a with defers := { target := .collected D, args := #[] } :: a.defers } W) :
    (Code.rangeFunc gx ps assign body).wpIn F n P Q a w := by
  refine wpIn_rangeFunc fun fn hfn => ?_
  rw [hro]
  obtain ⟨rc, hrc⟩ : ∃ rc : LoopState → Option Code → Loop, rc = fun st pe => { state := st, pending := pe, fn, tmps := a.tmps, params := ps, assign, body, defers := w.heap.size } := ⟨_, rfl⟩
  have hen := run_enterLoop_outer (P := P) (w := w) fn a.tmps ps assign body
  have hloop : ((w.alloc (.deferred (some []))).alloc (.loop (rc .ready none))).heap[w.heap.size + 1]? = some (.loop (rc .ready none)) := by
    have := World.alloc_heap_new (w.alloc (.deferred (some []))) (.loop (rc .ready none)); rwa [World.size_alloc] at this
  have hdef : ((w.alloc (.deferred (some []))).alloc (.loop (rc .ready none))).heap[w.heap.size]? = some (.deferred (some [])) :=
    (Below.heap_alloc _ _ _ (by simp)).trans (World.alloc_heap_new w _)
  have hIn : ∀ g, w.heap.size + 2 ≤ g → I g [] ((w.alloc (.deferred (some []))).alloc (.loop (rc .ready none))) := fun g hg => hI _ _ _ _ (hI _ _ _ _ (h0 g (by omega)) (.alloc _ _)) (.alloc _ _)
  have hbl : Below w.heap.size w ((w.alloc (.deferred (some []))).alloc (.loop (rc .ready none))) := ((Below.refl _ w).alloc (Nat.le_refl _) _).alloc (by simp) _
  have hsz : ((w.alloc (.deferred (some []))).alloc (.loop (rc .ready none))).heap.size = w.heap.size + 2 := by simp
  rw [show ({ state := .ready, pending := none, fn, tmps := a.tmps, params := ps, assign, body, defers := w.heap.size } : Loop) = rc .ready none by rw [hrc]] at hen
  generalize (w.alloc (.deferred (some []))).alloc (.loop (rc .ready none)) = W1 at *
  refine ⟨_, _, W1, { target := .fn (.func gf) lb, args := #[.func (.yield (w.heap.size + 1)) #[] #[]] }, W1, gf, #[.func (.yield (w.heap.size + 1)) #[] #[]] ++ lb, W1, hen, ?_, ?_, ?_, fun _ => h1, ?_⟩
  · simp only [resolve, hg]
    simp [go_sem]
  · intro f' hf'
    simp [Target.leads] at hf'
    subst hf'
    exact hFg
  · simp [invoke, go_sem, eg]
  · refine (hseq (w.heap.size + 1) (fun g pre W => I g pre W ∧ W.heap[w.heap.size + 1]? = some (.loop (rc .ready none)) ∧ W.heap[w.heap.size]? = some (.deferred (some [])))
      (fun g pre W => ∃ c, Ix c g pre W ∧ W.heap[w.heap.size + 1]? = some (.loop (rc .done (some c))) ∧ W.heap[w.heap.size]? = some (.deferred (some []))) W1 hbl ?_ ?_ ?_ (fun g hg => ⟨hIn g (by omega), hloop, hdef⟩)).mono ?_
    · rintro g s A B ⟨hi, hl, hd⟩ hc
      exact ⟨hI g s A B hi (hc.weaken (by omega)), hc.block _ _ (.inl (by omega)) hl, hc.block _ _ (.inl (by omega)) hd⟩
    · rintro g s A B ⟨c, hi, hl, hd⟩ hc
      exact ⟨c, hIx c g s A B hi (hc.weaken (by omega)), hc.block _ _ (.inl (by omega)) hl, hc.block _ _ (.inl (by omega)) hd⟩
    · rintro g pre x W ⟨hi, hl, hd⟩ hx hg hlen
      have hlt := (Array.getElem?_eq_some_iff.1 hl).1
      have hy := run_yield (P := P) (args := encs g x) hl (by rw [hrc]; exact hps g x)
      rw [hrc] at hy
      refine ⟨fn, _, assign, body, hy, roundIn_of_wpIn hfn (hassign _ g x W _ ⟨_, run_beginRound hl (by rw [hrc]), ?_⟩)⟩
      have hst : ({ rc .ready none with state := .busy } : Loop) = rc .busy none := by rw [hrc]
      rw [hst]
      have k1 : ¬ kp (w.heap.size + 1) := fun h => by have := hkp _ h; omega
      refine wpIn_mono (hbody _ g pre x _ (by omega) (hI _ _ _ _ hi (Chg.putObj W _ _ hl (by omega) rfl)) (hX _ _ _ _ _ _ hx hl rfl) hlen) ?_
      have fin : ∀ (jump : Option Code) (W3 : World), KeepK kp w.heap.size (W.putObj (w.heap.size + 1) (.loop (rc .busy none))) W3 →
          (Instr.endRound (w.heap.size + 1) jump).run P W3 = .ok (.bool jump.isNone) (W3.putObj (w.heap.size + 1) (.loop (rc (if jump.isNone then .ready else .done) jump))) ∧
          W3.heap[w.heap.size + 1]? = some (.loop (rc .busy none)) ∧
          (W3.putObj (w.heap.size + 1) (.loop (rc (if jump.isNone then .ready else .done) jump))).heap[w.heap.size + 1]? = some (.loop (rc (if jump.isNone then .ready else .done) jump)) ∧
          (W3.putObj (w.heap.size + 1) (.loop (rc (if jump.isNone then .ready else .done) jump))).heap[w.heap.size]? = some (.deferred (some [])) ∧
          KeepK kp W1.heap.size W (W3.putObj (w.heap.size + 1) (.loop (rc (if jump.isNone then .ready else .done) jump))) := fun jump W3 hk => by
        have hl3 : W3.heap[w.heap.size + 1]? = some (.loop (rc .busy none)) := hk.block _ _ (.inr (by omega)) (World.putObj_heap_same hlt)
        have hd3 : W3.heap[w.heap.size]? = some (.deferred (some [])) := hk.block _ _ (.inr (by omega)) ((World.putObj_heap_other (by omega)).trans hd)
        have := run_endRound (P := P) jump hl3
        rw [hrc] at this hl3 ⊢
        exact ⟨this, hl3, World.putObj_heap_same (Array.getElem?_eq_some_iff.1 hl3).1, (World.putObj_heap_other (by omega)).trans hd3,
          ((KeepK.putObj W _ _ k1 (by omega)).trans ((by rw [hrc] at hk; exact hk.weaken fun k h => h.imp_right (by omega)))).trans (KeepK.putObj W3 _ _ k1 (by omega))⟩
      rintro en a3 W3 hp
      cases en with
      | normal =>
        obtain ⟨hk, hi3⟩ := hp
        obtain ⟨hr, hl3, hl4, hk4, hK⟩ := fin none W3 hk
        exact ⟨_, _, hr, hK, .inl ⟨rfl, hI _ _ _ _ hi3 (Chg.putObj W3 _ _ hl3 (by omega) rfl), hl4, hk4⟩⟩
      | ret =>
        obtain ⟨hk, hi3⟩ := hp
        obtain ⟨hr, hl3, hl4, hk4, hK⟩ := fin (some .ret) W3 hk
        exact ⟨_, _, hr, hK, .inr ⟨rfl, .ret, hIx _ _ _ _ _ hi3 (Chg.putObj W3 _ _ hl3 (by omega) rfl), hl4, hk4⟩⟩
      | exit id =>
        obtain ⟨hk, hi3⟩ := hp
        obtain ⟨hr, hl3, hl4, hk4, hK⟩ := fin (some (.exit id)) W3 hk
        exact ⟨_, _, hr, hK, .inr ⟨rfl, .exit id, hIx _ _ _ _ _ hi3 (Chg.putObj W3 _ _ hl3 (by omega) rfl), hl4, hk4⟩⟩
      | goto t =>
        obtain ⟨hk, hi3⟩ := hp
        obtain ⟨hr, hl3, hl4, hk4, hK⟩ := fin (some (.goto t)) W3 hk
        exact ⟨_, _, hr, hK, .inr ⟨rfl, .goto t, hIx _ _ _ _ _ hi3 (Chg.putObj W3 _ _ hl3 (by omega) rfl), hl4, hk4⟩⟩
      | panic ch => exact hp.elim
      | outgrown => exact hp.elim
    · rintro en W2 ⟨⟨v, rfl⟩, ⟨g, hi, hl, hd⟩ | ⟨g, pre, hpre, c, hi, hl, hd⟩⟩
      · exact ⟨none, _, by have := run_endLoop (P := P) hl (by rw [hrc]; simp); rw [hrc] at this; exact this, hdone _ g _ (Nat.le_refl _) (hI _ _ _ _ hi (Chg.putObj W2 _ _ hl (by omega) rfl)) ((World.putObj_heap_other (by omega)).trans hd)⟩
      · exact ⟨some c, _, by have := run_endLoop (P := P) hl (by rw [hrc]; simp); rw [hrc] at this; exact this, hstop _ g c pre _ (Nat.le_refl _) hpre (hIx _ _ _ _ _ hi (Chg.putObj W2 _ _ hl (by omega) rfl)) ((World.putObj_heap_other (by omega)).trans hd)⟩
end Go.Proofs.YtpmlomhlbmgilaaDoor
end
