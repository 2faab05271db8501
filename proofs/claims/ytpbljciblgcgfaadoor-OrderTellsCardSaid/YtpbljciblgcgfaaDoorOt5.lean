/- Cycle, OrdKeeps, OrdEx in one text, for the claim. -/
import Derived.Test.YtpbljciblgcgfaaDoorOt4
import Derived.Test.YtpbljciblgcgfaaDoorRelAid2
import Derived.Test.YtpbljciblgcgfaaDoorOt3

section
/- Walks, cycles, topological orders: what Top, Ring and Plus have to do with each other. -/
namespace Go.Proofs.YtpbljciblgcgfaaDoor
open Go.RowKit Go.Shelf

/-- A walk of so many steps. -/
def Wk (f : Nat → Nat) : Nat → Nat → Nat → Prop
  | 0, i, j => i = j
  | m + 1, i, j => ∃ k, k < 48 ∧ Bt f i k ∧ Wk f m k j
theorem wk_one {f : Nat → Nat} {i j : Nat} (hj : j < 48) (h : Bt f i j) : Wk f 1 i j := ⟨j, hj, h, rfl⟩
theorem wk_add {f : Nat → Nat} {n k j : Nat} : ∀ {m i : Nat}, Wk f m i k → Wk f n k j → Wk f (m + n) i j
  | 0, i, h, h2 => by cases h; rwa [Nat.zero_add]
  | m + 1, i, ⟨x, hx, hb, h⟩, h2 => by
    rw [show m + 1 + n = (m + n) + 1 by omega]
    exact ⟨x, hx, hb, wk_add h h2⟩
theorem wk_snoc {f : Nat → Nat} {m i j : Nat} : Wk f (m + 1) i j ↔ ∃ k, Wk f m i k ∧ j < 48 ∧ Bt f k j := by
  constructor
  · intro h
    induction m generalizing i with
    | zero => obtain ⟨k, hk, hb, rfl⟩ := h; exact ⟨i, rfl, hk, hb⟩
    | succ m ih =>
      obtain ⟨k, hk, hb, h⟩ := h
      obtain ⟨x, h1, h2, h3⟩ := ih h
      exact ⟨x, ⟨k, hk, hb, h1⟩, h2, h3⟩
  · rintro ⟨k, h, hj, hb⟩
    exact wk_add h (wk_one hj hb)
theorem wk_item {N : Nat} {f : Nat → Nat} (hf : Rgt N f) {m i j : Nat} (hi : i < 48) (h : Wk f (m + 1) i j) : i < N ∧ j < N := by
  have h1 : i < N := by obtain ⟨k, _, hb, _⟩ := h; exact hf.fst hi hb
  refine ⟨h1, ?_⟩
  have key : ∀ (m i : Nat), i < N → Wk f m i j → j < N := by
    intro m
    induction m with
    | zero => intro i hi h; cases h; exact hi
    | succ m ih => intro i hi h; obtain ⟨k, _, hb, h⟩ := h; exact ih k (hf.snd (by have := hf.le; omega) hb) h
  exact key _ _ h1 h
/-- The items of a walk, one after the other. -/
theorem wk_seq {f : Nat → Nat} {j : Nat} : ∀ {m i : Nat}, Wk f m i j → ∃ v : Nat → Nat, v 0 = i ∧ v m = j ∧ ∀ t, t < m → v (t + 1) < 48 ∧ Bt f (v t) (v (t + 1))
  | 0, i, h => ⟨fun _ => i, rfl, h, fun t ht => by omega⟩
  | m + 1, i, ⟨k, hk, hb, h⟩ => by
    obtain ⟨v, h0, h1, h2⟩ := wk_seq h
    refine ⟨fun t => if t = 0 then i else v (t - 1), rfl, by simpa using h1, fun t ht => ?_⟩
    cases t with
    | zero => simp only [if_pos, Nat.zero_add, Nat.one_ne_zero, if_false, Nat.sub_self]; rw [h0]; exact ⟨hk, hb⟩
    | succ t => simpa using h2 t (by omega)
theorem seq_wk {f : Nat → Nat} {v : Nat → Nat} {i : Nat} : ∀ {d : Nat}, (∀ t, t < d → v (i + t + 1) < 48 ∧ Bt f (v (i + t)) (v (i + t + 1))) → Wk f d (v i) (v (i + d))
  | 0, _ => rfl
  | d + 1, h => wk_snoc.2 ⟨v (i + d), seq_wk (fun t ht => h t (by omega)), (h d (by omega)).1, (h d (by omega)).2⟩
theorem nodup_le : ∀ (n : Nat) (l : List Nat), l.Nodup → (∀ x ∈ l, x < n) → l.length ≤ n
  | 0, l, _, h => by
    cases l with
    | nil => simp
    | cons a l => have := h a List.mem_cons_self; omega
  | n + 1, l, hn, h => by
    by_cases hm : n ∈ l
    · have h1 := nodup_le n (l.erase n) (hn.erase n) (fun x hx => by
        have := (hn.mem_erase_iff).1 hx
        have := h x this.2
        omega)
      rw [List.length_erase_of_mem hm] at h1
      omega
    · have := nodup_le n l hn (fun x hx => by have := h x hx; have : x ≠ n := fun e => hm (e ▸ hx); omega)
      omega
/-- Among more numbers than there are, two are the same. -/
theorem pigeon {n m : Nat} {v : Nat → Nat} (hv : ∀ t, t < m → v t < n) (hm : n < m) : ∃ i j, i < j ∧ j < m ∧ v i = v j := by
  refine Classical.byContradiction fun hno => ?_
  have hnd : ((List.range m).map v).Nodup := by
    rw [List.nodup_iff_pairwise_ne, List.pairwise_map]
    refine List.Pairwise.imp_of_mem ?_ (List.pairwise_lt_range (n := m))
    intro a b ha hb hab he
    exact hno ⟨a, b, hab, List.mem_range.1 hb, he⟩
  have := nodup_le n _ hnd (fun x hx => by obtain ⟨t, ht, rfl⟩ := List.mem_map.1 hx; exact hv t (List.mem_range.1 ht))
  simp at this
  omega

/-- Some item comes back to itself. -/
def Cyc (N : Nat) (f : Nat → Nat) : Prop := ∃ a m, a < N ∧ Wk f (m + 1) a a
/-- The shortest walk that comes back is no longer than there are items. -/
theorem cyc_short {N : Nat} {f : Nat → Nat} (hf : Rgt N f) (h : Cyc N f) : ∃ a m, a < N ∧ m < N ∧ Wk f (m + 1) a a := by
  obtain ⟨a, m, ha, hw⟩ := h
  induction m using Nat.strongRecOn generalizing a with
  | ind m ih =>
    by_cases hm : m < N
    · exact ⟨a, m, ha, hm, hw⟩
    · obtain ⟨v, v0, v1, hv⟩ := wk_seq hw
      have hvN : ∀ t, t < m + 1 → v t < N := fun t ht => by
        cases t with
        | zero => rw [v0]; exact ha
        | succ t => exact hf.snd (Nat.lt_of_lt_of_le (by
            cases t with
            | zero => rw [v0]; exact ha
            | succ t => exact hf.snd (by
                have := (hv t (by omega)).2
                rcases Nat.lt_or_ge (v t) 48 with h | h
                · exact h
                · exact absurd this (by
                    cases t with
                    | zero => rw [v0] at h; have := hf.le; omega
                    | succ t => have := (hv t (by omega)).1; omega)) (hv t (by omega)).2) hf.le) (hv t (by omega)).2
      obtain ⟨i, j, hij, hj, he⟩ := pigeon hvN (by omega : N < m + 1)
      have hwk := seq_wk (f := f) (v := v) (i := i) (d := j - i) (fun t ht => hv (i + t) (by omega))
      rw [show i + (j - i) = j by omega, ← he] at hwk
      obtain ⟨d, hd⟩ : ∃ d, j - i = d + 1 := ⟨j - i - 1, by omega⟩
      rw [hd] at hwk
      exact ih d (by omega) (v i) (hvN i (by omega)) hwk
theorem plus_wk {N : Nat} {f : Nat → Nat} (hf : Rgt N f) {i j : Nat} (hi : i < 48) : Bt (plusF N f) i j ↔ ∃ m, Wk f (m + 1) i j := by
  constructor
  · intro h
    obtain ⟨k, _, hk⟩ := plus_at hf
    have h := (hk i j hi).1 h
    have key : ∀ k i j, i < 48 → Bt (iterF N f k) i j → ∃ m, Wk f (m + 1) i j := by
      intro k
      induction k with
      | zero => intro i j hi h; exact ⟨0, wk_one (hf.snd48 hi h) h⟩
      | succ k ih =>
        intro i j hi h
        rcases (bt_iter hf k hi).1 h with h | ⟨m, hm, h1, h2⟩
        · exact ih i j hi h
        · obtain ⟨x, h1⟩ := ih i m hi h1
          obtain ⟨y, h2⟩ := ih m j hm h2
          exact ⟨x + 1 + y, by have := wk_add h1 h2; rwa [show x + 1 + (y + 1) = x + 1 + y + 1 by omega] at this⟩
    exact key k i j hi h
  · rintro ⟨m, h⟩
    induction m generalizing i with
    | zero => obtain ⟨k, hk, hb, rfl⟩ := h; exact plus_base hf hi hb
    | succ m ih => obtain ⟨k, hk, hb, h⟩ := h; exact plus_trans hf hi hk (plus_base hf hi hb) (ih hk h)
theorem irr_plus {N : Nat} {f : Nat → Nat} (hf : Rgt N f) : irrK (plusF N f) N = true ↔ ¬ Cyc N f := by
  rw [irrK_iff]
  constructor
  · rintro h ⟨a, m, ha, hw⟩
    exact h a ha ((plus_wk hf (by have := hf.le; omega)).2 ⟨m, hw⟩)
  · intro h i hi hb
    obtain ⟨m, hw⟩ := (plus_wk hf (by have := hf.le; omega)).1 hb
    exact h ⟨i, m, hi, hw⟩

/-! ### Top -/
/-- All items, each behind those that come before it. -/
structure TopOK (N : Nat) (f : Nat → Nat) (l : List Nat) : Prop where
  nodup : l.Nodup
  mem : ∀ x, x ∈ l ↔ x < N
  pred : ∀ (k : Nat) (x : Nat), l[k]? = some x → ∀ i, i < 48 → Bt f i x → i ∈ l.take k
theorem and_zero_iff (x y : Nat) : x &&& y = 0 ↔ ∀ j, x.testBit j = true → y.testBit j = false := by
  constructor
  · intro h j hx
    have := congrArg (fun z => z.testBit j) h
    simpa [hx] using this
  · intro h
    apply Nat.eq_of_testBit_eq
    intro j
    rw [Nat.testBit_and, Nat.zero_testBit]
    cases hx : x.testBit j
    · rfl
    · simp [h j hx]
theorem mem_els48 {s i : Nat} (hs : s < 2 ^ 48) : i ∈ MM.els s ↔ s.testBit i = true := by
  rw [MM.mem_els]
  exact ⟨fun h => h.2, fun h => ⟨by have := bit_lt hs h; omega, h⟩⟩
theorem top_go {N : Nat} {f : Nat → Nat} (hf : Rgt N f) : ∀ (k s : Nat) (acc : List Nat), s < 2 ^ 48 → (MM.els s).length ≤ k →
    acc.Nodup → (∀ x, x ∈ acc ∨ s.testBit x = true ↔ x < N) → (∀ x, x ∈ acc → s.testBit x = false) → (∀ (k : Nat) (x : Nat), acc[k]? = some x → ∀ i, i < 48 → Bt f i x → i ∈ acc.take k) →
    (∃ l, topGo (backF N f) k s acc = some l ∧ TopOK N f l) ∨ (topGo (backF N f) k s acc = none ∧ Cyc N f) := by
  intro k
  induction k with
  | zero =>
    intro s acc hs hk hnd hall hdis hpred
    have h0 : s = 0 := Decidable.byContradiction fun h => by have := els_pos hs h; omega
    subst h0
    refine .inl ⟨acc, topGo_zero _ _ _, hnd, fun x => ?_, hpred⟩
    rw [← hall x]; simp
  | succ k ih =>
    intro s acc hs hk hnd hall hdis hpred
    by_cases h0 : s = 0
    · subst h0
      refine .inl ⟨acc, topGo_zero _ _ _, hnd, fun x => ?_, hpred⟩
      rw [← hall x]; simp
    · cases hsrc : srcOf (backF N f) s (MM.els s) with
      | none =>
        refine .inr ⟨topGo_none _ _ _ _ h0 hsrc, ?_⟩
        have hp : ∀ x, s.testBit x = true → ∃ y, s.testBit y = true ∧ y < 48 ∧ Bt f y x := by
          intro x hx
          have hx48 := bit_lt hs hx
          have h1 := List.find?_eq_none.1 hsrc x ((mem_els48 hs).2 hx)
          simp only [decide_eq_true_eq] at h1
          rw [and_zero_iff] at h1
          obtain ⟨y, hy⟩ := Classical.not_forall.1 h1
          obtain ⟨hy1, hy2⟩ := Classical.not_imp.1 hy
          have hy1 := (bt_back hf hx48).1 hy1
          exact ⟨y, by simpa using hy2, hy1.1, hy1.2⟩
        obtain ⟨a, ha⟩ : ∃ a, s.testBit a = true := by
          refine Classical.byContradiction fun hn => h0 (Nat.eq_of_testBit_eq fun j => ?_)
          rw [Nat.zero_testBit, Bool.eq_false_iff]
          exact fun hb => hn ⟨j, hb⟩
        -- walks of any length that stay in s
        have hlong : ∀ m x, s.testBit x = true → ∃ v : Nat → Nat, v m = x ∧ (∀ t, t ≤ m → s.testBit (v t) = true) ∧ ∀ t, t < m → v (t + 1) < 48 ∧ Bt f (v t) (v (t + 1)) := by
          intro m
          induction m with
          | zero => intro x hx; exact ⟨fun _ => x, rfl, fun _ _ => hx, fun t ht => by omega⟩
          | succ m ihm =>
            intro x hx
            obtain ⟨y, hy, _, hb⟩ := hp x hx
            obtain ⟨v, v1, v2, v3⟩ := ihm y hy
            refine ⟨fun t => if t ≤ m then v t else x, if_neg (by omega), fun t ht => ?_, fun t ht => ?_⟩
            · show s.testBit (if t ≤ m then v t else x) = true
              split
              · exact v2 t (by assumption)
              · exact hx
            · show (if t + 1 ≤ m then v (t + 1) else x) < 48 ∧ Bt f (if t ≤ m then v t else x) (if t + 1 ≤ m then v (t + 1) else x)
              rw [if_pos (show t ≤ m by omega)]
              split
              · exact v3 t (by omega)
              · obtain rfl : t = m := by omega
                rw [v1]
                exact ⟨bit_lt hs hx, hb⟩
        obtain ⟨v, _, v2, v3⟩ := hlong 48 a ha
        obtain ⟨i, j, hij, hj, he⟩ := pigeon (n := 48) (m := 49) (v := v) (fun t ht => bit_lt hs (v2 t (by omega))) (by omega)
        have hwk := seq_wk (f := f) (v := v) (i := i) (d := j - i) (fun t ht => v3 (i + t) (by omega))
        rw [show i + (j - i) = j by omega, ← he] at hwk
        obtain ⟨d, hd⟩ : ∃ d, j - i = d + 1 := ⟨j - i - 1, by omega⟩
        rw [hd] at hwk
        exact ⟨v i, d, (hall _).1 (.inr (v2 i (by omega))), hwk⟩
      | some a =>
        have ham := srcOf_mem hsrc
        have ha := (mem_els48 hs).1 ham
        have ha48 := bit_lt hs ha
        rw [topGo_some _ _ _ _ h0 a hsrc]
        have hz : backF N f a &&& s = 0 := by
          have := List.find?_some hsrc
          simpa using this
        have hnot : a ∉ acc := fun h => by have := hdis a h; rw [ha] at this; cases this
        refine ih (clr s a) (acc ++ [a]) (clr_lt s a hs) (by have := els_clr_len s a hs ham; omega) ?_ ?_ ?_ ?_
        · rw [List.nodup_append]
          exact ⟨hnd, by simp, fun x hx y hy => by simp at hy; subst hy; exact fun e => hnot (e ▸ hx)⟩
        · intro x
          rw [← hall x, clr_bit s a hs ha48, List.mem_append, List.mem_singleton]
          constructor
          · rintro ((h | rfl) | h)
            · exact .inl h
            · exact .inr ha
            · exact .inr (by rw [Bool.and_eq_true] at h; exact h.1)
          · rintro (h | h)
            · exact .inl (.inl h)
            · by_cases he : x = a
              · exact .inl (.inr he)
              · exact .inr (by rw [h]; simpa using he)
        · intro x hx
          rw [clr_bit s a hs ha48]
          rcases List.mem_append.1 hx with h | h
          · rw [hdis x h]; rfl
          · simp at h; subst h; simp
        · intro m x hm i hi hb
          rcases Nat.lt_or_ge m acc.length with hlt | hge
          · rw [List.getElem?_append_left hlt] at hm
            rw [List.take_append_of_le_length (by omega)]
            exact hpred m x hm i hi hb
          · rw [List.getElem?_append_right hge] at hm
            have hme : m - acc.length = 0 ∧ x = a := by
              cases hd : m - acc.length with
              | zero => rw [hd] at hm; simp at hm; exact ⟨rfl, hm.symm⟩
              | succ d => rw [hd] at hm; simp at hm
            obtain ⟨hme, rfl⟩ := hme
            obtain rfl : m = acc.length := by omega
            rw [List.take_left]
            have hbk : Bt (backF N f) x i := (bt_back hf ha48).2 ⟨hi, hb⟩
            have hsi := (and_zero_iff _ _).1 hz i hbk
            have hiN := hf.fst hi hb
            rcases (hall i).2 hiN with h | h
            · exact h
            · rw [hsi] at h; cases h
theorem top_cyc {N : Nat} {f : Nat → Nat} (hf : Rgt N f) : (∃ l, topF N f = some l ∧ TopOK N f l) ∨ (topF N f = none ∧ Cyc N f) := by
  unfold topF
  rw [show rightB (N : Int) f = true from hf, if_pos rfl, Int.toNat_natCast]
  have ha := fun x => allOf_bits N x hf.le
  refine top_go hf 48 _ [] (allOf_lt48 (N : Int) (by omega) (by have := hf.le; omega)).1 (els_le48 (allOf_lt48 (N : Int) (by omega) (by have := hf.le; omega)).1) List.nodup_nil ?_ (fun x h => by cases h) (fun k x h => by simp at h)
  intro x
  rw [ha x]
  simp
theorem TopOK.acyclic {N : Nat} {f : Nat → Nat} (hf : Rgt N f) {l : List Nat} (h : TopOK N f l) : ¬ Cyc N f := by
  -- an item's place in the list grows along a walk
  have hstep : ∀ i j, i < 48 → Bt f i j → l.idxOf i < l.idxOf j := by
    intro i j hi hb
    have hjl : j ∈ l := (h.mem j).2 (hf.snd hi hb)
    have hlt := List.idxOf_lt_length_iff.2 hjl
    have hget : l[l.idxOf j]? = some j := by rw [List.getElem?_eq_getElem hlt, List.getElem_idxOf hlt]
    have hm := h.pred _ _ hget i hi hb
    obtain ⟨m, hm1, hm2⟩ := List.mem_iff_getElem.1 hm
    rw [List.length_take] at hm1
    rw [List.getElem_take] at hm2
    have hil : i ∈ l := List.mem_of_mem_take hm
    have hidx := List.idxOf_lt_length_iff.2 hil
    have he : l.idxOf i = m := by
      have h1 := List.getElem_idxOf hidx
      exact (List.getElem_inj h.nodup).1 (h1.trans hm2.symm)
    omega
  have hwalk : ∀ m i j, i < 48 → Wk f (m + 1) i j → l.idxOf i < l.idxOf j := by
    intro m
    induction m with
    | zero => rintro i j hi ⟨k, hk, hb, rfl⟩; exact hstep i k hi hb
    | succ m ih => rintro i j hi ⟨k, hk, hb, hw⟩; have := hstep i k hi hb; have := ih k j hk hw; omega
  rintro ⟨a, m, ha, hw⟩
  have := hwalk m a a (by have := hf.le; omega) hw
  omega

/-! ### Ring -/
theorem lowF_mem {s : Nat} (hs : s < 2 ^ 48) (h : s ≠ 0) : s.testBit (lowF s) = true := by
  have hp := els_pos hs h
  cases he : MM.els s with
  | nil => rw [he] at hp; simp at hp
  | cons k l =>
    have hk : lowF s = k := by unfold lowF; rw [he, nextOf_head]; rfl
    rw [hk]
    exact (mem_els48 hs).1 (by rw [he]; exact List.mem_cons_self)
/-- What the list of sets holds: from where a walk of so many steps leads to a. -/
def Away (N : Nat) (f : Nat → Nat) (a : Nat) (aw : List Nat) : Prop := 0 < aw.length ∧ ∀ t, t < aw.length → ∀ i, (aw.getD t 0).testBit i = true ↔ i < N ∧ Wk f t i a
theorem away_start {N : Nat} {f : Nat → Nat} {a : Nat} (ha : a < N) : Away N f a [2 ^ a] := by
  refine ⟨by simp, fun t ht i => ?_⟩
  obtain rfl : t = 0 := by simpa using ht
  show (2 ^ a).testBit i = true ↔ _
  rw [Nat.testBit_two_pow, decide_eq_true_iff]
  constructor
  · rintro rfl; exact ⟨ha, rfl⟩
  · rintro ⟨_, h⟩; exact h.symm
theorem away_step {N : Nat} {f : Nat → Nat} (hf : Rgt N f) {a : Nat} {aw : List Nat} (h : Away N f a aw) (i : Nat) : (imgF (backF N f) (aw.getD (aw.length - 1) 0)).testBit i = true ↔ i < N ∧ Wk f aw.length i a := by
  have hl := h.1
  obtain ⟨L, hL⟩ : ∃ L, aw.length = L + 1 := ⟨aw.length - 1, by omega⟩
  rw [bt_img, hL]
  have h1 := h.2 L (by omega)
  simp only [Nat.add_sub_cancel]
  have hle := hf.le
  constructor
  · rintro ⟨k, _, hk, hb⟩
    have hk := (h1 k).1 hk
    have hb := (bt_back hf (by omega)).1 hb
    exact ⟨hf.fst hb.1 hb.2, k, by omega, hb.2, hk.2⟩
  · rintro ⟨hi, k, hk, hb, hw⟩
    have hkN := hf.snd (by omega : i < 48) hb
    exact ⟨k, by omega, (h1 k).2 ⟨hkN, hw⟩, (bt_back hf hk).2 ⟨by omega, hb⟩⟩
theorem away_snoc {N : Nat} {f : Nat → Nat} (hf : Rgt N f) {a : Nat} {aw : List Nat} (h : Away N f a aw) : Away N f a (aw ++ [imgF (backF N f) (aw.getD (aw.length - 1) 0)]) := by
  refine ⟨by simp, fun t ht i => ?_⟩
  rw [List.length_append, List.length_singleton] at ht
  rcases Nat.lt_or_ge t aw.length with hlt | hge
  · rw [List.getD_eq_getElem?_getD, List.getElem?_append_left hlt, ← List.getD_eq_getElem?_getD]
    exact h.2 t hlt i
  · obtain rfl : t = aw.length := by omega
    rw [List.getD_eq_getElem?_getD, List.getElem?_append_right (Nat.le_refl _), Nat.sub_self]
    exact away_step hf h i
/-- A round of so many steps, that goes through its own items. -/
structure RingL (N : Nat) (f : Nat → Nat) (a : Nat) (l : List Nat) : Prop where
  pos : 0 < l.length
  head : l[0]? = some a
  item : ∀ x ∈ l, x < N
  next : ∀ i x y, l[i]? = some x → l[i + 1]? = some y → Bt f x y
  back : ∀ x, l[l.length - 1]? = some x → Bt f x a
theorem desc_ring {N : Nat} {f : Nat → Nat} (hf : Rgt N f) {a0 : Nat} {aw : List Nat} (hA : Away N f a0 aw) : ∀ (k a : Nat) (acc : List Nat), k < aw.length → a < N → Wk f (k + 1) a a0 →
    acc[acc.length - 1]? = some a → acc[0]? = some a0 → (∀ x ∈ acc, x < N) → (∀ i x y, acc[i]? = some x → acc[i + 1]? = some y → Bt f x y) → RingL N f a0 (descGo f aw k a acc)
  | 0, a, acc, hk, ha, hw, hlast, hhead, hitem, hnext => by
    have hp : 0 < acc.length := (List.getElem?_eq_some_iff.1 hhead).1
    refine ⟨hp, hhead, hitem, hnext, fun x hx => ?_⟩
    change acc[acc.length - 1]? = some x at hx
    rw [hlast] at hx
    cases hx
    obtain ⟨y, _, hb, rfl⟩ := hw
    exact hb
  | k + 1, a, acc, hk, ha, hw, hlast, hhead, hitem, hnext => by
    have hp : 0 < acc.length := (List.getElem?_eq_some_iff.1 hhead).1
    have hle := hf.le
    obtain ⟨x, hx, hb, hw2⟩ := hw
    have hxN := hf.snd (by omega : a < 48) hb
    have hm := (hA.2 (k + 1) hk x).2 ⟨hxN, hw2⟩
    have hfa : f a < 2 ^ 48 := lt_of_bits fun j hj => hf.snd48 (by omega) hj
    have hs : f a &&& aw.getD (k + 1) 0 < 2 ^ 48 := Nat.lt_of_le_of_lt Nat.and_le_left hfa
    have hne : f a &&& aw.getD (k + 1) 0 ≠ 0 := fun h0 => by
      have := (and_zero_iff _ _).1 h0 x hb
      rw [hm] at this; cases this
    have hlow := lowF_mem hs hne
    rw [Nat.testBit_and, Bool.and_eq_true] at hlow
    obtain ⟨b1, b2⟩ := hlow
    have b2 := (hA.2 (k + 1) hk _).1 b2
    unfold descGo
    refine desc_ring hf hA k _ _ (by omega) b2.1 b2.2 ?_ ?_ ?_ ?_
    · simp
    · rw [List.getElem?_append_left hp]; exact hhead
    · intro y hy
      rcases List.mem_append.1 hy with h | h
      · exact hitem y h
      · simp at h; subst h; exact b2.1
    · intro i x y h1 h2
      rcases Nat.lt_or_ge (i + 1) acc.length with hlt | hge
      · rw [List.getElem?_append_left (by omega)] at h1
        rw [List.getElem?_append_left hlt] at h2
        exact hnext i x y h1 h2
      · have h3 : i + 1 < (acc ++ [lowF (f a &&& aw.getD (k + 1) 0)]).length := (List.getElem?_eq_some_iff.1 h2).1
        simp at h3
        obtain rfl : i = acc.length - 1 := by omega
        rw [List.getElem?_append_left (by omega), hlast] at h1
        rw [show acc.length - 1 + 1 = acc.length by omega, List.getElem?_append_right (Nat.le_refl _), Nat.sub_self] at h2
        cases h1
        simp at h2
        rw [← h2]
        exact b1
theorem ring_go {N : Nat} {f : Nat → Nat} (hf : Rgt N f) {a : Nat} (ha : a < N) : ∀ (m : Nat) (aw : List Nat), Away N f a aw → (∀ t, 0 < t → t < aw.length → ¬ Wk f t a a) →
    (∃ l, ringGo f (backF N f) a m aw = some l ∧ RingL N f a l ∧ (∀ t, 0 < t → t < l.length → ¬ Wk f t a a) ∧ Wk f l.length a a) ∨
      (ringGo f (backF N f) a m aw = none ∧ ∀ t, 0 < t → t < aw.length + m → ¬ Wk f t a a)
  | 0, aw, _, hno => .inr ⟨rfl, hno⟩
  | m + 1, aw, hA, hno => by
    have hstep := away_step hf hA a
    rw [ringGo_succ]
    split
    · rename_i hb
      have hw := (hstep.1 hb).2
      have hlen := descF_len f aw a hA.1
      refine .inl ⟨_, rfl, ?_, ?_, ?_⟩
      · unfold descF
        refine desc_ring hf hA _ a [a] (by have := hA.1; omega) ha ?_ rfl rfl ?_ ?_
        · rwa [show aw.length - 1 + 1 = aw.length by have := hA.1; omega]
        · intro x hx; simp at hx; subst hx; exact ha
        · intro i x y _ h; simp at h
      · rw [hlen]; exact hno
      · rw [hlen]; exact hw
    · rename_i hb
      have hnw : ¬ Wk f aw.length a a := fun h => hb (hstep.2 ⟨ha, h⟩)
      have hlen : (aw ++ [imgF (backF N f) (aw.getD (aw.length - 1) 0)]).length = aw.length + 1 := by simp
      have ih := ring_go hf ha m _ (away_snoc hf hA) (by
        intro t h0 ht
        rw [hlen] at ht
        by_cases he : t = aw.length
        · rw [he]; exact hnw
        · exact hno t h0 (by omega))
      rw [hlen] at ih
      rcases ih with h | ⟨h1, h2⟩
      · exact .inl h
      · exact .inr ⟨h1, fun t h0 ht => h2 t h0 (by omega)⟩
/-- What Ring gives: a shortest round, from its least item. -/
structure RingOK (N : Nat) (f : Nat → Nat) (a : Nat) (l : List Nat) : Prop where
  ring : RingL N f a l
  walk : Wk f l.length a a
  short : ∀ x t, x < N → 0 < t → t < l.length → ¬ Wk f t x x
  least : ∀ x, x < a → ¬ Wk f l.length x x
theorem ring_upto {N : Nat} {f : Nat → Nat} (hf : Rgt N f) : ∀ k, k ≤ N →
    (∃ a l, ringUpto N f (backF N f) k = some l ∧ l.length ≤ N ∧ RingL N f a l ∧ Wk f l.length a a ∧ (∀ x t, x < k → 0 < t → t < l.length → ¬ Wk f t x x) ∧ ∀ x, x < a → ¬ Wk f l.length x x) ∨
      (ringUpto N f (backF N f) k = none ∧ ∀ x t, x < k → 0 < t → t ≤ N → ¬ Wk f t x x)
  | 0, _ => .inr ⟨rfl, fun x t h => by omega⟩
  | k + 1, hk => by
    have ih := ring_upto hf k (by omega)
    have hat := ring_go hf (a := k) (by omega) N [2 ^ k] (away_start (by omega)) (fun t h0 ht => by simp at ht; omega)
    have he : ringAtF N f (backF N f) k = ringGo f (backF N f) k N [2 ^ k] := by unfold ringAtF; rw [Int.toNat_natCast]
    have hu : ringUpto N f (backF N f) (k + 1) = better (ringUpto N f (backF N f) k) (ringAtF N f (backF N f) k) := rfl
    rw [hu, he]
    rcases ih with ⟨a, l, h1, hlN, hr, hw, hs, hl⟩ | ⟨h1, hs⟩
    · rcases hat with ⟨m, g1, gr, gs, gw⟩ | ⟨g1, gs⟩
      · have hmN : m.length ≤ N := by have := (ringGo_pos _ _ _ _ _ _ (by simp) g1).2; simp at this; omega
        rw [h1, g1]
        by_cases hlt : m.length < l.length
        · refine .inl ⟨k, m, by simp [better, hlt], hmN, gr, gw, fun x t hx h0 ht => ?_, fun x hx => ?_⟩
          · by_cases hxk : x = k
            · subst hxk; exact gs t h0 ht
            · exact hs x t (by omega) h0 (by omega)
          · exact hs x m.length hx gr.pos hlt
        · refine .inl ⟨a, l, by simp [better, hlt], hlN, hr, hw, fun x t hx h0 ht => ?_, hl⟩
          by_cases hxk : x = k
          · subst hxk; exact gs t h0 (by omega)
          · exact hs x t (by omega) h0 ht
      · rw [h1, g1]
        refine .inl ⟨a, l, rfl, hlN, hr, hw, fun x t hx h0 ht => ?_, hl⟩
        by_cases hxk : x = k
        · subst hxk
          exact gs t h0 (by simp; omega)
        · exact hs x t (by omega) h0 ht
    · rcases hat with ⟨m, g1, gr, gs, gw⟩ | ⟨g1, gs⟩
      · have hmN : m.length ≤ N := by have := (ringGo_pos _ _ _ _ _ _ (by simp) g1).2; simp at this; omega
        rw [h1, g1]
        refine .inl ⟨k, m, rfl, hmN, gr, gw, fun x t hx h0 ht => ?_, fun x hx => hs x m.length hx gr.pos hmN⟩
        by_cases hxk : x = k
        · subst hxk; exact gs t h0 ht
        · exact hs x t (by omega) h0 (by omega)
      · rw [h1, g1]
        refine .inr ⟨rfl, fun x t hx h0 ht => ?_⟩
        by_cases hxk : x = k
        · subst hxk; exact gs t h0 (by simp; omega)
        · exact hs x t (by omega) h0 ht
theorem ring_cyc {N : Nat} {f : Nat → Nat} (hf : Rgt N f) : (∃ a l, ringF N f = some l ∧ l.length ≤ N ∧ RingOK N f a l) ∨ (ringF N f = none ∧ ¬ Cyc N f) := by
  unfold ringF
  rw [show rightB (N : Int) f = true from hf, if_pos rfl, Int.toNat_natCast]
  rcases ring_upto hf N (Nat.le_refl _) with ⟨a, l, h1, hN, hr, hw, hs, hl⟩ | ⟨h1, hs⟩
  · exact .inl ⟨a, l, h1, hN, hr, hw, hs, hl⟩
  · refine .inr ⟨h1, fun hc => ?_⟩
    obtain ⟨x, m, hx, hm, hw⟩ := cyc_short hf hc
    exact hs x (m + 1) hx (by omega) (by omega) hw
theorem RingOK.cyc {N : Nat} {f : Nat → Nat} {a : Nat} {l : List Nat} (h : RingOK N f a l) : Cyc N f :=
  ⟨a, l.length - 1, h.ring.item a (List.mem_of_getElem? h.ring.head), by rw [show l.length - 1 + 1 = l.length by have := h.ring.pos; omega]; exact h.walk⟩
/-- A way along the ring. -/
theorem RingL.way {N : Nat} {f : Nat → Nat} (hf : Rgt N f) {a : Nat} {l : List Nat} (h : RingL N f a l) {i : Nat} : ∀ {d : Nat} (x y : Nat), l[i]? = some x → l[i + d]? = some y → Wk f d x y
  | 0, x, y, h1, h2 => by rw [Nat.add_zero, h1] at h2; cases h2; rfl
  | d + 1, x, y, h1, h2 => by
    have hlt : i + d < l.length := by have := (List.getElem?_eq_some_iff.1 h2).1; omega
    have hz : l[i + d]? = some l[i + d] := List.getElem?_eq_getElem hlt
    have hy := h.item y (List.mem_of_getElem? h2)
    exact wk_snoc.2 ⟨_, RingL.way hf h x _ h1 hz, by have := hf.le; omega, h.next (i + d) _ y hz h2⟩
theorem RingOK.nodup {N : Nat} {f : Nat → Nat} (hf : Rgt N f) {a : Nat} {l : List Nat} (h : RingOK N f a l) {i j x : Nat} (hij : i < j) (hi : l[i]? = some x) (hj : l[j]? = some x) : False := by
  have hw := h.ring.way hf (i := i) (d := j - i) x x hi (by rwa [show i + (j - i) = j by omega])
  have hjl := (List.getElem?_eq_some_iff.1 hj).1
  exact h.short x (j - i) (h.ring.item x (List.mem_of_getElem? hi)) (by omega) (by omega) hw
theorem RingOK.first {N : Nat} {f : Nat → Nat} (hf : Rgt N f) {a : Nat} {l : List Nat} (h : RingOK N f a l) {i x : Nat} (hi : l[i]? = some x) : a ≤ x := by
  rcases Nat.lt_or_ge x a with hlt | hge
  · exfalso
    have hil := (List.getElem?_eq_some_iff.1 hi).1
    have hlast : l[l.length - 1]? = some l[l.length - 1] := List.getElem?_eq_getElem (by omega)
    have hw1 := h.ring.way hf (i := i) (d := l.length - 1 - i) x _ hi (by rwa [show i + (l.length - 1 - i) = l.length - 1 by omega])
    have haN := h.ring.item a (List.mem_of_getElem? h.ring.head)
    have hw2 := wk_snoc.2 ⟨_, hw1, (by have := hf.le; omega : a < 48), h.ring.back _ hlast⟩
    have hw3 := h.ring.way hf (i := 0) (d := i) a x h.ring.head (by rwa [Nat.zero_add])
    have := wk_add hw2 hw3
    rw [show l.length - 1 - i + 1 + i = l.length by omega] at this
    exact h.least x hlt this
  · exact hge
theorem RingOK.step {N : Nat} {f : Nat → Nat} {a : Nat} {l : List Nat} (h : RingOK N f a l) {i x y : Nat} (hi : l[i]? = some x) (hy : l[(i + 1) % l.length]? = some y) : Bt f x y := by
  have hil := (List.getElem?_eq_some_iff.1 hi).1
  by_cases he : i + 1 = l.length
  · rw [he, Nat.mod_self, h.ring.head] at hy
    cases hy
    exact h.ring.back x (by rwa [← he])
  · rw [Nat.mod_eq_of_lt (by omega)] at hy
    exact h.ring.next i x y hi hy
/-- Walks of so many steps, as a relation. -/
def powF (f : Nat → Nat) : Nat → (Nat → Nat)
  | 0 => f
  | k + 1 => thenF (powF f k) f
theorem rgt_pow {N : Nat} {f : Nat → Nat} (hf : Rgt N f) : ∀ k, Rgt N (powF f k)
  | 0 => hf
  | k + 1 => rgt_then (rgt_pow hf k) hf
theorem pow_64 {f : Nat → Nat} (h : R64 f) : ∀ k, R64 (powF f k)
  | 0 => h
  | _ + 1 => thenF_64 _ h
theorem pow_wk {N : Nat} {f : Nat → Nat} (hf : Rgt N f) : ∀ (k : Nat) {i j : Nat}, i < 48 → (Bt (powF f k) i j ↔ Wk f (k + 1) i j)
  | 0, i, j, hi => ⟨fun h => wk_one (hf.snd48 hi h) h, fun ⟨x, _, hb, e⟩ => by cases e; exact hb⟩
  | k + 1, i, j, hi => by
    show Bt (thenF (powF f k) f) i j ↔ _
    rw [bt_then (rgt_pow hf k) hi, wk_snoc]
    constructor
    · rintro ⟨m, hm, h1, h2⟩
      exact ⟨m, (pow_wk hf k hi).1 h1, hf.snd48 hm h2, h2⟩
    · rintro ⟨m, h1, _, h2⟩
      have hm := (wk_item hf hi h1).2
      exact ⟨m, by have := hf.le; omega, (pow_wk hf k hi).2 h1, h2⟩
theorem RingOK.irr {N : Nat} {f : Nat → Nat} (hf : Rgt N f) {a : Nat} {l : List Nat} (h : RingOK N f a l) (k : Nat) (hk : k < l.length) : irrK (powF f k) N = decide (k + 1 < l.length) := by
  have hle := hf.le
  rw [Bool.eq_iff_iff, irrK_iff, decide_eq_true_iff]
  constructor
  · intro hi
    rcases Nat.lt_or_ge (k + 1) l.length with hlt | hge
    · exact hlt
    · exfalso
      have ha := h.ring.item a (List.mem_of_getElem? h.ring.head)
      refine hi a ha ((pow_wk hf k (by omega)).2 ?_)
      rw [show k + 1 = l.length by omega]
      exact h.walk
  · intro hlt i hi hb
    exact h.short i (k + 1) hi (by omega) hlt ((pow_wk hf k (by omega)).1 hb)
end Go.Proofs.YtpbljciblgcgfaaDoor
end

section
/- order.Keeps, order.Of. -/
namespace Go.Proofs.YtpbljciblgcgfaaDoor
open Go.RowKit Go.Shelf

attribute [local go_sem] Oper.semAt_some

theorem totF_64 (n : Int) (zs : List Int) : R64 (totF n zs) := by
  unfold totF
  split
  · rename_i h
    have hn : n ≤ 48 := by
      unfold ordB at h
      simp only [Bool.and_eq_true, decide_eq_true_iff] at h
      omega
    exact fill_64 _ (by omega) (by omega)
  · exact fun _ => Nat.two_pow_pos 64
/-- Does the order keep the relation? -/
def keepB (n : Int) (f : Nat → Nat) (zs : List Int) : Bool := ordB n zs && inB n n f (totF n zs)
set_option maxRecDepth 100000 in
set_option maxHeartbeats 4000000 in
theorem keeps_any (n : Int) (f : Nat → Nat) (hf : R64 f) (v : Value) (zs : List Int) (w : World) (hs : IntSl w.heap.size w v zs) :
    Calls Tryd.prog 59 #[.agg (relC n f), v] w fun e w' => e = .returned (.bool (keepB n f zs)) ∧ Below w.heap.size w w' := by
  have hA := RelAt.new w n f
  have hB := below_new w (.cells (relC n f) 26)
  have hs2 := Lib.hid ((hs.below hB).mono hB.size)
  have n1 := hA.num
  have CT := Lib.hid (fun W h => total_any n v zs W h)
  unfold TotalPost at CT
  cases ho : ordB n zs
  · have hv := Lib.hid (show keepB n f zs = false by simp [keepB, ho])
    rw [ho] at CT
    change Hid (∀ W, _ → Calls _ _ _ W fun e w' => e = .returned (.tuple #[.agg (relC 0 (totF n zs)), .int .i64 2]) ∧ _) at CT
    clear ho
    go_enter Tryd.func59, Tryd.ntmps59
    go_wp2_with fail
    refine (CT.out _ hs2.out).mono ?_
    rintro e w1 ⟨rfl, h⟩
    obtain ⟨W1, hs1, hu, h1, -⟩ := Ex.lay w1 0 (totF n zs)
    have hB1 := thru (thru hB h) h1
    clear h h1 hu hA hB
    go_wp2
    go_ret
    rw [hv.out]
    exact ⟨rfl, hB1⟩
  · rw [ho] at CT
    change Hid (∀ W, _ → Calls _ _ _ W fun e w' => e = .returned (.tuple #[.agg (relC n (totF n zs)), .int .i64 0]) ∧ _) at CT
    have hg := totF_64 n zs
    have hk : keepB n f zs = inB n n f (totF n zs) := by simp [keepB, ho]
    replace hk := Lib.hid hk
    clear ho
    generalize totF n zs = g at *
    have HL := Lib.hid (fun w => less_any n n f g hf hg w)
    unfold CombPost at HL
    go_enter Tryd.func59, Tryd.ntmps59
    go_wp2_with fail
    refine (CT.out _ hs2.out).mono ?_
    rintro e w1 ⟨rfl, h⟩
    obtain ⟨W1, hs1, hu, h1, -⟩ := Ex.lay w1 n g
    have hA1 := (hA.on h).on h1
    have hB1 := thru (thru hB h) h1
    clear h h1 hA hB n1
    have l1 := hA1.ld
    have l2 := hu.ld
    cases hc : combB n n f g
    · have hi := Lib.hid (show inB n n f g = false by simp [inB, hc])
      rw [hc] at HL
      change Hid (∀ w, Calls _ _ _ w fun e w' => e = .returned (.tuple #[.agg (relC 0 zf), .int .i64 2]) ∧ _) at HL
      clear hc
      go_wp2_with fail
      refine (HL.out _).mono ?_
      rintro e w2 ⟨rfl, h⟩
      obtain ⟨W2, hs2', hu2, h2, -⟩ := Ex.lay w2 0 zf
      have hB2 := thru (thru hB1 h) h2
      clear h h2 hu hu2 hA1 hB1 l1 l2 hs1
      go_wp2
      go_ret
      rw [hk.out, hi.out]
      exact ⟨rfl, hB2⟩
    · have hi := Lib.hid (show inB n n f g = (rightB n (cutF n (lessF f g)) && decide (fromK (cutF n (lessF f g)) n.toNat = 0)) by simp [inB, hc])
      have h64 : R64 (cutF n (lessF f g)) := cutF_64 n (fun i => Nat.lt_of_le_of_lt Nat.and_le_left (hf i))
      rw [hc] at HL
      change Hid (∀ w, Calls _ _ _ w fun e w' => e = .returned (.tuple #[.agg (relC n (cutF n (lessF f g))), .int .i64 0]) ∧ _) at HL
      generalize cutF n (lessF f g) = F at *
      have HE := Lib.hid (fun w => empty_any n F w h64)
      generalize (rightB n F && decide (fromK F n.toNat = 0)) = b at *
      clear hc
      go_wp2_with fail
      refine (HL.out _).mono ?_
      rintro e w2 ⟨rfl, h⟩
      obtain ⟨W2, hs2', hu2, h2, -⟩ := Ex.lay w2 n F
      have hB2 := thru (thru hB1 h) h2
      have l3 := hu2.ld
      clear h h2 hu hA1 hB1 l1 l2 hs1
      go_wp2_with fail
      refine (HE.out _).mono ?_
      rintro e w3 ⟨rfl, h3⟩
      go_wp2
      go_ret
      rw [hk.out, hi.out]
      exact ⟨rfl, thru hB2 h3⟩

/-- What Of answers. -/
def ofO (n : Int) (f : Nat → Nat) : Option (List Nat) := match topF n f with
  | none => none
  | some T => if relB (opN (ordB n (T.map fun k : Nat => (k : Int))) n) n (totF n (T.map fun k : Nat => (k : Int))) f then some T else none
set_option maxRecDepth 100000 in
set_option maxHeartbeats 4000000 in
theorem ordOf_any (n : Int) (f : Nat → Nat) (hf : R64 f) (w : World) (hT : Tab w) :
    Calls Tryd.prog 56 #[.agg (relC n f)] w fun e w' => ∃ v, e = .returned (.tuple #[v, .bool (ofO n f).isSome]) ∧ w'.ownsRow w.heap.size 3 1 v ((ofO n f).getD []).length (((ofO n f).getD []).map intV) ∧ Below w.heap.size w w' := by
  have hA := RelAt.new w n f
  have hB := below_new w (.cells (relC n f) 26)
  have l1 := hA.ld
  have CT := Lib.hid (fun W hT => top_any n f W hf hT)
  unfold TopPost at CT
  have hT1 := tab_new hT (.cells (relC n f) 26)
  cases ht : topF n f with
  | none =>
    have hv := Lib.hid (show ofO n f = none by simp [ofO, ht])
    rw [ht] at CT
    clear ht
    go_enter Tryd.func56, Tryd.ntmps56
    go_wp2_with fail
    refine (CT.out _ hT1).mono ?_
    rintro e w1 ⟨v, rfl, _, h⟩
    simp only [Option.isSome_none]
    go_wp2
    go_ret2
    rw [hv.out]
    exact ⟨_, rfl, World.ownsRow_nil _ _ _ _, thru hB h⟩
  | some T =>
    have hv := (show ofO n f = if relB (opN (ordB n (T.map fun k : Nat => (k : Int))) n) n (totF n (T.map fun k : Nat => (k : Int))) f then some T else none by simp [ofO, ht])
    rw [ht] at CT
    have hTl : T.length ≤ maxLen := by
      have hr : rightB n f = true := by
        cases h : rightB n f
        · simp [topF, h] at ht
        · rfl
      obtain ⟨⟨n0, n1⟩, -⟩ := rightB_iff.1 hr
      obtain ⟨N, rfl⟩ : ∃ N : Nat, n = (N : Int) := ⟨n.toNat, by omega⟩
      rcases top_cyc (show Rgt N f from hr) with ⟨l, h1, h2⟩ | ⟨h1, _⟩
      · rw [h1] at ht
        obtain rfl := Option.some.inj ht
        have := nodup_le N l h2.nodup (fun x hx => (h2.mem x).1 hx)
        unfold maxLen
        omega
      · rw [h1] at ht; cases ht
    clear ht
    have CO := Lib.hid (fun W v h => total_any n v (T.map fun k : Nat => (k : Int)) W h)
    unfold TotalPost at CO
    generalize opN (ordB n (T.map fun k : Nat => (k : Int))) n = n2 at *
    generalize totF n (T.map fun k : Nat => (k : Int)) = g at *
    generalize opE (ordB n (T.map fun k : Nat => (k : Int))) = ev at *
    replace hv := Lib.hid hv
    go_enter Tryd.func56, Tryd.ntmps56
    go_wp2_with fail
    refine (CT.out _ hT1).mono ?_
    rintro e w1 ⟨v, rfl, hrow, h⟩
    change w1.ownsRow _ _ _ _ T.length (T.map intV) at hrow
    simp only [Option.isSome_some]
    have hA1 := hA.on h
    have hB1 := thru hB h
    have hsl : IntSl w1.heap.size w1 v (T.map fun k : Nat => (k : Int)) := by
      have h2 : w1.ownsRow (w.alloc (.cells (relC n f) 26)).heap.size 3 1 v (T.map fun k : Nat => (k : Int)).length ((T.map fun k : Nat => (k : Int)).map (Value.int .i64)) := by
        rw [List.length_map, List.map_map]
        exact hrow
      exact numSl_of_row h2 (by rw [List.length_map]; exact hTl)
    replace hrow := ownsRow_base hrow (b' := w.heap.size) (by simp)
    replace hsl := Lib.hid hsl
    clear h hA hB l1
    have n1 := hA1.num
    go_wp2_with fail
    clear n1
    refine (CO.out _ _ hsl.out).mono ?_
    rintro e w2 ⟨rfl, h⟩
    obtain ⟨W2, hs2, hu, h2, -⟩ := Ex.lay w2 n2 g
    have hA2 := (hA1.on h).on h2
    have hB2 := thru (thru hB1 h) h2
    have hrow2 := Lib.hid (ownsRow_below (ownsRow_below hrow h) h2)
    have l1 := hA2.ld
    have l2 := hu.ld
    clear h h2 hu hA1 hA2 hB1 hrow
    cases hb : relB n2 n g f
    · rw [hb] at hv
      replace hv := Lib.hid (show ofO n f = none by have := hv.out; simpa using this)
      have hbh := hb
      go_wp2
      go_ret2
      rw [hv.out]
      exact ⟨_, rfl, World.ownsRow_nil _ _ _ _, hB2⟩
    · rw [hb] at hv
      replace hv := Lib.hid (show ofO n f = some T by have := hv.out; simpa using this)
      go_wp2
      go_ret2
      rw [hv.out]
      exact ⟨_, rfl, hrow2.out, hB2⟩
end Go.Proofs.YtpbljciblgcgfaaDoor
end

section
/- The examples of the orders' laws, call by call. -/
namespace Go.Proofs.YtpbljciblgcgfaaDoor
open Go.RowKit Go.Shelf

attribute [local go_sem] Oper.semAt_some

theorem orders_ok (N : Nat) (f : Nat → Nat) (M : Nat) (hM : M ≤ 10000) (hf : R64 f) (hr : rightB N f = true) (hle : (ordL N f).length ≤ M) (w : World) (hT : Tab w) :
    Calls Tryd.prog 51 #[.agg (relC N f), .int .i64 (M : Int)] w fun e w' => (∃ v, e = .returned (.tuple #[v, .int .i64 0]) ∧ ListSl w'.heap.size w' v (ordL N f)) ∧ Below w.heap.size w w' :=
  callsIn_wide.1 (orders_in N f M hM hf hr hle w hT)

/-- Where Count answers an error, Orders does. -/
theorem orders_err (n : Int) (f : Nat → Nat) (most : Int) (k E : Int) (hE : (E != 0) = true) (w : World) (hT : Tab w)
    (hc : ∀ W, Tab W → Calls Tryd.prog 53 #[.agg (relC n f), .int .i64 most] W fun e w' => e = .returned (.tuple #[.int .i64 k, .int .i64 E]) ∧ Below W.heap.size W w') :
    Calls Tryd.prog 51 #[.agg (relC n f), .int .i64 most] w fun e w' => e = .returned (.tuple #[.slice none 0 0, .int .i64 E]) ∧ Below w.heap.size w w' := by
  have hA := RelAt.new w n f
  have hB := below_new w (.cells (relC n f) 26)
  have hT1 := tab_new hT (.cells (relC n f) 26)
  have l1 := hA.ld
  have HC := Lib.hid hc
  clear hc
  go_enter Tryd.func51, Tryd.ntmps51
  go_wp2_with fail
  refine (HC.out _ hT1).mono ?_
  rintro e w1 ⟨rfl, h1⟩
  go_wp2
  go_ret2
  exact ⟨rfl, thru hB h1⟩

namespace ExO
def aP : List (It × It) := [Ex.pr 0 1]
def bP : List (It × It) := [Ex.pr 0 1, Ex.pr 1 0]
def aF := Ex.rowF [2]
def bF := Ex.rowF [2, 1]
def tF := Ex.rowF [2, 0, 3]
theorem a64 : R64 aF := Ex.rowF_64 (by decide)
theorem b64 : R64 bF := Ex.rowF_64 (by decide)
theorem t64 : R64 tF := Ex.rowF_64 (by decide)
theorem z64 : R64 zf := fun _ => Nat.two_pow_pos 64
theorem a_ord : ordL 3 aF = [[0, 1, 2], [0, 2, 1], [2, 0, 1]] := by decide +kernel
theorem b_ord : ordL 2 bF = [] := by decide +kernel
theorem z_ord : ordL 0 zf = [[]] := by decide +kernel
theorem a_right : rightB (3 : Nat) aF = true := by decide +kernel
theorem b_right : rightB (2 : Nat) bF = true := by decide +kernel
theorem z_right : rightB (0 : Nat) zf = true := by decide +kernel
theorem t_right : rightB (3 : Nat) tF = true := by decide +kernel
theorem of_a : relC (ofN 3 (aP.map itP)) (ofF 3 (aP.map itP)) = relC 3 aF := by
  rw [show ofN 3 (aP.map itP) = 3 by decide +kernel]
  exact relC_congr (Ex.lt48 (by decide +kernel))
theorem of_b : relC (ofN 2 (bP.map itP)) (ofF 2 (bP.map itP)) = relC 2 bF := by
  rw [show ofN 2 (bP.map itP) = 2 by decide +kernel]
  exact relC_congr (Ex.lt48 (by decide +kernel))
theorem of_c : relC (ofN 2 (aP.map itP)) (ofF 2 (aP.map itP)) = relC 2 aF := by
  rw [show ofN 2 (aP.map itP) = 2 by decide +kernel]
  exact relC_congr (Ex.lt48 (by decide +kernel))
theorem tot_t : relC 3 (totF 3 [2, 0, 1]) = relC 3 tF := relC_congr (Ex.lt48 (by decide +kernel))
theorem callA (v : Value) (w : World) (h : PairSl w.heap.size w v (aP.map itP)) : Calls Tryd.prog 14 #[.int .i64 3, v] w fun e w' => e = .returned (.tuple #[.agg (relC 3 aF), .int .i64 0]) ∧ Below w.heap.size w w' := by
  have := relOf_any 3 v _ w h
  unfold OfPost at this
  rw [show ofB 3 (aP.map itP) = true by decide +kernel] at this
  change Calls _ _ _ _ fun e w' => e = .returned (.tuple #[.agg (relC (ofN 3 (aP.map itP)) (ofF 3 (aP.map itP))), .int .i64 0]) ∧ _ at this
  rwa [of_a] at this
theorem callB (v : Value) (w : World) (h : PairSl w.heap.size w v (bP.map itP)) : Calls Tryd.prog 14 #[.int .i64 2, v] w fun e w' => e = .returned (.tuple #[.agg (relC 2 bF), .int .i64 0]) ∧ Below w.heap.size w w' := by
  have := relOf_any 2 v _ w h
  unfold OfPost at this
  rw [show ofB 2 (bP.map itP) = true by decide +kernel] at this
  change Calls _ _ _ _ fun e w' => e = .returned (.tuple #[.agg (relC (ofN 2 (bP.map itP)) (ofF 2 (bP.map itP))), .int .i64 0]) ∧ _ at this
  rwa [of_b] at this
theorem callC (v : Value) (w : World) (h : PairSl w.heap.size w v (aP.map itP)) : Calls Tryd.prog 14 #[.int .i64 2, v] w fun e w' => e = .returned (.tuple #[.agg (relC 2 aF), .int .i64 0]) ∧ Below w.heap.size w w' := by
  have := relOf_any 2 v _ w h
  unfold OfPost at this
  rw [show ofB 2 (aP.map itP) = true by decide +kernel] at this
  change Calls _ _ _ _ fun e w' => e = .returned (.tuple #[.agg (relC (ofN 2 (aP.map itP)) (ofF 2 (aP.map itP))), .int .i64 0]) ∧ _ at this
  rwa [of_c] at this
theorem callOrdA (w : World) (hT : Tab w) : Calls Tryd.prog 51 #[.agg (relC 3 aF), .int .i64 3] w fun e w' => (∃ v, e = .returned (.tuple #[v, .int .i64 0]) ∧ ListSl w'.heap.size w' v [[0, 1, 2], [0, 2, 1], [2, 0, 1]]) ∧ Below w.heap.size w w' := by
  have := orders_ok 3 aF 3 (by omega) a64 a_right (by rw [a_ord]; decide) w hT
  rwa [a_ord] at this
theorem callOrdB (w : World) (hT : Tab w) : Calls Tryd.prog 51 #[.agg (relC 2 bF), .int .i64 5] w fun e w' => (∃ v, e = .returned (.tuple #[v, .int .i64 0]) ∧ ListSl w'.heap.size w' v []) ∧ Below w.heap.size w w' := by
  have := orders_ok 2 bF 5 (by omega) b64 b_right (by rw [b_ord]; decide) w hT
  rwa [b_ord] at this
theorem callOrdZ (w : World) (hT : Tab w) : Calls Tryd.prog 51 #[.agg (relC 0 zf), .int .i64 1] w fun e w' => (∃ v, e = .returned (.tuple #[v, .int .i64 0]) ∧ ListSl w'.heap.size w' v [[]]) ∧ Below w.heap.size w w' := by
  have := orders_ok 0 zf 1 (by omega) z64 z_right (by rw [z_ord]; decide) w hT
  rwa [z_ord] at this
theorem callCnt3 (w : World) (hT : Tab w) : Calls Tryd.prog 53 #[.agg (relC 3 aF), .int .i64 3] w fun e w' => e = .returned (.tuple #[.int .i64 3, .int .i64 0]) ∧ Below w.heap.size w w' := by
  have := count_ok 3 aF 3 (by omega) a64 a_right w hT
  rwa [show cntR 3 aF (3 : Nat) = .tuple #[.int .i64 3, .int .i64 0] by rw [cntR, a_ord]; rfl] at this
theorem callCnt2 (w : World) (hT : Tab w) : Calls Tryd.prog 53 #[.agg (relC 3 aF), .int .i64 2] w fun e w' => e = .returned (.tuple #[.int .i64 0, .int .i64 5]) ∧ Below w.heap.size w w' := by
  have := count_ok 3 aF 2 (by omega) a64 a_right w hT
  rwa [show cntR 3 aF (2 : Nat) = .tuple #[.int .i64 0, .int .i64 5] by rw [cntR, a_ord]; rfl] at this
theorem intSl_of {n₀ : Nat} {W : World} {v : Value} {zs : List Nat} (h : SlI n₀ W v zs) : IntSl n₀ W v (zs.map fun k : Nat => (k : Int)) := by
  obtain ⟨hl, a, cap, rfl, hc⟩ := h
  refine ⟨by rw [List.length_map]; exact hl, a, cap, by rw [List.length_map], fun h0 => ?_⟩
  rw [List.length_map] at h0
  obtain ⟨b, rfl, hb, hcc⟩ := hc h0
  refine ⟨b, 0, rfl, hb, fun j hj => ?_⟩
  rw [List.length_map] at hj
  rw [Nat.zero_add, hcc j hj]
  simp [hj]
theorem callTot (v : Value) (w : World) (h : SlI w.heap.size w v [2, 0, 1]) : Calls Tryd.prog 54 #[.int .i64 3, v] w fun e w' => e = .returned (.tuple #[.agg (relC 3 tF), .int .i64 0]) ∧ Below w.heap.size w w' := by
  have := total_any 3 v [2, 0, 1] w (intSl_of h)
  unfold TotalPost at this
  rw [show ordB 3 [2, 0, 1] = true by decide +kernel] at this
  change Calls _ _ _ _ fun e w' => e = .returned (.tuple #[.agg (relC 3 (totF 3 [2, 0, 1])), .int .i64 0]) ∧ _ at this
  rwa [tot_t] at this
theorem callTotX (v : Value) (w : World) (h : SlI w.heap.size w v [0, 0]) : Calls Tryd.prog 54 #[.int .i64 2, v] w fun e w' => (∃ f, e = .returned (.tuple #[.agg (relC 0 f), .int .i64 2])) ∧ Below w.heap.size w w' := by
  have := total_any 2 v [0, 0] w (intSl_of h)
  unfold TotalPost at this
  rw [show ordB 2 [0, 0] = false by decide +kernel] at this
  exact this.mono fun e w' h => ⟨⟨_, h.1⟩, h.2⟩
theorem callOf (w : World) (hT : Tab w) : Calls Tryd.prog 56 #[.agg (relC 2 aF)] w fun e w' => (∃ v, e = .returned (.tuple #[v, .bool true]) ∧ SlI w'.heap.size w' v [0, 1]) ∧ Below w.heap.size w w' := by
  have := ordOf_any 2 aF a64 w hT
  rw [show ofO 2 aF = some [0, 1] by decide +kernel] at this
  refine this.mono ?_
  rintro e w' ⟨v, h, ho, hb⟩
  exact ⟨⟨v, h, slI_of_row (zs := [0, 1]) ho (by decide)⟩, hb⟩
theorem callOfX (w : World) (hT : Tab w) : Calls Tryd.prog 56 #[.agg (relC 2 zf)] w fun e w' => (∃ v, e = .returned (.tuple #[v, .bool false])) ∧ Below w.heap.size w w' := by
  have := ordOf_any 2 zf z64 w hT
  rw [show ofO 2 zf = none by decide +kernel] at this
  refine this.mono ?_
  rintro e w' ⟨v, h, ho, hb⟩
  exact ⟨⟨v, h⟩, hb⟩
theorem callH (a b : Nat) (h : hasB 3 tF a b = true) (w : World) : Calls Tryd.prog 25 #[.agg (relC 3 tF), .int .i64 (a : Int), .int .i64 (b : Int)] w fun e w' => e = .returned (.bool true) ∧ Below w.heap.size w w' := by
  have := relHas_any 3 tF a b w t64
  rwa [h] at this
theorem callPairs (w : World) (hT : Tab w) : Calls Tryd.prog 28 #[.agg (relC 3 tF)] w fun e w' => (∃ a c, e = .returned (.slice a 3 c)) ∧ Below w.heap.size w w' := by
  have := relPairs_any 3 tF w t64 hT
  rw [show rightB 3 tF = true by decide +kernel] at this
  refine this.mono ?_
  rintro e w' ⟨v, h, ho, hb⟩
  have hl : (pairsK tF 3).length = 3 := by decide +kernel
  change w'.ownsRow w.heap.size _ 2 v (pairsK tF 3).length _ at ho
  rw [hl] at ho
  obtain ⟨a, c, rfl⟩ := ownsRow_slice ho
  exact ⟨⟨a, c, h⟩, hb⟩
theorem callKeeps (v : Value) (w : World) (h : SlI w.heap.size w v [1, 0]) : Calls Tryd.prog 59 #[.agg (relC 2 aF), v] w fun e w' => e = .returned (.bool false) ∧ Below w.heap.size w w' := by
  have := keeps_any 2 aF a64 v [1, 0] w (intSl_of h)
  rwa [show keepB 2 aF [1, 0] = false by decide +kernel] at this
/-- A literal of lists. -/
theorem listLit (W : World) (vs : List Value) (ls : List (List Nat)) (hl : vs.length = ls.length) (hm : ls.length ≤ maxLen) (h : ∀ (j : Nat) (v : Value) (l : List Nat), vs[j]? = some v → ls[j]? = some l → SlI W.heap.size W v l) :
    ListSl (W.heap.size + 1) (W.alloc (.cells vs.toArray 46)) (.slice (some ⟨W.heap.size, 0, none⟩) ls.length ls.length) ls := by
  refine ⟨hm, _, _, rfl, fun _ => ⟨_, rfl, Nat.lt_succ_self _, fun j l hj => ?_⟩⟩
  have hjl := (List.getElem?_eq_some_iff.1 hj).1
  obtain ⟨u, hu⟩ : ∃ u, vs[j]? = some u := ⟨vs[j]'(by rw [hl]; exact hjl), List.getElem?_eq_getElem _⟩
  refine ⟨u, ?_, ((h j u l hu hj).below (below_new W _)).mono (Nat.le_succ _)⟩
  rw [cell_of_row _ _ j _ _ _ (heap_alloc_new W (.cells vs.toArray 46))]
  simpa using hu
end ExO
end Go.Proofs.YtpbljciblgcgfaaDoor
end
