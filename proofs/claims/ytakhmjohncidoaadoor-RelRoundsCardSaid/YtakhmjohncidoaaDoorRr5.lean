/- Cycle, RefTop, RefRing, RefRingM in one text, for the claim. -/
import Derived.Test.YtakhmjohncidoaaDoorRr2
import Derived.Deep.DeepCutAuto
import Derived.Test.YtakhmjohncidoaaDoorRr4

section
/- Walks, cycles, topological orders: what Top, Ring and Plus have to do with each other. -/
namespace Go.Proofs.YtakhmjohncidoaaDoor
open Go.RowKit Go.Shelf

/-- A walk of so many steps. -/
def Wk (f : Nat → Nat) : Nat → Nat → Nat → Prop
  | 0, i, j => i = j
  | m + 1, i, j => ∃ k, k < 48 ∧ Bt f i k ∧ Wk f m k j
theorem wk_one {f : Nat → Nat} {i j : Nat} (hj : j < 48) (h : Bt f i j) : Wk f 1 i j := ⟨j, hj, h, rfl⟩
theorem wk_add {f : Nat → Nat} {n k j : Nat} : ∀ {m i : Nat}, Wk f m i k → Wk f n k j → Wk f (m + n) i j
  | 0, i, h, h2 => by cases h; rwa [Nat.zero_add]
  | m + 1, i, ⟨x, hx, hb, h⟩, h2 => by
    rw [show m + 1 + n = (m + n) + 1 by omega]
    exact ⟨x, hx, hb, wk_add h h2⟩
theorem wk_snoc {f : Nat → Nat} {m i j : Nat} : Wk f (m + 1) i j ↔ ∃ k, Wk f m i k ∧ j < 48 ∧ Bt f k j := by
  constructor
  · intro h
    induction m generalizing i with
    | zero => obtain ⟨k, hk, hb, rfl⟩ := h; exact ⟨i, rfl, hk, hb⟩
    | succ m ih =>
      obtain ⟨k, hk, hb, h⟩ := h
      obtain ⟨x, h1, h2, h3⟩ := ih h
      exact ⟨x, ⟨k, hk, hb, h1⟩, h2, h3⟩
  · rintro ⟨k, h, hj, hb⟩
    exact wk_add h (wk_one hj hb)
theorem wk_item {N : Nat} {f : Nat → Nat} (hf : Rgt N f) {m i j : Nat} (hi : i < 48) (h : Wk f (m + 1) i j) : i < N ∧ j < N := by
  have h1 : i < N := by obtain ⟨k, _, hb, _⟩ := h; exact hf.fst hi hb
  refine ⟨h1, ?_⟩
  have key : ∀ (m i : Nat), i < N → Wk f m i j → j < N := by
    intro m
    induction m with
    | zero => intro i hi h; cases h; exact hi
    | succ m ih => intro i hi h; obtain ⟨k, _, hb, h⟩ := h; exact ih k (hf.snd (by have := hf.le; omega) hb) h
  exact key _ _ h1 h
/-- The items of a walk, one after the other. -/
theorem wk_seq {f : Nat → Nat} {j : Nat} : ∀ {m i : Nat}, Wk f m i j → ∃ v : Nat → Nat, v 0 = i ∧ v m = j ∧ ∀ t, t < m → v (t + 1) < 48 ∧ Bt f (v t) (v (t + 1))
  | 0, i, h => ⟨fun _ => i, rfl, h, fun t ht => by omega⟩
  | m + 1, i, ⟨k, hk, hb, h⟩ => by
    obtain ⟨v, h0, h1, h2⟩ := wk_seq h
    refine ⟨fun t => if t = 0 then i else v (t - 1), rfl, by simpa using h1, fun t ht => ?_⟩
    cases t with
    | zero => simp only [if_pos, Nat.zero_add, Nat.one_ne_zero, if_false, Nat.sub_self]; rw [h0]; exact ⟨hk, hb⟩
    | succ t => simpa using h2 t (by omega)
theorem seq_wk {f : Nat → Nat} {v : Nat → Nat} {i : Nat} : ∀ {d : Nat}, (∀ t, t < d → v (i + t + 1) < 48 ∧ Bt f (v (i + t)) (v (i + t + 1))) → Wk f d (v i) (v (i + d))
  | 0, _ => rfl
  | d + 1, h => wk_snoc.2 ⟨v (i + d), seq_wk (fun t ht => h t (by omega)), (h d (by omega)).1, (h d (by omega)).2⟩
theorem nodup_le : ∀ (n : Nat) (l : List Nat), l.Nodup → (∀ x ∈ l, x < n) → l.length ≤ n
  | 0, l, _, h => by
    cases l with
    | nil => simp
    | cons a l => have := h a List.mem_cons_self; omega
  | n + 1, l, hn, h => by
    by_cases hm : n ∈ l
    · have h1 := nodup_le n (l.erase n) (hn.erase n) (fun x hx => by
        have := (hn.mem_erase_iff).1 hx
        have := h x this.2
        omega)
      rw [List.length_erase_of_mem hm] at h1
      omega
    · have := nodup_le n l hn (fun x hx => by have := h x hx; have : x ≠ n := fun e => hm (e ▸ hx); omega)
      omega
/-- Among more numbers than there are, two are the same. -/
theorem pigeon {n m : Nat} {v : Nat → Nat} (hv : ∀ t, t < m → v t < n) (hm : n < m) : ∃ i j, i < j ∧ j < m ∧ v i = v j := by
  refine Classical.byContradiction fun hno => ?_
  have hnd : ((List.range m).map v).Nodup := by
    rw [List.nodup_iff_pairwise_ne, List.pairwise_map]
    refine List.Pairwise.imp_of_mem ?_ (List.pairwise_lt_range (n := m))
    intro a b ha hb hab he
    exact hno ⟨a, b, hab, List.mem_range.1 hb, he⟩
  have := nodup_le n _ hnd (fun x hx => by obtain ⟨t, ht, rfl⟩ := List.mem_map.1 hx; exact hv t (List.mem_range.1 ht))
  simp at this
  omega

/-- Some item comes back to itself. -/
def Cyc (N : Nat) (f : Nat → Nat) : Prop := ∃ a m, a < N ∧ Wk f (m + 1) a a
/-- The shortest walk that comes back is no longer than there are items. -/
theorem cyc_short {N : Nat} {f : Nat → Nat} (hf : Rgt N f) (h : Cyc N f) : ∃ a m, a < N ∧ m < N ∧ Wk f (m + 1) a a := by
  obtain ⟨a, m, ha, hw⟩ := h
  induction m using Nat.strongRecOn generalizing a with
  | ind m ih =>
    by_cases hm : m < N
    · exact ⟨a, m, ha, hm, hw⟩
    · obtain ⟨v, v0, v1, hv⟩ := wk_seq hw
      have hvN : ∀ t, t < m + 1 → v t < N := fun t ht => by
        cases t with
        | zero => rw [v0]; exact ha
        | succ t => exact hf.snd (Nat.lt_of_lt_of_le (by
            cases t with
            | zero => rw [v0]; exact ha
            | succ t => exact hf.snd (by
                have := (hv t (by omega)).2
                rcases Nat.lt_or_ge (v t) 48 with h | h
                · exact h
                · exact absurd this (by
                    cases t with
                    | zero => rw [v0] at h; have := hf.le; omega
                    | succ t => have := (hv t (by omega)).1; omega)) (hv t (by omega)).2) hf.le) (hv t (by omega)).2
      obtain ⟨i, j, hij, hj, he⟩ := pigeon hvN (by omega : N < m + 1)
      have hwk := seq_wk (f := f) (v := v) (i := i) (d := j - i) (fun t ht => hv (i + t) (by omega))
      rw [show i + (j - i) = j by omega, ← he] at hwk
      obtain ⟨d, hd⟩ : ∃ d, j - i = d + 1 := ⟨j - i - 1, by omega⟩
      rw [hd] at hwk
      exact ih d (by omega) (v i) (hvN i (by omega)) hwk
theorem plus_wk {N : Nat} {f : Nat → Nat} (hf : Rgt N f) {i j : Nat} (hi : i < 48) : Bt (plusF N f) i j ↔ ∃ m, Wk f (m + 1) i j := by
  constructor
  · intro h
    obtain ⟨k, _, hk⟩ := plus_at hf
    have h := (hk i j hi).1 h
    have key : ∀ k i j, i < 48 → Bt (iterF N f k) i j → ∃ m, Wk f (m + 1) i j := by
      intro k
      induction k with
      | zero => intro i j hi h; exact ⟨0, wk_one (hf.snd48 hi h) h⟩
      | succ k ih =>
        intro i j hi h
        rcases (bt_iter hf k hi).1 h with h | ⟨m, hm, h1, h2⟩
        · exact ih i j hi h
        · obtain ⟨x, h1⟩ := ih i m hi h1
          obtain ⟨y, h2⟩ := ih m j hm h2
          exact ⟨x + 1 + y, by have := wk_add h1 h2; rwa [show x + 1 + (y + 1) = x + 1 + y + 1 by omega] at this⟩
    exact key k i j hi h
  · rintro ⟨m, h⟩
    induction m generalizing i with
    | zero => obtain ⟨k, hk, hb, rfl⟩ := h; exact plus_base hf hi hb
    | succ m ih => obtain ⟨k, hk, hb, h⟩ := h; exact plus_trans hf hi hk (plus_base hf hi hb) (ih hk h)
theorem irr_plus {N : Nat} {f : Nat → Nat} (hf : Rgt N f) : irrK (plusF N f) N = true ↔ ¬ Cyc N f := by
  rw [irrK_iff]
  constructor
  · rintro h ⟨a, m, ha, hw⟩
    exact h a ha ((plus_wk hf (by have := hf.le; omega)).2 ⟨m, hw⟩)
  · intro h i hi hb
    obtain ⟨m, hw⟩ := (plus_wk hf (by have := hf.le; omega)).1 hb
    exact h ⟨i, m, hi, hw⟩

/-! ### Top -/
/-- All items, each behind those that come before it. -/
structure TopOK (N : Nat) (f : Nat → Nat) (l : List Nat) : Prop where
  nodup : l.Nodup
  mem : ∀ x, x ∈ l ↔ x < N
  pred : ∀ (k : Nat) (x : Nat), l[k]? = some x → ∀ i, i < 48 → Bt f i x → i ∈ l.take k
theorem and_zero_iff (x y : Nat) : x &&& y = 0 ↔ ∀ j, x.testBit j = true → y.testBit j = false := by
  constructor
  · intro h j hx
    have := congrArg (fun z => z.testBit j) h
    simpa [hx] using this
  · intro h
    apply Nat.eq_of_testBit_eq
    intro j
    rw [Nat.testBit_and, Nat.zero_testBit]
    cases hx : x.testBit j
    · rfl
    · simp [h j hx]
theorem mem_els48 {s i : Nat} (hs : s < 2 ^ 48) : i ∈ MM.els s ↔ s.testBit i = true := by
  rw [MM.mem_els]
  exact ⟨fun h => h.2, fun h => ⟨by have := bit_lt hs h; omega, h⟩⟩
theorem top_go {N : Nat} {f : Nat → Nat} (hf : Rgt N f) : ∀ (k s : Nat) (acc : List Nat), s < 2 ^ 48 → (MM.els s).length ≤ k →
    acc.Nodup → (∀ x, x ∈ acc ∨ s.testBit x = true ↔ x < N) → (∀ x, x ∈ acc → s.testBit x = false) → (∀ (k : Nat) (x : Nat), acc[k]? = some x → ∀ i, i < 48 → Bt f i x → i ∈ acc.take k) →
    (∃ l, topGo (backF N f) k s acc = some l ∧ TopOK N f l) ∨ (topGo (backF N f) k s acc = none ∧ Cyc N f) := by
  intro k
  induction k with
  | zero =>
    intro s acc hs hk hnd hall hdis hpred
    have h0 : s = 0 := Decidable.byContradiction fun h => by have := els_pos hs h; omega
    subst h0
    refine .inl ⟨acc, topGo_zero _ _ _, hnd, fun x => ?_, hpred⟩
    rw [← hall x]; simp
  | succ k ih =>
    intro s acc hs hk hnd hall hdis hpred
    by_cases h0 : s = 0
    · subst h0
      refine .inl ⟨acc, topGo_zero _ _ _, hnd, fun x => ?_, hpred⟩
      rw [← hall x]; simp
    · cases hsrc : srcOf (backF N f) s (MM.els s) with
      | none =>
        refine .inr ⟨topGo_none _ _ _ _ h0 hsrc, ?_⟩
        have hp : ∀ x, s.testBit x = true → ∃ y, s.testBit y = true ∧ y < 48 ∧ Bt f y x := by
          intro x hx
          have hx48 := bit_lt hs hx
          have h1 := List.find?_eq_none.1 hsrc x ((mem_els48 hs).2 hx)
          simp only [decide_eq_true_eq] at h1
          rw [and_zero_iff] at h1
          obtain ⟨y, hy⟩ := Classical.not_forall.1 h1
          obtain ⟨hy1, hy2⟩ := Classical.not_imp.1 hy
          have hy1 := (bt_back hf hx48).1 hy1
          exact ⟨y, by simpa using hy2, hy1.1, hy1.2⟩
        obtain ⟨a, ha⟩ : ∃ a, s.testBit a = true := by
          refine Classical.byContradiction fun hn => h0 (Nat.eq_of_testBit_eq fun j => ?_)
          rw [Nat.zero_testBit, Bool.eq_false_iff]
          exact fun hb => hn ⟨j, hb⟩
        -- walks of any length that stay in s
        have hlong : ∀ m x, s.testBit x = true → ∃ v : Nat → Nat, v m = x ∧ (∀ t, t ≤ m → s.testBit (v t) = true) ∧ ∀ t, t < m → v (t + 1) < 48 ∧ Bt f (v t) (v (t + 1)) := by
          intro m
          induction m with
          | zero => intro x hx; exact ⟨fun _ => x, rfl, fun _ _ => hx, fun t ht => by omega⟩
          | succ m ihm =>
            intro x hx
            obtain ⟨y, hy, _, hb⟩ := hp x hx
            obtain ⟨v, v1, v2, v3⟩ := ihm y hy
            refine ⟨fun t => if t ≤ m then v t else x, if_neg (by omega), fun t ht => ?_, fun t ht => ?_⟩
            · show s.testBit (if t ≤ m then v t else x) = true
              split
              · exact v2 t (by assumption)
              · exact hx
            · show (if t + 1 ≤ m then v (t + 1) else x) < 48 ∧ Bt f (if t ≤ m then v t else x) (if t + 1 ≤ m then v (t + 1) else x)
              rw [if_pos (show t ≤ m by omega)]
              split
              · exact v3 t (by omega)
              · obtain rfl : t = m := by omega
                rw [v1]
                exact ⟨bit_lt hs hx, hb⟩
        obtain ⟨v, _, v2, v3⟩ := hlong 48 a ha
        obtain ⟨i, j, hij, hj, he⟩ := pigeon (n := 48) (m := 49) (v := v) (fun t ht => bit_lt hs (v2 t (by omega))) (by omega)
        have hwk := seq_wk (f := f) (v := v) (i := i) (d := j - i) (fun t ht => v3 (i + t) (by omega))
        rw [show i + (j - i) = j by omega, ← he] at hwk
        obtain ⟨d, hd⟩ : ∃ d, j - i = d + 1 := ⟨j - i - 1, by omega⟩
        rw [hd] at hwk
        exact ⟨v i, d, (hall _).1 (.inr (v2 i (by omega))), hwk⟩
      | some a =>
        have ham := srcOf_mem hsrc
        have ha := (mem_els48 hs).1 ham
        have ha48 := bit_lt hs ha
        rw [topGo_some _ _ _ _ h0 a hsrc]
        have hz : backF N f a &&& s = 0 := by
          have := List.find?_some hsrc
          simpa using this
        have hnot : a ∉ acc := fun h => by have := hdis a h; rw [ha] at this; cases this
        refine ih (clr s a) (acc ++ [a]) (clr_lt s a hs) (by have := els_clr_len s a hs ham; omega) ?_ ?_ ?_ ?_
        · rw [List.nodup_append]
          exact ⟨hnd, by simp, fun x hx y hy => by simp at hy; subst hy; exact fun e => hnot (e ▸ hx)⟩
        · intro x
          rw [← hall x, clr_bit s a hs ha48, List.mem_append, List.mem_singleton]
          constructor
          · rintro ((h | rfl) | h)
            · exact .inl h
            · exact .inr ha
            · exact .inr (by rw [Bool.and_eq_true] at h; exact h.1)
          · rintro (h | h)
            · exact .inl (.inl h)
            · by_cases he : x = a
              · exact .inl (.inr he)
              · exact .inr (by rw [h]; simpa using he)
        · intro x hx
          rw [clr_bit s a hs ha48]
          rcases List.mem_append.1 hx with h | h
          · rw [hdis x h]; rfl
          · simp at h; subst h; simp
        · intro m x hm i hi hb
          rcases Nat.lt_or_ge m acc.length with hlt | hge
          · rw [List.getElem?_append_left hlt] at hm
            rw [List.take_append_of_le_length (by omega)]
            exact hpred m x hm i hi hb
          · rw [List.getElem?_append_right hge] at hm
            have hme : m - acc.length = 0 ∧ x = a := by
              cases hd : m - acc.length with
              | zero => rw [hd] at hm; simp at hm; exact ⟨rfl, hm.symm⟩
              | succ d => rw [hd] at hm; simp at hm
            obtain ⟨hme, rfl⟩ := hme
            obtain rfl : m = acc.length := by omega
            rw [List.take_left]
            have hbk : Bt (backF N f) x i := (bt_back hf ha48).2 ⟨hi, hb⟩
            have hsi := (and_zero_iff _ _).1 hz i hbk
            have hiN := hf.fst hi hb
            rcases (hall i).2 hiN with h | h
            · exact h
            · rw [hsi] at h; cases h
theorem top_cyc {N : Nat} {f : Nat → Nat} (hf : Rgt N f) : (∃ l, topF N f = some l ∧ TopOK N f l) ∨ (topF N f = none ∧ Cyc N f) := by
  unfold topF
  rw [show rightB (N : Int) f = true from hf, if_pos rfl, Int.toNat_natCast]
  have ha := fun x => allOf_bits N x hf.le
  refine top_go hf 48 _ [] (allOf_lt48 (N : Int) (by omega) (by have := hf.le; omega)).1 (els_le48 (allOf_lt48 (N : Int) (by omega) (by have := hf.le; omega)).1) List.nodup_nil ?_ (fun x h => by cases h) (fun k x h => by simp at h)
  intro x
  rw [ha x]
  simp
theorem TopOK.acyclic {N : Nat} {f : Nat → Nat} (hf : Rgt N f) {l : List Nat} (h : TopOK N f l) : ¬ Cyc N f := by
  -- an item's place in the list grows along a walk
  have hstep : ∀ i j, i < 48 → Bt f i j → l.idxOf i < l.idxOf j := by
    intro i j hi hb
    have hjl : j ∈ l := (h.mem j).2 (hf.snd hi hb)
    have hlt := List.idxOf_lt_length_iff.2 hjl
    have hget : l[l.idxOf j]? = some j := by rw [List.getElem?_eq_getElem hlt, List.getElem_idxOf hlt]
    have hm := h.pred _ _ hget i hi hb
    obtain ⟨m, hm1, hm2⟩ := List.mem_iff_getElem.1 hm
    rw [List.length_take] at hm1
    rw [List.getElem_take] at hm2
    have hil : i ∈ l := List.mem_of_mem_take hm
    have hidx := List.idxOf_lt_length_iff.2 hil
    have he : l.idxOf i = m := by
      have h1 := List.getElem_idxOf hidx
      exact (List.getElem_inj h.nodup).1 (h1.trans hm2.symm)
    omega
  have hwalk : ∀ m i j, i < 48 → Wk f (m + 1) i j → l.idxOf i < l.idxOf j := by
    intro m
    induction m with
    | zero => rintro i j hi ⟨k, hk, hb, rfl⟩; exact hstep i k hi hb
    | succ m ih => rintro i j hi ⟨k, hk, hb, hw⟩; have := hstep i k hi hb; have := ih k j hk hw; omega
  rintro ⟨a, m, ha, hw⟩
  have := hwalk m a a (by have := hf.le; omega) hw
  omega

/-! ### Ring -/
theorem lowF_mem {s : Nat} (hs : s < 2 ^ 48) (h : s ≠ 0) : s.testBit (lowF s) = true := by
  have hp := els_pos hs h
  cases he : MM.els s with
  | nil => rw [he] at hp; simp at hp
  | cons k l =>
    have hk : lowF s = k := by unfold lowF; rw [he, nextOf_head]; rfl
    rw [hk]
    exact (mem_els48 hs).1 (by rw [he]; exact List.mem_cons_self)
/-- What the list of sets holds: from where a walk of so many steps leads to a. -/
def Away (N : Nat) (f : Nat → Nat) (a : Nat) (aw : List Nat) : Prop := 0 < aw.length ∧ ∀ t, t < aw.length → ∀ i, (aw.getD t 0).testBit i = true ↔ i < N ∧ Wk f t i a
theorem away_start {N : Nat} {f : Nat → Nat} {a : Nat} (ha : a < N) : Away N f a [2 ^ a] := by
  refine ⟨by simp, fun t ht i => ?_⟩
  obtain rfl : t = 0 := by simpa using ht
  show (2 ^ a).testBit i = true ↔ _
  rw [Nat.testBit_two_pow, decide_eq_true_iff]
  constructor
  · rintro rfl; exact ⟨ha, rfl⟩
  · rintro ⟨_, h⟩; exact h.symm
theorem away_step {N : Nat} {f : Nat → Nat} (hf : Rgt N f) {a : Nat} {aw : List Nat} (h : Away N f a aw) (i : Nat) : (imgF (backF N f) (aw.getD (aw.length - 1) 0)).testBit i = true ↔ i < N ∧ Wk f aw.length i a := by
  have hl := h.1
  obtain ⟨L, hL⟩ : ∃ L, aw.length = L + 1 := ⟨aw.length - 1, by omega⟩
  rw [bt_img, hL]
  have h1 := h.2 L (by omega)
  simp only [Nat.add_sub_cancel]
  have hle := hf.le
  constructor
  · rintro ⟨k, _, hk, hb⟩
    have hk := (h1 k).1 hk
    have hb := (bt_back hf (by omega)).1 hb
    exact ⟨hf.fst hb.1 hb.2, k, by omega, hb.2, hk.2⟩
  · rintro ⟨hi, k, hk, hb, hw⟩
    have hkN := hf.snd (by omega : i < 48) hb
    exact ⟨k, by omega, (h1 k).2 ⟨hkN, hw⟩, (bt_back hf hk).2 ⟨by omega, hb⟩⟩
theorem away_snoc {N : Nat} {f : Nat → Nat} (hf : Rgt N f) {a : Nat} {aw : List Nat} (h : Away N f a aw) : Away N f a (aw ++ [imgF (backF N f) (aw.getD (aw.length - 1) 0)]) := by
  refine ⟨by simp, fun t ht i => ?_⟩
  rw [List.length_append, List.length_singleton] at ht
  rcases Nat.lt_or_ge t aw.length with hlt | hge
  · rw [List.getD_eq_getElem?_getD, List.getElem?_append_left hlt, ← List.getD_eq_getElem?_getD]
    exact h.2 t hlt i
  · obtain rfl : t = aw.length := by omega
    rw [List.getD_eq_getElem?_getD, List.getElem?_append_right (Nat.le_refl _), Nat.sub_self]
    exact away_step hf h i
/-- A round of so many steps, that goes through its own items. -/
structure RingL (N : Nat) (f : Nat → Nat) (a : Nat) (l : List Nat) : Prop where
  pos : 0 < l.length
  head : l[0]? = some a
  item : ∀ x ∈ l, x < N
  next : ∀ i x y, l[i]? = some x → l[i + 1]? = some y → Bt f x y
  back : ∀ x, l[l.length - 1]? = some x → Bt f x a
theorem desc_ring {N : Nat} {f : Nat → Nat} (hf : Rgt N f) {a0 : Nat} {aw : List Nat} (hA : Away N f a0 aw) : ∀ (k a : Nat) (acc : List Nat), k < aw.length → a < N → Wk f (k + 1) a a0 →
    acc[acc.length - 1]? = some a → acc[0]? = some a0 → (∀ x ∈ acc, x < N) → (∀ i x y, acc[i]? = some x → acc[i + 1]? = some y → Bt f x y) → RingL N f a0 (descGo f aw k a acc)
  | 0, a, acc, hk, ha, hw, hlast, hhead, hitem, hnext => by
    have hp : 0 < acc.length := (List.getElem?_eq_some_iff.1 hhead).1
    refine ⟨hp, hhead, hitem, hnext, fun x hx => ?_⟩
    change acc[acc.length - 1]? = some x at hx
    rw [hlast] at hx
    cases hx
    obtain ⟨y, _, hb, rfl⟩ := hw
    exact hb
  | k + 1, a, acc, hk, ha, hw, hlast, hhead, hitem, hnext => by
    have hp : 0 < acc.length := (List.getElem?_eq_some_iff.1 hhead).1
    have hle := hf.le
    obtain ⟨x, hx, hb, hw2⟩ := hw
    have hxN := hf.snd (by omega : a < 48) hb
    have hm := (hA.2 (k + 1) hk x).2 ⟨hxN, hw2⟩
    have hfa : f a < 2 ^ 48 := lt_of_bits fun j hj => hf.snd48 (by omega) hj
    have hs : f a &&& aw.getD (k + 1) 0 < 2 ^ 48 := Nat.lt_of_le_of_lt Nat.and_le_left hfa
    have hne : f a &&& aw.getD (k + 1) 0 ≠ 0 := fun h0 => by
      have := (and_zero_iff _ _).1 h0 x hb
      rw [hm] at this; cases this
    have hlow := lowF_mem hs hne
    rw [Nat.testBit_and, Bool.and_eq_true] at hlow
    obtain ⟨b1, b2⟩ := hlow
    have b2 := (hA.2 (k + 1) hk _).1 b2
    unfold descGo
    refine desc_ring hf hA k _ _ (by omega) b2.1 b2.2 ?_ ?_ ?_ ?_
    · simp
    · rw [List.getElem?_append_left hp]; exact hhead
    · intro y hy
      rcases List.mem_append.1 hy with h | h
      · exact hitem y h
      · simp at h; subst h; exact b2.1
    · intro i x y h1 h2
      rcases Nat.lt_or_ge (i + 1) acc.length with hlt | hge
      · rw [List.getElem?_append_left (by omega)] at h1
        rw [List.getElem?_append_left hlt] at h2
        exact hnext i x y h1 h2
      · have h3 : i + 1 < (acc ++ [lowF (f a &&& aw.getD (k + 1) 0)]).length := (List.getElem?_eq_some_iff.1 h2).1
        simp at h3
        obtain rfl : i = acc.length - 1 := by omega
        rw [List.getElem?_append_left (by omega), hlast] at h1
        rw [show acc.length - 1 + 1 = acc.length by omega, List.getElem?_append_right (Nat.le_refl _), Nat.sub_self] at h2
        cases h1
        simp at h2
        rw [← h2]
        exact b1
theorem ring_go {N : Nat} {f : Nat → Nat} (hf : Rgt N f) {a : Nat} (ha : a < N) : ∀ (m : Nat) (aw : List Nat), Away N f a aw → (∀ t, 0 < t → t < aw.length → ¬ Wk f t a a) →
    (∃ l, ringGo f (backF N f) a m aw = some l ∧ RingL N f a l ∧ (∀ t, 0 < t → t < l.length → ¬ Wk f t a a) ∧ Wk f l.length a a) ∨
      (ringGo f (backF N f) a m aw = none ∧ ∀ t, 0 < t → t < aw.length + m → ¬ Wk f t a a)
  | 0, aw, _, hno => .inr ⟨rfl, hno⟩
  | m + 1, aw, hA, hno => by
    have hstep := away_step hf hA a
    rw [ringGo_succ]
    split
    · rename_i hb
      have hw := (hstep.1 hb).2
      have hlen := descF_len f aw a hA.1
      refine .inl ⟨_, rfl, ?_, ?_, ?_⟩
      · unfold descF
        refine desc_ring hf hA _ a [a] (by have := hA.1; omega) ha ?_ rfl rfl ?_ ?_
        · rwa [show aw.length - 1 + 1 = aw.length by have := hA.1; omega]
        · intro x hx; simp at hx; subst hx; exact ha
        · intro i x y _ h; simp at h
      · rw [hlen]; exact hno
      · rw [hlen]; exact hw
    · rename_i hb
      have hnw : ¬ Wk f aw.length a a := fun h => hb (hstep.2 ⟨ha, h⟩)
      have hlen : (aw ++ [imgF (backF N f) (aw.getD (aw.length - 1) 0)]).length = aw.length + 1 := by simp
      have ih := ring_go hf ha m _ (away_snoc hf hA) (by
        intro t h0 ht
        rw [hlen] at ht
        by_cases he : t = aw.length
        · rw [he]; exact hnw
        · exact hno t h0 (by omega))
      rw [hlen] at ih
      rcases ih with h | ⟨h1, h2⟩
      · exact .inl h
      · exact .inr ⟨h1, fun t h0 ht => h2 t h0 (by omega)⟩
/-- What Ring gives: a shortest round, from its least item. -/
structure RingOK (N : Nat) (f : Nat → Nat) (a : Nat) (l : List Nat) : Prop where
  ring : RingL N f a l
  walk : Wk f l.length a a
  short : ∀ x t, x < N → 0 < t → t < l.length → ¬ Wk f t x x
  least : ∀ x, x < a → ¬ Wk f l.length x x
theorem ring_upto {N : Nat} {f : Nat → Nat} (hf : Rgt N f) : ∀ k, k ≤ N →
    (∃ a l, ringUpto N f (backF N f) k = some l ∧ l.length ≤ N ∧ RingL N f a l ∧ Wk f l.length a a ∧ (∀ x t, x < k → 0 < t → t < l.length → ¬ Wk f t x x) ∧ ∀ x, x < a → ¬ Wk f l.length x x) ∨
      (ringUpto N f (backF N f) k = none ∧ ∀ x t, x < k → 0 < t → t ≤ N → ¬ Wk f t x x)
  | 0, _ => .inr ⟨rfl, fun x t h => by omega⟩
  | k + 1, hk => by
    have ih := ring_upto hf k (by omega)
    have hat := ring_go hf (a := k) (by omega) N [2 ^ k] (away_start (by omega)) (fun t h0 ht => by simp at ht; omega)
    have he : ringAtF N f (backF N f) k = ringGo f (backF N f) k N [2 ^ k] := by unfold ringAtF; rw [Int.toNat_natCast]
    have hu : ringUpto N f (backF N f) (k + 1) = better (ringUpto N f (backF N f) k) (ringAtF N f (backF N f) k) := rfl
    rw [hu, he]
    rcases ih with ⟨a, l, h1, hlN, hr, hw, hs, hl⟩ | ⟨h1, hs⟩
    · rcases hat with ⟨m, g1, gr, gs, gw⟩ | ⟨g1, gs⟩
      · have hmN : m.length ≤ N := by have := (ringGo_pos _ _ _ _ _ _ (by simp) g1).2; simp at this; omega
        rw [h1, g1]
        by_cases hlt : m.length < l.length
        · refine .inl ⟨k, m, by simp [better, hlt], hmN, gr, gw, fun x t hx h0 ht => ?_, fun x hx => ?_⟩
          · by_cases hxk : x = k
            · subst hxk; exact gs t h0 ht
            · exact hs x t (by omega) h0 (by omega)
          · exact hs x m.length hx gr.pos hlt
        · refine .inl ⟨a, l, by simp [better, hlt], hlN, hr, hw, fun x t hx h0 ht => ?_, hl⟩
          by_cases hxk : x = k
          · subst hxk; exact gs t h0 (by omega)
          · exact hs x t (by omega) h0 ht
      · rw [h1, g1]
        refine .inl ⟨a, l, rfl, hlN, hr, hw, fun x t hx h0 ht => ?_, hl⟩
        by_cases hxk : x = k
        · subst hxk
          exact gs t h0 (by simp; omega)
        · exact hs x t (by omega) h0 ht
    · rcases hat with ⟨m, g1, gr, gs, gw⟩ | ⟨g1, gs⟩
      · have hmN : m.length ≤ N := by have := (ringGo_pos _ _ _ _ _ _ (by simp) g1).2; simp at this; omega
        rw [h1, g1]
        refine .inl ⟨k, m, rfl, hmN, gr, gw, fun x t hx h0 ht => ?_, fun x hx => hs x m.length hx gr.pos hmN⟩
        by_cases hxk : x = k
        · subst hxk; exact gs t h0 ht
        · exact hs x t (by omega) h0 (by omega)
      · rw [h1, g1]
        refine .inr ⟨rfl, fun x t hx h0 ht => ?_⟩
        by_cases hxk : x = k
        · subst hxk; exact gs t h0 (by simp; omega)
        · exact hs x t (by omega) h0 ht
theorem ring_cyc {N : Nat} {f : Nat → Nat} (hf : Rgt N f) : (∃ a l, ringF N f = some l ∧ l.length ≤ N ∧ RingOK N f a l) ∨ (ringF N f = none ∧ ¬ Cyc N f) := by
  unfold ringF
  rw [show rightB (N : Int) f = true from hf, if_pos rfl, Int.toNat_natCast]
  rcases ring_upto hf N (Nat.le_refl _) with ⟨a, l, h1, hN, hr, hw, hs, hl⟩ | ⟨h1, hs⟩
  · exact .inl ⟨a, l, h1, hN, hr, hw, hs, hl⟩
  · refine .inr ⟨h1, fun hc => ?_⟩
    obtain ⟨x, m, hx, hm, hw⟩ := cyc_short hf hc
    exact hs x (m + 1) hx (by omega) (by omega) hw
theorem RingOK.cyc {N : Nat} {f : Nat → Nat} {a : Nat} {l : List Nat} (h : RingOK N f a l) : Cyc N f :=
  ⟨a, l.length - 1, h.ring.item a (List.mem_of_getElem? h.ring.head), by rw [show l.length - 1 + 1 = l.length by have := h.ring.pos; omega]; exact h.walk⟩
/-- A way along the ring. -/
theorem RingL.way {N : Nat} {f : Nat → Nat} (hf : Rgt N f) {a : Nat} {l : List Nat} (h : RingL N f a l) {i : Nat} : ∀ {d : Nat} (x y : Nat), l[i]? = some x → l[i + d]? = some y → Wk f d x y
  | 0, x, y, h1, h2 => by rw [Nat.add_zero, h1] at h2; cases h2; rfl
  | d + 1, x, y, h1, h2 => by
    have hlt : i + d < l.length := by have := (List.getElem?_eq_some_iff.1 h2).1; omega
    have hz : l[i + d]? = some l[i + d] := List.getElem?_eq_getElem hlt
    have hy := h.item y (List.mem_of_getElem? h2)
    exact wk_snoc.2 ⟨_, RingL.way hf h x _ h1 hz, by have := hf.le; omega, h.next (i + d) _ y hz h2⟩
theorem RingOK.nodup {N : Nat} {f : Nat → Nat} (hf : Rgt N f) {a : Nat} {l : List Nat} (h : RingOK N f a l) {i j x : Nat} (hij : i < j) (hi : l[i]? = some x) (hj : l[j]? = some x) : False := by
  have hw := h.ring.way hf (i := i) (d := j - i) x x hi (by rwa [show i + (j - i) = j by omega])
  have hjl := (List.getElem?_eq_some_iff.1 hj).1
  exact h.short x (j - i) (h.ring.item x (List.mem_of_getElem? hi)) (by omega) (by omega) hw
theorem RingOK.first {N : Nat} {f : Nat → Nat} (hf : Rgt N f) {a : Nat} {l : List Nat} (h : RingOK N f a l) {i x : Nat} (hi : l[i]? = some x) : a ≤ x := by
  rcases Nat.lt_or_ge x a with hlt | hge
  · exfalso
    have hil := (List.getElem?_eq_some_iff.1 hi).1
    have hlast : l[l.length - 1]? = some l[l.length - 1] := List.getElem?_eq_getElem (by omega)
    have hw1 := h.ring.way hf (i := i) (d := l.length - 1 - i) x _ hi (by rwa [show i + (l.length - 1 - i) = l.length - 1 by omega])
    have haN := h.ring.item a (List.mem_of_getElem? h.ring.head)
    have hw2 := wk_snoc.2 ⟨_, hw1, (by have := hf.le; omega : a < 48), h.ring.back _ hlast⟩
    have hw3 := h.ring.way hf (i := 0) (d := i) a x h.ring.head (by rwa [Nat.zero_add])
    have := wk_add hw2 hw3
    rw [show l.length - 1 - i + 1 + i = l.length by omega] at this
    exact h.least x hlt this
  · exact hge
theorem RingOK.step {N : Nat} {f : Nat → Nat} {a : Nat} {l : List Nat} (h : RingOK N f a l) {i x y : Nat} (hi : l[i]? = some x) (hy : l[(i + 1) % l.length]? = some y) : Bt f x y := by
  have hil := (List.getElem?_eq_some_iff.1 hi).1
  by_cases he : i + 1 = l.length
  · rw [he, Nat.mod_self, h.ring.head] at hy
    cases hy
    exact h.ring.back x (by rwa [← he])
  · rw [Nat.mod_eq_of_lt (by omega)] at hy
    exact h.ring.next i x y hi hy
/-- Walks of so many steps, as a relation. -/
def powF (f : Nat → Nat) : Nat → (Nat → Nat)
  | 0 => f
  | k + 1 => thenF (powF f k) f
theorem rgt_pow {N : Nat} {f : Nat → Nat} (hf : Rgt N f) : ∀ k, Rgt N (powF f k)
  | 0 => hf
  | k + 1 => rgt_then (rgt_pow hf k) hf
theorem pow_64 {f : Nat → Nat} (h : R64 f) : ∀ k, R64 (powF f k)
  | 0 => h
  | _ + 1 => thenF_64 _ h
theorem pow_wk {N : Nat} {f : Nat → Nat} (hf : Rgt N f) : ∀ (k : Nat) {i j : Nat}, i < 48 → (Bt (powF f k) i j ↔ Wk f (k + 1) i j)
  | 0, i, j, hi => ⟨fun h => wk_one (hf.snd48 hi h) h, fun ⟨x, _, hb, e⟩ => by cases e; exact hb⟩
  | k + 1, i, j, hi => by
    show Bt (thenF (powF f k) f) i j ↔ _
    rw [bt_then (rgt_pow hf k) hi, wk_snoc]
    constructor
    · rintro ⟨m, hm, h1, h2⟩
      exact ⟨m, (pow_wk hf k hi).1 h1, hf.snd48 hm h2, h2⟩
    · rintro ⟨m, h1, _, h2⟩
      have hm := (wk_item hf hi h1).2
      exact ⟨m, by have := hf.le; omega, (pow_wk hf k hi).2 h1, h2⟩
theorem RingOK.irr {N : Nat} {f : Nat → Nat} (hf : Rgt N f) {a : Nat} {l : List Nat} (h : RingOK N f a l) (k : Nat) (hk : k < l.length) : irrK (powF f k) N = decide (k + 1 < l.length) := by
  have hle := hf.le
  rw [Bool.eq_iff_iff, irrK_iff, decide_eq_true_iff]
  constructor
  · intro hi
    rcases Nat.lt_or_ge (k + 1) l.length with hlt | hge
    · exact hlt
    · exfalso
      have ha := h.ring.item a (List.mem_of_getElem? h.ring.head)
      refine hi a ha ((pow_wk hf k (by omega)).2 ?_)
      rw [show k + 1 = l.length by omega]
      exact h.walk
  · intro hlt i hi hb
    exact h.short i (k + 1) hi (by omega) hlt ((pow_wk hf k (by omega)).1 hb)
end Go.Proofs.YtakhmjohncidoaaDoor
end

section
/- The document's answers for layer 2: Top. -/
namespace Go.Proofs.YtakhmjohncidoaaDoor
open Go.RowKit Go.Shelf

attribute [local go_sem] Oper.semAt_some

/-- The first j things let m be free. -/
def freeK (f : Nat → Nat) (told m j : Nat) : Bool := !told.testBit m && (List.range j).all fun x => !((f x).testBit m && !told.testBit x)
theorem freeK_zero (f : Nat → Nat) (told m : Nat) : freeK f told m 0 = !told.testBit m := by simp [freeK]
theorem freeK_succ (f : Nat → Nat) (told m j : Nat) : freeK f told m (j + 1) = (freeK f told m j && !((f j).testBit m && !told.testBit j)) := by simp [freeK, List.range_succ, Bool.and_assoc]
structure TopSt (N : Nat) (f : Nat → Nat) (l : List Nat) (told rest : Nat) (acc : List Nat) (fuel : Nat) : Prop where
  lt : rest < 2 ^ 48
  bits : ∀ i, rest.testBit i = true ↔ i < N ∧ told.testBit i = false
  tl : ∀ i, told.testBit i = true → i < N
  len : acc.length + (MM.els rest).length = N
  fl : (MM.els rest).length ≤ fuel
  go : topGo (backF N f) fuel rest acc = some l
theorem TopSt.t64 {N : Nat} {f : Nat → Nat} {l acc : List Nat} {told rest fuel : Nat} (hN : N ≤ 48) (h : TopSt N f l told rest acc fuel) : told < 2 ^ 64 := by
  apply Nat.lt_pow_two_of_testBit
  intro i hi
  rw [Bool.eq_false_iff]
  intro hb
  have := h.tl i hb
  omega
theorem freeK_iff {N : Nat} {f : Nat → Nat} (hr : Rgt N f) {told rest m : Nat} (hb : ∀ i, rest.testBit i = true ↔ i < N ∧ told.testBit i = false) (hm : m < N) :
    freeK f told m N = true ↔ rest.testBit m = true ∧ backF N f m &&& rest = 0 := by
  have hN := hr.le
  have h48 : m < 48 := by omega
  rw [and_zero_iff, hb m]
  unfold freeK
  rw [Bool.and_eq_true, Bool.not_eq_true', List.all_eq_true]
  constructor
  · rintro ⟨h1, h2⟩
    refine ⟨⟨hm, h1⟩, fun j hj => ?_⟩
    obtain ⟨hj48, hjb⟩ := (bt_back hr h48).1 hj
    have h3 := h2 j (List.mem_range.2 (hr.fst hj48 hjb))
    rw [Bool.eq_false_iff]
    intro hc
    unfold Bt at hjb
    rw [hjb, ((hb j).1 hc).2] at h3
    simp at h3
  · rintro ⟨⟨-, h1⟩, h2⟩
    refine ⟨h1, fun x hx => ?_⟩
    have hxN := List.mem_range.1 hx
    cases h3 : (f x).testBit m
    · rfl
    have h4 := h2 x ((bt_back hr h48).2 ⟨by omega, h3⟩)
    cases h5 : told.testBit x
    · rw [(hb x).2 ⟨hxN, h5⟩] at h4; cases h4
    · rfl
theorem els_sorted (s : Nat) : (MM.els s).Pairwise (· < ·) := List.Pairwise.filter _ List.pairwise_lt_range
theorem top_done {N : Nat} {f : Nat → Nat} {l acc : List Nat} {told rest fuel : Nat} (h : TopSt N f l told rest acc fuel) (hd : ¬ acc.length < N) : acc.length = N ∧ acc = l := by
  have hl := h.len
  have h0 : rest = 0 := by
    apply Decidable.byContradiction
    intro hne
    have := els_pos h.lt hne
    omega
  have hg := h.go
  rw [h0, topGo_zero] at hg
  exact ⟨by omega, by simpa using hg⟩
theorem top_more {N : Nat} {f : Nat → Nat} (hr : Rgt N f) {l acc : List Nat} {told rest fuel : Nat} (h : TopSt N f l told rest acc fuel) (hd : acc.length < N) :
    ∃ a, a < N ∧ (∀ m, m < a → freeK f told m N = false) ∧ freeK f told a N = true ∧ ∃ rest' fuel', TopSt N f l (told ||| 2 ^ a) rest' (acc ++ [a]) fuel' := by
  have hN := hr.le
  have hl := h.len
  have hz : rest ≠ 0 := by
    rintro rfl
    have h0 : MM.els 0 = [] := by
      rw [List.eq_nil_iff_forall_not_mem]
      intro x hx
      have := (MM.mem_els.1 hx).2
      simp at this
    rw [h0] at hl
    simp at hl
    omega
  obtain ⟨fu, rfl⟩ : ∃ fu, fuel = fu + 1 := ⟨fuel - 1, by have := els_pos h.lt hz; have := h.fl; omega⟩
  cases hs : srcOf (backF N f) rest (MM.els rest) with
  | none => have hg := h.go; rw [topGo_none _ _ _ _ hz hs] at hg; cases hg
  | some a =>
    have hmem := srcOf_mem hs
    have hbit := (MM.mem_els.1 hmem).2
    have haN := ((h.bits a).1 hbit).1
    have hcl := els_clr_len rest a h.lt hmem
    unfold srcOf at hs
    obtain ⟨hp, as1, bs1, hsp, has⟩ := List.find?_eq_some_iff_append.1 hs
    have hp2 : backF N f a &&& rest = 0 := by simpa using hp
    refine ⟨a, haN, fun m hm => ?_, (freeK_iff hr h.bits haN).2 ⟨hbit, hp2⟩, clr rest a, fu, clr_lt _ _ h.lt, fun i => ?_, fun i hi => ?_, ?_, ?_, ?_⟩
    · rw [Bool.eq_false_iff]
      intro hf
      obtain ⟨h1, h2⟩ := (freeK_iff hr h.bits (by omega)).1 hf
      have hm2 : m ∈ MM.els rest := (mem_els48 h.lt).2 h1
      have hso := els_sorted rest
      rw [hsp] at hm2 hso
      rcases List.mem_append.1 hm2 with h3 | h3
      · have := has m h3
        simp [h2] at this
      · rcases List.mem_cons.1 h3 with rfl | h4
        · omega
        · have := (List.pairwise_cons.1 (List.pairwise_append.1 hso).2.1).1 m h4
          omega
    · rw [clr_bit rest a h.lt (by omega), Bool.and_eq_true, h.bits i, Nat.testBit_or, Nat.testBit_two_pow, Bool.or_eq_false_iff, decide_eq_true_iff, decide_eq_false_iff_not]
      constructor
      · rintro ⟨⟨h1, h2⟩, h3⟩; exact ⟨h1, h2, fun e => h3 e.symm⟩
      · rintro ⟨h1, h2, h3⟩; exact ⟨⟨h1, h2⟩, fun e => h3 e.symm⟩
    · rw [Nat.testBit_or, Bool.or_eq_true, Nat.testBit_two_pow, decide_eq_true_iff] at hi
      rcases hi with h1 | rfl
      · exact h.tl i h1
      · exact haN
    · simp only [List.length_append, List.length_cons, List.length_nil]; omega
    · have := h.fl; omega
    · rw [← h.go]
      refine (topGo_some _ fu rest acc hz a ?_).symm
      exact hs
theorem range_cut (N : Nat) : ∀ d, ((List.range (N + d)).filter fun i => decide (i < N)) = List.range N
  | 0 => List.filter_eq_self.2 fun i hi => by simpa using hi
  | d + 1 => by rw [← Nat.add_assoc, List.range_succ, List.filter_append, range_cut N d]; simp
theorem top_begin {N : Nat} {f : Nat → Nat} (hr : Rgt N f) {l : List Nat} (h : topF N f = some l) : ∃ rest fuel, TopSt N f l 0 rest [] fuel := by
  have hN := hr.le
  have hall := allOf_lt48 (N : Int) (by omega) (by omega)
  unfold topF at h
  rw [show rightB (N : Int) f = true from hr, if_pos rfl, Int.toNat_natCast] at h
  refine ⟨_, 48, hall.1, fun i => ?_, fun i hi => by simp at hi, ?_, els_le48 hall.1, h⟩
  · rw [allOf_bits N i hN]; simp
  · have he : MM.els (allOf (N : Int)).toNat = List.range N := by
      unfold MM.els
      rw [← range_cut N (64 - N), show N + (64 - N) = 64 by omega]
      exact List.filter_congr fun i _ => allOf_bits N i hN
    rw [he]
    simp

set_option maxRecDepth 100000 in
set_option maxHeartbeats 4000000 in
theorem refTop_no (n : Int) (f : Nat → Nat) (CA : Hid (∀ w : World, Calls Tryd.prog 43 #[.agg (relC n f)] w fun e w' => e = .returned (.bool false) ∧ Below w.heap.size w w')) (w : World) :
    Calls Tryd.prog 35 #[.agg (relC n f)] w (TopPost none w) := by
  have hA := RelAt.new w n f
  have hB := below_new w (.cells (relC n f) 26)
  have l1 := hA.ld
  go_enter Tryd.func35, Tryd.ntmps35
  go_wp2_with fail
  refine (CA.out _).mono ?_
  rintro e w1 ⟨rfl, h⟩
  go_wp2
  go_ret2
  exact ⟨_, rfl, World.ownsRow_nil _ _ _ _, thru hB h⟩

def lenV : Value → Nat
  | .slice _ n _ => n
  | _ => 0
set_option maxRecDepth 100000 in
set_option maxHeartbeats 8000000 in
theorem refTop_yes (N : Nat) (f : Nat → Nat) (hf : R64 f) (hr : Rgt N f) (l : List Nat) (htop : topF N f = some l)
    (CA : Hid (∀ w : World, Calls Tryd.prog 43 #[.agg (relC N f)] w fun e w' => e = .returned (.bool true) ∧ Below w.heap.size w w')) (w : World) :
    Calls Tryd.prog 35 #[.agg (relC N f)] w (TopPost (some l) w) := by
  have hN := hr.le
  obtain ⟨i0, hi, hz0, hz1, hz2⟩ := info_parts infoInt
  have hA := RelAt.new w N f
  have hB := below_new w (.cells (relC N f) 26)
  have l1 := hA.ld
  obtain ⟨rest0, fuel0, hT0⟩ := top_begin hr htop
  replace hT0 := Lib.hid hT0
  have CR := Lib.hid (fun x y (hx : x < N) (hy : y < N) w => show Calls Tryd.prog 20 #[.agg (relC N f), .int .i64 (x : Int), .int .i64 (y : Int)] w fun e w' => e = .returned (.bool ((f x).testBit y)) ∧ Below w.heap.size w w' by
    have := refRelHas_any N f (x : Int) (y : Int) hf w
    rwa [hasB_in hr hx hy] at this)
  have CH := Lib.hid (fun s i (hs : s < 2 ^ 64) (hi : i < N) w => refHas s i hs (by omega) w)
  have CW := Lib.hid (fun s i (hs : s < 2 ^ 64) (hi : i < N) w => refWith s i hs (by omega) w)
  clear htop
  go_enter Tryd.func35, Tryd.ntmps35
  go_wp2_with fail
  refine (CA.out _).mono ?_
  rintro e w1 ⟨rfl, h⟩
  have hX : Kept w w1 [(w.heap.size, (N : Int), f)] := ⟨thru hB h, by simp only [List.mem_cons, List.not_mem_nil, or_false]; rintro p rfl; exact hA.on h⟩
  clear h l1 hA hB
  go_wp2
  go_loopw [4, 5] (fun v t W => ∃ (told rest : Nat) (acc : List Nat) (fuel : Nat), t = .int .u64 (told : Int) ∧ Kept w W [(w.heap.size, (N : Int), f)] ∧ W.ownsRow w.heap.size 3 1 v acc.length (acc.map intV) ∧ Hid (TopSt N f l told rest acc fuel)) (fun v _ _ => N - lenV v)
  case atStart => exact ⟨0, rest0, [], fuel0, rfl, hX, World.ownsRow_nil _ _ _ _, hT0⟩
  case round =>
    clear hX
    obtain ⟨told, rest, acc, fuel, rfl, hX, hrow, hT⟩ := hrel
    obtain ⟨ad, cp, rfl⟩ := ownsRow_slice hrow
    have n1 := (hX.at (b := w.heap.size) (n := N) (f := f) (by simp)).num
    by_cases hd : acc.length < N
    · have td : decide (acc.length < N) = true := by simpa using hd
      obtain ⟨a, haN, hlow, hfree, hnx⟩ := top_more hr hT.out hd
      have ht64 := hT.out.t64 hN
      replace hlow := Lib.hid hlow
      replace hfree := Lib.hid hfree
      replace hnx := Lib.hid hnx
      clear hT
      have hXh := Lib.hid hX
      have hrowh := Lib.hid hrow
      clear hX hrow
      go_wp2
      go_loopw [4, 5, 6] (fun v t b W => ∃ m : Nat, m ≤ a ∧ v = .slice ad acc.length cp ∧ t = .int .u64 (told : Int) ∧ b = .int .i64 m ∧ Kept w W [(w.heap.size, (N : Int), f)] ∧ W.ownsRow w.heap.size 3 1 (.slice ad acc.length cp) acc.length (acc.map intV)) (fun _ _ b _ => N - (intOf b).toNat)
      case atStart => exact ⟨0, by omega, rfl, rfl, rfl, hXh.out, hrowh.out⟩
      case round =>
        clear n1 hXh hrowh
        obtain ⟨m, hma, rfl, rfl, rfl, hX, hrow⟩ := hrel
        have n1 := (hX.at (b := w.heap.size) (n := N) (f := f) (by simp)).num
        have hmN : m < N := by omega
        have tm : decide (m < N) = true := by simpa using hmN
        have cH := Lib.hid (CH.out told m ht64 hmN)
        have hXh := Lib.hid hX
        have hrowh := Lib.hid hrow
        clear hX hrow
        have hz := Lib.hid (freeK_zero f told m)
        go_wp2_with fail
        refine (cH.out _).mono ?_
        rintro e w2 ⟨rfl, rfl⟩
        go_wp2
        go_loopw [7, 8] (fun fr x W => ∃ j : Nat, j ≤ N ∧ x = .int .i64 j ∧ fr = .bool (freeK f told m j) ∧ Kept w W [(w.heap.size, (N : Int), f)] ∧ W.ownsRow w.heap.size 3 1 (.slice ad acc.length cp) acc.length (acc.map intV)) (fun _ x _ => N - (intOf x).toNat)
        case atStart => exact ⟨0, by omega, rfl, by rw [hz.out], hXh.out, hrowh.out⟩
        case round =>
          clear n1 hXh hrowh
          obtain ⟨j, hj, rfl, rfl, hX, hrow⟩ := hrel
          have n1 := (hX.at (b := w.heap.size) (n := N) (f := f) (by simp)).num
          have l1 := (hX.at (b := w.heap.size) (n := N) (f := f) (by simp)).ld
          have hXh := Lib.hid hX
          have hrowh := Lib.hid hrow
          clear hX hrow
          by_cases hjN : j < N
          · have tj : decide (j < N) = true := by simpa using hjN
            have cR := Lib.hid (CR.out j m hjN hmN)
            have cT := Lib.hid (CH.out told j ht64 hjN)
            have hs := freeK_succ f told m j
            cases hb1 : (f j).testBit m
            · rw [hb1] at cR hs
              rw [Bool.false_and, Bool.not_false, Bool.and_true] at hs
              clear hb1
              replace hs := Lib.hid hs
              go_wp2_with fail
              refine (cR.out _).mono ?_
              rintro e w3 ⟨rfl, h⟩
              go_wp2
              go_roundw
              case rel => exact ⟨j + 1, by omega, by go_num, by rw [hs.out], hXh.out.on h, ownsRow_below hrowh.out h⟩
              case measure => simp [intOf]; omega
            · rw [hb1] at cR hs
              cases hb2 : told.testBit j
              · rw [hb2] at cT hs
                simp only [Bool.not_false, Bool.and_self, Bool.not_true, Bool.and_false] at hs
                clear hb1 hb2
                replace hs := Lib.hid hs
                go_wp2_with fail
                refine (cR.out _).mono ?_
                rintro e w3 ⟨rfl, h⟩
                go_wp2_with fail
                refine (cT.out _).mono ?_
                rintro e w4 ⟨rfl, rfl⟩
                go_wp2
                go_roundw
                case rel => exact ⟨j + 1, by omega, by go_num, by rw [hs.out], hXh.out.on h, ownsRow_below hrowh.out h⟩
                case measure => simp [intOf]; omega
              · rw [hb2] at cT hs
                simp only [Bool.not_true, Bool.and_false, Bool.not_false, Bool.and_true] at hs
                clear hb1 hb2
                replace hs := Lib.hid hs
                go_wp2_with fail
                refine (cR.out _).mono ?_
                rintro e w3 ⟨rfl, h⟩
                go_wp2_with fail
                refine (cT.out _).mono ?_
                rintro e w4 ⟨rfl, rfl⟩
                go_wp2
                go_roundw
                case rel => exact ⟨j + 1, by omega, by go_num, by rw [hs.out], hXh.out.on h, ownsRow_below hrowh.out h⟩
                case measure => simp [intOf]; omega
          · obtain rfl : j = N := by omega
            by_cases hm : m < a
            · have hv := hlow.out m hm
              rw [hv] at *
              clear hv l1
              go_wp2
              go_roundw
              case rel => exact ⟨m + 1, by omega, rfl, rfl, by go_num, hXh.out, hrowh.out⟩
              case measure => simp [intOf]; omega
            · obtain rfl : m = a := by omega
              have hv := hfree.out
              rw [hv] at *
              clear hv l1
              obtain ⟨rest', fuel', hT'⟩ := hnx.out
              replace hT' := Lib.hid hT'
              have cW := Lib.hid (CW.out told m ht64 hmN)
              have hbase := hXh.out.1.size
              go_wp2_with (at_builtin; refine wpList_append_own _ rfl _ _ 46 rfl w.heap.size 3 i0 (.int .i64 0) 1 8 Tryd.underlying46 hi hz0 hz1 hz2 rfl (by decide) _ _ _ rfl (hrowh.out.alloc _) ⟨wr.heap.size, 0, none⟩ 1 1 [.int .i64 (m : Int)] rfl rfl (cell_one_new _ _ _) (by intro u hu; simp at hu; subst hu; rfl) (by unfold maxLen; omega) (by omega) (by simp; omega) ?_; intro v1 w6 hown1 hgrow1 _; have hX2 := (hXh.out.on (below_new wr (.cells #[.int .i64 (m : Int)] 3))).grown (by decide) (hrowh.out.alloc (.cells #[.int .i64 (m : Int)] 3)) hgrow1; obtain ⟨a1, c1, hv1⟩ := ownsRow_slice hown1; rw [hv1] at hown1 ⊢; clear hv1 hgrow1; replace hX2 := Lib.hid hX2; replace hown1 := Lib.hid hown1)
              refine (cW.out _).mono ?_
              rintro e w7 ⟨rfl, rfl⟩
              go_wp2
              go_roundw
              case rel =>
                refine ⟨told ||| 2 ^ m, rest', acc ++ [m], fuel', rfl, hX2.out, ?_, hT'⟩
                rw [List.length_append, List.map_append]
                exact hown1.out
              case measure => simp [lenV]; omega
    · obtain ⟨-, rfl⟩ := top_done hT.out hd
      have td : decide (acc.length < N) = false := by simpa using hd
      have hXh := Lib.hid hX
      have hrowh := Lib.hid hrow
      clear hX hrow hT
      go_wp2
      go_ret2
      exact ⟨_, rfl, hrowh.out, hXh.out.1⟩

/-- The document's Top answers as the program's. -/
theorem refTop_any (n : Int) (f : Nat → Nat) (hf : R64 f) (w : World) :
    Calls Tryd.prog 35 #[.agg (relC n f)] w (TopPost (topF n f) w) := by
  cases hb : rightB n f
  · rw [show topF n f = none by simp [topF, hb]]
    exact refTop_no n f (Lib.hid (refAcyclic_bad n f hf hb)) w
  · obtain ⟨⟨n0, n1⟩, -⟩ := rightB_iff.1 hb
    obtain ⟨N, rfl⟩ : ∃ N : Nat, n = (N : Int) := ⟨n.toNat, by omega⟩
    have hr : Rgt N f := hb
    have hA := refAcyclic_ok N f hf hr
    rw [irr_war hr] at hA
    rcases top_cyc hr with ⟨l, h1, h2⟩ | ⟨h1, h2⟩
    · rw [(irr_plus hr).2 (h2.acyclic hr)] at hA
      rw [h1]
      exact refTop_yes N f hf hr l h1 (Lib.hid hA) w
    · have h3 : irrK (plusF N f) N = false := by
        rw [Bool.eq_false_iff]
        intro h
        exact (irr_plus hr).1 h h2
      rw [h3] at hA
      rw [h1]
      exact refTop_no N f (Lib.hid hA) w
end Go.Proofs.YtakhmjohncidoaaDoor
end

section
/- The document's answers for layer 2: Ring, where there is none. -/
namespace Go.Proofs.YtakhmjohncidoaaDoor
open Go.RowKit Go.Shelf

attribute [local go_sem] Oper.semAt_some

set_option maxRecDepth 100000 in
set_option maxHeartbeats 4000000 in
theorem refRing_bad (n : Int) (f : Nat → Nat) (hf : R64 f) (hb : rightB n f = false) (w : World) :
    Calls Tryd.prog 38 #[.agg (relC n f)] w fun e w' => e = .returned (.slice none 0 0) ∧ Below w.heap.size w w' := by
  have hA := RelAt.new w n f
  have hB := below_new w (.cells (relC n f) 26)
  have l1 := hA.ld
  have CA := Lib.hid (refAcyclic_bad n f hf hb)
  have CR := Lib.hid (refRight_any n f hf)
  rw [hb] at CR
  clear hb
  go_enter Tryd.func38, Tryd.ntmps38
  go_wp2_with fail
  refine (CA.out _).mono ?_
  rintro e w1 ⟨rfl, h⟩
  clear l1
  have l1 := (hA.on h).ld
  go_wp2_with fail
  refine (CR.out _).mono ?_
  rintro e w2 ⟨rfl, h2⟩
  go_wp2
  go_ret
  exact ⟨rfl, thru (thru hB h) h2⟩
set_option maxRecDepth 100000 in
set_option maxHeartbeats 4000000 in
theorem refRing_no (N : Nat) (f : Nat → Nat) (hf : R64 f) (hr : Rgt N f) (hc : ¬ Cyc N f) (w : World) :
    Calls Tryd.prog 38 #[.agg (relC N f)] w fun e w' => e = .returned (.slice none 0 0) ∧ Below w.heap.size w w' := by
  have hA := RelAt.new w N f
  have hB := below_new w (.cells (relC N f) 26)
  have l1 := hA.ld
  have CA := refAcyclic_ok N f hf hr
  rw [irr_war hr, (irr_plus hr).2 hc] at CA
  replace CA := Lib.hid CA
  clear hc
  go_enter Tryd.func38, Tryd.ntmps38
  go_wp2_with fail
  refine (CA.out _).mono ?_
  rintro e w1 ⟨rfl, h⟩
  go_wp2
  go_ret
  exact ⟨rfl, thru hB h⟩
end Go.Proofs.YtakhmjohncidoaaDoor
end

section
/- The ring of layer 2: each item is the least from which so many steps lead back; so the document's loops find it. -/
namespace Go.Proofs.YtakhmjohncidoaaDoor
open Go.RowKit Go.Shelf

theorem lowF_least {s z : Nat} (hz : z < lowF s) : s.testBit z = false := by
  rw [Bool.eq_false_iff]
  intro hb
  unfold lowF at hz
  cases he : MM.els s with
  | nil => rw [he] at hz; simp [nextOf] at hz
  | cons k l =>
    have hk : (nextOf (MM.els s) (-1)).getD 0 = k := by rw [he, nextOf_head]; rfl
    rw [hk] at hz
    have hm : k ∈ MM.els s := by rw [he]; exact List.mem_cons_self
    have hk64 := MM.els_lt hm
    have hz2 : z ∈ MM.els s := MM.mem_els.2 ⟨by omega, hb⟩
    have hs : (MM.els s).Pairwise (· < ·) := List.Pairwise.filter _ List.pairwise_lt_range
    rw [he] at hz2 hs
    rcases List.mem_cons.1 hz2 with rfl | h
    · omega
    · have := (List.pairwise_cons.1 hs).1 z h; omega
/-- Each next item is the least from which the steps that are left lead back. -/
def Lo (f : Nat → Nat) (a0 : Nat) (l : List Nat) : Prop := ∀ i x y, l[i]? = some x → l[i + 1]? = some y → ∀ z, z < y → Bt f x z → ¬ Wk f (l.length - 1 - i) z a0
theorem desc_lo {N : Nat} {f : Nat → Nat} (hf : Rgt N f) {a0 : Nat} {aw : List Nat} (hA : Away N f a0 aw) : ∀ (k a : Nat) (acc : List Nat), k < aw.length → a < 48 → acc[acc.length - 1]? = some a →
    (∀ i x y, acc[i]? = some x → acc[i + 1]? = some y → ∀ z, z < y → Bt f x z → ¬ Wk f (acc.length + k - 1 - i) z a0) →
    ∀ i x y, (descGo f aw k a acc)[i]? = some x → (descGo f aw k a acc)[i + 1]? = some y → ∀ z, z < y → Bt f x z → ¬ Wk f (acc.length + k - 1 - i) z a0
  | 0, a, acc, hk, ha, hl, h => h
  | k + 1, a, acc, hk, ha, hl, h => by
    have hp : 0 < acc.length := by
      rcases Nat.eq_zero_or_pos acc.length with h0 | h0
      · rw [List.eq_nil_of_length_eq_zero h0] at hl; simp at hl
      · exact h0
    have hfa : f a < 2 ^ 48 := lt_of_bits fun j hj => hf.snd48 ha hj
    have hs : f a &&& aw.getD (k + 1) 0 < 2 ^ 48 := Nat.lt_of_le_of_lt Nat.and_le_left hfa
    have hlen : (acc ++ [lowF (f a &&& aw.getD (k + 1) 0)]).length = acc.length + 1 := by simp
    have := desc_lo hf hA k (lowF (f a &&& aw.getD (k + 1) 0)) (acc ++ [lowF (f a &&& aw.getD (k + 1) 0)]) (by omega) (lowF_lt hs) (by simp) (by
      intro i x y h1 h2 z hz hb
      rw [hlen, show acc.length + 1 + k - 1 - i = acc.length + (k + 1) - 1 - i by omega]
      rcases Nat.lt_or_ge (i + 1) acc.length with hlt | hge
      · rw [List.getElem?_append_left (by omega)] at h1
        rw [List.getElem?_append_left hlt] at h2
        exact h i x y h1 h2 z hz hb
      · have h3 := (List.getElem?_eq_some_iff.1 h2).1
        rw [hlen] at h3
        obtain rfl : i = acc.length - 1 := by omega
        rw [List.getElem?_append_left (by omega), hl] at h1
        rw [show acc.length - 1 + 1 = acc.length by omega, List.getElem?_append_right (Nat.le_refl _), Nat.sub_self] at h2
        cases h1
        simp only [List.getElem?_cons_zero, Option.some.injEq] at h2
        rw [← h2] at hz
        have hn := lowF_least hz
        rw [Nat.testBit_and] at hn
        have hb' : (f a).testBit z = true := hb
        rw [hb', Bool.true_and] at hn
        rw [show acc.length + (k + 1) - 1 - (acc.length - 1) = k + 1 by omega]
        intro hw
        have hw2 := hw
        obtain ⟨u, hu, hbu, -⟩ := hw2
        have hz48 : z < 48 := hf.snd48 ha hb
        have := (hA.2 (k + 1) hk z).2 ⟨hf.fst hz48 hbu, hw⟩
        rw [this] at hn; cases hn)
    rw [hlen] at this
    intro i x y h1 h2 z hz hb
    have h3 := this i x y h1 h2 z hz hb
    rwa [show acc.length + 1 + k - 1 - i = acc.length + (k + 1) - 1 - i by omega] at h3
theorem ring_go_lo {N : Nat} {f : Nat → Nat} (hf : Rgt N f) {a : Nat} (ha : a < N) : ∀ (m : Nat) (aw l : List Nat), Away N f a aw → ringGo f (backF N f) a m aw = some l → Lo f a l
  | 0, aw, l, _, h => by cases h
  | m + 1, aw, l, hA, h => by
    rw [ringGo_succ] at h
    split at h
    · cases h
      have hle := hf.le
      have hlen := descF_len f aw a hA.1
      intro i x y h1 h2 z hz hb
      rw [hlen]
      have := desc_lo hf hA (aw.length - 1) a [a] (by have := hA.1; omega) (by omega) rfl (by intro i x y _ h; simp at h) i x y h1 h2 z hz hb
      rwa [show [a].length + (aw.length - 1) - 1 - i = aw.length - 1 - i by simp] at this
    · exact ring_go_lo hf ha m _ l (away_snoc hf hA) h
theorem ring_upto_lo {N : Nat} {f : Nat → Nat} (hf : Rgt N f) : ∀ (k : Nat), k ≤ N → ∀ l, ringUpto N f (backF N f) k = some l → ∃ a, l[0]? = some a ∧ Lo f a l
  | 0, _, l, h => by cases h
  | k + 1, hk, l, h => by
    have hu : ringUpto N f (backF N f) (k + 1) = better (ringUpto N f (backF N f) k) (ringAtF N f (backF N f) k) := rfl
    have he : ringAtF N f (backF N f) k = ringGo f (backF N f) k N [2 ^ k] := by unfold ringAtF; rw [Int.toNat_natCast]
    rw [hu, he] at h
    have hat : ∀ m, ringGo f (backF N f) k N [2 ^ k] = some m → ∃ a, m[0]? = some a ∧ Lo f a m := by
      intro m hm
      have hlo := ring_go_lo hf (show k < N by omega) N _ m (away_start (by omega)) hm
      rcases ring_go hf (a := k) (by omega) N [2 ^ k] (away_start (by omega)) (fun t h0 ht => by simp at ht; omega) with ⟨m', g1, gr, -, -⟩ | ⟨g1, -⟩
      · rw [g1] at hm; cases hm
        exact ⟨k, gr.head, hlo⟩
      · rw [g1] at hm; cases hm
    cases hS : ringGo f (backF N f) k N [2 ^ k] with
    | none =>
      rw [hS] at h
      refine ring_upto_lo hf k (by omega) l ?_
      cases hR : ringUpto N f (backF N f) k with
      | none => rw [hR] at h; simp [better] at h
      | some r => rw [hR] at h; simpa [better] using h
    | some m =>
      rw [hS] at h
      cases hR : ringUpto N f (backF N f) k with
      | none => rw [hR] at h; simp [better] at h; subst h; exact hat _ hS
      | some r =>
        rw [hR] at h
        simp only [better] at h
        split at h
        · cases h; exact hat _ hS
        · cases h; exact ring_upto_lo hf k (by omega) _ hR
theorem ring_lo {N : Nat} {f : Nat → Nat} (hf : Rgt N f) {a : Nat} {l : List Nat} (h : ringF N f = some l) (hr : RingL N f a l) : Lo f a l := by
  unfold ringF at h
  rw [show rightB (N : Int) f = true from hf, if_pos rfl, Int.toNat_natCast] at h
  obtain ⟨b, h1, h2⟩ := ring_upto_lo hf N (Nat.le_refl _) l h
  rw [hr.head] at h1
  cases h1
  exact h2

theorem up_wk {N : Nat} {f : Nat → Nat} (hf : Rgt N f) {c : Nat} : ∀ {t a i : Nat}, Up N f c t a i → Wk f t a i
  | 0, a, i, h => h.symm
  | t + 1, a, j, ⟨_, hj, i, hi, hu, hb⟩ => wk_snoc.2 ⟨i, up_wk hf hu, by have := hf.le; omega, hb⟩
theorem hit_wk {N : Nat} {f : Nat → Nat} (hf : Rgt N f) {c t a : Nat} (hc : c < N) (h : Hit N f c t a) : Wk f (t + 1) a c := by
  obtain ⟨i, hi, hu, hb⟩ := h
  exact wk_snoc.2 ⟨i, up_wk hf hu, by have := hf.le; omega, hb⟩
section
variable {N : Nat} {f : Nat → Nat} {a : Nat} {l : List Nat}
theorem RingOK.above (hf : Rgt N f) (h : RingOK N f a l) {i x : Nat} (h0 : 0 < i) (hi : l[i]? = some x) : a < x := by
  have h1 := h.first hf hi
  rcases Nat.lt_or_eq_of_le h1 with h2 | rfl
  · exact h2
  · exact (h.nodup hf h0 h.ring.head hi).elim
theorem RingOK.up (hf : Rgt N f) (h : RingOK N f a l) {p x : Nat} (hp : l[p]? = some x) : ∀ {d y : Nat}, l[p + d]? = some y → Up N f a d x y
  | 0, y, hy => by rw [Nat.add_zero, hp] at hy; cases hy; rfl
  | d + 1, y, hy => by
    have hlt := (List.getElem?_eq_some_iff.1 hy).1
    obtain ⟨z, hz⟩ : ∃ z, l[p + d]? = some z := ⟨l[p + d], List.getElem?_eq_getElem (by omega)⟩
    exact ⟨h.above hf (by omega) hy, h.ring.item y (List.mem_of_getElem? hy), z, h.ring.item z (List.mem_of_getElem? hz), RingOK.up hf h hp hz, h.ring.next (p + d) z y hz hy⟩
/-- From an item of the ring one comes back with as many steps as are left. -/
theorem RingOK.steps (hf : Rgt N f) (hL : l.length ≤ N) (h : RingOK N f a l) {p x : Nat} (hp : l[p]? = some x) : StepsIs N f a x (l.length - p) := by
  have hlt := (List.getElem?_eq_some_iff.1 hp).1
  have hle := hf.le
  have hlN : l.length ≤ 48 := by omega
  have haN := h.ring.item a (List.mem_of_getElem? h.ring.head)
  refine .inl ⟨by omega, by omega, ?_, fun u hu hh => ?_⟩
  · obtain ⟨y, hy⟩ : ∃ y, l[l.length - 1]? = some y := ⟨l[l.length - 1]'(by omega), List.getElem?_eq_getElem (by omega)⟩
    refine ⟨y, h.ring.item y (List.mem_of_getElem? hy), h.up hf hp (d := l.length - p - 1) ?_, h.ring.back y hy⟩
    rwa [show p + (l.length - p - 1) = l.length - 1 by omega]
  · have hw := hit_wk hf haN hh
    have hw0 := h.ring.way hf (i := 0) (d := p) a x h.ring.head (by rwa [Nat.zero_add])
    exact h.short a (p + (u + 1)) haN (by omega) (by omega) (wk_add hw0 hw)
/-- Below the ring's first item nothing comes back so soon. -/
theorem RingOK.low (hf : Rgt N f) (hL : l.length ≤ N) (h : RingOK N f a l) {x r : Nat} (hx : x < N) (hs : StepsIs N f x x r) : l.length ≤ r ∧ (x < a → l.length < r) ∧ (x = a → r = l.length) := by
  have hpos := h.ring.pos
  have hst := h.steps hf hL h.ring.head
  rw [Nat.sub_zero] at hst
  have hlN : l.length ≤ 48 := by have := hf.le; omega
  refine ⟨?_, fun hlt => ?_, fun he => ?_⟩
  · rcases hs with ⟨h0, h1, hh, _⟩ | ⟨h0, _⟩
    · rcases Nat.lt_or_ge r l.length with hg | hg
      · have := hit_wk hf hx hh
        rw [show r - 1 + 1 = r by omega] at this
        exact (h.short x r hx (by omega) hg this).elim
      · exact hg
    · omega
  · rcases hs with ⟨h0, h1, hh, _⟩ | ⟨h0, _⟩
    · have hw := hit_wk hf hx hh
      rw [show r - 1 + 1 = r by omega] at hw
      rcases Nat.lt_or_ge l.length r with hg | hg
      · exact hg
      · rcases Nat.lt_or_eq_of_le hg with hg | hg
        · exact (h.short x r hx (by omega) hg hw).elim
        · rw [hg] at hw; exact (h.least x hlt hw).elim
    · omega
  · subst he; exact steps_uniq hs hst
/-- An item below the next one, that follows, does not come back with the steps that are left. -/
theorem RingOK.miss (hf : Rgt N f) (hL : l.length ≤ N) (h : RingOK N f a l) (hlo : Lo f a l) {i x y b r : Nat} (hi : l[i]? = some x) (hy : l[i + 1]? = some y) (hb : b < y) (hx : Bt f x b) (hs : StepsIs N f a b r) : r ≠ l.length - 1 - i := by
  intro he
  have hlt := (List.getElem?_eq_some_iff.1 hy).1
  have haN := h.ring.item a (List.mem_of_getElem? h.ring.head)
  have hle := hf.le
  rcases hs with ⟨h0, h1, hh, _⟩ | ⟨h0, _⟩
  · have hw := hit_wk hf haN hh
    rw [show r - 1 + 1 = r by omega, he] at hw
    exact hlo i x y hi hy b hb hx hw
  · omega
end
end Go.Proofs.YtakhmjohncidoaaDoor
end
