/- OrdMath, OrdTotAlg, OrdInts, OrdAwake, RefOrd1, OrdWrongAlg, RefOrd2 in one text, for the claim. -/
import Derived.Test.YtpbljciblgcgfaaDoorOt3
import Derived.Test.YtpbljciblgcgfaaDoorOt5
import Derived.Maps.Own
import Derived.Maps.OwnOps
import Derived.Maps.Views
import Derived.WalkKit

section
/- The orders that respect a relation: what they are. -/
namespace Go.Proofs.YtpbljciblgcgfaaDoor
open Go.RowKit Go.Shelf

/-- t goes through s, each ahead of what it precedes. -/
def Ext (B : Nat → Nat) : Nat → List Nat → Prop
  | s, [] => s = 0
  | s, a :: t => a ∈ readyL B s ∧ Ext B (clr s a) t
theorem mem_readyL {B : Nat → Nat} {s a : Nat} (hs : s < 2 ^ 48) : a ∈ readyL B s ↔ s.testBit a = true ∧ B a &&& s = 0 := by
  unfold readyL readyT
  rw [List.mem_filter, mem_els48 hs, decide_eq_true_iff]
theorem mem_compl {B : Nat → Nat} : ∀ {d s : Nat} {xs l : List Nat}, s < 2 ^ 48 → (MM.els s).length = d → (l ∈ compl B d s xs ↔ ∃ t, l = xs ++ t ∧ Ext B s t)
  | 0, s, xs, l, hs, hd => by
    obtain rfl := els_nil hs hd
    simp only [compl, List.mem_singleton]
    constructor
    · rintro rfl; exact ⟨[], by simp, rfl⟩
    · rintro ⟨t, rfl, h⟩
      cases t with
      | nil => simp
      | cons a t => simp [Ext, readyL, readyT, MM.els_zero] at h
  | d + 1, s, xs, l, hs, hd => by
    simp only [compl, List.mem_flatMap]
    constructor
    · rintro ⟨a, ha, hl⟩
      have hm := readyL_mem ha
      have := els_clr_len s a hs hm
      obtain ⟨t, rfl, ht⟩ := (mem_compl (clr_lt s a hs) (by omega)).1 hl
      exact ⟨a :: t, by simp, ha, ht⟩
    · rintro ⟨t, rfl, ht⟩
      cases t with
      | nil => rw [show s = 0 from ht] at hd; simp [MM.els_zero] at hd
      | cons a t =>
        have hm := readyL_mem ht.1
        have := els_clr_len s a hs hm
        exact ⟨a, ht.1, (mem_compl (clr_lt s a hs) (by omega)).2 ⟨t, by simp, ht.2⟩⟩

theorem ext_iff {B : Nat → Nat} : ∀ {t : List Nat} {s : Nat}, s < 2 ^ 48 → (Ext B s t ↔ t.Nodup ∧ (∀ x, x ∈ t ↔ s.testBit x = true) ∧ ∀ (k x : Nat), t[k]? = some x → ∀ i, s.testBit i = true → (B x).testBit i = true → i ∈ t.take k)
  | [], s, hs => by
    constructor
    · rintro rfl; exact ⟨List.nodup_nil, fun x => by simp, fun k x h => by simp at h⟩
    · rintro ⟨_, h, _⟩
      refine Nat.eq_of_testBit_eq fun j => ?_
      have := h j
      simp at this
      rw [this, Nat.zero_testBit]
  | a :: t, s, hs => by
    show (a ∈ readyL B s ∧ Ext B (clr s a) t) ↔ _
    rw [mem_readyL hs]
    by_cases ha : s.testBit a = true
    · have ha48 := bit_lt hs ha
      rw [ext_iff (clr_lt s a hs)]
      have hcb := clr_bit s a hs ha48
      constructor
      · rintro ⟨⟨-, hz⟩, hnd, hmem, hpred⟩
        refine ⟨List.nodup_cons.2 ⟨fun h => ?_, hnd⟩, fun x => ?_, fun k x hx i hi hb => ?_⟩
        · have := (hmem a).1 h
          rw [hcb] at this
          simp at this
        · rw [List.mem_cons, hmem x, hcb, Bool.and_eq_true, decide_eq_true_iff]
          constructor
          · rintro (rfl | h)
            · exact ha
            · exact h.1
          · intro h
            by_cases he : x = a
            · exact .inl he
            · exact .inr ⟨h, he⟩
        · cases k with
          | zero =>
            simp at hx; subst hx
            have := (and_zero_iff _ _).1 hz i hb
            rw [hi] at this; cases this
          | succ k =>
            simp at hx
            rw [List.take_succ_cons, List.mem_cons]
            by_cases he : i = a
            · exact .inl he
            · exact .inr (hpred k x hx i (by rw [hcb, hi]; simpa using he) hb)
      · rintro ⟨hnd, hmem, hpred⟩
        obtain ⟨hna, hnd'⟩ := List.nodup_cons.1 hnd
        refine ⟨⟨ha, (and_zero_iff _ _).2 fun j hj => ?_⟩, hnd', fun x => ?_, fun k x hx i hi hb => ?_⟩
        · cases hs2 : s.testBit j with
          | false => rfl
          | true => have := hpred 0 a rfl j hs2 hj; simp at this
        · rw [hcb, Bool.and_eq_true, decide_eq_true_iff, ← hmem x, List.mem_cons]
          constructor
          · intro h; exact ⟨.inr h, fun e => hna (e ▸ h)⟩
          · rintro ⟨h | h, hne⟩
            · exact absurd h hne
            · exact h
        · rw [hcb, Bool.and_eq_true, decide_eq_true_iff] at hi
          have := hpred (k + 1) x (by simpa using hx) i hi.1 hb
          rw [List.take_succ_cons, List.mem_cons] at this
          exact this.resolve_left hi.2
    · constructor
      · rintro ⟨⟨h, _⟩, _⟩; exact absurd h ha
      · rintro ⟨_, hmem, _⟩; exact absurd ((hmem a).1 (by simp)) ha

theorem els_all_len {N : Nat} (h : N ≤ 48) : (MM.els (allOf (N : Int)).toNat).length = N := by rw [els_all N h, List.length_range]
theorem all_lt {N : Nat} (h : N ≤ 48) : (allOf (N : Int)).toNat < 2 ^ 48 := (allOf_lt48 (N : Int) (by omega) (by omega)).1
/-- Orders' list is all the orders that respect the relation. -/
theorem mem_ordL {N : Nat} {f : Nat → Nat} (hf : Rgt N f) {l : List Nat} : l ∈ ordL N f ↔ TopOK N f l := by
  have hN := hf.le
  have key : l ∈ compl (invF N f) N (allOf (N : Int)).toNat [] ↔ TopOK N f l := by
    rw [mem_compl (all_lt hN) (els_all_len hN)]
    constructor
    · rintro ⟨t, rfl, ht⟩
      obtain ⟨h1, h2, h3⟩ := (ext_iff (all_lt hN)).1 ht
      refine ⟨h1, fun x => by rw [h2 x, allOf_bits N x hN, decide_eq_true_iff], fun k x hx i hi hb => h3 k x hx i (by rw [allOf_bits N i hN, decide_eq_true_iff]; exact hf.fst hi hb) ?_⟩
      have hxN : x < N := by
        have := (h2 x).1 (List.mem_of_getElem? hx)
        rw [allOf_bits N x hN, decide_eq_true_iff] at this
        exact this
      exact (bt_back hf (by omega)).2 ⟨hi, hb⟩
    · intro h
      refine ⟨l, by simp, (ext_iff (all_lt hN)).2 ⟨h.nodup, fun x => by rw [h.mem x, allOf_bits N x hN, decide_eq_true_iff], fun k x hx i _ hb => ?_⟩⟩
      have hxN := (h.mem x).1 (List.mem_of_getElem? hx)
      have := (bt_back hf (show x < 48 by omega)).1 hb
      exact h.pred k x hx i this.1 this.2
  unfold ordL
  split
  · exact key
  · rename_i hn
    constructor
    · intro h; cases h
    · intro h
      rcases top_cyc hf with ⟨l', h1, _⟩ | ⟨_, hc⟩
      · rw [h1] at hn; exact absurd rfl hn
      · exact absurd hc (h.acyclic hf)

/-- Is a list ahead of another of its length? -/
def aheadB : List Nat → List Nat → Bool
  | a :: l, b :: m => if a = b then aheadB l m else decide (a < b)
  | _, _ => false
theorem aheadB_irr : ∀ l : List Nat, aheadB l l = false
  | [] => rfl
  | a :: l => by simp [aheadB, aheadB_irr l]
theorem aheadB_front (xs l m : List Nat) : aheadB (xs ++ l) (xs ++ m) = aheadB l m := by
  induction xs with
  | nil => rfl
  | cons x xs ih => simp [aheadB, ih]
theorem readyL_sorted (B : Nat → Nat) (s : Nat) : (readyL B s).Pairwise (· < ·) := (List.Pairwise.filter _ (List.Pairwise.filter _ List.pairwise_lt_range))
theorem compl_sorted (B : Nat → Nat) : ∀ (d s : Nat) (xs : List Nat), s < 2 ^ 48 → (MM.els s).length = d → (compl B d s xs).Pairwise (fun a b => aheadB a b = true)
  | 0, s, xs, _, _ => by simp [compl]
  | d + 1, s, xs, hs, hd => by
    simp only [compl]
    rw [List.pairwise_flatMap]
    refine ⟨fun a ha => ?_, ?_⟩
    · have := els_clr_len s a hs (readyL_mem ha)
      exact compl_sorted B d _ _ (clr_lt s a hs) (by omega)
    · refine (readyL_sorted B s).imp_of_mem fun {a b} ha hb hlt x hx y hy => ?_
      have h1 := els_clr_len s a hs (readyL_mem ha)
      have h2 := els_clr_len s b hs (readyL_mem hb)
      obtain ⟨t, rfl, _⟩ := (mem_compl (clr_lt s a hs) (by omega)).1 hx
      obtain ⟨u, rfl, _⟩ := (mem_compl (clr_lt s b hs) (by omega)).1 hy
      rw [List.append_assoc, List.append_assoc, aheadB_front]
      simp [aheadB, hlt, show a ≠ b by omega]
theorem ordL_sorted {N : Nat} {f : Nat → Nat} (hf : Rgt N f) : (ordL N f).Pairwise (fun a b => aheadB a b = true) := by
  unfold ordL
  split
  · exact compl_sorted _ _ _ _ (all_lt hf.le) (els_all_len hf.le)
  · exact List.Pairwise.nil
theorem ordL_nodup {N : Nat} {f : Nat → Nat} (hf : Rgt N f) : (ordL N f).Nodup := (ordL_sorted hf).imp fun {a b} h e => by
  subst e
  rw [aheadB_irr] at h
  cases h

def fact : Nat → Nat
  | 0 => 1
  | n + 1 => (n + 1) * fact n
theorem flat_le {α β : Type} (g : α → List β) (m : Nat) : ∀ l : List α, (∀ a ∈ l, (g a).length ≤ m) → (l.flatMap g).length ≤ l.length * m
  | [], _ => by simp
  | a :: l, h => by
    have h1 := h a (by simp)
    have h2 := flat_le g m l fun x hx => h x (by simp [hx])
    rw [List.flatMap_cons, List.length_append, List.length_cons, Nat.add_mul, Nat.one_mul]
    omega
theorem compl_le (B : Nat → Nat) : ∀ (d s : Nat) (xs : List Nat), s < 2 ^ 48 → (MM.els s).length = d → (compl B d s xs).length ≤ fact d
  | 0, s, xs, _, _ => by simp [compl, fact]
  | d + 1, s, xs, hs, hd => by
    simp only [compl, fact]
    refine Nat.le_trans (flat_le _ (fact d) _ fun a ha => ?_) (Nat.mul_le_mul_right _ (by rw [← hd]; exact List.length_filter_le _ _))
    have := els_clr_len s a hs (readyL_mem ha)
    exact compl_le B d _ _ (clr_lt s a hs) (by omega)
theorem ordL_le {N : Nat} {f : Nat → Nat} (hf : Rgt N f) (h6 : N ≤ 6) : (ordL N f).length ≤ 720 := by
  unfold ordL
  split
  · refine Nat.le_trans (compl_le _ _ _ _ (all_lt hf.le) (els_all_len hf.le)) ?_
    have : ∀ n, n ≤ 6 → fact n ≤ 720 := by decide
    exact this N h6
  · exact Nat.zero_le _
theorem ordL_pos {N : Nat} {f : Nat → Nat} (hf : Rgt N f) : ordL N f ≠ [] ↔ ¬ Cyc N f := by
  rcases top_cyc hf with ⟨l, h1, h2⟩ | ⟨h1, hc⟩
  · refine ⟨fun _ => h2.acyclic hf, fun _ e => ?_⟩
    have := (mem_ordL hf).2 h2
    rw [e] at this
    cases this
  · refine ⟨fun h => absurd ?_ h, fun h => absurd hc h⟩
    unfold ordL
    rw [h1]
    rfl

/-- The first of them is Top's. -/
theorem head_compl {N : Nat} {f : Nat → Nat} : ∀ (d s : Nat) (xs : List Nat) (k : Nat) (l : List Nat), s < 2 ^ 48 → (MM.els s).length = d → topGo (backF N f) k s xs = some l → (compl (backF N f) d s xs).head? = some l
  | 0, s, xs, k, l, hs, hd, h => by
    obtain rfl := els_nil hs hd
    rw [topGo_zero] at h
    simpa [compl] using h
  | d + 1, s, xs, k, l, hs, hd, h => by
    have h0 : s ≠ 0 := by rintro rfl; simp [MM.els_zero] at hd
    cases k with
    | zero => simp [topGo, h0] at h
    | succ k =>
      cases hsrc : srcOf (backF N f) s (MM.els s) with
      | none => rw [topGo_none _ _ _ _ h0 hsrc] at h; cases h
      | some a =>
        rw [topGo_some _ _ _ _ h0 a hsrc] at h
        have hm := srcOf_mem hsrc
        have hl := els_clr_len s a hs hm
        have ih := head_compl d (clr s a) (xs ++ [a]) k l (clr_lt s a hs) (by omega) h
        have hr : ∃ t, readyL (backF N f) s = a :: t := by
          have : (readyL (backF N f) s).head? = some a := by
            unfold readyL readyT
            rw [List.head?_filter]
            exact hsrc
          cases hrl : readyL (backF N f) s with
          | nil => rw [hrl] at this; cases this
          | cons b t => rw [hrl] at this; simp at this; subst this; exact ⟨t, rfl⟩
        obtain ⟨t, ht⟩ := hr
        simp only [compl]
        rw [ht, List.flatMap_cons, List.head?_append, ih]
        rfl
theorem ordL_head {N : Nat} {f : Nat → Nat} (hf : Rgt N f) {l : List Nat} (h : topF N f = some l) : (ordL N f).head? = some l := by
  unfold ordL
  rw [h]
  unfold topF at h
  rw [show rightB (N : Int) f = true from hf, if_pos rfl, Int.toNat_natCast] at h
  exact head_compl N _ [] 48 l (all_lt hf.le) (els_all_len hf.le) h

theorem sub_le {α : Type} : ∀ {l m : List α}, l.Nodup → (∀ x ∈ l, x ∈ m) → l.length ≤ m.length
  | [], m, _, _ => Nat.zero_le _
  | a :: l, m, hnd, hsub => by
    obtain ⟨s, t, rfl⟩ := List.append_of_mem (hsub a (by simp))
    have h := sub_le (l := l) (m := s ++ t) (List.nodup_cons.1 hnd).2 fun x hx => by
      have := hsub x (by simp [hx])
      rw [List.mem_append, List.mem_cons] at this
      rw [List.mem_append]
      rcases this with h | rfl | h
      · exact .inl h
      · exact absurd hx (List.nodup_cons.1 hnd).1
      · exact .inr h
    simp at h ⊢
    omega
theorem same_len {α : Type} {l m : List α} (h1 : l.Nodup) (h2 : m.Nodup) (h : ∀ x, x ∈ l ↔ x ∈ m) : l.length = m.length :=
  Nat.le_antisymm (sub_le h1 fun x hx => (h x).1 hx) (sub_le h2 fun x hx => (h x).2 hx)
end Go.Proofs.YtpbljciblgcgfaaDoor
end

section
/- An order's relation: its pairs. -/
namespace Go.Proofs.YtpbljciblgcgfaaDoor
open Go.RowKit Go.Shelf

/-- The list as Go holds it. -/
def iL (l : List Nat) : List Int := l.map fun k : Nat => (k : Int)
structure IsOrd (N : Nat) (l : List Nat) : Prop where
  nodup : l.Nodup
  mem : ∀ x, x ∈ l ↔ x < N
theorem TopOK.ord {N : Nat} {f : Nat → Nat} {l : List Nat} (h : TopOK N f l) : IsOrd N l := ⟨h.nodup, h.mem⟩
theorem IsOrd.len {N : Nat} {l : List Nat} (h : IsOrd N l) : l.length = N := by
  rw [same_len h.nodup List.nodup_range (fun x => by rw [h.mem x, List.mem_range] : ∀ x, x ∈ l ↔ x ∈ List.range N), List.length_range]
theorem ordB_of {N : Nat} {l : List Nat} (hN : N ≤ 48) (h : IsOrd N l) : ordB N (iL l) = true := by
  refine ordB_iff.2 ⟨hN, by rw [iL, List.length_map, h.len], fun z hz => ?_, fun j hj => ?_⟩
  · obtain ⟨x, hx, rfl⟩ := List.mem_map.1 hz
    have := (h.mem x).1 hx
    omega
  · exact List.mem_map.2 ⟨j, (h.mem j).2 hj, rfl⟩
theorem nodup_of_sub : ∀ {l : List Nat} {N : Nat}, l.length = N → (∀ j, j < N → j ∈ l) → l.Nodup := by
  intro l N hl h
  -- else the list without the second of two equal ones would do
  refine Classical.byContradiction fun hn => ?_
  have key : ∀ l : List Nat, ¬ l.Nodup → ∃ m : List Nat, m.length + 1 = l.length ∧ ∀ x ∈ l, x ∈ m := by
    intro l
    induction l with
    | nil => intro h; exact absurd List.nodup_nil h
    | cons a l ih =>
      intro h
      by_cases ha : a ∈ l
      · exact ⟨l, rfl, fun x hx => by rcases List.mem_cons.1 hx with rfl | hx; exact ha; exact hx⟩
      · obtain ⟨m, h1, h2⟩ := ih fun hnd => h (List.nodup_cons.2 ⟨ha, hnd⟩)
        exact ⟨a :: m, by simp; omega, fun x hx => by rcases List.mem_cons.1 hx with rfl | hx; simp; simp [h2 x hx]⟩
  obtain ⟨m, h1, h2⟩ := key l hn
  have := sub_le (l := List.range N) (m := m) List.nodup_range fun x hx => h2 x (h x (List.mem_range.1 hx))
  rw [List.length_range] at this
  omega
theorem ord_of {N : Nat} {l : List Nat} (h : ordB N (iL l) = true) : IsOrd N l := by
  obtain ⟨_, h2, h3, h4⟩ := ordB_iff.1 h
  rw [iL, List.length_map] at h2
  have hm : ∀ j, j < N → j ∈ l := fun j hj => by
    obtain ⟨x, hx, he⟩ := List.mem_map.1 (h4 j hj)
    rwa [← show x = j by omega]
  exact ⟨nodup_of_sub h2 hm, fun x => ⟨fun hx => by have := (h3 _ (List.mem_map.2 ⟨x, hx, rfl⟩)).2; omega, hm x⟩⟩

/-- i comes ahead of j. -/
def Bef (l : List Nat) (i j : Nat) : Prop := ∃ a b : Nat, a < b ∧ l[a]? = some i ∧ l[b]? = some j
theorem idx_same {l : List Nat} (hnd : l.Nodup) {i j z : Nat} (hi : l[i]? = some z) (hj : l[j]? = some z) : i = j := by
  obtain ⟨h1, h2⟩ := List.getElem?_eq_some_iff.1 hi
  obtain ⟨h3, h4⟩ := List.getElem?_eq_some_iff.1 hj
  exact (List.getElem_inj hnd).1 (h2.trans h4.symm)
theorem posK_at {l : List Nat} (hnd : l.Nodup) : ∀ (m k x : Nat), k < m → m ≤ l.length → l[k]? = some x → posK (iL l) m x = k
  | 0, k, x, h, _, _ => by omega
  | m + 1, k, x, h, hm, hx => by
    have hml : m < l.length := by omega
    have hz : (iL l)[m]?.getD 0 = ((l[m]'hml : Nat) : Int) := by simp [iL, hml]
    simp only [posK, hz, Int.toNat_natCast]
    unfold upd
    by_cases he : k = m
    · subst he
      rw [List.getElem?_eq_getElem (by omega)] at hx
      rw [if_pos (Option.some.inj hx).symm]
    · rw [if_neg, posK_at hnd m k x (by omega) (by omega) hx]
      intro e
      refine he (idx_same hnd hx ?_)
      rw [List.getElem?_eq_getElem (by omega), ← e]
theorem bt_tot {N : Nat} {l : List Nat} (hN : N ≤ 48) (h : IsOrd N l) {i j : Nat} : Bt (totF N (iL l)) i j ↔ Bef l i j := by
  unfold totF
  rw [ordB_of hN h, if_pos rfl, Int.toNat_natCast, bt_fill]
  have hlen : (iL l).length = l.length := by simp [iL]
  rw [hlen]
  unfold aheadP
  rw [decide_eq_true_iff]
  constructor
  · rintro ⟨hi, hj, hlt⟩
    obtain ⟨a, ha⟩ := List.mem_iff_getElem?.1 ((h.mem i).2 hi)
    obtain ⟨b, hb⟩ := List.mem_iff_getElem?.1 ((h.mem j).2 hj)
    rw [posK_at h.nodup _ a i (List.getElem?_eq_some_iff.1 ha).1 (Nat.le_refl _) ha, posK_at h.nodup _ b j (List.getElem?_eq_some_iff.1 hb).1 (Nat.le_refl _) hb] at hlt
    exact ⟨a, b, hlt, ha, hb⟩
  · rintro ⟨a, b, hab, ha, hb⟩
    refine ⟨(h.mem i).1 (List.mem_of_getElem? ha), (h.mem j).1 (List.mem_of_getElem? hb), ?_⟩
    rw [posK_at h.nodup _ a i (List.getElem?_eq_some_iff.1 ha).1 (Nat.le_refl _) ha, posK_at h.nodup _ b j (List.getElem?_eq_some_iff.1 hb).1 (Nat.le_refl _) hb]
    exact hab
theorem rgt_tot {N : Nat} {l : List Nat} (hN : N ≤ 48) (h : IsOrd N l) : Rgt N (totF N (iL l)) := rgt_iff.2 ⟨hN, fun i _ j hb => by
  obtain ⟨a, b, _, ha, hb⟩ := (bt_tot hN h).1 hb
  exact ⟨(h.mem i).1 (List.mem_of_getElem? ha), (h.mem j).1 (List.mem_of_getElem? hb)⟩⟩
theorem Bef.irr {l : List Nat} (hnd : l.Nodup) {i : Nat} (h : Bef l i i) : False := by
  obtain ⟨a, b, hab, ha, hb⟩ := h
  have := idx_same hnd ha hb
  omega
theorem Bef.asymm {l : List Nat} (hnd : l.Nodup) {i j : Nat} (h : Bef l i j) (k : Bef l j i) : False := by
  obtain ⟨a, b, hab, ha, hb⟩ := h
  obtain ⟨c, d, hcd, hc, hd⟩ := k
  have := idx_same hnd ha hd
  have := idx_same hnd hb hc
  omega
theorem Bef.trans {l : List Nat} (hnd : l.Nodup) {i j k : Nat} (h : Bef l i j) (h' : Bef l j k) : Bef l i k := by
  obtain ⟨a, b, hab, ha, hb⟩ := h
  obtain ⟨c, d, hcd, hc, hd⟩ := h'
  have := idx_same hnd hb hc
  exact ⟨a, d, by omega, ha, hd⟩
theorem mem_take {l : List Nat} {k u z : Nat} (hk : l[k]? = some z) : u ∈ l.take k ↔ ∃ m, m < k ∧ l[m]? = some u := by
  constructor
  · intro h
    obtain ⟨m, hm1, hm2⟩ := List.mem_iff_getElem.1 h
    rw [List.length_take] at hm1
    rw [List.getElem_take] at hm2
    exact ⟨m, by omega, by rw [List.getElem?_eq_getElem (by omega), hm2]⟩
  · rintro ⟨m, hm, h⟩
    refine List.mem_iff_getElem.2 ⟨m, by rw [List.length_take]; have := (List.getElem?_eq_some_iff.1 hk).1; omega, ?_⟩
    rw [List.getElem_take]
    exact (List.getElem?_eq_some_iff.1 h).2
/-- An order respects a relation exactly if its own has the relation's pairs. -/
theorem top_iff {N : Nat} {f : Nat → Nat} (hf : Rgt N f) {l : List Nat} : TopOK N f l ↔ IsOrd N l ∧ ∀ i j, i < 48 → Bt f i j → Bef l i j := by
  constructor
  · intro h
    refine ⟨h.ord, fun i j hi hb => ?_⟩
    obtain ⟨b, hb2⟩ := List.mem_iff_getElem?.1 ((h.mem j).2 (hf.snd hi hb))
    obtain ⟨a, hab, ha⟩ := (mem_take hb2).1 (h.pred b j hb2 i hi hb)
    exact ⟨a, b, hab, ha, hb2⟩
  · rintro ⟨h, hp⟩
    refine ⟨h.nodup, h.mem, fun k x hx i hi hb => ?_⟩
    obtain ⟨a, b, hab, ha, hb2⟩ := hp i x hi hb
    obtain rfl := idx_same h.nodup hb2 hx
    exact (mem_take hx).2 ⟨a, hab, ha⟩
theorem fromK_zero_iff {f : Nat → Nat} {k : Nat} : fromK f k = 0 ↔ ∀ j, j < k → f j = 0 := by
  constructor
  · intro h j hj
    refine Classical.byContradiction fun hn => ?_
    have := fromK_bit f k j
    rw [h, Nat.zero_testBit] at this
    simp [hj, hn] at this
  · intro h
    refine Nat.eq_of_testBit_eq fun j => ?_
    rw [fromK_bit, Nat.zero_testBit]
    by_cases hj : j < k
    · simp [h j hj]
    · simp [hj]
theorem in_iff {N : Nat} {f g : Nat → Nat} (hf : Rgt N f) (hg : Rgt N g) (h1 : R64 f) (h2 : R64 g) : inB N N f g = true ↔ ∀ i j, i < 48 → Bt f i j → Bt g i j := by
  refine ⟨fun h i j hi hb => ?_, fun h => in_true hf hg h1 h2 h⟩
  refine Classical.byContradiction fun hn => ?_
  unfold inB at h
  rw [comb_ok hf hg] at h
  simp only [Bool.true_and, Bool.and_eq_true, decide_eq_true_eq, Int.toNat_natCast] at h
  have hz := fromK_zero_iff.1 h.2 i (hf.fst hi hb)
  have hbit : Bt (lessF f g) i j := (bt_less h1 h2 i j).2 ⟨hb, hn⟩
  have hcut : cutF N (lessF f g) i = lessF f g i := (relC_inj (rgt_less hf (g := g)).cut).2 i hi
  rw [hcut] at hz
  unfold Bt at hbit
  rw [hz, Nat.zero_testBit] at hbit
  cases hbit
theorem keep_iff {N : Nat} {f : Nat → Nat} (hf : Rgt N f) (h64 : R64 f) {l : List Nat} : keepB N f (iL l) = true ↔ TopOK N f l := by
  rw [top_iff hf]
  unfold keepB
  rw [Bool.and_eq_true]
  constructor
  · rintro ⟨h1, h2⟩
    have ho := ord_of h1
    exact ⟨ho, fun i j hi hb => (bt_tot hf.le ho).1 ((in_iff hf (rgt_tot hf.le ho) h64 (totF_64 _ _)).1 h2 i j hi hb)⟩
  · rintro ⟨ho, hp⟩
    exact ⟨ordB_of hf.le ho, (in_iff hf (rgt_tot hf.le ho) h64 (totF_64 _ _)).2 fun i j hi hb => (bt_tot hf.le ho).2 (hp i j hi hb)⟩
end Go.Proofs.YtpbljciblgcgfaaDoor
end

section
/- The laws' own comparisons of two lists of numbers, whatever they hold. -/
namespace Go.Proofs.YtpbljciblgcgfaaDoor
open Go.RowKit Go.Shelf

attribute [local go_sem] Oper.semAt_some

theorem drop_at {l : List Nat} {k x : Nat} (h : l[k]? = some x) : l.drop k = x :: l.drop (k + 1) := by
  have hk := (List.getElem?_eq_some_iff.1 h).1
  rw [List.drop_eq_getElem_cons hk, (List.getElem?_eq_some_iff.1 h).2]

set_option maxHeartbeats 1000000 in
set_option maxRecDepth 100000 in
theorem ints_any (va vb : Value) (xs ys : List Nat) (n₀ : Nat) (w : World) (ha : SlI n₀ w va xs) (hb : SlI n₀ w vb ys) :
    Calls Tryd.prog 42 #[va, vb] w fun e w' => e = .returned (.bool (decide (xs = ys))) ∧ ∀ B, Below B w w' := by
  obtain ⟨hm, a, ca, rfl, ha⟩ := ha
  obtain ⟨hm2, b, cb, rfl, hb⟩ := hb
  unfold maxLen at hm hm2
  by_cases hl : xs.length = ys.length
  · have t0 : ((xs.length : Int) != (ys.length : Int)) = false := by simp [hl]
    replace hl := Lib.hid hl
    go_enter Tryd.func42, Tryd.ntmps42
    go_wp2
    go_loopw [5, 13] (fun _ i wr => ∃ k : Nat, k ≤ xs.length ∧ i = .int .i64 k ∧ (xs.drop k = ys.drop k ↔ xs = ys) ∧ ∀ B, Below B w wr) (fun _ i _ => xs.length - (intOf i).toNat)
    case atStart => exact ⟨0, Nat.zero_le _, rfl, by simp, fun B => Below.refl B w⟩
    case round =>
      obtain ⟨k, hk, rfl, hi, hB⟩ := hrel
      by_cases hlt : k < xs.length
      · obtain ⟨b1, rfl, hb1, hc1⟩ := ha (by omega)
        obtain ⟨b2, rfl, hb2, hc2⟩ := hb (by have := hl.out; omega)
        have hlt2 : k < ys.length := by have := hl.out; omega
        obtain ⟨x, hx⟩ : ∃ x, xs[k]? = some x := ⟨xs[k]'hlt, List.getElem?_eq_getElem _⟩
        obtain ⟨y, hy⟩ : ∃ y, ys[k]? = some y := ⟨ys[k]'hlt2, List.getElem?_eq_getElem _⟩
        have d1 := ((hB n₀).cell (p := ⟨b1, k, none⟩) hb1).trans (hc1 k hlt)
        have d2 := ((hB n₀).cell (p := ⟨b2, k, none⟩) hb2).trans (hc2 k hlt2)
        rw [hx, Option.getD_some] at d1
        rw [hy, Option.getD_some] at d2
        rw [drop_at hx, drop_at hy, List.cons.injEq] at hi
        have t1 : decide (k < xs.length) = true := by simpa using hlt
        have u1 : decide ((k : Int) < (ys.length : Int)) = true := by simpa using hlt2
        replace hi := Lib.hid hi
        replace hB := Lib.hid hB
        clear hc1 hc2 hx hy ha hb
        by_cases hxy : x = y
        · have t2 : ((x : Int) != (y : Int)) = false := by simp [hxy]
          have hi2 := Lib.hid (show (xs.drop (k + 1) = ys.drop (k + 1) ↔ xs = ys) from ⟨fun h => hi.out.1 ⟨hxy, h⟩, fun h => (hi.out.2 h).2⟩)
          replace hxy := Lib.hid hxy
          go_wp2
          go_region
          all_goals
            go_wp2
            go_roundw
            case rel => exact ⟨k + 1, by omega, rfl, hi2.out, fun B => (hB.out B).drew⟩
            case measure => simp [intOf]; omega
        · have t2 : ((x : Int) != (y : Int)) = true := by simp; omega
          have hd : decide (xs = ys) = false := by
            rw [decide_eq_false_iff_not]
            exact fun h => hxy (hi.out.2 h).1
          replace hxy := Lib.hid hxy
          replace hd := Lib.hid hd
          go_wp2
          go_region
          all_goals
            go_wp2
            go_ret
            exact ⟨by rw [hd.out]; rfl, fun B => (hB.out B).drew⟩
      · obtain rfl : k = xs.length := by omega
        have hd := Lib.hid (show decide (xs = ys) = true by
          rw [decide_eq_true_iff]
          refine hi.1 ?_
          rw [List.drop_length, hl.out, List.drop_length])
        replace hi := Lib.hid hi
        replace hB := Lib.hid hB
        go_wp2
        go_ret
        exact ⟨by rw [hd.out]; rfl, fun B => hB.out B⟩
  · have t0 : ((xs.length : Int) != (ys.length : Int)) = true := by simp; omega
    have hd := Lib.hid (show decide (xs = ys) = false by
      rw [decide_eq_false_iff_not]
      exact fun h => hl (by rw [h]))
    replace hl := Lib.hid hl
    go_enter Tryd.func42, Tryd.ntmps42
    go_wp2
    go_ret
    exact ⟨by rw [hd.out]; rfl, fun B => Below.refl B w⟩

set_option maxHeartbeats 1000000 in
set_option maxRecDepth 100000 in
theorem ahead_any (va vb : Value) (xs ys : List Nat) (n₀ : Nat) (w : World) (hl : xs.length = ys.length) (ha : SlI n₀ w va xs) (hb : SlI n₀ w vb ys) :
    Calls Tryd.prog 63 #[va, vb] w fun e w' => e = .returned (.bool (aheadB xs ys)) ∧ ∀ B, Below B w w' := by
  obtain ⟨hm, a, ca, rfl, ha⟩ := ha
  obtain ⟨hm2, b, cb, rfl, hb⟩ := hb
  unfold maxLen at hm hm2
  replace hl := Lib.hid hl
  go_enter Tryd.func63, Tryd.ntmps63
  go_wp2
  go_loopw [5, 8] (fun _ i wr => ∃ k : Nat, k ≤ xs.length ∧ i = .int .i64 k ∧ aheadB (xs.drop k) (ys.drop k) = aheadB xs ys ∧ ∀ B, Below B w wr) (fun _ i _ => xs.length - (intOf i).toNat)
  case atStart => exact ⟨0, Nat.zero_le _, rfl, by simp, fun B => Below.refl B w⟩
  case round =>
    obtain ⟨k, hk, rfl, hi, hB⟩ := hrel
    by_cases hlt : k < xs.length
    · obtain ⟨b1, rfl, hb1, hc1⟩ := ha (by omega)
      obtain ⟨b2, rfl, hb2, hc2⟩ := hb (by have := hl.out; omega)
      have hlt2 : k < ys.length := by have := hl.out; omega
      obtain ⟨x, hx⟩ : ∃ x, xs[k]? = some x := ⟨xs[k]'hlt, List.getElem?_eq_getElem _⟩
      obtain ⟨y, hy⟩ : ∃ y, ys[k]? = some y := ⟨ys[k]'hlt2, List.getElem?_eq_getElem _⟩
      have d1 := Lib.hid (fun W (h : ∀ B, Below B w W) => ((h n₀).cell (p := ⟨b1, k, none⟩) hb1).trans (hc1 k hlt))
      have d2 := Lib.hid (fun W (h : ∀ B, Below B w W) => ((h n₀).cell (p := ⟨b2, k, none⟩) hb2).trans (hc2 k hlt2))
      rw [hx, Option.getD_some] at d1
      rw [hy, Option.getD_some] at d2
      rw [drop_at hx, drop_at hy, aheadB] at hi
      have t1 : decide (k < xs.length) = true := by simpa using hlt
      have t3 : decide (k < ys.length) = true := by simpa using hlt2
      have c1 := d1.out wr hB
      have c2 := d2.out wr hB
      replace hB := Lib.hid hB
      clear hc1 hc2 hx hy ha hb
      by_cases hxy : x = y
      · have t2 : ((x : Int) != (y : Int)) = false := by simp [hxy]
        rw [if_pos hxy] at hi
        replace hi := Lib.hid hi
        replace hxy := Lib.hid hxy
        go_wp2
        go_region
        all_goals
          go_wp2
          go_roundw
          case rel => exact ⟨k + 1, by omega, rfl, hi.out, fun B => (hB.out B).drew⟩
          case measure => simp [intOf]; omega
      · have t2 : ((x : Int) != (y : Int)) = true := by simp; omega
        rw [if_neg hxy] at hi
        replace hi := Lib.hid hi
        replace hxy := Lib.hid hxy
        go_wp2
        go_cut [25] (fun v W => v = .bool true ∧ ∀ B, Below B w W)
        case first => --LIVE
          go_region
          all_goals
            go_wp2
            go_meet
            exact ⟨rfl, fun B => (hB.out B).drew⟩
        case rest =>
          obtain ⟨rfl, hB2⟩ := hcut
          have c1 := d1.out _ hB2
          have c2 := d2.out _ hB2
          replace hB2 := Lib.hid hB2
          go_wp2
          go_region
          all_goals
            go_wp2
            go_ret
            exact ⟨by rw [← hi.out]; rfl, fun B => (hB2.out B).drew⟩
    · obtain rfl : k = xs.length := by omega
      have hd := Lib.hid (show aheadB xs ys = false by
        rw [← hi, List.drop_length]
        rfl)
      replace hi := Lib.hid hi
      replace hB := Lib.hid hB
      go_wp2
      go_ret
      exact ⟨by rw [hd.out]; rfl, fun B => hB.out B⟩
end Go.Proofs.YtpbljciblgcgfaaDoor
end

section
/- The examples of the orders' laws hold. -/
namespace Go.Proofs.YtpbljciblgcgfaaDoor
open Go.RowKit Go.Shelf

attribute [local go_sem] Oper.semAt_some

set_option maxRecDepth 100000 in
set_option maxHeartbeats 16000000 in
theorem ordAwake_any (w : World) (hT : Tab w) : Calls Tryd.prog 50 #[] w fun e w' => e = .returned (.bool true) ∧ Below w.heap.size w w' := by
  have hp := hT.pos
  have hX := KS.nil w
  go_enter Tryd.func50, Tryd.ntmps50
  -- the first relation
  have hP := (Ex.pairLit ExO.aP w _ rfl (by decide) rfl).mono (n₁ := (w.alloc (.cells (pairCells ExO.aP).toArray 72)).heap.size) (by simp)
  replace hX := hX.alloc (.cells (pairCells ExO.aP).toArray 72)
  go_wp2_with fail
  refine (ExO.callA _ _ hP).mono ?_
  rintro e w1 ⟨rfl, hb⟩
  obtain ⟨W1, hs1, hX, -⟩ := hX.lay hb 3 ExO.aF
  clear hP hb
  -- its orders
  have l := (hX.rel (w1.heap.size, 3, ExO.aF) (by simp)).ld
  go_wp2_with fail
  clear hs1 l
  refine (ExO.callOrdA _ (hX.tab hT)).mono ?_
  rintro e w2 ⟨⟨v2, rfl, hv2⟩, hb⟩
  replace hX := (hX.on hb).addLs hv2
  clear hv2 hb
  -- their number
  have l := (hX.rel (w1.heap.size, 3, ExO.aF) (by simp)).ld
  go_wp2_with fail
  clear l
  refine (ExO.callCnt3 _ (hX.tab hT)).mono ?_
  rintro e w3 ⟨rfl, hb⟩
  replace hX := hX.on hb
  clear hb
  have l := (hX.rel (w1.heap.size, 3, ExO.aF) (by simp)).ld
  go_wp2_with fail
  clear l
  refine (ExO.callCnt2 _ (hX.tab hT)).mono ?_
  rintro e w4 ⟨rfl, hb⟩
  replace hX := hX.on hb
  clear hb
  -- a round
  have hP := (Ex.pairLit ExO.bP w4 _ rfl (by decide) rfl).mono (n₁ := (w4.alloc (.cells (pairCells ExO.bP).toArray 72)).heap.size) (by simp)
  replace hX := hX.alloc (.cells (pairCells ExO.bP).toArray 72)
  go_wp2_with fail
  refine (ExO.callB _ _ hP).mono ?_
  rintro e w5 ⟨rfl, hb⟩
  obtain ⟨W5, hs5, hX, -⟩ := hX.lay hb 2 ExO.bF
  clear hP hb
  have l := (hX.rel (w5.heap.size, 2, ExO.bF) (by simp)).ld
  go_wp2_with fail
  clear hs5 l
  refine (ExO.callOrdB _ (hX.tab hT)).mono ?_
  rintro e w6 ⟨⟨v6, rfl, hv6⟩, hb⟩
  obtain ⟨-, a6, c6, rfl, -⟩ := hv6
  replace hX := hX.on hb
  clear hb
  -- the relation of an order
  have hP := (Ex.intLit [2, 0, 1] w6 #[.int .i64 2, .int .i64 0, .int .i64 1] rfl (by decide)).mono (n₁ := (w6.alloc (.cells #[.int .i64 2, .int .i64 0, .int .i64 1] 3)).heap.size) (by simp)
  replace hX := hX.alloc (.cells #[.int .i64 2, .int .i64 0, .int .i64 1] 3)
  go_wp2_with fail
  refine (ExO.callTot _ _ hP).mono ?_
  rintro e w7 ⟨rfl, hb⟩
  obtain ⟨W7, hs7, hX, -⟩ := hX.lay hb 3 ExO.tF
  clear hP hb
  have hP := (Ex.intLit [0, 0] W7 #[.int .i64 0, .int .i64 0] rfl (by decide)).mono (n₁ := (W7.alloc (.cells #[.int .i64 0, .int .i64 0] 3)).heap.size) (by simp)
  replace hX := hX.alloc (.cells #[.int .i64 0, .int .i64 0] 3)
  go_wp2_with fail
  clear hs7
  refine (ExO.callTotX _ _ hP).mono ?_
  rintro e w8 ⟨⟨f8, rfl⟩, hb⟩
  obtain ⟨W8, hs8, hX, -⟩ := hX.lay hb 0 f8
  clear hP hb
  -- an order's own
  have hP := (Ex.pairLit ExO.aP W8 _ rfl (by decide) rfl).mono (n₁ := (W8.alloc (.cells (pairCells ExO.aP).toArray 72)).heap.size) (by simp)
  replace hX := hX.alloc (.cells (pairCells ExO.aP).toArray 72)
  go_wp2_with fail
  clear hs8
  refine (ExO.callC _ _ hP).mono ?_
  rintro e w9 ⟨rfl, hb⟩
  obtain ⟨W9, hs9, hX, -⟩ := hX.lay hb 2 ExO.aF
  clear hP hb
  have l := (hX.rel (w9.heap.size, 2, ExO.aF) (by simp)).ld
  go_wp2_with fail
  clear hs9 l
  refine (ExO.callOf _ (hX.tab hT)).mono ?_
  rintro e w10 ⟨⟨v10, rfl, hv10⟩, hb⟩
  replace hX := (hX.on hb).addSl hv10
  clear hb hv10
  go_wp2_with fail
  refine (ExO.callOfX _ (hX.tab hT)).mono ?_
  rintro e w11 ⟨⟨v11, rfl⟩, hb⟩
  replace hX := hX.on hb
  clear hb
  go_wp2_with fail
  refine (ExO.callOrdZ _ (hX.tab hT)).mono ?_
  rintro e w12 ⟨⟨v12, rfl, hv12⟩, hb⟩
  replace hX := (hX.on hb).addLs hv12
  clear hb hv12
  go_wp2_with fail
  -- the lists
  have i1 := (Ex.intLit [0, 1, 2] w12 #[.int .i64 0, .int .i64 1, .int .i64 2] rfl (by decide)).mono (n₁ := (w12.alloc (.cells #[.int .i64 0, .int .i64 1, .int .i64 2] 3)).heap.size) (by simp)
  replace hX := hX.alloc (.cells #[.int .i64 0, .int .i64 1, .int .i64 2] 3)
  replace hX := hX.addSl i1
  clear i1
  have i2 := (Ex.intLit [0, 2, 1] (w12.alloc (.cells #[.int .i64 0, .int .i64 1, .int .i64 2] 3)) #[.int .i64 0, .int .i64 2, .int .i64 1] rfl (by decide)).mono (n₁ := ((w12.alloc (.cells #[.int .i64 0, .int .i64 1, .int .i64 2] 3)).alloc (.cells #[.int .i64 0, .int .i64 2, .int .i64 1] 3)).heap.size) (by simp)
  replace hX := hX.alloc (.cells #[.int .i64 0, .int .i64 2, .int .i64 1] 3)
  replace hX := hX.addSl i2
  clear i2
  have i3 := (Ex.intLit [2, 0, 1] ((w12.alloc (.cells #[.int .i64 0, .int .i64 1, .int .i64 2] 3)).alloc (.cells #[.int .i64 0, .int .i64 2, .int .i64 1] 3)) #[.int .i64 2, .int .i64 0, .int .i64 1] rfl (by decide)).mono (n₁ := (((w12.alloc (.cells #[.int .i64 0, .int .i64 1, .int .i64 2] 3)).alloc (.cells #[.int .i64 0, .int .i64 2, .int .i64 1] 3)).alloc (.cells #[.int .i64 2, .int .i64 0, .int .i64 1] 3)).heap.size) (by simp)
  replace hX := hX.alloc (.cells #[.int .i64 2, .int .i64 0, .int .i64 1] 3)
  replace hX := hX.addSl i3
  clear i3
  simp only [World.size_alloc] at hX
  have hz : (((w12.alloc (.cells #[.int .i64 0, .int .i64 1, .int .i64 2] 3)).alloc (.cells #[.int .i64 0, .int .i64 2, .int .i64 1] 3)).alloc (.cells #[.int .i64 2, .int .i64 0, .int .i64 1] 3)).heap.size = w12.heap.size + 1 + 1 + 1 := by simp
  generalize ((w12.alloc (.cells #[.int .i64 0, .int .i64 1, .int .i64 2] 3)).alloc (.cells #[.int .i64 0, .int .i64 2, .int .i64 1] 3)).alloc (.cells #[.int .i64 2, .int .i64 0, .int .i64 1] 3) = W12 at *
  have hL := (ExO.listLit W12 [.slice (some ⟨w12.heap.size, 0, none⟩) 3 3, .slice (some ⟨w12.heap.size + 1, 0, none⟩) 3 3, .slice (some ⟨w12.heap.size + 1 + 1, 0, none⟩) 3 3] [[0, 1, 2], [0, 2, 1], [2, 0, 1]] rfl (by decide) (by
    intro j v l hv hl
    match j, hv, hl with
    | 0, hv, hl => cases hv; cases hl; exact hX.sl (_, [0, 1, 2]) (by simp)
    | 1, hv, hl => cases hv; cases hl; exact hX.sl (_, [0, 2, 1]) (by simp)
    | 2, hv, hl => cases hv; cases hl; exact hX.sl (_, [2, 0, 1]) (by simp)
    | j + 3, hv, hl => simp at hv)).mono (n₁ := (W12.alloc (.cells #[.slice (some ⟨w12.heap.size, 0, none⟩) 3 3, .slice (some ⟨w12.heap.size + 1, 0, none⟩) 3 3, .slice (some ⟨w12.heap.size + 1 + 1, 0, none⟩) 3 3] 46)).heap.size) (by simp)
  rw [hz] at hL
  replace hX := hX.alloc (.cells #[.slice (some ⟨w12.heap.size, 0, none⟩) 3 3, .slice (some ⟨w12.heap.size + 1, 0, none⟩) 3 3, .slice (some ⟨w12.heap.size + 1 + 1, 0, none⟩) 3 3] 46)
  refine (lists_same _ _ _ _ (hX.ls (v2, [[0, 1, 2], [0, 2, 1], [2, 0, 1]]) (by simp)) hL).mono ?_
  rintro e w13 ⟨rfl, hb⟩
  replace hX := hX.on hb
  clear hb hL hz
  -- the pairs of an order
  have l := (hX.rel (w7.heap.size, 3, ExO.tF) (by simp)).ld
  go_wp2_with fail
  clear l
  refine (ExO.callH 0 1 (by decide +kernel) _).mono ?_
  rintro e w14 ⟨rfl, hb⟩
  replace hX := hX.on hb
  clear hb
  have l := (hX.rel (w7.heap.size, 3, ExO.tF) (by simp)).ld
  go_wp2_with fail
  clear l
  refine (ExO.callH 2 0 (by decide +kernel) _).mono ?_
  rintro e w15 ⟨rfl, hb⟩
  replace hX := hX.on hb
  clear hb
  have l := (hX.rel (w7.heap.size, 3, ExO.tF) (by simp)).ld
  go_wp2_with fail
  clear l
  refine (ExO.callH 2 1 (by decide +kernel) _).mono ?_
  rintro e w16 ⟨rfl, hb⟩
  replace hX := hX.on hb
  clear hb
  have l := (hX.rel (w7.heap.size, 3, ExO.tF) (by simp)).ld
  go_wp2_with fail
  clear l
  refine (ExO.callPairs _ (hX.tab hT)).mono ?_
  rintro e w17 ⟨⟨a17, c17, rfl⟩, hb⟩
  replace hX := hX.on hb
  clear hb
  -- what keeps no relation
  have hP := (Ex.intLit [1, 0] w17 #[.int .i64 1, .int .i64 0] rfl (by decide)).mono (n₁ := (w17.alloc (.cells #[.int .i64 1, .int .i64 0] 3)).heap.size) (by simp)
  have l := (hX.rel (w9.heap.size, 2, ExO.aF) (by simp)).ld
  replace hX := hX.alloc (.cells #[.int .i64 1, .int .i64 0] 3)
  go_wp2_with fail
  clear l
  refine (ExO.callKeeps _ _ hP).mono ?_
  rintro e w18 ⟨rfl, hb⟩
  replace hX := hX.on hb
  clear hb hP
  have hP := (Ex.intLit [0, 1] w18 #[.int .i64 0, .int .i64 1] rfl (by decide)).mono (n₁ := (w18.alloc (.cells #[.int .i64 0, .int .i64 1] 3)).heap.size) (by simp)
  replace hX := hX.alloc (.cells #[.int .i64 0, .int .i64 1] 3)
  go_wp2_with fail
  refine (ints_eq (hX.sl (v10, [0, 1]) (by simp)) hP).mono ?_
  rintro e w19 ⟨rfl, hb⟩
  replace hX := hX.on hb
  clear hb hP
  have hP := (Ex.intLit [] w19 #[] rfl (by decide)).mono (n₁ := (w19.alloc (.cells #[] 3)).heap.size) (by simp)
  replace hX := hX.alloc (.cells #[] 3)
  have hL := (ExO.listLit (w19.alloc (.cells #[] 3)) [.slice (some ⟨w19.heap.size, 0, none⟩) 0 0] [[]] rfl (by decide) (by
    intro j v l hv hl
    match j, hv, hl with
    | 0, hv, hl => cases hv; cases hl; exact hP
    | j + 1, hv, hl => simp at hv)).mono (n₁ := ((w19.alloc (.cells #[] 3)).alloc (.cells #[.slice (some ⟨w19.heap.size, 0, none⟩) 0 0] 46)).heap.size) (by simp)
  replace hX := hX.alloc (.cells #[.slice (some ⟨w19.heap.size, 0, none⟩) 0 0] 46)
  have hz : (w19.alloc (.cells #[] 3)).heap.size = w19.heap.size + 1 := by simp
  go_wp2_with fail
  generalize w19.alloc (.cells #[] 3) = W19 at *
  rw [hz] at hL
  refine (lists_same _ _ _ _ (hX.ls (v12, [[]]) (by simp)) hL).mono ?_
  rintro e w20 ⟨rfl, hb⟩
  replace hX := hX.on hb
  clear hb hL hP
  go_wp2
  go_ret
  exact ⟨rfl, hX.below⟩
end Go.Proofs.YtpbljciblgcgfaaDoor
end

section
/- The reference's order: place, Listed. -/
namespace Go.Proofs.YtpbljciblgcgfaaDoor
open Go.RowKit Go.Shelf

attribute [local go_sem] Oper.semAt_some

/-- The place of a thing in a list. -/
def plcGo (a : Int) : List Int → Nat → Int
  | [], _ => -1
  | z :: l, k => if z = a then (k : Int) else plcGo a l (k + 1)
def plc (zs : List Int) (a : Int) : Int := plcGo a zs 0
theorem dropI {l : List Int} {k : Nat} {x : Int} (h : l[k]? = some x) : l.drop k = x :: l.drop (k + 1) := by
  have hk := (List.getElem?_eq_some_iff.1 h).1
  rw [List.drop_eq_getElem_cons hk, (List.getElem?_eq_some_iff.1 h).2]

set_option maxHeartbeats 1000000 in
set_option maxRecDepth 100000 in
theorem refPlace_any (v : Value) (zs : List Int) (a : Int) (n₀ : Nat) (w : World) (hs : IntSl n₀ w v zs) :
    Calls Tryd.prog 92 #[v, .int .i64 a] w fun e w' => e = .returned (.int .i64 (plc zs a)) ∧ w = w' := by
  obtain ⟨hm, ad, cv, rfl, hc⟩ := hs
  unfold maxLen at hm
  go_enter Tryd.func92, Tryd.ntmps92
  go_wp2
  go_loop [5] (fun i => ∃ k : Nat, k ≤ zs.length ∧ i = .int .i64 k ∧ plcGo a (zs.drop k) k = plc zs a) (fun i => zs.length - (intOf i).toNat)
  case atStart => exact ⟨0, Nat.zero_le _, rfl, rfl⟩
  case round =>
    obtain ⟨k, hk, rfl, hi⟩ := hrel
    by_cases hlt : k < zs.length
    · obtain ⟨b, off, rfl, hb, hcl⟩ := hc (by omega)
      obtain ⟨x, hx⟩ : ∃ x, zs[k]? = some x := ⟨zs[k]'hlt, List.getElem?_eq_getElem _⟩
      have cx := hcl k hlt
      rw [hx, Option.getD_some] at cx
      rw [dropI hx, plcGo] at hi
      have t1 : decide (k < zs.length) = true := by simpa using hlt
      clear hcl hx
      by_cases hxa : x = a
      · have t2 : (x == a) = true := by simpa using hxa
        rw [if_pos hxa] at hi
        replace hi := Lib.hid hi
        replace hxa := Lib.hid hxa
        go_wp2
        go_ret
        exact ⟨by rw [← hi.out]; rfl, rfl⟩
      · have t2 : (x == a) = false := by simpa using hxa
        rw [if_neg hxa] at hi
        replace hi := Lib.hid hi
        replace hxa := Lib.hid hxa
        go_wp2
        go_round
        case rel => exact ⟨k + 1, by omega, by go_num, hi.out⟩
        case measure => simp [intOf]; omega
    · obtain rfl : k = zs.length := by omega
      have t1 : decide (zs.length < zs.length) = false := by simp
      rw [List.drop_length, plcGo] at hi
      replace hi := Lib.hid hi
      go_wp2
      go_ret
      exact ⟨by rw [← hi.out]; rfl, rfl⟩

/-- Is a list an order of n things? -/
def listedB (n : Int) (zs : List Int) : Bool := decide ((zs.length : Int) = n) && (List.range zs.length).all fun a => zs.count (a : Int) == 1
theorem countI {zs : List Int} {k : Nat} {x : Int} (hx : zs[k]? = some x) (a : Int) : (zs.take (k + 1)).count a = (zs.take k).count a + if x = a then 1 else 0 := by
  have hk := (List.getElem?_eq_some_iff.1 hx).1
  rw [List.take_succ_eq_append_getElem hk, (List.getElem?_eq_some_iff.1 hx).2, List.count_append, List.count_singleton]
  by_cases h : x = a <;> simp [h]

set_option maxHeartbeats 2000000 in
set_option maxRecDepth 100000 in
theorem refListed_any (n : Int) (v : Value) (zs : List Int) (n₀ : Nat) (w : World) (hs : IntSl n₀ w v zs) :
    Calls Tryd.prog 91 #[.int .i64 n, v] w fun e w' => e = .returned (.bool (listedB n zs)) ∧ w = w' := by
  obtain ⟨hm, ad, cv, rfl, hc⟩ := hs
  unfold maxLen at hm
  by_cases hn : (zs.length : Int) = n
  · subst hn
    have t0 : ((zs.length : Int) != (zs.length : Int)) = false := by simp
    have hL : listedB zs.length zs = (List.range zs.length).all fun a => zs.count (a : Int) == 1 := by simp [listedB]
    replace hL := Lib.hid hL
    go_enter Tryd.func91, Tryd.ntmps91
    go_wp2
    go_loop [5, 6, 7] (fun i _ _ => ∃ k : Nat, k ≤ zs.length ∧ i = .int .i64 k ∧ ∀ a : Nat, a < k → zs.count (a : Int) = 1) (fun i _ _ => zs.length - (intOf i).toNat)
    case atStart => exact ⟨0, Nat.zero_le _, rfl, fun a h => by omega⟩
    case round =>
      obtain ⟨k, hk, rfl, hi⟩ := hrel
      replace hi := Lib.hid hi
      by_cases hlt : k < zs.length
      · have t1 : decide (k < zs.length) = true := by simpa using hlt
        go_wp2
        go_loop [6, 7] (fun m j => ∃ q : Nat, q ≤ zs.length ∧ j = .int .i64 q ∧ m = .int .i64 ((zs.take q).count (k : Int) : Nat)) (fun _ j => zs.length - (intOf j).toNat)
        case atStart => exact ⟨0, Nat.zero_le _, rfl, rfl⟩
        case round =>
          obtain ⟨q, hq, rfl, rfl⟩ := hrel
          by_cases hlt2 : q < zs.length
          · have t2 : decide (q < zs.length) = true := by simpa using hlt2
            obtain ⟨b, off, rfl, hb, hcl⟩ := hc (by omega)
            obtain ⟨x, hx⟩ : ∃ x, zs[q]? = some x := ⟨zs[q]'hlt2, List.getElem?_eq_getElem _⟩
            have cx := hcl q hlt2
            rw [hx, Option.getD_some] at cx
            have hcn := countI hx (k : Int)
            have hle : (zs.take q).count (k : Int) ≤ q := Nat.le_trans List.count_le_length (by simp; omega)
            clear hcl hx
            by_cases hxa : x = (k : Int)
            · have t3 : (x == (k : Int)) = true := by simpa using hxa
              rw [if_pos hxa] at hcn
              replace hcn := Lib.hid hcn
              replace hxa := Lib.hid hxa
              go_wp2
              go_round
              case rel => exact ⟨q + 1, by omega, by go_num, by rw [hcn.out]; go_num⟩
              case measure => simp [intOf]; omega
            · have t3 : (x == (k : Int)) = false := by simpa using hxa
              rw [if_neg hxa] at hcn
              replace hcn := Lib.hid hcn
              replace hxa := Lib.hid hxa
              go_wp2
              go_round
              case rel => exact ⟨q + 1, by omega, by go_num, by rw [hcn.out]; rfl⟩
              case measure => simp [intOf]; omega
          · obtain rfl : q = zs.length := by omega
            have t2 : decide (zs.length < zs.length) = false := by simp
            rw [List.take_length]
            by_cases hc1 : zs.count (k : Int) = 1
            · have t4 : (((zs.count (k : Int) : Nat) : Int) != 1) = false := by simp [hc1]
              have hi2 := Lib.hid (show ∀ a : Nat, a < k + 1 → zs.count (a : Int) = 1 from fun a ha => by
                rcases Nat.lt_succ_iff_lt_or_eq.1 ha with h | rfl
                · exact hi.out a h
                · exact hc1)
              replace hc1 := Lib.hid hc1
              go_wp2
              go_round
              case rel => exact ⟨k + 1, by omega, by go_num, hi2.out⟩
              case measure => simp [intOf]; omega
            · have t4 : (((zs.count (k : Int) : Nat) : Int) != 1) = true := by simp; omega
              have hd := Lib.hid (show listedB zs.length zs = false by
                rw [hL.out, List.all_eq_false]
                exact ⟨k, List.mem_range.2 hlt, by simpa using hc1⟩)
              replace hc1 := Lib.hid hc1
              go_wp2
              go_ret
              exact ⟨by rw [hd.out]; rfl, rfl⟩
      · obtain rfl : k = zs.length := by omega
        have t1 : decide (zs.length < zs.length) = false := by simp
        have hd := Lib.hid (show listedB zs.length zs = true by
          rw [hL.out, List.all_eq_true]
          intro a ha
          simpa using hi.out a (List.mem_range.1 ha))
        go_wp2
        go_ret
        exact ⟨by rw [hd.out]; rfl, rfl⟩
  · have t0 : ((zs.length : Int) != n) = true := by simpa using hn
    have hd := Lib.hid (show listedB n zs = false by simp [listedB, hn])
    replace hn := Lib.hid hn
    go_enter Tryd.func91, Tryd.ntmps91
    go_wp2
    go_ret
    exact ⟨by rw [hd.out]; rfl, rfl⟩
end Go.Proofs.YtpbljciblgcgfaaDoor
end

section
/- The law OrderWrong: what its own count of the items says. -/
namespace Go.Proofs.YtpbljciblgcgfaaDoor
open Go.RowKit Go.Shelf Go.Maps

abbrev HU := Unit
abbrev iLit (z : Int) : Lit := .int .i64 z
abbrev iDat (z : Int) : DataW HU := .lit (.int .i64 z)
/-- The map holds how often each number stands among the first k. -/
structure CntAt (zs : List Int) (k : Nat) (W : World) (b : Nat) (D : DataW HU) : Prop where
  own : W.ownsMap Tryd.prog 3 (plainElem Tryd.prog 3) b k D
  map : IsMap D
  at' : ∀ z : Int, D.atKey (iLit z) (iDat 0) = iDat (((zs.take k).count z : Nat) : Int)
theorem law_int : Keyed Tryd.prog 3 := int_keyed Tryd.underlying3
theorem zero_int (w : World) : (zeroValue 3).run Tryd.prog w = .ok (.int .i64 0) w := by kernel_rfl
theorem cnt_new (zs : List Int) (W : World) : CntAt zs 0 (W.alloc (.map #[] 0)) W.heap.size (.map []) :=
  ⟨World.ownsMap_made _ _ _ _, ⟨_, rfl⟩, fun z => by simp [DataW.atKey]⟩
theorem CntAt.look {zs : List Int} {k : Nat} {W : World} {b : Nat} {D : DataW HU} (h : CntAt zs k W b D) {z : Int} (hz : (Lit.int .i64 z).wf = true) :
    (Instr.lookup 69 (.map (some b)) (.int .i64 z) false).run Tryd.prog W = .ok (.int .i64 (((zs.take k).count z : Nat) : Int)) W := by
  obtain ⟨c, hr, hat, _⟩ := h.own.lookup_int law_int Tryd.underlying69 Tryd.underlying3 (zero_int W) (keyOf_int_mk Tryd.underlying3 hz)
  have := (h.at' z).symm.trans hat
  simp only [iDat, DataW.lit.injEq, Lit.int.injEq, true_and] at this
  rw [this]
  exact hr
theorem take_one {zs : List Int} {k : Nat} {z : Int} (hz : zs[k]? = some z) : zs.take (k + 1) = zs.take k ++ [z] := by
  have hk := (List.getElem?_eq_some_iff.1 hz).1
  rw [List.take_succ_eq_append_getElem hk, (List.getElem?_eq_some_iff.1 hz).2]
theorem CntAt.step {zs : List Int} {k : Nat} {D : DataW HU} {W W' : World} {b : Nat} (h : CntAt zs k W b D) {z : Int} (hz : zs[k]? = some z)
    (h' : W'.ownsMap Tryd.prog 3 (plainElem Tryd.prog 3) b (k + 1) (D.put (iLit z) (iDat ((((zs.take k).count z : Nat) : Int) + 1)))) : CntAt zs (k + 1) W' b (D.put (iLit z) (iDat ((((zs.take k).count z : Nat) : Int) + 1))) := by
  obtain ⟨es, hes⟩ := h.map
  refine ⟨h', by rw [hes]; exact ⟨_, rfl⟩, fun y => ?_⟩
  rw [take_one hz, List.count_append]
  by_cases hy : y = z
  · subst hy
    rw [atKey_put_same (k := iLit y) h.map (show WideAt.IsKeyLit (iLit y) from trivial)]
    simp [iDat]
  · rw [atKey_put_other (by simp [iLit, hy]), h.at' y]
    have : List.count y [z] = 0 := by rw [List.count_eq_zero]; simpa using hy
    rw [this]
    rfl

/-- May the list be an order, as far as k? -/
def fineU (n : Int) (zs : List Int) : Nat → Bool
  | 0 => decide (0 ≤ n) && decide (n ≤ 48) && decide ((zs.length : Int) = n)
  | k + 1 => fineU n zs k && (decide (0 ≤ zs[k]?.getD 0) && (decide (zs[k]?.getD 0 < n) && decide ((zs.take k).count (zs[k]?.getD 0) = 0)))
theorem fineU_iff {n : Int} {zs : List Int} : ∀ k, k ≤ zs.length → (fineU n zs k = true ↔ (0 ≤ n ∧ n ≤ 48 ∧ (zs.length : Int) = n) ∧ (∀ z ∈ zs.take k, 0 ≤ z ∧ z < n) ∧ (zs.take k).Nodup)
  | 0, _ => by simp [fineU, and_assoc]
  | k + 1, hk => by
    obtain ⟨z, hz⟩ : ∃ z, zs[k]? = some z := ⟨zs[k]'(by omega), List.getElem?_eq_getElem _⟩
    rw [fineU, Bool.and_eq_true, fineU_iff k (by omega), take_one hz, hz]
    simp only [Option.getD_some, Bool.and_eq_true, decide_eq_true_eq, List.count_eq_zero]
    rw [List.nodup_append]
    constructor
    · rintro ⟨⟨h1, h2, h3⟩, h4, h5, h6⟩
      refine ⟨h1, fun y hy => ?_, h3, by simp, fun a ha b hb e => ?_⟩
      · rcases List.mem_append.1 hy with hy | hy
        · exact h2 y hy
        · simp at hy; subst hy; exact ⟨h4, h5⟩
      · simp at hb; subst hb; subst e; exact h6 ha
    · rintro ⟨h1, h2, h3, _, h4⟩
      have := h2 z (by simp)
      exact ⟨⟨h1, fun y hy => h2 y (by simp [hy]), h3⟩, this.1, this.2, fun h => h4 z h z (by simp) rfl⟩
theorem nodup_cast {N : Nat} {zs : List Int} (h : ∀ z ∈ zs, 0 ≤ z ∧ z < (N : Int)) : iL (zs.map Int.toNat) = zs := by
  unfold iL
  rw [List.map_map]
  conv => rhs; rw [← List.map_id zs]
  refine List.map_congr_left fun z hz => ?_
  have := h z hz
  simp
  omega
theorem full_of_nodup {N : Nat} {l : List Nat} (hl : l.length = N) (hnd : l.Nodup) (h : ∀ x ∈ l, x < N) {j : Nat} (hj : j < N) : j ∈ l := by
  refine Classical.byContradiction fun hn => ?_
  have := sub_le (l := j :: l) (m := List.range N) (List.nodup_cons.2 ⟨hn, hnd⟩) fun x hx => by
    rcases List.mem_cons.1 hx with rfl | hx
    · exact List.mem_range.2 hj
    · exact List.mem_range.2 (h x hx)
  rw [List.length_range, List.length_cons] at this
  omega
/-- The law's own test is the program's. -/
theorem fine_ord (n : Int) (zs : List Int) : fineU n zs zs.length = ordB n zs := by
  rw [Bool.eq_iff_iff, fineU_iff _ (Nat.le_refl _), List.take_length]
  constructor
  · rintro ⟨⟨h0, h1, h2⟩, h3, h4⟩
    obtain ⟨N, rfl⟩ : ∃ N : Nat, n = (N : Int) := ⟨n.toNat, by omega⟩
    have he := nodup_cast h3
    have hnd : (zs.map Int.toNat).Nodup := by
      have : (iL (zs.map Int.toNat)).Nodup := by rw [he]; exact h4
      exact List.Pairwise.of_map _ (fun a b hab e => hab (by rw [e])) this
    refine ordB_iff.2 ⟨by omega, by omega, h3, fun j hj => ?_⟩
    have := full_of_nodup (N := N) (l := zs.map Int.toNat) (by rw [List.length_map]; omega) hnd (fun x hx => by
      obtain ⟨z, hz, rfl⟩ := List.mem_map.1 hx
      have := h3 z hz
      omega) hj
    rw [← he]
    exact List.mem_map.2 ⟨j, this, rfl⟩
  · intro h
    have h48 : n ≤ 48 := by
      unfold ordB at h
      simp only [Bool.and_eq_true, decide_eq_true_eq] at h
      exact h.1
    have hlen : n = zs.length := by
      unfold ordB at h
      simp only [Bool.and_eq_true, decide_eq_true_eq] at h
      exact h.2.1
    obtain ⟨N, rfl⟩ : ∃ N : Nat, n = (N : Int) := ⟨n.toNat, by omega⟩
    obtain ⟨_, h2, h3, h4⟩ := ordB_iff.1 h
    have he := nodup_cast h3
    refine ⟨⟨by omega, h48, hlen.symm⟩, h3, ?_⟩
    have hnd : (zs.map Int.toNat).Nodup := nodup_of_sub (N := N) (by rw [List.length_map]; omega) fun j hj => by
      have := h4 j hj
      exact List.mem_map.2 ⟨j, this, by simp⟩
    rw [← he]
    exact List.Pairwise.map _ (fun a b hab e => hab (by have : (a : Int) = (b : Int) := e; omega)) hnd
end Go.Proofs.YtpbljciblgcgfaaDoor
end

section
/- The reference's order: what Listed and place say of the program's. -/
namespace Go.Proofs.YtpbljciblgcgfaaDoor
open Go.RowKit Go.Shelf

theorem plcGo_at : ∀ (l : List Int) (k i : Nat) (a : Int), l.Nodup → l[i]? = some a → plcGo a l k = ((k + i : Nat) : Int)
  | [], _, _, _, _, h => by simp at h
  | z :: l, k, 0, a, _, h => by
    simp at h
    simp [plcGo, h]
  | z :: l, k, i + 1, a, hn, h => by
    have h2 : l[i]? = some a := by simpa using h
    have hne : z ≠ a := fun e => (List.nodup_cons.1 hn).1 (e ▸ List.mem_of_getElem? h2)
    rw [plcGo, if_neg hne, plcGo_at l (k + 1) i a (List.nodup_cons.1 hn).2 h2]
    omega
theorem plc_at {l : List Int} {i : Nat} {a : Int} (hn : l.Nodup) (h : l[i]? = some a) : plc l a = i := by
  unfold plc
  rw [plcGo_at l 0 i a hn h]
  omega
theorem iL_nodup {l : List Nat} (h : l.Nodup) : (iL l).Nodup := List.Pairwise.map _ (fun a b hab e => hab (by have : (a : Int) = (b : Int) := e; omega)) h
theorem iL_at {l : List Nat} {i a : Nat} (h : l[i]? = some a) : (iL l)[i]? = some (a : Int) := by
  unfold iL
  rw [List.getElem?_map, h]
  rfl
theorem bef_plc {N : Nat} {l : List Nat} (hl : IsOrd N l) {i j : Nat} (hi : i < N) (hj : j < N) : Bef l i j ↔ plc (iL l) i < plc (iL l) j := by
  obtain ⟨a, ha⟩ := List.getElem?_of_mem ((hl.mem i).2 hi)
  obtain ⟨b, hb⟩ := List.getElem?_of_mem ((hl.mem j).2 hj)
  rw [plc_at (iL_nodup hl.nodup) (iL_at ha), plc_at (iL_nodup hl.nodup) (iL_at hb)]
  constructor
  · rintro ⟨x, y, h1, h2, h3⟩
    have := idx_same hl.nodup h2 ha
    have := idx_same hl.nodup h3 hb
    omega
  · intro h
    exact ⟨a, b, by omega, ha, hb⟩
theorem listed_ord {N : Nat} (hN : N ≤ 48) (zs : List Int) : listedB N zs = ordB N zs := by
  rw [Bool.eq_iff_iff, ordB_iff]
  unfold listedB
  simp only [Bool.and_eq_true, decide_eq_true_eq, List.all_eq_true, List.mem_range, beq_iff_eq]
  constructor
  · rintro ⟨h1, h2⟩
    have hlen : zs.length = N := by omega
    rw [hlen] at h2
    have hm : ∀ j : Nat, j < N → (j : Int) ∈ zs := fun j hj => List.count_pos_iff.1 (by have := h2 j hj; omega)
    refine ⟨hN, hlen, fun z hz => Classical.byContradiction fun hn => ?_, hm⟩
    have hnd : (z :: iL (List.range N)).Nodup := List.nodup_cons.2 ⟨fun h => by
      obtain ⟨x, hx, rfl⟩ := List.mem_map.1 h
      have := List.mem_range.1 hx
      omega, iL_nodup List.nodup_range⟩
    have := sub_le hnd (m := zs) fun x hx => by
      rcases List.mem_cons.1 hx with rfl | hx
      · exact hz
      · obtain ⟨y, hy, rfl⟩ := List.mem_map.1 hx
        exact hm y (List.mem_range.1 hy)
    rw [List.length_cons, iL, List.length_map, List.length_range] at this
    omega
  · rintro ⟨_, h2, h3, h4⟩
    refine ⟨by omega, fun a ha => ?_⟩
    have he := nodup_cast h3
    have ho : IsOrd N (zs.map Int.toNat) := ord_of (by rw [he]; exact ordB_iff.2 ⟨hN, h2, h3, h4⟩)
    have hnd : zs.Nodup := by rw [← he]; exact iL_nodup ho.nodup
    have h5 := List.count_pos_iff.2 (h4 a (by omega))
    have h6 := List.nodup_iff_count.1 hnd (a : Int)
    omega
/-- An order, as a list of numbers. -/
theorem ord_cast {N : Nat} {zs : List Int} (h : ordB N zs = true) : ∃ l, IsOrd N l ∧ zs = iL l := by
  have he := nodup_cast (ordB_iff.1 h).2.2.1
  exact ⟨zs.map Int.toNat, ord_of (by rw [he]; exact h), he.symm⟩
end Go.Proofs.YtpbljciblgcgfaaDoor
end
