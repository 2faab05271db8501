/- RelPairsAlg, RelPairsAid, RefRel3, RelPlusAlg, RefRel4 in one text, for the claim. -/
import Derived.Test.YtakhmjohncidoaaDoorRr1
import Derived.Test.YtakhmjohncidoaaDoorRelAid2
import Derived.Deep.DeepCutAuto
import Derived.Deep.RegionWith
import Derived.Deep.AppendLies

section
/- Lists of pairs, counted and turned: what the law of pairs says. -/
namespace Go.Proofs.YtakhmjohncidoaaDoor
open Go.RowKit Go.Shelf

theorem count_or (l : List It) (p q : It → Bool) : (l.filter fun i => p i || q i).length + (l.filter fun i => p i && q i).length = (l.filter p).length + (l.filter q).length := by
  induction l with
  | nil => rfl
  | cons i l ih => simp only [List.filter_cons]; cases p i <;> cases q i <;> simp <;> omega
theorem count_diff (l : List It) (p q : It → Bool) : (l.filter fun i => p i && !q i).length + (l.filter fun i => p i && q i).length = (l.filter p).length := by
  induction l with
  | nil => rfl
  | cons i l ih => simp only [List.filter_cons]; cases p i <;> cases q i <;> simp <;> omega
theorem rowP_cnt (f : Nat → Nat) (a : It) : (rowP f a).length = (allIt.filter fun b => (f a.1).testBit b.1).length := by
  unfold rowP itS
  rw [List.length_map]
theorem pairs_or (f g : Nat → Nat) : ∀ k, k ≤ 48 → (pairsK (unionF f g) k).length + (pairsK (bothF f g) k).length = (pairsK f k).length + (pairsK g k).length
  | 0, _ => by simp [pairsK_zero]
  | k + 1, h => by
    have ih := pairs_or f g k (by omega)
    have hc := count_or allIt (fun b => (f k).testBit b.1) (fun b => (g k).testBit b.1)
    rw [pairsK_succ _ k (by omega), pairsK_succ _ k (by omega), pairsK_succ _ k (by omega), pairsK_succ _ k (by omega)]
    simp only [List.length_append, rowP_cnt, unionF, bothF, Nat.testBit_or, Nat.testBit_and]
    omega
theorem pairs_less (f g : Nat → Nat) (hf : R64 f) (hg : R64 g) : ∀ k, k ≤ 48 → (pairsK (lessF f g) k).length + (pairsK (bothF f g) k).length = (pairsK f k).length
  | 0, _ => by simp [pairsK_zero]
  | k + 1, h => by
    have ih := pairs_less f g hf hg k (by omega)
    have hc := count_diff allIt (fun b => (f k).testBit b.1) (fun b => (g k).testBit b.1)
    have hl : ∀ b : It, (lessF f g k).testBit b.1 = ((f k).testBit b.1 && !(g k).testBit b.1) := by
      intro b
      have := bt_less hf hg k b.1
      unfold Bt at this
      rw [Bool.eq_iff_iff, this]
      simp
    rw [pairsK_succ _ k (by omega), pairsK_succ _ k (by omega), pairsK_succ _ k (by omega)]
    simp only [List.length_append, rowP_cnt, bothF, Nat.testBit_and, hl]
    omega

theorem bt_ofL (l : List (It × It)) (i j : Nat) : Bt (ofL (l.map itP)) i j ↔ ∃ x ∈ l, x.1.1 = i ∧ x.2.1 = j := by
  unfold ofL
  rw [List.foldl_map]
  have key : ∀ (l : List (It × It)) (g : Nat → Nat), (Bt (l.foldl (fun g x => upd g (itP x).1.toNat (g (itP x).1.toNat ||| 2 ^ (itP x).2.toNat)) g) i j ↔ Bt g i j ∨ ∃ x ∈ l, x.1.1 = i ∧ x.2.1 = j) := by
    intro l
    induction l with
    | nil => intro g; simp
    | cons a l ih =>
      intro g
      rw [List.foldl_cons, ih]
      have hu : Bt (upd g (itP a).1.toNat (g (itP a).1.toNat ||| 2 ^ (itP a).2.toNat)) i j ↔ Bt g i j ∨ (a.1.1 = i ∧ a.2.1 = j) := by
        unfold Bt upd itP
        rw [Int.toNat_natCast, Int.toNat_natCast]
        by_cases hi : i = a.1.1
        · subst hi
          rw [if_pos rfl, Nat.testBit_or, Nat.testBit_two_pow]
          simp
        · rw [if_neg hi]
          constructor
          · exact .inl
          · rintro (h | ⟨h, _⟩)
            · exact h
            · exact absurd h.symm hi
      rw [hu]
      constructor
      · rintro ((h | h) | ⟨x, hx, h⟩)
        · exact .inl h
        · exact .inr ⟨a, List.mem_cons_self, h⟩
        · exact .inr ⟨x, List.mem_cons_of_mem _ hx, h⟩
      · rintro (h | ⟨x, hx, h⟩)
        · exact .inl (.inl h)
        · rcases List.mem_cons.1 hx with rfl | hx
          · exact .inl (.inr h)
          · exact .inr ⟨x, hx, h⟩
  have := key l zf
  simpa [Bt, zf] using this

/-- A list of the pairs of a relation, in any order. -/
def SameP (A : Nat → Nat) (N : Nat) (l : List (It × It)) : Prop := ∀ x, x ∈ l ↔ x ∈ pairsK A N
theorem SameP.good {N : Nat} {A : Nat → Nat} {l : List (It × It)} (hA : Rgt N A) (h : SameP A N l) : ofB N (l.map itP) = true := by
  unfold ofB
  rw [Bool.and_eq_true]
  refine ⟨sizedB_iff.2 ⟨by omega, by have := hA.le; omega⟩, ?_⟩
  rw [List.all_eq_true]
  intro p hp
  obtain ⟨x, hx, rfl⟩ := List.mem_map.1 hp
  have h1 := mem_pairsK.1 ((h x).1 hx)
  have h2 := hA.snd x.1.2 h1.2
  unfold goodP itP
  rw [Bool.and_eq_true]
  exact ⟨itemB_iff.2 ⟨by simp, by simpa using h1.1⟩, itemB_iff.2 ⟨by simp, by simpa using h2⟩⟩
theorem SameP.twice {N : Nat} {A : Nat → Nat} {l : List (It × It)} (h : SameP A N l) : SameP A N (l ++ l) := fun x => by
  rw [List.mem_append, or_self]; exact h x
theorem SameP.of {N : Nat} {A : Nat → Nat} {l : List (It × It)} (hA : Rgt N A) (h : SameP A N l) : relB N N (ofL (l.map itP)) A = true :=
  relB_bits fun i j hi => by
    rw [bt_ofL]
    constructor
    · rintro ⟨x, hx, rfl, rfl⟩
      exact (mem_pairsK.1 ((h x).1 hx)).2
    · intro hb
      have h2 := hA.snd48 hi hb
      exact ⟨(⟨i, hi⟩, ⟨j, h2⟩), (h _).2 (mem_pairsK.2 ⟨hA.fst hi hb, hb⟩), rfl, rfl⟩
theorem sameP_turn (A : Nat → Nat) (N k : Nat) : SameP A N ((pairsK A N).drop k ++ (pairsK A N).take k) := fun x => by
  rw [List.mem_append, or_comm, ← List.mem_append, List.take_append_drop]
/-- The items that occur first, second. -/
def fstS (l : List (It × It)) : Nat := l.foldl (fun s x => s ||| 2 ^ x.1.1) 0
def sndS (l : List (It × It)) : Nat := l.foldl (fun s x => s ||| 2 ^ x.2.1) 0
theorem fold_bit (g : It × It → Nat) (l : List (It × It)) (j : Nat) : (l.foldl (fun s x => s ||| 2 ^ g x) 0).testBit j = true ↔ ∃ x ∈ l, g x = j := by
  have key : ∀ (l : List (It × It)) (s : Nat), ((l.foldl (fun s x => s ||| 2 ^ g x) s).testBit j = true ↔ s.testBit j = true ∨ ∃ x ∈ l, g x = j) := by
    intro l
    induction l with
    | nil => intro s; simp
    | cons a l ih =>
      intro s
      rw [List.foldl_cons, ih, Nat.testBit_or, Nat.testBit_two_pow]
      constructor
      · rintro (h | ⟨x, hx, h⟩)
        · rw [Bool.or_eq_true, decide_eq_true_iff] at h
          rcases h with h | h
          · exact .inl h
          · exact .inr ⟨a, List.mem_cons_self, h⟩
        · exact .inr ⟨x, List.mem_cons_of_mem _ hx, h⟩
      · rintro (h | ⟨x, hx, h⟩)
        · exact .inl (by rw [h]; rfl)
        · rcases List.mem_cons.1 hx with rfl | hx
          · exact .inl (by rw [Bool.or_eq_true, decide_eq_true_iff]; exact .inr h)
          · exact .inr ⟨x, hx, h⟩
  simpa using key l 0
theorem fstS_snoc (l : List (It × It)) (x : It × It) : fstS (l ++ [x]) = fstS l ||| 2 ^ x.1.1 := by simp [fstS, List.foldl_append]
theorem sndS_snoc (l : List (It × It)) (x : It × It) : sndS (l ++ [x]) = sndS l ||| 2 ^ x.2.1 := by simp [sndS, List.foldl_append]
theorem fstS_lt (l : List (It × It)) : fstS l < 2 ^ 48 := lt_of_bits fun j hj => by
  obtain ⟨x, _, rfl⟩ := (fold_bit (fun x => x.1.1) l j).1 hj
  exact x.1.2
theorem sndS_lt (l : List (It × It)) : sndS l < 2 ^ 48 := lt_of_bits fun j hj => by
  obtain ⟨x, _, rfl⟩ := (fold_bit (fun x => x.2.1) l j).1 hj
  exact x.2.2
theorem SameP.from {N : Nat} {A : Nat → Nat} {l : List (It × It)} (hA : Rgt N A) (h : SameP A N l) : fromK A N = fstS l := by
  apply Nat.eq_of_testBit_eq
  intro j
  rw [fromK_bit, Bool.eq_iff_iff]
  unfold fstS
  rw [fold_bit (fun x => x.1.1), Bool.and_eq_true, decide_eq_true_iff, decide_eq_true_iff]
  constructor
  · rintro ⟨hj, hne⟩
    have hj48 : j < 48 := by have := hA.le; omega
    have hex : ∃ k, Bt A j k := by
      refine Classical.byContradiction fun hn => hne (Nat.eq_of_testBit_eq fun k => ?_)
      rw [Nat.zero_testBit, Bool.eq_false_iff]
      exact fun hb => hn ⟨k, hb⟩
    obtain ⟨k, hk⟩ := hex
    exact ⟨(⟨j, hj48⟩, ⟨k, hA.snd48 hj48 hk⟩), (h _).2 (mem_pairsK.2 ⟨hj, hk⟩), rfl⟩
  · rintro ⟨x, hx, rfl⟩
    have hm := mem_pairsK.1 ((h x).1 hx)
    refine ⟨hm.1, fun h0 => ?_⟩
    have hb := hm.2
    unfold Bt at hb
    rw [h0, Nat.zero_testBit] at hb
    cases hb
theorem SameP.into {N : Nat} {A : Nat → Nat} {l : List (It × It)} (hA : Rgt N A) (h : SameP A N l) : imgF A (allOf (N : Int)).toNat = sndS l := by
  apply Nat.eq_of_testBit_eq
  intro j
  rw [Bool.eq_iff_iff, bt_img]
  unfold sndS
  rw [fold_bit (fun x => x.2.1)]
  constructor
  · rintro ⟨k, _, hk, hb⟩
    rw [allOf_bits N k hA.le, decide_eq_true_iff] at hk
    have hk48 : k < 48 := by have := hA.le; omega
    exact ⟨(⟨k, hk48⟩, ⟨j, hA.snd48 hk48 hb⟩), (h _).2 (mem_pairsK.2 ⟨hk, hb⟩), rfl⟩
  · rintro ⟨x, hx, rfl⟩
    have hm := mem_pairsK.1 ((h x).1 hx)
    exact ⟨x.1.1, by have := x.1.2; omega, by rw [allOf_bits N _ hA.le, decide_eq_true_iff]; exact hm.1, hm.2⟩
theorem SameP.has {N : Nat} {A : Nat → Nat} {l : List (It × It)} (hA : Rgt N A) (h : SameP A N l) (x : It × It) (hx : x ∈ l) : hasB N A (x.1.1 : Int) (x.2.1 : Int) = true := by
  have hm := mem_pairsK.1 ((h x).1 hx)
  have h2 := hA.snd x.1.2 hm.2
  unfold hasB
  rw [show rightB (N : Int) A = true from hA, itemB_iff.2 ⟨by omega, by have := hm.1; omega⟩, itemB_iff.2 ⟨by omega, by omega⟩, Int.toNat_natCast, Int.toNat_natCast]
  simpa using hm.2
end Go.Proofs.YtakhmjohncidoaaDoor
end

section
/- Pairs of a right relation, and their cells. -/
namespace Go.Proofs.YtakhmjohncidoaaDoor
open Go.RowKit Go.Shelf

theorem relPairs_ok {N : Nat} {f : Nat → Nat} (h1 : R64 f) (hf : Rgt N f) (w : World) (hT : Tab w) :
    Calls Tryd.prog 22 #[.agg (relC N f)] w fun e w' => ∃ v, e = .returned v ∧ w'.ownsRow w.heap.size 52 2 v (pairsK f N).length (pairCells (pairsK f N)) ∧ Below w.heap.size w w' := by
  have := relPairs_any N f w h1 hT
  rwa [show rightB (N : Int) f = true from hf, if_pos rfl, Int.toNat_natCast] at this
theorem pairCells_append (l m : List (It × It)) : pairCells (l ++ m) = pairCells l ++ pairCells m := by simp [pairCells, List.flatMap_append]
theorem pairCells_length (l : List (It × It)) : (pairCells l).length = l.length * 2 := by
  induction l with
  | nil => rfl
  | cons a l ih => rw [← List.singleton_append, pairCells_append, List.length_append, ih]; simp [pairCells]; omega
theorem pairCells_one (l : List (It × It)) : ∀ u ∈ pairCells l, u.oneCell' = true := by
  intro u hu
  obtain ⟨x, _, hx⟩ := List.mem_flatMap.1 hu
  simp at hx
  rcases hx with rfl | rfl <;> rfl
theorem pairCells_get (l : List (It × It)) (j : Nat) (h : j < l.length) : (pairCells l)[j * 2]? = some (.int .i64 (l[j].1.1 : Int)) ∧ (pairCells l)[j * 2 + 1]? = some (.int .i64 (l[j].2.1 : Int)) := by
  have := pairCells_at l j h
  rw [List.getElem?_map, List.getElem?_eq_getElem h] at this
  exact this
end Go.Proofs.YtakhmjohncidoaaDoor
end

section
/- The document's answers for layer 2: Has, Of, Pairs, From, Into. -/
namespace Go.Proofs.YtakhmjohncidoaaDoor
open Go.RowKit Go.Shelf

attribute [local go_sem] Oper.semAt_some

set_option maxRecDepth 100000 in
set_option maxHeartbeats 4000000 in
theorem refRelHas_any (n : Int) (f : Nat → Nat) (a b : Int) (hf : R64 f) (w : World) :
    Calls Tryd.prog 20 #[.agg (relC n f), .int .i64 a, .int .i64 b] w fun e w' => e = .returned (.bool (hasB n f a b)) ∧ Below w.heap.size w w' := by
  have hA := RelAt.new w n f
  have hB := below_new w (.cells (relC n f) 26)
  have l1 := hA.ld
  have HR := Lib.hid (refRight_any n f hf)
  cases hr : rightB n f
  · rw [hr] at HR
    have hv := Lib.hid (show hasB n f a b = false by simp [hasB, hr])
    clear hr
    go_enter Tryd.func20, Tryd.ntmps20
    go_wp2_with fail
    refine (HR.out _).mono ?_
    rintro e w1 ⟨rfl, h⟩
    go_wp2
    go_ret
    rw [hv.out]
    exact ⟨rfl, thru hB h⟩
  · rw [hr] at HR
    obtain ⟨⟨n0, n1⟩, -⟩ := rightB_iff.1 hr
    by_cases h1 : 0 ≤ a ∧ a < n ∧ 0 ≤ b ∧ b < n
    · obtain ⟨a0, a1, b0, b1⟩ := h1
      obtain ⟨x, rfl⟩ : ∃ x : Nat, a = (x : Int) := ⟨a.toNat, by omega⟩
      obtain ⟨y, rfl⟩ : ∃ y : Nat, b = (y : Int) := ⟨b.toNat, by omega⟩
      have hv := Lib.hid (show hasB n f (x : Int) (y : Int) = (f x).testBit y by
        unfold hasB
        rw [hr, itemB_iff.2 ⟨a0, a1⟩, itemB_iff.2 ⟨b0, b1⟩]
        simp)
      have CH := Lib.hid (fun w => refHas (f x) y (hf x) (by omega) w)
      have zx : (x : Int) < 48 := by omega
      clear hr
      go_enter Tryd.func20, Tryd.ntmps20
      go_wp2_with fail
      refine (HR.out _).mono ?_
      rintro e w1 ⟨rfl, h⟩
      clear l1
      have m1 := (hA.on h).num
      have r1 := (hA.on h).row x (by omega)
      go_wp2_with fail
      refine (CH.out _).mono ?_
      rintro e w2 ⟨rfl, rfl⟩
      go_wp2
      go_ret
      rw [hv.out]
      exact ⟨rfl, thru hB h⟩
    · have hv := Lib.hid (show hasB n f a b = false by
        rw [Bool.eq_false_iff]
        intro h
        unfold hasB at h
        simp only [Bool.and_eq_true] at h
        have h2 := itemB_iff.1 h.2.1
        have h3 := itemB_iff.1 h.2.2.1
        exact h1 ⟨h2.1, h2.2, h3.1, h3.2⟩)
      have hcase : a < 0 ∨ (0 ≤ a ∧ n ≤ a) ∨ (0 ≤ a ∧ a < n ∧ b < 0) ∨ (0 ≤ a ∧ a < n ∧ 0 ≤ b ∧ n ≤ b) := by omega
      clear h1 hr
      rcases hcase with h1 | ⟨h1, h2⟩ | ⟨h1, h2, h3⟩ | ⟨h1, h2, h3, h4⟩
      all_goals
        go_enter Tryd.func20, Tryd.ntmps20
        go_wp2_with fail
        refine (HR.out _).mono ?_
        rintro e w1 ⟨rfl, h⟩
        clear l1
        have m1 := (hA.on h).num
        go_wp2
        go_ret
        rw [hv.out]
        exact ⟨rfl, thru hB h⟩

def RefOfPost (n : Int) (ps : List (Int × Int)) (w : World) (e : Ending) (w' : World) : Prop :=
  e = .returned (.tuple #[.agg (relC (opN (ofB n ps) n) (if ofB n ps then ofL ps else zf)), .bool (ofB n ps)]) ∧ Below w.heap.size w w'
set_option maxRecDepth 100000 in
set_option maxHeartbeats 4000000 in
theorem refOf_any (n : Int) (v : Value) (ps : List (Int × Int)) (w : World) (hs : PairSl w.heap.size w v ps) :
    Calls Tryd.prog 9 #[.int .i64 n, v] w (RefOfPost n ps w) := by
  obtain ⟨hm, av, cap, rfl, hcells⟩ := hs
  unfold maxLen at hm
  have hZ := RelAt.new w 0 zf
  have hB := below_new w (.cells (relC 0 zf) 26)
  have Hcells := Lib.hid hcells
  clear hcells
  by_cases h01 : n < 0 ∨ 48 < n
  · have ho := Lib.hid (show ofB n ps = false by
      unfold ofB
      rw [show sizedB n = false by rw [Bool.eq_false_iff]; intro h; have := sizedB_iff.1 h; omega]
      rfl)
    obtain ⟨W3, hs3, hR3, hO3⟩ := hZ.put 0 zf
    have hB3 := below_only hB hO3 (Nat.le_refl _)
    clear hZ hB hO3
    rcases h01 with h0 | h0
    all_goals
      go_enter Tryd.func9, Tryd.ntmps9
      go_wp2
      refine bodyPost_ret (results_rel2 rfl _ _ _ _ _ rfl hR3) rfl ?_
      unfold RefOfPost
      rw [ho.out]
      exact ⟨rfl, hB3⟩
  · obtain ⟨N, rfl⟩ : ∃ N : Nat, n = (N : Int) := ⟨n.toNat, by omega⟩
    have hN : N ≤ 48 := by omega
    have ho := Lib.hid (show ofB N ps = ps.all (goodP N) by
      unfold ofB
      rw [sizedB_iff.2 ⟨by omega, by omega⟩, Bool.true_and])
    obtain ⟨W3, hs3, hR3, h3, hz3⟩ := Ex.lay (w.alloc (.cells (relC 0 zf) 26)) N zf
    have hX : Kept w W3 [(w.heap.size + 1, (N : Int), ofL (ps.take 0)), (w.heap.size, 0, zf)] := by
      refine ⟨thru hB h3, ?_⟩
      simp only [List.mem_cons, List.not_mem_nil, or_false]
      rintro p (rfl | rfl)
      · rwa [World.size_alloc] at hR3
      · exact hZ.on h3
    rw [World.size_alloc] at hs3
    clear hR3 h3 hz3 hZ hB h01
    have t1 : decide ((N : Int) < 0) = false := by simp
    have t2 : decide (48 < (N : Int)) = false := by simp; omega
    have le1 : w.heap.size ≤ w.heap.size + 1 := by omega
    have ne1 : w.heap.size ≠ w.heap.size + 1 := by omega
    go_enter Tryd.func9, Tryd.ntmps9
    go_wp2
    clear hs3
    go_loopw [7] (fun i W => ∃ k : Nat, k ≤ ps.length ∧ i = .int .i64 k ∧ Hid ((ps.take k).all (goodP N) = true) ∧ Kept w W [(w.heap.size + 1, (N : Int), ofL (ps.take k)), (w.heap.size, 0, zf)]) (fun i _ => ps.length - (intOf i).toNat)
    case atStart => exact ⟨0, by omega, rfl, Lib.hid (by simp), hX⟩
    case round =>
      clear hX
      obtain ⟨k, hk, rfl, hall, hX⟩ := hrel
      by_cases hlt : k < ps.length
      · have tk : decide (k < ps.length) = true := by simpa using hlt
        obtain ⟨b, off, rfl, hbn, hc⟩ := Hcells.out (by omega)
        obtain ⟨c1, c2⟩ := hc k hlt
        replace c1 := (hX.1.cell (p := ⟨b, off + k * 2, none⟩) hbn).trans c1
        replace c2 := (hX.1.cell (p := ⟨b, off + k * 2 + 1, none⟩) hbn).trans c2
        have ht := take_snocP ps k hlt
        have hmem : ps[k]?.getD (0, 0) ∈ ps := by simp [hlt]
        generalize ps[k]?.getD (0, 0) = p at *
        obtain ⟨x, y⟩ := p
        have hgood : goodP N (x, y) = true → ofL (ps.take (k + 1)) = upd (ofL (ps.take k)) x.toNat (ofL (ps.take k) x.toNat ||| 2 ^ y.toNat) ∧ (ps.take (k + 1)).all (goodP N) = true := fun h => by
          rw [ht, ofL_snoc, List.all_append, hall.out]
          exact ⟨rfl, by simpa using h⟩
        have hbad : goodP N (x, y) = false → ofB N ps = false := fun h => by
          rw [ho.out, Bool.eq_false_iff]; intro hcc; rw [List.all_eq_true] at hcc; have := hcc _ hmem; rw [h] at this; cases this
        have hL48 := ofL_lt N (by omega) _ hall.out
        replace hgood := Lib.hid hgood
        replace hbad := Lib.hid hbad
        have hXh := Lib.hid hX
        clear hc hmem ht hX
        go_upto_region 7 with fail
        go_region
        all_goals
          by_cases hxy : 0 ≤ x ∧ x < N ∧ 0 ≤ y ∧ y < N
          · obtain ⟨x0, x1, y0, y1⟩ := hxy
            obtain ⟨e1, e2⟩ := hgood.out (by unfold goodP; rw [itemB_iff.2 ⟨x0, x1⟩, itemB_iff.2 ⟨y0, y1⟩]; rfl)
            obtain ⟨X, rfl⟩ : ∃ X : Nat, x = (X : Int) := ⟨x.toNat, by omega⟩
            obtain ⟨Y, rfl⟩ : ∃ Y : Nat, y = (Y : Int) := ⟨y.toNat, by omega⟩
            rw [Int.toNat_natCast, Int.toNat_natCast] at e1
            have cW := Lib.hid (fun w => refWith (ofL (ps.take k) X) Y (Nat.lt_of_lt_of_le (hL48 X) (by decide)) (by omega) w)
            have hXd := Lib.hid hXh.out.drew
            have r1 := (hXd.out.at (b := w.heap.size + 1) (n := N) (f := ofL (ps.take k)) (by simp)).row X (by omega)
            have f1 := (hXd.out.at (b := w.heap.size + 1) (n := N) (f := ofL (ps.take k)) (by simp)).free (1 + X)
            have zX : (X : Int) < 48 := by omega
            have hR2 := (hXd.out.at (b := w.heap.size + 1) (n := N) (f := ofL (ps.take k)) (by simp)).set X (ofL (ps.take k) X ||| 2 ^ Y) (by omega)
            rw [← e1] at hR2
            have hX2 := ((hXd.out.less (l' := [(w.heap.size, 0, zf)]) (by simp)).set ⟨w.heap.size + 1, 1 + X, none⟩ (.int .u64 ((ofL (ps.take k) X ||| 2 ^ Y : Nat) : Int)) le1 (by simp)).cons hR2
            replace hX2 := Lib.hid hX2
            replace e2 := Lib.hid e2
            clear e1 hR2 hL48
            generalize ofL (ps.take k) X ||| 2 ^ Y = z at *
            generalize ofL (ps.take k) X = z0 at *
            go_wp2_with fail
            refine (cW.out _).mono ?_
            rintro e w5 ⟨rfl, rfl⟩
            go_wp2
            go_roundw
            case rel => exact ⟨k + 1, by omega, by go_num, e2, hX2.out⟩
            case measure => simp [intOf]; omega
          · have ho2 := Lib.hid (hbad.out (by
              rw [Bool.eq_false_iff]; intro h; unfold goodP at h; rw [Bool.and_eq_true] at h
              have h2 := itemB_iff.1 h.1
              have h3 := itemB_iff.1 h.2
              exact hxy ⟨h2.1, h2.2, h3.1, h3.2⟩))
            have hXd := hXh.out.drew
            obtain ⟨W4, hs4, hR4, hO4⟩ := (hXd.at (b := w.heap.size) (n := 0) (f := zf) (by simp)).put 0 zf
            have hB4 := below_only hXd.1 hO4 (Nat.le_refl _)
            have hcase : x < 0 ∨ (0 ≤ x ∧ (N : Int) ≤ x) ∨ (0 ≤ x ∧ x < N ∧ y < 0) ∨ (0 ≤ x ∧ x < N ∧ 0 ≤ y ∧ (N : Int) ≤ y) := by omega
            clear hXd hO4 hxy
            rcases hcase with h1 | ⟨h1, h2⟩ | ⟨h1, h2, h3⟩ | ⟨h1, h2, h3, h4⟩
            all_goals
              go_wp2
              refine bodyPost_ret (results_rel2 rfl _ _ _ _ _ rfl hR4) rfl ?_
              unfold RefOfPost
              rw [ho2.out]
              exact ⟨rfl, hB4⟩
      · obtain rfl : k = ps.length := by omega
        rw [List.take_length] at hall hX
        have l1 := (hX.at (b := w.heap.size + 1) (n := N) (f := ofL ps) (by simp)).ld
        obtain ⟨W4, hs4, hR4, hO4⟩ := (hX.at (b := w.heap.size) (n := 0) (f := zf) (by simp)).put N (ofL ps)
        have hB4 := below_only hX.1 hO4 (Nat.le_refl _)
        have ho2 := Lib.hid (show ofB N ps = true by rw [ho.out, hall.out])
        clear hX hO4
        go_wp2
        refine bodyPost_ret (results_rel2 rfl _ _ _ _ _ rfl hR4) rfl ?_
        unfold RefOfPost
        rw [ho2.out]
        exact ⟨rfl, hB4⟩

/-- The pairs of a row, as far as m. -/
def rowM (f : Nat → Nat) (a : It) (m : Nat) : List (It × It) := ((allIt.filter fun b => decide (b.1 < m)).filter fun b => (f a.1).testBit b.1).map fun b => (a, b)
theorem rowM_zero (f : Nat → Nat) (a : It) : rowM f a 0 = [] := by
  have h : (allIt.filter fun b => decide (b.1 < 0)) = [] := List.filter_eq_nil_iff.2 (by intro a _; simp)
  unfold rowM
  rw [h]
  rfl
theorem rowM_succ (f : Nat → Nat) (a : It) (m : Nat) (h : m < 48) : rowM f a (m + 1) = rowM f a m ++ if (f a.1).testBit m then [(a, ⟨m, h⟩)] else [] := by
  unfold rowM
  rw [allIt_below m h, List.filter_append, List.map_append]
  congr 1
  by_cases hb : (f a.1).testBit m = true
  · simp [hb]
  · simp [hb]
theorem rowM_all {N : Nat} {f : Nat → Nat} (hr : Rgt N f) (a : It) : rowM f a N = rowP f a := by
  unfold rowM rowP itS
  rw [List.filter_filter]
  congr 1
  apply List.filter_congr
  intro b _
  cases hb : (f a.1).testBit b.1
  · rfl
  · have := hr.snd a.2 hb
    simpa using this
theorem rowM_le (f : Nat → Nat) (a : It) (m : Nat) : (rowM f a m).length ≤ 48 := by
  unfold rowM
  rw [List.length_map]
  refine Nat.le_trans (List.length_filter_le _ _) (Nat.le_trans (List.length_filter_le _ _) ?_)
  have := congrArg List.length allIt_vals
  unfold vals at this
  simpa using Nat.le_of_eq this

set_option maxRecDepth 100000 in
set_option maxHeartbeats 4000000 in
theorem refPairs_bad (n : Int) (f : Nat → Nat) (hf : R64 f) (hb : rightB n f = false) (w : World) :
    Calls Tryd.prog 23 #[.agg (relC n f)] w fun e w' => e = .returned (.slice none 0 0) ∧ Below w.heap.size w w' := by
  have HR := Lib.hid (fun w => show Calls Tryd.prog 7 #[.agg (relC n f)] w fun e w' => e = .returned (.bool false) ∧ Below w.heap.size w w' by have := refRight_any n f hf w; rwa [hb] at this)
  have hA := RelAt.new w n f
  have hB := below_new w (.cells (relC n f) 26)
  have l1 := hA.ld
  go_enter Tryd.func23, Tryd.ntmps23
  go_wp2_with fail
  refine (HR.out _).mono ?_
  rintro e w1 ⟨rfl, h⟩
  go_wp2
  go_ret
  exact ⟨rfl, thru hB h⟩
set_option maxRecDepth 100000 in
set_option maxHeartbeats 4000000 in
theorem refPairs_ok (N : Nat) (f : Nat → Nat) (hf : R64 f) (hr : Rgt N f) (w : World) :
    Calls Tryd.prog 23 #[.agg (relC N f)] w fun e w' => ∃ v, e = .returned v ∧ w'.ownsRow w.heap.size 52 2 v (pairsK f N).length (pairCells (pairsK f N)) ∧ Below w.heap.size w w' := by
  have hN := hr.le
  obtain ⟨i0, hi, hz0, hz1, hz2⟩ := info_parts infoPair
  have HR := Lib.hid (fun w => show Calls Tryd.prog 7 #[.agg (relC N f)] w fun e w' => e = .returned (.bool true) ∧ Below w.heap.size w w' by have := refRight_any N f hf w; rwa [show rightB (N : Int) f = true from hr] at this)
  have CF := Lib.hid (fun w a b (hb : b < 64) => refHas (f a) b (hf a) hb w)
  have hA := RelAt.new w N f
  have hB := below_new w (.cells (relC N f) 26)
  have l1 := hA.ld
  go_enter Tryd.func23, Tryd.ntmps23
  go_wp2_with fail
  refine (HR.out _).mono ?_
  rintro e w1 ⟨rfl, h⟩
  have hX : Kept w w1 [(w.heap.size, (N : Int), f)] := ⟨thru hB h, by simp only [List.mem_cons, List.not_mem_nil, or_false]; rintro p rfl; exact hA.on h⟩
  clear h l1 hA hB
  have n1 := (hX.at (b := w.heap.size) (n := N) (f := f) (by simp)).num
  go_wp2
  clear n1
  go_loopw [3, 4] (fun v i W => ∃ k : Nat, k ≤ N ∧ i = .int .i64 k ∧ Kept w W [(w.heap.size, (N : Int), f)] ∧ W.ownsRow w.heap.size 52 2 v (pairsK f k).length (pairCells (pairsK f k))) (fun _ i _ => N - (intOf i).toNat)
  case atStart => exact ⟨0, by omega, rfl, hX, by rw [pairsK_zero]; exact World.ownsRow_nil _ _ _ _⟩
  case round =>
    clear hX
    obtain ⟨k, hk, rfl, hX, hrow⟩ := hrel
    have n1 := (hX.at (b := w.heap.size) (n := N) (f := f) (by simp)).num
    have hple := pairsK_le f k (by omega)
    by_cases hkN : k < N
    · have tk : decide (k < N) = true := by simpa using hkN
      have hrow0 : wr.ownsRow w.heap.size 52 2 u3 (pairsK f k ++ rowM f ⟨k, by omega⟩ 0).length (pairCells (pairsK f k ++ rowM f ⟨k, by omega⟩ 0)) := by rw [rowM_zero, List.append_nil]; exact hrow
      go_wp2
      clear n1
      go_loopw [3, 5] (fun v j W => ∃ m : Nat, m ≤ N ∧ j = .int .i64 m ∧ Kept w W [(w.heap.size, (N : Int), f)] ∧ W.ownsRow w.heap.size 52 2 v (pairsK f k ++ rowM f ⟨k, by omega⟩ m).length (pairCells (pairsK f k ++ rowM f ⟨k, by omega⟩ m))) (fun _ j _ => N - (intOf j).toNat)
      case atStart => exact ⟨0, by omega, rfl, hX, hrow0⟩
      case round =>
        clear hX hrow hrow0
        obtain ⟨m, hm, rfl, hX, hrow⟩ := hrel
        have n1 := (hX.at (b := w.heap.size) (n := N) (f := f) (by simp)).num
        by_cases hmN : m < N
        · have tm : decide (m < N) = true := by simpa using hmN
          have zk : (k : Int) < 48 := by omega
          have r1 := (hX.at (b := w.heap.size) (n := N) (f := f) (by simp)).row k (by omega)
          have cF := CF.out wr k m (by omega)
          have hs := rowM_succ f ⟨k, by omega⟩ m (by omega)
          change rowM f _ (m + 1) = rowM f _ m ++ (if (f k).testBit m then _ else _) at hs
          have hle := rowM_le f ⟨k, by omega⟩ m
          have hXh := Lib.hid hX
          clear hX
          cases hb1 : (f k).testBit m
          · rw [hb1] at cF hs
            replace cF := Lib.hid cF
            rw [if_neg (by simp), List.append_nil] at hs
            rw [← hs] at hrow
            replace hrow := Lib.hid hrow
            clear hb1 hs
            go_wp2_with fail
            refine cF.out.mono ?_
            rintro e w1 ⟨rfl, rfl⟩
            go_wp2
            go_roundw
            case rel => exact ⟨m + 1, by omega, by go_num, hXh.out, hrow.out⟩
            case measure => simp [intOf]; omega
          · rw [hb1] at cF hs
            replace cF := Lib.hid cF
            rw [if_pos rfl] at hs
            have hlen : (pairsK f k ++ rowM f ⟨k, by omega⟩ m).length ≤ 2400 := by rw [List.length_append]; omega
            have hsn : pairCells (pairsK f k ++ rowM f ⟨k, by omega⟩ (m + 1)) = pairCells (pairsK f k ++ rowM f ⟨k, by omega⟩ m) ++ [.int .i64 (k : Int), .int .i64 (m : Int)] := by rw [hs, ← List.append_assoc, pairCells_snoc]
            have hsl : (pairsK f k ++ rowM f ⟨k, by omega⟩ (m + 1)).length = (pairsK f k ++ rowM f ⟨k, by omega⟩ m).length + 1 := by rw [hs, ← List.append_assoc]; simp; omega
            replace hsn := Lib.hid hsn
            replace hsl := Lib.hid hsl
            clear hb1 hs hle
            have hbase := hXh.out.1.size
            generalize (pairsK f k ++ rowM f ⟨k, by omega⟩ m).length = len at *
            generalize pairCells (pairsK f k ++ rowM f ⟨k, by omega⟩ m) = cells at *
            go_wp2_with fail
            refine cF.out.mono ?_
            rintro e w1 ⟨rfl, rfl⟩
            go_wp2_with (at_builtin; refine wpList_append_own _ rfl _ _ 27 rfl w.heap.size 52 i0 (.agg #[.int .i64 0, .int .i64 0]) 2 16 Tryd.underlying27 hi hz0 hz1 hz2 rfl (by decide) _ _ _ rfl (hrow.alloc _) ⟨wr.heap.size, 0, none⟩ 1 1 [.int .i64 (k : Int), .int .i64 (m : Int)] rfl rfl (cell_two_new _ _ _ _) (by simp [Value.oneCell']) (by unfold maxLen; omega) (by omega) (by simp; omega) ?_; intro v' w2 hown' hgrow _; have hX2 := (hXh.out.on (below_new wr (.cells #[.int .i64 (k : Int), .int .i64 (m : Int)] 52))).grown (by decide) (hrow.alloc (.cells #[.int .i64 (k : Int), .int .i64 (m : Int)] 52)) hgrow)
            replace hown' := Lib.hid hown'
            replace hX2 := Lib.hid hX2
            clear hgrow hrow
            go_roundw
            case rel => exact ⟨m + 1, by omega, by go_num, hX2.out, by rw [hsn.out, hsl.out]; exact hown'.out⟩
            case measure => simp [intOf]; omega
        · obtain rfl : m = N := by omega
          rw [rowM_all hr, ← pairsK_succ] at hrow
          have hXh := Lib.hid hX
          have hrowh := Lib.hid hrow
          clear hX hrow
          go_wp2
          go_roundw
          case rel => exact ⟨k + 1, by omega, by go_num, hXh.out, hrowh.out⟩
          case measure => simp [intOf]; omega
    · obtain rfl : k = N := by omega
      have hXh := Lib.hid hX
      have hrowh := Lib.hid hrow
      clear hX hrow
      go_wp2
      go_ret
      exact ⟨_, rfl, hrowh.out, hXh.out.1⟩
end Go.Proofs.YtakhmjohncidoaaDoor
end

section
/- The transitive closure by its pairs. -/
namespace Go.Proofs.YtakhmjohncidoaaDoor
open Go.RowKit Go.Shelf

theorem fixed_exists {N : Nat} {f : Nat → Nat} (h : Rgt N f) : ∃ k, Fixed N f k := by
  suffices hs : ∀ m k, miss (iterF N f k) ≤ m → ∃ k, Fixed N f k from hs _ 0 (Nat.le_refl _)
  intro m
  induction m with
  | zero =>
    intro k hk
    cases hq : relB N N (cutF N (stepF (iterF N f k))) (iterF N f k)
    · have := miss_step (right_iter h k) hq
      omega
    · exact ⟨k, (relB_iff.1 hq).2⟩
  | succ m ih =>
    intro k hk
    cases hq : relB N N (cutF N (stepF (iterF N f k))) (iterF N f k)
    · have := miss_step (right_iter h k) hq
      exact ih (k + 1) (by show miss (cutF N (stepF (iterF N f k))) ≤ m; omega)
    · exact ⟨k, (relB_iff.1 hq).2⟩
theorem bt_iter {N : Nat} {f : Nat → Nat} (h : Rgt N f) (k : Nat) {i j : Nat} (hi : i < 48) :
    Bt (iterF N f (k + 1)) i j ↔ Bt (iterF N f k) i j ∨ ∃ m, m < 48 ∧ Bt (iterF N f k) i m ∧ Bt (iterF N f k) m j := by
  have hr : Rgt N (iterF N f k) := right_iter h k
  show Bt (cutF N (stepF (iterF N f k))) i j ↔ _
  have ht := bt_then (g := iterF N f k) (j := j) hr hi
  have e : Bt (stepF (iterF N f k)) i j ↔ Bt (iterF N f k) i j ∨ Bt (thenF (iterF N f k) (iterF N f k)) i j := bt_union _ (thenF _ _) i j
  rw [← ht, ← e]
  unfold Bt cutF
  by_cases hn : (i : Int) < N
  · rw [if_pos hn]
  · rw [if_neg hn]
    constructor
    · intro hc; simp at hc
    · intro hc
      exfalso
      rcases e.1 hc with hc | hc
      · have := hr.fst hi hc; omega
      · obtain ⟨m, _, hc, _⟩ := ht.1 hc
        have := hr.fst hi hc; omega
theorem plus_at {N : Nat} {f : Nat → Nat} (h : Rgt N f) : ∃ k, Fixed N f k ∧ ∀ i j, i < 48 → (Bt (plusF N f) i j ↔ Bt (iterF N f k) i j) := by
  obtain ⟨k, hk⟩ := fixed_exists h
  exact ⟨k, hk, fun i j hi => by unfold Bt; rw [plusF_at h hk i hi]⟩
theorem rgt_plus {N : Nat} {f : Nat → Nat} (h : Rgt N f) : Rgt N (plusF N f) := by
  obtain ⟨k, _, hp⟩ := plus_at h
  have hr : Rgt N (iterF N f k) := right_iter h k
  exact rgt_iff.2 ⟨h.le, fun i hi j hb => ⟨hr.fst hi ((hp i j hi).1 hb), hr.snd hi ((hp i j hi).1 hb)⟩⟩
theorem plus_64 {N : Nat} {f : Nat → Nat} (h : R64 f) : R64 (plusF N f) := by
  unfold plusF
  split
  · exact iterF_64 _ h _
  · exact h
theorem plus_base {N : Nat} {f : Nat → Nat} (h : Rgt N f) {i j : Nat} (hi : i < 48) (hb : Bt f i j) : Bt (plusF N f) i j := by
  obtain ⟨k, _, hp⟩ := plus_at h
  rw [hp i j hi]
  have key : ∀ k, Bt (iterF N f k) i j := by
    intro k
    induction k with
    | zero => exact hb
    | succ k ih => exact (bt_iter h k hi).2 (.inl ih)
  exact key k
theorem plus_trans {N : Nat} {f : Nat → Nat} (h : Rgt N f) {i m j : Nat} (hi : i < 48) (hm : m < 48) (h1 : Bt (plusF N f) i m) (h2 : Bt (plusF N f) m j) : Bt (plusF N f) i j := by
  obtain ⟨k, hk, hp⟩ := plus_at h
  rw [hp i j hi]
  have e := hk i hi
  have : Bt (iterF N f (k + 1)) i j := (bt_iter h k hi).2 (.inr ⟨m, hm, (hp i m hi).1 h1, (hp m j hm).1 h2⟩)
  unfold Bt at this ⊢
  rwa [e] at this
theorem plus_min {N : Nat} {f g : Nat → Nat} (h : Rgt N f) (hb : ∀ i j, i < 48 → Bt f i j → Bt g i j) (ht : ∀ i m j, i < 48 → m < 48 → Bt g i m → Bt g m j → Bt g i j) {i j : Nat} (hi : i < 48) (hp : Bt (plusF N f) i j) : Bt g i j := by
  obtain ⟨k, _, hpk⟩ := plus_at h
  have key : ∀ k i j, i < 48 → Bt (iterF N f k) i j → Bt g i j := by
    intro k
    induction k with
    | zero => exact hb
    | succ k ih =>
      intro i j hi hx
      rcases (bt_iter h k hi).1 hx with hx | ⟨m, hm, h1, h2⟩
      · exact ih i j hi hx
      · exact ht i m j hi hm (ih i m hi h1) (ih m j hm h2)
  exact key k i j hi ((hpk i j hi).1 hp)
theorem plus_plus {N : Nat} {f : Nat → Nat} (h : Rgt N f) : relB N N (plusF N (plusF N f)) (plusF N f) = true :=
  relB_bits fun _ _ hi => ⟨plus_min (rgt_plus h) (fun _ _ _ hb => hb) (fun _ _ _ hi hm => plus_trans h hi hm) hi, plus_base (rgt_plus h) hi⟩

theorem in_true {N : Nat} {f g : Nat → Nat} (hf : Rgt N f) (hg : Rgt N g) (h1 : R64 f) (h2 : R64 g) (h : ∀ i j, i < 48 → Bt f i j → Bt g i j) : inB N N f g = true := by
  have hz : ∀ i, i < 48 → cutF N (lessF f g) i = 0 := by
    intro i hi
    unfold cutF
    split
    · apply Nat.eq_of_testBit_eq
      intro j
      rw [Nat.zero_testBit]
      apply Decidable.byContradiction
      intro hc
      have := (bt_less h1 h2 i j).1 (by simpa using hc)
      exact this.2 (h i j hi this.1)
    · rfl
  have hN := hf.le
  have hr : rightB (N : Int) (cutF N (lessF f g)) = true := rgt_iff.2 ⟨hN, fun i hi j hb => by unfold Bt at hb; rw [hz i hi] at hb; simp at hb⟩
  have hk : fromK (cutF N (lessF f g)) N = 0 := by
    apply Nat.eq_of_testBit_eq
    intro j
    rw [Nat.zero_testBit, fromK_bit]
    by_cases hj : j < N
    · rw [hz j (by omega)]; simp
    · simp [hj]
  unfold inB
  rw [comb_ok hf hg, hr, Int.toNat_natCast, hk]
  rfl
end Go.Proofs.YtakhmjohncidoaaDoor
end

section
/- The document's answers for layer 2: From, Into, Plus, Star. -/
namespace Go.Proofs.YtakhmjohncidoaaDoor
open Go.RowKit Go.Shelf

attribute [local go_sem] Oper.semAt_some

set_option maxRecDepth 100000 in
set_option maxHeartbeats 4000000 in
theorem refFrom_bad (n : Int) (f : Nat → Nat) (hf : R64 f) (hb : rightB n f = false) (w : World) :
    Calls Tryd.prog 31 #[.agg (relC n f)] w fun e w' => e = .returned (.int .u64 0) ∧ Below w.heap.size w w' := by
  have hA := RelAt.new w n f
  have hB := below_new w (.cells (relC n f) 26)
  have l1 := hA.ld
  have CP := Lib.hid (refPairs_bad n f hf hb)
  go_enter Tryd.func31, Tryd.ntmps31
  go_wp2_with fail
  refine (CP.out _).mono ?_
  rintro e w1 ⟨rfl, h⟩
  go_wp2
  go_loopw [3, 5] (fun v i W => i = .int .i64 0 ∧ v = .int .u64 0 ∧ Below w.heap.size w W) (fun _ _ _ => 0)
  case atStart => exact ⟨rfl, rfl, thru hB h⟩
  case round =>
    obtain ⟨rfl, rfl, hB2⟩ := hrel
    go_wp2
    go_ret
    exact ⟨rfl, hB2⟩
set_option maxRecDepth 100000 in
set_option maxHeartbeats 4000000 in
theorem refInto_bad (n : Int) (f : Nat → Nat) (hf : R64 f) (hb : rightB n f = false) (w : World) :
    Calls Tryd.prog 33 #[.agg (relC n f)] w fun e w' => e = .returned (.int .u64 0) ∧ Below w.heap.size w w' := by
  have hA := RelAt.new w n f
  have hB := below_new w (.cells (relC n f) 26)
  have l1 := hA.ld
  have CP := Lib.hid (refPairs_bad n f hf hb)
  go_enter Tryd.func33, Tryd.ntmps33
  go_wp2_with fail
  refine (CP.out _).mono ?_
  rintro e w1 ⟨rfl, h⟩
  go_wp2
  go_loopw [3, 5] (fun v i W => i = .int .i64 0 ∧ v = .int .u64 0 ∧ Below w.heap.size w W) (fun _ _ _ => 0)
  case atStart => exact ⟨rfl, rfl, thru hB h⟩
  case round =>
    obtain ⟨rfl, rfl, hB2⟩ := hrel
    go_wp2
    go_ret
    exact ⟨rfl, hB2⟩
set_option maxRecDepth 100000 in
set_option maxHeartbeats 4000000 in
theorem refFrom_ok (N : Nat) (f : Nat → Nat) (hf : R64 f) (hr : Rgt N f) (w : World) :
    Calls Tryd.prog 31 #[.agg (relC N f)] w fun e w' => e = .returned (.int .u64 (fromK f N : Int)) ∧ Below w.heap.size w w' := by
  have hN := hr.le
  have hfin := Lib.hid (SameP.from hr (fun x => Iff.rfl : SameP f N (pairsK f N)))
  have hA := RelAt.new w N f
  have hB := below_new w (.cells (relC N f) 26)
  have l1 := hA.ld
  have CP := Lib.hid (refPairs_ok N f hf hr)
  have hLle := pairsK_le f N hN
  generalize pairsK f N = L at *
  go_enter Tryd.func31, Tryd.ntmps31
  go_wp2_with fail
  refine (CP.out _).mono ?_
  rintro e w1 ⟨v, rfl, hrow, h⟩
  replace hrow := ownsRow_base hrow (b' := w.heap.size) (by have := hB.size; omega)
  obtain ⟨av, cv, rfl⟩ := ownsRow_slice hrow
  have hrowh := Lib.hid hrow
  replace hB := thru hB h
  clear hrow h l1 hA
  go_wp2
  go_loopw [3, 5] (fun v i W => ∃ k : Nat, k ≤ L.length ∧ i = .int .i64 k ∧ v = .int .u64 (fstS (L.take k) : Int) ∧ w1 = W) (fun _ i _ => L.length - (intOf i).toNat)
  case atStart => exact ⟨0, by omega, rfl, rfl, rfl⟩
  case round =>
    obtain ⟨k, hk, rfl, rfl, rfl⟩ := hrel
    by_cases hlt : k < L.length
    · have tk : decide (k < L.length) = true := by simpa using hlt
      obtain ⟨g, c, hv, hgb, hglt⟩ := hrowh.out.form (by omega)
      obtain ⟨rfl, _, rfl⟩ := Value.slice.inj hv
      clear hv
      obtain ⟨d1, d2⟩ := pairCells_get L k hlt
      have hcell : ∀ m u, (pairCells L)[m]? = some u → w1.cell? ⟨g, m, none⟩ = some u := by
        intro m u hu
        have := hrowh.out.cells (g := g) rfl m u hu
        rwa [Go.WideShapes.add_plain, Nat.zero_add] at this
      replace d1 := hcell _ _ d1
      replace d2 := hcell _ _ d2
      have hF1 : fstS (L.take (k + 1)) = fstS (L.take k) ||| 2 ^ L[k].1.1 := by rw [List.take_succ_eq_append_getElem hlt, fstS_snoc]
      have b1 := fstS_lt (L.take k)
      have y1 := L[k].1.2
      clear hcell
      generalize L[k].1.1 = x1 at *
      generalize L[k].2.1 = x2 at *
      generalize fstS (L.take k) = f1 at *
      have cW := Lib.hid (fun w => refWith f1 x1 (by omega) (by omega) w)
      generalize f1 ||| 2 ^ x1 = g1 at *
      replace hF1 := Lib.hid hF1
      go_wp2_with fail
      refine (cW.out _).mono ?_
      rintro e w2 ⟨rfl, rfl⟩
      go_wp2
      go_roundw
      case rel => exact ⟨k + 1, by omega, by go_num, by rw [hF1.out], trivial⟩
      case measure => simp [intOf]; omega
    · obtain rfl : k = L.length := by omega
      have ht : fstS (L.take L.length) = fromK f N := by rw [List.take_length, hfin.out]
      rw [ht]
      go_wp2
      go_ret
      exact ⟨rfl, hB⟩
set_option maxRecDepth 100000 in
set_option maxHeartbeats 4000000 in
theorem refInto_ok (N : Nat) (f : Nat → Nat) (hf : R64 f) (hr : Rgt N f) (w : World) :
    Calls Tryd.prog 33 #[.agg (relC N f)] w fun e w' => e = .returned (.int .u64 (imgF f (allOf (N : Int)).toNat : Int)) ∧ Below w.heap.size w w' := by
  have hN := hr.le
  have hfin := Lib.hid (SameP.into hr (fun x => Iff.rfl : SameP f N (pairsK f N)))
  have hA := RelAt.new w N f
  have hB := below_new w (.cells (relC N f) 26)
  have l1 := hA.ld
  have CP := Lib.hid (refPairs_ok N f hf hr)
  have hLle := pairsK_le f N hN
  generalize pairsK f N = L at *
  go_enter Tryd.func33, Tryd.ntmps33
  go_wp2_with fail
  refine (CP.out _).mono ?_
  rintro e w1 ⟨v, rfl, hrow, h⟩
  replace hrow := ownsRow_base hrow (b' := w.heap.size) (by have := hB.size; omega)
  obtain ⟨av, cv, rfl⟩ := ownsRow_slice hrow
  have hrowh := Lib.hid hrow
  replace hB := thru hB h
  clear hrow h l1 hA
  go_wp2
  go_loopw [3, 5] (fun v i W => ∃ k : Nat, k ≤ L.length ∧ i = .int .i64 k ∧ v = .int .u64 (sndS (L.take k) : Int) ∧ w1 = W) (fun _ i _ => L.length - (intOf i).toNat)
  case atStart => exact ⟨0, by omega, rfl, rfl, rfl⟩
  case round =>
    obtain ⟨k, hk, rfl, rfl, rfl⟩ := hrel
    by_cases hlt : k < L.length
    · have tk : decide (k < L.length) = true := by simpa using hlt
      obtain ⟨g, c, hv, hgb, hglt⟩ := hrowh.out.form (by omega)
      obtain ⟨rfl, _, rfl⟩ := Value.slice.inj hv
      clear hv
      obtain ⟨d1, d2⟩ := pairCells_get L k hlt
      have hcell : ∀ m u, (pairCells L)[m]? = some u → w1.cell? ⟨g, m, none⟩ = some u := by
        intro m u hu
        have := hrowh.out.cells (g := g) rfl m u hu
        rwa [Go.WideShapes.add_plain, Nat.zero_add] at this
      replace d1 := hcell _ _ d1
      replace d2 := hcell _ _ d2
      have hF1 : sndS (L.take (k + 1)) = sndS (L.take k) ||| 2 ^ L[k].2.1 := by rw [List.take_succ_eq_append_getElem hlt, sndS_snoc]
      have b1 := sndS_lt (L.take k)
      have y1 := L[k].2.2
      clear hcell
      generalize L[k].1.1 = x1 at *
      generalize L[k].2.1 = x2 at *
      generalize sndS (L.take k) = f1 at *
      have cW := Lib.hid (fun w => refWith f1 x2 (by omega) (by omega) w)
      generalize f1 ||| 2 ^ x2 = g1 at *
      replace hF1 := Lib.hid hF1
      go_wp2_with fail
      refine (cW.out _).mono ?_
      rintro e w2 ⟨rfl, rfl⟩
      go_wp2
      go_roundw
      case rel => exact ⟨k + 1, by omega, by go_num, by rw [hF1.out], trivial⟩
      case measure => simp [intOf]; omega
    · obtain rfl : k = L.length := by omega
      have ht : sndS (L.take L.length) = imgF f (allOf (N : Int)).toNat := by rw [List.take_length, hfin.out]
      rw [ht]
      go_wp2
      go_ret
      exact ⟨rfl, hB⟩

/-! ### Plus: one item after the other -/
/-- The pairs that item k brings. -/
def warP (R : Nat → Nat) (k : Nat) : Nat → Nat → Bool := fun a b => (R a).testBit k && (R k).testBit b
def warK (f : Nat → Nat) (N : Nat) : Nat → (Nat → Nat)
  | 0 => f
  | k + 1 => unionF (warK f N k) (fillF (warP (warK f N k) k) N N 0)
theorem rgt_fill {p : Nat → Nat → Bool} {N : Nat} (h : N ≤ 48) : Rgt N (fillF p N N 0) := rgt_iff.2 ⟨h, fun i _ j hb => by have := (bt_fill p N i j).1 hb; exact ⟨this.1, this.2.1⟩⟩
theorem rgt_war {f : Nat → Nat} {N : Nat} (h : Rgt N f) : ∀ k, Rgt N (warK f N k)
  | 0 => h
  | k + 1 => rgt_union (rgt_war h k) (rgt_fill h.le)
theorem war_64 {f : Nat → Nat} {N : Nat} (hN : N ≤ 48) (h : R64 f) : ∀ k, R64 (warK f N k)
  | 0 => h
  | k + 1 => union_64 (war_64 hN h k) (fill_64 _ hN (by omega))
theorem bt_war {f : Nat → Nat} {N : Nat} (h : Rgt N f) {k i j : Nat} (hi : i < 48) : Bt (warK f N (k + 1)) i j ↔ Bt (warK f N k) i j ∨ (Bt (warK f N k) i k ∧ Bt (warK f N k) k j ∧ k < 48) := by
  show Bt (unionF _ _) i j ↔ _
  rw [bt_union, bt_fill]
  have hr := rgt_war h k
  constructor
  · rintro (h1 | ⟨h1, h2, h3⟩)
    · exact .inl h1
    · unfold warP at h3
      rw [Bool.and_eq_true] at h3
      exact .inr ⟨h3.1, h3.2, hr.snd48 hi h3.1⟩
  · rintro (h1 | ⟨h1, h2, h3⟩)
    · exact .inl h1
    · exact .inr ⟨hr.fst hi h1, hr.snd h3 h2, by unfold warP; rw [Bool.and_eq_true]; exact ⟨h1, h2⟩⟩
theorem war_sound {f : Nat → Nat} {N : Nat} (h : Rgt N f) : ∀ (k : Nat) {i j : Nat}, i < 48 → Bt (warK f N k) i j → Bt (plusF N f) i j
  | 0, i, j, hi, hb => plus_base h hi hb
  | k + 1, i, j, hi, hb => by
    rcases (bt_war h hi).1 hb with h1 | ⟨h1, h2, h3⟩
    · exact war_sound h k hi h1
    · exact plus_trans h hi h3 (war_sound h k hi h1) (war_sound h k h3 h2)
theorem war_base {f : Nat → Nat} {N : Nat} (h : Rgt N f) : ∀ (k : Nat) {i j : Nat}, i < 48 → Bt f i j → Bt (warK f N k) i j
  | 0, _, _, _, hb => hb
  | k + 1, _, _, hi, hb => (bt_war h hi).2 (.inl (war_base h k hi hb))
theorem war_trans {f : Nat → Nat} {N : Nat} (h : Rgt N f) : ∀ (k : Nat) {i c j : Nat}, i < 48 → c < 48 → c < k → Bt (warK f N k) i c → Bt (warK f N k) c j → Bt (warK f N k) i j
  | 0, _, _, _, _, _, hc, _, _ => by omega
  | k + 1, i, c, j, hi, hc, hck, h1, h2 => by
    rw [bt_war h hi] at h1 ⊢
    rw [bt_war h hc] at h2
    by_cases hk : c = k
    · subst hk
      have g1 : Bt (warK f N c) i c := by rcases h1 with h | h; exact h; exact h.1
      have g2 : Bt (warK f N c) c j := by rcases h2 with h | h; exact h; exact h.2.1
      exact .inr ⟨g1, g2, hc⟩
    · have hlt : c < k := by omega
      rcases h1 with h1 | ⟨h1, h1', h1k⟩
      · rcases h2 with h2 | ⟨h2, h2', h2k⟩
        · exact .inl (war_trans h k hi hc hlt h1 h2)
        · exact .inr ⟨war_trans h k hi hc hlt h1 h2, h2', h2k⟩
      · rcases h2 with h2 | ⟨h2, h2', h2k⟩
        · exact .inr ⟨h1, war_trans h k h1k hc hlt h1' h2, h1k⟩
        · exact .inr ⟨h1, h2', h1k⟩
theorem war_plus {f : Nat → Nat} {N : Nat} (h : Rgt N f) : relB N N (plusF N f) (warK f N N) = true :=
  relB_bits fun i j hi => by
    constructor
    · intro hb
      exact plus_min h (fun i j hi hb => war_base h N hi hb) (fun i m j hi hm h1 h2 => war_trans h N hi hm ((rgt_war h N).snd hi h1) h1 h2) hi hb
    · exact war_sound h N hi
theorem ustep {n : Int} {R : Nat → Nat} {p : Nat → Nat → Bool} {N a b : Nat} (hR : R64 R) (hN : N ≤ 48) (ha : a < N) (hb : b < N) (h : p a b = true) (w : World) :
    Calls Tryd.prog 52 #[.agg (relC n (unionF R (fillF p N a b))), .int .i64 (a : Int), .int .i64 (b : Int)] w fun e w' => e = .returned (.agg (relC n (unionF R (fillF p N a (b + 1))))) ∧ Below w.heap.size w w' := by
  have := refwith_any n (unionF R (fillF p N a b)) (union_64 hR (fill_64 p hN (by omega))) a b (by omega) (by omega) w
  rwa [show upd (unionF R (fillF p N a b)) a (unionF R (fillF p N a b) a ||| 2 ^ b) = unionF R (fillF p N a (b + 1)) by
    rw [← fill_yes p N a b h]
    funext i
    unfold upd unionF
    by_cases hi : i = a
    · subst hi; simp [Nat.or_assoc]
    · simp [hi]] at this
theorem union_zf (R : Nat → Nat) (p : Nat → Nat → Bool) (N : Nat) : unionF R (fillF p N 0 0) = R := by
  rw [fill_start]; funext i; simp [unionF, zf]
set_option maxRecDepth 100000 in
set_option maxHeartbeats 4000000 in
theorem refPlus_bad (n : Int) (f : Nat → Nat) (hf : R64 f) (hb : rightB n f = false) (w : World) :
    Calls Tryd.prog 27 #[.agg (relC n f)] w fun e w' => e = .returned (.agg (relC 0 zf)) ∧ Below w.heap.size w w' := by
  have HR := Lib.hid (fun w => show Calls Tryd.prog 7 #[.agg (relC n f)] w fun e w' => e = .returned (.bool false) ∧ Below w.heap.size w w' by have := refRight_any n f hf w; rwa [hb] at this)
  have hA := (RelAt.new w n f).alloc (.cells (relC 0 zf) 26)
  have hZ := RelAt.new (w.alloc (.cells (relC n f) 26)) 0 zf
  rw [World.size_alloc] at hZ
  have hB := thru (below_new w (.cells (relC n f) 26)) (below_new _ (.cells (relC 0 zf) 26))
  have l1 := hA.ld
  go_enter Tryd.func27, Tryd.ntmps27
  go_wp2_with fail
  refine (HR.out _).mono ?_
  rintro e w1 ⟨rfl, h⟩
  obtain ⟨W3, hs3, hR3, hO3⟩ := (hZ.on h).put 0 zf
  have hB3 := below_only (thru hB h) hO3 (by omega)
  clear hA hZ hB hO3 h l1
  go_wp2
  refine bodyPost_ret (results_rel rfl _ _ _ _ _ rfl hR3) rfl ?_
  exact ⟨rfl, hB3⟩
set_option maxRecDepth 100000 in
set_option maxHeartbeats 8000000 in
theorem refPlus_ok (N : Nat) (f : Nat → Nat) (hf : R64 f) (hr : Rgt N f) (w : World) :
    Calls Tryd.prog 27 #[.agg (relC N f)] w fun e w' => e = .returned (.agg (relC N (warK f N N))) ∧ Below w.heap.size w w' := by
  have hN := hr.le
  have HR := Lib.hid (fun w => show Calls Tryd.prog 7 #[.agg (relC N f)] w fun e w' => e = .returned (.bool true) ∧ Below w.heap.size w w' by have := refRight_any N f hf w; rwa [show rightB (N : Int) f = true from hr] at this)
  have hA := (RelAt.new w N f).alloc (.cells (relC 0 zf) 26)
  have hZ := RelAt.new (w.alloc (.cells (relC N f) 26)) 0 zf
  rw [World.size_alloc] at hZ
  have hB := thru (below_new w (.cells (relC N f) 26)) (below_new _ (.cells (relC 0 zf) 26))
  have l1 := hA.ld
  have le0 : w.heap.size ≤ w.heap.size := Nat.le_refl _
  have nez : w.heap.size + 1 ≠ w.heap.size := by omega
  go_enter Tryd.func27, Tryd.ntmps27
  go_wp2_with fail
  refine (HR.out _).mono ?_
  rintro e w1 ⟨rfl, h⟩
  have hX : Kept w w1 [(w.heap.size, (N : Int), warK f N 0), (w.heap.size + 1, 0, zf)] := by
    refine ⟨thru hB h, ?_⟩
    simp only [List.mem_cons, List.not_mem_nil, or_false]
    rintro p (rfl | rfl)
    · exact hA.on h
    · exact hZ.on h
  clear h l1 hA hZ hB
  go_wp2
  go_loopw [3] (fun i W => ∃ k : Nat, k ≤ N ∧ i = .int .i64 k ∧ Kept w W [(w.heap.size, (N : Int), warK f N k), (w.heap.size + 1, 0, zf)]) (fun i _ => N - (intOf i).toNat)
  case atStart => exact ⟨0, by omega, rfl, hX⟩
  case round =>
    clear hX
    obtain ⟨k, hk, rfl, hX⟩ := hrel
    have n1 := (hX.at (b := w.heap.size) (n := N) (f := warK f N k) (by simp)).num
    by_cases hkN : k < N
    · have tk : decide (k < N) = true := by simpa using hkN
      have zk : (k : Int) < 48 := by omega
      have R64' := war_64 hN hf k
      have hnext : warK f N (k + 1) = unionF (warK f N k) (fillF (warP (warK f N k) k) N N 0) := rfl
      generalize warK f N k = R at *
      generalize hp : warP R k = p at *
      have hpe : ∀ a b, p a b = ((R a).testBit k && (R k).testBit b) := fun a b => by rw [← hp]; rfl
      replace hpe := Lib.hid hpe
      replace hnext := Lib.hid hnext
      clear hp
      have CR := Lib.hid (fun w a b (hb : b < 64) => refHas (R a) b (R64' a) hb w)
      have l1 := (hX.at (b := w.heap.size) (n := N) (f := R) (by simp)).ld
      obtain ⟨W3, hs3, hu, h3, -⟩ := Ex.lay wr N R
      have hlt1 := (hX.at (b := w.heap.size) (n := N) (f := R) (by simp)).lt
      have hlt2 := (hX.at (b := w.heap.size + 1) (n := 0) (f := zf) (by simp)).lt
      have hX3 : Kept w W3 [(w.heap.size, (N : Int), unionF R (fillF p N 0 0)), (wr.heap.size, (N : Int), R), (w.heap.size + 1, 0, zf)] := by
        rw [union_zf]
        have h := (hX.on h3).cons hu
        exact h.less (by simp)
      clear hX h3 hu
      generalize hbw : wr.heap.size = bw at *
      have ne1 : bw ≠ w.heap.size := by omega
      go_wp2
      clear n1 l1 hs3
      replace hbw := Lib.hid hbw
      go_loopw [5] (fun i W => ∃ a : Nat, a ≤ N ∧ i = .int .i64 a ∧ Kept w W [(w.heap.size, (N : Int), unionF R (fillF p N a 0)), (bw, (N : Int), R), (w.heap.size + 1, 0, zf)]) (fun i _ => N - (intOf i).toNat)
      case atStart => exact ⟨0, by omega, rfl, hX3⟩
      case round =>
        clear hX3
        obtain ⟨a, ha, rfl, hX⟩ := hrel
        have n1 := (hX.at (b := w.heap.size) (n := N) (f := unionF R (fillF p N a 0)) (by simp)).num
        by_cases haN : a < N
        · have ta : decide (a < N) = true := by simpa using haN
          have za : (a : Int) < 48 := by omega
          go_wp2
          clear n1
          go_loopw [6] (fun j W => ∃ m : Nat, m ≤ N ∧ j = .int .i64 m ∧ Kept w W [(w.heap.size, (N : Int), unionF R (fillF p N a m)), (bw, (N : Int), R), (w.heap.size + 1, 0, zf)]) (fun j _ => N - (intOf j).toNat)
          case atStart => exact ⟨0, by omega, rfl, hX⟩
          case round =>
            clear hX
            obtain ⟨m, hm, rfl, hX⟩ := hrel
            have n1 := (hX.at (b := w.heap.size) (n := N) (f := unionF R (fillF p N a m)) (by simp)).num
            by_cases hmN : m < N
            · have tm : decide (m < N) = true := by simpa using hmN
              have r1 := (hX.at (b := bw) (n := N) (f := R) (by simp)).row a (by omega)
              have r2 := (hX.at (b := bw) (n := N) (f := R) (by simp)).row k (by omega)
              have c1 := CR.out wr a k (by omega)
              have c2 := CR.out wr k m (by omega)
              have cW := Lib.hid (fun h w => ustep (n := (N : Int)) (p := p) R64' hN haN hmN h w)
              have hno := Lib.hid (fill_no p N a m)
              have hcr := hpe.out a m
              rw [hcr] at cW hno
              have l1 := (hX.at (b := w.heap.size) (n := N) (f := unionF R (fillF p N a m)) (by simp)).ld
              have hXh := Lib.hid hX
              clear hX hcr
              generalize (R a).testBit k = b1 at *
              generalize (R k).testBit m = b2 at *
              replace c1 := Lib.hid c1
              replace c2 := Lib.hid c2
              cases b1
              · have e := Lib.hid (hno.out rfl)
                clear cW hno
                go_wp2_with fail
                refine c1.out.mono ?_
                rintro e w1 ⟨rfl, rfl⟩
                go_wp2
                go_roundw
                case rel => exact ⟨m + 1, by omega, by go_num, by rw [← e.out]; exact hXh.out⟩
                case measure => simp [intOf]; omega
              · cases b2
                · have e := Lib.hid (hno.out rfl)
                  clear cW hno
                  go_wp2_with fail
                  refine c1.out.mono ?_
                  rintro e w1 ⟨rfl, rfl⟩
                  go_wp2_with fail
                  refine c2.out.mono ?_
                  rintro e w1 ⟨rfl, rfl⟩
                  go_wp2
                  go_roundw
                  case rel => exact ⟨m + 1, by omega, by go_num, by rw [← e.out]; exact hXh.out⟩
                  case measure => simp [intOf]; omega
                · have cW' := Lib.hid (cW.out rfl)
                  clear cW hno
                  go_wp2_with fail
                  refine c1.out.mono ?_
                  rintro e w1 ⟨rfl, rfl⟩
                  go_wp2_with fail
                  refine c2.out.mono ?_
                  rintro e w1 ⟨rfl, rfl⟩
                  go_wp2_with fail
                  clear l1 r1 r2 n1
                  refine (cW'.out _).mono ?_
                  rintro e w1 ⟨rfl, h⟩
                  obtain ⟨W4, hs4, hR4, hO4⟩ := ((hXh.out.on h).at (b := w.heap.size) (n := N) (f := unionF R (fillF p N a m)) (by simp)).put N (unionF R (fillF p N a (m + 1)))
                  have hX4 := (((hXh.out.on h).less (l' := [(bw, (N : Int), R), (w.heap.size + 1, 0, zf)]) (by simp)).only hO4 le0 (by simp only [List.mem_cons, List.not_mem_nil, or_false]; rintro p (rfl | rfl) <;> assumption)).cons hR4
                  clear h hR4 hO4
                  go_wp2
                  go_roundw
                  case rel => exact ⟨m + 1, by omega, by go_num, hX4⟩
                  case measure => simp [intOf]; omega
            · obtain rfl : m = N := by omega
              have hXh := Lib.hid hX
              clear hX
              go_wp2
              go_roundw
              case rel => exact ⟨a + 1, by omega, by go_num, by rw [← fill_next]; exact hXh.out⟩
              case measure => simp [intOf]; omega
        · obtain rfl : a = N := by omega
          have hXh := Lib.hid (hX.less (l' := [(w.heap.size, (a : Int), unionF R (fillF p a a 0)), (w.heap.size + 1, 0, zf)]) (by simp))
          clear hX
          go_wp2
          go_roundw
          case rel => exact ⟨k + 1, by omega, by go_num, by rw [hnext.out]; exact hXh.out⟩
          case measure => simp [intOf]; omega
    · obtain rfl : k = N := by omega
      have l1 := (hX.at (b := w.heap.size) (n := k) (f := warK f k k) (by simp)).ld
      obtain ⟨W4, hs4, hR4, hO4⟩ := (hX.at (b := w.heap.size + 1) (n := 0) (f := zf) (by simp)).put k (warK f k k)
      have hB4 := below_only hX.1 hO4 (by omega)
      clear hX hO4
      go_wp2
      refine bodyPost_ret (results_rel rfl _ _ _ _ _ rfl hR4) rfl ?_
      exact ⟨rfl, hB4⟩
end Go.Proofs.YtakhmjohncidoaaDoor
end
