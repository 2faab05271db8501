/- Tokens of a text that is made of parts: shifted, joined, and put together from tokens. -/
import Derived.Test.YtglbmiadgdadfaaLexLex
namespace Go.Proofs.Ytglbmiadgdadfaa
open Go Go.RowKit
namespace LX
/-- A token moved by d bytes. -/
def mv (d : Nat) (t : Tk) : Tk := ⟨t.kind, t.lo + d, t.hi + d⟩
def mvs (d : Nat) (l : List (Tk × Nat)) : List (Tk × Nat) := l.map fun x => (mv d x.1, x.2)
theorem mvs_nil (d : Nat) : mvs d [] = [] := rfl
theorem mvs_cons (d : Nat) (x : Tk × Nat) (l : List (Tk × Nat)) : mvs d (x :: l) = (mv d x.1, x.2) :: mvs d l := rfl
theorem mvs_append (d : Nat) (l m : List (Tk × Nat)) : mvs d (l ++ m) = mvs d l ++ mvs d m := by unfold mvs; rw [List.map_append]
theorem mvs_mvs (d e : Nat) (l : List (Tk × Nat)) : mvs d (mvs e l) = mvs (e + d) l := by
  unfold mvs mv; rw [List.map_map]
  apply List.map_congr_left
  intro x _; simp; omega
theorem clAt_get? (L : List UInt8) (k : Nat) : clAt L k = (L[k]?).elim 2 fun b => cls (b.toNat : Int) := by
  unfold clAt
  split
  · rename_i h; rw [List.getElem?_eq_getElem h]; rfl
  · rename_i h; rw [List.getElem?_eq_none (by omega)]; rfl
section
variable (P B : List UInt8) (k : Nat)
theorem clAt_shift : clAt (P ++ B) (P.length + k) = clAt B k := by
  rw [clAt_get?, clAt_get?, List.getElem?_append_right (by omega), Nat.add_sub_cancel_left]
theorem drop_shift : (P ++ B).drop (P.length + k) = B.drop k := by
  rw [← List.drop_drop, List.drop_left]
theorem run_shift (p : Int → Bool) : run p (P ++ B) (P.length + k) = P.length + run p B k := by
  unfold run; rw [drop_shift]; omega
theorem signLen_shift : signLen (P ++ B) (P.length + k) = signLen B k := by
  unfold signLen
  rw [List.getElem?_append_right (by omega), List.getElem?_append_right (by omega), Nat.add_sub_cancel_left, show P.length + k + 1 - P.length = k + 1 by omega]
theorem cut_shift (j : Nat) : cut (P ++ B) (P.length + k) (P.length + j) = cut B k j := by
  unfold cut; rw [drop_shift, show P.length + j - (P.length + k) = j - k by omega]
end
theorem ys_shift (P : List UInt8) : ∀ (n : Nat) {B : List UInt8} {k : Nat} {u : Bool}, B.length - k = n → ys (P ++ B) (P.length + k) u = mvs P.length (ys B k u) := by
  intro n
  induction n using Nat.strongRecOn with
  | _ n ih =>
    intro B k u hn
    by_cases h : k < B.length
    · have hX : P.length + k < (P ++ B).length := by rw [List.length_append]; omega
      have hcl := clAt_shift P B k
      have hr := clAt_range B k
      have : clAt B k = 0 ∨ clAt B k = 1 ∨ clAt B k = 2 ∨ clAt B k = 3 ∨ clAt B k = 4 ∨ clAt B k = 5 ∨ clAt B k = 6 ∨ clAt B k = 7 := by omega
      rcases this with hc | hc | hc | hc | hc | hc | hc | hc
      · rw [ys_stray h (.inl hc), ys_stray hX (.inl (hcl.trans hc))]; simp [mvs, mv, Nat.add_comm]
      · rw [ys_blank h hc, ys_blank hX (hcl.trans hc), Nat.add_assoc, ih _ (by omega) rfl]
      · rw [ys_newline h hc, ys_newline hX (hcl.trans hc), Nat.add_assoc, ih _ (by omega) rfl, mvs_append]
        cases u <;> simp [mvs, mv, Nat.add_comm]
      · have hg := run_gt (p := inC) h (by rw [hc]; rfl)
        rw [ys_hash h hc, ys_hash hX (hcl.trans hc), run_shift, ih _ (by omega) rfl]
      · have hg := run_gt (p := inW) h (by rw [hc]; rfl)
        rw [ys_word h hc, ys_word hX (hcl.trans hc), run_shift, ih _ (by omega) rfl, show P.length + run inW B k - (P.length + k) = run inW B k - k by omega]
        split <;> simp [mvs, mv, Nat.add_comm]
      · have hg := run_gt (p := inN) h (by rw [hc]; rfl)
        rw [ys_num h hc, ys_num hX (hcl.trans hc), run_shift, cut_shift, ih _ (by omega) rfl]
        split <;> simp [mvs, mv, Nat.add_comm]
      · rw [ys_stray h (.inr hc), ys_stray hX (.inr (hcl.trans hc))]; simp [mvs, mv, Nat.add_comm]
      · have hg := signLen_pos B k
        rw [ys_sign h hc, ys_sign hX (hcl.trans hc), signLen_shift, Nat.add_assoc, ih _ (by omega) rfl]
        simp [mvs, mv, Nat.add_comm, Nat.add_left_comm]
    · have hX : (P ++ B).length ≤ P.length + k := by rw [List.length_append]; omega
      rw [ys_end (L := B) (by omega), ys_end hX]
      cases u <;> simp [mvs, mv, Nat.add_comm]
theorem ys_shift0 (P B : List UInt8) (u : Bool) : ys (P ++ B) P.length u = mvs P.length (ys B 0 u) := ys_shift P _ (k := 0) rfl

/-- l, and r behind it if nothing in l is bad. -/
def cat (l r : List (Tk × Nat)) : List (Tk × Nat) := if l.all (fun x => x.2 == 0) then l ++ r else l
theorem cat_nil (r : List (Tk × Nat)) : cat [] r = r := rfl
theorem cat_good {t : Tk} {l r : List (Tk × Nat)} : cat ((t, 0) :: l) r = (t, 0) :: cat l r := by
  unfold cat
  cases h : l.all (fun x => x.2 == 0) <;> simp [h]
theorem cat_bad {t : Tk} {e : Nat} (h : e ≠ 0) (r : List (Tk × Nat)) : cat [(t, e)] r = [(t, e)] := by unfold cat; simp [h]
section
variable (A B : List UInt8)
theorem clAt_left {i : Nat} (h : i < A.length) : clAt (A ++ 10 :: B) i = clAt A i := by
  rw [clAt_get?, clAt_get?, List.getElem?_append_left h]
theorem clAt_mid : clAt (A ++ 10 :: B) A.length = 2 := by
  rw [clAt_get?, List.getElem?_append_right (Nat.le_refl _), Nat.sub_self]; rfl
theorem run_left {p : Int → Bool} (hp : p 2 = false) {i : Nat} (h : i ≤ A.length) : run p (A ++ 10 :: B) i = run p A i := by
  have h1 := run_ge p A i
  have h2 := run_le p A i h
  have := run_eq (p := p) (L := A ++ 10 :: B) (i := i) (n := run p A i - i) (by rw [List.length_append]; omega)
    (fun j hj => by
      have hf := run_fits (p := p) (L := A) (i := i) (j := i + j) (by omega) (by omega)
      rw [clAt_left A B (by omega)]; exact hf)
    (.inr (by
      rw [show i + (run p A i - i) = run p A i by omega]
      rcases run_ends (p := p) h with he | ⟨hl, he⟩
      · rw [he, clAt_mid]; exact hp
      · rw [clAt_left A B hl]; exact he))
  omega
theorem signLen_left {i : Nat} (h : i < A.length) : signLen (A ++ 10 :: B) i = signLen A i := by
  unfold signLen
  rw [List.getElem?_append_left h]
  by_cases h1 : i + 1 < A.length
  · rw [List.getElem?_append_left h1]
  · rw [List.getElem?_append_right (by omega), show i + 1 - A.length = 0 by omega, List.getElem?_eq_none (show A.length ≤ i + 1 by omega)]
    simp
theorem cut_left {i j : Nat} (h : i ≤ A.length) (hj : j ≤ A.length) : cut (A ++ B) i j = cut A i j := by
  unfold cut
  rw [List.drop_append_of_le_length h, List.take_append_of_le_length (by rw [List.length_drop]; omega)]
end
theorem ys_join (A B : List UInt8) : ∀ (n : Nat) {i : Nat} {u : Bool}, A.length - i = n → i ≤ A.length → ys (A ++ 10 :: B) i u = cat (ys A i u) (mvs (A.length + 1) (ys B 0 false)) := by
  intro n
  induction n using Nat.strongRecOn with
  | _ n ih =>
    intro i u hn hi
    have hlen : (A ++ 10 :: B).length = A.length + (B.length + 1) := by simp
    by_cases h : i < A.length
    · have hX : i < (A ++ 10 :: B).length := by omega
      have hcl := clAt_left A B h
      have hr := clAt_range A i
      have : clAt A i = 0 ∨ clAt A i = 1 ∨ clAt A i = 2 ∨ clAt A i = 3 ∨ clAt A i = 4 ∨ clAt A i = 5 ∨ clAt A i = 6 ∨ clAt A i = 7 := by omega
      rcases this with hc | hc | hc | hc | hc | hc | hc | hc
      · rw [ys_stray h (.inl hc), ys_stray hX (.inl (hcl.trans hc)), cat_bad (by decide)]
      · rw [ys_blank h hc, ys_blank hX (hcl.trans hc), ih _ (by omega) rfl (by omega)]
      · rw [ys_newline h hc, ys_newline hX (hcl.trans hc), ih _ (by omega) rfl (by omega)]
        cases u
        · rfl
        · exact cat_good.symm
      · have hg := run_gt (p := inC) h (by rw [hc]; rfl)
        have hle := run_le inC A i hi
        rw [ys_hash h hc, ys_hash hX (hcl.trans hc), run_left A B rfl hi, ih _ (by omega) rfl hle]
      · have hg := run_gt (p := inW) h (by rw [hc]; rfl)
        have hle := run_le inW A i hi
        rw [ys_word h hc, ys_word hX (hcl.trans hc), run_left A B rfl hi, ih _ (by omega) rfl hle]
        split
        · rw [cat_bad (by decide)]
        · rw [cat_good]
      · have hg := run_gt (p := inN) h (by rw [hc]; rfl)
        have hle := run_le inN A i hi
        rw [ys_num h hc, ys_num hX (hcl.trans hc), run_left A B rfl hi, cut_left A _ hi hle, ih _ (by omega) rfl hle]
        split
        · rw [cat_good]
        · rw [cat_bad (by decide)]
      · rw [ys_stray h (.inr hc), ys_stray hX (.inr (hcl.trans hc)), cat_bad (by decide)]
      · have hg := signLen_pos A i
        have hle := signLen_le h
        rw [ys_sign h hc, ys_sign hX (hcl.trans hc), signLen_left A B h, ih _ (by omega) rfl hle, cat_good]
    · obtain rfl : i = A.length := by omega
      rw [ys_end (Nat.le_refl _), ys_newline (by omega) (clAt_mid A B)]
      have hs := ys_shift0 (A ++ [10]) B false
      rw [List.append_assoc, List.length_append] at hs
      simp only [List.singleton_append, List.length_singleton] at hs
      rw [hs]
      cases u
      · rfl
      · rw [if_pos rfl, cat_good]; rfl

theorem find_none {l : List (Tk × Nat)} : l.find? (fun x => x.2 != 0) = none ↔ l.all (fun x => x.2 == 0) = true := by
  rw [List.find?_eq_none, List.all_eq_true]
  constructor
  · intro h x hx; have := h x hx; simpa using this
  · intro h x hx; have := h x hx; simpa using this
theorem find_mvs (d : Nat) (l : List (Tk × Nat)) : (mvs d l).find? (fun x => x.2 != 0) = (l.find? (fun x => x.2 != 0)).map fun x => (mv d x.1, x.2) := by
  unfold mvs
  rw [List.find?_map]
  rfl
/-- What Lex answers for two texts that are joined by a newline. -/
theorem out_join {A B : List UInt8} (hA : A.length ≤ 2000) (hB : B.length ≤ 2000) :
    ((out A).2.2 ≠ 0 → out (A ++ 10 :: B) = ([], (out A).2.1, (out A).2.2)) ∧
    ((out A).2.2 = 0 → (out B).2.2 ≠ 0 → out (A ++ 10 :: B) = ([], (out B).2.1 + A.length + 1, (out B).2.2)) ∧
    ((out A).2.2 = 0 → (out B).2.2 = 0 → (out A).2.1 = 0 ∧ (out B).2.1 = 0 ∧ out (A ++ 10 :: B) = ((out A).1 ++ (out B).1.map (mv (A.length + 1)), 0, 0)) := by
  have hj := ys_join A B _ (i := 0) (u := false) rfl (Nat.zero_le _)
  have hX : ¬ 16384 < (A ++ 10 :: B).length := by simp; omega
  unfold out
  simp only [if_neg (show ¬ 16384 < A.length by omega), if_neg (show ¬ 16384 < B.length by omega), if_neg hX, hj]
  generalize ys A 0 false = l
  generalize ys B 0 false = r
  cases hl : l.find? (fun x => x.2 != 0) with
  | some x =>
    have hx := List.find?_some hl
    have hall : ¬ l.all (fun x => x.2 == 0) = true := fun h => by rw [← find_none, hl] at h; cases h
    have e : cat l (mvs (A.length + 1) r) = l := by unfold cat; rw [if_neg hall]
    rw [e, hl]
    refine ⟨fun _ => rfl, fun h => ?_, fun h => ?_⟩
    · simp at h hx; exact absurd h hx
    · simp at h hx; exact absurd h hx
  | none =>
    have hall := find_none.1 hl
    have e : cat l (mvs (A.length + 1) r) = l ++ mvs (A.length + 1) r := by unfold cat; rw [if_pos hall]
    rw [e, List.find?_append, hl, find_mvs]
    cases hr : r.find? (fun x => x.2 != 0) with
    | some x =>
      have hx := List.find?_some hr
      refine ⟨fun h => absurd rfl h, fun _ _ => ?_, fun _ h => ?_⟩
      · simp [mv, Nat.add_assoc]
      · simp at h hx; exact absurd h hx
    | none =>
      refine ⟨fun h => absurd rfl h, fun _ h => absurd rfl h, fun _ _ => ⟨rfl, rfl, ?_⟩⟩
      simp [mvs, List.map_map, Function.comp_def]
end LX
end Go.Proofs.Ytglbmiadgdadfaa
