/- What lexing a text gives, as plain functions on its bytes: no program. -/
import Derived.WalkKit
namespace Go.Proofs.Ytglbmiadgdadfaa
open Go Go.RowKit
namespace LX
/-- The class of a byte: 0 a stray one, 1 blank, 2 newline, 3 hash, 4 letter, 5 digit, 6 underscore, 7 sign. -/
def cls (z : Int) : Int :=
  if (97 ≤ z ∧ z ≤ 122) ∨ (65 ≤ z ∧ z ≤ 90) then 4
  else if 48 ≤ z ∧ z ≤ 57 then 5
  else if z = 32 ∨ z = 9 then 1
  else if z = 10 then 2
  else if z = 35 then 3
  else if z = 95 then 6
  else if z = 61 ∨ z = 43 ∨ z = 45 ∨ z = 94 ∨ z = 38 ∨ z = 124 ∨ z = 33 ∨ z = 40 ∨ z = 41 ∨ z = 58 ∨ z = 60 then 7
  else 0
theorem cls_range (z : Int) : 0 ≤ cls z ∧ cls z ≤ 7 := by unfold cls; repeat' split <;> omega
def inB (c : Int) : Bool := c == 1
def inC (c : Int) : Bool := c != 2
def inW (c : Int) : Bool := c == 4 || c == 5 || c == 6
def inN (c : Int) : Bool := c == 5
/-- The class of the byte at k; behind the end a newline's. -/
def clAt (L : List UInt8) (k : Nat) : Int := if h : k < L.length then cls ((L[k]'h).toNat : Int) else 2
theorem clAt_lt {L : List UInt8} {k : Nat} (h : k < L.length) : clAt L k = cls ((L[k]'h).toNat : Int) := by simp [clAt, h]
theorem clAt_ge {L : List UInt8} {k : Nat} (h : L.length ≤ k) : clAt L k = 2 := by unfold clAt; rw [dif_neg (by omega)]
theorem clAt_range (L : List UInt8) (k : Nat) : 0 ≤ clAt L k ∧ clAt L k ≤ 7 := by
  unfold clAt; split
  · exact cls_range _
  · omega

/-- Where the run of fitting bytes from i on ends. -/
def run (p : Int → Bool) (L : List UInt8) (i : Nat) : Nat := i + ((L.drop i).takeWhile fun b => p (cls (b.toNat : Int))).length
theorem run_ge (p : Int → Bool) (L : List UInt8) (i : Nat) : i ≤ run p L i := by unfold run; omega
theorem run_le (p : Int → Bool) (L : List UInt8) (i : Nat) (h : i ≤ L.length) : run p L i ≤ L.length := by
  unfold run
  have := (List.takeWhile_sublist (l := L.drop i) fun b => p (cls (b.toNat : Int))).length_le
  rw [List.length_drop] at this
  omega
theorem run_step (p : Int → Bool) (L : List UInt8) (i : Nat) : run p L i = if i < L.length ∧ p (clAt L i) = true then run p L (i + 1) else i := by
  unfold run
  by_cases h : i < L.length
  · rw [List.drop_eq_getElem_cons h, List.takeWhile_cons, clAt_lt h]
    by_cases hp : p (cls ((L[i]'h).toNat : Int)) = true
    · rw [if_pos hp, if_pos ⟨h, hp⟩, List.length_cons]; omega
    · rw [if_neg hp, if_neg (fun x => hp x.2)]; rfl
  · rw [List.drop_eq_nil_of_le (by omega), if_neg (fun x => h x.1)]; rfl
theorem run_stop {p : Int → Bool} {L : List UInt8} {i : Nat} (h : L.length ≤ i ∨ p (clAt L i) = false) : run p L i = i := by
  rw [run_step, if_neg]
  rintro ⟨h1, h2⟩
  rcases h with h | h
  · omega
  · rw [h2] at h; cases h
theorem run_more {p : Int → Bool} {L : List UInt8} {i : Nat} (h1 : i < L.length) (h2 : p (clAt L i) = true) : run p L i = run p L (i + 1) := by rw [run_step, if_pos ⟨h1, h2⟩]
theorem run_gt {p : Int → Bool} {L : List UInt8} {i : Nat} (h1 : i < L.length) (h2 : p (clAt L i) = true) : i < run p L i := by
  rw [run_more h1 h2]; have := run_ge p L (i + 1); omega
/-- As long as all fits, the run goes on. -/
theorem run_all {p : Int → Bool} {L : List UInt8} {i : Nat} : ∀ {n : Nat}, i + n ≤ L.length → (∀ j, j < n → p (clAt L (i + j)) = true) → run p L i = run p L (i + n)
  | 0, _, _ => rfl
  | n + 1, h, ha => by
    rw [run_all (n := n) (by omega) fun j hj => ha j (by omega), run_more (i := i + n) (by omega) (ha n (by omega))]
    rfl
theorem run_eq {p : Int → Bool} {L : List UInt8} {i n : Nat} (h : i + n ≤ L.length) (ha : ∀ j, j < n → p (clAt L (i + j)) = true) (hs : L.length ≤ i + n ∨ p (clAt L (i + n)) = false) : run p L i = i + n := by
  rw [run_all h ha, run_stop hs]
theorem run_inner {p : Int → Bool} {L : List UInt8} : ∀ (n : Nat) {i j : Nat}, run p L i - i = n → i ≤ j → j < run p L i → p (clAt L j) = true
  | 0, i, j, hn, h1, h2 => by omega
  | n + 1, i, j, hn, h1, h2 => by
    by_cases hc : i < L.length ∧ p (clAt L i) = true
    · by_cases hj : j = i
      · rw [hj]; exact hc.2
      · rw [run_more hc.1 hc.2] at hn h2
        exact run_inner n (i := i + 1) (by omega) (by omega) h2
    · rw [run_step, if_neg hc] at h2; omega
theorem run_fits {p : Int → Bool} {L : List UInt8} {i j : Nat} (h1 : i ≤ j) (h2 : j < run p L i) : p (clAt L j) = true := run_inner _ rfl h1 h2
theorem run_end {p : Int → Bool} {L : List UInt8} : ∀ (n : Nat) {i : Nat}, L.length - i = n → run p L i < L.length → p (clAt L (run p L i)) = false
  | n, i, hn, h => by
    by_cases hc : i < L.length ∧ p (clAt L i) = true
    · rw [run_more hc.1 hc.2] at h ⊢
      exact run_end (n - 1) (by omega) h
    · rw [run_step, if_neg hc] at h ⊢
      by_cases hp : p (clAt L i) = true
      · exact absurd ⟨h, hp⟩ hc
      · simpa using hp
  termination_by n => n
  decreasing_by omega
theorem run_ends {p : Int → Bool} {L : List UInt8} {i : Nat} (h : i ≤ L.length) : run p L i = L.length ∨ (run p L i < L.length ∧ p (clAt L (run p L i)) = false) := by
  have := run_le p L i h
  by_cases hc : run p L i < L.length
  · exact .inr ⟨hc, run_end _ rfl hc⟩
  · exact .inl (by omega)

/-- The value of a number, if it is a valid one. -/
def numVal (l : List UInt8) : Nat := l.foldl (fun n b => 10 * n + (b.toNat - 48)) 0
def numOk (l : List UInt8) : Bool := l.all (fun b => inN (cls (b.toNat : Int))) && decide (1 ≤ l.length) && decide (l.length ≤ 3) && !(l.head? == some 48 && decide (1 < l.length)) && decide (numVal l ≤ 255)
/-- The length of the sign that begins at i, where the byte there is a sign's. -/
def signLen (L : List UInt8) (i : Nat) : Nat := if (L[i + 1]? = some 61 ∧ (L[i]? = some 61 ∨ L[i]? = some 33)) then 2 else 1
theorem signLen_pos (L : List UInt8) (i : Nat) : 1 ≤ signLen L i ∧ signLen L i ≤ 2 := by unfold signLen; split <;> omega
theorem signLen_le {L : List UInt8} {i : Nat} (h : i < L.length) : i + signLen L i ≤ L.length := by
  unfold signLen; split
  · rename_i hc
    have := (List.getElem?_eq_some_iff.1 hc.1).1
    omega
  · omega

/-- A token: its kind, where it begins, where it ends. -/
structure Tk where
  kind : Nat
  lo : Nat
  hi : Nat
  deriving DecidableEq

def cut (L : List UInt8) (i j : Nat) : List UInt8 := (L.drop i).take (j - i)

/-- The tokens from i on, each with its error, up to the first invalid one; 'used' says whether the line has a token already. -/
def ys (L : List UInt8) (i : Nat) (used : Bool) : List (Tk × Nat) :=
  if h : i < L.length then
    if clAt L i = 1 then ys L (i + 1) used
    else if clAt L i = 2 then (if used then [(⟨4, i, i⟩, 0)] else []) ++ ys L (i + 1) false
    else if _h3 : clAt L i = 3 then ys L (run inC L i) used
    else if _h4 : clAt L i = 4 then
      if 16 < run inW L i - i then [(⟨1, i, run inW L i⟩, 42)] else (⟨1, i, run inW L i⟩, 0) :: ys L (run inW L i) true
    else if _h5 : clAt L i = 5 then
      if numOk (cut L i (run inN L i)) then (⟨2, i, run inN L i⟩, 0) :: ys L (run inN L i) true else [(⟨2, i, run inN L i⟩, 41)]
    else if clAt L i = 7 then (⟨3, i, i + signLen L i⟩, 0) :: ys L (i + signLen L i) true
    else [(⟨0, i, i⟩, 40)]
  else if used then [(⟨4, i, i⟩, 0)] else []
termination_by L.length - i
decreasing_by
  · omega
  · omega
  · have := run_gt (p := inC) h (by rw [_h3]; rfl); omega
  · have := run_gt (p := inW) h (by rw [_h4]; rfl); omega
  · have := run_gt (p := inN) h (by rw [_h5]; rfl); omega
  · have := signLen_pos L i; omega

section
variable {L : List UInt8} {i : Nat} {u : Bool}
theorem ys_end (h : L.length ≤ i) : ys L i u = if u then [(⟨4, i, i⟩, 0)] else [] := by rw [ys, dif_neg (by omega)]
theorem ys_blank (h : i < L.length) (hc : clAt L i = 1) : ys L i u = ys L (i + 1) u := by rw [ys, dif_pos h, if_pos hc]
theorem ys_newline (h : i < L.length) (hc : clAt L i = 2) : ys L i u = (if u then [(⟨4, i, i⟩, 0)] else []) ++ ys L (i + 1) false := by
  rw [ys, dif_pos h, if_neg (by omega), if_pos hc]
theorem ys_hash (h : i < L.length) (hc : clAt L i = 3) : ys L i u = ys L (run inC L i) u := by
  rw [ys, dif_pos h, if_neg (by omega), if_neg (by omega), dif_pos hc]
theorem ys_word (h : i < L.length) (hc : clAt L i = 4) : ys L i u = if 16 < run inW L i - i then [(⟨1, i, run inW L i⟩, 42)] else (⟨1, i, run inW L i⟩, 0) :: ys L (run inW L i) true := by
  rw [ys, dif_pos h, if_neg (by omega), if_neg (by omega), dif_neg (by omega), dif_pos hc]
theorem ys_num (h : i < L.length) (hc : clAt L i = 5) : ys L i u = if numOk (cut L i (run inN L i)) then (⟨2, i, run inN L i⟩, 0) :: ys L (run inN L i) true else [(⟨2, i, run inN L i⟩, 41)] := by
  rw [ys, dif_pos h, if_neg (by omega), if_neg (by omega), dif_neg (by omega), dif_neg (by omega), dif_pos hc]
theorem ys_sign (h : i < L.length) (hc : clAt L i = 7) : ys L i u = (⟨3, i, i + signLen L i⟩, 0) :: ys L (i + signLen L i) true := by
  rw [ys, dif_pos h, if_neg (by omega), if_neg (by omega), dif_neg (by omega), dif_neg (by omega), dif_neg (by omega), if_pos hc]
theorem ys_stray (h : i < L.length) (hc : clAt L i = 0 ∨ clAt L i = 6) : ys L i u = [(⟨0, i, i⟩, 40)] := by
  rw [ys, dif_pos h, if_neg (by omega), if_neg (by omega), dif_neg (by omega), dif_neg (by omega), dif_neg (by omega), if_neg (by omega)]
/-- A run of blanks. -/
theorem ys_blanks : ∀ (n : Nat) {i : Nat}, run inB L i - i = n → ys L i u = ys L (run inB L i) u := by
  intro n
  induction n with
  | zero => intro i hn; rw [show run inB L i = i by have := run_ge inB L i; omega]
  | succ n ih =>
    intro i hn
    by_cases hc : i < L.length ∧ inB (clAt L i) = true
    · rw [run_more hc.1 hc.2] at hn ⊢
      have := run_ge inB L (i + 1)
      rw [ys_blank hc.1 (by simpa [inB] using hc.2)]
      exact ih (by omega)
    · rw [run_step, if_neg hc]
/-- Where what may stand ahead of a token, or of a line's end, ends. -/
def skipTo (L : List UInt8) (i : Nat) : Nat := if clAt L (run inB L i) = 3 then run inC L (run inB L i) else run inB L i
theorem lt_of_cl (h : clAt L i ≠ 2) : i < L.length := by
  rcases Nat.lt_or_ge i L.length with h' | h'
  · exact h'
  · exact absurd (clAt_ge h') h
theorem skipTo_ge (L : List UInt8) (i : Nat) : i ≤ skipTo L i := by
  have h1 := run_ge inB L i
  have h2 := run_ge inC L (run inB L i)
  unfold skipTo; split <;> omega
theorem skipTo_le (L : List UInt8) (i : Nat) (h : i ≤ L.length) : skipTo L i ≤ L.length := by
  have h1 := run_le inB L i h
  have h2 := run_le inC L _ h1
  unfold skipTo; split <;> omega
theorem ys_skip : ys L i u = ys L (skipTo L i) u := by
  rw [ys_blanks _ rfl]
  unfold skipTo
  split
  · rename_i hc
    rw [ys_hash (lt_of_cl (by omega)) hc]
  · rfl
/-- Behind it stands no blank and no hash. -/
theorem skipTo_cl (h : i ≤ L.length) : clAt L (skipTo L i) ≠ 1 ∧ clAt L (skipTo L i) ≠ 3 := by
  have h1 := run_le inB L i h
  unfold skipTo
  split
  · rename_i hc
    rcases run_ends (p := inC) h1 with he | ⟨_, he⟩
    · rw [he, clAt_ge (Nat.le_refl _)]; omega
    · simp [inC] at he; omega
  · rename_i hc
    rcases run_ends (p := inB) h with he | ⟨_, he⟩
    · rw [he, clAt_ge (Nat.le_refl _)]; omega
    · simp [inB] at he; omega
end

/-- What Lex answers: the tokens, or the offset and the error of the first invalid one. -/
def bad (l : List (Tk × Nat)) : Option (Tk × Nat) := l.find? fun x => x.2 != 0
theorem ys_bad_last : ∀ (n : Nat) {L : List UInt8} {i : Nat} {u : Bool}, L.length - i = n → ∀ pre x post, ys L i u = pre ++ x :: post → x.2 ≠ 0 → post = [] := by
  intro n
  induction n using Nat.strongRecOn with
  | _ n ih =>
    intro L i u hn pre x post he hx
    have go : ∀ (i' : Nat) (u' : Bool) (y : Tk × Nat), i < i' → i < L.length → y.2 = 0 → pre ++ x :: post = y :: ys L i' u' → post = [] := by
      intro i' u' y hi hl hy he'
      cases pre with
      | nil => simp at he'; obtain ⟨rfl, _⟩ := he'; exact absurd hy hx
      | cons a pre => simp at he'; exact ih (L.length - i') (by omega) rfl pre x post he'.2.symm hx
    have go0 : ∀ (i' : Nat) (u' : Bool), i < i' → i < L.length → ys L i u = ys L i' u' → post = [] := by
      intro i' u' hi hl he'
      exact ih (L.length - i') (by omega) rfl pre x post (he'.symm.trans he) hx
    by_cases h : i < L.length
    · have hr := clAt_range L i
      have : clAt L i = 0 ∨ clAt L i = 1 ∨ clAt L i = 2 ∨ clAt L i = 3 ∨ clAt L i = 4 ∨ clAt L i = 5 ∨ clAt L i = 6 ∨ clAt L i = 7 := by omega
      rcases this with hc | hc | hc | hc | hc | hc | hc | hc
      · rw [ys_stray h (.inl hc)] at he
        cases pre <;> simp at he
        exact he.2
      · exact go0 _ _ (by omega) h (ys_blank h hc)
      · rw [ys_newline h hc] at he
        cases u
        · exact go0 (i + 1) false (by omega) h (by rw [ys_newline h hc]; rfl)
        · exact go _ _ _ (by omega) h rfl he.symm
      · exact go0 _ _ (run_gt h (by rw [hc]; rfl)) h (ys_hash h hc)
      · rw [ys_word h hc] at he
        split at he
        · cases pre <;> simp at he
          exact he.2
        · exact go _ _ _ (run_gt h (by rw [hc]; rfl)) h rfl he.symm
      · rw [ys_num h hc] at he
        split at he
        · exact go _ _ _ (run_gt h (by rw [hc]; rfl)) h rfl he.symm
        · cases pre <;> simp at he
          exact he.2
      · rw [ys_stray h (.inr hc)] at he
        cases pre <;> simp at he
        exact he.2
      · rw [ys_sign h hc] at he
        exact go _ _ _ (by have := signLen_pos L i; omega) h rfl he.symm
    · rw [ys_end (by omega)] at he
      cases u
      · cases pre <;> simp at he
      · cases pre <;> simp at he
        exact he.2
end LX
end Go.Proofs.Ytglbmiadgdadfaa
