/- Texts that are put together from tokens: what lexing them gives; what stands between the tokens of a text. -/
import Derived.Test.YtglbmiadgdadfaaLexSeq
namespace Go.Proofs.Ytglbmiadgdadfaa
open Go Go.RowKit
namespace LX
theorem run_left' {A R : List UInt8} {p : Int → Bool} (hp : p (clAt R 0) = false) {i : Nat} (h : i ≤ A.length) : run p (A ++ R) i = run p A i := by
  have hm : clAt (A ++ R) A.length = clAt R 0 := clAt_shift A R 0
  have hl : ∀ {j}, j < A.length → clAt (A ++ R) j = clAt A j := fun hj => by rw [clAt_get?, clAt_get?, List.getElem?_append_left hj]
  have h1 := run_ge p A i
  have h2 := run_le p A i h
  have := run_eq (p := p) (L := A ++ R) (i := i) (n := run p A i - i) (by rw [List.length_append]; omega)
    (fun j hj => by
      have hf := run_fits (p := p) (L := A) (i := i) (j := i + j) (by omega) (by omega)
      rw [hl (by omega)]; exact hf)
    (.inr (by
      rw [show i + (run p A i - i) = run p A i by omega]
      rcases run_ends (p := p) h with he | ⟨hlt, he⟩
      · rw [he, hm]; exact hp
      · rw [hl hlt]; exact he))
  omega
def signOk (T : List UInt8) : Prop := (∃ b : UInt8, T = [b] ∧ cls (b.toNat : Int) = 7) ∨ T = [61, 61] ∨ T = [33, 61]
/-- A text that is one token of kind k. -/
def tokOk (k : Nat) (T : List UInt8) : Prop :=
  (k = 1 ∧ run inW T 0 = T.length ∧ clAt T 0 = 4 ∧ T.length ≤ 16) ∨ (k = 2 ∧ run inN T 0 = T.length ∧ clAt T 0 = 5 ∧ numOk T = true) ∨ (k = 3 ∧ signOk T)
/-- What stands behind a token: a space or a newline. -/
def sep (R : List UInt8) : Prop := R[0]? = some 32 ∨ R[0]? = some 10
theorem sep_cl {R : List UInt8} (h : sep R) : clAt R 0 = 1 ∨ clAt R 0 = 2 := by
  rcases h with h | h
  · left; rw [clAt_get?, h]; rfl
  · right; rw [clAt_get?, h]; rfl
theorem cut_zero (T R : List UInt8) : cut (T ++ R) 0 T.length = T := by unfold cut; simp
theorem tok_at {k : Nat} {T R : List UInt8} (h : tokOk k T) (hR : sep R) (u : Bool) : ys (T ++ R) 0 u = (⟨k, 0, T.length⟩, 0) :: mvs T.length (ys R 0 true) := by
  have hs := ys_shift0 T R true
  have hl : ∀ (h0 : 0 < T.length), clAt (T ++ R) 0 = clAt T 0 := fun h0 => by rw [clAt_get?, clAt_get?, List.getElem?_append_left h0]
  rcases h with ⟨rfl, h1, h2, h3⟩ | ⟨rfl, h1, h2, h3⟩ | ⟨rfl, h1⟩
  · have h0 : 0 < T.length := lt_of_cl (by omega)
    have hr : run inW (T ++ R) 0 = T.length := by rw [run_left' (by rcases sep_cl hR with h | h <;> rw [h] <;> rfl) (Nat.zero_le _), h1]
    rw [ys_word (by rw [List.length_append]; omega) ((hl h0).trans h2), hr, if_neg (by omega), hs]
  · have h0 : 0 < T.length := lt_of_cl (by omega)
    have hr : run inN (T ++ R) 0 = T.length := by rw [run_left' (by rcases sep_cl hR with h | h <;> rw [h] <;> rfl) (Nat.zero_le _), h1]
    rw [ys_num (by rw [List.length_append]; omega) ((hl h0).trans h2), hr, cut_zero, if_pos h3, hs]
  · rcases h1 with ⟨b, rfl, hb⟩ | rfl | rfl
    · have hg : signLen ([b] ++ R) 0 = 1 := by
        unfold signLen; rw [if_neg]; rintro ⟨h, -⟩
        have e : ([b] ++ R)[0 + 1]? = R[0]? := rfl
        rw [e] at h
        rcases hR with h' | h' <;> rw [h'] at h <;> simp at h
      rw [ys_sign (by simp) (by rw [hl (by simp), clAt_lt (by simp)]; exact hb), hg]
      exact congrArg _ hs
    · have hg : signLen ([61, 61] ++ R) 0 = 2 := by unfold signLen; rw [if_pos]; exact ⟨rfl, .inl rfl⟩
      rw [ys_sign (by simp) (by rw [hl (by simp)]; rfl), hg]
      exact congrArg _ hs
    · have hg : signLen ([33, 61] ++ R) 0 = 2 := by unfold signLen; rw [if_pos]; exact ⟨rfl, .inr rfl⟩
      rw [ys_sign (by simp) (by rw [hl (by simp)]; rfl), hg]
      exact congrArg _ hs

/-- A token's kind and text. -/
def sho (L : List UInt8) (t : Tk) : Nat × List UInt8 := (t.kind, cut L t.lo t.hi)
/-- Lexing L gives ts, up to offsets. -/
def Reads (L : List UInt8) (u : Bool) (ts : List (Nat × List UInt8)) : Prop := ∃ l : List Tk, ys L 0 u = l.map (fun t => (t, 0)) ∧ l.map (sho L) = ts
theorem sho_mv (P R : List UInt8) (l : List Tk) : (l.map (mv P.length)).map (sho (P ++ R)) = l.map (sho R) := by
  rw [List.map_map]
  apply List.map_congr_left
  intro t _
  unfold sho mv
  simp only [Function.comp_apply]
  rw [Nat.add_comm t.lo, Nat.add_comm t.hi, cut_shift]
theorem mvs_zero (d : Nat) (l : List Tk) : mvs d (l.map fun t => (t, 0)) = (l.map (mv d)).map fun t => (t, 0) := by unfold mvs; rw [List.map_map, List.map_map]; rfl
theorem Reads.pre {P R : List UInt8} {u v : Bool} {ts : List (Nat × List UInt8)} (h : Reads R v ts) (he : ys (P ++ R) 0 u = mvs P.length (ys R 0 v)) : Reads (P ++ R) u ts := by
  obtain ⟨l, h1, h2⟩ := h
  exact ⟨l.map (mv P.length), by rw [he, h1, mvs_zero], by rw [sho_mv, h2]⟩
theorem Reads.pre1 {P R : List UInt8} {u v : Bool} {k n : Nat} {T : List UInt8} {ts : List (Nat × List UInt8)} (h : Reads R v ts) (he : ys (P ++ R) 0 u = (⟨k, 0, n⟩, 0) :: mvs P.length (ys R 0 v)) (hc : cut (P ++ R) 0 n = T) : Reads (P ++ R) u ((k, T) :: ts) := by
  obtain ⟨l, h1, h2⟩ := h
  refine ⟨⟨k, 0, n⟩ :: l.map (mv P.length), by rw [he, h1, mvs_zero]; rfl, ?_⟩
  rw [List.map_cons, sho_mv, h2]
  unfold sho; rw [hc]
theorem Reads.nil : Reads [] false [] := ⟨[], by rw [ys_end (L := []) (by simp)]; rfl, rfl⟩
theorem Reads.tok {k : Nat} {T R : List UInt8} {u : Bool} {ts : List (Nat × List UInt8)} (h : Reads R true ts) (hT : tokOk k T) (hR : sep R) : Reads (T ++ R) u ((k, T) :: ts) :=
  h.pre1 (tok_at hT hR u) (cut_zero T R)
theorem Reads.blank {b : UInt8} {R : List UInt8} {u : Bool} {ts : List (Nat × List UInt8)} (h : Reads R u ts) (hb : cls (b.toNat : Int) = 1) : Reads (b :: R) u ts := by
  refine h.pre (P := [b]) ?_
  have := ys_shift0 [b] R u
  rw [ys_blank (by simp) (by rw [clAt_lt (by simp)]; exact hb)]
  exact this
theorem Reads.nl {R : List UInt8} {ts : List (Nat × List UInt8)} (h : Reads R false ts) : Reads (10 :: R) false ts := by
  refine h.pre (P := [10]) ?_
  have := ys_shift0 [10] R false
  rw [ys_newline (by simp) (by rw [clAt_lt (by simp)]; rfl)]
  exact this
theorem Reads.nl_end {R : List UInt8} {ts : List (Nat × List UInt8)} (h : Reads R false ts) : Reads (10 :: R) true ((4, []) :: ts) := by
  refine h.pre1 (P := [10]) (n := 0) ?_ rfl
  have := ys_shift0 [10] R false
  rw [ys_newline (by simp) (by rw [clAt_lt (by simp)]; rfl)]
  exact congrArg _ this
theorem cls_two (b : UInt8) : cls (b.toNat : Int) = 2 ↔ b = 10 := by
  constructor
  · intro h
    unfold cls at h
    repeat' split at h
    all_goals first
      | omega
      | (rename_i h'; exact UInt8.toNat_inj.1 (by show b.toNat = 10; omega))
  · rintro rfl; rfl
theorem Reads.hash {X R : List UInt8} {u : Bool} {ts : List (Nat × List UInt8)} (h : Reads (10 :: R) u ts) (hX : ∀ b ∈ X, b ≠ 10) : Reads (35 :: (X ++ 10 :: R)) u ts := by
  have e : (35 :: (X ++ 10 :: R)) = (35 :: X) ++ 10 :: R := rfl
  rw [e]
  refine h.pre ?_
  have hr : run inC (35 :: X) 0 = (35 :: X).length := by
    have := run_eq (p := inC) (L := 35 :: X) (i := 0) (n := (35 :: X).length) (by omega) (fun j hj => by
      rw [Nat.zero_add, clAt_lt hj]
      rcases j with _ | j
      · rfl
      · have hb := hX ((35 :: X)[j + 1]'hj) (by rw [List.getElem_cons_succ]; exact List.getElem_mem _)
        unfold inC
        have := mt (cls_two _).1 hb
        simpa using this) (.inl (by omega))
    rw [this, Nat.zero_add]
  rw [ys_hash (by simp) (by rw [clAt_lt (by simp)]; rfl), run_left' (p := inC) (by rfl) (Nat.zero_le _), hr]
  exact ys_shift0 _ _ u

/-- The lists of tokens that sources have: each line has tokens and an end. -/
def wf : Bool → List (Nat × List UInt8) → Prop
  | u, [] => u = false
  | u, (k, T) :: r => (k = 4 ∧ u = true ∧ T = [] ∧ wf false r) ∨ (k ≠ 4 ∧ tokOk k T ∧ wf true r)
theorem cut_len {L : List UInt8} {i j : Nat} (hj : j ≤ L.length) : (cut L i j).length = j - i := by unfold cut; rw [List.length_take, List.length_drop]; omega
theorem cut_get {L : List UInt8} {i j k : Nat} (h : k < j - i) : (cut L i j)[k]? = L[i + k]? := by
  unfold cut; rw [List.getElem?_take_of_lt h, List.getElem?_drop]
theorem cut_clAt {L : List UInt8} {i j k : Nat} (h : k < j - i) : clAt (cut L i j) k = clAt L (i + k) := by rw [clAt_get?, clAt_get?, cut_get h]
theorem cut_run {p : Int → Bool} {L : List UInt8} {i : Nat} (hi : i ≤ L.length) : run p (cut L i (run p L i)) 0 = (cut L i (run p L i)).length := by
  have hl := cut_len (i := i) (run_le p L i hi)
  have := run_eq (p := p) (L := cut L i (run p L i)) (i := 0) (n := (cut L i (run p L i)).length) (by omega) (fun j hj => by
    rw [hl] at hj
    rw [Nat.zero_add, cut_clAt hj]
    exact run_fits (p := p) (L := L) (i := i) (j := i + j) (by omega) (by omega)) (.inl (by omega))
  rw [this, Nat.zero_add]
theorem get_of_cl {L : List UInt8} {i : Nat} {c : Int} (h : i < L.length) (hc : clAt L i = c) : ∃ b : UInt8, L[i]? = some b ∧ cls (b.toNat : Int) = c :=
  ⟨L[i], List.getElem?_eq_getElem h, by rw [← hc, clAt_lt h]⟩
theorem cut_one {L : List UInt8} {i : Nat} {b : UInt8} (h : L[i]? = some b) : cut L i (i + 1) = [b] := by
  obtain ⟨hi, rfl⟩ := List.getElem?_eq_some_iff.1 h
  unfold cut; rw [List.drop_eq_getElem_cons hi, Nat.add_sub_cancel_left]; rfl
theorem cut_two {L : List UInt8} {i : Nat} {a b : UInt8} (h : L[i]? = some a) (h2 : L[i + 1]? = some b) : cut L i (i + 2) = [a, b] := by
  obtain ⟨hi, rfl⟩ := List.getElem?_eq_some_iff.1 h
  obtain ⟨hi2, rfl⟩ := List.getElem?_eq_some_iff.1 h2
  unfold cut; rw [List.drop_eq_getElem_cons hi, List.drop_eq_getElem_cons hi2, Nat.add_sub_cancel_left]; rfl
theorem sign_cut {L : List UInt8} {i : Nat} (h : i < L.length) (hc : clAt L i = 7) : signOk (cut L i (i + signLen L i)) := by
  obtain ⟨b, hb, hcb⟩ := get_of_cl h hc
  by_cases hs : L[i + 1]? = some 61 ∧ (L[i]? = some 61 ∨ L[i]? = some 33)
  · have e : signLen L i = 2 := by unfold signLen; rw [if_pos hs]
    rw [e]
    rcases hs.2 with h' | h'
    · exact .inr (.inl (cut_two h' hs.1))
    · exact .inr (.inr (cut_two h' hs.1))
  · have e : signLen L i = 1 := by unfold signLen; rw [if_neg hs]
    rw [e]
    exact .inl ⟨b, cut_one hb, hcb⟩
theorem cut_nil (L : List UInt8) (i : Nat) : cut L i i = [] := by unfold cut; simp
theorem ys_wf : ∀ (n : Nat) {L : List UInt8} {i : Nat} {u : Bool}, L.length - i = n → i ≤ L.length → (ys L i u).all (fun x => x.2 == 0) = true → wf u ((ys L i u).map fun x => sho L x.1) := by
  intro n
  induction n using Nat.strongRecOn with
  | _ n ih =>
    intro L i u hn hi ha
    by_cases h : i < L.length
    · have hr := clAt_range L i
      have : clAt L i = 0 ∨ clAt L i = 1 ∨ clAt L i = 2 ∨ clAt L i = 3 ∨ clAt L i = 4 ∨ clAt L i = 5 ∨ clAt L i = 6 ∨ clAt L i = 7 := by omega
      rcases this with hc | hc | hc | hc | hc | hc | hc | hc
      · rw [ys_stray h (.inl hc)] at ha; simp at ha
      · rw [ys_blank h hc] at ha ⊢; exact ih _ (by omega) rfl (by omega) ha
      · rw [ys_newline h hc] at ha ⊢
        cases u
        · exact ih _ (by omega) rfl (by omega) ha
        · refine .inl ⟨rfl, rfl, cut_nil _ _, ?_⟩
          exact ih (L.length - (i + 1)) (by omega) rfl (by omega) (by simpa using ha)
      · have hg := run_gt (p := inC) h (by rw [hc]; rfl)
        have hle := run_le inC L i hi
        rw [ys_hash h hc] at ha ⊢; exact ih _ (by omega) rfl hle ha
      · have hg := run_gt (p := inW) h (by rw [hc]; rfl)
        have hle := run_le inW L i hi
        have hl := cut_len (i := i) hle
        rw [ys_word h hc] at ha ⊢
        split at ha
        · simp at ha
        · rename_i h16
          rw [if_neg h16]
          refine .inr ⟨by simp, .inl ⟨rfl, cut_run hi, ?_, by simp only; omega⟩, ?_⟩
          · simp only; rw [cut_clAt (by omega)]; exact hc
          · exact ih (L.length - run inW L i) (by omega) rfl hle (by simpa using ha)
      · have hg := run_gt (p := inN) h (by rw [hc]; rfl)
        have hle := run_le inN L i hi
        rw [ys_num h hc] at ha ⊢
        split at ha
        · rename_i hN
          rw [if_pos hN]
          refine .inr ⟨by simp, .inr (.inl ⟨rfl, cut_run hi, ?_, hN⟩), ?_⟩
          · simp only; rw [cut_clAt (by omega)]; exact hc
          · exact ih (L.length - run inN L i) (by omega) rfl hle (by simpa using ha)
        · simp at ha
      · rw [ys_stray h (.inr hc)] at ha; simp at ha
      · have hg := signLen_pos L i
        have hle := signLen_le h
        rw [ys_sign h hc] at ha ⊢
        refine .inr ⟨by simp, .inr (.inr ⟨rfl, sign_cut h hc⟩), ?_⟩
        exact ih (L.length - (i + signLen L i)) (by omega) rfl hle (by simpa using ha)
    · rw [ys_end (by omega)]
      cases u
      · rfl
      · exact .inl ⟨rfl, rfl, cut_nil _ _, rfl⟩

/-- What Type writes, behind a token of the line or not. -/
def tyL : Bool → List (Nat × List UInt8) → List UInt8
  | _, [] => []
  | u, (k, T) :: r => if k = 4 then 10 :: tyL false r else (if u then [32] else []) ++ (T ++ tyL true r)
theorem tyL_sep : ∀ {ts : List (Nat × List UInt8)}, wf true ts → sep (tyL true ts)
  | [], h => by simp [wf] at h
  | (k, T) :: r, h => by
    rcases h with ⟨rfl, -⟩ | ⟨h4, -⟩
    · right; simp [tyL]
    · left; simp [tyL, h4]
theorem ty_reads : ∀ (ts : List (Nat × List UInt8)) (u : Bool), wf u ts → Reads (tyL u ts) u ts
  | [], u, h => by
    have hu : u = false := h
    subst hu; exact Reads.nil
  | (k, T) :: r, u, h => by
    rcases h with ⟨rfl, rfl, rfl, hr⟩ | ⟨h4, hT, hr⟩
    · simpa [tyL] using (ty_reads r false hr).nl_end
    · have hq : Reads (T ++ tyL true r) u ((k, T) :: r) := (ty_reads r true hr).tok hT (tyL_sep hr)
      cases u
      · simpa [tyL, h4] using hq
      · simpa [tyL, h4] using hq.blank (b := 32) rfl

/-- The tokens with blanks, remarks and lines put in: c says where blanks stand behind a token, X is the remark. -/
def blL (X : List UInt8) (c : Nat → Bool) : Nat → List (Nat × List UInt8) → List UInt8
  | _, [] => []
  | j, (k, T) :: r => T ++ 32 :: ((if k = 4 then 9 :: 35 :: (X ++ [10, 10]) else []) ++ ((if c j then [9, 32] else []) ++ blL X c (j + 1) r))
theorem bl_reads {X : List UInt8} (hX : ∀ b ∈ X, b ≠ 10) (c : Nat → Bool) : ∀ (ts : List (Nat × List UInt8)) (j : Nat) (u : Bool), wf u ts → Reads (blL X c j ts) u ts
  | [], j, u, h => by
    have hu : u = false := h
    subst hu; exact Reads.nil
  | (k, T) :: r, j, u, h => by
    have hb : ∀ {v : Bool}, Reads (blL X c (j + 1) r) v r → Reads ((if c j then [9, 32] else []) ++ blL X c (j + 1) r) v r := by
      intro v hv
      split
      · exact (hv.blank (b := 32) rfl).blank (b := 9) rfl
      · exact hv
    rcases h with ⟨rfl, rfl, rfl, hr⟩ | ⟨h4, hT, hr⟩
    · have h1 := hb (bl_reads hX c r (j + 1) false hr)
      have h2 := ((h1.nl.nl_end.hash hX).blank (b := 9) rfl).blank (b := 32) rfl
      simpa [blL] using h2
    · have h1 := hb (bl_reads hX c r (j + 1) true hr)
      have h2 := (h1.blank (b := 32) rfl).tok (u := u) hT (.inl rfl)
      simpa [blL, h4] using h2

/-- Reads a text of blanks, remarks and newlines: whether it ends in a remark, or none. -/
def emS : Bool → List UInt8 → Option Bool
  | r, [] => some r
  | r, b :: l => if b = 10 then emS false l else if b = 35 then emS true l else if r = false ∧ b ≠ 32 ∧ b ≠ 9 then none else emS r l
theorem emS_append : ∀ (a b : List UInt8) (r : Bool), emS r (a ++ b) = (emS r a).bind fun q => emS q b
  | [], b, r => rfl
  | x :: a, b, r => by
    simp only [List.cons_append, emS]
    split
    · exact emS_append a b false
    · split
      · exact emS_append a b true
      · split
        · rfl
        · exact emS_append a b r
theorem emS_remark : ∀ (a : List UInt8), (∀ b ∈ a, b ≠ 10) → emS true a = some true
  | [], _ => rfl
  | x :: a, h => by
    simp only [emS, if_neg (h x (by simp))]
    split
    · exact emS_remark a fun b hb => h b (by simp [hb])
    · rw [if_neg (by simp)]; exact emS_remark a fun b hb => h b (by simp [hb])
theorem cut_cat {L : List UInt8} {a b c : Nat} (h1 : a ≤ b) (h2 : b ≤ c) : cut L a c = cut L a b ++ cut L b c := by
  unfold cut
  rw [show c - a = (b - a) + (c - b) by omega, List.take_add, List.drop_drop, show a + (b - a) = b by omega]
/-- Each token stands in the text behind the one before, and between them nothing that counts. -/
def chain (L : List UInt8) : Nat → List Tk → Prop
  | a, [] => a ≤ L.length ∧ (emS false (L.drop a)).isSome = true
  | a, t :: r => a ≤ t.lo ∧ t.lo ≤ t.hi ∧ t.hi ≤ L.length ∧ (emS false (cut L a t.lo)).isSome = true ∧ (t.lo = t.hi ↔ t.kind = 4) ∧ chain L t.hi r
theorem cls_one (b : UInt8) (h : cls (b.toNat : Int) = 1) : b = 32 ∨ b = 9 := by
  unfold cls at h
  repeat' split at h
  all_goals first
    | omega
    | (rename_i h'; rcases h' with h' | h'
       · exact .inl (UInt8.toNat_inj.1 (by show b.toNat = 32; omega))
       · exact .inr (UInt8.toNat_inj.1 (by show b.toNat = 9; omega)))
theorem cls_three (b : UInt8) (h : cls (b.toNat : Int) = 3) : b = 35 := by
  unfold cls at h
  repeat' split at h
  all_goals first
    | omega
    | exact UInt8.toNat_inj.1 (by show b.toNat = 35; omega)
theorem ys_chain : ∀ (n : Nat) {L : List UInt8} {i : Nat} {u : Bool} {a : Nat}, L.length - i = n → a ≤ i → i ≤ L.length → (∃ r, emS false (cut L a i) = some r ∧ (r = false ∨ clAt L i = 2)) →
    (ys L i u).all (fun x => x.2 == 0) = true → chain L a ((ys L i u).map (·.1)) := by
  intro n
  induction n using Nat.strongRecOn with
  | _ n ih =>
    intro L i u a hn hai hi hem ha
    obtain ⟨r, he, hr0⟩ := hem
    by_cases h : i < L.length
    · have hr := clAt_range L i
      have self : ∀ j, ∃ r, emS false (cut L j j) = some r ∧ (r = false ∨ clAt L j = 2) := fun j => ⟨false, by rw [cut_nil]; rfl, .inl rfl⟩
      have : clAt L i = 0 ∨ clAt L i = 1 ∨ clAt L i = 2 ∨ clAt L i = 3 ∨ clAt L i = 4 ∨ clAt L i = 5 ∨ clAt L i = 6 ∨ clAt L i = 7 := by omega
      rcases this with hc | hc | hc | hc | hc | hc | hc | hc
      · rw [ys_stray h (.inl hc)] at ha; simp at ha
      · obtain ⟨b, hb, hcb⟩ := get_of_cl h hc
        have hrf : r = false := by rcases hr0 with h' | h'; exact h'; omega
        subst hrf
        rw [ys_blank h hc] at ha ⊢
        refine ih _ (by omega) rfl (by omega) (by omega) ⟨false, ?_, .inl rfl⟩ ha
        rw [cut_cat hai (Nat.le_succ i), emS_append, he, cut_one hb]
        rcases cls_one b hcb with rfl | rfl <;> rfl
      · obtain ⟨b, hb, hcb⟩ := get_of_cl h hc
        obtain rfl := (cls_two b).1 hcb
        rw [ys_newline h hc] at ha ⊢
        cases u
        · refine ih _ (by omega) rfl (by omega) (by omega) ⟨false, ?_, .inl rfl⟩ ha
          rw [cut_cat hai (Nat.le_succ i), emS_append, he, cut_one hb]; rfl
        · refine ⟨hai, Nat.le_refl _, hi, ?_, ⟨fun _ => rfl, fun _ => rfl⟩, ?_⟩
          · simp only; rw [he]; rfl
          · refine ih (L.length - (i + 1)) (by omega) rfl (Nat.le_succ i) (by omega) ⟨false, ?_, .inl rfl⟩ (by simpa using ha)
            rw [cut_one hb]; rfl
      · have hg := run_gt (p := inC) h (by rw [hc]; rfl)
        have hle := run_le inC L i hi
        obtain ⟨b, hb, hcb⟩ := get_of_cl h hc
        obtain rfl := cls_three b hcb
        have hrf : r = false := by rcases hr0 with h' | h'; exact h'; omega
        subst hrf
        rw [ys_hash h hc] at ha ⊢
        have hno : ∀ b ∈ cut L (i + 1) (run inC L i), b ≠ 10 := by
          intro b hbm hb10
          obtain ⟨j, hj, hjb⟩ := List.mem_iff_getElem.1 hbm
          rw [cut_len hle] at hj
          have hj2 : (cut L (i + 1) (run inC L i))[j]? = some b := by rw [List.getElem?_eq_getElem (by rw [cut_len hle]; exact hj), hjb]
          rw [cut_get hj] at hj2
          have hf := run_fits (p := inC) (L := L) (i := i) (j := i + 1 + j) (by omega) (by omega)
          rw [clAt_get?, hj2, hb10] at hf
          exact absurd hf (by decide)
        refine ih _ (by omega) rfl (by omega) hle ⟨true, ?_, .inr ?_⟩ ha
        · rw [cut_cat hai (by omega : i ≤ run inC L i), emS_append, he, cut_cat (Nat.le_succ i) hg, cut_one hb]
          show emS true (cut L (i + 1) (run inC L i)) = some true
          exact emS_remark _ hno
        · rcases run_ends (p := inC) hi with e | ⟨_, e⟩
          · rw [e, clAt_ge (Nat.le_refl _)]
          · simpa [inC] using e
      · have hg := run_gt (p := inW) h (by rw [hc]; rfl)
        have hle := run_le inW L i hi
        rw [ys_word h hc] at ha ⊢
        split at ha
        · simp at ha
        · rename_i h16
          rw [if_neg h16]
          refine ⟨hai, by simp only; omega, hle, by simp only; rw [he]; rfl, ⟨fun e => by simp only at e; omega, fun e => by simp at e⟩, ?_⟩
          exact ih (L.length - run inW L i) (by omega) rfl (Nat.le_refl _) hle (self _) (by simpa using ha)
      · have hg := run_gt (p := inN) h (by rw [hc]; rfl)
        have hle := run_le inN L i hi
        rw [ys_num h hc] at ha ⊢
        split at ha
        · rename_i hN
          rw [if_pos hN]
          refine ⟨hai, by simp only; omega, hle, by simp only; rw [he]; rfl, ⟨fun e => by simp only at e; omega, fun e => by simp at e⟩, ?_⟩
          exact ih (L.length - run inN L i) (by omega) rfl (Nat.le_refl _) hle (self _) (by simpa using ha)
        · simp at ha
      · rw [ys_stray h (.inr hc)] at ha; simp at ha
      · have hg := signLen_pos L i
        have hle := signLen_le h
        rw [ys_sign h hc] at ha ⊢
        refine ⟨hai, by simp only; omega, hle, by simp only; rw [he]; rfl, ⟨fun e => by simp only at e; omega, fun e => by simp at e⟩, ?_⟩
        exact ih (L.length - (i + signLen L i)) (by omega) rfl (Nat.le_refl _) hle (self _) (by simpa using ha)
    · obtain rfl : i = L.length := by omega
      rw [ys_end (Nat.le_refl _)]
      cases u
      · refine ⟨hai, ?_⟩
        have e : cut L a L.length = L.drop a := by unfold cut; rw [← List.length_drop, List.take_length]
        rw [← e, he]; rfl
      · refine ⟨hai, Nat.le_refl _, Nat.le_refl _, by simp only; rw [he]; rfl, ⟨fun _ => rfl, fun _ => rfl⟩, Nat.le_refl _, ?_⟩
        rw [List.drop_length]; rfl
/-- What Lex answers where a text reads as ts. -/
theorem Reads.out {L : List UInt8} {ts : List (Nat × List UInt8)} (h : Reads L false ts) (hL : L.length ≤ 16384) : (LX.out L).2 = (0, 0) ∧ (LX.out L).1.map (sho L) = ts := by
  obtain ⟨l, h1, h2⟩ := h
  have hf : (l.map fun t => (t, 0)).find? (fun x : Tk × Nat => x.2 != 0) = none := by rw [find_none, List.all_eq_true]; simp
  unfold LX.out
  rw [if_neg (by omega), h1, hf]
  refine ⟨rfl, ?_⟩
  simp only [List.map_map]
  exact h2
/-- A valid text: its tokens make lines, and stand in it. -/
theorem out_good {L : List UInt8} (h : (out L).2.2 = 0) : wf false ((out L).1.map (sho L)) ∧ chain L 0 (out L).1 ∧ L.length ≤ 16384 := by
  unfold out at h ⊢
  split at h
  · simp at h
  rename_i hl
  rw [if_neg hl]
  cases hf : (ys L 0 false).find? (fun x => x.2 != 0) with
  | some x =>
    have hx := List.find?_some hf
    rw [hf] at h
    simp at h hx; exact absurd h hx
  | none =>
    have ha := find_none.1 hf
    refine ⟨?_, ?_, by omega⟩
    · simp only [List.map_map]; exact ys_wf _ rfl (Nat.zero_le _) ha
    · exact ys_chain _ rfl (Nat.le_refl _) (Nat.zero_le _) ⟨false, by rw [cut_nil]; rfl, .inl rfl⟩ ha
end LX
end Go.Proofs.Ytglbmiadgdadfaa
