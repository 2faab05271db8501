/- ParInv, ParProg, ParProg2, ParRead in one text, for the claim. -/
import Derived.Test.YtglbmiadgdadfaaPd5
import Derived.Test.YtglbmiadgdadfaaPd7
import Derived.Defers
import Derived.Recover

section
/- What a program's lines keep: pure. -/
namespace Go.Proofs.Ytglbmiadgdadfaa
open Go Go.RowKit
namespace PX
/-- What holds of a program that is being read. -/
structure Inv (s : S) : Prop where
  opn : s.opn = true
  l6 : s.locs.length ≤ 6
  done : 0 ≤ s.done ∧ s.done ≤ 4
  t4 : s.threads.length ≤ 4
  i12 : ∀ k ∈ s.threads, k.length ≤ 12
  some_ : 3 ≤ s.done → s.threads ≠ []
theorem inv_stb (s0 : S) : Stb fun s => Inv s ∧ s.done = s0.done :=
  ⟨fun s h => ⟨⟨h.1.opn, h.1.l6, h.1.done, h.1.t4, h.1.i12, h.1.some_⟩, h.2⟩, fun s h _ _ _ h6 _ => ⟨⟨h.1.opn, by show (s.locs ++ [_]).length ≤ 6; have := h.1.l6; simp; omega, h.1.done, h.1.t4, h.1.i12, h.1.some_⟩, h.2⟩⟩
theorem Post.ite {α : Type} {Q : α → S → Prop} {c : Prop} [Decidable c] {a b : R α} (h : Post Q a) (k : Post Q b) : Post Q (if c then a else b) := by
  by_cases hc : c
  · rw [if_pos hc]; exact h
  · rw [if_neg hc]; exact k
theorem post_wrong {α : Type} {Q : α → S → Prop} (s : S) : Post Q (wrong s : R α) := .bad
section
variable {s : S} (h : Inv s)
include h
theorem inv_titleLine (hd : s.done = 0) : Post (fun _ s' => Inv s' ∧ s'.done = 1) (titleLine s) := by
  have st := inv_stb s
  unfold titleLine
  refine (keep_take st _ s ⟨h, rfl⟩).bind fun _ s1 h1 => (keep_takeWord st s1 h1).bind fun t s2 h2 => ?_
  have h3 : Inv { s2 with name := t.x } ∧ ({ s2 with name := t.x } : S).done = s.done := ⟨⟨h2.1.opn, h2.1.l6, h2.1.done, h2.1.t4, h2.1.i12, h2.1.some_⟩, h2.2⟩
  exact (keep_take st _ _ h3).bind fun _ s4 h4 => .ok ⟨⟨h4.1.opn, h4.1.l6, ⟨by show (0 : Int) ≤ 1; omega, by show (1 : Int) ≤ 4; omega⟩, h4.1.t4, h4.1.i12, fun hh => by have : (3 : Int) ≤ 1 := hh; omega⟩, rfl⟩
theorem inv_value : Post (fun _ s' => Inv s' ∧ s'.done = s.done) (value s) := by
  have st := inv_stb s
  unfold value
  refine (keep_loc st s ⟨h, rfl⟩).bind fun l s1 h1 => ?_
  split
  · exact .bad
  · exact (keep_take st _ s1 h1).bind fun _ s2 h2 => (keep_num st s2 h2).bind fun v s3 h3 => .ok ⟨⟨h3.1.opn, h3.1.l6, h3.1.done, h3.1.t4, h3.1.i12, h3.1.some_⟩, h3.2⟩
end
theorem inv_values : ∀ (n : Nat) (s : S), Inv s → Post (fun _ s' => Inv s' ∧ s'.done = s.done) (values n s)
  | 0, s, h => .ok ⟨h, rfl⟩
  | n + 1, s, h => by
    unfold values
    refine (keep_takes (inv_stb s) _ s ⟨h, rfl⟩).bind fun b s1 h1 => ?_
    split
    · exact .ok h1
    · refine (inv_value h1.1).bind fun _ s2 h2 => (inv_values n s2 h2.1).mono fun _ s3 h3 => ⟨h3.1, by rw [h3.2, h2.2, h1.2]⟩
section
variable {s : S} (h : Inv s)
include h
theorem inv_initLine : Post (fun _ s' => Inv s') (initLine s) := by
  unfold initLine
  refine (keep_take (inv_stb s) _ s ⟨h, rfl⟩).bind fun _ s1 h1 => (inv_value h1.1).bind fun _ s2 h2 => (inv_values _ s2 h2.1).bind fun _ s3 h3 => .ok ?_
  exact ⟨h3.1.opn, h3.1.l6, ⟨by show (0 : Int) ≤ 2; omega, by show (2 : Int) ≤ 4; omega⟩, h3.1.t4, h3.1.i12, fun hh => by have : (3 : Int) ≤ 2 := hh; omega⟩
theorem inv_threadLine : Post (fun _ s' => Inv s') (threadLine s) := by
  unfold threadLine
  refine (keep_take (inv_stb s) _ s ⟨h, rfl⟩).bind fun t s1 h1 => ?_
  split
  · exact .bad
  · rename_i hn
    refine (Post.and (keep_take (inv_stb s) _ s1 h1) (keep_take (lv_stb s1) _ s1 (Lv.refl s1))).bind fun _ s2 h2 => .ok ?_
    obtain ⟨⟨h2, _⟩, h3⟩ := h2
    refine ⟨h2.opn, h2.l6, ⟨by show (0 : Int) ≤ 3; omega, by show (3 : Int) ≤ 4; omega⟩, ?_, fun k hk => ?_, fun _ => by simp⟩
    · show (s2.threads ++ [[]]).length ≤ 4
      rw [h3.2.2.1]
      have := h1.1.t4
      simp; omega
    · rcases List.mem_append.1 hk with hk | hk
      · exact h2.i12 k hk
      · rw [List.mem_singleton.1 hk]; exact Nat.zero_le _
theorem inv_insLine (h3 : 3 ≤ s.done) : Post (fun _ s' => Inv s') (insLine s) := by
  unfold insLine
  split
  · exact .bad
  · rename_i hn
    refine (Post.and (keep_ins (inv_stb s) s ⟨h, rfl⟩) (keep_ins (lv_stb s) s (Lv.refl s))).bind fun x s1 h1 => ?_
    obtain ⟨⟨h1, _⟩, hl⟩ := h1
    obtain ⟨li, k, hth⟩ : ∃ li k, s.threads = li ++ [k] := ⟨_, _, (List.dropLast_concat_getLast (h.some_ h3)).symm⟩
    have hth1 : s1.threads = li ++ [k] := by rw [hl.2.2.1]; exact hth
    have hk : k.length ≠ 12 := by rw [hth] at hn; simpa using hn
    have h2 : Inv { s1 with threads := s1.threads.dropLast ++ [s1.threads.getLastD [] ++ [x]] } ∧ ({ s1 with threads := s1.threads.dropLast ++ [s1.threads.getLastD [] ++ [x]] } : S).done = s1.done := by
      refine ⟨⟨h1.opn, h1.l6, h1.done, ?_, fun m hm => ?_, fun _ => by simp⟩, rfl⟩
      · show (s1.threads.dropLast ++ [_]).length ≤ 4
        have := h1.t4
        rw [hth1] at this ⊢
        simp at this ⊢; omega
      · have hm' : m ∈ s1.threads.dropLast ++ [s1.threads.getLastD [] ++ [x]] := hm
        rw [hth1] at hm'
        simp at hm'
        rcases hm' with hm' | rfl
        · exact h1.i12 m (by rw [hth1]; simp [hm'])
        · have := h1.i12 k (by rw [hth1]; simp)
          simp; omega
    exact (keep_take (inv_stb s1) _ _ h2).bind fun _ s4 h4 => .ok h4.1
theorem inv_queryLine (h3 : 3 ≤ s.done) : Post (fun _ s' => Inv s') (queryLine s) := by
  unfold queryLine
  refine (keep_take (inv_stb s) _ s ⟨h, rfl⟩).bind fun t s1 h1 => ?_
  have h2 : Inv { s1 with ask := if askOf t.x = 0 then s1.ask else askOf t.x } ∧ ({ s1 with ask := if askOf t.x = 0 then s1.ask else askOf t.x } : S).done = s.done := ⟨⟨h1.1.opn, h1.1.l6, h1.1.done, h1.1.t4, h1.1.i12, h1.1.some_⟩, h1.2⟩
  refine (keep_lastCond (inv_stb s) _ _ h2).bind fun c s3 h4 => .ok ?_
  exact ⟨h4.1.opn, h4.1.l6, ⟨by show (0 : Int) ≤ 4; omega, by show (4 : Int) ≤ 4; omega⟩, h4.1.t4, h4.1.i12, fun _ => h4.1.some_ (by rw [h4.2]; exact h3)⟩
theorem inv_line : Post (fun _ s' => Inv s') (line s) := by
  rw [line_eq]
  generalize PX.sy (PX.next s) = y
  unfold lineB
  by_cases h0 : s.done = 0
  · rw [if_pos h0]
    exact .ite ((inv_titleLine h h0).mono fun _ _ x => x.1) (post_wrong s)
  rw [if_neg h0]
  by_cases h1 : s.done = 1
  · rw [if_pos h1]
    exact .ite (inv_initLine h) (.ite (inv_threadLine h) (post_wrong s))
  rw [if_neg h1]
  by_cases h2 : s.done = 2
  · rw [if_pos h2]
    exact .ite (inv_threadLine h) (post_wrong s)
  rw [if_neg h2]
  have h3 : 3 ≤ s.done := by have := h.done; omega
  exact .ite (inv_threadLine h) (.ite (inv_insLine h h3) (.ite (inv_insLine h h3) (.ite (inv_insLine h h3) (.ite (inv_insLine h h3) (.ite (inv_queryLine h h3) (.ite (inv_queryLine h h3) (.ite (inv_queryLine h h3) (post_wrong s))))))))
end
theorem inv_start (x : ByteArray) : Inv (start x [] true) :=
  ⟨rfl, Nat.zero_le _, ⟨Int.le_refl _, by show (0 : Int) ≤ 4; omega⟩, Nat.zero_le _, fun k hk => (by cases hk), fun hh => by have : (3 : Int) ≤ 0 := hh; omega⟩
end PX
end Go.Proofs.Ytglbmiadgdadfaa
end

section
/- The parser's program: its lines, one after another. -/
namespace Go.Proofs.Ytglbmiadgdadfaa
open Go.RowKit Go.Shelf

attribute [local go_sem] Oper.semAt_some
namespace PX
theorem lt_bind {α β : Type} {r : R α} {f : α → S → R β} {s : S} (h : Post (fun _ s1 => s1.rest.length < s.rest.length) r) (hf : ∀ a s1, Post (fun _ s2 => s2.rest.length ≤ s1.rest.length) (f a s1)) : Post (fun _ s2 => s2.rest.length < s.rest.length) (r.bind f) :=
  h.bind fun a s1 h1 => (hf a s1).mono fun _ _ h2 => by omega
theorem le_bind {α β : Type} {r : R α} {f : α → S → R β} {s : S} (h : Post (fun _ s1 => s1.rest.length ≤ s.rest.length) r) (hf : ∀ a s1, Post (fun _ s2 => s2.rest.length ≤ s1.rest.length) (f a s1)) : Post (fun _ s2 => s2.rest.length ≤ s.rest.length) (r.bind f) :=
  h.bind fun a s1 h1 => (hf a s1).mono fun _ _ h2 => by omega
theorem take_le (l : List ByteArray) (s : S) : Post (fun _ s' => s'.rest.length ≤ s.rest.length) (take l s) := keep_take (len_stb s.rest.length) l s (Nat.le_refl _)
theorem take_lt' {l : List ByteArray} (hl : PP.SymsOk l) (s : S) : Post (fun _ s' => s'.rest.length < s.rest.length) (take l s) := fun _ _ e => PP.take_lt hl e
theorem value_le (s : S) : Post (fun _ s' => s'.rest.length ≤ s.rest.length) (value s) := fun _ _ e => Nat.le_of_lt (PP.value_lt e)
theorem values_le : ∀ (n : Nat) (s : S), Post (fun _ s' => s'.rest.length ≤ s.rest.length) (values n s)
  | 0, s => .ok (Nat.le_refl _)
  | n + 1, s => by
    unfold values
    refine le_bind (keep_takes (len_stb s.rest.length) _ s (Nat.le_refl _)) fun b s1 => ?_
    split
    · exact .ok (Nat.le_refl _)
    · exact le_bind (value_le s1) fun _ s2 => values_le n s2
theorem ins_lt (s : S) : Post (fun _ s' => s'.rest.length < s.rest.length) (ins s) := by
  have T : ∀ l (s : S), Post (fun _ s' => s'.rest.length ≤ s.rest.length) (take l s) := take_le
  have A : ∀ (s : S), Post (fun _ s' => s'.rest.length ≤ s.rest.length) (arg s) := fun s => keep_arg (len_stb s.rest.length) s (Nat.le_refl _)
  have B : ∀ x (s : S), Post (fun _ s' => s'.rest.length ≤ s.rest.length) (takes x s) := fun x s => keep_takes (len_stb s.rest.length) x s (Nat.le_refl _)
  unfold ins
  simp only
  refine .ite ?_ (.ite ?_ (.ite ?_ (.ite ?_ .bad)))
  · exact lt_bind (fun _ _ e => PP.loc_lt e) fun _ s1 => le_bind (T _ s1) fun _ s2 => le_bind (A s2) fun _ s3 => le_bind (B _ s3) fun _ s4 => .ok (Nat.le_refl _)
  · exact lt_bind (fun _ _ e => PP.reg_lt e) fun _ s1 => le_bind (T _ s1) fun _ s2 => le_bind (keep_source (len_stb s2.rest.length) s2 (Nat.le_refl _)) fun _ s3 => .ok (Nat.le_refl _)
  · exact lt_bind (take_lt' (PP.symsOk_bs (by decide)) s) fun _ s1 => le_bind (B _ s1) fun b s2 => .ite (.ok (Nat.le_refl _)) (le_bind (B _ s2) fun _ s3 => .ok (Nat.le_refl _))
  · exact lt_bind (take_lt' (PP.symsOk_bs (by decide)) s) fun _ s1 => le_bind (keep_num (len_stb s1.rest.length) s1 (Nat.le_refl _)) fun _ s2 => le_bind (T _ s2) fun _ s3 => le_bind (keep_operation (len_stb s3.rest.length) _ s3 (Nat.le_refl _)) fun _ s4 => .ok (Nat.le_refl _)
theorem line_lt (s : S) : Post (fun _ s' => s'.rest.length < s.rest.length) (line s) := by
  have T : ∀ l (s : S), Post (fun _ s' => s'.rest.length ≤ s.rest.length) (take l s) := take_le
  have ht : Post (fun _ s' => s'.rest.length < s.rest.length) (titleLine s) := lt_bind (take_lt' (PP.symsOk_bs (by decide)) s) fun _ s1 => le_bind (keep_takeWord (len_stb s1.rest.length) s1 (Nat.le_refl _)) fun t s2 => le_bind (s := s2) (T [sEND] { s2 with name := t.x }) fun _ s3 => .ok (Nat.le_refl _)
  have hi : Post (fun _ s' => s'.rest.length < s.rest.length) (initLine s) := lt_bind (take_lt' (PP.symsOk_bs (by decide)) s) fun _ s1 => le_bind (value_le s1) fun _ s2 => le_bind (values_le _ s2) fun _ s3 => .ok (Nat.le_refl _)
  have hh : Post (fun _ s' => s'.rest.length < s.rest.length) (threadLine s) := lt_bind (take_lt' (PP.symsOk_bs (by decide)) s) fun _ s1 => .ite .bad (le_bind (T _ s1) fun _ s3 => .ok (Nat.le_refl _))
  have hn : Post (fun _ s' => s'.rest.length < s.rest.length) (insLine s) := .ite .bad (lt_bind (ins_lt s) fun x s1 => le_bind (s := s1) (T [sEND] { s1 with threads := s1.threads.dropLast ++ [s1.threads.getLastD [] ++ [x]] }) fun _ s3 => .ok (Nat.le_refl _))
  have hq : Post (fun _ s' => s'.rest.length < s.rest.length) (queryLine s) := lt_bind (take_lt' (PP.symsOk_three (x := [115, 111, 109, 101]) (y := [110, 111, 110, 101]) (z := [97, 108, 108]) (by decide) (by decide) (by decide)) s) fun t s1 => le_bind (s := s1) (keep_lastCond (len_stb s1.rest.length) t.p { s1 with ask := if askOf t.x = 0 then s1.ask else askOf t.x } (Nat.le_refl _)) fun _ s3 => .ok (Nat.le_refl _)
  rw [line_eq]
  generalize PX.sy (PX.next s) = y
  generalize s.done = d
  unfold lineB
  exact .ite (.ite ht .bad) (.ite (.ite hi (.ite hh .bad)) (.ite (.ite hh .bad) (.ite hh (.ite hn (.ite hn (.ite hn (.ite hn (.ite hq (.ite hq (.ite hq .bad))))))))))
end PX
namespace PP
theorem line_some {b : Nat} {s : PX.S} {h : Hd} {W : World} (L : LT W b s h) (I : PX.Inv s) (hlen : s.rest.length < 100000) (hd : s.done ≠ 4) {f : Nat} (hf : lookE (PX.sy (PX.next s)) (tabL s.done) = some f) :
    Calls Try.prog f #[.pointer (some ⟨b, 0, none⟩)] W (EndsP W b h (PX.line s)) := by
  rw [PX.line_eq]
  have hq := I.done
  unfold PX.lineB
  generalize PX.sy (PX.next s) = y at *
  by_cases h0 : s.done = 0
  · rw [if_pos h0]
    rw [h0] at hf
    change lookE y [(PX.kTest, 34)] = some f at hf
    simp only [lookE] at hf
    by_cases h1 : (y == PX.kTest) = true
    · rw [if_pos h1]; rw [if_pos h1] at hf; cases hf; exact titleLine_any b s h W L
    rw [if_neg h1] at hf; cases hf
  rw [if_neg h0]
  by_cases h1 : s.done = 1
  · rw [if_pos h1]
    rw [h1] at hf
    change lookE y [(PX.kInit, 35), (PX.kThread, 36)] = some f at hf
    simp only [lookE] at hf
    by_cases h2 : (y == PX.kInit) = true
    · rw [if_pos h2]; rw [if_pos h2] at hf; cases hf; exact initLine_any b s h W L
    rw [if_neg h2]; rw [if_neg h2] at hf
    by_cases h3 : (y == PX.kThread) = true
    · rw [if_pos h3]; rw [if_pos h3] at hf; cases hf; exact threadLine_any b s h W L I.t4
    rw [if_neg h3] at hf; cases hf
  rw [if_neg h1]
  by_cases h2 : s.done = 2
  · rw [if_pos h2]
    rw [h2] at hf
    change lookE y [(PX.kThread, 36)] = some f at hf
    simp only [lookE] at hf
    by_cases h3 : (y == PX.kThread) = true
    · rw [if_pos h3]; rw [if_pos h3] at hf; cases hf; exact threadLine_any b s h W L I.t4
    rw [if_neg h3] at hf; cases hf
  rw [if_neg h2]
  have h3 : s.done = 3 := by omega
  rw [h3] at hf
  change lookE y [(PX.kThread, 36), (PX.kFence, 37), (PX.kSkip, 37), (PX.sNAME, 37), (PX.sREG, 37), (PX.kSome, 38), (PX.kNone, 38), (PX.kAll, 38)] = some f at hf
  simp only [lookE] at hf
  have hI := insLine_any b s h W L (I.some_ (by omega)) I.t4 I.i12
  have hQ := queryLine_any b s h W L hlen
  by_cases k1 : (y == PX.kThread) = true
  · rw [if_pos k1]; rw [if_pos k1] at hf; cases hf; exact threadLine_any b s h W L I.t4
  rw [if_neg k1]; rw [if_neg k1] at hf
  by_cases k2 : (y == PX.kFence) = true
  · rw [if_pos k2]; rw [if_pos k2] at hf; cases hf; exact hI
  rw [if_neg k2]; rw [if_neg k2] at hf
  by_cases k3 : (y == PX.kSkip) = true
  · rw [if_pos k3]; rw [if_pos k3] at hf; cases hf; exact hI
  rw [if_neg k3]; rw [if_neg k3] at hf
  by_cases k4 : (y == PX.sNAME) = true
  · rw [if_pos k4]; rw [if_pos k4] at hf; cases hf; exact hI
  rw [if_neg k4]; rw [if_neg k4] at hf
  by_cases k5 : (y == PX.sREG) = true
  · rw [if_pos k5]; rw [if_pos k5] at hf; cases hf; exact hI
  rw [if_neg k5]; rw [if_neg k5] at hf
  by_cases k6 : (y == PX.kSome) = true
  · rw [if_pos k6]; rw [if_pos k6] at hf; cases hf; exact hQ
  rw [if_neg k6]; rw [if_neg k6] at hf
  by_cases k7 : (y == PX.kNone) = true
  · rw [if_pos k7]; rw [if_pos k7] at hf; cases hf; exact hQ
  rw [if_neg k7]; rw [if_neg k7] at hf
  by_cases k8 : (y == PX.kAll) = true
  · rw [if_pos k8]; rw [if_pos k8] at hf; cases hf; exact hQ
  rw [if_neg k8] at hf; cases hf
theorem line_none {s : PX.S} (I : PX.Inv s) (hd : s.done ≠ 4) (hf : lookE (PX.sy (PX.next s)) (tabL s.done) = none) : PX.line s = .bad (PX.next s).p 50 := by
  rw [PX.line_eq]
  have hq := I.done
  unfold PX.lineB
  generalize PX.sy (PX.next s) = y at *
  by_cases h0 : s.done = 0
  · rw [if_pos h0]
    rw [h0] at hf
    change lookE y [(PX.kTest, 34)] = none at hf
    simp only [lookE] at hf
    by_cases h1 : (y == PX.kTest) = true
    · rw [if_pos h1] at hf; cases hf
    rw [if_neg h1]; rfl
  rw [if_neg h0]
  by_cases h1 : s.done = 1
  · rw [if_pos h1]
    rw [h1] at hf
    change lookE y [(PX.kInit, 35), (PX.kThread, 36)] = none at hf
    simp only [lookE] at hf
    by_cases h2 : (y == PX.kInit) = true
    · rw [if_pos h2] at hf; cases hf
    rw [if_neg h2]; rw [if_neg h2] at hf
    by_cases h3 : (y == PX.kThread) = true
    · rw [if_pos h3] at hf; cases hf
    rw [if_neg h3]; rfl
  rw [if_neg h1]
  by_cases h2 : s.done = 2
  · rw [if_pos h2]
    rw [h2] at hf
    change lookE y [(PX.kThread, 36)] = none at hf
    simp only [lookE] at hf
    by_cases h3 : (y == PX.kThread) = true
    · rw [if_pos h3] at hf; cases hf
    rw [if_neg h3]; rfl
  rw [if_neg h2]
  have h3 : s.done = 3 := by omega
  rw [h3] at hf
  change lookE y [(PX.kThread, 36), (PX.kFence, 37), (PX.kSkip, 37), (PX.sNAME, 37), (PX.sREG, 37), (PX.kSome, 38), (PX.kNone, 38), (PX.kAll, 38)] = none at hf
  simp only [lookE] at hf
  by_cases k1 : (y == PX.kThread) = true
  · rw [if_pos k1] at hf; cases hf
  rw [if_neg k1]; rw [if_neg k1] at hf
  by_cases k2 : (y == PX.kFence) = true
  · rw [if_pos k2] at hf; cases hf
  rw [if_neg k2]; rw [if_neg k2] at hf
  by_cases k3 : (y == PX.kSkip) = true
  · rw [if_pos k3] at hf; cases hf
  rw [if_neg k3]; rw [if_neg k3] at hf
  by_cases k4 : (y == PX.sNAME) = true
  · rw [if_pos k4] at hf; cases hf
  rw [if_neg k4]; rw [if_neg k4] at hf
  by_cases k5 : (y == PX.sREG) = true
  · rw [if_pos k5] at hf; cases hf
  rw [if_neg k5]; rw [if_neg k5] at hf
  by_cases k6 : (y == PX.kSome) = true
  · rw [if_pos k6] at hf; cases hf
  rw [if_neg k6]; rw [if_neg k6] at hf
  by_cases k7 : (y == PX.kNone) = true
  · rw [if_pos k7] at hf; cases hf
  rw [if_neg k7]; rw [if_neg k7] at hf
  by_cases k8 : (y == PX.kAll) = true
  · rw [if_pos k8] at hf; cases hf
  rw [if_neg k8]; rfl
theorem ents_line (d : Int) : AllIn (tabL d) := by
  have e1 := enters Try.func34 (by kernel_rfl) rfl
  have e2 := enters Try.func35 (by kernel_rfl) rfl
  have e3 := enters Try.func36 (by kernel_rfl) rfl
  have e4 := enters Try.func37 (by kernel_rfl) rfl
  have e5 := enters Try.func38 (by kernel_rfl) rfl
  intro p hp
  unfold tabL at hp
  by_cases h0 : d = 0
  · rw [if_pos h0] at hp
    unfold tabL0 at hp
    simp only [List.mem_cons, List.not_mem_nil, or_false] at hp
    subst hp; exact e1
  rw [if_neg h0] at hp
  by_cases h1 : d = 1
  · rw [if_pos h1] at hp
    unfold tabL1 at hp
    simp only [List.mem_cons, List.not_mem_nil, or_false] at hp
    rcases hp with rfl | rfl
    · exact e2
    · exact e3
  rw [if_neg h1] at hp
  by_cases h2 : d = 2
  · rw [if_pos h2] at hp
    unfold tabL2 at hp
    simp only [List.mem_cons, List.not_mem_nil, or_false] at hp
    subst hp; exact e3
  rw [if_neg h2] at hp
  unfold tabL3 at hp
  simp only [List.mem_cons, List.not_mem_nil, or_false] at hp
  rcases hp with rfl | rfl | rfl | rfl | rfl | rfl | rfl | rfl
  · exact e3
  · exact e4
  · exact e4
  · exact e4
  · exact e4
  · exact e5
  · exact e5
  · exact e5
end PP
end Go.Proofs.Ytglbmiadgdadfaa
end

section
/- The parser's program, whole. -/
namespace Go.Proofs.Ytglbmiadgdadfaa
open Go.RowKit Go.Shelf

attribute [local go_sem] Oper.semAt_some
namespace PP
/-- A program stands in memory, behind block b; what its slices are. -/
structure PgM (W : World) (b : Nat) (s : PX.S) (h : Hd) : Prop where
  locs : W.ownsRow (b + 1) 9 1 h.vl s.locs.length (s.locs.map .string)
  init : W.ownsRow (b + 1) 5 1 h.vi s.locs.length (s.init.map (.int .u8))
  thr : ThrM W (b + 1) h.vt s.threads
  cnd : ∃ x : CV, h.c0 = .int .u8 x.k ∧ h.c1 = .int .u8 x.t ∧ h.c2 = .int .u8 x.n ∧ h.c3 = .int .u8 x.v ∧ h.c4 = x.u ∧ CondM W (fun g => b < g) x s.cond
theorem PgM.keep {W W' : World} {b : Nat} {s : PX.S} {h : Hd} (P : PgM W b s h) (hk : ∀ (i : Nat) (D : Array Value) (t : TypeId), b < i → t ∈ [9, 5, 42, 46, 24] → W.heap[i]? = some (.cells D t (0, 0)) → W'.heap[i]? = some (.cells D t (0, 0))) : PgM W' b s h := by
  obtain ⟨x, a0, a1, a2, a3, a4, a5⟩ := P.cnd
  refine ⟨own_sameT P.locs fun i cur hi hh => hk i cur _ (by omega) (by simp) hh, own_sameT P.init fun i cur hi hh => hk i cur _ (by omega) (by simp) hh, P.thr.keep fun i cur t ht hi hh => hk i cur t (by omega) (by
    simp only [List.mem_cons, List.not_mem_nil, or_false] at ht ⊢
    rcases ht with rfl | rfl <;> simp) hh, x, a0, a1, a2, a3, a4, CondM.mono (fun i C hi hh => hk i C _ hi (by simp) hh) (fun _ hi => hi) _ _ a5⟩
theorem PgM.below {W W' : World} {b : Nat} {s : PX.S} {h : Hd} (P : PgM W b s h) (B : Below W.heap.size W W') : PgM W' b s h :=
  P.keep fun i D t _ _ hh => (B.block i (lt_of_heap hh)).trans hh
theorem LT.pg {W : World} {b : Nat} {s : PX.S} {h : Hd} (L : LT W b s h) : PgM W b s h := ⟨(L.ls.locs.1 L.opn).1, L.ls.init L.opn, L.thr, L.cnd⟩
def progV (s : PX.S) (h : Hd) : Value := .agg #[.string s.name, h.vl, h.vi, h.vt, .int .u8 s.ask, h.c0, h.c1, h.c2, h.c3, h.c4]
def progC (s : PX.S) (h : Hd) : Array Value := #[.string s.name, h.vl, h.vi, h.vt, .int .u8 s.ask, h.c0, h.c1, h.c2, h.c3, h.c4]
/-- What the reading of a program answers. -/
def EndsG (W : World) (b : Nat) (r : PX.R Unit) (e : Ending) (W' : World) : Prop :=
  Fr T2 b W W' ∧ match r with
    | .ok _ s => ∃ h, e = .returned (progV s h) ∧ PgM W' b s h
    | .bad p x => e = failE p x
/-- A program's cells, written one by one. -/
def setP (W : World) (k : Nat) (v0 v1 v2 v3 v4 v5 v6 v7 v8 v9 : Value) : World := ((((((((((W.setCell ⟨k, 0, none⟩ v0).setCell ⟨k, 1, none⟩ v1).setCell ⟨k, 2, none⟩ v2).setCell ⟨k, 3, none⟩ v3).setCell ⟨k, 4, none⟩ v4).setCell ⟨k, 5, none⟩ v5).setCell ⟨k, 6, none⟩ v6).setCell ⟨k, 7, none⟩ v7).setCell ⟨k, 8, none⟩ v8).setCell ⟨k, 9, none⟩ v9)
theorem setP_row {W : World} {k : Nat} {z0 z1 z2 z3 z4 z5 z6 z7 z8 z9 : Value} {t : TypeId} (v0 v1 v2 v3 v4 v5 v6 v7 v8 v9 : Value) (hz : W.heap[k]? = some (.cells #[z0, z1, z2, z3, z4, z5, z6, z7, z8, z9] t (0, 0))) : (setP W k v0 v1 v2 v3 v4 v5 v6 v7 v8 v9).heap[k]? = some (.cells #[v0, v1, v2, v3, v4, v5, v6, v7, v8, v9] t (0, 0)) := by
  have r0 := heap_setCell_same _ k 0 _ _ v0 hz
  have r1 := heap_setCell_same _ k 1 _ _ v1 r0
  have r2 := heap_setCell_same _ k 2 _ _ v2 r1
  have r3 := heap_setCell_same _ k 3 _ _ v3 r2
  have r4 := heap_setCell_same _ k 4 _ _ v4 r3
  have r5 := heap_setCell_same _ k 5 _ _ v5 r4
  have r6 := heap_setCell_same _ k 6 _ _ v6 r5
  have r7 := heap_setCell_same _ k 7 _ _ v7 r6
  have r8 := heap_setCell_same _ k 8 _ _ v8 r7
  have r9 := heap_setCell_same _ k 9 _ _ v9 r8
  unfold setP
  rw [r9]
  simp only [List.setIfInBounds_toArray, List.set_cons_succ, List.set_cons_zero]
theorem setP_keep {W : World} {k i : Nat} {o : Obj} (v0 v1 v2 v3 v4 v5 v6 v7 v8 v9 : Value) (hh : W.heap[i]? = some o) (hi : i ≠ k) : (setP W k v0 v1 v2 v3 v4 v5 v6 v7 v8 v9).heap[i]? = some o := (row_keep (row_keep (row_keep (row_keep (row_keep (row_keep (row_keep (row_keep (row_keep (row_keep hh hi 0 _) hi 1 _) hi 2 _) hi 3 _) hi 4 _) hi 5 _) hi 6 _) hi 7 _) hi 8 _) hi 9 _)
theorem setP_fr {T : List TypeId} {b k : Nat} {W0 W : World} (v0 v1 v2 v3 v4 v5 v6 v7 v8 v9 : Value) (F : Fr T b W0 W) (hk : W0.heap.size ≤ k) : Fr T b W0 (setP W k v0 v1 v2 v3 v4 v5 v6 v7 v8 v9) := ((((((((((F.setNew hk 0 v0).setNew hk 1 v1).setNew hk 2 v2).setNew hk 3 v3).setNew hk 4 v4).setNew hk 5 v5).setNew hk 6 v6).setNew hk 7 v7).setNew hk 8 v8).setNew hk 9 v9)
theorem sizeProg : (Try.prog.info? 39).map (·.size) = some 10 := by kernel_rfl
def PrI (w : World) (b : Nat) (h : Hd) (R : PX.R Unit) (wr : World) : Prop :=
  ∃ (s' : PX.S) (g' : Hd) (m : Nat), TP w b h wr s' g' ∧ PX.Inv s' ∧ s'.rest.length < m ∧ m ≤ 100000 ∧ PX.prog m s' = R ∧ wr.heap[w.heap.size]? = some (.cells #[.string ⟨#[]⟩, .slice none 0 0, .slice none 0 0, .slice none 0 0, .int .u8 0, .int .u8 0, .int .u8 0, .int .u8 0, .int .u8 0, .slice none 0 0] 39 (0, 0))
set_option maxRecDepth 100000 in
set_option maxHeartbeats 16000000 in
theorem program_any (b : Nat) (s : PX.S) (h : Hd) (w : World) (L : LT w b s h) (I : PX.Inv s) (hlen : s.rest.length < 99999) :
    Calls Try.prog 18 #[.pointer (some ⟨b, 0, none⟩)] w (EndsG w b (PX.prog (s.rest.length + 1) s)) := by
  have hbl := L.ls.ps.lt
  have U0 := Lib.hid ((TP.start L).alloc (.cells #[.string ⟨#[]⟩, .slice none 0 0, .slice none 0 0, .slice none 0 0, .int .u8 0, .int .u8 0, .int .u8 0, .int .u8 0, .int .u8 0, .slice none 0 0] 39))
  have z0 := Lib.hid (heap_alloc_new w (.cells #[.string ⟨#[]⟩, .slice none 0 0, .slice none 0 0, .slice none 0 0, .int .u8 0, .int .u8 0, .int .u8 0, .int .u8 0, .int .u8 0, .slice none 0 0] 39))
  obtain ⟨R, hR0⟩ : ∃ R, PX.prog (s.rest.length + 1) s = R := ⟨_, rfl⟩
  rw [hR0]
  replace hR0 := Lib.hid hR0
  have CLn := Lib.hid fun d W hd => lines_any d W hd
  go_enter Try.func18, Try.ntmps18
  go_wp2_with fail
  go_loopw [] (fun wr => PrI w b h R wr) (fun wr => restLen b wr)
  case atStart => exact ⟨s, h, _, U0.out, I, Nat.lt_succ_self _, by omega, hR0.out, z0.out⟩
  case round =>
    obtain ⟨s3, g3, m, T, I3, hm, hm2, hR, hC⟩ := hrel
    obtain ⟨m, rfl⟩ : ∃ m', m = m' + 1 := ⟨m - 1, by omega⟩
    obtain ⟨vr3, d3, f3⟩ := T.lt.ls.ps.cellAt 14
    unfold psC at d3
    simp only [List.getElem?_toArray, List.getElem?_cons_zero, List.getElem?_cons_succ] at d3
    obtain ⟨dn, hdn⟩ : ∃ dn, s3.done = dn := ⟨_, rfl⟩
    rw [hdn] at d3
    by_cases h4 : dn = 4
    · subst h4
      have hR' : R = .ok () s3 := by rw [← hR]; unfold PX.prog; rw [if_pos hdn]
      replace hR' := Lib.hid hR'
      have P3 := T.lt.pg
      obtain ⟨vr, h3, -⟩ := id T.lt.ls.ps
      obtain ⟨x, k0, k1, k2, k3, k4, k5⟩ := T.lt.cnd
      obtain ⟨xa, xl, xc, hu⟩ := k5.slice
      rw [hu] at k4
      obtain ⟨a2, n2, p2, hvl⟩ : ∃ a n cap, g3.vl = .slice a n cap := by
        obtain ⟨_, a, cap, e, _⟩ := T.lt.ls.locs.sl; exact ⟨a, _, cap, e⟩
      obtain ⟨a6, n6, p6, hvi⟩ : ∃ a n cap, g3.vi = .slice a n cap := by
        rcases (T.lt.ls.init T.lt.opn).2 with ⟨e, _⟩ | ⟨g, cap, cur, e, _⟩
        · exact ⟨_, _, _, e⟩
        · exact ⟨_, _, _, e⟩
      obtain ⟨a7, p7, hvt⟩ := T.lt.thr.sl
      have g2 := cell_of_row _ b 2 _ _ _ h3
      have g4 := cell_of_row _ b 4 _ _ _ h3
      have g5 := cell_of_row _ b 5 _ _ _ h3
      have g6 := cell_of_row _ b 6 _ _ _ h3
      have g7 := cell_of_row _ b 7 _ _ _ h3
      have g8 := cell_of_row _ b 8 _ _ _ h3
      have g9 := cell_of_row _ b 9 _ _ _ h3
      have g10 := cell_of_row _ b 10 _ _ _ h3
      have g11 := cell_of_row _ b 11 _ _ _ h3
      have g12 := cell_of_row _ b 12 _ _ _ h3
      have g13 := cell_of_row _ b 13 _ _ _ h3
      unfold psC at g2 g4 g5 g6 g7 g8 g9 g10 g11 g12 g13
      simp only [List.getElem?_toArray, List.getElem?_cons_zero, List.getElem?_cons_succ, hvl, hvi, hvt, k0, k1, k2, k3, k4] at g2 g4 g5 g6 g7 g8 g9 g10 g11 g12 g13
      have fb := fun j => frozen_of_row _ b j _ _ h3
      have fz := fun j => frozen_of_row _ _ j _ _ hC
      have y0 := cell_of_row _ w.heap.size 0 _ _ _ hC
      have y1 := cell_of_row _ w.heap.size 1 _ _ _ hC
      have y2 := cell_of_row _ w.heap.size 2 _ _ _ hC
      have y3 := cell_of_row _ w.heap.size 3 _ _ _ hC
      have y4 := cell_of_row _ w.heap.size 4 _ _ _ hC
      have y5 := cell_of_row _ w.heap.size 5 _ _ _ hC
      have y6 := cell_of_row _ w.heap.size 6 _ _ _ hC
      have y7 := cell_of_row _ w.heap.size 7 _ _ _ hC
      have y8 := cell_of_row _ w.heap.size 8 _ _ _ hC
      have y9 := cell_of_row _ w.heap.size 9 _ _ _ hC
      simp only [List.getElem?_toArray, List.getElem?_cons_zero, List.getElem?_cons_succ] at y0 y1 y2 y3 y4 y5 y6 y7 y8 y9
      have hlw := lt_of_heap hC
      have hne : ¬ w.heap.size = b := by omega
      have hne' : ¬ b = w.heap.size := by omega
      replace hC := Lib.hid hC
      have HX := Lib.hid (And.intro hvl (And.intro hvi (And.intro hvt (And.intro k0 (And.intro k1 (And.intro k2 (And.intro k3 k4)))))))
      clear h3 k5 hu hvl hvi hvt k0 k1 k2 k3 k4 hR
      go_wp2
      have hk : ∀ (i : Nat) (D : Array Value) (t : TypeId), b < i → t ∈ [9, 5, 42, 46, 24] → wr.heap[i]? = some (.cells D t (0, 0)) → (setP (wr.setCell ⟨b, 5, none⟩ (.slice a2 n2 p2)) w.heap.size (.string s3.name) (.slice a2 n2 p2) (.slice a6 n6 p6) (.slice a7 s3.threads.length p7) (.int .u8 s3.ask) (.int .u8 x.k) (.int .u8 x.t) (.int .u8 x.n) (.int .u8 x.v) (.slice xa xl xc)).heap[i]? = some (.cells D t (0, 0)) := fun i D t hi ht hh =>
        setP_keep _ _ _ _ _ _ _ _ _ _ (row_keep hh (Nat.ne_of_gt hi) 5 _) (by
          rintro rfl
          have := hC.out
          rw [hh] at this
          cases this
          simp at ht)
      have hZ := setP_row (.string s3.name) (.slice a2 n2 p2) (.slice a6 n6 p6) (.slice a7 s3.threads.length p7) (.int .u8 s3.ask) (.int .u8 x.k) (.int .u8 x.t) (.int .u8 x.n) (.int .u8 x.v) (.slice xa xl xc) (row_keep hC.out hne 5 (.slice a2 n2 p2))
      have hF := setP_fr (.string s3.name) (.slice a2 n2 p2) (.slice a6 n6 p6) (.slice a7 s3.threads.length p7) (.int .u8 s3.ask) (.int .u8 x.k) (.int .u8 x.t) (.int .u8 x.n) (.int .u8 x.v) (.slice xa xl xc) (T.fr.setB 5 (.slice a2 n2 p2)) (Nat.le_refl w.heap.size)
      obtain ⟨hvl, hvi, hvt, k0, k1, k2, k3, k4⟩ := HX.out
      have hv : progV s3 g3 = .agg #[.string s3.name, .slice a2 n2 p2, .slice a6 n6 p6, .slice a7 s3.threads.length p7, .int .u8 s3.ask, .int .u8 x.k, .int .u8 x.t, .int .u8 x.n, .int .u8 x.v, .slice xa xl xc] := by
        unfold progV; rw [hvl, hvi, hvt, k0, k1, k2, k3, k4]
      have hE : EndsG w b (.ok () s3) (.returned (progV s3 g3)) (setP (wr.setCell ⟨b, 5, none⟩ (.slice a2 n2 p2)) w.heap.size (.string s3.name) (.slice a2 n2 p2) (.slice a6 n6 p6) (.slice a7 s3.threads.length p7) (.int .u8 s3.ask) (.int .u8 x.k) (.int .u8 x.t) (.int .u8 x.n) (.int .u8 x.v) (.slice xa xl xc)) := ⟨hF, g3, rfl, P3.keep hk⟩
      rw [hv] at hE
      rw [hR'.out]
      refine bodyPost_ret (v := .agg #[.string s3.name, .slice a2 n2 p2, .slice a6 n6 p6, .slice a7 s3.threads.length p7, .int .u8 s3.ask, .int .u8 x.k, .int .u8 x.t, .int .u8 x.n, .int .u8 x.v, .slice xa xl xc]) ?_ rfl hE
      exact results_cell_row (p := 2) rfl _ _ w.heap.size _ _ _ _ rfl hZ Try.underlying39 rfl sizeProg
    · have t1 : (dn != 4) = true := by simpa using h4
      have hR' : Hid (R = (PX.line s3).bind fun _ s => PX.prog m s) := Lib.hid (by rw [← hR]; simp only [PX.prog]; rw [if_neg (by rw [hdn]; exact h4)])
      have hdd : dn = 0 ∨ dn = 1 ∨ dn = 2 ∨ dn = 3 := by have := I3.done; rw [hdn] at this; omega
      have c1 := Lib.hid (CLn.out dn wr hdd)
      have U1 := T.alloc (.map ⟨mapE (tabL dn) 0⟩ (tabL dn).length)
      have C4 := choseL (tabL dn) (tabL dn).length U1.lt.ls.ps _ (heap_alloc_new _ _)
      replace U1 := Lib.hid U1
      clear hR hdd h4
      rcases rl : lookE (PX.sy (PX.next s3)) (tabL dn) with _ | f
      · rw [rl] at C4
        replace C4 := Lib.hid C4
        have hRb : R = .bad (PX.next s3).p 50 := by
          rw [hR'.out, line_none I3 (by rw [hdn]; simpa using t1) (by rw [hdn]; exact rl)]; rfl
        rw [hRb]
        clear rl hdn
        go_wp2_with (first
          | (go_at_call 25; refine (c1.out).mono ?_; rintro e w3 ⟨rfl, rfl⟩)
          | (go_at_call 24; refine (C4.out).mono ?_; rintro e w4 ⟨B4, rfl⟩))
        refine ⟨rfl, U1.out.fr.trans (.of_below B4), ?_⟩
        show Ending.panicked _ = failE _ _
        symm
        assumption
      · have hs := Lib.hid fun h' W (L' : LT W b s3 h') => line_some L' I3 (by omega) (by rw [hdn]; simpa using t1) (by rw [hdn]; exact rl)
        have hent : ∀ args W, (callFunc f args).run Try.prog W = .ok (.enter f args) W := lookE_all (ents_line dn) rl
        rw [rl] at C4
        replace C4 := Lib.hid C4
        have hlw := lt_of_heap hC
        have hC1 := Lib.hid (row_alloc hC (.map ⟨mapE (tabL dn) 0⟩ (tabL dn).length))
        clear rl hdn
        go_wp2_with (first
          | (go_at_call 25; refine (c1.out).mono ?_; rintro e w3 ⟨rfl, rfl⟩)
          | (go_at_call 24; refine (C4.out).mono ?_; rintro e w4 ⟨B4, rfl⟩
             have U4 := Lib.hid (U1.out.below B4)))
        refine callP (hs.out _ _ U4.out.lt) (fun s5 w5 g5 hx5 F5 hg5 L5 => ?_) (fun pl er w5 hx F => ⟨rfl, U4.out.fr.trans F, by rw [hR'.out, hx]; rfl⟩)
        have U5 := U4.out.stepP F5 hg5 L5
        have I5 := PX.inv_line I3 _ _ hx5
        have hlt := PX.line_lt s3 _ _ hx5
        have hC5 : w5.heap[w.heap.size]? = some (.cells #[.string ⟨#[]⟩, .slice none 0 0, .slice none 0 0, .slice none 0 0, .int .u8 0, .int .u8 0, .int .u8 0, .int .u8 0, .int .u8 0, .slice none 0 0] 39 (0, 0)) := F5.box ((B4.block _ (lt_of_heap hC1.out)).trans hC1.out) (by omega) (by simp [T2])
        have hR5 := hR'.out
        rw [hx5] at hR5
        replace U5 := Lib.hid U5
        replace I5 := Lib.hid I5
        replace hR5 := Lib.hid hR5
        go_wp2
        refine ⟨⟨s5, g5, m, U5.out, I5.out, by omega, by omega, hR5.out.symm, hC5⟩, ?_⟩
        rw [restLen_ps U5.out.lt.ls.ps, restLen_ps T.lt.ls.ps]
        exact hlt
end PP
end Go.Proofs.Ytglbmiadgdadfaa
end

section
/- Parsing a text: the tokens, the deferred call. -/
namespace Go.Proofs.Ytglbmiadgdadfaa
open Go.RowKit Go.Shelf

attribute [local go_sem] Oper.semAt_some
namespace PP
theorem wf_kind : ∀ (u : Bool) (l : List (Nat × List UInt8)), LX.wf u l → ∀ x ∈ l, x.1 ≤ 4
  | _, [], _, x, h => by cases h
  | u, (k, T) :: r, hw, x, h => by
    rcases hw with ⟨h1, _, _, h2⟩ | ⟨h1, h2, h3⟩
    · rcases List.mem_cons.1 h with rfl | h
      · show k ≤ 4; omega
      · exact wf_kind _ r h2 x h
    · rcases List.mem_cons.1 h with rfl | h
      · show k ≤ 4
        unfold LX.tokOk at h2
        omega
      · exact wf_kind _ r h3 x h
theorem toks_ok (s : ByteArray) : ∀ t ∈ toks s, okTok t := by
  intro t ht
  by_cases he : (LX.out (bsOf s)).2.2 = 0
  · obtain ⟨hw, hc, hl⟩ := LX.out_good he
    unfold toks at ht
    obtain ⟨u, hu, rfl⟩ := List.mem_map.1 ht
    have hk := wf_kind _ _ hw _ (List.mem_map_of_mem (f := LX.sho (bsOf s)) hu)
    refine ⟨?_, ?_, ?_⟩
    · show (s.extract u.lo u.hi).size ≤ 100000
      rw [ByteArray.size_extract]
      rw [bsOf_length] at hl
      omega
    · show (0 : Int) ≤ (u.kind : Int); omega
    · show (u.kind : Int) ≤ 4
      have : u.kind ≤ 4 := hk
      omega
  · have : (LX.out (bsOf s)).1 = [] := by
      unfold LX.out at he ⊢
      split
      · rfl
      · rename_i hl
        rw [if_neg hl] at he
        split
        · rfl
        · rename_i hf; rw [hf] at he; exact absurd rfl he
    unfold toks at ht
    rw [this] at ht
    cases ht
theorem tkR_own {W : World} {base : Nat} {v : Value} {s : ByteArray} {l : List LX.Tk} (h : W.ownsRow base 61 3 v l.length (toksC s l)) (hm : l.length ≤ 32768) (hsz : 0 < W.heap.size) : ∃ g, TkR W g v (l.map (tokD s)) ∧ g < W.heap.size ∧ ∃ a n c, v = .slice a n c := by
  rcases h.2 with ⟨rfl, h0⟩ | ⟨g, cap, cur, rfl, hg, hheap, hnc, hc1, hc2, hc3⟩
  · exact ⟨0, ⟨by rw [List.length_map, h0]; unfold maxLen; omega, none, 0, by rw [List.length_map, h0], by rw [List.length_map, h0]; exact Nat.le_refl _, by unfold maxLen; omega, fun h => by rw [List.length_map, h0] at h; omega⟩, hsz, none, 0, 0, rfl⟩
  · refine ⟨g, ⟨by rw [List.length_map]; unfold maxLen; omega, some ⟨g, 0, none⟩, cap, by rw [List.length_map], by rw [List.length_map]; exact hnc, hc1, fun _ => ⟨0, cur, rfl, hheap, fun j t ht => ?_⟩⟩, lt_of_heap hheap, _, _, _, rfl⟩
    rw [List.getElem?_map] at ht
    obtain ⟨u, hu, rfl⟩ := Option.map_eq_some_iff.1 ht
    obtain ⟨a1, a2, a3⟩ := toksC_get s l j u hu
    have hjl := (List.getElem?_eq_some_iff.1 hu).1
    have e : ∀ i, i < l.length * 3 → cur[i]? = (toksC s l)[i]? := fun i hi => by rw [← hc3, List.getElem?_take, if_pos hi]; simp
    rw [Nat.zero_add]
    exact ⟨(e _ (by omega)).trans a1, (e _ (by omega)).trans a2, (e _ (by omega)).trans a3⟩

theorem assert_nil (w : World) : (Instr.typeAssert .nilIface 20 67 true).run Try.prog w = .ok (.tuple #[.agg #[.int .i64 0, .int .i64 0], .bool false]) w := by kernel_rfl
theorem assert_fault (a b : Int) (w : World) : (Instr.typeAssert (.iface 67 (.agg #[.int .i64 a, .int .i64 b])) 20 67 true).run Try.prog w = .ok (.tuple #[.agg #[.int .i64 a, .int .i64 b], .bool true]) w := by kernel_rfl
set_option maxRecDepth 100000 in
set_option maxHeartbeats 4000000 in
theorem catch_idle (p q : Addr) (w : World) :
    CallsD Try.prog 23 #[.pointer (some p), .pointer (some q)] .returning w fun e u' w' => e = .returned (.tuple #[]) ∧ u' = .returning ∧ w' = w.alloc (.cells #[.int .i64 0, .int .i64 0] 67) := by
  refine callsD_of_wpS Try.func23 rfl fun c₀ cs hu => ?_
  show Code.wpS _ _ _ { tmps := #[.pointer (some p), .pointer (some q), undef, undef, undef, undef, undef, undef, undef, undef, undef, undef, undef, undef], defers := [] } _ _
  apply wpS_seq
  apply wpS_region
  have h1 := assert_nil
  have n0 := fun w : World => cell_of_row _ w.heap.size 0 _ _ _ (heap_alloc_new w (.cells #[.int .i64 0, .int .i64 0] 67))
  have n1 := fun w : World => cell_of_row _ w.heap.size 1 _ _ _ (heap_alloc_new w (.cells #[.int .i64 0, .int .i64 0] 67))
  simp [wpOpsS, go_sem, recoverD, hu, h1, n0, n1, Exit.thenS]
  apply wpS_seq
  apply wpS_region
  simp [wpOpsS, go_sem, Exit.thenS]
  refine wpS_cond (t := false) (by simp [Act.eval]) ?_
  simp only [Bool.false_eq_true, if_false]
  refine wpS_of_wp (wp_skip ?_)
  cases c₀
  simp_all [bodyPostS, results, Try.results23]
/-- What the deferred call leaves where a panic is caught: the offset in block k1, the error in block k2. -/
structure CatP (w w' : World) (k1 k2 : Nat) (a b : Int) : Prop where
  os : w'.os = w.os
  tape : w'.tape = w.tape
  output : w'.output = w.output
  size : w.heap.size ≤ w'.heap.size
  block : ∀ k o, w.heap[k]? = some o → k ≠ k1 → k ≠ k2 → w'.heap[k]? = some o
  c1 : w'.heap[k1]? = some (.cells #[.int .i64 a] 3 (0, 0))
  c2 : w'.heap[k2]? = some (.cells #[.int .i64 b] 30 (0, 0))
theorem CatP.pre {w W w' : World} {k1 k2 : Nat} {a b : Int} (h : CatP W w' k1 k2 a b) (B : Below w.heap.size w W) : CatP w w' k1 k2 a b :=
  ⟨h.os.trans B.os, h.tape.trans B.tape, h.output.trans B.output, Nat.le_trans B.size h.size, fun k o ho n1 n2 => h.block k o ((B.block k (lt_of_heap ho)).trans ho) n1 n2, h.c1, h.c2⟩
theorem CatP.drew {w w' : World} {k1 k2 : Nat} {a b : Int} (h : CatP w w' k1 k2 a b) : CatP w w'.drew k1 k2 a b := ⟨h.os, h.tape, h.output, h.size, h.block, h.c1, h.c2⟩
theorem catP_of {w : World} {k1 k2 : Nat} {a b v1 v2 : Int} (h1 : w.heap[k1]? = some (.cells #[.int .i64 v1] 3 (0, 0))) (h2 : w.heap[k2]? = some (.cells #[.int .i64 v2] 30 (0, 0))) (hk : k1 ≠ k2) : CatP w ((w.setCell ⟨k1, 0, none⟩ (.int .i64 a)).setCell ⟨k2, 0, none⟩ (.int .i64 b)) k1 k2 a b := by
  refine ⟨rfl, rfl, rfl, by simp, fun k o ho n1 n2 => row_keep (row_keep ho n1 0 _) n2 0 _, ?_, ?_⟩
  · have := heap_setCell_same w k1 0 _ _ (.int .i64 a) h1
    exact row_keep this hk 0 _
  · exact heap_setCell_same _ k2 0 _ _ (.int .i64 b) (row_keep h2 hk.symm 0 _)
theorem catP_of' {w : World} {k1 k2 : Nat} {a b v1 v2 : Int} (h1 : w.heap[k1]? = some (.cells #[.int .i64 v1] 3 (0, 0))) (h2 : w.heap[k2]? = some (.cells #[.int .i64 v2] 30 (0, 0))) (hk : k1 ≠ k2) : CatP w ((w.setCell ⟨k2, 0, none⟩ (.int .i64 b)).setCell ⟨k1, 0, none⟩ (.int .i64 a)) k1 k2 a b := by
  refine ⟨rfl, rfl, rfl, by simp, fun k o ho n1 n2 => row_keep (row_keep ho n2 0 _) n1 0 _, ?_, ?_⟩
  · exact heap_setCell_same _ k1 0 _ _ (.int .i64 a) (row_keep h1 hk 0 _)
  · have := heap_setCell_same w k2 0 _ _ (.int .i64 b) h2
    exact row_keep this hk.symm 0 _
set_option maxRecDepth 100000 in
set_option maxHeartbeats 4000000 in
theorem catch_panicking (k1 k2 : Nat) (a b : Int) (w : World) (v1 v2 : Int) (h1 : w.heap[k1]? = some (.cells #[.int .i64 v1] 3 (0, 0))) (h2 : w.heap[k2]? = some (.cells #[.int .i64 v2] 30 (0, 0))) (hk : k1 ≠ k2) :
    CallsD Try.prog 23 #[.pointer (some ⟨k1, 0, none⟩), .pointer (some ⟨k2, 0, none⟩)] (.panicking [{ v := .iface 67 (.agg #[.int .i64 a, .int .i64 b]), recovered := false }]) w fun e u' w' => e = .returned (.tuple #[]) ∧ u' = .panicking [{ v := .iface 67 (.agg #[.int .i64 a, .int .i64 b]), recovered := true }] ∧ CatP w w' k1 k2 a b := by
  refine callsD_of_wpS Try.func23 rfl fun c₀ cs hu => ?_
  show Code.wpS _ _ _ { tmps := #[.pointer (some ⟨k1, 0, none⟩), .pointer (some ⟨k2, 0, none⟩), undef, undef, undef, undef, undef, undef, undef, undef, undef, undef, undef, undef], defers := [] } _ _
  apply wpS_seq
  apply wpS_region
  have e1 := assert_fault a b
  simp [wpOpsS, go_sem, recoverD, hu, e1, Exit.thenS]
  have B1 := (Below.refl w.heap.size w).alloc (Nat.le_refl _) (.cells #[.int .i64 a, .int .i64 b] 67)
  have hz := heap_alloc_new w (.cells #[.int .i64 a, .int .i64 b] 67)
  have z0 := cell_of_row _ _ 0 _ _ _ hz
  have z1 := cell_of_row _ _ 1 _ _ _ hz
  simp only [List.getElem?_toArray, List.getElem?_cons_zero, List.getElem?_cons_succ] at z0 z1
  have g1 := (B1.block k1 (lt_of_heap h1)).trans h1
  have g2 := (B1.block k2 (lt_of_heap h2)).trans h2
  have l1 := lt_of_heap h1
  have l2 := lt_of_heap h2
  generalize w.alloc (.cells #[.int .i64 a, .int .i64 b] 67) = W at *
  apply wpS_seq
  apply wpS_region
  simp [wpOpsS, go_sem, Exit.thenS]
  refine wpS_cond (t := true) (by simp [Act.eval]) ?_
  simp only [if_true]
  refine wpS_of_wp ?_
  have f1 := frozen_of_row _ k1 0 _ _ g1
  have f2 := frozen_of_row _ k2 0 _ _ g2
  have c1 := cell_of_row _ k1 0 _ _ _ g1
  have c2 := cell_of_row _ k2 0 _ _ _ g2
  simp only [List.getElem?_toArray, List.getElem?_cons_zero, List.getElem?_cons_succ] at c1 c2
  have hk' := hk.symm
  have m1 : ¬ w.heap.size = k1 := by omega
  have m2 : ¬ w.heap.size = k2 := by omega
  have m3 : ¬ k1 = w.heap.size := by omega
  have m4 : ¬ k2 = w.heap.size := by omega
  go_region
  have hc := catP_of (a := a) (b := b) g1 g2 hk
  refine ⟨rfl, _, rfl, .tuple #[], ?_, rfl, rfl, (hc.pre B1).drew⟩
  simp [results, Try.results23]
end PP
end Go.Proofs.Ytglbmiadgdadfaa
end
