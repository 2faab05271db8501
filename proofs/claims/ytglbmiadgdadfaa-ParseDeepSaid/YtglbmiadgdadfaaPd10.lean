/- ParFit, ParFit2, ParParse, ParEx, ParQuiet, ParAwake in one text, for the claim. -/
import Derived.Test.YtglbmiadgdadfaaPd8
import Derived.Test.YtglbmiadgdadfaaPd9
import Derived.Test.YtglbmiadgdadfaaRegionBelow
import Derived.Test.YtglbmiadgdadfaaPd4
import Derived.BigQuiet

section
/- What a parsed program respects. Pure. -/
namespace Go.Proofs.Ytglbmiadgdadfaa
open Go Go.RowKit
namespace PX
/-- A register's number; an argument; an instruction, of which n locations are known. -/
def RegOk (n : Int) : Prop := 0 ≤ n ∧ n < 8
def ArgOk (a : ArgD) : Prop := a.r = true → RegOk a.n
structure InsOk (n : Nat) (x : InsD) : Prop where
  op : 1 ≤ x.op ∧ x.op ≤ 8
  dst : RegOk x.dst
  loc : 0 ≤ x.loc ∧ (0 < x.loc → x.loc < (n : Int))
  a : ArgOk x.a
  b : ArgOk x.b
theorem InsOk.mono {n m : Nat} {x : InsD} (h : InsOk n x) (hm : n ≤ m) : InsOk m x := ⟨h.op, h.dst, ⟨h.loc.1, fun h0 => by have := h.loc.2 h0; omega⟩, h.a, h.b⟩
/-- A token that is no sign with a name's symbol; a word is not empty. -/
def TokG (t : TokD) : Prop := (t.k = 3 → t.x ≠ sNAME) ∧ (t.k = 1 → t.x.size ≠ 0)
structure Fit (s : S) : Prop where
  inv : Inv s
  toks : ∀ t ∈ s.rest, TokG t
  names : ∀ x ∈ s.locs, LX.nameB (bsOf x) = true
  nodup : s.locs.Nodup
  ilen : s.init.length = s.locs.length
  ins : ∀ k ∈ s.threads, ∀ x ∈ k, InsOk s.locs.length x
  named : 1 ≤ s.done → s.name.size ≠ 0
  ask : s.done = 4 → 1 ≤ s.ask ∧ s.ask ≤ 3
  deep : s.done = 4 → PX.deep s.cond ≤ 20
theorem name_sym {t : TokD} (hg : TokG t) (h : sy t = sNAME) : LX.nameB (bsOf t.x) = true := by
  unfold sy at h
  by_cases h1 : t.k = 1
  · rw [if_pos h1] at h
    unfold wsy at h
    by_cases hk : LX.keptB (bsOf t.x) = true
    · rw [if_pos hk] at h
      rw [h] at hk
      exact absurd hk (by decide)
    · rw [if_neg hk] at h
      by_cases hn : LX.nameB (bsOf t.x) = true
      · exact hn
      · rw [if_neg hn] at h
        split at h <;> exact absurd h (by decide)
  · rw [if_neg h1] at h
    by_cases h2 : t.k = 2
    · rw [if_pos h2] at h; exact absurd h (by decide)
    · rw [if_neg h2] at h
      by_cases h3 : t.k = 3
      · rw [if_pos h3] at h
        exact absurd h (hg.1 h3)
      · rw [if_neg h3] at h
        split at h <;> exact absurd h (by decide)
theorem tail_mem {α : Type} {l : List α} {t : α} (h : t ∈ l.tail) : t ∈ l := List.mem_of_mem_tail h
theorem next_mem {s : S} (h : s.rest ≠ []) : next s ∈ s.rest := by
  unfold next
  cases hr : s.rest with
  | nil => exact absurd hr h
  | cons t l => exact List.mem_cons_self
theorem Fit.restF {s : S} (h : Fit s) : Fit { s with rest := s.rest.tail } :=
  ⟨⟨h.inv.opn, h.inv.l6, h.inv.done, h.inv.t4, h.inv.i12, h.inv.some_⟩, fun t ht => h.toks t (tail_mem ht), h.names, h.nodup, h.ilen, h.ins, h.named, h.ask, h.deep⟩
theorem Fit.growF {s : S} (h : Fit s) (hsy : sy (next s) = sNAME) (hne : s.rest ≠ []) (h6 : s.locs.length ≠ 6) (hi : s.locs.idxOf? (next s).x = none) : Fit { s with rest := s.rest.tail, locs := s.locs ++ [(next s).x], init := s.init ++ [0] } := by
  refine ⟨⟨h.inv.opn, ?_, h.inv.done, h.inv.t4, h.inv.i12, h.inv.some_⟩, fun t ht => h.toks t (tail_mem ht), fun x hx => ?_, ?_, ?_, fun k hk x hx => ?_, h.named, h.ask, h.deep⟩
  · show (s.locs ++ [_]).length ≤ 6
    have := h.inv.l6
    simp; omega
  · rcases List.mem_append.1 hx with hx | hx
    · exact h.names x hx
    · rw [List.mem_singleton.1 hx]
      exact name_sym (h.toks _ (next_mem hne)) hsy
  · show (s.locs ++ [_]).Nodup
    rw [List.nodup_append]
    refine ⟨h.nodup, by simp, fun a ha b hb => ?_⟩
    rw [List.mem_singleton.1 hb]
    rintro rfl
    have : s.locs.idxOf? (next s).x ≠ none := by
      intro e
      unfold List.idxOf? at e
      rw [List.findIdx?_eq_none_iff] at e
      have := e _ ha
      simp at this
    exact this hi
  · show (s.init ++ [0]).length = (s.locs ++ [_]).length
    have := h.ilen
    simp [this]
  · exact (h.ins k hk x hx).mono (by show s.locs.length ≤ (s.locs ++ [_]).length; simp)
theorem fit_stb (s0 : S) : Stb fun s => Fit s ∧ s.done = s0.done ∧ s0.locs.length ≤ s.locs.length :=
  ⟨fun s h => ⟨h.1.restF, h.2⟩, fun s h hsy hne _ h6 hi => ⟨h.1.growF hsy hne h6 hi, h.2.1, by show s0.locs.length ≤ (s.locs ++ [_]).length; have := h.2.2; simp; omega⟩⟩
theorem fitl_stb (s0 : S) (l : Int) : Stb fun s => (Fit s ∧ s.done = s0.done ∧ s0.locs.length ≤ s.locs.length) ∧ 0 ≤ l ∧ l < (s.locs.length : Int) :=
  ⟨fun s h => ⟨(fit_stb s0).rest s h.1, h.2⟩, fun s h hsy hne ho h6 hi => ⟨(fit_stb s0).grow s h.1 hsy hne ho h6 hi, h.2.1, by show l < ((s.locs ++ [_]).length : Int); have := h.2.2; simp; omega⟩⟩
theorem reg_range (x : ByteArray) : RegOk (regI x) := by
  unfold regI RegOk
  by_cases h : LX.regOk (bsOf x) = true
  · rw [if_pos h]
    unfold LX.regOk at h
    unfold LX.regN
    split at h
    · rename_i a b he
      simp only [Bool.and_eq_true, decide_eq_true_eq] at h
      omega
    · cases h
  · rw [if_neg h]; omega
theorem zero_reg : RegOk 0 := ⟨Int.le_refl _, by omega⟩
theorem zero_arg : ArgOk ⟨false, 0⟩ := fun h => by cases h
theorem post_reg {P : S → Prop} (st : Stb P) (s : S) (h : P s) : Post (fun n s' => P s' ∧ RegOk n) (reg s) := (keep_take st _ s h).bind fun t _ h' => .ok ⟨h', reg_range t.x⟩
theorem post_arg {P : S → Prop} (st : Stb P) (s : S) (h : P s) : Post (fun a s' => P s' ∧ ArgOk a) (arg s) := by
  unfold arg
  split
  · exact (post_reg st s h).bind fun n s' h' => .ok ⟨h'.1, fun _ => h'.2⟩
  · exact (keep_num st s h).bind fun n s' h' => .ok ⟨h', fun hh => by cases hh⟩
theorem post_operation {P : S → Prop} (st : Stb P) (l : List ByteArray) (s : S) (h : P s) : Post (fun x s' => P s' ∧ ArgOk x.1 ∧ ArgOk x.2.2) (operation l s) :=
  (post_arg st s h).bind fun a s h => (keep_take st l s h.1).bind fun t s h' => (post_arg st s h').bind fun b s h'' => .ok ⟨h''.1, h.2, h''.2⟩
theorem post_loc (s0 s : S) (h : Fit s ∧ s.done = s0.done ∧ s0.locs.length ≤ s.locs.length) : Post (fun l s' => (Fit s' ∧ s'.done = s0.done ∧ s0.locs.length ≤ s'.locs.length) ∧ 0 ≤ l ∧ l < (s'.locs.length : Int)) (loc s) := by
  have k := keep_loc (fit_stb s0) s h
  have h6 := h.1.inv.l6
  have r : Post (fun l s' => 0 ≤ l ∧ l < (s'.locs.length : Int)) (loc s) := by
    unfold loc take takeIf
    split
    · simp only [R.bind]
      split
      · rename_i i hi
        have hi' : i < s.locs.length := by
          have := List.findIdx?_eq_some_iff_findIdx_eq.1 hi
          omega
        exact .ok ⟨by omega, by show (i : Int) % 256 < (s.locs.length : Int); omega⟩
      · refine Post.bind (Q := fun _ s' => s'.locs.length = s.locs.length + 1) ?_ fun _ s' hs => .ok ⟨by omega, by rw [hs]; show (s.locs.length : Int) % 256 < _; omega⟩
        unfold addLoc
        by_cases h1 : s.opn = true
        · by_cases h2 : s.locs.length = 6
          · simp only [h1, h2, if_true]; exact .bad
          · simp only [h1, h2, if_true, if_false]; exact .ok (by simp)
        · exact absurd h.1.inv.opn h1
    · exact .bad
  exact k.and r
/-- What the reading of an instruction answers. -/
def InsP (s0 : S) (x : InsD) (s' : S) : Prop := (Fit s' ∧ s'.done = s0.done ∧ s0.locs.length ≤ s'.locs.length) ∧ InsOk s'.locs.length x
section
variable (s0 s : S) (h : Fit s ∧ s.done = s0.done ∧ s0.locs.length ≤ s.locs.length)
include h
theorem fit_store : Post (InsP s0) (store s) :=
  (post_loc s0 s h).bind fun l s h => (keep_take (fitl_stb s0 l) _ s h).bind fun _ s h => (post_arg (fitl_stb s0 l) s h).bind fun a s h => (keep_takes (fitl_stb s0 l) _ s h.1).bind fun r s h' =>
    .ok ⟨h'.1, ⟨by show (1 : Int) ≤ 2; omega, by show (2 : Int) ≤ 8; omega⟩, zero_reg, ⟨h'.2.1, fun _ => h'.2.2⟩, h.2, zero_arg⟩
theorem fit_load : Post (InsP s0) (load s) :=
  (post_loc s0 s h).bind fun l s h => (keep_takes (fitl_stb s0 l) _ s h).bind fun r s h' =>
    .ok ⟨h'.1, ⟨by show (1 : Int) ≤ 1; omega, by show (1 : Int) ≤ 8; omega⟩, zero_reg, ⟨h'.2.1, fun _ => h'.2.2⟩, zero_arg, zero_arg⟩
theorem fit_move : Post (InsP s0) (move s) :=
  (post_operation (fit_stb s0) _ s h).bind fun x s h => .ok ⟨h.1, ⟨by show (1 : Int) ≤ 3; omega, by show (3 : Int) ≤ 8; omega⟩, zero_reg, ⟨Int.le_refl _, fun hh => absurd hh (by show ¬ (0 : Int) < 0; omega)⟩, h.2.1, h.2.2⟩
theorem fit_swap : Post (InsP s0) (swap s) :=
  (keep_take (fit_stb s0) _ s h).bind fun _ s h => (post_loc s0 s h).bind fun l s h => (post_arg (fitl_stb s0 l) s h).bind fun a s h =>
    .ok ⟨h.1.1, ⟨by show (1 : Int) ≤ 4; omega, by show (4 : Int) ≤ 8; omega⟩, zero_reg, ⟨h.1.2.1, fun _ => h.1.2.2⟩, h.2, zero_arg⟩
theorem fit_fetch : Post (InsP s0) (fetch s) :=
  (keep_take (fit_stb s0) _ s h).bind fun _ s h => (post_loc s0 s h).bind fun l s h => (post_arg (fitl_stb s0 l) s h).bind fun a s h =>
    .ok ⟨h.1.1, ⟨by show (1 : Int) ≤ 5; omega, by show (5 : Int) ≤ 8; omega⟩, zero_reg, ⟨h.1.2.1, fun _ => h.1.2.2⟩, h.2, zero_arg⟩
theorem fit_cas : Post (InsP s0) (cas s) :=
  (keep_take (fit_stb s0) _ s h).bind fun _ s h => (post_loc s0 s h).bind fun l s h => (post_arg (fitl_stb s0 l) s h).bind fun a s h => (post_arg (fitl_stb s0 l) s h.1).bind fun b s h' =>
    .ok ⟨h'.1.1, ⟨by show (1 : Int) ≤ 6; omega, by show (6 : Int) ≤ 8; omega⟩, zero_reg, ⟨h'.1.2.1, fun _ => h'.1.2.2⟩, h.2, h'.2⟩
theorem fit_fence : Post (InsP s0) (fence s) := by
  have z : ∀ (m : Int) (s : S), (Fit s ∧ s.done = s0.done ∧ s0.locs.length ≤ s.locs.length) → InsP s0 { op := 7, mode := m } s := fun m s h => ⟨h, ⟨by show (1 : Int) ≤ 7; omega, by show (7 : Int) ≤ 8; omega⟩, zero_reg, ⟨Int.le_refl _, fun hh => absurd hh (by show ¬ (0 : Int) < 0; omega)⟩, zero_arg, zero_arg⟩
  exact (keep_take (fit_stb s0) _ s h).bind fun _ s h => (keep_takes (fit_stb s0) _ s h).bind fun a s h => .ite (.ok (z _ s h)) ((keep_takes (fit_stb s0) _ s h).bind fun _ s h => .ok (z _ s h))
theorem fit_skip : Post (InsP s0) (skip s) :=
  (keep_take (fit_stb s0) _ s h).bind fun _ s h => (keep_num (fit_stb s0) s h).bind fun n s h => (keep_take (fit_stb s0) _ s h).bind fun _ s h => (post_operation (fit_stb s0) _ s h).bind fun x s h =>
    .ok ⟨h.1, ⟨by show (1 : Int) ≤ 8; omega, by show (8 : Int) ≤ 8; omega⟩, zero_reg, ⟨Int.le_refl _, fun hh => absurd hh (by show ¬ (0 : Int) < 0; omega)⟩, h.2.1, h.2.2⟩
theorem fit_source : Post (InsP s0) (source s) := by
  unfold source
  simp only
  exact .ite (fit_load s0 s h) (.ite (fit_move s0 s h) (.ite (fit_move s0 s h) (.ite (fit_swap s0 s h) (.ite (fit_fetch s0 s h) (.ite (fit_cas s0 s h) .bad)))))
theorem fit_assignment : Post (InsP s0) (assignment s) :=
  (post_reg (fit_stb s0) s h).bind fun d s h => (keep_take (fit_stb s0) _ s h.1).bind fun _ s h' => (fit_source s0 s h').bind fun x s h'' => .ok ⟨h''.1, h''.2.op, h.2, h''.2.loc, h''.2.a, h''.2.b⟩
theorem fit_ins : Post (InsP s0) (ins s) := by
  unfold ins
  simp only
  exact .ite (fit_store s0 s h) (.ite (fit_assignment s0 s h) (.ite (fit_fence s0 s h) (.ite (fit_skip s0 s h) .bad)))
end
end PX
end Go.Proofs.Ytglbmiadgdadfaa
end

section
/- What a parsed program respects: its lines. Pure. -/
namespace Go.Proofs.Ytglbmiadgdadfaa
open Go Go.RowKit
namespace PX
theorem Fit.sameLocs {s : S} (h : Fit s) : s.locs.length ≤ s.locs.length := Nat.le_refl _
theorem post_word (s0 s : S) (h : Fit s ∧ s.done = s0.done ∧ s0.locs.length ≤ s.locs.length) : Post (fun t s' => (Fit s' ∧ s'.done = s0.done ∧ s0.locs.length ≤ s'.locs.length) ∧ t.x.size ≠ 0) (takeWord s) := by
  have k := keep_takeWord (fit_stb s0) s h
  refine k.and ?_
  unfold takeWord takeIf
  split
  · rename_i hk
    have hk' : (next s).k = 1 := by simpa using hk
    have hne : s.rest ≠ [] := fun e => by
      unfold next at hk'
      rw [e] at hk'
      exact absurd hk' (by show ¬ (0 : Int) = 1; omega)
    exact .ok ((h.1.toks _ (next_mem hne)).2 hk')
  · exact .bad
section
variable {s : S} (h : Fit s)
include h
theorem fit_titleLine (hd : s.done = 0) : Post (fun _ s' => Fit s') (titleLine s) := by
  have hi := inv_titleLine h.inv hd
  suffices k : Post (fun _ s' => Inv s' → Fit s') (titleLine s) from (hi.and k).mono fun _ s' x => x.2 x.1.1
  unfold titleLine
  refine (keep_take (fit_stb s) _ s ⟨h, rfl, Nat.le_refl _⟩).bind fun _ s1 h1 => (post_word s s1 h1).bind fun t s2 h2 => ?_
  obtain ⟨⟨h2, hd2, _⟩, ht⟩ := h2
  have h3 : Fit { s2 with name := t.x } := ⟨⟨h2.inv.opn, h2.inv.l6, h2.inv.done, h2.inv.t4, h2.inv.i12, h2.inv.some_⟩, h2.toks, h2.names, h2.nodup, h2.ilen, h2.ins, fun _ => ht, h2.ask, h2.deep⟩
  refine ((keep_take (fit_stb { s2 with name := t.x }) _ _ ⟨h3, rfl, Nat.le_refl _⟩).and (keep_take (lv_stb { s2 with name := t.x }) _ _ (Lv.refl _))).bind fun _ s4 h4 => .ok fun hv => ?_
  obtain ⟨⟨h4, _⟩, hl⟩ := h4
  refine ⟨hv, h4.toks, h4.names, h4.nodup, h4.ilen, h4.ins, fun _ => ?_, fun hh => ?_, fun hh => ?_⟩
  · show s4.name.size ≠ 0
    rw [hl.2.1]; exact ht
  · have : (1 : Int) = 4 := hh; omega
  · have : (1 : Int) = 4 := hh; omega
theorem fit_value : Post (fun _ s' => Fit s' ∧ s'.done = s.done) (value s) := by
  unfold value
  refine (keep_loc (fit_stb s) s ⟨h, rfl, Nat.le_refl _⟩).bind fun l s1 h1 => ?_
  split
  · exact .bad
  · refine (keep_take (fit_stb s) _ s1 h1).bind fun _ s2 h2 => (keep_num (fit_stb s) s2 h2).bind fun v s3 h3 => .ok ?_
    refine ⟨⟨⟨h3.1.inv.opn, h3.1.inv.l6, h3.1.inv.done, h3.1.inv.t4, h3.1.inv.i12, h3.1.inv.some_⟩, h3.1.toks, h3.1.names, h3.1.nodup, ?_, h3.1.ins, h3.1.named, h3.1.ask, h3.1.deep⟩, h3.2.1⟩
    show (s3.init.set _ _).length = s3.locs.length
    rw [List.length_set]; exact h3.1.ilen
end
theorem fit_values : ∀ (n : Nat) (s : S), Fit s → Post (fun _ s' => Fit s' ∧ s'.done = s.done) (values n s)
  | 0, s, h => .ok ⟨h, rfl⟩
  | n + 1, s, h => by
    unfold values
    refine (keep_takes (fit_stb s) _ s ⟨h, rfl, Nat.le_refl _⟩).bind fun b s1 h1 => ?_
    split
    · exact .ok ⟨h1.1, h1.2.1⟩
    · exact (fit_value h1.1).bind fun _ s2 h2 => (fit_values n s2 h2.1).mono fun _ s3 h3 => ⟨h3.1, by rw [h3.2, h2.2, h1.2.1]⟩
theorem post_deep (at_ : Int) (s : S) : Post (fun c _ => deep c ≤ 20) (lastCond at_ s) := by
  unfold lastCond
  refine Post.bind (Q := fun _ _ => True) (fun _ _ _ => trivial) fun c s _ => Post.bind (Q := fun _ _ => True) (fun _ _ _ => trivial) fun _ s _ => ?_
  split
  · exact .bad
  · exact .ok (by omega)
theorem ask_sym {t : TokD} {k : ByteArray} (hk : k = kSome ∨ k = kNone ∨ k = kAll) (h : sy t = k) : t.x = k := by
  have n1 : k ≠ sNAME := by rcases hk with rfl | rfl | rfl <;> decide
  have n2 : k ≠ sREG := by rcases hk with rfl | rfl | rfl <;> decide
  have n3 : k ≠ sNUM := by rcases hk with rfl | rfl | rfl <;> decide
  have n4 : k ≠ sEND := by rcases hk with rfl | rfl | rfl <;> decide
  have n5 : k ≠ sNo := by rcases hk with rfl | rfl | rfl <;> decide
  unfold sy at h
  by_cases h1 : t.k = 1
  · rw [if_pos h1] at h
    unfold wsy at h
    by_cases hq : LX.keptB (bsOf t.x) = true
    · rw [if_pos hq] at h; exact h
    · rw [if_neg hq] at h
      by_cases hn : LX.nameB (bsOf t.x) = true
      · rw [if_pos hn] at h; exact absurd h.symm n1
      · rw [if_neg hn] at h
        by_cases hr : LX.regOk (bsOf t.x) = true
        · rw [if_pos hr] at h; exact absurd h.symm n2
        · rw [if_neg hr] at h; exact absurd h.symm n5
  · rw [if_neg h1] at h
    by_cases h2 : t.k = 2
    · rw [if_pos h2] at h; exact absurd h.symm n3
    · rw [if_neg h2] at h
      by_cases h3 : t.k = 3
      · rw [if_pos h3] at h; exact h
      · rw [if_neg h3] at h
        by_cases h4 : t.k = 4
        · rw [if_pos h4] at h; exact absurd h.symm n4
        · rw [if_neg h4] at h; exact absurd h.symm n5
theorem post_ask (s : S) : Post (fun t _ => 1 ≤ askOf t.x ∧ askOf t.x ≤ 3) (take [kSome, kNone, kAll] s) := by
  unfold take takeIf
  split
  · rename_i hf
    unfold isS at hf
    simp only [List.any_cons, List.any_nil, Bool.or_false, Bool.or_eq_true, PP.bbeq, decide_eq_true_eq] at hf
    refine .ok ?_
    rcases hf with hf | hf | hf
    · rw [ask_sym (.inl rfl) hf.symm]; decide
    · rw [ask_sym (.inr (.inl rfl)) hf.symm]; decide
    · rw [ask_sym (.inr (.inr rfl)) hf.symm]; decide
  · exact .bad
section
variable {s : S} (h : Fit s)
include h
theorem fit_initLine (hd : 1 ≤ s.done) : Post (fun _ s' => Fit s') (initLine s) := by
  suffices k : Post (fun _ s' => Inv s' → Fit s') (initLine s) from ((inv_initLine h.inv).and k).mono fun _ s' x => x.2 x.1
  unfold initLine
  refine (keep_take (fit_stb s) _ s ⟨h, rfl, Nat.le_refl _⟩).bind fun _ s1 h1 => (fit_value h1.1).bind fun _ s2 h2 => (fit_values _ s2 h2.1).bind fun _ s3 h3 => .ok fun hv => ?_
  obtain ⟨h3, hd3⟩ := h3
  refine ⟨hv, h3.toks, h3.names, h3.nodup, h3.ilen, h3.ins, fun _ => h3.named (by rw [hd3, h2.2, h1.2.1]; exact hd), fun hh => ?_, fun hh => ?_⟩
  · have : (2 : Int) = 4 := hh; omega
  · have : (2 : Int) = 4 := hh; omega
theorem fit_threadLine (hd : 1 ≤ s.done) : Post (fun _ s' => Fit s') (threadLine s) := by
  suffices k : Post (fun _ s' => Inv s' → Fit s') (threadLine s) from ((inv_threadLine h.inv).and k).mono fun _ s' x => x.2 x.1
  unfold threadLine
  refine (keep_take (fit_stb s) _ s ⟨h, rfl, Nat.le_refl _⟩).bind fun t s1 h1 => ?_
  split
  · exact .bad
  · refine (keep_take (fit_stb s) _ s1 h1).bind fun _ s2 h2 => .ok fun hv => ?_
    obtain ⟨h2, hd2, _⟩ := h2
    refine ⟨hv, h2.toks, h2.names, h2.nodup, h2.ilen, fun k hk x hx => ?_, fun _ => h2.named (by rw [hd2]; exact hd), fun hh => ?_, fun hh => ?_⟩
    · rcases List.mem_append.1 hk with hk | hk
      · exact h2.ins k hk x hx
      · rw [List.mem_singleton.1 hk] at hx; cases hx
    · have : (3 : Int) = 4 := hh; omega
    · have : (3 : Int) = 4 := hh; omega
theorem fit_insLine (h3 : 3 ≤ s.done) : Post (fun _ s' => Fit s') (insLine s) := by
  unfold insLine
  split
  · exact .bad
  · rename_i hn
    refine (Post.and (fit_ins s s ⟨h, rfl, Nat.le_refl _⟩) (keep_ins (lv_stb s) s (Lv.refl s))).bind fun x s1 h1 => ?_
    obtain ⟨⟨⟨h1, _⟩, hx⟩, hl⟩ := h1
    obtain ⟨li, k, hth⟩ : ∃ li k, s.threads = li ++ [k] := ⟨_, _, (List.dropLast_concat_getLast (h.inv.some_ h3)).symm⟩
    have hth1 : s1.threads = li ++ [k] := by rw [hl.2.2.1]; exact hth
    have hk : k.length ≠ 12 := by rw [hth] at hn; simpa using hn
    have hm : ∀ m ∈ s1.threads.dropLast ++ [s1.threads.getLastD [] ++ [x]], m ∈ s1.threads ∨ m = k ++ [x] := fun m hm => by
      rw [hth1] at hm ⊢
      simp at hm ⊢
      rcases hm with hm | hm
      · exact .inl (.inl hm)
      · exact .inr hm
    have hkm : k ∈ s1.threads := by rw [hth1]; simp
    have h2 : Fit { s1 with threads := s1.threads.dropLast ++ [s1.threads.getLastD [] ++ [x]] } := by
      refine ⟨⟨h1.inv.opn, h1.inv.l6, h1.inv.done, ?_, fun m hmm => ?_, fun _ => by simp⟩, h1.toks, h1.names, h1.nodup, h1.ilen, fun m hmm y hy => ?_, h1.named, h1.ask, h1.deep⟩
      · show (s1.threads.dropLast ++ [_]).length ≤ 4
        have := h1.inv.t4
        rw [hth1] at this ⊢
        simp at this ⊢; omega
      · rcases hm m hmm with hmm | rfl
        · exact h1.inv.i12 m hmm
        · have := h1.inv.i12 k hkm
          simp; omega
      · rcases hm m hmm with hmm | rfl
        · exact h1.ins m hmm y hy
        · rcases List.mem_append.1 hy with hy | hy
          · exact h1.ins k hkm y hy
          · rw [List.mem_singleton.1 hy]; exact hx
    exact (keep_take (fit_stb _) _ _ ⟨h2, rfl, Nat.le_refl _⟩).bind fun _ s4 h4 => .ok h4.1
theorem fit_queryLine (h3 : 3 ≤ s.done) : Post (fun _ s' => Fit s') (queryLine s) := by
  suffices k : Post (fun _ s' => Inv s' → Fit s') (queryLine s) from ((inv_queryLine h.inv h3).and k).mono fun _ s' x => x.2 x.1
  unfold queryLine
  refine ((keep_take (fit_stb s) _ s ⟨h, rfl, Nat.le_refl _⟩).and (post_ask s)).bind fun t s1 h1 => ?_
  obtain ⟨⟨h1, hd1, _⟩, ha⟩ := h1
  have e : (if askOf t.x = 0 then s1.ask else askOf t.x) = askOf t.x := if_neg (by omega)
  rw [e]
  have hn4 : s1.done ≠ 4 ∨ s1.done = 4 := by omega
  have h2 : Fit { s1 with ask := askOf t.x } := ⟨⟨h1.inv.opn, h1.inv.l6, h1.inv.done, h1.inv.t4, h1.inv.i12, h1.inv.some_⟩, h1.toks, h1.names, h1.nodup, h1.ilen, h1.ins, h1.named, fun _ => ha, h1.deep⟩
  refine (((keep_lastCond (fit_stb { s1 with ask := askOf t.x }) _ _ ⟨h2, rfl, Nat.le_refl _⟩).and (keep_lastCond (lv_stb { s1 with ask := askOf t.x }) _ _ (Lv.refl _))).and (post_deep _ _)).bind fun c s3 h4 => .ok fun hv => ?_
  obtain ⟨⟨⟨h4, hd4, _⟩, hl⟩, hdp⟩ := h4
  refine ⟨hv, h4.toks, h4.names, h4.nodup, h4.ilen, h4.ins, fun _ => h4.named ?_, fun _ => ?_, fun _ => hdp⟩
  · rw [hd4]; show 1 ≤ s1.done; rw [hd1]; omega
  · show 1 ≤ s3.ask ∧ s3.ask ≤ 3
    rw [hl.2.2.2.1]; exact ha
theorem fit_line : Post (fun _ s' => Fit s') (line s) := by
  rw [line_eq]
  generalize PX.sy (PX.next s) = y
  unfold lineB
  have hd := h.inv.done
  by_cases h0 : s.done = 0
  · rw [if_pos h0]
    exact .ite (fit_titleLine h h0) (post_wrong s)
  rw [if_neg h0]
  by_cases h1 : s.done = 1
  · rw [if_pos h1]
    exact .ite (fit_initLine h (by omega)) (.ite (fit_threadLine h (by omega)) (post_wrong s))
  rw [if_neg h1]
  by_cases h2 : s.done = 2
  · rw [if_pos h2]
    exact .ite (fit_threadLine h (by omega)) (post_wrong s)
  rw [if_neg h2]
  have h3 : 3 ≤ s.done := by omega
  exact .ite (fit_threadLine h (by omega)) (.ite (fit_insLine h h3) (.ite (fit_insLine h h3) (.ite (fit_insLine h h3) (.ite (fit_insLine h h3) (.ite (fit_queryLine h h3) (.ite (fit_queryLine h h3) (.ite (fit_queryLine h h3) (post_wrong s))))))))
end
theorem fit_prog : ∀ (n : Nat) (s : S), Fit s → s.rest.length < n → Post (fun _ s' => Fit s' ∧ s'.done = 4) (prog n s)
  | 0, s, _, hn => by omega
  | n + 1, s, h, hn => by
    unfold prog
    split
    · rename_i hd
      exact .ok ⟨h, hd⟩
    · exact ((fit_line h).and (line_lt s)).bind fun _ s1 h1 => fit_prog n s1 h1.1 (by omega)
end PX
end Go.Proofs.Ytglbmiadgdadfaa
end

section
/- Parse, of any text. -/
namespace Go.Proofs.Ytglbmiadgdadfaa
open Go.RowKit Go.Shelf

attribute [local go_sem] Oper.semAt_some
namespace PP
/-- What Parse answers. -/
def ParsePost (s : ByteArray) (w : World) (e : Ending) (w' : World) : Prop :=
  Below w.heap.size w w' ∧ match PX.parse s with
    | .ok _ st => ∃ b h, w.heap.size ≤ b ∧ e = .returned (.tuple #[progV st h, .int .i64 0, .int .i64 0]) ∧ PgM w' b st h
    | .bad p x => e = .returned (.tuple #[.agg progZ, .int .i64 p, .int .i64 x])
theorem PgM.shape {W : World} {b : Nat} {st : PX.S} {h : Hd} (P5 : PgM W b st h) : ∃ (a2 a6 a7 xa : Option Addr) (n2 p2 n6 p6 p7 xl xp : Nat) (xc : CV), progV st h = .agg #[.string st.name, .slice a2 n2 p2, .slice a6 n6 p6, .slice a7 st.threads.length p7, .int .u8 st.ask, .int .u8 xc.k, .int .u8 xc.t, .int .u8 xc.n, .int .u8 xc.v, .slice xa xl xp] := by
  obtain ⟨xc, k0, k1, k2, k3, k4, k5⟩ := P5.cnd
  obtain ⟨xa, xl, xp, hu⟩ := k5.slice
  rw [hu] at k4
  obtain ⟨a2, n2, p2, hvl⟩ : ∃ a n cap, h.vl = .slice a n cap := by
    rcases P5.locs.2 with ⟨e, _⟩ | ⟨g, cap, cur, e, _⟩
    · exact ⟨_, _, _, e⟩
    · exact ⟨_, _, _, e⟩
  obtain ⟨a6, n6, p6, hvi⟩ : ∃ a n cap, h.vi = .slice a n cap := by
    rcases P5.init.2 with ⟨e, _⟩ | ⟨g, cap, cur, e, _⟩
    · exact ⟨_, _, _, e⟩
    · exact ⟨_, _, _, e⟩
  obtain ⟨a7, p7, hvt⟩ := P5.thr.sl
  exact ⟨a2, a6, a7, xa, n2, p2, n6, p6, p7, xl, xp, xc, by unfold progV; rw [hvl, hvi, hvt, k0, k1, k2, k3, k4]⟩
theorem parse_results (tmps : Array Value) (W : World) (k : Nat) (cs : Array Value) (p x : Int) (hs : cs.size = 10) (h2 : tmps[2]?.getD undef = .pointer (some ⟨k, 0, none⟩)) (h3 : tmps[3]?.getD undef = .int .i64 p) (h4 : tmps[4]?.getD undef = .int .i64 x)
    (r0 : W.heap[k]? = some (.cells cs 39 (0, 0))) :
    (results Try.f12 tmps).run Try.prog W = .ok (.tuple #[.agg cs, .int .i64 p, .int .i64 x]) W := by
  have l0 := run_loadVar_row (P := Try.prog) W k 39 39 cs (0, 0) _ r0 Try.underlying39 rfl (by rw [sizeProg, hs])
  simp [results, Try.results12, h2, h3, h4, asAddr, l0]
set_option maxRecDepth 100000 in
set_option maxHeartbeats 16000000 in
theorem parse_any (s : ByteArray) (w : World) : Calls Try.prog 12 #[.string s] w (ParsePost s w) := by
  have z0 := row_alloc (heap_alloc_new w (.cells progZ 39)) (.cells (parZ true (.slice none 0 0)) 54)
  have zb := heap_alloc_new (w.alloc (.cells progZ 39)) (.cells (parZ true (.slice none 0 0)) 54)
  have B0 := ((Below.refl w.heap.size w).alloc (Nat.le_refl _) (.cells progZ 39)).alloc (by simp) (.cells (parZ true (.slice none 0 0)) 54)
  simp only [World.size_alloc] at zb
  have CR := readProg_any s (w.heap.size + 1) _ zb
  unfold ReadPost at CR
  unfold ParsePost
  unfold progZ parZ at CR B0 z0
  have ht2 : 39 ∉ T2 := by simp [T2]
  replace B0 := Lib.hid B0
  rcases hp : PX.parse s with ⟨u, st⟩ | ⟨p, x⟩
  · rw [hp] at CR
    replace CR := Lib.hid CR
    go_enter Try.func12, Try.ntmps12
    go_wp2_with (first
      | (go_at_call 17; refine (CR.out).mono ?_; rintro e w1 ⟨F1, h, rfl, P1⟩
         have r0 := F1.box z0 (by omega) ht2
         have B1 := Lib.hid (B0.out.trans ((Fr.below F1 (by simp)).mono (by omega)))
         obtain ⟨a2, a6, a7, xa, n2, p2, n6, p6, p7, xl, xp, xc, hv⟩ := P1.shape
         rw [hv]
         have d0 := cell_of_row _ w.heap.size 0 _ _ _ r0
         have d1 := cell_of_row _ w.heap.size 1 _ _ _ r0
         have d2 := cell_of_row _ w.heap.size 2 _ _ _ r0
         have d3 := cell_of_row _ w.heap.size 3 _ _ _ r0
         have d4 := cell_of_row _ w.heap.size 4 _ _ _ r0
         have d5 := cell_of_row _ w.heap.size 5 _ _ _ r0
         have d6 := cell_of_row _ w.heap.size 6 _ _ _ r0
         have d7 := cell_of_row _ w.heap.size 7 _ _ _ r0
         have d8 := cell_of_row _ w.heap.size 8 _ _ _ r0
         have d9 := cell_of_row _ w.heap.size 9 _ _ _ r0
         simp only [List.getElem?_toArray, List.getElem?_cons_zero, List.getElem?_cons_succ] at d0 d1 d2 d3 d4 d5 d6 d7 d8 d9
         have f0 := fun j => frozen_of_row _ w.heap.size j _ _ r0
         replace r0 := Lib.hid r0
         replace P1 := Lib.hid P1
         replace hv := Lib.hid hv))
    have q0 := setP_row (.string st.name) (.slice a2 n2 p2) (.slice a6 n6 p6) (.slice a7 st.threads.length p7) (.int .u8 st.ask) (.int .u8 xc.k) (.int .u8 xc.t) (.int .u8 xc.n) (.int .u8 xc.v) (.slice xa xl xp) r0.out
    have hPk : PgM (setP w1 w.heap.size (.string st.name) (.slice a2 n2 p2) (.slice a6 n6 p6) (.slice a7 st.threads.length p7) (.int .u8 st.ask) (.int .u8 xc.k) (.int .u8 xc.t) (.int .u8 xc.n) (.int .u8 xc.v) (.slice xa xl xp)) (w.heap.size + 1) st h := P1.out.keep fun i D t hi ht hh => setP_keep _ _ _ _ _ _ _ _ _ _ hh (by omega)
    have hB := (setP_fr (T := []) (b := w.heap.size) (.string st.name) (.slice a2 n2 p2) (.slice a6 n6 p6) (.slice a7 st.threads.length p7) (.int .u8 st.ask) (.int .u8 xc.k) (.int .u8 xc.t) (.int .u8 xc.n) (.int .u8 xc.v) (.slice xa xl xp) (Fr.of_below B1.out) (Nat.le_refl _)).below (Nat.le_refl _)
    obtain ⟨Y, hY⟩ : ∃ Y, setP w1 w.heap.size (.string st.name) (.slice a2 n2 p2) (.slice a6 n6 p6) (.slice a7 st.threads.length p7) (.int .u8 st.ask) (.int .u8 xc.k) (.int .u8 xc.t) (.int .u8 xc.n) (.int .u8 xc.v) (.slice xa xl xp) = Y := ⟨_, rfl⟩
    rw [hY] at q0 hPk hB
    unfold setP at hY
    rw [hY]
    clear hY
    have hR : ParsePost s w (.returned (.tuple #[.agg #[.string st.name, .slice a2 n2 p2, .slice a6 n6 p6, .slice a7 st.threads.length p7, .int .u8 st.ask, .int .u8 xc.k, .int .u8 xc.t, .int .u8 xc.n, .int .u8 xc.v, .slice xa xl xp], .int .i64 0, .int .i64 0])) Y := by
      unfold ParsePost
      rw [hp]
      exact ⟨hB, w.heap.size + 1, h, by omega, by rw [hv.out], hPk⟩
    unfold ParsePost at hR
    rw [hp] at hR
    exact bodyPost_ret (v := .tuple #[.agg #[.string st.name, .slice a2 n2 p2, .slice a6 n6 p6, .slice a7 st.threads.length p7, .int .u8 st.ask, .int .u8 xc.k, .int .u8 xc.t, .int .u8 xc.n, .int .u8 xc.v, .slice xa xl xp], .int .i64 0, .int .i64 0]) (parse_results _ _ w.heap.size #[.string st.name, .slice a2 n2 p2, .slice a6 n6 p6, .slice a7 st.threads.length p7, .int .u8 st.ask, .int .u8 xc.k, .int .u8 xc.t, .int .u8 xc.n, .int .u8 xc.v, .slice xa xl xp] 0 0 rfl rfl rfl rfl q0) rfl hR
  · rw [hp] at CR
    replace CR := Lib.hid CR
    go_enter Try.func12, Try.ntmps12
    go_wp2_with (first
      | (go_at_call 17; refine (CR.out).mono ?_; rintro e w1 ⟨F1, rfl⟩
         have r0 := F1.box z0 (by omega) ht2
         have B1 := Lib.hid (B0.out.trans ((Fr.below F1 (by simp)).mono (by omega)))
         have d0 := cell_of_row _ w.heap.size 0 _ _ _ r0
         have d1 := cell_of_row _ w.heap.size 1 _ _ _ r0
         have d2 := cell_of_row _ w.heap.size 2 _ _ _ r0
         have d3 := cell_of_row _ w.heap.size 3 _ _ _ r0
         have d4 := cell_of_row _ w.heap.size 4 _ _ _ r0
         have d5 := cell_of_row _ w.heap.size 5 _ _ _ r0
         have d6 := cell_of_row _ w.heap.size 6 _ _ _ r0
         have d7 := cell_of_row _ w.heap.size 7 _ _ _ r0
         have d8 := cell_of_row _ w.heap.size 8 _ _ _ r0
         have d9 := cell_of_row _ w.heap.size 9 _ _ _ r0
         simp only [List.getElem?_toArray, List.getElem?_cons_zero, List.getElem?_cons_succ] at d0 d1 d2 d3 d4 d5 d6 d7 d8 d9
         have f0 := fun j => frozen_of_row _ w.heap.size j _ _ r0
         replace r0 := Lib.hid r0))
    have q0 := setP_row (.string ⟨#[]⟩) (.slice none 0 0) (.slice none 0 0) (.slice none 0 0) (.int .u8 0) (.int .u8 0) (.int .u8 0) (.int .u8 0) (.int .u8 0) (.slice none 0 0) r0.out
    have hB := (setP_fr (T := []) (b := w.heap.size) (.string ⟨#[]⟩) (.slice none 0 0) (.slice none 0 0) (.slice none 0 0) (.int .u8 0) (.int .u8 0) (.int .u8 0) (.int .u8 0) (.int .u8 0) (.slice none 0 0) (Fr.of_below B1.out) (Nat.le_refl _)).below (Nat.le_refl _)
    obtain ⟨Y, hY⟩ : ∃ Y, setP w1 w.heap.size (.string ⟨#[]⟩) (.slice none 0 0) (.slice none 0 0) (.slice none 0 0) (.int .u8 0) (.int .u8 0) (.int .u8 0) (.int .u8 0) (.int .u8 0) (.slice none 0 0) = Y := ⟨_, rfl⟩
    rw [hY] at q0 hB
    unfold setP at hY
    rw [hY]
    clear hY
    exact bodyPost_ret (v := .tuple #[.agg progZ, .int .i64 p, .int .i64 x]) (parse_results _ _ w.heap.size progZ p x rfl rfl rfl rfl q0) rfl ⟨hB, rfl⟩
end PP
end Go.Proofs.Ytglbmiadgdadfaa
end

section
/- The chapter's examples, computed. -/
namespace Go.Proofs.Ytglbmiadgdadfaa
open Go.RowKit Go.Shelf
namespace PP
def exP : ByteArray := ⟨#[116, 101, 115, 116, 32, 83, 66, 10, 105, 110, 105, 116, 32, 120, 32, 61, 32, 49, 10, 116, 104, 114, 101, 97, 100, 10, 120, 32, 61, 32, 49, 10, 114, 49, 32, 61, 32, 121, 32, 97, 99, 113, 10, 116, 104, 114, 101, 97, 100, 10, 121, 32, 61, 32, 50, 32, 114, 101, 108, 10, 115, 111, 109, 101, 32, 48, 58, 114, 49, 32, 61, 32, 48, 32, 38, 32, 33, 32, 120, 32, 61, 32, 49, 32, 124, 32, 116, 114, 117, 101, 10]⟩
def exPT : List LX.Tk := [⟨1, 0, 4⟩, ⟨1, 5, 7⟩, ⟨4, 7, 7⟩, ⟨1, 8, 12⟩, ⟨1, 13, 14⟩, ⟨3, 15, 16⟩, ⟨2, 17, 18⟩, ⟨4, 18, 18⟩, ⟨1, 19, 25⟩, ⟨4, 25, 25⟩, ⟨1, 26, 27⟩, ⟨3, 28, 29⟩, ⟨2, 30, 31⟩, ⟨4, 31, 31⟩, ⟨1, 32, 34⟩, ⟨3, 35, 36⟩, ⟨1, 37, 38⟩, ⟨1, 39, 42⟩, ⟨4, 42, 42⟩, ⟨1, 43, 49⟩, ⟨4, 49, 49⟩, ⟨1, 50, 51⟩, ⟨3, 52, 53⟩, ⟨2, 54, 55⟩, ⟨1, 56, 59⟩, ⟨4, 59, 59⟩, ⟨1, 60, 64⟩, ⟨2, 65, 66⟩, ⟨3, 66, 67⟩, ⟨1, 67, 69⟩, ⟨3, 70, 71⟩, ⟨2, 72, 73⟩, ⟨3, 74, 75⟩, ⟨3, 76, 77⟩, ⟨1, 78, 79⟩, ⟨3, 80, 81⟩, ⟨2, 82, 83⟩, ⟨3, 84, 85⟩, ⟨1, 86, 90⟩, ⟨4, 90, 90⟩]
def exQ : ByteArray := ⟨#[116, 101, 115, 116, 32, 97, 10, 116, 104, 114, 101, 97, 100, 10, 115, 111, 109, 101]⟩
def exQT : List LX.Tk := [⟨1, 0, 4⟩, ⟨1, 5, 6⟩, ⟨4, 6, 6⟩, ⟨1, 7, 13⟩, ⟨4, 13, 13⟩, ⟨1, 14, 18⟩, ⟨4, 18, 18⟩]
theorem outP : LX.out (bsOf exP) = (exPT, 0, 0) := by rw [LX.out_eq]; decide +kernel
theorem outQ : LX.out (bsOf exQ) = (exQT, 0, 0) := by rw [LX.out_eq]; decide +kernel
theorem parse_of_out {s : ByteArray} {l : List LX.Tk} (h : LX.out (bsOf s) = (l, 0, 0)) : PX.parse s = PX.prog (l.length + 1) { rest := l.map (tokD s), size := (s.size : Int), locs := [], opn := true } := by
  rw [parse_eq, h, if_pos rfl]
  unfold PX.start toks
  rw [h, List.length_map]
def bX : ByteArray := ⟨#[120]⟩
def bY : ByteArray := ⟨#[121]⟩
def bSB : ByteArray := ⟨#[83, 66]⟩
def exI0 : PX.InsD := { op := 2, loc := 0, a := ⟨false, 1⟩ }
def exI1 : PX.InsD := { op := 1, dst := 1, loc := 1, mode := 1 }
def exI2 : PX.InsD := { op := 2, loc := 1, a := ⟨false, 2⟩, mode := 2 }
def exC : PX.CondD := .mk 4 0 0 0 [.mk 3 0 0 0 [.mk 1 0 1 0 [], .mk 5 0 0 0 [.mk 2 0 0 1 []]], .mk 0 0 0 0 []]
theorem parseP : PX.parse exP = .ok () { rest := [], size := 91, locs := [bX, bY], opn := true, name := bSB, init := [1, 0], threads := [[exI0, exI1], [exI2]], ask := 1, cond := exC, done := 4 } := by
  rw [parse_of_out outP]
  kernel_rfl
theorem parseQ : PX.parse exQ = .bad 18 50 := by
  rw [parse_of_out outQ]
  kernel_rfl
theorem deepC : PX.deep exC = 4 := by decide +kernel
end PP
end Go.Proofs.Ytglbmiadgdadfaa
end

section
/- Loads of whole structs in a region that is walked once. -/
namespace Go.Proofs.Ytglbmiadgdadfaa
open Go.RowKit

theorem run_loadVar_at {P : Program} (w : World) (ad : Addr) (ty : TypeId) (cs : Array Value) (d : TypeDesc) (hc : ∀ j v, cs.toList[j]? = some v → w.cell? (ad.add j) = some v)
    (hu : P.underlying ty = some d) (hd : (match d with | .struct _ | .array _ _ => true | _ => false) = true) (hi : (P.info? ty).map (·.size) = some cs.size) :
    (loadVar ty ad).run P w = .ok (.agg cs) w := by
  have hl : (loadCells ad cs.toList.length).run P w = .ok cs.toList.toArray w := run_loadCells_list (P := P) w ad cs.toList hc
  cases hq : P.info? ty with
  | none => simp [hq] at hi
  | some i =>
    have hs : i.size = cs.size := by simpa [hq] using hi
    have hagg : (isAgg ty).run P w = .ok true w := by
      unfold isAgg
      rw [Sem.run_bind, run_underlying hu w]
      cases d <;> simp_all
    simp only [Array.length_toList, Array.toArray_toList] at hl
    simp [loadVar, Sem.run_bind, hagg, sizeOf, typeInfo, hq, hs, hl]
/-- The load of a whole struct that reads alike in every world of the class. -/
theorem quiet_loadS {P : Program} {o : Oper} {a : Act} {C : World → Prop} {K : Act → Prop} (ty : TypeId) (x : Operand) (ho : o.op = .load ty x) (ad : Addr) (hx : a.eval x = .pointer (some ad)) (cs : Array Value) (d : TypeDesc)
    (hu : P.underlying ty = some d) (hd : (match d with | .struct _ | .array _ _ => true | _ => false) = true) (hi : (P.info? ty).map (·.size) = some cs.size)
    (hc : ∀ W, C W → ∀ j v, cs.toList[j]? = some v → W.cell? (ad.add j) = some v) (hk : K (a.put o.dst (.agg cs))) : o.quiet P a C K := by
  refine ⟨.agg cs, fun W hW => ?_, hk⟩
  have hr : (execOp a.eval o).run P W = .ok (.value (.agg cs)) W := by
    unfold execOp
    simp only [ho, hx, Instr.loadAt, Instr.sureAddr, Sem.run_bind, Sem.run_pure, Result.andThen_ok, run_loadVar_at W ad ty cs d (hc W hW) hu hd hi]
  unfold Oper.quietAt
  rw [hr]
  exact ⟨rfl, rfl⟩
end Go.Proofs.Ytglbmiadgdadfaa
end

section
/- The chapter's examples. -/
namespace Go.Proofs.Ytglbmiadgdadfaa
open Go.RowKit Go.Shelf
open Go.BigFrame

attribute [local go_sem] Oper.semAt_some
namespace PP
def stE : PX.S := { rest := [], size := 91, locs := [bX, bY], opn := true, name := bSB, init := [1, 0], threads := [[exI0, exI1], [exI2]], ask := 1, cond := exC, done := 4 }
theorem parseEP (w : World) : Calls Try.prog 12 #[.string exP] w fun e w' => Below w.heap.size w w' ∧ ∃ b h, w.heap.size ≤ b ∧ e = .returned (.tuple #[progV stE h, .int .i64 0, .int .i64 0]) ∧ PgM w' b stE h := by
  have := parse_any exP w
  unfold ParsePost at this
  rw [parseP] at this
  exact this
theorem parseEQ (w : World) : Calls Try.prog 12 #[.string exQ] w fun e w' => Below w.heap.size w w' ∧ e = .returned (.tuple #[.agg progZ, .int .i64 18, .int .i64 50]) := by
  have := parse_any exQ w
  unfold ParsePost at this
  rw [parseQ] at this
  exact this
/-- Where the first example's parts lie. -/
structure ExM (W : World) (h : Hd) (gl cl gi ci gt ct g0 c0 g1 c1 gc cc : Nat) : Prop where
  vl : h.vl = .slice (some ⟨gl, 0, none⟩) 2 cl
  vi : h.vi = .slice (some ⟨gi, 0, none⟩) 2 ci
  vt : h.vt = .slice (some ⟨gt, 0, none⟩) 2 ct
  k0 : h.c0 = .int .u8 4
  k1 : h.c1 = .int .u8 0
  k2 : h.c2 = .int .u8 0
  k3 : h.c3 = .int .u8 0
  k4 : h.c4 = .slice (some ⟨gc, 0, none⟩) 2 cc
  l1 : W.cell? ⟨gl, 1, none⟩ = some (.string ⟨#[121]⟩)
  i0 : W.cell? ⟨gi, 0, none⟩ = some (.int .u8 1)
  i1 : W.cell? ⟨gi, 1, none⟩ = some (.int .u8 0)
  t0 : W.cell? ⟨gt, 0, none⟩ = some (.slice (some ⟨g0, 0, none⟩) 2 c0)
  t1 : W.cell? ⟨gt, 1, none⟩ = some (.slice (some ⟨g1, 0, none⟩) 1 c1)
  x1 : ∀ j, j < 10 → W.cell? ⟨g0, 10 + j, none⟩ = (insC exI1)[j]?
  x2 : ∀ j, j < 10 → W.cell? ⟨g1, j, none⟩ = (insC exI2)[j]?
  q0 : W.cell? ⟨gc, 0, none⟩ = some (.int .u8 3)
  dp : CondR W { k := 4, u := .slice (some ⟨gc, 0, none⟩) 2 cc } exC
theorem cell_on {W W' : World} {p : Addr} {v : Value} (h : W.cell? p = some v) (B : Below W.heap.size W W') : W'.cell? p = some v :=
  (B.cell (World.block_lt_of_cell? W p h)).trans h
theorem insC_at (x : PX.InsD) (j : Nat) (hj : j < 10) : ∃ v, (insC x)[j]? = some v := ⟨_, Array.getElem?_eq_getElem (show j < (insC x).size from hj)⟩
theorem ExM.below {W W' : World} {h : Hd} {gl cl gi ci gt ct g0 c0 g1 c1 gc cc : Nat} (X : ExM W h gl cl gi ci gt ct g0 c0 g1 c1 gc cc) (B : Below W.heap.size W W') : ExM W' h gl cl gi ci gt ct g0 c0 g1 c1 gc cc :=
  ⟨X.vl, X.vi, X.vt, X.k0, X.k1, X.k2, X.k3, X.k4, cell_on X.l1 B, cell_on X.i0 B, cell_on X.i1 B, cell_on X.t0 B, cell_on X.t1 B, fun j hj => by
    obtain ⟨v, hv⟩ := insC_at exI1 j hj
    rw [hv]; exact cell_on ((X.x1 j hj).trans hv) B, fun j hj => by
    obtain ⟨v, hv⟩ := insC_at exI2 j hj
    rw [hv]; exact cell_on ((X.x2 j hj).trans hv) B, cell_on X.q0 B, X.dp.below B⟩
theorem own_two {W : World} {base n size : Nat} {e : TypeId} {v : Value} {xs : List Value} (h : W.ownsRow base e size v (n + 1) xs) : ∃ g c, v = .slice (some ⟨g, 0, none⟩) (n + 1) c ∧ ∀ j, j < (n + 1) * size → W.cell? ⟨g, j, none⟩ = xs[j]? := by
  obtain ⟨g, c, rfl⟩ := own_formT h
  exact ⟨g, c, rfl, fun j hj => World.ownsRow.cellAt h j hj⟩
theorem exM_of {W : World} {b : Nat} {h : Hd} (P : PgM W b stE h) : ∃ gl cl gi ci gt ct g0 c0 g1 c1 gc cc, ExM W h gl cl gi ci gt ct g0 c0 g1 c1 gc cc := by
  obtain ⟨gl, cl, hl, el⟩ := own_two (n := 1) P.locs
  obtain ⟨gi, ci, hi, ei⟩ := own_two (n := 1) P.init
  obtain ⟨vs, o1, o2, o3, o4⟩ := P.thr
  obtain ⟨gt, ct, ht, et⟩ := own_two (n := 1) o1
  obtain ⟨v0, v1, rfl⟩ : ∃ v0 v1, vs = [v0, v1] := by
    match vs, o2 with
    | [v0, v1], _ => exact ⟨v0, v1, rfl⟩
  obtain ⟨g0, c0, h0, e0⟩ := own_two (n := 1) (o3 0 v0 [exI0, exI1] rfl rfl)
  obtain ⟨g1, c1, h1, e1⟩ := own_two (n := 0) (o3 1 v1 [exI2] rfl rfl)
  obtain ⟨x, k0, k1, k2, k3, k4, k5⟩ := P.cnd
  have hR := CondM.toR _ _ k5
  have hM : CondM W (fun g => b < g) x exC := k5
  obtain ⟨xk, xt, xn, xv, xu⟩ := x
  obtain ⟨a1, a2, a3, a4, ⟨a5, _⟩ | ⟨gc, cc, C, ys, hu, _, _, _, _, hC, htk, hk⟩⟩ := hM
  · cases a5
  obtain rfl : xk = 4 := a1
  obtain rfl : xt = 0 := a2
  obtain rfl : xn = 0 := a3
  obtain rfl : xv = 0 := a4
  obtain rfl : xu = .slice (some ⟨gc, 0, none⟩) 2 cc := hu
  obtain ⟨y, yr, rfl, hy, _⟩ := hk
  have hyk : y.k = 3 := hy.1
  have hq : W.cell? ⟨gc, 0, none⟩ = some (.int .u8 3) := by
    rw [cell_of_row _ gc 0 _ _ _ hC]
    have e := congrArg (fun l : List Value => l[0]?) htk
    simp only [List.getElem?_take, if_pos (show 0 < (2 : Nat) * 5 by omega)] at e
    rw [Array.getElem?_toList] at e
    have e' : C[0]? = (cellsC (y :: yr))[0]? := e
    rw [e']
    show some (Value.int .u8 y.k) = _
    rw [hyk]
  refine ⟨gl, cl, gi, ci, gt, ct, g0, c0, g1, c1, gc, cc, hl, hi, ht, k0, k1, k2, k3, k4, ?_, ?_, ?_, ?_, ?_, ?_, ?_, hq, hR⟩
  · exact el 1 (by omega)
  · exact ei 0 (by omega)
  · exact ei 1 (by omega)
  · rw [← h0]; exact et 0 (by omega)
  · rw [← h1]; exact et 1 (by omega)
  · intro j hj
    rw [e0 (10 + j) (by omega)]
    have : j = 0 ∨ j = 1 ∨ j = 2 ∨ j = 3 ∨ j = 4 ∨ j = 5 ∨ j = 6 ∨ j = 7 ∨ j = 8 ∨ j = 9 := by omega
    rcases this with rfl | rfl | rfl | rfl | rfl | rfl | rfl | rfl | rfl | rfl <;> rfl
  · intro j hj
    rw [e1 j (by omega)]
    have : j = 0 ∨ j = 1 ∨ j = 2 ∨ j = 3 ∨ j = 4 ∨ j = 5 ∨ j = 6 ∨ j = 7 ∨ j = 8 ∨ j = 9 := by omega
    rcases this with rfl | rfl | rfl | rfl | rfl | rfl | rfl | rfl | rfl | rfl <;> rfl
set_option maxRecDepth 100000 in
set_option maxHeartbeats 8000000 in
theorem awake_any (w : World) : Calls Try.prog 6 #[] w fun e w' => e = .returned (.bool true) ∧ Below w.heap.size w w' := by
  go_enter Try.func6, Try.ntmps6
  go_wp2_with fail
  refine (parseEP w).mono ?_
  rintro e w1 ⟨B1, b, h, hb, rfl, P1⟩
  obtain ⟨gl, cl, gi, ci, gt, ct, g0, c0, g1, c1, gc, cc, X1⟩ := exM_of P1
  have hv : progV stE h = .agg #[.string ⟨#[83, 66]⟩, .slice (some ⟨gl, 0, none⟩) 2 cl, .slice (some ⟨gi, 0, none⟩) 2 ci, .slice (some ⟨gt, 0, none⟩) 2 ct, .int .u8 1, .int .u8 4, .int .u8 0, .int .u8 0, .int .u8 0, .slice (some ⟨gc, 0, none⟩) 2 cc] := by
    unfold progV; rw [X1.vl, X1.vi, X1.vt, X1.k0, X1.k1, X1.k2, X1.k3, X1.k4]; rfl
  rw [hv]
  clear hv
  have zp := heap_alloc_new w1 (.cells #[.string ⟨#[83, 66]⟩, .slice (some ⟨gl, 0, none⟩) 2 cl, .slice (some ⟨gi, 0, none⟩) 2 ci, .slice (some ⟨gt, 0, none⟩) 2 ct, .int .u8 1, .int .u8 4, .int .u8 0, .int .u8 0, .int .u8 0, .slice (some ⟨gc, 0, none⟩) 2 cc] 39)
  have A1 := (Below.refl w1.heap.size w1).alloc (Nat.le_refl _) (.cells #[.string ⟨#[83, 66]⟩, .slice (some ⟨gl, 0, none⟩) 2 cl, .slice (some ⟨gi, 0, none⟩) 2 ci, .slice (some ⟨gt, 0, none⟩) 2 ct, .int .u8 1, .int .u8 4, .int .u8 0, .int .u8 0, .int .u8 0, .slice (some ⟨gc, 0, none⟩) 2 cc] 39)
  have X2 := X1.below A1
  replace zp := Lib.hid zp
  replace X2 := Lib.hid X2
  replace B1 := Lib.hid B1
  replace A1 := Lib.hid A1
  clear X1 P1 hb
  go_wp2_with fail
  refine (parseEQ _).mono ?_
  rintro e w2 ⟨B2, rfl⟩
  unfold progZ
  have A3 := B2.trans (((Below.refl w2.heap.size w2).alloc (Nat.le_refl _) (.cells #[.string ⟨#[]⟩, .slice none 0 0, .slice none 0 0, .slice none 0 0, .int .u8 0, .int .u8 0, .int .u8 0, .int .u8 0, .int .u8 0, .slice none 0 0] 39)).mono B2.size)
  have X3 := X2.out.below A3
  have zp3 := (A3.block _ (lt_of_heap zp.out)).trans zp.out
  have HB := Lib.hid (B1.out.trans (((A1.out.trans (A3.mono A1.out.size))).mono B1.out.size))
  obtain ⟨-, -, -, -, -, -, -, -, l1, i0, i1, t0, t1, -, -, -, -⟩ := id X3
  have d0 := cell_of_row _ _ 0 _ _ _ zp3
  have d1 := cell_of_row _ _ 1 _ _ _ zp3
  have d2 := cell_of_row _ _ 2 _ _ _ zp3
  have d3 := cell_of_row _ _ 3 _ _ _ zp3
  have d4 := cell_of_row _ _ 4 _ _ _ zp3
  simp only [List.getElem?_toArray, List.getElem?_cons_zero, List.getElem?_cons_succ] at d0 d1 d2 d3 d4
  replace X3 := Lib.hid X3
  replace zp3 := Lib.hid zp3
  clear X2 zp A1 A3 B1 B2
  go_wp2_with fail
  clear d0 d1 d2 d3 d4 l1 i0 i1 t0 t1
  obtain ⟨W, hW⟩ : ∃ W, w2.alloc (.cells #[.string ⟨#[]⟩, .slice none 0 0, .slice none 0 0, .slice none 0 0, .int .u8 0, .int .u8 0, .int .u8 0, .int .u8 0, .int .u8 0, .slice none 0 0] 39) = W := ⟨_, rfl⟩
  have hsz : w2.heap.size + 1 = W.heap.size := by rw [← hW]; simp
  rw [hW] at X3 zp3 HB ⊢
  simp only [hsz]
  have E1 := Lib.hid (row_alloc (heap_alloc_new W (.cells #[.int .u8 1, .int .u8 1, .int .u8 1, .bool false, .int .u8 0, .bool false, .int .u8 0, .int .u8 0, .int .u8 1, .int .u8 0] 46)) (.cells #[.int .u8 2, .int .u8 0, .int .u8 1, .bool false, .int .u8 2, .bool false, .int .u8 0, .int .u8 0, .int .u8 2, .int .u8 0] 46))
  have E2 := heap_alloc_new (W.alloc (.cells #[.int .u8 1, .int .u8 1, .int .u8 1, .bool false, .int .u8 0, .bool false, .int .u8 0, .int .u8 0, .int .u8 1, .int .u8 0] 46)) (.cells #[.int .u8 2, .int .u8 0, .int .u8 1, .bool false, .int .u8 2, .bool false, .int .u8 0, .int .u8 0, .int .u8 2, .int .u8 0] 46)
  simp only [World.size_alloc] at E2
  replace E2 := Lib.hid E2
  have A5 := ((Below.refl W.heap.size W).alloc (Nat.le_refl _) (.cells #[.int .u8 1, .int .u8 1, .int .u8 1, .bool false, .int .u8 0, .bool false, .int .u8 0, .int .u8 0, .int .u8 1, .int .u8 0] 46)).alloc (by simp) (.cells #[.int .u8 2, .int .u8 0, .int .u8 1, .bool false, .int .u8 2, .bool false, .int .u8 0, .int .u8 0, .int .u8 2, .int .u8 0] 46)
  have zp5 := Lib.hid ((A5.block _ (lt_of_heap zp3.out)).trans zp3.out)
  have X5 := Lib.hid (X3.out.below A5)
  have HB5 := Lib.hid (HB.out.trans (A5.mono HB.out.size))
  clear X3 zp3 HB A5 hW
  obtain ⟨V, hV⟩ : ∃ V, (W.alloc (.cells #[.int .u8 1, .int .u8 1, .int .u8 1, .bool false, .int .u8 0, .bool false, .int .u8 0, .int .u8 0, .int .u8 1, .int .u8 0] 46)).alloc (.cells #[.int .u8 2, .int .u8 0, .int .u8 1, .bool false, .int .u8 2, .bool false, .int .u8 0, .int .u8 0, .int .u8 2, .int .u8 0] 46) = V := ⟨_, rfl⟩
  rw [hV] at E1 E2 zp5 X5 HB5 ⊢
  clear hV
  have on : ∀ (p : Addr) (v : Value), V.cell? p = some v → ∀ U, Below V.heap.size V U → U.cell? p = some v := fun p v h U B => cell_on h B
  have p3 := Lib.hid (on _ _ (cell_of_row _ w1.heap.size 3 _ _ _ zp5.out))
  have p5 := Lib.hid (on _ _ (cell_of_row _ w1.heap.size 5 _ _ _ zp5.out))
  have p9 := Lib.hid (on _ _ (cell_of_row _ w1.heap.size 9 _ _ _ zp5.out))
  have pt0 := Lib.hid (on _ _ X5.out.t0)
  have pt1 := Lib.hid (on _ _ X5.out.t1)
  have pq0 := Lib.hid (on _ _ X5.out.q0)
  have s1 : Hid (∀ U, Below V.heap.size V U → ∀ j v, (#[.int .u8 1, .int .u8 1, .int .u8 1, .bool false, .int .u8 0, .bool false, .int .u8 0, .int .u8 0, .int .u8 1, .int .u8 0] : Array Value).toList[j]? = some v → U.cell? (Addr.add ⟨g0, 10, none⟩ j) = some v) := Lib.hid fun U B j v hj => by
    have hj10 : j < 10 := (List.getElem?_eq_some_iff.1 hj).1
    rw [Go.WideShapes.add_plain]
    exact cell_on ((X5.out.x1 j hj10).trans (by rw [← Array.getElem?_toList]; exact hj)) B
  have s2 : Hid (∀ U, Below V.heap.size V U → ∀ j v, (#[.int .u8 2, .int .u8 0, .int .u8 1, .bool false, .int .u8 2, .bool false, .int .u8 0, .int .u8 0, .int .u8 2, .int .u8 0] : Array Value).toList[j]? = some v → U.cell? (Addr.add ⟨g1, 0, none⟩ j) = some v) := Lib.hid fun U B j v hj => by
    have hj10 : j < 10 := (List.getElem?_eq_some_iff.1 hj).1
    rw [Go.WideShapes.add_plain, Nat.zero_add]
    exact cell_on ((X5.out.x2 j hj10).trans (by rw [← Array.getElem?_toList]; exact hj)) B
  have s3 : Hid (∀ U, Below V.heap.size V U → ∀ j v, (#[.int .u8 1, .int .u8 1, .int .u8 1, .bool false, .int .u8 0, .bool false, .int .u8 0, .int .u8 0, .int .u8 1, .int .u8 0] : Array Value).toList[j]? = some v → U.cell? (Addr.add ⟨W.heap.size, 0, none⟩ j) = some v) := Lib.hid fun U B j v hj => by
    rw [Go.WideShapes.add_plain, Nat.zero_add]
    exact cell_on ((cell_of_row _ _ j _ _ _ E1.out).trans (by rw [← Array.getElem?_toList]; exact hj)) B
  have s4 : Hid (∀ U, Below V.heap.size V U → ∀ j v, (#[.int .u8 2, .int .u8 0, .int .u8 1, .bool false, .int .u8 2, .bool false, .int .u8 0, .int .u8 0, .int .u8 2, .int .u8 0] : Array Value).toList[j]? = some v → U.cell? (Addr.add ⟨W.heap.size + 1, 0, none⟩ j) = some v) := Lib.hid fun U B j v hj => by
    rw [Go.WideShapes.add_plain, Nat.zero_add]
    exact cell_on ((cell_of_row _ _ j _ _ _ E2.out).trans (by rw [← Array.getElem?_toList]; exact hj)) B
  have s5 : Hid (∀ U, Below V.heap.size V U → ∀ j v, (#[.int .u8 4, .int .u8 0, .int .u8 0, .int .u8 0, .slice (some ⟨gc, 0, none⟩) 2 cc] : Array Value).toList[j]? = some v → U.cell? (Addr.add ⟨w1.heap.size, 5, none⟩ j) = some v) := Lib.hid fun U B j v hj => by
    have hj5 : j < 5 := (List.getElem?_eq_some_iff.1 hj).1
    rw [Go.WideShapes.add_plain]
    refine cell_on ((cell_of_row _ _ (5 + j) _ _ _ zp5.out).trans ?_) B
    have : j = 0 ∨ j = 1 ∨ j = 2 ∨ j = 3 ∨ j = 4 := by omega
    rcases this with rfl | rfl | rfl | rfl | rfl <;> exact hj
  have CD := Lib.hid fun U (B : Below V.heap.size V U) => deep_any 4 exC { k := 4, u := .slice (some ⟨gc, 0, none⟩) 2 cc } U (by rw [deepC]; exact Nat.le_refl _) (by omega) (X5.out.dp.below B)
  rw [deepC] at CD
  have hq1 : ∀ U, (binOp .eql 46 (.agg #[.int .u8 1, .int .u8 1, .int .u8 1, .bool false, .int .u8 0, .bool false, .int .u8 0, .int .u8 0, .int .u8 1, .int .u8 0]) (.agg #[.int .u8 1, .int .u8 1, .int .u8 1, .bool false, .int .u8 0, .bool false, .int .u8 0, .int .u8 0, .int .u8 1, .int .u8 0])).run Try.prog U = .ok (.bool true) U := fun _ => by kernel_rfl
  have hq2 : ∀ U, (binOp .eql 46 (.agg #[.int .u8 2, .int .u8 0, .int .u8 1, .bool false, .int .u8 2, .bool false, .int .u8 0, .int .u8 0, .int .u8 2, .int .u8 0]) (.agg #[.int .u8 2, .int .u8 0, .int .u8 1, .bool false, .int .u8 2, .bool false, .int .u8 0, .int .u8 0, .int .u8 2, .int .u8 0])).run Try.prog U = .ok (.bool true) U := fun _ => by kernel_rfl
  clear on X5 zp5 E1 E2 hsz
  refine wp_region_below V.heap.size V (by kernel_rfl) (by kernel_rfl) (Below.refl _ _) ?_
  repeat (first
    | (go_big_quiet_step (first
      | (intro _; exact rfl)
      | (intro hW; go_at_call 7; exact Calls.below_of hW (CD.out _ hW))))
    | (refine wpQuiet_want rfl fun K hK => ?_
       first
         | refine quiet_load 37 (.tmp 101) rfl ⟨w1.heap.size, 3, none⟩ rfl _ (fun _ => by kernel_rfl) p3.out (hK _ ?_)
         | refine quiet_load 42 (.tmp 103) rfl ⟨gt, 0, none⟩ rfl _ (fun _ => by kernel_rfl) pt0.out (hK _ ?_)
         | refine quiet_loadS 46 (.tmp 105) rfl ⟨g0, 10, none⟩ rfl _ _ Try.underlying46 rfl (by kernel_rfl) s1.out (hK _ ?_)
         | refine quiet_loadS 46 (.tmp 7) rfl ⟨W.heap.size, 0, none⟩ rfl _ _ Try.underlying46 rfl (by kernel_rfl) s3.out (hK _ ?_)
         | refine quiet_load 37 (.tmp 110) rfl ⟨w1.heap.size, 3, none⟩ rfl _ (fun _ => by kernel_rfl) p3.out (hK _ ?_)
         | refine quiet_load 42 (.tmp 112) rfl ⟨gt, 1, none⟩ rfl _ (fun _ => by kernel_rfl) pt1.out (hK _ ?_)
         | refine quiet_loadS 46 (.tmp 114) rfl ⟨g1, 0, none⟩ rfl _ _ Try.underlying46 rfl (by kernel_rfl) s2.out (hK _ ?_)
         | refine quiet_loadS 46 (.tmp 8) rfl ⟨W.heap.size + 1, 0, none⟩ rfl _ _ Try.underlying46 rfl (by kernel_rfl) s4.out (hK _ ?_)
         | refine quiet_load 5 (.tmp 121) rfl ⟨w1.heap.size, 5, none⟩ rfl _ (fun _ => by kernel_rfl) p5.out (hK _ ?_)
         | refine quiet_load 22 (.tmp 127) rfl ⟨w1.heap.size, 9, none⟩ rfl _ (fun _ => by kernel_rfl) p9.out (hK _ ?_)
         | refine quiet_load 22 (.tmp 134) rfl ⟨w1.heap.size, 9, none⟩ rfl _ (fun _ => by kernel_rfl) p9.out (hK _ ?_)
         | refine quiet_load 5 (.tmp 137) rfl ⟨gc, 0, none⟩ rfl _ (fun _ => by kernel_rfl) pq0.out (hK _ ?_)
         | refine quiet_loadS 24 (.tmp 142) rfl ⟨w1.heap.size, 5, none⟩ rfl _ _ Try.underlying24 rfl (by kernel_rfl) s5.out (hK _ ?_)
       clear hK K
       simp only [Act.put, List.setIfInBounds_toArray, List.set_cons_succ, List.set_cons_zero]))
  refine wpQuiet_nil ?_
  intro wz hz
  have HZ := Lib.hid (HB5.out.trans (hz.mono HB5.out.size))
  go_wp2
  go_ret
  exact ⟨rfl, HZ.out⟩
end PP
end Go.Proofs.Ytglbmiadgdadfaa
end
