/- ParFit, ParFit2, ParFit3 in one text, for the claim. -/
import Derived.Test.YtijipgiclkkfhaaPt10

section
/- What a parsed program respects. Pure. -/
namespace Go.Proofs.Ytijipgiclkkfhaa
open Go Go.RowKit
namespace PX
/-- A register's number; an argument; an instruction, of which n locations are known. -/
def RegOk (n : Int) : Prop := 0 ≤ n ∧ n < 8
def ArgOk (a : ArgD) : Prop := a.r = true → RegOk a.n
structure InsOk (n : Nat) (x : InsD) : Prop where
  op : 1 ≤ x.op ∧ x.op ≤ 8
  dst : RegOk x.dst
  loc : 0 ≤ x.loc ∧ (0 < x.loc → x.loc < (n : Int))
  a : ArgOk x.a
  b : ArgOk x.b
theorem InsOk.mono {n m : Nat} {x : InsD} (h : InsOk n x) (hm : n ≤ m) : InsOk m x := ⟨h.op, h.dst, ⟨h.loc.1, fun h0 => by have := h.loc.2 h0; omega⟩, h.a, h.b⟩
/-- A token that is no sign with a name's symbol; a word is not empty. -/
def TokG (t : TokD) : Prop := (t.k = 3 → t.x ≠ sNAME) ∧ (t.k = 1 → t.x.size ≠ 0)
structure Fit (s : S) : Prop where
  inv : Inv s
  toks : ∀ t ∈ s.rest, TokG t
  names : ∀ x ∈ s.locs, LX.nameB (bsOf x) = true
  nodup : s.locs.Nodup
  ilen : s.init.length = s.locs.length
  ins : ∀ k ∈ s.threads, ∀ x ∈ k, InsOk s.locs.length x
  named : 1 ≤ s.done → s.name.size ≠ 0
  ask : s.done = 4 → 1 ≤ s.ask ∧ s.ask ≤ 3
  deep : s.done = 4 → PX.deep s.cond ≤ 20
theorem name_sym {t : TokD} (hg : TokG t) (h : sy t = sNAME) : LX.nameB (bsOf t.x) = true := by
  unfold sy at h
  by_cases h1 : t.k = 1
  · rw [if_pos h1] at h
    unfold wsy at h
    by_cases hk : LX.keptB (bsOf t.x) = true
    · rw [if_pos hk] at h
      rw [h] at hk
      exact absurd hk (by decide)
    · rw [if_neg hk] at h
      by_cases hn : LX.nameB (bsOf t.x) = true
      · exact hn
      · rw [if_neg hn] at h
        split at h <;> exact absurd h (by decide)
  · rw [if_neg h1] at h
    by_cases h2 : t.k = 2
    · rw [if_pos h2] at h; exact absurd h (by decide)
    · rw [if_neg h2] at h
      by_cases h3 : t.k = 3
      · rw [if_pos h3] at h
        exact absurd h (hg.1 h3)
      · rw [if_neg h3] at h
        split at h <;> exact absurd h (by decide)
theorem tail_mem {α : Type} {l : List α} {t : α} (h : t ∈ l.tail) : t ∈ l := List.mem_of_mem_tail h
theorem next_mem {s : S} (h : s.rest ≠ []) : next s ∈ s.rest := by
  unfold next
  cases hr : s.rest with
  | nil => exact absurd hr h
  | cons t l => exact List.mem_cons_self
theorem Fit.restF {s : S} (h : Fit s) : Fit { s with rest := s.rest.tail } :=
  ⟨⟨h.inv.opn, h.inv.l6, h.inv.done, h.inv.t4, h.inv.i12, h.inv.some_⟩, fun t ht => h.toks t (tail_mem ht), h.names, h.nodup, h.ilen, h.ins, h.named, h.ask, h.deep⟩
theorem Fit.growF {s : S} (h : Fit s) (hsy : sy (next s) = sNAME) (hne : s.rest ≠ []) (h6 : s.locs.length ≠ 6) (hi : s.locs.idxOf? (next s).x = none) : Fit { s with rest := s.rest.tail, locs := s.locs ++ [(next s).x], init := s.init ++ [0] } := by
  refine ⟨⟨h.inv.opn, ?_, h.inv.done, h.inv.t4, h.inv.i12, h.inv.some_⟩, fun t ht => h.toks t (tail_mem ht), fun x hx => ?_, ?_, ?_, fun k hk x hx => ?_, h.named, h.ask, h.deep⟩
  · show (s.locs ++ [_]).length ≤ 6
    have := h.inv.l6
    simp; omega
  · rcases List.mem_append.1 hx with hx | hx
    · exact h.names x hx
    · rw [List.mem_singleton.1 hx]
      exact name_sym (h.toks _ (next_mem hne)) hsy
  · show (s.locs ++ [_]).Nodup
    rw [List.nodup_append]
    refine ⟨h.nodup, by simp, fun a ha b hb => ?_⟩
    rw [List.mem_singleton.1 hb]
    rintro rfl
    have : s.locs.idxOf? (next s).x ≠ none := by
      intro e
      unfold List.idxOf? at e
      rw [List.findIdx?_eq_none_iff] at e
      have := e _ ha
      simp at this
    exact this hi
  · show (s.init ++ [0]).length = (s.locs ++ [_]).length
    have := h.ilen
    simp [this]
  · exact (h.ins k hk x hx).mono (by show s.locs.length ≤ (s.locs ++ [_]).length; simp)
theorem fit_stb (s0 : S) : Stb fun s => Fit s ∧ s.done = s0.done ∧ s0.locs.length ≤ s.locs.length :=
  ⟨fun s h => ⟨h.1.restF, h.2⟩, fun s h hsy hne _ h6 hi => ⟨h.1.growF hsy hne h6 hi, h.2.1, by show s0.locs.length ≤ (s.locs ++ [_]).length; have := h.2.2; simp; omega⟩⟩
theorem fitl_stb (s0 : S) (l : Int) : Stb fun s => (Fit s ∧ s.done = s0.done ∧ s0.locs.length ≤ s.locs.length) ∧ 0 ≤ l ∧ l < (s.locs.length : Int) :=
  ⟨fun s h => ⟨(fit_stb s0).rest s h.1, h.2⟩, fun s h hsy hne ho h6 hi => ⟨(fit_stb s0).grow s h.1 hsy hne ho h6 hi, h.2.1, by show l < ((s.locs ++ [_]).length : Int); have := h.2.2; simp; omega⟩⟩
theorem reg_range (x : ByteArray) : RegOk (regI x) := by
  unfold regI RegOk
  by_cases h : LX.regOk (bsOf x) = true
  · rw [if_pos h]
    unfold LX.regOk at h
    unfold LX.regN
    split at h
    · rename_i a b he
      simp only [Bool.and_eq_true, decide_eq_true_eq] at h
      omega
    · cases h
  · rw [if_neg h]; omega
theorem zero_reg : RegOk 0 := ⟨Int.le_refl _, by omega⟩
theorem zero_arg : ArgOk ⟨false, 0⟩ := fun h => by cases h
theorem post_reg {P : S → Prop} (st : Stb P) (s : S) (h : P s) : Post (fun n s' => P s' ∧ RegOk n) (reg s) := (keep_take st _ s h).bind fun t _ h' => .ok ⟨h', reg_range t.x⟩
theorem post_arg {P : S → Prop} (st : Stb P) (s : S) (h : P s) : Post (fun a s' => P s' ∧ ArgOk a) (arg s) := by
  unfold arg
  split
  · exact (post_reg st s h).bind fun n s' h' => .ok ⟨h'.1, fun _ => h'.2⟩
  · exact (keep_num st s h).bind fun n s' h' => .ok ⟨h', fun hh => by cases hh⟩
theorem post_operation {P : S → Prop} (st : Stb P) (l : List ByteArray) (s : S) (h : P s) : Post (fun x s' => P s' ∧ ArgOk x.1 ∧ ArgOk x.2.2) (operation l s) :=
  (post_arg st s h).bind fun a s h => (keep_take st l s h.1).bind fun t s h' => (post_arg st s h').bind fun b s h'' => .ok ⟨h''.1, h.2, h''.2⟩
theorem post_loc (s0 s : S) (h : Fit s ∧ s.done = s0.done ∧ s0.locs.length ≤ s.locs.length) : Post (fun l s' => (Fit s' ∧ s'.done = s0.done ∧ s0.locs.length ≤ s'.locs.length) ∧ 0 ≤ l ∧ l < (s'.locs.length : Int)) (loc s) := by
  have k := keep_loc (fit_stb s0) s h
  have h6 := h.1.inv.l6
  have r : Post (fun l s' => 0 ≤ l ∧ l < (s'.locs.length : Int)) (loc s) := by
    unfold loc take takeIf
    split
    · simp only [R.bind]
      split
      · rename_i i hi
        have hi' : i < s.locs.length := by
          have := List.findIdx?_eq_some_iff_findIdx_eq.1 hi
          omega
        exact .ok ⟨by omega, by show (i : Int) % 256 < (s.locs.length : Int); omega⟩
      · refine Post.bind (Q := fun _ s' => s'.locs.length = s.locs.length + 1) ?_ fun _ s' hs => .ok ⟨by omega, by rw [hs]; show (s.locs.length : Int) % 256 < _; omega⟩
        unfold addLoc
        by_cases h1 : s.opn = true
        · by_cases h2 : s.locs.length = 6
          · simp only [h1, h2, if_true]; exact .bad
          · simp only [h1, h2, if_true, if_false]; exact .ok (by simp)
        · exact absurd h.1.inv.opn h1
    · exact .bad
  exact k.and r
/-- What the reading of an instruction answers. -/
def InsP (s0 : S) (x : InsD) (s' : S) : Prop := (Fit s' ∧ s'.done = s0.done ∧ s0.locs.length ≤ s'.locs.length) ∧ InsOk s'.locs.length x
section
variable (s0 s : S) (h : Fit s ∧ s.done = s0.done ∧ s0.locs.length ≤ s.locs.length)
include h
theorem fit_store : Post (InsP s0) (store s) :=
  (post_loc s0 s h).bind fun l s h => (keep_take (fitl_stb s0 l) _ s h).bind fun _ s h => (post_arg (fitl_stb s0 l) s h).bind fun a s h => (keep_takes (fitl_stb s0 l) _ s h.1).bind fun r s h' =>
    .ok ⟨h'.1, ⟨by show (1 : Int) ≤ 2; omega, by show (2 : Int) ≤ 8; omega⟩, zero_reg, ⟨h'.2.1, fun _ => h'.2.2⟩, h.2, zero_arg⟩
theorem fit_load : Post (InsP s0) (load s) :=
  (post_loc s0 s h).bind fun l s h => (keep_takes (fitl_stb s0 l) _ s h).bind fun r s h' =>
    .ok ⟨h'.1, ⟨by show (1 : Int) ≤ 1; omega, by show (1 : Int) ≤ 8; omega⟩, zero_reg, ⟨h'.2.1, fun _ => h'.2.2⟩, zero_arg, zero_arg⟩
theorem fit_move : Post (InsP s0) (move s) :=
  (post_operation (fit_stb s0) _ s h).bind fun x s h => .ok ⟨h.1, ⟨by show (1 : Int) ≤ 3; omega, by show (3 : Int) ≤ 8; omega⟩, zero_reg, ⟨Int.le_refl _, fun hh => absurd hh (by show ¬ (0 : Int) < 0; omega)⟩, h.2.1, h.2.2⟩
theorem fit_swap : Post (InsP s0) (swap s) :=
  (keep_take (fit_stb s0) _ s h).bind fun _ s h => (post_loc s0 s h).bind fun l s h => (post_arg (fitl_stb s0 l) s h).bind fun a s h =>
    .ok ⟨h.1.1, ⟨by show (1 : Int) ≤ 4; omega, by show (4 : Int) ≤ 8; omega⟩, zero_reg, ⟨h.1.2.1, fun _ => h.1.2.2⟩, h.2, zero_arg⟩
theorem fit_fetch : Post (InsP s0) (fetch s) :=
  (keep_take (fit_stb s0) _ s h).bind fun _ s h => (post_loc s0 s h).bind fun l s h => (post_arg (fitl_stb s0 l) s h).bind fun a s h =>
    .ok ⟨h.1.1, ⟨by show (1 : Int) ≤ 5; omega, by show (5 : Int) ≤ 8; omega⟩, zero_reg, ⟨h.1.2.1, fun _ => h.1.2.2⟩, h.2, zero_arg⟩
theorem fit_cas : Post (InsP s0) (cas s) :=
  (keep_take (fit_stb s0) _ s h).bind fun _ s h => (post_loc s0 s h).bind fun l s h => (post_arg (fitl_stb s0 l) s h).bind fun a s h => (post_arg (fitl_stb s0 l) s h.1).bind fun b s h' =>
    .ok ⟨h'.1.1, ⟨by show (1 : Int) ≤ 6; omega, by show (6 : Int) ≤ 8; omega⟩, zero_reg, ⟨h'.1.2.1, fun _ => h'.1.2.2⟩, h.2, h'.2⟩
theorem fit_fence : Post (InsP s0) (fence s) := by
  have z : ∀ (m : Int) (s : S), (Fit s ∧ s.done = s0.done ∧ s0.locs.length ≤ s.locs.length) → InsP s0 { op := 7, mode := m } s := fun m s h => ⟨h, ⟨by show (1 : Int) ≤ 7; omega, by show (7 : Int) ≤ 8; omega⟩, zero_reg, ⟨Int.le_refl _, fun hh => absurd hh (by show ¬ (0 : Int) < 0; omega)⟩, zero_arg, zero_arg⟩
  exact (keep_take (fit_stb s0) _ s h).bind fun _ s h => (keep_takes (fit_stb s0) _ s h).bind fun a s h => .ite (.ok (z _ s h)) ((keep_takes (fit_stb s0) _ s h).bind fun _ s h => .ok (z _ s h))
theorem fit_skip : Post (InsP s0) (skip s) :=
  (keep_take (fit_stb s0) _ s h).bind fun _ s h => (keep_num (fit_stb s0) s h).bind fun n s h => (keep_take (fit_stb s0) _ s h).bind fun _ s h => (post_operation (fit_stb s0) _ s h).bind fun x s h =>
    .ok ⟨h.1, ⟨by show (1 : Int) ≤ 8; omega, by show (8 : Int) ≤ 8; omega⟩, zero_reg, ⟨Int.le_refl _, fun hh => absurd hh (by show ¬ (0 : Int) < 0; omega)⟩, h.2.1, h.2.2⟩
theorem fit_source : Post (InsP s0) (source s) := by
  unfold source
  simp only
  exact .ite (fit_load s0 s h) (.ite (fit_move s0 s h) (.ite (fit_move s0 s h) (.ite (fit_swap s0 s h) (.ite (fit_fetch s0 s h) (.ite (fit_cas s0 s h) .bad)))))
theorem fit_assignment : Post (InsP s0) (assignment s) :=
  (post_reg (fit_stb s0) s h).bind fun d s h => (keep_take (fit_stb s0) _ s h.1).bind fun _ s h' => (fit_source s0 s h').bind fun x s h'' => .ok ⟨h''.1, h''.2.op, h.2, h''.2.loc, h''.2.a, h''.2.b⟩
theorem fit_ins : Post (InsP s0) (ins s) := by
  unfold ins
  simp only
  exact .ite (fit_store s0 s h) (.ite (fit_assignment s0 s h) (.ite (fit_fence s0 s h) (.ite (fit_skip s0 s h) .bad)))
end
end PX
end Go.Proofs.Ytijipgiclkkfhaa
end

section
/- What a parsed program respects: its lines. Pure. -/
namespace Go.Proofs.Ytijipgiclkkfhaa
open Go Go.RowKit
namespace PX
theorem Fit.sameLocs {s : S} (h : Fit s) : s.locs.length ≤ s.locs.length := Nat.le_refl _
theorem post_word (s0 s : S) (h : Fit s ∧ s.done = s0.done ∧ s0.locs.length ≤ s.locs.length) : Post (fun t s' => (Fit s' ∧ s'.done = s0.done ∧ s0.locs.length ≤ s'.locs.length) ∧ t.x.size ≠ 0) (takeWord s) := by
  have k := keep_takeWord (fit_stb s0) s h
  refine k.and ?_
  unfold takeWord takeIf
  split
  · rename_i hk
    have hk' : (next s).k = 1 := by simpa using hk
    have hne : s.rest ≠ [] := fun e => by
      unfold next at hk'
      rw [e] at hk'
      exact absurd hk' (by show ¬ (0 : Int) = 1; omega)
    exact .ok ((h.1.toks _ (next_mem hne)).2 hk')
  · exact .bad
section
variable {s : S} (h : Fit s)
include h
theorem fit_titleLine (hd : s.done = 0) : Post (fun _ s' => Fit s') (titleLine s) := by
  have hi := inv_titleLine h.inv hd
  suffices k : Post (fun _ s' => Inv s' → Fit s') (titleLine s) from (hi.and k).mono fun _ s' x => x.2 x.1.1
  unfold titleLine
  refine (keep_take (fit_stb s) _ s ⟨h, rfl, Nat.le_refl _⟩).bind fun _ s1 h1 => (post_word s s1 h1).bind fun t s2 h2 => ?_
  obtain ⟨⟨h2, hd2, _⟩, ht⟩ := h2
  have h3 : Fit { s2 with name := t.x } := ⟨⟨h2.inv.opn, h2.inv.l6, h2.inv.done, h2.inv.t4, h2.inv.i12, h2.inv.some_⟩, h2.toks, h2.names, h2.nodup, h2.ilen, h2.ins, fun _ => ht, h2.ask, h2.deep⟩
  refine ((keep_take (fit_stb { s2 with name := t.x }) _ _ ⟨h3, rfl, Nat.le_refl _⟩).and (keep_take (lv_stb { s2 with name := t.x }) _ _ (Lv.refl _))).bind fun _ s4 h4 => .ok fun hv => ?_
  obtain ⟨⟨h4, _⟩, hl⟩ := h4
  refine ⟨hv, h4.toks, h4.names, h4.nodup, h4.ilen, h4.ins, fun _ => ?_, fun hh => ?_, fun hh => ?_⟩
  · show s4.name.size ≠ 0
    rw [hl.2.1]; exact ht
  · have : (1 : Int) = 4 := hh; omega
  · have : (1 : Int) = 4 := hh; omega
theorem fit_value : Post (fun _ s' => Fit s' ∧ s'.done = s.done) (value s) := by
  unfold value
  refine (keep_loc (fit_stb s) s ⟨h, rfl, Nat.le_refl _⟩).bind fun l s1 h1 => ?_
  split
  · exact .bad
  · refine (keep_take (fit_stb s) _ s1 h1).bind fun _ s2 h2 => (keep_num (fit_stb s) s2 h2).bind fun v s3 h3 => .ok ?_
    refine ⟨⟨⟨h3.1.inv.opn, h3.1.inv.l6, h3.1.inv.done, h3.1.inv.t4, h3.1.inv.i12, h3.1.inv.some_⟩, h3.1.toks, h3.1.names, h3.1.nodup, ?_, h3.1.ins, h3.1.named, h3.1.ask, h3.1.deep⟩, h3.2.1⟩
    show (s3.init.set _ _).length = s3.locs.length
    rw [List.length_set]; exact h3.1.ilen
end
theorem fit_values : ∀ (n : Nat) (s : S), Fit s → Post (fun _ s' => Fit s' ∧ s'.done = s.done) (values n s)
  | 0, s, h => .ok ⟨h, rfl⟩
  | n + 1, s, h => by
    unfold values
    refine (keep_takes (fit_stb s) _ s ⟨h, rfl, Nat.le_refl _⟩).bind fun b s1 h1 => ?_
    split
    · exact .ok ⟨h1.1, h1.2.1⟩
    · exact (fit_value h1.1).bind fun _ s2 h2 => (fit_values n s2 h2.1).mono fun _ s3 h3 => ⟨h3.1, by rw [h3.2, h2.2, h1.2.1]⟩
theorem post_deep (at_ : Int) (s : S) : Post (fun c _ => deep c ≤ 20) (lastCond at_ s) := by
  unfold lastCond
  refine Post.bind (Q := fun _ _ => True) (fun _ _ _ => trivial) fun c s _ => Post.bind (Q := fun _ _ => True) (fun _ _ _ => trivial) fun _ s _ => ?_
  split
  · exact .bad
  · exact .ok (by omega)
theorem ask_sym {t : TokD} {k : ByteArray} (hk : k = kSome ∨ k = kNone ∨ k = kAll) (h : sy t = k) : t.x = k := by
  have n1 : k ≠ sNAME := by rcases hk with rfl | rfl | rfl <;> decide
  have n2 : k ≠ sREG := by rcases hk with rfl | rfl | rfl <;> decide
  have n3 : k ≠ sNUM := by rcases hk with rfl | rfl | rfl <;> decide
  have n4 : k ≠ sEND := by rcases hk with rfl | rfl | rfl <;> decide
  have n5 : k ≠ sNo := by rcases hk with rfl | rfl | rfl <;> decide
  unfold sy at h
  by_cases h1 : t.k = 1
  · rw [if_pos h1] at h
    unfold wsy at h
    by_cases hq : LX.keptB (bsOf t.x) = true
    · rw [if_pos hq] at h; exact h
    · rw [if_neg hq] at h
      by_cases hn : LX.nameB (bsOf t.x) = true
      · rw [if_pos hn] at h; exact absurd h.symm n1
      · rw [if_neg hn] at h
        by_cases hr : LX.regOk (bsOf t.x) = true
        · rw [if_pos hr] at h; exact absurd h.symm n2
        · rw [if_neg hr] at h; exact absurd h.symm n5
  · rw [if_neg h1] at h
    by_cases h2 : t.k = 2
    · rw [if_pos h2] at h; exact absurd h.symm n3
    · rw [if_neg h2] at h
      by_cases h3 : t.k = 3
      · rw [if_pos h3] at h; exact h
      · rw [if_neg h3] at h
        by_cases h4 : t.k = 4
        · rw [if_pos h4] at h; exact absurd h.symm n4
        · rw [if_neg h4] at h; exact absurd h.symm n5
theorem post_ask (s : S) : Post (fun t _ => 1 ≤ askOf t.x ∧ askOf t.x ≤ 3) (take [kSome, kNone, kAll] s) := by
  unfold take takeIf
  split
  · rename_i hf
    unfold isS at hf
    simp only [List.any_cons, List.any_nil, Bool.or_false, Bool.or_eq_true, PP.bbeq, decide_eq_true_eq] at hf
    refine .ok ?_
    rcases hf with hf | hf | hf
    · rw [ask_sym (.inl rfl) hf.symm]; decide
    · rw [ask_sym (.inr (.inl rfl)) hf.symm]; decide
    · rw [ask_sym (.inr (.inr rfl)) hf.symm]; decide
  · exact .bad
section
variable {s : S} (h : Fit s)
include h
theorem fit_initLine (hd : 1 ≤ s.done) : Post (fun _ s' => Fit s') (initLine s) := by
  suffices k : Post (fun _ s' => Inv s' → Fit s') (initLine s) from ((inv_initLine h.inv).and k).mono fun _ s' x => x.2 x.1
  unfold initLine
  refine (keep_take (fit_stb s) _ s ⟨h, rfl, Nat.le_refl _⟩).bind fun _ s1 h1 => (fit_value h1.1).bind fun _ s2 h2 => (fit_values _ s2 h2.1).bind fun _ s3 h3 => .ok fun hv => ?_
  obtain ⟨h3, hd3⟩ := h3
  refine ⟨hv, h3.toks, h3.names, h3.nodup, h3.ilen, h3.ins, fun _ => h3.named (by rw [hd3, h2.2, h1.2.1]; exact hd), fun hh => ?_, fun hh => ?_⟩
  · have : (2 : Int) = 4 := hh; omega
  · have : (2 : Int) = 4 := hh; omega
theorem fit_threadLine (hd : 1 ≤ s.done) : Post (fun _ s' => Fit s') (threadLine s) := by
  suffices k : Post (fun _ s' => Inv s' → Fit s') (threadLine s) from ((inv_threadLine h.inv).and k).mono fun _ s' x => x.2 x.1
  unfold threadLine
  refine (keep_take (fit_stb s) _ s ⟨h, rfl, Nat.le_refl _⟩).bind fun t s1 h1 => ?_
  split
  · exact .bad
  · refine (keep_take (fit_stb s) _ s1 h1).bind fun _ s2 h2 => .ok fun hv => ?_
    obtain ⟨h2, hd2, _⟩ := h2
    refine ⟨hv, h2.toks, h2.names, h2.nodup, h2.ilen, fun k hk x hx => ?_, fun _ => h2.named (by rw [hd2]; exact hd), fun hh => ?_, fun hh => ?_⟩
    · rcases List.mem_append.1 hk with hk | hk
      · exact h2.ins k hk x hx
      · rw [List.mem_singleton.1 hk] at hx; cases hx
    · have : (3 : Int) = 4 := hh; omega
    · have : (3 : Int) = 4 := hh; omega
theorem fit_insLine (h3 : 3 ≤ s.done) : Post (fun _ s' => Fit s') (insLine s) := by
  unfold insLine
  split
  · exact .bad
  · rename_i hn
    refine (Post.and (fit_ins s s ⟨h, rfl, Nat.le_refl _⟩) (keep_ins (lv_stb s) s (Lv.refl s))).bind fun x s1 h1 => ?_
    obtain ⟨⟨⟨h1, _⟩, hx⟩, hl⟩ := h1
    obtain ⟨li, k, hth⟩ : ∃ li k, s.threads = li ++ [k] := ⟨_, _, (List.dropLast_concat_getLast (h.inv.some_ h3)).symm⟩
    have hth1 : s1.threads = li ++ [k] := by rw [hl.2.2.1]; exact hth
    have hk : k.length ≠ 12 := by rw [hth] at hn; simpa using hn
    have hm : ∀ m ∈ s1.threads.dropLast ++ [s1.threads.getLastD [] ++ [x]], m ∈ s1.threads ∨ m = k ++ [x] := fun m hm => by
      rw [hth1] at hm ⊢
      simp at hm ⊢
      rcases hm with hm | hm
      · exact .inl (.inl hm)
      · exact .inr hm
    have hkm : k ∈ s1.threads := by rw [hth1]; simp
    have h2 : Fit { s1 with threads := s1.threads.dropLast ++ [s1.threads.getLastD [] ++ [x]] } := by
      refine ⟨⟨h1.inv.opn, h1.inv.l6, h1.inv.done, ?_, fun m hmm => ?_, fun _ => by simp⟩, h1.toks, h1.names, h1.nodup, h1.ilen, fun m hmm y hy => ?_, h1.named, h1.ask, h1.deep⟩
      · show (s1.threads.dropLast ++ [_]).length ≤ 4
        have := h1.inv.t4
        rw [hth1] at this ⊢
        simp at this ⊢; omega
      · rcases hm m hmm with hmm | rfl
        · exact h1.inv.i12 m hmm
        · have := h1.inv.i12 k hkm
          simp; omega
      · rcases hm m hmm with hmm | rfl
        · exact h1.ins m hmm y hy
        · rcases List.mem_append.1 hy with hy | hy
          · exact h1.ins k hkm y hy
          · rw [List.mem_singleton.1 hy]; exact hx
    exact (keep_take (fit_stb _) _ _ ⟨h2, rfl, Nat.le_refl _⟩).bind fun _ s4 h4 => .ok h4.1
theorem fit_queryLine (h3 : 3 ≤ s.done) : Post (fun _ s' => Fit s') (queryLine s) := by
  suffices k : Post (fun _ s' => Inv s' → Fit s') (queryLine s) from ((inv_queryLine h.inv h3).and k).mono fun _ s' x => x.2 x.1
  unfold queryLine
  refine ((keep_take (fit_stb s) _ s ⟨h, rfl, Nat.le_refl _⟩).and (post_ask s)).bind fun t s1 h1 => ?_
  obtain ⟨⟨h1, hd1, _⟩, ha⟩ := h1
  have e : (if askOf t.x = 0 then s1.ask else askOf t.x) = askOf t.x := if_neg (by omega)
  rw [e]
  have hn4 : s1.done ≠ 4 ∨ s1.done = 4 := by omega
  have h2 : Fit { s1 with ask := askOf t.x } := ⟨⟨h1.inv.opn, h1.inv.l6, h1.inv.done, h1.inv.t4, h1.inv.i12, h1.inv.some_⟩, h1.toks, h1.names, h1.nodup, h1.ilen, h1.ins, h1.named, fun _ => ha, h1.deep⟩
  refine (((keep_lastCond (fit_stb { s1 with ask := askOf t.x }) _ _ ⟨h2, rfl, Nat.le_refl _⟩).and (keep_lastCond (lv_stb { s1 with ask := askOf t.x }) _ _ (Lv.refl _))).and (post_deep _ _)).bind fun c s3 h4 => .ok fun hv => ?_
  obtain ⟨⟨⟨h4, hd4, _⟩, hl⟩, hdp⟩ := h4
  refine ⟨hv, h4.toks, h4.names, h4.nodup, h4.ilen, h4.ins, fun _ => h4.named ?_, fun _ => ?_, fun _ => hdp⟩
  · rw [hd4]; show 1 ≤ s1.done; rw [hd1]; omega
  · show 1 ≤ s3.ask ∧ s3.ask ≤ 3
    rw [hl.2.2.2.1]; exact ha
theorem fit_line : Post (fun _ s' => Fit s') (line s) := by
  rw [line_eq]
  generalize PX.sy (PX.next s) = y
  unfold lineB
  have hd := h.inv.done
  by_cases h0 : s.done = 0
  · rw [if_pos h0]
    exact .ite (fit_titleLine h h0) (post_wrong s)
  rw [if_neg h0]
  by_cases h1 : s.done = 1
  · rw [if_pos h1]
    exact .ite (fit_initLine h (by omega)) (.ite (fit_threadLine h (by omega)) (post_wrong s))
  rw [if_neg h1]
  by_cases h2 : s.done = 2
  · rw [if_pos h2]
    exact .ite (fit_threadLine h (by omega)) (post_wrong s)
  rw [if_neg h2]
  have h3 : 3 ≤ s.done := by omega
  exact .ite (fit_threadLine h (by omega)) (.ite (fit_insLine h h3) (.ite (fit_insLine h h3) (.ite (fit_insLine h h3) (.ite (fit_insLine h h3) (.ite (fit_queryLine h h3) (.ite (fit_queryLine h h3) (.ite (fit_queryLine h h3) (post_wrong s))))))))
end
theorem fit_prog : ∀ (n : Nat) (s : S), Fit s → s.rest.length < n → Post (fun _ s' => Fit s' ∧ s'.done = 4) (prog n s)
  | 0, s, _, hn => by omega
  | n + 1, s, h, hn => by
    unfold prog
    split
    · rename_i hd
      exact .ok ⟨h, hd⟩
    · exact ((fit_line h).and (line_lt s)).bind fun _ s1 h1 => fit_prog n s1 h1.1 (by omega)
end PX
end Go.Proofs.Ytijipgiclkkfhaa
end

section
/- What a parsed program respects: the whole. -/
namespace Go.Proofs.Ytijipgiclkkfhaa
open Go.RowKit Go.Shelf

namespace PP
theorem wf_tok : ∀ (u : Bool) (l : List (Nat × List UInt8)), LX.wf u l → ∀ x ∈ l, x.1 = 4 ∨ LX.tokOk x.1 x.2
  | _, [], _, x, h => by cases h
  | u, (k, T) :: r, hw, x, h => by
    rcases hw with ⟨h1, _, _, h2⟩ | ⟨h1, h2, h3⟩
    · rcases List.mem_cons.1 h with rfl | h
      · exact .inl h1
      · exact wf_tok _ r h2 x h
    · rcases List.mem_cons.1 h with rfl | h
      · exact .inr h2
      · exact wf_tok _ r h3 x h
theorem toks_fit (s : ByteArray) (he : (LX.out (bsOf s)).2.2 = 0) : ∀ t ∈ toks s, PX.TokG t := by
  intro t ht
  obtain ⟨hw, -, -⟩ := LX.out_good he
  unfold toks at ht
  obtain ⟨u, hu, rfl⟩ := List.mem_map.1 ht
  have hk := wf_tok _ _ hw _ (List.mem_map_of_mem (f := LX.sho (bsOf s)) hu)
  have hx : bsOf (tokD s u).x = LX.cut (bsOf s) u.lo u.hi := bsOf_extract s u.lo u.hi
  have hk' : u.kind = 4 ∨ LX.tokOk u.kind (bsOf (tokD s u).x) := by rw [hx]; exact hk
  refine ⟨fun h3 hn => ?_, fun h1 hz => ?_⟩
  · have h3' : u.kind = 3 := by have : (u.kind : Int) = 3 := h3; omega
    rcases hk' with h4 | h4
    · omega
    · unfold LX.tokOk at h4
      rcases h4 with ⟨h, _⟩ | ⟨h, _⟩ | ⟨_, h⟩
      · omega
      · omega
      · rw [hn] at h
        have hl : (bsOf PX.sNAME).length = 4 := rfl
        rcases h with ⟨b, h, _⟩ | h | h <;> (rw [h] at hl; exact absurd hl (by simp))
  · have h1' : u.kind = 1 := by have : (u.kind : Int) = 1 := h1; omega
    rcases hk' with h4 | h4
    · omega
    · unfold LX.tokOk at h4
      rcases h4 with ⟨_, _, h, _⟩ | ⟨h, _⟩ | ⟨h, _⟩
      · rw [LX.clAt_ge (by rw [bsOf_length]; omega)] at h
        exact absurd h (by decide)
      · omega
      · omega
/-- What a program respects. -/
structure FitD (d : PgD) : Prop where
  l6 : d.locs.length ≤ 6
  il : d.init.length = d.locs.length
  t1 : 1 ≤ d.threads.length
  t4 : d.threads.length ≤ 4
  i12 : ∀ k ∈ d.threads, k.length ≤ 12
  ask : 1 ≤ d.ask ∧ d.ask ≤ 3
  dp : PX.deep d.cond ≤ 20
  nm : d.name.size ≠ 0
  names : ∀ x ∈ d.locs, LX.nameB (bsOf x) = true
  nodup : d.locs.Nodup
  ins : ∀ k ∈ d.threads, ∀ x ∈ k, PX.InsOk d.locs.length x
theorem parse_fit (s : ByteArray) (u : Unit) (st : PX.S) (h : PX.parse s = .ok u st) : FitD (pgD st) := by
  rw [parse_eq] at h
  split at h
  · rename_i he
    have f0 : PX.Fit (PX.start s [] true) :=
      ⟨PX.inv_start s, toks_fit s he, fun x hx => (by cases hx), List.nodup_nil, rfl, fun k hk => (by cases hk), fun hh => (by have : (1 : Int) ≤ 0 := hh; omega), fun hh => (by have : (0 : Int) = 4 := hh; omega), fun hh => (by have : (0 : Int) = 4 := hh; omega)⟩
    obtain ⟨f, hd⟩ := PX.fit_prog ((toks s).length + 1) _ f0 (Nat.lt_succ_self _) u st h
    have h0 : st.threads ≠ [] := f.inv.some_ (by rw [hd]; omega)
    exact ⟨f.inv.l6, f.ilen, Nat.pos_of_ne_zero fun e => h0 (List.eq_nil_of_length_eq_zero e), f.inv.t4, f.inv.i12, f.ask hd, f.deep hd, f.named (by rw [hd]; omega), f.names, f.nodup, f.ins⟩
  · cases h
theorem parse_bad (s : ByteArray) (hs : s.size ≤ 5000) (p x : Int) (h : PX.parse s = .bad p x) : x ≠ 0 := by
  by_cases he : (LX.out (bsOf s)).2.2 = 0
  · have hA := alike_typed s hs he
    rw [h] at hA
    cases hq : PX.parse (typeS (toks s)) with
    | ok u' st' => rw [hq] at hA; exact hA.elim
    | bad p' x' => rw [hq] at hA; exact hA.2.2
  · rw [parse_eq, if_neg he] at h
    injection h with _ h
    omega
theorem SlR.len {W : World} {size m n : Nat} {a : Option Addr} {cap : Nat} {xs : List Value} (h : SlR W size (.slice a m cap) n xs) : m = n := by
  obtain ⟨_, _, a', cap', e, _⟩ := h
  injection e
theorem SlR.at {W : World} {size m n : Nat} {a : Option Addr} {cap : Nat} {xs : List Value} (h : SlR W size (.slice a m cap) n xs) : m ≤ cap ∧ cap ≤ maxLen ∧ (0 < m → ∃ g off, a = some ⟨g, off, none⟩ ∧ ∀ (j : Nat) (u : Value), xs[j]? = some u → ∀ U, Below W.heap.size W U → U.cell? ⟨g, off + j, none⟩ = some u) := by
  have e0 := h.len
  obtain ⟨_, _, a', cap', e, h4, h5, h6⟩ := h
  injection e with e1 e2 e3
  subst e1 e3
  refine ⟨by omega, h5, fun hm => ?_⟩
  obtain ⟨g, off, e, hc⟩ := h6 (by omega)
  exact ⟨g, off, e, fun j u hj U B => cell_on (hc j u hj) B⟩
end PP
end Go.Proofs.Ytijipgiclkkfhaa
end
