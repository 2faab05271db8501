/- ParCut2, ParCut3, ParLine, ParLine2, ParLine3, ParLine4 in one text, for the claim. -/
import Derived.Test.YtglbmiadgdadfaaPd5
import Derived.Test.YtglbmiadgdadfaaRegionBelow

section
/- A condition that is read whole: its tokens; two such conditions, joined. Pure. -/
namespace Go.Proofs.Ytglbmiadgdadfaa
open Go Go.RowKit
namespace PX
/-- What taking a token that is no line's end leaves as it is, of the tokens that remain. -/
def Ne (Q : List TokD → Prop) : Prop := ∀ t l, Q (t :: l) → sy t ≠ sEND → Q l
section
variable {Q : List TokD → Prop} (st : Ne Q)
include st
theorem ne_take (l : List ByteArray) (hl : l.any (fun x => x == sEND) = false) (s : S) (h : Q s.rest) : Post (fun _ s' => Q s'.rest) (take l s) := by
  unfold take takeIf
  split
  · rename_i hf
    refine .ok ?_
    show Q s.rest.tail
    cases hr : s.rest with
    | nil => rw [hr] at h; exact h
    | cons t r =>
      rw [hr] at h
      refine st t r h fun e => ?_
      have hs : sy (next s) = sEND := by unfold next; rw [hr]; exact e
      rw [isS_end hl hs] at hf
      cases hf
  · exact .bad
theorem ne_takes (x : ByteArray) (hl : [x].any (fun x => x == sEND) = false) (s : S) (h : Q s.rest) : Post (fun _ s' => Q s'.rest) (takes x s) := by
  unfold takes
  split
  · exact (ne_take st [x] hl s h).bind fun _ _ h => .ok h
  · exact .ok h
theorem ne_num (s : S) (h : Q s.rest) : Post (fun _ s' => Q s'.rest) (num s) := (ne_take st _ (by decide) s h).bind fun _ _ h => .ok h
theorem ne_reg (s : S) (h : Q s.rest) : Post (fun _ s' => Q s'.rest) (reg s) := (ne_take st _ (by decide) s h).bind fun _ _ h => .ok h
theorem ne_loc (s : S) (h : Q s.rest) : Post (fun _ s' => Q s'.rest) (loc s) := (ne_take st _ (by decide) s h).bind fun t s h => by
  split
  · exact .ok h
  · refine Post.bind (Q := fun _ s' => Q s'.rest) ?_ fun _ _ h => .ok h
    unfold addLoc
    split
    · split
      · exact .bad
      · exact .ok h
    · exact .bad
theorem ne_more {kid : S → R CondD} (hk : ∀ s, Q s.rest → Post (fun _ s' => Q s'.rest) (kid s)) (g : ByteArray) (hl : [g].any (fun x => x == sEND) = false) : ∀ (n : Nat) (acc : List CondD) (s : S), Q s.rest → Post (fun _ s' => Q s'.rest) (more kid g n acc s)
  | 0, acc, s, h => .ok h
  | n + 1, acc, s, h => (ne_takes st g hl s h).bind fun b s h => by
    split
    · exact (hk s h).bind fun c s h => ne_more hk g hl n _ s h
    · exact .ok h
theorem ne_series {kid : S → R CondD} (hk : ∀ s, Q s.rest → Post (fun _ s' => Q s'.rest) (kid s)) (g : ByteArray) (hl : [g].any (fun x => x == sEND) = false) (kind : Int) (s : S) (h : Q s.rest) : Post (fun _ s' => Q s'.rest) (series kid g kind s) :=
  (hk s h).bind fun _ s h => (ne_more st hk g hl _ _ s h).bind fun _ _ h => .ok h
theorem ne_regCond (s : S) (h : Q s.rest) : Post (fun _ s' => Q s'.rest) (regCond s) :=
  (ne_num st s h).bind fun _ s h => (ne_take st _ (by decide) s h).bind fun _ s h => (ne_reg st s h).bind fun _ s h => (ne_take st _ (by decide) s h).bind fun _ s h => (ne_num st s h).bind fun _ _ h => .ok h
theorem ne_locCond (s : S) (h : Q s.rest) : Post (fun _ s' => Q s'.rest) (locCond s) :=
  (ne_loc st s h).bind fun _ s h => (ne_take st _ (by decide) s h).bind fun _ s h => (ne_num st s h).bind fun _ _ h => .ok h
theorem ne_truth (s : S) (h : Q s.rest) : Post (fun _ s' => Q s'.rest) (truth s) := (ne_take st _ (by decide) s h).bind fun _ _ h => .ok h
theorem ne_factor : ∀ (n : Nat) (s : S), Q s.rest → Post (fun _ s' => Q s'.rest) (factor n s)
  | 0, s, h => .bad
  | n + 1, s, h => by
    unfold factor
    simp only
    split
    · exact (ne_take st _ (by decide) s h).bind fun _ s h => (ne_factor n s h).bind fun _ _ h => .ok h
    · split
      · exact (ne_take st _ (by decide) s h).bind fun _ s h => (ne_series st (fun s h => ne_series st (ne_factor n) _ (by decide) _ s h) _ (by decide) _ s h).bind fun _ s h => (ne_take st _ (by decide) s h).bind fun _ _ h => .ok h
      · split
        · exact ne_regCond st s h
        · split
          · exact ne_locCond st s h
          · split
            · exact ne_truth st s h
            · exact .bad
theorem ne_disj (n : Nat) (s : S) (h : Q s.rest) : Post (fun _ s' => Q s'.rest) (disj n s) := ne_series st (fun s h => ne_series st (ne_factor st n) _ (by decide) _ s h) _ (by decide) _ s h
end
/-- A condition that is read whole: its tokens, and what is read of them in another text. -/
theorem whole {s : S} {c : CondD} {st : S} (ho : s.opn = false) (h : onlyCond s = .ok c st) : ∃ (r : List TokD) (e : TokD), s.rest = r ++ [e] ∧ sy e = sEND ∧ (∀ t ∈ r, sy t ≠ sEND) ∧ deep c ≤ 20 ∧
    ∀ (X r' : List TokD) (s' : S) (m : Nat), Stop X → s'.rest = r' ++ X → SameT AnyP r r' → s'.locs = s.locs → s'.opn = false → s.rest.length < m → ∃ s1, disj m s' = .ok c s1 ∧ s1.rest = X ∧ s1.locs = s.locs ∧ s1.opn = false := by
  unfold onlyCond lastCond at h
  cases hd : disj (s.rest.length + 1) s with
  | bad p x => rw [hd] at h; cases h
  | ok c1 s1 =>
    rw [hd] at h
    simp only [R.bind] at h
    cases ht : takeLast s1 with
    | bad p x => rw [ht] at h; cases h
    | ok u s2 =>
      rw [ht] at h
      simp only at h
      split at h
      · cases h
      rename_i h20
      have hcc : c1 = c := by injection h
      subst hcc
      clear h
      obtain ⟨e, he1, he2⟩ : ∃ e, s1.rest = [e] ∧ sy e = sEND := by
        unfold takeLast take takeIf at ht
        split at ht
        · rename_i hf
          simp only [R.bind] at ht
          split at ht
          · rename_i hem
            have hsy : sy (next s1) = sEND := by
              unfold isS at hf
              simp only [List.any_cons, List.any_nil, Bool.or_false] at hf
              exact (by rw [PP.bbeq] at hf; exact (of_decide_eq_true hf).symm)
            cases hr : s1.rest with
            | nil =>
              rw [next_empty hr] at hsy; exact absurd hsy (by decide)
            | cons t l =>
              have hl : l = [] := by
                have : s1.rest.tail.isEmpty = true := hem
                rw [hr] at this
                simpa using this
              subst hl
              refine ⟨t, rfl, ?_⟩
              unfold next at hsy; rw [hr] at hsy; exact hsy
          · cases ht
        · cases ht
      obtain ⟨r, hr1, hr2⟩ := ne_disj (Q := fun l => ∃ pre, s.rest = pre ++ l ∧ ∀ t ∈ pre, sy t ≠ sEND) (fun t l ⟨pre, h1, h2⟩ hne => ⟨pre ++ [t], by rw [h1]; simp, fun u hu => by
        rcases List.mem_append.1 hu with hu | hu
        · exact h2 u hu
        · rw [List.mem_singleton.1 hu]; exact hne⟩) (s.rest.length + 1) s ⟨[], rfl, fun t ht => by cases ht⟩ c1 s1 hd
      rw [he1] at hr1
      refine ⟨r, e, hr1, he2, hr2, by omega, fun X r' s' m hX hs' hsame hloc hopn hm => ?_⟩
      have hc : Cut X s s' := ⟨⟨r, r', e, hr1, he2, hs', hsame⟩, hloc.symm, ho, hopn⟩
      obtain ⟨c', s1', hd', rfl, hc1⟩ := cut_disj hX (s.rest.length + 1) m hm hc c1 s1 hd
      obtain ⟨q, q', e', g1, g2, g3, g4⟩ := hc1.rest
      have hq : q = [] := by
        have := congrArg List.length (he1.symm.trans g1)
        simp at this
        exact this
      subst hq
      have hq' : q' = [] := by
        have := g4.length
        exact List.eq_nil_of_length_eq_zero this.symm
      subst hq'
      have hloc1 : s1.locs = s.locs := by
        have := keep_disj (P := fun z => z.opn = false ∧ z.locs = s.locs) ⟨fun z hz => hz, fun z hz _ _ ho _ _ => by rw [hz.1] at ho; cases ho⟩ (s.rest.length + 1) s ⟨ho, rfl⟩ c1 s1 hd
        exact this.2
      exact ⟨s1', hd', g3, by rw [← hc1.locs]; exact hloc1, hc1.opn.2⟩
end PX
end Go.Proofs.Ytglbmiadgdadfaa
end

section
/- Two conditions in parentheses, joined. Pure. -/
namespace Go.Proofs.Ytglbmiadgdadfaa
open Go Go.RowKit
namespace PX
/-- A closed parser before the tokens Y. -/
def At (l : List ByteArray) (Y : List TokD) (s : S) : Prop := s.rest = Y ∧ s.locs = l ∧ s.opn = false
/-- k reads c before Y and stops before Z. -/
def Rd (l : List ByteArray) (Y : List TokD) {α : Type} (k : S → R α) (a : α) (Z : List TokD) : Prop := ∀ s, At l Y s → ∃ s1, k s = .ok a s1 ∧ At l Z s1
theorem at_next {l : List ByteArray} {t : TokD} {Y : List TokD} {s : S} (h : At l (t :: Y) s) : next s = t := by unfold next; rw [h.1]; rfl
theorem isS_one {g : ByteArray} {s : S} : isS [g] s = decide (sy (next s) = g) := by
  unfold isS
  simp only [List.any_cons, List.any_nil, Bool.or_false, PP.bbeq]
  congr 1
  exact propext eq_comm
theorem rd_take {l : List ByteArray} {t : TokD} {Y : List TokD} {g : ByteArray} (h : sy t = g) : Rd l (t :: Y) (take [g]) t Y := fun s hs => by
  unfold take takeIf
  rw [isS_one, at_next hs, decide_eq_true h, if_pos rfl]
  exact ⟨_, rfl, by show s.rest.tail = Y; rw [hs.1]; rfl, hs.2⟩
theorem rd_takes {l : List ByteArray} {t : TokD} {Y : List TokD} {g : ByteArray} (h : sy t = g) : Rd l (t :: Y) (takes g) true Y := fun s hs => by
  obtain ⟨s1, e, h1⟩ := rd_take (g := g) h s hs
  unfold takes
  rw [isS_one, at_next hs, decide_eq_true h, if_pos rfl, e]
  exact ⟨s1, rfl, h1⟩
theorem takes_no {l : List ByteArray} {t : TokD} {Y : List TokD} {g : ByteArray} (h : sy t ≠ g) {s : S} (hs : At l (t :: Y) s) : takes g s = .ok false s := by
  unfold takes
  rw [isS_one, at_next hs, decide_eq_false h, if_neg (by simp)]
theorem more_no {l : List ByteArray} {t : TokD} {Y : List TokD} {g : ByteArray} (h : sy t ≠ g) (kid : S → R CondD) (acc : List CondD) {s : S} (hs : At l (t :: Y) s) : ∀ n, more kid g n acc s = .ok acc s
  | 0 => rfl
  | n + 1 => by
    unfold more
    rw [takes_no h hs]
    rfl
theorem rd_one {l : List ByteArray} {t : TokD} {Y Z : List TokD} {kid : S → R CondD} {c : CondD} {g : ByteArray} {kind : Int} (h : Rd l Y kid c (t :: Z)) (hn : sy t ≠ g) : Rd l Y (series kid g kind) c (t :: Z) := fun s hs => by
  obtain ⟨s1, e, h1⟩ := h s hs
  refine ⟨s1, ?_, h1⟩
  unfold series
  rw [e]
  simp only [R.bind]
  rw [more_no hn kid [c] h1]
theorem rd_two {l : List ByteArray} {t u : TokD} {Y Y2 Z : List TokD} {kid : S → R CondD} {c d : CondD} {g : ByteArray} {kind : Int} (h : Rd l Y kid c (t :: Y2)) (ht : sy t = g) (h2 : Rd l Y2 kid d (u :: Z)) (hn : sy u ≠ g) (hY : Y ≠ []) : Rd l Y (series kid g kind) (.mk kind 0 0 0 [c, d]) (u :: Z) := fun s hs => by
  obtain ⟨s1, e, h1⟩ := h s hs
  obtain ⟨s2, e2, h2'⟩ := rd_takes (g := g) ht s1 h1
  obtain ⟨s3, e3, h3⟩ := h2 s2 h2'
  refine ⟨s3, ?_, h3⟩
  unfold series
  rw [e]
  simp only [R.bind]
  obtain ⟨n, hn'⟩ : ∃ n, s.rest.length = n + 1 := ⟨s.rest.length - 1, by have := List.length_pos_iff.2 hY; rw [hs.1]; omega⟩
  rw [hn']
  unfold more
  rw [e2]
  simp only [R.bind, if_true]
  rw [e3]
  simp only
  rw [more_no hn kid _ h3]
  rfl
theorem rd_group {l : List ByteArray} {P C : TokD} {M Y : List TokD} {c : CondD} {m : Nat} (hP : sy P = gOpen) (hC : sy C = gClose) (h : Rd l (M ++ C :: Y) (disj m) c (C :: Y)) : Rd l (P :: (M ++ C :: Y)) (factor (m + 1)) c Y := fun s hs => by
  obtain ⟨s1, e1, h1⟩ := rd_take (g := gOpen) hP s hs
  obtain ⟨s2, e2, h2⟩ := h s1 h1
  obtain ⟨s3, e3, h3⟩ := rd_take (g := gClose) hC s2 h2
  refine ⟨s3, ?_, h3⟩
  have d1 : (gOpen == gNot) = false := by decide
  have d2 : (gOpen == gOpen) = true := by decide
  unfold factor
  rw [at_next hs, hP]
  simp only [d1, d2, Bool.false_eq_true, if_false, if_true]
  rw [e1]
  simp only [R.bind]
  have e2' : series (series (factor m) gAnd 3) gOr 4 s1 = .ok c s2 := e2
  rw [e2']
  simp only
  rw [e3]
theorem rd_not {l : List ByteArray} {N : TokD} {Y Z : List TokD} {c : CondD} {m : Nat} (hN : sy N = gNot) (h : Rd l Y (factor m) c Z) : Rd l (N :: Y) (factor (m + 1)) (.mk 5 0 0 0 [c]) Z := fun s hs => by
  obtain ⟨s1, e1, h1⟩ := rd_take (g := gNot) hN s hs
  obtain ⟨s2, e2, h2⟩ := h s1 h1
  refine ⟨s2, ?_, h2⟩
  have d1 : (gNot == gNot) = true := by decide
  unfold factor
  rw [at_next hs, hN]
  simp only [d1, if_true]
  rw [e1]
  simp only [R.bind]
  rw [e2]
/-- The whole of a text's tokens, up to its end. -/
theorem rd_whole {l : List ByteArray} {Y : List TokD} {E : TokD} {c : CondD} {s : S} (hE : sy E = sEND) (hs : At l Y s) (h : Rd l Y (disj (Y.length + 1)) c [E]) : ∃ s2, onlyCond s = if 20 < deep c then .bad (next s).p 5 else .ok c s2 := by
  obtain ⟨s1, e1, h1⟩ := h s hs
  refine ⟨{ s1 with rest := [] }, ?_⟩
  unfold onlyCond lastCond
  rw [hs.1, e1]
  simp only [R.bind]
  have ht : takeLast s1 = .ok () { s1 with rest := [] } := by
    unfold takeLast take takeIf
    rw [isS_one, at_next h1, decide_eq_true hE, if_pos rfl]
    simp only [R.bind, h1.1, List.tail_cons, List.isEmpty_nil, if_true]
  rw [ht]
variable {l : List ByteArray} {s sa sb : S} {c d : CondD} {sta stb : S} {ra rb : List TokD} {ea eb : TokD}
/-- What a condition that is read whole is in parentheses. -/
theorem rd_in {ra' : List TokD} {P C : TokD} {Y : List TokD} {m : Nat} (hl : sa.locs = l) (hoa : sa.opn = false) (ha : onlyCond sa = .ok c sta) (hra : sa.rest = ra ++ [ea]) (hsa : SameT AnyP ra ra') (hP : sy P = gOpen) (hC : sy C = gClose) (hm : sa.rest.length < m) : Rd l (P :: (ra' ++ C :: Y)) (factor (m + 1)) c Y := by
  obtain ⟨r, e, h1, _, _, _, h⟩ := whole hoa ha
  obtain ⟨rfl, h2⟩ : r = ra ∧ [e] = [ea] := List.append_inj' (h1.symm.trans hra) rfl
  refine rd_group hP hC fun s hs => ?_
  obtain ⟨s1, e1, r1, l1, o1⟩ := h (C :: Y) ra' s m ⟨C, Y, rfl, by rw [hC]; decide, by rw [hC]; decide⟩ hs.1 hsa (hs.2.1.trans hl.symm) hs.2.2 hm
  exact ⟨s1, e1, r1, l1.trans hl, o1⟩
section
variable (hla : sa.locs = l) (hoa : sa.opn = false) (ha : onlyCond sa = .ok c sta) (hra : sa.rest = ra ++ [ea])
include hla hoa ha hra
theorem join_not {ra' : List TokD} {N P C E : TokD} (hs : At l (N :: P :: (ra' ++ [C, E])) s) (hsa : SameT AnyP ra ra') (hN : sy N = gNot) (hP : sy P = gOpen) (hC : sy C = gClose) (hE : sy E = sEND) :
    (deep c < 20 → ∃ s1, onlyCond s = .ok (.mk 5 0 0 0 [c]) s1) ∧ (20 ≤ deep c → ∃ p, onlyCond s = .bad p 5) := by
  have hlen : sa.rest.length = ra'.length + 1 := by rw [hra, ← hsa.length]; simp
  have R1 : Rd l (P :: (ra' ++ C :: [E])) (factor (ra'.length + 4)) c [E] := rd_in hla hoa ha hra hsa hP hC (by omega)
  have R2 : Rd l (N :: P :: (ra' ++ [C, E])) (disj ((N :: P :: (ra' ++ [C, E])).length + 1)) (.mk 5 0 0 0 [c]) [E] := by
    have e : (N :: P :: (ra' ++ [C, E])).length + 1 = ra'.length + 4 + 1 := by simp
    rw [e]
    exact rd_one (rd_one (rd_not hN R1) (by rw [hE]; decide)) (by rw [hE]; decide)
  obtain ⟨s2, hw⟩ := rd_whole hE hs R2
  have hd : deep (.mk 5 0 0 0 [c]) = deep c + 1 := by simp [deep, deepL]
  rw [hd] at hw
  exact ⟨fun h => ⟨_, by rw [hw, if_neg (by omega)]⟩, fun h => ⟨_, by rw [hw, if_pos (by omega)]⟩⟩
variable (hlb : sb.locs = l) (hob : sb.opn = false) (hb : onlyCond sb = .ok d stb) (hrb : sb.rest = rb ++ [eb])
include hlb hob hb hrb
theorem join_two {ra' rb' : List TokD} {P C A P2 C2 E : TokD} (hs : At l (P :: (ra' ++ C :: A :: P2 :: (rb' ++ [C2, E]))) s) (hsa : SameT AnyP ra ra') (hsb : SameT AnyP rb rb') (hP : sy P = gOpen) (hC : sy C = gClose) (hP2 : sy P2 = gOpen) (hC2 : sy C2 = gClose) (hE : sy E = sEND)
    (k : Int) (hA : (sy A = gAnd ∧ k = 3) ∨ (sy A = gOr ∧ k = 4)) :
    (max (deep c) (deep d) < 20 → ∃ s1, onlyCond s = .ok (.mk k 0 0 0 [c, d]) s1) ∧ (20 ≤ max (deep c) (deep d) → ∃ p, onlyCond s = .bad p 5) := by
  have hlen : sa.rest.length = ra'.length + 1 := by rw [hra, ← hsa.length]; simp
  have hlen2 : sb.rest.length = rb'.length + 1 := by rw [hrb, ← hsb.length]; simp
  have e : (P :: (ra' ++ C :: A :: P2 :: (rb' ++ [C2, E]))).length + 1 = (ra'.length + rb'.length + 6) + 1 := by simp; omega
  have R1 : Rd l (P :: (ra' ++ C :: A :: P2 :: (rb' ++ [C2, E]))) (factor ((ra'.length + rb'.length + 6) + 1)) c (A :: P2 :: (rb' ++ [C2, E])) := rd_in hla hoa ha hra hsa hP hC (by omega)
  have R2 : Rd l (P2 :: (rb' ++ C2 :: [E])) (factor ((ra'.length + rb'.length + 6) + 1)) d [E] := rd_in hlb hob hb hrb hsb hP2 hC2 (by omega)
  have R3 : Rd l (P :: (ra' ++ C :: A :: P2 :: (rb' ++ [C2, E]))) (disj ((P :: (ra' ++ C :: A :: P2 :: (rb' ++ [C2, E]))).length + 1)) (.mk k 0 0 0 [c, d]) [E] := by
    rw [e]
    rcases hA with ⟨hA, rfl⟩ | ⟨hA, rfl⟩
    · exact rd_one (rd_two R1 hA R2 (by rw [hE]; decide) (by simp)) (by rw [hE]; decide)
    · exact rd_two (rd_one R1 (by rw [hA]; decide)) hA (rd_one R2 (by rw [hE]; decide)) (by rw [hE]; decide) (by simp)
  obtain ⟨s2, hw⟩ := rd_whole hE hs R3
  have hd : deep (.mk k 0 0 0 [c, d]) = max (deep c) (deep d) + 1 := by simp [deep, deepL]
  rw [hd] at hw
  exact ⟨fun h => ⟨_, by rw [hw, if_neg (by omega)]⟩, fun h => ⟨_, by rw [hw, if_pos (by omega)]⟩⟩
end
end PX
end Go.Proofs.Ytglbmiadgdadfaa
end

section
/- The parser's lines: what stands of the program that has been read. -/
namespace Go.Proofs.Ytglbmiadgdadfaa
open Go.RowKit Go.Shelf

attribute [local go_sem] Oper.semAt_some
namespace PP
/-- The types of the rows that the reading of a line makes. -/
def T2 : List TypeId := [9, 5, 42, 46]
theorem T1_T2 : ∀ t ∈ T1, t ∈ T2 := fun t h => by
  simp only [T1, List.mem_cons, List.not_mem_nil, or_false] at h
  rcases h with rfl | rfl <;> simp [T2]
theorem condT2 : 24 ∉ T2 := by simp [T2]
def cellsI (l : List PX.InsD) : List Value := l.flatMap fun x => (insC x).toList
theorem cellsI_length : ∀ l : List PX.InsD, (cellsI l).length = l.length * 10
  | [] => rfl
  | y :: ys => by
    have := cellsI_length ys
    unfold cellsI at *
    rw [List.flatMap_cons, List.length_append, this, List.length_cons]
    show 10 + _ = _
    omega
theorem cellsI_snoc (l : List PX.InsD) (x : PX.InsD) : cellsI (l ++ [x]) = cellsI l ++ (insC x).toList := by unfold cellsI; simp
/-- The threads' rows: each its own. -/
def ThrR (W : World) (base : Nat) (vs : List Value) (l : List (List PX.InsD)) : Prop :=
  vs.length = l.length ∧ (∀ (i : Nat) (u : Value) (k : List PX.InsD), vs[i]? = some u → l[i]? = some k → W.ownsRow base 46 10 u k.length (cellsI k)) ∧
    ∀ (i j : Nat) (u u' : Value) (g : Nat), i < j → vs[i]? = some u → vs[j]? = some u' → u.ownBlock = some g → u'.ownBlock ≠ some g
def ThrM (W : World) (base : Nat) (v : Value) (l : List (List PX.InsD)) : Prop :=
  ∃ vs : List Value, W.ownsRow base 42 1 v l.length vs ∧ ThrR W base vs l
theorem ThrR.keep {W W' : World} {base : Nat} {vs : List Value} {l : List (List PX.InsD)} (h : ThrR W base vs l) (hW : ∀ (g : Nat) (cur : Array Value), base ≤ g → W.heap[g]? = some (.cells cur 46 (0, 0)) → W'.heap[g]? = some (.cells cur 46 (0, 0))) : ThrR W' base vs l :=
  ⟨h.1, fun i u k hu hk => own_sameT (h.2.1 i u k hu hk) hW, h.2.2⟩
theorem ThrM.keep {W W' : World} {base : Nat} {v : Value} {l : List (List PX.InsD)} (h : ThrM W base v l) (hW : ∀ (g : Nat) (cur : Array Value) (t : TypeId), t ∈ [42, 46] → base ≤ g → W.heap[g]? = some (.cells cur t (0, 0)) → W'.heap[g]? = some (.cells cur t (0, 0))) : ThrM W' base v l := by
  obtain ⟨vs, h1, h2⟩ := h
  exact ⟨vs, own_sameT h1 fun g cur hg hh => hW g cur _ (by simp) hg hh, h2.keep fun g cur hg hh => hW g cur _ (by simp) hg hh⟩
theorem ThrM.up {W W' : World} {b : Nat} {T : List TypeId} {v : Value} {l : List (List PX.InsD)} (h : ThrM W (b + 1) v l) (F : Fr T b W W') (h1 : 42 ∉ T) (h2 : 46 ∉ T) : ThrM W' (b + 1) v l :=
  h.keep fun g cur t ht hg hh => F.box hh (by omega) (by
    simp only [List.mem_cons, List.not_mem_nil, or_false] at ht
    rcases ht with rfl | rfl
    · exact h1
    · exact h2)
theorem ThrM.zero (W : World) (base : Nat) : ThrM W base (.slice none 0 0) [] :=
  ⟨[], World.ownsRow_nil _ _ _ _, rfl, fun i u k hu => by simp at hu, fun i j u u' g _ hu => by simp at hu⟩
/-- A thread more, without instructions. -/
theorem ThrR.push {W : World} {base : Nat} {vs : List Value} {l : List (List PX.InsD)} (h : ThrR W base vs l) : ThrR W base (vs ++ [.slice none 0 0]) (l ++ [[]]) := by
  refine ⟨by simp [h.1], fun i u k hu hk => ?_, fun i j u u' g hij hu hu' hg => ?_⟩
  · by_cases hi : i < vs.length
    · rw [List.getElem?_append_left hi] at hu
      rw [List.getElem?_append_left (by rw [← h.1]; exact hi)] at hk
      exact h.2.1 i u k hu hk
    · have e1 : i = vs.length := by
        have := (List.getElem?_eq_some_iff.1 hu).1
        simp at this; omega
      subst e1
      rw [List.getElem?_append_right (Nat.le_refl _)] at hu
      rw [h.1, List.getElem?_append_right (Nat.le_refl _)] at hk
      simp at hu hk
      subst hu; subst hk
      exact World.ownsRow_nil _ _ _ _
  · by_cases hj : j < vs.length
    · rw [List.getElem?_append_left hj] at hu'
      rw [List.getElem?_append_left (by omega)] at hu
      exact h.2.2 i j u u' g hij hu hu' hg
    · have e1 : j = vs.length := by
        have := (List.getElem?_eq_some_iff.1 hu').1
        simp at this; omega
      subst e1
      rw [List.getElem?_append_right (Nat.le_refl _)] at hu'
      simp at hu'
      subst hu'
      simp [Value.ownBlock]
/-- An instruction more in the last thread. -/
theorem ThrR.last {W W' : World} {base : Nat} {vs : List Value} {u u' : Value} {l : List (List PX.InsD)} {k k' : List PX.InsD} (h : ThrR W base (vs ++ [u]) (l ++ [k])) (hlen : vs.length = l.length)
    (hG : ∀ (g : Nat) (cur : Array Value), base ≤ g → u.ownBlock ≠ some g → W.heap[g]? = some (.cells cur 46 (0, 0)) → W'.heap[g]? = some (.cells cur 46 (0, 0)))
    (hB : u'.ownBlock = u.ownBlock ∨ ∃ n, u'.ownBlock = some n ∧ W.heap.size ≤ n) (ho : W'.ownsRow base 46 10 u' k'.length (cellsI k')) : ThrR W' base (vs ++ [u']) (l ++ [k']) := by
  have hu : (vs ++ [u])[vs.length]? = some u := by rw [List.getElem?_append_right (Nat.le_refl _)]; simp
  refine ⟨by simp [hlen], fun i v m hv hm => ?_, fun i j v v' g hij hv hv' hg => ?_⟩
  · by_cases hi : i < vs.length
    · rw [List.getElem?_append_left hi] at hv
      rw [List.getElem?_append_left (by omega)] at hm
      have hv2 : (vs ++ [u])[i]? = some v := by rw [List.getElem?_append_left hi]; exact hv
      have hm2 : (l ++ [k])[i]? = some m := by rw [List.getElem?_append_left (by omega)]; exact hm
      have o1 := h.2.1 i v m hv2 hm2
      refine ⟨o1.1, o1.2.imp id ?_⟩
      rintro ⟨g, cap, cur, rfl, h1, h2, h3⟩
      exact ⟨g, cap, cur, rfl, h1, hG g cur h1 (h.2.2 i vs.length _ u g hi hv2 hu rfl) h2, h3⟩
    · have e1 : i = vs.length := by
        have := (List.getElem?_eq_some_iff.1 hv).1
        simp at this; omega
      subst e1
      rw [List.getElem?_append_right (Nat.le_refl _)] at hv
      rw [hlen, List.getElem?_append_right (Nat.le_refl _)] at hm
      simp at hv hm
      subst hv; subst hm
      exact ho
  · by_cases hj : j < vs.length
    · rw [List.getElem?_append_left hj] at hv'
      rw [List.getElem?_append_left (by omega)] at hv
      exact h.2.2 i j v v' g hij (by rw [List.getElem?_append_left (by omega)]; exact hv) (by rw [List.getElem?_append_left hj]; exact hv') hg
    · have e1 : j = vs.length := by
        have := (List.getElem?_eq_some_iff.1 hv').1
        simp at this; omega
      subst e1
      rw [List.getElem?_append_right (Nat.le_refl _)] at hv'
      simp at hv'
      subst hv'
      rw [List.getElem?_append_left (by omega)] at hv
      have hv2 : (vs ++ [u])[i]? = some v := by rw [List.getElem?_append_left (by omega)]; exact hv
      rcases hB with e | ⟨n, e, hn⟩
      · rw [e]; exact h.2.2 i vs.length v u g hij hv2 hu hg
      · rw [e]
        have hm : ∃ m, (l ++ [k])[i]? = some m := ⟨_, List.getElem?_eq_getElem (by simp; omega)⟩
        obtain ⟨m, hm⟩ := hm
        have := (h.2.1 i v m hv2 hm).lt g hg
        intro e2
        cases e2
        omega
/-- Block b holds the parser of a program; all that it has read stands. -/
structure LT (W : World) (b : Nat) (s : PX.S) (h : Hd) : Prop where
  ls : LS W b s h
  opn : s.opn = true
  thr : ThrM W (b + 1) h.vt s.threads
  cnd : ∃ x : CV, h.c0 = .int .u8 x.k ∧ h.c1 = .int .u8 x.t ∧ h.c2 = .int .u8 x.n ∧ h.c3 = .int .u8 x.v ∧ h.c4 = x.u ∧ CondM W (fun g => b < g) x s.cond
theorem LT.up {W W' : World} {b : Nat} {T : List TypeId} {s s' : PX.S} {h : Hd} {vl vi : Value} (L : LT W b s h) (F : Fr T b W W') (h1 : 42 ∉ T) (h2 : 46 ∉ T) (h3 : 24 ∉ T) (m : PX.Lv s s') (P : LS W' b s' { h with vl := vl, vi := vi }) : LT W' b s' { h with vl := vl, vi := vi } := by
  obtain ⟨x, a0, a1, a2, a3, a4, a5⟩ := L.cnd
  refine ⟨P, by rw [m.1]; exact L.opn, ?_, x, a0, a1, a2, a3, a4, ?_⟩
  · rw [m.2.2.1]; exact L.thr.up F h1 h2
  · rw [m.2.2.2.2.1]
    exact CondM.mono (fun g C hg hh => F.box hh (Nat.ne_of_gt hg) h3) (fun _ hg => hg) _ _ a5
/-- What the reading of a line answers. -/
def EndsP (W : World) (b : Nat) (h : Hd) (r : PX.R Unit) (e : Ending) (W' : World) : Prop :=
  Fr T2 b W W' ∧ match r with
    | .ok _ s => e = .returned (.tuple #[]) ∧ ∃ h', h'.g = h.g ∧ LT W' b s h'
    | .bad p x => e = failE p x
/-- What has come about since the world w: the parser of a program stands at s. -/
structure TP (w : World) (b : Nat) (h : Hd) (W : World) (s : PX.S) (g : Hd) : Prop where
  fr : Fr T2 b w W
  lt : LT W b s g
  hg : g.g = h.g
theorem TP.start {w : World} {b : Nat} {s : PX.S} {h : Hd} (L : LT w b s h) : TP w b h w s h := ⟨.refl _ _ _, L, rfl⟩
theorem TP.step0 {w W W' : World} {b : Nat} {s s' : PX.S} {h g : Hd} (T : TP w b h W s g) (F : Fr [] b W W') (m : Mv s s') (P : PS W' b s' g) : TP w b h W' s' g :=
  ⟨T.fr.trans F.up, T.lt.up (vl := g.vl) (vi := g.vi) F (by simp) (by simp) (by simp) (by obtain ⟨l, rfl⟩ := m; exact ⟨rfl, rfl, rfl, rfl, rfl, rfl, rfl⟩) (T.lt.ls.up F m P), T.hg⟩
theorem TP.below {w W W' : World} {b : Nat} {s : PX.S} {h g : Hd} (T : TP w b h W s g) (B : Below W.heap.size W W') : TP w b h W' s g :=
  T.step0 (.of_below B) (Mv.refl s) (T.lt.ls.ps.below B)
theorem TP.alloc {w W : World} {b : Nat} {s : PX.S} {h g : Hd} (T : TP w b h W s g) (o : Obj) : TP w b h (W.alloc o) s g := T.below ((Below.refl _ W).alloc (Nat.le_refl _) o)
theorem TP.step1 {w W W' : World} {b : Nat} {s s' : PX.S} {h g : Hd} {vl vi : Value} (T : TP w b h W s g) (F : Fr T1 b W W') (m : PX.Lv s s') (P : LS W' b s' { g with vl := vl, vi := vi }) : TP w b h W' s' { g with vl := vl, vi := vi } :=
  ⟨T.fr.trans (F.mono T1_T2), T.lt.up F (by simp [T1]) (by simp [T1]) condT1 m P, T.hg⟩
theorem TP.ok {w W : World} {b : Nat} {s : PX.S} {h g : Hd} {r : PX.R Unit} (T : TP w b h W s g) (hr : r = .ok () s) : EndsP w b h r (.returned (.tuple #[])) W := by
  subst hr
  exact ⟨T.fr, rfl, g, T.hg, T.lt⟩
theorem EndsP.bad {w W : World} {b : Nat} {h : Hd} {r : PX.R Unit} {p x : Int} (F : Fr T2 b w W) (hr : r = .bad p x) : EndsP w b h r (failE p x) W := by
  subst hr; exact ⟨F, rfl⟩
/-- A call of a part that reads a line. -/
theorem callP {P : Program} {f : Nat} {args : Array Value} {W : World} {b : Nat} {g : Hd} {r : PX.R Unit} {Q : Ending → World → Prop} (hc : Calls P f args W (EndsP W b g r))
    (hok : ∀ s' W' g', r = .ok () s' → Fr T2 b W W' → g'.g = g.g → LT W' b s' g' → Q (.returned (.tuple #[])) W') (hbad : ∀ p x W', r = .bad p x → Fr T2 b W W' → Q (failE p x) W') : Calls P f args W Q := by
  refine hc.mono ?_
  rintro e W' ⟨F, E⟩
  rcases r with ⟨a, s'⟩ | ⟨p, x⟩
  · obtain ⟨rfl, g', hg, L⟩ := E; exact hok s' W' g' rfl F hg L
  · have E' : e = failE p x := E
    subst E'; exact hbad p x W' rfl F
/-- A cell of the parser is written. -/
theorem PS.row {W : World} {b : Nat} {s s' : PX.S} {h h' : Hd} (p : PS W b s h) (j : Nat) (v : Value) (hr : s'.rest = s.rest) (hg : h'.g = h.g) (hC : ∀ vr, (psC vr s h).setIfInBounds j v = psC vr s' h') : PS (W.setCell ⟨b, j, none⟩ v) b s' h' := by
  obtain ⟨vr, h1, h2, h3, h4⟩ := p
  refine ⟨vr, ?_, ?_, by rw [hr]; exact h3, by rw [hg]; simpa using h4⟩
  · rw [heap_setCell_same _ b j _ _ v h1, hC]
  · rw [hr, hg]
    exact h2.same fun C hC' => (Below.heap_setCell W ⟨b, j, none⟩ v h.g (by rintro rfl; rw [h1] at hC'; cases hC')).trans hC'
theorem LS.row {W : World} {b : Nat} {s s' : PX.S} {h h' : Hd} (L : LS W b s h) (j : Nat) (v : Value) (hr : s'.rest = s.rest) (hg : h'.g = h.g) (hC : ∀ vr, (psC vr s h).setIfInBounds j v = psC vr s' h') (h1 : s'.locs = s.locs) (h2 : s'.opn = s.opn) (h3 : s'.init = s.init) (h4 : h'.vl = h.vl) (h5 : h'.vi = h.vi) : LS (W.setCell ⟨b, j, none⟩ v) b s' h' := by
  refine ⟨L.ps.row j v hr hg hC, ?_, fun ho => ?_⟩
  · rw [h1, h2, h4]
    refine ⟨fun ho => ⟨own_sameT (L.locs.1 ho).1 fun g cur hg hh => (Below.heap_setCell W ⟨b, j, none⟩ v g (by show g ≠ b; omega)).trans hh, (L.locs.1 ho).2⟩, fun ho => ?_⟩
    obtain ⟨e1, a, cap, e2, e3⟩ := L.locs.2 ho
    refine ⟨e1, a, cap, e2, fun h0 => ?_⟩
    obtain ⟨i, off, D, e4, e5, e6, e7⟩ := e3 h0
    exact ⟨i, off, D, e4, e5, (Below.heap_setCell W ⟨b, j, none⟩ v i (by show i ≠ b; omega)).trans e6, e7⟩
  · rw [h1, h3, h5]
    exact own_sameT (L.init (h2 ▸ ho)) fun g cur hg hh => (Below.heap_setCell W ⟨b, j, none⟩ v g (by show g ≠ b; omega)).trans hh
theorem TP.row {w W : World} {b : Nat} {s s' : PX.S} {h g g' : Hd} (T : TP w b h W s g) (j : Nat) (v : Value) (hr : s'.rest = s.rest) (hg : g'.g = g.g) (hC : ∀ vr, (psC vr s g).setIfInBounds j v = psC vr s' g') (h1 : s'.locs = s.locs) (h2 : s'.opn = s.opn) (h3 : s'.init = s.init) (h4 : g'.vl = g.vl) (h5 : g'.vi = g.vi)
    (h6 : s'.threads = s.threads) (h7 : g'.vt = g.vt) (h8 : s'.cond = s.cond) (h9 : g'.c0 = g.c0 ∧ g'.c1 = g.c1 ∧ g'.c2 = g.c2 ∧ g'.c3 = g.c3 ∧ g'.c4 = g.c4) : TP w b h (W.setCell ⟨b, j, none⟩ v) s' g' := by
  obtain ⟨x, a0, a1, a2, a3, a4, a5⟩ := T.lt.cnd
  refine ⟨T.fr.setB j v, ⟨T.lt.ls.row j v hr hg hC h1 h2 h3 h4 h5, by rw [h2]; exact T.lt.opn, ?_, x, ?_, ?_, ?_, ?_, ?_, ?_⟩, hg.trans T.hg⟩
  · rw [h6, h7]
    exact T.lt.thr.keep fun i cur t _ hi hh => (Below.heap_setCell W ⟨b, j, none⟩ v i (by show i ≠ b; omega)).trans hh
  · rw [h9.1]; exact a0
  · rw [h9.2.1]; exact a1
  · rw [h9.2.2.1]; exact a2
  · rw [h9.2.2.2.1]; exact a3
  · rw [h9.2.2.2.2]; exact a4
  · rw [h8]
    exact CondM.mono (fun i C hi hh => (Below.heap_setCell W ⟨b, j, none⟩ v i (Nat.ne_of_gt hi)).trans hh) (fun _ hi => hi) _ _ a5
end PP
end Go.Proofs.Ytglbmiadgdadfaa
end

section
/- The parser's lines: the title, a thread's own line. -/
namespace Go.Proofs.Ytglbmiadgdadfaa
open Go.RowKit Go.Shelf

attribute [local go_sem] Oper.semAt_some
namespace PP
theorem mv_takeWord {s s' : PX.S} {t : TokD} (h : PX.takeWord s = .ok t s') : Mv s s' := by
  unfold PX.takeWord PX.takeIf at h
  split at h
  · cases h; exact ⟨_, rfl⟩
  · cases h
theorem psC_4 (vr : Value) (s : PX.S) (h : Hd) (x : ByteArray) : (psC vr s h).setIfInBounds 4 (.string x) = psC vr { s with name := x } h := by
  unfold psC; simp only [List.setIfInBounds_toArray, List.set_cons_succ, List.set_cons_zero]
theorem psC_14 (vr : Value) (s : PX.S) (h : Hd) (n : Int) : (psC vr s h).setIfInBounds 14 (.int .u8 n) = psC vr { s with done := n } h := by
  unfold psC; simp only [List.setIfInBounds_toArray, List.set_cons_succ, List.set_cons_zero]
theorem psC_8 (vr : Value) (s : PX.S) (h : Hd) (n : Int) : (psC vr s h).setIfInBounds 8 (.int .u8 n) = psC vr { s with ask := n } h := by
  unfold psC; simp only [List.setIfInBounds_toArray, List.set_cons_succ, List.set_cons_zero]
theorem PS.cellAt {W : World} {b : Nat} {s : PX.S} {h : Hd} (p : PS W b s h) (j : Nat) : ∃ vr, W.cell? ⟨b, j, none⟩ = (psC vr s h)[j]? ∧ W.frozen? ⟨b, j, none⟩ = false := by
  obtain ⟨vr, h1, _⟩ := p
  exact ⟨vr, cell_of_row _ b j _ _ _ h1, frozen_of_row _ b j _ _ h1⟩
theorem TP.setName {w W : World} {b : Nat} {s : PX.S} {h g : Hd} (T : TP w b h W s g) (x : ByteArray) : TP w b h (W.setCell ⟨b, 4, none⟩ (.string x)) { s with name := x } g :=
  T.row 4 _ rfl rfl (fun vr => psC_4 vr s g x) rfl rfl rfl rfl rfl rfl rfl rfl ⟨rfl, rfl, rfl, rfl, rfl⟩
theorem TP.setDone {w W : World} {b : Nat} {s : PX.S} {h g : Hd} (T : TP w b h W s g) (n : Int) : TP w b h (W.setCell ⟨b, 14, none⟩ (.int .u8 n)) { s with done := n } g :=
  T.row 14 _ rfl rfl (fun vr => psC_14 vr s g n) rfl rfl rfl rfl rfl rfl rfl rfl ⟨rfl, rfl, rfl, rfl, rfl⟩
theorem TP.setAsk {w W : World} {b : Nat} {s : PX.S} {h g : Hd} (T : TP w b h W s g) (n : Int) : TP w b h (W.setCell ⟨b, 8, none⟩ (.int .u8 n)) { s with ask := n } g :=
  T.row 8 _ rfl rfl (fun vr => psC_8 vr s g n) rfl rfl rfl rfl rfl rfl rfl rfl ⟨rfl, rfl, rfl, rfl, rfl⟩

set_option maxRecDepth 100000 in
set_option maxHeartbeats 16000000 in
theorem titleLine_any (b : Nat) (s : PX.S) (h : Hd) (w : World) (L : LT w b s h) :
    Calls Try.prog 34 #[.pointer (some ⟨b, 0, none⟩)] w (EndsP w b h (PX.titleLine s)) := by
  have hbl := L.ls.ps.lt
  have U0 := (TP.start L).alloc (.cells #[.string ⟨#[116, 101, 115, 116]⟩] 9)
  have C1 := take_any b s h _ [PX.kTest] _ U0.lt.ls.ps (strSl_one _ _) (symsOk_bs (by decide))
  have C2 := Lib.hid fun s g W (p : PS W b s g) => takeWord_any b s g W p
  have C3 := Lib.hid fun s g W (p : PS (W.alloc (.cells #[.string ⟨#[69, 78, 68]⟩] 9)) b s g) => take_any b s g _ [PX.sEND] _ p (strSl_one W _) (symsOk_one (by decide))
  obtain ⟨R, e0⟩ : ∃ R, PX.titleLine s = R := ⟨_, rfl⟩
  rw [e0]
  replace e0 := Lib.hid e0
  replace C1 := Lib.hid C1
  replace U0 := Lib.hid U0
  have hf1 := tok_f1
  go_enter Try.func34, Try.ntmps34
  go_wp2_with (first
    | (go_at_call 41; have V := fb2; refine call0 c3.out (fun t3 s3 w3 hx3 F3 P3 => ?_) (fun pl er w3 hx F => ⟨rfl, EndsP.bad (U2.out.fr.trans F.up) (by rw [← e0.out]; unfold PX.titleLine; rw [hx1]; simp only [PX.R.bind, hx2, hx])⟩)
       dsimp only [tokV]
       have U3 := U2.out.step0 F3 (mv_take hx3) P3
       obtain ⟨vr3, d3, fb3⟩ := U3.lt.ls.ps.cellAt 14
       replace U3 := Lib.hid U3)
    | (go_at_call 41; refine call0 C1.out (fun t s1 w1 hx1 F1 P1 => ?_) (fun pl er w1 hx F => ⟨rfl, EndsP.bad (U0.out.fr.trans F.up) (by rw [← e0.out]; unfold PX.titleLine; rw [hx]; rfl)⟩)
       dsimp only [tokV]
       have U1 := U0.out.step0 F1 (mv_take hx1) P1
       have c2 := Lib.hid (C2.out _ _ _ U1.lt.ls.ps))
    | (go_at_call 46; refine call0 c2.out (fun t2 s2 w2 hx2 F2 P2 => ?_) (fun pl er w2 hx F => ⟨rfl, EndsP.bad (U1.fr.trans F.up) (by rw [← e0.out]; unfold PX.titleLine; rw [hx1]; simp only [PX.R.bind, hx])⟩)
       dsimp only [tokV]
       have U2 := U1.step0 F2 (mv_takeWord hx2) P2
       obtain ⟨vr2, d2, fb2⟩ := U2.lt.ls.ps.cellAt 4
       replace U2 := (U2.setName t2.x).alloc (.cells #[.string ⟨#[69, 78, 68]⟩] 9)
       have c3 := C3.out _ _ _ U2.lt.ls.ps
       simp only [World.size_setCell] at c3
       replace c3 := Lib.hid c3
       replace U2 := Lib.hid U2))
  go_end0
  exact (U3.out.setDone 1).ok (by rw [← e0.out]; unfold PX.titleLine; rw [hx1]; simp only [PX.R.bind, hx2, hx3])
end PP
end Go.Proofs.Ytglbmiadgdadfaa
end

section
/- The parser's lines: the initial values. -/
namespace Go.Proofs.Ytglbmiadgdadfaa
open Go.RowKit Go.Shelf
open Go.BigFrame

attribute [local go_sem] Oper.semAt_some
namespace PP
theorem loc_range {s s' : PX.S} {l : Int} (h : PX.loc s = .ok l s') : 0 ≤ l ∧ l < 256 := by
  have : PX.Post (fun l _ => 0 ≤ l ∧ l < 256) (PX.loc s) := by
    unfold PX.loc
    refine PX.Post.bind (Q := fun _ _ => True) (fun _ _ _ => trivial) fun t s _ => ?_
    split
    · exact .ok (by omega)
    · exact PX.Post.bind (Q := fun _ _ => True) (fun _ _ _ => trivial) fun _ s' _ => .ok (by omega)
  exact this _ _ h
theorem loc_new {s s' : PX.S} {l : Int} (h : PX.loc s = .ok l s') (ho : s.opn = true) (h6 : s.locs.length ≤ 6) (hn : ¬ l < (s.locs.length : Int)) : l = (s.locs.length : Int) ∧ s'.locs.length = s.locs.length + 1 := by
  have : PX.Post (fun l s' => ¬ l < (s.locs.length : Int) → l = (s.locs.length : Int) ∧ s'.locs.length = s.locs.length + 1) (PX.loc s) := by
    unfold PX.loc PX.take PX.takeIf
    split
    · simp only [PX.R.bind]
      split
      · rename_i i hi
        have hi' : i < s.locs.length := by
          have := List.findIdx?_eq_some_iff_findIdx_eq.1 hi
          omega
        exact .ok fun hh => by omega
      · refine PX.Post.bind (Q := fun _ s' => s'.locs.length = s.locs.length + 1) ?_ fun _ s' hs => .ok fun hh => ⟨by omega, hs⟩
        unfold PX.addLoc
        by_cases h1 : s.opn = true
        · by_cases h2 : s.locs.length = 6
          · simp only [h1, h2, if_true]; exact .bad
          · simp only [h1, h2, if_true, if_false]; exact .ok (by simp)
        · exact absurd ho h1
    · exact .bad
  exact this _ _ h hn
theorem Fr.setT {T : List TypeId} {b k : Nat} {W : World} {C : Array Value} {t : TypeId} {p : Nat × Nat} (hk : b < k) (hC : W.heap[k]? = some (.cells C t p)) (ht : t ∈ T) (j : Nat) (v : Value) : Fr T b W (W.setCell ⟨k, j, none⟩ v) :=
  ⟨rfl, rfl, rfl, Nat.le_of_eq (by simp), fun i o hi hb => (Below.heap_setCell W ⟨k, j, none⟩ v i (by
    show i ≠ k
    rintro rfl
    rw [hC] at hi
    cases hi
    rcases hb with h | ⟨_, h⟩
    · omega
    · exact h t ht _ _ rfl)).trans hi⟩
theorem u8T2 : 5 ∈ T2 := by simp [T2]
theorem TP.setInit {w W : World} {b : Nat} {s : PX.S} {h g : Hd} (T : TP w b h W s g) {k n cap : Nat} (hv : g.vi = .slice (some ⟨k, 0, none⟩) n cap) (j : Nat) (v : Int) : TP w b h (W.setCell ⟨k, j, none⟩ (.int .u8 v)) { s with init := s.init.set j v } g := by
  have ho := T.lt.opn
  have hI := T.lt.ls.init ho
  rw [hv] at hI
  obtain ⟨hbk, cur, hC⟩ := own_rowT hI (g := k) rfl
  have hn : s.locs.length = n := by
    rcases hI.2 with ⟨e, _⟩ | ⟨_, _, _, e, _⟩
    · cases e
    · cases e; rfl
  subst hn
  have hst : ∀ (i : Nat) (D : Array Value) (t : TypeId), t ≠ 5 → W.heap[i]? = some (.cells D t (0, 0)) → (W.setCell ⟨k, j, none⟩ (.int .u8 v)).heap[i]? = some (.cells D t (0, 0)) := fun i D t ht hi => (Below.heap_setCell W ⟨k, j, none⟩ _ i (by
    show i ≠ k
    rintro rfl
    rw [hC] at hi; cases hi; exact ht rfl)).trans hi
  obtain ⟨x, a0, a1, a2, a3, a4, a5⟩ := T.lt.cnd
  refine ⟨T.fr.trans (Fr.setT (by omega) hC u8T2 j _), ⟨⟨?_, ⟨fun ho => ⟨own_sameT (T.lt.ls.locs.1 ho).1 fun i cur' hi hh => hst i cur' _ (by decide) hh, (T.lt.ls.locs.1 ho).2⟩, fun hf => by rw [show ({ s with init := s.init.set j v } : PX.S).opn = true from ho] at hf; cases hf⟩, fun _ => ?_⟩, ho, ?_, x, a0, a1, a2, a3, a4, ?_⟩, T.hg⟩
  · obtain ⟨vr, h1, h2, h3, h4⟩ := T.lt.ls.ps
    exact ⟨vr, hst b _ _ (by decide) h1, h2.same fun C hC' => hst _ C _ (by decide) hC', h3, by simpa using h4⟩
  · have := (World.ownsRow.stored hI (j := j) (.int .u8 v)).1
    rw [← hv] at this
    have e : (s.init.set j v).map (Value.int .u8) = (s.init.map (Value.int .u8)).set j (.int .u8 v) := by rw [List.map_set]
    show World.ownsRow _ _ _ _ _ _ ((s.init.set j v).map (Value.int .u8))
    rw [e]
    exact this
  · exact T.lt.thr.keep fun i cur' t ht hi hh => hst i cur' t (by
      simp only [List.mem_cons, List.not_mem_nil, or_false] at ht
      rcases ht with rfl | rfl <;> decide) hh
  · exact CondM.mono (fun i C hi hh => hst i C _ (by decide) hh) (fun _ hi => hi) _ _ a5

set_option maxRecDepth 100000 in
set_option maxHeartbeats 16000000 in
theorem value_any (b : Nat) (s : PX.S) (h : Hd) (w : World) (L : LT w b s h) :
    Calls Try.prog 47 #[.pointer (some ⟨b, 0, none⟩)] w (EndsP w b h (PX.value s)) := by
  have hbl := L.ls.ps.lt
  have C0 : Hid (∀ W, PS W b s h → Calls Try.prog 21 #[.pointer (some ⟨b, 0, none⟩)] W fun e w' => e = .returned (.agg #[.int .u8 (PX.next s).k, .string (PX.next s).x, .int .i64 (PX.next s).p]) ∧ Below W.heap.size W w') := Lib.hid fun W (p : PS W b s h) => next_any b s h W p
  have CL := Lib.hid fun W (L' : LS W b s h) => loc_any b s h W L'
  have CE := Lib.hid fun s g W (p : PS (W.alloc (.cells #[.string ⟨#[61]⟩] 9)) b s g) => take_any b s g _ [PX.gEq] _ p (strSl_one W _) (symsOk_bs (by decide))
  have CN := Lib.hid fun s g W (p : PS W b s g) => PP.num_any b s g W p
  have CF := Lib.hid fun W pl => fail_any pl 51 W
  obtain ⟨R, e0⟩ : ∃ R, PX.value s = R := ⟨_, rfl⟩
  rw [e0]
  obtain ⟨n, hn⟩ : ∃ n, s.locs.length = n := ⟨_, rfl⟩
  obtain ⟨a2, cap2, hvl⟩ : ∃ a cap, h.vl = .slice a n cap := by
    obtain ⟨_, a, cap, e, _⟩ := L.ls.locs.sl; exact ⟨a, cap, by rw [e, hn]⟩
  obtain ⟨pt, hpt⟩ : ∃ pt, (PX.next s).p = pt := ⟨_, rfl⟩
  obtain ⟨vr, q1, -⟩ := id L.ls.ps
  have hc2 : ∀ W, Below w.heap.size w W → W.cell? ⟨b, 2, none⟩ = some (.slice a2 n cap2) := fun W hW => (cell_of_row _ b 2 _ _ _ ((hW.block b hbl).trans q1)).trans (congrArg some hvl)
  have U0 := TP.start L
  have h6 := (L.ls.locs.1 L.opn).2
  have hopn := L.opn
  replace e0 := Lib.hid e0
  replace U0 := Lib.hid U0
  replace L := Lib.hid L
  replace hc2 := Lib.hid hc2
  have hf2 := tok_f2
  clear q1
  go_enter Try.func47, Try.ntmps47
  go_wp2_with fail
  refine wp_region_below w.heap.size w (by kernel_rfl) (by kernel_rfl) (Below.refl _ _) ?_
  repeat (first
    | (go_big_quiet_step (first
      | (intro _; exact rfl)
      | (intro hW; go_at_call 21; exact Calls.below_of hW (C0.out _ (L.out.ls.ps.below hW)))))
    | (refine wpQuiet_want rfl fun K hK => ?_
       refine quiet_load 29 (.tmp 12) rfl ⟨b, 2, none⟩ rfl _ (fun _ => by kernel_rfl) hc2.out (hK _ ?_)
       clear hK K
       simp only [Act.put, List.setIfInBounds_toArray, List.set_cons_succ, List.set_cons_zero]))
  refine wpQuiet_nil ?_
  intro w1 hB1
  have U1 := U0.out.below hB1
  have c1 := CL.out _ U1.lt.ls
  rcases hl : PX.loc s with ⟨l, s2⟩ | ⟨pl, er⟩
  · obtain ⟨l0, l1⟩ := loc_range hl
    have hwl : IntKind.i64.wrap l = l := IntWalk.i64_in _ (by omega)
    have hlv := PX.keep_loc (PX.lv_stb s) s (PX.Lv.refl s) _ _ hl
    rw [hl] at c1
    replace c1 := Lib.hid c1
    by_cases hlt : l < (n : Int)
    · have t1 : decide (l < (n : Int)) = true := by simpa using hlt
      have hR : R = .bad pt 51 := by
        rw [← e0.out]; unfold PX.value; rw [hl]; simp only [PX.R.bind]; rw [if_pos (by rw [hn]; exact hlt), hpt]
      rw [hR]
      clear hlt
      go_wp2_with (first
        | (go_at_call 64; refine (c1.out).mono ?_; rintro e w2 ⟨F2, rfl, vl, vi, L2⟩; dsimp only)
        | (go_at_call 28; refine (CF.out _ _).mono ?_; rintro e w4 ⟨rfl, rfl⟩))
      refine ⟨rfl, U1.fr.trans (F2.mono T1_T2), ?_⟩
      show Ending.panicked _ = failE _ _
      symm
      assumption
    · have t1 : decide (l < (n : Int)) = false := by simpa using hlt
      obtain ⟨h8, h9⟩ := loc_new hl hopn h6 (by rw [hn]; exact hlt)
      rw [hn] at h8 h9
      subst h8
      have e1 : Hid (R = ((PX.take [PX.gEq] s2).bind fun _ s => (PX.num s).bind fun v s => .ok () { s with init := s.init.set n v })) := Lib.hid (by
        rw [← e0.out]; unfold PX.value; rw [hl]; simp only [PX.R.bind]; rw [if_neg (by rw [hn]; exact hlt)]; rfl)
      have ho2 : s2.opn = true := by rw [hlv.1]; exact hopn
      replace hlv := Lib.hid hlv
      replace U1 := Lib.hid U1
      clear hlt hl e0
      go_wp2_with (first
        | (go_at_call 64; refine (c1.out).mono ?_; rintro e w2 ⟨F2, rfl, vl, vi, L2⟩; dsimp only
           have U2 := (U1.out.step1 F2 hlv.out L2).alloc (.cells #[.string ⟨#[61]⟩] 9)
           have c2 := Lib.hid (CE.out s2 _ w2 U2.lt.ls.ps)
           replace U2 := Lib.hid U2)
        | (go_at_call 41; refine call0 c2.out (fun t s3 w3 hx3 F3 P3 => ?_) (fun pl er w3 hx F => ⟨rfl, EndsP.bad (U2.out.fr.trans F.up) (by rw [e1.out, hx]; rfl)⟩)
           dsimp only [tokV]
           have m3 := mv_take hx3
           have U3 := (U2.out.step0 F3 m3 P3).below (drewB1 w3)
           have hI := U3.lt.ls.init (by obtain ⟨l, rfl⟩ := m3; exact ho2)
           rw [show s3.locs.length = n + 1 by obtain ⟨l, rfl⟩ := m3; exact h9] at hI
           obtain ⟨k, cap, hvi⟩ := own_formT hI
           simp only at hvi
           subst hvi
           have hnm : n < n + 1 := Nat.lt_succ_self n
           generalize n + 1 = m at *
           obtain ⟨vr3, d3, fb3⟩ := U3.lt.ls.ps.cellAt 6
           unfold psC at d3
           simp only [List.getElem?_toArray, List.getElem?_cons_zero, List.getElem?_cons_succ] at d3
           have h93 : s3.locs.length = m := by obtain ⟨l, rfl⟩ := m3; exact h9
           replace h93 := Lib.hid h93
           replace U3 := Lib.hid U3
           clear hI))
      go_region_with (first
        | (go_at_call 65; refine call0 (CN.out _ _ _ U3.out.lt.ls.ps) (fun v s4 w4 hx4 F4 P4 => ?_) (fun pl er w4 hx F => ⟨rfl, EndsP.bad (U3.out.fr.trans F.up) (by rw [e1.out, hx3]; simp only [PX.R.bind, hx])⟩)
           dsimp only
           have m4 := mv_num hx4
           have U4 := U3.out.step0 F4 m4 P4
           obtain ⟨vr4, d4, fb4⟩ := U4.lt.ls.ps.cellAt 6
           unfold psC at d4
           simp only [List.getElem?_toArray, List.getElem?_cons_zero, List.getElem?_cons_succ] at d4
           have hI4 := U4.lt.ls.init U4.lt.opn
           rw [show s4.locs.length = m by obtain ⟨l, rfl⟩ := m4; exact h93.out] at hI4
           obtain ⟨cv, hcv⟩ : ∃ cv, w4.cell? ⟨k, n, none⟩ = some cv := by
             rw [World.ownsRow.cellAt hI4 n (by omega)]
             exact ⟨_, List.getElem?_eq_getElem (by rw [hI4.1]; omega)⟩
           obtain ⟨hbk, cur, hC⟩ := own_rowT hI4 (g := k) rfl
           have fk := frozen_of_row _ k n _ _ hC
           have U5 := Lib.hid (U4.setInit rfl n v)
           clear hI4 hC))
      all_goals
        go_end0
        exact U5.out.ok (by rw [e1.out, hx3]; simp only [PX.R.bind, hx4])
  · rw [hl] at c1
    replace c1 := Lib.hid c1
    have hR : R = .bad pl er := by
      rw [← e0.out]; unfold PX.value; rw [hl]; rfl
    rw [hR]
    go_wp2_with (first
      | (go_at_call 64; refine (c1.out).mono ?_; rintro e w2 ⟨F2, rfl⟩))
    refine ⟨rfl, U1.fr.trans (F2.mono T1_T2), ?_⟩
    show Ending.panicked _ = failE _ _
    symm
    assumption
theorem keep_value {P : PX.S → Prop} (st : PX.Stb P) (hi : ∀ s l, P s → P { s with init := l }) (s : PX.S) (h : P s) : PX.Post (fun _ s' => P s') (PX.value s) := by
  unfold PX.value
  refine (PX.keep_loc st s h).bind fun l s' h => ?_
  split
  · exact .bad
  · exact (PX.keep_take st _ s' h).bind fun _ s h => (PX.keep_num st s h).bind fun _ s h => .ok (hi s _ h)
theorem value_lt {s s' : PX.S} {u : Unit} (h : PX.value s = .ok u s') : s'.rest.length < s.rest.length := by
  have : PX.Post (fun _ s' => s'.rest.length < s.rest.length) (PX.value s) := by
    unfold PX.value
    refine PX.Post.bind (Q := fun _ s' => s'.rest.length < s.rest.length) (fun _ _ e => loc_lt e) fun l s1 h1 => ?_
    split
    · exact .bad
    · have k : PX.Post (fun _ s' => s'.rest.length ≤ s1.rest.length) ((PX.take [PX.gEq] s1).bind fun _ s => (PX.num s).bind fun v s => .ok () { s with init := s.init.set l.toNat v }) :=
        (PX.keep_take (PX.len_stb s1.rest.length) _ s1 (Nat.le_refl _)).bind fun _ s h => (PX.keep_num (PX.len_stb s1.rest.length) s h).bind fun _ s h => .ok h
      exact k.mono fun _ _ h => by omega
  exact this _ _ h
end PP
end Go.Proofs.Ytglbmiadgdadfaa
end

section
/- The parser's lines: the init line. -/
namespace Go.Proofs.Ytglbmiadgdadfaa
open Go.RowKit Go.Shelf

attribute [local go_sem] Oper.semAt_some
namespace PP
theorem TP.stepP {w W W' : World} {b : Nat} {s s' : PX.S} {h g g' : Hd} (T : TP w b h W s g) (F : Fr T2 b W W') (hg : g'.g = g.g) (L : LT W' b s' g') : TP w b h W' s' g' := ⟨T.fr.trans F, L, hg.trans T.hg⟩
def IniI (w : World) (b : Nat) (h : Hd) (RV : PX.R Unit) (wr : World) : Prop :=
  ∃ (s' : PX.S) (g' : Hd) (m : Nat), TP w b h wr s' g' ∧ s'.rest.length < m ∧ PX.values m s' = RV
set_option maxRecDepth 100000 in
set_option maxHeartbeats 16000000 in
theorem initLine_any (b : Nat) (s : PX.S) (h : Hd) (w : World) (L : LT w b s h) :
    Calls Try.prog 35 #[.pointer (some ⟨b, 0, none⟩)] w (EndsP w b h (PX.initLine s)) := by
  have hbl := L.ls.ps.lt
  have U0 := (TP.start L).alloc (.cells #[.string ⟨#[105, 110, 105, 116]⟩] 9)
  have C1 := take_any b s h _ [PX.kInit] _ U0.lt.ls.ps (strSl_one _ _) (symsOk_bs (by decide))
  have CV := Lib.hid fun s g W (L' : LT W b s g) => value_any b s g W L'
  have CT := Lib.hid fun s' h' W (p : PS W b s' h') => takes_any b s' h' PX.sEND W p (by decide)
  obtain ⟨R, e0⟩ : ∃ R, PX.initLine s = R := ⟨_, rfl⟩
  rw [e0]
  replace e0 := Lib.hid e0
  replace C1 := Lib.hid C1
  replace U0 := Lib.hid U0
  go_enter Try.func35, Try.ntmps35
  go_wp2_with (first
    | (go_at_call 41; refine call0 C1.out (fun t s1 w1 hx1 F1 P1 => ?_) (fun pl er w1 hx F => ⟨rfl, EndsP.bad (U0.out.fr.trans F.up) (by rw [← e0.out]; unfold PX.initLine; rw [hx]; rfl)⟩)
       dsimp only [tokV]
       have U1 := U0.out.step0 F1 (mv_take hx1) P1)
    | (go_at_call 47; refine callP (CV.out _ _ _ U1.lt) (fun s2 w2 g2 hx2 F2 hg2 L2 => ?_) (fun pl er w2 hx F => ⟨rfl, EndsP.bad (U1.fr.trans F) (by rw [← e0.out]; unfold PX.initLine; rw [hx1]; simp only [PX.R.bind, hx])⟩)
       have U2 := Lib.hid (U1.stepP F2 hg2 L2)))
  obtain ⟨RV, hRV⟩ : ∃ RV, PX.values (s1.rest.length + 1) s2 = RV := ⟨_, rfl⟩
  have e1 : Hid (R = RV.bind fun _ s => .ok () { s with done := 2 }) := Lib.hid (by
    rw [← e0.out]; unfold PX.initLine; rw [hx1]; simp only [PX.R.bind, hx2]; rw [hRV])
  have hv := value_lt hx2
  replace hRV := Lib.hid hRV
  go_loopw [] (fun wr => IniI w b h RV wr) (fun wr => restLen b wr)
  case atStart => exact ⟨s2, g2, s1.rest.length + 1, U2.out, by omega, hRV.out⟩
  case round =>
    obtain ⟨s3, g3, m, T, hm, hR⟩ := hrel
    obtain ⟨m, rfl⟩ : ∃ m', m = m' + 1 := ⟨m - 1, by omega⟩
    have c1 := CT.out s3 g3 wr T.lt.ls.ps
    rcases rt : PX.takes PX.sEND s3 with ⟨r, s4⟩ | ⟨pl, er⟩
    · have hmv := mv_takes rt
      rw [rt] at c1
      replace c1 := Lib.hid c1
      cases r
      · have hR' : Hid (RV = (PX.value s4).bind fun _ s => PX.values m s) := Lib.hid (by rw [← hR]; simp only [PX.values, PX.R.bind, rt, Bool.false_eq_true, if_false])
        have hs4 : s4 = s3 := by
          unfold PX.takes at rt
          split at rt
          · rcases ht : PX.take [PX.sEND] s3 with ⟨t, s1⟩ | ⟨pl, er⟩
            · rw [ht] at rt; cases rt
            · rw [ht] at rt; cases rt
          · cases rt; rfl
        subst hs4
        clear rt hR
        go_wp2_with (first
          | (go_at_call 48; refine (c1.out).mono ?_; rintro e w2 ⟨F2, rfl, P2⟩; dsimp only
             have U3 := T.step0 F2 hmv P2)
          | (go_at_call 47; refine callP (CV.out _ _ _ U3.lt) (fun s5 w5 g5 hx5 F5 hg5 L5 => ?_) (fun pl er w5 hx F => ⟨rfl, EndsP.bad (U3.fr.trans F) (by rw [e1.out, hR'.out, hx]; rfl)⟩)
             have U5 := Lib.hid (U3.stepP F5 hg5 L5)))
        have hlt := value_lt hx5
        have hR5 := hR'.out
        rw [hx5] at hR5
        refine ⟨⟨s5, g5, m, U5.out, by omega, hR5.symm⟩, ?_⟩
        rw [restLen_ps U5.out.lt.ls.ps, restLen_ps T.lt.ls.ps]
        exact hlt
      · have hR' : Hid (RV = .ok () s4) := Lib.hid (by rw [← hR]; simp only [PX.values, PX.R.bind, rt, if_true])
        clear rt hR
        go_wp2_with (first
          | (go_at_call 48; refine (c1.out).mono ?_; rintro e w2 ⟨F2, rfl, P2⟩; dsimp only
             have U3 := T.step0 F2 hmv P2
             obtain ⟨vr3, d3, fb3⟩ := U3.lt.ls.ps.cellAt 14
             replace U3 := Lib.hid U3))
        go_end0
        exact (U3.out.setDone 2).ok (by rw [e1.out, hR'.out]; rfl)
    · have hR' : RV = .bad pl er := by rw [← hR]; simp only [PX.values, PX.R.bind, rt]
      rw [rt] at c1
      replace c1 := Lib.hid c1
      go_wp2_with (first
        | (go_at_call 48; refine (c1.out).mono ?_; rintro e w2 ⟨F2, rfl⟩))
      refine ⟨rfl, T.fr.trans F2.up, ?_⟩
      rw [e1.out, hR']
      show Ending.panicked _ = failE _ _
      symm
      assumption
end PP
end Go.Proofs.Ytglbmiadgdadfaa
end
