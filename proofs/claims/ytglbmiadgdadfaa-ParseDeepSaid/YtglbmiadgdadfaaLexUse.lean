/- Lex's answers as tokens' data; joined texts and formatted tokens as data. -/
import Derived.Test.YtglbmiadgdadfaaLexNames
import Derived.Test.YtglbmiadgdadfaaLexSeq2
namespace Go.Proofs.Ytglbmiadgdadfaa
open Go.RowKit Go.Shelf
theorem bsOf_inj {a b : ByteArray} (h : bsOf a = bsOf b) : a = b := by
  apply ByteArray.ext; apply Array.ext'; exact h
namespace LX
theorem out_len' {L : List UInt8} : (out L).1.length ≤ 2 * L.length := by
  have := ys_len L.length (L := L) (i := 0) (u := false) rfl
  unfold out
  split
  · simp
  · split
    · simp
    · simp at this ⊢; omega
theorem chain_mem {L : List UInt8} : ∀ {a : Nat} {l : List Tk}, chain L a l → ∀ t ∈ l, t.lo ≤ t.hi ∧ t.hi ≤ L.length
  | _, [], _, t, ht => by simp at ht
  | _, u :: r, h, t, ht => by
    rcases List.mem_cons.1 ht with rfl | ht
    · exact ⟨h.2.1, h.2.2.1⟩
    · exact chain_mem h.2.2.2.2.2 t ht
theorem chain_sum {L : List UInt8} : ∀ {a : Nat} {l : List Tk}, chain L a l → a ≤ L.length → ((l.map (sho L)).map fun x => x.2.length).sum ≤ L.length - a
  | _, [], _, _ => by simp
  | a, u :: r, h, ha => by
    obtain ⟨h1, h2, h3, _, _, h6⟩ := h
    have := chain_sum h6 h3
    have e : (cut L u.lo u.hi).length = u.hi - u.lo := cut_len h3
    simp only [List.map_cons, List.sum_cons, sho, e] at this ⊢
    omega
theorem tyL_len : ∀ (ts : List (Nat × List UInt8)) (u : Bool), (tyL u ts).length ≤ (ts.map fun x => x.2.length).sum + ts.length
  | [], u => by simp [tyL]
  | (k, T) :: r, u => by
    have h1 := tyL_len r false
    have h2 := tyL_len r true
    simp only [tyL, List.map_cons, List.sum_cons, List.length_cons]
    split
    · simp; omega
    · cases u <;> simp <;> omega
end LX
/-- A text's tokens, as data. -/
def toks (s : ByteArray) : List TokD := (LX.out (bsOf s)).1.map (tokD s)
theorem toks_length (s : ByteArray) : (toks s).length = (LX.out (bsOf s)).1.length := by unfold toks; rw [List.length_map]
theorem toks_len (s : ByteArray) : (toks s).length ≤ 32768 := by
  rw [toks_length]
  by_cases h : 16384 < (bsOf s).length
  · rw [LX.out_big h]; simp
  · have := LX.out_len' (L := bsOf s); omega
theorem lexT (s : ByteArray) (w : World) : Calls Try.prog 15 #[.string s] w fun e w' => ∃ v, e = .returned (.tuple #[v, .int .i64 ((LX.out (bsOf s)).2.1 : Int), .int .i64 ((LX.out (bsOf s)).2.2 : Int)]) ∧
    TokSl w'.heap.size w' v (toks s) ∧ Below w.heap.size w w' := by
  refine (lex_any s w).mono ?_
  rintro e w' ⟨v, rfl, ho, hb⟩
  have hm := toks_len s
  rw [toks_length] at hm
  exact ⟨v, rfl, tokSl_own ho (by unfold maxLen; omega), hb⟩
/-- A token's kind and text, as data. -/
def shoD (t : TokD) : Int × ByteArray := (t.k, t.x)
theorem shoD_of {a b : ByteArray} {l m : List LX.Tk} (h : l.map (LX.sho (bsOf a)) = m.map (LX.sho (bsOf b))) : (l.map (tokD a)).map shoD = (m.map (tokD b)).map shoD := by
  have e : ∀ (c : ByteArray) (n : List LX.Tk), (n.map (tokD c)).map shoD = (n.map (LX.sho (bsOf c))).map fun x => ((x.1 : Int), (⟨x.2.toArray⟩ : ByteArray)) := by
    intro c n
    rw [List.map_map, List.map_map]
    apply List.map_congr_left
    intro t _
    simp only [Function.comp_apply, shoD, tokD, LX.sho]
    rw [← bsOf_extract]
    rfl
  rw [e, e, h]
/-- Formatting depends on kinds and texts. -/
theorem byL_ty (s : ByteArray) : ∀ (l : List LX.Tk) (u : Bool), byL (spL (if u then bsp else bno) (l.map (tokD s))) = LX.tyL u (l.map (LX.sho (bsOf s)))
  | [], u => rfl
  | t :: l, u => by
    have hc : ∀ (a : ByteArray × ByteArray) l, byL (a :: l) = bsOf a.1 ++ bsOf a.2 ++ byL l := fun a l => by unfold byL; rw [List.flatMap_cons]
    by_cases h : t.kind = 4
    · have h4 : (tokD s t).k = 4 := by show (t.kind : Int) = 4; omega
      have := byL_ty s l false
      simp only [List.map_cons, spL, if_pos h4, hc, LX.tyL, LX.sho, if_pos h]
      simp only [Bool.false_eq_true, if_false] at this
      rw [this]; rfl
    · have h4 : (tokD s t).k ≠ 4 := by show (t.kind : Int) ≠ 4; omega
      have := byL_ty s l true
      simp only [if_true] at this
      simp only [List.map_cons, spL, if_neg h4, hc, LX.tyL, LX.sho, if_neg h]
      rw [this]
      have e : bsOf (tokD s t).x = LX.cut (bsOf s) t.lo t.hi := bsOf_extract s _ _
      rw [e]
      cases u <;> simp [bsp, bno, bsOf]
theorem byL_toks (s : ByteArray) : byL (spL bno (toks s)) = LX.tyL false ((LX.out (bsOf s)).1.map (LX.sho (bsOf s))) := byL_ty s _ false
theorem bsOf_typeS (ts : List TokD) : bsOf (typeS ts) = byL (spL bno ts) := by unfold typeS bsOf; simp
/-- A valid text's formatted tokens: how they lex, and that they are formatted as they stand. -/
theorem typed (s : ByteArray) (hs : s.size ≤ 5000) (h : (LX.out (bsOf s)).2.2 = 0) : (byL (spL bno (toks s))).length ≤ 16384 ∧ (LX.out (bsOf (typeS (toks s)))).2 = (0, 0) ∧
    (toks (typeS (toks s))).map shoD = (toks s).map shoD ∧ typeS (toks (typeS (toks s))) = typeS (toks s) := by
  obtain ⟨h1, h2, h3⟩ := LX.out_good h
  have hr := LX.ty_reads _ _ h1
  have hl : (byL (spL bno (toks s))).length ≤ 16384 := by
    rw [byL_toks]
    have a1 := LX.tyL_len ((LX.out (bsOf s)).1.map (LX.sho (bsOf s))) false
    have a2 := LX.chain_sum h2 (Nat.zero_le _)
    have a3 := LX.out_len' (L := bsOf s)
    rw [bsOf_length] at a2 a3
    rw [List.length_map] at a1
    omega
  rw [← byL_toks, ← bsOf_typeS] at hr
  obtain ⟨q1, q2⟩ := hr.out (by rw [bsOf_typeS]; exact hl)
  refine ⟨hl, q1, shoD_of q2, ?_⟩
  apply bsOf_inj
  rw [bsOf_typeS, byL_toks, q2, ← byL_toks, ← bsOf_typeS]
/-- Two texts, joined by a newline. -/
theorem joined {a b x : ByteArray} (hx : bsOf x = bsOf a ++ 10 :: bsOf b) (ha : a.size ≤ 2000) (hb : b.size ≤ 2000) :
    ((LX.out (bsOf a)).2.2 ≠ 0 → (LX.out (bsOf x)).2 = (LX.out (bsOf a)).2 ∧ (toks x).length = 0) ∧
    ((LX.out (bsOf a)).2.2 = 0 → (LX.out (bsOf b)).2.2 ≠ 0 → (LX.out (bsOf x)).2.1 = (LX.out (bsOf b)).2.1 + a.size + 1 ∧ (LX.out (bsOf x)).2.2 = (LX.out (bsOf b)).2.2 ∧ (toks x).length = 0) ∧
    ((LX.out (bsOf a)).2.2 = 0 → (LX.out (bsOf b)).2.2 = 0 → (LX.out (bsOf x)).2.2 = 0 ∧ toks x = toks a ++ (toks b).map fun t => ⟨t.k, t.x, t.p + (a.size : Int) + 1⟩) := by
  obtain ⟨h1, h2, h3⟩ := LX.out_join (A := bsOf a) (B := bsOf b) (by rw [bsOf_length]; exact ha) (by rw [bsOf_length]; exact hb)
  rw [← hx] at h1 h2 h3
  refine ⟨fun h => ?_, fun h h' => ?_, fun h h' => ?_⟩
  · rw [toks_length, h1 h]; exact ⟨rfl, rfl⟩
  · rw [toks_length, h2 h h', bsOf_length]; exact ⟨rfl, rfl, rfl⟩
  · obtain ⟨-, -, e⟩ := h3 h h'
    refine ⟨by rw [e], ?_⟩
    unfold toks
    rw [e, List.map_append, List.map_map, List.map_map]
    obtain ⟨-, ca, -⟩ := LX.out_good h
    obtain ⟨-, cb, -⟩ := LX.out_good h'
    congr 1
    · apply List.map_congr_left
      intro t ht
      obtain ⟨l1, l2⟩ := LX.chain_mem ca t ht
      unfold tokD
      congr 1
      apply bsOf_inj
      rw [bsOf_extract, bsOf_extract, hx, LX.cut_left _ _ (by omega) l2]
    · apply List.map_congr_left
      intro t ht
      simp only [Function.comp_apply, LX.mv, tokD]
      congr 1
      · apply bsOf_inj
        have hs := LX.cut_shift (bsOf a ++ [10]) (bsOf b) t.lo t.hi
        rw [List.append_assoc, List.length_append] at hs
        simp only [List.singleton_append, List.length_singleton] at hs
        rw [bsOf_extract, bsOf_extract, hx, Nat.add_comm t.lo, Nat.add_comm t.hi, hs]
end Go.Proofs.Ytglbmiadgdadfaa
