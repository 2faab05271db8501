/- Names, registers, keywords and numbers: what the lexer makes of them, and that no string is two of them. -/
import Derived.Test.YtglbmiadgdadfaaLexAwake
namespace Go.Proofs.Ytglbmiadgdadfaa
open Go.RowKit Go.Shelf
namespace LX
/-- A string that is one word. -/
def wordish (l : List UInt8) : Prop := cons inW l = true ∧ clAt l 0 = 4 ∧ l.length ≤ 16
theorem cut_all (l : List UInt8) : cut l 0 l.length = l := by unfold cut; simp
theorem out_word {l : List UInt8} (h : wordish l) : out l = ([⟨1, 0, l.length⟩, ⟨4, l.length, l.length⟩], 0, 0) := by
  obtain ⟨h1, h2, h3⟩ := h
  rw [cons_run, Bool.and_eq_true, decide_eq_true_eq, decide_eq_true_eq] at h1
  have e : ys l 0 false = [(⟨1, 0, l.length⟩, 0), (⟨4, l.length, l.length⟩, 0)] := by
    rw [ys_word h1.1 h2, h1.2, if_neg (by omega), ys_end (Nat.le_refl _)]; rfl
  rw [out_ok (by omega) (by rw [e]; simp), e]; rfl
theorem numOk_cl {l : List UInt8} (h : numOk l = true) : 0 < l.length ∧ clAt l 0 = 5 ∧ run inN l 0 = l.length ∧ l.length ≤ 3 := by
  unfold numOk at h
  simp only [Bool.and_eq_true, decide_eq_true_eq] at h
  obtain ⟨⟨⟨⟨h1, h2⟩, h3⟩, h4⟩, h5⟩ := h
  have hr := (run_zero_all inN l).2 h1
  refine ⟨h2, ?_, hr, h3⟩
  have := run_fits (p := inN) (L := l) (i := 0) (j := 0) (Nat.le_refl _) (by rw [hr]; exact h2)
  simpa [inN] using this
theorem out_num {l : List UInt8} (h : numOk l = true) : out l = ([⟨2, 0, l.length⟩, ⟨4, l.length, l.length⟩], 0, 0) := by
  obtain ⟨h1, h2, h3, h4⟩ := numOk_cl h
  have e : ys l 0 false = [(⟨2, 0, l.length⟩, 0), (⟨4, l.length, l.length⟩, 0)] := by
    rw [ys_num h1 h2, h3, cut_all, if_pos h, ys_end (Nat.le_refl _)]; rfl
  rw [out_ok (by omega) (by rw [e]; simp), e]; rfl
theorem word_name {l : List UInt8} (h : nameB l = true) : wordish l := by
  unfold nameB at h
  simp only [Bool.and_eq_true, decide_eq_true_eq] at h
  exact ⟨h.1.1.1.2, h.1.1.2, h.1.1.1.1⟩
theorem kws_words : ∀ k ∈ kws, cons inW k = true ∧ clAt k 0 = 4 ∧ k.length ≤ 16 ∧ regOk k = false := by decide +kernel
theorem kept_mem {l : List UInt8} (h : keptB l = true) : l ∈ kws := by
  unfold keptB at h
  obtain ⟨k, hk, he⟩ := List.any_eq_true.1 h
  rw [beq_iff_eq] at he
  rw [he]; exact hk
theorem word_kept {l : List UInt8} (h : keptB l = true) : wordish l := by
  obtain ⟨h1, h2, h3, -⟩ := kws_words l (kept_mem h)
  exact ⟨h1, h2, h3⟩
theorem reg_two {l : List UInt8} (h : regOk l = true) : ∃ a b, l = [a, b] ∧ a.toNat = 114 ∧ 48 ≤ b.toNat ∧ b.toNat ≤ 55 := by
  match l, h with
  | [a, b], h =>
    simp only [regOk, Bool.and_eq_true, decide_eq_true_eq] at h
    exact ⟨a, b, rfl, h.1.1, h.1.2, h.2⟩
theorem cls_dig {b : UInt8} (h1 : 48 ≤ b.toNat) (h2 : b.toNat ≤ 57) : cls (b.toNat : Int) = 5 := by unfold cls; rw [if_neg (by omega), if_pos (by omega)]
theorem word_reg {l : List UInt8} (h : regOk l = true) : wordish l := by
  obtain ⟨a, b, rfl, h1, h2, h3⟩ := reg_two h
  have ca : cls (a.toNat : Int) = 4 := by rw [h1]; decide
  have cb : cls (b.toNat : Int) = 5 := cls_dig h2 (by omega)
  refine ⟨?_, ?_, by simp⟩
  · simp [cons, ca, cb, inW]
  · rw [clAt_lt (by simp)]; exact ca
theorem name_only {l : List UInt8} (h : nameB l = true) : keptB l = false ∧ regOk l = false ∧ numOk l = false := by
  have hw := word_name h
  unfold nameB at h
  simp only [Bool.and_eq_true, Bool.not_eq_true'] at h
  refine ⟨h.1.2, ?_, ?_⟩
  · rw [Bool.eq_false_iff]; intro hr
    obtain ⟨a, b, rfl, h1, h2, h3⟩ := reg_two hr
    have h4 := h.2
    have ea : a = 114 := UInt8.toNat_inj.1 h1
    have cb : cls (b.toNat : Int) = 5 := cls_dig h2 (by omega)
    simp [ea, cons, cb, inN] at h4
  · rw [Bool.eq_false_iff]; intro hn
    have := (numOk_cl hn).2.1
    rw [hw.2.1] at this; cases this
theorem reg_only {l : List UInt8} (h : regOk l = true) : keptB l = false ∧ nameB l = false ∧ numOk l = false := by
  have hw := word_reg h
  refine ⟨?_, ?_, ?_⟩
  · rw [Bool.eq_false_iff]; intro hk
    rw [(kws_words l (kept_mem hk)).2.2.2] at h; cases h
  · rw [Bool.eq_false_iff]; intro hn
    rw [(name_only hn).2.1] at h; cases h
  · rw [Bool.eq_false_iff]; intro hn
    have := (numOk_cl hn).2.1
    rw [hw.2.1] at this; cases this
theorem kept_only {l : List UInt8} (h : keptB l = true) : regOk l = false ∧ nameB l = false ∧ numOk l = false := by
  have hw := word_kept h
  refine ⟨(kws_words l (kept_mem h)).2.2.2, ?_, ?_⟩
  · rw [Bool.eq_false_iff]; intro hn
    rw [(name_only hn).1] at h; cases h
  · rw [Bool.eq_false_iff]; intro hn
    have := (numOk_cl hn).2.1
    rw [hw.2.1] at this; cases this
theorem num_only {l : List UInt8} (h : numOk l = true) : regOk l = false ∧ nameB l = false ∧ keptB l = false := by
  have hc := (numOk_cl h).2.1
  refine ⟨?_, ?_, ?_⟩
  · rw [Bool.eq_false_iff]; intro hn; have := (word_reg hn).2.1; rw [hc] at this; cases this
  · rw [Bool.eq_false_iff]; intro hn; have := (word_name hn).2.1; rw [hc] at this; cases this
  · rw [Bool.eq_false_iff]; intro hn; have := (word_kept hn).2.1; rw [hc] at this; cases this
end LX
theorem tokCells {n₀ : Nat} {w : World} {g n c : Nat} {ts : List TokD} (h : TokSl n₀ w (.slice (some ⟨g, 0, none⟩) n c) ts) (j : Nat) (t : TokD) (ht : ts[j]? = some t) :
    w.cell? ⟨g, j * 3, none⟩ = some (.int .u8 t.k) ∧ w.cell? ⟨g, j * 3 + 1, none⟩ = some (.string t.x) ∧ w.cell? ⟨g, j * 3 + 2, none⟩ = some (.int .i64 t.p) := by
  obtain ⟨hm, a, cap, he, hc⟩ := h
  cases he
  obtain ⟨b, hb, hbn, hcc⟩ := hc (by have := (List.getElem?_eq_some_iff.1 ht).1; omega)
  cases hb
  exact hcc j t ht
theorem extract_all (s : ByteArray) : s.extract 0 s.size = s := by
  apply ByteArray.ext
  apply Array.ext'
  have := bsOf_extract s 0 s.size
  rw [show s.size = (bsOf s).length from (bsOf_length s).symm, LX.cut_all] at this
  rw [show s.size = (bsOf s).length from (bsOf_length s).symm]
  exact this
/-- What lexing one token gives. -/
theorem lexOne (s : ByteArray) (k : Nat) (w : World) (hs : s.size ≤ 5000) (h : LX.out (bsOf s) = ([⟨k, 0, (bsOf s).length⟩, ⟨4, (bsOf s).length, (bsOf s).length⟩], 0, 0)) :
    Calls Try.prog 15 #[.string s] w fun e w' => ∃ g c ts, e = .returned (.tuple #[.slice (some ⟨g, 0, none⟩) 2 c, .int .i64 0, .int .i64 0]) ∧
      TokSl w'.heap.size w' (.slice (some ⟨g, 0, none⟩) 2 c) ts ∧ ts[0]? = some ⟨(k : Int), s, 0⟩ ∧ Below w.heap.size w w' := by
  refine (lex_any s w).mono ?_
  rintro e w' ⟨v, rfl, ho, hb⟩
  rw [h] at ho ⊢
  have hl := tokSl_own ho (by unfold maxLen; simp)
  obtain ⟨g, c, rfl⟩ := own_succ ho
  refine ⟨g, c, _, rfl, hl, ?_, hb⟩
  simp [tokD, bsOf_length, extract_all]
end Go.Proofs.Ytglbmiadgdadfaa
