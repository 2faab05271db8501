/- The chapter's examples. -/
import Derived.Test.YtglbmiadgdadfaaLexEx0
import Derived.Test.YtglbmiadgdadfaaLexRefN
import Derived.Test.YtglbmiadgdadfaaRegionBelow
namespace Go.Proofs.Ytglbmiadgdadfaa
open Go.RowKit Go.Shelf

attribute [local go_sem] Oper.semAt_some
theorem lexA (w : World) : Calls Try.prog 15 #[.string ⟨#[114, 49, 32, 61, 32, 120, 32, 35, 32, 103, 101, 116, 10, 48, 58, 114, 49, 33, 61, 50]⟩] w fun e w' => ∃ g c, e = .returned (.tuple #[.slice (some ⟨g, 0, none⟩) 10 c, .int .i64 0, .int .i64 0]) ∧
    TokSl w'.heap.size w' (.slice (some ⟨g, 0, none⟩) 10 c) (exT.map (tokD exA)) ∧ Below w.heap.size w w' := by
  refine (lex_any exA w).mono ?_
  rintro e w' ⟨v, rfl, ho, hb⟩
  rw [outA] at ho ⊢
  have hl := tokSl_own ho (by decide)
  have hn : exT.length = 10 := rfl
  rw [hn] at ho
  obtain ⟨g, c, rfl⟩ := own_succ ho
  exact ⟨g, c, rfl, hl, hb⟩
theorem lexB (w : World) : Calls Try.prog 15 #[.string ⟨#[120, 32, 61, 32, 48, 55]⟩] w fun e w' => ∃ v, e = .returned (.tuple #[v, .int .i64 4, .int .i64 41]) ∧ Below w.heap.size w w' := by
  refine (lex_any exB w).mono ?_
  rintro e w' ⟨v, rfl, ho, hb⟩
  rw [outB]
  exact ⟨v, rfl, hb⟩
theorem lexC (w : World) : Calls Try.prog 15 #[.string ⟨#[120, 32, 36]⟩] w fun e w' => ∃ v, e = .returned (.tuple #[v, .int .i64 2, .int .i64 40]) ∧ Below w.heap.size w w' := by
  refine (lex_any exC w).mono ?_
  rintro e w' ⟨v, rfl, ho, hb⟩
  rw [outC]
  exact ⟨v, rfl, hb⟩
theorem reg7 (w : World) : Calls Try.prog 63 #[.string ⟨#[114, 55]⟩] w fun e w' => e = .returned (.tuple #[.int .u8 7, .bool true]) ∧ Below w.heap.size w w' := by
  have := reg_any ⟨#[114, 55]⟩ w (by decide)
  rw [regA] at this; exact this
theorem reg8 (w : World) : Calls Try.prog 63 #[.string ⟨#[114, 56]⟩] w fun e w' => e = .returned (.tuple #[.int .u8 0, .bool false]) ∧ Below w.heap.size w w' := by
  have := reg_any ⟨#[114, 56]⟩ w (by decide)
  rw [regB] at this; exact this
theorem name10 (w : World) : Calls Try.prog 62 #[.string ⟨#[114, 49, 48]⟩] w fun e w' => e = .returned (.bool false) ∧ Below w.heap.size w w' := by
  have := name_any ⟨#[114, 49, 48]⟩ w (by decide)
  rw [nameA] at this; exact this
theorem nameXx (w : World) : Calls Try.prog 62 #[.string ⟨#[120]⟩] w fun e w' => e = .returned (.bool true) ∧ Below w.heap.size w w' := by
  have := name_any ⟨#[120]⟩ w (by decide)
  rw [nameX] at this; exact this
theorem exCells {n₀ : Nat} {w : World} {g c : Nat} (h : TokSl n₀ w (.slice (some ⟨g, 0, none⟩) 10 c) (exT.map (tokD exA))) (j : Nat) (t : TokD) (ht : (exT.map (tokD exA))[j]? = some t) :
    w.cell? ⟨g, j * 3, none⟩ = some (.int .u8 t.k) ∧ w.cell? ⟨g, j * 3 + 1, none⟩ = some (.string t.x) ∧ w.cell? ⟨g, j * 3 + 2, none⟩ = some (.int .i64 t.p) := by
  obtain ⟨hm, a, cap, he, hc⟩ := h
  cases he
  obtain ⟨b, hb, hbn, hcc⟩ := hc (by decide)
  cases hb
  exact hcc j t ht

end Go.Proofs.Ytglbmiadgdadfaa
