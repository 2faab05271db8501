/- LexNames. -/
import Derived.Test.YtlndeiljjielbaaLexNames
namespace Go.Proofs.Ytlndeiljjielbaa
open Go.RowKit Go.Shelf

attribute [local go_sem] Oper.semAt_some
def TwoV (f : Nat) (s : ByteArray) (b : Bool) : Prop := ∀ W, Calls Try.prog f #[.string s] W fun e w' => ∃ a, e = .returned (.tuple #[.int .u8 a, .bool b]) ∧ Below W.heap.size W w'
def OneV (f : Nat) (s : ByteArray) (b : Bool) : Prop := ∀ W, Calls Try.prog f #[.string s] W fun e w' => e = .returned (.bool b) ∧ Below W.heap.size W w'
set_option maxRecDepth 100000 in
set_option maxHeartbeats 4000000 in
theorem names_one (s : ByteArray) (w : World) (hs : s.size ≤ 5000) (z : Int) (reg num name kept : Bool)
    (hc : (z = 1 ∧ reg = true ∧ num = false ∧ name = false ∧ kept = false) ∨ (z = 1 ∧ reg = false ∧ num = false ∧ name = true ∧ kept = false) ∨ (z = 1 ∧ reg = false ∧ num = false ∧ name = false ∧ kept = true) ∨ (z = 2 ∧ reg = false ∧ num = true ∧ name = false ∧ kept = false))
    (hL : Hid (∀ W : World, Calls Try.prog 19 #[.string s] W fun e w' => ∃ g c ts, e = .returned (.tuple #[.slice (some ⟨g, 0, none⟩) 2 c, .int .i64 0, .int .i64 0]) ∧
      TokSl w'.heap.size w' (.slice (some ⟨g, 0, none⟩) 2 c) ts ∧ ts[0]? = some ⟨z, s, 0⟩ ∧ Below W.heap.size W w'))
    (hR : Hid (TwoV 23 s reg)) (hN : Hid (TwoV 24 s num)) (hM : Hid (OneV 25 s name)) (hK : Hid (OneV 26 s kept)) :
    Calls Try.prog 10 #[.string s] w fun e w' => e = .returned (.bool true) ∧ Below w.heap.size w w' := by
  have t1 : decide (5000 < (s.size : Int)) = false := by simp; omega
  rcases hc with ⟨rfl, rfl, rfl, rfl, rfl⟩ | ⟨rfl, rfl, rfl, rfl, rfl⟩ | ⟨rfl, rfl, rfl, rfl, rfl⟩ | ⟨rfl, rfl, rfl, rfl, rfl⟩
  all_goals
    go_enter Try.func10, Try.ntmps10
    go_wp2_with fail
    refine (awake_any w).mono ?_
    rintro e w1 ⟨rfl, hB⟩
    replace hB := Lib.hid hB
    go_wp2_with fail
    refine (hL.out w1).mono ?_
    rintro e w2 ⟨g, c, ts, rfl, hl, ht, hb⟩
    replace hB := Lib.hid (hB.out.trans (hb.mono hB.out.size))
    clear hb
    replace ht := Lib.hid ht
    obtain ⟨c0, c1, c2⟩ : w2.cell? ⟨g, 0, none⟩ = some (.int .u8 _) ∧ w2.cell? ⟨g, 1, none⟩ = some (.string s) ∧ w2.cell? ⟨g, 2, none⟩ = some (.int .i64 0) := tokCells hl 0 _ ht.out
    go_wp2_with fail
    clear c0 c1 c2
    refine (hR.out w2).mono ?_
    rintro e w3 ⟨a3, rfl, hb⟩
    replace hl := hl.on hb
    replace hB := Lib.hid (hB.out.trans (hb.mono hB.out.size))
    clear hb
    go_wp2_with fail
    refine (hN.out w3).mono ?_
    rintro e w4 ⟨a4, rfl, hb⟩
    replace hl := hl.on hb
    replace hB := Lib.hid (hB.out.trans (hb.mono hB.out.size))
    clear hb
    go_wp2_with fail
    refine (hM.out w4).mono ?_
    rintro e w5 ⟨rfl, hb⟩
    replace hl := hl.on hb
    replace hB := Lib.hid (hB.out.trans (hb.mono hB.out.size))
    clear hb
    go_wp2_with fail
    refine (hK.out w5).mono ?_
    rintro e w6 ⟨rfl, hb⟩
    replace hl := hl.on hb
    replace hB := Lib.hid (hB.out.trans (hb.mono hB.out.size))
    clear hb
    obtain ⟨c0, c1, c2⟩ : w6.cell? ⟨g, 0, none⟩ = some (.int .u8 _) ∧ w6.cell? ⟨g, 1, none⟩ = some (.string s) ∧ w6.cell? ⟨g, 2, none⟩ = some (.int .i64 0) := tokCells hl 0 _ ht.out
    go_wp2
    go_ret
    exact ⟨rfl, hB.out⟩

theorem lexGen (s : ByteArray) (w : World) (hs : s.size ≤ 5000) : Calls Try.prog 19 #[.string s] w fun e w' => ∃ a c ts, ∃ n er : Int, e = .returned (.tuple #[.slice a ts.length c, .int .i64 n, .int .i64 er]) ∧
    TokSl w'.heap.size w' (.slice a ts.length c) ts ∧ Below w.heap.size w w' := by
  refine (lex_any s w).mono ?_
  rintro e w' ⟨v, rfl, ho, hb⟩
  have hm : (LX.out (bsOf s)).1.length ≤ maxLen := by
    have := LX.ys_len (bsOf s).length (L := bsOf s) (i := 0) (u := false) rfl
    rw [bsOf_length] at this
    unfold LX.out maxLen
    split
    · simp
    · split
      · simp
      · simp at this ⊢; omega
  have hl := tokSl_own ho hm
  obtain ⟨a, c, rfl⟩ := hl.out
  exact ⟨a, c, _, _, _, rfl, hl, hb⟩

set_option maxRecDepth 100000 in
set_option maxHeartbeats 4000000 in
theorem names_none (s : ByteArray) (w : World) (hs : s.size ≤ 5000)
    (hR : Hid (TwoV 23 s false)) (hN : Hid (TwoV 24 s false)) (hM : Hid (OneV 25 s false)) (hK : Hid (OneV 26 s false)) :
    Calls Try.prog 10 #[.string s] w fun e w' => e = .returned (.bool true) ∧ Below w.heap.size w w' := by
  have t1 : decide (5000 < (s.size : Int)) = false := by simp; omega
  have hL := Lib.hid (fun W => lexGen s W hs)
  go_enter Try.func10, Try.ntmps10
  go_wp2_with fail
  refine (awake_any w).mono ?_
  rintro e w1 ⟨rfl, hB⟩
  replace hB := Lib.hid hB
  go_wp2_with fail
  refine (hL.out w1).mono ?_
  rintro e w2 ⟨a, c, ts, n, er, rfl, hl, hb⟩
  replace hB := Lib.hid (hB.out.trans (hb.mono hB.out.size))
  clear hb
  have hcase : (er == 0) = false ∨ ((er == 0) = true ∧ ((ts.length : Int) == 2) = false) ∨ ((er == 0) = true ∧ ∃ g t, a = some ⟨g, 0, none⟩ ∧ ts.length = 2 ∧ Hid (ts[0]? = some t)) := by
    by_cases h0 : er = 0
    · by_cases h2 : ts.length = 2
      · refine .inr (.inr ⟨by simp [h0], ?_⟩)
        obtain ⟨hm, a', cap, he, hc⟩ := hl
        cases he
        obtain ⟨b, hb, -, -⟩ := hc (by omega)
        exact ⟨b, ts[0], hb, h2, Lib.hid (by simp)⟩
      · exact .inr (.inl ⟨by simp [h0], by simp; omega⟩)
    · exact .inl (by simp [h0])
  rcases hcase with t2 | ⟨t2, t3⟩ | ⟨t2, g, t, rfl, h2, ht⟩
  · go_wp2_with fail
    refine (hR.out w2).mono ?_
    rintro e w3 ⟨a3, rfl, hb⟩
    replace hB := Lib.hid (hB.out.trans (hb.mono hB.out.size))
    clear hb
    go_wp2_with fail
    refine (hN.out w3).mono ?_
    rintro e w4 ⟨a4, rfl, hb⟩
    replace hB := Lib.hid (hB.out.trans (hb.mono hB.out.size))
    clear hb
    go_wp2_with fail
    refine (hM.out w4).mono ?_
    rintro e w5 ⟨rfl, hb⟩
    replace hB := Lib.hid (hB.out.trans (hb.mono hB.out.size))
    clear hb
    go_wp2_with fail
    refine (hK.out w5).mono ?_
    rintro e w6 ⟨rfl, hb⟩
    replace hB := Lib.hid (hB.out.trans (hb.mono hB.out.size))
    clear hb
    go_wp2
    go_ret
    exact ⟨rfl, hB.out⟩
  · go_wp2_with fail
    refine (hR.out w2).mono ?_
    rintro e w3 ⟨a3, rfl, hb⟩
    replace hB := Lib.hid (hB.out.trans (hb.mono hB.out.size))
    clear hb
    go_wp2_with fail
    refine (hN.out w3).mono ?_
    rintro e w4 ⟨a4, rfl, hb⟩
    replace hB := Lib.hid (hB.out.trans (hb.mono hB.out.size))
    clear hb
    go_wp2_with fail
    refine (hM.out w4).mono ?_
    rintro e w5 ⟨rfl, hb⟩
    replace hB := Lib.hid (hB.out.trans (hb.mono hB.out.size))
    clear hb
    go_wp2_with fail
    refine (hK.out w5).mono ?_
    rintro e w6 ⟨rfl, hb⟩
    replace hB := Lib.hid (hB.out.trans (hb.mono hB.out.size))
    clear hb
    go_wp2
    go_ret
    exact ⟨rfl, hB.out⟩
  · have hl2 : TokSl w2.heap.size w2 (.slice (some ⟨g, 0, none⟩) 2 c) ts := h2 ▸ hl
    rw [h2]
    clear hl
    obtain ⟨k, x, p⟩ := t
    obtain ⟨c0, c1, c2⟩ : w2.cell? ⟨g, 0, none⟩ = some (.int .u8 k) ∧ w2.cell? ⟨g, 1, none⟩ = some (.string x) ∧ w2.cell? ⟨g, 2, none⟩ = some (.int .i64 p) := tokCells hl2 0 _ ht.out
    obtain ⟨b1, hb1⟩ : ∃ b, (x.toList == s.toList) = b := ⟨_, rfl⟩
    obtain ⟨b2, hb2⟩ : ∃ b, (p == 0) = b := ⟨_, rfl⟩
    rcases b1 with _ | _ <;> rcases b2 with _ | _
    all_goals
      go_wp2_with fail
      refine (hR.out w2).mono ?_
      rintro e w3 ⟨a3, rfl, hb⟩
      replace hB := Lib.hid (hB.out.trans (hb.mono hB.out.size))
      clear hb
      go_wp2_with fail
      refine (hN.out w3).mono ?_
      rintro e w4 ⟨a4, rfl, hb⟩
      replace hB := Lib.hid (hB.out.trans (hb.mono hB.out.size))
      clear hb
      go_wp2_with fail
      refine (hM.out w4).mono ?_
      rintro e w5 ⟨rfl, hb⟩
      replace hB := Lib.hid (hB.out.trans (hb.mono hB.out.size))
      clear hb
      go_wp2_with fail
      refine (hK.out w5).mono ?_
      rintro e w6 ⟨rfl, hb⟩
      replace hB := Lib.hid (hB.out.trans (hb.mono hB.out.size))
      clear hb
      go_wp2
      go_ret
      exact ⟨rfl, hB.out⟩

theorem names_law (s : ByteArray) (w : World) : Calls Try.prog 10 #[.string s] w fun e w' => e = .returned (.bool true) ∧ Below w.heap.size w w' := by
  by_cases h : 5000 < s.size
  · have t1 : decide (5000 < (s.size : Int)) = true := by simp; omega
    go_enter Try.func10, Try.ntmps10
    go_wp2_with fail
    refine (awake_any w).mono ?_
    rintro e w1 ⟨rfl, hb⟩
    go_wp2
    go_ret
    exact ⟨rfl, hb⟩
  · have hs : s.size ≤ 5000 := by omega
    have hm : s.size ≤ maxLen := by unfold maxLen; omega
    have R : TwoV 23 s (LX.regOk (bsOf s)) := fun W => (reg_any s W hm).mono fun _ _ h => ⟨_, h.1, h.2⟩
    have N : TwoV 24 s (LX.numOk (bsOf s)) := fun W => (num_any s W hm).mono fun _ _ h => ⟨_, h.1, h.2⟩
    have M : OneV 25 s (LX.nameB (bsOf s)) := fun W => name_any s W hm
    have K : OneV 26 s (LX.keptB (bsOf s)) := fun W => (kept_any s W).mono fun _ _ h => ⟨h.1, h.2 ▸ Below.refl _ _⟩
    by_cases h1 : LX.regOk (bsOf s) = true
    · obtain ⟨e1, e2, e3⟩ := LX.reg_only h1
      rw [h1] at R; rw [e3] at N; rw [e2] at M; rw [e1] at K
      exact names_one s w hs 1 true false false false (.inl ⟨rfl, rfl, rfl, rfl, rfl⟩) (Lib.hid fun W => lexOne s 1 W hs (LX.out_word (LX.word_reg h1))) (Lib.hid R) (Lib.hid N) (Lib.hid M) (Lib.hid K)
    · by_cases h2 : LX.nameB (bsOf s) = true
      · obtain ⟨e1, e2, e3⟩ := LX.name_only h2
        rw [e2] at R; rw [e3] at N; rw [h2] at M; rw [e1] at K
        exact names_one s w hs 1 false false true false (.inr (.inl ⟨rfl, rfl, rfl, rfl, rfl⟩)) (Lib.hid fun W => lexOne s 1 W hs (LX.out_word (LX.word_name h2))) (Lib.hid R) (Lib.hid N) (Lib.hid M) (Lib.hid K)
      · by_cases h3 : LX.keptB (bsOf s) = true
        · obtain ⟨e1, e2, e3⟩ := LX.kept_only h3
          rw [e1] at R; rw [e3] at N; rw [e2] at M; rw [h3] at K
          exact names_one s w hs 1 false false false true (.inr (.inr (.inl ⟨rfl, rfl, rfl, rfl, rfl⟩))) (Lib.hid fun W => lexOne s 1 W hs (LX.out_word (LX.word_kept h3))) (Lib.hid R) (Lib.hid N) (Lib.hid M) (Lib.hid K)
        · rw [Bool.eq_false_iff.2 h1] at R; rw [Bool.eq_false_iff.2 h2] at M; rw [Bool.eq_false_iff.2 h3] at K
          by_cases h4 : LX.numOk (bsOf s) = true
          · rw [h4] at N
            exact names_one s w hs 2 false true false false (.inr (.inr (.inr ⟨rfl, rfl, rfl, rfl, rfl⟩))) (Lib.hid fun W => lexOne s 2 W hs (LX.out_num h4)) (Lib.hid R) (Lib.hid N) (Lib.hid M) (Lib.hid K)
          · rw [Bool.eq_false_iff.2 h4] at N
            exact names_none s w hs (Lib.hid R) (Lib.hid N) (Lib.hid M) (Lib.hid K)
end Go.Proofs.Ytlndeiljjielbaa
