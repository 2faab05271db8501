/- LexJoins. -/
import Derived.BigQuiet
import Derived.Test.YtcahdnghdblanaaLexUse
namespace Go.Proofs.Ytcahdnghdblanaa
open Go.RowKit Go.Shelf

attribute [local go_sem] Oper.semAt_some
/-- Lex's contract with what it answers left as letters. -/
def LexIs (s : ByteArray) (ts : List TokD) (n er : Int) : Prop := ∀ W : World, Calls Try.prog 19 #[.string s] W fun e w' => ∃ v, e = .returned (.tuple #[v, .int .i64 n, .int .i64 er]) ∧ TokSl w'.heap.size w' v ts ∧ Below W.heap.size W w'
theorem lexIs (s : ByteArray) : LexIs s (toks s) ((LX.out (bsOf s)).2.1 : Int) ((LX.out (bsOf s)).2.2 : Int) := fun W => lexT s W
theorem app_size (a b : ByteArray) : (a ++ b).size = a.size + b.size := by rw [← bsOf_length, ← bsOf_length, ← bsOf_length, ← List.length_append]; unfold bsOf; simp

set_option maxRecDepth 100000 in
set_option maxHeartbeats 8000000 in
theorem joins_in (a b : ByteArray) (w : World) (ha : a.size ≤ 2000) (hb : b.size ≤ 2000) (ta tb tx : List TokD) (na nb nx ea eb ex : Int)
    (hA : Hid (LexIs a ta na ea)) (hBb : Hid (LexIs b tb nb eb)) (hX : Hid (LexIs (a ++ ⟨#[10]⟩ ++ b) tx nx ex))
    (hc : (ea ≠ 0 ∧ ex = ea ∧ nx = na ∧ tx.length = 0) ∨ (ea = 0 ∧ eb ≠ 0 ∧ ex = eb ∧ nx = nb + a.size + 1 ∧ 0 ≤ nb ∧ nb ≤ 100000 ∧ tx.length = 0) ∨
      (ea = 0 ∧ eb = 0 ∧ ex = 0 ∧ tx = ta ++ tb.map (fun t => ⟨t.k, t.x, t.p + (a.size : Int) + 1⟩) ∧ ∀ t ∈ tb, 0 ≤ t.p ∧ t.p ≤ 100000)) :
    Calls Try.prog 9 #[.string a, .string b] w fun e w' => e = .returned (.bool true) ∧ Below w.heap.size w w' := by
  have t1 : decide (2000 < (a.size : Int)) = false := by simp; omega
  have t2 : decide (2000 < (b.size : Int)) = false := by simp; omega
  have q1 : (9223372036854775807 < a.size + 1) = False := eq_false (by omega)
  have q2 : (9223372036854775807 < (a ++ ⟨#[10]⟩).size + b.size) = False := eq_false (by rw [app_size]; show ¬ 9223372036854775807 < a.size + 1 + b.size; omega)
  replace hc := Lib.hid hc
  go_enter Try.func9, Try.ntmps9
  go_wp2_with fail
  refine (awake_any w).mono ?_
  rintro e w1 ⟨rfl, hB⟩
  replace hB := Lib.hid hB
  go_wp2_with fail
  refine (hA.out w1).mono ?_
  rintro e w2 ⟨va, rfl, la, hb2⟩
  replace hB := Lib.hid (hB.out.trans (hb2.mono hB.out.size))
  clear hb2
  go_wp2_with fail
  refine (hBb.out w2).mono ?_
  rintro e w3 ⟨vb, rfl, lb, hb2⟩
  replace la := la.on hb2
  replace hB := Lib.hid (hB.out.trans (hb2.mono hB.out.size))
  clear hb2
  go_wp2_with fail
  refine (hX.out w3).mono ?_
  rintro e w4 ⟨vx, rfl, lx, hb2⟩
  replace la := la.on hb2
  replace lb := lb.on hb2
  replace hB := Lib.hid (hB.out.trans (hb2.mono hB.out.size))
  clear hb2
  rcases hc.out with ⟨h1, rfl, rfl, h4⟩ | ⟨rfl, h2, rfl, rfl, h5, h6, h4⟩ | ⟨rfl, rfl, rfl, rfl, hp⟩
  · obtain ⟨-, ax, cx, rfl, -⟩ := lx
    rw [h4]
    have e1 : (ex != 0) = true := by simpa using h1
    clear h1
    go_wp2
    go_ret
    exact ⟨rfl, hB.out⟩
  · obtain ⟨-, ax, cx, rfl, -⟩ := lx
    rw [h4]
    have e1 : (ex != 0) = true := by simpa using h2
    clear h2
    go_wp2
    go_ret
    exact ⟨rfl, hB.out⟩
  · clear hc hA hBb hX
    obtain ⟨mx, ax, cx, rfl, cX⟩ := lx
    obtain ⟨ma, aa, ca, rfl, cA⟩ := la
    obtain ⟨mb, ab, cb, rfl, cB⟩ := lb
    rw [List.length_append, List.length_map] at cX mx ⊢
    unfold maxLen at ma mb mx
    replace cX := Lib.hid cX
    replace cA := Lib.hid cA
    replace cB := Lib.hid cB
    replace hp := Lib.hid hp
    go_wp2_with fail
    go_loopw [14] (fun i wr => ∃ (k : Nat), k ≤ ta.length ∧ i = .int .i64 (k : Int) ∧ ∀ B, Below B w4 wr) (fun i _ => ta.length - (intOf i).toNat)
    case atStart => exact ⟨0, by omega, rfl, fun B => Below.refl B _⟩
    case round =>
      obtain ⟨k, hk', rfl, hBr⟩ := hrel
      by_cases hlt : k < ta.length
      · obtain ⟨g, rfl, hg, hcA⟩ := cA.out (by omega)
        obtain ⟨g2, rfl, hg2, hcX⟩ := cX.out (by omega)
        obtain ⟨t, ht⟩ : ∃ t, ta[k]? = some t := ⟨ta[k], List.getElem?_eq_getElem hlt⟩
        obtain ⟨e1, e2, e3⟩ := hcA k t ht
        obtain ⟨f1, f2, f3⟩ := hcX k t (by rw [List.getElem?_append_left hlt]; exact ht)
        replace e1 := ((hBr w4.heap.size).cell (p := ⟨g, k * 3, none⟩) hg).trans e1
        replace e2 := ((hBr w4.heap.size).cell (p := ⟨g, k * 3 + 1, none⟩) hg).trans e2
        replace e3 := ((hBr w4.heap.size).cell (p := ⟨g, k * 3 + 2, none⟩) hg).trans e3
        replace f1 := ((hBr w4.heap.size).cell (p := ⟨g2, k * 3, none⟩) hg2).trans f1
        replace f2 := ((hBr w4.heap.size).cell (p := ⟨g2, k * 3 + 1, none⟩) hg2).trans f2
        replace f3 := ((hBr w4.heap.size).cell (p := ⟨g2, k * 3 + 2, none⟩) hg2).trans f3
        have u1 : decide (k < ta.length) = true := by simpa using hlt
        have u2 : k < ta.length + tb.length := by omega
        have HB := Lib.hid hBr
        clear hcA hcX hBr ht
        go_wp2_with fail
        go_quiet (fail)
        go_wp2
        go_roundw
        case rel => exact ⟨k + 1, by omega, by go_num, fun B => below_drewN (HB.out B) nq⟩
        case measure => simp [intOf]; omega
      · obtain rfl : k = ta.length := by omega
        have u1 : decide (ta.length < ta.length) = false := by simp
        have HB := Lib.hid hBr
        clear hBr
        go_wp2_with fail
        go_loopw [15, 16] (fun i _ wr2 => ∃ (k : Nat), k ≤ tb.length ∧ i = .int .i64 (k : Int) ∧ Hid (Below w4.heap.size w4 wr2)) (fun i _ _ => tb.length - (intOf i).toNat)
        case atStart => exact ⟨0, by omega, rfl, Lib.hid (HB.out _)⟩
        case round =>
          obtain ⟨k, hk2, rfl, hBr⟩ := hrel
          clear HB
          by_cases hlt2 : k < tb.length
          · obtain ⟨g, rfl, hg, hcB⟩ := cB.out (by omega)
            obtain ⟨g2, rfl, hg2, hcX⟩ := cX.out (by omega)
            obtain ⟨t, ht⟩ : ∃ t, tb[k]? = some t := ⟨tb[k], List.getElem?_eq_getElem hlt2⟩
            obtain ⟨p0, p1⟩ := hp.out t (List.mem_of_getElem? ht)
            obtain ⟨e1, e2, e3⟩ := hcB k t ht
            obtain ⟨f1, f2, f3⟩ := hcX (ta.length + k) ⟨t.k, t.x, t.p + (a.size : Int) + 1⟩ (by rw [List.getElem?_append_right (by omega), Nat.add_sub_cancel_left, List.getElem?_map, ht]; rfl)
            replace e1 := (hBr.out.cell (p := ⟨g, k * 3, none⟩) hg).trans e1
            replace e2 := (hBr.out.cell (p := ⟨g, k * 3 + 1, none⟩) hg).trans e2
            replace e3 := (hBr.out.cell (p := ⟨g, k * 3 + 2, none⟩) hg).trans e3
            have v1 : decide (k < tb.length) = true := by simpa using hlt2
            have v2 : ta.length + k < ta.length + tb.length := by omega
            clear hcB hcX ht
            go_upto_region 24 with fail
            have hT := heap_alloc_new wr (.cells #[.int .u8 t.k, .string t.x, .int .i64 (t.p + (a.size : Int) + 1)] 27)
            have h1 := cell_of_row _ _ 0 _ _ _ hT
            have h2 := cell_of_row _ _ 1 _ _ _ hT
            have h3 := cell_of_row _ _ 2 _ _ _ hT
            have hB5 : Below w4.heap.size w4 (wr.alloc (.cells #[.int .u8 t.k, .string t.x, .int .i64 (t.p + (a.size : Int) + 1)] 27)) := hBr.out.alloc hBr.out.size _
            generalize wr.alloc (.cells #[.int .u8 t.k, .string t.x, .int .i64 (t.p + (a.size : Int) + 1)] 27) = w5 at *
            clear hT e1 e2 e3
            replace f1 := (hB5.cell (p := ⟨g2, (ta.length + k) * 3, none⟩) hg2).trans f1
            replace f2 := (hB5.cell (p := ⟨g2, (ta.length + k) * 3 + 1, none⟩) hg2).trans f2
            replace f3 := (hB5.cell (p := ⟨g2, (ta.length + k) * 3 + 2, none⟩) hg2).trans f3
            replace hB5 := Lib.hid hB5
            clear hBr
            go_quiet (fail)
            go_wp2
            go_roundw
            case rel => exact ⟨k + 1, by omega, by go_num, Lib.hid (below_drewN hB5.out nq)⟩
            case measure => simp [intOf]; omega
          · obtain rfl : k = tb.length := by omega
            have v1 : decide (tb.length < tb.length) = false := by simp
            go_wp2
            go_ret
            exact ⟨rfl, hB.out.trans (hBr.out.mono hB.out.size)⟩
theorem toks_at (s : ByteArray) (h : (LX.out (bsOf s)).2.2 = 0) : ∀ t ∈ toks s, 0 ≤ t.p ∧ t.p ≤ 100000 := by
  intro t ht
  obtain ⟨-, hc, hl⟩ := LX.out_good h
  unfold toks at ht
  obtain ⟨u, hu, rfl⟩ := List.mem_map.1 ht
  obtain ⟨h1, h2⟩ := LX.chain_mem hc u hu
  show 0 ≤ (u.lo : Int) ∧ (u.lo : Int) ≤ 100000
  omega
theorem out_at (s : ByteArray) : (LX.out (bsOf s)).2.1 ≤ 100000 := by
  unfold LX.out
  split
  · simp
  · rename_i h
    split
    · rename_i x hx
      have hm := List.mem_of_find?_eq_some hx
      have : ∀ (n : Nat) {i : Nat} {u : Bool}, (bsOf s).length - i = n → i ≤ (bsOf s).length → ∀ x ∈ LX.ys (bsOf s) i u, x.1.lo ≤ (bsOf s).length := by
        intro n
        induction n using Nat.strongRecOn with
        | _ n ih =>
          intro i u hn hi x hx
          by_cases h : i < (bsOf s).length
          · have hr := LX.clAt_range (bsOf s) i
            have : LX.clAt (bsOf s) i = 0 ∨ LX.clAt (bsOf s) i = 1 ∨ LX.clAt (bsOf s) i = 2 ∨ LX.clAt (bsOf s) i = 3 ∨ LX.clAt (bsOf s) i = 4 ∨ LX.clAt (bsOf s) i = 5 ∨ LX.clAt (bsOf s) i = 6 ∨ LX.clAt (bsOf s) i = 7 := by omega
            rcases this with hc | hc | hc | hc | hc | hc | hc | hc
            · rw [LX.ys_stray h (.inl hc)] at hx; simp at hx; subst hx; exact hi
            · rw [LX.ys_blank h hc] at hx; exact ih _ (by omega) rfl (by omega) x hx
            · rw [LX.ys_newline h hc] at hx
              rcases List.mem_append.1 hx with hx | hx
              · split at hx
                · simp at hx; subst hx; exact hi
                · simp at hx
              · exact ih ((bsOf s).length - (i + 1)) (by omega) rfl (by omega) x hx
            · rw [LX.ys_hash h hc] at hx
              have hg := LX.run_gt (p := LX.inC) h (by rw [hc]; rfl)
              exact ih _ (by omega) rfl (LX.run_le _ _ _ hi) x hx
            · rw [LX.ys_word h hc] at hx
              have hg := LX.run_gt (p := LX.inW) h (by rw [hc]; rfl)
              split at hx
              · simp at hx; subst hx; exact hi
              · rcases List.mem_cons.1 hx with rfl | hx
                · exact hi
                · exact ih ((bsOf s).length - LX.run LX.inW (bsOf s) i) (by omega) rfl (LX.run_le _ _ _ hi) x hx
            · rw [LX.ys_num h hc] at hx
              have hg := LX.run_gt (p := LX.inN) h (by rw [hc]; rfl)
              split at hx
              · rcases List.mem_cons.1 hx with rfl | hx
                · exact hi
                · exact ih ((bsOf s).length - LX.run LX.inN (bsOf s) i) (by omega) rfl (LX.run_le _ _ _ hi) x hx
              · simp at hx; subst hx; exact hi
            · rw [LX.ys_stray h (.inr hc)] at hx; simp at hx; subst hx; exact hi
            · rw [LX.ys_sign h hc] at hx
              have hg := LX.signLen_pos (bsOf s) i
              rcases List.mem_cons.1 hx with rfl | hx
              · exact hi
              · exact ih ((bsOf s).length - (i + LX.signLen (bsOf s) i)) (by omega) rfl (LX.signLen_le h) x hx
          · rw [LX.ys_end (by omega)] at hx
            split at hx
            · simp at hx; subst hx; exact hi
            · simp at hx
      have := this _ rfl (Nat.zero_le _) x hm
      simp only; omega
    · simp
set_option maxRecDepth 100000 in
theorem joins_law (a b : ByteArray) (w : World) : Calls Try.prog 9 #[.string a, .string b] w fun e w' => e = .returned (.bool true) ∧ Below w.heap.size w w' := by
  by_cases ha : 2000 < a.size
  · have t1 : decide (2000 < (a.size : Int)) = true := by simp; omega
    go_enter Try.func9, Try.ntmps9
    go_wp2_with fail
    refine (awake_any w).mono ?_
    rintro e w1 ⟨rfl, hb⟩
    go_wp2
    go_ret
    exact ⟨rfl, hb⟩
  by_cases hb : 2000 < b.size
  · have t1 : decide (2000 < (a.size : Int)) = false := by simp; omega
    have t2 : decide (2000 < (b.size : Int)) = true := by simp; omega
    go_enter Try.func9, Try.ntmps9
    go_wp2_with fail
    refine (awake_any w).mono ?_
    rintro e w1 ⟨rfl, hb⟩
    go_wp2
    go_ret
    exact ⟨rfl, hb⟩
  have hx : bsOf (a ++ ⟨#[10]⟩ ++ b) = bsOf a ++ 10 :: bsOf b := by unfold bsOf; simp
  obtain ⟨j1, j2, j3⟩ := joined hx (by omega) (by omega)
  refine joins_in a b w (by omega) (by omega) _ _ _ _ _ _ _ _ _ (Lib.hid (lexIs a)) (Lib.hid (lexIs b)) (Lib.hid (lexIs _)) ?_
  by_cases h1 : (LX.out (bsOf a)).2.2 = 0
  · by_cases h2 : (LX.out (bsOf b)).2.2 = 0
    · obtain ⟨k1, k2⟩ := j3 h1 h2
      exact .inr (.inr ⟨by rw [h1]; rfl, by rw [h2]; rfl, by rw [k1]; rfl, k2, toks_at b h2⟩)
    · obtain ⟨k1, k2, k3⟩ := j2 h1 h2
      have := out_at b
      exact .inr (.inl ⟨by rw [h1]; rfl, by omega, by rw [k2], by rw [k1]; omega, by omega, by omega, k3⟩)
  · obtain ⟨k1, k2⟩ := j1 h1
    exact .inl ⟨by omega, by rw [k1], by rw [k1], k2⟩
end Go.Proofs.Ytcahdnghdblanaa
