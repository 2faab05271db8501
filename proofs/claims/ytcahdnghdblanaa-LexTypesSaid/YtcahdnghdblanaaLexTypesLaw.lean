/- LexTypes. -/
import Derived.Test.YtcahdnghdblanaaLexTokArg
import Derived.Test.YtcahdnghdblanaaLexTellsLaw
namespace Go.Proofs.Ytcahdnghdblanaa
open Go.RowKit Go.Shelf

attribute [local go_sem] Oper.semAt_some
def sumX (l : List TokD) : Nat := (l.map fun t => t.x.size).sum
theorem sumX_snoc (l : List TokD) (t : TokD) : sumX (l ++ [t]) = sumX l + t.x.size := by unfold sumX; simp
theorem sumX_mem : ∀ (l : List TokD) (t : TokD), t ∈ l → t.x.size ≤ sumX l
  | [], t, h => by simp at h
  | u :: l, t, h => by
    unfold sumX at *
    rw [List.map_cons, List.sum_cons]
    rcases List.mem_cons.1 h with rfl | h
    · omega
    · have := sumX_mem l t h; unfold sumX at this; omega
theorem sumX_take {l : List TokD} {k : Nat} {t : TokD} (h : l[k]? = some t) : sumX (l.take (k + 1)) = sumX (l.take k) + t.x.size := by rw [take_snoc h, sumX_snoc]

set_option maxRecDepth 100000 in
set_option maxHeartbeats 8000000 in
theorem types_law (v : Value) (ts : List TokD) (w : World) (hv : TokO w.heap.size w v ts) (hk : ∀ t ∈ ts, (0 ≤ t.k ∧ t.k ≤ 255) ∧ t.x.size ≤ reachBytes) :
    Calls Try.prog 5 #[v] w fun e w' => e = .returned (.bool true) ∧ Below w.heap.size w w' := by
  obtain ⟨i0, hi, hz0, hz1, hz2⟩ := infoTok3
  have hv0 := Lib.hid hv
  have hkk : Hid (∀ t ∈ ts, 0 ≤ t.k ∧ t.k ≤ 255) := Lib.hid fun t ht => (hk t ht).1
  obtain ⟨hm, a, cap, rfl, hnil, hcell⟩ := hv
  unfold maxLen at hm
  replace hcell := Lib.hid hcell
  replace hk := Lib.hid hk
  replace hnil := Lib.hid hnil
  have hlit := Lib.hid (World.ownsRow_lit w (e := 27) (size := 3) (base := w.heap.size) #[] 0 (Nat.le_refl _) (by decide) rfl)
  have hBl := Lib.hid ((Below.refl w.heap.size w).alloc (Nat.le_refl _) (.cells #[] 27))
  go_enter Try.func5, Try.ntmps5
  go_wp2_with fail
  go_loop [3, 4] (fun n i => ∃ (k s : Nat), k ≤ ts.length ∧ n = .int .i64 (s : Int) ∧ i = .int .i64 (k : Int) ∧ s ≤ 200000000000000 ∧ Hid (s = sumX (ts.take k))) (fun _ i => ts.length - (intOf i).toNat)
  case atStart => exact ⟨0, 0, by omega, rfl, rfl, by omega, Lib.hid rfl⟩
  case round =>
    obtain ⟨k, s, hk', rfl, rfl, hs, hS⟩ := hrel
    by_cases hlt : k < ts.length
    · have t1 : decide (k < ts.length) = true := by simpa using hlt
      by_cases h5 : s ≤ 5000
      · have t2 : decide ((s : Int) ≤ 5000) = true := by simp; omega
        obtain ⟨g, off, rfl, hg, hc⟩ := hcell.out (by omega)
        obtain ⟨t, ht⟩ : ∃ t, ts[k]? = some t := ⟨ts[k], List.getElem?_eq_getElem hlt⟩
        obtain ⟨e1, e2, e3⟩ := hc k t ht
        have hx := (hk.out t (List.mem_of_getElem? ht)).2
        replace hx : t.x.size < 2 ^ 47 := Nat.lt_of_le_of_lt hx reachBytes_lt
        have hS2 : Hid (s + t.x.size = sumX (ts.take (k + 1))) := Lib.hid (by rw [sumX_take ht, hS.out])
        have hw : IntKind.i64.wrap ((s : Int) + (t.x.size : Int)) = ((s + t.x.size : Nat) : Int) := by rw [IntWalk.i64_in _ (by omega)]; omega
        clear hc ht hS e1 e3
        go_wp2
        exact ⟨⟨k + 1, s + t.x.size, by omega, rfl, by go_num, by omega, hS2⟩, by simp [intOf]; omega⟩
      · have t2 : decide ((s : Int) ≤ 5000) = false := by simp; omega
        have t3 : decide (5000 < (s : Int)) = true := by simp; omega
        obtain ⟨o, ho⟩ : ∃ o, decide (500 < (ts.length : Int)) = o := ⟨_, rfl⟩
        cases o
        all_goals
          go_wp2_with fail
          refine (awake_any _).mono ?_
          rintro e w1 ⟨rfl, hb⟩
          go_wp2
          go_ret
          exact ⟨rfl, hb⟩
    · obtain rfl : k = ts.length := by omega
      have t1 : decide (ts.length < ts.length) = false := by simp
      by_cases h6 : 500 < ts.length
      · have t3 : decide (500 < (ts.length : Int)) = true := by simp; omega
        go_wp2_with fail
        refine (awake_any _).mono ?_
        rintro e w1 ⟨rfl, hb⟩
        go_wp2
        go_ret
        exact ⟨rfl, hb⟩
      · have t3 : decide (500 < (ts.length : Int)) = false := by simp; omega
        by_cases h5 : s ≤ 5000
        · have t4 : decide (5000 < (s : Int)) = false := by simp; omega
          have hsum := hS.out
          rw [List.take_length] at hsum
          have hby := Lib.hid (show (byL (spL bno ts)).length ≤ 140737488355328 by
            have h1 := byL_bound 5000 ts bno (by decide) fun t ht => by have := sumX_mem ts t ht; omega
            have h2 : ts.length * (5000 + 1) ≤ 500 * 5001 := Nat.mul_le_mul (by omega) (by omega)
            omega)
          clear hsum
          have hBw := Lib.hid (Below.refl w.heap.size w)
          rcases a with _ | ad
          · obtain ⟨h0, rfl⟩ := hnil.out rfl
            obtain rfl := List.eq_nil_of_length_eq_zero h0
            have hin : Hid (TokSl (w.alloc (.cells #[] 27)).heap.size (w.alloc (.cells #[] 27)) (.slice (some ⟨w.heap.size, 0, none⟩) 0 0) []) := Lib.hid ⟨by simp, _, _, rfl, fun h => absurd h (by simp)⟩
            have hvo := Lib.hid (hv0.out.on hBl.out)
            go_wp2_with fail
            generalize w.alloc (.cells #[] 27) = W1 at *
            refine (type_any _ _ W1 hin.out hby.out).mono ?_
            rintro e w2 ⟨rfl, hb⟩
            replace hin := Lib.hid (hin.out.on hb)
            replace hvo := Lib.hid (hvo.out.on hb)
            replace hBl := Lib.hid (hBl.out.trans (hb.mono hBl.out.size))
            clear hb
            go_wp2_with fail
            refine (theirs_any _ _ w2 hvo.out (by simp) hkk.out).mono ?_
            rintro e w3 ⟨u, rfl, hu, hb⟩
            replace hin := Lib.hid (hin.out.on hb)
            replace hvo := Lib.hid (hvo.out.on hb)
            replace hBl := Lib.hid (hBl.out.trans (hb.mono hBl.out.size))
            clear hb
            go_wp2_with fail
            refine (rType_any u _ w3 hu hby.out).mono ?_
            rintro e w4 ⟨rfl, rfl⟩
            go_wp2_with fail
            refine (theirs_any _ _ w3 hvo.out (by simp) hkk.out).mono ?_
            rintro e w4 ⟨u2, rfl, hu2, hb⟩
            replace hin := Lib.hid (hin.out.on hb)
            replace hBl := Lib.hid (hBl.out.trans (hb.mono hBl.out.size))
            clear hb
            go_wp2_with fail
            refine (same_any _ u2 _ w4 hin.out hu2 hkk).mono ?_
            rintro e w5 ⟨rfl, hb⟩
            replace hBl := Lib.hid (hBl.out.trans (hb _))
            clear hb
            go_wp2_with fail
            refine (awake_any w5).mono ?_
            rintro e w6 ⟨rfl, hb⟩
            replace hBl := Lib.hid (hBl.out.trans (hb.mono hBl.out.size))
            clear hb
            go_wp2
            go_ret
            exact ⟨rfl, hBl.out⟩
          · have hnews : Hid (∀ j u, (tdsC ts)[j]? = some u → (w.alloc (.cells #[] 27)).cell? (ad.add j) = some u) := Lib.hid fun j u hu => by
              have hvb := hv0.out.on hBl.out
              obtain ⟨-, a', cap', he, -, hc⟩ := hvb
              have h0 : 0 < ts.length := by
                rcases Nat.eq_zero_or_pos ts.length with h | h
                · rw [List.eq_nil_of_length_eq_zero h] at hu; simp [tdsC] at hu
                · exact h
              obtain ⟨b, off, rfl, -, hcc⟩ := hc h0
              cases he
              exact tds_cells hcc j u hu
            have htl : Hid ((tdsC ts).length = ts.length * 3) := Lib.hid (by
              have : ∀ l : List TokD, (tdsC l).length = l.length * 3 := by
                intro l; induction l with
                | nil => rfl
                | cons t l ih => unfold tdsC at *; rw [List.flatMap_cons, List.length_append, ih, List.length_cons]; show 3 + _ = _; omega
              exact this ts)
            have hone : Hid (∀ u ∈ tdsC ts, u.oneCell' = true) := Lib.hid fun u hu => by
              unfold tdsC at hu
              obtain ⟨t, -, ht⟩ := List.mem_flatMap.1 hu
              unfold tdC at ht; simp at ht; rcases ht with rfl | rfl | rfl <;> rfl
            go_wp2_with (at_builtin; refine wpList_append_own_at _ rfl (.tmp 32) (.tmp 33) 24 rfl w.heap.size 27 i0 _ 3 32 Try.underlying24 hi hz0 hz1 hz2 rfl (by decide) _ 0 [] rfl hlit.out ad ts.length cap (tdsC ts) rfl htl.out hnews.out hone.out (by unfold maxLen; omega) (by omega) hBl.out.size ?_; intro vi W1 hown' hgrow _ _)
            have hin : Hid (TokSl W1.heap.size W1 vi ts) := Lib.hid (tokSl_row (by simpa using hown') (by unfold maxLen; omega))
            replace hBl := Lib.hid (hBl.out.grown hgrow hBl.out.size (fun j hj => by have := (hlit.out.lt j hj).1; omega))
            have hvo := Lib.hid (hv0.out.on hBl.out)
            clear hown' hgrow hnews htl hone
            refine (type_any _ _ W1 hin.out hby.out).mono ?_
            rintro e w2 ⟨rfl, hb⟩
            replace hin := Lib.hid (hin.out.on hb)
            replace hvo := Lib.hid (hvo.out.on hb)
            replace hBl := Lib.hid (hBl.out.trans (hb.mono hBl.out.size))
            clear hb
            go_wp2_with fail
            refine (theirs_any _ _ w2 hvo.out (by omega) hkk.out).mono ?_
            rintro e w3 ⟨u, rfl, hu, hb⟩
            replace hin := Lib.hid (hin.out.on hb)
            replace hvo := Lib.hid (hvo.out.on hb)
            replace hBl := Lib.hid (hBl.out.trans (hb.mono hBl.out.size))
            clear hb
            go_wp2_with fail
            refine (rType_any u _ w3 hu hby.out).mono ?_
            rintro e w4 ⟨rfl, rfl⟩
            go_wp2_with fail
            refine (theirs_any _ _ w3 hvo.out (by omega) hkk.out).mono ?_
            rintro e w4 ⟨u2, rfl, hu2, hb⟩
            replace hin := Lib.hid (hin.out.on hb)
            replace hBl := Lib.hid (hBl.out.trans (hb.mono hBl.out.size))
            clear hb
            go_wp2_with fail
            refine (same_any _ u2 _ w4 hin.out hu2 hkk).mono ?_
            rintro e w5 ⟨rfl, hb⟩
            replace hBl := Lib.hid (hBl.out.trans (hb _))
            clear hb
            go_wp2_with fail
            refine (awake_any w5).mono ?_
            rintro e w6 ⟨rfl, hb⟩
            replace hBl := Lib.hid (hBl.out.trans (hb.mono hBl.out.size))
            clear hb
            go_wp2
            go_ret
            exact ⟨rfl, hBl.out⟩
        · have t4 : decide (5000 < (s : Int)) = true := by simp; omega
          go_wp2_with fail
          refine (awake_any _).mono ?_
          rintro e w1 ⟨rfl, hb⟩
          go_wp2
          go_ret
          exact ⟨rfl, hb⟩
end Go.Proofs.Ytcahdnghdblanaa
