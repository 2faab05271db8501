/- LexBack. -/
import Derived.BigQuiet
import Derived.Test.YtcahdnghdblanaaLexAlike
import Derived.Test.YtcahdnghdblanaaLexJoinsLaw
namespace Go.Proofs.Ytcahdnghdblanaa
open Go.RowKit Go.Shelf

attribute [local go_sem] Oper.semAt_some
theorem typed_bytes (s : ByteArray) (hs : s.size ≤ 5000) (h : (LX.out (bsOf s)).2.2 = 0) : (byL (spL bno (toks (typeS (toks s))))).length ≤ 140737488355328 := by
  obtain ⟨h1, _, _, h4⟩ := typed s hs h
  rw [← bsOf_typeS, h4, bsOf_typeS]
  omega
/-- A token's facts for the walk. -/
theorem chain_step {s : ByteArray} {a : Nat} {t : LX.Tk} {r : List LX.Tk} (h : LX.chain (bsOf s) a (t :: r)) : a ≤ t.lo ∧ t.lo + (s.extract t.lo t.hi).size = t.hi ∧ t.hi ≤ s.size ∧ (LX.emS false (bsOf (s.extract a t.lo))).isSome = true ∧
    ((s.extract t.lo t.hi).size = 0 ↔ t.kind = 4) ∧ LX.chain (bsOf s) t.hi r := by
  obtain ⟨h1, h2, h3, h4, h5, h6⟩ := h
  have e : (s.extract t.lo t.hi).size = t.hi - t.lo := by rw [← bsOf_length, bsOf_extract, LX.cut_len h3]
  rw [bsOf_length] at h3
  refine ⟨h1, by omega, h3, by rw [bsOf_extract]; exact h4, ?_, h6⟩
  rw [e, ← h5]; omega

set_option maxRecDepth 100000 in
set_option maxHeartbeats 8000000 in
theorem back_good (s : ByteArray) (w : World) (hs : s.size ≤ 5000) (h : (LX.out (bsOf s)).2.2 = 0) :
    Calls Try.prog 7 #[.string s] w fun e w' => e = .returned (.bool true) ∧ Below w.heap.size w w' := by
  have t1 : decide (5000 < (s.size : Int)) = false := by simp; omega
  obtain ⟨y1, y2, y3, y4⟩ := typed s hs h
  have hch := Lib.hid (LX.out_good h).2.1
  have L1 := lexIs s
  have L2 := lexIs (typeS (toks s))
  have hb2 := Lib.hid (typed_bytes s hs h)
  rw [h] at L1
  rw [y2] at L2
  replace y4 := Lib.hid y4
  replace y3 := Lib.hid y3
  generalize hS : typeS (toks s) = S at *
  replace hS := Lib.hid hS
  replace L1 := Lib.hid L1
  replace L2 := Lib.hid L2
  have hby := Lib.hid (show (byL (spL bno (toks s))).length ≤ 140737488355328 by omega)
  have hlen := Lib.hid (toks_length s)
  clear y1 y2 h
  go_enter Try.func7, Try.ntmps7
  go_wp2_with fail
  refine (awake_any w).mono ?_
  rintro e w1 ⟨rfl, hB⟩
  replace hB := Lib.hid hB
  go_wp2_with fail
  refine (L1.out w1).mono ?_
  rintro e w2 ⟨v, rfl, l1, hb⟩
  replace hB := Lib.hid (hB.out.trans (hb.mono hB.out.size))
  clear hb
  go_wp2_with fail
  refine (type_any v _ w2 l1 hby.out).mono ?_
  rintro e w3 ⟨rfl, hb⟩
  rw [hS.out]
  replace l1 := l1.on hb
  replace hB := Lib.hid (hB.out.trans (hb.mono hB.out.size))
  clear hb
  go_wp2_with fail
  refine (L2.out w3).mono ?_
  rintro e w4 ⟨u, rfl, l2, hb⟩
  replace l1 := l1.on hb
  replace hB := Lib.hid (hB.out.trans (hb.mono hB.out.size))
  clear hb
  go_wp2_with fail
  refine (alike_any v u _ _ w4 l1 l2 y3.out).mono ?_
  rintro e w5 ⟨rfl, hb⟩
  replace l1 := l1.on (hb _)
  replace l2 := l2.on (hb _)
  replace hB := Lib.hid (hB.out.trans (hb _))
  clear hb
  go_wp2_with fail
  refine (type_any u _ w5 l2 hb2.out).mono ?_
  rintro e w6 ⟨rfl, hb⟩
  rw [y4.out]
  replace l1 := l1.on hb
  replace hB := Lib.hid (hB.out.trans (hb.mono hB.out.size))
  clear hb l2
  obtain ⟨hm, ad, cap, rfl, hcell⟩ := l1
  unfold maxLen at hm
  have hk0 := Lib.hid (show ∀ k t, (toks s)[k]? = some t → ∃ tk, (LX.out (bsOf s)).1[k]? = some tk ∧ t = tokD s tk by
    intro k t ht
    unfold toks at ht
    rw [List.getElem?_map] at ht
    obtain ⟨tk, h1, h2⟩ := Option.map_eq_some_iff.1 ht
    exact ⟨tk, h1, h2.symm⟩)
  replace hcell := Lib.hid hcell
  generalize hT : toks s = T at *
  replace hT := Lib.hid hT
  go_wp2_with fail
  go_loopw [10, 11, 12] (fun at_ i _ wr => ∃ (k a : Nat), k ≤ T.length ∧ a ≤ s.size ∧ at_ = .int .i64 (a : Int) ∧ i = .int .i64 (k : Int) ∧ Hid (Below w6.heap.size w6 wr) ∧ Hid (LX.chain (bsOf s) a ((LX.out (bsOf s)).1.drop k))) (fun _ i _ _ => T.length - (intOf i).toNat)
  case atStart => exact ⟨0, 0, by omega, by omega, rfl, rfl, Lib.hid (Below.refl _ _), Lib.hid hch.out⟩
  case round =>
    obtain ⟨k, a, hk, ha, rfl, rfl, hBr, hC⟩ := hrel
    by_cases hlt : k < T.length
    · obtain ⟨g, rfl, hg, hc⟩ := hcell.out (by omega)
      obtain ⟨t, ht⟩ : ∃ t, T[k]? = some t := ⟨T[k], List.getElem?_eq_getElem hlt⟩
      obtain ⟨e1, e2, e3⟩ := hc k t ht
      replace e1 := (hBr.out.cell (p := ⟨g, k * 3, none⟩) hg).trans e1
      replace e2 := (hBr.out.cell (p := ⟨g, k * 3 + 1, none⟩) hg).trans e2
      replace e3 := (hBr.out.cell (p := ⟨g, k * 3 + 2, none⟩) hg).trans e3
      obtain ⟨tk, htk, rfl⟩ := hk0.out k t ht
      have htl := (List.getElem?_eq_some_iff.1 htk)
      have hC' := hC.out
      rw [List.drop_eq_getElem_cons htl.1, htl.2] at hC'
      obtain ⟨c1, c2, c3, c4, c5, c6⟩ := chain_step hC'
      have u1 : decide (k < T.length) = true := by simpa using hlt
      have hC6 := Lib.hid c6
      have hBr0 := hBr.out
      unfold tokD at e1 e2 e3
      simp only at e1 e2 e3
      have hkd := htk
      clear hC' c6 hc ht htl hk0 hC hcell hch
      obtain ⟨x, hx⟩ : ∃ x, Hid (x = s.extract tk.lo tk.hi) := ⟨_, Lib.hid rfl⟩
      rw [← hx.out] at e2 c2 c5
      have hxe : s.extract tk.lo tk.hi = x := hx.out.symm
      have hw : IntKind.i64.wrap ((tk.lo : Int) + (x.size : Int)) = (tk.hi : Int) := by rw [IntWalk.i64_in _ (by omega)]; omega
      have hem := fun W => empty_any (s.extract a tk.lo) (by rw [← bsOf_length, bsOf_extract, LX.cut_len (by rw [bsOf_length]; omega)]; omega) W
      rw [c4] at hem
      replace hem := Lib.hid hem
      have v1 : decide (tk.lo < a) = false := by simp; omega
      have v2 : decide (s.size < tk.lo) = false := by simp; omega
      have v3 : decide (s.size < tk.hi) = false := by simp; omega
      have v5 : tk.lo ≤ tk.hi := by omega
      have v7 : tk.lo ≤ s.size := by omega
      replace c2 := Lib.hid c2
      go_upto_region 17 with fail
      have hT := heap_alloc_new wr (.cells #[.int .u8 (tk.kind : Int), .string x, .int .i64 (tk.lo : Int)] 27)
      have h1 := cell_of_row _ _ 0 _ _ _ hT
      have h2 := cell_of_row _ _ 1 _ _ _ hT
      have h3 := cell_of_row _ _ 2 _ _ _ hT
      have hB5 : Below w6.heap.size w6 (wr.alloc (.cells #[.int .u8 (tk.kind : Int), .string x, .int .i64 (tk.lo : Int)] 27)) := hBr0.alloc hBr0.size _
      generalize wr.alloc (.cells #[.int .u8 (tk.kind : Int), .string x, .int .i64 (tk.lo : Int)] 27) = w7 at *
      clear hT e1 e2 e3 hBr hBr0 htk hkd
      replace hB5 := Lib.hid hB5
      have hxl : x.toList.length = x.size := by rw [toList_bs, bsOf_length]
      by_cases h4 : tk.kind = 4
      · have ve : x.toList.isEmpty = true := by rw [List.isEmpty_iff_length_eq_zero, hxl]; exact c5.2 h4
        rw [h4] at h1
        clear c5 h4 hxl
        go_quiet ((go_at_call 21; exact quiet_left (hem.out _)))
        go_wp2
        go_roundw
        case rel => exact ⟨k + 1, tk.hi, by omega, c3, rfl, by go_num, Lib.hid (below_drewN hB5.out nq), Lib.hid hC6.out⟩
        case measure => simp [intOf]; omega
      · have ve : x.toList.isEmpty = false := by
          rw [Bool.eq_false_iff]; intro h; rw [List.isEmpty_iff_length_eq_zero, hxl] at h; exact h4 (c5.1 h)
        have vk : ((tk.kind : Int) == 4) = false := by rw [Bool.eq_false_iff]; intro h; rw [beq_iff_eq] at h; omega
        clear c5 h4 hxl
        go_quiet ((go_at_call 21; exact quiet_left (hem.out _)))
        go_wp2
        go_roundw
        case rel => exact ⟨k + 1, tk.hi, by omega, c3, rfl, by go_num, Lib.hid (below_drewN hB5.out nq), Lib.hid hC6.out⟩
        case measure => simp [intOf]; omega
    · obtain rfl : k = T.length := by omega
      have u1 : decide (T.length < T.length) = false := by simp
      have hC' := hC.out
      rw [List.drop_eq_nil_of_le (by have := hlen.out; rw [← hT.out] at *; omega)] at hC'
      have hem := empty_any (s.extract a s.size) (by rw [← bsOf_length, bsOf_extract, LX.cut_len (by rw [bsOf_length]; omega)]; omega) wr
      rw [bsOf_extract, show LX.cut (bsOf s) a s.size = (bsOf s).drop a by unfold LX.cut; rw [← bsOf_length, ← List.length_drop, List.take_length], hC'.2] at hem
      replace hem := Lib.hid hem
      go_wp2_with fail
      refine hem.out.mono ?_
      rintro e w7 ⟨rfl, rfl⟩
      go_wp2
      go_ret
      exact ⟨rfl, hB.out.trans (hBr.out.mono hB.out.size)⟩
theorem toks_bad (s : ByteArray) (h : (LX.out (bsOf s)).2.2 ≠ 0) : toks s = [] := by
  unfold toks
  unfold LX.out at h ⊢
  split
  · rfl
  · rename_i h1
    rw [if_neg h1] at h
    split
    · rfl
    · rename_i h2
      rw [h2] at h
      exact absurd rfl h
set_option maxRecDepth 100000 in
theorem back_law (s : ByteArray) (w : World) : Calls Try.prog 7 #[.string s] w fun e w' => e = .returned (.bool true) ∧ Below w.heap.size w w' := by
  by_cases hs : 5000 < s.size
  · have t1 : decide (5000 < (s.size : Int)) = true := by simp; omega
    go_enter Try.func7, Try.ntmps7
    go_wp2_with fail
    refine (awake_any w).mono ?_
    rintro e w1 ⟨rfl, hb⟩
    go_wp2
    go_ret
    exact ⟨rfl, hb⟩
  by_cases h : (LX.out (bsOf s)).2.2 = 0
  · exact back_good s w (by omega) h
  · have t1 : decide (5000 < (s.size : Int)) = false := by simp; omega
    have L1 := lexIs s
    rw [toks_bad s h] at L1
    have t2 : (((LX.out (bsOf s)).2.2 : Int) != 0) = true := by simp; omega
    replace L1 := Lib.hid L1
    clear h
    go_enter Try.func7, Try.ntmps7
    go_wp2_with fail
    refine (awake_any w).mono ?_
    rintro e w1 ⟨rfl, hB⟩
    replace hB := Lib.hid hB
    go_wp2_with fail
    refine (L1.out w1).mono ?_
    rintro e w2 ⟨v, rfl, ⟨-, ad, cap, rfl, -⟩, hb⟩
    replace hB := Lib.hid (hB.out.trans (hb.mono hB.out.size))
    clear hb
    go_wp2
    go_ret
    exact ⟨rfl, hB.out⟩
end Go.Proofs.Ytcahdnghdblanaa
