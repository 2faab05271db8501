/- LexTells. -/
import Derived.Test.YtcahdnghdblanaaLexRefLex
import Derived.Test.YtcahdnghdblanaaLexAwake
namespace Go.Proofs.Ytcahdnghdblanaa
open Go.RowKit Go.Shelf

attribute [local go_sem] Oper.semAt_some
namespace LX
theorem ys_kind : ∀ (n : Nat) {L : List UInt8} {i : Nat} {u : Bool}, L.length - i = n → ∀ x ∈ ys L i u, x.1.kind ≤ 4 := by
  intro n
  induction n using Nat.strongRecOn with
  | _ n ih =>
    intro L i u hn x hx
    by_cases h : i < L.length
    · have hr := clAt_range L i
      have : clAt L i = 0 ∨ clAt L i = 1 ∨ clAt L i = 2 ∨ clAt L i = 3 ∨ clAt L i = 4 ∨ clAt L i = 5 ∨ clAt L i = 6 ∨ clAt L i = 7 := by omega
      rcases this with hc | hc | hc | hc | hc | hc | hc | hc
      · rw [ys_stray h (.inl hc)] at hx; simp at hx; subst hx; simp
      · rw [ys_blank h hc] at hx; exact ih _ (by omega) rfl x hx
      · rw [ys_newline h hc] at hx
        rcases List.mem_append.1 hx with hx | hx
        · split at hx
          · simp at hx; subst hx; simp
          · simp at hx
        · exact ih _ (by omega) rfl x hx
      · rw [ys_hash h hc] at hx; have hg := run_gt (p := inC) h (by rw [hc]; rfl); exact ih _ (by omega) rfl x hx
      · rw [ys_word h hc] at hx
        have hg := run_gt (p := inW) h (by rw [hc]; rfl)
        split at hx
        · simp at hx; subst hx; simp
        · rcases List.mem_cons.1 hx with rfl | hx
          · simp
          · exact ih (L.length - run inW L i) (by omega) rfl x hx
      · rw [ys_num h hc] at hx
        have hg := run_gt (p := inN) h (by rw [hc]; rfl)
        split at hx
        · rcases List.mem_cons.1 hx with rfl | hx
          · simp
          · exact ih (L.length - run inN L i) (by omega) rfl x hx
        · simp at hx; subst hx; simp
      · rw [ys_stray h (.inr hc)] at hx; simp at hx; subst hx; simp
      · rw [ys_sign h hc] at hx
        have hg := signLen_pos L i
        rcases List.mem_cons.1 hx with rfl | hx
        · simp
        · exact ih (L.length - (i + signLen L i)) (by omega) rfl x hx
    · rw [ys_end (by omega)] at hx
      split at hx
      · simp at hx; subst hx; simp
      · simp at hx
theorem out_kind (L : List UInt8) : ∀ t ∈ (out L).1, t.kind ≤ 4 := by
  intro t ht
  unfold out at ht
  split at ht
  · simp at ht
  · split at ht
    · simp at ht
    · obtain ⟨x, hx, rfl⟩ := List.mem_map.1 ht
      exact ys_kind _ rfl x hx
theorem out_len {L : List UInt8} : (out L).1.length ≤ 32769 := by
  have := ys_len L.length (L := L) (i := 0) (u := false) rfl
  unfold out
  split
  · simp
  · split
    · simp
    · simp at this ⊢; omega
end LX
theorem rtoksC_get (s : ByteArray) : ∀ (l : List LX.Tk) (j : Nat) (t : LX.Tk), l[j]? = some t → (rtoksC s l)[j * 3]? = some (.int .i64 (t.kind : Int)) ∧ (rtoksC s l)[j * 3 + 1]? = some (.string (s.extract t.lo t.hi)) ∧ (rtoksC s l)[j * 3 + 2]? = some (.int .i64 (t.lo : Int))
  | [], j, t, h => by simp at h
  | u :: l, 0, t, h => by
    simp at h; subst h
    unfold rtoksC rtokC
    simp
  | u :: l, j + 1, t, h => by
    have := rtoksC_get s l j t (by simpa using h)
    have e : rtoksC s (u :: l) = rtokC s u ++ rtoksC s l := by unfold rtoksC; simp
    have hl : (rtokC s u).length = 3 := rfl
    rw [e, List.getElem?_append_right (by omega), List.getElem?_append_right (by omega), List.getElem?_append_right (by omega), hl, show (j + 1) * 3 - 3 = j * 3 by omega, show (j + 1) * 3 + 1 - 3 = j * 3 + 1 by omega, show (j + 1) * 3 + 2 - 3 = j * 3 + 2 by omega]
    exact this
theorem rtokSl_own {W : World} {base : Nat} {v : Value} {s : ByteArray} {l : List LX.Tk} (h : ROwn base s W v l) (hm : l.length ≤ maxLen) : RTokSl W.heap.size W v (l.map (tokD s)) := by
  refine ⟨by rw [List.length_map]; exact hm, ?_⟩
  rw [List.length_map]
  unfold ROwn at h
  rcases h.2 with ⟨rfl, h0⟩ | ⟨g, cap, cur, rfl, hg, hheap, hnc, hc1, hc2, hc3⟩
  · exact ⟨none, 0, by rw [h0], fun h => by omega⟩
  · refine ⟨_, cap, rfl, fun _ => ⟨g, rfl, (Array.getElem?_eq_some_iff.1 hheap).1, fun j t ht => ?_⟩⟩
    rw [List.getElem?_map] at ht
    obtain ⟨u, hu, rfl⟩ := Option.map_eq_some_iff.1 ht
    obtain ⟨a1, a2, a3⟩ := rtoksC_get s l j u hu
    have hjl := (List.getElem?_eq_some_iff.1 hu).1
    exact ⟨(h.cellAt (j * 3) (by omega)).trans a1, (h.cellAt (j * 3 + 1) (by omega)).trans a2, (h.cellAt (j * 3 + 2) (by omega)).trans a3⟩
theorem byL_bound (m : Nat) : ∀ (ts : List TokD) (sp : ByteArray), sp.size ≤ 1 → (∀ t ∈ ts, t.x.size ≤ m) → (byL (spL sp ts)).length ≤ ts.length * (m + 1)
  | [], sp, _, _ => by simp [spL, byL]
  | t :: ts, sp, hs, h => by
    have hc : ∀ (a : ByteArray × ByteArray) l, (byL (a :: l)).length = a.1.size + a.2.size + (byL l).length := fun a l => by
      unfold byL; rw [List.flatMap_cons, List.length_append, List.length_append, bsOf_length, bsOf_length]
    have hx := h t (by simp)
    rw [List.length_cons, Nat.succ_mul]
    simp only [spL]
    split
    · have := byL_bound m ts bno (by decide) fun u hu => h u (by simp [hu])
      rw [hc]; show 0 + 1 + _ ≤ _; omega
    · have := byL_bound m ts bsp (by decide) fun u hu => h u (by simp [hu])
      rw [hc]; show sp.size + t.x.size + _ ≤ _; omega
theorem out_bytes (s : ByteArray) : (byL (spL bno ((LX.out (bsOf s)).1.map (tokD s)))).length ≤ 140737488355328 := by
  by_cases hs : 16384 < s.size
  · rw [LX.out_big (by rw [bsOf_length]; exact hs)]; simp [spL, byL]
  have h1 := byL_bound s.size ((LX.out (bsOf s)).1.map (tokD s)) bno (by decide) (by
    intro t ht
    obtain ⟨u, -, rfl⟩ := List.mem_map.1 ht
    show (s.extract u.lo u.hi).size ≤ s.size
    rw [← bsOf_length, bsOf_extract]; unfold LX.cut
    rw [List.length_take, List.length_drop, bsOf_length]; omega)
  have h2 := LX.out_len (L := bsOf s)
  rw [List.length_map] at h1
  have h3 : (LX.out (bsOf s)).1.length * (s.size + 1) ≤ 32769 * 16385 := Nat.mul_le_mul h2 (by omega)
  omega

set_option maxRecDepth 100000 in
set_option maxHeartbeats 4000000 in
theorem lexes_any (s : ByteArray) (w : World) : Calls Try.prog 12 #[.string s] w fun e w' => e = .returned (.bool true) ∧ Below w.heap.size w w' := by
  have hm : (LX.out (bsOf s)).1.length ≤ maxLen := by have := LX.out_len (L := bsOf s); unfold maxLen; omega
  replace hm := Lib.hid hm
  have hby := Lib.hid (out_bytes s)
  have hk : Hid (∀ t ∈ (LX.out (bsOf s)).1.map (tokD s), 0 ≤ t.k ∧ t.k ≤ 255) := Lib.hid (by
    intro t ht
    obtain ⟨u, hu, rfl⟩ := List.mem_map.1 ht
    have := LX.out_kind _ u hu
    constructor <;> simp [tokD]; omega)
  have L1 := Lib.hid (fun W => lex_any s W)
  have L2 := Lib.hid (fun W => rLex_any s W)
  unfold LexPost at L1
  unfold RLexPost at L2
  generalize LX.out (bsOf s) = o at *
  obtain ⟨l, n, er⟩ := o
  simp only at hm hby hk L1 L2
  go_enter Try.func12, Try.ntmps12
  go_wp2_with fail
  refine (L1.out w).mono ?_
  rintro e w1 ⟨v, rfl, ho, hb⟩
  have hl := tokSl_own ho hm.out
  have hB := Lib.hid hb
  clear ho hb
  go_wp2_with fail
  refine (L2.out w1).mono ?_
  rintro e w2 ⟨u, rfl, ho, hb⟩
  have hl2 := rtokSl_own ho hm.out
  replace hl := hl.on hb
  replace hB := Lib.hid (hB.out.trans (hb.mono hB.out.size))
  clear ho hb
  go_wp2_with fail
  refine (same_any v u _ w2 hl hl2 hk).mono ?_
  rintro e w3 ⟨rfl, hb⟩
  replace hl := hl.on (hb _)
  replace hl2 := hl2.on (hb _)
  replace hB := Lib.hid (hB.out.trans (hb _))
  clear hb
  go_wp2_with fail
  refine (type_any v _ w3 hl hby.out).mono ?_
  rintro e w4 ⟨rfl, hb⟩
  replace hl2 := hl2.on hb
  replace hB := Lib.hid (hB.out.trans (hb.mono hB.out.size))
  clear hb
  go_wp2_with fail
  refine (rType_any u _ w4 hl2 hby.out).mono ?_
  rintro e w5 ⟨rfl, rfl⟩
  go_wp2
  go_ret
  exact ⟨rfl, hB.out⟩

set_option maxRecDepth 100000 in
theorem tells_law (s : ByteArray) (w : World) : Calls Try.prog 3 #[.string s] w fun e w' => e = .returned (.bool true) ∧ Below w.heap.size w w' := by
  by_cases h : 5000 < s.size
  · have t1 : decide (5000 < (s.size : Int)) = true := by simp; omega
    go_enter Try.func3, Try.ntmps3
    go_wp2_with fail
    refine (awake_any w).mono ?_
    rintro e w1 ⟨rfl, hb⟩
    go_wp2
    go_ret
    exact ⟨rfl, hb⟩
  · have t1 : decide (5000 < (s.size : Int)) = false := by simp; omega
    go_enter Try.func3, Try.ntmps3
    go_wp2_with fail
    refine (lexes_any s w).mono ?_
    rintro e w1 ⟨rfl, hb⟩
    go_wp2_with fail
    refine (awake_any w1).mono ?_
    rintro e w2 ⟨rfl, hb2⟩
    go_wp2
    go_ret
    exact ⟨rfl, hb.trans (hb2.mono hb.size)⟩
end Go.Proofs.Ytcahdnghdblanaa
