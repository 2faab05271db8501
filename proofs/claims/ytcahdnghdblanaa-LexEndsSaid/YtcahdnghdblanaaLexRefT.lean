/- The document's Type, and the comparing of tokens. -/
import Derived.BigQuiet
import Derived.Test.YtcahdnghdblanaaLexType3
namespace Go.Proofs.Ytcahdnghdblanaa
open Go.RowKit Go.Shelf

attribute [local go_sem] Oper.semAt_some
/-- A slice of the document's tokens that lies below n₀. -/
def RTokSl (n₀ : Nat) (W : World) (v : Value) (ts : List TokD) : Prop :=
  ts.length ≤ maxLen ∧ ∃ a cap, v = .slice a ts.length cap ∧ (0 < ts.length → ∃ b, a = some ⟨b, 0, none⟩ ∧ b < n₀ ∧ ∀ (j : Nat) (t : TokD), ts[j]? = some t →
    W.cell? ⟨b, j * 3, none⟩ = some (.int .i64 t.k) ∧ W.cell? ⟨b, j * 3 + 1, none⟩ = some (.string t.x) ∧ W.cell? ⟨b, j * 3 + 2, none⟩ = some (.int .i64 t.p))
theorem RTokSl.below {n₀ : Nat} {W W' : World} {v : Value} {ts : List TokD} (h : RTokSl n₀ W v ts) (hb : Below n₀ W W') : RTokSl n₀ W' v ts := by
  obtain ⟨hl, a, cap, rfl, h⟩ := h
  refine ⟨hl, a, cap, rfl, fun h0 => ?_⟩
  obtain ⟨b, rfl, hbn, hc⟩ := h h0
  refine ⟨b, rfl, hbn, fun j t hj => ?_⟩
  obtain ⟨h1, h2, h3⟩ := hc j t hj
  exact ⟨(hb.cell (p := ⟨b, j * 3, none⟩) hbn).trans h1, (hb.cell (p := ⟨b, j * 3 + 1, none⟩) hbn).trans h2, (hb.cell (p := ⟨b, j * 3 + 2, none⟩) hbn).trans h3⟩
theorem RTokSl.mono {n₀ n₁ : Nat} {W : World} {v : Value} {ts : List TokD} (h : RTokSl n₀ W v ts) (hn : n₀ ≤ n₁) : RTokSl n₁ W v ts := by
  obtain ⟨hl, a, cap, rfl, h⟩ := h
  refine ⟨hl, a, cap, rfl, fun h0 => ?_⟩
  obtain ⟨b, rfl, hbn, hc⟩ := h h0
  exact ⟨b, rfl, by omega, hc⟩
theorem RTokSl.on {W W' : World} {v : Value} {ts : List TokD} (h : RTokSl W.heap.size W v ts) (hb : Below W.heap.size W W') : RTokSl W'.heap.size W' v ts := (h.below hb).mono hb.size

def endSp (sp : ByteArray) : List TokD → ByteArray
  | [] => sp
  | u :: l => endSp (if u.k = 4 then bno else bsp) l
theorem spL_snoc : ∀ (l : List TokD) (sp : ByteArray) (t : TokD), spL sp (l ++ [t]) = spL sp l ++ [if t.k = 4 then (bno, bnl) else (endSp sp l, t.x)]
  | [], sp, t => by simp only [List.nil_append, spL, endSp]; split <;> rfl
  | u :: l, sp, t => by
    simp only [List.cons_append, spL, endSp]
    split
    · rw [spL_snoc l bno t, List.cons_append]
    · rw [spL_snoc l bsp t, List.cons_append]
theorem endSp_snoc : ∀ (l : List TokD) (sp : ByteArray) (u : TokD), endSp sp (l ++ [u]) = if u.k = 4 then bno else bsp
  | [], sp, u => rfl
  | x :: l, sp, u => by simp only [List.cons_append, endSp]; exact endSp_snoc l _ u
/-- What Type has written behind k tokens. -/
def tyB (ts : List TokD) (k : Nat) : List UInt8 := byL (spL bno (ts.take k))
theorem tyB_all (ts : List TokD) {k : Nat} (h : ts.length ≤ k) : tyB ts k = byL (spL bno ts) := by unfold tyB; rw [List.take_of_length_le h]
theorem take_snoc {ts : List TokD} {k : Nat} {t : TokD} (h : ts[k]? = some t) : ts.take (k + 1) = ts.take k ++ [t] := by
  obtain ⟨hk, rfl⟩ := List.getElem?_eq_some_iff.1 h
  exact List.take_succ_eq_append_getElem hk
theorem tyB_end {ts : List TokD} {k : Nat} {t : TokD} (h : ts[k]? = some t) (h4 : t.k = 4) : tyB ts (k + 1) = tyB ts k ++ [10] := by
  unfold tyB; rw [take_snoc h, spL_snoc, if_pos h4, byL_snoc]; simp [bno, bnl, bsOf]
theorem tyB_first {ts : List TokD} {t : TokD} (h : ts[0]? = some t) (h4 : t.k ≠ 4) : tyB ts 1 = tyB ts 0 ++ bsOf t.x := by
  unfold tyB; rw [take_snoc h, spL_snoc, if_neg h4, byL_snoc]; simp [bno, endSp, bsOf]
theorem tyB_next {ts : List TokD} {k : Nat} {t u : TokD} (hu : ts[k]? = some u) (h : ts[k + 1]? = some t) (h4 : t.k ≠ 4) : tyB ts (k + 1 + 1) = tyB ts (k + 1) ++ (if u.k = 4 then [] else [32]) ++ bsOf t.x := by
  unfold tyB; rw [take_snoc h, spL_snoc, if_neg h4, byL_snoc, take_snoc hu, endSp_snoc]
  split <;> simp [bno, bsp, bsOf]

theorem spL_append : ∀ (l m : List TokD) (sp : ByteArray), ∃ sp', spL sp (l ++ m) = spL sp l ++ spL sp' m
  | [], m, sp => ⟨sp, rfl⟩
  | u :: l, m, sp => by
    by_cases h : u.k = 4
    · obtain ⟨sp', h'⟩ := spL_append l m bno
      exact ⟨sp', by simp only [List.cons_append, spL, if_pos h, h']⟩
    · obtain ⟨sp', h'⟩ := spL_append l m bsp
      exact ⟨sp', by simp only [List.cons_append, spL, if_neg h, h']⟩
theorem tyB_le (ts : List TokD) (k : Nat) : (tyB ts k).length ≤ (byL (spL bno ts)).length := by
  obtain ⟨sp', h⟩ := spL_append (ts.take k) (ts.drop k) bno
  rw [List.take_append_drop] at h
  unfold tyB
  rw [h]; unfold byL
  rw [List.flatMap_append, List.length_append]; omega
theorem bsOf_append (a b : ByteArray) : bsOf (a ++ b) = bsOf a ++ bsOf b := by unfold bsOf; simp
theorem size_append (a b : ByteArray) : (a ++ b).size = a.size + b.size := by rw [← bsOf_length, bsOf_append, List.length_append, bsOf_length, bsOf_length]

set_option maxRecDepth 100000 in
set_option maxHeartbeats 4000000 in
theorem rType_any (v : Value) (ts : List TokD) (w : World) (hv : RTokSl w.heap.size w v ts) (hlen : (byL (spL bno ts)).length ≤ 140737488355328) :
    Calls Try.prog 15 #[v] w fun e w' => e = .returned (.string (typeS ts)) ∧ w = w' := by
  obtain ⟨hm, a, cap, rfl, hcell⟩ := hv
  unfold maxLen at hm
  replace hcell := Lib.hid hcell
  go_enter Try.func15, Try.ntmps15
  go_wp2_with fail
  go_loop [3, 4] (fun o i => ∃ (k : Nat) (b : ByteArray), k ≤ ts.length ∧ o = .string b ∧ i = .int .i64 (k : Int) ∧ Hid (bsOf b = tyB ts k)) (fun _ i => ts.length - (intOf i).toNat)
  case atStart => exact ⟨0, ⟨#[]⟩, by omega, rfl, rfl, Lib.hid (by simp [tyB, byL, spL, bsOf])⟩
  case round =>
    obtain ⟨k, b, hk, rfl, rfl, hb⟩ := hrel
    by_cases hlt : k < ts.length
    · obtain ⟨g, rfl, hg, hc⟩ := hcell.out (by omega)
      obtain ⟨t, ht⟩ : ∃ t, ts[k]? = some t := ⟨ts[k], List.getElem?_eq_getElem hlt⟩
      obtain ⟨e1, e2, e3⟩ := hc k t ht
      have t1 : decide (k < ts.length) = true := by simpa using hlt
      by_cases h4 : t.k = 4
      · have t4 : (t.k == 4) = true := by rw [h4]; rfl
        have hn := Lib.hid (tyB_end ht h4)
        have hle := tyB_le ts (k + 1)
        rw [hn.out, ← hb.out, List.length_append, bsOf_length, List.length_singleton] at hle
        have q1 : (9223372036854775807 < b.size + 1) = False := eq_false (by omega)
        clear hc
        go_wp2
        refine ⟨⟨k + 1, _, by omega, rfl, by go_num, Lib.hid ?_⟩, by simp [intOf]; omega⟩
        rw [hn.out, ← hb.out, bsOf_append]; rfl
      · have t4 : (t.k == 4) = false := by simpa using h4
        rcases k with _ | k
        · have hn := Lib.hid (tyB_first ht h4)
          have hle := tyB_le ts 1
          rw [hn.out, ← hb.out, List.length_append, bsOf_length, bsOf_length] at hle
          have q1 : (9223372036854775807 < b.size + t.x.size) = False := eq_false (by omega)
          clear hc
          go_wp2
          refine ⟨⟨1, _, by omega, rfl, by go_num, Lib.hid ?_⟩, by simp [intOf]; omega⟩
          rw [hn.out, ← hb.out, bsOf_append]
        · obtain ⟨u, hu⟩ : ∃ u, ts[k]? = some u := ⟨ts[k], List.getElem?_eq_getElem (by omega)⟩
          obtain ⟨f1, f2, f3⟩ := hc k u hu
          have hn := Lib.hid (tyB_next hu ht h4)
          have hle := tyB_le ts (k + 1 + 1)
          rw [hn.out, ← hb.out, List.length_append, List.length_append, bsOf_length, bsOf_length] at hle
          clear hc
          by_cases h5 : u.k = 4
          · have t6 : (u.k != 4) = false := by rw [h5]; rfl
            rw [if_pos h5] at hle hn
            have q1 : (9223372036854775807 < b.size + t.x.size) = False := eq_false (by simp at hle; omega)
            go_wp2
            refine ⟨⟨k + 1 + 1, _, by omega, rfl, by go_num, Lib.hid ?_⟩, by simp [intOf]; omega⟩
            rw [hn.out, ← hb.out, bsOf_append, List.append_nil]
          · have t6 : (u.k != 4) = true := by simpa using h5
            rw [if_neg h5] at hle hn
            have q1 : (9223372036854775807 < b.size + 1) = False := eq_false (by simp at hle; omega)
            have q2 : (9223372036854775807 < (b ++ ⟨#[32]⟩).size + t.x.size) = False := eq_false (by rw [size_append]; simp at hle; show ¬ 9223372036854775807 < b.size + 1 + t.x.size; omega)
            go_wp2
            refine ⟨⟨k + 1 + 1, _, by omega, rfl, by go_num, Lib.hid ?_⟩, by simp [intOf]; omega⟩
            rw [hn.out, ← hb.out, bsOf_append, bsOf_append]; rfl
    · obtain rfl : k = ts.length := by omega
      have t1 : decide (ts.length < ts.length) = false := by simp
      go_wp2
      go_ret
      refine ⟨?_, rfl⟩
      have := hb.out
      rw [tyB_all ts (Nat.le_refl _)] at this
      unfold typeS
      rw [← this]
      rfl

set_option maxRecDepth 100000 in
set_option maxHeartbeats 4000000 in
theorem same_any (v u : Value) (ts : List TokD) (w : World) (hv : TokSl w.heap.size w v ts) (hu : RTokSl w.heap.size w u ts) (hk : Hid (∀ t ∈ ts, 0 ≤ t.k ∧ t.k ≤ 255)) :
    Calls Try.prog 17 #[v, u] w fun e w' => e = .returned (.bool true) ∧ ∀ B, Below B w w' := by
  obtain ⟨hm, a, cap, rfl, hcell⟩ := hv
  obtain ⟨-, a2, cap2, rfl, hcell2⟩ := hu
  unfold maxLen at hm
  replace hcell := Lib.hid hcell
  replace hcell2 := Lib.hid hcell2
  go_enter Try.func17, Try.ntmps17
  go_wp2_with fail
  go_loopw [5] (fun i wr => ∃ (k : Nat), k ≤ ts.length ∧ i = .int .i64 (k : Int) ∧ ∀ B, Below B w wr) (fun i _ => ts.length - (intOf i).toNat)
  case atStart => exact ⟨0, by omega, rfl, fun B => Below.refl B w⟩
  case round =>
    obtain ⟨k, hk', rfl, hB⟩ := hrel
    by_cases hlt : k < ts.length
    · obtain ⟨g, rfl, hg, hc⟩ := hcell.out (by omega)
      obtain ⟨g2, rfl, hg2, hc2⟩ := hcell2.out (by omega)
      obtain ⟨t, ht⟩ : ∃ t, ts[k]? = some t := ⟨ts[k], List.getElem?_eq_getElem hlt⟩
      obtain ⟨e1, e2, e3⟩ := hc k t ht
      obtain ⟨f1, f2, f3⟩ := hc2 k t ht
      replace e1 := ((hB w.heap.size).cell (p := ⟨g, k * 3, none⟩) hg).trans e1
      replace e2 := ((hB w.heap.size).cell (p := ⟨g, k * 3 + 1, none⟩) hg).trans e2
      replace e3 := ((hB w.heap.size).cell (p := ⟨g, k * 3 + 2, none⟩) hg).trans e3
      replace f1 := ((hB w.heap.size).cell (p := ⟨g2, k * 3, none⟩) hg2).trans f1
      replace f2 := ((hB w.heap.size).cell (p := ⟨g2, k * 3 + 1, none⟩) hg2).trans f2
      replace f3 := ((hB w.heap.size).cell (p := ⟨g2, k * 3 + 2, none⟩) hg2).trans f3
      obtain ⟨k0, k1⟩ := hk.out t (List.mem_of_getElem? ht)
      have t1 : decide (k < ts.length) = true := by simpa using hlt
      have HB := Lib.hid hB
      clear hc hc2 hB
      go_wp2_with fail
      go_quiet (fail)
      go_wp2
      go_roundw
      case rel => exact ⟨k + 1, by omega, by go_num, fun B => below_drewN (HB.out B) nq⟩
      case measure => simp [intOf]; omega
    · obtain rfl : k = ts.length := by omega
      have t1 : decide (ts.length < ts.length) = false := by simp
      have HB := Lib.hid hB
      clear hB
      go_wp2
      go_ret
      exact ⟨rfl, HB.out⟩
end Go.Proofs.Ytcahdnghdblanaa
