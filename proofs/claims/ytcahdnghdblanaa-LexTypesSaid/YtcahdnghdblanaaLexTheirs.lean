/- The laws' copy of tokens as the document's, from any slice of tokens. -/
import Derived.Test.YtcahdnghdblanaaLexRows
namespace Go.Proofs.Ytcahdnghdblanaa
open Go.RowKit Go.Shelf

attribute [local go_sem] Oper.semAt_some
/-- A slice of tokens that lies below n₀, wherever in its block. -/
def TokO (n₀ : Nat) (W : World) (v : Value) (ts : List TokD) : Prop :=
  ts.length ≤ maxLen ∧ ∃ a cap, v = .slice a ts.length cap ∧ (a = none → ts.length = 0 ∧ cap = 0) ∧ (0 < ts.length → ∃ b off, a = some ⟨b, off, none⟩ ∧ b < n₀ ∧ ∀ (j : Nat) (t : TokD), ts[j]? = some t →
    W.cell? ⟨b, off + j * 3, none⟩ = some (.int .u8 t.k) ∧ W.cell? ⟨b, off + j * 3 + 1, none⟩ = some (.string t.x) ∧ W.cell? ⟨b, off + j * 3 + 2, none⟩ = some (.int .i64 t.p))
theorem TokO.below {n₀ : Nat} {W W' : World} {v : Value} {ts : List TokD} (h : TokO n₀ W v ts) (hb : Below n₀ W W') : TokO n₀ W' v ts := by
  obtain ⟨hl, a, cap, rfl, hn, h⟩ := h
  refine ⟨hl, a, cap, rfl, hn, fun h0 => ?_⟩
  obtain ⟨b, off, rfl, hbn, hc⟩ := h h0
  refine ⟨b, off, rfl, hbn, fun j t hj => ?_⟩
  obtain ⟨h1, h2, h3⟩ := hc j t hj
  exact ⟨(hb.cell (p := ⟨b, off + j * 3, none⟩) hbn).trans h1, (hb.cell (p := ⟨b, off + j * 3 + 1, none⟩) hbn).trans h2, (hb.cell (p := ⟨b, off + j * 3 + 2, none⟩) hbn).trans h3⟩
theorem TokO.mono {n₀ n₁ : Nat} {W : World} {v : Value} {ts : List TokD} (h : TokO n₀ W v ts) (hn : n₀ ≤ n₁) : TokO n₁ W v ts := by
  obtain ⟨hl, a, cap, rfl, hn', h⟩ := h
  refine ⟨hl, a, cap, rfl, hn', fun h0 => ?_⟩
  obtain ⟨b, off, rfl, hbn, hc⟩ := h h0
  exact ⟨b, off, rfl, by omega, hc⟩
theorem TokO.on {W W' : World} {v : Value} {ts : List TokD} (h : TokO W.heap.size W v ts) (hb : Below W.heap.size W W') : TokO W'.heap.size W' v ts := (h.below hb).mono hb.size
/-- Its cells, one behind the other. -/
theorem tds_cells {W : World} {b off : Nat} {ts : List TokD} (hc : ∀ (j : Nat) (t : TokD), ts[j]? = some t →
    W.cell? ⟨b, off + j * 3, none⟩ = some (.int .u8 t.k) ∧ W.cell? ⟨b, off + j * 3 + 1, none⟩ = some (.string t.x) ∧ W.cell? ⟨b, off + j * 3 + 2, none⟩ = some (.int .i64 t.p)) (j : Nat) (u : Value) (hu : (tdsC ts)[j]? = some u) :
    W.cell? ((⟨b, off, none⟩ : Addr).add j) = some u := by
  have hlen : ∀ l : List TokD, (tdsC l).length = l.length * 3 := by
    intro l; induction l with
    | nil => rfl
    | cons t l ih => unfold tdsC at *; rw [List.flatMap_cons, List.length_append, ih, List.length_cons]; show 3 + _ = _; omega
  have hj : j < ts.length * 3 := by rw [← hlen]; exact (List.getElem?_eq_some_iff.1 hu).1
  obtain ⟨t, ht⟩ : ∃ t, ts[j / 3]? = some t := ⟨ts[j / 3]'(by omega), List.getElem?_eq_getElem (by omega)⟩
  obtain ⟨a1, a2, a3⟩ := flat3 (f := tdC) (fun t => ⟨_, _, _, rfl⟩) ts (j / 3) t ht
  obtain ⟨c1, c2, c3⟩ := hc _ t ht
  rw [Go.WideShapes.add_plain]
  have hm : j = j / 3 * 3 ∨ j = j / 3 * 3 + 1 ∨ j = j / 3 * 3 + 2 := by omega
  unfold tdsC at hu
  rcases hm with hm | hm | hm
  · rw [hm, a1] at hu; rw [hm, show off + j / 3 * 3 = off + j / 3 * 3 from rfl, c1]; exact hu
  · rw [hm, a2] at hu; rw [hm, ← Nat.add_assoc, c2]; exact hu
  · rw [hm, a3] at hu; rw [hm, ← Nat.add_assoc, c3]; exact hu

theorem infoRTokT : ∃ i : TypeInfo, Try.prog.info? 49 = some i ∧ i.zero = some (.agg #[.int .i64 0, .string ⟨#[]⟩, .int .i64 0]) ∧ i.size = 3 ∧ i.bytes = 32 := by
  have h : (Try.prog.info? 49).map (fun i => (i.zero, i.size, i.bytes)) = some (some (.agg #[.int .i64 0, .string ⟨#[]⟩, .int .i64 0]), 3, 32) := by kernel_rfl
  cases hi : Try.prog.info? 49 with
  | none => rw [hi] at h; cases h
  | some i =>
    rw [hi] at h
    simp only [Option.map_some, Option.some.injEq, Prod.mk.injEq] at h
    exact ⟨i, rfl, h.1, h.2.1, h.2.2⟩
set_option maxRecDepth 100000 in
set_option maxHeartbeats 8000000 in
theorem theirs_any (v : Value) (ts : List TokD) (w : World) (hv : TokO w.heap.size w v ts) (hlen : ts.length ≤ 100000) (hk : ∀ t ∈ ts, 0 ≤ t.k ∧ t.k ≤ 255) :
    Calls Try.prog 16 #[v] w fun e w' => ∃ u, e = .returned u ∧ RTokSl w'.heap.size w' u ts ∧ Below w.heap.size w w' := by
  obtain ⟨hm, a, cap, rfl, -, hcell⟩ := hv
  obtain ⟨i0, hi, hz0, hz1, hz2⟩ := infoRTokT
  replace hcell := Lib.hid hcell
  replace hm := Lib.hid hm
  replace hk := Lib.hid hk
  go_enter Try.func16, Try.ntmps16
  go_wp2_with fail
  go_loopw [3, 4] (fun o i wr => ∃ (u : Value) (k : Nat), o = u ∧ k ≤ ts.length ∧ i = .int .i64 (k : Int) ∧ wr.ownsRow w.heap.size 49 3 u k (rdsC (ts.take k)) ∧ Below w.heap.size w wr) (fun _ i _ => ts.length - (intOf i).toNat)
  case atStart => exact ⟨_, 0, rfl, by omega, rfl, World.ownsRow_nil _ _ _ _, Below.refl _ w⟩
  case round =>
    obtain ⟨u, k, rfl, hk', rfl, hown, hB⟩ := hrel
    by_cases hlt : k < ts.length
    · obtain ⟨g, off, rfl, hg, hc⟩ := hcell.out (by omega)
      obtain ⟨t, ht⟩ : ∃ t, ts[k]? = some t := ⟨ts[k], List.getElem?_eq_getElem hlt⟩
      obtain ⟨e1, e2, e3⟩ := hc k t ht
      obtain ⟨k0, k1⟩ := hk.out t (List.mem_of_getElem? ht)
      replace e1 := (hB.cell (p := ⟨g, off + k * 3, none⟩) hg).trans e1
      replace e2 := (hB.cell (p := ⟨g, off + k * 3 + 1, none⟩) hg).trans e2
      replace e3 := (hB.cell (p := ⟨g, off + k * 3 + 2, none⟩) hg).trans e3
      have t1 : decide (k < ts.length) = true := by simpa using hlt
      have hwk : IntKind.i64.wrap t.k = t.k := IntWalk.i64_in _ (by omega)
      have hL := Lib.hid (lit3 wr 49 (.int .i64 t.k) (.string t.x) (.int .i64 t.p) rfl rfl rfl)
      have hsn : Hid (rdsC (ts.take (k + 1)) = rdsC (ts.take k) ++ [.int .i64 t.k, .string t.x, .int .i64 t.p]) := Lib.hid (by rw [take_snoc ht, rdsC_snoc]; rfl)
      have ho1 := Lib.hid (World.ownsRow.alloc hown (.cells #[.int .i64 t.k, .string t.x, .int .i64 t.p] 49))
      have hbase := hB.size
      replace hown := Lib.hid hown
      replace hB := Lib.hid hB
      clear hc ht
      go_wp2_with fail
      go_region_law (first
        | (refine step_append_rows rfl (.tmp 11) (.tmp 29) 30 rfl w.heap.size 49 i0 _ 3 32 Try.underlying30 hi hz0 hz1 hz2 rfl (by decide) u3 k _ rfl ho1.out ⟨wr.heap.size, 0, none⟩ 1 1 [.int .i64 t.k, .string t.x, .int .i64 t.p] rfl rfl hL.out.1 hL.out.2.2 (by unfold maxLen; omega) (by omega) (by simp; omega) ?_
           intro v2 w5 hown2 hgrow2 _)
        | (refine step_append_rows rfl (.tmp 11) (.tmp 29) 30 rfl w.heap.size 49 i0 _ 3 32 Try.underlying30 hi hz0 hz1 hz2 rfl (by decide) u3 k _ rfl ho1.out.drew ⟨wr.heap.size, 0, none⟩ 1 1 [.int .i64 t.k, .string t.x, .int .i64 t.p] rfl rfl hL.out.2.1 hL.out.2.2 (by unfold maxLen; omega) (by omega) (by simp; omega) ?_
           intro v2 w5 hown2 hgrow2 _))
      all_goals
        have hown5 := Lib.hid (show w5.ownsRow w.heap.size 49 3 v2 (k + 1) (rdsC (ts.take (k + 1))) from by rw [hsn.out]; exact hown2)
        have hB5 := Lib.hid (((hB.out.alloc hB.out.size (.cells #[.int .i64 t.k, .string t.x, .int .i64 t.p] 49)).drew).grown hgrow2 (by have := hB.out.size; simp; omega) (fun j hj => by have := (hown.out.lt j hj).1; omega))
        clear hown2 hgrow2 hL ho1 hown hB hsn e1 e2 e3
        go_wp2
        go_roundw
        case rel => exact ⟨v2, k + 1, rfl, by omega, by go_num, hown5.out, hB5.out⟩
        case measure => simp [intOf]; omega
    · obtain rfl : k = ts.length := by omega
      have t1 : decide (ts.length < ts.length) = false := by simp
      have HB := Lib.hid hB
      rw [List.take_length] at hown
      have ho := Lib.hid hown
      clear hB hown
      go_wp2
      go_ret
      exact ⟨_, rfl, rtokSl_row ho.out hm.out, HB.out⟩
end Go.Proofs.Ytcahdnghdblanaa
