/- The laws' copies of tokens: without offsets, and as the document's. -/
import Derived.BigRegion
import Derived.Laws.AppendOwnNone
import Derived.Deep.RegionLaw
import Derived.Deep.RegionLawGrows
import Derived.Test.YtcahdnghdblanaaLexAlike
import Derived.Test.YtcahdnghdblanaaLexRefT
namespace Go.Proofs.Ytcahdnghdblanaa
open Go.RowKit Go.Shelf

attribute [local go_sem] Oper.semAt_some
theorem step_append_rows {P : Program} {ops : Array Oper} {o : Oper} {a : Act} {w : World} {K : Act → World → Prop} {Q : Exit → Act → World → Prop} {E : Prop}
    (hg : o.guard = none) (s x : Operand) (t : TypeId) (hop : o.op = Op.call { callee := Callee.builtin Builtin.append, args := #[s, x], argTypes := #[t, t] })
    (base : Nat) (e : TypeId) (i : TypeInfo) (z : Value) (size bytes : Nat) (ht : P.underlying t = some (.slice e)) (hi : P.info? e = some i) (hz : i.zero = some z)
    (hsize : i.size = size) (hby : i.bytes = bytes) (hzs : z.cells.size = size) (hsz : 0 < size)
    (v : Value) (n : Nat) (xs : List Value) (hs : a.eval s = v) (hown : w.ownsRow base e size v n xs)
    (ad : Addr) (m c : Nat) (news : List Value) (hx : a.eval x = .slice (some ad) m c) (hl : news.length = m * size) (hnews : ∀ j u, news[j]? = some u → w.cell? (ad.add j) = some u) (h1 : ∀ u ∈ news, u.oneCell' = true)
    (h63 : n + m ≤ maxLen) (hbytes : (n + m) * bytes ≤ 140737488355328) (hbase : base ≤ w.heap.size)
    (h : ∀ v' w', w'.ownsRow base e size v' (n + m) (xs ++ news) → w.grownBy w' v.ownBlock → (v' = .slice none 0 0 ↔ v = .slice none 0 0 ∧ m = 0) → K (a.put o.dst v') w') :
    if Region.wanted o (yielded ops a.tmps) = true then Oper.wp P o a w K Q else E := by
  have hw : Region.wanted o (yielded ops a.tmps) = true := by simp [Region.wanted, hg]
  rw [if_pos hw]
  exact wp_append_own w s x t hop base e i z size bytes ht hi hz hsize hby hzs hsz v n xs hs hown ad m c news hx hl hnews h1 h63 hbytes hbase h
/-- Tokens' data as cells. -/
def tdC (t : TokD) : List Value := [.int .u8 t.k, .string t.x, .int .i64 t.p]
def tdsC (l : List TokD) : List Value := l.flatMap tdC
def rdC (t : TokD) : List Value := [.int .i64 t.k, .string t.x, .int .i64 t.p]
def rdsC (l : List TokD) : List Value := l.flatMap rdC
theorem tdsC_snoc (l : List TokD) (t : TokD) : tdsC (l ++ [t]) = tdsC l ++ tdC t := by unfold tdsC; simp
theorem rdsC_snoc (l : List TokD) (t : TokD) : rdsC (l ++ [t]) = rdsC l ++ rdC t := by unfold rdsC; simp
theorem flat3 {f : TokD → List Value} (hf : ∀ t, ∃ a b c, f t = [a, b, c]) : ∀ (l : List TokD) (j : Nat) (t : TokD), l[j]? = some t → (l.flatMap f)[j * 3]? = (f t)[0]? ∧ (l.flatMap f)[j * 3 + 1]? = (f t)[1]? ∧ (l.flatMap f)[j * 3 + 2]? = (f t)[2]?
  | [], j, t, h => by simp at h
  | u :: l, 0, t, h => by
    simp at h; subst h
    obtain ⟨a, b, c, e⟩ := hf u
    rw [List.flatMap_cons, e]; simp
  | u :: l, j + 1, t, h => by
    have ih := flat3 hf l j t (by simpa using h)
    have hl : (f u).length = 3 := by obtain ⟨a, b, c, e⟩ := hf u; rw [e]; rfl
    rw [List.flatMap_cons, List.getElem?_append_right (by omega), List.getElem?_append_right (by omega), List.getElem?_append_right (by omega), hl, show (j + 1) * 3 - 3 = j * 3 by omega, show (j + 1) * 3 + 1 - 3 = j * 3 + 1 by omega, show (j + 1) * 3 + 2 - 3 = j * 3 + 2 by omega]
    exact ih
theorem tokSl_row {W : World} {base : Nat} {v : Value} {l : List TokD} (h : W.ownsRow base 27 3 v l.length (tdsC l)) (hm : l.length ≤ maxLen) : TokSl W.heap.size W v l := by
  refine ⟨hm, ?_⟩
  rcases h.2 with ⟨rfl, h0⟩ | ⟨g, cap, cur, rfl, hg, hheap, hnc, hc1, hc2, hc3⟩
  · exact ⟨none, 0, by rw [h0], fun h => by omega⟩
  · refine ⟨_, cap, rfl, fun _ => ⟨g, rfl, (Array.getElem?_eq_some_iff.1 hheap).1, fun j t ht => ?_⟩⟩
    obtain ⟨a1, a2, a3⟩ := flat3 (f := tdC) (fun t => ⟨_, _, _, rfl⟩) l j t ht
    have hjl := (List.getElem?_eq_some_iff.1 ht).1
    exact ⟨(h.cellAt (j * 3) (by omega)).trans a1, (h.cellAt (j * 3 + 1) (by omega)).trans a2, (h.cellAt (j * 3 + 2) (by omega)).trans a3⟩
theorem rtokSl_row {W : World} {base : Nat} {v : Value} {l : List TokD} (h : W.ownsRow base 49 3 v l.length (rdsC l)) (hm : l.length ≤ maxLen) : RTokSl W.heap.size W v l := by
  refine ⟨hm, ?_⟩
  rcases h.2 with ⟨rfl, h0⟩ | ⟨g, cap, cur, rfl, hg, hheap, hnc, hc1, hc2, hc3⟩
  · exact ⟨none, 0, by rw [h0], fun h => by omega⟩
  · refine ⟨_, cap, rfl, fun _ => ⟨g, rfl, (Array.getElem?_eq_some_iff.1 hheap).1, fun j t ht => ?_⟩⟩
    obtain ⟨a1, a2, a3⟩ := flat3 (f := rdC) (fun t => ⟨_, _, _, rfl⟩) l j t ht
    have hjl := (List.getElem?_eq_some_iff.1 ht).1
    exact ⟨(h.cellAt (j * 3) (by omega)).trans a1, (h.cellAt (j * 3 + 1) (by omega)).trans a2, (h.cellAt (j * 3 + 2) (by omega)).trans a3⟩
theorem infoTok3 : ∃ i : TypeInfo, Try.prog.info? 27 = some i ∧ i.zero = some (.agg #[.int .u8 0, .string ⟨#[]⟩, .int .i64 0]) ∧ i.size = 3 ∧ i.bytes = 32 := by
  have h : (Try.prog.info? 27).map (fun i => (i.zero, i.size, i.bytes)) = some (some (.agg #[.int .u8 0, .string ⟨#[]⟩, .int .i64 0]), 3, 32) := by kernel_rfl
  cases hi : Try.prog.info? 27 with
  | none => rw [hi] at h; cases h
  | some i =>
    rw [hi] at h
    simp only [Option.map_some, Option.some.injEq, Prod.mk.injEq] at h
    exact ⟨i, rfl, h.1, h.2.1, h.2.2⟩
def bareD (t : TokD) : TokD := ⟨t.k, t.x, 0⟩
theorem row_form {W : World} {base size n : Nat} {e : TypeId} {v : Value} {xs : List Value} (h : W.ownsRow base e size v n xs) : (v = .slice none 0 0 ∧ n = 0) ∨ ∃ g cap, v = .slice (some ⟨g, 0, none⟩) n cap := by
  rcases h.2 with h0 | ⟨g, cap, cur, rfl, _⟩
  · exact .inl h0
  · exact .inr ⟨g, cap, rfl⟩
theorem lit3 (W : World) (e : TypeId) (a b c : Value) (ha : a.oneCell' = true) (hb : b.oneCell' = true) (hc : c.oneCell' = true) :
    (∀ (j : Nat) u, [a, b, c][j]? = some u → (W.alloc (.cells #[a, b, c] e)).cell? ((⟨W.heap.size, 0, none⟩ : Addr).add j) = some u) ∧
    (∀ (j : Nat) u, [a, b, c][j]? = some u → (W.alloc (.cells #[a, b, c] e)).drew.cell? ((⟨W.heap.size, 0, none⟩ : Addr).add j) = some u) ∧ (∀ u ∈ [a, b, c], u.oneCell' = true) := by
  have hT := heap_alloc_new W (.cells #[a, b, c] e)
  have h1 : ∀ (j : Nat) u, [a, b, c][j]? = some u → (W.alloc (.cells #[a, b, c] e)).cell? ((⟨W.heap.size, 0, none⟩ : Addr).add j) = some u := by
    rintro (_ | _ | _ | j) u hu
    · simp at hu; subst hu; exact cell_of_row _ _ 0 _ _ _ hT
    · simp at hu; subst hu; exact cell_of_row _ _ 1 _ _ _ hT
    · simp at hu; subst hu; exact cell_of_row _ _ 2 _ _ _ hT
    · simp at hu
  refine ⟨h1, fun j u hu => h1 j u hu, ?_⟩
  intro u hu; simp at hu; rcases hu with rfl | rfl | rfl <;> assumption

set_option maxRecDepth 100000 in
set_option maxHeartbeats 8000000 in
theorem kinds_any (v : Value) (ts : List TokD) (w : World) (hv : TokSl w.heap.size w v ts) (hlen : ts.length ≤ 100000) :
    Calls Try.prog 22 #[v] w fun e w' => ∃ u, e = .returned u ∧ TokSl w'.heap.size w' u (ts.map bareD) ∧ Below w.heap.size w w' := by
  obtain ⟨hm, a, cap, rfl, hcell⟩ := hv
  obtain ⟨i0, hi, hz0, hz1, hz2⟩ := infoTok3
  replace hcell := Lib.hid hcell
  replace hm := Lib.hid hm
  go_enter Try.func22, Try.ntmps22
  go_wp2_with fail
  go_loopw [3, 4] (fun o i wr => ∃ (u : Value) (k : Nat), o = u ∧ k ≤ ts.length ∧ i = .int .i64 (k : Int) ∧ wr.ownsRow w.heap.size 27 3 u k (tdsC ((ts.take k).map bareD)) ∧ Below w.heap.size w wr) (fun _ i _ => ts.length - (intOf i).toNat)
  case atStart => exact ⟨_, 0, rfl, by omega, rfl, World.ownsRow_nil _ _ _ _, Below.refl _ w⟩
  case round =>
    obtain ⟨u, k, rfl, hk', rfl, hown, hB⟩ := hrel
    by_cases hlt : k < ts.length
    · obtain ⟨g, rfl, hg, hc⟩ := hcell.out (by omega)
      obtain ⟨t, ht⟩ : ∃ t, ts[k]? = some t := ⟨ts[k], List.getElem?_eq_getElem hlt⟩
      obtain ⟨e1, e2, e3⟩ := hc k t ht
      replace e1 := (hB.cell (p := ⟨g, k * 3, none⟩) hg).trans e1
      replace e2 := (hB.cell (p := ⟨g, k * 3 + 1, none⟩) hg).trans e2
      have t1 : decide (k < ts.length) = true := by simpa using hlt
      have hL := Lib.hid (lit3 wr 27 (.int .u8 t.k) (.string t.x) (.int .i64 0) rfl rfl rfl)
      have hbase := hB.size
      have hsn : Hid (tdsC ((ts.take (k + 1)).map bareD) = tdsC ((ts.take k).map bareD) ++ [.int .u8 t.k, .string t.x, .int .i64 0]) := Lib.hid (by rw [take_snoc ht, List.map_append, List.map_singleton, tdsC_snoc]; rfl)
      have ho1 := Lib.hid (World.ownsRow.alloc hown (.cells #[.int .u8 t.k, .string t.x, .int .i64 0] 27))
      replace hown := Lib.hid hown
      replace hB := Lib.hid hB
      clear hc e3 ht
      go_wp2_with fail
      go_region_law (first
        | (refine step_append_rows rfl (.tmp 11) (.tmp 23) 24 rfl w.heap.size 27 i0 _ 3 32 Try.underlying24 hi hz0 hz1 hz2 rfl (by decide) u3 k _ rfl ho1.out ⟨wr.heap.size, 0, none⟩ 1 1 [.int .u8 t.k, .string t.x, .int .i64 0] rfl rfl hL.out.1 hL.out.2.2 (by unfold maxLen; omega) (by omega) (by simp; omega) ?_
           intro v2 w5 hown2 hgrow2 _)
        | (refine step_append_rows rfl (.tmp 11) (.tmp 23) 24 rfl w.heap.size 27 i0 _ 3 32 Try.underlying24 hi hz0 hz1 hz2 rfl (by decide) u3 k _ rfl ho1.out.drew ⟨wr.heap.size, 0, none⟩ 1 1 [.int .u8 t.k, .string t.x, .int .i64 0] rfl rfl hL.out.2.1 hL.out.2.2 (by unfold maxLen; omega) (by omega) (by simp; omega) ?_
           intro v2 w5 hown2 hgrow2 _))
      all_goals
        have hown5 := Lib.hid (show w5.ownsRow w.heap.size 27 3 v2 (k + 1) (tdsC ((ts.take (k + 1)).map bareD)) from by rw [hsn.out]; exact hown2)
        have hB5 := Lib.hid (((hB.out.alloc hB.out.size (.cells #[.int .u8 t.k, .string t.x, .int .i64 0] 27)).drew).grown hgrow2 (by have := hB.out.size; simp; omega) (fun j hj => by have := (hown.out.lt j hj).1; omega))
        clear hown2 hgrow2 hL ho1 hown hB hsn e1 e2
        go_wp2
        go_roundw
        case rel => exact ⟨v2, k + 1, rfl, by omega, by go_num, hown5.out, hB5.out⟩
        case measure => simp [intOf]; omega
    · obtain rfl : k = ts.length := by omega
      have t1 : decide (ts.length < ts.length) = false := by simp
      have HB := Lib.hid hB
      rw [List.take_length] at hown
      have ho := Lib.hid hown
      clear hB hown
      go_wp2
      go_ret
      refine ⟨_, rfl, tokSl_row (by rw [List.length_map]; exact ho.out) (by rw [List.length_map]; exact hm.out), HB.out⟩
end Go.Proofs.Ytcahdnghdblanaa
