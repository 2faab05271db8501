/- Law, RelTable, RelArg, PairArg, RelTellsInt, RelTellsCard in one text, for the claim. -/
import Derived.ProofKit
import Derived.OpenShut
import Derived.OpenVars
import Derived.Carry
import Derived.Deep.DeepHandedRow
import Derived.Lib.LaidTab
import Derived.Test.YtnfkedcbhjbhkaaDoorChecked
import Derived.Test.YtnfkedcbhjbhkaaDoorMarksBits
import Derived.Test.YtnfkedcbhjbhkaaDoorRows
import Derived.WideShapes
import Derived.Test.YtnfkedcbhjbhkaaDoorRelKeep
import Derived.Test.YtnfkedcbhjbhkaaDoorRelOf
import Derived.Test.YtnfkedcbhjbhkaaDoorRelTellsLaw
import Derived.Test.YtnfkedcbhjbhkaaDoorCards
import Derived.Test.YtnfkedcbhjbhkaaDoorTie

section
/- What every law's proof ends with: the call returned true and nothing that lay before has turned, so the arguments read as they did. -/
namespace Go.Proofs.YtnfkedcbhjbhkaaDoor
open Go.ChangeShapes Go.WideShapes Go.ChangeAt Go.RowKit

theorem trodAll_below {H : Type} {enc : TypeId × Value → H} {P : Program} (hl : laidOutB P = true) {W W' : World} (hb : Below W.heap.size W W') :
    ∀ {ts : List TypeId} {vs : List Value} {ds : List (DataW H)} {ps : List MemPlace}, (∀ t ∈ ts, P.readableRec t = true ∧ t < P.types.size) →
      DataW.TrodAll enc P W 0 (fun _ => true) true ts vs ds ps → DataW.TrodAll enc P W' 0 (fun b => decide (b < W.heap.size)) true ts vs ds ps
  | [], vs, ds, ps, _, h => by
    obtain ⟨rfl, rfl, rfl⟩ := trodAll_nil h
    exact trodAll_mk0
  | t :: ts, vs, ds, ps, ht, h => by
    have hlt := DataW.TrodAll.lt h
    obtain ⟨v, vs', d, ds', p, q, rfl, rfl, rfl, h0, r⟩ := trodAll_cons h
    have ht0 := ht t (by simp)
    exact trodAll_cons_mk (Below.trod hl ht0.1 ht0.2 h0 hb (fun x hx => hlt x (List.mem_append.2 (.inl hx)))) (trodAll_below hl hb (fun u hu => ht u (by simp [hu])) r)

theorem law_post {H : Type} {enc : TypeId × Value → H} {P : Program} {f : Func} {s : ChangeSpec} {W W' : World} {args : Array Value} {ds gs : List (DataW H)} {before : List MemPlace}
    (hl : laidOutB P = true) (hts : ∀ t ∈ f.params.toList, P.readableRec t = true ∧ t < P.types.size) (hv : s.vars = []) (tb : TypeId) (hrt : f.resultTypes = #[tb]) (hbool : P.underlying tb = some .bool)
    (hs : s.fn H ds = { results := [.lit (.bool true)], args := ds }) (hW : DataW.Whole enc P f.params.toList s.vars false W args.toList ds gs before) (hb : Below W.heap.size W W') :
    s.post enc P f false true false false W args (.bool true) W' := by
  have hW' := hW
  obtain ⟨p, q, hA, hV, rfl, hfz, hnd⟩ := hW
  rw [hv] at hV
  obtain ⟨rfl, rfl⟩ := trodVars_none hV
  refine ⟨ds, [], p ++ [], [], p, [], hW', ?_, ?_, ?_, hb.frame _, fun h => by cases h⟩
  · rw [List.append_nil, hs, hrt]
    exact trodAll_cons_mk (p' := []) (shut_bool hbool true) trodAll_mk0
  · rw [List.append_nil, hs]
    exact trodAll_below hl hb hts hA
  · rw [List.append_nil, hs, hv]
    rfl
end Go.Proofs.YtnfkedcbhjbhkaaDoor
end

section
/- The table of math/bits in the laws' first world. -/
namespace Go.Proofs.YtnfkedcbhjbhkaaDoor
open Go.ChangeShapes Go.WideShapes Go.ChangeAt Go.RowKit

theorem own : ownKnob Tryd.prog.godebug = none := by kernel_rfl
theorem laidOut : laidOutB Tryd.prog = true := by kernel_rfl
theorem gTab : Tryd.prog.globalNamed "math/bits.deBruijn64tab" = some 0 := by kernel_rfl
theorem gTabType : (Tryd.prog.globals[0]?).map (·.type) = some 119 := by kernel_rfl
theorem cellsA : Tryd.prog.cellsOf 119 = 64 := by kernel_rfl
theorem cellsE : Tryd.prog.cellsOf 5 = 1 := by kernel_rfl

theorem tab_of_laid {W : World} (h : laidMetH Tryd.prog [("math/bits.deBruijn64tab", Rows.laid_math_bits_deBruijn64tab)] W) : Tab W := by
  have hT : Lib.TabIs Tryd.prog W "math/bits.deBruijn64tab" .u8 (MM.tab.map fun k : Nat => (k : Int)) :=
    Lib.tabIs_of_head (rest := []) gTab gTabType Tryd.underlying119 Tryd.underlying5 cellsE cellsA h
  intro i k hk
  have hi : i < MM.tab.length := (List.getElem?_eq_some_iff.1 hk).1
  have hc := hT.cell gTab i (by rw [List.length_map]; exact hi)
  rw [hc]
  simp [List.getD, hk]

/-- A world for the witnesses: the settled one, with the table as its initialiser lays it. -/
noncomputable def laidWorld (os : Os) : World :=
  { World.holding Tryd.prog os ⟨#[], #[], []⟩ with heap := (World.holding Tryd.prog os ⟨#[], #[], []⟩).heap.modify 0 fun
      | .cells _ t frozen => .cells (MM.tab.map fun k : Nat => Value.int .u8 k).toArray t frozen
      | o => o }

theorem u64_of_wf {a : Int} (h : (Lit.int .u64 a).wf = true) : 0 ≤ a ∧ a < 18446744073709551616 := by
  have : 0 ≤ a ∧ a ≤ 18446744073709551615 := by simpa [Lit.wf, IntKind.min, IntKind.max, IntKind.signed, IntKind.bits] using h
  omega
theorem i64_of_wf {a : Int} (h : (Lit.int .i64 a).wf = true) : -9223372036854775808 ≤ a ∧ a ≤ 9223372036854775807 := by
  simpa [Lit.wf, IntKind.min, IntKind.max, IntKind.signed, IntKind.bits] using h
theorem u8_of_wf {a : Int} (h : (Lit.int .u8 a).wf = true) : 0 ≤ a ∧ a ≤ 255 := by
  simpa [Lit.wf, IntKind.min, IntKind.max, IntKind.signed, IntKind.bits] using h

theorem u16_of_wf {a : Int} (h : (Lit.int .u16 a).wf = true) : 0 ≤ a ∧ a ≤ 65535 := by
  simpa [Lit.wf, IntKind.min, IntKind.max, IntKind.signed, IntKind.bits] using h

end Go.Proofs.YtnfkedcbhjbhkaaDoor
end

section
/- A relation that came in as an argument. -/
namespace Go.Proofs.YtnfkedcbhjbhkaaDoor
open Go.ChangeShapes Go.WideShapes Go.RowKit

theorem relCells : Tryd.prog.cellsOf 26 = 49 := by kernel_rfl
theorem rowCells : Tryd.prog.cellsOf 24 = 48 := by kernel_rfl
theorem one_of {α : Type} {l : List α} {i : Nat} {x : α} (h : (l.drop i).take 1 = [x]) : l[i]? = some x := by
  have := congrArg (·[0]?) h
  simpa using this
set_option maxRecDepth 100000 in
theorem relArg {H : Type} {enc : TypeId × Value → H} {W : World} {base : Nat} {v : Value} {d : DataW H} {p : List MemPlace}
    (hv : Value.okWide Tryd.prog W .any base 26 v) (h : DataW.Trod enc Tryd.prog W 0 (fun _ => true) true 26 v d p) :
    ∃ (n : Int) (f : Nat → Nat), v = .agg (relC n f) ∧ R64 f ∧ -9223372036854775808 ≤ n ∧ n ≤ 9223372036854775807 := by
  obtain ⟨cs, rfl, hsz⟩ := okWide_struct Tryd.underlying26 hv
  rw [relCells] at hsz
  obtain ⟨fuel, hf⟩ := h
  simp only [Value.cells] at hf
  obtain ⟨xs, n1, -, -, hlen, hxs, hfld⟩ := DataW.trod_struct Tryd.underlying26 hf
  have h0 := hfld 0 _ rfl
  have h1 := hfld 1 _ rfl
  have hx2 : xs.length = 2 := hxs
  rw [List.getElem?_eq_getElem (by omega)] at h0 h1
  have h1' : DataW.trod enc Tryd.prog W 0 (fun _ => true) true n1 24 ((cs.toList.drop 1).take (Tryd.prog.cellsOf 24)) = some xs[1] := h1
  have h0' : DataW.trod enc Tryd.prog W 0 (fun _ => true) true n1 3 ((cs.toList.drop 0).take (Tryd.prog.cellsOf 3)) = some xs[0] := h0
  rw [rowCells] at h1'
  rw [intCells] at h0'
  obtain ⟨n, hn, -, hnw⟩ := DataW.trod_int Tryd.underlying3 h0'
  obtain ⟨ys, n2, -, -, hl2, hys, hrow⟩ := DataW.trod_array Tryd.underlying24 h1'
  have hN : cs.toList[0]? = some (.int .i64 n) := one_of hn
  have hR : ∀ i, i < 48 → ∃ k : Int, cs.toList[i + 1]? = some (.int .u64 k) ∧ 0 ≤ k ∧ k < 18446744073709551616 := by
    intro i hi
    have h2 := hrow i hi
    rw [setCells, List.getElem?_eq_getElem (by omega), Nat.mul_one] at h2
    obtain ⟨k, hk, -, hkw⟩ := DataW.trod_int Tryd.underlying23 h2
    have h3 := one_of hk
    rw [List.getElem?_take_of_lt hi, List.getElem?_drop, Nat.add_comm] at h3
    exact ⟨k, h3, u64_of_wf hkw⟩
  have hlen49 : cs.toList.length = 49 := by simpa using hsz
  let f : Nat → Nat := fun i => match cs.toList[i + 1]? with | some (.int _ k) => k.toNat | _ => 0
  have hfv : ∀ i, i < 48 → cs.toList[i + 1]? = some (.int .u64 (f i : Int)) ∧ f i < 2 ^ 64 := by
    intro i hi
    obtain ⟨k, hk, k0, k1⟩ := hR i hi
    have e : f i = k.toNat := by show (match cs.toList[i + 1]? with | some (.int _ k) => k.toNat | _ => 0) = _; rw [hk]
    rw [e, hk]
    exact ⟨by rw [Int.toNat_of_nonneg k0], by omega⟩
  refine ⟨n, f, ?_, fun i => ?_, i64_of_wf hnw⟩
  · congr 1
    apply Array.ext'
    rw [relC_toList]
    apply List.ext_getElem?
    intro j
    cases j with
    | zero => rw [hN]; rfl
    | succ j =>
      rw [List.getElem?_cons_succ]
      by_cases hj : j < 48
      · rw [(hfv j hj).1, rowsL_get f j hj]
      · rw [List.getElem?_eq_none (by omega), List.getElem?_eq_none (by rw [rowsL_length]; omega)]
  · by_cases hi : i < 48
    · exact (hfv i hi).2
    · have e : f i = 0 := by show (match cs.toList[i + 1]? with | some (.int _ k) => k.toNat | _ => 0) = _; rw [List.getElem?_eq_none (by omega)]
      rw [e]; exact Nat.two_pow_pos 64
end Go.Proofs.YtnfkedcbhjbhkaaDoor
end

section
/- A list of pairs that came in as an argument. -/
namespace Go.Proofs.YtnfkedcbhjbhkaaDoor
open Go.ChangeShapes Go.WideShapes Go.RowKit

theorem pairCellsOf : Tryd.prog.cellsOf 53 = 2 := by kernel_rfl
theorem two_of {α : Type} {l : List α} {x : α} {i : Nat} (h : (l.drop (i * 1)).take 1 = [x]) : l[i]? = some x := by
  rw [Nat.mul_one] at h
  exact one_of h
set_option maxRecDepth 100000 in
theorem pairArg {H : Type} {enc : TypeId × Value → H} {W : World} {base : Nat} {v : Value} {d : DataW H} {p : List MemPlace}
    (hv : Value.okWide Tryd.prog W .any base 27 v) (h : DataW.Trod enc Tryd.prog W 0 (fun _ => true) true 27 v d p) :
    ∃ ps : List (Int × Int), PairSl W.heap.size W v ps := by
  obtain ⟨a0, len, cap, rfl⟩ := okWide_slice Tryd.underlying27 hv
  obtain ⟨fuel, hf⟩ := h
  rcases DataW.trod_slice Tryd.underlying27 hf with ⟨hcs, _⟩ | ⟨a, len', cap', elems, rest, n, rfl, hcs, -, -, hle, hm, hel, hread, -, -⟩
  · have hcs0 : [Value.slice a0 len cap] = [Value.slice none 0 0] := hcs
    obtain ⟨rfl, rfl, rfl⟩ : a0 = none ∧ len = 0 ∧ cap = 0 := by simpa using hcs0
    exact ⟨[], by simp, none, 0, rfl, fun h => absurd h (by simp)⟩
  · have hcs0 : [Value.slice a0 len cap] = [Value.slice (some a) len' cap'] := hcs
    obtain ⟨rfl, rfl, rfl⟩ : a0 = some a ∧ len = len' ∧ cap = cap' := by simpa using hcs0
    have hcell : ∀ i, i < len → ∃ k0 k1 : Int, W.cell? ((a.add (i * 2)).add 0) = some (.int .i64 k0) ∧ W.cell? ((a.add (i * 2)).add 1) = some (.int .i64 k1) ∧ a.add (i * 2) = a.add (i * 2) := by
      intro i hi
      have h1 := hread i hi
      rw [pairCellsOf, List.getElem?_eq_getElem (by omega)] at h1
      obtain ⟨cs2, hc2, ht2⟩ := Option.bind_eq_some_iff.1 h1
      obtain ⟨-, hl2, hc⟩ := World.cells?_some hc2
      obtain ⟨ys, n2, -, -, hys, hysl, hrow⟩ := DataW.trod_array Tryd.underlying53 ht2
      have r0 := hrow 0 (by omega)
      have r1 := hrow 1 (by omega)
      rw [intCells, List.getElem?_eq_getElem (by omega)] at r0 r1
      obtain ⟨k0, hk0, -, -⟩ := DataW.trod_int Tryd.underlying3 r0
      obtain ⟨k1, hk1, -, -⟩ := DataW.trod_int Tryd.underlying3 r1
      exact ⟨k0, k1, (hc 0 (by omega)).trans (two_of hk0), (hc 1 (by omega)).trans (two_of hk1), rfl⟩
    by_cases h0 : len = 0
    · subst h0
      exact ⟨[], by simp, some a, cap, rfl, fun h => absurd h (by simp)⟩
    · obtain ⟨b, off, spot⟩ := a
      have hspot : spot = none := by
        obtain ⟨k0, k1, h1, _⟩ := hcell 0 (by omega)
        simpa [Addr.add] using World.cell?_spot h1
      subst hspot
      let f : Nat → Int := fun j => match W.cell? ⟨b, off + j, none⟩ with | some (.int _ k) => k | _ => 0
      have hf : ∀ i, i < len → W.cell? ⟨b, off + i * 2, none⟩ = some (.int .i64 (f (i * 2))) ∧ W.cell? ⟨b, off + i * 2 + 1, none⟩ = some (.int .i64 (f (i * 2 + 1))) := by
        intro i hi
        obtain ⟨k0, k1, h1, h2, _⟩ := hcell i hi
        rw [Go.WideShapes.add_plain, Go.WideShapes.add_plain] at h1 h2
        rw [Nat.add_zero] at h1
        have e1 : f (i * 2) = k0 := by show (match W.cell? ⟨b, off + i * 2, none⟩ with | some (.int _ k) => k | _ => 0) = _; rw [h1]
        have e2 : f (i * 2 + 1) = k1 := by show (match W.cell? ⟨b, off + (i * 2 + 1), none⟩ with | some (.int _ k) => k | _ => 0) = _; rw [← Nat.add_assoc, h2]
        rw [e1, e2]
        exact ⟨h1, h2⟩
      refine ⟨(List.range len).map fun i => (f (i * 2), f (i * 2 + 1)), by simp; omega, some ⟨b, off, none⟩, cap, by simp, fun _ => ⟨b, off, rfl, ?_, fun j hj => ?_⟩⟩
      · exact World.block_lt_of_cell? W _ (hf 0 (by omega)).1
      · have hj' : j < len := by simpa using hj
        have he : ((List.range len).map fun i => (f (i * 2), f (i * 2 + 1)))[j]? = some (f (j * 2), f (j * 2 + 1)) := by simp [hj']
        rw [he]
        exact hf j hj'
end Go.Proofs.YtnfkedcbhjbhkaaDoor
end

section
/- The law of definitions, with its arguments as they come in. -/
namespace Go.Proofs.YtnfkedcbhjbhkaaDoor
open Go.RowKit Go.Shelf

theorem tells_int (nx ny : Int) (fx fy : Nat → Nat) (hx : R64 fx) (hy : R64 fy) (n : Int) (s t : Int) (s0 : 0 ≤ s) (s1 : s < 18446744073709551616) (t0 : 0 ≤ t) (t1 : t < 18446744073709551616) (v : Value) (ps : List (Int × Int)) (w : World) (hps : PairSl w.heap.size w v ps) (hT : Tab w) :
    Calls Tryd.prog 3 #[.agg (relC nx fx), .agg (relC ny fy), .int .i64 n, .int .u64 s, .int .u64 t, v] w fun e w' => e = .returned (.bool true) ∧ Below w.heap.size w w' := by
  have := tells_law nx ny fx fy hx hy n s.toNat t.toNat (by omega) (by omega) v ps w hps hT
  rwa [Int.toNat_of_nonneg s0, Int.toNat_of_nonneg t0] at this
end Go.Proofs.YtnfkedcbhjbhkaaDoor
end

section
/- The law RelTells returns true for any two relations, any integer, any two sets and any list of pairs, and leaves all that lay before as it was. Condition: the table of math/bits holds what its own initialiser lays, which the card ties to the program's text. -/
namespace Go.Proofs.YtnfkedcbhjbhkaaDoor.lawRelTells
open Go.ChangeShapes Go.WideShapes Go.ChangeAt Go.RowKit

set_option maxRecDepth 100000 in
theorem contract (H : Type) (enc : TypeId × Value → H) (W : World) (base : Nat) (args : Array Value) (ds gs : List (DataW H)) (before : List MemPlace)
    (hval : ∀ (j : Nat) t v, Tryd.f3.params[j]? = some t → args[j]? = some v → Value.okWide Tryd.prog W .any base t v)
    (hW : DataW.Whole enc Tryd.prog Tryd.f3.params.toList Rows.relTellsSpec.vars false W args.toList ds gs before) (hT : Tab W) :
    Calls Tryd.prog 3 args W fun e W' => ∃ v, e = .returned v ∧ Rows.relTellsSpec.post enc Tryd.prog Tryd.f3 false true false false W args v W' := by
  have hW' := hW
  obtain ⟨p, q, hA0, hV, rfl, hfz, hnd⟩ := hW
  have hA : DataW.TrodAll enc Tryd.prog W 0 (fun _ => true) true Tryd.f3.params.toList args.toList ds p := hA0
  rw [Tryd.params3] at hA hval
  obtain ⟨v0, vs0, d0, ds0, p0, q0, hargs, rfl, rfl, h0, r0⟩ := trodAll_cons hA
  obtain ⟨v1, vs1, d1, ds1, p1, q1, rfl, rfl, rfl, h1, r1⟩ := trodAll_cons r0
  obtain ⟨v2, vs2, d2, ds2, p2, q2, rfl, rfl, rfl, h2, r2⟩ := trodAll_cons r1
  obtain ⟨v3, vs3, d3, ds3, p3, q3, rfl, rfl, rfl, h3, r3⟩ := trodAll_cons r2
  obtain ⟨v4, vs4, d4, ds4, p4, q4, rfl, rfl, rfl, h4, r4⟩ := trodAll_cons r3
  obtain ⟨v5, vs5, d5, ds5, p5, q5, rfl, rfl, rfl, h5, r5⟩ := trodAll_cons r4
  obtain ⟨rfl, rfl, rfl⟩ := trodAll_nil r5
  obtain rfl : args = #[v0, v1, v2, v3, v4, v5] := by cases args; simp_all
  obtain ⟨n_x, f_x, rfl, r_x, -, -⟩ := relArg (hval 0 26 v0 rfl rfl) h0
  obtain ⟨n_y, f_y, rfl, r_y, -, -⟩ := relArg (hval 1 26 v1 rfl rfl) h1
  obtain ⟨n, rfl, hd2, hp2, wn⟩ := open_int Tryd.underlying3 (hval 2 3 v2 rfl rfl) h2
  obtain ⟨n0, n1⟩ := i64_of_wf wn
  obtain ⟨s, rfl, hd3, hp3, ws⟩ := open_int Tryd.underlying23 (hval 3 23 v3 rfl rfl) h3
  obtain ⟨s0, s1⟩ := u64_of_wf ws
  obtain ⟨t, rfl, hd4, hp4, wt⟩ := open_int Tryd.underlying23 (hval 4 23 v4 rfl rfl) h4
  obtain ⟨t0, t1⟩ := u64_of_wf wt
  obtain ⟨l_pairs, s_pairs⟩ := pairArg (hval 5 27 v5 rfl rfl) h5
  refine (tells_int n_x n_y f_x f_y r_x r_y n s t s0 s1 t0 t1 v5 l_pairs W s_pairs hT).mono fun e W' ⟨he, hb⟩ => ?_
  subst he
  exact ⟨_, rfl, law_post laidOut (by rw [Tryd.params3]; decide +kernel) rfl 4 (by kernel_rfl) Tryd.underlying4 rfl hW' hb⟩

set_option maxRecDepth 100000 in
theorem laid_met (os : Os) : laidMet Tryd.prog Rows.relTellsRow.laid ((laidWorld os).forCall (fun _ _ => 0) ⟨#[], #[.agg (relC 0 zf), .agg (relC 0 zf), .int .i64 0, .int .u64 0, .int .u64 0, .slice none 0 0], []⟩).memory :=
  laidMet_of_run' 8 (by kernel_rfl) (by kernel_rfl)
set_option maxRecDepth 100000 in
theorem reads (os : Os) {H : Type} (enc : TypeId × Value → H) : ∃ places, DataW.whole enc Tryd.prog ((laidWorld os).forCall (fun _ _ => 0) ⟨#[], #[.agg (relC 0 zf), .agg (relC 0 zf), .int .i64 0, .int .u64 0, .int .u64 0, .slice none 0 0], []⟩).memory Tryd.f3.params.toList Rows.relTellsSpec.vars false (#[.agg (relC 0 zf), .agg (relC 0 zf), .int .i64 0, .int .u64 0, .int .u64 0, .slice none 0 0] : Array Value).toList 8 = some ([.agg [.lit (.int .i64 0), .agg (List.replicate 48 (.lit (.int .u64 0)))], .agg [.lit (.int .i64 0), .agg (List.replicate 48 (.lit (.int .u64 0)))], .lit (.int .i64 0), .lit (.int .u64 0), .lit (.int .u64 0), .nil], [], places) :=
  ⟨[], by kernel_rfl⟩

set_option maxRecDepth 100000 in
theorem lifted (os : Os) (started : os.Started) (H : Type) (enc : TypeId × Value → H) (F : Stop.Interp) :
    ReturnsInHanded {} Tryd.checked os 3 .any ((OpenSpec.ofChange Rows.relTellsSpec).preRow enc Tryd.prog Tryd.f3 Rows.relTellsRow.domain false Rows.relTellsRow.laid) (((OpenSpec.ofChange Rows.relTellsSpec).at F).post enc Tryd.prog Tryd.f3 false true false false) := by
  obtain ⟨places, hx⟩ := reads os enc
  refine returnsInHanded_of_row (C := Tryd.checked) (s := OpenSpec.ofChange Rows.relTellsSpec) own started (by kernel_rfl) Tryd.func3
    (witness_row_at (enc := enc) (C := Tryd.checked) false (laidWorld os) #[.agg (relC 0 zf), .agg (relC 0 zf), .int .i64 0, .int .u64 0, .int .u64 0, .slice none 0 0] rfl (by kernel_rfl) (by kernel_rfl) (by kernel_rfl)
      (OpenSpec.preRow_of_cond 8 hx (by kernel_rfl) (fun k hk => by cases hk) (by kernel_rfl) (laid_met os))) ?_
  intro W base args ds gs before hval hW _ _ _ hL _ _
  exact contract H enc W base args ds gs before hval hW (tab_of_laid hL)

theorem said : Rows.RelTellsSaid :=
  OpenClaim.holds_of_cond 3 Tryd.f3 rfl rfl rfl rfl rfl rfl rfl ⟨rfl, rfl, rfl, rfl, rfl⟩ rfl rfl rfl rfl rfl (by kernel_rfl) Tryd.func3 (by kernel_rfl)
    (of_decide_eq_true (by kernel_rfl)) (by unfold Func.isWrapper; first | (rw [if_pos (by decide +kernel)]; kernel_rfl) | (rw [if_neg (by decide +kernel)]; exact ⟨rfl, rfl⟩))
    (fun os started H enc _ F => by rw [OpenClaim.pre_eq_preRow]; exact lifted os started H enc F)

theorem plain (f : FuncId) (fn : Func) (hf : Tryd.pinned.checked.prog.funcNamed "seisin/seisinlaw02.RelTells" = some f) (hfn : Tryd.pinned.checked.prog.funcs[f]? = some fn) :
    false = Tryd.pinned.checked.prog.looks [] ∧ ∀ (j : Nat) t, fn.params[j]? = some t → Tryd.pinned.checked.prog.wantsStandIn t = false := by
  obtain rfl : f = 3 := Option.some.inj ((show Tryd.prog.funcNamed "seisin/seisinlaw02.RelTells" = some 3 by kernel_rfl).symm.trans hf) |>.symm
  obtain rfl : fn = Tryd.f3 := (Option.some.inj (Tryd.func3.symm.trans hfn)).symm
  refine ⟨by kernel_rfl, fun j t ht => ?_⟩
  rw [Tryd.params3] at ht
  have hm := Array.mem_of_getElem? ht
  have hall : ∀ t ∈ #[26, 26, 3, 23, 23, 27], Tryd.prog.wantsStandIn t = false := by decide +kernel
  exact hall t hm

/-- The card. -/
theorem card : Rows.RelTellsCardSaid :=
  Claim7.holds_tied_plain_at .later [] _ _ _ _ said (fun _ h => by cases h) (by kernel_rfl) (fun _ h => by cases h) relTells_row_tie rfl ⟨rfl, rfl⟩ (by kernel_rfl) rfl plain (by kernel_rfl)
end Go.Proofs.YtnfkedcbhjbhkaaDoor.lawRelTells
end
