/- A list of tokens that came in as an argument. -/
import Derived.OpenShut
import Derived.WideShapes
import Derived.ChangeSlices
import Derived.Deep.Strs
import Derived.SizedLaws
import Derived.Test.YtcahdnghdblanaaLexTheirs
namespace Go.Proofs.Ytcahdnghdblanaa
open Go.ChangeShapes Go.WideShapes Go.RowKit

theorem tokCellsOf : Try.prog.cellsOf 27 = 3 := by kernel_rfl
theorem kindCellsOf : Try.prog.cellsOf 25 = 1 := by kernel_rfl
theorem strCellsOf : Try.prog.cellsOf 9 = 1 := by kernel_rfl
theorem intCellsOf : Try.prog.cellsOf 3 = 1 := by kernel_rfl
theorem one_ofT {α : Type} {l : List α} {i : Nat} {x : α} (h : (l.drop i).take 1 = [x]) : l[i]? = some x := by
  have := congrArg (·[0]?) h
  simpa using this
theorem u8_of_wf {a : Int} (h : (Lit.int .u8 a).wf = true) : 0 ≤ a ∧ a ≤ 255 := by
  simpa [Lit.wf, IntKind.min, IntKind.max, IntKind.signed, IntKind.bits] using h

theorem weightsAll_mem {H : Type} {P : Program} {e : TypeId} {x : Nat} : ∀ {l : List (DataW H)} {d : DataW H}, d ∈ l → x ∈ d.weights P e → x ∈ DataW.weightsAll P e l
  | [], d, h, _ => by simp at h
  | u :: l, d, h, hx => by
    unfold DataW.weightsAll
    rcases List.mem_cons.1 h with rfl | h
    · exact List.mem_append.2 (.inl hx)
    · exact List.mem_append.2 (.inr (weightsAll_mem h hx))
set_option maxRecDepth 100000 in
theorem tokArg {H : Type} {enc : TypeId × Value → H} {W : World} {base : Nat} {v : Value} {d : DataW H} {p : List MemPlace}
    (hv : Value.okWide Try.prog W .any base 24 v) (h : DataW.Trod enc Try.prog W 0 (fun _ => true) true 24 v d p) (hz : ∀ x ∈ d.weights Try.prog 24, x ≤ reachBytes) :
    ∃ ts : List TokD, TokO W.heap.size W v ts ∧ ∀ t ∈ ts, (0 ≤ t.k ∧ t.k ≤ 255) ∧ t.x.size ≤ reachBytes := by
  obtain ⟨a0, len, cap, rfl⟩ := okWide_slice Try.underlying24 hv
  obtain ⟨fuel, hf⟩ := h
  rcases DataW.trod_slice Try.underlying24 hf with ⟨hcs, _⟩ | ⟨a, len', cap', elems, rest, n, rfl, hcs, hdp, -, hle, hm, hel, hread, -, -⟩
  · have hcs0 : [Value.slice a0 len cap] = [Value.slice none 0 0] := hcs
    obtain ⟨rfl, rfl, rfl⟩ : a0 = none ∧ len = 0 ∧ cap = 0 := by simpa using hcs0
    exact ⟨[], ⟨by simp, none, 0, rfl, fun _ => ⟨rfl, rfl⟩, fun h => absurd h (by simp)⟩, fun t ht => by simp at ht⟩
  · have hcs0 : [Value.slice a0 len cap] = [Value.slice (some a) len' cap'] := hcs
    obtain ⟨rfl, rfl, rfl⟩ : a0 = some a ∧ len = len' ∧ cap = cap' := by simpa using hcs0
    have hcell : ∀ i, i < len → ∃ t : TokD, W.cell? ((a.add (i * 3)).add 0) = some (.int .u8 t.k) ∧ W.cell? ((a.add (i * 3)).add 1) = some (.string t.x) ∧ W.cell? ((a.add (i * 3)).add 2) = some (.int .i64 t.p) ∧ (0 ≤ t.k ∧ t.k ≤ 255) ∧ t.x.size ≤ reachBytes := by
      intro i hi
      have h1 := hread i hi
      rw [tokCellsOf, List.getElem?_eq_getElem (by omega)] at h1
      obtain ⟨cs2, hc2, ht2⟩ := Option.bind_eq_some_iff.1 h1
      obtain ⟨-, hl2, hc⟩ := World.cells?_some hc2
      obtain ⟨y0, y1, y2, n2, hxe, hys, r0, r1, r2⟩ := Go.Deep.trod_struct3 Try.underlying27 ht2
      have r0' : DataW.trod enc Try.prog W 0 (fun _ => true) true n2 25 ((cs2.drop 0).take (Try.prog.cellsOf 25)) = some y0 := r0
      have r1' : DataW.trod enc Try.prog W 0 (fun _ => true) true n2 9 ((cs2.drop 1).take (Try.prog.cellsOf 9)) = some y1 := r1
      have r2' : DataW.trod enc Try.prog W 0 (fun _ => true) true n2 3 ((cs2.drop 2).take (Try.prog.cellsOf 3)) = some y2 := r2
      rw [kindCellsOf] at r0'
      rw [strCellsOf] at r1'
      rw [intCellsOf] at r2'
      obtain ⟨k, hk, -, wk⟩ := DataW.trod_int Try.underlying25 r0'
      obtain ⟨x, hx, hy1, -⟩ := DataW.trod_string Try.underlying9 r1'
      obtain ⟨q, hq, -, -⟩ := DataW.trod_int Try.underlying3 r2'
      have wx : x.size ≤ reachBytes := by
        refine hz x.size ?_
        have hd : d = .slice (elems.map (·.1)) (rest.map (·.1)) := congrArg Prod.fst hdp
        rw [hd]
        have hm : elems[i].1 ∈ elems.map (·.1) := List.mem_map.2 ⟨_, List.getElem_mem _, rfl⟩
        have hw : x.size ∈ elems[i].1.weights Try.prog 27 := by
          rw [hxe, hy1]
          simp [DataW.weights, Try.underlying27, DataW.weightsEach]
        simp only [DataW.weights, Try.underlying24]
        exact List.mem_cons_of_mem _ (List.mem_append.2 (.inl (weightsAll_mem hm hw)))
      exact ⟨⟨k, x, q⟩, (hc 0 (by omega)).trans (one_ofT hk), (hc 1 (by omega)).trans (one_ofT hx), (hc 2 (by omega)).trans (one_ofT hq), u8_of_wf wk, wx⟩
    by_cases h0 : len = 0
    · subst h0
      exact ⟨[], ⟨by simp, some a, cap, rfl, fun h => (by cases h), fun h => absurd h (by simp)⟩, fun t ht => by simp at ht⟩
    · obtain ⟨b, off, spot⟩ := a
      have hspot : spot = none := by
        obtain ⟨t, h1, _⟩ := hcell 0 (by omega)
        simpa [Addr.add] using World.cell?_spot h1
      subst hspot
      let f : Nat → TokD := fun i => if h : i < len then Classical.choose (hcell i h) else ⟨0, ⟨#[]⟩, 0⟩
      have hf : ∀ i, i < len → W.cell? ⟨b, off + i * 3, none⟩ = some (.int .u8 (f i).k) ∧ W.cell? ⟨b, off + i * 3 + 1, none⟩ = some (.string (f i).x) ∧ W.cell? ⟨b, off + i * 3 + 2, none⟩ = some (.int .i64 (f i).p) ∧ (0 ≤ (f i).k ∧ (f i).k ≤ 255) ∧ (f i).x.size ≤ reachBytes := by
        intro i hi
        have e : f i = Classical.choose (hcell i hi) := dif_pos hi
        obtain ⟨h1, h2, h3, h4⟩ := Classical.choose_spec (hcell i hi)
        rw [← e] at h1 h2 h3 h4
        rw [Go.WideShapes.add_plain, Go.WideShapes.add_plain] at h1 h2 h3
        rw [Nat.add_zero] at h1
        exact ⟨h1, h2, h3, h4⟩
      refine ⟨(List.range len).map f, ⟨by simp; omega, some ⟨b, off, none⟩, cap, by simp, fun h => (by cases h), fun _ => ⟨b, off, rfl, ?_, fun j t ht => ?_⟩⟩, fun t ht => ?_⟩
      · exact World.block_lt_of_cell? W _ (hf 0 (by omega)).1
      · have hj : j < len := by have := (List.getElem?_eq_some_iff.1 ht).1; simpa using this
        have he : t = f j := by simp [hj] at ht; exact ht.symm
        subst he
        obtain ⟨h1, h2, h3, -⟩ := hf j hj
        exact ⟨h1, h2, h3⟩
      · obtain ⟨j, hj, rfl⟩ := List.mem_map.1 ht
        exact (hf j (List.mem_range.1 hj)).2.2.2
end Go.Proofs.Ytcahdnghdblanaa
