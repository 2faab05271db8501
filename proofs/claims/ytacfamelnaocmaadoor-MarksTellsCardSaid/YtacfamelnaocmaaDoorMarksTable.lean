/- The table of math/bits in the laws' first world. -/
import Derived.Test.YtacfamelnaocmaaDoorLaw
import Derived.Test.YtacfamelnaocmaaDoorMarksBits
import Derived.Test.YtacfamelnaocmaaDoorMarksOf
import Derived.ChangeSlices
import Derived.Test.YtacfamelnaocmaaDoorRows
namespace Go.Proofs.YtacfamelnaocmaaDoor
open Go.ChangeShapes Go.WideShapes Go.ChangeAt Go.RowKit

theorem own : ownKnob Tryd.prog.godebug = none := by kernel_rfl
theorem laidOut : laidOutB Tryd.prog = true := by kernel_rfl
theorem gTab : Tryd.prog.globalNamed "math/bits.deBruijn64tab" = some 0 := by kernel_rfl
theorem gTabType : (Tryd.prog.globals[0]?).map (·.type) = some 67 := by kernel_rfl
theorem cellsA : Tryd.prog.cellsOf 67 = 64 := by kernel_rfl
theorem cellsE : Tryd.prog.cellsOf 5 = 1 := by kernel_rfl

theorem tab_of_laid {W : World} (h : laidMetH Tryd.prog [("math/bits.deBruijn64tab", Rows.laid_math_bits_deBruijn64tab)] W) : Tab W := by
  have hT : Lib.TabIs Tryd.prog W "math/bits.deBruijn64tab" .u8 (MM.tab.map fun k : Nat => (k : Int)) :=
    Lib.tabIs_of_head (rest := []) gTab gTabType Tryd.underlying67 Tryd.underlying5 cellsE cellsA h
  intro i k hk
  have hi : i < MM.tab.length := (List.getElem?_eq_some_iff.1 hk).1
  have hc := hT.cell gTab i (by rw [List.length_map]; exact hi)
  rw [hc]
  simp [List.getD, hk]

/-- A world for the witnesses: the settled one, with the table as its initialiser lays it. -/
noncomputable def laidWorld (os : Os) : World :=
  { World.holding Tryd.prog os ⟨#[], #[], []⟩ with heap := (World.holding Tryd.prog os ⟨#[], #[], []⟩).heap.modify 0 fun
      | .cells _ t frozen => .cells (MM.tab.map fun k : Nat => Value.int .u8 k).toArray t frozen
      | o => o }

theorem u64_of_wf {a : Int} (h : (Lit.int .u64 a).wf = true) : 0 ≤ a ∧ a < 18446744073709551616 := by
  have : 0 ≤ a ∧ a ≤ 18446744073709551615 := by simpa [Lit.wf, IntKind.min, IntKind.max, IntKind.signed, IntKind.bits] using h
  omega
theorem i64_of_wf {a : Int} (h : (Lit.int .i64 a).wf = true) : -9223372036854775808 ≤ a ∧ a ≤ 9223372036854775807 := by
  simpa [Lit.wf, IntKind.min, IntKind.max, IntKind.signed, IntKind.bits] using h
theorem u8_of_wf {a : Int} (h : (Lit.int .u8 a).wf = true) : 0 ≤ a ∧ a ≤ 255 := by
  simpa [Lit.wf, IntKind.min, IntKind.max, IntKind.signed, IntKind.bits] using h

/-- A slice of integers that came in: what it holds, in blocks that were there. -/
theorem numSl_of_open {H : Type} {enc : TypeId × Value → H} {W : World} {base : Nat} {t e : TypeId} {q : IntKind} {v : Value} {d : DataW H} {p : List MemPlace}
    (ht : Tryd.prog.underlying t = some (.slice e)) (he : Tryd.prog.underlying e = some (.int q)) (hc : Tryd.prog.cellsOf e = 1) (hv : Value.okWide Tryd.prog W .any base t v)
    (h : DataW.Trod enc Tryd.prog W 0 (fun _ => true) true t v d p) :
    ∃ zs : List Int, NumSl q W.heap.size W v zs ∧ (∀ z ∈ zs, (Lit.int q z).wf = true) ∧ ∀ len cap, v = .slice none len cap → len = 0 ∧ cap = 0 := by
  obtain ⟨a0, len, cap, rfl⟩ := okWide_slice ht hv
  obtain ⟨fuel, hf⟩ := h
  rcases open_ints ht he hc hf with ⟨hcs, _⟩ | ⟨a, len', cap', zs, hcs, _, hl, hm, hz, hx, hcell, hwz⟩
  · refine ⟨[], ⟨by simp, none, 0, ?_, fun h => by simp at h⟩, fun z hz => by simp at hz, ?_⟩
    · have hcs0 : [Value.slice a0 len cap] = [Value.slice none 0 0] := hcs
      simpa using hcs0
    · intro l c h
      have hcs0 : [Value.slice a0 len cap] = [Value.slice none 0 0] := hcs
      rw [h] at hcs0
      simpa using hcs0
  · have hcs' : Value.slice a0 len cap = Value.slice (some a) len' cap' := by
      have hcs0 : [Value.slice a0 len cap] = [Value.slice (some a) len' cap'] := hcs
      simpa using hcs0
    rw [if_pos rfl] at hz
    have hlen : (zs.take len').length = len' := by rw [List.length_take]; omega
    refine ⟨zs.take len', ⟨by rw [hlen]; omega, some a, cap', by rw [hlen]; exact hcs', fun h0 => ?_⟩, fun z hz' => hwz z (List.mem_of_mem_take hz'), fun l c h => by rw [h] at hcs'; cases hcs'⟩
    rw [hlen] at h0 ⊢
    obtain ⟨b, off, rfl, hc'⟩ := ints_at hcell (by omega)
    refine ⟨b, off, rfl, ?_, fun j hj => ?_⟩
    · have h1 := hc' 0 (by omega)
      by_cases hs : b < W.heap.size
      · exact hs
      · simp [World.cell?, Array.getElem?_eq_none (show W.heap.size ≤ b by omega)] at h1
    · rw [hc' j (by omega), List.getElem?_take_of_lt hj]
      rfl
end Go.Proofs.YtacfamelnaocmaaDoor
