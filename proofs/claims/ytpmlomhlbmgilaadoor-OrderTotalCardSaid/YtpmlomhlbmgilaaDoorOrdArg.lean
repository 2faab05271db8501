/- A slice of integers that came in, for the cards of stage 3. -/
import Derived.Test.YtpmlomhlbmgilaaDoorLaw
import Derived.Test.YtpmlomhlbmgilaaDoorOrdMarks
import Derived.ChangeSlices
import Derived.Test.YtpmlomhlbmgilaaDoorRows
namespace Go.Proofs.YtpmlomhlbmgilaaDoor
open Go.ChangeShapes Go.WideShapes Go.ChangeAt Go.RowKit

set_option maxRecDepth 100000 in
/-- A slice of integers that came in: what it holds, in blocks that were there. -/
theorem numSl_of_open {H : Type} {enc : TypeId × Value → H} {W : World} {base : Nat} {t e : TypeId} {q : IntKind} {v : Value} {d : DataW H} {p : List MemPlace}
    (ht : Tryd.prog.underlying t = some (.slice e)) (he : Tryd.prog.underlying e = some (.int q)) (hc : Tryd.prog.cellsOf e = 1) (hv : Value.okWide Tryd.prog W .any base t v)
    (h : DataW.Trod enc Tryd.prog W 0 (fun _ => true) true t v d p) :
    ∃ zs : List Int, NumSl q W.heap.size W v zs ∧ (∀ z ∈ zs, (Lit.int q z).wf = true) ∧ ∀ len cap, v = .slice none len cap → len = 0 ∧ cap = 0 := by
  obtain ⟨a0, len, cap, rfl⟩ := okWide_slice ht hv
  obtain ⟨fuel, hf⟩ := h
  rcases open_ints ht he hc hf with ⟨hcs, _⟩ | ⟨a, len', cap', zs, hcs, _, hl, hm, hz, hx, hcell, hwz⟩
  · refine ⟨[], ⟨by simp, none, 0, ?_, fun h => by simp at h⟩, fun z hz => by simp at hz, ?_⟩
    · have hcs0 : [Value.slice a0 len cap] = [Value.slice none 0 0] := hcs
      simpa using hcs0
    · intro l c h
      have hcs0 : [Value.slice a0 len cap] = [Value.slice none 0 0] := hcs
      rw [h] at hcs0
      simpa using hcs0
  · have hcs' : Value.slice a0 len cap = Value.slice (some a) len' cap' := by
      have hcs0 : [Value.slice a0 len cap] = [Value.slice (some a) len' cap'] := hcs
      simpa using hcs0
    rw [if_pos rfl] at hz
    have hlen : (zs.take len').length = len' := by rw [List.length_take]; omega
    refine ⟨zs.take len', ⟨by rw [hlen]; omega, some a, cap', by rw [hlen]; exact hcs', fun h0 => ?_⟩, fun z hz' => hwz z (List.mem_of_mem_take hz'), fun l c h => by rw [h] at hcs'; cases hcs'⟩
    rw [hlen] at h0 ⊢
    obtain ⟨b, off, rfl, hc'⟩ := ints_at hcell (by omega)
    refine ⟨b, off, rfl, ?_, fun j hj => ?_⟩
    · have h1 := hc' 0 (by omega)
      by_cases hs : b < W.heap.size
      · exact hs
      · simp [World.cell?, Array.getElem?_eq_none (show W.heap.size ≤ b by omega)] at h1
    · rw [hc' j (by omega), List.getElem?_take_of_lt hj]
      rfl
end Go.Proofs.YtpmlomhlbmgilaaDoor
