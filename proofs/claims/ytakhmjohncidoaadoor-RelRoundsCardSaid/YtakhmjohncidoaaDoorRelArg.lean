/- A relation that came in as an argument. -/
import Derived.OpenShut
import Derived.WideShapes
import Derived.Test.YtakhmjohncidoaaDoorRelTable
import Derived.Test.YtakhmjohncidoaaDoorRelKeep
namespace Go.Proofs.YtakhmjohncidoaaDoor
open Go.ChangeShapes Go.WideShapes Go.RowKit

theorem relCells : Tryd.prog.cellsOf 26 = 49 := by kernel_rfl
theorem rowCells : Tryd.prog.cellsOf 24 = 48 := by kernel_rfl
theorem one_of {α : Type} {l : List α} {i : Nat} {x : α} (h : (l.drop i).take 1 = [x]) : l[i]? = some x := by
  have := congrArg (·[0]?) h
  simpa using this
set_option maxRecDepth 100000 in
theorem relArg {H : Type} {enc : TypeId × Value → H} {W : World} {base : Nat} {v : Value} {d : DataW H} {p : List MemPlace}
    (hv : Value.okWide Tryd.prog W .any base 26 v) (h : DataW.Trod enc Tryd.prog W 0 (fun _ => true) true 26 v d p) :
    ∃ (n : Int) (f : Nat → Nat), v = .agg (relC n f) ∧ R64 f ∧ -9223372036854775808 ≤ n ∧ n ≤ 9223372036854775807 := by
  obtain ⟨cs, rfl, hsz⟩ := okWide_struct Tryd.underlying26 hv
  rw [relCells] at hsz
  obtain ⟨fuel, hf⟩ := h
  simp only [Value.cells] at hf
  obtain ⟨xs, n1, -, -, hlen, hxs, hfld⟩ := DataW.trod_struct Tryd.underlying26 hf
  have h0 := hfld 0 _ rfl
  have h1 := hfld 1 _ rfl
  have hx2 : xs.length = 2 := hxs
  rw [List.getElem?_eq_getElem (by omega)] at h0 h1
  have h1' : DataW.trod enc Tryd.prog W 0 (fun _ => true) true n1 24 ((cs.toList.drop 1).take (Tryd.prog.cellsOf 24)) = some xs[1] := h1
  have h0' : DataW.trod enc Tryd.prog W 0 (fun _ => true) true n1 3 ((cs.toList.drop 0).take (Tryd.prog.cellsOf 3)) = some xs[0] := h0
  rw [rowCells] at h1'
  rw [intCells] at h0'
  obtain ⟨n, hn, -, hnw⟩ := DataW.trod_int Tryd.underlying3 h0'
  obtain ⟨ys, n2, -, -, hl2, hys, hrow⟩ := DataW.trod_array Tryd.underlying24 h1'
  have hN : cs.toList[0]? = some (.int .i64 n) := one_of hn
  have hR : ∀ i, i < 48 → ∃ k : Int, cs.toList[i + 1]? = some (.int .u64 k) ∧ 0 ≤ k ∧ k < 18446744073709551616 := by
    intro i hi
    have h2 := hrow i hi
    rw [setCells, List.getElem?_eq_getElem (by omega), Nat.mul_one] at h2
    obtain ⟨k, hk, -, hkw⟩ := DataW.trod_int Tryd.underlying23 h2
    have h3 := one_of hk
    rw [List.getElem?_take_of_lt hi, List.getElem?_drop, Nat.add_comm] at h3
    exact ⟨k, h3, u64_of_wf hkw⟩
  have hlen49 : cs.toList.length = 49 := by simpa using hsz
  let f : Nat → Nat := fun i => match cs.toList[i + 1]? with | some (.int _ k) => k.toNat | _ => 0
  have hfv : ∀ i, i < 48 → cs.toList[i + 1]? = some (.int .u64 (f i : Int)) ∧ f i < 2 ^ 64 := by
    intro i hi
    obtain ⟨k, hk, k0, k1⟩ := hR i hi
    have e : f i = k.toNat := by show (match cs.toList[i + 1]? with | some (.int _ k) => k.toNat | _ => 0) = _; rw [hk]
    rw [e, hk]
    exact ⟨by rw [Int.toNat_of_nonneg k0], by omega⟩
  refine ⟨n, f, ?_, fun i => ?_, i64_of_wf hnw⟩
  · congr 1
    apply Array.ext'
    rw [relC_toList]
    apply List.ext_getElem?
    intro j
    cases j with
    | zero => rw [hN]; rfl
    | succ j =>
      rw [List.getElem?_cons_succ]
      by_cases hj : j < 48
      · rw [(hfv j hj).1, rowsL_get f j hj]
      · rw [List.getElem?_eq_none (by omega), List.getElem?_eq_none (by rw [rowsL_length]; omega)]
  · by_cases hi : i < 48
    · exact (hfv i hi).2
    · have e : f i = 0 := by show (match cs.toList[i + 1]? with | some (.int _ k) => k.toNat | _ => 0) = _; rw [List.getElem?_eq_none (by omega)]
      rw [e]; exact Nat.two_pow_pos 64
end Go.Proofs.YtakhmjohncidoaaDoor
