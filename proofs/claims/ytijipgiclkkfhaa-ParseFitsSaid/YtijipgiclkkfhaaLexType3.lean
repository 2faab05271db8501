/- lex.Type: the walk. -/
import Derived.Maps.AppendAt
import Derived.RegionIn
import Derived.Maps.OwnIn
import Derived.Shelf.Abstract
import Derived.RangeFuncBox
import Derived.RangeFuncKeeps
import Derived.RangeFuncRecord
import Derived.RangeFuncLeaves
import Derived.Test.YtijipgiclkkfhaaLexType2
namespace Go.Proofs.Ytijipgiclkkfhaa
open Go.RowKit Go.Shelf

attribute [local go_sem] Oper.semAt_some
theorem TokSl.out {n₀ : Nat} {w : World} {v : Value} {ts : List TokD} (h : TokSl n₀ w v ts) : ∃ a c, v = .slice a ts.length c := by
  obtain ⟨hm, a, cap, rfl, _⟩ := h
  exact ⟨a, cap, rfl⟩
def TypePost (ts : List TokD) (w : World) (e : Ending) (w' : World) : Prop := e = .returned (.string (typeS ts)) ∧ Below w.heap.size w w'

set_option maxRecDepth 100000 in
set_option maxHeartbeats 4000000 in
theorem type_in (v : Value) (ts : List TokD) (w : World) (hv : TokSl w.heap.size w v ts) (hlen : (byL (spL bno ts)).length ≤ 140737488355328) : CallsIn Fence.wide 7 Try.prog 14 #[v] w (TypePost ts w) := by
  obtain ⟨a, c, rfl⟩ := hv.out
  have b2 := Boxed.new w 34 (.slice none 0 0)
  have hB : Below w.heap.size w (w.alloc (.cells #[.slice none 0 0] 34)) := (Below.refl _ w).alloc (Nat.le_refl _) _
  have hz : (w.alloc (.cells #[.slice none 0 0] 34)).heap.size = w.heap.size + 1 := by simp
  refine callsIn_of_wp_marks Try.func14 rfl trivial ?_ rfl
  simp only [Try.ntmps14, List.size_toArray, List.length_cons, List.length_nil, Nat.reduceAdd, Nat.reduceSub, Array.replicate_succ, Array.replicate_zero, List.push_toArray, List.append_toArray, List.nil_append, List.cons_append]
  gi_wp2_with fail
  generalize w.alloc (.cells #[.slice none 0 0] 34) = W1 at *
  refine ⟨trivial, ?_⟩
  refine (callsIn_wide.2 (spaced_any _ _ _ W1)).mono ?_
  rintro e w2 ⟨rfl, h2⟩
  have hS2 : w2.heap[W1.heap.size]? = some (.cells #[.slice a ts.length c] 29 (0, 0)) := by rw [← h2]; exact heap_alloc_new W1 _
  have hB2 : Below W1.heap.size W1 w2 := by rw [← h2]; exact (Below.refl _ W1).alloc (Nat.le_refl _) _
  have hz2 := hB2.size
  clear h2
  have hI0 : TyI w [] w2 := ⟨_, (hB2.block _ (by omega)).trans b2, World.ownsRow_nil _ _ _ _, hB.trans (hB2.mono hB.size)⟩
  replace hv := hv.below (hB.trans (hB2.mono hB.size))
  clear b2 hB hB2
  rw [hz] at hz2 hS2
  have hlt2 := (Array.getElem?_eq_some_iff.1 hS2).1
  gi_wp2_with fail
  obtain ⟨V, hV⟩ : ∃ V, V = Value.slice a ts.length c := ⟨_, rfl⟩
  refine range_till rfl (by omega) (gf := 43) (lb := #[.pointer (some ⟨w.heap.size + 1, 0, none⟩)]) rfl trivial (enters_of Try.func43 (by kernel_rfl) rfl)
    (spaced1_gives 6 (by omega) w.heap.size _ ts (w.heap.size + 1) w2 hS2 (by omega) hv) (fun k hk => by rcases hk with h | h <;> omega) (fun _ => rfl) (fun pre W => TyI w pre W ∧ Boxed W (w.heap.size + 1) 29 (.slice a ts.length c)) (fun _ _ _ => False) ?clI ?clX ⟨hI0, hS2⟩
    (fun _ W => W) (fun _ W => Below.refl _ W)
    (fun x W0 => { tmps := #[.slice a ts.length c, undef, .string ⟨#[]⟩, .pointer (some ⟨w.heap.size, 0, none⟩), .string x.1, .string x.2, .slice a ts.length c, .func (.func 43) #[] #[.pointer (some ⟨w.heap.size + 1, 0, none⟩)], .string x.1, .string x.2, undef, undef, undef, undef, undef, undef, undef, undef], defers := [] }) ?assign ?body ?done ?stop
  case clI =>
    rintro pre A A' ⟨⟨v, h2, h3, h7⟩, h5⟩ hc
    have K : ∀ {b : Nat} {t : TypeId} {u : Value}, Boxed A b t u → Boxed A' b t u := fun h => hc.block _ _ (.inr ⟨rfl, fun h => h⟩) h
    refine ⟨⟨v, K h2, ⟨h3.1, h3.2.imp id ?_⟩, hc.belowL h7 (by omega) (Nat.le_refl _)⟩, K h5⟩
    rintro ⟨g, cap, cur, rfl, q1, q2, q3⟩
    exact ⟨g, cap, cur, rfl, q1, hc.block _ _ (.inr ⟨rfl, fun h => h⟩) q2, q3⟩
  case clX => exact fun _ _ _ _ h _ => h.elim
  case assign =>
    intro l x W K hK
    simp only [encS] at hK ⊢
    gi_wp2
    exact hK
  case body =>
    rintro l pre x W0 W ⟨⟨v, h2, h3, h7⟩, h5⟩ hpre hsz hcells hW0
    have hle := byL_prefix hpre
    rw [byL_snoc, List.length_append, List.length_append, bsOf_length, bsOf_length] at hle
    have hvne := Lib.hid (fun g (hg : v.ownBlock = some g) => show g ≠ w.heap.size + 1 from fun e => bown_ne h3 h5 (by decide) (e ▸ hg))
    obtain ⟨v1, W1', hr1, hb1, hf1, hb1', ho1, hB1, hK1⟩ := app_step w W v (byL pre) x.1 w2.heap.size h2 h3 h7 (by omega) (by omega)
    have K1 := hK1 (fun k => k < w.heap.size ∨ k = w.heap.size + 1) (fun k h => h) hvne.out
    have h51 : Boxed (W1'.setCell ⟨w.heap.size, 0, none⟩ v1) (w.heap.size + 1) 29 (.slice a ts.length c) := K1.block _ _ (.inl (.inr rfl)) h5
    have hvne1 := Lib.hid (fun g (hg : v1.ownBlock = some g) => show g ≠ w.heap.size + 1 from fun e => bown_ne ho1 h51 (by decide) (e ▸ hg))
    obtain ⟨v2, W2', hr2, hb2, hf2, hb2', ho2, hB2, hK2⟩ := app_step w _ v1 (byL pre ++ bsOf x.1) x.2 w2.heap.size hb1' ho1 hB1 (by rw [List.length_append, bsOf_length]; omega) (by omega)
    have K2 := hK2 (fun k => k < w.heap.size ∨ k = w.heap.size + 1) (fun k h => h) hvne1.out
    have F : Hid (Keep 5 (fun k => k < w.heap.size ∨ k = w.heap.size + 1) w2.heap.size W (W2'.setCell ⟨w.heap.size, 0, none⟩ v2) ∧ TyI w (pre ++ [x]) (W2'.setCell ⟨w.heap.size, 0, none⟩ v2) ∧ Boxed (W2'.setCell ⟨w.heap.size, 0, none⟩ v2) (w.heap.size + 1) 29 (.slice a ts.length c)) :=
      Lib.hid ⟨K1.trans K2, ⟨v2, hb2', by rw [byL_snoc]; exact ho2, hB2⟩, K2.block _ _ (.inl (.inr rfl)) h51⟩
    have c1 := h2.cell
    have d1 := hb1.cell
    have e1 := hb1.frozen
    have c2 := hb1'.cell
    have d2 := hb2.cell
    have e2 := hb2.frozen
    clear h2 h3 h7 h5 hcells hsz hpre hle hb1 ho1 hB1 hK1 h51 K1 hb2 ho2 hB2 hK2 K2 hb1' hb2'
    rcases hf1 with rfl | ⟨g1, n1, cap1, rfl⟩
    all_goals
      rcases hf2 with rfl | ⟨g2, n2, cap2, rfl⟩
      all_goals
        gi_wp2_with (gi_at_builtin; first | refine value_in (fun _ => trivial) rfl (fun c h => by cases h) (exec_append _ _ _ _ rfl rfl rfl hr1) ?_ | refine value_in (fun _ => trivial) rfl (fun c h => by cases h) (exec_append _ _ _ _ rfl rfl rfl hr2) ?_)
        exact F.out
  case done =>
    rintro D W hD ⟨⟨v, h2, h3, h7⟩, h5⟩ hK
    have c2 := h2.cell
    have hdone : Hid (∀ f, f = W.putObj D (.deferred none) → Below w.heap.size w f) := Lib.hid (by rintro f rfl; exact h7.trans (belowK_b (w := w) (Nat.le_refl _) _ D _ _ (by omega) hK rfl rfl))
    rcases bown_form h3 with ⟨rfl, h0⟩ | ⟨g, cap, rfl⟩
    · have q := Go.Lib.run_convert_nil_bytes (P := Try.prog) W 34 9 5 0 rfl rfl rfl
      have hS : Hid (typeS ts = ⟨#[]⟩) := Lib.hid (by unfold typeS; rw [List.length_eq_zero_iff.1 h0])
      gi_wp2
      refine ⟨by simp, .inl ⟨_, _, rfl, run_takeDeferred hK, ?_⟩⟩
      refine ⟨.string ⟨#[]⟩, by simp [results, Try.f14, go_sem], by rw [hS.out], hdone.out _ rfl⟩
    · have q := run_convert_bytes_back (P := Try.prog) W 34 9 5 ⟨g, 0, none⟩ cap (byL (spL bno ts)) rfl rfl rfl (fun j hj => by have e := h3.cellAt j (by omega); have e2 : (⟨g, 0, none⟩ : Addr).add j = ⟨g, j, none⟩ := by { unfold Addr.add; split <;> simp_all }; rw [e2, e]; simp [byC, hj])
      gi_wp2
      refine ⟨by simp, .inl ⟨_, _, rfl, run_takeDeferred hK, ?_⟩⟩
      refine ⟨.string (typeS ts), by simp [results, Try.f14, go_sem, typeS], rfl, hdone.out _ rfl⟩
  case stop =>
    rintro D c pre W hD hpre hf
    exact hf.elim
theorem type_any (v : Value) (ts : List TokD) (w : World) (hv : TokSl w.heap.size w v ts) (hlen : (byL (spL bno ts)).length ≤ 140737488355328) : Calls Try.prog 14 #[v] w (TypePost ts w) := callsIn_wide.1 (type_in v ts w hv hlen)
end Go.Proofs.Ytijipgiclkkfhaa
