/- ParJoinsSaid in one text, for the claim. -/
import Derived.Test.YtglbmiadgdadfaaLaw
import Derived.Test.YtglbmiadgdadfaaPj13
import Derived.Test.YtglbmiadgdadfaaPj11
import Derived.Test.YtglbmiadgdadfaaRows
import Derived.ChangeSlices
import Derived.SliceStrings
import Derived.HandedShaped

section
/- The law ParseJoins returns true for any two strings and any locations and leaves all that lay before as it was. -/
namespace Go.Proofs.Ytglbmiadgdadfaa.lawParseJoins
open Go.ChangeShapes Go.WideShapes Go.ChangeAt Go.RowKit

theorem own : ownKnob Try.prog.godebug = none := by kernel_rfl
theorem laidOut : laidOutB Try.prog = true := by kernel_rfl
set_option maxRecDepth 100000 in
theorem lifted (os : Os) (started : os.Started) (H : Type) (enc : TypeId × Value → H) :
    ReturnsInHanded {} Try.checked os 4 .any (Rows.parseJoinsSpec.pre6 enc Try.prog Try.f4 Rows.parseJoinsRow.domain false) (Rows.parseJoinsSpec.post enc Try.prog Try.f4 false true false false) := by
  refine returnsInHanded_of_change_shaped (C := Try.checked) own started (by kernel_rfl) Try.func4
    (ChangeSpec.witness6 (enc := enc) (C := Try.checked) false ⟨#[], #[.string ⟨#[]⟩, .string ⟨#[]⟩, .slice none 0 0], []⟩ 8 (by kernel_rfl) (by kernel_rfl) (by kernel_rfl) (by kernel_rfl)) ?_
  intro W base args ds gs before hval0 hW _ hz _ _
  have hval : ∀ (j : Nat) t v, Try.f4.params[j]? = some t → args[j]? = some v → Value.okWide Try.prog W .any base t v := hval0
  have hW' := hW
  obtain ⟨p, q, hA0, hV, rfl, hfz, hnd⟩ := hW
  have hA : DataW.TrodAll enc Try.prog W 0 (fun _ => true) true Try.f4.params.toList args.toList ds p := hA0
  rw [Try.params4] at hA hval hz
  obtain ⟨v0, vs0, d0, ds0, p0, q0, hargs, rfl, rfl, h0, r0⟩ := trodAll_cons hA
  obtain ⟨v1, vs1, d1, ds1, p1, q1, rfl, rfl, rfl, h1, r1⟩ := trodAll_cons r0
  obtain ⟨v2, vs2, d2, ds2, p2, q2, rfl, rfl, rfl, h2, r2⟩ := trodAll_cons r1
  obtain ⟨rfl, rfl, rfl⟩ := trodAll_nil r2
  obtain rfl : args = #[v0, v1, v2] := by cases args; simp_all
  obtain ⟨a, rfl, hd0, hp0, ma⟩ := Go.ChangeMaps.open_string Try.underlying9 (hval 0 9 v0 rfl rfl) h0
  obtain ⟨b, rfl, hd1, hp1, mb⟩ := Go.ChangeMaps.open_string Try.underlying9 (hval 1 9 v1 rfl rfl) h1
  obtain ⟨l, hl⟩ := strsArg (hval 2 29 v2 rfl rfl) h2
  have ha : a.size ≤ reachBytes := by
    have := List.all_eq_true.1 hz a.size (DataW.weights_mem_each (j := 0) (t := 9) (d := d0) rfl rfl a.size (by rw [hd0]; simp [DataW.weights, Try.underlying9]))
    simpa using this
  have hb : b.size ≤ reachBytes := by
    have := List.all_eq_true.1 hz b.size (DataW.weights_mem_each (j := 1) (t := 9) (d := d1) rfl rfl b.size (by rw [hd1]; simp [DataW.weights, Try.underlying9]))
    simpa using this
  unfold reachBytes at ha hb
  refine (PP.joins_law a b l v2 W hl (by omega) (by omega)).mono fun e W' ⟨he, hb⟩ => ?_
  subst he
  exact ⟨_, rfl, law_post laidOut (by rw [Try.params4]; decide +kernel) rfl 4 (by kernel_rfl) Try.underlying4 rfl hW' hb⟩

set_option maxRecDepth 100000 in
theorem said : Rows.ParseJoinsSaid :=
  OpenClaim.holds_of_wide 4 Try.f4 rfl rfl rfl rfl rfl rfl rfl ⟨rfl, rfl, rfl, rfl, rfl⟩ rfl rfl rfl rfl rfl (by kernel_rfl) Try.func4 (by kernel_rfl)
    (of_decide_eq_true (by kernel_rfl)) (by unfold Func.isWrapper; first | (rw [if_pos (by decide +kernel)]; kernel_rfl) | (rw [if_neg (by decide +kernel)]; exact ⟨rfl, rfl⟩))
    (fun os started H enc _ => lifted os started H enc)
end Go.Proofs.Ytglbmiadgdadfaa.lawParseJoins
end
