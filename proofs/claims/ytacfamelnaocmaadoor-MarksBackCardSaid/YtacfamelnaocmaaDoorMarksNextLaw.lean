/- The law MarksNext's walk. -/
import Derived.Test.YtacfamelnaocmaaDoorMarksAwake
namespace Go.Proofs.YtacfamelnaocmaaDoor
open Go.RowKit Go.Shelf

/-- The value v holds the elements l, in blocks below n₀. -/
def ListAt (n₀ : Nat) (W : World) (v : Value) (l : List Nat) : Prop :=
  ∃ a cap, v = .slice a l.length cap ∧ (0 < l.length → ∃ b off, a = some ⟨b, off, none⟩ ∧ b < n₀ ∧ ∀ (j z : Nat), l[j]? = some z → W.cell? ⟨b, off + j, none⟩ = some (.int .i64 (z : Int)))
theorem listAt_of {n₀ : Nat} {W : World} {v : Value} {l : List Nat} (h : IntSl n₀ W v (l.map fun k : Nat => (k : Int))) : ListAt n₀ W v l := by
  obtain ⟨-, a, cap, rfl, h⟩ := h
  rw [List.length_map] at *
  refine ⟨a, cap, rfl, fun h0 => ?_⟩
  obtain ⟨b, off, rfl, hb, hc⟩ := h h0
  refine ⟨b, off, rfl, hb, fun j z hz => ?_⟩
  have hj : j < l.length := (List.getElem?_eq_some_iff.1 hz).1
  rw [hc j hj, List.getElem?_map, hz]
  rfl

def valI (o : Option Nat) : Value := .int .i64 ((o.getD 0 : Nat) : Int)
def valB (o : Option Nat) : Value := .bool o.isSome
theorem optV_eq (o : Option Nat) : optV o = .tuple #[valI o, valB o] := by cases o <;> rfl

theorem nextOf_first (l : List Nat) : nextOf l (-1) = l[0]? := by
  cases l with
  | nil => rfl
  | cons a l => have : (-1 : Int) < (a : Int) := by omega
                simp [nextOf, this]
theorem nextOf_at {l : List Nat} (hl : l.Pairwise (· < ·)) : ∀ {k z : Nat}, l[k]? = some z → nextOf l (z : Int) = l[k + 1]? := by
  induction l with
  | nil => intro k z h; simp at h
  | cons a l ih =>
    obtain ⟨h1, h2⟩ := List.pairwise_cons.1 hl
    intro k z h
    cases k with
    | zero =>
      simp at h; subst h
      cases l with
      | nil => simp [nextOf]
      | cons b l =>
        have hab : a < b := h1 b (by simp)
        simp [nextOf, hab]
    | succ k =>
      simp at h
      have hz := h1 z (List.mem_of_getElem? h)
      have := ih h2 h
      have haz : ¬ z < a := by omega
      simp only [nextOf, Int.ofNat_lt] at this ⊢
      rw [List.find?_cons]
      simp only [haz, decide_false]
      simpa using this
/-- Where the smallest greater element stands. -/
theorem nextOf_place {l : List Nat} {i : Int} {z : Nat} (h : nextOf l i = some z) : ∃ k : Nat, l[k]? = some z ∧ i < (z : Int) ∧ ∀ (j y : Nat), j < k → l[j]? = some y → (y : Int) ≤ i := by
  unfold nextOf at h
  rw [List.find?_eq_some_iff_append] at h
  obtain ⟨hz, l1, l2, rfl, hn⟩ := h
  refine ⟨l1.length, by simp, by simpa using hz, fun j y hj hy => ?_⟩
  rw [List.getElem?_append_left hj] at hy
  simpa using hn y (List.mem_of_getElem? hy)
theorem nextOf_noplace {l : List Nat} {i : Int} (h : nextOf l i = none) : ∀ j y : Nat, l[j]? = some y → (y : Int) ≤ i := by
  intro j y hy
  unfold nextOf at h
  rw [List.find?_eq_none] at h
  simpa using h y (List.mem_of_getElem? hy)

set_option maxRecDepth 100000 in
set_option maxHeartbeats 2000000 in
theorem nextLaw_any (x i : Int) (h0 : 0 ≤ x) (h1 : x < 18446744073709551616) (w : World) (hT : Tab w) :
    Calls Tryd.prog 5 #[.int .u64 x, .int .i64 i] w fun e w' => e = .returned (.bool true) ∧ Below w.heap.size w w' := by
  have hp := hT.pos
  have hn64 := MM.els_length x.toNat
  have CL := fun w hT => Ex.list_num x h0 h1 w hT
  have CF := fun w hT => first_any x h0 h1 w hT
  have CN := fun w hT => next_any x i h0 h1 w hT
  have CX := fun (k z : Nat) (hz : (MM.els x.toNat)[k]? = some z) w hT => (by
    have := next_any x z h0 h1 w hT
    rw [nextOf_at (MM.els_sorted _) hz, optV_eq] at this
    exact this : Calls Tryd.prog 23 #[.int .u64 x, .int .i64 (z : Int)] w fun e w' => e = .returned (.tuple #[valI (MM.els x.toNat)[k + 1]?, valB (MM.els x.toNat)[k + 1]?]) ∧ Below w.heap.size w w')
  rw [nextOf_first, optV_eq] at CF
  have hno := fun (h : nextOf (MM.els x.toNat) i = none) => nextOf_noplace h
  have hpl := fun (z : Nat) (h : nextOf (MM.els x.toNat) i = some z) => nextOf_place h
  generalize MM.els x.toNat = l at *
  generalize nextOf l i = o at *
  replace CL := Lib.hid CL
  replace CF := Lib.hid CF
  replace CN := Lib.hid CN
  replace CX := Lib.hid CX
  replace hno := Lib.hid hno
  replace hpl := Lib.hid hpl
  go_enter Tryd.func5, Tryd.ntmps5
  go_wp2_with fail
  refine (CL.out _ hT).mono ?_
  rintro e w1 ⟨v, rfl, hv, hB⟩
  go_wp2_with fail
  refine (CF.out _ (hT.below hB hp)).mono ?_
  rintro e w2 ⟨rfl, hb⟩
  obtain ⟨a, cap, rfl, hl⟩ := listAt_of ((hv.below hb).mono hb.size)
  replace hB := hB.trans (hb.mono hB.size)
  clear hb hv
  have hv := Lib.hid hl
  clear hl
  go_wp2
  go_loopw [6, 7, 9, 23] (fun n ok _ ix wr => ∃ k : Nat, k ≤ l.length ∧ ix = .int .i64 k ∧ n = valI l[k]? ∧ ok = valB l[k]? ∧ Below w2.heap.size w2 wr) (fun _ _ _ ix _ => l.length - (intOf ix).toNat)
  case atStart => exact ⟨0, Nat.zero_le _, rfl, rfl, rfl, Below.refl _ _⟩
  case round =>
    obtain ⟨k, hk, rfl, rfl, rfl, hW⟩ := hrel
    by_cases hlt : k < l.length
    · obtain ⟨b, off, rfl, hbn, hc⟩ := hv.out (by omega)
      obtain ⟨z, hz⟩ : ∃ z, l[k]? = some z := ⟨l[k], by simp [hlt]⟩
      have hck := (hW.cell (p := ⟨b, off + k, none⟩) hbn).trans (hc k z hz)
      have hx := Lib.hid (CX.out k z hz wr (hT.below (hB.trans (hW.mono hB.size)) hp))
      rw [hz]
      clear hc hz
      have t0 : ((z : Int) != (z : Int)) = false := by simp
      simp only [valI, valB, Option.getD_some, Option.isSome_some]
      go_wp2_with fail
      refine hx.out.mono ?_
      rintro e w3 ⟨rfl, hb⟩
      go_wp2
      go_roundw
      case rel => exact ⟨k + 1, by omega, by go_num, rfl, rfl, hW.trans (hb.mono hW.size)⟩
      case measure => simp [intOf]; omega
    · obtain rfl : k = l.length := by omega
      rw [show l[l.length]? = none by simp]
      simp only [valI, valB, Option.getD_none, Option.isSome_none]
      replace hB := hB.trans (hW.mono hB.size)
      have hn0 := hW.size
      cases o with
      | none =>
        have hall := Lib.hid (hno.out rfl)
        have CN' := CN.out
        simp only [optV] at CN'
        replace CN' := Lib.hid CN'
        clear hno hpl
        go_wp2_with fail
        refine (CN'.out _ (hT.below hB hp)).mono ?_
        rintro e w3 ⟨rfl, hb⟩
        replace hB := hB.trans (hb.mono hB.size)
        replace hW := hW.trans (hb.mono hW.size)
        clear hb
        go_wp2
        go_loop [13, 50] (fun _ ix => ∃ k : Nat, k ≤ l.length ∧ ix = .int .i64 k) (fun _ ix => l.length - (intOf ix).toNat)
        case atStart => exact ⟨0, Nat.zero_le _, rfl⟩
        case round =>
          obtain ⟨k, hk, rfl⟩ := hrel
          by_cases hlt : k < l.length
          · obtain ⟨b, off, rfl, hbn, hc⟩ := hv.out (by omega)
            obtain ⟨z, hz⟩ : ∃ z, l[k]? = some z := ⟨l[k], by simp [hlt]⟩
            have hck := (hW.cell (p := ⟨b, off + k, none⟩) hbn).trans (hc k z hz)
            have hzi := hall.out k z hz
            clear hc hz
            go_wp2
            go_round
            case rel => exact ⟨k + 1, by omega, by go_num⟩
            case measure => simp [intOf]; omega
          · obtain rfl : k = l.length := by omega
            go_wp2_with fail
            refine (awake_any _ (hT.below hB hp)).mono ?_
            rintro e w4 ⟨rfl, hb⟩
            replace hB := hB.trans (hb.mono hB.size)
            clear hb
            go_wp2
            go_ret
            exact ⟨rfl, hB⟩
      | some z0 =>
        obtain ⟨k0, hz0, hlt0, hbef⟩ := hpl.out z0 rfl
        have hk0 : k0 < l.length := (List.getElem?_eq_some_iff.1 hz0).1
        have Hz0 := Lib.hid hz0
        have Hbef := Lib.hid hbef
        have CN' := CN.out
        simp only [optV] at CN'
        replace CN' := Lib.hid CN'
        clear hno hpl hz0 hbef
        go_wp2_with fail
        refine (CN'.out _ (hT.below hB hp)).mono ?_
        rintro e w3 ⟨rfl, hb⟩
        replace hB := hB.trans (hb.mono hB.size)
        replace hW := hW.trans (hb.mono hW.size)
        clear hb
        go_wp2
        go_loop [13, 50] (fun _ ix => ∃ k : Nat, k ≤ k0 ∧ ix = .int .i64 k) (fun _ ix => l.length - (intOf ix).toNat)
        case atStart => exact ⟨0, Nat.zero_le _, rfl⟩
        case round =>
          obtain ⟨k, hk, rfl⟩ := hrel
          obtain ⟨b, off, rfl, hbn, hc⟩ := hv.out (by omega)
          by_cases hlt : k < k0
          · obtain ⟨z, hz⟩ : ∃ z, l[k]? = some z := ⟨l[k], by simp [show k < l.length by omega]⟩
            have hck := (hW.cell (p := ⟨b, off + k, none⟩) hbn).trans (hc k z hz)
            have hzi := Hbef.out k z hlt hz
            clear hc hz
            go_wp2
            go_round
            case rel => exact ⟨k + 1, by omega, by go_num⟩
            case measure => simp [intOf]; omega
          · obtain rfl : k = k0 := by omega
            have hck := (hW.cell (p := ⟨b, off + k, none⟩) hbn).trans (hc k z0 Hz0.out)
            clear hc
            have t0 : ((z0 : Int) == (z0 : Int)) = true := by simp
            go_wp2_with fail
            refine (awake_any _ (hT.below hB hp)).mono ?_
            rintro e w4 ⟨rfl, hb⟩
            replace hB := hB.trans (hb.mono hB.size)
            clear hb
            go_wp2
            go_ret
            exact ⟨rfl, hB⟩
end Go.Proofs.YtacfamelnaocmaaDoor
