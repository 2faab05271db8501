/- The law MarksTells's walk. -/
import Derived.Test.YtacfamelnaocmaaDoorMarksRef4
import Derived.Test.YtacfamelnaocmaaDoorMarksAllLaw
namespace Go.Proofs.YtacfamelnaocmaaDoor
open Go.RowKit Go.Shelf Go.BigFrame

theorem optV_tuple (o : Option Nat) : ∃ (n : Int) (b : Bool), optV o = .tuple #[.int .i64 n, .bool b] := by
  cases o with
  | none => exact ⟨0, false, rfl⟩
  | some n => exact ⟨n, true, rfl⟩

theorem numSl_nil (q : IntKind) (n : Nat) (w : World) : NumSl q n w (.slice none 0 0) [] := ⟨by simp, none, 0, rfl, fun h => by simp at h⟩

theorem sub_both (x m : Int) (h0 : 0 ≤ x) (h1 : x < 18446744073709551616) (hm0 : -9223372036854775808 ≤ m) :
    ∃ (E : Int) (zs : List Int), 0 ≤ E ∧ E ≤ 5 ∧
      (∀ w, Tab w → Calls Tryd.prog 26 #[.int .u64 x, .int .i64 m] w fun e w' => ∃ v, e = .returned (.tuple #[v, .int .i64 E]) ∧ NumSl .u64 w'.heap.size w' v zs ∧ Below w.heap.size w w') ∧
      (∀ w, Calls Tryd.prog 27 #[.int .u64 x, .int .i64 m] w fun e w' => ∃ v, e = .returned (.tuple #[v, .int .i64 E]) ∧ NumSl .u64 w'.heap.size w' v zs ∧ Below w.heap.size w w') := by
  by_cases hm : m ≤ 65536
  · by_cases hf : ((2 ^ (MM.els x.toNat).length : Nat) : Int) ≤ m
    · have hrow : ∀ (w w' : World) (v : Value), w'.ownsRow w.heap.size 23 1 v (2 ^ (MM.els x.toNat).length) (subsV x.toNat (2 ^ (MM.els x.toNat).length)) →
          NumSl .u64 w'.heap.size w' v ((List.range (2 ^ (MM.els x.toNat).length)).map fun n => (MM.pdep (MM.els x.toNat) n : Int)) := by
        intro w w' v hr
        refine numSl_of_row (e := 23) (base := w.heap.size) ?_ (by rw [List.length_map, List.length_range]; unfold maxLen; omega)
        rw [List.length_map, List.length_range, List.map_map]
        exact hr
      refine ⟨0, (List.range (2 ^ (MM.els x.toNat).length)).map fun n => (MM.pdep (MM.els x.toNat) n : Int), by omega, by omega, fun w hT => ?_, fun w => ?_⟩
      · refine (subsets_ok x m h0 h1 hm _ _ rfl rfl hf w hT).mono ?_
        rintro e w' ⟨v, rfl, hr, hb⟩
        exact ⟨v, rfl, hrow _ _ _ hr, hb⟩
      · refine (refSub_ok x m h0 h1 hm _ _ rfl rfl hf w).mono ?_
        rintro e w' ⟨v, rfl, hr, hb⟩
        exact ⟨v, rfl, hrow _ _ _ hr, hb⟩
    · refine ⟨5, [], by omega, by omega, fun w hT => ?_, fun w => ?_⟩
      · refine (subsets_many x m h0 h1 hm hm0 (by omega) w hT).mono ?_
        rintro e w' ⟨rfl, hb⟩
        exact ⟨_, rfl, numSl_nil _ _ _, hb⟩
      · refine (refSub_many x m h0 h1 hm _ rfl (by omega) w).mono ?_
        rintro e w' ⟨rfl, hb⟩
        exact ⟨_, rfl, numSl_nil _ _ _, hb⟩
  · refine ⟨2, [], by omega, by omega, fun w hT => ?_, fun w => ?_⟩
    · refine (subsets_arg x m (by omega) w).mono ?_
      rintro e w' ⟨rfl, rfl⟩
      exact ⟨_, rfl, numSl_nil _ _ _, Below.refl _ _⟩
    · refine (refSub_arg x m h0 h1 (by omega) w).mono ?_
      rintro e w' ⟨rfl, hb⟩
      exact ⟨_, rfl, numSl_nil _ _ _, hb⟩

theorem of_both (v : Value) (zs : List Int) : ∃ (s E : Int) (b : Bool), (b = true ∧ E = 0 ∨ b = false ∧ E = 2) ∧
    (∀ n₀ w, IntSl n₀ w v zs → Calls Tryd.prog 11 #[v] w fun e w' => e = .returned (.tuple #[.int .u64 s, .int .i64 E]) ∧ w = w') ∧
    (∀ n₀ w, IntSl n₀ w v zs → Calls Tryd.prog 12 #[v] w fun e w' => e = .returned (.tuple #[.int .u64 s, .bool b]) ∧ w = w') := by
  cases hok : okInts zs
  · exact ⟨0, 2, false, .inr ⟨rfl, rfl⟩, fun n w h => of_bad v zs n w h hok, fun n w h => refOf_bad v zs n w h hok⟩
  · exact ⟨setL zs, 0, true, .inl ⟨rfl, rfl⟩, fun n w h => of_good v zs n w h hok, fun n w h => refOf_good v zs n w h hok⟩

set_option maxRecDepth 100000 in
set_option maxHeartbeats 2000000 in
theorem tells_any (x i k m : Int) (v : Value) (zs : List Int) (h0 : 0 ≤ x) (h1 : x < 18446744073709551616) (hm0 : -9223372036854775808 ≤ m) (w : World) (hs : IntSl w.heap.size w v zs) (hT : Tab w) :
    Calls Tryd.prog 3 #[.int .u64 x, .int .i64 i, .int .i64 k, v, .int .i64 m] w fun e w' => e = .returned (.bool true) ∧ Below w.heap.size w w' := by
  have hp := hT.pos
  have hs' := hs
  obtain ⟨hm, av, cv, rfl, -⟩ := hs
  unfold maxLen at hm
  by_cases hbig : 100 < zs.length
  · go_enter Tryd.func3, Tryd.ntmps3
    go_wp2_with fail
    refine (awake_any _ hT).mono ?_
    rintro e w3 ⟨rfl, hb⟩
    go_wp2
    go_ret
    exact ⟨rfl, hb⟩
  · replace hs' := Lib.hid hs'
    obtain ⟨s, E, b, hEb, CO, CR⟩ := of_both (.slice av zs.length cv) zs
    have CA := all_any i
    have CA2 := refAll_any i
    have CL := fun w hT => Ex.list_num x h0 h1 w hT
    have CL2 := fun w => refList_num x h0 h1 w
    have CN := fun w hT => len_any x h0 h1 w hT
    unfold lenOf at CN
    have CK := fun w hT => rank_any x i h0 h1 w hT
    have CK2 := fun w => refRank_any x i h0 h1 w
    have CF := fun w hT => first_any x h0 h1 w hT
    have CF2 := fun w => refNext_any x (-1) h0 h1 w
    have CX := fun w hT => next_any x i h0 h1 w hT
    have CX2 := fun w => refNext_any x i h0 h1 w
    have CP := fun w hT => pick_any x k h0 h1 w hT
    have CP2 := fun w => refPick_any x k h0 h1 w
    obtain ⟨n1, b1, e1⟩ := optV_tuple (nextOf (MM.els x.toNat) (-1))
    obtain ⟨n2, b2, e2⟩ := optV_tuple (nextOf (MM.els x.toNat) i)
    obtain ⟨n3, b3, e3⟩ := optV_tuple (pickOf (MM.els x.toNat) k)
    rw [e1] at CF CF2
    rw [e2] at CX CX2
    rw [e3] at CP CP2
    clear e1 e2 e3
    have hl64 := MM.els_length x.toNat
    generalize rankOf (MM.els x.toNat) i = R at *
    generalize MM.els x.toNat = l at *
    generalize allOf i = A at *
    replace CO := Lib.hid CO
    replace CR := Lib.hid CR
    replace CA := Lib.hid CA
    replace CA2 := Lib.hid CA2
    replace CL := Lib.hid CL
    replace CL2 := Lib.hid CL2
    replace CN := Lib.hid CN
    replace CK := Lib.hid CK
    replace CK2 := Lib.hid CK2
    replace CF := Lib.hid CF
    replace CF2 := Lib.hid CF2
    replace CX := Lib.hid CX
    replace CX2 := Lib.hid CX2
    replace CP := Lib.hid CP
    replace CP2 := Lib.hid CP2
    have ts : (s != s) = false := by simp
    have tA : (A != A) = false := by simp
    have tR : (R != R) = false := by simp
    have tl : ((l.length : Int) != (l.length : Int)) = false := by simp
    have tn1 : (n1 != n1) = false := by simp
    have tn2 : (n2 != n2) = false := by simp
    have tn3 : (n3 != n3) = false := by simp
    have tb1 : (b1 != b1) = false := by simp
    have tb2 : (b2 != b2) = false := by simp
    have tb3 : (b3 != b3) = false := by simp
    obtain ⟨m', hm', hm1⟩ : ∃ m' : Int, -9223372036854775808 ≤ m' ∧ (m ≤ 65536 ∧ m' = min m 4096 ∨ 65536 < m ∧ m' = m) := by
      by_cases h : m ≤ 65536
      · exact ⟨min m 4096, by omega, .inl ⟨h, rfl⟩⟩
      · exact ⟨m, hm0, .inr ⟨by omega, rfl⟩⟩
    obtain ⟨F, ys, hF0, hF1, CS, CS2⟩ := sub_both x m' h0 h1 hm'
    have tF : (F == F) = true := by simp
    replace CS := Lib.hid CS
    replace CS2 := Lib.hid CS2
    rcases hEb with ⟨rfl, rfl⟩ | ⟨rfl, rfl⟩
    all_goals
      go_enter Tryd.func3, Tryd.ntmps3
      go_wp2_with fail
      refine (CO.out _ _ hs'.out).mono ?_
      rintro e w1 ⟨rfl, rfl⟩
      go_wp2_with fail
      refine (CR.out _ _ hs'.out).mono ?_
      rintro e w1 ⟨rfl, rfl⟩
      go_wp2_with fail
      refine (CA.out _).mono ?_
      rintro e w1 ⟨rfl, rfl⟩
      go_wp2_with fail
      refine (CA2.out _).mono ?_
      rintro e w1 ⟨rfl, rfl⟩
      go_wp2_with fail
      refine (CL.out _ hT).mono ?_
      rintro e w1 ⟨v1, rfl, hv1, hB⟩
      replace hv1 := Lib.hid hv1
      go_wp2_with fail
      refine (CL2.out _).mono ?_
      rintro e w2 ⟨v2, rfl, hv2, hb⟩
      replace hv1 := Lib.hid ((hv1.out.below hb).mono hb.size)
      replace hv2 := Lib.hid hv2
      replace hB := hB.trans (hb.mono hB.size)
      clear hb
      go_wp2_with fail
      refine (ints_same _ _ _ _ _ hv1.out hv2.out).mono ?_
      rintro e w3 ⟨rfl, hb⟩
      replace hB := hB.trans (hb _)
      clear hb hv1 hv2
      go_wp2_with fail
      refine (CN.out _ (hT.below hB hp)).mono ?_
      rintro e w4 ⟨rfl, hb⟩
      replace hB := hB.trans (hb.mono hB.size)
      clear hb
      go_wp2_with fail
      refine (CL2.out _).mono ?_
      rintro e w5 ⟨v5, rfl, hv5, hb⟩
      obtain ⟨-, a5, c5, rfl, -⟩ := hv5
      rw [List.length_map]
      replace hB := hB.trans (hb.mono hB.size)
      clear hb
      go_wp2_with fail
      refine (CK.out _ (hT.below hB hp)).mono ?_
      rintro e w6 ⟨rfl, hb⟩
      replace hB := hB.trans (hb.mono hB.size)
      clear hb
      go_wp2_with fail
      refine (CK2.out _).mono ?_
      rintro e w7 ⟨rfl, rfl⟩
      go_wp2_with fail
      refine (CF.out _ (hT.below hB hp)).mono ?_
      rintro e w7 ⟨rfl, hb⟩
      replace hB := hB.trans (hb.mono hB.size)
      clear hb
      go_wp2_with fail
      refine (CF2.out _).mono ?_
      rintro e w8 ⟨rfl, rfl⟩
      go_wp2_with fail
      refine (CX.out _ (hT.below hB hp)).mono ?_
      rintro e w8 ⟨rfl, hb⟩
      replace hB := hB.trans (hb.mono hB.size)
      clear hb
      go_wp2_with fail
      refine (CX2.out _).mono ?_
      rintro e w9 ⟨rfl, rfl⟩
      go_wp2_with fail
      refine (CP.out _ (hT.below hB hp)).mono ?_
      rintro e w9 ⟨rfl, hb⟩
      replace hB := hB.trans (hb.mono hB.size)
      clear hb
      go_wp2_with fail
      refine (CP2.out _).mono ?_
      rintro e w10 ⟨rfl, hb⟩
      replace hB := hB.trans (hb.mono hB.size)
      clear hb
      rcases hm1 with ⟨hmm, rfl⟩ | ⟨hmm, rfl⟩
      all_goals
        go_wp2_with fail
        refine (CS.out _ (hT.below hB hp)).mono ?_
        rintro e w11 ⟨v1, rfl, hv1, hb⟩
        replace hB := hB.trans (hb.mono hB.size)
        clear hb
        replace hv1 := Lib.hid hv1
        go_wp2_with fail
        refine (CS2.out _).mono ?_
        rintro e w12 ⟨v2, rfl, hv2, hb⟩
        replace hv1 := Lib.hid ((hv1.out.below hb).mono hb.size)
        replace hv2 := Lib.hid hv2
        replace hB := hB.trans (hb.mono hB.size)
        clear hb
        go_wp2_with fail
        refine (sets_same _ _ _ _ _ hv1.out hv2.out).mono ?_
        rintro e w13 ⟨rfl, hb⟩
        replace hB := hB.trans (hb _)
        clear hb hv1 hv2
        go_wp2_with fail
        refine (awake_any _ (hT.below hB hp)).mono ?_
        rintro e w14 ⟨rfl, hb⟩
        replace hB := hB.trans (hb.mono hB.size)
        clear hb
        go_wp2
        go_ret
        exact ⟨rfl, hB⟩
end Go.Proofs.YtacfamelnaocmaaDoor
