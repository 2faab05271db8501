/- The law MarksBack's walk. -/
import Derived.Test.YtacfamelnaocmaaDoorMarksRankLaw
import Derived.Test.YtacfamelnaocmaaDoorMarksNextLaw
namespace Go.Proofs.YtacfamelnaocmaaDoor
open Go.RowKit Go.Shelf
namespace MM
theorem setL_bit (l : List Nat) (j : Nat) : (setL (l.map fun k : Nat => (k : Int))).toNat.testBit j = decide (j ∈ l) := by
  suffices h : ∀ (l : List Nat) (s : Nat), ((l.map fun k : Nat => (k : Int)).foldl (fun (s : Nat) z => s ||| 2 ^ z.toNat) s).testBit j = (s.testBit j || decide (j ∈ l)) by
    have := h l 0
    unfold setL
    rw [Int.toNat_natCast, this]
    simp
  intro l
  induction l with
  | nil => intro s; simp
  | cons a l ih =>
    intro s
    rw [List.map_cons, List.foldl_cons, ih, Nat.testBit_or, Int.toNat_natCast, Nat.testBit_two_pow]
    by_cases h : a = j
    · simp [h]
    · have : j ≠ a := fun e => h e.symm
      simp [h, this]
theorem setL_els (x : Int) (h0 : 0 ≤ x) (h1 : x < 18446744073709551616) : setL ((els x.toNat).map fun k : Nat => (k : Int)) = x := by
  have h : (setL ((els x.toNat).map fun k : Nat => (k : Int))).toNat = x.toNat := by
    apply Nat.eq_of_testBit_eq
    intro j
    rw [setL_bit]
    by_cases hm : j ∈ els x.toNat
    · simp [hm, (mem_els.1 hm).2]
    · by_cases hj : j < 64
      · cases hb : x.toNat.testBit j
        · simp [hm]
        · exact absurd (mem_els.2 ⟨hj, hb⟩) hm
      · have hx : x.toNat < 2 ^ 64 := by omega
        rw [Nat.testBit_lt_two_pow (Nat.lt_of_lt_of_le hx (Nat.pow_le_pow_right (by omega) (by omega)))]
        simp [hm]
  have := setL_nonneg ((els x.toNat).map fun k : Nat => (k : Int))
  omega
theorem ok_els (x : Nat) : okInts ((els x).map fun k : Nat => (k : Int)) = true := by
  unfold okInts
  rw [List.all_eq_true]
  intro z hz
  obtain ⟨k, hk, rfl⟩ := List.mem_map.1 hz
  have := els_lt hk
  simp; omega
theorem ok_mod (bs : List Int) (h : ∀ z ∈ bs, 0 ≤ z) : okInts (bs.map (· % 64)) = true := by
  unfold okInts
  rw [List.all_eq_true]
  intro z hz
  obtain ⟨b, hb, rfl⟩ := List.mem_map.1 hz
  have := h b hb
  simp; omega
end MM

set_option maxRecDepth 100000 in
set_option maxHeartbeats 4000000 in
theorem backLaw_any (x : Int) (h0 : 0 ≤ x) (h1 : x < 18446744073709551616) (v : Value) (bs : List Int) (w : World) (hs : NumSl .u8 w.heap.size w v bs) (hw : ∀ z ∈ bs, 0 ≤ z ∧ z ≤ 255) (hT : Tab w) :
    Calls Tryd.prog 4 #[.int .u64 x, v] w fun e w' => e = .returned (.bool true) ∧ Below w.heap.size w w' := by
  have hp := hT.pos
  have hn64 := MM.els_length x.toNat
  obtain ⟨i0, hi, hz0, hz1, hz2⟩ := info_parts infoInt
  have CL := Lib.hid (fun w hT => Ex.list_num x h0 h1 w hT)
  have CO := Lib.hid (fun v n₀ w hs => of_good v ((MM.els x.toNat).map fun k : Nat => (k : Int)) n₀ w hs (MM.ok_els _))
  rw [MM.setL_els x h0 h1] at CO
  have CN := Lib.hid (fun w hT => len_any x h0 h1 w hT)
  have hbits := Lib.hid (fun (k z : Nat) (hz : (MM.els x.toNat)[k]? = some z) => (by
    have := bit_eq x z h0 h1
    rwa [Int.toNat_natCast, if_pos (MM.mem_els.1 (List.mem_of_getElem? hz)).2] at this : bits BinOp.and IntKind.u64 (x / 2 ^ z) 1 = 1))
  have hlt64 := Lib.hid (fun (k z : Nat) (hz : (MM.els x.toNat)[k]? = some z) => MM.els_lt (List.mem_of_getElem? hz))
  have hsort := Lib.hid (fun (k z y : Nat) (hk : 0 < k) (hz : (MM.els x.toNat)[k]? = some z) (hy : (MM.els x.toNat)[k - 1]? = some y) => (by
    obtain ⟨a1, e1⟩ := List.getElem?_eq_some_iff.1 hz
    obtain ⟨a2, e2⟩ := List.getElem?_eq_some_iff.1 hy
    have := List.pairwise_iff_getElem.1 (MM.els_sorted x.toNat) (k - 1) k a2 a1 (by omega)
    rw [e1, e2] at this
    exact this : y < z))
  obtain ⟨hm, av, cv, rfl, hcs⟩ := hs
  unfold maxLen at hm
  replace hcs := Lib.hid hcs
  replace hw := Lib.hid hw
  unfold lenOf at CN
  generalize MM.els x.toNat = l at *
  go_enter Tryd.func4, Tryd.ntmps4
  go_wp2_with fail
  refine (CL.out _ hT).mono ?_
  rintro e w1 ⟨v, rfl, hv, hB⟩
  obtain ⟨a, cap, rfl, hl⟩ := listAt_of hv
  go_wp2_with fail
  refine (CO.out _ _ _ (by exact hv)).mono ?_
  rintro e w2 ⟨rfl, rfl⟩
  clear hv
  have hv := Lib.hid hl
  clear hl
  have tx : (x != x) = false := by simp
  have tl : ((l.length : Int) != (l.length : Int)) = false := by simp
  have txe : (x == x) = true := by simp
  go_wp2_with fail
  refine (CN.out _ (hT.below hB hp)).mono ?_
  rintro e w3 ⟨rfl, hb⟩
  replace hB := hB.trans (hb.mono hB.size)
  have hW := hb
  clear hb
  by_cases hbig : 100 < bs.length
  · go_wp2_with fail
    refine (awake_any _ (hT.below hB hp)).mono ?_
    rintro e w4 ⟨rfl, hb⟩
    replace hB := hB.trans (hb.mono hB.size)
    clear hb
    go_wp2
    go_ret
    exact ⟨rfl, hB⟩
  · go_wp2
    go_loop [8, 9, 59] (fun _ _ ix => ∃ k : Nat, k ≤ l.length ∧ ix = .int .i64 k) (fun _ _ ix => l.length - (intOf ix).toNat)
    case atStart => exact ⟨0, Nat.zero_le _, rfl⟩
    case round =>
      obtain ⟨k, hk, rfl⟩ := hrel
      by_cases hlt : k < l.length
      · obtain ⟨b, off, rfl, hbn, hc⟩ := hv.out (by omega)
        obtain ⟨z, hz⟩ : ∃ z, l[k]? = some z := ⟨l[k], by simp [hlt]⟩
        have hck := (hW.cell (p := ⟨b, off + k, none⟩) hbn).trans (hc k z hz)
        have hz64 := hlt64.out k z hz
        have hbit := hbits.out k z hz
        have t0 : decide ((z : Int) < 0) = false := by simp
        have t1 : decide (63 < z) = false := by simp; omega
        have t4 : decide (63 < (z : Int)) = false := by simp; omega
        by_cases hk0 : 0 < k
        · obtain ⟨y, hy⟩ : ∃ y, l[k - 1]? = some y := ⟨l[k - 1], by simp [show k - 1 < l.length by omega]⟩
          have hck1 := (hW.cell (p := ⟨b, off + (k - 1), none⟩) hbn).trans (hc (k - 1) y hy)
          have hyz := hsort.out k z y hk0 hz hy
          have t2 : decide (0 < k) = true := by simpa using hk0
          have t3 : decide (z ≤ y) = false := by simp; omega
          clear hc hz hy
          go_wp2
          go_round
          case rel => exact ⟨k + 1, by omega, by go_num⟩
          case measure => simp [intOf]; omega
        · have t2 : decide (0 < k) = false := by simpa using hk0
          clear hc hz
          go_wp2
          go_round
          case rel => exact ⟨k + 1, by omega, by go_num⟩
          case measure => simp [intOf]; omega
      · obtain rfl : k = l.length := by omega
        go_wp2
        clear hW hv
        have hb0 := hB.size
        go_loopw [10, 11, 13, 93] (fun v s _ ix wr => ∃ k : Nat, k ≤ bs.length ∧ ix = .int .i64 k ∧ s = .int .u64 (setL ((bs.map (· % 64)).take k)) ∧ wr.ownsRow w3.heap.size 3 1 v k (((bs.map (· % 64)).take k).map (Value.int .i64)) ∧ Below w3.heap.size w3 wr) (fun _ _ _ ix _ => bs.length - (intOf ix).toNat)
        case atStart => exact ⟨0, Nat.zero_le _, rfl, rfl, World.ownsRow_nil _ _ _ _, Below.refl _ _⟩
        case round =>
          obtain ⟨k, hk, rfl, rfl, hrow, hW⟩ := hrel
          obtain ⟨a0, c0, hv0⟩ := ownsRow_slice hrow
          subst hv0
          by_cases hlt : k < bs.length
          · obtain ⟨b, off, rfl, hbn, hc⟩ := hcs.out (by omega)
            have hck := ((hB.trans (hW.mono hb0)).cell (p := ⟨b, off + k, none⟩) hbn).trans (hc k hlt)
            have hz := hw.out (bs[k]?.getD 0) (by simp [hlt])
            have ht := take_snoc (bs.map (· % 64)) k (by simpa using hlt)
            have hms : (bs.map (· % 64))[k]?.getD 0 = bs[k]?.getD 0 % 64 := by simp [hlt]
            rw [hms] at ht
            have hst := setL_step ((bs.map (· % 64)).take k) (okInts_take (MM.ok_mod bs (fun z hz => (hw.out z hz).1)) k) (bs[k]?.getD 0 % 64) (by omega) (by omega)
            rw [← ht] at hst
            generalize bs[k]?.getD 0 = z at hck ht hz hst
            obtain ⟨z0, z1⟩ := hz
            obtain ⟨m, hm'⟩ : ∃ m, z % 64 = m := ⟨_, rfl⟩
            rw [hm'] at ht hst
            have m0 : 0 ≤ m := by omega
            have m1 : m < 64 := by omega
            have Hst := Lib.hid hst
            have Ht := Lib.hid ht
            have hsz := hW.size
            clear hc ht hst hms
            go_wp2_with (at_builtin; refine wpList_append_own _ rfl _ _ 24 rfl w3.heap.size 3 i0 (.int .i64 0) 1 8 Tryd.underlying24 hi hz0 hz1 hz2 rfl (by decide) _ _ _ rfl (hrow.alloc _) ⟨wr.heap.size, 0, none⟩ 1 1 [.int .i64 m] rfl rfl (cell_one_new _ _ _) (by intro u hu; simp at hu; subst hu; rfl) (by unfold maxLen; omega) (by omega) (by simp; omega) ?_; intro v1 w5 hown1 hgrow1 _)
            go_roundw
            case rel =>
              refine ⟨k + 1, by omega, by go_num, by rw [Hst.out], ?_, (hW.alloc hsz _).grown hgrow1 (by simp; omega) (fun j hj => (hrow.lt j hj).1)⟩
              rw [Ht.out, List.map_append]
              exact hown1
            case measure => simp [intOf]; omega
          · obtain rfl : k = bs.length := by omega
            rw [List.take_of_length_le (by simp)] at hrow ⊢
            have hN := numSl_of_row (q := .i64) (zs := bs.map (· % 64)) (by rw [List.length_map]; exact hrow) (by rw [List.length_map]; unfold maxLen; omega)
            have hok := MM.ok_mod bs (fun z hz => (hw.out z hz).1)
            have CO2 := of_good _ _ _ _ hN hok
            replace CO2 := Lib.hid CO2
            replace hB := hB.trans (hW.mono hb0)
            clear hN hok
            generalize setL (bs.map (· % 64)) = s at *
            have ts : (s == s) = true := by simp
            go_wp2_with fail
            refine CO2.out.mono ?_
            rintro e w6 ⟨rfl, rfl⟩
            go_wp2_with fail
            refine (awake_any _ (hT.below hB hp)).mono ?_
            rintro e w7 ⟨rfl, hb⟩
            replace hB := hB.trans (hb.mono hB.size)
            clear hb
            go_wp2
            go_ret
            exact ⟨rfl, hB⟩
end Go.Proofs.YtacfamelnaocmaaDoor
