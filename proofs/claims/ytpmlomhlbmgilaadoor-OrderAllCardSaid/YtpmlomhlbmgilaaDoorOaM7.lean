/- OrdAllLaw in one text, for the claim. -/
import Derived.Deep.RegionWith
import Derived.Deep.DeepCutAuto
import Derived.Test.YtpmlomhlbmgilaaDoorOaM2
import Derived.Test.YtpmlomhlbmgilaaDoorOaM1
import Derived.Test.YtpmlomhlbmgilaaDoorOaM5
import Derived.Test.YtpmlomhlbmgilaaDoorOaM6

section
/- The law OrderAll: the walk. -/
namespace Go.Proofs.YtpmlomhlbmgilaaDoor
open Go.RowKit Go.Shelf

attribute [local go_sem] Oper.semAt_some

theorem keep_mem {N : Nat} {F : Nat → Nat} (gR : Rgt N F) (g64 : R64 F) (L : List Nat) : keepB N F (iL L) = decide (L ∈ ordL N F) := by
  rw [Bool.eq_iff_iff, keep_iff gR g64, decide_eq_true_iff, mem_ordL gR]
theorem found_step {l : List (List Nat)} {k : Nat} {x : List Nat} (hx : l[k]? = some x) (L : List Nat) : decide (L ∈ l.take (k + 1)) = (decide (L ∈ l.take k) || decide (x = L)) := by
  have hk := (List.getElem?_eq_some_iff.1 hx).1
  rw [List.take_succ_eq_append_getElem hk, (List.getElem?_eq_some_iff.1 hx).2, Bool.eq_iff_iff]
  simp only [List.mem_append, List.mem_singleton, Bool.or_eq_true, decide_eq_true_eq]
  exact or_congr Iff.rfl eq_comm
theorem sorted_at {l : List (List Nat)} (h : l.Pairwise (fun a b => aheadB a b = true)) {k : Nat} {x y : List Nat} (hx : l[k]? = some x) (hy : l[k + 1]? = some y) : aheadB x y = true := by
  obtain ⟨h1, rfl⟩ := List.getElem?_eq_some_iff.1 hx
  obtain ⟨h2, rfl⟩ := List.getElem?_eq_some_iff.1 hy
  exact List.pairwise_iff_getElem.1 h k (k + 1) h1 h2 (Nat.lt_succ_self k)

set_option maxRecDepth 100000 in
set_option maxHeartbeats 8000000 in
theorem orderAll_law (n : Int) (f : Nat → Nat) (hf : R64 f) (v : Value) (zs : List Int) (hz : ∀ z ∈ zs, 0 ≤ z ∧ z ≤ 255) (w : World) (hs : NumSl .u8 w.heap.size w v zs) (hT : Tab w) :
    Calls Tryd.prog 6 #[.agg (relC n f), v] w fun e w' => e = .returned (.bool true) ∧ Below w.heap.size w w' := by
  obtain ⟨N, hNe, hN6, g64, gR, HFn⟩ := fine_ok n (most := 6) f hf (by omega) (by omega)
  clear hNe
  generalize fineF f N = F at *
  have hN6' : N ≤ 6 := by omega
  have hle := ordL_le gR hN6'
  have HF := Lib.hid HFn
  have CO := Lib.hid (fun W hT => orders_ok N F 720 (by omega) g64 gR hle W hT)
  have hcase : ∃ y : Bool, (topF N F).isSome = y ∧ decide ((ordL N F).length = 0) = !y := by
    refine ⟨_, rfl, ?_⟩
    rcases top_cyc gR with ⟨l, e1, h⟩ | ⟨e1, hc⟩
    · rw [e1]
      have : (ordL N F).length ≠ 0 := fun h0 => (ordL_pos gR).2 (h.acyclic gR) (List.eq_nil_of_length_eq_zero h0)
      simpa using this
    · rw [e1]
      have : ordL N F = [] := Classical.byContradiction fun hn => (ordL_pos gR).1 hn hc
      rw [this]
      rfl
  obtain ⟨y, hy, hlen0⟩ := hcase
  have CA : Hid (∀ W, Tab W → Calls Tryd.prog 48 #[.agg (relC N F)] W fun e w' => e = .returned (.bool y) ∧ Below W.heap.size W w') := Lib.hid (fun W hT => by have := acyclic_any N F W g64 hT; rwa [hy] at this)
  have CM := Lib.hid (fun v W h => mixed_any N (by omega) v zs hz W h)
  have CK := Lib.hid (fun v x W (h : SlI W.heap.size W v x) => by have := keeps_any N F g64 v (iL x) W (ExO.intSl_of h); rw [keep_mem gR g64] at this; exact this)
  have HMem := Lib.hid (fun x => (mem_ordL gR (l := x)))
  have HSort := Lib.hid (ordL_sorted gR)
  have HLen := Lib.hid (fun x (h : x ∈ ordL N F) => ordL_len h)
  have HS := Lib.hid hs
  have hA := RelAt.new w n f
  have l1 := hA.ld
  have hB := below_new w (.cells (relC n f) 26)
  have Aw := Lib.hid (fun W hT => ordAwake_any W hT)
  clear HFn hs hy
  generalize ordL N F = O at *
  go_enter Tryd.func6, Tryd.ntmps6
  go_wp2_with fail
  refine (HF.out _).mono ?_
  rintro e w1 ⟨rfl, h1⟩
  obtain ⟨W1, hs1, hR, hO1⟩ := (hA.on h1).put N F
  have hB1 := below_only (thru hB h1) hO1 (Nat.le_refl _)
  have hX : KS w W1 [(w.heap.size, (N : Int), F)] [] [] := ⟨hB1, fun x hx => by simp at hx; subst hx; exact hR, fun _ h => (by cases h), fun _ h => (by cases h)⟩
  clear l1 hA hB h1 hR hO1 hB1
  have l := (hX.rel (w.heap.size, (N : Int), F) (by simp)).ld
  go_wp2_with fail
  clear l hs1
  refine (CO.out _ (hX.tab hT)).mono ?_
  rintro e w2 ⟨⟨v2, rfl, hv2⟩, hb⟩
  replace hX := (hX.on hb).addLs hv2
  obtain ⟨-, a2, c2, hve, -⟩ := id hv2
  subst hve
  clear hb hv2
  have l := (hX.rel (w.heap.size, (N : Int), F) (by simp)).ld
  go_upto_region 3 with fail
  go_cut [27] (fun v W => v = .bool false ∧ KS w W [(w.heap.size, (N : Int), F)] [] [(.slice a2 O.length c2, O)])
  case first => --LIVE
    have hlen1 : decide ((O.length : Int) = 0) = !y := by rw [← hlen0]; simp
    have hlen2 : ((O.length : Int) == 0) = !y := by rw [← hlen0, Bool.eq_iff_iff]; simp
    cases y
    all_goals
      go_wp2_with fail
      refine (CA.out _ (hX.tab hT)).mono ?_
      rintro e w3 ⟨rfl, h3⟩
      have hX3 := hX.on h3
      clear hX l h3
      go_wp2_with fail
      go_meet
      exact ⟨rfl, hX3⟩
  case rest =>
    clear hX l hlen0 CA
    obtain ⟨rfl, hX⟩ := hcut
    have c0 := (hX.rel (w.heap.size, (N : Int), F) (by simp)).num
    go_wp2_with fail
    refine (CM.out _ _ ((HS.out.below hX.below).mono hX.below.size)).mono ?_
    rintro e w4 ⟨v4, L, rfl, hL, hs4, h4⟩
    have hX4 := (hX.on h4).addSl hs4
    obtain ⟨-, a4, c4, hve4, -⟩ := id hs4
    subst hve4
    have HX := Lib.hid hX4
    replace hL := Lib.hid hL
    clear hX hs4 h4 c0 CM
    go_wp2
    go_loopw [8, 9, 10, 34] (fun fnd _ _ i W => ∃ k : Nat, k ≤ O.length ∧ i = .int .i64 k ∧ fnd = .bool (decide (L ∈ O.take k)) ∧ KS w W [(w.heap.size, (N : Int), F)] [(.slice a4 L.length c4, L)] [(.slice a2 O.length c2, O)]) (fun _ _ _ i _ => O.length - (intOf i).toNat)
    case atStart => exact ⟨0, Nat.zero_le _, rfl, rfl, HX.out⟩
    case round =>
      clear HX
      obtain ⟨k, hk, rfl, rfl, hX⟩ := hrel
      by_cases hlt : k < O.length
      · obtain ⟨x, hx⟩ : ∃ x, O[k]? = some x := ⟨O[k]'hlt, List.getElem?_eq_getElem _⟩
        have hxm := List.mem_of_getElem? hx
        have dxm : decide (x ∈ O) = true := by simpa using hxm
        obtain ⟨-, aL, cL, heL, hLs⟩ := hX.ls (.slice a2 O.length c2, O) (by simp)
        obtain ⟨bl, hal, hbl, hcl⟩ := hLs (show 0 < O.length by omega)
        cases heL
        subst hal
        obtain ⟨u, hu, hsu⟩ := hcl k x hx
        have hfs := Lib.hid (found_step hx L)
        have hlx := HLen.out x hxm
        have l := (hX.rel (w.heap.size, (N : Int), F) (by simp)).ld
        have t1 : decide (k < O.length) = true := by simpa using hlt
        have hprev : Hid (∀ k', k = k' + 1 → ∃ x' u', wr.cell? ⟨bl, k', none⟩ = some u' ∧ SlI wr.heap.size wr u' x' ∧ aheadB x' x = true ∧ x'.length = x.length) := Lib.hid (fun k' e => by
          subst e
          obtain ⟨x', hx'⟩ : ∃ x', O[k']? = some x' := ⟨O[k']'(by omega), List.getElem?_eq_getElem _⟩
          obtain ⟨u', hu', hsu'⟩ := hcl k' x' hx'
          exact ⟨x', u', hu', hsu', sorted_at HSort.out hx' hx, by rw [HLen.out x' (List.mem_of_getElem? hx'), hlx]⟩)
        replace hlx := Lib.hid hlx
        replace hsu := Lib.hid hsu
        replace hX := Lib.hid hX
        clear hcl hLs hx hxm
        go_wp2_with fail
        refine (CK.out _ x _ hsu.out).mono ?_
        rintro e w5 ⟨rfl, h5⟩
        rw [dxm]
        have hX5 := Lib.hid (hX.out.on h5)
        have hsu5 := Lib.hid (hsu.out.on h5)
        have hs5 := Lib.hid (hX5.out.sl (.slice a4 L.length c4, L) (by simp))
        rcases Nat.eq_zero_or_pos k with hk0 | hk0
        · have t2 : decide (0 < k) = false := by simpa using hk0
          replace hk0 := Lib.hid hk0
          go_upto_region 12 with fail
          cases hf0 : decide (L ∈ O.take k) with
          | true =>
            have hv := Lib.hid (show Value.bool true = Value.bool (decide (L ∈ O.take (k + 1))) by rw [hfs.out, hf0]; rfl)
            go_wp2
            go_roundw
            case rel => exact ⟨k + 1, by omega, by go_num, hv.out, hX5.out⟩
            case measure => simp [intOf]; omega
          | false =>
            go_wp2_with fail
            refine (ints_any _ _ x L _ _ (hsu5.out) (hs5.out)).mono ?_
            rintro e w7 ⟨rfl, h7⟩
            have hX7 := Lib.hid (hX5.out.on (h7 _))
            have hv := Lib.hid (show Value.bool (decide (x = L)) = Value.bool (decide (L ∈ O.take (k + 1))) by rw [hfs.out, hf0]; rfl)
            clear h7
            go_wp2
            go_roundw
            case rel => exact ⟨k + 1, by omega, by go_num, hv.out, hX7.out⟩
            case measure => simp [intOf]; omega
        · have t2 : decide (0 < k) = true := by simpa using hk0
          obtain ⟨x', u', hu', hsu', hah, hll⟩ := hprev.out (k - 1) (by omega)
          have cu' := (h5.cell (p := ⟨bl, k - 1, none⟩) hbl).trans hu'
          have hah2 := Lib.hid (ahead_any u' u x' x _ w5 hll (hsu'.on h5) hsu5.out)
          clear hu' hsu' hll
          go_wp2_with fail
          have CAh := hah2.out
          rw [hah] at CAh
          refine CAh.mono ?_
          rintro e w6 ⟨rfl, h6⟩
          have hX6 := Lib.hid (hX5.out.on (h6 _))
          have hsu6 := Lib.hid (hsu5.out.on (h6 _))
          have hs6 := Lib.hid (hs5.out.on (h6 _))
          clear h6 CAh
          go_upto_region 12 with fail
          cases hf0 : decide (L ∈ O.take k) with
          | true =>
            have hv := Lib.hid (show Value.bool true = Value.bool (decide (L ∈ O.take (k + 1))) by rw [hfs.out, hf0]; rfl)
            go_wp2
            go_roundw
            case rel => exact ⟨k + 1, by omega, by go_num, hv.out, hX6.out⟩
            case measure => simp [intOf]; omega
          | false =>
            go_wp2_with fail
            refine (ints_any _ _ x L _ _ (hsu6.out) (hs6.out)).mono ?_
            rintro e w7 ⟨rfl, h7⟩
            have hX7 := Lib.hid (hX6.out.on (h7 _))
            have hv := Lib.hid (show Value.bool (decide (x = L)) = Value.bool (decide (L ∈ O.take (k + 1))) by rw [hfs.out, hf0]; rfl)
            clear h7
            go_wp2
            go_roundw
            case rel => exact ⟨k + 1, by omega, by go_num, hv.out, hX7.out⟩
            case measure => simp [intOf]; omega
      · obtain rfl : k = O.length := by omega
        have t1 : decide (O.length < O.length) = false := by simp
        have l := (hX.rel (w.heap.size, (N : Int), F) (by simp)).ld
        have hs9 := Lib.hid (hX.sl (.slice a4 L.length c4, L) (by simp))
        rw [List.take_length]
        have CKL := Lib.hid (fun v W h => CK.out v L W h)
        generalize decide (L ∈ O) = q at *
        replace hX := Lib.hid hX
        go_wp2_with fail
        refine (CKL.out _ _ hs9.out).mono ?_
        rintro e w5 ⟨rfl, h5⟩
        have hX5 := Lib.hid (hX.out.on h5)
        clear h5 l
        have hqq : (q == q) = true := by simp
        go_wp2_with fail
        refine (Aw.out _ (hX5.out.tab hT)).mono ?_
        rintro e w6 ⟨rfl, h6⟩
        have hB6 := Lib.hid (thru hX5.out.below h6)
        go_wp2_with fail
        go_ret
        exact ⟨rfl, hB6.out⟩
end Go.Proofs.YtpmlomhlbmgilaaDoor
end
