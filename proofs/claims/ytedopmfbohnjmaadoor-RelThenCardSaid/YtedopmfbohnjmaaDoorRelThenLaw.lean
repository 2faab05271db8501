/- The law of composition: the walk. -/
import Derived.Deep.RegionWith
import Derived.Deep.QuietTactic
import Derived.Deep.DeepCutAuto
import Derived.Test.YtedopmfbohnjmaaDoorRelFine
namespace Go.Proofs.YtedopmfbohnjmaaDoor
open Go.RowKit Go.Shelf Go.BigFrame

attribute [local go_sem] Oper.semAt_some

theorem then_assoc {N : Nat} {f g h : Nat → Nat} (hf : Rgt N f) (hg : Rgt N g) : relB N N (thenF (thenF f g) h) (thenF f (thenF g h)) = true :=
  relB_bits fun i j hi => by
    have hfg : ∀ k, Bt (thenF f g) i k ↔ ∃ m, m < 48 ∧ Bt f i m ∧ Bt g m k := fun k => bt_then hf hi
    have hl : Bt (thenF (thenF f g) h) i j ↔ ∃ k, k < 48 ∧ Bt (thenF f g) i k ∧ Bt h k j := by
      have e : Bt (thenF (thenF f g) h) i j ↔ ∃ k, k < 64 ∧ Bt (thenF f g) i k ∧ Bt h k j := bt_img
      rw [e]
      constructor
      · rintro ⟨k, _, h1, h2⟩
        obtain ⟨m, hm, h3, h4⟩ := (hfg k).1 h1
        exact ⟨k, hg.snd48 hm h4, h1, h2⟩
      · rintro ⟨k, hk, h1, h2⟩
        exact ⟨k, by omega, h1, h2⟩
    rw [hl, bt_then hf hi]
    constructor
    · rintro ⟨k, hk, h1, h2⟩
      obtain ⟨m, hm, h3, h4⟩ := (hfg k).1 h1
      exact ⟨m, hm, h3, (bt_then hg hm).2 ⟨k, hk, h4, h2⟩⟩
    · rintro ⟨m, hm, h1, h2⟩
      obtain ⟨k, hk, h3, h4⟩ := (bt_then hg hm).1 h2
      exact ⟨k, hk, (hfg k).2 ⟨m, hm, h1, h3⟩, h4⟩
theorem then_union {N : Nat} {f g h : Nat → Nat} (hf : Rgt N f) : relB N N (thenF f (unionF g h)) (unionF (thenF f g) (thenF f h)) = true :=
  relB_bits fun i j hi => by
    rw [bt_union, bt_then hf hi, bt_then hf hi, bt_then hf hi]
    constructor
    · rintro ⟨k, hk, h1, h2⟩
      rcases (bt_union g h k j).1 h2 with h2 | h2
      · exact .inl ⟨k, hk, h1, h2⟩
      · exact .inr ⟨k, hk, h1, h2⟩
    · rintro (⟨k, hk, h1, h2⟩ | ⟨k, hk, h1, h2⟩)
      · exact ⟨k, hk, h1, (bt_union g h k j).2 (.inl h2)⟩
      · exact ⟨k, hk, h1, (bt_union g h k j).2 (.inr h2)⟩
theorem then_back {N : Nat} {f g : Nat → Nat} (hf : Rgt N f) (hg : Rgt N g) : relB N N (backF N (thenF f g)) (thenF (backF N g) (backF N f)) = true :=
  relB_bits fun j i hj => by
    rw [bt_back (rgt_then hf hg) hj, bt_then (rgt_back hg) hj]
    constructor
    · rintro ⟨hi, h⟩
      obtain ⟨k, hk, h1, h2⟩ := (bt_then hf hi).1 h
      exact ⟨k, hk, (bt_back hg hj).2 ⟨hk, h2⟩, (bt_back hf hk).2 ⟨hi, h1⟩⟩
    · rintro ⟨k, hk, h1, h2⟩
      obtain ⟨_, h1⟩ := (bt_back hg hj).1 h1
      obtain ⟨hi, h2⟩ := (bt_back hf hk).1 h2
      exact ⟨hi, (bt_then hf hi).2 ⟨k, hk, h2, h1⟩⟩
theorem back_back {N : Nat} {f : Nat → Nat} (hf : Rgt N f) : relB N N (backF N (backF N f)) f = true :=
  relB_bits fun i j hi => by
    rw [bt_back (rgt_back hf) hi]
    constructor
    · rintro ⟨hj, h⟩
      exact ((bt_back hf hj).1 h).2
    · intro h
      have hj := hf.snd48 hi h
      exact ⟨hj, (bt_back hf hj).2 ⟨hi, h⟩⟩
/-- The identity on all items. -/
def fullF (N : Nat) : Nat → Nat := cutF N (idF 18446744073709551615)
theorem bt_full {N i j : Nat} (h : N ≤ 48) : Bt (fullF N) i j ↔ i < N ∧ i = j := by
  unfold Bt fullF cutF
  by_cases hi : (i : Int) < N
  · rw [if_pos hi]
    have hb : Nat.testBit 18446744073709551615 i = true := by
      rw [show (18446744073709551615 : Nat) = 2 ^ 64 - 1 by rfl, Nat.testBit_two_pow_sub_one]
      simp; omega
    unfold idF
    simp only [hb]
    rw [if_pos trivial, Nat.testBit_two_pow, decide_eq_true_iff]
    omega
  · rw [if_neg hi]
    simp
    omega
theorem rgt_full {N : Nat} (h : N ≤ 48) : Rgt N (fullF N) := rgt_iff.2 ⟨h, fun i _ j hb => by have := (bt_full h).1 hb; omega⟩
theorem full_64 {N : Nat} (h : N ≤ 48) : R64 (fullF N) := fun i => by
  apply lt_of_bits
  intro j hb
  have := (bt_full h).1 (show Bt (fullF N) i j from hb)
  omega
theorem id_ok {N : Nat} (h : N ≤ 48) (w : World) :
    Calls Tryd.prog 16 #[.int .i64 N, .int .u64 18446744073709551615] w fun e w' => e = .returned (.agg (relC N (fullF N))) ∧ Below w.heap.size w w' := by
  have := id_any N 18446744073709551615 (by decide) w
  rw [show sizedB (N : Int) = true from sizedB_iff.2 ⟨by omega, by omega⟩] at this
  exact this.mono fun e w' he => ⟨he.1, he.2⟩
theorem then_full {N : Nat} {f : Nat → Nat} (hf : Rgt N f) : relB N N (thenF f (fullF N)) f = true :=
  relB_bits fun i j hi => by
    rw [bt_then hf hi]
    constructor
    · rintro ⟨k, hk, h1, h2⟩
      obtain ⟨_, rfl⟩ := (bt_full hf.le).1 h2
      exact h1
    · intro h
      exact ⟨j, hf.snd48 hi h, h, (bt_full hf.le).2 ⟨hf.snd hi h, rfl⟩⟩

set_option maxRecDepth 100000 in
set_option maxHeartbeats 8000000 in
theorem then_law (na nb nc : Int) (fa fb fc : Nat → Nat) (ha : R64 fa) (hb : R64 fb) (hc : R64 fc) (w : World) (hT : Tab w) :
    Calls Tryd.prog 7 #[.agg (relC na fa), .agg (relC nb fb), .agg (relC nc fc)] w fun e w' => e = .returned (.bool true) ∧ Below w.heap.size w w' := by
  have hp := hT.pos
  obtain ⟨N, -, hN20, A64, Ar, HA⟩ := fine_ok na (most := 20) fa ha (by decide) (by decide)
  obtain ⟨B64, Br, HB⟩ := fine_keep N (most := 20) fb hb hN20 (by decide)
  obtain ⟨C64, Cr, HC⟩ := fine_keep N (most := 20) fc hc hN20 (by decide)
  generalize fineF fa N = A at *
  generalize fineF fb N = B at *
  generalize fineF fc N = C at *
  have hN48 : N ≤ 48 := by omega
  obtain ⟨AB, hAB⟩ : ∃ F, F = thenF A B := ⟨_, rfl⟩
  have AB64 : R64 AB := by rw [hAB]; exact thenF_64 _ B64
  have ABr : Rgt N AB := by rw [hAB]; exact rgt_then Ar Br
  obtain ⟨BC, hBC⟩ : ∃ F, F = thenF B C := ⟨_, rfl⟩
  have BC64 : R64 BC := by rw [hBC]; exact thenF_64 _ C64
  have BCr : Rgt N BC := by rw [hBC]; exact rgt_then Br Cr
  obtain ⟨XL, hXL⟩ : ∃ F, F = thenF AB C := ⟨_, rfl⟩
  have XL64 : R64 XL := by rw [hXL]; exact thenF_64 _ C64
  have XLr : Rgt N XL := by rw [hXL]; exact rgt_then ABr Cr
  obtain ⟨XR, hXR⟩ : ∃ F, F = thenF A BC := ⟨_, rfl⟩
  have XR64 : R64 XR := by rw [hXR]; exact thenF_64 _ BC64
  have XRr : Rgt N XR := by rw [hXR]; exact rgt_then Ar BCr
  obtain ⟨UU, hUU⟩ : ∃ F, F = unionF B C := ⟨_, rfl⟩
  have UU64 : R64 UU := by rw [hUU]; exact union_64 B64 C64
  have UUr : Rgt N UU := by rw [hUU]; exact rgt_union Br Cr
  obtain ⟨AU, hAU⟩ : ∃ F, F = thenF A UU := ⟨_, rfl⟩
  have AU64 : R64 AU := by rw [hAU]; exact thenF_64 _ UU64
  have AUr : Rgt N AU := by rw [hAU]; exact rgt_then Ar UUr
  obtain ⟨AC, hAC⟩ : ∃ F, F = thenF A C := ⟨_, rfl⟩
  have AC64 : R64 AC := by rw [hAC]; exact thenF_64 _ C64
  have ACr : Rgt N AC := by rw [hAC]; exact rgt_then Ar Cr
  obtain ⟨BO, hBO⟩ : ∃ F, F = unionF AB AC := ⟨_, rfl⟩
  have BO64 : R64 BO := by rw [hBO]; exact union_64 AB64 AC64
  have BOr : Rgt N BO := by rw [hBO]; exact rgt_union ABr ACr
  obtain ⟨TB, hTB⟩ : ∃ F, F = backF N B := ⟨_, rfl⟩
  have TB64 : R64 TB := by rw [hTB]; exact back_64
  have TBr : Rgt N TB := by rw [hTB]; exact rgt_back Br
  obtain ⟨TA, hTA⟩ : ∃ F, F = backF N A := ⟨_, rfl⟩
  have TA64 : R64 TA := by rw [hTA]; exact back_64
  have TAr : Rgt N TA := by rw [hTA]; exact rgt_back Ar
  obtain ⟨TT, hTT⟩ : ∃ F, F = thenF TB TA := ⟨_, rfl⟩
  have TT64 : R64 TT := by rw [hTT]; exact thenF_64 _ TA64
  have TTr : Rgt N TT := by rw [hTT]; exact rgt_then TBr TAr
  obtain ⟨SS, hSS⟩ : ∃ F, F = thenF A (fullF N) := ⟨_, rfl⟩
  have SS64 : R64 SS := by rw [hSS]; exact thenF_64 _ (full_64 hN48)
  have SSr : Rgt N SS := by rw [hSS]; exact rgt_then Ar (rgt_full hN48)
  obtain ⟨VB, hVB⟩ : ∃ F, F = backF N AB := ⟨_, rfl⟩
  have VB64 : R64 VB := by rw [hVB]; exact back_64
  have VBr : Rgt N VB := by rw [hVB]; exact rgt_back ABr
  obtain ⟨VA, hVA⟩ : ∃ F, F = backF N TA := ⟨_, rfl⟩
  have VA64 : R64 VA := by rw [hVA]; exact back_64
  have VAr : Rgt N VA := by rw [hVA]; exact rgt_back TAr
  have e1 : relB N N XL XR = true := by rw [hXL, hAB, hXR, hBC]; exact then_assoc Ar Br
  have e2 : relB N N AU BO = true := by rw [hAU, hUU, hBO, hAB, hAC]; exact then_union Ar
  have e3 : relB N N VB TT = true := by rw [hVB, hAB, hTT, hTB, hTA]; exact then_back Ar Br
  have e4 : relB N N SS A = true := by rw [hSS]; exact then_full Ar
  have e5 : relB N N VA A = true := by rw [hVA, hTA]; exact back_back Ar
  have cAB := Lib.hid (fun w (hT : Tab w) => then_ok A64 B64 Ar Br w hT)
  rw [← hAB] at cAB
  have cBC := Lib.hid (fun w (hT : Tab w) => then_ok B64 C64 Br Cr w hT)
  rw [← hBC] at cBC
  have cXL := Lib.hid (fun w (hT : Tab w) => then_ok AB64 C64 ABr Cr w hT)
  rw [← hXL] at cXL
  have cXR := Lib.hid (fun w (hT : Tab w) => then_ok A64 BC64 Ar BCr w hT)
  rw [← hXR] at cXR
  have cUU := Lib.hid (fun w (_hT : Tab w) => union_ok B64 C64 Br Cr w)
  rw [← hUU] at cUU
  have cAU := Lib.hid (fun w (hT : Tab w) => then_ok A64 UU64 Ar UUr w hT)
  rw [← hAU] at cAU
  have cAC := Lib.hid (fun w (hT : Tab w) => then_ok A64 C64 Ar Cr w hT)
  rw [← hAC] at cAC
  have cBO := Lib.hid (fun w (_hT : Tab w) => union_ok AB64 AC64 ABr ACr w)
  rw [← hBO] at cBO
  have cTB := Lib.hid (fun w (hT : Tab w) => turn_ok B64 Br w hT)
  rw [← hTB] at cTB
  have cTA := Lib.hid (fun w (hT : Tab w) => turn_ok A64 Ar w hT)
  rw [← hTA] at cTA
  have cTT := Lib.hid (fun w (hT : Tab w) => then_ok TB64 TA64 TBr TAr w hT)
  rw [← hTT] at cTT
  have cSS := Lib.hid (fun w (hT : Tab w) => then_ok A64 (full_64 hN48) Ar (rgt_full hN48) w hT)
  rw [← hSS] at cSS
  have cVB := Lib.hid (fun w (hT : Tab w) => turn_ok AB64 ABr w hT)
  rw [← hVB] at cVB
  have cVA := Lib.hid (fun w (hT : Tab w) => turn_ok TA64 TAr w hT)
  rw [← hVA] at cVA
  clear hAB hBC hXL hXR hUU hAU hAC hBO hTB hTA hTT hSS hVB hVA
  clear AB64 ABr
  clear BC64 BCr
  clear XL64 XLr
  clear XR64 XRr
  clear UU64 UUr
  clear AU64 AUr
  clear AC64 ACr
  clear BO64 BOr
  clear TB64 TBr
  clear TA64 TAr
  clear TT64 TTr
  clear SS64 SSr
  clear VB64 VBr
  clear VA64 VAr
  replace HA := Lib.hid HA
  replace HB := Lib.hid HB
  replace HC := Lib.hid HC
  replace A64 := Lib.hid A64
  replace B64 := Lib.hid B64
  replace C64 := Lib.hid C64
  replace Ar := Lib.hid Ar
  replace Br := Lib.hid Br
  replace Cr := Lib.hid Cr
  replace ha := Lib.hid ha
  replace hb := Lib.hid hb
  replace hc := Lib.hid hc
  have hA : RelAt (((w.alloc (.cells (relC na fa) 26)).alloc (.cells (relC nb fb) 26)).alloc (.cells (relC nc fc) 26)) w.heap.size na fa := ((RelAt.new w na fa).alloc _).alloc _
  have hM : RelAt (((w.alloc (.cells (relC na fa) 26)).alloc (.cells (relC nb fb) 26)).alloc (.cells (relC nc fc) 26)) (w.heap.size + 1) nb fb := by
    have := (RelAt.new (w.alloc (.cells (relC na fa) 26)) nb fb).alloc (.cells (relC nc fc) 26)
    rwa [World.size_alloc] at this
  have hC : RelAt (((w.alloc (.cells (relC na fa) 26)).alloc (.cells (relC nb fb) 26)).alloc (.cells (relC nc fc) 26)) (w.heap.size + 1 + 1) nc fc := by
    have := (RelAt.new ((w.alloc (.cells (relC na fa) 26)).alloc (.cells (relC nb fb) 26)) nc fc)
    rwa [World.size_alloc, World.size_alloc] at this
  have hBl : Below w.heap.size w (((w.alloc (.cells (relC na fa) 26)).alloc (.cells (relC nb fb) 26)).alloc (.cells (relC nc fc) 26)) :=
    thru (thru (below_new _ _) (below_new _ _)) (below_new _ _)
  have l1 := hA.ld
  go_enter Tryd.func7, Tryd.ntmps7
  go_wp2_with fail
  clear l1
  refine (HA.out _).mono ?_
  rintro e w1 ⟨rfl, h⟩
  replace hA := hA.on h
  replace hM := hM.on h
  replace hC := hC.on h
  replace hBl := thru hBl h
  clear h
  obtain ⟨W1, hs1, hA1, hO1⟩ := hA.put N A
  replace hM := hM.only hO1 (by omega)
  replace hC := hC.only hO1 (by omega)
  replace hBl := below_only hBl hO1 (Nat.le_refl _)
  clear hA hO1
  go_upto_region 2 with fail
  clear hs1
  have n1 := hA1.num
  have f1 := hM.free 0
  have f2 := hC.free 0
  have n2 := hM.num
  have n3 := hC.num
  go_cut [] (fun W => RelAt W w.heap.size N A ∧ RelAt W (w.heap.size + 1) N fb ∧ RelAt W (w.heap.size + 1 + 1) N fc ∧ Below w.heap.size w W)
  case first =>
    as_aux_lemma =>
      go_region_with (fail)
      all_goals (go_wp2_with fail; go_meet; exact ⟨((hA1.other ⟨w.heap.size + 1, 0, none⟩ _ (show w.heap.size ≠ w.heap.size + 1 by omega)).other ⟨w.heap.size + 1 + 1, 0, none⟩ _ (show w.heap.size ≠ w.heap.size + 1 + 1 by omega)).drew, ((hM.setN N).other ⟨w.heap.size + 1 + 1, 0, none⟩ _ (show w.heap.size + 1 ≠ w.heap.size + 1 + 1 by omega)).drew, ((hC.other ⟨w.heap.size + 1, 0, none⟩ _ (show w.heap.size + 1 + 1 ≠ w.heap.size + 1 by omega)).setN N).drew, ((hBl.setCell (p := ⟨w.heap.size + 1, 0, none⟩) (show w.heap.size ≤ w.heap.size + 1 by omega) _).setCell (p := ⟨w.heap.size + 1 + 1, 0, none⟩) (show w.heap.size ≤ w.heap.size + 1 + 1 by omega) _).drew⟩)
  case rest =>
    obtain ⟨hA2, hB2, hC2, hBl2⟩ := hcut
    clear hA1 hM hC hBl n1 n2 n3 f1 f2
    have ne1 : w.heap.size ≠ w.heap.size + 1 := by omega
    have ne2 : w.heap.size ≠ w.heap.size + 1 + 1 := by omega
    have ne3 : w.heap.size + 1 ≠ w.heap.size + 1 + 1 := by omega
    have ne4 : w.heap.size + 1 + 1 ≠ w.heap.size + 1 := by omega
    have le1 : w.heap.size ≤ w.heap.size + 1 := by omega
    have le2 : w.heap.size ≤ w.heap.size + 1 + 1 := by omega
    go_upto_region 3 with fail
    have l4 := hB2.drew.ld
    have l5 := hC2.drew.ld
    go_cut [] (fun W => Keeps w W N [(w.heap.size, A), (w.heap.size + 1, B), (w.heap.size + 1 + 1, C)])
    case first =>
      as_aux_lemma =>
        go_region_with (first
          | (go_at_call_of 50 (Value.agg (relC (N : Int) fb))
             refine (HB.out _).mono ?_
             rintro e wq ⟨rfl, hq⟩
             have h4 : Below wc.heap.size wc wq := undrew hq
             have lq := (hC2.on h4).ld)
          | (go_at_call_of 50 (Value.agg (relC (N : Int) fc))
             refine (HC.out _).mono ?_
             rintro e wr ⟨rfl, hr⟩
             have h6 := thru h4 hr
             obtain ⟨Wf, hsf, hf1, hO1⟩ := (hB2.on h6).put N B
             obtain ⟨Wg, hsg, hg1, hO2⟩ := ((hC2.on h6).only hO1 ne4).put N C
             have hA3 := ((hA2.on h6).only hO1 ne1).only hO2 ne2
             have hB3 := hf1.only hO2 ne3
             have hBl3 := below_only (below_only (thru hBl2 h6) hO1 le1) hO2 le2))
        all_goals (go_wp2_with fail; go_meet; exact ⟨hBl3, fun p hp => by simp at hp; rcases hp with rfl | rfl | rfl; all_goals assumption⟩)
    case rest =>
      have hX := hcut
      clear hcut hA2 hB2 hC2 hBl2 l4 l5
      have l1 := (hX.at (b := w.heap.size) (f := A) (by simp)).ld
      have l2 := (hX.at (b := w.heap.size + 1) (f := B) (by simp)).ld
      go_wp2_with fail
      clear l1 l2
      refine (cAB.out _ (hX.tab hT)).mono ?_
      rintro e w4 ⟨rfl, h⟩
      replace hX := hX.on h
      clear h
      obtain ⟨W4, hs4, hu, h, -⟩ := Ex.lay w4 N AB
      replace hX := (hX.on h).cons hu
      clear h hu
      have l1 := (hX.at (b := w.heap.size + 1) (f := B) (by simp)).ld
      have l2 := (hX.at (b := w.heap.size + 1 + 1) (f := C) (by simp)).ld
      go_wp2_with fail
      clear hs4 l1 l2
      refine (cBC.out _ (hX.tab hT)).mono ?_
      rintro e w5 ⟨rfl, h⟩
      replace hX := hX.on h
      clear h
      obtain ⟨W5, hs5, hu, h, -⟩ := Ex.lay w5 N BC
      replace hX := (hX.on h).cons hu
      clear h hu
      have l1 := (hX.at (b := w4.heap.size) (f := AB) (by simp)).ld
      have l2 := (hX.at (b := w.heap.size + 1 + 1) (f := C) (by simp)).ld
      go_wp2_with fail
      clear hs5 l1 l2
      refine (cXL.out _ (hX.tab hT)).mono ?_
      rintro e w6 ⟨rfl, h⟩
      replace hX := hX.on h
      clear h
      obtain ⟨W6, hs6, hu, h, -⟩ := Ex.lay w6 N XL
      replace hX := (hX.on h).cons hu
      clear h hu
      have l1 := (hX.at (b := w.heap.size) (f := A) (by simp)).ld
      have l2 := (hX.at (b := w5.heap.size) (f := BC) (by simp)).ld
      go_wp2_with fail
      clear hs6 l1 l2
      refine (cXR.out _ (hX.tab hT)).mono ?_
      rintro e w7 ⟨rfl, h⟩
      replace hX := hX.on h
      clear h
      obtain ⟨W7, hs7, hu, h, -⟩ := Ex.lay w7 N XR
      replace hX := (hX.on h).cons hu
      clear h hu
      have l1 := (hX.at (b := w.heap.size + 1) (f := B) (by simp)).ld
      have l2 := (hX.at (b := w.heap.size + 1 + 1) (f := C) (by simp)).ld
      go_wp2_with fail
      clear hs7 l1 l2
      refine (cUU.out _ (hX.tab hT)).mono ?_
      rintro e w8 ⟨rfl, h⟩
      replace hX := hX.on h
      clear h
      obtain ⟨W8, hs8, hu, h, -⟩ := Ex.lay w8 N UU
      replace hX := (hX.on h).cons hu
      clear h hu
      have l1 := (hX.at (b := w.heap.size) (f := A) (by simp)).ld
      have l2 := (hX.at (b := w8.heap.size) (f := UU) (by simp)).ld
      go_wp2_with fail
      clear hs8 l1 l2
      refine (cAU.out _ (hX.tab hT)).mono ?_
      rintro e w9 ⟨rfl, h⟩
      replace hX := hX.on h
      clear h
      obtain ⟨W9, hs9, hu, h, -⟩ := Ex.lay w9 N AU
      replace hX := (hX.on h).cons hu
      clear h hu
      have l1 := (hX.at (b := w.heap.size) (f := A) (by simp)).ld
      have l2 := (hX.at (b := w.heap.size + 1 + 1) (f := C) (by simp)).ld
      go_wp2_with fail
      clear hs9 l1 l2
      refine (cAC.out _ (hX.tab hT)).mono ?_
      rintro e w10 ⟨rfl, h⟩
      replace hX := hX.on h
      clear h
      obtain ⟨W10, hs10, hu, h, -⟩ := Ex.lay w10 N AC
      replace hX := (hX.on h).cons hu
      clear h hu
      have l1 := (hX.at (b := w4.heap.size) (f := AB) (by simp)).ld
      have l2 := (hX.at (b := w10.heap.size) (f := AC) (by simp)).ld
      go_wp2_with fail
      clear hs10 l1 l2
      refine (cBO.out _ (hX.tab hT)).mono ?_
      rintro e w11 ⟨rfl, h⟩
      replace hX := hX.on h
      clear h
      obtain ⟨W11, hs11, hu, h, -⟩ := Ex.lay w11 N BO
      replace hX := (hX.on h).cons hu
      clear h hu
      go_upto_region 12 with fail
      clear hs11
      have hTb := hX.tab hT
      have rB := hX.at (b := w.heap.size + 1) (f := B) (by simp)
      have rA := hX.at (b := w.heap.size) (f := A) (by simp)
      have l1 := rB.drew.ld
      have l2 := (rB.alloc (.cells (relC 0 zf) 26)).drew.ld
      have l3 := rA.drew.ld
      have l4 := (rA.alloc (.cells (relC 0 zf) 26)).drew.ld
      go_cut [23, 24] (fun v23 v24 W => ∃ b', v23 = .pointer (some ⟨b', 0, none⟩) ∧ v24 = .int .i64 0 ∧ Below W11.heap.size W11 W ∧ RelAt W b' N TT)
      case first =>
        as_aux_lemma =>
          go_region_with (first
            | (go_at_call_of 30 (Value.agg (relC (N : Int) B))
               refine (cTB.out _ ?_).mono ?_
               · first | exact hTb | exact tab_new hTb _
               rintro e wq ⟨rfl, hq⟩
               first
                 | (have h4 : Below W11.heap.size W11 wq := undrew hq
                    have tq := tab_on hTb h4
                    have lq := (rA.on h4).ld
                    have lq2 := ((rA.on h4).alloc (.cells (relC 0 zf) 26)).ld)
                 | (have h5 : Below (W11.alloc (.cells (relC 0 zf) 26)).heap.size (W11.alloc (.cells (relC 0 zf) 26)) wq := undrew hq
                    have hz := (RelAt.new W11 0 zf).on h5
                    have h4 := thru (below_new W11 (.cells (relC 0 zf) 26)) h5
                    have tq := tab_on hTb h4
                    have lq := (rA.on h4).ld))
            | (go_at_call_of 30 (Value.agg (relC (N : Int) A))
               refine (cTA.out _ ?_).mono ?_
               · first | exact tq | exact tab_new tq _
               rintro e wr ⟨rfl, hr⟩
               first
                 | (have h6 := thru h4 hr
                    have hz2 := hz.on hr
                    have tr := tab_on tq hr)
                 | (have h6 := thru h4 hr
                    have tr := tab_on tq hr)
                 | (have hz2 := (RelAt.new wq 0 zf).on hr
                    have h6 := thru (thru h4 (below_new wq (.cells (relC 0 zf) 26))) hr
                    have lez := h4.size
                    have tr := tab_on (tab_new tq _) hr))
            | (go_at_call 23
               refine (cTT.out _ ?_).mono ?_
               · first | exact tr | exact tab_new tr _
               rintro e ws ⟨rfl, hs⟩
               first
                 | (have hz3 := hz2.on hs
                    have h8 := thru h6 hs
                    obtain ⟨Wf, hsf, hfin, hO⟩ := hz3.put N TT
                    first
                      | have hbf := below_only h8 hO (Nat.le_refl _)
                      | have hbf := below_only h8 hO lez)
                 | (have hz3 := (RelAt.new wr 0 zf).on hs
                    have h8 := thru (thru h6 (below_new wr (.cells (relC 0 zf) 26))) hs
                    obtain ⟨Wf, hsf, hfin, hO⟩ := hz3.put N TT
                    have hbf := below_only h8 hO h6.size)
                 | (have h8 := thru h6 hs
                    obtain ⟨Wf, hsf, hfin, hO, -⟩ := Ex.lay ws N TT
                    have hbf := thru h8 hO)))
          all_goals (go_wp2_with fail; go_meet; exact ⟨_, rfl, rfl, hbf, hfin⟩)
      case rest =>
        obtain ⟨b', rfl, rfl, hbf, hfin⟩ := hcut
        replace hX := (hX.on hbf).cons hfin
        clear hbf hfin l1 l2 l3 l4 hTb rA rB
        go_upto_region 13 with fail
        have hTb := hX.tab hT
        have rA := hX.at (b := w.heap.size) (f := A) (by simp)
        have l1 := rA.drew.ld
        have l2 := (rA.alloc (.cells (relC 0 zf) 26)).drew.ld
        have l3 := rA.drew.num
        have l4 := (rA.alloc (.cells (relC 0 zf) 26)).drew.num
        go_cut [25, 26] (fun v25 v26 W => ∃ b', v25 = .pointer (some ⟨b', 0, none⟩) ∧ v26 = .int .i64 0 ∧ Below wc.heap.size wc W ∧ RelAt W b' N SS)
        case first =>
          as_aux_lemma =>
            go_region_with (first
              | (go_at_call 16
                 refine (id_ok hN48 _).mono ?_
                 rintro e wq ⟨rfl, hq⟩
                 first
                   | (have h4 : Below wc.heap.size wc wq := undrew hq
                      have tq := tab_on hTb h4
                      have lq := (rA.on h4).ld
                      have lq2 := ((rA.on h4).alloc (.cells (relC 0 zf) 26)).ld)
                   | (have h5 : Below (wc.alloc (.cells (relC 0 zf) 26)).heap.size (wc.alloc (.cells (relC 0 zf) 26)) wq := undrew hq
                      have hz := (RelAt.new wc 0 zf).on h5
                      have h4 := thru (below_new wc (.cells (relC 0 zf) 26)) h5
                      have tq := tab_on hTb h4
                      have lq := (rA.on h4).ld))
              | (go_at_call 23
                 refine (cSS.out _ ?_).mono ?_
                 · first | exact tq | exact tab_new tq _
                 rintro e wr ⟨rfl, hr⟩
                 first
                   | (have hz2 := hz.on hr
                      have h6 := thru h4 hr
                      obtain ⟨Wf, hsf, hfin, hO⟩ := hz2.put N SS
                      have hbf := below_only h6 hO (Nat.le_refl _))
                   | (have hz2 := (RelAt.new wq 0 zf).on hr
                      have h6 := thru (thru h4 (below_new wq (.cells (relC 0 zf) 26))) hr
                      obtain ⟨Wf, hsf, hfin, hO⟩ := hz2.put N SS
                      have hbf := below_only h6 hO h4.size)
                   | (have h6 := thru h4 hr
                      obtain ⟨Wf, hsf, hfin, hO, -⟩ := Ex.lay wr N SS
                      have hbf := thru h6 hO)))
            all_goals (go_wp2_with fail; go_meet; exact ⟨_, rfl, rfl, hbf, hfin⟩)
        case rest =>
          obtain ⟨b2, rfl, rfl, hbf, hfin⟩ := hcut
          replace hX := (hX.on hbf).cons hfin
          clear hbf hfin l1 l2 l3 l4 hTb rA
          have tb := Lib.hid (hX.tab hT)
          have r1 := Lib.hid (fun W (h : Below wc.heap.size wc W) => (hX.at (b := w6.heap.size) (f := XL) (by simp)).on h)
          have r2 := Lib.hid (fun W (h : Below wc.heap.size wc W) => (hX.at (b := w7.heap.size) (f := XR) (by simp)).on h)
          have r3 := Lib.hid (fun W (h : Below wc.heap.size wc W) => (hX.at (b := w9.heap.size) (f := AU) (by simp)).on h)
          have r4 := Lib.hid (fun W (h : Below wc.heap.size wc W) => (hX.at (b := w11.heap.size) (f := BO) (by simp)).on h)
          have r5 := Lib.hid (fun W (h : Below wc.heap.size wc W) => (hX.at (b := w4.heap.size) (f := AB) (by simp)).on h)
          have r6 := Lib.hid (fun W (h : Below wc.heap.size wc W) => (hX.at (b := b') (f := TT) (by simp)).on h)
          have r7 := Lib.hid (fun W (h : Below wc.heap.size wc W) => (hX.at (b := b2) (f := SS) (by simp)).on h)
          have r8 := Lib.hid (fun W (h : Below wc.heap.size wc W) => (hX.at (b := w.heap.size) (f := A) (by simp)).on h)
          replace hX := Lib.hid hX
          go_upto_region 14 with fail
          refine wp_region_below wc.heap.size wc (by kernel_rfl) (by kernel_rfl) (Below.refl _ _) ?_
          repeat (first
            | go_big_quiet_step (first
              | (intro _; exact rfl)
              | (intro hW; go_at_call_of 30 (Value.agg (relC (N : Int) AB)); exact Calls.below_of hW (cVB.out _ (tab_on tb.out hW)))
              | (intro hW; go_at_call_of 30 (Value.agg (relC (N : Int) A)); exact Calls.below_of hW (cTA.out _ (tab_on tb.out hW)))
              | (intro hW; go_at_call_of 30 (Value.agg (relC (N : Int) TA)); exact Calls.below_of hW (cVA.out _ (tab_on tb.out hW)))
              | (intro hW; go_at_call 11; exact Calls.below_of hW (awake_any _ (tab_on tb.out hW))))
            | (refine wpQuiet_want rfl fun K hK => ?_
               first
                 | refine quiet_loadRel (.tmp 11) rfl _ rfl _ _ r1.out (hK _ ?_)
                 | refine quiet_loadRel (.tmp 13) rfl _ rfl _ _ r2.out (hK _ ?_)
                 | refine quiet_loadRel (.tmp 17) rfl _ rfl _ _ r3.out (hK _ ?_)
                 | refine quiet_loadRel (.tmp 21) rfl _ rfl _ _ r4.out (hK _ ?_)
                 | refine quiet_loadRel (.tmp 7) rfl _ rfl _ _ r5.out (hK _ ?_)
                 | refine quiet_loadRel (.tmp 23) rfl _ rfl _ _ r6.out (hK _ ?_)
                 | refine quiet_loadRel (.tmp 25) rfl _ rfl _ _ r7.out (hK _ ?_)
                 | refine quiet_loadRel (.tmp 3) rfl _ rfl _ _ r8.out (hK _ ?_)
               clear hK K
               simp only [Act.put, List.setIfInBounds_toArray, List.set_cons_succ, List.set_cons_zero]))
          refine wpQuiet_nil ?_
          intro wz hz2
          go_wp2
          go_ret
          exact ⟨rfl, thru hX.out.1 hz2⟩
end Go.Proofs.YtedopmfbohnjmaaDoor
