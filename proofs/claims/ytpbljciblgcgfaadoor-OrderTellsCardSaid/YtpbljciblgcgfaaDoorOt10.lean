/- RefRel5, RefRel6, RefOrd9, OrdTellsAid in one text, for the claim. -/
import Derived.Deep.DeepCutAuto
import Derived.Test.YtpbljciblgcgfaaDoorOt9
import Derived.Test.YtpbljciblgcgfaaDoorOt3
import Derived.Test.YtpbljciblgcgfaaDoorOt5
import Derived.Test.YtpbljciblgcgfaaDoorOt8

section
/- The document's answers for layer 2: Star. -/
namespace Go.Proofs.YtpbljciblgcgfaaDoor
open Go.RowKit Go.Shelf

attribute [local go_sem] Oper.semAt_some

def pw : Nat → Nat := fun i => 2 ^ i
/-- A relation and the first k items with themselves. -/
def starK (P : Nat → Nat) (k : Nat) : Nat → Nat := unionF P (cutF (k : Int) pw)
theorem starK_zero (P : Nat → Nat) : starK P 0 = P := by
  unfold starK
  rw [show ((0 : Nat) : Int) = 0 by rfl, cutF_zero]
  funext i; simp [unionF, zf]
theorem starK_succ (P : Nat → Nat) (k : Nat) : upd (starK P k) k (starK P k k ||| 2 ^ k) = starK P (k + 1) := by
  funext i
  unfold upd starK unionF cutF pw
  by_cases h : i = k
  · subst h
    rw [if_pos rfl, if_neg (by omega), if_pos (by omega), Nat.or_zero]
  · rw [if_neg h]
    by_cases h2 : (i : Int) < k
    · rw [if_pos h2, if_pos (by omega)]
    · rw [if_neg h2, if_neg (by omega)]
theorem starK_64 {P : Nat → Nat} (h : R64 P) {k : Nat} (hk : k ≤ 48) : R64 (starK P k) := union_64 h fun i => by
  unfold cutF pw
  split
  · exact Nat.pow_lt_pow_right (by omega) (by omega)
  · exact Nat.two_pow_pos 64
set_option maxRecDepth 100000 in
set_option maxHeartbeats 4000000 in
theorem refStar_of (n : Int) (f : Nat → Nat) (N : Nat) (hN : N ≤ 48) (P : Nat → Nat) (hP : R64 P)
    (CP : Hid (∀ w : World, Calls Tryd.prog 33 #[.agg (relC n f)] w fun e w' => e = .returned (.agg (relC N P)) ∧ Below w.heap.size w w')) (w : World) :
    Calls Tryd.prog 35 #[.agg (relC n f)] w fun e w' => e = .returned (.agg (relC N (starK P N))) ∧ Below w.heap.size w w' := by
  have hA := (RelAt.new w n f).alloc (.cells (relC 0 zf) 26)
  have hZ := RelAt.new (w.alloc (.cells (relC n f) 26)) 0 zf
  rw [World.size_alloc] at hZ
  have hB := thru (below_new w (.cells (relC n f) 26)) (below_new _ (.cells (relC 0 zf) 26))
  have l1 := hA.ld
  go_enter Tryd.func35, Tryd.ntmps35
  go_wp2_with fail
  refine (CP.out _).mono ?_
  rintro e w1 ⟨rfl, h⟩
  obtain ⟨W3, hs3, hu, h3, -⟩ := Ex.lay w1 N P
  have hlt := (hZ.on h).lt
  have hX : Kept w W3 [(w1.heap.size, (N : Int), starK P 0), (w.heap.size + 1, 0, zf)] := by
    refine ⟨thru (thru hB h) h3, ?_⟩
    simp only [List.mem_cons, List.not_mem_nil, or_false]
    rintro p (rfl | rfl)
    · rw [starK_zero]; exact hu
    · exact (hZ.on h).on h3
  have hsz : w.heap.size ≤ w1.heap.size := by omega
  clear h h3 hu l1 hA hZ hB
  generalize hbw : w1.heap.size = bw at *
  have ne1 : w.heap.size + 1 ≠ bw := by omega
  go_wp2
  clear hs3
  replace hbw := Lib.hid hbw
  go_loopw [4] (fun i W => ∃ k : Nat, k ≤ N ∧ i = .int .i64 k ∧ Kept w W [(bw, (N : Int), starK P k), (w.heap.size + 1, 0, zf)]) (fun i _ => N - (intOf i).toNat)
  case atStart => exact ⟨0, by omega, rfl, hX⟩
  case round =>
    clear hX
    obtain ⟨k, hk, rfl, hX⟩ := hrel
    have n1 := (hX.at (b := bw) (n := N) (f := starK P k) (by simp)).num
    have l1 := (hX.at (b := bw) (n := N) (f := starK P k) (by simp)).ld
    by_cases hkN : k < N
    · have tk : decide (k < N) = true := by simpa using hkN
      have cW := Lib.hid (fun w => show Calls Tryd.prog 72 #[.agg (relC N (starK P k)), .int .i64 (k : Int), .int .i64 (k : Int)] w fun e w' => e = .returned (.agg (relC N (starK P (k + 1)))) ∧ Below w.heap.size w w' by
        have := refwith_any N (starK P k) (starK_64 hP (by omega)) k k (by omega) (by omega) w
        rwa [starK_succ] at this)
      have hXh := Lib.hid hX
      clear hX
      go_wp2_with fail
      clear l1 n1
      refine (cW.out _).mono ?_
      rintro e w1 ⟨rfl, h⟩
      obtain ⟨W4, hs4, hR4, hO4⟩ := ((hXh.out.on h).at (b := bw) (n := N) (f := starK P k) (by simp)).put N (starK P (k + 1))
      have hX4 := (((hXh.out.on h).less (l' := [(w.heap.size + 1, 0, zf)]) (by simp)).only hO4 hsz (by simp only [List.mem_cons, List.not_mem_nil, or_false]; rintro p rfl; assumption)).cons hR4
      clear h hR4 hO4
      go_wp2
      go_roundw
      case rel => exact ⟨k + 1, by omega, by go_num, hX4⟩
      case measure => simp [intOf]; omega
    · obtain rfl : k = N := by omega
      obtain ⟨W4, hs4, hR4, hO4⟩ := (hX.at (b := w.heap.size + 1) (n := 0) (f := zf) (by simp)).put k (starK P k)
      have hB4 := below_only hX.1 hO4 (by omega)
      clear hX hO4
      go_wp2
      refine bodyPost_ret (results_rel rfl _ _ _ _ _ rfl hR4) rfl ?_
      exact ⟨rfl, hB4⟩
theorem refStar_ok (N : Nat) (f : Nat → Nat) (hf : R64 f) (hr : Rgt N f) (w : World) :
    Calls Tryd.prog 35 #[.agg (relC N f)] w fun e w' => e = .returned (.agg (relC N (starK (warK f N N) N))) ∧ Below w.heap.size w w' :=
  refStar_of N f N hr.le _ (war_64 hr.le hf N) (Lib.hid (refPlus_ok N f hf hr)) w
theorem refStar_bad (n : Int) (f : Nat → Nat) (hf : R64 f) (hb : rightB n f = false) (w : World) :
    Calls Tryd.prog 35 #[.agg (relC n f)] w fun e w' => e = .returned (.agg (relC 0 zf)) ∧ Below w.heap.size w w' := by
  have := refStar_of n f 0 (by omega) zf (fun _ => Nat.two_pow_pos 64) (Lib.hid (refPlus_bad n f hf hb)) w
  rwa [starK_zero] at this
end Go.Proofs.YtpbljciblgcgfaaDoor
end

section
/- The document's answers for layer 2: Irreflexive, Acyclic. -/
namespace Go.Proofs.YtpbljciblgcgfaaDoor
open Go.RowKit Go.Shelf

attribute [local go_sem] Oper.semAt_some

def irrH (n : Int) (f : Nat → Nat) (k : Nat) : Bool := (List.range k).all fun (i : Nat) => !hasB n f (i : Int) (i : Int)
theorem irrH_succ (n : Int) (f : Nat → Nat) (k : Nat) : irrH n f (k + 1) = (irrH n f k && !hasB n f (k : Int) (k : Int)) := by simp [irrH, List.range_succ]
theorem hasB_iff' {n : Int} {f : Nat → Nat} {a b : Int} : hasB n f a b = true ↔ rightB n f = true ∧ (0 ≤ a ∧ a < n) ∧ (0 ≤ b ∧ b < n) ∧ (f a.toNat).testBit b.toNat = true := by
  unfold hasB
  simp only [Bool.and_eq_true, itemB_iff]
theorem irrH_bad {n : Int} {f : Nat → Nat} {k : Nat} (h : hasB n f (k : Int) (k : Int) = true) : (rightB n f && irrK f n.toNat) = false := by
  obtain ⟨hr, ⟨h0, h1⟩, -, hb⟩ := hasB_iff'.1 h
  rw [hr, Bool.true_and]
  exact irrK_bad f k n.toNat (by omega) (by simpa using hb)
theorem irrH_all {n : Int} {f : Nat → Nat} (h : irrH n f 48 = true) : rightB n f = (rightB n f && irrK f n.toNat) := by
  cases hr : rightB n f
  · rfl
  obtain ⟨⟨n0, n1⟩, -⟩ := rightB_iff.1 hr
  rw [Bool.true_and]
  symm
  refine irrK_iff.2 fun i hi hb => ?_
  have h2 : ∀ x : Nat, x < 48 → hasB n f (x : Int) (x : Int) = false := fun x hx => by
    have := List.all_eq_true.1 h x (List.mem_range.2 hx)
    simpa only [Bool.not_eq_true'] using this
  have h3 := h2 i (by omega)
  rw [hasB_iff'.2 ⟨hr, ⟨by omega, by omega⟩, ⟨by omega, by omega⟩, by simpa [Bt] using hb⟩] at h3
  cases h3

set_option maxRecDepth 100000 in
set_option maxHeartbeats 4000000 in
theorem refIrr_any (n : Int) (f : Nat → Nat) (hf : R64 f) (w : World) :
    Calls Tryd.prog 47 #[.agg (relC n f)] w fun e w' => e = .returned (.bool (rightB n f && irrK f n.toNat)) ∧ Below w.heap.size w w' := by
  have hA := RelAt.new w n f
  have hB := below_new w (.cells (relC n f) 26)
  have CH := Lib.hid (fun a w => refRelHas_any n f a a hf w)
  have CR := Lib.hid (refRight_any n f hf)
  go_enter Tryd.func47, Tryd.ntmps47
  generalize hw0 : w.alloc (.cells (relC n f) 26) = w0 at *
  go_wp2
  go_loopw [3] (fun i W => ∃ k : Nat, k ≤ 48 ∧ i = .int .i64 k ∧ Below w0.heap.size w0 W ∧ irrH n f k = true) (fun i _ => 48 - (intOf i).toNat)
  case atStart => exact ⟨0, by omega, rfl, Below.refl _ _, rfl⟩
  case round =>
    obtain ⟨k, hk, rfl, hX, hI⟩ := hrel
    have l1 := (hA.on hX).ld
    by_cases hk8 : k < 48
    · have tk : decide ((k : Int) < 48) = true := by simpa using (by omega : (k : Int) < 48)
      have hXh := Lib.hid hX
      clear hX
      cases hv : hasB n f (k : Int) (k : Int)
      · have C1 := Lib.hid (CH.out (k : Int))
        rw [hv] at C1
        have hI2 : irrH n f (k + 1) = true := by rw [irrH_succ, hI, hv]; rfl
        replace hI2 := Lib.hid hI2
        clear hv hI
        go_wp2_with fail
        refine (C1.out _).mono ?_
        rintro e w1 ⟨rfl, h⟩
        go_wp2
        go_roundw
        case rel => exact ⟨k + 1, by omega, by go_num, thru hXh.out h, hI2.out⟩
        case measure => simp [intOf]; omega
      · have C1 := Lib.hid (CH.out (k : Int))
        rw [hv] at C1
        have hv2 := Lib.hid (irrH_bad hv)
        clear hv hI
        go_wp2_with fail
        refine (C1.out _).mono ?_
        rintro e w1 ⟨rfl, h⟩
        go_wp2
        go_ret
        rw [hv2.out]
        exact ⟨rfl, thru (thru hB hXh.out) h⟩
    · obtain rfl : k = 48 := by omega
      have hXh := Lib.hid hX
      have hI2 := Lib.hid (irrH_all hI)
      clear hX hI
      go_wp2_with fail
      refine (CR.out _).mono ?_
      rintro e w1 ⟨rfl, h⟩
      go_wp2
      go_ret
      rw [← hI2.out]
      exact ⟨rfl, thru (thru hB hXh.out) h⟩

set_option maxRecDepth 100000 in
set_option maxHeartbeats 4000000 in
theorem refAcyclic_bad (n : Int) (f : Nat → Nat) (hf : R64 f) (hb : rightB n f = false) (w : World) :
    Calls Tryd.prog 49 #[.agg (relC n f)] w fun e w' => e = .returned (.bool false) ∧ Below w.heap.size w w' := by
  have hA := RelAt.new w n f
  have hB := below_new w (.cells (relC n f) 26)
  have l1 := hA.ld
  have CR := Lib.hid (refRight_any n f hf)
  rw [hb] at CR
  clear hb
  go_enter Tryd.func49, Tryd.ntmps49
  go_wp2_with fail
  refine (CR.out _).mono ?_
  rintro e w1 ⟨rfl, h⟩
  go_wp2
  go_ret
  exact ⟨rfl, thru hB h⟩

set_option maxRecDepth 100000 in
set_option maxHeartbeats 4000000 in
theorem refAcyclic_ok (N : Nat) (f : Nat → Nat) (hf : R64 f) (hr : Rgt N f) (w : World) :
    Calls Tryd.prog 49 #[.agg (relC N f)] w fun e w' => e = .returned (.bool (irrK (warK f N N) N)) ∧ Below w.heap.size w w' := by
  have hA := RelAt.new w N f
  have hB := below_new w (.cells (relC N f) 26)
  have l1 := hA.ld
  have CR := Lib.hid (refRight_any N f hf)
  rw [show rightB N f = true from hr] at CR
  have CP := Lib.hid (refPlus_ok N f hf hr)
  have CI := Lib.hid (refIrr_any N (warK f N N) (war_64 hr.le hf N))
  rw [show rightB N (warK f N N) = true from rgt_war hr N, Bool.true_and, Int.toNat_natCast] at CI
  go_enter Tryd.func49, Tryd.ntmps49
  go_wp2_with fail
  refine (CR.out _).mono ?_
  rintro e w1 ⟨rfl, h⟩
  clear l1
  have l1 := (hA.on h).ld
  go_wp2_with fail
  refine (CP.out _).mono ?_
  rintro e w2 ⟨rfl, h2⟩
  go_wp2_with fail
  refine (CI.out _).mono ?_
  rintro e w3 ⟨rfl, h3⟩
  go_wp2
  go_ret
  exact ⟨by simp, thru (thru (thru hB h) h2) h3⟩
theorem bt_war_plus {N : Nat} {f : Nat → Nat} (h : Rgt N f) {i j : Nat} (hi : i < 48) : Bt (warK f N N) i j ↔ Bt (plusF N f) i j :=
  ⟨war_sound h N hi, fun hb => plus_min h (fun i j hi hb => war_base h N hi hb) (fun i m j hi hm h1 h2 => war_trans h N hi hm ((rgt_war h N).snd hi h1) h1 h2) hi hb⟩
theorem irr_war {N : Nat} {f : Nat → Nat} (hr : Rgt N f) : irrK (warK f N N) N = irrK (plusF N f) N := by
  rw [Bool.eq_iff_iff, irrK_iff, irrK_iff]
  exact forall_congr' fun i => forall_congr' fun hi => not_congr (bt_war_plus hr (by have := hr.le; omega))
end Go.Proofs.YtpbljciblgcgfaaDoor
end

section
/- The reference's Orders. -/
namespace Go.Proofs.YtpbljciblgcgfaaDoor
open Go.RowKit Go.Shelf

attribute [local go_sem] Oper.semAt_some

theorem outAt_sl {B : Nat} {W : World} {v : Value} {ls : List (List Nat)} (h : OutAt B W v ls) (hm : ls.length ≤ maxLen) (h48 : ∀ l ∈ ls, l.length ≤ 48) : ListSl W.heap.size W v ls := by
  obtain ⟨vs, h1, h2, h3⟩ := h
  rcases h2.2 with ⟨rfl, h0⟩ | ⟨g, cap, cur, rfl, _, hg, _⟩
  · exact ⟨hm, none, 0, by rw [h0], fun h => by omega⟩
  · refine ⟨hm, _, cap, rfl, fun _ => ⟨g, rfl, (Array.getElem?_eq_some_iff.1 hg).1, fun j l hl => ?_⟩⟩
    have hj := (List.getElem?_eq_some_iff.1 hl).1
    obtain ⟨u, hu⟩ : ∃ u, vs[j]? = some u := ⟨vs[j]'(by omega), List.getElem?_eq_getElem _⟩
    refine ⟨u, (h2.cellAt j (by omega)).trans hu, slI_of_row (h3 j u l hu hl) ?_⟩
    have := h48 l (List.mem_of_getElem? hl)
    unfold maxLen
    omega

/-- What the reference's Orders answers within the bounds. -/
def RefOrdersPost (N : Nat) (f : Nat → Nat) (M : Nat) (w : World) (e : Ending) (w' : World) : Prop :=
  (∃ v, e = .returned (.tuple #[v, .int .i64 (if (ordL N f).length ≤ M then 0 else 5)]) ∧ ListSl w'.heap.size w' v (if (ordL N f).length ≤ M then ordL N f else [])) ∧ Below w.heap.size w w'

set_option maxRecDepth 100000 in
set_option maxHeartbeats 4000000 in
/-- Of a right relation, within the bounds. -/
theorem refOrders_ok (N : Nat) (f : Nat → Nat) (M : Nat) (hM : M ≤ 10000) (g64 : R64 f) (gR : Rgt N f) (hac : irrK (warK f N N) N = (topF N f).isSome) (w : World) :
    Calls Tryd.prog 52 #[.agg (relC N f), .int .i64 (M : Int)] w (RefOrdersPost N f M w) := by
  have hA := RelAt.new w N f
  have hB := below_new w (.cells (relC N f) 26)
  have l1 := hA.ld
  have HR := Lib.hid (refRight_any N f g64)
  rw [show rightB N f = true from gR] at HR
  have HC := Lib.hid (fun W => by have := refAcyclic_ok N f g64 gR W; rw [hac] at this; exact this)
  have t1 : decide ((M : Int) < 0) = false := by simp
  have t2 : decide (10000 < (M : Int)) = false := by simp; omega
  have hnil : ∀ W : World, ListSl W.heap.size W (.slice none 0 0) [] := fun W => ⟨by decide, none, 0, rfl, fun h => absurd h (by simp)⟩
  replace hnil := Lib.hid hnil
  clear hac
  go_enter Tryd.func52, Tryd.ntmps52
  go_wp2_with fail
  refine (HR.out _).mono ?_
  rintro e w1 ⟨rfl, h1⟩
  have hA1 := hA.on h1
  have hB1 := thru hB h1
  clear hA hB l1 h1
  have l1 := hA1.ld
  go_wp2_with fail
  refine (HC.out _).mono ?_
  rintro e w2 ⟨rfl, h2⟩
  have hA2 := hA1.on h2
  have hB2 := thru hB1 h2
  clear hA1 hB1 l1 h2 HR HC
  cases ht : (topF N f).isSome
  · have hO := Lib.hid (show ordL N f = [] by unfold ordL; rw [ht]; rfl)
    replace hB2 := Lib.hid hB2
    clear hA2
    go_wp2
    go_ret2
    unfold RefOrdersPost
    rw [hO.out]
    exact ⟨⟨_, rfl, hnil.out _⟩, hB2.out⟩
  · have hG := goL_ordL gR ht
    have hl48 : ∀ l ∈ ordL N f, l.length ≤ 48 := fun l hl => by have := ordL_len hl; have := gR.le; omega
    have l1 := hA2.ld
    have HMore := Lib.hid (more_all N f g64 gR M w2.heap.size hM N [] (.slice none 0 0) (.slice none 0 0) [] w2 (by simp) (World.ownsRow_nil _ _ _ _) (OutAt.nil _ _) (Nat.zero_le _) (Nat.le_refl _))
    go_wp2_with fail
    refine HMore.out.mono ?_
    rintro e w3 ⟨v3, rfl, ho3, hb3, -⟩
    rw [List.nil_append, hG] at ho3
    have hB3 := Lib.hid (thru hB2 hb3)
    clear hA2 l1 hb3 HMore hG hB2
    obtain ⟨a3, c3, hv3⟩ : ∃ ao co, v3 = .slice ao ((ordL N f).take (M + 1)).length co := by
      obtain ⟨vs, _, h2, _⟩ := ho3
      exact ownsRow_slice h2
    by_cases hle : (ordL N f).length ≤ M
    · have htk : (ordL N f).take (M + 1) = ordL N f := List.take_of_length_le (by omega)
      rw [htk] at ho3 hv3
      subst hv3
      have hls := Lib.hid (outAt_sl ho3 (by unfold maxLen; omega) hl48)
      have t3 : decide (M < (ordL N f).length) = false := by simp; omega
      replace hle := Lib.hid hle
      clear ho3 htk
      go_wp2
      go_ret2
      unfold RefOrdersPost
      simp only [if_pos hle.out]
      exact ⟨⟨_, rfl, hls.out⟩, hB3.out⟩
    · have hln : ((ordL N f).take (M + 1)).length = M + 1 := by rw [List.length_take]; omega
      rw [hln] at hv3
      subst hv3
      have t3 : decide (M < M + 1) = true := by simp
      replace hle := Lib.hid hle
      clear ho3 hln
      go_wp2
      go_ret2
      unfold RefOrdersPost
      simp only [if_neg hle.out]
      exact ⟨⟨_, rfl, hnil.out _⟩, hB3.out⟩
end Go.Proofs.YtpbljciblgcgfaaDoor
end

section
/- The orders' answers and the document's, both at once. -/
namespace Go.Proofs.YtpbljciblgcgfaaDoor
open Go.RowKit Go.Shelf

attribute [local go_sem] Oper.semAt_some

theorem irr_top {N : Nat} {f : Nat → Nat} (hf : Rgt N f) : irrK (warK f N N) N = (topF N f).isSome := by
  rw [irr_war hf, Bool.eq_iff_iff, irr_plus hf]
  rcases top_cyc hf with ⟨l, h1, h2⟩ | ⟨h1, h2⟩
  · rw [h1]; exact ⟨fun _ => rfl, fun _ => h2.acyclic hf⟩
  · rw [h1]; exact ⟨fun h => absurd h2 h, fun h => by cases h⟩

set_option maxRecDepth 100000 in
set_option maxHeartbeats 4000000 in
theorem refOrders_bad (n : Int) (f : Nat → Nat) (most : Int) (g64 : R64 f) (h : cntOk n f most = false) (w : World) :
    Calls Tryd.prog 52 #[.agg (relC n f), .int .i64 most] w fun e w' => e = .returned (.tuple #[.slice none 0 0, .int .i64 2]) ∧ Below w.heap.size w w' := by
  have hA := RelAt.new w n f
  have hB := below_new w (.cells (relC n f) 26)
  have l1 := hA.ld
  have HR := Lib.hid (refRight_any n f g64)
  unfold cntOk at h
  cases hr : rightB n f with
  | false =>
    rw [hr] at HR
    clear h
    replace hr := Lib.hid hr
    go_enter Tryd.func52, Tryd.ntmps52
    go_wp2_with fail
    refine (HR.out _).mono ?_
    rintro e w1 ⟨rfl, h1⟩
    go_wp2
    go_ret2
    exact ⟨rfl, thru hB h1⟩
  | true =>
    rw [hr] at HR h
    rw [Bool.true_and] at h
    replace hr := Lib.hid hr
    by_cases h0 : most < 0
    · have t1 : decide (most < 0) = true := by simpa using h0
      clear h
      go_enter Tryd.func52, Tryd.ntmps52
      go_wp2_with fail
      refine (HR.out _).mono ?_
      rintro e w1 ⟨rfl, h1⟩
      go_wp2
      go_ret2
      exact ⟨rfl, thru hB h1⟩
    · have t1 : decide (most < 0) = false := by simpa using h0
      have t2 : decide (10000 < most) = true := by simp at h; simp; omega
      clear h
      go_enter Tryd.func52, Tryd.ntmps52
      go_wp2_with fail
      refine (HR.out _).mono ?_
      rintro e w1 ⟨rfl, h1⟩
      go_wp2
      go_ret2
      exact ⟨rfl, thru hB h1⟩

theorem listSl_nil (W : World) : ListSl W.heap.size W (.slice none 0 0) [] := ⟨by decide, none, 0, rfl, fun h => absurd h (by simp)⟩
/-- Orders, the document's Orders, Count: one answer. -/
theorem ord_both (n : Int) (f : Nat → Nat) (m : Int) (hf : R64 f) : ∃ (ls : List (List Nat)) (E : Int), ls.length ≤ maxLen ∧
    (∀ w, Tab w → Calls Tryd.prog 51 #[.agg (relC n f), .int .i64 m] w fun e w' => (∃ v, e = .returned (.tuple #[v, .int .i64 E]) ∧ ListSl w'.heap.size w' v ls) ∧ Below w.heap.size w w') ∧
    (∀ w, Calls Tryd.prog 52 #[.agg (relC n f), .int .i64 m] w fun e w' => (∃ v, e = .returned (.tuple #[v, .int .i64 E]) ∧ ListSl w'.heap.size w' v ls) ∧ Below w.heap.size w w') ∧
    (∀ w, Tab w → Calls Tryd.prog 53 #[.agg (relC n f), .int .i64 m] w fun e w' => e = .returned (.tuple #[.int .i64 (ls.length : Int), .int .i64 E]) ∧ Below w.heap.size w w') := by
  cases hc : cntOk n f m with
  | false =>
    refine ⟨[], 2, by decide, fun w hT => ?_, fun w => ?_, fun w hT => count_bad n f m hf hc w⟩
    · refine (orders_err n f m 0 2 (by decide) w hT (fun W _ => count_bad n f m hf hc W)).mono ?_
      rintro e w' ⟨rfl, hb⟩
      exact ⟨⟨_, rfl, listSl_nil w'⟩, hb⟩
    · refine (refOrders_bad n f m hf hc w).mono ?_
      rintro e w' ⟨rfl, hb⟩
      exact ⟨⟨_, rfl, listSl_nil w'⟩, hb⟩
  | true =>
    unfold cntOk at hc
    simp only [Bool.and_eq_true, decide_eq_true_eq] at hc
    obtain ⟨⟨hr, h0⟩, h1⟩ := hc
    obtain ⟨M, rfl⟩ : ∃ M : Nat, m = (M : Int) := ⟨m.toNat, by omega⟩
    obtain ⟨N, rfl⟩ : ∃ N : Nat, n = (N : Int) := ⟨n.toNat, by have := ((rightB_of (n := n) hf).1 hr).1.1; omega⟩
    have hR : Rgt N f := hr
    have hM : M ≤ 10000 := by omega
    have hRef := fun w => refOrders_ok N f M hM hf hR (irr_top hR) w
    unfold RefOrdersPost at hRef
    have hCnt := fun w hT => count_ok N f M hM hf hr w hT
    unfold cntR at hCnt
    by_cases hle : (ordL N f).length ≤ M
    · simp only [if_pos hle] at hRef
      refine ⟨ordL N f, 0, by unfold maxLen; omega, fun w hT => orders_ok N f M hM hf hr hle w hT, hRef, fun w hT => ?_⟩
      have := hCnt w hT
      rwa [if_pos (by omega)] at this
    · simp only [if_neg hle] at hRef
      have hC2 : ∀ w, Tab w → Calls Tryd.prog 53 #[.agg (relC N f), .int .i64 (M : Int)] w fun e w' => e = .returned (.tuple #[.int .i64 0, .int .i64 5]) ∧ Below w.heap.size w w' := fun w hT => by
        have := hCnt w hT
        rwa [if_neg (by omega)] at this
      refine ⟨[], 5, by decide, fun w hT => ?_, hRef, hC2⟩
      refine (orders_err N f M 0 5 (by decide) w hT hC2).mono ?_
      rintro e w' ⟨rfl, hb⟩
      exact ⟨⟨_, rfl, listSl_nil w'⟩, hb⟩
end Go.Proofs.YtpbljciblgcgfaaDoor
end
