/- RefOrd3, RefOrd4, OrdTotAlg2, RefOrd5, RefOrd6, OrdAppend in one text, for the claim. -/
import Derived.Deep.RegionWith
import Derived.Test.YtpbljciblgcgfaaDoorOt6
import Derived.Test.YtpbljciblgcgfaaDoorOt7
import Derived.Deep.DeepMust
import Derived.Test.YtpbljciblgcgfaaDoorRelAid
import Derived.Test.YtpbljciblgcgfaaDoorOt2
import Derived.Test.YtpbljciblgcgfaaDoorOt4
import Derived.Laws.AppendOwnNone
import Derived.Deep.RegionLaw
import Derived.Deep.RegionLawGrows
import Derived.Test.YtpbljciblgcgfaaDoorOrdMarks

section
/- The reference's Keeps answers as the program's. -/
namespace Go.Proofs.YtpbljciblgcgfaaDoor
open Go.RowKit Go.Shelf

attribute [local go_sem] Oper.semAt_some

theorem hasB_at {N : Nat} {f : Nat → Nat} (hf : Rgt N f) {a b : Nat} (ha : a < N) (hb : b < N) : hasB N f a b = (f a).testBit b := by
  have h1 : rightB N f = true := hf
  have h2 : itemB N a = true := by simp [itemB]; omega
  have h3 : itemB N b = true := by simp [itemB]; omega
  simp [hasB, h1, h2, h3]
theorem keep_pairs {N : Nat} {f : Nat → Nat} (hf : Rgt N f) (h64 : R64 f) {l : List Nat} (hl : IsOrd N l) :
    keepB N f (iL l) = true ↔ ∀ a, a < N → ∀ b, b < N → (f a).testBit b = true → plc (iL l) a < plc (iL l) b := by
  rw [keep_iff hf h64, top_iff hf]
  constructor
  · rintro ⟨_, h⟩ a ha b hb hab
    exact (bef_plc hl ha hb).1 (h a b (by have := hf.le; omega) hab)
  · intro h
    refine ⟨hl, fun i j hi hb => ?_⟩
    have h1 := hf.fst hi hb
    have h2 := hf.snd hi hb
    exact (bef_plc hl h1 h2).2 (h i h1 j h2 hb)

set_option maxRecDepth 100000 in
set_option maxHeartbeats 4000000 in
theorem refKeeps_any (n : Int) (f : Nat → Nat) (hf : R64 f) (v : Value) (zs : List Int) (w : World) (hs : IntSl w.heap.size w v zs) :
    Calls Tryd.prog 60 #[.agg (relC n f), v] w fun e w' => e = .returned (.bool (keepB n f zs)) ∧ Below w.heap.size w w' := by
  have hA := RelAt.new w n f
  have hB := below_new w (.cells (relC n f) 26)
  have l1 := hA.ld
  have c0 := hA.num
  have HR := Lib.hid (refRight_any n f hf)
  have HS := Lib.hid hs
  clear hs
  cases hr : rightB n f
  · have hk := Lib.hid (show keepB n f zs = false by unfold keepB inB combB; rw [hr]; simp)
    rw [hr] at HR
    go_enter Tryd.func60, Tryd.ntmps60
    go_wp2_with fail
    refine (HR.out _).mono ?_
    rintro e w1 ⟨rfl, h1⟩
    have hB1 := Lib.hid (thru hB h1)
    clear hA hB l1 c0 h1
    go_wp2
    go_ret
    exact ⟨by rw [hk.out]; rfl, hB1.out⟩
  · obtain ⟨N, rfl⟩ : ∃ N : Nat, n = (N : Int) := ⟨n.toNat, by have := (rightB_iff.1 hr).1; omega⟩
    have gR : Rgt N f := hr
    have hN := gR.le
    rw [hr] at HR
    have HL := Lib.hid (fun v n₀ W h => by have := refListed_any N v zs n₀ W h; rw [listed_ord hN] at this; exact this)
    go_enter Tryd.func60, Tryd.ntmps60
    go_wp2_with fail
    refine (HR.out _).mono ?_
    rintro e w1 ⟨rfl, h1⟩
    have hB1 := thru hB h1
    have hA1 := hA.on h1
    clear hA hB l1 c0 h1
    have c0 := hA1.num
    have hB1' := Lib.hid hB1
    clear hB1
    go_wp2_with fail
    refine (HL.out _ _ _ ((HS.out.below hB1'.out).mono hB1'.out.size)).mono ?_
    rintro e w1 ⟨rfl, rfl⟩
    cases ho : ordB N zs
    · have hk := Lib.hid (show keepB N f zs = false by unfold keepB; rw [ho]; simp)
      clear hA1 c0
      go_wp2
      go_ret
      exact ⟨by rw [hk.out]; rfl, hB1'.out⟩
    · obtain ⟨l, hl, rfl⟩ := ord_cast ho
      have hkp := Lib.hid (keep_pairs gR hf hl)
      have HH := Lib.hid (fun (a b : Nat) (ha : a < N) (hb : b < N) W => by have := refRelHas_any N f a b hf W; rw [hasB_at gR ha hb] at this; exact this)
      have HP := Lib.hid (fun a v n₀ W h => refPlace_any v (iL l) a n₀ W h)
      have HX := Lib.hid (And.intro hA1 hB1'.out)
      have HI : Hid (∀ W, Below w.heap.size w W → IntSl W.heap.size W v (iL l)) := Lib.hid (fun W h => (HS.out.below h).mono h.size)
      clear hA1 hr HR HL ho
      replace hl := Lib.hid hl
      go_wp2
      go_loopw [5, 6] (fun i _ W => ∃ k : Nat, k ≤ N ∧ i = .int .i64 k ∧ (∀ a, a < k → ∀ b, b < N → (f a).testBit b = true → plc (iL l) a < plc (iL l) b) ∧ RelAt W w.heap.size N f ∧ Below w.heap.size w W) (fun i _ _ => N - (intOf i).toNat)
      case atStart => exact ⟨0, Nat.zero_le _, rfl, fun a h => by omega, HX.out.1, HX.out.2⟩
      case round =>
        clear HX c0
        obtain ⟨k, hk, rfl, hi, hR, hB⟩ := hrel
        have c0 := hR.num
        replace hi := Lib.hid hi
        by_cases hlt : k < N
        · have t1 : decide (k < N) = true := by simpa using hlt
          have HX := Lib.hid (And.intro hR hB)
          clear hR hB
          go_wp2
          go_loopw [6] (fun j W => ∃ q : Nat, q ≤ N ∧ j = .int .i64 q ∧ (∀ b, b < q → (f k).testBit b = true → plc (iL l) k < plc (iL l) b) ∧ RelAt W w.heap.size N f ∧ Below w.heap.size w W) (fun j _ => N - (intOf j).toNat)
          case atStart => exact ⟨0, Nat.zero_le _, rfl, fun b h => by omega, HX.out.1, HX.out.2⟩
          case round =>
            clear HX c0
            obtain ⟨q, hq, rfl, hj, hR, hB⟩ := hrel
            have c0 := hR.num
            replace hj := Lib.hid hj
            by_cases hlt2 : q < N
            · have t2 : decide (q < N) = true := by simpa using hlt2
              have l1 := hR.ld
              have HX := Lib.hid (And.intro hR hB)
              have hRl := hR.lt
              clear hR hB
              go_wp2_with fail
              refine (HH.out k q hlt hlt2 _).mono ?_
              rintro e w2 ⟨rfl, h2⟩
              have HX2 := Lib.hid (show RelAt w2 w.heap.size N f ∧ Below w.heap.size w w2 from ⟨HX.out.1.on h2, thru HX.out.2 h2⟩)
              clear h2 HX c0 l1
              cases hb : (f k).testBit q
              · have hj2 := Lib.hid (show ∀ b, b < q + 1 → (f k).testBit b = true → plc (iL l) k < plc (iL l) b from fun b h h2 => by
                  rcases Nat.lt_succ_iff_lt_or_eq.1 h with h | rfl
                  · exact hj.out b h h2
                  · rw [hb] at h2; cases h2)
                go_wp2
                go_roundw
                case rel => exact ⟨q + 1, by omega, by go_num, hj2.out, HX2.out.1, HX2.out.2⟩
                case measure => simp [intOf]; omega
              · have hI2 := Lib.hid (HI.out _ HX2.out.2)
                go_wp2_with fail
                refine (HP.out _ _ _ _ hI2.out).mono ?_
                rintro e w3 ⟨rfl, rfl⟩
                go_wp2_with fail
                refine (HP.out _ _ _ _ hI2.out).mono ?_
                rintro e w3 ⟨rfl, rfl⟩
                by_cases hp : plc (iL l) (q : Int) ≤ plc (iL l) (k : Int)
                · have t3 : decide (plc (iL l) (q : Int) ≤ plc (iL l) (k : Int)) = true := by simpa using hp
                  have hkf := Lib.hid (show keepB N f (iL l) = false by
                    cases h : keepB N f (iL l)
                    · rfl
                    · have := hkp.out.1 h k hlt q hlt2 hb
                      omega)
                  replace hp := Lib.hid hp
                  go_wp2
                  go_ret
                  exact ⟨by rw [hkf.out]; rfl, HX2.out.2⟩
                · have t3 : decide (plc (iL l) (q : Int) ≤ plc (iL l) (k : Int)) = false := by simpa using hp
                  have hj2 := Lib.hid (show ∀ b, b < q + 1 → (f k).testBit b = true → plc (iL l) k < plc (iL l) b from fun b h h2 => by
                    rcases Nat.lt_succ_iff_lt_or_eq.1 h with h | rfl
                    · exact hj.out b h h2
                    · omega)
                  replace hp := Lib.hid hp
                  go_wp2
                  go_roundw
                  case rel => exact ⟨q + 1, by omega, by go_num, hj2.out, HX2.out.1, HX2.out.2⟩
                  case measure => simp [intOf]; omega
            · obtain rfl : q = N := by omega
              have t2 : decide (q < q) = false := by simp
              have hi2 := Lib.hid (show ∀ a, a < k + 1 → ∀ b, b < q → (f a).testBit b = true → plc (iL l) a < plc (iL l) b from fun a h => by
                rcases Nat.lt_succ_iff_lt_or_eq.1 h with h | rfl
                · exact hi.out a h
                · exact hj.out)
              have HX := Lib.hid (And.intro hR hB)
              clear hR hB
              go_wp2
              go_roundw
              case rel => exact ⟨k + 1, by omega, by go_num, hi2.out, HX.out.1, HX.out.2⟩
              case measure => simp [intOf]; omega
        · obtain rfl : k = N := by omega
          have t1 : decide (k < k) = false := by simp
          have hkt := Lib.hid (hkp.out.2 hi.out)
          have HX := Lib.hid hB
          clear hB hR
          go_wp2
          go_ret
          exact ⟨by rw [hkt.out]; rfl, HX.out⟩
end Go.Proofs.YtpbljciblgcgfaaDoor
end

section
/- The reference's Total answers as the program's. -/
namespace Go.Proofs.YtpbljciblgcgfaaDoor
open Go.RowKit Go.Shelf Go.Maps

attribute [local go_sem] Oper.semAt_some

/-- The pairs of an order whose first stands before X, and those of X with what stands before Y. -/
structure PrsTo (l : List Nat) (X Y : Nat) (ps : List (It × It)) : Prop where
  mem : ∀ i j : Nat, (∃ p ∈ ps, p.1.1 = i ∧ p.2.1 = j) ↔ ∃ x y, x < y ∧ l[x]? = some i ∧ l[y]? = some j ∧ (x < X ∨ (x = X ∧ y < Y))
  len : ps.length ≤ 48 * X + Y
theorem prs_zero (l : List Nat) : PrsTo l 0 1 [] := ⟨fun i j => by
  constructor
  · rintro ⟨p, hp, _⟩; cases hp
  · rintro ⟨x, y, h1, _, _, h | ⟨h2, h3⟩⟩ <;> omega, by simp⟩
theorem PrsTo.step {l : List Nat} {X Y : Nat} {ps : List (It × It)} (h : PrsTo l X Y ps) (hXY : X < Y) {a b : It} (ha : l[X]? = some a.1) (hb : l[Y]? = some b.1) : PrsTo l X (Y + 1) (ps ++ [(a, b)]) := by
  refine ⟨fun i j => ?_, by have := h.len; simp; omega⟩
  have hm := h.mem i j
  constructor
  · rintro ⟨p, hp, h1, h2⟩
    rcases List.mem_append.1 hp with hp | hp
    · obtain ⟨x, y, h3, h4, h5, h6⟩ := hm.1 ⟨p, hp, h1, h2⟩
      exact ⟨x, y, h3, h4, h5, by omega⟩
    · simp at hp; subst hp; subst h1; subst h2
      exact ⟨X, Y, hXY, ha, hb, .inr ⟨rfl, by omega⟩⟩
  · rintro ⟨x, y, h3, h4, h5, h6⟩
    by_cases hxy : x = X ∧ y = Y
    · obtain ⟨rfl, rfl⟩ := hxy
      rw [ha] at h4; rw [hb] at h5
      exact ⟨(a, b), by simp, Option.some.inj h4, Option.some.inj h5⟩
    · obtain ⟨p, hp, h1, h2⟩ := hm.2 ⟨x, y, h3, h4, h5, by omega⟩
      exact ⟨p, by simp [hp], h1, h2⟩
theorem PrsTo.next {l : List Nat} {X : Nat} {ps : List (It × It)} (h : PrsTo l X l.length ps) (hl : l.length ≤ 48) : PrsTo l (X + 1) (X + 2) ps := by
  refine ⟨fun i j => (h.mem i j).trans ?_, by have := h.len; omega⟩
  constructor
  · rintro ⟨x, y, h3, h4, h5, h6⟩; exact ⟨x, y, h3, h4, h5, by omega⟩
  · rintro ⟨x, y, h3, h4, h5, h6⟩
    have := (List.getElem?_eq_some_iff.1 h5).1
    exact ⟨x, y, h3, h4, h5, by omega⟩
theorem PrsTo.good {N : Nat} {l : List Nat} (hN : N ≤ 48) (hl : IsOrd N l) {ps : List (It × It)} (h : PrsTo l N (N + 1) ps) : ofB N (ps.map itP) = true ∧ relC N (ofL (ps.map itP)) = relC N (totF N (iL l)) := by
  have hb : ∀ i j, (∃ p ∈ ps, p.1.1 = i ∧ p.2.1 = j) ↔ Bef l i j := fun i j => (h.mem i j).trans ⟨fun ⟨x, y, h3, h4, h5, _⟩ => ⟨x, y, h3, h4, h5⟩, fun ⟨x, y, h3, h4, h5⟩ => ⟨x, y, h3, h4, h5, by
    have := (List.getElem?_eq_some_iff.1 h5).1
    have := hl.len
    omega⟩⟩
  constructor
  · unfold ofB
    rw [Bool.and_eq_true, List.all_eq_true]
    refine ⟨sizedB_iff.2 (by omega), fun q hq => ?_⟩
    obtain ⟨p, hp, rfl⟩ := List.mem_map.1 hq
    obtain ⟨x, y, _, h4, h5⟩ := (hb p.1.1 p.2.1).1 ⟨p, hp, rfl, rfl⟩
    have h6 := (hl.mem _).1 (List.mem_of_getElem? h4)
    have h7 := (hl.mem _).1 (List.mem_of_getElem? h5)
    simp [goodP, itemB, itP]
    omega
  · exact relC_congr (same_bits fun i j _ => by rw [bt_ofL, bt_tot hN hl, hb])

set_option maxRecDepth 100000 in
set_option maxHeartbeats 4000000 in
theorem refTotal_any (n : Int) (v : Value) (zs : List Int) (w : World) (hs : IntSl w.heap.size w v zs) :
    Calls Tryd.prog 55 #[.int .i64 n, v] w fun e w' => e = .returned (.tuple #[.agg (relC (opN (ordB n zs) n) (totF n zs)), .bool (ordB n zs)]) ∧ Below w.heap.size w w' := by
  have hZ := RelAt.new w 0 zf
  have hB := below_new w (.cells (relC 0 zf) 26)
  have HS := Lib.hid ((hs.below hB).mono hB.size)
  clear hs
  have hbad : ∀ {n : Int} {zs : List Int}, ordB n zs = false → (totF n zs = zf) := fun h => by unfold totF; rw [h]; rfl
  replace hbad := @hbad n zs
  obtain ⟨Wz, hsz, hRz, hOz⟩ := hZ.put 0 zf
  have hBz := below_only hB hOz (Nat.le_refl _)
  by_cases h01 : n < 0 ∨ 48 < n
  · have ho : ordB n zs = false := by
      rw [Bool.eq_false_iff]
      intro h
      unfold ordB at h
      simp only [Bool.and_eq_true, decide_eq_true_eq] at h
      omega
    have hz := hbad ho
    clear hZ hB hOz
    rcases h01 with h0 | h0
    all_goals
      go_enter Tryd.func55, Tryd.ntmps55
      go_wp2
      refine bodyPost_ret (results_rel2 rfl _ _ _ _ _ rfl hRz) rfl ?_
      rw [ho, hz]
      exact ⟨rfl, hBz⟩
  · obtain ⟨N, rfl⟩ : ∃ N : Nat, n = (N : Int) := ⟨n.toNat, by omega⟩
    have hN : N ≤ 48 := by omega
    have t1 : decide ((N : Int) < 0) = false := by simp
    have t2 : decide (48 < (N : Int)) = false := by simp; omega
    have HL := Lib.hid (fun W h => by have := refListed_any N v zs (w.alloc (.cells (relC 0 zf) 26)).heap.size W h; rw [listed_ord hN] at this; exact this)
    clear h01 hOz
    replace hsz := Lib.hid hsz
    go_enter Tryd.func55, Tryd.ntmps55
    go_wp2_with fail
    refine (HL.out _ HS.out).mono ?_
    rintro e w1 ⟨rfl, rfl⟩
    cases ho : ordB N zs
    · have hz := hbad ho
      replace hsz := hsz.out
      go_wp2
      refine bodyPost_ret (results_rel2 rfl _ _ _ _ _ rfl hRz) rfl ?_
      rw [ho, hz]
      exact ⟨rfl, hBz⟩
    · obtain ⟨l, hl, rfl⟩ := ord_cast ho
      clear hbad hsz hRz hBz HL
      obtain ⟨i0, hi, hz0, hz1, hz2⟩ := info_parts infoPair
      have hlen := hl.len
      have hlI : (iL l).length = l.length := by simp [iL]
      obtain ⟨hm, ad, cv, rfl, hc⟩ := HS.out
      rw [hlI] at hc hm ⊢
      replace hc := Lib.hid hc
      have hBw := Lib.hid hB
      have hRw := Lib.hid hZ
      have hl48 : l.length ≤ 48 := by omega
      have hltw : w.heap.size < (w.alloc (.cells (relC 0 zf) 26)).heap.size := by simp
      clear HS hB hZ hm t1 t2
      generalize (w.alloc (.cells (relC 0 zf) 26)) = w1 at *
      replace hl := Lib.hid hl
      replace hlI := Lib.hid hlI
      obtain rfl := hlen
      go_wp2
      go_loopw [6, 7, 8] (fun u i _ W => ∃ (X : Nat) (ps : List (It × It)), X ≤ l.length ∧ i = .int .i64 X ∧ Hid (PrsTo l X (X + 1) ps) ∧ W.ownsRow w1.heap.size 72 2 u ps.length (pairCells ps) ∧ Below w1.heap.size w1 W) (fun _ i _ _ => l.length - (intOf i).toNat)
      case atStart => exact ⟨0, [], Nat.zero_le _, rfl, Lib.hid (prs_zero l), World.ownsRow_nil _ _ _ _, Below.refl _ _⟩
      case round =>
        obtain ⟨X, ps, hX, rfl, hps, hown, hB⟩ := hrel
        by_cases hlt : X < l.length
        · have t1 : decide (X < l.length) = true := by simpa using hlt
          go_wp2
          go_loopw [6, 8] (fun u j W => ∃ (Y : Nat) (ps : List (It × It)), X < Y ∧ Y ≤ l.length ∧ j = .int .i64 Y ∧ Hid (PrsTo l X Y ps) ∧ W.ownsRow w1.heap.size 72 2 u ps.length (pairCells ps) ∧ Below w1.heap.size w1 W) (fun _ j _ => l.length - (intOf j).toNat)
          case atStart => exact ⟨X + 1, ps, by omega, by omega, by go_num, hps, hown, hB⟩
          case round =>
            clear hps hown hB
            obtain ⟨Y, ps, hXY, hY, rfl, hps, hown, hB⟩ := hrel
            by_cases hltY : Y < l.length
            · have t2 : decide (Y < l.length) = true := by simpa using hltY
              obtain ⟨b, off, rfl, hb, hcl⟩ := hc.out (by omega)
              obtain ⟨x, hx⟩ : ∃ x, l[X]? = some x := ⟨l[X]'hlt, List.getElem?_eq_getElem _⟩
              obtain ⟨y, hy⟩ : ∃ y, l[Y]? = some y := ⟨l[Y]'hltY, List.getElem?_eq_getElem _⟩
              have cx := (hB.cell (p := ⟨b, off + X, none⟩) hb).trans (hcl X hlt)
              have cy := (hB.cell (p := ⟨b, off + Y, none⟩) hb).trans (hcl Y hltY)
              rw [iL_at hx, Option.getD_some] at cx
              rw [iL_at hy, Option.getD_some] at cy
              have hx48 : x < 48 := by have := (hl.out.mem x).1 (List.mem_of_getElem? hx); omega
              have hy48 : y < 48 := by have := (hl.out.mem y).1 (List.mem_of_getElem? hy); omega
              have hps2 := Lib.hid (hps.out.step hXY (a := ⟨x, hx48⟩) (b := ⟨y, hy48⟩) hx hy)
              have hpl : ps.length ≤ 2400 := by have := hps.out.len; omega
              have hsn := Lib.hid (pairCells_snoc ps (⟨x, hx48⟩, ⟨y, hy48⟩))
              have hsz := hB.size
              have hnews : Hid (∀ j u, [Value.int .i64 (x : Int), Value.int .i64 (y : Int)][j]? = some u → (wr.alloc (.cells #[.int .i64 (x : Int), .int .i64 (y : Int)] 72)).drew.cell? ((⟨wr.heap.size, 0, none⟩ : Addr).add j) = some u) := Lib.hid (by
                intro j u hu
                rw [Go.WideShapes.add_plain, Nat.zero_add]
                have h := cell_of_row (wr.alloc (.cells #[.int .i64 (x : Int), .int .i64 (y : Int)] 72)) wr.heap.size j _ _ _ (heap_alloc_new wr _)
                refine Eq.trans h ?_
                simpa using hu)
              replace hown := Lib.hid hown
              replace hB := Lib.hid hB
              clear hcl hx hy
              go_upto_region 10 with fail
              go_region_law (first
                | (refine step_append_keeps rfl (.tmp 34) (.tmp 44) 27 rfl w1.heap.size 72 i0 (.agg #[.int .i64 0, .int .i64 0]) 2 16 Tryd.underlying27 hi hz0 hz1 hz2 rfl (by decide) u6 ps.length (pairCells ps) rfl (hown.out.alloc _).drew ⟨wr.heap.size, 0, none⟩ 1 _ [.int .i64 (x : Int), .int .i64 (y : Int)] rfl rfl hnews.out (by simp [Value.oneCell']) (by unfold maxLen; omega) (by omega) (by simp; omega) ?_
                   intro v5 w5 hown5 hgrow5 _))
              all_goals
                have hown6 := Lib.hid (show w5.ownsRow w1.heap.size 72 2 v5 (ps ++ [((⟨x, hx48⟩ : It), (⟨y, hy48⟩ : It))]).length (pairCells (ps ++ [(⟨x, hx48⟩, ⟨y, hy48⟩)])) by
                  rw [hsn.out, List.length_append]
                  exact hown5)
                have hB6 := Lib.hid ((hB.out.alloc hsz (.cells #[.int .i64 (x : Int), .int .i64 (y : Int)] 72)).drew.grown hgrow5 (by simp; omega) (fun j hj => by
                  rcases hown.out.2 with ⟨rfl, _⟩ | ⟨g, cap, cur, rfl, hg, _⟩
                  · cases hj
                  · cases hj; exact hg))
                clear hown5 hgrow5
                go_wp2
                go_roundw
                case rel => exact ⟨Y + 1, _, by omega, by omega, by go_num, hps2, hown6.out, hB6.out⟩
                case measure => simp [intOf]; omega
            · obtain rfl : Y = l.length := by omega
              have t2 : decide (l.length < l.length) = false := by simp
              have hps2 := Lib.hid (hps.out.next hl48)
              replace hown := Lib.hid hown
              replace hB := Lib.hid hB
              go_wp2
              go_roundw
              case rel => exact ⟨X + 1, ps, by omega, by go_num, hps2, hown.out, hB.out⟩
              case measure => simp [intOf]; omega
        · obtain rfl : X = l.length := by omega
          have t1 : decide (l.length < l.length) = false := by simp
          obtain ⟨hg, hrl⟩ := hps.out.good hl48 hl.out
          have hP := Lib.hid (pairSl_of_row hown (by have := hps.out.len; unfold maxLen; omega))
          have CO := Lib.hid (fun W v h => show Calls Tryd.prog 15 #[.int .i64 (l.length : Int), v] W fun e w' => e = .returned (.tuple #[.agg (relC l.length (totF l.length (iL l))), .bool true]) ∧ Below W.heap.size W w' by
            have := refOf_any l.length v (ps.map itP) W h
            unfold RefOfPost at this
            rw [hg] at this
            simp only [opN, if_true] at this
            rwa [hrl] at this)
          have hRr := Lib.hid (hRw.out.below hB hltw)
          replace hB := Lib.hid hB
          clear hown hg hrl
          go_wp2_with fail
          refine (CO.out _ _ hP.out).mono ?_
          rintro e w5 ⟨rfl, h5⟩
          have hR5 := hRr.out.on h5
          obtain ⟨W6, hs6, hR6, hO6⟩ := hR5.put (l.length : Int) (totF l.length (iL l))
          have hB6 := below_only (thru (thru hBw.out hB.out) h5) hO6 (Nat.le_refl _)
          clear hR5 hO6
          go_wp2
          refine bodyPost_ret (results_rel2 rfl _ _ _ _ _ rfl hR6) rfl ?_
          rw [ordB_of hl48 hl.out]
          exact ⟨rfl, hB6⟩
end Go.Proofs.YtpbljciblgcgfaaDoor
end

section
/- The relation of an order: it determines the order. -/
namespace Go.Proofs.YtpbljciblgcgfaaDoor
open Go.RowKit Go.Shelf

theorem bef_tail {a : Nat} {l : List Nat} {i j : Nat} (h : Bef l i j) : Bef (a :: l) i j := by
  obtain ⟨x, y, h1, h2, h3⟩ := h
  exact ⟨x + 1, y + 1, by omega, by simpa using h2, by simpa using h3⟩
theorem bef_untail {a : Nat} {l : List Nat} {i j : Nat} (hi : i ≠ a) (h : Bef (a :: l) i j) : Bef l i j := by
  obtain ⟨x, y, h1, h2, h3⟩ := h
  cases x with
  | zero => simp at h2; exact absurd h2.symm hi
  | succ x =>
    cases y with
    | zero => omega
    | succ y => exact ⟨x, y, by omega, by simpa using h2, by simpa using h3⟩
/-- Two lists of the same things, without repetitions, the one's order being the other's, are the same. -/
theorem bef_uniq : ∀ {l m : List Nat}, l.Nodup → m.Nodup → (∀ x, x ∈ l ↔ x ∈ m) → (∀ i j, Bef l i j → Bef m i j) → l = m
  | [], m, _, _, hm, _ => by
    cases m with
    | nil => rfl
    | cons b m => exact absurd ((hm b).2 (by simp)) (by simp)
  | a :: l, [], _, _, hm, _ => absurd ((hm a).1 (by simp)) (by simp)
  | a :: l, b :: m, hl, hn, hm, hb => by
    have hab : a = b := by
      refine Classical.byContradiction fun hne => ?_
      have h1 : b ∈ l := by
        rcases List.mem_cons.1 ((hm b).2 (by simp)) with h | h
        · exact absurd h.symm hne
        · exact h
      obtain ⟨y, hy⟩ := List.getElem?_of_mem h1
      obtain ⟨x', y', h2, h3, h4⟩ := hb a b ⟨0, y + 1, by omega, by simp, by simpa using hy⟩
      have := idx_same hn h4 (j := 0) (by simp)
      omega
    subst hab
    have hl' := List.nodup_cons.1 hl
    have hn' := List.nodup_cons.1 hn
    have : l = m := bef_uniq hl'.2 hn'.2 (fun x => by
      have := hm x
      constructor
      · intro h
        have hne : x ≠ a := fun e => hl'.1 (e ▸ h)
        rcases List.mem_cons.1 (this.1 (by simp [h])) with h2 | h2
        · exact absurd h2 hne
        · exact h2
      · intro h
        have hne : x ≠ a := fun e => hn'.1 (e ▸ h)
        rcases List.mem_cons.1 (this.2 (by simp [h])) with h2 | h2
        · exact absurd h2 hne
        · exact h2) (fun i j h => by
      have hi : i ∈ l := by
        obtain ⟨x, _, _, h2, _⟩ := h
        exact List.mem_of_getElem? h2
      exact bef_untail (fun e => by rw [e] at hi; exact hl'.1 hi) (hb i j (bef_tail h)))
    rw [this]
theorem IsOrd.uniq {N : Nat} {l m : List Nat} (hl : IsOrd N l) (hm : IsOrd N m) (h : ∀ i j, Bef l i j → Bef m i j) : l = m :=
  bef_uniq hl.nodup hm.nodup (fun x => by rw [hl.mem, hm.mem]) h
theorem bef_lt {N : Nat} {l : List Nat} (hN : N ≤ 48) (hl : IsOrd N l) {i j : Nat} (h : Bef l i j) : i < 48 ∧ j < 48 := by
  obtain ⟨a, b, _, h2, h3⟩ := h
  have := (hl.mem i).1 (List.mem_of_getElem? h2)
  have := (hl.mem j).1 (List.mem_of_getElem? h3)
  omega
theorem top_tot {N : Nat} {l : List Nat} (hN : N ≤ 48) (hl : IsOrd N l) (m : List Nat) : TopOK N (totF N (iL l)) m ↔ IsOrd N m ∧ l = m := by
  rw [top_iff (rgt_tot hN hl)]
  constructor
  · rintro ⟨h1, h2⟩
    exact ⟨h1, hl.uniq h1 fun i j h => h2 i j (bef_lt hN hl h).1 ((bt_tot hN hl).2 h)⟩
  · rintro ⟨h1, rfl⟩
    exact ⟨h1, fun i j _ h => (bt_tot hN hl).1 h⟩
theorem keep_tot {N : Nat} {l m : List Nat} (hN : N ≤ 48) (hl : IsOrd N l) (hm : IsOrd N m) : keepB N (totF N (iL l)) (iL m) = decide (l = m) := by
  rw [Bool.eq_iff_iff, keep_iff (rgt_tot hN hl) (totF_64 _ _), top_tot hN hl, decide_eq_true_iff]
  exact ⟨fun h => h.2, fun h => ⟨hm, h⟩⟩
theorem topF_tot {N : Nat} {l : List Nat} (hN : N ≤ 48) (hl : IsOrd N l) : topF N (totF N (iL l)) = some l := by
  rcases top_cyc (rgt_tot hN hl) with ⟨l', h1, h2⟩ | ⟨_, hc⟩
  · rw [h1, ((top_tot hN hl l').1 h2).2]
  · exact absurd hc (((top_tot hN hl l).2 ⟨hl, rfl⟩).acyclic (rgt_tot hN hl))
theorem of_tot {N : Nat} {l : List Nat} (hN : N ≤ 48) (hl : IsOrd N l) : ofO N (totF N (iL l)) = some l := by
  unfold ofO
  rw [topF_tot hN hl]
  have h := ordB_of hN hl
  unfold iL at h ⊢
  have h2 : relB (N : Int) N (totF N (l.map fun k : Nat => (k : Int))) (totF N (l.map fun k : Nat => (k : Int))) = true := relB_bits fun _ _ _ => Iff.rfl
  simp only [h, opN, if_true]
  rw [if_pos h2]
theorem plus_tot {N : Nat} {l : List Nat} (hN : N ≤ 48) (hl : IsOrd N l) : relB N N (plusF N (totF N (iL l))) (totF N (iL l)) = true :=
  relB_bits fun _ _ hi => ⟨fun h => plus_min (rgt_tot hN hl) (fun _ _ _ h => h) (fun _ _ _ _ _ h1 h2 => (bt_tot hN hl).2 (((bt_tot hN hl).1 h1).trans hl.nodup ((bt_tot hN hl).1 h2))) hi h, plus_base (rgt_tot hN hl) hi⟩
theorem rev_ord {N : Nat} {l : List Nat} (hl : IsOrd N l) : IsOrd N l.reverse := ⟨(List.reverse_perm l).nodup_iff.2 hl.nodup, fun x => by rw [List.mem_reverse]; exact hl.mem x⟩
theorem bef_rev {l : List Nat} {i j : Nat} : Bef l.reverse i j ↔ Bef l j i := by
  have key : ∀ (l : List Nat) (i j : Nat), Bef l i j → Bef l.reverse j i := by
    rintro l i j ⟨a, b, h1, h2, h3⟩
    have ha := (List.getElem?_eq_some_iff.1 h2).1
    have hb := (List.getElem?_eq_some_iff.1 h3).1
    refine ⟨l.length - 1 - b, l.length - 1 - a, by omega, ?_, ?_⟩
    · rw [List.getElem?_reverse (by omega), show l.length - 1 - (l.length - 1 - b) = b by omega, h3]
    · rw [List.getElem?_reverse (by omega), show l.length - 1 - (l.length - 1 - a) = a by omega, h2]
  exact ⟨fun h => by have := key _ _ _ h; rwa [List.reverse_reverse] at this, key l j i⟩
theorem back_tot {N : Nat} {l : List Nat} (hN : N ≤ 48) (hl : IsOrd N l) : relB N N (backF N (totF N (iL l))) (totF N (iL l.reverse)) = true :=
  relB_bits fun i j hi => by
    rw [bt_back (rgt_tot hN hl) hi, bt_tot hN hl, bt_tot hN (rev_ord hl), bef_rev]
    exact ⟨fun h => h.2, fun h => ⟨(bef_lt hN hl h).1, h⟩⟩
end Go.Proofs.YtpbljciblgcgfaaDoor
end

section
/- The reference's Of: by how many stand ahead of each thing. -/
namespace Go.Proofs.YtpbljciblgcgfaaDoor
open Go.RowKit Go.Shelf

attribute [local go_sem] Oper.semAt_some

/-- The list is an order, and the relation is its. -/
structure OrdRel (N : Nat) (f : Nat → Nat) (l : List Nat) : Prop where
  ord : IsOrd N l
  bits : ∀ i j, i < 48 → (Bt f i j ↔ Bef l i j)
theorem OrdRel.of {N : Nat} {f : Nat → Nat} (hN : N ≤ 48) {l : List Nat} (h : IsOrd N l) (he : relB N N (totF N (iL l)) f = true) : OrdRel N f l := by
  refine ⟨h, fun i j hi => ?_⟩
  have := (relB_iff.1 he).2 i hi
  unfold Bt
  rw [← this]
  exact bt_tot hN h
theorem OrdRel.of_some {N : Nat} {f : Nat → Nat} (hf : Rgt N f) {l : List Nat} (h : OrdRel N f l) : ofO N f = some l := by
  have ht : TopOK N f l := (top_iff hf).2 ⟨h.ord, fun i j hi hb => (h.bits i j hi).1 hb⟩
  have hu : ∀ m, TopOK N f m → m = l := fun m hm => by
    obtain ⟨h1, h2⟩ := (top_iff hf).1 hm
    exact (h.ord.uniq h1 fun i j hb => h2 i j (bef_lt hf.le h.ord hb).1 ((h.bits i j (bef_lt hf.le h.ord hb).1).2 hb)).symm
  unfold ofO
  rcases top_cyc hf with ⟨l', h1, h2⟩ | ⟨_, hc⟩
  · obtain rfl := hu l' h2
    rw [h1]
    have h3 := ordB_of hf.le h.ord
    unfold iL at h3
    have h4 : relB (N : Int) N (totF N (l'.map fun k : Nat => (k : Int))) f = true := relB_bits fun i j hi => by
      have := bt_tot (i := i) (j := j) hf.le h.ord
      unfold iL at this
      rw [this, h.bits i j hi]
    simp only [h3, opN, if_true]
    rw [if_pos h4]
  · exact absurd hc (ht.acyclic hf)
theorem of_none {N : Nat} {f : Nat → Nat} (hf : Rgt N f) (h : ∀ l, ¬ OrdRel N f l) : ofO N f = none := by
  unfold ofO
  cases ht : topF N f with
  | none => rfl
  | some T =>
    simp only
    split
    · rename_i hb
      refine absurd ?_ (h T)
      rcases top_cyc hf with ⟨l', h1, h2⟩ | ⟨h1, _⟩
      · rw [ht] at h1
        obtain rfl := Option.some.inj h1
        have h3 := ordB_of hf.le h2.ord
        unfold iL at h3
        simp only [h3, opN, if_true] at hb
        exact OrdRel.of hf.le h2.ord hb
      · rw [ht] at h1; cases h1
    · rfl
/-- How many of the first j stand ahead of a. -/
def aheadN (f : Nat → Nat) (a j : Nat) : Nat := ((List.range j).filter fun b => (f b).testBit a).length
theorem aheadN_zero (f : Nat → Nat) (a : Nat) : aheadN f a 0 = 0 := rfl
theorem aheadN_succ (f : Nat → Nat) (a j : Nat) : aheadN f a (j + 1) = aheadN f a j + if (f j).testBit a then 1 else 0 := by
  unfold aheadN
  rw [List.range_succ, List.filter_append, List.length_append]
  by_cases h : (f j).testBit a <;> simp [h]
theorem aheadN_le (f : Nat → Nat) (a j : Nat) : aheadN f a j ≤ j := by
  unfold aheadN
  exact Nat.le_trans (List.length_filter_le _ _) (by simp)
theorem OrdRel.ahead {N : Nat} {f : Nat → Nat} (hN : N ≤ 48) {l : List Nat} (h : OrdRel N f l) {a p : Nat} (hp : l[p]? = some a) : aheadN f a N = p := by
  have hlt := (List.getElem?_eq_some_iff.1 hp).1
  have : aheadN f a N = (l.take p).length := by
    unfold aheadN
    refine same_len (List.Pairwise.filter _ List.nodup_range) ((List.take_sublist p l).nodup h.ord.nodup) fun b => ?_
    rw [List.mem_filter, List.mem_range, mem_take hp]
    constructor
    · rintro ⟨h1, h2⟩
      obtain ⟨x, y, h3, h4, h5⟩ := (h.bits b a (by omega)).1 h2
      have := idx_same h.ord.nodup h5 hp
      exact ⟨x, by omega, h4⟩
    · rintro ⟨m, h1, h2⟩
      have h3 := (h.ord.mem b).1 (List.mem_of_getElem? h2)
      exact ⟨h3, (h.bits b a (by omega)).2 ⟨m, p, h1, h2, hp⟩⟩
  rw [this, List.length_take]
  omega
/-- What the list holds once k things are laid. -/
def LaidTo (N : Nat) (f : Nat → Nat) (k : Nat) (A : List Int) : Prop := A.length = N ∧ ∀ l, OrdRel N f l → ∀ a, a < k → ∀ p : Nat, l[p]? = some a → A[p]? = some (a : Int)
theorem laid_zero (N : Nat) (f : Nat → Nat) : LaidTo N f 0 (List.replicate N 0) := ⟨by simp, fun _ _ a h => by omega⟩
theorem LaidTo.step {N : Nat} {f : Nat → Nat} (hN : N ≤ 48) {k : Nat} (hk : k < N) {A : List Int} (h : LaidTo N f k A) : LaidTo N f (k + 1) (A.set (aheadN f k N) (k : Int)) := by
  refine ⟨by rw [List.length_set]; exact h.1, fun l hl a ha p hp => ?_⟩
  have hlt := (List.getElem?_eq_some_iff.1 hp).1
  have hlN := hl.ord.len
  by_cases hak : a = k
  · subst hak
    rw [hl.ahead hN hp, List.getElem?_set_self (by rw [h.1]; omega)]
  · rw [List.getElem?_set_ne, h.2 l hl a (by omega) p hp]
    intro e
    obtain ⟨q, hq⟩ := List.getElem?_of_mem ((hl.ord.mem k).2 hk)
    rw [hl.ahead hN hq] at e
    subst e
    rw [hp] at hq
    exact hak (Option.some.inj hq)
theorem LaidTo.all {N : Nat} {f : Nat → Nat} {A : List Int} (h : LaidTo N f N A) {l : List Nat} (hl : OrdRel N f l) : A = iL l := by
  have hlN := hl.ord.len
  refine List.ext_getElem? fun p => ?_
  by_cases hp : p < N
  · have ha : l[p]? = some (l[p]'(by omega)) := List.getElem?_eq_getElem _
    rw [h.2 l hl _ ((hl.ord.mem _).1 (List.mem_of_getElem? ha)) p ha, iL_at ha]
  · rw [List.getElem?_eq_none (by rw [h.1]; omega), List.getElem?_eq_none (by simp [iL]; omega)]

theorem own_on {W W' : World} {b : Nat} {e : TypeId} {v : Value} {n : Nat} {xs : List Value} (h : W.ownsRow b e 1 v n xs) (hb : Below W.heap.size W W') : W'.ownsRow b e 1 v n xs := by
  refine h.kept (row := none) ⟨hb.os, hb.tape, hb.output, hb.size, fun k hk _ => hb.block k hk⟩ ?_
  rcases h.2 with ⟨rfl, _⟩ | ⟨g, cap, cur, rfl, _⟩
  · exact .inl rfl
  · exact .inr (by simp [Value.ownBlock])
theorem make_ints (W : World) (N : Nat) (hN : N ≤ 48) : ∃ W', (Instr.makeSlice 46 (.int .i64 (N : Int)) (.int .i64 (N : Int))).run Tryd.prog W = .ok (.slice (some ⟨W.heap.size, 0, none⟩) N N) W' ∧
    W'.ownsRow W.heap.size 3 1 (.slice (some ⟨W.heap.size, 0, none⟩) N N) N ((List.replicate N (0 : Int)).map (Value.int .i64)) ∧ Below W.heap.size W W' := by
  obtain ⟨i, hi, hz, hsz, hby⟩ := infoIntC
  obtain ⟨W', hr, h1, h2⟩ := run_makeSlice_full (P := Tryd.prog) (w := W) W.heap.size 46 3 i (.int .i64 0) 1 Tryd.underlying46 hi hz hsz .i64 .i64 N (by omega) (by rw [hby]; omega) (by unfold maxLen; omega) (Nat.le_refl _)
  refine ⟨W', hr, ?_, ⟨h2.os, h2.tape, h2.output, h2.size, fun k hk => h2.block k hk (by simp)⟩⟩
  rw [show (Value.int .i64 0).cells = #[.int .i64 0] from rfl, Nat.mul_one, toList_madeCells_one] at h1
  rw [List.map_replicate]
  exact h1

set_option maxRecDepth 100000 in
set_option maxHeartbeats 4000000 in
theorem refOrdOf_any (n : Int) (f : Nat → Nat) (hf : R64 f) (w : World) :
    Calls Tryd.prog 57 #[.agg (relC n f)] w fun e w' => ∃ v, e = .returned (.tuple #[v, .bool (ofO n f).isSome]) ∧ SlI w'.heap.size w' v ((ofO n f).getD []) ∧ Below w.heap.size w w' := by
  have hA := RelAt.new w n f
  have hB := below_new w (.cells (relC n f) 26)
  have l1 := hA.ld
  have HR := Lib.hid (refRight_any n f hf)
  have hnil : ∀ W : World, SlI W.heap.size W (.slice none 0 0) [] := fun W => ⟨by decide, none, 0, rfl, fun h => absurd h (by simp)⟩
  replace hnil := Lib.hid hnil
  cases hr : rightB n f
  · have ho := Lib.hid (show ofO n f = none by simp [ofO, topF, hr])
    rw [hr] at HR
    go_enter Tryd.func57, Tryd.ntmps57
    go_wp2_with fail
    refine (HR.out _).mono ?_
    rintro e w1 ⟨rfl, h1⟩
    have hB1 := Lib.hid (thru hB h1)
    clear hA hB l1 h1
    go_wp2
    go_ret2
    rw [ho.out]
    exact ⟨_, rfl, hnil.out _, hB1.out⟩
  · obtain ⟨N, rfl⟩ : ∃ N : Nat, n = (N : Int) := ⟨n.toNat, by have := (rightB_iff.1 hr).1; omega⟩
    have gR : Rgt N f := hr
    have hN := gR.le
    rw [hr] at HR
    have HH := Lib.hid (fun (a b : Nat) (ha : a < N) (hb : b < N) W => by have := refRelHas_any N f a b hf W; rw [hasB_at gR ha hb] at this; exact this)
    go_enter Tryd.func57, Tryd.ntmps57
    go_wp2_with fail
    refine (HR.out _).mono ?_
    rintro e w1 ⟨rfl, h1⟩
    have hB1 := thru hB h1
    have hA1 := hA.on h1
    have c0 := hA1.num
    clear hA hB l1 h1 HR hr
    obtain ⟨Wm, hmk, hown, hbm⟩ := make_ints w1 N hN
    have hlo := hA1.lt
    have hX := Lib.hid (show RelAt Wm w.heap.size N f ∧ Below w.heap.size w Wm from ⟨hA1.on hbm, thru hB1 hbm⟩)
    have c1 := hX.out.1.num
    replace hown := Lib.hid hown
    clear hbm hA1 hB1
    go_wp2
    clear hmk c0 c1
    go_loopw [5, 6, 7] (fun i _ _ W => ∃ (k : Nat) (A : List Int), k ≤ N ∧ i = .int .i64 k ∧ Hid (LaidTo N f k A) ∧ Hid (W.ownsRow w1.heap.size 3 1 (.slice (some ⟨w1.heap.size, 0, none⟩) N N) N (A.map (Value.int .i64))) ∧ RelAt W w.heap.size N f ∧ Below w.heap.size w W) (fun i _ _ _ => N - (intOf i).toNat)
    case atStart => exact ⟨0, _, Nat.zero_le _, rfl, Lib.hid (laid_zero N f), hown, hX.out.1, hX.out.2⟩
    case round =>
      clear hX hown
      obtain ⟨k, A, hk, rfl, hA, hown, hR, hB⟩ := hrel
      have c0 := hR.num
      by_cases hlt : k < N
      · have t1 : decide (k < N) = true := by simpa using hlt
        have hX := Lib.hid (And.intro hR hB)
        clear hR hB
        go_wp2
        clear c0
        go_loopw [6, 7] (fun c j W => ∃ q : Nat, q ≤ N ∧ j = .int .i64 q ∧ c = .int .i64 (aheadN f k q : Nat) ∧ Hid (W.ownsRow w1.heap.size 3 1 (.slice (some ⟨w1.heap.size, 0, none⟩) N N) N (A.map (Value.int .i64))) ∧ RelAt W w.heap.size N f ∧ Below w.heap.size w W) (fun _ j _ => N - (intOf j).toNat)
        case atStart => exact ⟨0, Nat.zero_le _, rfl, rfl, hown, hX.out.1, hX.out.2⟩
        case round =>
          clear hX hown
          obtain ⟨q, hq, rfl, rfl, hown, hR, hB⟩ := hrel
          have c0 := hR.num
          by_cases hlt2 : q < N
          · have t2 : decide (q < N) = true := by simpa using hlt2
            have l1 := hR.ld
            have hX := Lib.hid (And.intro hR hB)
            clear hR hB
            have hsu := aheadN_succ f k q
            have hle := aheadN_le f k q
            cases hb : (f q).testBit k
            all_goals
              simp only [hb, if_true, Bool.false_eq_true, if_false, Nat.add_zero] at hsu
              replace hsu := Lib.hid hsu
              have CH := HH.out q k hlt2 hlt
              rw [hb] at CH
              replace CH := Lib.hid CH
              go_wp2_with fail
              refine (CH.out _).mono ?_
              rintro e w2 ⟨rfl, h2⟩
              have hX2 := Lib.hid (show RelAt w2 w.heap.size N f ∧ Below w.heap.size w w2 from ⟨hX.out.1.on h2, thru hX.out.2 h2⟩)
              have hown2 := Lib.hid (own_on hown.out h2)
              clear h2 l1 c0
              go_wp2
              go_roundw
              case rel => exact ⟨q + 1, by omega, by go_num, by rw [hsu.out] <;> go_num, hown2, hX2.out.1, hX2.out.2⟩
              case measure => simp [intOf]; omega
          · obtain rfl : q = N := by omega
            have t2 : decide (q < q) = false := by simp
            have hle := aheadN_le f k q
            have hX := Lib.hid (And.intro hR hB)
            clear hR hB
            by_cases hc : aheadN f k q < q
            · have t3 : decide (q ≤ aheadN f k q) = false := by simpa using hc
              have hA2 := Lib.hid (hA.out.step hN hlt)
              have hAl := hA.out.1
              have cc := hown.out.cellAt (aheadN f k q) (by omega)
              have cf := hown.out.frozenAt (aheadN f k q)
              obtain ⟨z, hz⟩ : ∃ z, A[aheadN f k q]? = some z := ⟨A[aheadN f k q]'(by omega), List.getElem?_eq_getElem _⟩
              rw [List.getElem?_map, hz] at cc
              have cc2 : wr.cell? ⟨w1.heap.size, aheadN f k q, none⟩ = some (.int .i64 z) := cc
              clear cc hz
              have hown2 := (hown.out.stored (aheadN f k q) (.int .i64 (k : Int))).1
              rw [show (A.map (Value.int .i64)).set (aheadN f k q) (.int .i64 (k : Int)) = (A.set (aheadN f k q) (k : Int)).map (Value.int .i64) by rw [List.map_set]] at hown2
              replace hown2 := Lib.hid hown2
              have hlw : w.heap.size < w1.heap.size := by omega
              have hX2 := Lib.hid (show RelAt (wr.setCell ⟨w1.heap.size, aheadN f k q, none⟩ (.int .i64 (k : Int))) w.heap.size q f ∧ Below w.heap.size w (wr.setCell ⟨w1.heap.size, aheadN f k q, none⟩ (.int .i64 (k : Int))) from ⟨hX.out.1.other _ _ (by show _ ≠ w1.heap.size; omega), hX.out.2.setCell (by show _ ≤ w1.heap.size; omega) _⟩)
              replace hAl := Lib.hid hAl
              go_wp2
              go_roundw
              case rel => exact ⟨k + 1, _, by omega, by go_num, hA2, hown2, hX2.out.1, hX2.out.2⟩
              case measure => simp [intOf]; omega
            · have t3 : decide (q ≤ aheadN f k q) = true := by simpa using hc
              have ho := Lib.hid (show ofO q f = none from of_none gR fun l hl => by
                obtain ⟨p, hp⟩ := List.getElem?_of_mem ((hl.ord.mem k).2 hlt)
                have h1 := hl.ahead hN hp
                have h2 := (List.getElem?_eq_some_iff.1 hp).1
                have h3 := hl.ord.len
                omega)
              go_wp2
              go_ret2
              rw [ho.out]
              exact ⟨_, rfl, hnil.out _, hX.out.2⟩
      · obtain rfl : k = N := by omega
        have t1 : decide (k < k) = false := by simp
        have hs : IntSl wr.heap.size wr (.slice (some ⟨w1.heap.size, 0, none⟩) k k) A := numSl_of_row (base := w1.heap.size) (e := 3) (by rw [hA.out.1]; exact hown.out) (by rw [hA.out.1]; unfold maxLen; omega)
        have hX := Lib.hid (And.intro hR hB)
        have hRl := hR.lt
        clear hR hB
        go_wp2_with fail
        refine (refTotal_any k _ A wr hs).mono ?_
        rintro e w5 ⟨rfl, h5⟩
        have hX5 := Lib.hid (show RelAt w5 w.heap.size k f ∧ Below w.heap.size w w5 from ⟨hX.out.1.on h5, thru hX.out.2 h5⟩)
        have hown5 := Lib.hid (own_on hown.out h5)
        clear hown hX h5 hs c0
        have hall := Lib.hid (fun l (hl : OrdRel k f l) => hA.out.all hl)
        cases ho : ordB k A
        · have hno := Lib.hid (show ofO k f = none from of_none gR fun l hl => by
            rw [hall.out l hl, ordB_of hN hl.ord] at ho
            cases ho)
          obtain ⟨W6, hs6, hR6, h6, -⟩ := Ex.lay w5 (opN false (k : Int)) (totF k A)
          have hB6 := Lib.hid (thru hX5.out.2 h6)
          clear hR6 h6
          go_wp2
          go_ret2
          rw [hno.out]
          exact ⟨_, rfl, hnil.out _, hB6.out⟩
        · obtain ⟨l', hl', rfl⟩ := ord_cast ho
          obtain ⟨W6, hs6, hR6, h6, -⟩ := Ex.lay w5 (opN true (k : Int)) (totF k (iL l'))
          have hB6 := Lib.hid (thru hX5.out.2 h6)
          have ho6 := Lib.hid (own_on hown5.out h6)
          have l6 := hR6.ld
          have l7 := (hX5.out.1.on h6).ld
          clear hR6 h6
          have hop : opN true (k : Int) = k := rfl
          rw [hop] at l6 hs6
          cases hb : relB k k (totF k (iL l')) f
          · have hno := Lib.hid (show ofO k f = none from of_none gR fun l hl => by
              have h1 := hall.out l hl
              rw [h1, relB_bits (N := (k : Int)) fun i j hi => by rw [bt_tot hN hl.ord, hl.bits i j hi]] at hb
              cases hb)
            go_wp2
            go_ret2
            rw [hno.out]
            exact ⟨_, rfl, hnil.out _, hB6.out⟩
          · have hyes := Lib.hid (OrdRel.of_some gR (OrdRel.of hN hl' hb))
            have hlen := hl'.len
            have hsl := Lib.hid (show SlI W6.heap.size W6 (.slice (some ⟨w1.heap.size, 0, none⟩) k k) l' from slI_of_row (base := w1.heap.size) (by
              rw [hlen]
              have h := ho6.out
              rw [show (iL l').map (Value.int .i64) = l'.map intV by simp [iL, intV]] at h
              exact h) (by rw [hlen]; unfold maxLen; omega))
            replace hlen := Lib.hid hlen
            go_wp2
            go_ret2
            rw [hyes.out]
            exact ⟨_, rfl, hsl.out, hB6.out⟩
end Go.Proofs.YtpbljciblgcgfaaDoor
end

section
/- The reference's list of orders is the program's. -/
namespace Go.Proofs.YtpbljciblgcgfaaDoor
open Go.RowKit Go.Shelf

/-- May a go on after xs? -/
def mayB (N : Nat) (f : Nat → Nat) (xs : List Nat) (a : Nat) : Bool := !xs.contains a && (List.range N).all fun b => !(f b).testBit a || xs.contains b
/-- All orders that go on from xs by d things, as the reference lists them. -/
def goL (N : Nat) (f : Nat → Nat) : Nat → List Nat → List (List Nat)
  | 0, xs => [xs]
  | d + 1, xs => ((List.range N).filter (mayB N f xs)).flatMap fun a => goL N f d (xs ++ [a])
theorem range_filter_ge {N M : Nat} (h : N ≤ M) (p : Nat → Bool) (hp : ∀ a, N ≤ a → p a = false) : (List.range M).filter p = (List.range N).filter p := by
  obtain ⟨k, rfl⟩ := Nat.exists_eq_add_of_le h
  clear h
  induction k with
  | zero => rfl
  | succ k ih =>
    rw [← Nat.add_assoc, List.range_succ, List.filter_append, ih, show [N + k].filter p = [] by simp [hp (N + k) (by omega)], List.append_nil]
theorem ready_may {N : Nat} {f : Nat → Nat} (hf : Rgt N f) {s : Nat} {xs : List Nat} (hs : ∀ a, s.testBit a = true ↔ a < N ∧ a ∉ xs) : readyL (invF N f) s = (List.range N).filter (mayB N f xs) := by
  have hN := hf.le
  unfold readyL readyT MM.els
  rw [List.filter_filter]
  rw [range_filter_ge (N := N) (by omega) _ (fun a ha => by
    have : s.testBit a = false := by
      cases h : s.testBit a
      · rfl
      · have := ((hs a).1 h).1; omega
    simp [this])]
  refine List.filter_congr fun a ha => ?_
  have ha' := List.mem_range.1 ha
  rw [Bool.eq_iff_iff]
  simp only [mayB, Bool.and_eq_true, decide_eq_true_eq, Bool.not_eq_true', List.contains_eq_mem, decide_eq_false_iff_not, List.all_eq_true, List.mem_range, Bool.or_eq_true]
  rw [hs a]
  constructor
  · rintro ⟨h1, _, h2⟩
    refine ⟨h2, fun b hb => ?_⟩
    by_cases hx : b ∈ xs
    · exact .inr hx
    · refine .inl ?_
      cases hba : (f b).testBit a
      · rfl
      · exfalso
        have h3 : (invF N f a).testBit b = true := (bt_back hf (by omega)).2 ⟨by omega, hba⟩
        have h4 : (invF N f a &&& s).testBit b = true := by rw [Nat.testBit_and, h3, (hs b).2 ⟨hb, hx⟩]; rfl
        rw [h1, Nat.zero_testBit] at h4
        cases h4
  · rintro ⟨h1, h2⟩
    refine ⟨?_, ha', h1⟩
    refine Nat.eq_of_testBit_eq fun b => ?_
    rw [Nat.testBit_and, Nat.zero_testBit]
    cases h3 : (invF N f a).testBit b
    · rfl
    · cases h4 : s.testBit b
      · rfl
      · exfalso
        obtain ⟨hb, hx⟩ := (hs b).1 h4
        have h5 := ((bt_back hf (show a < 48 by omega)).1 h3).2
        rcases h2 b hb with h6 | h6
        · unfold Bt at h5; rw [h6] at h5; cases h5
        · exact hx h6
theorem goL_compl {N : Nat} {f : Nat → Nat} (hf : Rgt N f) : ∀ (d s : Nat) (xs : List Nat), s < 2 ^ 48 → (∀ a, s.testBit a = true ↔ a < N ∧ a ∉ xs) → goL N f d xs = compl (invF N f) d s xs
  | 0, _, _, _, _ => rfl
  | d + 1, s, xs, hlt, hs => by
    rw [goL, compl, ready_may hf hs]
    have hN := hf.le
    have key : ∀ ys : List Nat, (∀ a ∈ ys, a < N) → (ys.flatMap fun a => goL N f d (xs ++ [a])) = ys.flatMap fun a => compl (invF N f) d (clr s a) (xs ++ [a]) := by
      intro ys
      induction ys with
      | nil => intro _; rfl
      | cons a ys ih =>
        intro h
        have ha := h a (by simp)
        rw [List.flatMap_cons, List.flatMap_cons, ih fun b hb => h b (by simp [hb])]
        rw [goL_compl hf d (clr s a) (xs ++ [a]) (Nat.lt_of_le_of_lt Nat.and_le_left hlt) fun b => by
          rw [clr_bit s a hlt (by omega) b, Bool.and_eq_true, hs b, decide_eq_true_iff]
          simp only [List.mem_append, List.mem_singleton, not_or]
          exact ⟨fun ⟨⟨h1, h2⟩, h3⟩ => ⟨h1, h2, h3⟩, fun ⟨h1, h2, h3⟩ => ⟨⟨h1, h2⟩, h3⟩⟩]
    exact key _ fun a ha => List.mem_range.1 (List.mem_filter.1 ha).1
/-- Where there is no cycle, the reference's list is the program's. -/
theorem goL_ordL {N : Nat} {f : Nat → Nat} (hf : Rgt N f) (h : (topF N f).isSome = true) : goL N f N [] = ordL N f := by
  unfold ordL
  rw [if_pos h]
  exact goL_compl hf N _ [] (all_lt hf.le) fun a => by
    rw [allOf_bits N a hf.le, decide_eq_true_iff]
    simp
end Go.Proofs.YtpbljciblgcgfaaDoor
end

section
/- Appends of slices of integers in a region that draws its order, for stage 3's laws. -/
namespace Go.Proofs.YtpbljciblgcgfaaDoor
open Go.RowKit Go.Shelf

/-- The same law inside a region that draws its order, the slice that is appended to being the call's own. -/
theorem step_append_num {P : Program} {ops : Array Oper} {o : Oper} {a : Act} {w : World} {K : Act → World → Prop} {Q : Exit → Act → World → Prop} {E : Prop}
    (hg : o.guard = none) (s x : Operand) (t : TypeId) (hop : o.op = Op.call { callee := Callee.builtin Builtin.append, args := #[s, x], argTypes := #[t, t] })
    (base : Nat) (e : TypeId) (i : TypeInfo) (z : Value) (bytes : Nat) (ht : P.underlying t = some (.slice e)) (hi : P.info? e = some i) (hz : i.zero = some z)
    (hsize : i.size = 1) (hby : i.bytes = bytes) (hzs : z.cells.size = 1)
    (v : Value) (n : Nat) (xs : List Value) (hs : a.eval s = v) (hown : w.ownsRow base e 1 v n xs)
    (ad : Addr) (m c : Nat) (news : List Value) (hx : a.eval x = .slice (some ad) m c) (hl : news.length = m) (hnews : ∀ j u, news[j]? = some u → w.cell? (ad.add j) = some u) (h1 : ∀ u ∈ news, u.oneCell' = true)
    (h63 : n + m ≤ maxLen) (hbytes : (n + m) * bytes ≤ 140737488355328) (hbase : base ≤ w.heap.size)
    (h : ∀ v' w', w'.ownsRow base e 1 v' (n + m) (xs ++ news) → w.grownBy w' v.ownBlock → (v' = .slice none 0 0 ↔ v = .slice none 0 0 ∧ m = 0) → K (a.put o.dst v') w') :
    if Region.wanted o (yielded ops a.tmps) = true then Oper.wp P o a w K Q else E := by
  have hw : Region.wanted o (yielded ops a.tmps) = true := by simp [Region.wanted, hg]
  rw [if_pos hw]
  exact wp_append_own w s x t hop base e i z 1 bytes ht hi hz hsize hby hzs (by decide) v n xs hs hown ad m c news hx (by omega) hnews h1 h63 hbytes hbase h

theorem elemInts : Tryd.prog.underlying 46 = some (.slice (Tryd.prog.elem 46)) := by kernel_rfl
theorem sizeInts (w : World) : (sizeOf (Tryd.prog.elem 46)).run Tryd.prog w = .ok 1 w := by kernel_rfl
def backAt (g c k : Nat) : Addr := if c = k then ⟨g, 0, none⟩ else ⟨g, k, none⟩
/-- 'xs[:k:k]' -/
theorem slice_front (g N c k : Nat) (hk : k ≤ c) (w : World) :
    (Instr.slice 46 (.slice (some ⟨g, 0, none⟩) N c) none (some (.int .i64 (k : Int))) (some (.int .i64 (k : Int)))).run Tryd.prog w = .ok (.slice (some ⟨g, 0, none⟩) k k) w := by
  rw [run_slice_hm w 46 (some ⟨g, 0, none⟩) N c elemInts .i64 .i64 (k : Int) (k : Int) (by omega) (by omega) (by omega), sizeInts]
  simp [Result.andThen, sliced, Addr.add]
/-- 'xs[k:]' -/
theorem slice_back (g N c k : Nat) (hk : k ≤ N) (w : World) :
    (Instr.slice 46 (.slice (some ⟨g, 0, none⟩) N c) (some (.int .i64 (k : Int))) none none).run Tryd.prog w = .ok (.slice (some (backAt g c k)) (N - k) (c - k)) w := by
  rw [run_slice_l w 46 (some ⟨g, 0, none⟩) N c elemInts .i64 (k : Int) (by omega) (by omega), sizeInts]
  unfold backAt
  by_cases h : c = k
  · simp [Result.andThen, sliced, h]
  · by_cases h0 : k = 0
    · simp [Result.andThen, sliced, Addr.add, h0]
    · simp [Result.andThen, sliced, Addr.add, h, h0]
theorem oneCells (l : List Int) : ∀ u ∈ l.map (Value.int .i64), u.oneCell' = true := by
  intro u hu
  obtain ⟨y, _, rfl⟩ := List.mem_map.1 hu
  rfl
theorem oneCells2 (z : Int) (l : List Int) : ∀ u ∈ [Value.int .i64 z] ++ l.map (Value.int .i64), u.oneCell' = true := by
  intro u hu
  rcases List.mem_append.1 hu with h | h
  · simp at h; subst h; rfl
  · exact oneCells l u h
/-- A slice that a call owns, and that holds something or came of an append to one that was not nil. -/
theorem ownsRow_some {W : World} {b : Nat} {e : TypeId} {n : Nat} {v : Value} {xs : List Value} (h : W.ownsRow b e 1 v n xs) (hv : v ≠ .slice none 0 0) :
    ∃ g cap, v = .slice (some ⟨g, 0, none⟩) n cap ∧ n ≤ cap ∧ g < W.heap.size ∧ b ≤ g ∧ cap ≤ maxLen := by
  rcases h.2 with ⟨rfl, _⟩ | ⟨g, cap, cur, rfl, hg, hh, hle, hm, _⟩
  · exact absurd rfl hv
  · exact ⟨g, cap, rfl, hle, (Array.getElem?_eq_some_iff.1 hh).1, hg, hm⟩

/-- An append of the nil slice in a region that draws its order. -/
theorem step_append_none {P : Program} {ops : Array Oper} {o : Oper} {a : Act} {w : World} {K : Act → World → Prop} {Q : Exit → Act → World → Prop} {E : Prop}
    (hg : o.guard = none) (s x : Operand) (t : TypeId) (hop : o.op = Op.call { callee := Callee.builtin Builtin.append, args := #[s, x], argTypes := #[t, t] })
    (base : Nat) (e : TypeId) (i : TypeInfo) (size : Nat) (ht : P.underlying t = some (.slice e)) (hi : P.info? e = some i)
    (v : Value) (n : Nat) (xs : List Value) (hs : a.eval s = v) (hown : w.ownsRow base e size v n xs) (hx : a.eval x = .slice none 0 0)
    (h : K (a.put o.dst v) w) : if Region.wanted o (yielded ops a.tmps) = true then Oper.wp P o a w K Q else E := by
  have hw : Region.wanted o (yielded ops a.tmps) = true := by simp [Region.wanted, hg]
  rw [if_pos hw]
  have hrun := run_append_owned_none (P := P) (w := w) base t o.type e i size ht hi v n xs hown
  unfold Oper.wp
  simp [execOp, hop, resolve, invoke, builtin, hs, hx, hrun, Result.andThen]
  exact h
/-- 'nil[:0:0]' and 'nil[0:]' -/
theorem slice_nil_front (w : World) : (Instr.slice 46 (.slice none 0 0) none (some (.int .i64 0)) (some (.int .i64 0))).run Tryd.prog w = .ok (.slice none 0 0) w := by
  have := run_slice_hm (P := Tryd.prog) w 46 none 0 0 elemInts .i64 .i64 0 0 (by omega) (by omega) (by omega)
  rw [this, sizeInts]
  simp [Result.andThen, sliced]
theorem slice_nil_back (w : World) : (Instr.slice 46 (.slice none 0 0) (some (.int .i64 0)) none none).run Tryd.prog w = .ok (.slice none 0 0) w := by
  have := run_slice_l (P := Tryd.prog) w 46 none 0 0 elemInts .i64 0 (by omega) (by omega)
  rw [this, sizeInts]
  simp [Result.andThen, sliced]
end Go.Proofs.YtpbljciblgcgfaaDoor
end
