/- ParJoinsLaw in one text, for the claim. -/
import Derived.Test.YtglbmiadgdadfaaPj12
import Derived.Deep.DeepCutAuto

section
/- The law ParseJoins is true of any two texts and any locations. -/
namespace Go.Proofs.Ytglbmiadgdadfaa
open Go.RowKit Go.Shelf
open Go.BigFrame

attribute [local go_sem] Oper.semAt_some
namespace PP
set_option maxRecDepth 100000 in
set_option maxHeartbeats 16000000 in
theorem joins_law (a b : ByteArray) (l : List ByteArray) (vl : Value) (w : World) (hl : LocsOk w w.heap.size false vl l) (hA : a.size ≤ 4611686018427387903) (hB : b.size ≤ 4611686018427387903) :
    Calls Try.prog 4 #[.string a, .string b, vl] w fun e w' => e = .returned (.bool true) ∧ Below w.heap.size w w' := by
  have CC := Lib.hid fun s W (B : Below w.heap.size w W) => cond_ans s l vl W (hl.lift B B.size)
  obtain ⟨va, vc, rfl⟩ : ∃ a cap, vl = .slice a l.length cap := by
    obtain ⟨_, a, cap, e, _⟩ := hl.2 rfl
    exact ⟨a, cap, e⟩
  have hll := (hl.2 rfl).1
  unfold maxLen at hll
  clear hl
  have hw : IntKind.i64.wrap ((a.size : Int) + (b.size : Int)) = (a.size : Int) + (b.size : Int) := IntWalk.i64_in _ (by omega)
  by_cases hbig : 4000 < a.size + b.size
  · have t1 : decide (4000 < (a.size : Int) + (b.size : Int)) = true := decide_eq_true (by omega)
    replace hbig := Lib.hid hbig
    go_enter Try.func4, Try.ntmps4
    go_wp2_with fail
    refine (awake_any w).mono ?_
    rintro e w1 ⟨rfl, B1⟩
    replace B1 := Lib.hid B1
    go_wp2
    go_ret
    exact ⟨rfl, B1.out⟩
  have t1 : decide (4000 < (a.size : Int) + (b.size : Int)) = false := decide_eq_false (by omega)
  by_cases hlong : 500 < l.length
  · have t2 : decide (500 < (l.length : Int)) = true := decide_eq_true (by omega)
    replace hbig := Lib.hid hbig
    replace hlong := Lib.hid hlong
    go_enter Try.func4, Try.ntmps4
    go_wp2_with fail
    refine (awake_any w).mono ?_
    rintro e w1 ⟨rfl, B1⟩
    replace B1 := Lib.hid B1
    go_wp2
    go_ret
    exact ⟨rfl, B1.out⟩
  have t2 : decide (500 < (l.length : Int)) = false := decide_eq_false (by omega)
  obtain ⟨ra, hra⟩ : ∃ r, readC a l = r := ⟨_, rfl⟩
  obtain ⟨rb, hrb⟩ : ∃ r, readC b l = r := ⟨_, rfl⟩
  have CA := Lib.hid fun W B => CC.out a W B
  have CB := Lib.hid fun W B => CC.out b W B
  rw [hra] at CA
  rw [hrb] at CB
  cases ra with
  | bad p x =>
    have hx := readC_bad hra
    have t3 : (x != 0) = true := by simpa using hx
    replace hbig := Lib.hid hbig
    clear hra hrb hx
    go_enter Try.func4, Try.ntmps4
    go_wp2_with fail
    refine (awake_any w).mono ?_
    rintro e w1 ⟨rfl, B1⟩
    replace B1 := Lib.hid B1
    go_wp2_with fail
    refine (CA.out w1 B1.out).mono ?_
    rintro e w2 ⟨B2, y, q, x', rfl, -, h2⟩
    obtain rfl := h2 _ _ rfl
    have H2 := Lib.hid ((B1.out.trans (B2.mono B1.out.size)).alloc (B1.out.trans (B2.mono B1.out.size)).size (.cells y.cs 24))
    clear B2
    unfold C5.cs at H2 ⊢
    go_wp2_with fail
    refine (CB.out _ H2.out).mono ?_
    rintro e w3 ⟨B3, y', q', x'', rfl, -, -⟩
    have H3 := Lib.hid ((H2.out.trans (B3.mono H2.out.size)).alloc (H2.out.trans (B3.mono H2.out.size)).size (.cells y'.cs 24))
    clear B3
    unfold C5.cs at H3 ⊢
    go_wp2
    go_ret
    exact ⟨rfl, H3.out⟩
  | ok c sta => cases rb with
    | bad p x =>
      have hx := readC_bad hrb
      have t3 : (x != 0) = true := by simpa using hx
      have t4 : ((0 : Int) != 0) = false := rfl
      replace hbig := Lib.hid hbig
      clear hra hrb hx
      go_enter Try.func4, Try.ntmps4
      go_wp2_with fail
      refine (awake_any w).mono ?_
      rintro e w1 ⟨rfl, B1⟩
      replace B1 := Lib.hid B1
      go_wp2_with fail
      refine (CA.out w1 B1.out).mono ?_
      rintro e w2 ⟨B2, y, q, x', rfl, h1, -⟩
      obtain ⟨rfl, -⟩ := h1 _ _ rfl
      have H2 := Lib.hid ((B1.out.trans (B2.mono B1.out.size)).alloc (B1.out.trans (B2.mono B1.out.size)).size (.cells y.cs 24))
      clear B2
      unfold C5.cs at H2 ⊢
      go_wp2_with fail
      refine (CB.out _ H2.out).mono ?_
      rintro e w3 ⟨B3, y', q', x'', rfl, -, h2⟩
      obtain rfl := h2 _ _ rfl
      have H3 := Lib.hid ((H2.out.trans (B3.mono H2.out.size)).alloc (H2.out.trans (B3.mono H2.out.size)).size (.cells y'.cs 24))
      clear B3
      unfold C5.cs at H3 ⊢
      go_wp2
      go_ret
      exact ⟨rfl, H3.out⟩
    | ok d stb =>
      have hdc := readC_deep hra
      have hdd := readC_deep hrb
      have TA := Lib.hid fun W => typed_fn a (by omega) W
      have TB := Lib.hid fun W => typed_fn b (by omega) W
      have t4 : ((0 : Int) != 0) = false := rfl
      have hsa := tyS_size a
      have hsb := tyS_size b
      have J0 := jj_not (l := l) (b := b) hra (by omega)
      have J1 := jj_two (l := l) hra (by omega) hrb 38 3 (.inl ⟨rfl, rfl⟩)
      have J2 := jj_two (l := l) hra (by omega) hrb 124 4 (.inr ⟨rfl, rfl⟩)
      obtain ⟨pa, hpa⟩ : ∃ p, tyS (toks a) = p := ⟨_, rfl⟩
      obtain ⟨pb, hpb⟩ : ∃ p, tyS (toks b) = p := ⟨_, rfl⟩
      rw [hpa] at J0 J1 J2 hsa TA
      rw [hpb] at J1 J2 hsb TB
      clear hpa hpb hra hrb
      have E1 := Lib.hid fun W (B : Below w.heap.size w W) => joined_ans (CC.out _ W B) J1
      have E2 := Lib.hid fun W (B : Below w.heap.size w W) => joined_ans (CC.out _ W B) J2
      have E0 := Lib.hid fun W (B : Below w.heap.size w W) => joined_ans (CC.out _ W B) J0
      clear J0 J1 J2
      replace hsa : pa.size ≤ 12000 := by omega
      replace hsb : pb.size ≤ 12000 := by omega
      replace hbig := Lib.hid hbig
      go_enter Try.func4, Try.ntmps4
      go_wp2_with fail
      refine (awake_any w).mono ?_
      rintro e w1 ⟨rfl, B1⟩
      replace B1 := Lib.hid B1
      go_wp2_with fail
      refine (CA.out w1 B1.out).mono ?_
      rintro e w2 ⟨B2, y, q, x', rfl, h1, -⟩
      obtain ⟨rfl, Rc⟩ := h1 _ _ rfl
      have A2 := (Below.refl w2.heap.size w2).alloc (Nat.le_refl _) (.cells y.cs 24)
      have H2 := Lib.hid (B1.out.trans ((B2.trans (A2.mono B2.size)).mono B1.out.size))
      have Rc2 := Rc.below A2
      have z2 := heap_alloc_new w2 (.cells y.cs 24)
      unfold C5.cs at H2 Rc2 z2 ⊢
      clear B2 A2 h1
      go_wp2_with fail
      refine (CB.out _ H2.out).mono ?_
      rintro e w3 ⟨B3, y', q', x'', rfl, h1, -⟩
      obtain ⟨rfl, Rd⟩ := h1 _ _ rfl
      have A3 := (Below.refl w3.heap.size w3).alloc (Nat.le_refl _) (.cells y'.cs 24)
      have H4 := Lib.hid (H2.out.trans ((B3.trans (A3.mono B3.size)).mono H2.out.size))
      have Rd4 := Rd.below A3
      have Rc4 := (Rc2.below B3).below A3
      have zc0 := (B3.block _ (lt_of_heap z2)).trans z2
      have zc := (A3.block _ (lt_of_heap zc0)).trans zc0
      have zd := heap_alloc_new w3 (.cells y'.cs 24)
      unfold C5.cs at H4 Rd4 Rc4 zc zd ⊢
      clear B3 A3 h1 zc0 z2 Rc2 Rd Rc
      replace zc := Lib.hid zc
      replace zd := Lib.hid zd
      replace Rc4 := Lib.hid Rc4
      replace Rd4 := Lib.hid Rd4
      go_wp2_with fail
      replace zc := zc.out
      replace zd := zd.out
      replace Rc4 := Rc4.out
      replace Rd4 := Rd4.out
      obtain ⟨V4, hV4⟩ : ∃ V, w3.alloc (.cells #[.int .u8 y'.k, .int .u8 y'.t, .int .u8 y'.n, .int .u8 y'.v, .slice y'.a y'.l y'.p] 24) = V := ⟨_, rfl⟩
      rw [hV4] at zc zd Rc4 Rd4 H4
      rw [hV4]
      clear hV4
      have sc : Hid (∀ U, Below V4.heap.size V4 U → ∀ j v, y.cs.toList[j]? = some v → U.cell? (Addr.add ⟨w2.heap.size, 0, none⟩ j) = some v) := Lib.hid fun U B j v hj => by
        rw [Go.WideShapes.add_plain, Nat.zero_add, cell_of_row _ _ j _ _ _ ((B.block _ (lt_of_heap zc)).trans zc), ← Array.getElem?_toList]; exact hj
      have sd : Hid (∀ U, Below V4.heap.size V4 U → ∀ j v, y'.cs.toList[j]? = some v → U.cell? (Addr.add ⟨w3.heap.size, 0, none⟩ j) = some v) := Lib.hid fun U B j v hj => by
        rw [Go.WideShapes.add_plain, Nat.zero_add, cell_of_row _ _ j _ _ _ ((B.block _ (lt_of_heap zd)).trans zd), ← Array.getElem?_toList]; exact hj
      have D1 := Lib.hid fun U (B : Below V4.heap.size V4 U) => deep_any 20 c y.cv U hdc (by decide) (Rc4.below B)
      have D2 := Lib.hid fun U (B : Below V4.heap.size V4 U) => deep_any 20 d y'.cv U hdd (by decide) (Rd4.below B)
      unfold C5.cv condV at D1 D2
      unfold C5.cs at sc sd
      simp only at D1 D2
      replace zc := Lib.hid zc
      replace zd := Lib.hid zd
      replace Rc4 := Lib.hid Rc4
      replace Rd4 := Lib.hid Rd4
      refine wp_region_below V4.heap.size V4 (by kernel_rfl) (by kernel_rfl) (Below.refl _ _) ?_
      repeat (first
        | (go_big_quiet_step (first
          | (intro _; exact rfl)
          | (intro hW; go_at_call_of 7 (Value.agg #[.int .u8 y.k, .int .u8 y.t, .int .u8 y.n, .int .u8 y.v, .slice y.a y.l y.p]); exact Calls.below_of hW (D1.out _ hW))
          | (intro hW; go_at_call_of 7 (Value.agg #[.int .u8 y'.k, .int .u8 y'.t, .int .u8 y'.n, .int .u8 y'.v, .slice y'.a y'.l y'.p]); exact Calls.below_of hW (D2.out _ hW))))
        | (refine wpQuiet_want rfl fun K hK => ?_
           first
             | refine quiet_loadS 24 (.tmp 7) rfl ⟨w2.heap.size, 0, none⟩ rfl _ _ Try.underlying24 rfl (by kernel_rfl) sc.out (hK _ ?_)
             | refine quiet_loadS 24 (.tmp 10) rfl ⟨w3.heap.size, 0, none⟩ rfl _ _ Try.underlying24 rfl (by kernel_rfl) sd.out (hK _ ?_)
           clear hK K
           simp only [Act.put, List.setIfInBounds_toArray, List.set_cons_succ, List.set_cons_zero]))
      refine wpQuiet_nil ?_
      intro w5 h5
      have hmx : (if PX.deep c < PX.deep d then ((PX.deep d : Nat) : Int) else ((PX.deep c : Nat) : Int)) = ((max (PX.deep c) (PX.deep d) : Nat) : Int) := by
        rw [Nat.max_def]
        split <;> split <;> first | rfl | omega
      rw [hmx]
      clear hmx
      replace h5 := Lib.hid h5
      go_wp2_with fail
      refine (TA.out _).mono ?_
      rintro e w6 ⟨rfl, B6⟩
      replace h5 := Lib.hid (h5.out.trans (B6.mono h5.out.size))
      clear B6
      go_wp2_with fail
      refine (TB.out _).mono ?_
      rintro e w7 ⟨rfl, B7⟩
      replace h5 := Lib.hid (h5.out.trans (B7.mono h5.out.size))
      clear B7 TA TB
      go_wp2_with fail
      refine (E1.out _ (H4.out.trans (h5.out.mono H4.out.size))).mono ?_
      rintro e w8 ⟨B8, x1, p1, g1, rfl, n1⟩
      replace h5 := Lib.hid (h5.out.trans (B8.mono h5.out.size))
      clear B8 E1
      unfold C5.cs
      go_wp2_with fail
      obtain ⟨V8, hV8⟩ : ∃ V, w8.alloc (.cells #[.int .u8 x1.k, .int .u8 x1.t, .int .u8 x1.n, .int .u8 x1.v, .slice x1.a x1.l x1.p] 24) = V := ⟨_, rfl⟩
      rw [hV8]
      have h8 : Hid (Below V4.heap.size V4 V8) := Lib.hid (by rw [← hV8]; exact h5.out.alloc h5.out.size _)
      have zx1 : Hid (V8.heap[w8.heap.size]? = some (.cells #[.int .u8 x1.k, .int .u8 x1.t, .int .u8 x1.n, .int .u8 x1.v, .slice x1.a x1.l x1.p] 24 (0, 0))) := Lib.hid (by rw [← hV8]; exact heap_alloc_new w8 _)
      have Nx1 : Hid (∀ U, Below V8.heap.size V8 U → (max (PX.deep c) (PX.deep d) < 20 → g1 = 0 ∧ CondR U x1.cv _) ∧ (20 ≤ max (PX.deep c) (PX.deep d) → g1 = 5)) := Lib.hid fun U B => ⟨fun hD => ⟨((n1.1) hD).1, (((n1.1) hD).2.below (by rw [← hV8]; exact (Below.refl _ w8).alloc (Nat.le_refl _) _)).below B⟩, n1.2⟩
      clear hV8 n1
      refine (E2.out _ (H4.out.trans (h8.out.mono H4.out.size))).mono ?_
      rintro e w9 ⟨B9, x2, p2, g2, rfl, n2⟩
      have h9 := Lib.hid (h8.out.trans (B9.mono h8.out.size))
      replace zx1 := Lib.hid ((B9.block _ (lt_of_heap zx1.out)).trans zx1.out)
      replace Nx1 := Lib.hid fun U (B : Below w9.heap.size w9 U) => Nx1.out U (B9.trans (B.mono B9.size))
      clear B9 E2
      unfold C5.cs
      go_wp2_with fail
      obtain ⟨V9, hV9⟩ : ∃ V, w9.alloc (.cells #[.int .u8 x2.k, .int .u8 x2.t, .int .u8 x2.n, .int .u8 x2.v, .slice x2.a x2.l x2.p] 24) = V := ⟨_, rfl⟩
      rw [hV9]
      have h10 : Hid (Below V4.heap.size V4 V9) := Lib.hid (by rw [← hV9]; exact h9.out.alloc h9.out.size _)
      have zx2 : Hid (V9.heap[w9.heap.size]? = some (.cells #[.int .u8 x2.k, .int .u8 x2.t, .int .u8 x2.n, .int .u8 x2.v, .slice x2.a x2.l x2.p] 24 (0, 0))) := Lib.hid (by rw [← hV9]; exact heap_alloc_new w9 _)
      have Nx2 : Hid (∀ U, Below V9.heap.size V9 U → (max (PX.deep c) (PX.deep d) < 20 → g2 = 0 ∧ CondR U x2.cv _) ∧ (20 ≤ max (PX.deep c) (PX.deep d) → g2 = 5)) := Lib.hid fun U B => ⟨fun hD => ⟨((n2.1) hD).1, (((n2.1) hD).2.below (by rw [← hV9]; exact (Below.refl _ w9).alloc (Nat.le_refl _) _)).below B⟩, n2.2⟩
      have bV9 : Hid (Below w9.heap.size w9 V9) := Lib.hid (by rw [← hV9]; exact (Below.refl _ w9).alloc (Nat.le_refl _) _)
      clear hV9 n2
      replace zx1 := Lib.hid ((bV9.out.block _ (lt_of_heap zx1.out)).trans zx1.out)
      replace Nx1 := Lib.hid fun U (B : Below V9.heap.size V9 U) => Nx1.out U (bV9.out.trans (B.mono bV9.out.size))
      clear bV9
      refine (E0.out _ (H4.out.trans (h10.out.mono H4.out.size))).mono ?_
      rintro e w10 ⟨B10, x3, p3, g3, rfl, n3⟩
      have h11 := Lib.hid (h10.out.trans (B10.mono h10.out.size))
      replace zx1 := Lib.hid ((B10.block _ (lt_of_heap zx1.out)).trans zx1.out)
      replace Nx1 := Lib.hid fun U (B : Below w10.heap.size w10 U) => Nx1.out U (B10.trans (B.mono B10.size))
      replace zx2 := Lib.hid ((B10.block _ (lt_of_heap zx2.out)).trans zx2.out)
      replace Nx2 := Lib.hid fun U (B : Below w10.heap.size w10 U) => Nx2.out U (B10.trans (B.mono B10.size))
      clear B10 E0
      unfold C5.cs
      have h12 := Lib.hid (h11.out.alloc h11.out.size (.cells #[.int .u8 x3.k, .int .u8 x3.t, .int .u8 x3.n, .int .u8 x3.v, .slice x3.a x3.l x3.p] 24))
      have zc12 := Lib.hid ((h12.out.block _ (lt_of_heap zc.out)).trans zc.out)
      have zd12 := Lib.hid ((h12.out.block _ (lt_of_heap zd.out)).trans zd.out)
      obtain ⟨ca0, ca1, ca2, ca3, ca4⟩ := c5_cells (y := y) zc12.out
      obtain ⟨cb0, cb1, cb2, cb3, cb4⟩ := c5_cells (y := y') zd12.out
      have hl2 : w2.heap.size < w10.heap.size := Nat.lt_of_lt_of_le (lt_of_heap zc.out) h11.out.size
      have hl3 : w3.heap.size < w10.heap.size := Nat.lt_of_lt_of_le (lt_of_heap zd.out) h11.out.size
      go_upto_region 15 with fail
      clear ca0 ca1 ca2 ca3 ca4 cb0 cb1 cb2 cb3 cb4 hl2 hl3 h12 zc12 zd12
      obtain ⟨V13, hV13⟩ : ∃ V, ((w10.alloc (.cells #[.int .u8 x3.k, .int .u8 x3.t, .int .u8 x3.n, .int .u8 x3.v, .slice x3.a x3.l x3.p] 24)).alloc (.cells #[.int .u8 y.k, .int .u8 y.t, .int .u8 y.n, .int .u8 y.v, .slice y.a y.l y.p, .int .u8 y'.k, .int .u8 y'.t, .int .u8 y'.n, .int .u8 y'.v, .slice y'.a y'.l y'.p] 24)).alloc (.cells #[.int .u8 3, .int .u8 0, .int .u8 0, .int .u8 0, .slice (some ⟨w10.heap.size + 1, 0, none⟩) 2 2] 24) = V := ⟨_, rfl⟩
      rw [hV13]
      have b13 : Hid (Below w10.heap.size w10 V13) := Lib.hid (by rw [← hV13]; exact (((Below.refl _ w10).alloc (Nat.le_refl _) _).alloc (by simp) _).alloc (by simp; omega) _)
      have h13 : Hid (Below V4.heap.size V4 V13) := Lib.hid (h11.out.trans (b13.out.mono h11.out.size))
      replace zx1 := Lib.hid ((b13.out.block _ (lt_of_heap zx1.out)).trans zx1.out)
      replace Nx1 := Lib.hid fun U (B : Below V13.heap.size V13 U) => Nx1.out U (b13.out.trans (B.mono b13.out.size))
      replace zx2 := Lib.hid ((b13.out.block _ (lt_of_heap zx2.out)).trans zx2.out)
      replace Nx2 := Lib.hid fun U (B : Below V13.heap.size V13 U) => Nx2.out U (b13.out.trans (B.mono b13.out.size))
      have zx3 : Hid (V13.heap[w10.heap.size]? = some (.cells #[.int .u8 x3.k, .int .u8 x3.t, .int .u8 x3.n, .int .u8 x3.v, .slice x3.a x3.l x3.p] 24 (0, 0))) := Lib.hid (by rw [← hV13]; exact row_alloc (row_alloc (heap_alloc_new w10 _) _) _)
      have Nx3 : Hid (∀ U, Below V13.heap.size V13 U → (PX.deep c < 20 → g3 = 0 ∧ CondR U x3.cv _) ∧ (20 ≤ PX.deep c → g3 = 5)) := Lib.hid fun U B => ⟨fun hD => ⟨(n3.1 hD).1, ((n3.1 hD).2.below b13.out).below B⟩, n3.2⟩
      have zs13 : Hid (V13.heap[w10.heap.size + 1]? = some (.cells #[.int .u8 y.k, .int .u8 y.t, .int .u8 y.n, .int .u8 y.v, .slice y.a y.l y.p, .int .u8 y'.k, .int .u8 y'.t, .int .u8 y'.n, .int .u8 y'.v, .slice y'.a y'.l y'.p] 24 (0, 0))) := Lib.hid (by rw [← hV13]; exact row_alloc (by have := heap_alloc_new (w10.alloc (.cells #[.int .u8 x3.k, .int .u8 x3.t, .int .u8 x3.n, .int .u8 x3.v, .slice x3.a x3.l x3.p] 24)) (.cells #[.int .u8 y.k, .int .u8 y.t, .int .u8 y.n, .int .u8 y.v, .slice y.a y.l y.p, .int .u8 y'.k, .int .u8 y'.t, .int .u8 y'.n, .int .u8 y'.v, .slice y'.a y'.l y'.p] 24); rw [World.size_alloc] at this; exact this) _)
      have zb : Hid (V13.heap[w10.heap.size + 1 + 1]? = some (.cells #[.int .u8 3, .int .u8 0, .int .u8 0, .int .u8 0, .slice (some ⟨w10.heap.size + 1, 0, none⟩) 2 2] 24 (0, 0))) := Lib.hid (by rw [← hV13]; have := heap_alloc_new ((w10.alloc (.cells #[.int .u8 x3.k, .int .u8 x3.t, .int .u8 x3.n, .int .u8 x3.v, .slice x3.a x3.l x3.p] 24)).alloc (.cells #[.int .u8 y.k, .int .u8 y.t, .int .u8 y.n, .int .u8 y.v, .slice y.a y.l y.p, .int .u8 y'.k, .int .u8 y'.t, .int .u8 y'.n, .int .u8 y'.v, .slice y'.a y'.l y'.p] 24)) (.cells #[.int .u8 3, .int .u8 0, .int .u8 0, .int .u8 0, .slice (some ⟨w10.heap.size + 1, 0, none⟩) 2 2] 24); rw [World.size_alloc, World.size_alloc] at this; exact this)
      have Rb : Hid (∀ U, Below V13.heap.size V13 U → CondR U (C5.cv ⟨3, 0, 0, 0, some ⟨w10.heap.size + 1, 0, none⟩, 2, 2⟩) (.mk 3 0 0 0 [c, d])) := Lib.hid fun U B => (condR_two (x := y) (y := y') (Rc4.out.below h13.out) (Rd4.out.below h13.out) zs13.out 3).below B
      clear hV13 n3 h11
      have zc13 := Lib.hid ((h13.out.block _ (lt_of_heap zc.out)).trans zc.out)
      have zd13 := Lib.hid ((h13.out.block _ (lt_of_heap zd.out)).trans zd.out)
      obtain ⟨ca0, ca1, ca2, ca3, ca4⟩ := c5_cells (y := y) zc13.out
      obtain ⟨cb0, cb1, cb2, cb3, cb4⟩ := c5_cells (y := y') zd13.out
      go_upto_region 16 with fail
      clear ca0 ca1 ca2 ca3 ca4 cb0 cb1 cb2 cb3 cb4
      obtain ⟨V15, hV15⟩ : ∃ V, (V13.alloc (.cells #[.int .u8 y.k, .int .u8 y.t, .int .u8 y.n, .int .u8 y.v, .slice y.a y.l y.p, .int .u8 y'.k, .int .u8 y'.t, .int .u8 y'.n, .int .u8 y'.v, .slice y'.a y'.l y'.p] 24)).alloc (.cells #[.int .u8 4, .int .u8 0, .int .u8 0, .int .u8 0, .slice (some ⟨V13.heap.size, 0, none⟩) 2 2] 24) = V := ⟨_, rfl⟩
      rw [hV15]
      have b15 : Hid (Below V13.heap.size V13 V15) := Lib.hid (by rw [← hV15]; exact ((Below.refl _ V13).alloc (Nat.le_refl _) _).alloc (by simp) _)
      have h15 : Hid (Below V4.heap.size V4 V15) := Lib.hid (h13.out.trans (b15.out.mono h13.out.size))
      have zs15 : Hid (V15.heap[V13.heap.size]? = some (.cells #[.int .u8 y.k, .int .u8 y.t, .int .u8 y.n, .int .u8 y.v, .slice y.a y.l y.p, .int .u8 y'.k, .int .u8 y'.t, .int .u8 y'.n, .int .u8 y'.v, .slice y'.a y'.l y'.p] 24 (0, 0))) := Lib.hid (by rw [← hV15]; exact row_alloc (heap_alloc_new V13 _) _)
      have ze : Hid (V15.heap[V13.heap.size + 1]? = some (.cells #[.int .u8 4, .int .u8 0, .int .u8 0, .int .u8 0, .slice (some ⟨V13.heap.size, 0, none⟩) 2 2] 24 (0, 0))) := Lib.hid (by rw [← hV15]; have := heap_alloc_new (V13.alloc (.cells #[.int .u8 y.k, .int .u8 y.t, .int .u8 y.n, .int .u8 y.v, .slice y.a y.l y.p, .int .u8 y'.k, .int .u8 y'.t, .int .u8 y'.n, .int .u8 y'.v, .slice y'.a y'.l y'.p] 24)) (.cells #[.int .u8 4, .int .u8 0, .int .u8 0, .int .u8 0, .slice (some ⟨V13.heap.size, 0, none⟩) 2 2] 24); rw [World.size_alloc] at this; exact this)
      have Re : Hid (∀ U, Below V15.heap.size V15 U → CondR U (C5.cv ⟨4, 0, 0, 0, some ⟨V13.heap.size, 0, none⟩, 2, 2⟩) (.mk 4 0 0 0 [c, d])) := Lib.hid fun U B => (condR_two (x := y) (y := y') (Rc4.out.below h15.out) (Rd4.out.below h15.out) zs15.out 4).below B
      clear hV15
      have zc15 := Lib.hid ((h15.out.block _ (lt_of_heap zc.out)).trans zc.out)
      obtain ⟨ca0, ca1, ca2, ca3, ca4⟩ := c5_cells (y := y) zc15.out
      go_upto_region 17 with fail
      clear ca0 ca1 ca2 ca3 ca4
      obtain ⟨V17, hV17⟩ : ∃ V, (V15.alloc (.cells #[.int .u8 y.k, .int .u8 y.t, .int .u8 y.n, .int .u8 y.v, .slice y.a y.l y.p] 24)).alloc (.cells #[.int .u8 5, .int .u8 0, .int .u8 0, .int .u8 0, .slice (some ⟨V15.heap.size, 0, none⟩) 1 1] 24) = V := ⟨_, rfl⟩
      rw [hV17]
      have zs17 : Hid (V17.heap[V15.heap.size]? = some (.cells #[.int .u8 y.k, .int .u8 y.t, .int .u8 y.n, .int .u8 y.v, .slice y.a y.l y.p] 24 (0, 0))) := Lib.hid (by rw [← hV17]; exact row_alloc (heap_alloc_new V15 _) _)
      have zn : Hid (V17.heap[V15.heap.size + 1]? = some (.cells #[.int .u8 5, .int .u8 0, .int .u8 0, .int .u8 0, .slice (some ⟨V15.heap.size, 0, none⟩) 1 1] 24 (0, 0))) := Lib.hid (by rw [← hV17]; have := heap_alloc_new (V15.alloc (.cells #[.int .u8 y.k, .int .u8 y.t, .int .u8 y.n, .int .u8 y.v, .slice y.a y.l y.p] 24)) (.cells #[.int .u8 5, .int .u8 0, .int .u8 0, .int .u8 0, .slice (some ⟨V15.heap.size, 0, none⟩) 1 1] 24); rw [World.size_alloc] at this; exact this)
      have b17 : Hid (Below V15.heap.size V15 V17) := Lib.hid (by rw [← hV17]; exact ((Below.refl _ V15).alloc (Nat.le_refl _) _).alloc (by simp) _)
      have h17 : Hid (Below V4.heap.size V4 V17) := Lib.hid (h15.out.trans (b17.out.mono h15.out.size))
      clear hV17
      have b1317 : Hid (Below V13.heap.size V13 V17) := Lib.hid (b15.out.trans (b17.out.mono b15.out.size))
      replace zx1 := Lib.hid ((b1317.out.block _ (lt_of_heap zx1.out)).trans zx1.out)
      replace Nx1 := Lib.hid fun U (B : Below V17.heap.size V17 U) => Nx1.out U (b1317.out.trans (B.mono b1317.out.size))
      replace zx2 := Lib.hid ((b1317.out.block _ (lt_of_heap zx2.out)).trans zx2.out)
      replace Nx2 := Lib.hid fun U (B : Below V17.heap.size V17 U) => Nx2.out U (b1317.out.trans (B.mono b1317.out.size))
      replace zx3 := Lib.hid ((b1317.out.block _ (lt_of_heap zx3.out)).trans zx3.out)
      replace Nx3 := Lib.hid fun U (B : Below V17.heap.size V17 U) => Nx3.out U (b1317.out.trans (B.mono b1317.out.size))
      replace zb := Lib.hid ((b1317.out.block _ (lt_of_heap zb.out)).trans zb.out)
      replace ze := Lib.hid ((b17.out.block _ (lt_of_heap ze.out)).trans ze.out)
      have Rn : Hid (∀ U, Below V17.heap.size V17 U → CondR U (C5.cv ⟨5, 0, 0, 0, some ⟨V15.heap.size, 0, none⟩, 1, 1⟩) (.mk 5 0 0 0 [c])) := Lib.hid fun U B => (condR_one (x := y) (Rc4.out.below h17.out) zs17.out 5).below B
      replace Rb := Lib.hid fun U (B : Below V17.heap.size V17 U) => Rb.out U (b1317.out.trans (B.mono b1317.out.size))
      replace Re := Lib.hid fun U (B : Below V17.heap.size V17 U) => Re.out U (b17.out.trans (B.mono b17.out.size))
      have zc17 := Lib.hid ((h17.out.block _ (lt_of_heap zc.out)).trans zc.out)
      have DC := Lib.hid fun U (B : Below V17.heap.size V17 U) => deep_any 20 c y.cv U hdc (by decide) ((Rc4.out.below h17.out).below B)
      have HF := Lib.hid (H4.out.trans (h17.out.mono H4.out.size))
      unfold C5.cv condV at DC
      simp only at DC
      clear D1 D2 sc sd zs13 zs15 zs17 b13 b15 b17 b1317 h5 h8 h9 h10 h13 h15 zc13 zd13 zc15 H4 h17 zc zd Rc4 Rd4 H2
      have hcD : PX.deep c ≤ max (PX.deep c) (PX.deep d) := Nat.le_max_left _ _
      by_cases hD : max (PX.deep c) (PX.deep d) < 20
      · have hc20 : PX.deep c < 20 := by omega
        have SZ := Lib.hid fun U (B : Below V17.heap.size V17 U) => sameCond_any _ _ _ U (((Nx3.out U B).1 hc20).2) (Rn.out U B)
        have SX := Lib.hid fun U (B : Below V17.heap.size V17 U) => sameCond_any _ _ _ U (((Nx1.out U B).1 hD).2) (Rb.out U B)
        have SY := Lib.hid fun U (B : Below V17.heap.size V17 U) => sameCond_any _ _ _ U (((Nx2.out U B).1 hD).2) (Re.out U B)
        have DX := Lib.hid fun U (B : Below V17.heap.size V17 U) => deep_any 30 _ _ U (by simp only [PX.deep, PX.deepL]; omega) (by decide) (((Nx1.out U B).1 hD).2)
        obtain rfl := ((Nx1.out V17 (Below.refl _ _)).1 hD).1
        obtain rfl := ((Nx2.out V17 (Below.refl _ _)).1 hD).1
        obtain rfl := ((Nx3.out V17 (Below.refl _ _)).1 hc20).1
        unfold C5.cv condV at SX SY SZ DX
        simp only at SX SY SZ DX
        have hdx : PX.deep (.mk 3 0 0 0 [c, d]) = max (PX.deep c) (PX.deep d) + 1 := by simp [PX.deep, PX.deepL]
        rw [hdx] at DX
        clear Nx1 Nx2 Nx3 Rb Re Rn hdx
        generalize max (PX.deep c) (PX.deep d) = D at *
        generalize PX.deep c = dc at *
        obtain ⟨ca0, ca1, ca2, ca3, ca4⟩ := c5_cells (y := y) zc17.out
        have KK := Lib.hid (Below.refl V17.heap.size V17)
        have q0 : decide (dc < 20) = true := by simpa using hc20
        have q1 : decide ((dc : Int) < 20) = true := by simp; omega
        have q2 : ((dc : Int) == 20) = false := by simp; omega
        have q3 : decide (20 < (D : Int) + 1) = false := by simp; omega
        have q4 : ((0 : Int) != 0) = false := by rfl
        go_wp2_with fail
        refine (DC.out _ KK.out).mono ?_
        rintro e wA ⟨rfl, BA⟩
        replace KK := Lib.hid (KK.out.trans (BA.mono KK.out.size))
        clear BA ca0 ca1 ca2 ca3 ca4
        obtain ⟨ca0, ca1, ca2, ca3, ca4⟩ := c5_cells (y := x3) ((KK.out.block _ (lt_of_heap zx3.out)).trans zx3.out)
        obtain ⟨cb0, cb1, cb2, cb3, cb4⟩ := c5_cells (y := ⟨5, 0, 0, 0, some ⟨V15.heap.size, 0, none⟩, 1, 1⟩) ((KK.out.block _ (lt_of_heap zn.out)).trans zn.out)
        simp only at cb0 cb1 cb2 cb3 cb4
        go_wp2_with fail
        refine (SZ.out _ KK.out).mono ?_
        rintro e wA ⟨rfl, BA⟩
        replace KK := Lib.hid (KK.out.trans (BA.mono KK.out.size))
        clear BA ca0 ca1 ca2 ca3 ca4 cb0 cb1 cb2 cb3 cb4
        obtain ⟨ca0, ca1, ca2, ca3, ca4⟩ := c5_cells (y := y) ((KK.out.block _ (lt_of_heap zc17.out)).trans zc17.out)
        go_wp2_with fail
        refine (DC.out _ KK.out).mono ?_
        rintro e wA ⟨rfl, BA⟩
        replace KK := Lib.hid (KK.out.trans (BA.mono KK.out.size))
        clear BA ca0 ca1 ca2 ca3 ca4
        obtain ⟨ca0, ca1, ca2, ca3, ca4⟩ := c5_cells (y := x1) ((KK.out.block _ (lt_of_heap zx1.out)).trans zx1.out)
        obtain ⟨cb0, cb1, cb2, cb3, cb4⟩ := c5_cells (y := ⟨3, 0, 0, 0, some ⟨w10.heap.size + 1, 0, none⟩, 2, 2⟩) ((KK.out.block _ (lt_of_heap zb.out)).trans zb.out)
        simp only at cb0 cb1 cb2 cb3 cb4
        go_wp2_with fail
        refine (SX.out _ KK.out).mono ?_
        rintro e wA ⟨rfl, BA⟩
        replace KK := Lib.hid (KK.out.trans (BA.mono KK.out.size))
        clear BA ca0 ca1 ca2 ca3 ca4 cb0 cb1 cb2 cb3 cb4
        obtain ⟨ca0, ca1, ca2, ca3, ca4⟩ := c5_cells (y := x2) ((KK.out.block _ (lt_of_heap zx2.out)).trans zx2.out)
        obtain ⟨cb0, cb1, cb2, cb3, cb4⟩ := c5_cells (y := ⟨4, 0, 0, 0, some ⟨V13.heap.size, 0, none⟩, 2, 2⟩) ((KK.out.block _ (lt_of_heap ze.out)).trans ze.out)
        simp only at cb0 cb1 cb2 cb3 cb4
        go_wp2_with fail
        refine (SY.out _ KK.out).mono ?_
        rintro e wA ⟨rfl, BA⟩
        replace KK := Lib.hid (KK.out.trans (BA.mono KK.out.size))
        clear BA ca0 ca1 ca2 ca3 ca4 cb0 cb1 cb2 cb3 cb4
        obtain ⟨ca0, ca1, ca2, ca3, ca4⟩ := c5_cells (y := x1) ((KK.out.block _ (lt_of_heap zx1.out)).trans zx1.out)
        go_wp2_with fail
        refine (DX.out _ KK.out).mono ?_
        rintro e wA ⟨rfl, BA⟩
        replace KK := Lib.hid (KK.out.trans (BA.mono KK.out.size))
        clear BA ca0 ca1 ca2 ca3 ca4
        go_wp2
        go_ret
        exact ⟨rfl, HF.out.trans (KK.out.mono HF.out.size)⟩
      · by_cases hc20 : PX.deep c < 20
        · have SZ := Lib.hid fun U (B : Below V17.heap.size V17 U) => sameCond_any _ _ _ U (((Nx3.out U B).1 hc20).2) (Rn.out U B)
          obtain rfl := (Nx1.out V17 (Below.refl _ _)).2 (by omega)
          obtain rfl := (Nx2.out V17 (Below.refl _ _)).2 (by omega)
          obtain rfl := ((Nx3.out V17 (Below.refl _ _)).1 hc20).1
          unfold C5.cv condV at SZ
          simp only at SZ
          clear Nx1 Nx2 Nx3 Rb Re Rn
          generalize max (PX.deep c) (PX.deep d) = D at *
          generalize PX.deep c = dc at *
          obtain ⟨ca0, ca1, ca2, ca3, ca4⟩ := c5_cells (y := y) zc17.out
          have KK := Lib.hid (Below.refl V17.heap.size V17)
          have q0 : decide (dc < 20) = true := by simpa using hc20
          have q1 : decide ((dc : Int) < 20) = true := by simp; omega
          have q2 : ((dc : Int) == 20) = false := by simp; omega
          have q3 : decide (20 < (D : Int) + 1) = true := by simp; omega
          have q4 : ((5 : Int) == 5) = true := by rfl
          have q5 : ((0 : Int) != 0) = false := by rfl
          go_wp2_with fail
          refine (DC.out _ KK.out).mono ?_
          rintro e wA ⟨rfl, BA⟩
          replace KK := Lib.hid (KK.out.trans (BA.mono KK.out.size))
          clear BA ca0 ca1 ca2 ca3 ca4
          obtain ⟨ca0, ca1, ca2, ca3, ca4⟩ := c5_cells (y := x3) ((KK.out.block _ (lt_of_heap zx3.out)).trans zx3.out)
          obtain ⟨cb0, cb1, cb2, cb3, cb4⟩ := c5_cells (y := ⟨5, 0, 0, 0, some ⟨V15.heap.size, 0, none⟩, 1, 1⟩) ((KK.out.block _ (lt_of_heap zn.out)).trans zn.out)
          simp only at cb0 cb1 cb2 cb3 cb4
          go_wp2_with fail
          refine (SZ.out _ KK.out).mono ?_
          rintro e wA ⟨rfl, BA⟩
          replace KK := Lib.hid (KK.out.trans (BA.mono KK.out.size))
          clear BA ca0 ca1 ca2 ca3 ca4 cb0 cb1 cb2 cb3 cb4
          obtain ⟨ca0, ca1, ca2, ca3, ca4⟩ := c5_cells (y := y) ((KK.out.block _ (lt_of_heap zc17.out)).trans zc17.out)
          go_wp2_with fail
          refine (DC.out _ KK.out).mono ?_
          rintro e wA ⟨rfl, BA⟩
          replace KK := Lib.hid (KK.out.trans (BA.mono KK.out.size))
          clear BA ca0 ca1 ca2 ca3 ca4
          go_wp2
          go_ret
          exact ⟨rfl, HF.out.trans (KK.out.mono HF.out.size)⟩
        · have hc20' : PX.deep c = 20 := by omega
          obtain rfl := (Nx1.out V17 (Below.refl _ _)).2 (by omega)
          obtain rfl := (Nx2.out V17 (Below.refl _ _)).2 (by omega)
          obtain rfl := (Nx3.out V17 (Below.refl _ _)).2 (by omega)
          clear Nx1 Nx2 Nx3 Rb Re Rn
          generalize max (PX.deep c) (PX.deep d) = D at *
          generalize PX.deep c = dc at *
          replace hc20' := Lib.hid hc20'
          obtain ⟨ca0, ca1, ca2, ca3, ca4⟩ := c5_cells (y := y) zc17.out
          have KK := Lib.hid (Below.refl V17.heap.size V17)
          have q0 : decide (dc < 20) = false := by simp; omega
          have q1 : decide ((dc : Int) < 20) = false := by simp; omega
          have q2 : ((dc : Int) == 20) = true := by simp; have := hc20'.out; omega
          have q3 : decide (20 < (D : Int) + 1) = true := by simp; omega
          have q4 : ((5 : Int) == 5) = true := by rfl
          have q5 : ((5 : Int) != 5) = false := by rfl
          go_wp2_with fail
          refine (DC.out _ KK.out).mono ?_
          rintro e wA ⟨rfl, BA⟩
          replace KK := Lib.hid (KK.out.trans (BA.mono KK.out.size))
          clear BA ca0 ca1 ca2 ca3 ca4
          obtain ⟨ca0, ca1, ca2, ca3, ca4⟩ := c5_cells (y := y) ((KK.out.block _ (lt_of_heap zc17.out)).trans zc17.out)
          go_wp2_with fail
          refine (DC.out _ KK.out).mono ?_
          rintro e wA ⟨rfl, BA⟩
          replace KK := Lib.hid (KK.out.trans (BA.mono KK.out.size))
          clear BA ca0 ca1 ca2 ca3 ca4
          go_wp2
          go_ret
          exact ⟨rfl, HF.out.trans (KK.out.mono HF.out.size)⟩
end PP
end Go.Proofs.Ytglbmiadgdadfaa
end
