/- The document's answers for layer 2: From, Into, Plus, Star. -/
import Derived.Deep.DeepCutAuto
import Derived.Deep.AppendLies
import Derived.Test.YtnfkedcbhjbhkaaDoorRefRel3
import Derived.Test.YtnfkedcbhjbhkaaDoorRelPlusAlg
namespace Go.Proofs.YtnfkedcbhjbhkaaDoor
open Go.RowKit Go.Shelf

attribute [local go_sem] Oper.semAt_some

set_option maxRecDepth 100000 in
set_option maxHeartbeats 4000000 in
theorem refFrom_bad (n : Int) (f : Nat → Nat) (hf : R64 f) (hb : rightB n f = false) (w : World) :
    Calls Tryd.prog 41 #[.agg (relC n f)] w fun e w' => e = .returned (.int .u64 0) ∧ Below w.heap.size w w' := by
  have hA := RelAt.new w n f
  have hB := below_new w (.cells (relC n f) 26)
  have l1 := hA.ld
  have CP := Lib.hid (refPairs_bad n f hf hb)
  go_enter Tryd.func41, Tryd.ntmps41
  go_wp2_with fail
  refine (CP.out _).mono ?_
  rintro e w1 ⟨rfl, h⟩
  go_wp2
  go_loopw [3, 5] (fun v i W => i = .int .i64 0 ∧ v = .int .u64 0 ∧ Below w.heap.size w W) (fun _ _ _ => 0)
  case atStart => exact ⟨rfl, rfl, thru hB h⟩
  case round =>
    obtain ⟨rfl, rfl, hB2⟩ := hrel
    go_wp2
    go_ret
    exact ⟨rfl, hB2⟩
set_option maxRecDepth 100000 in
set_option maxHeartbeats 4000000 in
theorem refInto_bad (n : Int) (f : Nat → Nat) (hf : R64 f) (hb : rightB n f = false) (w : World) :
    Calls Tryd.prog 43 #[.agg (relC n f)] w fun e w' => e = .returned (.int .u64 0) ∧ Below w.heap.size w w' := by
  have hA := RelAt.new w n f
  have hB := below_new w (.cells (relC n f) 26)
  have l1 := hA.ld
  have CP := Lib.hid (refPairs_bad n f hf hb)
  go_enter Tryd.func43, Tryd.ntmps43
  go_wp2_with fail
  refine (CP.out _).mono ?_
  rintro e w1 ⟨rfl, h⟩
  go_wp2
  go_loopw [3, 5] (fun v i W => i = .int .i64 0 ∧ v = .int .u64 0 ∧ Below w.heap.size w W) (fun _ _ _ => 0)
  case atStart => exact ⟨rfl, rfl, thru hB h⟩
  case round =>
    obtain ⟨rfl, rfl, hB2⟩ := hrel
    go_wp2
    go_ret
    exact ⟨rfl, hB2⟩
set_option maxRecDepth 100000 in
set_option maxHeartbeats 4000000 in
theorem refFrom_ok (N : Nat) (f : Nat → Nat) (hf : R64 f) (hr : Rgt N f) (w : World) :
    Calls Tryd.prog 41 #[.agg (relC N f)] w fun e w' => e = .returned (.int .u64 (fromK f N : Int)) ∧ Below w.heap.size w w' := by
  have hN := hr.le
  have hfin := Lib.hid (SameP.from hr (fun x => Iff.rfl : SameP f N (pairsK f N)))
  have hA := RelAt.new w N f
  have hB := below_new w (.cells (relC N f) 26)
  have l1 := hA.ld
  have CP := Lib.hid (refPairs_ok N f hf hr)
  have hLle := pairsK_le f N hN
  generalize pairsK f N = L at *
  go_enter Tryd.func41, Tryd.ntmps41
  go_wp2_with fail
  refine (CP.out _).mono ?_
  rintro e w1 ⟨v, rfl, hrow, h⟩
  replace hrow := ownsRow_base hrow (b' := w.heap.size) (by have := hB.size; omega)
  obtain ⟨av, cv, rfl⟩ := ownsRow_slice hrow
  have hrowh := Lib.hid hrow
  replace hB := thru hB h
  clear hrow h l1 hA
  go_wp2
  go_loopw [3, 5] (fun v i W => ∃ k : Nat, k ≤ L.length ∧ i = .int .i64 k ∧ v = .int .u64 (fstS (L.take k) : Int) ∧ w1 = W) (fun _ i _ => L.length - (intOf i).toNat)
  case atStart => exact ⟨0, by omega, rfl, rfl, rfl⟩
  case round =>
    obtain ⟨k, hk, rfl, rfl, rfl⟩ := hrel
    by_cases hlt : k < L.length
    · have tk : decide (k < L.length) = true := by simpa using hlt
      obtain ⟨g, c, hv, hgb, hglt⟩ := hrowh.out.form (by omega)
      obtain ⟨rfl, _, rfl⟩ := Value.slice.inj hv
      clear hv
      obtain ⟨d1, d2⟩ := pairCells_get L k hlt
      have hcell : ∀ m u, (pairCells L)[m]? = some u → w1.cell? ⟨g, m, none⟩ = some u := by
        intro m u hu
        have := hrowh.out.cells (g := g) rfl m u hu
        rwa [Go.WideShapes.add_plain, Nat.zero_add] at this
      replace d1 := hcell _ _ d1
      replace d2 := hcell _ _ d2
      have hF1 : fstS (L.take (k + 1)) = fstS (L.take k) ||| 2 ^ L[k].1.1 := by rw [List.take_succ_eq_append_getElem hlt, fstS_snoc]
      have b1 := fstS_lt (L.take k)
      have y1 := L[k].1.2
      clear hcell
      generalize L[k].1.1 = x1 at *
      generalize L[k].2.1 = x2 at *
      generalize fstS (L.take k) = f1 at *
      have cW := Lib.hid (fun w => refWith f1 x1 (by omega) (by omega) w)
      generalize f1 ||| 2 ^ x1 = g1 at *
      replace hF1 := Lib.hid hF1
      go_wp2_with fail
      refine (cW.out _).mono ?_
      rintro e w2 ⟨rfl, rfl⟩
      go_wp2
      go_roundw
      case rel => exact ⟨k + 1, by omega, by go_num, by rw [hF1.out], trivial⟩
      case measure => simp [intOf]; omega
    · obtain rfl : k = L.length := by omega
      have ht : fstS (L.take L.length) = fromK f N := by rw [List.take_length, hfin.out]
      rw [ht]
      go_wp2
      go_ret
      exact ⟨rfl, hB⟩
set_option maxRecDepth 100000 in
set_option maxHeartbeats 4000000 in
theorem refInto_ok (N : Nat) (f : Nat → Nat) (hf : R64 f) (hr : Rgt N f) (w : World) :
    Calls Tryd.prog 43 #[.agg (relC N f)] w fun e w' => e = .returned (.int .u64 (imgF f (allOf (N : Int)).toNat : Int)) ∧ Below w.heap.size w w' := by
  have hN := hr.le
  have hfin := Lib.hid (SameP.into hr (fun x => Iff.rfl : SameP f N (pairsK f N)))
  have hA := RelAt.new w N f
  have hB := below_new w (.cells (relC N f) 26)
  have l1 := hA.ld
  have CP := Lib.hid (refPairs_ok N f hf hr)
  have hLle := pairsK_le f N hN
  generalize pairsK f N = L at *
  go_enter Tryd.func43, Tryd.ntmps43
  go_wp2_with fail
  refine (CP.out _).mono ?_
  rintro e w1 ⟨v, rfl, hrow, h⟩
  replace hrow := ownsRow_base hrow (b' := w.heap.size) (by have := hB.size; omega)
  obtain ⟨av, cv, rfl⟩ := ownsRow_slice hrow
  have hrowh := Lib.hid hrow
  replace hB := thru hB h
  clear hrow h l1 hA
  go_wp2
  go_loopw [3, 5] (fun v i W => ∃ k : Nat, k ≤ L.length ∧ i = .int .i64 k ∧ v = .int .u64 (sndS (L.take k) : Int) ∧ w1 = W) (fun _ i _ => L.length - (intOf i).toNat)
  case atStart => exact ⟨0, by omega, rfl, rfl, rfl⟩
  case round =>
    obtain ⟨k, hk, rfl, rfl, rfl⟩ := hrel
    by_cases hlt : k < L.length
    · have tk : decide (k < L.length) = true := by simpa using hlt
      obtain ⟨g, c, hv, hgb, hglt⟩ := hrowh.out.form (by omega)
      obtain ⟨rfl, _, rfl⟩ := Value.slice.inj hv
      clear hv
      obtain ⟨d1, d2⟩ := pairCells_get L k hlt
      have hcell : ∀ m u, (pairCells L)[m]? = some u → w1.cell? ⟨g, m, none⟩ = some u := by
        intro m u hu
        have := hrowh.out.cells (g := g) rfl m u hu
        rwa [Go.WideShapes.add_plain, Nat.zero_add] at this
      replace d1 := hcell _ _ d1
      replace d2 := hcell _ _ d2
      have hF1 : sndS (L.take (k + 1)) = sndS (L.take k) ||| 2 ^ L[k].2.1 := by rw [List.take_succ_eq_append_getElem hlt, sndS_snoc]
      have b1 := sndS_lt (L.take k)
      have y1 := L[k].2.2
      clear hcell
      generalize L[k].1.1 = x1 at *
      generalize L[k].2.1 = x2 at *
      generalize sndS (L.take k) = f1 at *
      have cW := Lib.hid (fun w => refWith f1 x2 (by omega) (by omega) w)
      generalize f1 ||| 2 ^ x2 = g1 at *
      replace hF1 := Lib.hid hF1
      go_wp2_with fail
      refine (cW.out _).mono ?_
      rintro e w2 ⟨rfl, rfl⟩
      go_wp2
      go_roundw
      case rel => exact ⟨k + 1, by omega, by go_num, by rw [hF1.out], trivial⟩
      case measure => simp [intOf]; omega
    · obtain rfl : k = L.length := by omega
      have ht : sndS (L.take L.length) = imgF f (allOf (N : Int)).toNat := by rw [List.take_length, hfin.out]
      rw [ht]
      go_wp2
      go_ret
      exact ⟨rfl, hB⟩

/-! ### Plus: one item after the other -/
/-- The pairs that item k brings. -/
def warP (R : Nat → Nat) (k : Nat) : Nat → Nat → Bool := fun a b => (R a).testBit k && (R k).testBit b
def warK (f : Nat → Nat) (N : Nat) : Nat → (Nat → Nat)
  | 0 => f
  | k + 1 => unionF (warK f N k) (fillF (warP (warK f N k) k) N N 0)
theorem rgt_fill {p : Nat → Nat → Bool} {N : Nat} (h : N ≤ 48) : Rgt N (fillF p N N 0) := rgt_iff.2 ⟨h, fun i _ j hb => by have := (bt_fill p N i j).1 hb; exact ⟨this.1, this.2.1⟩⟩
theorem rgt_war {f : Nat → Nat} {N : Nat} (h : Rgt N f) : ∀ k, Rgt N (warK f N k)
  | 0 => h
  | k + 1 => rgt_union (rgt_war h k) (rgt_fill h.le)
theorem war_64 {f : Nat → Nat} {N : Nat} (hN : N ≤ 48) (h : R64 f) : ∀ k, R64 (warK f N k)
  | 0 => h
  | k + 1 => union_64 (war_64 hN h k) (fill_64 _ hN (by omega))
theorem bt_war {f : Nat → Nat} {N : Nat} (h : Rgt N f) {k i j : Nat} (hi : i < 48) : Bt (warK f N (k + 1)) i j ↔ Bt (warK f N k) i j ∨ (Bt (warK f N k) i k ∧ Bt (warK f N k) k j ∧ k < 48) := by
  show Bt (unionF _ _) i j ↔ _
  rw [bt_union, bt_fill]
  have hr := rgt_war h k
  constructor
  · rintro (h1 | ⟨h1, h2, h3⟩)
    · exact .inl h1
    · unfold warP at h3
      rw [Bool.and_eq_true] at h3
      exact .inr ⟨h3.1, h3.2, hr.snd48 hi h3.1⟩
  · rintro (h1 | ⟨h1, h2, h3⟩)
    · exact .inl h1
    · exact .inr ⟨hr.fst hi h1, hr.snd h3 h2, by unfold warP; rw [Bool.and_eq_true]; exact ⟨h1, h2⟩⟩
theorem war_sound {f : Nat → Nat} {N : Nat} (h : Rgt N f) : ∀ (k : Nat) {i j : Nat}, i < 48 → Bt (warK f N k) i j → Bt (plusF N f) i j
  | 0, i, j, hi, hb => plus_base h hi hb
  | k + 1, i, j, hi, hb => by
    rcases (bt_war h hi).1 hb with h1 | ⟨h1, h2, h3⟩
    · exact war_sound h k hi h1
    · exact plus_trans h hi h3 (war_sound h k hi h1) (war_sound h k h3 h2)
theorem war_base {f : Nat → Nat} {N : Nat} (h : Rgt N f) : ∀ (k : Nat) {i j : Nat}, i < 48 → Bt f i j → Bt (warK f N k) i j
  | 0, _, _, _, hb => hb
  | k + 1, _, _, hi, hb => (bt_war h hi).2 (.inl (war_base h k hi hb))
theorem war_trans {f : Nat → Nat} {N : Nat} (h : Rgt N f) : ∀ (k : Nat) {i c j : Nat}, i < 48 → c < 48 → c < k → Bt (warK f N k) i c → Bt (warK f N k) c j → Bt (warK f N k) i j
  | 0, _, _, _, _, _, hc, _, _ => by omega
  | k + 1, i, c, j, hi, hc, hck, h1, h2 => by
    rw [bt_war h hi] at h1 ⊢
    rw [bt_war h hc] at h2
    by_cases hk : c = k
    · subst hk
      have g1 : Bt (warK f N c) i c := by rcases h1 with h | h; exact h; exact h.1
      have g2 : Bt (warK f N c) c j := by rcases h2 with h | h; exact h; exact h.2.1
      exact .inr ⟨g1, g2, hc⟩
    · have hlt : c < k := by omega
      rcases h1 with h1 | ⟨h1, h1', h1k⟩
      · rcases h2 with h2 | ⟨h2, h2', h2k⟩
        · exact .inl (war_trans h k hi hc hlt h1 h2)
        · exact .inr ⟨war_trans h k hi hc hlt h1 h2, h2', h2k⟩
      · rcases h2 with h2 | ⟨h2, h2', h2k⟩
        · exact .inr ⟨h1, war_trans h k h1k hc hlt h1' h2, h1k⟩
        · exact .inr ⟨h1, h2', h1k⟩
theorem war_plus {f : Nat → Nat} {N : Nat} (h : Rgt N f) : relB N N (plusF N f) (warK f N N) = true :=
  relB_bits fun i j hi => by
    constructor
    · intro hb
      exact plus_min h (fun i j hi hb => war_base h N hi hb) (fun i m j hi hm h1 h2 => war_trans h N hi hm ((rgt_war h N).snd hi h1) h1 h2) hi hb
    · exact war_sound h N hi
theorem ustep {n : Int} {R : Nat → Nat} {p : Nat → Nat → Bool} {N a b : Nat} (hR : R64 R) (hN : N ≤ 48) (ha : a < N) (hb : b < N) (h : p a b = true) (w : World) :
    Calls Tryd.prog 77 #[.agg (relC n (unionF R (fillF p N a b))), .int .i64 (a : Int), .int .i64 (b : Int)] w fun e w' => e = .returned (.agg (relC n (unionF R (fillF p N a (b + 1))))) ∧ Below w.heap.size w w' := by
  have := refwith_any n (unionF R (fillF p N a b)) (union_64 hR (fill_64 p hN (by omega))) a b (by omega) (by omega) w
  rwa [show upd (unionF R (fillF p N a b)) a (unionF R (fillF p N a b) a ||| 2 ^ b) = unionF R (fillF p N a (b + 1)) by
    rw [← fill_yes p N a b h]
    funext i
    unfold upd unionF
    by_cases hi : i = a
    · subst hi; simp [Nat.or_assoc]
    · simp [hi]] at this
theorem union_zf (R : Nat → Nat) (p : Nat → Nat → Bool) (N : Nat) : unionF R (fillF p N 0 0) = R := by
  rw [fill_start]; funext i; simp [unionF, zf]
set_option maxRecDepth 100000 in
set_option maxHeartbeats 4000000 in
theorem refPlus_bad (n : Int) (f : Nat → Nat) (hf : R64 f) (hb : rightB n f = false) (w : World) :
    Calls Tryd.prog 37 #[.agg (relC n f)] w fun e w' => e = .returned (.agg (relC 0 zf)) ∧ Below w.heap.size w w' := by
  have HR := Lib.hid (fun w => show Calls Tryd.prog 17 #[.agg (relC n f)] w fun e w' => e = .returned (.bool false) ∧ Below w.heap.size w w' by have := refRight_any n f hf w; rwa [hb] at this)
  have hA := (RelAt.new w n f).alloc (.cells (relC 0 zf) 26)
  have hZ := RelAt.new (w.alloc (.cells (relC n f) 26)) 0 zf
  rw [World.size_alloc] at hZ
  have hB := thru (below_new w (.cells (relC n f) 26)) (below_new _ (.cells (relC 0 zf) 26))
  have l1 := hA.ld
  go_enter Tryd.func37, Tryd.ntmps37
  go_wp2_with fail
  refine (HR.out _).mono ?_
  rintro e w1 ⟨rfl, h⟩
  obtain ⟨W3, hs3, hR3, hO3⟩ := (hZ.on h).put 0 zf
  have hB3 := below_only (thru hB h) hO3 (by omega)
  clear hA hZ hB hO3 h l1
  go_wp2
  refine bodyPost_ret (results_rel rfl _ _ _ _ _ rfl hR3) rfl ?_
  exact ⟨rfl, hB3⟩
set_option maxRecDepth 100000 in
set_option maxHeartbeats 8000000 in
theorem refPlus_ok (N : Nat) (f : Nat → Nat) (hf : R64 f) (hr : Rgt N f) (w : World) :
    Calls Tryd.prog 37 #[.agg (relC N f)] w fun e w' => e = .returned (.agg (relC N (warK f N N))) ∧ Below w.heap.size w w' := by
  have hN := hr.le
  have HR := Lib.hid (fun w => show Calls Tryd.prog 17 #[.agg (relC N f)] w fun e w' => e = .returned (.bool true) ∧ Below w.heap.size w w' by have := refRight_any N f hf w; rwa [show rightB (N : Int) f = true from hr] at this)
  have hA := (RelAt.new w N f).alloc (.cells (relC 0 zf) 26)
  have hZ := RelAt.new (w.alloc (.cells (relC N f) 26)) 0 zf
  rw [World.size_alloc] at hZ
  have hB := thru (below_new w (.cells (relC N f) 26)) (below_new _ (.cells (relC 0 zf) 26))
  have l1 := hA.ld
  have le0 : w.heap.size ≤ w.heap.size := Nat.le_refl _
  have nez : w.heap.size + 1 ≠ w.heap.size := by omega
  go_enter Tryd.func37, Tryd.ntmps37
  go_wp2_with fail
  refine (HR.out _).mono ?_
  rintro e w1 ⟨rfl, h⟩
  have hX : Kept w w1 [(w.heap.size, (N : Int), warK f N 0), (w.heap.size + 1, 0, zf)] := by
    refine ⟨thru hB h, ?_⟩
    simp only [List.mem_cons, List.not_mem_nil, or_false]
    rintro p (rfl | rfl)
    · exact hA.on h
    · exact hZ.on h
  clear h l1 hA hZ hB
  go_wp2
  go_loopw [3] (fun i W => ∃ k : Nat, k ≤ N ∧ i = .int .i64 k ∧ Kept w W [(w.heap.size, (N : Int), warK f N k), (w.heap.size + 1, 0, zf)]) (fun i _ => N - (intOf i).toNat)
  case atStart => exact ⟨0, by omega, rfl, hX⟩
  case round =>
    clear hX
    obtain ⟨k, hk, rfl, hX⟩ := hrel
    have n1 := (hX.at (b := w.heap.size) (n := N) (f := warK f N k) (by simp)).num
    by_cases hkN : k < N
    · have tk : decide (k < N) = true := by simpa using hkN
      have zk : (k : Int) < 48 := by omega
      have R64' := war_64 hN hf k
      have hnext : warK f N (k + 1) = unionF (warK f N k) (fillF (warP (warK f N k) k) N N 0) := rfl
      generalize warK f N k = R at *
      generalize hp : warP R k = p at *
      have hpe : ∀ a b, p a b = ((R a).testBit k && (R k).testBit b) := fun a b => by rw [← hp]; rfl
      replace hpe := Lib.hid hpe
      replace hnext := Lib.hid hnext
      clear hp
      have CR := Lib.hid (fun w a b (hb : b < 64) => refHas (R a) b (R64' a) hb w)
      have l1 := (hX.at (b := w.heap.size) (n := N) (f := R) (by simp)).ld
      obtain ⟨W3, hs3, hu, h3, -⟩ := Ex.lay wr N R
      have hlt1 := (hX.at (b := w.heap.size) (n := N) (f := R) (by simp)).lt
      have hlt2 := (hX.at (b := w.heap.size + 1) (n := 0) (f := zf) (by simp)).lt
      have hX3 : Kept w W3 [(w.heap.size, (N : Int), unionF R (fillF p N 0 0)), (wr.heap.size, (N : Int), R), (w.heap.size + 1, 0, zf)] := by
        rw [union_zf]
        have h := (hX.on h3).cons hu
        exact h.less (by simp)
      clear hX h3 hu
      generalize hbw : wr.heap.size = bw at *
      have ne1 : bw ≠ w.heap.size := by omega
      go_wp2
      clear n1 l1 hs3
      replace hbw := Lib.hid hbw
      go_loopw [5] (fun i W => ∃ a : Nat, a ≤ N ∧ i = .int .i64 a ∧ Kept w W [(w.heap.size, (N : Int), unionF R (fillF p N a 0)), (bw, (N : Int), R), (w.heap.size + 1, 0, zf)]) (fun i _ => N - (intOf i).toNat)
      case atStart => exact ⟨0, by omega, rfl, hX3⟩
      case round =>
        clear hX3
        obtain ⟨a, ha, rfl, hX⟩ := hrel
        have n1 := (hX.at (b := w.heap.size) (n := N) (f := unionF R (fillF p N a 0)) (by simp)).num
        by_cases haN : a < N
        · have ta : decide (a < N) = true := by simpa using haN
          have za : (a : Int) < 48 := by omega
          go_wp2
          clear n1
          go_loopw [6] (fun j W => ∃ m : Nat, m ≤ N ∧ j = .int .i64 m ∧ Kept w W [(w.heap.size, (N : Int), unionF R (fillF p N a m)), (bw, (N : Int), R), (w.heap.size + 1, 0, zf)]) (fun j _ => N - (intOf j).toNat)
          case atStart => exact ⟨0, by omega, rfl, hX⟩
          case round =>
            clear hX
            obtain ⟨m, hm, rfl, hX⟩ := hrel
            have n1 := (hX.at (b := w.heap.size) (n := N) (f := unionF R (fillF p N a m)) (by simp)).num
            by_cases hmN : m < N
            · have tm : decide (m < N) = true := by simpa using hmN
              have r1 := (hX.at (b := bw) (n := N) (f := R) (by simp)).row a (by omega)
              have r2 := (hX.at (b := bw) (n := N) (f := R) (by simp)).row k (by omega)
              have c1 := CR.out wr a k (by omega)
              have c2 := CR.out wr k m (by omega)
              have cW := Lib.hid (fun h w => ustep (n := (N : Int)) (p := p) R64' hN haN hmN h w)
              have hno := Lib.hid (fill_no p N a m)
              have hcr := hpe.out a m
              rw [hcr] at cW hno
              have l1 := (hX.at (b := w.heap.size) (n := N) (f := unionF R (fillF p N a m)) (by simp)).ld
              have hXh := Lib.hid hX
              clear hX hcr
              generalize (R a).testBit k = b1 at *
              generalize (R k).testBit m = b2 at *
              replace c1 := Lib.hid c1
              replace c2 := Lib.hid c2
              cases b1
              · have e := Lib.hid (hno.out rfl)
                clear cW hno
                go_wp2_with fail
                refine c1.out.mono ?_
                rintro e w1 ⟨rfl, rfl⟩
                go_wp2
                go_roundw
                case rel => exact ⟨m + 1, by omega, by go_num, by rw [← e.out]; exact hXh.out⟩
                case measure => simp [intOf]; omega
              · cases b2
                · have e := Lib.hid (hno.out rfl)
                  clear cW hno
                  go_wp2_with fail
                  refine c1.out.mono ?_
                  rintro e w1 ⟨rfl, rfl⟩
                  go_wp2_with fail
                  refine c2.out.mono ?_
                  rintro e w1 ⟨rfl, rfl⟩
                  go_wp2
                  go_roundw
                  case rel => exact ⟨m + 1, by omega, by go_num, by rw [← e.out]; exact hXh.out⟩
                  case measure => simp [intOf]; omega
                · have cW' := Lib.hid (cW.out rfl)
                  clear cW hno
                  go_wp2_with fail
                  refine c1.out.mono ?_
                  rintro e w1 ⟨rfl, rfl⟩
                  go_wp2_with fail
                  refine c2.out.mono ?_
                  rintro e w1 ⟨rfl, rfl⟩
                  go_wp2_with fail
                  clear l1 r1 r2 n1
                  refine (cW'.out _).mono ?_
                  rintro e w1 ⟨rfl, h⟩
                  obtain ⟨W4, hs4, hR4, hO4⟩ := ((hXh.out.on h).at (b := w.heap.size) (n := N) (f := unionF R (fillF p N a m)) (by simp)).put N (unionF R (fillF p N a (m + 1)))
                  have hX4 := (((hXh.out.on h).less (l' := [(bw, (N : Int), R), (w.heap.size + 1, 0, zf)]) (by simp)).only hO4 le0 (by simp only [List.mem_cons, List.not_mem_nil, or_false]; rintro p (rfl | rfl) <;> assumption)).cons hR4
                  clear h hR4 hO4
                  go_wp2
                  go_roundw
                  case rel => exact ⟨m + 1, by omega, by go_num, hX4⟩
                  case measure => simp [intOf]; omega
            · obtain rfl : m = N := by omega
              have hXh := Lib.hid hX
              clear hX
              go_wp2
              go_roundw
              case rel => exact ⟨a + 1, by omega, by go_num, by rw [← fill_next]; exact hXh.out⟩
              case measure => simp [intOf]; omega
        · obtain rfl : a = N := by omega
          have hXh := Lib.hid (hX.less (l' := [(w.heap.size, (a : Int), unionF R (fillF p a a 0)), (w.heap.size + 1, 0, zf)]) (by simp))
          clear hX
          go_wp2
          go_roundw
          case rel => exact ⟨k + 1, by omega, by go_num, by rw [hnext.out]; exact hXh.out⟩
          case measure => simp [intOf]; omega
    · obtain rfl : k = N := by omega
      have l1 := (hX.at (b := w.heap.size) (n := k) (f := warK f k k) (by simp)).ld
      obtain ⟨W4, hs4, hR4, hO4⟩ := (hX.at (b := w.heap.size + 1) (n := 0) (f := zf) (by simp)).put k (warK f k k)
      have hB4 := below_only hX.1 hO4 (by omega)
      clear hX hO4
      go_wp2
      refine bodyPost_ret (results_rel rfl _ _ _ _ _ rfl hR4) rfl ?_
      exact ⟨rfl, hB4⟩
end Go.Proofs.YtnfkedcbhjbhkaaDoor
