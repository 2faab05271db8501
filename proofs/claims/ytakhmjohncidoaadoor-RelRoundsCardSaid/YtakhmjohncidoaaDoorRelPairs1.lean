/- rel.pairs: what its range function hands to a loop's body. -/
import Derived.Test.YtakhmjohncidoaaDoorRangeAll
import Derived.Test.YtakhmjohncidoaaDoorRelSets2
namespace Go.Proofs.YtakhmjohncidoaaDoor
open Go.RowKit Go.Shelf

attribute [local go_sem] Oper.semAt_some

/-- The items of 48. -/
def allIt : List It := (List.range 48).attach.map fun i => ⟨i.1, List.mem_range.1 i.2⟩
theorem allIt_vals : vals allIt = List.range 48 := by
  unfold vals allIt
  rw [List.map_map]
  exact List.attach_map_subtype_val _
/-- The items of a set. -/
def itS (s : Nat) : List It := allIt.filter fun i => s.testBit i.1
theorem vals_filter (p : Nat → Bool) (l : List It) : vals (l.filter fun i => p i.1) = (vals l).filter p := by
  unfold vals
  rw [List.filter_map]
  rfl
theorem vals_itS (s : Nat) (hs : s < 2 ^ 48) : vals (itS s) = MM.els s := by
  unfold itS
  rw [vals_filter (fun i => s.testBit i), allIt_vals]
  unfold MM.els
  rw [show (64 : Nat) = 48 + 16 by rfl, List.range_add, List.filter_append]
  have : ((List.range 16).map (48 + ·)).filter (fun i => s.testBit i) = [] := by
    rw [List.filter_eq_nil_iff]
    intro i hi
    obtain ⟨j, _, rfl⟩ := List.mem_map.1 hi
    rw [Nat.testBit_lt_two_pow (Nat.lt_of_lt_of_le hs (Nat.pow_le_pow_right (by omega) (by omega)))]
    exact Bool.false_ne_true
  rw [this, List.append_nil]
theorem vals_inj {a b : List It} (h : vals a = vals b) : a = b := by
  unfold vals at h
  exact (List.map_inj_right (fun x y e => Subtype.ext e)).1 h

/-- The pairs of a row. -/
def rowP (f : Nat → Nat) (a : It) : List (It × It) := (itS (f a.1)).map fun b => (a, b)
/-- The pairs of the rows below k. -/
def pairsK (f : Nat → Nat) (k : Nat) : List (It × It) := (allIt.filter fun a => decide (a.1 < k)).flatMap (rowP f)
theorem allIt_below (k : Nat) (h : k < 48) : (allIt.filter fun a => decide (a.1 < k + 1)) = (allIt.filter fun a => decide (a.1 < k)) ++ [⟨k, h⟩] := by
  apply vals_inj
  rw [vals_filter (fun a => decide (a < k + 1)), vals_snoc, vals_filter (fun a => decide (a < k)), allIt_vals]
  have h1 : ∀ m, m ≤ 48 → (List.range 48).filter (fun a => decide (a < m)) = List.range m := by
    intro m hm
    obtain ⟨d, hd⟩ : ∃ d, 48 = m + d := ⟨48 - m, by omega⟩
    rw [hd, List.range_add, List.filter_append, List.filter_eq_self.2 (by intro a ha; simpa using ha), List.filter_eq_nil_iff.2 (by intro a ha; obtain ⟨j, _, rfl⟩ := List.mem_map.1 ha; simp), List.append_nil]
  rw [h1 _ (by omega), h1 _ (by omega), List.range_succ]
theorem pairsK_zero (f : Nat → Nat) : pairsK f 0 = [] := by
  unfold pairsK
  rw [List.filter_eq_nil_iff.2 (by intro a _; simp)]
  rfl
theorem pairsK_succ (f : Nat → Nat) (k : Nat) (h : k < 48) : pairsK f (k + 1) = pairsK f k ++ rowP f ⟨k, h⟩ := by
  unfold pairsK
  rw [allIt_below k h, List.flatMap_append]
  simp

theorem pairsK_len (f : Nat → Nat) (k : Nat) : ∀ m, k ≤ m → m ≤ 48 → (pairsK f k).length ≤ (pairsK f m).length
  | 0, h, _ => by obtain rfl : k = 0 := by omega
                  exact Nat.le_refl _
  | m + 1, h, hm => by
    by_cases he : k = m + 1
    · subst he; exact Nat.le_refl _
    · have := pairsK_len f k m (by omega) (by omega)
      rw [pairsK_succ f m (by omega), List.length_append]
      omega
theorem rowP_len (f : Nat → Nat) (a : It) : (rowP f a).length ≤ 48 := by
  have h : allIt.length = 48 := by simp [allIt]
  rw [rowP, List.length_map]
  exact Nat.le_trans (List.length_filter_le _ _) (Nat.le_of_eq h)
theorem pairsK_le (f : Nat → Nat) : ∀ k, k ≤ 48 → (pairsK f k).length ≤ 48 * k
  | 0, _ => by rw [pairsK_zero]; simp
  | k + 1, h => by
    have h1 := pairsK_le f k (by omega)
    have h2 := rowP_len f ⟨k, by omega⟩
    rw [pairsK_succ f k (by omega), List.length_append]
    omega

theorem roundIn_wide {m m' : Nat} {P : Program} {l l' : Nat} {f : FuncId} {tmps : Array Value} {assign body : Code} {w : World} {R : Ending → World → Prop}
    (h : RoundIn Fence.wide m P l f tmps assign body w R) : RoundIn (Fence.wide.inRound l') m' P l f tmps assign body w R :=
  ⟨h.1, fun c cs _ => h.2 c cs (room_wide _)⟩

theorem elements_gives (et : TypeId) (n : Nat) (hn : 1 ≤ n) (Bn n₀ : Nat) (hn₀ : 0 < n₀) (s : Nat) (hs : s < 2 ^ 48) (w : World) (hT : Tab w) (hsz : n₀ ≤ w.heap.size) (hBn : Bn < w.heap.size)
    (hc : w.cell? ⟨Bn, 0, none⟩ = some (.int .u64 (s : Int))) :
    GivesAll Fence.wide n Tryd.prog 70 #[.pointer (some ⟨Bn, 0, none⟩)] (fun k : It => #[Value.int .i64 (k.1 : Int)]) et (fun k => k < n₀) (itS s) w := by
  intro l J W hW hJ hY hJ0
  have hp : ∀ k ∈ MM.els ((s : Int)).toNat, k < 48 := by
    intro k hk
    rw [Int.toNat_natCast, MM.mem_els] at hk
    apply Decidable.byContradiction
    intro h
    rw [Nat.testBit_lt_two_pow (Nat.lt_of_lt_of_le hs (Nat.pow_le_pow_right (by omega) (by omega)))] at hk
    cases hk.2
  refine (relElements_stops n hn Bn n₀ hn₀ (s : Int) (by omega) (by omega) w hT hsz hBn hc (fun k => k < 48) hp l (fun pre W1 => J pre W1 ∧ W.heap.size ≤ W1.heap.size) (fun _ _ => False) W hW
    (fun st A B row h hg hr => ⟨hJ st A B row h.1 hg fun r e => ⟨(hr r e).1, by obtain ⟨o, ho, hw⟩ := (hr r e).2; exact ⟨o, ho, Obj.not_cells_of_walk hw⟩⟩, Nat.le_trans h.2 hg.size⟩) (fun _ _ _ _ h _ _ => h)
    (fun pre x W1 hj hlen => (hY pre x W1 hj.1 (by rw [Int.toNat_natCast, ← vals_itS s hs] at hlen; simpa [vals] using hlen)).mono fun e W' ⟨he, hj', hk⟩ => .inl ⟨he, ⟨hj', Nat.le_trans hj.2 hk.size⟩, hk.below (fun k h => h) (Nat.le_trans hsz (Nat.le_trans hW.size hj.2))⟩) ⟨hJ0, Nat.le_refl _⟩).mono ?_
  rintro e W' ⟨hv, ⟨ys, hys, hj, _⟩ | ⟨_, _, h⟩⟩
  · refine ⟨hv, ?_⟩
    rw [Int.toNat_natCast, ← vals_itS s hs] at hys
    rw [← vals_inj hys]
    exact hj
  · exact h.elim

/-- The marks that a frame's ranges have left. -/
def marksD (Ds : List Nat) : List Deferred := Ds.map fun D => { target := .collected D, args := #[] }
/-- Each mark's block is open; the marks are distinct and lie from m on. -/
def MarksOk (m : Nat) (Ds : List Nat) (W : World) : Prop := Ds.Nodup ∧ ∀ D ∈ Ds, m ≤ D ∧ W.heap[D]? = some (.deferred (some []))

theorem leaves_marks {F : Fence} {n : Nat} {P : Program} {fn : Func} {tmps : Array Value} {R : Ending → World → Prop} (m : Nat) (S : World → Prop)
    (hS : ∀ (W : World) (D : Nat), S W → m ≤ D → W.heap[D]? = some (.deferred (some [])) → S (W.putObj D (.deferred none)))
    (hend : ∀ W, S W → LeavesInM F n P fn tmps R [] .returning W) : ∀ (Ds : List Nat) (W : World), MarksOk m Ds W → S W → LeavesInM F n P fn tmps R (marksD Ds) .returning W
  | [], W, _, h => hend W h
  | D :: Ds, W, hD, h => by
    obtain ⟨hm, ho⟩ := hD.2 D (by simp)
    refine ⟨by simp, .inl ⟨D, _, rfl, run_takeDeferred ho, leaves_marks m S hS hend Ds _ ⟨(List.nodup_cons.1 hD.1).2, fun E hE => ?_⟩ (hS W D h hm ho)⟩⟩
    obtain ⟨hm', ho'⟩ := hD.2 E (by simp [hE])
    exact ⟨hm', (World.putObj_heap_other (by rintro rfl; exact (List.nodup_cons.1 hD.1).1 hE)).trans ho'⟩

/-- What lies at the head of a round of the outer loop. -/
def PairsAt (m Bn : Nat) (n : Int) (f : Nat → Nat) (W0 : World) (l : Nat) (J : List (It × It) → World → Prop) (k : Nat) (Ds : List Nat) (W : World) : Prop :=
  J (pairsK f k) W ∧ RelAt W Bn n f ∧ Boxed W m 56 (.func (.yield l) #[] #[]) ∧ MarksOk m Ds W ∧ Tab W ∧ W0.heap.size ≤ W.heap.size ∧ m < W.heap.size

def encP (x : It × It) : Array Value := #[.int .i64 (x.1.1 : Int), .int .i64 (x.2.1 : Int)]

set_option maxRecDepth 100000 in
set_option maxHeartbeats 2000000 in
theorem pairs1_gives (et : TypeId) (e1 : 56 ≠ et) (e2 : 3 ≠ et) (nn : Nat) (hnn : 8 ≤ nn) (Bn n₀ : Nat) (hn₀ : 0 < n₀) (n : Int) (f : Nat → Nat) (hr : rightB n f = true) (w : World) (hT : Tab w) (hsz : n₀ ≤ w.heap.size) (hR : RelAt w Bn n f) :
    GivesAll Fence.wide nn Tryd.prog 68 #[.pointer (some ⟨Bn, 0, none⟩)] encP et (fun k => k < n₀ ∨ k = Bn) (pairsK f n.toNat) w := by
  intro l J W hW hJ hY hJ0
  obtain ⟨⟨hn0, hn1⟩, -⟩ := rightB_iff.1 hr
  have H48 := Lib.hid (fun i hi => right_row hr i hi)
  clear hr
  replace hR := hR.below hW hR.lt
  replace hT := hT.below hW hT.pos
  replace hsz := Nat.le_trans hsz hW.size
  have hBl := hR.lt
  clear hW
  have HY := Lib.hid hY
  clear hY
  have hbx := Boxed.new W 56 (.func (.yield l) #[] #[])
  have hR1 := hR.alloc (.cells #[.func (.yield l) #[] #[]] 56)
  have hJ1 := hJ.alloc (.cells #[.func (.yield l) #[] #[]] 56) hJ0
  have hT1 : Tab (W.alloc (.cells #[.func (.yield l) #[] #[]] 56)) := hT.below ((Below.refl W.heap.size W).alloc (Nat.le_refl _) _) hT.pos
  have hN := hR1.num
  have Hm := Lib.hid (show (W.alloc (.cells #[.func (.yield l) #[] #[]] 56)).heap.size = W.heap.size + 1 by simp)
  refine callsIn_of_wp_marks Tryd.func68 rfl trivial ?_ rfl
  simp only [Tryd.ntmps68, List.size_toArray, List.length_cons, List.length_nil, Nat.reduceAdd, Nat.reduceSub, Array.replicate_succ, Array.replicate_zero, List.push_toArray, List.append_toArray, List.nil_append, List.cons_append]
  gi_wp2
  generalize W.alloc (.cells #[.func (.yield l) #[] #[]] 56) = W1 at *
  refine wpIn_loop (fun a wr => ∃ (k : Nat) (Ds : List Nat) (u3 u4 u8 u9 u10 u11 u12 u13 u14 u15 u16 u17 u18 u19 u20 u21 : Value), (k : Int) ≤ n ∧ PairsAt W.heap.size Bn n f W1 l J k Ds wr ∧
      a = { tmps := #[.func (.yield l) #[] #[], .pointer (some ⟨Bn, 0, none⟩), .pointer (some ⟨W.heap.size, 0, none⟩), u3, u4, .pointer (some ⟨Bn, 0, none⟩), .int .i64 n, .int .i64 (k : Int), u8, u9, u10, u11, u12, u13, u14, u15, u16, u17, u18, u19, u20, u21], defers := marksD Ds })
    (fun a _ => (n - intOf (a.tmps.getD 7 undef)).toNat) ?_ ?_
  · exact ⟨0, [], _, _, _, _, _, _, _, _, _, _, _, _, _, _, _, _, hn0, ⟨by rw [pairsK_zero]; exact hJ1, hR1, hbx, ⟨List.nodup_nil, fun D hD => by cases hD⟩, hT1, Nat.le_refl _, by rw [Hm.out]; omega⟩, rfl⟩
  · rintro a wr ⟨k, Ds, u3, u4, u8, u9, u10, u11, u12, u13, u14, u15, u16, u17, u18, u19, u20, u21, hk, ⟨hJk, hRk, hbk, hDs, hTk, hsk, hmk⟩, rfl⟩
    by_cases hlt : (k : Int) < n
    · have hc := (hRk.alloc (.cells #[.int .i64 (k : Int)] 3)).row k (by omega)
      have k48 : (k : Int) < 48 := by omega
      have hkl : k < 48 := by omega
      gi_wp2_with fail
      refine ⟨trivial, fun _ => by omega, ?_⟩
      refine (callsIn_wide.2 (relElements_any (f k : Int) _)).mono ?_
      rintro e w' ⟨rfl, rfl⟩
      have b3 := Boxed.new wr 3 (.int .i64 (k : Int))
      have bs := Boxed.new (wr.alloc (.cells #[.int .i64 (k : Int)] 3)) 23 (.int .u64 (f k : Int))
      have hJ2 := hJ.alloc (.cells #[.int .u64 (f k : Int)] 23) (hJ.alloc (.cells #[.int .i64 (k : Int)] 3) hJk)
      have hR2 := (hRk.alloc (.cells #[.int .i64 (k : Int)] 3)).alloc (.cells #[.int .u64 (f k : Int)] 23)
      have hb2 := (hbk.alloc (.cells #[.int .i64 (k : Int)] 3)).alloc (.cells #[.int .u64 (f k : Int)] 23)
      have hB2 : Below wr.heap.size wr ((wr.alloc (.cells #[.int .i64 (k : Int)] 3)).alloc (.cells #[.int .u64 (f k : Int)] 23)) := ((Below.refl _ wr).alloc (Nat.le_refl _) _).alloc (by simp) _
      have hT2 := hTk.below hB2 hTk.pos
      have hD2 : MarksOk W.heap.size Ds ((wr.alloc (.cells #[.int .i64 (k : Int)] 3)).alloc (.cells #[.int .u64 (f k : Int)] 23)) :=
        ⟨hDs.1, fun D hD => ⟨(hDs.2 D hD).1, (hB2.block D (Array.getElem?_eq_some_iff.1 (hDs.2 D hD).2).1).trans (hDs.2 D hD).2⟩⟩
      replace b3 := b3.alloc (.cells #[.int .u64 (f k : Int)] 23)
      have hs2 : ((wr.alloc (.cells #[.int .i64 (k : Int)] 3)).alloc (.cells #[.int .u64 (f k : Int)] 23)).heap.size = wr.heap.size + 2 := by simp
      rw [World.size_alloc] at bs
      have hDl : ∀ D ∈ Ds, D < wr.heap.size := fun D hD => (Array.getElem?_eq_some_iff.1 (hDs.2 D hD).2).1
      gi_wp2_with fail
      generalize (wr.alloc (.cells #[.int .i64 (k : Int)] 3)).alloc (.cells #[.int .u64 (f k : Int)] 23) = W2 at *
      have hgv := elements_gives et (nn - 1) (by omega) (wr.heap.size + 1) n₀ hn₀ (f k) (H48.out k hkl) W2 hT2 (by omega) (by omega) bs.cell
      refine range_all rfl (by omega) (gf := 70) (lb := #[.pointer (some ⟨wr.heap.size + 1, 0, none⟩)]) rfl trivial (enters_of Tryd.func70 (by kernel_rfl) rfl)
        hgv (fun k hk => by omega) (fun _ => rfl)
        (fun pre W3 => J (pairsK f k ++ pre.map fun b => (⟨k, hkl⟩, b)) W3 ∧ RelAt W3 Bn n f ∧ Boxed W3 W.heap.size 56 (.func (.yield l) #[] #[]) ∧ Boxed W3 wr.heap.size 3 (.int .i64 (k : Int)) ∧ MarksOk W.heap.size Ds W3 ∧ Tab W3 ∧ W2.heap.size ≤ W3.heap.size)
        ?own ⟨by simpa using hJ2, hR2, hb2, b3, hD2, hT2, Nat.le_refl _⟩
        (fun y : It => { tmps := #[.func (.yield l) #[] #[], .pointer (some ⟨Bn, 0, none⟩), .pointer (some ⟨W.heap.size, 0, none⟩), .pointer (some ⟨wr.heap.size, 0, none⟩), .int .i64 (y.1 : Int), .pointer (some ⟨Bn, 0, none⟩), .int .i64 n, .int .i64 (k : Int), .bool true, .int .i64 (k : Int), .int .i64 (k : Int), .pointer (some ⟨Bn, 1, none⟩), .pointer (some ⟨Bn, 1 + k, none⟩), .int .u64 (f k : Int), .func (.func 70) #[] #[.pointer (some ⟨wr.heap.size + 1, 0, none⟩)], .int .i64 (y.1 : Int), u16, u17, u18, u19, u20, u21], defers := [] }) ?assign ?body ?done
      case own =>
        rintro st A B row ⟨hj, hr, hb, hk, hd, ht, hs⟩ hg hrow
        refine ⟨hJ _ A B row hj hg (fun r e => ⟨by have := (hrow r e).1; omega, (hrow r e).2⟩), heap_kept hg hrow hr (.inl rfl), heap_kept hg hrow hb (.inl rfl), heap_kept hg hrow hk (.inl rfl),
          ⟨hd.1, fun D hD => ⟨(hd.2 D hD).1, heap_kept hg hrow (hd.2 D hD).2 (.inr (by have := hDl D hD; omega))⟩⟩, fun i x hx => ?_, Nat.le_trans hs hg.size⟩
        have hg0 : B.heap[0]? = A.heap[0]? := hg.block _ (by omega) (fun e => by have := (hrow _ e.symm).1; omega)
        exact (World.cell?_of_block (a := ⟨0, i, none⟩) hg0).trans (ht i x hx)
      case assign =>
        intro l x W K hK
        gi_wp2
        exact hK
      case body =>
        rintro l2 pre ⟨y, hy⟩ W3 ⟨hJ3, hR3, hb3, hk3, hD3, hT3, hs3⟩ hlen
        have hlen2 : (pairsK f k ++ pre.map fun b => ((⟨k, hkl⟩ : It), b)).length < (pairsK f n.toNat).length := by
          have h1 := pairsK_len f (k + 1) n.toNat (by omega) (by omega)
          rw [pairsK_succ f k hkl] at h1
          simp only [List.length_append, rowP, List.length_map] at h1 ⊢
          omega
        have d2 := hb3.cell
        have d3 := hk3.cell
        obtain ⟨fn, tmps, assign, body, hyl, hRd⟩ := HY.out _ (⟨k, hkl⟩, ⟨y, hy⟩) W3 hJ3 hlen2
        simp only [encP] at hyl
        gi_wp2_with fail
        refine ⟨fun _ => by omega, (roundIn_wide hRd).mono ?_⟩
        rintro e W4 ⟨rfl, hJ4, hK4⟩
        gi_wp2
        refine ⟨hK4.weaken (fun k hk => .inl hk) (by omega), ?_, hK4.block _ _ (.inl (.inr rfl)) hR3, hK4.boxed hb3 (Nat.le_refl _) e1, hK4.boxed hk3 (by omega) e2,
          ⟨hD3.1, fun D hD => ⟨(hD3.2 D hD).1, hK4.deferred (hD3.2 D hD).2 (hD3.2 D hD).1⟩⟩, hT3.below (hK4.below (n := n₀) (fun k hk => .inl hk) (by omega)) hn₀, Nat.le_trans hs3 hK4.size⟩
        rw [List.map_append, ← List.append_assoc]
        exact hJ4
      case done =>
        rintro D W5 hD ⟨hJ5, hR5, hb5, hk5, hD5, hT5, hs5⟩ hDf
        gi_wp2
        refine ⟨⟨k + 1, D :: Ds, _, _, _, _, _, _, _, _, _, _, _, _, _, _, _, _, by omega, ⟨?_, hR5, hb5, ⟨List.nodup_cons.2 ⟨fun h => by have := hDl D h; omega, hD5.1⟩, fun E hE => ?_⟩, hT5, by omega, by omega⟩, rfl⟩, ?_⟩
        · rw [pairsK_succ f k hkl]
          exact hJ5
        · rcases List.mem_cons.1 hE with rfl | hE
          · exact ⟨by omega, hDf⟩
          · exact hD5.2 E hE
        · simp [intOf]; omega
    · obtain rfl : n = (k : Int) := by omega
      gi_wp2
      refine leaves_marks W.heap.size (fun W' => J (pairsK f k) W') (fun W' D h hD ho => hJ.putObj _ h hD ho rfl) ?_ Ds wr hDs hJk
      intro W' h
      exact ⟨_, results_none rfl _ _ _, ⟨_, rfl⟩, h⟩
end Go.Proofs.YtakhmjohncidoaaDoor
