/- OrdBase, OrdTotal, OrdKeeps, OrdTotAlg, OrdWrongAlg, OrdLists in one text, for the claim. -/
import Derived.Deep.RegionWith
import Derived.Deep.DeepCutAuto
import Derived.Test.YtpmlomhlbmgilaaDoorOrdMarks
import Derived.Test.YtpmlomhlbmgilaaDoorOwM4
import Derived.Test.YtpmlomhlbmgilaaDoorRelAid2
import Derived.Maps.Own
import Derived.Maps.OwnOps
import Derived.Maps.Views
import Derived.WalkKit
import Derived.Test.YtpmlomhlbmgilaaDoorOwM3
import Derived.Test.YtpmlomhlbmgilaaDoorRelAwake2

section
/- The positions of an order: 48 numbers in an array. -/
namespace Go.Proofs.YtpmlomhlbmgilaaDoor
open Go.RowKit Go.Shelf

attribute [local go_sem] Oper.semAt_some

def plL (f : Nat → Nat) : List Value := (List.range 48).map fun i => Value.int .i64 (f i : Int)
def plC (f : Nat → Nat) : Array Value := (plL f).toArray
theorem plL_length (f : Nat → Nat) : (plL f).length = 48 := by simp [plL]
theorem plC_size (f : Nat → Nat) : (plC f).size = 48 := by simp [plC, plL]
theorem plC_get (f : Nat → Nat) (i : Nat) (h : i < 48) : (plC f)[i]? = some (.int .i64 (f i : Int)) := by simp [plC, plL, h]
theorem plC_one (f : Nat → Nat) : (plC f).all (·.oneCell') = true := by
  rw [Array.all_eq_true_iff_forall_mem]
  intro v hv
  simp only [plC, plL, List.mem_toArray, List.mem_map] at hv
  obtain ⟨i, _, rfl⟩ := hv
  rfl
theorem plC_set (f : Nat → Nat) (i x : Nat) (h : i < 48) : (plC f).setIfInBounds i (.int .i64 (x : Int)) = plC (upd f i x) := by
  apply Array.ext_getElem?
  intro j
  rw [Array.getElem?_setIfInBounds, plC_size]
  by_cases hj : i = j
  · subst hj
    rw [if_pos rfl, if_pos h, plC_get _ i h]
    simp [upd]
  · rw [if_neg hj]
    by_cases hj2 : j < 48
    · rw [plC_get _ j hj2, plC_get _ j hj2]
      simp [upd, show j ≠ i by omega]
    · rw [Array.getElem?_eq_none (by rw [plC_size]; omega), Array.getElem?_eq_none (by rw [plC_size]; omega)]
/-- The positions lie in block b. -/
def PlAt (W : World) (b : Nat) (f : Nat → Nat) : Prop := W.heap[b]? = some (.cells (plC f) 97 (0, 0))
theorem infoPl : (Tryd.prog.info? 97).map (·.size) = some 48 := by kernel_rfl
section
variable {W W' : World} {b : Nat} {f : Nat → Nat}
theorem PlAt.lt (h : PlAt W b f) : b < W.heap.size := (Array.getElem?_eq_some_iff.1 h).1
theorem PlAt.row (h : PlAt W b f) (i : Nat) (hi : i < 48) : W.cell? ⟨b, i, none⟩ = some (.int .i64 (f i : Int)) := by rw [cell_of_row W b _ _ _ _ h, plC_get _ i hi]
theorem PlAt.free (h : PlAt W b f) (i : Nat) : W.frozen? ⟨b, i, none⟩ = false := frozen_of_row W b i _ _ h
theorem PlAt.new (W : World) (f : Nat → Nat) : PlAt (W.alloc (.cells (plC f) 97)) W.heap.size f := heap_alloc_new W _
theorem PlAt.alloc (h : PlAt W b f) (o : Obj) : PlAt (W.alloc o) b f := (heap_alloc_old W o b h.lt).trans h
theorem PlAt.drew (h : PlAt W b f) : PlAt W.drew b f := h
theorem PlAt.on (h : PlAt W b f) (hb : Below W.heap.size W W') : PlAt W' b f := (hb.block b h.lt).trans h
theorem PlAt.only {c : Nat} (h : PlAt W b f) (ho : Only c W W') (hb : b ≠ c) : PlAt W' b f := (ho.block b hb).trans h
theorem PlAt.set (h : PlAt W b f) (i x : Nat) (hi : i < 48) : PlAt (W.setCell ⟨b, i, none⟩ (.int .i64 (x : Int))) b (upd f i x) := by
  unfold PlAt
  rw [heap_setCell_same W b _ _ _ _ h, plC_set f i x hi]
theorem PlAt.other (h : PlAt W b f) (a : Addr) (v : Value) (hb : b ≠ a.block) : PlAt (W.setCell a v) b f := (heap_setCell_other W a b v hb).trans h
theorem PlAt.load (h : PlAt W b f) : (Instr.loadAt 97 (.pointer (some ⟨b, 0, none⟩))).run Tryd.prog W = .ok (.agg (plC f)) W := by
  simp only [Instr.loadAt, Instr.sureAddr, Sem.run_bind, Sem.run_pure, Result.andThen_ok]
  exact run_loadVar_row W b 97 97 (plC f) (0, 0) _ h Tryd.underlying97 rfl (by rw [plC_size]; exact infoPl)
theorem PlAt.store (h : PlAt W b f) (g : Nat → Nat) : (Instr.storeAt 97 (.pointer (some ⟨b, 0, none⟩)) (.agg (plC g))).run Tryd.prog W = .ok () (W.setRow b (plC g)) := by
  simp only [Instr.storeAt, Instr.sureAddr, Sem.run_bind, Sem.run_pure, Result.andThen_ok]
  exact run_storeVar_row W b 97 97 (plC f) (plC g) h (by rw [plC_size]; exact infoPl) (by rw [plC_size, plC_size]) (plC_one g)
end
noncomputable def ldPl (p : Value) : Sem Value := Instr.loadAt 97 p
noncomputable def stPl (p v : Value) : Sem Unit := Instr.storeAt 97 p v
noncomputable def zPl : Sem Value := zeroValue 97
@[go_sem ↓] theorem ldPl_eq (p : Value) : Instr.loadAt 97 p = ldPl p := rfl
@[go_sem ↓] theorem stPl_eq (p v : Value) : Instr.storeAt 97 p v = stPl p v := rfl
@[go_sem ↓] theorem zPl_eq : zeroValue 97 = zPl := rfl
@[go_sem] theorem plZero (w : World) : zPl.run Tryd.prog w = .ok (.agg (plC zf)) w := by kernel_rfl
theorem PlAt.ld {W : World} {b : Nat} {f : Nat → Nat} (h : PlAt W b f) : (ldPl (.pointer (some ⟨b, 0, none⟩))).run Tryd.prog W = .ok (.agg (plC f)) W := h.load
theorem PlAt.put {W : World} {b : Nat} {f : Nat → Nat} (h : PlAt W b f) (g : Nat → Nat) :
    ∃ W', (stPl (.pointer (some ⟨b, 0, none⟩)) (.agg (plC g))).run Tryd.prog W = .ok () W' ∧ PlAt W' b g ∧ Only b W W' :=
  ⟨_, h.store g, setRow_heap W b _ _ _ _ h, ⟨rfl, rfl, rfl, by simp, fun k hk => Go.setRow_other W b k _ hk⟩⟩
theorem results_pl {fn : Func} {p q : Tmp} (h : fn.results = #[.cell p 97, .tmp q]) (tmps : Array Value) (w : World) (b : Nat) (f : Nat → Nat)
    (hp : tmps.getD p undef = .pointer (some ⟨b, 0, none⟩)) (hR : PlAt w b f) : (results fn tmps).run Tryd.prog w = .ok (.tuple #[.agg (plC f), tmps.getD q undef]) w := by
  have hl := run_loadVar_row w b 97 97 (plC f) (0, 0) _ hR Tryd.underlying97 rfl (by rw [plC_size]; exact infoPl)
  have hp' : tmps[p]?.getD undef = .pointer (some ⟨b, 0, none⟩) := by simpa using hp
  simp [results, h, hp', asAddr, hl]

/-! ### placesIn -/
/-- Is the list an order of so many items? -/
def ordB (n : Int) (zs : List Int) : Bool := decide (n ≤ 48) && (decide (n = (zs.length : Int)) && (okInts zs && decide (setL zs = allOf n)))
/-- Where each item stands, as far as k. -/
def posK (zs : List Int) : Nat → (Nat → Nat)
  | 0 => zf
  | k + 1 => upd (posK zs k) (zs[k]?.getD 0).toNat k
def PlacesPost (n : Int) (zs : List Int) (w : World) (e : Ending) (w' : World) : Prop :=
  e = .returned (.tuple #[.agg (plC (if ordB n zs then posK zs zs.length else zf)), .bool (ordB n zs)]) ∧ Below w.heap.size w w'

theorem setL_bit (zs : List Int) (j : Nat) : (setL zs).toNat.testBit j = true ↔ ∃ z ∈ zs, z.toNat = j := by
  unfold setL
  rw [Int.toNat_natCast]
  have key : ∀ (l : List Int) (s : Nat), ((l.foldl (fun (s : Nat) z => s ||| 2 ^ z.toNat) s).testBit j = true ↔ s.testBit j = true ∨ ∃ z ∈ l, z.toNat = j) := by
    intro l
    induction l with
    | nil => intro s; simp
    | cons a l ih =>
      intro s
      rw [List.foldl_cons, ih, Nat.testBit_or, Nat.testBit_two_pow, Bool.or_eq_true, decide_eq_true_iff, or_assoc]
      constructor
      · rintro (h | h | ⟨z, hz, h⟩)
        · exact .inl h
        · exact .inr ⟨a, List.mem_cons_self, h⟩
        · exact .inr ⟨z, List.mem_cons_of_mem _ hz, h⟩
      · rintro (h | ⟨z, hz, h⟩)
        · exact .inl h
        · rcases List.mem_cons.1 hz with rfl | hz
          · exact .inr (.inl h)
          · exact .inr (.inr ⟨z, hz, h⟩)
  simpa using key zs 0
theorem ordB_iff {N : Nat} {zs : List Int} : ordB N zs = true ↔ N ≤ 48 ∧ zs.length = N ∧ (∀ z ∈ zs, 0 ≤ z ∧ z < N) ∧ ∀ j, j < N → (j : Int) ∈ zs := by
  unfold ordB
  simp only [Bool.and_eq_true, decide_eq_true_iff]
  constructor
  · rintro ⟨h1, h2, h3, h4⟩
    have hN : N ≤ 48 := by omega
    refine ⟨hN, by omega, fun z hz => ?_, fun j hj => ?_⟩
    · have hz0 := okInts_mem h3 hz
      have hb := (setL_bit zs z.toNat).2 ⟨z, hz, rfl⟩
      rw [h4, allOf_bits N _ hN, decide_eq_true_iff] at hb
      omega
    · have hb : (setL zs).toNat.testBit j = true := by rw [h4, allOf_bits N _ hN]; simpa using hj
      obtain ⟨z, hz, hj2⟩ := (setL_bit zs j).1 hb
      have := okInts_mem h3 hz
      rw [show (j : Int) = z by omega]
      exact hz
  · rintro ⟨h1, h2, h3, h4⟩
    have hok : okInts zs = true := by
      unfold okInts
      rw [List.all_eq_true]
      intro z hz
      have := h3 z hz
      simp only [Bool.and_eq_true, decide_eq_true_iff]
      omega
    refine ⟨by omega, by omega, hok, ?_⟩
    have h5 : (setL zs).toNat = (allOf (N : Int)).toNat := by
      apply Nat.eq_of_testBit_eq
      intro j
      rw [allOf_bits N _ h1, Bool.eq_iff_iff, setL_bit, decide_eq_true_iff]
      constructor
      · rintro ⟨z, hz, rfl⟩; have := h3 z hz; omega
      · intro hj; exact ⟨_, h4 j hj, by simp⟩
    have h6 := setL_nonneg zs
    have h7 := (allOf_bd (N : Int)).1
    omega

set_option maxRecDepth 100000 in
set_option maxHeartbeats 4000000 in
theorem placesIn_any (n : Int) (v : Value) (zs : List Int) (w : World) (hs : IntSl w.heap.size w v zs) :
    Calls Tryd.prog 90 #[.int .i64 n, v] w (PlacesPost n zs w) := by
  have hs' := Lib.hid hs
  obtain ⟨hm, av, cv, rfl, hcell⟩ := hs
  replace hcell := Lib.hid hcell
  unfold maxLen at hm
  have hA := PlAt.new w zf
  have hP := PlAt.new (w.alloc (.cells (plC zf) 97)) zf
  rw [World.size_alloc] at hP
  replace hA := hA.alloc (.cells (plC zf) 97)
  have hB := thru (below_new w (.cells (plC zf) 97)) (below_new _ (.cells (plC zf) 97))
  have lp := hP.ld
  by_cases h1 : 48 < n
  · have ho := Lib.hid (show ordB n zs = false by unfold ordB; rw [decide_eq_false (by omega)]; rfl)
    obtain ⟨W3, hs3, hR3, hO3⟩ := hA.put zf
    have hB3 := below_only hB hO3 (Nat.le_refl _)
    clear hA hP hB hO3
    go_enter Tryd.func90, Tryd.ntmps90
    go_wp2
    refine bodyPost_ret (results_pl rfl _ _ _ _ rfl hR3) rfl ?_
    unfold PlacesPost
    rw [ho.out]
    exact ⟨rfl, hB3⟩
  · by_cases h2 : n = (zs.length : Int)
    · subst h2
      have t2 : ((zs.length : Int) != (zs.length : Int)) = false := by simp
      cases hok : okInts zs
      · have CO := Lib.hid (fun w h => of_bad (.slice av zs.length cv) zs w.heap.size w h hok)
        have ho := Lib.hid (show ordB zs.length zs = false by unfold ordB; rw [hok]; simp)
        obtain ⟨W3, hs3, hR3, hO3⟩ := hA.put zf
        have hB3 := below_only hB hO3 (Nat.le_refl _)
        have hs2 := Lib.hid ((hs'.out.below hB).mono hB.size)
        clear hA hP hB hO3 hok
        go_enter Tryd.func90, Tryd.ntmps90
        go_wp2_with fail
        refine (CO.out _ hs2.out).mono ?_
        rintro e w1 ⟨rfl, rfl⟩
        go_wp2
        refine bodyPost_ret (results_pl rfl _ _ _ _ rfl hR3) rfl ?_
        unfold PlacesPost
        rw [ho.out]
        exact ⟨rfl, hB3⟩
      · have CO := Lib.hid (fun w h => of_good (.slice av zs.length cv) zs w.heap.size w h hok)
        have CA := Lib.hid (fun w => all_any (zs.length : Int) w)
        have hs2 := Lib.hid ((hs'.out.below hB).mono hB.size)
        by_cases he : setL zs = allOf (zs.length : Int)
        · have ho := Lib.hid (show ordB zs.length zs = true by unfold ordB; rw [hok, decide_eq_true he, decide_eq_true (by omega : (zs.length : Int) ≤ 48)]; simp)
          have t3 : (allOf (zs.length : Int) != allOf (zs.length : Int)) = false := by simp
          have hit : ∀ z ∈ zs, 0 ≤ z ∧ z < 48 := fun z hz => by
            have h := (ordB_iff (N := zs.length)).1 ho.out
            have := h.2.2.1 z hz
            omega
          rw [he] at CO
          replace hit := Lib.hid hit
          have hAh := Lib.hid hA
          have hPh := Lib.hid hP
          have hBh := Lib.hid hB
          clear hA hP hB hok lp
          go_enter Tryd.func90, Tryd.ntmps90
          go_wp2_with fail
          refine (CO.out _ hs2.out).mono ?_
          rintro e w1 ⟨rfl, rfl⟩
          go_wp2_with fail
          refine (CA.out _).mono ?_
          rintro e w1 ⟨rfl, rfl⟩
          go_wp2
          go_loopw [36] (fun i W => ∃ k : Nat, k ≤ zs.length ∧ i = .int .i64 k ∧ PlAt W (w.heap.size + 1) (posK zs k) ∧ PlAt W w.heap.size zf ∧ Below w.heap.size w W) (fun i _ => zs.length - (intOf i).toNat)
          case atStart => exact ⟨0, by omega, rfl, hPh.out, hAh.out, hBh.out⟩
          case round =>
            obtain ⟨k, hk, rfl, hP, hA, hB⟩ := hrel
            by_cases hlt : k < zs.length
            · have tk : decide (k < zs.length) = true := by simpa using hlt
              obtain ⟨b, off, rfl, hbn, hc⟩ := hcell.out (by omega)
              have c1 := (hB.cell (p := ⟨b, off + k, none⟩) hbn).trans (hc k hlt)
              have hpos : posK zs (k + 1) = upd (posK zs k) (zs[k]?.getD 0).toNat k := rfl
              have hmem : zs[k]?.getD 0 ∈ zs := by simp [hlt]
              have hx := hit.out _ hmem
              clear hc hmem
              generalize zs[k]?.getD 0 = x at *
              obtain ⟨X, rfl⟩ : ∃ X : Nat, x = (X : Int) := ⟨x.toNat, by omega⟩
              rw [Int.toNat_natCast] at hpos
              have zX : (X : Int) < 48 := by omega
              have r1 := hP.row X (by omega)
              have f1 := hP.free X
              have hP2 := hP.set X k (by omega)
              rw [← hpos] at hP2
              have hA2 := hA.other ⟨w.heap.size + 1, X, none⟩ (.int .i64 (k : Int)) (by simp)
              have hB2 : Below w.heap.size w (wr.setCell ⟨w.heap.size + 1, X, none⟩ (.int .i64 (k : Int))) := hB.setCell (by simp) _
              replace hP2 := Lib.hid hP2
              replace hA2 := Lib.hid hA2
              replace hB2 := Lib.hid hB2
              clear hP hA hB hpos hx
              go_wp2
              go_roundw
              case rel => exact ⟨k + 1, by omega, by go_num, hP2.out, hA2.out, hB2.out⟩
              case measure => simp [intOf]; omega
            · obtain rfl : k = zs.length := by omega
              have lp := hP.ld
              obtain ⟨W3, hs3, hR3, hO3⟩ := hA.put (posK zs zs.length)
              have hB3 := below_only hB hO3 (Nat.le_refl _)
              clear hP hA hB hO3
              go_wp2
              refine bodyPost_ret (results_pl rfl _ _ _ _ rfl hR3) rfl ?_
              unfold PlacesPost
              rw [ho.out]
              exact ⟨rfl, hB3⟩
        · have ho := Lib.hid (show ordB zs.length zs = false by unfold ordB; rw [decide_eq_false he]; simp)
          have t3 : (setL zs != allOf (zs.length : Int)) = true := by simpa using he
          obtain ⟨W3, hs3, hR3, hO3⟩ := hA.put zf
          have hB3 := below_only hB hO3 (Nat.le_refl _)
          clear hA hP hB hO3 hok
          go_enter Tryd.func90, Tryd.ntmps90
          go_wp2_with fail
          refine (CO.out _ hs2.out).mono ?_
          rintro e w1 ⟨rfl, rfl⟩
          go_wp2_with fail
          refine (CA.out _).mono ?_
          rintro e w1 ⟨rfl, rfl⟩
          go_wp2
          refine bodyPost_ret (results_pl rfl _ _ _ _ rfl hR3) rfl ?_
          unfold PlacesPost
          rw [ho.out]
          exact ⟨rfl, hB3⟩
    · have ho := Lib.hid (show ordB n zs = false by unfold ordB; rw [decide_eq_false h2]; simp)
      have t2 : (n != (zs.length : Int)) = true := by simpa using h2
      obtain ⟨W3, hs3, hR3, hO3⟩ := hA.put zf
      have hB3 := below_only hB hO3 (Nat.le_refl _)
      clear hA hP hB hO3
      go_enter Tryd.func90, Tryd.ntmps90
      go_wp2
      refine bodyPost_ret (results_pl rfl _ _ _ _ rfl hR3) rfl ?_
      unfold PlacesPost
      rw [ho.out]
      exact ⟨rfl, hB3⟩
end Go.Proofs.YtpmlomhlbmgilaaDoor
end

section
/- order.Total, order.Keeps, order.Of. -/
namespace Go.Proofs.YtpmlomhlbmgilaaDoor
open Go.RowKit Go.Shelf

attribute [local go_sem] Oper.semAt_some

/-- New positions, laid. -/
theorem layPl (W : World) (f : Nat → Nat) : ∃ W', (stPl (.pointer (some ⟨W.heap.size, 0, none⟩)) (.agg (plC f))).run Tryd.prog (W.alloc (.cells (plC zf) 97)) = .ok () W' ∧ PlAt W' W.heap.size f ∧ Below W.heap.size W W' := by
  obtain ⟨W', h1, h2, h3⟩ := (PlAt.new W zf).put f
  exact ⟨W', h1, h2, below_only (below_new W _) h3 (Nat.le_refl _)⟩
/-- Does the one stand ahead of the other? -/
def aheadP (f : Nat → Nat) : Nat → Nat → Bool := fun a b => decide (f a < f b)
/-- The relation of an order. -/
def totF (n : Int) (zs : List Int) : Nat → Nat := if ordB n zs then fillF (aheadP (posK zs zs.length)) n.toNat n.toNat 0 else zf
def TotalPost (n : Int) (zs : List Int) (w : World) (e : Ending) (w' : World) : Prop :=
  e = .returned (.tuple #[.agg (relC (opN (ordB n zs) n) (totF n zs)), .int .i64 (opE (ordB n zs))]) ∧ Below w.heap.size w w'

set_option maxRecDepth 100000 in
set_option maxHeartbeats 4000000 in
theorem total_any (n : Int) (v : Value) (zs : List Int) (w : World) (hs : IntSl w.heap.size w v zs) :
    Calls Tryd.prog 54 #[.int .i64 n, v] w (TotalPost n zs w) := by
  have hZ := RelAt.new w 0 zf
  have hB := below_new w (.cells (relC 0 zf) 26)
  have hs2 := Lib.hid ((hs.below hB).mono hB.size)
  have CP := Lib.hid (fun W h => placesIn_any n v zs W h)
  unfold PlacesPost at CP
  cases ho : ordB n zs
  · have hv := Lib.hid ho
    rw [ho] at CP
    clear ho
    go_enter Tryd.func54, Tryd.ntmps54
    go_wp2_with fail
    refine (CP.out _ hs2.out).mono ?_
    rintro e w1 ⟨rfl, h⟩
    obtain ⟨W1, hs1, hp1, h1⟩ := layPl w1 zf
    obtain ⟨W3, hs3, hR3, hO3⟩ := ((hZ.on h).on h1).put 0 zf
    have hB3 := below_only (thru (thru hB h) h1) hO3 (Nat.le_refl _)
    clear h h1 hp1 hO3 hZ hB
    go_wp2
    refine bodyPost_ret (results_rel2 rfl _ _ _ _ _ rfl hR3) rfl ?_
    unfold TotalPost totF
    rw [hv.out]
    exact ⟨rfl, hB3⟩
  · have hv := Lib.hid ho
    rw [ho] at CP
    obtain ⟨N, rfl⟩ : ∃ N : Nat, n = (N : Int) := ⟨n.toNat, by
      unfold ordB at ho
      simp only [Bool.and_eq_true, decide_eq_true_iff] at ho
      omega⟩
    have hoi := ordB_iff.1 ho
    have hN := hoi.1
    have hf48 : ∀ i, posK zs zs.length i < 2 ^ 62 := by
      have key : ∀ k, k ≤ zs.length → ∀ i, posK zs k i < 2 ^ 62 := by
        intro k
        induction k with
        | zero => intro _ i; exact Nat.two_pow_pos 62
        | succ k ih =>
          intro hk i
          show upd (posK zs k) _ k i < _
          unfold upd
          split
          · have := hoi.2.1; omega
          · exact ih (by omega) i
      exact key _ (Nat.le_refl _)
    clear ho hoi
    have htot := Lib.hid (show ordB N zs = true → totF N zs = fillF (aheadP (posK zs zs.length)) N N 0 from fun h => by unfold totF; rw [h, if_pos rfl, Int.toNat_natCast])
    generalize posK zs zs.length = f at *
    generalize hp : aheadP f = p at *
    have hpe : ∀ a b, p a b = decide (f a < f b) := fun a b => by rw [← hp]; rfl
    replace hpe := Lib.hid hpe
    replace hf48 := Lib.hid hf48
    clear hp
    go_enter Tryd.func54, Tryd.ntmps54
    go_wp2_with fail
    refine (CP.out _ hs2.out).mono ?_
    rintro e w1 ⟨rfl, h⟩
    obtain ⟨W1, hs1, hp1, h1⟩ := layPl w1 f
    have hZ1 := (hZ.on h).on h1
    have hB1 := thru (thru hB h) h1
    have hplt := (hZ.on h).lt
    clear h h1 hZ hB
    generalize hbp : w1.heap.size = bp at *
    obtain ⟨W2, hs2', hu, h2, -⟩ := Ex.lay W1 N zf
    rw [← fill_start p N] at hu
    have hpl := (hp1.on h2)
    have hX : Kept w W2 [(W1.heap.size, (N : Int), fillF p N 0 0), (w.heap.size, 0, zf)] := by
      refine ⟨thru hB1 h2, ?_⟩
      simp only [List.mem_cons, List.not_mem_nil, or_false]
      rintro q (rfl | rfl)
      · exact hu
      · exact hZ1.on h2
    have hlt1 := hZ1.lt
    have hltp := hp1.lt
    clear hu h2 hZ1 hB1 hp1
    generalize hbr : W1.heap.size = br at *
    have ne1 : w.heap.size ≠ br := by omega
    have ne2 : bp ≠ br := by omega
    have le1 : w.heap.size ≤ br := by omega
    go_wp2
    clear hs1 hs2'
    replace hbp := Lib.hid hbp
    replace hbr := Lib.hid hbr
    go_loopw [23] (fun i W => ∃ k : Nat, k ≤ N ∧ i = .int .i64 k ∧ PlAt W bp f ∧ Kept w W [(br, (N : Int), fillF p N k 0), (w.heap.size, 0, zf)]) (fun i _ => N - (intOf i).toNat)
    case atStart => exact ⟨0, by omega, rfl, hpl, hX⟩
    case round =>
      clear hX hpl
      obtain ⟨k, hk, rfl, hpl, hX⟩ := hrel
      by_cases hkN : k < N
      · have tk : decide (k < N) = true := by simpa using hkN
        have zk : (k : Int) < 48 := by omega
        go_wp2
        go_loopw [27] (fun j W => ∃ m : Nat, m ≤ N ∧ j = .int .i64 m ∧ PlAt W bp f ∧ Kept w W [(br, (N : Int), fillF p N k m), (w.heap.size, 0, zf)]) (fun j _ => N - (intOf j).toNat)
        case atStart => exact ⟨0, by omega, rfl, hpl, hX⟩
        case round =>
          clear hX hpl
          obtain ⟨m, hm, rfl, hpl, hX⟩ := hrel
          by_cases hmN : m < N
          · have tm : decide (m < N) = true := by simpa using hmN
            have zm : (m : Int) < 48 := by omega
            have zm2 : (m : Int) < 64 := by omega
            have r1 := hpl.row k (by omega)
            have r2 := hpl.row m (by omega)
            have hno := fill_no p N k m
            have hyes := fill_yes p N k m
            rw [hpe.out k m] at hno hyes
            have hXd := Lib.hid hX.drew
            have hpd := Lib.hid hpl.drew
            have hl := (hX.at (b := br) (n := N) (f := fillF p N k m) (by simp))
            have g1 := hl.row k (by omega)
            have g2 := hl.free (1 + k)
            have hx64 := fill_64 p hN (b := m) (a := k) (by omega) k
            by_cases hab : f k < f m
            · rw [decide_eq_true hab] at hyes
              have hyes := hyes rfl
              obtain ⟨q, hq⟩ : ∃ q, q = 2 ^ m := ⟨_, rfl⟩
              have hsh : IntKind.u64.wrap (2 ^ m) = (q : Int) := by rw [hq]; exact shl1_nat m (by omega)
              have hq64 : q < 2 ^ 64 := by rw [hq]; exact Nat.pow_lt_pow_right (by omega) (by omega)
              rw [← hq] at hyes
              have hor := u64_or_nat _ _ hx64 hq64
              have hset := hl.drew.drew.set k (fillF p N k m k ||| q) (by omega)
              rw [hyes] at hset
              have hX2 := ((hX.drew.drew.less (l' := [(w.heap.size, 0, zf)]) (by simp)).set ⟨br, 1 + k, none⟩ (.int .u64 ((fillF p N k m k ||| q : Nat) : Int)) le1 (by simp only [List.mem_cons, List.not_mem_nil, or_false]; rintro z rfl; assumption)).cons hset
              have hp2 := hpl.drew.drew.other ⟨br, 1 + k, none⟩ (.int .u64 ((fillF p N k m k ||| q : Nat) : Int)) ne2
              replace hX2 := Lib.hid hX2
              replace hp2 := Lib.hid hp2
              clear hno hyes hq hl hX hpl hx64 hq64 hset
              generalize fillF p N k m k ||| q = z at *
              generalize fillF p N k m k = z0 at *
              go_upto_region 11 with fail
              go_region
              all_goals
                go_upto_region 12 with fail
                go_region
              all_goals
                go_wp2
                go_roundw
                case rel => exact ⟨m + 1, by omega, by go_num, hp2.out, hX2.out⟩
                case measure => simp [intOf]; omega
            · rw [decide_eq_false hab] at hno
              have hno := Lib.hid (hno rfl)
              clear hyes hl hX hpl g1 g2 hx64
              go_upto_region 11 with fail
              go_region
              all_goals
                go_wp2
                go_roundw
                case rel => exact ⟨m + 1, by omega, by go_num, hpd.out, by rw [← hno.out]; exact hXd.out⟩
                case measure => simp [intOf]; omega
          · obtain rfl : m = N := by omega
            have hXh := Lib.hid hX
            have hph := Lib.hid hpl
            clear hX hpl
            go_wp2
            go_roundw
            case rel => exact ⟨k + 1, by omega, by go_num, hph.out, by rw [← fill_next]; exact hXh.out⟩
            case measure => simp [intOf]; omega
      · obtain rfl : k = N := by omega
        have l1 := (hX.at (b := br) (n := k) (f := fillF p k k 0) (by simp)).ld
        obtain ⟨W4, hs4, hR4, hO4⟩ := (hX.at (b := w.heap.size) (n := 0) (f := zf) (by simp)).put k (fillF p k k 0)
        have hB4 := below_only hX.1 hO4 (Nat.le_refl _)
        clear hX hO4 hpl
        go_wp2
        refine bodyPost_ret (results_rel2 rfl _ _ _ _ _ rfl hR4) rfl ?_
        unfold TotalPost
        rw [htot.out hv.out, hv.out]
        exact ⟨rfl, hB4⟩
end Go.Proofs.YtpmlomhlbmgilaaDoor
end

section
/- order.Keeps, order.Of. -/
namespace Go.Proofs.YtpmlomhlbmgilaaDoor
open Go.RowKit Go.Shelf

attribute [local go_sem] Oper.semAt_some

theorem totF_64 (n : Int) (zs : List Int) : R64 (totF n zs) := by
  unfold totF
  split
  · rename_i h
    have hn : n ≤ 48 := by
      unfold ordB at h
      simp only [Bool.and_eq_true, decide_eq_true_iff] at h
      omega
    exact fill_64 _ (by omega) (by omega)
  · exact fun _ => Nat.two_pow_pos 64
/-- Does the order keep the relation? -/
def keepB (n : Int) (f : Nat → Nat) (zs : List Int) : Bool := ordB n zs && inB n n f (totF n zs)
set_option maxRecDepth 100000 in
set_option maxHeartbeats 4000000 in
theorem keeps_any (n : Int) (f : Nat → Nat) (hf : R64 f) (v : Value) (zs : List Int) (w : World) (hs : IntSl w.heap.size w v zs) :
    Calls Tryd.prog 59 #[.agg (relC n f), v] w fun e w' => e = .returned (.bool (keepB n f zs)) ∧ Below w.heap.size w w' := by
  have hA := RelAt.new w n f
  have hB := below_new w (.cells (relC n f) 26)
  have hs2 := Lib.hid ((hs.below hB).mono hB.size)
  have n1 := hA.num
  have CT := Lib.hid (fun W h => total_any n v zs W h)
  unfold TotalPost at CT
  cases ho : ordB n zs
  · have hv := Lib.hid (show keepB n f zs = false by simp [keepB, ho])
    rw [ho] at CT
    change Hid (∀ W, _ → Calls _ _ _ W fun e w' => e = .returned (.tuple #[.agg (relC 0 (totF n zs)), .int .i64 2]) ∧ _) at CT
    clear ho
    go_enter Tryd.func59, Tryd.ntmps59
    go_wp2_with fail
    refine (CT.out _ hs2.out).mono ?_
    rintro e w1 ⟨rfl, h⟩
    obtain ⟨W1, hs1, hu, h1, -⟩ := Ex.lay w1 0 (totF n zs)
    have hB1 := thru (thru hB h) h1
    clear h h1 hu hA hB
    go_wp2
    go_ret
    rw [hv.out]
    exact ⟨rfl, hB1⟩
  · rw [ho] at CT
    change Hid (∀ W, _ → Calls _ _ _ W fun e w' => e = .returned (.tuple #[.agg (relC n (totF n zs)), .int .i64 0]) ∧ _) at CT
    have hg := totF_64 n zs
    have hk : keepB n f zs = inB n n f (totF n zs) := by simp [keepB, ho]
    replace hk := Lib.hid hk
    clear ho
    generalize totF n zs = g at *
    have HL := Lib.hid (fun w => less_any n n f g hf hg w)
    unfold CombPost at HL
    go_enter Tryd.func59, Tryd.ntmps59
    go_wp2_with fail
    refine (CT.out _ hs2.out).mono ?_
    rintro e w1 ⟨rfl, h⟩
    obtain ⟨W1, hs1, hu, h1, -⟩ := Ex.lay w1 n g
    have hA1 := (hA.on h).on h1
    have hB1 := thru (thru hB h) h1
    clear h h1 hA hB n1
    have l1 := hA1.ld
    have l2 := hu.ld
    cases hc : combB n n f g
    · have hi := Lib.hid (show inB n n f g = false by simp [inB, hc])
      rw [hc] at HL
      change Hid (∀ w, Calls _ _ _ w fun e w' => e = .returned (.tuple #[.agg (relC 0 zf), .int .i64 2]) ∧ _) at HL
      clear hc
      go_wp2_with fail
      refine (HL.out _).mono ?_
      rintro e w2 ⟨rfl, h⟩
      obtain ⟨W2, hs2', hu2, h2, -⟩ := Ex.lay w2 0 zf
      have hB2 := thru (thru hB1 h) h2
      clear h h2 hu hu2 hA1 hB1 l1 l2 hs1
      go_wp2
      go_ret
      rw [hk.out, hi.out]
      exact ⟨rfl, hB2⟩
    · have hi := Lib.hid (show inB n n f g = (rightB n (cutF n (lessF f g)) && decide (fromK (cutF n (lessF f g)) n.toNat = 0)) by simp [inB, hc])
      have h64 : R64 (cutF n (lessF f g)) := cutF_64 n (fun i => Nat.lt_of_le_of_lt Nat.and_le_left (hf i))
      rw [hc] at HL
      change Hid (∀ w, Calls _ _ _ w fun e w' => e = .returned (.tuple #[.agg (relC n (cutF n (lessF f g))), .int .i64 0]) ∧ _) at HL
      generalize cutF n (lessF f g) = F at *
      have HE := Lib.hid (fun w => empty_any n F w h64)
      generalize (rightB n F && decide (fromK F n.toNat = 0)) = b at *
      clear hc
      go_wp2_with fail
      refine (HL.out _).mono ?_
      rintro e w2 ⟨rfl, h⟩
      obtain ⟨W2, hs2', hu2, h2, -⟩ := Ex.lay w2 n F
      have hB2 := thru (thru hB1 h) h2
      have l3 := hu2.ld
      clear h h2 hu hA1 hB1 l1 l2 hs1
      go_wp2_with fail
      refine (HE.out _).mono ?_
      rintro e w3 ⟨rfl, h3⟩
      go_wp2
      go_ret
      rw [hk.out, hi.out]
      exact ⟨rfl, thru hB2 h3⟩

/-- What Of answers. -/
def ofO (n : Int) (f : Nat → Nat) : Option (List Nat) := match topF n f with
  | none => none
  | some T => if relB (opN (ordB n (T.map fun k : Nat => (k : Int))) n) n (totF n (T.map fun k : Nat => (k : Int))) f then some T else none
set_option maxRecDepth 100000 in
set_option maxHeartbeats 4000000 in
theorem ordOf_any (n : Int) (f : Nat → Nat) (hf : R64 f) (w : World) (hT : Tab w) :
    Calls Tryd.prog 56 #[.agg (relC n f)] w fun e w' => ∃ v, e = .returned (.tuple #[v, .bool (ofO n f).isSome]) ∧ w'.ownsRow w.heap.size 3 1 v ((ofO n f).getD []).length (((ofO n f).getD []).map intV) ∧ Below w.heap.size w w' := by
  have hA := RelAt.new w n f
  have hB := below_new w (.cells (relC n f) 26)
  have l1 := hA.ld
  have CT := Lib.hid (fun W hT => top_any n f W hf hT)
  unfold TopPost at CT
  have hT1 := tab_new hT (.cells (relC n f) 26)
  cases ht : topF n f with
  | none =>
    have hv := Lib.hid (show ofO n f = none by simp [ofO, ht])
    rw [ht] at CT
    clear ht
    go_enter Tryd.func56, Tryd.ntmps56
    go_wp2_with fail
    refine (CT.out _ hT1).mono ?_
    rintro e w1 ⟨v, rfl, _, h⟩
    simp only [Option.isSome_none]
    go_wp2
    go_ret2
    rw [hv.out]
    exact ⟨_, rfl, World.ownsRow_nil _ _ _ _, thru hB h⟩
  | some T =>
    have hv := (show ofO n f = if relB (opN (ordB n (T.map fun k : Nat => (k : Int))) n) n (totF n (T.map fun k : Nat => (k : Int))) f then some T else none by simp [ofO, ht])
    rw [ht] at CT
    have hTl : T.length ≤ maxLen := by
      have hr : rightB n f = true := by
        cases h : rightB n f
        · simp [topF, h] at ht
        · rfl
      obtain ⟨⟨n0, n1⟩, -⟩ := rightB_iff.1 hr
      obtain ⟨N, rfl⟩ : ∃ N : Nat, n = (N : Int) := ⟨n.toNat, by omega⟩
      rcases top_cyc (show Rgt N f from hr) with ⟨l, h1, h2⟩ | ⟨h1, _⟩
      · rw [h1] at ht
        obtain rfl := Option.some.inj ht
        have := nodup_le N l h2.nodup (fun x hx => (h2.mem x).1 hx)
        unfold maxLen
        omega
      · rw [h1] at ht; cases ht
    clear ht
    have CO := Lib.hid (fun W v h => total_any n v (T.map fun k : Nat => (k : Int)) W h)
    unfold TotalPost at CO
    generalize opN (ordB n (T.map fun k : Nat => (k : Int))) n = n2 at *
    generalize totF n (T.map fun k : Nat => (k : Int)) = g at *
    generalize opE (ordB n (T.map fun k : Nat => (k : Int))) = ev at *
    replace hv := Lib.hid hv
    go_enter Tryd.func56, Tryd.ntmps56
    go_wp2_with fail
    refine (CT.out _ hT1).mono ?_
    rintro e w1 ⟨v, rfl, hrow, h⟩
    change w1.ownsRow _ _ _ _ T.length (T.map intV) at hrow
    simp only [Option.isSome_some]
    have hA1 := hA.on h
    have hB1 := thru hB h
    have hsl : IntSl w1.heap.size w1 v (T.map fun k : Nat => (k : Int)) := by
      have h2 : w1.ownsRow (w.alloc (.cells (relC n f) 26)).heap.size 3 1 v (T.map fun k : Nat => (k : Int)).length ((T.map fun k : Nat => (k : Int)).map (Value.int .i64)) := by
        rw [List.length_map, List.map_map]
        exact hrow
      exact numSl_of_row h2 (by rw [List.length_map]; exact hTl)
    replace hrow := ownsRow_base hrow (b' := w.heap.size) (by simp)
    replace hsl := Lib.hid hsl
    clear h hA hB l1
    have n1 := hA1.num
    go_wp2_with fail
    clear n1
    refine (CO.out _ _ hsl.out).mono ?_
    rintro e w2 ⟨rfl, h⟩
    obtain ⟨W2, hs2, hu, h2, -⟩ := Ex.lay w2 n2 g
    have hA2 := (hA1.on h).on h2
    have hB2 := thru (thru hB1 h) h2
    have hrow2 := Lib.hid (ownsRow_below (ownsRow_below hrow h) h2)
    have l1 := hA2.ld
    have l2 := hu.ld
    clear h h2 hu hA1 hA2 hB1 hrow
    cases hb : relB n2 n g f
    · rw [hb] at hv
      replace hv := Lib.hid (show ofO n f = none by have := hv.out; simpa using this)
      have hbh := hb
      go_wp2
      go_ret2
      rw [hv.out]
      exact ⟨_, rfl, World.ownsRow_nil _ _ _ _, hB2⟩
    · rw [hb] at hv
      replace hv := Lib.hid (show ofO n f = some T by have := hv.out; simpa using this)
      go_wp2
      go_ret2
      rw [hv.out]
      exact ⟨_, rfl, hrow2.out, hB2⟩
end Go.Proofs.YtpmlomhlbmgilaaDoor
end

section
/- An order's relation: its pairs. -/
namespace Go.Proofs.YtpmlomhlbmgilaaDoor
open Go.RowKit Go.Shelf

/-- The list as Go holds it. -/
def iL (l : List Nat) : List Int := l.map fun k : Nat => (k : Int)
structure IsOrd (N : Nat) (l : List Nat) : Prop where
  nodup : l.Nodup
  mem : ∀ x, x ∈ l ↔ x < N
theorem TopOK.ord {N : Nat} {f : Nat → Nat} {l : List Nat} (h : TopOK N f l) : IsOrd N l := ⟨h.nodup, h.mem⟩
theorem IsOrd.len {N : Nat} {l : List Nat} (h : IsOrd N l) : l.length = N := by
  rw [same_len h.nodup List.nodup_range (fun x => by rw [h.mem x, List.mem_range] : ∀ x, x ∈ l ↔ x ∈ List.range N), List.length_range]
theorem ordB_of {N : Nat} {l : List Nat} (hN : N ≤ 48) (h : IsOrd N l) : ordB N (iL l) = true := by
  refine ordB_iff.2 ⟨hN, by rw [iL, List.length_map, h.len], fun z hz => ?_, fun j hj => ?_⟩
  · obtain ⟨x, hx, rfl⟩ := List.mem_map.1 hz
    have := (h.mem x).1 hx
    omega
  · exact List.mem_map.2 ⟨j, (h.mem j).2 hj, rfl⟩
theorem nodup_of_sub : ∀ {l : List Nat} {N : Nat}, l.length = N → (∀ j, j < N → j ∈ l) → l.Nodup := by
  intro l N hl h
  -- else the list without the second of two equal ones would do
  refine Classical.byContradiction fun hn => ?_
  have key : ∀ l : List Nat, ¬ l.Nodup → ∃ m : List Nat, m.length + 1 = l.length ∧ ∀ x ∈ l, x ∈ m := by
    intro l
    induction l with
    | nil => intro h; exact absurd List.nodup_nil h
    | cons a l ih =>
      intro h
      by_cases ha : a ∈ l
      · exact ⟨l, rfl, fun x hx => by rcases List.mem_cons.1 hx with rfl | hx; exact ha; exact hx⟩
      · obtain ⟨m, h1, h2⟩ := ih fun hnd => h (List.nodup_cons.2 ⟨ha, hnd⟩)
        exact ⟨a :: m, by simp; omega, fun x hx => by rcases List.mem_cons.1 hx with rfl | hx; simp; simp [h2 x hx]⟩
  obtain ⟨m, h1, h2⟩ := key l hn
  have := sub_le (l := List.range N) (m := m) List.nodup_range fun x hx => h2 x (h x (List.mem_range.1 hx))
  rw [List.length_range] at this
  omega
theorem ord_of {N : Nat} {l : List Nat} (h : ordB N (iL l) = true) : IsOrd N l := by
  obtain ⟨_, h2, h3, h4⟩ := ordB_iff.1 h
  rw [iL, List.length_map] at h2
  have hm : ∀ j, j < N → j ∈ l := fun j hj => by
    obtain ⟨x, hx, he⟩ := List.mem_map.1 (h4 j hj)
    rwa [← show x = j by omega]
  exact ⟨nodup_of_sub h2 hm, fun x => ⟨fun hx => by have := (h3 _ (List.mem_map.2 ⟨x, hx, rfl⟩)).2; omega, hm x⟩⟩

/-- i comes ahead of j. -/
def Bef (l : List Nat) (i j : Nat) : Prop := ∃ a b : Nat, a < b ∧ l[a]? = some i ∧ l[b]? = some j
theorem idx_same {l : List Nat} (hnd : l.Nodup) {i j z : Nat} (hi : l[i]? = some z) (hj : l[j]? = some z) : i = j := by
  obtain ⟨h1, h2⟩ := List.getElem?_eq_some_iff.1 hi
  obtain ⟨h3, h4⟩ := List.getElem?_eq_some_iff.1 hj
  exact (List.getElem_inj hnd).1 (h2.trans h4.symm)
theorem posK_at {l : List Nat} (hnd : l.Nodup) : ∀ (m k x : Nat), k < m → m ≤ l.length → l[k]? = some x → posK (iL l) m x = k
  | 0, k, x, h, _, _ => by omega
  | m + 1, k, x, h, hm, hx => by
    have hml : m < l.length := by omega
    have hz : (iL l)[m]?.getD 0 = ((l[m]'hml : Nat) : Int) := by simp [iL, hml]
    simp only [posK, hz, Int.toNat_natCast]
    unfold upd
    by_cases he : k = m
    · subst he
      rw [List.getElem?_eq_getElem (by omega)] at hx
      rw [if_pos (Option.some.inj hx).symm]
    · rw [if_neg, posK_at hnd m k x (by omega) (by omega) hx]
      intro e
      refine he (idx_same hnd hx ?_)
      rw [List.getElem?_eq_getElem (by omega), ← e]
theorem bt_tot {N : Nat} {l : List Nat} (hN : N ≤ 48) (h : IsOrd N l) {i j : Nat} : Bt (totF N (iL l)) i j ↔ Bef l i j := by
  unfold totF
  rw [ordB_of hN h, if_pos rfl, Int.toNat_natCast, bt_fill]
  have hlen : (iL l).length = l.length := by simp [iL]
  rw [hlen]
  unfold aheadP
  rw [decide_eq_true_iff]
  constructor
  · rintro ⟨hi, hj, hlt⟩
    obtain ⟨a, ha⟩ := List.mem_iff_getElem?.1 ((h.mem i).2 hi)
    obtain ⟨b, hb⟩ := List.mem_iff_getElem?.1 ((h.mem j).2 hj)
    rw [posK_at h.nodup _ a i (List.getElem?_eq_some_iff.1 ha).1 (Nat.le_refl _) ha, posK_at h.nodup _ b j (List.getElem?_eq_some_iff.1 hb).1 (Nat.le_refl _) hb] at hlt
    exact ⟨a, b, hlt, ha, hb⟩
  · rintro ⟨a, b, hab, ha, hb⟩
    refine ⟨(h.mem i).1 (List.mem_of_getElem? ha), (h.mem j).1 (List.mem_of_getElem? hb), ?_⟩
    rw [posK_at h.nodup _ a i (List.getElem?_eq_some_iff.1 ha).1 (Nat.le_refl _) ha, posK_at h.nodup _ b j (List.getElem?_eq_some_iff.1 hb).1 (Nat.le_refl _) hb]
    exact hab
theorem rgt_tot {N : Nat} {l : List Nat} (hN : N ≤ 48) (h : IsOrd N l) : Rgt N (totF N (iL l)) := rgt_iff.2 ⟨hN, fun i _ j hb => by
  obtain ⟨a, b, _, ha, hb⟩ := (bt_tot hN h).1 hb
  exact ⟨(h.mem i).1 (List.mem_of_getElem? ha), (h.mem j).1 (List.mem_of_getElem? hb)⟩⟩
theorem Bef.irr {l : List Nat} (hnd : l.Nodup) {i : Nat} (h : Bef l i i) : False := by
  obtain ⟨a, b, hab, ha, hb⟩ := h
  have := idx_same hnd ha hb
  omega
theorem Bef.asymm {l : List Nat} (hnd : l.Nodup) {i j : Nat} (h : Bef l i j) (k : Bef l j i) : False := by
  obtain ⟨a, b, hab, ha, hb⟩ := h
  obtain ⟨c, d, hcd, hc, hd⟩ := k
  have := idx_same hnd ha hd
  have := idx_same hnd hb hc
  omega
theorem Bef.trans {l : List Nat} (hnd : l.Nodup) {i j k : Nat} (h : Bef l i j) (h' : Bef l j k) : Bef l i k := by
  obtain ⟨a, b, hab, ha, hb⟩ := h
  obtain ⟨c, d, hcd, hc, hd⟩ := h'
  have := idx_same hnd hb hc
  exact ⟨a, d, by omega, ha, hd⟩
theorem mem_take {l : List Nat} {k u z : Nat} (hk : l[k]? = some z) : u ∈ l.take k ↔ ∃ m, m < k ∧ l[m]? = some u := by
  constructor
  · intro h
    obtain ⟨m, hm1, hm2⟩ := List.mem_iff_getElem.1 h
    rw [List.length_take] at hm1
    rw [List.getElem_take] at hm2
    exact ⟨m, by omega, by rw [List.getElem?_eq_getElem (by omega), hm2]⟩
  · rintro ⟨m, hm, h⟩
    refine List.mem_iff_getElem.2 ⟨m, by rw [List.length_take]; have := (List.getElem?_eq_some_iff.1 hk).1; omega, ?_⟩
    rw [List.getElem_take]
    exact (List.getElem?_eq_some_iff.1 h).2
/-- An order respects a relation exactly if its own has the relation's pairs. -/
theorem top_iff {N : Nat} {f : Nat → Nat} (hf : Rgt N f) {l : List Nat} : TopOK N f l ↔ IsOrd N l ∧ ∀ i j, i < 48 → Bt f i j → Bef l i j := by
  constructor
  · intro h
    refine ⟨h.ord, fun i j hi hb => ?_⟩
    obtain ⟨b, hb2⟩ := List.mem_iff_getElem?.1 ((h.mem j).2 (hf.snd hi hb))
    obtain ⟨a, hab, ha⟩ := (mem_take hb2).1 (h.pred b j hb2 i hi hb)
    exact ⟨a, b, hab, ha, hb2⟩
  · rintro ⟨h, hp⟩
    refine ⟨h.nodup, h.mem, fun k x hx i hi hb => ?_⟩
    obtain ⟨a, b, hab, ha, hb2⟩ := hp i x hi hb
    obtain rfl := idx_same h.nodup hb2 hx
    exact (mem_take hx).2 ⟨a, hab, ha⟩
theorem fromK_zero_iff {f : Nat → Nat} {k : Nat} : fromK f k = 0 ↔ ∀ j, j < k → f j = 0 := by
  constructor
  · intro h j hj
    refine Classical.byContradiction fun hn => ?_
    have := fromK_bit f k j
    rw [h, Nat.zero_testBit] at this
    simp [hj, hn] at this
  · intro h
    refine Nat.eq_of_testBit_eq fun j => ?_
    rw [fromK_bit, Nat.zero_testBit]
    by_cases hj : j < k
    · simp [h j hj]
    · simp [hj]
theorem in_iff {N : Nat} {f g : Nat → Nat} (hf : Rgt N f) (hg : Rgt N g) (h1 : R64 f) (h2 : R64 g) : inB N N f g = true ↔ ∀ i j, i < 48 → Bt f i j → Bt g i j := by
  refine ⟨fun h i j hi hb => ?_, fun h => in_true hf hg h1 h2 h⟩
  refine Classical.byContradiction fun hn => ?_
  unfold inB at h
  rw [comb_ok hf hg] at h
  simp only [Bool.true_and, Bool.and_eq_true, decide_eq_true_eq, Int.toNat_natCast] at h
  have hz := fromK_zero_iff.1 h.2 i (hf.fst hi hb)
  have hbit : Bt (lessF f g) i j := (bt_less h1 h2 i j).2 ⟨hb, hn⟩
  have hcut : cutF N (lessF f g) i = lessF f g i := (relC_inj (rgt_less hf (g := g)).cut).2 i hi
  rw [hcut] at hz
  unfold Bt at hbit
  rw [hz, Nat.zero_testBit] at hbit
  cases hbit
theorem keep_iff {N : Nat} {f : Nat → Nat} (hf : Rgt N f) (h64 : R64 f) {l : List Nat} : keepB N f (iL l) = true ↔ TopOK N f l := by
  rw [top_iff hf]
  unfold keepB
  rw [Bool.and_eq_true]
  constructor
  · rintro ⟨h1, h2⟩
    have ho := ord_of h1
    exact ⟨ho, fun i j hi hb => (bt_tot hf.le ho).1 ((in_iff hf (rgt_tot hf.le ho) h64 (totF_64 _ _)).1 h2 i j hi hb)⟩
  · rintro ⟨ho, hp⟩
    exact ⟨ordB_of hf.le ho, (in_iff hf (rgt_tot hf.le ho) h64 (totF_64 _ _)).2 fun i j hi hb => (bt_tot hf.le ho).2 (hp i j hi hb)⟩
end Go.Proofs.YtpmlomhlbmgilaaDoor
end

section
/- The law OrderWrong: what its own count of the items says. -/
namespace Go.Proofs.YtpmlomhlbmgilaaDoor
open Go.RowKit Go.Shelf Go.Maps

abbrev HU := Unit
abbrev iLit (z : Int) : Lit := .int .i64 z
abbrev iDat (z : Int) : DataW HU := .lit (.int .i64 z)
/-- The map holds how often each number stands among the first k. -/
structure CntAt (zs : List Int) (k : Nat) (W : World) (b : Nat) (D : DataW HU) : Prop where
  own : W.ownsMap Tryd.prog 3 (plainElem Tryd.prog 3) b k D
  map : IsMap D
  at' : ∀ z : Int, D.atKey (iLit z) (iDat 0) = iDat (((zs.take k).count z : Nat) : Int)
theorem law_int : Keyed Tryd.prog 3 := int_keyed Tryd.underlying3
theorem zero_int (w : World) : (zeroValue 3).run Tryd.prog w = .ok (.int .i64 0) w := by kernel_rfl
theorem cnt_new (zs : List Int) (W : World) : CntAt zs 0 (W.alloc (.map #[] 0)) W.heap.size (.map []) :=
  ⟨World.ownsMap_made _ _ _ _, ⟨_, rfl⟩, fun z => by simp [DataW.atKey]⟩
theorem CntAt.look {zs : List Int} {k : Nat} {W : World} {b : Nat} {D : DataW HU} (h : CntAt zs k W b D) {z : Int} (hz : (Lit.int .i64 z).wf = true) :
    (Instr.lookup 69 (.map (some b)) (.int .i64 z) false).run Tryd.prog W = .ok (.int .i64 (((zs.take k).count z : Nat) : Int)) W := by
  obtain ⟨c, hr, hat, _⟩ := h.own.lookup_int law_int Tryd.underlying69 Tryd.underlying3 (zero_int W) (keyOf_int_mk Tryd.underlying3 hz)
  have := (h.at' z).symm.trans hat
  simp only [iDat, DataW.lit.injEq, Lit.int.injEq, true_and] at this
  rw [this]
  exact hr
theorem take_one {zs : List Int} {k : Nat} {z : Int} (hz : zs[k]? = some z) : zs.take (k + 1) = zs.take k ++ [z] := by
  have hk := (List.getElem?_eq_some_iff.1 hz).1
  rw [List.take_succ_eq_append_getElem hk, (List.getElem?_eq_some_iff.1 hz).2]
theorem CntAt.step {zs : List Int} {k : Nat} {D : DataW HU} {W W' : World} {b : Nat} (h : CntAt zs k W b D) {z : Int} (hz : zs[k]? = some z)
    (h' : W'.ownsMap Tryd.prog 3 (plainElem Tryd.prog 3) b (k + 1) (D.put (iLit z) (iDat ((((zs.take k).count z : Nat) : Int) + 1)))) : CntAt zs (k + 1) W' b (D.put (iLit z) (iDat ((((zs.take k).count z : Nat) : Int) + 1))) := by
  obtain ⟨es, hes⟩ := h.map
  refine ⟨h', by rw [hes]; exact ⟨_, rfl⟩, fun y => ?_⟩
  rw [take_one hz, List.count_append]
  by_cases hy : y = z
  · subst hy
    rw [atKey_put_same (k := iLit y) h.map (show WideAt.IsKeyLit (iLit y) from trivial)]
    simp [iDat]
  · rw [atKey_put_other (by simp [iLit, hy]), h.at' y]
    have : List.count y [z] = 0 := by rw [List.count_eq_zero]; simpa using hy
    rw [this]
    rfl

/-- May the list be an order, as far as k? -/
def fineU (n : Int) (zs : List Int) : Nat → Bool
  | 0 => decide (0 ≤ n) && decide (n ≤ 48) && decide ((zs.length : Int) = n)
  | k + 1 => fineU n zs k && (decide (0 ≤ zs[k]?.getD 0) && (decide (zs[k]?.getD 0 < n) && decide ((zs.take k).count (zs[k]?.getD 0) = 0)))
theorem fineU_iff {n : Int} {zs : List Int} : ∀ k, k ≤ zs.length → (fineU n zs k = true ↔ (0 ≤ n ∧ n ≤ 48 ∧ (zs.length : Int) = n) ∧ (∀ z ∈ zs.take k, 0 ≤ z ∧ z < n) ∧ (zs.take k).Nodup)
  | 0, _ => by simp [fineU, and_assoc]
  | k + 1, hk => by
    obtain ⟨z, hz⟩ : ∃ z, zs[k]? = some z := ⟨zs[k]'(by omega), List.getElem?_eq_getElem _⟩
    rw [fineU, Bool.and_eq_true, fineU_iff k (by omega), take_one hz, hz]
    simp only [Option.getD_some, Bool.and_eq_true, decide_eq_true_eq, List.count_eq_zero]
    rw [List.nodup_append]
    constructor
    · rintro ⟨⟨h1, h2, h3⟩, h4, h5, h6⟩
      refine ⟨h1, fun y hy => ?_, h3, by simp, fun a ha b hb e => ?_⟩
      · rcases List.mem_append.1 hy with hy | hy
        · exact h2 y hy
        · simp at hy; subst hy; exact ⟨h4, h5⟩
      · simp at hb; subst hb; subst e; exact h6 ha
    · rintro ⟨h1, h2, h3, _, h4⟩
      have := h2 z (by simp)
      exact ⟨⟨h1, fun y hy => h2 y (by simp [hy]), h3⟩, this.1, this.2, fun h => h4 z h z (by simp) rfl⟩
theorem nodup_cast {N : Nat} {zs : List Int} (h : ∀ z ∈ zs, 0 ≤ z ∧ z < (N : Int)) : iL (zs.map Int.toNat) = zs := by
  unfold iL
  rw [List.map_map]
  conv => rhs; rw [← List.map_id zs]
  refine List.map_congr_left fun z hz => ?_
  have := h z hz
  simp
  omega
theorem full_of_nodup {N : Nat} {l : List Nat} (hl : l.length = N) (hnd : l.Nodup) (h : ∀ x ∈ l, x < N) {j : Nat} (hj : j < N) : j ∈ l := by
  refine Classical.byContradiction fun hn => ?_
  have := sub_le (l := j :: l) (m := List.range N) (List.nodup_cons.2 ⟨hn, hnd⟩) fun x hx => by
    rcases List.mem_cons.1 hx with rfl | hx
    · exact List.mem_range.2 hj
    · exact List.mem_range.2 (h x hx)
  rw [List.length_range, List.length_cons] at this
  omega
/-- The law's own test is the program's. -/
theorem fine_ord (n : Int) (zs : List Int) : fineU n zs zs.length = ordB n zs := by
  rw [Bool.eq_iff_iff, fineU_iff _ (Nat.le_refl _), List.take_length]
  constructor
  · rintro ⟨⟨h0, h1, h2⟩, h3, h4⟩
    obtain ⟨N, rfl⟩ : ∃ N : Nat, n = (N : Int) := ⟨n.toNat, by omega⟩
    have he := nodup_cast h3
    have hnd : (zs.map Int.toNat).Nodup := by
      have : (iL (zs.map Int.toNat)).Nodup := by rw [he]; exact h4
      exact List.Pairwise.of_map _ (fun a b hab e => hab (by rw [e])) this
    refine ordB_iff.2 ⟨by omega, by omega, h3, fun j hj => ?_⟩
    have := full_of_nodup (N := N) (l := zs.map Int.toNat) (by rw [List.length_map]; omega) hnd (fun x hx => by
      obtain ⟨z, hz, rfl⟩ := List.mem_map.1 hx
      have := h3 z hz
      omega) hj
    rw [← he]
    exact List.mem_map.2 ⟨j, this, rfl⟩
  · intro h
    have h48 : n ≤ 48 := by
      unfold ordB at h
      simp only [Bool.and_eq_true, decide_eq_true_eq] at h
      exact h.1
    have hlen : n = zs.length := by
      unfold ordB at h
      simp only [Bool.and_eq_true, decide_eq_true_eq] at h
      exact h.2.1
    obtain ⟨N, rfl⟩ : ∃ N : Nat, n = (N : Int) := ⟨n.toNat, by omega⟩
    obtain ⟨_, h2, h3, h4⟩ := ordB_iff.1 h
    have he := nodup_cast h3
    refine ⟨⟨by omega, h48, hlen.symm⟩, h3, ?_⟩
    have hnd : (zs.map Int.toNat).Nodup := nodup_of_sub (N := N) (by rw [List.length_map]; omega) fun j hj => by
      have := h4 j hj
      exact List.mem_map.2 ⟨j, this, by simp⟩
    rw [← he]
    exact List.Pairwise.map _ (fun a b hab e => hab (by have : (a : Int) = (b : Int) := e; omega)) hnd
end Go.Proofs.YtpmlomhlbmgilaaDoor
end

section
/- seisinlaw03.Lists on equal lists; what a law's walk carries. -/
namespace Go.Proofs.YtpmlomhlbmgilaaDoor
open Go.RowKit Go.Shelf

attribute [local go_sem] Oper.semAt_some

theorem ListSl.on {W W' : World} {v : Value} {zs : List (List Nat)} (h : ListSl W.heap.size W v zs) (hb : Below W.heap.size W W') : ListSl W'.heap.size W' v zs := (h.below hb).mono hb.size

/-- What a law's walk carries: relations in memory, lists, lists of lists. -/
structure KS (w W : World) (rels : List (Nat × Int × (Nat → Nat))) (sls : List (Value × List Nat)) (lls : List (Value × List (List Nat))) : Prop where
  below : Below w.heap.size w W
  rel : ∀ x ∈ rels, RelAt W x.1 x.2.1 x.2.2
  sl : ∀ x ∈ sls, SlI W.heap.size W x.1 x.2
  ls : ∀ x ∈ lls, ListSl W.heap.size W x.1 x.2
section
variable {w W W' : World} {rels : List (Nat × Int × (Nat → Nat))} {sls : List (Value × List Nat)} {lls : List (Value × List (List Nat))}
theorem KS.nil (w : World) : KS w w [] [] [] := ⟨Below.refl _ _, fun _ h => (by cases h), fun _ h => (by cases h), fun _ h => (by cases h)⟩
theorem KS.on (h : KS w W rels sls lls) (hb : Below W.heap.size W W') : KS w W' rels sls lls :=
  ⟨thru h.below hb, fun x hx => (h.rel x hx).on hb, fun x hx => (h.sl x hx).on hb, fun x hx => (h.ls x hx).on hb⟩
theorem KS.tab (h : KS w W rels sls lls) (hT : Tab w) : Tab W := hT.below h.below hT.pos
theorem KS.alloc (h : KS w W rels sls lls) (o : Obj) : KS w (W.alloc o) rels sls lls := h.on (below_new W o)
theorem KS.drew (h : KS w W rels sls lls) : KS w W.drew rels sls lls := h.on ((Below.refl _ W).drew)
theorem KS.addRel (h : KS w W rels sls lls) {b : Nat} {n : Int} {f : Nat → Nat} (hr : RelAt W b n f) : KS w W ((b, n, f) :: rels) sls lls :=
  ⟨h.below, fun x hx => by rcases List.mem_cons.1 hx with rfl | hx; exact hr; exact h.rel x hx, h.sl, h.ls⟩
theorem KS.addSl (h : KS w W rels sls lls) {v : Value} {zs : List Nat} (hr : SlI W.heap.size W v zs) : KS w W rels ((v, zs) :: sls) lls :=
  ⟨h.below, h.rel, fun x hx => by rcases List.mem_cons.1 hx with rfl | hx; exact hr; exact h.sl x hx, h.ls⟩
theorem KS.addLs (h : KS w W rels sls lls) {v : Value} {zs : List (List Nat)} (hr : ListSl W.heap.size W v zs) : KS w W rels sls ((v, zs) :: lls) :=
  ⟨h.below, h.rel, h.sl, fun x hx => by rcases List.mem_cons.1 hx with rfl | hx; exact hr; exact h.ls x hx⟩
/-- A call that returned a relation, laid into a new block. -/
theorem KS.lay (h : KS w W rels sls lls) (hb : Below W.heap.size W W') (n : Int) (f : Nat → Nat) :
    ∃ W2, (stRel (.pointer (some ⟨W'.heap.size, 0, none⟩)) (.agg (relC n f))).run Tryd.prog (W'.alloc (.cells (relC 0 zf) 26)) = .ok () W2 ∧ KS w W2 ((W'.heap.size, n, f) :: rels) sls lls ∧ W2.heap.size = W'.heap.size + 1 := by
  obtain ⟨W2, hs, hR, hb2, hz⟩ := Ex.lay W' n f
  exact ⟨W2, hs, ((h.on hb).on hb2).addRel hR, hz⟩
end

set_option maxRecDepth 100000 in
set_option maxHeartbeats 2000000 in
theorem lists_same (va vb : Value) (ls : List (List Nat)) (w : World) (ha : ListSl w.heap.size w va ls) (hb : ListSl w.heap.size w vb ls) :
    Calls Tryd.prog 58 #[va, vb] w fun e w' => e = .returned (.bool true) ∧ Below w.heap.size w w' := by
  obtain ⟨hl, a, ca, rfl, ha⟩ := ha
  obtain ⟨-, b, cb, rfl, hb⟩ := hb
  unfold maxLen at hl
  obtain ⟨K, hK⟩ : ∃ K, K = ls.length := ⟨_, rfl⟩
  have hKh := Lib.hid hK
  rw [← hK] at hl ha hb ⊢
  clear hK
  have hm : Tryd.prog.follows .mixedOrders = true := by kernel_rfl
  have HA := Lib.hid ha
  have HB := Lib.hid hb
  clear ha hb
  go_enter Tryd.func58, Tryd.ntmps58
  go_wp2
  go_loopw [13] (fun i W => ∃ k : Nat, k ≤ K ∧ i = .int .i64 k ∧ Below w.heap.size w W) (fun i _ => K - (intOf i).toNat)
  case atStart => exact ⟨0, Nat.zero_le _, rfl, Below.refl _ _⟩
  case round =>
    obtain ⟨k, hk, rfl, hB⟩ := hrel
    by_cases hlt : k < K
    · obtain ⟨x, rfl, hx1, hx2⟩ := HA.out (by omega)
      obtain ⟨y, rfl, hy1, hy2⟩ := HB.out (by omega)
      obtain ⟨l, hl2⟩ : ∃ l, ls[k]? = some l := ⟨ls[k]'(by rw [← hKh.out]; exact hlt), List.getElem?_eq_getElem _⟩
      obtain ⟨u1, hu1, hs1⟩ := hx2 k l hl2
      obtain ⟨u2, hu2, hs2⟩ := hy2 k l hl2
      have c1 := (hB.cell (p := ⟨x, k, none⟩) hx1).trans hu1
      have c2 := (hB.cell (p := ⟨y, k, none⟩) hy1).trans hu2
      have i1 := Lib.hid (((hs1.below hB).mono hB.size))
      have i2 := Lib.hid (((hs2.below hB).mono hB.size))
      clear hx2 hy2 hu1 hu2 hs1 hs2
      have t1 : decide (k < K) = true := by simpa using hlt
      have hBd := Lib.hid hB
      clear hB
      go_upto_region 6 with fail
      refine wp_region_tail 8 hm (by kernel_rfl) ?_
      simp only [List.take_succ_cons, List.take_zero, List.drop_succ_cons, List.drop_zero]
      repeat still_step
      refine wpStill_nil ?_
      go_wp2_with fail
      refine (ints_eq (w := wr.drew) i1.out i2.out).mono ?_
      rintro e w2 ⟨rfl, h2⟩
      go_wp2
      go_roundw
      case rel => exact ⟨k + 1, by omega, by go_num, thru hBd.out.drew h2⟩
      case measure => simp [intOf]; omega
    · obtain rfl : k = K := by omega
      go_wp2
      go_ret
      exact ⟨rfl, hB⟩
end Go.Proofs.YtpmlomhlbmgilaaDoor
end
