/- ParSame, ParSame2, ParSame3, ParTyped, ParFit3, ParJoin in one text, for the claim. -/
import Derived.Test.YtglbmiadgdadfaaPd10
import Derived.Test.YtglbmiadgdadfaaPd5
import Derived.Test.YtglbmiadgdadfaaPd6
import Derived.Test.YtglbmiadgdadfaaPd9

section
/- Comparing the same texts, bytes, instructions: true. -/
namespace Go.Proofs.Ytglbmiadgdadfaa
open Go.RowKit Go.Shelf
open Go.BigFrame

attribute [local go_sem] Oper.semAt_some
namespace PP
/-- A slice that reads as xs, wherever it lies. -/
def SlR (W : World) (size : Nat) (v : Value) (n : Nat) (xs : List Value) : Prop :=
  n ≤ maxLen ∧ xs.length = n * size ∧ ∃ (a : Option Addr) (cap : Nat), v = .slice a n cap ∧ n ≤ cap ∧ cap ≤ maxLen ∧ (0 < n → ∃ g off, a = some ⟨g, off, none⟩ ∧ ∀ (j : Nat) (u : Value), xs[j]? = some u → W.cell? ⟨g, off + j, none⟩ = some u)
theorem SlR.below {W W' : World} {size n : Nat} {v : Value} {xs : List Value} (h : SlR W size v n xs) (B : Below W.heap.size W W') : SlR W' size v n xs := by
  obtain ⟨h1, h2, a, cap, h3, h4, h5, h6⟩ := h
  refine ⟨h1, h2, a, cap, h3, h4, h5, fun h0 => ?_⟩
  obtain ⟨g, off, e1, e2⟩ := h6 h0
  exact ⟨g, off, e1, fun j u hj => cell_on (e2 j u hj) B⟩
theorem slR_own {W : World} {base size n : Nat} {e : TypeId} {v : Value} {xs : List Value} (h : W.ownsRow base e size v n xs) : SlR W size v n xs := by
  rcases h.2 with ⟨rfl, h0⟩ | ⟨g, cap, cur, rfl, hg, hheap, hnc, hcm, hsz, htk⟩
  · exact ⟨by rw [h0]; exact Nat.zero_le _, h.1, none, 0, by rw [h0], by rw [h0]; exact Nat.le_refl _, Nat.zero_le _, fun h => by omega⟩
  · refine ⟨Nat.le_trans hnc hcm, h.1, _, cap, rfl, hnc, hcm, fun _ => ⟨g, 0, rfl, fun j u hu => ?_⟩⟩
    have hj : j < n * size := by rw [← h.1]; exact (List.getElem?_eq_some_iff.1 hu).1
    rw [Nat.zero_add, h.cellAt j hj]
    exact hu
theorem slR_nil (W : World) (size : Nat) : SlR W size (.slice none 0 0) 0 [] := ⟨Nat.zero_le _, by simp, none, 0, rfl, Nat.le_refl _, Nat.zero_le _, fun h => by omega⟩
theorem cellsI_at : ∀ (ys : List PX.InsD) (i j : Nat) (y : PX.InsD), ys[i]? = some y → j < 10 → (cellsI ys)[i * 10 + j]? = (insC y)[j]?
  | [], i, j, y, h, _ => by simp at h
  | z :: zs, 0, j, y, h, hj => by
    simp at h; subst h
    unfold cellsI
    rw [List.flatMap_cons, List.getElem?_append_left (by show _ < 10; omega)]
    simp
  | z :: zs, i + 1, j, y, h, hj => by
    unfold cellsI
    rw [List.flatMap_cons, List.getElem?_append_right (by show 10 ≤ _; omega)]
    have e : (i + 1) * 10 + j - (insC z).toList.length = i * 10 + j := by show _ - 10 = _; omega
    rw [e]
    exact cellsI_at zs i j y (by simpa using h) hj
theorem argHeld : Try.prog.stoodInHeld 44 = false := by kernel_rfl
theorem insHeld : Try.prog.stoodInHeld 46 = false := by kernel_rfl
theorem u8Agg (w : World) : (isAgg 5).run Try.prog w = .ok false w := by kernel_rfl
theorem boolAgg (w : World) : (isAgg 4).run Try.prog w = .ok false w := by kernel_rfl
theorem argAgg (w : World) : (isAgg 44).run Try.prog w = .ok true w := by kernel_rfl
theorem argSize (w : World) : (sizeOf 44).run Try.prog w = .ok 2 w := by kernel_rfl
theorem eqArg (d : Nat) (r : Bool) (n : Int) (W : World) : (Op.equalIn (d + 1 + 1) 44 (.agg #[.bool r, .int .u8 n]) (.agg #[.bool r, .int .u8 n])).run Try.prog W = .ok true W := by
  rw [run_equalIn_agg W (d + 1) 44 _ _ (by rw [Program.fieldsOf, Try.underlying44]) argHeld]
  simp only [Program.fieldsOf, Try.underlying44, Op.eqFields]
  have hi : ∀ (n : Int) (W : World), (Op.equalIn (d + 1) 5 (.int .u8 n) (.int .u8 n)).run Try.prog W = .ok true W := fun n W => by rw [run_equalIn_int W d 5 .u8 .u8 _ _ Try.underlying5]; simp
  have hb : ∀ (r : Bool) (W : World), (Op.equalIn (d + 1) 4 (.bool r) (.bool r)).run Try.prog W = .ok true W := fun r W => by rw [run_equalIn_bool W d 4 _ _ Try.underlying4]; simp
  simp [part, u8Agg, boolAgg, hi, hb]
theorem eqIns (d : Nat) (x : PX.InsD) (W : World) : (Op.equalIn (d + 1 + 1 + 1) 46 (.agg (insC x)) (.agg (insC x))).run Try.prog W = .ok true W := by
  rw [run_equalIn_agg W (d + 1 + 1) 46 _ _ (by rw [Program.fieldsOf, Try.underlying46]) insHeld]
  simp only [Program.fieldsOf, Try.underlying46, Op.eqFields]
  have hi : ∀ (n : Int) (W : World), (Op.equalIn (d + 1 + 1) 5 (.int .u8 n) (.int .u8 n)).run Try.prog W = .ok true W := fun n W => by rw [run_equalIn_int W (d + 1) 5 .u8 .u8 _ _ Try.underlying5]; simp
  have ha := fun (r : Bool) (n : Int) W => eqArg d r n W
  have e1 : (insC x).extract 3 (3 + 2) = #[.bool x.a.r, .int .u8 x.a.n] := rfl
  have e2 : (insC x).extract 5 (5 + 2) = #[.bool x.b.r, .int .u8 x.b.n] := rfl
  have p0 : ∀ W, (part 5 (insC x) 0).run Try.prog W = .ok (.int .u8 x.op) W := fun W => by simp [part, u8Agg, insC]
  have p1 : ∀ W, (part 5 (insC x) 1).run Try.prog W = .ok (.int .u8 x.dst) W := fun W => by simp [part, u8Agg, insC]
  have p2 : ∀ W, (part 5 (insC x) 2).run Try.prog W = .ok (.int .u8 x.loc) W := fun W => by simp [part, u8Agg, insC]
  have p3 : ∀ W, (part 44 (insC x) 3).run Try.prog W = .ok (.agg #[.bool x.a.r, .int .u8 x.a.n]) W := fun W => by simp only [part, Sem.run_bind, argAgg, argSize, Result.andThen_ok, if_true, e1, Sem.run_pure]
  have p5 : ∀ W, (part 44 (insC x) 5).run Try.prog W = .ok (.agg #[.bool x.b.r, .int .u8 x.b.n]) W := fun W => by simp only [part, Sem.run_bind, argAgg, argSize, Result.andThen_ok, if_true, e2, Sem.run_pure]
  have p7 : ∀ W, (part 5 (insC x) 7).run Try.prog W = .ok (.int .u8 x.fn) W := fun W => by simp [part, u8Agg, insC]
  have p8 : ∀ W, (part 5 (insC x) 8).run Try.prog W = .ok (.int .u8 x.mode) W := fun W => by simp [part, u8Agg, insC]
  have p9 : ∀ W, (part 5 (insC x) 9).run Try.prog W = .ok (.int .u8 x.skip) W := fun W => by simp [part, u8Agg, insC]
  simp [p0, p1, p2, p3, p5, p7, p8, p9, hi, ha]
theorem ins_neq (x : PX.InsD) (U : World) : (binOp .neq 46 (.agg (insC x)) (.agg (insC x))).run Try.prog U = .ok (.bool false) U := by
  have this : (Op.equalIn Op.maxDepth 46 (.agg (insC x)) (.agg (insC x))).run Try.prog U = .ok true U := eqIns 9997 x U
  simp [binOp, Op.equal, this]
end PP
end Go.Proofs.Ytglbmiadgdadfaa
end

section
/- Comparing the same conditions, the same programs: true. -/
namespace Go.Proofs.Ytglbmiadgdadfaa
open Go.RowKit Go.Shelf
open Go.BigFrame

attribute [local go_sem] Oper.semAt_some
namespace PP
/-- A slice of conditions, wherever they lie. -/
def KidSl (W : World) (v : Value) (kids : List PX.CondD) : Prop :=
  ∃ (a : Option Addr) (cap : Nat), v = .slice a kids.length cap ∧ kids.length ≤ cap ∧ cap ≤ maxLen ∧
      (0 < kids.length → ∃ (g off : Nat) (ys : List CV), a = some ⟨g, off, none⟩ ∧ g < W.heap.size ∧
        (∀ (i j : Nat) (y : CV), ys[i]? = some y → j < 5 → ∀ U : World, U.heap[g]? = W.heap[g]? → U.cell? ⟨g, off + i * 5 + j, none⟩ = (condC y)[j]?) ∧ KidsR W ys kids)
theorem KidSl.at {W : World} {v : Value} {kids : List PX.CondD} (h : KidSl W v kids) : ∃ a cap, v = .slice a kids.length cap ∧ kids.length ≤ cap ∧ cap ≤ maxLen ∧ ∀ (i : Nat) (d : PX.CondD) (U : World), Below W.heap.size W U → kids[i]? = some d → ∃ g off y, a = some ⟨g, off, none⟩ ∧ CondR U y d ∧ ∀ U', Below U.heap.size U U' → ∀ j u, (condC y).toList[j]? = some u → U'.cell? (Addr.add ⟨g, off + i * 5, none⟩ j) = some u := by
  obtain ⟨a, cap, rfl, h1, h2, h3⟩ := h
  refine ⟨a, cap, rfl, h1, h2, fun i d U B hi => ?_⟩
  have h0 := (List.getElem?_eq_some_iff.1 hi).1
  obtain ⟨g, off, ys, rfl, e2, e3, e4⟩ := h3 (by omega)
  obtain ⟨y, hy, hR⟩ := KidsR.at kids ys e4 i d hi
  refine ⟨g, off, y, rfl, hR.below B, fun U' B' j u hj => ?_⟩
  have hj5 : j < 5 := (List.getElem?_eq_some_iff.1 hj).1
  rw [Go.WideShapes.add_plain]
  refine cell_on (cell_on (W := W) ((e3 i j y hy hj5 W rfl).trans ?_) B) B'
  rw [← Array.getElem?_toList]
  exact hj
theorem KidSl.below {W W' : World} {v : Value} {kids : List PX.CondD} (h : KidSl W v kids) (B : Below W.heap.size W W') : KidSl W' v kids := by
  obtain ⟨a, cap, rfl, h1, h2, h3⟩ := h
  refine ⟨a, cap, rfl, h1, h2, fun h0 => ?_⟩
  obtain ⟨g, off, ys, e1, e2, e3, e4⟩ := h3 h0
  exact ⟨g, off, ys, e1, lt_same (B.block g e2) e2, fun i j y hy hj U hU => e3 i j y hy hj U (hU.trans (B.block g e2)), KidsR.keep (fun g hg => B.block g hg) _ _ e4⟩
def SameC (m : Nat) : Prop := ∀ (c : PX.CondD) (x y : CV) (W : World), PX.deep c ≤ m → CondR W x c → CondR W y c → Calls Try.prog 11 #[condV x, condV y] W fun e w' => e = .returned (.bool true) ∧ Below W.heap.size W w'
set_option maxRecDepth 100000 in
set_option maxHeartbeats 8000000 in
theorem sameConds_of (m : Nat) (hm : SameC m) (v u : Value) (l : List PX.CondD) (w : World) (hd : PX.deepL l ≤ m) (hv : KidSl w v l) (hu : KidSl w u l) :
    Calls Try.prog 16 #[v, u] w fun e w' => e = .returned (.bool true) ∧ Below w.heap.size w w' := by
  obtain ⟨a, cap, rfl, h4, h5, h6⟩ := hv.at
  obtain ⟨a', cap', rfl, h4', h5', h6'⟩ := hu.at
  obtain ⟨N, hN⟩ : ∃ N, l.length = N := ⟨_, rfl⟩
  rw [hN] at h4 h4' ⊢
  unfold maxLen at h5 h5'
  clear hv hu
  replace h6 := Lib.hid h6
  replace h6' := Lib.hid h6'
  replace hm := Lib.hid hm
  go_enter Try.func16, Try.ntmps16
  go_wp2_with fail
  go_loopw [5] (fun i wr => ∃ q : Nat, q ≤ N ∧ i = .int .i64 (q : Int) ∧ Hid (Below w.heap.size w wr)) (fun i _ => N - (intOf i).toNat)
  case atStart => exact ⟨0, by omega, rfl, Lib.hid (Below.refl _ _)⟩
  case round =>
    obtain ⟨q, hq, rfl, hB⟩ := hrel
    by_cases hlt : q < N
    · obtain ⟨d, hd0⟩ : ∃ x, l[q]? = some x := ⟨l[q]'(by omega), List.getElem?_eq_getElem (by omega)⟩
      obtain ⟨g, off, x, rfl, hx, hcx⟩ := h6.out q d wr hB.out hd0
      obtain ⟨g', off', y, rfl, hy, hcy⟩ := h6'.out q d wr hB.out hd0
      have hdd := deepL_le l q d hd0
      have cs := Lib.hid fun W (B : Below wr.heap.size wr W) => hm.out d x y W (by omega) (hx.below B) (hy.below B)
      have t1 : decide (q < N) = true := by simpa using hlt
      unfold condV at cs
      unfold condC at hcx hcy
      replace hcx := Lib.hid hcx
      replace hcy := Lib.hid hcy
      clear hd0 hx hy hdd
      go_wp2_with fail
      refine wp_region_below wr.heap.size wr (by kernel_rfl) (by kernel_rfl) (Below.refl _ _) ?_
      repeat (first
        | (go_big_quiet_step (first
          | (intro _; exact rfl)
          | (intro hW; go_at_call 11; exact Calls.below_of hW (cs.out _ hW))))
        | (refine wpQuiet_want rfl fun K hK => ?_
           first
             | refine quiet_loadS 24 (.tmp 19) rfl ⟨g, off + q * 5, none⟩ rfl _ _ Try.underlying24 rfl (by kernel_rfl) hcx.out (hK _ ?_)
             | refine quiet_loadS 24 (.tmp 23) rfl ⟨g', off' + q * 5, none⟩ rfl _ _ Try.underlying24 rfl (by kernel_rfl) hcy.out (hK _ ?_)
           clear hK K
           simp only [Act.put, List.setIfInBounds_toArray, List.set_cons_succ, List.set_cons_zero]))
      refine wpQuiet_nil ?_
      intro wz hz
      have hB2 := Lib.hid (hB.out.trans (hz.mono hB.out.size))
      go_wp2
      go_roundw
      case rel => exact ⟨q + 1, by omega, by go_num, hB2⟩
      case measure => simp [intOf]; omega
    · obtain rfl : q = N := by omega
      have t1 : decide (q < q) = false := by simp
      go_wp2
      go_ret
      exact ⟨rfl, hB.out⟩
theorem CondR.kids {W : World} {x : CV} {k t n v : Int} {kids : List PX.CondD} (h : CondR W x (.mk k t n v kids)) : KidSl W x.u kids := by
  obtain ⟨_, _, _, _, a, cap, h5, h6, h7, h8⟩ := h
  exact ⟨a, cap, h5, h6, h7, h8⟩
set_option maxRecDepth 100000 in
set_option maxHeartbeats 8000000 in
theorem sameCond_all : ∀ m, SameC m
  | 0 => fun c x y W hd _ _ => by cases c; simp [PX.deep] at hd
  | m + 1 => by
    intro c x y w hd hx hy
    have ih := sameCond_all m
    cases c with
    | mk k t n v kids =>
      have hdk : PX.deepL kids ≤ m := by simp only [PX.deep] at hd; omega
      have kx := hx.kids
      have ky := hy.kids
      obtain ⟨a1, a2, a3, a4, a, cap, a5, -⟩ := hx
      obtain ⟨b1, b2, b3, b4, a', cap', b5, -⟩ := hy
      obtain ⟨xk, xt, xn, xv, xu⟩ := x
      obtain ⟨yk, yt, yn, yv, yu⟩ := y
      simp only at a1 a2 a3 a4 a5 b1 b2 b3 b4 b5 kx ky
      subst a1 a2 a3 a4 a5 b1 b2 b3 b4 b5
      obtain ⟨N, hN⟩ : ∃ N, kids.length = N := ⟨_, rfl⟩
      rw [hN] at kx ky
      unfold condV
      simp only
      rw [hN]
      have A1 := ((Below.refl w.heap.size w).alloc (Nat.le_refl _) (.cells #[.int .u8 yk, .int .u8 yt, .int .u8 yn, .int .u8 yv, .slice a N cap] 24)).alloc (by simp) (.cells #[.int .u8 yk, .int .u8 yt, .int .u8 yn, .int .u8 yv, .slice a' N cap'] 24)
      have z1 := row_alloc (heap_alloc_new w (.cells #[.int .u8 yk, .int .u8 yt, .int .u8 yn, .int .u8 yv, .slice a N cap] 24)) (.cells #[.int .u8 yk, .int .u8 yt, .int .u8 yn, .int .u8 yv, .slice a' N cap'] 24)
      have z2 := heap_alloc_new (w.alloc (.cells #[.int .u8 yk, .int .u8 yt, .int .u8 yn, .int .u8 yv, .slice a N cap] 24)) (.cells #[.int .u8 yk, .int .u8 yt, .int .u8 yn, .int .u8 yv, .slice a' N cap'] 24)
      simp only [World.size_alloc] at z2
      have CS := Lib.hid fun W (B : Below w.heap.size w W) => sameConds_of m ih _ _ kids W hdk (kx.below B) (ky.below B)
      have cs := Lib.hid (CS.out _ A1)
      have e0 := cell_of_row _ _ 0 _ _ _ z1
      have e1 := cell_of_row _ _ 1 _ _ _ z1
      have e2 := cell_of_row _ _ 2 _ _ _ z1
      have e3 := cell_of_row _ _ 3 _ _ _ z1
      have e4 := cell_of_row _ _ 4 _ _ _ z1
      have g0 := cell_of_row _ _ 0 _ _ _ z2
      have g1 := cell_of_row _ _ 1 _ _ _ z2
      have g2 := cell_of_row _ _ 2 _ _ _ z2
      have g3 := cell_of_row _ _ 3 _ _ _ z2
      have g4 := cell_of_row _ _ 4 _ _ _ z2
      simp only [List.getElem?_toArray, List.getElem?_cons_zero, List.getElem?_cons_succ] at e0 e1 e2 e3 e4 g0 g1 g2 g3 g4
      have hxx : ∀ z : Int, (z == z) = true := fun z => by simp
      replace A1 := Lib.hid A1
      clear z1 z2 CS kx ky hd
      go_enter Try.func11, Try.ntmps11
      go_wp2_with (first
        | (go_at_call 16; refine (cs.out).mono ?_; rintro e w3 ⟨rfl, B3⟩))
      go_ret
      exact ⟨rfl, A1.out.trans (B3.mono A1.out.size)⟩
theorem sameCond_any (c : PX.CondD) (x y : CV) (W : World) (hx : CondR W x c) (hy : CondR W y c) : Calls Try.prog 11 #[condV x, condV y] W fun e w' => e = .returned (.bool true) ∧ Below W.heap.size W w' :=
  sameCond_all _ c x y W (Nat.le_refl _) hx hy
end PP
end Go.Proofs.Ytglbmiadgdadfaa
end

section
/- Comparing the same programs: true. -/
namespace Go.Proofs.Ytglbmiadgdadfaa
open Go.RowKit Go.Shelf
open Go.BigFrame

attribute [local go_sem] Oper.semAt_some
namespace PP
/-- What a program holds, as plain data. -/
structure PgD where
  name : ByteArray
  locs : List ByteArray
  init : List Int
  threads : List (List PX.InsD)
  ask : Int
  cond : PX.CondD
def pgD (st : PX.S) : PgD := ⟨st.name, st.locs, st.init, st.threads, st.ask, st.cond⟩
def pgZ : PgD := ⟨⟨#[]⟩, [], [], [], 0, .mk 0 0 0 0 []⟩
/-- A program's slices and condition, where they lie. -/
structure PV where
  a2 : Option Addr
  n2 : Nat
  p2 : Nat
  a6 : Option Addr
  n6 : Nat
  p6 : Nat
  a7 : Option Addr
  n7 : Nat
  p7 : Nat
  xk : Int
  xt : Int
  xn : Int
  xv : Int
  xa : Option Addr
  xl : Nat
  xp : Nat
def pvC (d : PgD) (v : PV) : Array Value := #[.string d.name, .slice v.a2 v.n2 v.p2, .slice v.a6 v.n6 v.p6, .slice v.a7 v.n7 v.p7, .int .u8 d.ask, .int .u8 v.xk, .int .u8 v.xt, .int .u8 v.xn, .int .u8 v.xv, .slice v.xa v.xl v.xp]
/-- The cells pvC d v read as the program d. -/
structure PgR (W : World) (d : PgD) (v : PV) : Prop where
  locs : SlR W 1 (.slice v.a2 v.n2 v.p2) d.locs.length (d.locs.map .string)
  init : SlR W 1 (.slice v.a6 v.n6 v.p6) d.init.length (d.init.map (.int .u8))
  thr : ∃ vs : List Value, SlR W 1 (.slice v.a7 v.n7 v.p7) d.threads.length vs ∧ ∀ (i : Nat) (x : Value) (k : List PX.InsD), vs[i]? = some x → d.threads[i]? = some k → SlR W 10 x k.length (cellsI k)
  cond : CondR W ⟨v.xk, v.xt, v.xn, v.xv, .slice v.xa v.xl v.xp⟩ d.cond
theorem PgR.below {W W' : World} {d : PgD} {v : PV} (h : PgR W d v) (B : Below W.heap.size W W') : PgR W' d v := by
  obtain ⟨vs, h1, h2⟩ := h.thr
  exact ⟨h.locs.below B, h.init.below B, ⟨vs, h1.below B, fun i x k a b => (h2 i x k a b).below B⟩, h.cond.below B⟩
theorem PgM.toR {W : World} {b : Nat} {st : PX.S} {h : Hd} (P : PgM W b st h) : ∃ v : PV, progV st h = .agg (pvC (pgD st) v) ∧ PgR W (pgD st) v := by
  obtain ⟨xc, k0, k1, k2, k3, k4, k5⟩ := P.cnd
  obtain ⟨xa, xl, xp, hu⟩ := k5.slice
  obtain ⟨a2, n2, p2, hvl⟩ : ∃ a n cap, h.vl = .slice a n cap := by
    rcases P.locs.2 with ⟨e, _⟩ | ⟨g, cap, cur, e, _⟩
    · exact ⟨_, _, _, e⟩
    · exact ⟨_, _, _, e⟩
  obtain ⟨a6, n6, p6, hvi⟩ : ∃ a n cap, h.vi = .slice a n cap := by
    rcases P.init.2 with ⟨e, _⟩ | ⟨g, cap, cur, e, _⟩
    · exact ⟨_, _, _, e⟩
    · exact ⟨_, _, _, e⟩
  obtain ⟨a7, p7, hvt⟩ := P.thr.sl
  obtain ⟨vs, t1, t2⟩ := P.thr
  refine ⟨⟨a2, n2, p2, a6, n6, p6, a7, st.threads.length, p7, xc.k, xc.t, xc.n, xc.v, xa, xl, xp⟩, ?_, ?_, ?_, ⟨vs, ?_, fun i x k a c => slR_own (t2.2.1 i x k a c)⟩, ?_⟩
  · unfold progV; rw [hvl, hvi, hvt, k0, k1, k2, k3, k4, hu]; rfl
  · have := slR_own P.locs
    rw [hvl] at this
    exact this
  · have h1 := slR_own P.init
    have hn : st.init.length = st.locs.length := by have := P.init.1; simpa using this
    rw [hvi, ← hn] at h1
    exact h1
  · have := slR_own t1
    rw [hvt] at this
    exact this
  · have := CondM.toR _ _ k5
    obtain ⟨yk, yt, yn, yv, yu⟩ := xc
    simp only at hu
    subst hu
    exact this
def pvZ : PV := ⟨none, 0, 0, none, 0, 0, none, 0, 0, 0, 0, 0, 0, none, 0, 0⟩
theorem pgR_zero (W : World) : PgR W pgZ pvZ :=
  ⟨slR_nil W 1, slR_nil W 1, ⟨[], slR_nil W 1, fun i x k a => by simp at a⟩, rfl, rfl, rfl, rfl, none, 0, rfl, Nat.le_refl _, Nat.zero_le _, fun h => by simp at h⟩
end PP
end Go.Proofs.Ytglbmiadgdadfaa
end

section
/- Parsing a source and its formatted tokens: the same, but for offsets. An error's offset is a token's, or the end. -/
namespace Go.Proofs.Ytglbmiadgdadfaa
open Go.RowKit Go.Shelf
open Go.BigFrame

attribute [local go_sem] Oper.semAt_some
namespace PX
theorem sameT_of {A : Int → Prop} : ∀ (l m : List TokD), l.map shoD = m.map shoD → (∀ t ∈ l, A t.p) → SameT A l m
  | [], [], _, _ => trivial
  | [], _ :: _, h, _ => by simp at h
  | _ :: _, [], h, _ => by simp at h
  | t :: l, u :: m, h, ha => by
    simp only [List.map_cons, List.cons.injEq] at h
    have h1 : (t.k, t.x) = (u.k, u.x) := h.1
    exact ⟨⟨(Prod.mk.injEq .. ▸ h1).1, (Prod.mk.injEq .. ▸ h1).2, ha t List.mem_cons_self⟩, sameT_of l m h.2 fun v hv => ha v (List.mem_cons_of_mem _ hv)⟩
end PX
namespace PP
/-- The same result but for the offset; an error's offset is a token's, or the end. -/
def Alike (s : ByteArray) : PX.R Unit → PX.R Unit → Prop
  | .ok _ st, .ok _ st' => pgD st = pgD st'
  | .bad p e, .bad _ e' => e = e' ∧ ((∃ t ∈ toks s, t.p = p) ∨ p = (s.size : Int)) ∧ e ≠ 0
  | _, _ => False
theorem alike_typed (s : ByteArray) (hs : s.size ≤ 5000) (h : (LX.out (bsOf s)).2.2 = 0) : Alike s (PX.parse s) (PX.parse (typeS (toks s))) := by
  obtain ⟨_, h2, h3, _⟩ := typed s hs h
  rw [parse_eq, if_pos h, parse_eq, if_pos (by rw [h2])]
  have hlen : (toks (typeS (toks s))).length = (toks s).length := by
    have := congrArg List.length h3
    simpa using this
  rw [hlen]
  have hsim : PX.Sim (fun p => (∃ t ∈ toks s, t.p = p) ∨ p = (s.size : Int)) (PX.start s [] true) (PX.start (typeS (toks s)) [] true) :=
    ⟨PX.sameT_of _ _ h3.symm fun t ht => .inl ⟨t, ht, rfl⟩, .inr rfl, rfl, rfl, rfl, rfl, rfl, rfl, rfl, rfl⟩
  have hr := PX.sim_prog ((toks s).length + 1) hsim
  generalize PX.prog ((toks s).length + 1) (PX.start s [] true) = a at *
  generalize PX.prog ((toks s).length + 1) (PX.start (typeS (toks s)) [] true) = b at *
  cases a with
  | ok u st => cases b with
    | ok u' st' =>
      obtain ⟨_, hh⟩ := hr
      show pgD st = pgD st'
      unfold pgD
      rw [hh.name, hh.locs, hh.init, hh.threads, hh.ask, hh.cond]
    | bad p e => exact hr.elim
  | bad p e => cases b with
    | ok u' st' => exact hr.elim
    | bad p' e' => exact hr
end PP
end Go.Proofs.Ytglbmiadgdadfaa
end

section
/- What a parsed program respects: the whole. -/
namespace Go.Proofs.Ytglbmiadgdadfaa
open Go.RowKit Go.Shelf

namespace PP
theorem wf_tok : ∀ (u : Bool) (l : List (Nat × List UInt8)), LX.wf u l → ∀ x ∈ l, x.1 = 4 ∨ LX.tokOk x.1 x.2
  | _, [], _, x, h => by cases h
  | u, (k, T) :: r, hw, x, h => by
    rcases hw with ⟨h1, _, _, h2⟩ | ⟨h1, h2, h3⟩
    · rcases List.mem_cons.1 h with rfl | h
      · exact .inl h1
      · exact wf_tok _ r h2 x h
    · rcases List.mem_cons.1 h with rfl | h
      · exact .inr h2
      · exact wf_tok _ r h3 x h
theorem toks_fit (s : ByteArray) (he : (LX.out (bsOf s)).2.2 = 0) : ∀ t ∈ toks s, PX.TokG t := by
  intro t ht
  obtain ⟨hw, -, -⟩ := LX.out_good he
  unfold toks at ht
  obtain ⟨u, hu, rfl⟩ := List.mem_map.1 ht
  have hk := wf_tok _ _ hw _ (List.mem_map_of_mem (f := LX.sho (bsOf s)) hu)
  have hx : bsOf (tokD s u).x = LX.cut (bsOf s) u.lo u.hi := bsOf_extract s u.lo u.hi
  have hk' : u.kind = 4 ∨ LX.tokOk u.kind (bsOf (tokD s u).x) := by rw [hx]; exact hk
  refine ⟨fun h3 hn => ?_, fun h1 hz => ?_⟩
  · have h3' : u.kind = 3 := by have : (u.kind : Int) = 3 := h3; omega
    rcases hk' with h4 | h4
    · omega
    · unfold LX.tokOk at h4
      rcases h4 with ⟨h, _⟩ | ⟨h, _⟩ | ⟨_, h⟩
      · omega
      · omega
      · rw [hn] at h
        have hl : (bsOf PX.sNAME).length = 4 := rfl
        rcases h with ⟨b, h, _⟩ | h | h <;> (rw [h] at hl; exact absurd hl (by simp))
  · have h1' : u.kind = 1 := by have : (u.kind : Int) = 1 := h1; omega
    rcases hk' with h4 | h4
    · omega
    · unfold LX.tokOk at h4
      rcases h4 with ⟨_, _, h, _⟩ | ⟨h, _⟩ | ⟨h, _⟩
      · rw [LX.clAt_ge (by rw [bsOf_length]; omega)] at h
        exact absurd h (by decide)
      · omega
      · omega
/-- What a program respects. -/
structure FitD (d : PgD) : Prop where
  l6 : d.locs.length ≤ 6
  il : d.init.length = d.locs.length
  t1 : 1 ≤ d.threads.length
  t4 : d.threads.length ≤ 4
  i12 : ∀ k ∈ d.threads, k.length ≤ 12
  ask : 1 ≤ d.ask ∧ d.ask ≤ 3
  dp : PX.deep d.cond ≤ 20
  nm : d.name.size ≠ 0
  names : ∀ x ∈ d.locs, LX.nameB (bsOf x) = true
  nodup : d.locs.Nodup
  ins : ∀ k ∈ d.threads, ∀ x ∈ k, PX.InsOk d.locs.length x
theorem parse_fit (s : ByteArray) (u : Unit) (st : PX.S) (h : PX.parse s = .ok u st) : FitD (pgD st) := by
  rw [parse_eq] at h
  split at h
  · rename_i he
    have f0 : PX.Fit (PX.start s [] true) :=
      ⟨PX.inv_start s, toks_fit s he, fun x hx => (by cases hx), List.nodup_nil, rfl, fun k hk => (by cases hk), fun hh => (by have : (1 : Int) ≤ 0 := hh; omega), fun hh => (by have : (0 : Int) = 4 := hh; omega), fun hh => (by have : (0 : Int) = 4 := hh; omega)⟩
    obtain ⟨f, hd⟩ := PX.fit_prog ((toks s).length + 1) _ f0 (Nat.lt_succ_self _) u st h
    have h0 : st.threads ≠ [] := f.inv.some_ (by rw [hd]; omega)
    exact ⟨f.inv.l6, f.ilen, Nat.pos_of_ne_zero fun e => h0 (List.eq_nil_of_length_eq_zero e), f.inv.t4, f.inv.i12, f.ask hd, f.deep hd, f.named (by rw [hd]; omega), f.names, f.nodup, f.ins⟩
  · cases h
theorem parse_bad (s : ByteArray) (hs : s.size ≤ 5000) (p x : Int) (h : PX.parse s = .bad p x) : x ≠ 0 := by
  by_cases he : (LX.out (bsOf s)).2.2 = 0
  · have hA := alike_typed s hs he
    rw [h] at hA
    cases hq : PX.parse (typeS (toks s)) with
    | ok u' st' => rw [hq] at hA; exact hA.elim
    | bad p' x' => rw [hq] at hA; exact hA.2.2
  · rw [parse_eq, if_neg he] at h
    injection h with _ h
    omega
theorem SlR.len {W : World} {size m n : Nat} {a : Option Addr} {cap : Nat} {xs : List Value} (h : SlR W size (.slice a m cap) n xs) : m = n := by
  obtain ⟨_, _, a', cap', e, _⟩ := h
  injection e
theorem SlR.at {W : World} {size m n : Nat} {a : Option Addr} {cap : Nat} {xs : List Value} (h : SlR W size (.slice a m cap) n xs) : m ≤ cap ∧ cap ≤ maxLen ∧ (0 < m → ∃ g off, a = some ⟨g, off, none⟩ ∧ ∀ (j : Nat) (u : Value), xs[j]? = some u → ∀ U, Below W.heap.size W U → U.cell? ⟨g, off + j, none⟩ = some u) := by
  have e0 := h.len
  obtain ⟨_, _, a', cap', e, h4, h5, h6⟩ := h
  injection e with e1 e2 e3
  subst e1 e3
  refine ⟨by omega, h5, fun hm => ?_⟩
  obtain ⟨g, off, e, hc⟩ := h6 (by omega)
  exact ⟨g, off, e, fun j u hj U B => cell_on (hc j u hj) B⟩
end PP
end Go.Proofs.Ytglbmiadgdadfaa
end

section
/- The texts that ParseJoins makes: how they read. Pure. -/
namespace Go.Proofs.Ytglbmiadgdadfaa
open Go.RowKit Go.Shelf

namespace PP
/-- The tokens' texts, each behind a blank. -/
def jb (l : List TokD) : List UInt8 := l.flatMap fun t => 32 :: bsOf t.x
def sh (t : TokD) : Nat × List UInt8 := (t.k.toNat, bsOf t.x)
/-- A token that is no line's end. -/
def TokN (t : TokD) : Prop := 0 ≤ t.k ∧ LX.tokOk t.k.toNat (bsOf t.x)
theorem jb_cons (t : TokD) (r : List TokD) : jb (t :: r) = 32 :: (bsOf t.x ++ jb r) := by unfold jb; rw [List.flatMap_cons]; rfl
theorem jb_sep (r : List TokD) (R : List UInt8) : LX.sep (jb r ++ 32 :: R) := by
  cases r with
  | nil => exact .inl rfl
  | cons t r => rw [jb_cons]; exact .inl rfl
theorem jb_reads {R : List UInt8} {ts : List (Nat × List UInt8)} (h : LX.Reads R true ts) : ∀ r : List TokD, (∀ t ∈ r, TokN t) → LX.Reads (jb r ++ 32 :: R) true (r.map sh ++ ts)
  | [], _ => h.blank (by decide)
  | t :: r, hr => by
    have ih := jb_reads h r fun u hu => hr u (List.mem_cons_of_mem _ hu)
    have ht := (hr t List.mem_cons_self).2
    rw [jb_cons, List.cons_append, List.append_assoc]
    exact LX.Reads.blank (ih.tok ht (jb_sep r R)) (by decide)
theorem sgn {b : UInt8} (h : LX.cls (b.toNat : Int) = 7) : LX.tokOk 3 [b] := .inr (.inr ⟨rfl, .inl ⟨b, rfl, h⟩⟩)
theorem reads_close : LX.Reads [41] true [(3, [41]), (4, [])] := by
  refine ⟨[⟨3, 0, 1⟩, ⟨4, 1, 1⟩], ?_, rfl⟩
  rw [LX.ys_sign (by decide) (by decide), LX.ys_end (by decide)]
  rfl
theorem reads_in {r : List TokD} (hr : ∀ t ∈ r, TokN t) {R : List UInt8} {ts : List (Nat × List UInt8)} (h : LX.Reads R true ts) (u : Bool) : LX.Reads (40 :: (jb r ++ 32 :: R)) u ((3, [40]) :: (r.map sh ++ ts)) :=
  (jb_reads h r hr).tok (T := [40]) (sgn (by decide)) (jb_sep r R)
theorem reads_two {ra rb : List TokD} (ha : ∀ t ∈ ra, TokN t) (hb : ∀ t ∈ rb, TokN t) {b : UInt8} (hc : LX.cls (b.toNat : Int) = 7) :
    LX.Reads (40 :: (jb ra ++ 32 :: (41 :: 32 :: b :: 32 :: 40 :: (jb rb ++ 32 :: [41])))) false ((3, [40]) :: (ra.map sh ++ (3, [41]) :: (3, [b]) :: (3, [40]) :: (rb.map sh ++ [(3, [41]), (4, [])]))) := by
  have h1 := reads_in hb reads_close true
  have h2 := (h1.blank (b := 32) (by decide)).tok (u := true) (T := [b]) (sgn hc) (.inl rfl)
  have h3 := (h2.blank (b := 32) (by decide)).tok (u := true) (T := [41]) (sgn (by decide)) (.inl rfl)
  exact reads_in ha h3 false
theorem reads_not {ra : List TokD} (ha : ∀ t ∈ ra, TokN t) : LX.Reads (33 :: 32 :: 40 :: (jb ra ++ 32 :: [41])) false ((3, [33]) :: (3, [40]) :: (ra.map sh ++ [(3, [41]), (4, [])])) := by
  have h1 := reads_in ha reads_close true
  exact (h1.blank (b := 32) (by decide)).tok (u := false) (T := [33]) (sgn (by decide)) (.inl rfl)
theorem wf_last : ∀ (u : Bool) (l : List (Nat × List UInt8)) (x : Nat × List UInt8), LX.wf u (l ++ [x]) → x.1 = 4 ∧ x.2 = []
  | u, [], (k, T), h => by
    rcases h with ⟨h1, _, h2, _⟩ | ⟨_, _, h3⟩
    · exact ⟨h1, h2⟩
    · cases h3
  | u, (k, T) :: l, x, h => by
    rcases h with ⟨_, _, _, h⟩ | ⟨_, _, h⟩
    · exact wf_last _ l x h
    · exact wf_last _ l x h
/-- A condition's text that reads whole: its tokens. -/
theorem toks_whole {s : ByteArray} (he : (LX.out (bsOf s)).2.2 = 0) {r : List TokD} {e : TokD} (h : toks s = r ++ [e]) (hn : ∀ t ∈ r, PX.sy t ≠ PX.sEND) : jb (toks s) = jb r ++ [32] ∧ ∀ t ∈ r, TokN t := by
  obtain ⟨hw, -, -⟩ := LX.out_good he
  have hsh : (toks s).map sh = (LX.out (bsOf s)).1.map (LX.sho (bsOf s)) := by
    unfold toks
    rw [List.map_map]
    apply List.map_congr_left
    intro t _
    show ((t.kind : Int).toNat, bsOf (s.extract t.lo t.hi)) = (t.kind, LX.cut (bsOf s) t.lo t.hi)
    rw [bsOf_extract]
    rfl
  rw [← hsh] at hw
  have hk : ∀ t ∈ toks s, 0 ≤ t.k := fun t ht => (toks_ok s t ht).2.1
  refine ⟨?_, fun t ht => ?_⟩
  · rw [h, List.map_append] at hw
    have := wf_last _ _ _ hw
    have hx : bsOf e.x = [] := this.2
    rw [h]
    unfold jb
    rw [List.flatMap_append, List.flatMap_cons, hx]
    rfl
  · have htm : t ∈ toks s := by rw [h]; exact List.mem_append_left _ ht
    have h0 := hk t htm
    rcases wf_tok _ _ hw _ (List.mem_map_of_mem (f := sh) htm) with h4 | h4
    · have h4' : t.k = 4 := by have : t.k.toNat = 4 := h4; omega
      refine absurd ?_ (hn t ht)
      unfold PX.sy
      rw [if_neg (by omega), if_neg (by omega), if_neg (by omega), if_pos h4']
    · exact ⟨h0, h4⟩
theorem jb_len (s : ByteArray) : (jb (toks s)).length ≤ 3 * s.size := by
  by_cases he : (LX.out (bsOf s)).2.2 = 0
  · obtain ⟨-, hc, -⟩ := LX.out_good he
    have a2 := LX.chain_sum hc (Nat.zero_le _)
    have a3 := LX.out_len' (L := bsOf s)
    rw [bsOf_length] at a2 a3
    have e : ∀ l : List LX.Tk, (jb (l.map (tokD s))).length = l.length + ((l.map (LX.sho (bsOf s))).map fun x => x.2.length).sum := by
      intro l
      induction l with
      | nil => rfl
      | cons t l ih =>
        rw [List.map_cons, jb_cons]
        simp only [List.length_cons, List.length_append, List.map_cons, List.sum_cons, ih]
        have : (bsOf (tokD s t).x).length = (LX.sho (bsOf s) t).2.length := by
          show (bsOf (s.extract t.lo t.hi)).length = _
          rw [bsOf_extract]; rfl
        rw [this]; omega
    unfold toks
    rw [e]; omega
  · have : toks s = [] := by
      unfold toks
      have : (LX.out (bsOf s)).1 = [] := by
        unfold LX.out at he ⊢
        split
        · rfl
        · rename_i hl
          rw [if_neg hl] at he
          split
          · rfl
          · rename_i hf; rw [hf] at he; exact absurd rfl he
      rw [this]; rfl
    rw [this]
    exact Nat.zero_le _
end PP
end Go.Proofs.Ytglbmiadgdadfaa
end
