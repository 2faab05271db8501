/- RefOrd7, RefOrd8, RefRel4 in one text, for the claim. -/
import Derived.Deep.RegionWith
import Derived.Deep.DeepMust
import Derived.Deep.Onto
import Derived.Test.YtpbljciblgcgfaaDoorOt8
import Derived.Test.YtpbljciblgcgfaaDoorOt3
import Derived.Test.YtpbljciblgcgfaaDoorOt5
import Derived.Deep.DeepCutAuto
import Derived.Deep.AppendLies
import Derived.Test.YtpbljciblgcgfaaDoorOt7
import Derived.Test.YtpbljciblgcgfaaDoorOt4

section
/- The reference's more. -/
namespace Go.Proofs.YtpbljciblgcgfaaDoor
open Go.RowKit Go.Shelf

attribute [local go_sem] Oper.semAt_some

/-- All that is no row of lists lies as it lay. -/
structure KeepO (W W' : World) : Prop where
  size : W.heap.size ≤ W'.heap.size
  block : ∀ (g : Nat) (o : Obj), W.heap[g]? = some o → (∀ cur fz, o ≠ .cells cur 46 fz) → W'.heap[g]? = some o
theorem KeepO.refl (W : World) : KeepO W W := ⟨Nat.le_refl _, fun _ _ h _ => h⟩
theorem KeepO.trans {W W1 W2 : World} (h : KeepO W W1) (k : KeepO W1 W2) : KeepO W W2 := ⟨Nat.le_trans h.size k.size, fun g o ho hn => k.block g o (h.block g o ho hn) hn⟩
theorem KeepO.below {W W' : World} (h : Below W.heap.size W W') : KeepO W W' := ⟨h.size, fun g o ho _ => (h.block g (Array.getElem?_eq_some_iff.1 ho).1).trans ho⟩
theorem KeepO.row {W W' : World} (h : KeepO W W') {b : Nat} {v : Value} {n : Nat} {xs : List Value} (ho : W.ownsRow b 3 1 v n xs) : W'.ownsRow b 3 1 v n xs := by
  refine ⟨ho.1, ho.2.imp id ?_⟩
  rintro ⟨g, cap, cur, rfl, h1, h2, h3⟩
  exact ⟨g, cap, cur, rfl, h1, h.block g _ h2 (fun cur fz e => by cases e), h3⟩
theorem KeepO.rel {W W' : World} (h : KeepO W W') {b : Nat} {n : Int} {f : Nat → Nat} (hr : RelAt W b n f) : RelAt W' b n f := h.block b _ hr (fun cur fz e => by cases e)
/-- A row of lists that the call may change. -/
def OutAt (B : Nat) (W : World) (v : Value) (ls : List (List Nat)) : Prop :=
  ∃ vs : List Value, vs.length = ls.length ∧ W.ownsRow B 46 1 v ls.length vs ∧ ∀ (j : Nat) (u : Value) (l : List Nat), vs[j]? = some u → ls[j]? = some l → W.ownsRow B 3 1 u l.length (l.map intV)
theorem OutAt.on {B : Nat} {W W' : World} {v : Value} {ls : List (List Nat)} (h : OutAt B W v ls) (hb : Below W.heap.size W W') : OutAt B W' v ls := by
  obtain ⟨vs, h1, h2, h3⟩ := h
  exact ⟨vs, h1, own_on h2 hb, fun j u l hu hl => own_on (h3 j u l hu hl) hb⟩
theorem OutAt.nil (B : Nat) (W : World) : OutAt B W (.slice none 0 0) [] := ⟨[], rfl, World.ownsRow_nil _ _ _ _, fun j u l h => by simp at h⟩
theorem KeepO.grown {B : Nat} {W W' : World} {v : Value} {ls : List (List Nat)} (h : OutAt B W v ls) (hg : W.grownBy W' v.ownBlock) : KeepO W W' := by
  refine ⟨hg.size, fun g o ho hn => (hg.block g (Array.getElem?_eq_some_iff.1 ho).1 fun e => ?_).trans ho⟩
  obtain ⟨vs, _, h2, _⟩ := h
  rcases h2.2 with ⟨rfl, _⟩ | ⟨g', cap, cur, rfl, _, hgg, _⟩
  · cases e
  · have e' : g = g' := by simpa [Value.ownBlock] using e
    subst e'
    rw [hgg] at ho
    exact hn cur (0, 0) (Option.some.inj ho).symm
theorem plc_neg {xs : List Nat} {a : Nat} : (decide (plc (iL xs) a < 0)) = !xs.contains a := by
  have key : ∀ (l : List Nat) (k : Nat), (plcGo (a : Int) (iL l) k < 0) ↔ a ∉ l := by
    intro l
    induction l with
    | nil => intro k; simp [iL, plcGo]
    | cons z l ih =>
      intro k
      have hc : iL (z :: l) = (z : Int) :: iL l := rfl
      rw [hc, plcGo]
      by_cases hz : (z : Int) = a
      · rw [if_pos hz]
        have : z = a := by omega
        simp [this]
      · rw [if_neg hz, ih]
        have : ¬ a = z := fun e => hz (by rw [e])
        simp [this]
  rw [Bool.eq_iff_iff]
  simp only [decide_eq_true_eq, Bool.not_eq_true', List.contains_eq_mem, decide_eq_false_iff_not]
  exact key xs 0
theorem intSl_own {W : World} {b : Nat} {v : Value} {xs : List Nat} (h : W.ownsRow b 3 1 v xs.length (xs.map intV)) (hm : xs.length ≤ maxLen) : IntSl W.heap.size W v (iL xs) := ExO.intSl_of (slI_of_row h hm)

/-- What more answers. -/
def MorePost (N : Nat) (f : Nat → Nat) (most B d : Nat) (xs : List Nat) (ls : List (List Nat)) (W : World) (e : Ending) (W' : World) : Prop :=
  ∃ v', e = .returned v' ∧ OutAt B W' v' ((ls ++ goL N f d xs).take (most + 1)) ∧ Below B W W' ∧ KeepO W W'
def MoreIs (N : Nat) (f : Nat → Nat) (most B d : Nat) : Prop :=
  ∀ (xs : List Nat) (vb v : Value) (ls : List (List Nat)) (W : World), xs.length + d = N → W.ownsRow 0 3 1 vb xs.length (xs.map intV) → OutAt B W v ls → ls.length ≤ most → B ≤ W.heap.size →
    Calls Tryd.prog 89 #[.agg (relC N f), vb, v, .int .i64 (most : Int)] W (MorePost N f most B d xs ls W)

set_option maxRecDepth 100000 in
set_option maxHeartbeats 4000000 in
theorem more_leaf (N : Nat) (f : Nat → Nat) (most B : Nat) (hN : N ≤ 48) (hM : most ≤ 10000) : MoreIs N f most B 0 := by
  intro xs vb v ls W hlen hb hout hls hB
  obtain ⟨i0, hi, hz0, hz1, hz2⟩ := infoIntC
  obtain ⟨i1, hi1, hz01, hz11, hz21⟩ := infoRowC
  have hA := RelAt.new W N f
  have c0 := hA.num
  have hBl := (Below.refl B W).alloc hB (.cells (relC N f) 26)
  have hbl := below_new W (.cells (relC N f) 26)
  have hlenN := Lib.hid (show xs.length = N by omega)
  have hb1 := Lib.hid (own_on hb hbl)
  have ho1 := Lib.hid (hout.on hbl)
  have hBs := hBl.size
  have hk1 := Lib.hid (KeepO.below hbl)
  have hgo : goL N f 0 xs = [xs] := rfl
  have htk : (ls ++ goL N f 0 xs).take (most + 1) = ls ++ [xs] := by rw [hgo]; exact List.take_of_length_le (by simp; omega)
  replace htk := Lib.hid htk
  replace hout := Lib.hid hout
  clear hgo hbl
  have hB1 : B ≤ (W.alloc (.cells (relC N f) 26)).heap.size := by omega
  rcases hb.2 with ⟨rfl, hx0⟩ | ⟨g, cap, cur, rfl, _, hg, hgc, hgm, _⟩
  · have t0 : ((0 : Int) == (N : Int)) = true := by have := hlenN.out; simp; omega
    replace hx0 := Lib.hid hx0
    clear hlen hb
    go_enter Tryd.func89, Tryd.ntmps89
    go_upto_region 2 with fail
    clear c0 hA
    have hBl' := Lib.hid hBl
    clear hBl
    generalize (W.alloc (.cells (relC N f) 26)) = W1 at *
    have hxs : xs = [] := List.eq_nil_of_length_eq_zero hx0.out
    replace hxs := Lib.hid hxs
    have hrow0 := Lib.hid (World.ownsRow_lit W1 (e := 3) (size := 1) (base := B) #[] 0 hB1 (by decide) rfl)
    obtain ⟨vs, hvl, hvo, hve⟩ := ho1.out
    replace hvo := Lib.hid hvo
    replace hve := Lib.hid hve
    go_wp2_with (at_builtin; first
      | (refine wpList_append_own_none rfl _ _ 46 rfl B 3 i0 1 Tryd.underlying46 hi (.slice (some ⟨W1.heap.size, 0, none⟩) 0 0) 0 [] rfl hrow0.out rfl ?_
         have hB2 : Hid (Below W1.heap.size W1 (W1.alloc (.cells #[] 3))) := Lib.hid (below_new W1 _)
         have hs2 := hB2.out.size)
      | (refine wpList_append_own _ rfl _ _ 51 rfl B 46 i1 (.slice none 0 0) 1 24 undRows hi1 hz01 hz11 hz21 rfl (by decide) v ls.length vs rfl ((own_on hvo.out hB2.out).alloc _) ⟨(W1.alloc (.cells #[] 3)).heap.size, 0, none⟩ 1 1 [.slice (some ⟨W1.heap.size, 0, none⟩) 0 0] (by simp [Act.eval]) rfl (cell_one_new _ _ _) (by intro u hu; simp at hu; subst hu; rfl) (by unfold maxLen; omega) (by omega) (by simp; omega) ?_
         intro v3 w3 hown3 hgrow3 _))
    have hown2 : Hid ((W1.alloc (.cells #[] 3)).ownsRow B 3 1 (.slice (some ⟨W1.heap.size, 0, none⟩) 0 0) xs.length (xs.map intV)) := Lib.hid (by rw [hxs.out]; exact hrow0.out)
    have hown4 := own_on hown2.out (below_new (W1.alloc (.cells #[] 3)) (.cells #[.slice (some ⟨W1.heap.size, 0, none⟩) 0 0] 46))
    have hvo4 := own_on (own_on hvo.out hB2.out) (below_new (W1.alloc (.cells #[] 3)) (.cells #[.slice (some ⟨W1.heap.size, 0, none⟩) 0 0] 46))
    have hO4 : OutAt B ((W1.alloc (.cells #[] 3)).alloc (.cells #[.slice (some ⟨W1.heap.size, 0, none⟩) 0 0] 46)) v ls := ⟨vs, hvl, hvo4, fun j u l hu hl => own_on (own_on (hve.out j u l hu hl) hB2.out) (below_new (W1.alloc (.cells #[] 3)) _)⟩
    have hK4 : KeepO ((W1.alloc (.cells #[] 3)).alloc (.cells #[.slice (some ⟨W1.heap.size, 0, none⟩) 0 0] 46)) w3 := KeepO.grown hO4 hgrow3
    have hK := Lib.hid ((hk1.out.trans ((KeepO.below hB2.out).trans (KeepO.below (below_new (W1.alloc (.cells #[] 3)) (.cells #[.slice (some ⟨W1.heap.size, 0, none⟩) 0 0] 46))))).trans hK4)
    have hOut : Hid (OutAt B w3 v3 (ls ++ [xs])) := Lib.hid (by
      refine ⟨vs ++ [.slice (some ⟨W1.heap.size, 0, none⟩) 0 0], by simp [hvl], by rw [List.length_append]; exact hown3, fun j u l hu hl => ?_⟩
      by_cases hj : j < vs.length
      · rw [List.getElem?_append_left hj] at hu
        rw [List.getElem?_append_left (by rw [← hvl]; exact hj)] at hl
        exact hK4.row (own_on (own_on (hve.out j u l hu hl) hB2.out) (below_new (W1.alloc (.cells #[] 3)) _))
      · rw [List.getElem?_append_right (by omega)] at hu
        rw [List.getElem?_append_right (by rw [← hvl]; omega), ← hvl] at hl
        have hz : j - vs.length = 0 := by
          have := (List.getElem?_eq_some_iff.1 hu).1
          simp at this
          omega
        rw [hz] at hu hl
        simp at hu hl
        subst hu hl
        exact hK4.row hown4)
    have hBB : Hid (Below B W w3) := Lib.hid (((hBl'.out.trans (hB2.out.mono hB1)).alloc (by omega) (.cells #[.slice (some ⟨W1.heap.size, 0, none⟩) 0 0] 46)).grown hgrow3 (by simp; omega) (fun j hj => by
      rcases hvo.out.2 with ⟨rfl, _⟩ | ⟨g', cap', cur', rfl, hg', _⟩
      · cases hj
      · cases hj; exact hg'))
    clear hown4 hvo4 hO4 hK4 hown3 hgrow3
    go_wp2
    go_ret
    exact ⟨v3, rfl, by rw [htk.out]; exact hOut.out, hBB.out, hK.out⟩
  · have t0 : ((xs.length : Int) == (N : Int)) = true := by have := hlenN.out; simp; omega
    replace hb := Lib.hid hb
    go_enter Tryd.func89, Tryd.ntmps89
    go_upto_region 2 with fail
    clear c0 hA
    have hBl' := Lib.hid hBl
    clear hg hlen hBl
    generalize (W.alloc (.cells (relC N f) 26)) = W1 at *
    have hrow0 := Lib.hid (World.ownsRow_lit W1 (e := 3) (size := 1) (base := B) #[] 0 hB1 (by decide) rfl)
    have hsrc : Hid (∀ W', Below W1.heap.size W1 W' → ∀ j u, (xs.map intV)[j]? = some u → W'.cell? ((⟨g, 0, none⟩ : Addr).add j) = some u) := Lib.hid (fun W' h j u hu => by
      rw [Go.WideShapes.add_plain, Nat.zero_add]
      have hj : j < xs.length := by have := (List.getElem?_eq_some_iff.1 hu).1; simpa using this
      exact (((own_on hb1.out h).cellAt j (by omega)).trans hu))
    have hone : Hid (∀ u ∈ xs.map intV, u.oneCell' = true) := Lib.hid (fun u hu => by obtain ⟨y, _, rfl⟩ := List.mem_map.1 hu; rfl)
    have hxl : xs.length ≤ 48 := by have := hlenN.out; omega
    obtain ⟨vs, hvl, hvo, hve⟩ := ho1.out
    replace hvo := Lib.hid hvo
    replace hve := Lib.hid hve
    go_wp2_with (at_builtin; first
      | (refine wpList_append_own _ rfl _ _ 46 rfl B 3 i0 (.int .i64 0) 1 8 Tryd.underlying46 hi hz0 hz1 hz2 rfl (by decide) (.slice (some ⟨W1.heap.size, 0, none⟩) 0 0) 0 [] rfl hrow0.out ⟨g, 0, none⟩ xs.length cap (xs.map intV) rfl (by simp) (hsrc.out _ ((Below.refl W1.heap.size W1).alloc (Nat.le_refl _) _)) hone.out (by unfold maxLen; omega) (by omega) (by simp; omega) ?_
         intro v2 w2 hown2 hgrow2 _
         have hB2 := Lib.hid (((Below.refl W1.heap.size W1).alloc (Nat.le_refl _) (.cells #[] 3)).grown hgrow2 (by simp) (fun j hj => by cases hj; exact Nat.le_refl _))
         have hs2 := hB2.out.size
         obtain ⟨a2, c2, hv2⟩ := ownsRow_slice hown2
         rw [hv2] at hown2 ⊢
         clear hv2 hgrow2
         rw [Nat.zero_add, List.nil_append] at hown2
         replace hown2 := Lib.hid hown2)
      | (refine wpList_append_own _ rfl _ _ 51 rfl B 46 i1 (.slice none 0 0) 1 24 undRows hi1 hz01 hz11 hz21 rfl (by decide) v ls.length vs rfl ((own_on hvo.out hB2.out).alloc _) ⟨w2.heap.size, 0, none⟩ 1 1 [.slice a2 xs.length c2] rfl rfl (cell_one_new _ _ _) (by intro u hu; simp at hu; subst hu; rfl) (by unfold maxLen; omega) (by omega) (by simp; omega) ?_
         intro v3 w3 hown3 hgrow3 _))
    have hown4 := own_on hown2.out (below_new w2 (.cells #[.slice a2 xs.length c2] 46))
    have hvo4 := own_on (own_on hvo.out hB2.out) (below_new w2 (.cells #[.slice a2 xs.length c2] 46))
    have hO4 : OutAt B (w2.alloc (.cells #[.slice a2 xs.length c2] 46)) v ls := ⟨vs, hvl, hvo4, fun j u l hu hl => own_on (own_on (hve.out j u l hu hl) hB2.out) (below_new w2 _)⟩
    have hK4 : KeepO (w2.alloc (.cells #[.slice a2 xs.length c2] 46)) w3 := KeepO.grown hO4 hgrow3
    have hK := Lib.hid ((hk1.out.trans ((KeepO.below hB2.out).trans (KeepO.below (below_new w2 (.cells #[.slice a2 xs.length c2] 46))))).trans hK4)
    have hOut : Hid (OutAt B w3 v3 (ls ++ [xs])) := Lib.hid (by
      refine ⟨vs ++ [.slice a2 xs.length c2], by simp [hvl], by rw [List.length_append]; exact hown3, fun j u l hu hl => ?_⟩
      by_cases hj : j < vs.length
      · rw [List.getElem?_append_left hj] at hu
        rw [List.getElem?_append_left (by rw [← hvl]; exact hj)] at hl
        exact hK4.row (own_on (own_on (hve.out j u l hu hl) hB2.out) (below_new w2 _))
      · rw [List.getElem?_append_right (by omega)] at hu
        rw [List.getElem?_append_right (by rw [← hvl]; omega), ← hvl] at hl
        have hz : j - vs.length = 0 := by
          have := (List.getElem?_eq_some_iff.1 hu).1
          simp at this
          omega
        rw [hz] at hu hl
        simp at hu hl
        subst hu hl
        exact hK4.row hown4)
    have hBB : Hid (Below B W w3) := Lib.hid (((hBl'.out.trans (hB2.out.mono hB1)).alloc (by omega) (.cells #[.slice a2 xs.length c2] 46)).grown hgrow3 (by simp; omega) (fun j hj => by
      rcases hvo.out.2 with ⟨rfl, _⟩ | ⟨g', cap', cur', rfl, hg', _⟩
      · cases hj
      · cases hj; exact hg'))
    clear hown4 hvo4 hO4 hK4 hown3 hgrow3
    go_wp2
    go_ret
    exact ⟨v3, rfl, by rw [htk.out]; exact hOut.out, hBB.out, hK.out⟩
end Go.Proofs.YtpbljciblgcgfaaDoor
end

section
/- The reference's more: the step, and so more whole. -/
namespace Go.Proofs.YtpbljciblgcgfaaDoor
open Go.RowKit Go.Shelf

attribute [local go_sem] Oper.semAt_some

/-- What has come once the things before a are through. -/
def partL (N : Nat) (f : Nat → Nat) (d : Nat) (xs : List Nat) (a : Nat) : List (List Nat) := ((List.range a).filter (mayB N f xs)).flatMap fun a => goL N f d (xs ++ [a])
theorem partL_yes {N : Nat} {f : Nat → Nat} {d : Nat} {xs : List Nat} {a : Nat} (h : mayB N f xs a = true) : partL N f d xs (a + 1) = partL N f d xs a ++ goL N f d (xs ++ [a]) := by
  unfold partL
  rw [List.range_succ, List.filter_append, show [a].filter (mayB N f xs) = [a] by simp [h], List.flatMap_append]
  simp
theorem partL_no {N : Nat} {f : Nat → Nat} {d : Nat} {xs : List Nat} {a : Nat} (h : mayB N f xs a = false) : partL N f d xs (a + 1) = partL N f d xs a := by
  unfold partL
  rw [List.range_succ, List.filter_append, show [a].filter (mayB N f xs) = [] by simp [h], List.append_nil]
theorem partL_pre (N : Nat) (f : Nat → Nat) (d : Nat) (xs : List Nat) (a : Nat) : ∀ k, ∃ R, partL N f d xs (a + k) = partL N f d xs a ++ R
  | 0 => ⟨[], by simp⟩
  | k + 1 => by
    obtain ⟨R, hR⟩ := partL_pre N f d xs a k
    rw [← Nat.add_assoc]
    cases h : mayB N f xs (a + k)
    · exact ⟨R, by rw [partL_no h, hR]⟩
    · exact ⟨R ++ goL N f d (xs ++ [a + k]), by rw [partL_yes h, hR, List.append_assoc]⟩
/-- A full list stays as it is. -/
theorem part_full {N : Nat} {f : Nat → Nat} {d : Nat} {xs : List Nat} {a most : Nat} (ls : List (List Nat)) (ha : a ≤ N) (h : most < ((ls ++ partL N f d xs a).take (most + 1)).length) : (ls ++ goL N f (d + 1) xs).take (most + 1) = (ls ++ partL N f d xs a).take (most + 1) := by
  obtain ⟨R, hR⟩ := partL_pre N f d xs a (N - a)
  rw [show a + (N - a) = N by omega] at hR
  have : goL N f (d + 1) xs = partL N f d xs N := rfl
  rw [List.length_take] at h
  rw [this, hR, ← List.append_assoc, List.take_append_of_le_length (by omega)]

/-- An append of an own row, nil or not, to an own row, in a region that draws its order. -/
theorem step_append_row {P : Program} {ops : Array Oper} {o : Oper} {a : Act} {w : World} {K : Act → World → Prop} {Q : Exit → Act → World → Prop} {E : Prop}
    (hg : o.guard = none) (s x : Operand) (t : TypeId) (hop : o.op = Op.call { callee := Callee.builtin Builtin.append, args := #[s, x], argTypes := #[t, t] })
    (base : Nat) (e : TypeId) (i : TypeInfo) (z : Value) (bytes : Nat) (ht : P.underlying t = some (.slice e)) (hi : P.info? e = some i) (hz : i.zero = some z)
    (hsize : i.size = 1) (hby : i.bytes = bytes) (hzs : z.cells.size = 1)
    (v : Value) (n : Nat) (xs : List Value) (hs : a.eval s = v) (hown : w.ownsRow base e 1 v n xs)
    (base2 : Nat) (u : Value) (m : Nat) (ys : List Value) (hx : a.eval x = u) (hsrc : w.ownsRow base2 e 1 u m ys) (h1 : ∀ u ∈ ys, u.oneCell' = true)
    (h63 : n + m ≤ maxLen) (hbytes : (n + m) * bytes ≤ 140737488355328) (hbase : base ≤ w.heap.size)
    (h : ∀ v' w', w'.ownsRow base e 1 v' (n + m) (xs ++ ys) → w.grownBy w' v.ownBlock → K (a.put o.dst v') w') :
    if Region.wanted o (yielded ops a.tmps) = true then Oper.wp P o a w K Q else E := by
  have hsrc' := hsrc
  rcases hsrc.2 with ⟨rfl, h0⟩ | ⟨g, cap, cur, rfl, _⟩
  · subst h0
    have hy : ys = [] := List.eq_nil_of_length_eq_zero (by simpa using hsrc.1)
    subst hy
    exact step_append_none hg s x t hop base e i 1 ht hi v n xs hs hown hx (h v w (by simpa using hown) ⟨rfl, rfl, rfl, Nat.le_refl _, fun _ _ _ => rfl⟩)
  · exact step_append_num hg s x t hop base e i z bytes ht hi hz hsize hby hzs v n xs hs hown ⟨g, 0, none⟩ m cap ys hx (by have := hsrc.1; omega) (fun j u hu => by
      rw [Go.WideShapes.add_plain, Nat.zero_add]
      have hj : j < ys.length := (List.getElem?_eq_some_iff.1 hu).1
      exact (hsrc'.cellAt j (by have := hsrc.1; omega)).trans hu) h1 h63 hbytes hbase (fun v' w' h2 h3 _ => h v' w' h2 h3)
theorem own_below {B : Nat} {w w' : World} {v : Value} {n : Nat} {e : TypeId} {xs : List Value} {b : Nat} (ho : w.ownsRow b e 1 v n xs) (hb : B ≤ b) (hB : B ≤ w.heap.size) (hg : w.grownBy w' v.ownBlock) : Below B w w' :=
  (Below.refl B w).grown hg hB (fun j hj => by
    rcases ho.2 with ⟨rfl, _⟩ | ⟨g, cap, cur, rfl, h, _⟩
    · cases hj
    · cases hj; show B ≤ g; omega)

set_option maxRecDepth 100000 in
set_option maxHeartbeats 4000000 in
theorem more_step (N : Nat) (f : Nat → Nat) (g64 : R64 f) (gR : Rgt N f) (most B d : Nat) (hM : most ≤ 10000) (ih : MoreIs N f most B d) : MoreIs N f most B (d + 1) := by
  intro xs vb v ls W hlen hb hout hls hB
  have hN := gR.le
  have hA := RelAt.new W N f
  have hBl := (Below.refl B W).alloc hB (.cells (relC N f) 26)
  have hbl := below_new W (.cells (relC N f) 26)
  have hxl : xs.length ≤ 48 := by omega
  have ih' := Lib.hid ih
  clear ih
  have HH := Lib.hid (fun (a b : Nat) (ha : a < N) (hb : b < N) W => by have := refRelHas_any N f a b g64 W; rw [hasB_at gR ha hb] at this; exact this)
  have HP := Lib.hid (fun (a : Nat) v n₀ W h => refPlace_any v (iL xs) a n₀ W h)
  have hs : ∃ ab cb, vb = .slice ab xs.length cb := ownsRow_slice hb
  obtain ⟨ab, cb, rfl⟩ := hs
  have t0 : ((xs.length : Int) == (N : Int)) = false := by rw [beq_eq_false_iff_ne]; omega
  have c0 := hA.num
  obtain ⟨ao, co, hvo⟩ : ∃ ao co, v = .slice ao ls.length co := by
    obtain ⟨vs, _, h2, _⟩ := hout
    exact ownsRow_slice h2
  subst hvo
  have hX := Lib.hid (show OutAt B (W.alloc (.cells (relC N f) 26)) (.slice ao ls.length co) ((ls ++ partL N f d xs 0).take (most + 1)) ∧ Below B W (W.alloc (.cells (relC N f) 26)) ∧ KeepO W (W.alloc (.cells (relC N f) 26)) ∧ RelAt (W.alloc (.cells (relC N f) 26)) W.heap.size N f from
    ⟨by rw [show partL N f d xs 0 = [] from rfl, List.append_nil, List.take_of_length_le (by omega)]; exact hout.on hbl, hBl, KeepO.below hbl, hA⟩)
  have hl0 : (ls ++ partL N f d xs 0).take (most + 1) = ls := by rw [show partL N f d xs 0 = [] from rfl, List.append_nil, List.take_of_length_le (by omega)]
  replace hl0 := Lib.hid hl0
  have hbb := Lib.hid hb
  replace hlen := Lib.hid hlen
  clear hA hBl hbl hb hout
  go_enter Tryd.func89, Tryd.ntmps89
  go_wp2
  clear c0
  go_loopw [2, 9, 10, 11] (fun o i _ _ W' => ∃ (a : Nat) (ao : Option Addr) (co : Nat), a ≤ N ∧ i = .int .i64 a ∧ o = .slice ao ((ls ++ partL N f d xs a).take (most + 1)).length co ∧ OutAt B W' o ((ls ++ partL N f d xs a).take (most + 1)) ∧ Below B W W' ∧ KeepO W W' ∧ RelAt W' W.heap.size N f) (fun _ i _ _ _ => N - (intOf i).toNat)
  case atStart => exact ⟨0, ao, co, Nat.zero_le _, rfl, by rw [hl0.out], hX.out.1, hX.out.2.1, hX.out.2.2.1, hX.out.2.2.2⟩
  case round =>
    clear hX
    obtain ⟨a, ao, co, ha, rfl, rfl, hout, hBW, hK, hR⟩ := hrel
    have c0 := hR.num
    generalize hm : ((ls ++ partL N f d xs a).take (most + 1)).length = m at *
    by_cases hlt : a < N ∧ m ≤ most
    · obtain ⟨hlt, hmm⟩ := hlt
      have t1 : decide (a < N) = true := by simpa using hlt
      have t2 : decide (m ≤ most) = true := by simpa using hmm
      have hX := Lib.hid (And.intro hout (And.intro hBW (And.intro hK hR)))
      have hbW := Lib.hid (intSl_own (hK.row hbb.out) (by unfold maxLen; omega))
      replace hm := Lib.hid hm
      clear hout hBW hK hR
      go_wp2_with fail
      refine (HP.out a _ _ _ hbW.out).mono ?_
      rintro e w1 ⟨rfl, rfl⟩
      have hpn := plc_neg (xs := xs) (a := a)
      generalize hp0 : xs.contains a = p0 at hpn
      go_wp2
      clear c0
      have hstart : Hid ((!p0) = (!p0 && (List.range 0).all fun b => !(f b).testBit a || xs.contains b)) := Lib.hid (by simp)
      go_loopw [10, 11] (fun mm j W' => ∃ q : Nat, q ≤ N ∧ j = .int .i64 q ∧ mm = .bool (!p0 && (List.range q).all fun b => !(f b).testBit a || xs.contains b) ∧ OutAt B W' (.slice ao m co) ((ls ++ partL N f d xs a).take (most + 1)) ∧ Below B W W' ∧ KeepO W W' ∧ RelAt W' W.heap.size N f) (fun _ j _ => N - (intOf j).toNat)
      case atStart => exact ⟨0, Nat.zero_le _, rfl, by rw [← hstart.out], hX.out⟩
      case round =>
        clear hX hbW hstart
        obtain ⟨q, hq, rfl, rfl, hout, hBW, hK, hR⟩ := hrel
        have c0 := hR.num
        by_cases hlt2 : q < N
        · have t3 : decide (q < N) = true := by simpa using hlt2
          have l1 := hR.ld
          have hX := Lib.hid (And.intro hout (And.intro hBW (And.intro hK hR)))
          clear hout hBW hK hR
          have hsucc : ∀ x : Bool, (!(f q).testBit a || xs.contains q) = x → (!p0 && (List.range (q + 1)).all fun b => !(f b).testBit a || xs.contains b) = ((!p0 && (List.range q).all fun b => !(f b).testBit a || xs.contains b) && x) := fun x hx => by
            rw [List.range_succ, List.all_append, Bool.and_assoc]
            simp [← hx]
          replace hsucc := Lib.hid hsucc
          go_wp2_with fail
          refine (HH.out q a hlt2 hlt _).mono ?_
          rintro e w2 ⟨rfl, h2⟩
          have hX2 : Hid (OutAt B w2 (.slice ao m co) ((ls ++ partL N f d xs a).take (most + 1)) ∧ Below B W w2 ∧ KeepO W w2 ∧ RelAt w2 W.heap.size N f) :=
            Lib.hid ⟨hX.out.1.on h2, hX.out.2.1.trans (h2.mono (Nat.le_trans hB hX.out.2.2.1.size)), hX.out.2.2.1.trans (KeepO.below h2), hX.out.2.2.2.on h2⟩
          have hbW2 := Lib.hid (intSl_own (hX2.out.2.2.1.row hbb.out) (by unfold maxLen; omega))
          clear h2 c0 l1 hX
          cases hbit : (f q).testBit a
          · have hv := Lib.hid (hsucc.out true (by rw [hbit]; rfl))
            go_wp2
            go_roundw
            case rel => exact ⟨q + 1, by omega, by go_num, by rw [hv.out, Bool.and_true]; simp, hX2.out⟩
            case measure => simp [intOf]; omega
          · go_wp2_with fail
            refine (HP.out q _ _ _ hbW2.out).mono ?_
            rintro e w3 ⟨rfl, rfl⟩
            have hpq := plc_neg (xs := xs) (a := q)
            cases hcq : xs.contains q
            · have hv := Lib.hid (hsucc.out false (by rw [hbit, hcq]; rfl))
              rw [hcq] at hpq
              have hpq' : decide (plc (iL xs) (q : Int) < 0) = true := hpq
              go_wp2
              go_roundw
              case rel => exact ⟨q + 1, by omega, by go_num, by rw [hv.out, Bool.and_false], hX2.out⟩
              case measure => simp [intOf]; omega
            · have hv := Lib.hid (hsucc.out true (by rw [hbit, hcq]; rfl))
              rw [hcq] at hpq
              have hpq' : decide (plc (iL xs) (q : Int) < 0) = false := hpq
              go_wp2
              go_roundw
              case rel => exact ⟨q + 1, by omega, by go_num, by rw [hv.out, Bool.and_true]; simp, hX2.out⟩
              case measure => simp [intOf]; omega
        · obtain rfl : q = N := by omega
          have t3 : decide (q < q) = false := by simp
          have hmay : (!p0 && (List.range q).all fun b => !(f b).testBit a || xs.contains b) = mayB q f xs a := by unfold mayB; rw [hp0]
          rw [hmay]
          have hX := Lib.hid (And.intro hout (And.intro hBW (And.intro hK hR)))
          clear hmay hpn hout hBW hK hR
          cases hmy : mayB q f xs a
          · have hpl := Lib.hid (partL_no (d := d) hmy)
            replace hmy := Lib.hid hmy
            have hm' : ((ls ++ partL q f d xs (a + 1)).take (most + 1)).length = m := by rw [hpl.out]; exact hm.out
            replace hm' := Lib.hid hm'
            go_wp2
            go_roundw
            case rel => exact ⟨a + 1, ao, co, by omega, by go_num, by rw [hm'.out], by rw [hpl.out]; exact hX.out⟩
            case measure => simp [intOf]; omega
          · have hpl := Lib.hid (partL_yes (d := d) hmy)
            replace hmy := Lib.hid hmy
            have hbW := Lib.hid (hX.out.2.2.1.row hbb.out)
            have hRl := hX.out.2.2.2.lt
            go_upto_region 13 with fail
            obtain ⟨i0, hi, hz0, hz1, hz2⟩ := infoIntC
            have l0 := hX.out.2.2.2.drew.ld
            have l1 := (hX.out.2.2.2.alloc (.cells #[] 3)).drew.ld
            have l2 := (hX.out.2.2.2.alloc (.cells #[.int .i64 (a : Int)] 3)).drew.ld
            have l3 := ((hX.out.2.2.2.alloc (.cells #[] 3)).alloc (.cells #[.int .i64 (a : Int)] 3)).drew.ld
            have l4 := ((hX.out.2.2.2.alloc (.cells #[.int .i64 (a : Int)] 3)).alloc (.cells #[] 3)).drew.ld
            have hone : Hid (∀ l : List Nat, ∀ u ∈ l.map intV, u.oneCell' = true) := Lib.hid (fun l u hu => by obtain ⟨y, _, rfl⟩ := List.mem_map.1 hu; rfl)
            have hd := (Below.refl wr.heap.size wr)
            -- the two literals, in either order
            have hwA : Hid (∀ W : World, Below wr.heap.size wr W → (W.alloc (.cells #[] 3)).drew.ownsRow wr.heap.size 3 1 (.slice (some ⟨W.heap.size, 0, none⟩) 0 0) 0 []) := Lib.hid (fun W h => (World.ownsRow_lit W (e := 3) (size := 1) (base := wr.heap.size) #[] 0 h.size (by decide) rfl).drew)
            have hLA : Hid (∀ W : World, (W.alloc (.cells #[.int .i64 (a : Int)] 3)).ownsRow 0 3 1 (.slice (some ⟨W.heap.size, 0, none⟩) 1 1) 1 [.int .i64 (a : Int)]) := Lib.hid (fun W => World.ownsRow_lit W (e := 3) (size := 1) (base := 0) #[.int .i64 (a : Int)] 1 (Nat.zero_le _) (by decide) rfl)
            have o3 : Hid (((wr.alloc (.cells #[] 3)).alloc (.cells #[.int .i64 (a : Int)] 3)).drew.ownsRow wr.heap.size 3 1 (.slice (some ⟨wr.heap.size, 0, none⟩) 0 0) 0 []) := Lib.hid ((hwA.out wr hd).alloc (.cells #[.int .i64 (a : Int)] 3))
            have o2 : Hid (((wr.alloc (.cells #[.int .i64 (a : Int)] 3)).alloc (.cells #[] 3)).drew.ownsRow wr.heap.size 3 1 (.slice (some ⟨wr.heap.size + 1, 0, none⟩) 0 0) 0 []) := Lib.hid (by have := hwA.out (wr.alloc (.cells #[.int .i64 (a : Int)] 3)) (below_new wr _); rwa [World.size_alloc] at this)
            have b3 : Hid (Below wr.heap.size wr ((wr.alloc (.cells #[] 3)).alloc (.cells #[.int .i64 (a : Int)] 3))) := Lib.hid ((below_new wr _).alloc (by simp) _)
            have b2 : Hid (Below wr.heap.size wr ((wr.alloc (.cells #[.int .i64 (a : Int)] 3)).alloc (.cells #[] 3))) := Lib.hid ((below_new wr _).alloc (by simp) _)
            have n3 : Hid (((wr.alloc (.cells #[] 3)).alloc (.cells #[.int .i64 (a : Int)] 3)).drew.ownsRow 0 3 1 (.slice (some ⟨wr.heap.size + 1, 0, none⟩) 1 1) 1 [.int .i64 (a : Int)]) := Lib.hid (by have := hLA.out (wr.alloc (.cells #[] 3)); rwa [World.size_alloc] at this)
            have n2 : Hid (((wr.alloc (.cells #[.int .i64 (a : Int)] 3)).alloc (.cells #[] 3)).drew.ownsRow 0 3 1 (.slice (some ⟨wr.heap.size, 0, none⟩) 1 1) 1 [.int .i64 (a : Int)]) := Lib.hid ((hLA.out wr).alloc _)
            go_region_law (first
              | (refine step_append_row rfl (.tmp 57) (.tmp 58) 46 rfl wr.heap.size 3 i0 (.int .i64 0) 8 Tryd.underlying46 hi hz0 hz1 hz2 rfl (.slice (some ⟨wr.heap.size, 0, none⟩) 0 0) 0 [] rfl (hwA.out wr hd) 0 (.slice ab xs.length cb) xs.length (xs.map intV) rfl (own_on hbW.out (below_new wr _).drew) (hone.out _) (by unfold maxLen; omega) (by omega) (by simp) ?_
                 intro v4 w4 hown4 hgrow4
                 have hq4 : Hid (Below wr.heap.size wr w4) := Lib.hid ((below_new wr _).drew.trans (own_below (hwA.out wr hd) (Nat.le_refl _) (by simp) hgrow4))
                 have l5 := (hX.out.2.2.2.on hq4.out).ld
                 have l6 := ((hX.out.2.2.2.on hq4.out).alloc (.cells #[.int .i64 (a : Int)] 3)).ld
                 have hn4 := Lib.hid (World.ownsRow_lit w4 (e := 3) (size := 1) (base := 0) #[.int .i64 (a : Int)] 1 (Nat.zero_le _) (by decide) rfl)
                 rw [Nat.zero_add, List.nil_append] at hown4
                 replace hown4 := Lib.hid hown4
                 clear hgrow4)
              | (refine step_append_row rfl (.tmp 57) (.tmp 58) 46 rfl wr.heap.size 3 i0 (.int .i64 0) 8 Tryd.underlying46 hi hz0 hz1 hz2 rfl (.slice (some ⟨wr.heap.size, 0, none⟩) 0 0) 0 [] rfl o3.out 0 (.slice ab xs.length cb) xs.length (xs.map intV) rfl (own_on hbW.out b3.out.drew) (hone.out _) (by unfold maxLen; omega) (by omega) (by simp; omega) ?_
                 intro v4 w4 hown4 hgrow4
                 have hq4 : Hid (Below wr.heap.size wr w4) := Lib.hid (b3.out.drew.trans (own_below o3.out (Nat.le_refl _) (by simp; omega) hgrow4))
                 have l5 := (hX.out.2.2.2.on hq4.out).ld
                 have hn4 : Hid (w4.ownsRow 0 3 1 (.slice (some ⟨wr.heap.size + 1, 0, none⟩) 1 1) 1 [.int .i64 (a : Int)]) := Lib.hid (World.ownsRow.kept n3.out hgrow4 (.inr (by simp [Value.ownBlock])))
                 rw [Nat.zero_add, List.nil_append] at hown4
                 replace hown4 := Lib.hid hown4
                 clear hgrow4)
              | (refine step_append_row rfl (.tmp 57) (.tmp 58) 46 rfl wr.heap.size 3 i0 (.int .i64 0) 8 Tryd.underlying46 hi hz0 hz1 hz2 rfl (.slice (some ⟨wr.heap.size + 1, 0, none⟩) 0 0) 0 [] rfl o2.out 0 (.slice ab xs.length cb) xs.length (xs.map intV) rfl (own_on hbW.out b2.out.drew) (hone.out _) (by unfold maxLen; omega) (by omega) (by simp; omega) ?_
                 intro v4 w4 hown4 hgrow4
                 have hq4 : Hid (Below wr.heap.size wr w4) := Lib.hid (b2.out.drew.trans (own_below o2.out (Nat.le_refl _) (by simp; omega) hgrow4))
                 have l5 := (hX.out.2.2.2.on hq4.out).ld
                 have hn4 : Hid (w4.ownsRow 0 3 1 (.slice (some ⟨wr.heap.size, 0, none⟩) 1 1) 1 [.int .i64 (a : Int)]) := Lib.hid (World.ownsRow.kept n2.out hgrow4 (.inr (by simp [Value.ownBlock])))
                 rw [Nat.zero_add, List.nil_append] at hown4
                 replace hown4 := Lib.hid hown4
                 clear hgrow4)
              | (refine step_append_row rfl (.tmp 59) (.tmp 61) 46 rfl wr.heap.size 3 i0 (.int .i64 0) 8 Tryd.underlying46 hi hz0 hz1 hz2 rfl v4 xs.length (xs.map intV) rfl (hown4.out.alloc _) 0 (.slice (some ⟨w4.heap.size, 0, none⟩) 1 1) 1 [.int .i64 (a : Int)] rfl hn4.out (by intro u hu; simp at hu; subst hu; rfl) (by unfold maxLen; omega) (by omega) (by have := hq4.out.size; simp; omega) ?_
                 intro v6 w6 hown6 hgrow6
                 have hq6 : Hid (Below wr.heap.size wr w6) := Lib.hid ((hq4.out.alloc hq4.out.size _).trans (own_below (hown4.out.alloc _) (Nat.le_refl _) (by have := hq4.out.size; simp; omega) hgrow6))
                 have hout6 := Lib.hid (hX.out.1.on hq6.out)
                 have hown6' : Hid (w6.ownsRow 0 3 1 v6 (xs ++ [a]).length ((xs ++ [a]).map intV)) := Lib.hid (by rw [List.length_append, List.map_append]; exact World.ownsRow.mono hown6 (Nat.zero_le _))
                 have hsz6 := hq6.out.size
                 have l7 := (hX.out.2.2.2.on hq6.out).ld
                 clear hown6 hgrow6)
              | (refine step_append_row rfl (.tmp 59) (.tmp 61) 46 rfl wr.heap.size 3 i0 (.int .i64 0) 8 Tryd.underlying46 hi hz0 hz1 hz2 rfl v4 xs.length (xs.map intV) rfl hown4.out 0 (.slice (some ⟨wr.heap.size + 1, 0, none⟩) 1 1) 1 [.int .i64 (a : Int)] rfl hn4.out (by intro u hu; simp at hu; subst hu; rfl) (by unfold maxLen; omega) (by omega) hq4.out.size ?_
                 intro v6 w6 hown6 hgrow6
                 have hq6 : Hid (Below wr.heap.size wr w6) := Lib.hid (hq4.out.trans (own_below hown4.out (Nat.le_refl _) hq4.out.size hgrow6))
                 have hout6 := Lib.hid (hX.out.1.on hq6.out)
                 have hown6' : Hid (w6.ownsRow 0 3 1 v6 (xs ++ [a]).length ((xs ++ [a]).map intV)) := Lib.hid (by rw [List.length_append, List.map_append]; exact World.ownsRow.mono hown6 (Nat.zero_le _))
                 have hsz6 := hq6.out.size
                 have l7 := (hX.out.2.2.2.on hq6.out).ld
                 clear hown6 hgrow6)
              | (refine step_append_row rfl (.tmp 59) (.tmp 61) 46 rfl wr.heap.size 3 i0 (.int .i64 0) 8 Tryd.underlying46 hi hz0 hz1 hz2 rfl v4 xs.length (xs.map intV) rfl hown4.out 0 (.slice (some ⟨wr.heap.size, 0, none⟩) 1 1) 1 [.int .i64 (a : Int)] rfl hn4.out (by intro u hu; simp at hu; subst hu; rfl) (by unfold maxLen; omega) (by omega) hq4.out.size ?_
                 intro v6 w6 hown6 hgrow6
                 have hq6 : Hid (Below wr.heap.size wr w6) := Lib.hid (hq4.out.trans (own_below hown4.out (Nat.le_refl _) hq4.out.size hgrow6))
                 have hout6 := Lib.hid (hX.out.1.on hq6.out)
                 have hown6' : Hid (w6.ownsRow 0 3 1 v6 (xs ++ [a]).length ((xs ++ [a]).map intV)) := Lib.hid (by rw [List.length_append, List.map_append]; exact World.ownsRow.mono hown6 (Nat.zero_le _))
                 have hsz6 := hq6.out.size
                 have l7 := (hX.out.2.2.2.on hq6.out).ld
                 clear hown6 hgrow6)
              | (go_simp
                 go_at_call 89
                 refine (ih'.out (xs ++ [a]) v6 (.slice ao m co) ((ls ++ partL q f d xs a).take (most + 1)) w6 (by have := hlen.out; simp; omega) hown6'.out hout6.out (by have := hm.out; omega) (Nat.le_trans hB (Nat.le_trans hX.out.2.2.1.size hsz6))).mono ?_
                 rintro e w7 ⟨v7, rfl, ho7, hb7, hk7⟩))
            all_goals
              have hlo : (ls ++ partL q f d xs a).length ≤ most := by have := hm.out; rw [List.length_take] at this; omega
              have hL : (((ls ++ partL q f d xs a).take (most + 1)) ++ goL q f d (xs ++ [a])).take (most + 1) = (ls ++ partL q f d xs (a + 1)).take (most + 1) := by
                rw [hpl.out, ← List.append_assoc, List.take_of_length_le (l := ls ++ partL q f d xs a) (by omega)]
              rw [hL] at ho7
              obtain ⟨ao7, co7, hv7⟩ : ∃ ao co, v7 = .slice ao ((ls ++ partL q f d xs (a + 1)).take (most + 1)).length co := by
                obtain ⟨vs, _, h2, _⟩ := ho7
                exact ownsRow_slice h2
              generalize hm7 : ((ls ++ partL q f d xs (a + 1)).take (most + 1)).length = m7 at hv7
              subst hv7
              replace hm7 := Lib.hid hm7
              have hZ := Lib.hid (And.intro ho7 (And.intro (hX.out.2.1.trans ((hq6.out.mono (Nat.le_trans hB hX.out.2.2.1.size)).trans hb7)) (And.intro (hX.out.2.2.1.trans ((KeepO.below hq6.out).trans hk7)) (hk7.rel (hX.out.2.2.2.on hq6.out)))))
              clear ho7 hb7 hk7 hL hlo l0 l1 l2 l3 l4 l5 l7
              go_wp2
              go_roundw
              case rel => exact ⟨a + 1, ao7, co7, by omega, by go_num, by rw [hm7.out], hZ.out⟩
              case measure => simp [intOf]; omega
    · by_cases hlt2 : a < N
      · have t1 : decide (a < N) = true := by simpa using hlt2
        have t2 : decide (m ≤ most) = false := by simpa using fun h => hlt ⟨hlt2, h⟩
        have hfull := Lib.hid (part_full (d := d) (xs := xs) (f := f) ls ha (show most < ((ls ++ partL N f d xs a).take (most + 1)).length by rw [hm]; omega))
        have hX := Lib.hid (And.intro hout (And.intro hBW hK))
        replace hm := Lib.hid hm
        clear hout hBW hK hR
        go_wp2
        go_ret
        exact ⟨_, rfl, by rw [hfull.out]; exact hX.out.1, hX.out.2⟩
      · obtain rfl : a = N := by omega
        have t1 : decide (a < a) = false := by simp
        have hX := Lib.hid (And.intro hout (And.intro hBW hK))
        replace hm := Lib.hid hm
        clear hout hBW hK hR
        go_wp2
        go_ret
        exact ⟨_, rfl, hX.out⟩
theorem more_all (N : Nat) (f : Nat → Nat) (g64 : R64 f) (gR : Rgt N f) (most B : Nat) (hM : most ≤ 10000) : ∀ d, MoreIs N f most B d
  | 0 => more_leaf N f most B gR.le hM
  | d + 1 => more_step N f g64 gR most B d hM (more_all N f g64 gR most B hM d)
end Go.Proofs.YtpbljciblgcgfaaDoor
end

section
/- The document's answers for layer 2: From, Into, Plus, Star. -/
namespace Go.Proofs.YtpbljciblgcgfaaDoor
open Go.RowKit Go.Shelf

attribute [local go_sem] Oper.semAt_some

set_option maxRecDepth 100000 in
set_option maxHeartbeats 4000000 in
theorem refFrom_bad (n : Int) (f : Nat → Nat) (hf : R64 f) (hb : rightB n f = false) (w : World) :
    Calls Tryd.prog 37 #[.agg (relC n f)] w fun e w' => e = .returned (.int .u64 0) ∧ Below w.heap.size w w' := by
  have hA := RelAt.new w n f
  have hB := below_new w (.cells (relC n f) 26)
  have l1 := hA.ld
  have CP := Lib.hid (refPairs_bad n f hf hb)
  go_enter Tryd.func37, Tryd.ntmps37
  go_wp2_with fail
  refine (CP.out _).mono ?_
  rintro e w1 ⟨rfl, h⟩
  go_wp2
  go_loopw [3, 5] (fun v i W => i = .int .i64 0 ∧ v = .int .u64 0 ∧ Below w.heap.size w W) (fun _ _ _ => 0)
  case atStart => exact ⟨rfl, rfl, thru hB h⟩
  case round =>
    obtain ⟨rfl, rfl, hB2⟩ := hrel
    go_wp2
    go_ret
    exact ⟨rfl, hB2⟩
set_option maxRecDepth 100000 in
set_option maxHeartbeats 4000000 in
theorem refInto_bad (n : Int) (f : Nat → Nat) (hf : R64 f) (hb : rightB n f = false) (w : World) :
    Calls Tryd.prog 39 #[.agg (relC n f)] w fun e w' => e = .returned (.int .u64 0) ∧ Below w.heap.size w w' := by
  have hA := RelAt.new w n f
  have hB := below_new w (.cells (relC n f) 26)
  have l1 := hA.ld
  have CP := Lib.hid (refPairs_bad n f hf hb)
  go_enter Tryd.func39, Tryd.ntmps39
  go_wp2_with fail
  refine (CP.out _).mono ?_
  rintro e w1 ⟨rfl, h⟩
  go_wp2
  go_loopw [3, 5] (fun v i W => i = .int .i64 0 ∧ v = .int .u64 0 ∧ Below w.heap.size w W) (fun _ _ _ => 0)
  case atStart => exact ⟨rfl, rfl, thru hB h⟩
  case round =>
    obtain ⟨rfl, rfl, hB2⟩ := hrel
    go_wp2
    go_ret
    exact ⟨rfl, hB2⟩
set_option maxRecDepth 100000 in
set_option maxHeartbeats 4000000 in
theorem refFrom_ok (N : Nat) (f : Nat → Nat) (hf : R64 f) (hr : Rgt N f) (w : World) :
    Calls Tryd.prog 37 #[.agg (relC N f)] w fun e w' => e = .returned (.int .u64 (fromK f N : Int)) ∧ Below w.heap.size w w' := by
  have hN := hr.le
  have hfin := Lib.hid (SameP.from hr (fun x => Iff.rfl : SameP f N (pairsK f N)))
  have hA := RelAt.new w N f
  have hB := below_new w (.cells (relC N f) 26)
  have l1 := hA.ld
  have CP := Lib.hid (refPairs_ok N f hf hr)
  have hLle := pairsK_le f N hN
  generalize pairsK f N = L at *
  go_enter Tryd.func37, Tryd.ntmps37
  go_wp2_with fail
  refine (CP.out _).mono ?_
  rintro e w1 ⟨v, rfl, hrow, h⟩
  replace hrow := ownsRow_base hrow (b' := w.heap.size) (by have := hB.size; omega)
  obtain ⟨av, cv, rfl⟩ := ownsRow_slice hrow
  have hrowh := Lib.hid hrow
  replace hB := thru hB h
  clear hrow h l1 hA
  go_wp2
  go_loopw [3, 5] (fun v i W => ∃ k : Nat, k ≤ L.length ∧ i = .int .i64 k ∧ v = .int .u64 (fstS (L.take k) : Int) ∧ w1 = W) (fun _ i _ => L.length - (intOf i).toNat)
  case atStart => exact ⟨0, by omega, rfl, rfl, rfl⟩
  case round =>
    obtain ⟨k, hk, rfl, rfl, rfl⟩ := hrel
    by_cases hlt : k < L.length
    · have tk : decide (k < L.length) = true := by simpa using hlt
      obtain ⟨g, c, hv, hgb, hglt⟩ := hrowh.out.form (by omega)
      obtain ⟨rfl, _, rfl⟩ := Value.slice.inj hv
      clear hv
      obtain ⟨d1, d2⟩ := pairCells_get L k hlt
      have hcell : ∀ m u, (pairCells L)[m]? = some u → w1.cell? ⟨g, m, none⟩ = some u := by
        intro m u hu
        have := hrowh.out.cells (g := g) rfl m u hu
        rwa [Go.WideShapes.add_plain, Nat.zero_add] at this
      replace d1 := hcell _ _ d1
      replace d2 := hcell _ _ d2
      have hF1 : fstS (L.take (k + 1)) = fstS (L.take k) ||| 2 ^ L[k].1.1 := by rw [List.take_succ_eq_append_getElem hlt, fstS_snoc]
      have b1 := fstS_lt (L.take k)
      have y1 := L[k].1.2
      clear hcell
      generalize L[k].1.1 = x1 at *
      generalize L[k].2.1 = x2 at *
      generalize fstS (L.take k) = f1 at *
      have cW := Lib.hid (fun w => refWith f1 x1 (by omega) (by omega) w)
      generalize f1 ||| 2 ^ x1 = g1 at *
      replace hF1 := Lib.hid hF1
      go_wp2_with fail
      refine (cW.out _).mono ?_
      rintro e w2 ⟨rfl, rfl⟩
      go_wp2
      go_roundw
      case rel => exact ⟨k + 1, by omega, by go_num, by rw [hF1.out], trivial⟩
      case measure => simp [intOf]; omega
    · obtain rfl : k = L.length := by omega
      have ht : fstS (L.take L.length) = fromK f N := by rw [List.take_length, hfin.out]
      rw [ht]
      go_wp2
      go_ret
      exact ⟨rfl, hB⟩
set_option maxRecDepth 100000 in
set_option maxHeartbeats 4000000 in
theorem refInto_ok (N : Nat) (f : Nat → Nat) (hf : R64 f) (hr : Rgt N f) (w : World) :
    Calls Tryd.prog 39 #[.agg (relC N f)] w fun e w' => e = .returned (.int .u64 (imgF f (allOf (N : Int)).toNat : Int)) ∧ Below w.heap.size w w' := by
  have hN := hr.le
  have hfin := Lib.hid (SameP.into hr (fun x => Iff.rfl : SameP f N (pairsK f N)))
  have hA := RelAt.new w N f
  have hB := below_new w (.cells (relC N f) 26)
  have l1 := hA.ld
  have CP := Lib.hid (refPairs_ok N f hf hr)
  have hLle := pairsK_le f N hN
  generalize pairsK f N = L at *
  go_enter Tryd.func39, Tryd.ntmps39
  go_wp2_with fail
  refine (CP.out _).mono ?_
  rintro e w1 ⟨v, rfl, hrow, h⟩
  replace hrow := ownsRow_base hrow (b' := w.heap.size) (by have := hB.size; omega)
  obtain ⟨av, cv, rfl⟩ := ownsRow_slice hrow
  have hrowh := Lib.hid hrow
  replace hB := thru hB h
  clear hrow h l1 hA
  go_wp2
  go_loopw [3, 5] (fun v i W => ∃ k : Nat, k ≤ L.length ∧ i = .int .i64 k ∧ v = .int .u64 (sndS (L.take k) : Int) ∧ w1 = W) (fun _ i _ => L.length - (intOf i).toNat)
  case atStart => exact ⟨0, by omega, rfl, rfl, rfl⟩
  case round =>
    obtain ⟨k, hk, rfl, rfl, rfl⟩ := hrel
    by_cases hlt : k < L.length
    · have tk : decide (k < L.length) = true := by simpa using hlt
      obtain ⟨g, c, hv, hgb, hglt⟩ := hrowh.out.form (by omega)
      obtain ⟨rfl, _, rfl⟩ := Value.slice.inj hv
      clear hv
      obtain ⟨d1, d2⟩ := pairCells_get L k hlt
      have hcell : ∀ m u, (pairCells L)[m]? = some u → w1.cell? ⟨g, m, none⟩ = some u := by
        intro m u hu
        have := hrowh.out.cells (g := g) rfl m u hu
        rwa [Go.WideShapes.add_plain, Nat.zero_add] at this
      replace d1 := hcell _ _ d1
      replace d2 := hcell _ _ d2
      have hF1 : sndS (L.take (k + 1)) = sndS (L.take k) ||| 2 ^ L[k].2.1 := by rw [List.take_succ_eq_append_getElem hlt, sndS_snoc]
      have b1 := sndS_lt (L.take k)
      have y1 := L[k].2.2
      clear hcell
      generalize L[k].1.1 = x1 at *
      generalize L[k].2.1 = x2 at *
      generalize sndS (L.take k) = f1 at *
      have cW := Lib.hid (fun w => refWith f1 x2 (by omega) (by omega) w)
      generalize f1 ||| 2 ^ x2 = g1 at *
      replace hF1 := Lib.hid hF1
      go_wp2_with fail
      refine (cW.out _).mono ?_
      rintro e w2 ⟨rfl, rfl⟩
      go_wp2
      go_roundw
      case rel => exact ⟨k + 1, by omega, by go_num, by rw [hF1.out], trivial⟩
      case measure => simp [intOf]; omega
    · obtain rfl : k = L.length := by omega
      have ht : sndS (L.take L.length) = imgF f (allOf (N : Int)).toNat := by rw [List.take_length, hfin.out]
      rw [ht]
      go_wp2
      go_ret
      exact ⟨rfl, hB⟩

/-! ### Plus: one item after the other -/
/-- The pairs that item k brings. -/
def warP (R : Nat → Nat) (k : Nat) : Nat → Nat → Bool := fun a b => (R a).testBit k && (R k).testBit b
def warK (f : Nat → Nat) (N : Nat) : Nat → (Nat → Nat)
  | 0 => f
  | k + 1 => unionF (warK f N k) (fillF (warP (warK f N k) k) N N 0)
theorem rgt_fill {p : Nat → Nat → Bool} {N : Nat} (h : N ≤ 48) : Rgt N (fillF p N N 0) := rgt_iff.2 ⟨h, fun i _ j hb => by have := (bt_fill p N i j).1 hb; exact ⟨this.1, this.2.1⟩⟩
theorem rgt_war {f : Nat → Nat} {N : Nat} (h : Rgt N f) : ∀ k, Rgt N (warK f N k)
  | 0 => h
  | k + 1 => rgt_union (rgt_war h k) (rgt_fill h.le)
theorem war_64 {f : Nat → Nat} {N : Nat} (hN : N ≤ 48) (h : R64 f) : ∀ k, R64 (warK f N k)
  | 0 => h
  | k + 1 => union_64 (war_64 hN h k) (fill_64 _ hN (by omega))
theorem bt_war {f : Nat → Nat} {N : Nat} (h : Rgt N f) {k i j : Nat} (hi : i < 48) : Bt (warK f N (k + 1)) i j ↔ Bt (warK f N k) i j ∨ (Bt (warK f N k) i k ∧ Bt (warK f N k) k j ∧ k < 48) := by
  show Bt (unionF _ _) i j ↔ _
  rw [bt_union, bt_fill]
  have hr := rgt_war h k
  constructor
  · rintro (h1 | ⟨h1, h2, h3⟩)
    · exact .inl h1
    · unfold warP at h3
      rw [Bool.and_eq_true] at h3
      exact .inr ⟨h3.1, h3.2, hr.snd48 hi h3.1⟩
  · rintro (h1 | ⟨h1, h2, h3⟩)
    · exact .inl h1
    · exact .inr ⟨hr.fst hi h1, hr.snd h3 h2, by unfold warP; rw [Bool.and_eq_true]; exact ⟨h1, h2⟩⟩
theorem war_sound {f : Nat → Nat} {N : Nat} (h : Rgt N f) : ∀ (k : Nat) {i j : Nat}, i < 48 → Bt (warK f N k) i j → Bt (plusF N f) i j
  | 0, i, j, hi, hb => plus_base h hi hb
  | k + 1, i, j, hi, hb => by
    rcases (bt_war h hi).1 hb with h1 | ⟨h1, h2, h3⟩
    · exact war_sound h k hi h1
    · exact plus_trans h hi h3 (war_sound h k hi h1) (war_sound h k h3 h2)
theorem war_base {f : Nat → Nat} {N : Nat} (h : Rgt N f) : ∀ (k : Nat) {i j : Nat}, i < 48 → Bt f i j → Bt (warK f N k) i j
  | 0, _, _, _, hb => hb
  | k + 1, _, _, hi, hb => (bt_war h hi).2 (.inl (war_base h k hi hb))
theorem war_trans {f : Nat → Nat} {N : Nat} (h : Rgt N f) : ∀ (k : Nat) {i c j : Nat}, i < 48 → c < 48 → c < k → Bt (warK f N k) i c → Bt (warK f N k) c j → Bt (warK f N k) i j
  | 0, _, _, _, _, _, hc, _, _ => by omega
  | k + 1, i, c, j, hi, hc, hck, h1, h2 => by
    rw [bt_war h hi] at h1 ⊢
    rw [bt_war h hc] at h2
    by_cases hk : c = k
    · subst hk
      have g1 : Bt (warK f N c) i c := by rcases h1 with h | h; exact h; exact h.1
      have g2 : Bt (warK f N c) c j := by rcases h2 with h | h; exact h; exact h.2.1
      exact .inr ⟨g1, g2, hc⟩
    · have hlt : c < k := by omega
      rcases h1 with h1 | ⟨h1, h1', h1k⟩
      · rcases h2 with h2 | ⟨h2, h2', h2k⟩
        · exact .inl (war_trans h k hi hc hlt h1 h2)
        · exact .inr ⟨war_trans h k hi hc hlt h1 h2, h2', h2k⟩
      · rcases h2 with h2 | ⟨h2, h2', h2k⟩
        · exact .inr ⟨h1, war_trans h k h1k hc hlt h1' h2, h1k⟩
        · exact .inr ⟨h1, h2', h1k⟩
theorem war_plus {f : Nat → Nat} {N : Nat} (h : Rgt N f) : relB N N (plusF N f) (warK f N N) = true :=
  relB_bits fun i j hi => by
    constructor
    · intro hb
      exact plus_min h (fun i j hi hb => war_base h N hi hb) (fun i m j hi hm h1 h2 => war_trans h N hi hm ((rgt_war h N).snd hi h1) h1 h2) hi hb
    · exact war_sound h N hi
theorem ustep {n : Int} {R : Nat → Nat} {p : Nat → Nat → Bool} {N a b : Nat} (hR : R64 R) (hN : N ≤ 48) (ha : a < N) (hb : b < N) (h : p a b = true) (w : World) :
    Calls Tryd.prog 72 #[.agg (relC n (unionF R (fillF p N a b))), .int .i64 (a : Int), .int .i64 (b : Int)] w fun e w' => e = .returned (.agg (relC n (unionF R (fillF p N a (b + 1))))) ∧ Below w.heap.size w w' := by
  have := refwith_any n (unionF R (fillF p N a b)) (union_64 hR (fill_64 p hN (by omega))) a b (by omega) (by omega) w
  rwa [show upd (unionF R (fillF p N a b)) a (unionF R (fillF p N a b) a ||| 2 ^ b) = unionF R (fillF p N a (b + 1)) by
    rw [← fill_yes p N a b h]
    funext i
    unfold upd unionF
    by_cases hi : i = a
    · subst hi; simp [Nat.or_assoc]
    · simp [hi]] at this
theorem union_zf (R : Nat → Nat) (p : Nat → Nat → Bool) (N : Nat) : unionF R (fillF p N 0 0) = R := by
  rw [fill_start]; funext i; simp [unionF, zf]
set_option maxRecDepth 100000 in
set_option maxHeartbeats 4000000 in
theorem refPlus_bad (n : Int) (f : Nat → Nat) (hf : R64 f) (hb : rightB n f = false) (w : World) :
    Calls Tryd.prog 33 #[.agg (relC n f)] w fun e w' => e = .returned (.agg (relC 0 zf)) ∧ Below w.heap.size w w' := by
  have HR := Lib.hid (fun w => show Calls Tryd.prog 13 #[.agg (relC n f)] w fun e w' => e = .returned (.bool false) ∧ Below w.heap.size w w' by have := refRight_any n f hf w; rwa [hb] at this)
  have hA := (RelAt.new w n f).alloc (.cells (relC 0 zf) 26)
  have hZ := RelAt.new (w.alloc (.cells (relC n f) 26)) 0 zf
  rw [World.size_alloc] at hZ
  have hB := thru (below_new w (.cells (relC n f) 26)) (below_new _ (.cells (relC 0 zf) 26))
  have l1 := hA.ld
  go_enter Tryd.func33, Tryd.ntmps33
  go_wp2_with fail
  refine (HR.out _).mono ?_
  rintro e w1 ⟨rfl, h⟩
  obtain ⟨W3, hs3, hR3, hO3⟩ := (hZ.on h).put 0 zf
  have hB3 := below_only (thru hB h) hO3 (by omega)
  clear hA hZ hB hO3 h l1
  go_wp2
  refine bodyPost_ret (results_rel rfl _ _ _ _ _ rfl hR3) rfl ?_
  exact ⟨rfl, hB3⟩
set_option maxRecDepth 100000 in
set_option maxHeartbeats 8000000 in
theorem refPlus_ok (N : Nat) (f : Nat → Nat) (hf : R64 f) (hr : Rgt N f) (w : World) :
    Calls Tryd.prog 33 #[.agg (relC N f)] w fun e w' => e = .returned (.agg (relC N (warK f N N))) ∧ Below w.heap.size w w' := by
  have hN := hr.le
  have HR := Lib.hid (fun w => show Calls Tryd.prog 13 #[.agg (relC N f)] w fun e w' => e = .returned (.bool true) ∧ Below w.heap.size w w' by have := refRight_any N f hf w; rwa [show rightB (N : Int) f = true from hr] at this)
  have hA := (RelAt.new w N f).alloc (.cells (relC 0 zf) 26)
  have hZ := RelAt.new (w.alloc (.cells (relC N f) 26)) 0 zf
  rw [World.size_alloc] at hZ
  have hB := thru (below_new w (.cells (relC N f) 26)) (below_new _ (.cells (relC 0 zf) 26))
  have l1 := hA.ld
  have le0 : w.heap.size ≤ w.heap.size := Nat.le_refl _
  have nez : w.heap.size + 1 ≠ w.heap.size := by omega
  go_enter Tryd.func33, Tryd.ntmps33
  go_wp2_with fail
  refine (HR.out _).mono ?_
  rintro e w1 ⟨rfl, h⟩
  have hX : Kept w w1 [(w.heap.size, (N : Int), warK f N 0), (w.heap.size + 1, 0, zf)] := by
    refine ⟨thru hB h, ?_⟩
    simp only [List.mem_cons, List.not_mem_nil, or_false]
    rintro p (rfl | rfl)
    · exact hA.on h
    · exact hZ.on h
  clear h l1 hA hZ hB
  go_wp2
  go_loopw [3] (fun i W => ∃ k : Nat, k ≤ N ∧ i = .int .i64 k ∧ Kept w W [(w.heap.size, (N : Int), warK f N k), (w.heap.size + 1, 0, zf)]) (fun i _ => N - (intOf i).toNat)
  case atStart => exact ⟨0, by omega, rfl, hX⟩
  case round =>
    clear hX
    obtain ⟨k, hk, rfl, hX⟩ := hrel
    have n1 := (hX.at (b := w.heap.size) (n := N) (f := warK f N k) (by simp)).num
    by_cases hkN : k < N
    · have tk : decide (k < N) = true := by simpa using hkN
      have zk : (k : Int) < 48 := by omega
      have R64' := war_64 hN hf k
      have hnext : warK f N (k + 1) = unionF (warK f N k) (fillF (warP (warK f N k) k) N N 0) := rfl
      generalize warK f N k = R at *
      generalize hp : warP R k = p at *
      have hpe : ∀ a b, p a b = ((R a).testBit k && (R k).testBit b) := fun a b => by rw [← hp]; rfl
      replace hpe := Lib.hid hpe
      replace hnext := Lib.hid hnext
      clear hp
      have CR := Lib.hid (fun w a b (hb : b < 64) => refHas (R a) b (R64' a) hb w)
      have l1 := (hX.at (b := w.heap.size) (n := N) (f := R) (by simp)).ld
      obtain ⟨W3, hs3, hu, h3, -⟩ := Ex.lay wr N R
      have hlt1 := (hX.at (b := w.heap.size) (n := N) (f := R) (by simp)).lt
      have hlt2 := (hX.at (b := w.heap.size + 1) (n := 0) (f := zf) (by simp)).lt
      have hX3 : Kept w W3 [(w.heap.size, (N : Int), unionF R (fillF p N 0 0)), (wr.heap.size, (N : Int), R), (w.heap.size + 1, 0, zf)] := by
        rw [union_zf]
        have h := (hX.on h3).cons hu
        exact h.less (by simp)
      clear hX h3 hu
      generalize hbw : wr.heap.size = bw at *
      have ne1 : bw ≠ w.heap.size := by omega
      go_wp2
      clear n1 l1 hs3
      replace hbw := Lib.hid hbw
      go_loopw [5] (fun i W => ∃ a : Nat, a ≤ N ∧ i = .int .i64 a ∧ Kept w W [(w.heap.size, (N : Int), unionF R (fillF p N a 0)), (bw, (N : Int), R), (w.heap.size + 1, 0, zf)]) (fun i _ => N - (intOf i).toNat)
      case atStart => exact ⟨0, by omega, rfl, hX3⟩
      case round =>
        clear hX3
        obtain ⟨a, ha, rfl, hX⟩ := hrel
        have n1 := (hX.at (b := w.heap.size) (n := N) (f := unionF R (fillF p N a 0)) (by simp)).num
        by_cases haN : a < N
        · have ta : decide (a < N) = true := by simpa using haN
          have za : (a : Int) < 48 := by omega
          go_wp2
          clear n1
          go_loopw [6] (fun j W => ∃ m : Nat, m ≤ N ∧ j = .int .i64 m ∧ Kept w W [(w.heap.size, (N : Int), unionF R (fillF p N a m)), (bw, (N : Int), R), (w.heap.size + 1, 0, zf)]) (fun j _ => N - (intOf j).toNat)
          case atStart => exact ⟨0, by omega, rfl, hX⟩
          case round =>
            clear hX
            obtain ⟨m, hm, rfl, hX⟩ := hrel
            have n1 := (hX.at (b := w.heap.size) (n := N) (f := unionF R (fillF p N a m)) (by simp)).num
            by_cases hmN : m < N
            · have tm : decide (m < N) = true := by simpa using hmN
              have r1 := (hX.at (b := bw) (n := N) (f := R) (by simp)).row a (by omega)
              have r2 := (hX.at (b := bw) (n := N) (f := R) (by simp)).row k (by omega)
              have c1 := CR.out wr a k (by omega)
              have c2 := CR.out wr k m (by omega)
              have cW := Lib.hid (fun h w => ustep (n := (N : Int)) (p := p) R64' hN haN hmN h w)
              have hno := Lib.hid (fill_no p N a m)
              have hcr := hpe.out a m
              rw [hcr] at cW hno
              have l1 := (hX.at (b := w.heap.size) (n := N) (f := unionF R (fillF p N a m)) (by simp)).ld
              have hXh := Lib.hid hX
              clear hX hcr
              generalize (R a).testBit k = b1 at *
              generalize (R k).testBit m = b2 at *
              replace c1 := Lib.hid c1
              replace c2 := Lib.hid c2
              cases b1
              · have e := Lib.hid (hno.out rfl)
                clear cW hno
                go_wp2_with fail
                refine c1.out.mono ?_
                rintro e w1 ⟨rfl, rfl⟩
                go_wp2
                go_roundw
                case rel => exact ⟨m + 1, by omega, by go_num, by rw [← e.out]; exact hXh.out⟩
                case measure => simp [intOf]; omega
              · cases b2
                · have e := Lib.hid (hno.out rfl)
                  clear cW hno
                  go_wp2_with fail
                  refine c1.out.mono ?_
                  rintro e w1 ⟨rfl, rfl⟩
                  go_wp2_with fail
                  refine c2.out.mono ?_
                  rintro e w1 ⟨rfl, rfl⟩
                  go_wp2
                  go_roundw
                  case rel => exact ⟨m + 1, by omega, by go_num, by rw [← e.out]; exact hXh.out⟩
                  case measure => simp [intOf]; omega
                · have cW' := Lib.hid (cW.out rfl)
                  clear cW hno
                  go_wp2_with fail
                  refine c1.out.mono ?_
                  rintro e w1 ⟨rfl, rfl⟩
                  go_wp2_with fail
                  refine c2.out.mono ?_
                  rintro e w1 ⟨rfl, rfl⟩
                  go_wp2_with fail
                  clear l1 r1 r2 n1
                  refine (cW'.out _).mono ?_
                  rintro e w1 ⟨rfl, h⟩
                  obtain ⟨W4, hs4, hR4, hO4⟩ := ((hXh.out.on h).at (b := w.heap.size) (n := N) (f := unionF R (fillF p N a m)) (by simp)).put N (unionF R (fillF p N a (m + 1)))
                  have hX4 := (((hXh.out.on h).less (l' := [(bw, (N : Int), R), (w.heap.size + 1, 0, zf)]) (by simp)).only hO4 le0 (by simp only [List.mem_cons, List.not_mem_nil, or_false]; rintro p (rfl | rfl) <;> assumption)).cons hR4
                  clear h hR4 hO4
                  go_wp2
                  go_roundw
                  case rel => exact ⟨m + 1, by omega, by go_num, hX4⟩
                  case measure => simp [intOf]; omega
            · obtain rfl : m = N := by omega
              have hXh := Lib.hid hX
              clear hX
              go_wp2
              go_roundw
              case rel => exact ⟨a + 1, by omega, by go_num, by rw [← fill_next]; exact hXh.out⟩
              case measure => simp [intOf]; omega
        · obtain rfl : a = N := by omega
          have hXh := Lib.hid (hX.less (l' := [(w.heap.size, (a : Int), unionF R (fillF p a a 0)), (w.heap.size + 1, 0, zf)]) (by simp))
          clear hX
          go_wp2
          go_roundw
          case rel => exact ⟨k + 1, by omega, by go_num, by rw [hnext.out]; exact hXh.out⟩
          case measure => simp [intOf]; omega
    · obtain rfl : k = N := by omega
      have l1 := (hX.at (b := w.heap.size) (n := k) (f := warK f k k) (by simp)).ld
      obtain ⟨W4, hs4, hR4, hO4⟩ := (hX.at (b := w.heap.size + 1) (n := 0) (f := zf) (by simp)).put k (warK f k k)
      have hB4 := below_only hX.1 hO4 (by omega)
      clear hX hO4
      go_wp2
      refine bodyPost_ret (results_rel rfl _ _ _ _ _ rfl hR4) rfl ?_
      exact ⟨rfl, hB4⟩
end Go.Proofs.YtpbljciblgcgfaaDoor
end
