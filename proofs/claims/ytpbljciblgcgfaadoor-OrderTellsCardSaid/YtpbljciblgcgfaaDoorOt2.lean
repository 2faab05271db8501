/- RelKept, AppendKeeps, OrdComplete, OrdComplete2, OrdOrders in one text, for the claim. -/
import Derived.Test.YtpbljciblgcgfaaDoorRelKeep
import Derived.Laws.AppendOwnNone
import Derived.Deep.RegionLaw
import Derived.Test.YtpbljciblgcgfaaDoorOt1
import Derived.Test.YtpbljciblgcgfaaDoorOrdMarks
import Derived.Test.YtpbljciblgcgfaaDoorRelTop
import Derived.Test.YtpbljciblgcgfaaDoorRelBack
import Derived.Test.YtpbljciblgcgfaaDoorRelOk

section
/- What a law's walk keeps: relations in memory, each with its own number of items. -/
namespace Go.Proofs.YtpbljciblgcgfaaDoor
open Go.RowKit Go.Shelf

/-- Relations in memory, each with its own number of items. -/
def Kept (w W : World) (l : List (Nat × Int × (Nat → Nat))) : Prop := Below w.heap.size w W ∧ ∀ p ∈ l, RelAt W p.1 p.2.1 p.2.2
theorem Kept.on {w W W' : World} {l : List (Nat × Int × (Nat → Nat))} (h : Kept w W l) (hb : Below W.heap.size W W') : Kept w W' l := ⟨thru h.1 hb, fun p hp => (h.2 p hp).on hb⟩
theorem Kept.tab {w W : World} {l : List (Nat × Int × (Nat → Nat))} (h : Kept w W l) (hT : Tab w) : Tab W := hT.below h.1 hT.pos
theorem Kept.cons {w W : World} {b : Nat} {n : Int} {f : Nat → Nat} {l : List (Nat × Int × (Nat → Nat))} (h : Kept w W l) (hR : RelAt W b n f) : Kept w W ((b, n, f) :: l) := ⟨h.1, fun p hp => by
  rcases List.mem_cons.1 hp with rfl | hp
  · exact hR
  · exact h.2 p hp⟩
theorem Kept.at {w W : World} {b : Nat} {n : Int} {f : Nat → Nat} {l : List (Nat × Int × (Nat → Nat))} (h : Kept w W l) (hp : (b, n, f) ∈ l) : RelAt W b n f := h.2 _ hp
theorem Kept.only {w W W' : World} {b : Nat} {l : List (Nat × Int × (Nat → Nat))} (h : Kept w W l) (hO : Only b W W') (hb : w.heap.size ≤ b) (hl : ∀ p ∈ l, p.1 ≠ b) : Kept w W' l :=
  ⟨below_only h.1 hO hb, fun p hp => (h.2 p hp).only hO (hl p hp)⟩
theorem Kept.set {w W : World} {l : List (Nat × Int × (Nat → Nat))} (h : Kept w W l) (a : Addr) (v : Value) (hb : w.heap.size ≤ a.block) (hl : ∀ p ∈ l, p.1 ≠ a.block) : Kept w (W.setCell a v) l :=
  h.only (Only.setCell W a v) hb hl
theorem Kept.lts {w W : World} {l : List (Nat × Int × (Nat → Nat))} (h : Kept w W l) : ∀ p ∈ l, p.1 < W.heap.size := fun p hp => (h.2 p hp).lt
theorem Kept.drew {w W : World} {l : List (Nat × Int × (Nat → Nat))} (h : Kept w W l) : Kept w W.drew l := ⟨⟨h.1.os, h.1.tape, h.1.output, h.1.size, h.1.block⟩, fun p hp => (h.2 p hp).drew⟩
theorem Kept.nil (w : World) : Kept w w [] := ⟨Below.refl _ _, fun _ h => by cases h⟩
theorem Kept.less {w W : World} {l l' : List (Nat × Int × (Nat → Nat))} (h : Kept w W l) (hl : ∀ p ∈ l', p ∈ l) : Kept w W l' := ⟨h.1, fun p hp => h.2 p (hl p hp)⟩
end Go.Proofs.YtpbljciblgcgfaaDoor
end

section
/- append to a row that the call owns: the old slice still reads as it did. -/
namespace Go.Proofs.YtpbljciblgcgfaaDoor
open Go.RowKit Go.Shelf

theorem run_append_keeps {P : Program} (w : World) (base : Nat) (t ty e : TypeId) (i : TypeInfo) (z : Value) (size bytes : Nat) (ht : P.underlying t = some (.slice e)) (hi : P.info? e = some i) (hz : i.zero = some z)
    (hsize : i.size = size) (hby : i.bytes = bytes) (hzs : z.cells.size = size) (hsz : 0 < size) (v : Value) (n : Nat) (xs : List Value) (hown : w.ownsRow base e size v n xs)
    (a : Addr) (m c : Nat) (news : List Value) (hl : news.length = m * size) (hnews : ∀ j u, news[j]? = some u → w.cell? (a.add j) = some u) (h1 : ∀ u ∈ news, u.oneCell' = true)
    (h63 : n + m ≤ maxLen) (hbytes : (n + m) * bytes ≤ 140737488355328) (hbase : base ≤ w.heap.size) :
    ∃ v' w', (Builtin.append_ #[t, t] ty #[v, .slice (some a) m c]).run P w = .ok v' w' ∧ w'.ownsRow base e size v' (n + m) (xs ++ news) ∧ w.grownBy w' v.ownBlock ∧ w'.ownsRow base e size v n xs := by
  obtain ⟨v', w', hr, h2, h3, -⟩ := run_append_own (P := P) w base t ty e i z size bytes ht hi hz hsize hby hzs hsz v n xs hown a m c news hl hnews h1 h63 hbytes hbase
  refine ⟨v', w', hr, h2, h3, hown.1, ?_⟩
  rcases hown.2 with h | ⟨g, cap, cur, rfl, hbg, hg, hnc, hcm, hcs, htake⟩
  · exact .inl h
  · right
    by_cases hroom : n + m ≤ cap
    · have hfit : n * i.size + news.length ≤ cur.size := by rw [hl, hcs, hsize, ← Nat.add_mul]; exact Nat.mul_le_mul_right _ hroom
      have hr2 := run_append_room (P := P) w t ty e i ht hi g n cap cur hg a m c news (by rw [hl, hsize]) hnews h1 hroom hfit
      rw [hr] at hr2
      obtain ⟨rfl, rfl⟩ := Result.ok.inj hr2
      refine ⟨g, cap, _, rfl, hbg, setRow_heap w g cur _ e _ hg, hnc, hcm, ?_, ?_⟩
      · simp only [List.size_toArray, List.length_append, List.length_take, List.length_drop, Array.length_toList]
        omega
      · rw [hsize, htake, List.append_assoc, ← hown.1]
        exact List.take_left
    · have hr2 := run_append_grow (P := P) w t ty e i z ht hi hz ⟨g, 0, none⟩ n cap xs (by rw [hsize]; exact hown.1) (hown.cells (g := g) rfl) a m c news (by rw [hl, hsize]) hnews (by omega) (by unfold maxLen at h63; omega) (growslice_fits (by omega) (by rw [hby]; exact hbytes))
      rw [hr] at hr2
      obtain ⟨rfl, rfl⟩ := Result.ok.inj hr2
      exact ⟨g, cap, cur, rfl, hbg, ((World.grownBy_alloc w.drew _ none).block g (Array.getElem?_eq_some_iff.1 hg).1 (by simp)).trans hg, hnc, hcm, hcs, htake⟩

/-- The same at a step of a region that draws its order. -/
theorem step_append_keeps {P : Program} {ops : Array Oper} {o : Oper} {a : Act} {w : World} {K : Act → World → Prop} {Q : Exit → Act → World → Prop} {E : Prop}
    (hg : o.guard = none) (s x : Operand) (t : TypeId) (hop : o.op = Op.call { callee := Callee.builtin Builtin.append, args := #[s, x], argTypes := #[t, t] })
    (base : Nat) (e : TypeId) (i : TypeInfo) (z : Value) (size bytes : Nat) (ht : P.underlying t = some (.slice e)) (hi : P.info? e = some i) (hz : i.zero = some z)
    (hsize : i.size = size) (hby : i.bytes = bytes) (hzs : z.cells.size = size) (hsz : 0 < size)
    (v : Value) (n : Nat) (xs : List Value) (hs : a.eval s = v) (hown : w.ownsRow base e size v n xs)
    (ad : Addr) (m c : Nat) (news : List Value) (hx : a.eval x = .slice (some ad) m c) (hl : news.length = m * size) (hnews : ∀ j u, news[j]? = some u → w.cell? (ad.add j) = some u) (h1 : ∀ u ∈ news, u.oneCell' = true)
    (h63 : n + m ≤ maxLen) (hbytes : (n + m) * bytes ≤ 140737488355328) (hbase : base ≤ w.heap.size)
    (h : ∀ v' w', w'.ownsRow base e size v' (n + m) (xs ++ news) → w.grownBy w' v.ownBlock → w'.ownsRow base e size v n xs → K (a.put o.dst v') w') :
    if Region.wanted o (yielded ops a.tmps) = true then Oper.wp P o a w K Q else E := by
  have hw : Region.wanted o (yielded ops a.tmps) = true := by simp [Region.wanted, hg]
  rw [if_pos hw]
  obtain ⟨v', w', hr, h2, h3, h4⟩ := run_append_keeps (P := P) w base t o.type e i z size bytes ht hi hz hsize hby hzs hsz v n xs hown ad m c news hl hnews h1 h63 hbytes hbase
  unfold Oper.wp execOp
  simp only [hop, resolve, invoke, builtin, Sem.run_bind, Sem.run_pure, Result.andThen_ok, List.map_toArray, List.map_cons, List.map_nil, hs, hx, hr]
  exact h v' w' h2 h3 h4

/-- 'append(l, l...)' -/
theorem run_append_self {P : Program} (w : World) (base : Nat) (t ty e : TypeId) (i : TypeInfo) (z : Value) (size bytes : Nat) (ht : P.underlying t = some (.slice e)) (hi : P.info? e = some i) (hz : i.zero = some z)
    (hsize : i.size = size) (hby : i.bytes = bytes) (hzs : z.cells.size = size) (hsz : 0 < size) (v : Value) (n : Nat) (xs : List Value) (hown : w.ownsRow base e size v n xs) (h1 : ∀ u ∈ xs, u.oneCell' = true)
    (h63 : n + n ≤ maxLen) (hbytes : (n + n) * bytes ≤ 140737488355328) (hbase : base ≤ w.heap.size) :
    ∃ v' w', (Builtin.append_ #[t, t] ty #[v, v]).run P w = .ok v' w' ∧ w'.ownsRow base e size v' (n + n) (xs ++ xs) ∧ w.grownBy w' v.ownBlock ∧ w'.ownsRow base e size v n xs := by
  rcases hown.2 with ⟨rfl, rfl⟩ | ⟨g, cap, cur, rfl, _⟩
  · have hx : xs = [] := List.eq_nil_of_length_eq_zero (by simpa using hown.1)
    subst hx
    exact ⟨_, w, run_append_owned_none w base t ty e i size ht hi _ 0 [] hown, by simpa using hown, ⟨rfl, rfl, rfl, Nat.le_refl _, fun _ _ _ => rfl⟩, hown⟩
  · exact run_append_keeps w base t ty e i z size bytes ht hi hz hsize hby hzs hsz _ n xs hown ⟨g, 0, none⟩ n cap xs hown.1 (hown.cells (g := g) rfl) h1 h63 hbytes hbase
theorem step_append_self {P : Program} {ops : Array Oper} {o : Oper} {a : Act} {w : World} {K : Act → World → Prop} {Q : Exit → Act → World → Prop} {E : Prop}
    (hg : o.guard = none) (s x : Operand) (t : TypeId) (hop : o.op = Op.call { callee := Callee.builtin Builtin.append, args := #[s, x], argTypes := #[t, t] })
    (base : Nat) (e : TypeId) (i : TypeInfo) (z : Value) (size bytes : Nat) (ht : P.underlying t = some (.slice e)) (hi : P.info? e = some i) (hz : i.zero = some z)
    (hsize : i.size = size) (hby : i.bytes = bytes) (hzs : z.cells.size = size) (hsz : 0 < size)
    (v : Value) (n : Nat) (xs : List Value) (hs : a.eval s = v) (hx : a.eval x = v) (hown : w.ownsRow base e size v n xs) (h1 : ∀ u ∈ xs, u.oneCell' = true)
    (h63 : n + n ≤ maxLen) (hbytes : (n + n) * bytes ≤ 140737488355328) (hbase : base ≤ w.heap.size)
    (h : ∀ v' w', w'.ownsRow base e size v' (n + n) (xs ++ xs) → w.grownBy w' v.ownBlock → w'.ownsRow base e size v n xs → K (a.put o.dst v') w') :
    if Region.wanted o (yielded ops a.tmps) = true then Oper.wp P o a w K Q else E := by
  have hw : Region.wanted o (yielded ops a.tmps) = true := by simp [Region.wanted, hg]
  rw [if_pos hw]
  obtain ⟨v', w', hr, h2, h3, h4⟩ := run_append_self (P := P) w base t o.type e i z size bytes ht hi hz hsize hby hzs hsz v n xs hown h1 h63 hbytes hbase
  unfold Oper.wp execOp
  simp only [hop, resolve, invoke, builtin, Sem.run_bind, Sem.run_pure, Result.andThen_ok, List.map_toArray, List.map_cons, List.map_nil, hs, hx, hr]
  exact h v' w' h2 h3 h4
/-- A row stays when only a relation's block changes. -/
theorem ownsRow_only {W W' : World} {b : Nat} {m : Int} {f : Nat → Nat} {e : TypeId} (he : 26 ≠ e) {base size n : Nat} {v : Value} {xs : List Value} (h : W.ownsRow base e size v n xs) (hR : RelAt W b m f) (hO : Only b W W') : W'.ownsRow base e size v n xs := by
  refine ⟨h.1, ?_⟩
  rcases h.2 with h0 | ⟨g, cap, cur, rfl, hb, hh, r⟩
  · exact .inl h0
  · have hne := relAt_not_row hR he h
    exact .inr ⟨g, cap, cur, rfl, hb, (hO.block g (by rintro rfl; exact hne rfl)).trans hh, r⟩

/-- Relations stay where they are when a row of another type grows. -/
theorem Kept.grown {w W W' : World} {l : List (Nat × Int × (Nat → Nat))} (h : Kept w W l) {e : TypeId} (he : 26 ≠ e) {size k : Nat} {v : Value} {xs : List Value} (hr : W.ownsRow w.heap.size e size v k xs) (hg : W.grownBy W' v.ownBlock) : Kept w W' l :=
  ⟨h.1.grown hg h.1.size (fun j hj => (hr.lt j hj).1), fun p hp => by
    have hR := h.2 p hp
    exact (hg.block p.1 hR.lt (relAt_not_row hR he hr)).trans hR⟩
/-- A relation laid into a block that was made before a call. -/
theorem Kept.lay {w W W' : World} {l : List (Nat × Int × (Nat → Nat))} (h : Kept w W l) (h9 : Below (W.alloc (.cells (relC 0 zf) 26)).heap.size (W.alloc (.cells (relC 0 zf) 26)) W') (n : Int) (F : Nat → Nat) :
    ∃ Wf, (stRel (.pointer (some ⟨W.heap.size, 0, none⟩)) (.agg (relC n F))).run Tryd.prog W' = .ok () Wf ∧ Kept w Wf ((W.heap.size, n, F) :: l) ∧
      ∀ (base : Nat) (e : TypeId) (size k : Nat) (v : Value) (xs : List Value), 26 ≠ e → W.ownsRow base e size v k xs → Wf.ownsRow base e size v k xs := by
  have hX9 := (h.on (below_new W (.cells (relC 0 zf) 26))).on h9
  have hz := (RelAt.new W 0 zf).on h9
  obtain ⟨Wf, hsf, hfin, hO⟩ := hz.put n F
  have hlt := h.lts
  exact ⟨Wf, hsf, (hX9.only hO h.1.size (fun p hp => Nat.ne_of_lt (hlt p hp))).cons hfin, fun base e size k v xs he hr => ownsRow_only he (ownsRow_below (hr.alloc _) h9) hz hO⟩
end Go.Proofs.YtpbljciblgcgfaaDoor
end

section
/- order.complete: the orders that begin so. -/
namespace Go.Proofs.YtpbljciblgcgfaaDoor
open Go.RowKit Go.Shelf

attribute [local go_sem] Oper.semAt_some

/-- All lists that begin with xs and go on with the d items of s, none ahead of its predecessors. -/
def compl (B : Nat → Nat) : Nat → Nat → List Nat → List (List Nat)
  | 0, _, xs => [xs]
  | d + 1, s, xs => (readyL B s).flatMap fun a => compl B d (clr s a) (xs ++ [a])

/-- Block g is a row of N numbers that begins with xs. -/
def RowP (W : World) (g N : Nat) (xs : List Nat) : Prop := ∃ cur : Array Value, W.heap[g]? = some (.cells cur 3 (0, 0)) ∧ cur.size = N ∧ cur.toList.take xs.length = xs.map intV
theorem RowP.lt {W : World} {g N : Nat} {xs : List Nat} (h : RowP W g N xs) : g < W.heap.size := by obtain ⟨cur, h, _⟩ := h; exact (Array.getElem?_eq_some_iff.1 h).1
theorem RowP.same {W W' : World} {g N : Nat} {xs : List Nat} (h : RowP W g N xs) (hs : ∀ o, W.heap[g]? = some o → W'.heap[g]? = some o) : RowP W' g N xs := by
  obtain ⟨cur, h1, h2⟩ := h
  exact ⟨cur, hs _ h1, h2⟩
theorem RowP.on {W W' : World} {g N : Nat} {xs : List Nat} (h : RowP W g N xs) (hb : Below W.heap.size W W') : RowP W' g N xs := h.same fun o ho => (hb.block g h.lt).trans ho
theorem RowP.le {W : World} {g N : Nat} {xs : List Nat} (h : RowP W g N xs) : xs.length ≤ N := by
  obtain ⟨cur, _, h2, h3⟩ := h
  have := congrArg List.length h3
  simp at this
  omega
theorem RowP.front {W : World} {g N : Nat} {xs ys : List Nat} (h : RowP W g N (xs ++ ys)) : RowP W g N xs := by
  obtain ⟨cur, h1, h2, h3⟩ := h
  refine ⟨cur, h1, h2, ?_⟩
  have := congrArg (List.take xs.length) h3
  rw [List.take_take, List.map_append, List.take_append_of_le_length (by simp)] at this
  rw [Nat.min_eq_left (by simp)] at this
  rw [this, List.take_of_length_le (by simp)]
theorem infoIntC : ∃ i : TypeInfo, Tryd.prog.info? 3 = some i ∧ i.zero = some (.int .i64 0) ∧ i.size = 1 ∧ i.bytes = 8 := by
  have h : (Tryd.prog.info? 3).map (fun i => (i.zero, i.size, i.bytes)) = some (some (.int .i64 0), 1, 8) := by kernel_rfl
  cases hi : Tryd.prog.info? 3 with
  | none => rw [hi] at h; cases h
  | some i =>
    rw [hi] at h
    simp at h
    exact ⟨i, rfl, h.1, h.2.1, h.2.2⟩
theorem undInts : Tryd.prog.underlying 46 = some (.slice 3) := by kernel_rfl
theorem RowP.push {W : World} {g N : Nat} {xs : List Nat} (h : RowP W g N xs) (hlt : xs.length < N) (ad : Addr) (c : Nat) (a : Nat) (hc : W.cell? ad = some (.int .i64 (a : Int))) :
    ∃ W', (Builtin.append_ #[46, 46] 46 #[.slice (some ⟨g, 0, none⟩) xs.length N, .slice (some ad) 1 c]).run Tryd.prog W = .ok (.slice (some ⟨g, 0, none⟩) (xs.length + 1) N) W' ∧ RowP W' g N (xs ++ [a]) ∧ Only g W W' := by
  obtain ⟨cur, h1, h2, h3⟩ := h
  obtain ⟨i, hi, hz, hsz, hby⟩ := infoIntC
  have hr := run_append_room (P := Tryd.prog) W 46 46 3 i undInts hi g xs.length N cur h1 ad 1 c [.int .i64 (a : Int)] (by rw [hsz]; rfl) (by
    intro j u hu
    cases j with
    | zero => simp at hu; subst hu; simpa [Addr.add] using hc
    | succ j => simp at hu) (by simp [Value.oneCell']) (by omega) (by rw [hsz]; simp; omega)
  refine ⟨_, hr, ⟨_, setRow_heap W g cur _ _ _ h1, ?_, ?_⟩, ⟨rfl, rfl, rfl, by simp, fun k hk => Go.setRow_other W g k _ hk⟩⟩
  · simp [hsz]
    omega
  · rw [hsz, Nat.mul_one, h3]
    have hl : (xs ++ [a]).length = (List.map intV xs ++ [Value.int .i64 (a : Int)]).length := by simp
    rw [hl, List.map_append]
    exact List.take_left

/-- The exceptions of the orders' iterator: results, and its own row. -/
def exO : Nat → Nat → Obj → Prop := fun g k o => soft 4 o ∨ k = g
end Go.Proofs.YtpbljciblgcgfaaDoor
end

section
/- order.complete: the orders that begin so: the walk. -/
namespace Go.Proofs.YtpbljciblgcgfaaDoor
open Go.RowKit Go.Shelf

attribute [local go_sem] Oper.semAt_some

theorem els_nil {s : Nat} (hs : s < 2 ^ 48) (h : (MM.els s).length = 0) : s = 0 := by
  apply Decidable.byContradiction
  intro h0
  obtain ⟨k, _, he, _⟩ := MM.els_step s h0 (by omega)
  rw [he] at h
  simp at h
theorem readyL_mem {B : Nat → Nat} {s a : Nat} (h : a ∈ readyL B s) : a ∈ MM.els s := (List.mem_filter.1 h).1

theorem KeepS.setNew {kp : Nat → Prop} {W W' : World} (h : KeepS kp W W') (a : Addr) (v : Value) (ha : W.heap.size ≤ a.block) : KeepS kp W (W'.setCell a v) :=
  ⟨h.os, h.tape, h.output, Nat.le_trans h.size (by simp [World.setCell]), fun k o hk ho => (Below.heap_setCell W' a v k (by have := (Array.getElem?_eq_some_iff.1 ho).1; omega)).trans (h.block k o hk ho)⟩
theorem Chg.only {ex : Nat → Nat → Obj → Prop} {W W' : World} {B g k : Nat} (hO : Only k W W') (hB : B ≤ k) (he : ∀ o, ex g k o) : Chg ex B g W W' :=
  ⟨hO.os, hO.tape, hO.output, Nat.le_of_eq hO.size.symm, fun i o hi ho => (hO.block i (by
    rintro rfl
    rcases hi with hi | ⟨_, hi⟩
    · omega
    · exact hi (he o))).trans ho⟩
theorem KeepS.chg {kp : Nat → Prop} {ex : Nat → Nat → Obj → Prop} {W A B : World} {g : Nat} (h : KeepS kp W A) (hc : Chg ex W.heap.size g A B) : KeepS kp W B :=
  ⟨hc.os.trans h.os, hc.tape.trans h.tape, hc.output.trans h.output, Nat.le_trans h.size hc.size, fun k o hk ho => hc.block k o (.inl (Array.getElem?_eq_some_iff.1 ho).1) (h.block k o hk ho)⟩
theorem hb_result (W : World) (b : Nat) (v : Bool) {u : Value} (h : Boxed W b 4 u) {tmps : Array Value} (ht : tmps.getD 8 undef = .pointer (some ⟨b, 0, none⟩)) :
    (results Tryd.f97 tmps).run Tryd.prog (W.setCell ⟨b, 0, none⟩ (.bool v)) = .ok (.bool v) (W.setCell ⟨b, 0, none⟩ (.bool v)) := by
  have h' := (h.set (.bool v)).cell
  have ht' : tmps[8]?.getD undef = .pointer (some ⟨b, 0, none⟩) := by simpa using ht
  simp [results, Tryd.f97, go_sem, ht', h']

theorem KeepS.putNew {kp : Nat → Prop} {W W' : World} (h : KeepS kp W W') (l : Nat) (o : Obj) (ha : W.heap.size ≤ l) : KeepS kp W (W'.putObj l o) :=
  ⟨h.os, h.tape, h.output, Nat.le_trans h.size (by simp), fun k o' hk ho => (World.putObj_heap_other (by have := (Array.getElem?_eq_some_iff.1 ho).1; omega)).trans (h.block k o' hk ho)⟩
theorem hb_result3 (W : World) (b : Nat) (v : Bool) (h : Boxed W b 4 (.bool v)) (D : Nat) (hD : b ≠ D) {tmps : Array Value} (ht : tmps.getD 8 undef = .pointer (some ⟨b, 0, none⟩)) :
    (results Tryd.f97 tmps).run Tryd.prog (W.putObj D (.deferred none)) = .ok (.bool v) (W.putObj D (.deferred none)) := by
  have h' := Boxed.cell (show Boxed (W.putObj D (.deferred none)) b 4 (.bool v) from (World.putObj_heap_other hD).trans h)
  have ht' : tmps[8]?.getD undef = .pointer (some ⟨b, 0, none⟩) := by simpa using ht
  simp [results, Tryd.f97, go_sem, ht', h']
theorem hb_result2 (W : World) (b : Nat) (v : Bool) {u : Value} (h : Boxed W b 4 u) (D : Nat) (hD : b ≠ D) {tmps : Array Value} (ht : tmps.getD 8 undef = .pointer (some ⟨b, 0, none⟩)) :
    (results Tryd.f97 tmps).run Tryd.prog ((W.setCell ⟨b, 0, none⟩ (.bool v)).putObj D (.deferred none)) = .ok (.bool v) ((W.setCell ⟨b, 0, none⟩ (.bool v)).putObj D (.deferred none)) :=
  hb_result3 _ b v (h.set (.bool v)) D hD ht

/-- What complete leaves. -/
structure ComplPost (n₀ Br m g N : Nat) (xs : List Nat) (W W' : World) : Prop where
  keep : KeepS (fun k => (k < n₀ ∨ k = Br ∨ m ≤ k) ∧ k ≠ g) W W'
  row : RowP W' g N xs

set_option maxRecDepth 100000 in
set_option maxHeartbeats 2000000 in
theorem complete_in (m n₀ Br Bn g : Nat) (hn₀ : 0 < n₀) (hnm : n₀ ≤ m) (hBm : m ≤ Bn) (hgm : m ≤ g) (hne : Bn ≠ g) (Nn : Int) (B : Nat → Nat) (hB : R64 B) (N : Nat) (hN : N ≤ 48) (l : Nat)
    (J Jx : Nat → List (List Nat) → World → Prop) (hJ : Cl exO m J) (hJx : Cl exO m Jx) (L : List (List Nat))
    (hY : ∀ nY pre x W1, J g pre W1 → RowP W1 g N x → x.length = N → pre ++ [x] <+: L → YieldAt Fence.wide nY Tryd.prog l #[.slice (some ⟨g, 0, none⟩) N N] W1 fun en W' => KeepK (fun k => k < n₀ ∨ k = Br) m W1 W' ∧
      ((en = .returned (.bool true) ∧ J g (pre ++ [x]) W') ∨ (en = .returned (.bool false) ∧ Jx g (pre ++ [x]) W'))) :
    ∀ (d s : Nat) (xs : List Nat) (pre0 : List (List Nat)) (n : Nat) (W : World), (MM.els s).length = d → s < 2 ^ 48 → xs.length + d = N → pre0 ++ compl B d s xs <+: L → Tab W → m ≤ W.heap.size → RelAt W Bn Nn B → RowP W g N xs → J g pre0 W →
      CallsIn Fence.wide n Tryd.prog 97 #[.pointer (some ⟨Bn, 0, none⟩), .int .u64 (s : Int), .slice (some ⟨g, 0, none⟩) xs.length N, .func (.yield l) #[] #[]] W fun e W' =>
        ComplPost n₀ Br m g N xs W W' ∧ ((e = .returned (.bool true) ∧ J g (pre0 ++ compl B d s xs) W') ∨ (e = .returned (.bool false) ∧ ∃ pre, pre <+: L ∧ Jx g pre W')) := by
  intro d
  have HJ := Lib.hid hJ
  have HJx := Lib.hid hJx
  have HY := Lib.hid hY
  clear hJ hJx hY
  induction d with
  | zero =>
    intro s xs pre0 n W hd hs hx hp hT hm hR hrow hj
    refine callsIn_wide.2 ((callsIn_wide (n := 5)).1 ?_)
    obtain rfl := els_nil hs hd
    simp only [Nat.add_zero] at hx
    subst hx
    have hR1 := hrow
    have hb0 := Boxed.new ((((W.alloc (.cells #[.pointer (some ⟨Bn, 0, none⟩)] 82)).alloc (.cells #[.int .u64 0] 23)).alloc (.cells #[.slice (some ⟨g, 0, none⟩) xs.length xs.length] 46)).alloc (.cells #[.func (.yield l) #[] #[]] 108)) 4 (.bool false)
    have hBl : Below W.heap.size W (((((W.alloc (.cells #[.pointer (some ⟨Bn, 0, none⟩)] 82)).alloc (.cells #[.int .u64 0] 23)).alloc (.cells #[.slice (some ⟨g, 0, none⟩) xs.length xs.length] 46)).alloc (.cells #[.func (.yield l) #[] #[]] 108)).alloc (.cells #[.bool false] 4)) :=
      (((((Below.refl _ W).alloc (Nat.le_refl _) _).alloc (by simp) _).alloc (by simp; omega) _).alloc (by simp; omega) _).alloc (by simp; omega) _
    have hj1 := HJ.out _ _ _ _ hj (Chg.of_below hBl)
    have hrow1 := hrow.on hBl
    simp only [compl] at hp ⊢
    obtain ⟨fn, tmps, assign, body, hy, hRd⟩ := HY.out (5 - 1) _ xs _ hj1 hrow1 rfl hp
    simp only [World.size_alloc] at hb0
    have hb4 := Lib.hid hb0
    have hsz := Lib.hid (show (((((W.alloc (.cells #[.pointer (some ⟨Bn, 0, none⟩)] 82)).alloc (.cells #[.int .u64 0] 23)).alloc (.cells #[.slice (some ⟨g, 0, none⟩) xs.length xs.length] 46)).alloc (.cells #[.func (.yield l) #[] #[]] 108)).alloc (.cells #[.bool false] 4)).heap.size = W.heap.size + 1 + 1 + 1 + 1 + 1 by simp)
    replace hBl := Lib.hid hBl
    replace hrow1 := Lib.hid hrow1
    clear hb0 hj1 hj hrow
    refine callsIn_of_wp Tryd.func97 rfl trivial ?_ rfl
    simp only [Tryd.ntmps97, List.size_toArray, List.length_cons, List.length_nil, Nat.reduceAdd, Nat.reduceSub, Array.replicate_succ, Array.replicate_zero, List.push_toArray, List.append_toArray, List.nil_append, List.cons_append]
    gi_wp2
    refine hRd.mono ?_
    rintro e W3 ⟨hk3, h3⟩
    have hg4 : g ≠ W.heap.size + 1 + 1 + 1 + 1 := by have := hR1.lt; omega
    have h4 : Boxed W3 (W.heap.size + 1 + 1 + 1 + 1) 4 (.bool false) := hk3.block _ _ (.inr (by omega)) hb4.out
    have f4 := h4.frozen
    have c4 := h4.cell
    have hkS : ∀ v, KeepS (fun k => (k < n₀ ∨ k = Br ∨ m ≤ k) ∧ k ≠ g) W (W3.setCell ⟨W.heap.size + 1 + 1 + 1 + 1, 0, none⟩ v) := fun v =>
      (((KeepS.of_below hBl.out).trans (hk3.toS fun k hk => by have := hk.1; omega)).setNew ⟨W.heap.size + 1 + 1 + 1 + 1, 0, none⟩ v (by simp; omega))
    have hrow3 : RowP W3 g xs.length xs := hrow1.out.same fun o ho => hk3.block _ _ (.inr hgm) ho
    have hrowS : ∀ v, RowP (W3.setCell ⟨W.heap.size + 1 + 1 + 1 + 1, 0, none⟩ v) g xs.length xs := fun v => hrow3.same fun o ho => (Below.heap_setCell W3 _ v g hg4).trans ho
    have hCh : ∀ v, Chg exO m g W3 (W3.setCell ⟨W.heap.size + 1 + 1 + 1 + 1, 0, none⟩ v) := fun v => Chg.setCell W3 _ v (by simp; omega) (fun o ho => .inl ⟨_, _, (Option.some.inj (ho.symm.trans h4))⟩)
    rcases h3 with ⟨rfl, hj3⟩ | ⟨rfl, hj3⟩
    · have hE := fun tmps ht => hb_result W3 _ true h4 (tmps := tmps) ht
      gi_wp2
      refine bodyPost_ret (hE _ rfl) rfl ?_
      exact ⟨⟨hkS _, hrowS _⟩, .inl ⟨rfl, HJ.out _ _ _ _ hj3 (hCh _)⟩⟩
    · have hE := fun tmps ht => hb_result W3 _ false h4 (tmps := tmps) ht
      gi_wp2
      refine bodyPost_ret (hE _ rfl) rfl ?_
      exact ⟨⟨hkS _, hrowS _⟩, .inr ⟨rfl, _, hp, HJx.out _ _ _ _ hj3 (hCh _)⟩⟩
  | succ d ih =>
    intro s xs pre0 n W hd hs hx hp hT hm hR hrow hj
    refine callsIn_wide.2 ((callsIn_wide (n := 5)).1 ?_)
    have hs0 : s ≠ 0 := by rintro rfl; simp [MM.els_zero] at hd
    have hs1 : (((s : Nat) : Int) == 0) = false := by simp; omega
    have hB5 : Below W.heap.size W (((((W.alloc (.cells #[.pointer (some ⟨Bn, 0, none⟩)] 82)).alloc (.cells #[.int .u64 (s : Int)] 23)).alloc (.cells #[.slice (some ⟨g, 0, none⟩) xs.length N] 46)).alloc (.cells #[.func (.yield l) #[] #[]] 108)).alloc (.cells #[.bool false] 4)) :=
      (((((Below.refl _ W).alloc (Nat.le_refl _) _).alloc (by simp) _).alloc (by simp; omega) _).alloc (by simp; omega) _).alloc (by simp; omega) _
    have b0 := Boxed.new W 82 (.pointer (some ⟨Bn, 0, none⟩))
    have b1 := Boxed.new (W.alloc (.cells #[.pointer (some ⟨Bn, 0, none⟩)] 82)) 23 (.int .u64 (s : Int))
    have b2 := Boxed.new ((W.alloc (.cells #[.pointer (some ⟨Bn, 0, none⟩)] 82)).alloc (.cells #[.int .u64 (s : Int)] 23)) 46 (.slice (some ⟨g, 0, none⟩) xs.length N)
    have b3 := Boxed.new (((W.alloc (.cells #[.pointer (some ⟨Bn, 0, none⟩)] 82)).alloc (.cells #[.int .u64 (s : Int)] 23)).alloc (.cells #[.slice (some ⟨g, 0, none⟩) xs.length N] 46)) 108 (.func (.yield l) #[] #[])
    have b4 := Boxed.new ((((W.alloc (.cells #[.pointer (some ⟨Bn, 0, none⟩)] 82)).alloc (.cells #[.int .u64 (s : Int)] 23)).alloc (.cells #[.slice (some ⟨g, 0, none⟩) xs.length N] 46)).alloc (.cells #[.func (.yield l) #[] #[]] 108)) 4 (.bool false)
    simp only [World.size_alloc] at b0 b1 b2 b3 b4
    replace b0 := (((b0.alloc (.cells #[.int .u64 (s : Int)] 23)).alloc (.cells #[.slice (some ⟨g, 0, none⟩) xs.length N] 46)).alloc (.cells #[.func (.yield l) #[] #[]] 108)).alloc (.cells #[.bool false] 4)
    replace b1 := ((b1.alloc (.cells #[.slice (some ⟨g, 0, none⟩) xs.length N] 46)).alloc (.cells #[.func (.yield l) #[] #[]] 108)).alloc (.cells #[.bool false] 4)
    replace b2 := (b2.alloc (.cells #[.func (.yield l) #[] #[]] 108)).alloc (.cells #[.bool false] 4)
    replace b3 := b3.alloc (.cells #[.bool false] 4)
    have hz5 : (((((W.alloc (.cells #[.pointer (some ⟨Bn, 0, none⟩)] 82)).alloc (.cells #[.int .u64 (s : Int)] 23)).alloc (.cells #[.slice (some ⟨g, 0, none⟩) xs.length N] 46)).alloc (.cells #[.func (.yield l) #[] #[]] 108)).alloc (.cells #[.bool false] 4)).heap.size = W.heap.size + 5 := by simp
    refine callsIn_of_wp_marks Tryd.func97 rfl trivial ?_ rfl
    simp only [Tryd.ntmps97, List.size_toArray, List.length_cons, List.length_nil, Nat.reduceAdd, Nat.reduceSub, Array.replicate_succ, Array.replicate_zero, List.push_toArray, List.append_toArray, List.nil_append, List.cons_append]
    gi_wp2_with fail
    generalize ((((W.alloc (.cells #[.pointer (some ⟨Bn, 0, none⟩)] 82)).alloc (.cells #[.int .u64 (s : Int)] 23)).alloc (.cells #[.slice (some ⟨g, 0, none⟩) xs.length N] 46)).alloc (.cells #[.func (.yield l) #[] #[]] 108)).alloc (.cells #[.bool false] 4) = W1 at *
    refine ⟨trivial, ?_⟩
    refine (callsIn_wide.2 (ready_any _ _ _)).mono ?_
    rintro e W2 ⟨rfl, hW2⟩
    have e0 := Boxed.new W1 82 (.pointer (some ⟨Bn, 0, none⟩))
    have e1 := Boxed.new (W1.alloc (.cells #[.pointer (some ⟨Bn, 0, none⟩)] 82)) 23 (.int .u64 (s : Int))
    replace e0 := e0.alloc (.cells #[.int .u64 (s : Int)] 23)
    rw [World.size_alloc] at e1
    have hB2 : Below W1.heap.size W1 W2 := by rw [← hW2]; exact ((Below.refl _ W1).alloc (Nat.le_refl _) _).alloc (by simp) _
    have hz2 : W2.heap.size = W1.heap.size + 2 := by rw [← hW2]; simp
    rw [hW2, hz5] at e0 e1
    clear hW2
    have hB6 : Below W.heap.size W W2 := hB5.trans (hB2.mono (by omega))
    have hT2 : Tab W2 := hT.below hB6 hT.pos
    have hR2 : RelAt W2 Bn Nn B := hR.on hB6
    have hrow2 := hrow.on hB6
    have hj2 := HJ.out _ _ _ _ hj (Chg.of_below hB6)
    replace b0 := boxed_on b0 hB2
    replace b1 := boxed_on b1 hB2
    replace b2 := boxed_on b2 hB2
    replace b3 := boxed_on b3 hB2
    replace b4 := boxed_on b4 hB2
    have hRl := hR.lt
    have hgl := hrow.lt
    have hB6h := Lib.hid hB6
    have hTh := Lib.hid hT2
    have HB2 := Lib.hid hB2
    have HB5 := Lib.hid hB5
    clear hT hT2 hrow hj hB6 hB2 hB5
    gi_wp2_with fail
    refine range_some rfl (by omega) (gf := 103) (lb := #[.pointer (some ⟨W.heap.size + 5 + 1, 0, none⟩), .pointer (some ⟨W.heap.size + 5, 0, none⟩)]) rfl trivial (enters_of Tryd.func103 (by kernel_rfl) rfl)
      (ready1_gives 4 (by omega) (W.heap.size + 5 + 1) (W.heap.size + 5) Bn n₀ hn₀ Nn B hB s hs W2 hTh.out (by omega) e1 e0 hR2) (fun k hk => by omega) (fun _ _ => rfl) (fun _ _ _ _ _ _ _ _ _ => trivial)
      (fun _ pre W' => J g (pre0 ++ pre.flatMap fun a => compl B d (clr s a) (xs ++ [a])) W' ∧ RowP W' g N xs ∧ KeepS (fun k => (k < n₀ ∨ k = Br ∨ m ≤ k) ∧ k ≠ g) W2 W')
      (fun c _ pre W' => c = .ret ∧ (∃ pr, pr <+: L ∧ Jx g pr W') ∧ RowP W' g N xs ∧ KeepS (fun k => ((k < n₀ ∨ k = Br ∨ m ≤ k) ∧ k ≠ g) ∧ k ≠ W.heap.size + 1 + 1 + 1 + 1) W2 W' ∧ Boxed W' (W.heap.size + 1 + 1 + 1 + 1) 4 (.bool false))
      ?clI ?clX (fun _ _ => ⟨by simpa using hj2, hrow2, KeepS.refl _⟩)
      (fun _ a => { tmps := #[.pointer (some ⟨Bn, 0, none⟩), .int .u64 (s : Int), .slice (some ⟨g, 0, none⟩) xs.length N, .func (.yield l) #[] #[], .pointer (some ⟨W.heap.size, 0, none⟩), .pointer (some ⟨W.heap.size + 1, 0, none⟩), .pointer (some ⟨W.heap.size + 1 + 1, 0, none⟩), .pointer (some ⟨W.heap.size + 1 + 1 + 1, 0, none⟩), .pointer (some ⟨W.heap.size + 1 + 1 + 1 + 1, 0, none⟩), .int .i64 (a : Int), .int .u64 (s : Int), .bool false, undef, undef, undef, .pointer (some ⟨Bn, 0, none⟩), .int .u64 (s : Int), .func (.func 103) #[] #[.pointer (some ⟨W.heap.size + 5 + 1, 0, none⟩), .pointer (some ⟨W.heap.size + 5, 0, none⟩)], .int .i64 (a : Int), undef, undef, undef, undef, undef, undef, undef, undef, undef, undef, undef, undef], defers := [] }) ?assign ?body ?done ?stop
    case clI =>
      rintro g' pre A A' ⟨h1, h2, h3⟩ hc
      exact ⟨HJ.out _ _ _ _ h1 (hc.sharper (by omega) (fun _ _ _ h => h.elim)), h2.same fun o ho => hc.block _ _ (.inl (by omega)) ho, h3.chg hc⟩
    case clX =>
      rintro c g' pre A A' ⟨h0, ⟨pr, hp, h1⟩, h2, h3, h4⟩ hc
      exact ⟨h0, ⟨pr, hp, HJx.out _ _ _ _ h1 (hc.sharper (by omega) (fun _ _ _ h => h.elim))⟩, h2.same fun o ho => hc.block _ _ (.inl (by omega)) ho, h3.chg hc, hc.block _ _ (.inl (by omega)) h4⟩
    case assign =>
      intro l2 g' x W' K hK
      gi_wp2
      exact hK
    case body =>
      rintro l2 g' pre a W3 - ⟨hj3, hrow3, hk3⟩ - hpre
      have hmem : a ∈ MM.els s := readyL_mem (hpre.subset (by simp))
      have ha48 := els_48 hs hmem
      have hm : Tryd.prog.follows .mixedOrders = true := by kernel_rfl
      have a0 : Boxed W3 W.heap.size 82 (.pointer (some ⟨Bn, 0, none⟩)) := hk3.block _ _ ⟨by omega, by omega⟩ b0
      have a1 : Boxed W3 (W.heap.size + 1) 23 (.int .u64 (s : Int)) := hk3.block _ _ ⟨by omega, by omega⟩ b1
      have a2 : Boxed W3 (W.heap.size + 1 + 1) 46 (.slice (some ⟨g, 0, none⟩) xs.length N) := hk3.block _ _ ⟨by omega, by omega⟩ b2
      have a3 : Boxed W3 (W.heap.size + 1 + 1 + 1) 108 (.func (.yield l) #[] #[]) := hk3.block _ _ ⟨by omega, by omega⟩ b3
      have a64 : (a : Int) < 64 := by omega
      have hcb : bits BinOp.andNot IntKind.u64 (s : Int) (IntKind.u64.wrap (2 ^ a)) = (clr s a : Int) := by
        have hp2 : 2 ^ a < 2 ^ 64 := Nat.pow_lt_pow_right (by omega) (by omega)
        rw [shl1_nat a (by omega), u64_andNot_nat _ _ (by omega) hp2]; rfl
      gi_wp2
      refine wpIn_region_held (fun W' => W'.cell? ⟨W.heap.size, 0, none⟩ = some (.pointer (some ⟨Bn, 0, none⟩)) ∧ W'.cell? ⟨W.heap.size + 1, 0, none⟩ = some (.int .u64 (s : Int)) ∧ W'.cell? ⟨W.heap.size + 1 + 1, 0, none⟩ = some (.slice (some ⟨g, 0, none⟩) xs.length N) ∧ W'.cell? ⟨W.heap.size + 1 + 1 + 1, 0, none⟩ = some (.func (.yield l) #[] #[])) hm ?_
      simp only [List.length_cons, List.length_nil, Nat.reduceAdd]
      refine heldIn_take (i := 0) (v := .pointer (some ⟨Bn, 0, none⟩)) (fun _ => trivial) (by kernel_rfl) (by kernel_rfl) (fun _ _ _ _ _ h => h) rfl rfl (by kernel_rfl) (fun W' hC => by obtain ⟨c0, c1, c2, c3⟩ := hC; go_simp) ?_
      simp only [Act.put, List.setIfInBounds_toArray, List.set_cons_succ, List.set_cons_zero]
      refine heldIn_take (i := 1) (v := .int .u64 (s : Int)) (fun _ => trivial) (by kernel_rfl) (by kernel_rfl) (fun _ _ _ _ _ h => h) rfl rfl (by kernel_rfl) (fun W' hC => by obtain ⟨c0, c1, c2, c3⟩ := hC; go_simp) ?_
      simp only [Act.put, List.setIfInBounds_toArray, List.set_cons_succ, List.set_cons_zero]
      refine heldIn_take (i := 2) (v := .int .i64 (a : Int)) (fun _ => trivial) (by kernel_rfl) (by kernel_rfl) (fun _ _ _ _ _ h => h) rfl rfl (by kernel_rfl) (fun W' hC => by obtain ⟨c0, c1, c2, c3⟩ := hC; go_simp) ?_
      simp only [Act.put, List.setIfInBounds_toArray, List.set_cons_succ, List.set_cons_zero]
      refine heldIn_take (i := 3) (v := .int .u64 (IntKind.u64.wrap (2 ^ a))) (fun _ => trivial) (by kernel_rfl) (by kernel_rfl) (fun _ _ _ _ _ h => h) rfl rfl (by kernel_rfl) (fun W' hC => by obtain ⟨c0, c1, c2, c3⟩ := hC; go_simp) ?_
      simp only [Act.put, List.setIfInBounds_toArray, List.set_cons_succ, List.set_cons_zero]
      refine heldIn_take (i := 4) (v := .int .u64 (bits BinOp.andNot IntKind.u64 (s : Int) (IntKind.u64.wrap (2 ^ a)))) (fun _ => trivial) (by kernel_rfl) (by kernel_rfl) (fun _ _ _ _ _ h => h) rfl rfl (by kernel_rfl) (fun W' hC => by obtain ⟨c0, c1, c2, c3⟩ := hC; go_simp) ?_
      simp only [Act.put, List.setIfInBounds_toArray, List.set_cons_succ, List.set_cons_zero]
      rw [hcb]
      refine heldIn_take (i := 5) (v := .slice (some ⟨g, 0, none⟩) xs.length N) (fun _ => trivial) (by kernel_rfl) (by kernel_rfl) (fun _ _ _ _ _ h => h) rfl rfl (by kernel_rfl) (fun W' hC => by obtain ⟨c0, c1, c2, c3⟩ := hC; go_simp) ?_
      simp only [Act.put, List.setIfInBounds_toArray, List.set_cons_succ, List.set_cons_zero]
      refine heldIn_take (i := 6) (v := .int .i64 (a : Int)) (fun _ => trivial) (by kernel_rfl) (by kernel_rfl) (fun _ _ _ _ _ h => h) rfl rfl (by kernel_rfl) (fun W' hC => by obtain ⟨c0, c1, c2, c3⟩ := hC; go_simp) ?_
      simp only [Act.put, List.setIfInBounds_toArray, List.set_cons_succ, List.set_cons_zero]
      refine heldIn_take (i := 9) (v := .func (.yield l) #[] #[]) (fun _ => trivial) (by kernel_rfl) (by kernel_rfl) (fun _ _ _ _ _ h => h) rfl rfl (by kernel_rfl) (fun W' hC => by obtain ⟨c0, c1, c2, c3⟩ := hC; go_simp) ?_
      simp only [Act.put, List.setIfInBounds_toArray, List.set_cons_succ, List.set_cons_zero]
      refine heldIn_one (i := 7) rfl ⟨a0.cell, a1.cell, a2.cell, a3.cell⟩ (by kernel_rfl) (by kernel_rfl) ?_
      refine ⟨fun _ _ => trivial, ?_⟩
      rw [Oper.semAt_eq _ _ _ (fun c h => by cases h)]
      go_simp
      have hp3 : (W3.alloc (.cells #[.int .i64 (a : Int)] 3)).drew.cell? ⟨W3.heap.size, 0, none⟩ = some (.int .i64 (a : Int)) := by
        rw [cell_of_row _ _ 0 _ _ _ (show (W3.alloc (.cells #[.int .i64 (a : Int)] 3)).drew.heap[W3.heap.size]? = some (.cells #[.int .i64 (a : Int)] 3 (0, 0)) from heap_alloc_new W3 _)]
        rfl
      have hB34 : Below W3.heap.size W3 (W3.alloc (.cells #[.int .i64 (a : Int)] 3)).drew := ((Below.refl _ W3).alloc (Nat.le_refl _) _).drew
      have hrow4 := hrow3.on hB34
      have hz3 := hk3.size
      generalize (W3.alloc (.cells #[.int .i64 (a : Int)] 3)).drew = W4 at *
      obtain ⟨W5, hr5, hrow5, hO5⟩ := hrow4.push (by omega) ⟨W3.heap.size, 0, none⟩ 1 a hp3
      have hS4 : KeepS (fun k => (k < n₀ ∨ k = Br ∨ m ≤ k) ∧ k ≠ g) W2 W4 := hk3.trans (KeepS.of_below hB34)
      have hS45 : KeepS (fun k => (k < n₀ ∨ k = Br ∨ m ≤ k) ∧ k ≠ g) W4 W5 := ⟨hO5.os, hO5.tape, hO5.output, Nat.le_of_eq hO5.size.symm, fun k o hk ho => (hO5.block k hk.2).trans ho⟩
      have hS5 := hS4.trans hS45
      have hT5 : Tab W5 := hTh.out.below (hS5.below (n := n₀) (fun k h => ⟨.inl h, by omega⟩) (by omega)) hn₀
      have hR5 : RelAt W5 Bn Nn B := hS5.block _ _ ⟨by omega, hne⟩ hR2
      have hj5 : J g (pre0 ++ pre.flatMap fun a => compl B d (clr s a) (xs ++ [a])) W5 := HJ.out _ _ _ _ (HJ.out _ _ _ _ hj3 (Chg.of_below hB34)) (Chg.only hO5 hgm (fun _ => .inr rfl))
      have hlen : (xs ++ [a]).length = xs.length + 1 := by simp
      have hpre2 : (pre0 ++ pre.flatMap fun a => compl B d (clr s a) (xs ++ [a])) ++ compl B d (clr s a) (xs ++ [a]) <+: L := by
        refine List.IsPrefix.trans ?_ hp
        rw [List.append_assoc, List.prefix_append_right_inj, compl]
        obtain ⟨r, hr⟩ := hpre
        exact ⟨r.flatMap fun a => compl B d (clr s a) (xs ++ [a]), by rw [← hr]; simp⟩
      have hcl := els_clr_len s a hs hmem
      have IH := ih (clr s a) (xs ++ [a]) _ 3 W5 (by omega) (clr_lt s a hs) (by omega) hpre2 hT5 (by have := hS5.size; omega) hR5 hrow5 hj5
      rw [hlen] at IH
      have x0 : Boxed W5 W.heap.size 82 (.pointer (some ⟨Bn, 0, none⟩)) := hS5.block _ _ ⟨by omega, by omega⟩ b0
      have x1 : Boxed W5 (W.heap.size + 1) 23 (.int .u64 (s : Int)) := hS5.block _ _ ⟨by omega, by omega⟩ b1
      have x2 : Boxed W5 (W.heap.size + 1 + 1) 46 (.slice (some ⟨g, 0, none⟩) xs.length N) := hS5.block _ _ ⟨by omega, by omega⟩ b2
      have x3 : Boxed W5 (W.heap.size + 1 + 1 + 1) 108 (.func (.yield l) #[] #[]) := hS5.block _ _ ⟨by omega, by omega⟩ b3
      have y0 : Boxed W4 W.heap.size 82 (.pointer (some ⟨Bn, 0, none⟩)) := hS4.block _ _ ⟨by omega, by omega⟩ b0
      have y1 : Boxed W4 (W.heap.size + 1) 23 (.int .u64 (s : Int)) := hS4.block _ _ ⟨by omega, by omega⟩ b1
      have y2 : Boxed W4 (W.heap.size + 1 + 1) 46 (.slice (some ⟨g, 0, none⟩) xs.length N) := hS4.block _ _ ⟨by omega, by omega⟩ b2
      have y3 : Boxed W4 (W.heap.size + 1 + 1 + 1) 108 (.func (.yield l) #[] #[]) := hS4.block _ _ ⟨by omega, by omega⟩ b3
      refine heldIn_one (i := 8) rfl ⟨y0.cell, y1.cell, y2.cell, y3.cell⟩ (by kernel_rfl) (by kernel_rfl) ?_
      refine wpIn_append_run (fun _ => trivial) (.tmp 24) (.tmp 26) 46 rfl rfl rfl hr5 ?_
      simp only [Act.put, List.setIfInBounds_toArray, List.set_cons_succ, List.set_cons_zero]
      refine heldIn_one (i := 10) rfl ⟨x0.cell, x1.cell, x2.cell, x3.cell⟩ (by kernel_rfl) (by kernel_rfl) ?_
      refine wpIn_call_run (fun _ => trivial) rfl (fun c h => by cases h) (f := 97) (args := #[.pointer (some ⟨Bn, 0, none⟩), .int .u64 (clr s a : Int), .slice (some ⟨g, 0, none⟩) (xs.length + 1) N, .func (.yield l) #[] #[]]) (by go_simp) (CallsIn.inRound l2 (callsIn_wide.2 (callsIn_wide.1 IH))) ?_
      rintro e W6 ⟨⟨hkC, hrow6⟩, hend⟩
      have hS6 := hS5.trans hkC
      have z0 : Boxed W6 W.heap.size 82 (.pointer (some ⟨Bn, 0, none⟩)) := hS6.block _ _ ⟨by omega, by omega⟩ b0
      have z1 : Boxed W6 (W.heap.size + 1) 23 (.int .u64 (s : Int)) := hS6.block _ _ ⟨by omega, by omega⟩ b1
      have z2 : Boxed W6 (W.heap.size + 1 + 1) 46 (.slice (some ⟨g, 0, none⟩) xs.length N) := hS6.block _ _ ⟨by omega, by omega⟩ b2
      have z3 : Boxed W6 (W.heap.size + 1 + 1 + 1) 108 (.func (.yield l) #[] #[]) := hS6.block _ _ ⟨by omega, by omega⟩ b3
      have z4 : Boxed W6 (W.heap.size + 1 + 1 + 1 + 1) 4 (.bool false) := hS6.block _ _ ⟨by omega, by omega⟩ b4
      have hkK : KeepK (fun k => k < n₀ ∨ k = Bn ∨ k = W.heap.size + 5 + 1 ∨ k = W.heap.size + 5) W2.heap.size W3 W6 :=
        ⟨hkC.os.trans (hO5.os.trans hB34.os), hkC.tape.trans (hO5.tape.trans hB34.tape), hkC.output.trans (hO5.output.trans hB34.output), Nat.le_trans hB34.size (Nat.le_trans (Nat.le_of_eq hO5.size.symm) hkC.size), fun k o hk ho =>
          hkC.block k o ⟨by omega, by omega⟩ ((hO5.block k (by omega)).trans ((hB34.block k (Array.getElem?_eq_some_iff.1 ho).1).trans ho))⟩
      have hrowx := hrow6.front
      rcases hend with ⟨rfl, hj6⟩ | ⟨rfl, pr, hpr, hj6⟩
      · refine ⟨_, rfl, ?_⟩
        simp only [Act.put, List.setIfInBounds_toArray, List.set_cons_succ, List.set_cons_zero]
        refine heldIn_one (i := 11) rfl ⟨z0.cell, z1.cell, z2.cell, z3.cell⟩ (by kernel_rfl) (by kernel_rfl) ?_
        refine ⟨fun _ _ => trivial, ?_⟩
        rw [Oper.semAt_eq _ _ _ (fun c h => by cases h)]
        go_simp
        refine heldIn_done ⟨z0.cell, z1.cell, z2.cell, z3.cell⟩ (by kernel_rfl) ?_
        gi_wp2
        refine ⟨hkK, ?_, hrowx, hS6⟩
        rw [List.flatMap_append, ← List.append_assoc, List.flatMap_singleton]
        exact hj6
      · refine ⟨_, rfl, ?_⟩
        simp only [Act.put, List.setIfInBounds_toArray, List.set_cons_succ, List.set_cons_zero]
        refine heldIn_one (i := 11) rfl ⟨z0.cell, z1.cell, z2.cell, z3.cell⟩ (by kernel_rfl) (by kernel_rfl) ?_
        refine ⟨fun _ _ => trivial, ?_⟩
        rw [Oper.semAt_eq _ _ _ (fun c h => by cases h)]
        go_simp
        refine heldIn_done ⟨z0.cell, z1.cell, z2.cell, z3.cell⟩ (by kernel_rfl) ?_
        have f4 := z4.frozen
        have c4 := z4.cell
        gi_wp2
        refine ⟨hkK.trans (KeepK.setCell _ _ _ (by simp; omega) (by simp; omega)), rfl, ⟨pr, hpr, HJx.out _ _ _ _ hj6 (Chg.setCell W6 _ _ (by simp; omega) (fun o ho => .inl ⟨_, _, (Option.some.inj (ho.symm.trans z4))⟩))⟩, hrowx.same fun o ho => (Below.heap_setCell W6 _ _ g (by simp; omega)).trans ho, ?_, z4.set _⟩
        exact ⟨hS6.os, hS6.tape, hS6.output, Nat.le_trans hS6.size (by simp [World.setCell]), fun k o hk ho => (Below.heap_setCell W6 _ _ k (by simp; omega)).trans (hS6.block k o hk.1 ho)⟩
    case done =>
      rintro D g' W4 hD ⟨hj4, hrow4, hk4⟩ hDf
      have hb4 : Boxed W4 (W.heap.size + 1 + 1 + 1 + 1) 4 (.bool false) := hk4.block _ _ ⟨by omega, by omega⟩ b4
      have f4 := hb4.frozen
      have c4 := hb4.cell
      have hD5 : (W4.setCell ⟨W.heap.size + 1 + 1 + 1 + 1, 0, none⟩ (.bool true)).heap[D]? = some (.deferred (some [])) := (Below.heap_setCell W4 _ _ D (by simp; omega)).trans hDf
      gi_wp2
      refine ⟨by simp, .inl ⟨_, _, rfl, run_takeDeferred hD5, ?_⟩⟩
      refine ⟨_, hb_result2 W4 (W.heap.size + 1 + 1 + 1 + 1) true hb4 D (by omega) rfl, ?_⟩
      have hC : Chg exO m g W4 ((W4.setCell ⟨W.heap.size + 1 + 1 + 1 + 1, 0, none⟩ (.bool true)).putObj D (.deferred none)) :=
        (Chg.setCell W4 _ _ (by simp; omega) (fun o ho => .inl ⟨_, _, (Option.some.inj (ho.symm.trans hb4))⟩)).trans (Chg.putObj _ _ _ hD5 (by omega) rfl)
      refine ⟨⟨(((KeepS.of_below hB6h.out).trans hk4).setNew _ _ (by simp; omega)).putNew _ _ (by omega), hrow4.same fun o ho => ?_⟩, .inl ⟨rfl, ?_⟩⟩
      · exact (World.putObj_heap_other (by omega)).trans ((Below.heap_setCell W4 _ _ g (by simp; omega)).trans ho)
      · exact HJ.out _ _ _ _ hj4 hC
    case stop =>
      rintro D g' c pre W4 hD hpre ⟨rfl, ⟨pr, hpr, hj4⟩, hrow4, hk4, hb4⟩ hDf
      gi_wp2
      refine ⟨by simp, .inl ⟨_, _, rfl, run_takeDeferred hDf, ?_⟩⟩
      refine ⟨_, hb_result3 W4 (W.heap.size + 1 + 1 + 1 + 1) false hb4 D (by omega) rfl, ?_⟩
      refine ⟨⟨KeepS.putNew ⟨hk4.os.trans hB6h.out.os, hk4.tape.trans hB6h.out.tape, hk4.output.trans hB6h.out.output, Nat.le_trans hB6h.out.size hk4.size, fun k o hk ho => ?_⟩ _ _ (by omega), hrow4.same fun o ho => (World.putObj_heap_other (by omega)).trans ho⟩, .inr ⟨rfl, pr, hpr, HJx.out _ _ _ _ hj4 (Chg.putObj _ _ _ hDf (by omega) rfl)⟩⟩
      have hlt := (Array.getElem?_eq_some_iff.1 ho).1
      exact hk4.block k o ⟨hk, by omega⟩ ((hB6h.out.block k hlt).trans ho)
end Go.Proofs.YtpbljciblgcgfaaDoor
end

section
/- order.orders: what its range function hands to a loop's body. -/
namespace Go.Proofs.YtpbljciblgcgfaaDoor
open Go.RowKit Go.Shelf

attribute [local go_sem] Oper.semAt_some

theorem els_all (N : Nat) (h : N ≤ 48) : MM.els (allOf (N : Int)).toNat = List.range N := by
  unfold MM.els
  obtain ⟨d, hd⟩ : ∃ d, 64 = N + d := ⟨64 - N, by omega⟩
  rw [hd, List.range_add, List.filter_append, List.filter_eq_self.2, List.filter_eq_nil_iff.2, List.append_nil]
  · intro a ha
    obtain ⟨j, _, rfl⟩ := List.mem_map.1 ha
    rw [allOf_bits N _ h]
    simp
  · intro a ha
    rw [allOf_bits N _ h]
    simpa using ha
/-- The rows of a relation's inverse. -/
noncomputable def invF (N : Nat) (f : Nat → Nat) : Nat → Nat := backL (pairsK f N)
/-- The orders that respect a relation, in the order in which they come. -/
noncomputable def ordL (N : Nat) (f : Nat → Nat) : List (List Nat) := if (topF N f).isSome then compl (invF N f) N (allOf (N : Int)).toNat [] else []
/-- The value of an order, in row g. -/
def encO (N : Nat) (g : Nat) (_ : List Nat) : Array Value := #[.slice (some ⟨g, 0, none⟩) N N]
def isO (N : Nat) (g : Nat) (x : List Nat) (W : World) : Prop := RowP W g N x ∧ x.length = N

theorem rowP_make (W : World) (N : Nat) (hN : N ≤ 48) : ∃ W', (Instr.makeSlice 46 (.int .i64 0) (.int .i64 (N : Int))).run Tryd.prog W = .ok (.slice (some ⟨W.heap.size, 0, none⟩) 0 N) W' ∧ RowP W' W.heap.size N [] ∧ Below W.heap.size W W' := by
  obtain ⟨i, hi, hz, hsz, hby⟩ := infoIntC
  obtain ⟨W', hr, h1, h2⟩ := run_make_own (P := Tryd.prog) W 0 46 3 i (.int .i64 0) 1 undInts hi hz hsz .i64 .i64 N (by rw [hby]; omega) (by unfold maxLen; omega) (Nat.zero_le _)
  refine ⟨W', hr, ?_, ⟨h2.os, h2.tape, h2.output, h2.size, fun k hk => h2.block k hk (by simp)⟩⟩
  rcases h1.2 with ⟨he, _⟩ | ⟨g, cap, cur, he, _, hg, _, _, hc, ht⟩
  · cases he
  · cases he
    exact ⟨cur, hg, by omega, by simp⟩

set_option maxHeartbeats 400000 in
theorem orders_any (n : Int) (f : Nat → Nat) (w : World) :
    Calls Tryd.prog 87 #[.agg (relC n f)] w fun e w' => e = .returned (.func (.func 96) #[] #[.pointer (some ⟨w.heap.size, 0, none⟩)]) ∧ w.alloc (.cells (relC n f) 26) = w' := by
  go_enter Tryd.func87, Tryd.ntmps87
  go_wp2
  go_ret
  exact ⟨rfl, rfl⟩

theorem yieldAt_any {m m' : Nat} {P : Program} {l : Nat} {args : Array Value} {W : World} {R : Ending → World → Prop} (h : YieldAt Fence.wide m P l args W R) : YieldAt Fence.wide m' P l args W R := by
  obtain ⟨fn, tmps, assign, body, hy, hR⟩ := h
  exact ⟨fn, tmps, assign, body, hy, hR.1, fun c cs _ => hR.2 c cs (room_wide _)⟩
theorem make_run {a : Act} {o : Oper} {t : TypeId} {x y : Operand} {vx vy v : Value} {W W' : World} (ho : o.op = .makeSlice t x y) (hxy : (a.eval x, a.eval y) = (vx, vy)) (hr : (Instr.makeSlice t vx vy).run Tryd.prog W = .ok v W') : (execOp a.eval o).run Tryd.prog W = .ok (.value v) W' := by
  obtain ⟨hx, hy⟩ := Prod.mk.inj hxy
  unfold execOp
  simp only [ho, hx, hy, Sem.run_bind, Sem.run_pure, hr, Result.andThen_ok]

set_option maxRecDepth 100000 in
set_option maxHeartbeats 2000000 in
theorem orders1_gives (n : Nat) (Br n₀ : Nat) (hn₀ : 0 < n₀) (N : Nat) (f : Nat → Nat) (hf : R64 f) (hr : rightB N f = true) (w : World) (hT : Tab w) (hsz : n₀ ≤ w.heap.size) (hR : RelAt w Br N f) (hBr0 : Br < w.heap.size) :
    GivesSome Fence.wide n Tryd.prog 96 #[.pointer (some ⟨Br, 0, none⟩)] (encO N) exO (fun k => k < n₀ ∨ k = Br) (isO N) (ordL N f) w := by
  intro l J Jx W hW hJ hJx hY hJ0
  refine callsIn_wide.2 ((callsIn_wide (n := 5)).1 ?_)
  obtain ⟨⟨-, hN48⟩, -⟩ := rightB_iff.1 hr
  replace hN48 : N ≤ 48 := by omega
  have HA := Lib.hid (fun W hT => acyclic_any N f W hf hT)
  have HB := Lib.hid (fun W hT => back_any N f W hf hT)
  rw [hr] at HB
  change Hid (∀ W, Tab W → Calls _ _ _ W fun e w' => e = .returned (.agg (relC (N : Int) (invF N f))) ∧ Below W.heap.size W w') at HB
  replace hR := hR.on hW
  replace hT := hT.below hW hT.pos
  have l1 := hR.ld
  have HL := Lib.hid (show ordL N f = if (topF N f).isSome then compl (invF N f) N (allOf (N : Int)).toNat [] else [] by rfl)
  have HJ := Lib.hid hJ
  have HJx := Lib.hid hJx
  have HY := Lib.hid hY
  have HJ0 := Lib.hid hJ0
  have hWs := hW.size
  clear hJ hJx hY hJ0 hW
  refine callsIn_of_wp Tryd.func96 rfl trivial ?_ rfl
  simp only [Tryd.ntmps96, List.size_toArray, List.length_cons, List.length_nil, Nat.reduceAdd, Nat.reduceSub, Array.replicate_succ, Array.replicate_zero, List.push_toArray, List.append_toArray, List.nil_append, List.cons_append]
  generalize hb : (topF N f).isSome = b at *
  cases b
  · gi_wp2_with fail
    refine ⟨trivial, ?_⟩
    refine (callsIn_wide.2 (HA.out _ hT)).mono ?_
    rintro e w1 ⟨rfl, h1⟩
    gi_wp2
    refine bodyPost_ret (results_none rfl _ _ _) rfl ?_
    refine ⟨⟨_, rfl⟩, .inl ⟨W.heap.size, ?_⟩⟩
    rw [HL.out]
    exact HJ.out _ _ _ _ (HJ0.out _ (Nat.le_refl _)) (Chg.of_below h1)
  · gi_wp2_with fail
    refine ⟨trivial, ?_⟩
    refine (callsIn_wide.2 (HA.out _ hT)).mono ?_
    rintro e w1 ⟨rfl, h1⟩
    have hR1 := hR.on h1
    have hT1 := hT.below h1 hT.pos
    have l2 := hR1.ld
    gi_wp2_with fail
    refine ⟨trivial, ?_⟩
    refine (callsIn_wide.2 (HB.out _ hT1)).mono ?_
    rintro e w2 ⟨rfl, h2⟩
    obtain ⟨W3, hs3, hu3, h3, -⟩ := Ex.lay w2 N (invF N f)
    have hR3 := (hR1.on h2).on h3
    have hT3 := (hT1.below h2 hT1.pos).below h3 (hT1.below h2 hT1.pos).pos
    have hB3 := thru (thru h1 h2) h3
    have c0 := hR3.num
    have hm : Tryd.prog.follows .mixedOrders = true := by kernel_rfl
    clear l1 l2
    gi_upto_region 2 with fail
    refine wpIn_region_heldP (fun W' => W'.cell? ⟨Br, 0, none⟩ = some (.int .i64 (N : Int))) hm ?_
    simp only [List.length_cons, List.length_nil, Nat.reduceAdd]
    refine heldIn_take (i := 0) (v := .pointer (some ⟨Br, 0, none⟩)) (fun _ => trivial) (by kernel_rfl) (by kernel_rfl) (fun _ _ _ _ _ h => h) rfl rfl (by kernel_rfl) (fun W' hC => by go_simp) ?_
    simp only [Act.put, List.setIfInBounds_toArray, List.set_cons_succ, List.set_cons_zero]
    refine heldIn_take (i := 1) (v := .int .i64 (N : Int)) (fun _ => trivial) (by kernel_rfl) (by kernel_rfl) (fun _ _ _ _ _ h => h) rfl rfl (by kernel_rfl) (fun W' hC => by go_simp) ?_
    simp only [Act.put, List.setIfInBounds_toArray, List.set_cons_succ, List.set_cons_zero]
    refine heldIn_take (i := 3) (v := .pointer (some ⟨Br, 0, none⟩)) (fun _ => trivial) (by kernel_rfl) (by kernel_rfl) (fun _ _ _ _ _ h => h) rfl rfl (by kernel_rfl) (fun W' hC => by go_simp) ?_
    simp only [Act.put, List.setIfInBounds_toArray, List.set_cons_succ, List.set_cons_zero]
    refine heldIn_take (i := 4) (v := .int .i64 (N : Int)) (fun _ => trivial) (by kernel_rfl) (by kernel_rfl) (fun _ _ _ _ _ h => h) rfl rfl (by kernel_rfl) (fun W' hC => by go_simp) ?_
    simp only [Act.put, List.setIfInBounds_toArray, List.set_cons_succ, List.set_cons_zero]
    refine heldIn_take (i := 6) (v := .func (.yield l) #[] #[]) (fun _ => trivial) (by kernel_rfl) (by kernel_rfl) (fun _ _ _ _ _ h => h) rfl rfl (by kernel_rfl) (fun W' hC => by go_simp) ?_
    simp only [Act.put, List.setIfInBounds_toArray, List.set_cons_succ, List.set_cons_zero]
    have hW3 : Below W.heap.size W W3.drew := hB3.drew
    have hR3d : RelAt W3.drew Br N f := hR3
    have hu3d : RelAt W3.drew w2.heap.size N (invF N f) := hu3
    have hT3d : Tab W3.drew := hT3
    generalize W3.drew = W3 at *
    obtain ⟨W4, hr4, hrow4, hB4⟩ := rowP_make W3 N hN48
    refine heldIn_call_or (i := 2) (j := 5) (f := 66) (args := #[.int .i64 (N : Int)]) (v := .int .u64 (allOf (N : Int))) (u := .slice (some ⟨W3.heap.size, 0, none⟩) 0 N) (w' := W4) (fun _ => trivial) rfl (fun c h => by cases h) (fun c h => by cases h) rfl rfl rfl rfl
      hR3d.num (hR3d.on hB4).num (by kernel_rfl) (by kernel_rfl) (by kernel_rfl) rfl rfl (by go_simp) (by simp only [Act.put, List.setIfInBounds_toArray, List.set_cons_succ, List.set_cons_zero]; go_simp) (fun W' => callsIn_wide.2 (all_any (N : Int) W')) (make_run rfl rfl hr4) (make_run rfl rfl hr4)
      (by simp only [Act.put, List.setIfInBounds_toArray, List.set_cons_succ, List.set_cons_zero]) (by kernel_rfl) ?_
    simp only [Act.put, List.setIfInBounds_toArray, List.set_cons_succ, List.set_cons_zero]
    have hR4 := hR3d.on hB4
    have hu4 := hu3d.on hB4
    have hT4 := hT3d.below hB4 hT3d.pos
    have hs34 := hW3.size
    have hul := hu3d.lt
    have hj4 := HJ.out W3.heap.size _ _ _ (HJ0.out W3.heap.size hs34) (Chg.of_below (thru hW3 hB4))
    have h12 := (thru h1 h2).size
    have hlen := els_all N hN48
    obtain ⟨ha0, ha1⟩ := allOf_lt48 (N : Int) (by omega) (by omega)
    have HC := complete_in W.heap.size n₀ Br w2.heap.size W3.heap.size hn₀ (by omega) (by omega) hs34 (by omega) N (invF N f) (fun i => Nat.lt_of_lt_of_le (backL_lt _ i) (by decide)) N hN48 l J Jx HJ.out HJx.out (ordL N f)
      (fun nY pre x W1 hj hrow hx hp => yieldAt_any (HY.out _ pre x W1 hj ⟨hrow, hx⟩ hs34 hp)) N (allOf (N : Int)).toNat [] [] 3 W4 (by rw [hlen]; simp) ha0 (by simp) (by rw [HL.out]; simp) hT4 (by have := hB4.size; omega) hu4 hrow4 hj4
    rw [← ha1] at HC
    clear ha1 ha0 hlen
    have hBr : Br < w.heap.size := hBr0
    refine heldIn_one (i := 7) rfl hR4.num (by kernel_rfl) (by kernel_rfl) ?_
    refine wpIn_call_run (fun _ => trivial) rfl (fun c h => by cases h) (f := 97) (args := #[.pointer (some ⟨w2.heap.size, 0, none⟩), .int .u64 (allOf (N : Int)), .slice (some ⟨W3.heap.size, 0, none⟩) 0 N, .func (.yield l) #[] #[]]) (by go_simp) (callsIn_wide.2 (callsIn_wide.1 HC)) ?_
    rintro e W5 ⟨⟨hk5, -⟩, h5⟩
    have hR5 : RelAt W5 Br N f := hk5.block _ _ ⟨.inr (.inl rfl), by omega⟩ hR4
    have hv : ∃ v, e = .returned v := by rcases h5 with ⟨rfl, _⟩ | ⟨rfl, _⟩ <;> exact ⟨_, rfl⟩
    obtain ⟨v, rfl⟩ := hv
    refine ⟨v, rfl, ?_⟩
    simp only [Act.put, List.setIfInBounds_toArray, List.set_cons_succ, List.set_cons_zero]
    refine heldIn_doneP hR5.num (by kernel_rfl) ?_
    have hfin : (∃ g, J g (ordL N f) W5) ∨ ∃ g pre, pre <+: ordL N f ∧ Jx g pre W5 := by
      rcases h5 with ⟨_, h⟩ | ⟨_, pre, hp, h⟩
      · exact .inl ⟨_, by rw [HL.out]; simpa using h⟩
      · exact .inr ⟨_, pre, hp, h⟩
    clear h5
    gi_wp2
    go_end0
    exact ⟨⟨_, rfl⟩, hfin⟩
end Go.Proofs.YtpbljciblgcgfaaDoor
end
