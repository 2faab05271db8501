/- WideTake, OrdClone, OrdList, OrdAll, OrdMath, OrdTotAlg, OrdTotAlg2 in one text, for the claim. -/
import Derived.Test.YtpmlomhlbmgilaaDoorOtM3
import Derived.Test.YtpmlomhlbmgilaaDoorOtM4
import Derived.Laws.AppendOwn
import Derived.Test.YtpmlomhlbmgilaaDoorRelAid
import Derived.Test.YtpmlomhlbmgilaaDoorOtM2
import Derived.Test.YtpmlomhlbmgilaaDoorOtM1

section
/- A region that draws its order at a fence that bars no function: an operation that looks may be taken first if all that can come ahead of it keeps what it looks at. -/
namespace Go.Proofs.YtpmlomhlbmgilaaDoor
section
variable {F : Fence} {m : Nat} {P : Program} {ops : Array Oper} {md : Region.Mode} {Q : Exit → Act → World → Prop} {C : World → Prop}

/-- The class is owed for t operations more. -/
def wpAnyT (F : Fence) (m : Nat) (P : Program) (md : Region.Mode) (ops : Array Oper) (C : World → Prop) (Q : Exit → Act → World → Prop) : Nat → Nat → Array Bool → Act → World → Prop
  | 0, f, listed, a, w => wpAnyIn F m P md ops Q f listed a w
  | _ + 1, 0, _, _, _ => False
  | t + 1, f + 1, listed, a, w => (Region.ready md ops listed = [] → Q .normal a w) ∧ ∀ i ∈ Region.ready md ops listed, wpOpIn F m P ops Q i (fun a' w' => C w' ∧ wpAnyT F m P md ops C Q t f (listed.setIfInBounds i true) a' w') a w
theorem wpAnyT.any : ∀ {t f : Nat} {listed : Array Bool} {a : Act} {w : World}, wpAnyT F m P md ops C Q t f listed a w → wpAnyIn F m P md ops Q f listed a w
  | 0, _, _, _, _, h => h
  | _ + 1, 0, _, _, _, h => h.elim
  | _ + 1, _ + 1, _, _, _, h => ⟨h.1, fun i hi => wpOpIn_mono (fun _ _ h' => h'.2.any) (h.2 i hi)⟩
/-- Operation i comes up after t others at the latest. -/
def Region.mustBy (md : Region.Mode) (ops : Array Oper) (i : Nat) : Nat → Array Bool → Bool
  | 0, listed => decide (Region.ready md ops listed = [i])
  | t + 1, listed => (Region.ready md ops listed).all fun j => decide (j = i) || Region.mustBy md ops i t (listed.setIfInBounds j true)

theorem wpAnyT_first {i : Nat} {oi : Oper} {v : Value} (hF : ∀ f, F.fn f) (hd : ∀ (j : Nat) (o : Oper) c, ops[j]? = some o → o.op ≠ .defer c) (hi : ops[i]? = some oi) (hsel : ∀ (j : Nat) (o : Oper) cs b, ops[j]? = some o → o.op ≠ .select cs b)
    (hQ : ∀ c a w, Q (.panic c) (a.put oi.dst v) w → Q (.panic c) a w) :
    ∀ (t fuel : Nat) (listed : Array Bool) (a : Act) (w : World), Region.mustBy md ops i t listed = true →
      (∀ j oj, ops[j]? = some oj → j ≠ i → listed.getD j true = false → (∀ e ∈ oj.after, Region.binds md e = true → e.on ≠ i) → oi.apart ops oj = true) →
      i ∈ Region.ready md ops listed → YieldsC P ops C oi v a → C w →
      wpAnyT F m P md ops C Q t fuel (listed.setIfInBounds i true) (a.put oi.dst v) w → wpAnyIn F m P md ops Q (fuel + 1) listed a w := by
  intro t
  induction t with
  | zero =>
    intro fuel listed a w hm _ hr hy hC H
    simp only [Region.mustBy, decide_eq_true_eq] at hm
    refine ⟨fun h => (by rw [h] at hr; cases hr), fun j hj => ?_⟩
    rw [hm] at hj
    obtain rfl : j = i := by simpa using hj
    exact hy.wpOpIn hF (hd j oi · hi) hi hC H
  | succ t ih =>
    intro fuel listed a w hm hfree hr hy hC H
    refine ⟨fun h => (by rw [h] at hr; cases hr), fun j hj => ?_⟩
    by_cases hji : j = i
    · subst hji; exact hy.wpOpIn hF (hd j oi · hi) hi hC H.any
    · cases fuel with
      | zero => exact H.elim
      | succ fuel =>
        have h1 := H.2 j (ready_mono hj hji)
        have hmj : Region.mustBy md ops i t (listed.setIfInBounds j true) = true := by
          have := List.all_eq_true.1 hm j hj
          simpa [hji] using this
        obtain ⟨hjun, oj, hoj, hall⟩ := mem_ready.1 hj
        have hnot : ∀ e ∈ oj.after, Region.binds md e = true → e.on ≠ i := fun e he hb heq => by
          have h1 := hall e he hb
          have h0 := (mem_ready.1 hr).1
          rw [heq] at h1
          rcases Nat.lt_or_ge i listed.size with h' | h'
          · simp [h'] at h0 h1; rw [h0] at h1; cases h1
          · simp [Array.getElem?_eq_none h'] at h1
        have h2 := wpOpIn_putC hF (hd j oj · hoj) hoj (hfree j oj hoj hji hjun hnot) (fun cs b => hsel i oi cs b hi) (fun cs b => hsel j oj cs b hoj) hQ hy h1
        have hfree' : ∀ k ok, ops[k]? = some ok → k ≠ i → (listed.setIfInBounds j true).getD k true = false →
            (∀ e ∈ ok.after, Region.binds md e = true → e.on ≠ i) → oi.apart ops ok = true := fun k ok hk hki hun hno => by
          refine hfree k ok hk hki ?_ hno
          by_cases hjk : j = k
          · subst hjk; exact hjun
          · rw [getD_set_ne true hjk] at hun; exact hun
        refine wpOpIn_mono (fun a' w' h3 => ih fuel (listed.setIfInBounds j true) a' w' hmj hfree' (ready_mono hr (Ne.symm hji)) h3.1 h3.2.1 ?_) h2
        rw [Array.setIfInBounds_comm _ _ hji]
        exact h3.2.2

/-- Operation i is taken first: after it the class is owed for t operations. -/
theorem wpAnyIn_take_by {i : Nat} {oi : Oper} {d : Tmp} {v : Value} (t : Nat) {fuel : Nat} {listed : Array Bool} {a : Act} {w : World} (C : World → Prop) (hF : ∀ f, F.fn f) (hd : noDefer ops = true) (hs : Region.noSelect ops = true)
    (hQ : ∀ c a d v w, Q (.panic c) (Act.put a d v) w → Q (.panic c) a w) (hi : ops[i]? = some oi) (ht : oi.dst = some d)
    (hf : (Region.free md ops listed i && (Region.ready md ops listed).contains i && Region.wanted oi (yielded ops a.tmps) && Region.mustBy md ops i t listed) = true)
    (hy : ∀ W, C W → (execOp a.eval oi).run P W = .ok (.value v) W) (hC : C w)
    (h : wpAnyT F m P md ops C Q t fuel (listed.setIfInBounds i true) (a.put (some d) v) w) : wpAnyIn F m P md ops Q (fuel + 1) listed a w := by
  rw [← ht] at h
  simp only [Bool.and_eq_true] at hf
  exact wpAnyT_first hF (noDefer_spec hd) hi (Region.noSelect_spec hs) (fun c a w => hQ c a _ _ w) t fuel listed a w hf.2 (Region.free_spec hi hf.1.1.1) (by simpa using hf.1.1.2) (.inl ⟨hf.1.2, hy⟩) hC h
/-- The one operation that is ready, while the class is owed. -/
theorem wpAnyT_one {i : Nat} {oi : Oper} {t fuel : Nat} {listed : Array Bool} {a : Act} {w : World} (hi : ops[i]? = some oi) (hr : Region.ready md ops listed = [i])
    (hw : Region.wanted oi (yielded ops a.tmps) = true) (h : oi.wpIn F m P a w (fun a' w' => C w' ∧ wpAnyT F m P md ops C Q t fuel (listed.setIfInBounds i true) a' w') Q) : wpAnyT F m P md ops C Q (t + 1) (fuel + 1) listed a w := by
  refine ⟨fun h0 => (by rw [hr] at h0; cases h0), fun j hj => ?_⟩
  rw [hr] at hj
  obtain rfl : j = i := by simpa using hj
  unfold wpOpIn
  simp only [hi, hw, if_true]
  exact h
theorem wpAnyT_zero {fuel : Nat} {listed : Array Bool} {a : Act} {w : World} (h : wpAnyIn F m P md ops Q fuel listed a w) : wpAnyT F m P md ops C Q 0 fuel listed a w := h
theorem wpAnyIn_one {i : Nat} {oi : Oper} {fuel : Nat} {listed : Array Bool} {a : Act} {w : World} (hi : ops[i]? = some oi) (hr : Region.ready md ops listed = [i])
    (hw : Region.wanted oi (yielded ops a.tmps) = true) (h : oi.wpIn F m P a w (wpAnyIn F m P md ops Q fuel (listed.setIfInBounds i true)) Q) : wpAnyIn F m P md ops Q (fuel + 1) listed a w := by
  refine ⟨fun h0 => (by rw [hr] at h0; cases h0), fun j hj => ?_⟩
  rw [hr] at hj
  obtain rfl : j = i := by simpa using hj
  unfold wpOpIn
  simp only [hi, hw, if_true]
  exact h
theorem wpIn_region_lit_any {id : Nat} {a : Act} {w : World} {os : List Oper} (hm : P.follows .mixedOrders = true)
    (h : wpAnyIn F m P .any os.toArray Q os.length (Array.replicate os.length false) a w.drew) : (Code.region id os.toArray true).wpIn F m P Q a w := by
  refine wpIn_region_any hm ?_
  simpa using h
end
end Go.Proofs.YtpmlomhlbmgilaaDoor
end

section
/- slices.Clone of an order. -/
namespace Go.Proofs.YtpmlomhlbmgilaaDoor
open Go.RowKit Go.Shelf

attribute [local go_sem] Oper.semAt_some

set_option maxRecDepth 100000 in
set_option maxHeartbeats 1000000 in
theorem clone_any (g N : Nat) (hN : N ≤ 48) (x : List Nat) (W : World) (h : isO N g x W) :
    Calls Tryd.prog 88 #[.slice (some ⟨g, 0, none⟩) N N] W fun e W' => ∃ v, e = .returned v ∧ W'.ownsRow W.heap.size 3 1 v N (x.map intV) ∧ Below W.heap.size W W' := by
  obtain ⟨i, hi, hz, hsz, hby⟩ := infoIntC
  obtain ⟨⟨cur, hg, hc, hx⟩, hxl⟩ := h
  have hcell : ∀ j u, (x.map intV)[j]? = some u → W.cell? ⟨g, j, none⟩ = some u := by
    intro j u hu
    rw [cell_of_row W g j _ _ _ hg, ← Array.getElem?_toList, ← hu, ← hx, hxl, List.getElem?_take]
    have : j < (x.map intV).length := (List.getElem?_eq_some_iff.1 hu).1
    rw [if_pos (by rw [List.length_map, hxl] at this; omega)]
  have hgl := (Array.getElem?_eq_some_iff.1 hg).1
  have Hcell := Lib.hid hcell
  clear hcell hx hg
  go_enter Tryd.func88, Tryd.ntmps88
  have hnil : (binOp BinOp.eql 46 (.slice (some ⟨g, 0, none⟩) N N) (.slice none 0 0)).run Tryd.prog W = .ok (.bool false) W := by
    kernel_rfl
  have hown : (W.alloc (.cells #[] 3)).ownsRow W.heap.size 3 1 (.slice (some ⟨W.heap.size, 0, none⟩) 0 0) 0 [] :=
    ⟨rfl, .inr ⟨W.heap.size, 0, #[], rfl, Nat.le_refl _, heap_alloc_new W _, Nat.le_refl _, by unfold maxLen; omega, rfl, rfl⟩⟩
  have hnews : ∀ j u, (x.map intV)[j]? = some u → (W.alloc (.cells #[] 3)).cell? ((⟨g, 0, none⟩ : Addr).add j) = some u := fun j u hu => by
    have h1 := Hcell.out j u hu
    have hb := below_new W (.cells #[] 3)
    have : (⟨g, 0, none⟩ : Addr).add j = ⟨g, j, none⟩ := by rw [Go.WideShapes.add_plain, Nat.zero_add]
    rw [this]
    exact (hb.cell (p := ⟨g, j, none⟩) hgl).trans h1
  have hbl := below_new W (.cells #[] 3)
  go_wp2_with (at_builtin; refine wpList_append_own _ rfl _ _ 46 rfl W.heap.size 3 i (.int .i64 0) 1 8 undInts hi hz hsz hby rfl (by decide) _ 0 [] rfl hown ⟨g, 0, none⟩ N N (x.map intV) rfl (by simp [hxl]) hnews (by intro u hu; obtain ⟨y, _, rfl⟩ := List.mem_map.1 hu; rfl) (by unfold maxLen; omega) (by omega) (by simp) ?_; intro v1 w2 hown1 hgrow1 _)
  go_ret
  rw [Nat.zero_add, List.nil_append] at hown1
  exact ⟨_, rfl, hown1, hbl.grown hgrow1 (by simp) (fun k hk => by cases hk; exact Nat.le_refl _)⟩

end Go.Proofs.YtpmlomhlbmgilaaDoor
end

section
/- order.Orders. -/
namespace Go.Proofs.YtpmlomhlbmgilaaDoor
open Go.RowKit Go.Shelf

attribute [local go_sem] Oper.semAt_some

theorem infoRowC : ∃ i : TypeInfo, Tryd.prog.info? 46 = some i ∧ i.zero = some (.slice none 0 0) ∧ i.size = 1 ∧ i.bytes = 24 := by
  have h : (Tryd.prog.info? 46).map (fun i => (i.zero, i.size, i.bytes)) = some (some (.slice none 0 0), 1, 24) := by kernel_rfl
  cases hi : Tryd.prog.info? 46 with
  | none => rw [hi] at h; cases h
  | some i =>
    rw [hi] at h
    simp at h
    exact ⟨i, rfl, h.1, h.2.1, h.2.2⟩
theorem undRows : Tryd.prog.underlying 51 = some (.slice 46) := by kernel_rfl

/-- Block b is a row of cap slices that begins with vs. -/
def RowV (W : World) (b cap : Nat) (vs : List Value) : Prop := ∃ cur : Array Value, W.heap[b]? = some (.cells cur 46 (0, 0)) ∧ cur.size = cap ∧ cur.toList.take vs.length = vs
theorem RowV.lt {W : World} {b cap : Nat} {vs : List Value} (h : RowV W b cap vs) : b < W.heap.size := by obtain ⟨cur, h, _⟩ := h; exact (Array.getElem?_eq_some_iff.1 h).1
theorem RowV.same {W W' : World} {b cap : Nat} {vs : List Value} (h : RowV W b cap vs) (hs : ∀ o, W.heap[b]? = some o → W'.heap[b]? = some o) : RowV W' b cap vs := by
  obtain ⟨cur, h1, h2⟩ := h
  exact ⟨cur, hs _ h1, h2⟩
theorem RowV.on {W W' : World} {b cap : Nat} {vs : List Value} (h : RowV W b cap vs) (hb : Below W.heap.size W W') : RowV W' b cap vs := h.same fun o ho => (hb.block b h.lt).trans ho
theorem rowV_make (W : World) (N : Nat) (hN : N ≤ 10000) : ∃ W', (Instr.makeSlice 51 (.int .i64 0) (.int .i64 (N : Int))).run Tryd.prog W = .ok (.slice (some ⟨W.heap.size, 0, none⟩) 0 N) W' ∧ RowV W' W.heap.size N [] ∧ Below W.heap.size W W' := by
  obtain ⟨i, hi, hz, hsz, hby⟩ := infoRowC
  obtain ⟨W', hr, h1, h2⟩ := run_make_own (P := Tryd.prog) W 0 51 46 i (.slice none 0 0) 1 undRows hi hz hsz .i64 .i64 N (by rw [hby]; omega) (by unfold maxLen; omega) (Nat.zero_le _)
  refine ⟨W', hr, ?_, ⟨h2.os, h2.tape, h2.output, h2.size, fun k hk => h2.block k hk (by simp)⟩⟩
  rcases h1.2 with ⟨he, _⟩ | ⟨g, cap, cur, he, _, hg, _, _, hc, ht⟩
  · cases he
  · cases he
    exact ⟨cur, hg, by omega, by simp⟩
theorem RowV.push {W : World} {b cap : Nat} {vs : List Value} (h : RowV W b cap vs) (hlt : vs.length < cap) (ad : Addr) (c : Nat) (v : Value) (hv : v.oneCell' = true) (hc : W.cell? ad = some v) :
    ∃ W', (Builtin.append_ #[51, 51] 51 #[.slice (some ⟨b, 0, none⟩) vs.length cap, .slice (some ad) 1 c]).run Tryd.prog W = .ok (.slice (some ⟨b, 0, none⟩) (vs.length + 1) cap) W' ∧ RowV W' b cap (vs ++ [v]) ∧ Only b W W' := by
  obtain ⟨cur, h1, h2, h3⟩ := h
  obtain ⟨i, hi, hz, hsz, hby⟩ := infoRowC
  have hr := run_append_room (P := Tryd.prog) W 51 51 46 i undRows hi b vs.length cap cur h1 ad 1 c [v] (by rw [hsz]; rfl) (by
    intro j u hu
    cases j with
    | zero => simp at hu; subst hu; simpa [Addr.add] using hc
    | succ j => simp at hu) (by intro u hu; simp at hu; subst hu; exact hv) (by omega) (by rw [hsz]; simp; omega)
  refine ⟨_, hr, ⟨_, setRow_heap W b cur _ _ _ h1, ?_, ?_⟩, ⟨rfl, rfl, rfl, by simp, fun k hk => Go.setRow_other W b k _ hk⟩⟩
  · simp [hsz]
    omega
  · rw [hsz, Nat.mul_one, h3]
    exact List.take_left

/-- The values vs are rows that hold the lists ls, from m on, none of them block g. -/
def RowsOf (W : World) (m g : Nat) (vs : List Value) (ls : List (List Nat)) : Prop :=
  vs.length = ls.length ∧ ∀ (j : Nat) (v : Value) (l : List Nat), vs[j]? = some v → ls[j]? = some l → W.ownsRow m 3 1 v l.length (l.map intV) ∧ v.ownBlock ≠ some g
theorem rowsOf_nil (W : World) (m g : Nat) : RowsOf W m g [] [] := ⟨rfl, fun j v l h => by simp at h⟩
theorem ownsRow_same {W W' : World} {m : Nat} {v : Value} {l : List Nat} (h : W.ownsRow m 3 1 v l.length (l.map intV)) (hs : ∀ b cur, v.ownBlock = some b → m ≤ b → W.heap[b]? = some (.cells cur 3 (0, 0)) → W'.heap[b]? = some (.cells cur 3 (0, 0))) :
    W'.ownsRow m 3 1 v l.length (l.map intV) := by
  refine ⟨h.1, h.2.imp id ?_⟩
  rintro ⟨g, cap, cur, rfl, h1, h2, h3⟩
  exact ⟨g, cap, cur, rfl, h1, hs g cur rfl h1 h2, h3⟩
theorem RowsOf.same {W W' : World} {m g : Nat} {vs : List Value} {ls : List (List Nat)} (h : RowsOf W m g vs ls) (hs : ∀ b cur, b ≠ g → m ≤ b → W.heap[b]? = some (.cells cur 3 (0, 0)) → W'.heap[b]? = some (.cells cur 3 (0, 0))) : RowsOf W' m g vs ls :=
  ⟨h.1, fun j v l hv hl => ⟨ownsRow_same (h.2 j v l hv hl).1 fun b cur hb hm hh => hs b cur (fun e => (h.2 j v l hv hl).2 (by rw [hb, e])) hm hh, (h.2 j v l hv hl).2⟩⟩
theorem RowsOf.push {W : World} {m g : Nat} {vs : List Value} {ls : List (List Nat)} (h : RowsOf W m g vs ls) {v : Value} {l : List Nat} (hv : W.ownsRow m 3 1 v l.length (l.map intV)) (hg : v.ownBlock ≠ some g) : RowsOf W m g (vs ++ [v]) (ls ++ [l]) := by
  refine ⟨by simp [h.1], fun j u x hu hx => ?_⟩
  by_cases hj : j < vs.length
  · rw [List.getElem?_append_left hj] at hu
    rw [List.getElem?_append_left (by rw [← h.1]; exact hj)] at hx
    exact h.2 j u x hu hx
  · rw [List.getElem?_append_right (by omega)] at hu
    rw [List.getElem?_append_right (by rw [← h.1]; omega), ← h.1] at hx
    have hz : j - vs.length = 0 := by
      have := (List.getElem?_eq_some_iff.1 hu).1
      simp at this
      omega
    rw [hz] at hu hx
    simp at hu hx
    subst hu hx
    exact ⟨hv, hg⟩

/-- The value v holds a list of lists. -/
def ListSl (n₀ : Nat) (W : World) (v : Value) (ls : List (List Nat)) : Prop :=
  ls.length ≤ maxLen ∧ ∃ a cap, v = .slice a ls.length cap ∧ (0 < ls.length → ∃ b, a = some ⟨b, 0, none⟩ ∧ b < n₀ ∧ ∀ (j : Nat) (l : List Nat), ls[j]? = some l → ∃ u, W.cell? ⟨b, j, none⟩ = some u ∧ SlI n₀ W u l)
theorem ListSl.below {n₀ : Nat} {W W' : World} {v : Value} {ps : List (List Nat)} (h : ListSl n₀ W v ps) (hb : Below n₀ W W') : ListSl n₀ W' v ps := by
  obtain ⟨hl, a, cap, rfl, h⟩ := h
  refine ⟨hl, a, cap, rfl, fun h0 => ?_⟩
  obtain ⟨b, rfl, hbn, hc⟩ := h h0
  refine ⟨b, rfl, hbn, fun j l hj => ?_⟩
  obtain ⟨u, hu, hs⟩ := hc j l hj
  exact ⟨u, (hb.cell (p := ⟨b, j, none⟩) hbn).trans hu, hs.below hb⟩
theorem ListSl.mono {n₀ n₁ : Nat} {W : World} {v : Value} {ps : List (List Nat)} (h : ListSl n₀ W v ps) (hn : n₀ ≤ n₁) : ListSl n₁ W v ps := by
  obtain ⟨hl, a, cap, rfl, h⟩ := h
  refine ⟨hl, a, cap, rfl, fun h0 => ?_⟩
  obtain ⟨b, rfl, hbn, hc⟩ := h h0
  refine ⟨b, rfl, by omega, fun j l hj => ?_⟩
  obtain ⟨u, hu, hs⟩ := hc j l hj
  exact ⟨u, hu, hs.mono hn⟩
theorem listSl_of {W : World} {b cap m g : Nat} {vs : List Value} {ls : List (List Nat)} (h : RowV W b cap vs) (hr : RowsOf W m g vs ls) (hm : ls.length ≤ maxLen) (h48 : ∀ l ∈ ls, l.length ≤ maxLen) : ListSl W.heap.size W (.slice (some ⟨b, 0, none⟩) ls.length cap) ls := by
  obtain ⟨cur, h1, h2, h3⟩ := h
  refine ⟨hm, _, _, rfl, fun _ => ⟨b, rfl, (Array.getElem?_eq_some_iff.1 h1).1, fun j l hj => ?_⟩⟩
  have hjl := (List.getElem?_eq_some_iff.1 hj).1
  obtain ⟨u, hu⟩ : ∃ u, vs[j]? = some u := ⟨vs[j]'(by rw [hr.1]; exact hjl), List.getElem?_eq_getElem _⟩
  refine ⟨u, ?_, slI_of_row (hr.2 j u l hu hj).1 (h48 l (List.mem_of_getElem? hj))⟩
  rw [cell_of_row W b j _ _ _ h1, ← Array.getElem?_toList]
  rw [← h3, List.getElem?_take, if_pos (by rw [hr.1]; exact hjl)] at hu
  exact hu
end Go.Proofs.YtpmlomhlbmgilaaDoor
end

section
/- order.Orders: the walk. -/
namespace Go.Proofs.YtpmlomhlbmgilaaDoor
open Go.RowKit Go.Shelf

attribute [local go_sem] Oper.semAt_some

theorem wpListIn_value {F : Fence} {n : Nat} {P : Program} {ops : Array Oper} {Q : Exit → Act → World → Prop} {o : Oper} {rest : List Oper} {a : Act} {w w' : World} {v : Value} (hF : ∀ f, F.fn f) (hg : o.guard = none) (hd : ∀ c, o.op ≠ .defer c)
    (hr : (execOp a.eval o).run P w = .ok (.value v) w') (h : wpListIn F n P ops Q rest (a.put o.dst v) w') : wpListIn F n P ops Q (o :: rest) a w := by
  have hw : Region.wanted o (yielded ops a.tmps) = true := by simp [Region.wanted, hg]
  simp only [wpListIn, hw, if_true]
  exact wpIn_value_run hF hd hr h
theorem compl_len (B : Nat → Nat) : ∀ (d s : Nat) (xs : List Nat), ∀ l ∈ compl B d s xs, l.length = xs.length + d
  | 0, _, xs, l, h => by simp [compl] at h; rw [h]; rfl
  | d + 1, s, xs, l, h => by
    simp only [compl, List.mem_flatMap] at h
    obtain ⟨a, _, ha⟩ := h
    have := compl_len B d _ _ l ha
    rw [List.length_append] at this
    simp at this
    omega
theorem ordL_len {N : Nat} {f : Nat → Nat} {l : List Nat} (h : l ∈ ordL N f) : l.length = N := by
  unfold ordL at h
  split at h
  · simpa using compl_len _ _ _ _ l h
  · cases h

set_option maxRecDepth 100000 in
set_option maxHeartbeats 2000000 in
theorem orders_in (N : Nat) (f : Nat → Nat) (M : Nat) (hM : M ≤ 10000) (hf : R64 f) (hr : rightB N f = true) (hle : (ordL N f).length ≤ M) (w : World) (hT : Tab w) :
    CallsIn Fence.wide 6 Tryd.prog 51 #[.agg (relC N f), .int .i64 (M : Int)] w fun e w' => (∃ v, e = .returned (.tuple #[v, .int .i64 0]) ∧ ListSl w'.heap.size w' v (ordL N f)) ∧ Below w.heap.size w w' := by
  have HC := Lib.hid (fun W hT => count_ok N f M hM hf hr W hT)
  rw [show cntR N f M = .tuple #[.int .i64 ((ordL N f).length : Int), .int .i64 0] by rw [cntR, if_pos (by omega)]] at HC
  have hA := RelAt.new w N f
  have hB := below_new w (.cells (relC N f) 26)
  have hT1 := tab_new hT (.cells (relC N f) 26)
  have l1 := hA.ld
  obtain ⟨K, hK⟩ : ∃ K, K = (ordL N f).length := ⟨_, rfl⟩
  rw [← hK] at HC hle
  have hKh := Lib.hid hK
  clear hK
  have hz : (w.alloc (.cells (relC N f) 26)).heap.size = w.heap.size + 1 := by simp
  refine callsIn_of_wp_marks Tryd.func51 rfl trivial ?_ rfl
  simp only [Tryd.ntmps51, List.size_toArray, List.length_cons, List.length_nil, Nat.reduceAdd, Nat.reduceSub, Array.replicate_succ, Array.replicate_zero, List.push_toArray, List.append_toArray, List.nil_append, List.cons_append]
  gi_wp2_with fail
  generalize w.alloc (.cells (relC N f) 26) = W1 at *
  refine ⟨trivial, ?_⟩
  refine (callsIn_wide.2 (HC.out _ hT1)).mono ?_
  rintro e w1 ⟨rfl, h1⟩
  have hA1 := hA.on h1
  have hB1 := thru hB h1
  have hs1 := h1.size
  obtain ⟨W2, hr2, hV2, h2⟩ := rowV_make w1 K (by omega)
  have hs2 := h2.size
  have hA2 := (hA1.on h2).alloc (.cells #[.slice (some ⟨w1.heap.size, 0, none⟩) 0 K] 51)
  have l2 := hA2.ld
  have g8 := Boxed.new W2 51 (.slice (some ⟨w1.heap.size, 0, none⟩) 0 K)
  have hB2 := (thru hB1 h2).alloc (by have := hA1.lt; omega) (.cells #[.slice (some ⟨w1.heap.size, 0, none⟩) 0 K] 51)
  have hV := hV2.on (below_new W2 (.cells #[.slice (some ⟨w1.heap.size, 0, none⟩) 0 K] 51))
  have hVl := hV2.lt
  have hz3 : (W2.alloc (.cells #[.slice (some ⟨w1.heap.size, 0, none⟩) 0 K] 51)).heap.size = W2.heap.size + 1 := by simp
  clear l1 hA hB h1 hB1 h2 hV2
  gi_wp2_with (gi_at_make; refine wpListIn_value (fun _ => trivial) rfl (fun c h => by cases h) (v := .slice (some ⟨w1.heap.size, 0, none⟩) 0 K) (w' := W2) (make_run rfl rfl hr2) ?_)
  generalize W2.alloc (.cells #[.slice (some ⟨w1.heap.size, 0, none⟩) 0 K] 51) = W3 at *
  refine ⟨trivial, ?_⟩
  refine (callsIn_wide.2 (orders_any _ _ _)).mono ?_
  rintro e w4 ⟨rfl, h4⟩
  have hR4 : RelAt w4 W3.heap.size N f := by rw [← h4]; exact RelAt.new W3 N f
  have h34 : Below W3.heap.size W3 w4 := by rw [← h4]; exact below_new W3 _
  have hz4 : w4.heap.size = W3.heap.size + 1 := by rw [← h4]; simp
  replace g8 := boxed_on g8 h34
  replace hV := hV.on h34
  have hB4 := thru hB2 h34
  have hT4 := hT.below hB4 hT.pos
  have hws := hB4.size
  have HB4 := Lib.hid hB4
  have hTp := hT.pos
  rw [hz3] at hR4 hz4
  clear h4 h34 hB2 hB4 l2 hA2 hA1
  gi_wp2_with fail
  have hws4 : w1.heap.size < w4.heap.size := by omega
  refine range_some rfl (by omega) (gf := 96) (lb := #[.pointer (some ⟨W2.heap.size + 1, 0, none⟩)]) rfl trivial (enters_of Tryd.func96 (by kernel_rfl) rfl)
    (orders1_gives 5 (W2.heap.size + 1) w.heap.size hTp N f hf hr w4 hT4 hws hR4 (by omega)) (fun k hk => by omega) (fun _ _ => rfl) (fun _ _ _ _ _ _ h hl ho => isO_put h hl ho)
    (fun g pre W => ∃ vs, RowV W w1.heap.size K vs ∧ RowsOf W w.heap.size g vs pre ∧ Boxed W W2.heap.size 51 (.slice (some ⟨w1.heap.size, 0, none⟩) pre.length K) ∧ Below w.heap.size w W)
    (fun _ _ _ _ => False) ?clI (fun _ _ _ _ _ h _ => h) (fun _ _ => ⟨[], hV, rowsOf_nil _ _ _, g8, HB4.out⟩)
    (fun g _ => { tmps := #[.agg (relC N f), .int .i64 (M : Int), .pointer (some ⟨w.heap.size, 0, none⟩), undef, .slice none 0 0, .int .i64 0, .int .i64 (K : Int), .int .i64 0, .pointer (some ⟨W2.heap.size, 0, none⟩), .slice (some ⟨g, 0, none⟩) N N, .tuple #[.int .i64 (K : Int), .int .i64 0], .agg (relC N f), .int .i64 (M : Int), .tuple #[.int .i64 (K : Int), .int .i64 0], .int .i64 (K : Int), .int .i64 0, .int .i64 0, .bool false, undef, .int .i64 (K : Int), .slice (some ⟨w1.heap.size, 0, none⟩) 0 K, .agg (relC N f), .func (.func 96) #[] #[.pointer (some ⟨W2.heap.size + 1, 0, none⟩)], .slice (some ⟨g, 0, none⟩) N N, undef, undef, undef, undef, undef, undef], defers := [] }) ?assign ?body ?done ?stop
  case clI =>
    rintro g' pre A A' ⟨vs, h1, h2, h3, h4⟩ hc
    refine ⟨vs, h1.same fun o ho => hc.block _ _ (.inl hws4) ho, h2.same fun b cur hb hm hh => hc.block _ _ (.inr ⟨rfl, ?_⟩) hh, hc.boxed h3 (by omega), hc.below h4 hws (Nat.le_refl _)⟩
    rintro (⟨cs, fr, he⟩ | he)
    · cases he
    · exact hb he
  case assign =>
    intro l2 g' x W' K hK
    simp only [encO]
    gi_wp2
    exact hK
  case body =>
    rintro l2 g' pre x W hg ⟨vs, h1, h2, h3, h4⟩ hx hpre
    have hm : Tryd.prog.follows .mixedOrders = true := by kernel_rfl
    have hN48 : N ≤ 48 := by
      obtain ⟨⟨-, h⟩, -⟩ := rightB_iff.1 hr
      omega
    have hlt : pre.length < K := by
      have := hpre.length_le
      rw [List.length_append, ← hKh.out] at this
      simp at this
      omega
    have c8 := h3.cell
    have hvs := h2.1
    have hW1 := h1.lt
    gi_wp2
    refine wpIn_region_lit_any hm ?_
    simp only [List.length_cons, List.length_nil, Nat.reduceAdd]
    refine wpAnyIn_take_by (i := 0) 3 (v := .slice (some ⟨w1.heap.size, 0, none⟩) pre.length K) (fun W' => W'.cell? ⟨W2.heap.size, 0, none⟩ = some (.slice (some ⟨w1.heap.size, 0, none⟩) pre.length K)) (fun _ => trivial) (by kernel_rfl) (by kernel_rfl) (fun _ _ _ _ _ h => h) rfl rfl (by kernel_rfl) (fun W' hC => by go_simp) c8 ?_
    simp only [Act.put, List.setIfInBounds_toArray, List.set_cons_succ, List.set_cons_zero]
    refine wpAnyT_one (i := 1) rfl (by kernel_rfl) (by kernel_rfl) ?_
    refine wpIn_value_run (fun _ => trivial) (fun c h => by cases h) (v := .slice (some ⟨g', 0, none⟩) N N) (w' := W.drew) (by go_simp) ⟨c8, ?_⟩
    simp only [Act.put, List.setIfInBounds_toArray, List.set_cons_succ, List.set_cons_zero]
    have hxd : isO N g' x W.drew := ⟨hx.1.same fun o ho => ho, hx.2⟩
    refine wpAnyT_one (i := 2) rfl (by kernel_rfl) (by kernel_rfl) ?_
    refine wpIn_call_run (fun _ => trivial) rfl (fun c h => by cases h) (f := 88) (args := #[.slice (some ⟨g', 0, none⟩) N N]) (by go_simp) (CallsIn.inRound l2 (callsIn_wide.2 (clone_any g' N hN48 x W.drew hxd))) ?_
    rintro e W5 ⟨v, rfl, hown, hb5⟩
    have hS : Below W.heap.size W W5 := ((Below.refl _ W).drew).trans hb5
    have h1' := h1.on hS
    have h2' : RowsOf W5 w.heap.size g' vs pre := h2.same fun b cur _ _ hh => (hS.block b (Array.getElem?_eq_some_iff.1 hh).1).trans hh
    have h3' := boxed_on h3 hS
    have h4' := thru h4 hS
    have hsz := hS.size
    have hg' : g' < W.heap.size := hx.1.lt
    have hwW := h4.size
    obtain ⟨av, cv, hve⟩ := ownsRow_slice hown
    have hvg : v.ownBlock ≠ some g' := by
      rcases hown.2 with ⟨rfl, _⟩ | ⟨gg, cap, cur, rfl, hbg, _⟩
      · simp [Value.ownBlock]
      · simp only [Value.ownBlock, ne_eq, Option.some.injEq]
        have : W.drew.heap.size = W.heap.size := rfl
        omega
    have hrowv : W5.ownsRow w.heap.size 3 1 v x.length (x.map intV) := by rw [hx.2]; exact ownsRow_base hown hwW
    have hv1 : v.oneCell' = true := by rw [hve]; rfl
    have c8' := h3'.cell
    refine ⟨v, rfl, c8', ?_⟩
    simp only [Act.put, List.setIfInBounds_toArray, List.set_cons_succ, List.set_cons_zero]
    subst hve
    have hb6 : Below W5.heap.size W5 (W5.alloc (.cells #[.slice av N cv] 46)) := below_new W5 _
    have hc6 : (W5.alloc (.cells #[.slice av N cv] 46)).cell? ⟨W5.heap.size, 0, none⟩ = some (.slice av N cv) := by
      rw [cell_of_row _ _ 0 _ _ _ (heap_alloc_new W5 (.cells #[.slice av N cv] 46))]
      rfl
    refine wpAnyT_one (i := 3) rfl (by kernel_rfl) (by kernel_rfl) ?_
    refine wpIn_value_run (fun _ => trivial) (fun c h => by cases h) (v := .slice (some ⟨W5.heap.size, 0, none⟩) 1 1) (w' := W5.alloc (.cells #[.slice av N cv] 46)) (by go_simp) ⟨(boxed_on h3' hb6).cell, ?_⟩
    simp only [Act.put, List.setIfInBounds_toArray, List.set_cons_succ, List.set_cons_zero]
    have h1x := h1'.on hb6
    have h2x : RowsOf (W5.alloc (.cells #[.slice av N cv] 46)) w.heap.size g' vs pre := h2'.same fun b cur _ _ hh => (hb6.block b (Array.getElem?_eq_some_iff.1 hh).1).trans hh
    have h3x := boxed_on h3' hb6
    have h4x := thru h4' hb6
    have hrx := ownsRow_same hrowv (fun b cur _ _ hh => (hb6.block b (Array.getElem?_eq_some_iff.1 hh).1).trans hh)
    have hz6 : (W5.alloc (.cells #[.slice av N cv] 46)).heap.size = W5.heap.size + 1 := by simp
    have hS6 := thru hS hb6
    generalize W5.alloc (.cells #[.slice av N cv] 46) = W6 at *
    obtain ⟨W7, hr7, h7, hO7⟩ := h1x.push (by omega) ⟨W5.heap.size, 0, none⟩ 1 (.slice av N cv) hv1 hc6
    rw [hvs] at hr7
    have h2y : RowsOf W7 w.heap.size g' (vs ++ [.slice av N cv]) (pre ++ [x]) := by
      have hne : ∀ b (cur : Array Value), W6.heap[b]? = some (Obj.cells cur 3 (0, 0)) → W7.heap[b]? = some (Obj.cells cur 3 (0, 0)) := fun b cur hh => (hO7.block b (by
        rintro rfl
        obtain ⟨cur2, hh2, _⟩ := h1x
        rw [hh] at hh2
        cases hh2)).trans hh
      exact (h2x.same fun b cur _ _ hh => hne b cur hh).push (ownsRow_same hrx fun b cur _ _ hh => hne b cur hh) hvg
    have h3y : Boxed W7 W2.heap.size 51 (.slice (some ⟨w1.heap.size, 0, none⟩) pre.length K) := (hO7.block _ (by omega)).trans h3x
    have f7 := h3y.frozen
    have c7 := h3y.cell
    have h4y := below_only h4x hO7 (by omega)
    refine wpAnyT_zero ?_
    refine wpAnyIn_one (i := 4) rfl (by kernel_rfl) (by kernel_rfl) ?_
    refine wpIn_append_run (fun _ => trivial) (.tmp 24) (.tmp 27) 51 rfl rfl rfl hr7 ?_
    simp only [Act.put, List.setIfInBounds_toArray, List.set_cons_succ, List.set_cons_zero]
    refine wpAnyIn_one (i := 5) rfl (by kernel_rfl) (by kernel_rfl) ?_
    refine ⟨fun _ _ => trivial, ?_⟩
    rw [Oper.semAt_eq _ _ _ (fun c h => by cases h)]
    go_simp
    refine wpAnyIn_done (by kernel_rfl) ?_ _
    gi_wp2
    have hK1 : KeepK (fun k => k < w.heap.size ∨ k = W2.heap.size + 1) w4.heap.size W W7 :=
      ⟨hO7.os.trans hS6.os, hO7.tape.trans hS6.tape, hO7.output.trans hS6.output, by have := hS6.size; have := hO7.size; omega, fun k o hk ho => (hO7.block k (by omega)).trans ((hS6.block k (Array.getElem?_eq_some_iff.1 ho).1).trans ho)⟩
    refine ⟨hK1.trans (KeepK.setCell _ _ _ (by simp; omega) (by simp; omega)), vs ++ [.slice av N cv], h7.same fun o ho => (Below.heap_setCell W7 _ _ _ (by simp; omega)).trans ho, h2y.same fun b cur _ _ hh => (Below.heap_setCell W7 _ _ _ (by
        intro e
        rw [e] at hh
        rw [show W7.heap[W2.heap.size]? = _ from h3y] at hh
        cases hh)).trans hh, ?_, h4y.setCell (by simp; omega) _⟩
    rw [show (pre ++ [x]).length = pre.length + 1 by simp]
    exact h3y.set _
  case done =>
    rintro D g' W hD ⟨vs, h1, h2, h3, h4⟩ hDf
    have c8 := h3.cell
    gi_wp2
    refine ⟨by simp, .inl ⟨_, _, rfl, run_takeDeferred hDf, ?_⟩⟩
    have hP : ∀ k o, k ≠ D → W.heap[k]? = some o → (W.putObj D (.deferred none)).heap[k]? = some o := fun k o hk ho => (World.putObj_heap_other hk).trans ho
    have hbD := h4.trans (belowK_b (w := w) (Nat.le_refl _) _ D _ (.deferred none) (by omega) hDf rfl rfl)
    have hL := listSl_of (W := W.putObj D (.deferred none)) (b := w1.heap.size) (cap := K) (m := w.heap.size) (g := g') (vs := vs) (ls := ordL N f)
      (h1.same fun o ho => hP _ o (by omega) ho) (h2.same fun b cur _ _ hh => hP _ _ (by rintro rfl; rw [hDf] at hh; cases hh) hh)
      (by rw [← hKh.out]; unfold maxLen; omega) (fun l hl => by
        rw [ordL_len hl]
        obtain ⟨⟨-, h⟩, -⟩ := rightB_iff.1 hr
        unfold maxLen
        omega)
    refine ⟨.tuple #[.slice (some ⟨w1.heap.size, 0, none⟩) (ordL N f).length K, .int .i64 0], by simp [results, Tryd.f51, go_sem], ⟨_, rfl, hL⟩, hbD⟩
  case stop =>
    intro D g' c pre W _ _ h
    exact h.elim
end Go.Proofs.YtpmlomhlbmgilaaDoor
end

section
/- The orders that respect a relation: what they are. -/
namespace Go.Proofs.YtpmlomhlbmgilaaDoor
open Go.RowKit Go.Shelf

/-- t goes through s, each ahead of what it precedes. -/
def Ext (B : Nat → Nat) : Nat → List Nat → Prop
  | s, [] => s = 0
  | s, a :: t => a ∈ readyL B s ∧ Ext B (clr s a) t
theorem mem_readyL {B : Nat → Nat} {s a : Nat} (hs : s < 2 ^ 48) : a ∈ readyL B s ↔ s.testBit a = true ∧ B a &&& s = 0 := by
  unfold readyL readyT
  rw [List.mem_filter, mem_els48 hs, decide_eq_true_iff]
theorem mem_compl {B : Nat → Nat} : ∀ {d s : Nat} {xs l : List Nat}, s < 2 ^ 48 → (MM.els s).length = d → (l ∈ compl B d s xs ↔ ∃ t, l = xs ++ t ∧ Ext B s t)
  | 0, s, xs, l, hs, hd => by
    obtain rfl := els_nil hs hd
    simp only [compl, List.mem_singleton]
    constructor
    · rintro rfl; exact ⟨[], by simp, rfl⟩
    · rintro ⟨t, rfl, h⟩
      cases t with
      | nil => simp
      | cons a t => simp [Ext, readyL, readyT, MM.els_zero] at h
  | d + 1, s, xs, l, hs, hd => by
    simp only [compl, List.mem_flatMap]
    constructor
    · rintro ⟨a, ha, hl⟩
      have hm := readyL_mem ha
      have := els_clr_len s a hs hm
      obtain ⟨t, rfl, ht⟩ := (mem_compl (clr_lt s a hs) (by omega)).1 hl
      exact ⟨a :: t, by simp, ha, ht⟩
    · rintro ⟨t, rfl, ht⟩
      cases t with
      | nil => rw [show s = 0 from ht] at hd; simp [MM.els_zero] at hd
      | cons a t =>
        have hm := readyL_mem ht.1
        have := els_clr_len s a hs hm
        exact ⟨a, ht.1, (mem_compl (clr_lt s a hs) (by omega)).2 ⟨t, by simp, ht.2⟩⟩

theorem ext_iff {B : Nat → Nat} : ∀ {t : List Nat} {s : Nat}, s < 2 ^ 48 → (Ext B s t ↔ t.Nodup ∧ (∀ x, x ∈ t ↔ s.testBit x = true) ∧ ∀ (k x : Nat), t[k]? = some x → ∀ i, s.testBit i = true → (B x).testBit i = true → i ∈ t.take k)
  | [], s, hs => by
    constructor
    · rintro rfl; exact ⟨List.nodup_nil, fun x => by simp, fun k x h => by simp at h⟩
    · rintro ⟨_, h, _⟩
      refine Nat.eq_of_testBit_eq fun j => ?_
      have := h j
      simp at this
      rw [this, Nat.zero_testBit]
  | a :: t, s, hs => by
    show (a ∈ readyL B s ∧ Ext B (clr s a) t) ↔ _
    rw [mem_readyL hs]
    by_cases ha : s.testBit a = true
    · have ha48 := bit_lt hs ha
      rw [ext_iff (clr_lt s a hs)]
      have hcb := clr_bit s a hs ha48
      constructor
      · rintro ⟨⟨-, hz⟩, hnd, hmem, hpred⟩
        refine ⟨List.nodup_cons.2 ⟨fun h => ?_, hnd⟩, fun x => ?_, fun k x hx i hi hb => ?_⟩
        · have := (hmem a).1 h
          rw [hcb] at this
          simp at this
        · rw [List.mem_cons, hmem x, hcb, Bool.and_eq_true, decide_eq_true_iff]
          constructor
          · rintro (rfl | h)
            · exact ha
            · exact h.1
          · intro h
            by_cases he : x = a
            · exact .inl he
            · exact .inr ⟨h, he⟩
        · cases k with
          | zero =>
            simp at hx; subst hx
            have := (and_zero_iff _ _).1 hz i hb
            rw [hi] at this; cases this
          | succ k =>
            simp at hx
            rw [List.take_succ_cons, List.mem_cons]
            by_cases he : i = a
            · exact .inl he
            · exact .inr (hpred k x hx i (by rw [hcb, hi]; simpa using he) hb)
      · rintro ⟨hnd, hmem, hpred⟩
        obtain ⟨hna, hnd'⟩ := List.nodup_cons.1 hnd
        refine ⟨⟨ha, (and_zero_iff _ _).2 fun j hj => ?_⟩, hnd', fun x => ?_, fun k x hx i hi hb => ?_⟩
        · cases hs2 : s.testBit j with
          | false => rfl
          | true => have := hpred 0 a rfl j hs2 hj; simp at this
        · rw [hcb, Bool.and_eq_true, decide_eq_true_iff, ← hmem x, List.mem_cons]
          constructor
          · intro h; exact ⟨.inr h, fun e => hna (e ▸ h)⟩
          · rintro ⟨h | h, hne⟩
            · exact absurd h hne
            · exact h
        · rw [hcb, Bool.and_eq_true, decide_eq_true_iff] at hi
          have := hpred (k + 1) x (by simpa using hx) i hi.1 hb
          rw [List.take_succ_cons, List.mem_cons] at this
          exact this.resolve_left hi.2
    · constructor
      · rintro ⟨⟨h, _⟩, _⟩; exact absurd h ha
      · rintro ⟨_, hmem, _⟩; exact absurd ((hmem a).1 (by simp)) ha

theorem els_all_len {N : Nat} (h : N ≤ 48) : (MM.els (allOf (N : Int)).toNat).length = N := by rw [els_all N h, List.length_range]
theorem all_lt {N : Nat} (h : N ≤ 48) : (allOf (N : Int)).toNat < 2 ^ 48 := (allOf_lt48 (N : Int) (by omega) (by omega)).1
/-- Orders' list is all the orders that respect the relation. -/
theorem mem_ordL {N : Nat} {f : Nat → Nat} (hf : Rgt N f) {l : List Nat} : l ∈ ordL N f ↔ TopOK N f l := by
  have hN := hf.le
  have key : l ∈ compl (invF N f) N (allOf (N : Int)).toNat [] ↔ TopOK N f l := by
    rw [mem_compl (all_lt hN) (els_all_len hN)]
    constructor
    · rintro ⟨t, rfl, ht⟩
      obtain ⟨h1, h2, h3⟩ := (ext_iff (all_lt hN)).1 ht
      refine ⟨h1, fun x => by rw [h2 x, allOf_bits N x hN, decide_eq_true_iff], fun k x hx i hi hb => h3 k x hx i (by rw [allOf_bits N i hN, decide_eq_true_iff]; exact hf.fst hi hb) ?_⟩
      have hxN : x < N := by
        have := (h2 x).1 (List.mem_of_getElem? hx)
        rw [allOf_bits N x hN, decide_eq_true_iff] at this
        exact this
      exact (bt_back hf (by omega)).2 ⟨hi, hb⟩
    · intro h
      refine ⟨l, by simp, (ext_iff (all_lt hN)).2 ⟨h.nodup, fun x => by rw [h.mem x, allOf_bits N x hN, decide_eq_true_iff], fun k x hx i _ hb => ?_⟩⟩
      have hxN := (h.mem x).1 (List.mem_of_getElem? hx)
      have := (bt_back hf (show x < 48 by omega)).1 hb
      exact h.pred k x hx i this.1 this.2
  unfold ordL
  split
  · exact key
  · rename_i hn
    constructor
    · intro h; cases h
    · intro h
      rcases top_cyc hf with ⟨l', h1, _⟩ | ⟨_, hc⟩
      · rw [h1] at hn; exact absurd rfl hn
      · exact absurd hc (h.acyclic hf)

/-- Is a list ahead of another of its length? -/
def aheadB : List Nat → List Nat → Bool
  | a :: l, b :: m => if a = b then aheadB l m else decide (a < b)
  | _, _ => false
theorem aheadB_irr : ∀ l : List Nat, aheadB l l = false
  | [] => rfl
  | a :: l => by simp [aheadB, aheadB_irr l]
theorem aheadB_front (xs l m : List Nat) : aheadB (xs ++ l) (xs ++ m) = aheadB l m := by
  induction xs with
  | nil => rfl
  | cons x xs ih => simp [aheadB, ih]
theorem readyL_sorted (B : Nat → Nat) (s : Nat) : (readyL B s).Pairwise (· < ·) := (List.Pairwise.filter _ (List.Pairwise.filter _ List.pairwise_lt_range))
theorem compl_sorted (B : Nat → Nat) : ∀ (d s : Nat) (xs : List Nat), s < 2 ^ 48 → (MM.els s).length = d → (compl B d s xs).Pairwise (fun a b => aheadB a b = true)
  | 0, s, xs, _, _ => by simp [compl]
  | d + 1, s, xs, hs, hd => by
    simp only [compl]
    rw [List.pairwise_flatMap]
    refine ⟨fun a ha => ?_, ?_⟩
    · have := els_clr_len s a hs (readyL_mem ha)
      exact compl_sorted B d _ _ (clr_lt s a hs) (by omega)
    · refine (readyL_sorted B s).imp_of_mem fun {a b} ha hb hlt x hx y hy => ?_
      have h1 := els_clr_len s a hs (readyL_mem ha)
      have h2 := els_clr_len s b hs (readyL_mem hb)
      obtain ⟨t, rfl, _⟩ := (mem_compl (clr_lt s a hs) (by omega)).1 hx
      obtain ⟨u, rfl, _⟩ := (mem_compl (clr_lt s b hs) (by omega)).1 hy
      rw [List.append_assoc, List.append_assoc, aheadB_front]
      simp [aheadB, hlt, show a ≠ b by omega]
theorem ordL_sorted {N : Nat} {f : Nat → Nat} (hf : Rgt N f) : (ordL N f).Pairwise (fun a b => aheadB a b = true) := by
  unfold ordL
  split
  · exact compl_sorted _ _ _ _ (all_lt hf.le) (els_all_len hf.le)
  · exact List.Pairwise.nil
theorem ordL_nodup {N : Nat} {f : Nat → Nat} (hf : Rgt N f) : (ordL N f).Nodup := (ordL_sorted hf).imp fun {a b} h e => by
  subst e
  rw [aheadB_irr] at h
  cases h

def fact : Nat → Nat
  | 0 => 1
  | n + 1 => (n + 1) * fact n
theorem flat_le {α β : Type} (g : α → List β) (m : Nat) : ∀ l : List α, (∀ a ∈ l, (g a).length ≤ m) → (l.flatMap g).length ≤ l.length * m
  | [], _ => by simp
  | a :: l, h => by
    have h1 := h a (by simp)
    have h2 := flat_le g m l fun x hx => h x (by simp [hx])
    rw [List.flatMap_cons, List.length_append, List.length_cons, Nat.add_mul, Nat.one_mul]
    omega
theorem compl_le (B : Nat → Nat) : ∀ (d s : Nat) (xs : List Nat), s < 2 ^ 48 → (MM.els s).length = d → (compl B d s xs).length ≤ fact d
  | 0, s, xs, _, _ => by simp [compl, fact]
  | d + 1, s, xs, hs, hd => by
    simp only [compl, fact]
    refine Nat.le_trans (flat_le _ (fact d) _ fun a ha => ?_) (Nat.mul_le_mul_right _ (by rw [← hd]; exact List.length_filter_le _ _))
    have := els_clr_len s a hs (readyL_mem ha)
    exact compl_le B d _ _ (clr_lt s a hs) (by omega)
theorem ordL_le {N : Nat} {f : Nat → Nat} (hf : Rgt N f) (h6 : N ≤ 6) : (ordL N f).length ≤ 720 := by
  unfold ordL
  split
  · refine Nat.le_trans (compl_le _ _ _ _ (all_lt hf.le) (els_all_len hf.le)) ?_
    have : ∀ n, n ≤ 6 → fact n ≤ 720 := by decide
    exact this N h6
  · exact Nat.zero_le _
theorem ordL_pos {N : Nat} {f : Nat → Nat} (hf : Rgt N f) : ordL N f ≠ [] ↔ ¬ Cyc N f := by
  rcases top_cyc hf with ⟨l, h1, h2⟩ | ⟨h1, hc⟩
  · refine ⟨fun _ => h2.acyclic hf, fun _ e => ?_⟩
    have := (mem_ordL hf).2 h2
    rw [e] at this
    cases this
  · refine ⟨fun h => absurd ?_ h, fun h => absurd hc h⟩
    unfold ordL
    rw [h1]
    rfl

/-- The first of them is Top's. -/
theorem head_compl {N : Nat} {f : Nat → Nat} : ∀ (d s : Nat) (xs : List Nat) (k : Nat) (l : List Nat), s < 2 ^ 48 → (MM.els s).length = d → topGo (backF N f) k s xs = some l → (compl (backF N f) d s xs).head? = some l
  | 0, s, xs, k, l, hs, hd, h => by
    obtain rfl := els_nil hs hd
    rw [topGo_zero] at h
    simpa [compl] using h
  | d + 1, s, xs, k, l, hs, hd, h => by
    have h0 : s ≠ 0 := by rintro rfl; simp [MM.els_zero] at hd
    cases k with
    | zero => simp [topGo, h0] at h
    | succ k =>
      cases hsrc : srcOf (backF N f) s (MM.els s) with
      | none => rw [topGo_none _ _ _ _ h0 hsrc] at h; cases h
      | some a =>
        rw [topGo_some _ _ _ _ h0 a hsrc] at h
        have hm := srcOf_mem hsrc
        have hl := els_clr_len s a hs hm
        have ih := head_compl d (clr s a) (xs ++ [a]) k l (clr_lt s a hs) (by omega) h
        have hr : ∃ t, readyL (backF N f) s = a :: t := by
          have : (readyL (backF N f) s).head? = some a := by
            unfold readyL readyT
            rw [List.head?_filter]
            exact hsrc
          cases hrl : readyL (backF N f) s with
          | nil => rw [hrl] at this; cases this
          | cons b t => rw [hrl] at this; simp at this; subst this; exact ⟨t, rfl⟩
        obtain ⟨t, ht⟩ := hr
        simp only [compl]
        rw [ht, List.flatMap_cons, List.head?_append, ih]
        rfl
theorem ordL_head {N : Nat} {f : Nat → Nat} (hf : Rgt N f) {l : List Nat} (h : topF N f = some l) : (ordL N f).head? = some l := by
  unfold ordL
  rw [h]
  unfold topF at h
  rw [show rightB (N : Int) f = true from hf, if_pos rfl, Int.toNat_natCast] at h
  exact head_compl N _ [] 48 l (all_lt hf.le) (els_all_len hf.le) h

theorem sub_le {α : Type} : ∀ {l m : List α}, l.Nodup → (∀ x ∈ l, x ∈ m) → l.length ≤ m.length
  | [], m, _, _ => Nat.zero_le _
  | a :: l, m, hnd, hsub => by
    obtain ⟨s, t, rfl⟩ := List.append_of_mem (hsub a (by simp))
    have h := sub_le (l := l) (m := s ++ t) (List.nodup_cons.1 hnd).2 fun x hx => by
      have := hsub x (by simp [hx])
      rw [List.mem_append, List.mem_cons] at this
      rw [List.mem_append]
      rcases this with h | rfl | h
      · exact .inl h
      · exact absurd hx (List.nodup_cons.1 hnd).1
      · exact .inr h
    simp at h ⊢
    omega
theorem same_len {α : Type} {l m : List α} (h1 : l.Nodup) (h2 : m.Nodup) (h : ∀ x, x ∈ l ↔ x ∈ m) : l.length = m.length :=
  Nat.le_antisymm (sub_le h1 fun x hx => (h x).1 hx) (sub_le h2 fun x hx => (h x).2 hx)
end Go.Proofs.YtpmlomhlbmgilaaDoor
end

section
/- An order's relation: its pairs. -/
namespace Go.Proofs.YtpmlomhlbmgilaaDoor
open Go.RowKit Go.Shelf

/-- The list as Go holds it. -/
def iL (l : List Nat) : List Int := l.map fun k : Nat => (k : Int)
structure IsOrd (N : Nat) (l : List Nat) : Prop where
  nodup : l.Nodup
  mem : ∀ x, x ∈ l ↔ x < N
theorem TopOK.ord {N : Nat} {f : Nat → Nat} {l : List Nat} (h : TopOK N f l) : IsOrd N l := ⟨h.nodup, h.mem⟩
theorem IsOrd.len {N : Nat} {l : List Nat} (h : IsOrd N l) : l.length = N := by
  rw [same_len h.nodup List.nodup_range (fun x => by rw [h.mem x, List.mem_range] : ∀ x, x ∈ l ↔ x ∈ List.range N), List.length_range]
theorem ordB_of {N : Nat} {l : List Nat} (hN : N ≤ 48) (h : IsOrd N l) : ordB N (iL l) = true := by
  refine ordB_iff.2 ⟨hN, by rw [iL, List.length_map, h.len], fun z hz => ?_, fun j hj => ?_⟩
  · obtain ⟨x, hx, rfl⟩ := List.mem_map.1 hz
    have := (h.mem x).1 hx
    omega
  · exact List.mem_map.2 ⟨j, (h.mem j).2 hj, rfl⟩
theorem nodup_of_sub : ∀ {l : List Nat} {N : Nat}, l.length = N → (∀ j, j < N → j ∈ l) → l.Nodup := by
  intro l N hl h
  -- else the list without the second of two equal ones would do
  refine Classical.byContradiction fun hn => ?_
  have key : ∀ l : List Nat, ¬ l.Nodup → ∃ m : List Nat, m.length + 1 = l.length ∧ ∀ x ∈ l, x ∈ m := by
    intro l
    induction l with
    | nil => intro h; exact absurd List.nodup_nil h
    | cons a l ih =>
      intro h
      by_cases ha : a ∈ l
      · exact ⟨l, rfl, fun x hx => by rcases List.mem_cons.1 hx with rfl | hx; exact ha; exact hx⟩
      · obtain ⟨m, h1, h2⟩ := ih fun hnd => h (List.nodup_cons.2 ⟨ha, hnd⟩)
        exact ⟨a :: m, by simp; omega, fun x hx => by rcases List.mem_cons.1 hx with rfl | hx; simp; simp [h2 x hx]⟩
  obtain ⟨m, h1, h2⟩ := key l hn
  have := sub_le (l := List.range N) (m := m) List.nodup_range fun x hx => h2 x (h x (List.mem_range.1 hx))
  rw [List.length_range] at this
  omega
theorem ord_of {N : Nat} {l : List Nat} (h : ordB N (iL l) = true) : IsOrd N l := by
  obtain ⟨_, h2, h3, h4⟩ := ordB_iff.1 h
  rw [iL, List.length_map] at h2
  have hm : ∀ j, j < N → j ∈ l := fun j hj => by
    obtain ⟨x, hx, he⟩ := List.mem_map.1 (h4 j hj)
    rwa [← show x = j by omega]
  exact ⟨nodup_of_sub h2 hm, fun x => ⟨fun hx => by have := (h3 _ (List.mem_map.2 ⟨x, hx, rfl⟩)).2; omega, hm x⟩⟩

/-- i comes ahead of j. -/
def Bef (l : List Nat) (i j : Nat) : Prop := ∃ a b : Nat, a < b ∧ l[a]? = some i ∧ l[b]? = some j
theorem idx_same {l : List Nat} (hnd : l.Nodup) {i j z : Nat} (hi : l[i]? = some z) (hj : l[j]? = some z) : i = j := by
  obtain ⟨h1, h2⟩ := List.getElem?_eq_some_iff.1 hi
  obtain ⟨h3, h4⟩ := List.getElem?_eq_some_iff.1 hj
  exact (List.getElem_inj hnd).1 (h2.trans h4.symm)
theorem posK_at {l : List Nat} (hnd : l.Nodup) : ∀ (m k x : Nat), k < m → m ≤ l.length → l[k]? = some x → posK (iL l) m x = k
  | 0, k, x, h, _, _ => by omega
  | m + 1, k, x, h, hm, hx => by
    have hml : m < l.length := by omega
    have hz : (iL l)[m]?.getD 0 = ((l[m]'hml : Nat) : Int) := by simp [iL, hml]
    simp only [posK, hz, Int.toNat_natCast]
    unfold upd
    by_cases he : k = m
    · subst he
      rw [List.getElem?_eq_getElem (by omega)] at hx
      rw [if_pos (Option.some.inj hx).symm]
    · rw [if_neg, posK_at hnd m k x (by omega) (by omega) hx]
      intro e
      refine he (idx_same hnd hx ?_)
      rw [List.getElem?_eq_getElem (by omega), ← e]
theorem bt_tot {N : Nat} {l : List Nat} (hN : N ≤ 48) (h : IsOrd N l) {i j : Nat} : Bt (totF N (iL l)) i j ↔ Bef l i j := by
  unfold totF
  rw [ordB_of hN h, if_pos rfl, Int.toNat_natCast, bt_fill]
  have hlen : (iL l).length = l.length := by simp [iL]
  rw [hlen]
  unfold aheadP
  rw [decide_eq_true_iff]
  constructor
  · rintro ⟨hi, hj, hlt⟩
    obtain ⟨a, ha⟩ := List.mem_iff_getElem?.1 ((h.mem i).2 hi)
    obtain ⟨b, hb⟩ := List.mem_iff_getElem?.1 ((h.mem j).2 hj)
    rw [posK_at h.nodup _ a i (List.getElem?_eq_some_iff.1 ha).1 (Nat.le_refl _) ha, posK_at h.nodup _ b j (List.getElem?_eq_some_iff.1 hb).1 (Nat.le_refl _) hb] at hlt
    exact ⟨a, b, hlt, ha, hb⟩
  · rintro ⟨a, b, hab, ha, hb⟩
    refine ⟨(h.mem i).1 (List.mem_of_getElem? ha), (h.mem j).1 (List.mem_of_getElem? hb), ?_⟩
    rw [posK_at h.nodup _ a i (List.getElem?_eq_some_iff.1 ha).1 (Nat.le_refl _) ha, posK_at h.nodup _ b j (List.getElem?_eq_some_iff.1 hb).1 (Nat.le_refl _) hb]
    exact hab
theorem rgt_tot {N : Nat} {l : List Nat} (hN : N ≤ 48) (h : IsOrd N l) : Rgt N (totF N (iL l)) := rgt_iff.2 ⟨hN, fun i _ j hb => by
  obtain ⟨a, b, _, ha, hb⟩ := (bt_tot hN h).1 hb
  exact ⟨(h.mem i).1 (List.mem_of_getElem? ha), (h.mem j).1 (List.mem_of_getElem? hb)⟩⟩
theorem Bef.irr {l : List Nat} (hnd : l.Nodup) {i : Nat} (h : Bef l i i) : False := by
  obtain ⟨a, b, hab, ha, hb⟩ := h
  have := idx_same hnd ha hb
  omega
theorem Bef.asymm {l : List Nat} (hnd : l.Nodup) {i j : Nat} (h : Bef l i j) (k : Bef l j i) : False := by
  obtain ⟨a, b, hab, ha, hb⟩ := h
  obtain ⟨c, d, hcd, hc, hd⟩ := k
  have := idx_same hnd ha hd
  have := idx_same hnd hb hc
  omega
theorem Bef.trans {l : List Nat} (hnd : l.Nodup) {i j k : Nat} (h : Bef l i j) (h' : Bef l j k) : Bef l i k := by
  obtain ⟨a, b, hab, ha, hb⟩ := h
  obtain ⟨c, d, hcd, hc, hd⟩ := h'
  have := idx_same hnd hb hc
  exact ⟨a, d, by omega, ha, hd⟩
theorem mem_take {l : List Nat} {k u z : Nat} (hk : l[k]? = some z) : u ∈ l.take k ↔ ∃ m, m < k ∧ l[m]? = some u := by
  constructor
  · intro h
    obtain ⟨m, hm1, hm2⟩ := List.mem_iff_getElem.1 h
    rw [List.length_take] at hm1
    rw [List.getElem_take] at hm2
    exact ⟨m, by omega, by rw [List.getElem?_eq_getElem (by omega), hm2]⟩
  · rintro ⟨m, hm, h⟩
    refine List.mem_iff_getElem.2 ⟨m, by rw [List.length_take]; have := (List.getElem?_eq_some_iff.1 hk).1; omega, ?_⟩
    rw [List.getElem_take]
    exact (List.getElem?_eq_some_iff.1 h).2
/-- An order respects a relation exactly if its own has the relation's pairs. -/
theorem top_iff {N : Nat} {f : Nat → Nat} (hf : Rgt N f) {l : List Nat} : TopOK N f l ↔ IsOrd N l ∧ ∀ i j, i < 48 → Bt f i j → Bef l i j := by
  constructor
  · intro h
    refine ⟨h.ord, fun i j hi hb => ?_⟩
    obtain ⟨b, hb2⟩ := List.mem_iff_getElem?.1 ((h.mem j).2 (hf.snd hi hb))
    obtain ⟨a, hab, ha⟩ := (mem_take hb2).1 (h.pred b j hb2 i hi hb)
    exact ⟨a, b, hab, ha, hb2⟩
  · rintro ⟨h, hp⟩
    refine ⟨h.nodup, h.mem, fun k x hx i hi hb => ?_⟩
    obtain ⟨a, b, hab, ha, hb2⟩ := hp i x hi hb
    obtain rfl := idx_same h.nodup hb2 hx
    exact (mem_take hx).2 ⟨a, hab, ha⟩
theorem fromK_zero_iff {f : Nat → Nat} {k : Nat} : fromK f k = 0 ↔ ∀ j, j < k → f j = 0 := by
  constructor
  · intro h j hj
    refine Classical.byContradiction fun hn => ?_
    have := fromK_bit f k j
    rw [h, Nat.zero_testBit] at this
    simp [hj, hn] at this
  · intro h
    refine Nat.eq_of_testBit_eq fun j => ?_
    rw [fromK_bit, Nat.zero_testBit]
    by_cases hj : j < k
    · simp [h j hj]
    · simp [hj]
theorem in_iff {N : Nat} {f g : Nat → Nat} (hf : Rgt N f) (hg : Rgt N g) (h1 : R64 f) (h2 : R64 g) : inB N N f g = true ↔ ∀ i j, i < 48 → Bt f i j → Bt g i j := by
  refine ⟨fun h i j hi hb => ?_, fun h => in_true hf hg h1 h2 h⟩
  refine Classical.byContradiction fun hn => ?_
  unfold inB at h
  rw [comb_ok hf hg] at h
  simp only [Bool.true_and, Bool.and_eq_true, decide_eq_true_eq, Int.toNat_natCast] at h
  have hz := fromK_zero_iff.1 h.2 i (hf.fst hi hb)
  have hbit : Bt (lessF f g) i j := (bt_less h1 h2 i j).2 ⟨hb, hn⟩
  have hcut : cutF N (lessF f g) i = lessF f g i := (relC_inj (rgt_less hf (g := g)).cut).2 i hi
  rw [hcut] at hz
  unfold Bt at hbit
  rw [hz, Nat.zero_testBit] at hbit
  cases hbit
theorem keep_iff {N : Nat} {f : Nat → Nat} (hf : Rgt N f) (h64 : R64 f) {l : List Nat} : keepB N f (iL l) = true ↔ TopOK N f l := by
  rw [top_iff hf]
  unfold keepB
  rw [Bool.and_eq_true]
  constructor
  · rintro ⟨h1, h2⟩
    have ho := ord_of h1
    exact ⟨ho, fun i j hi hb => (bt_tot hf.le ho).1 ((in_iff hf (rgt_tot hf.le ho) h64 (totF_64 _ _)).1 h2 i j hi hb)⟩
  · rintro ⟨ho, hp⟩
    exact ⟨ordB_of hf.le ho, (in_iff hf (rgt_tot hf.le ho) h64 (totF_64 _ _)).2 fun i j hi hb => (bt_tot hf.le ho).2 (hp i j hi hb)⟩
end Go.Proofs.YtpmlomhlbmgilaaDoor
end

section
/- The relation of an order: it determines the order. -/
namespace Go.Proofs.YtpmlomhlbmgilaaDoor
open Go.RowKit Go.Shelf

theorem bef_tail {a : Nat} {l : List Nat} {i j : Nat} (h : Bef l i j) : Bef (a :: l) i j := by
  obtain ⟨x, y, h1, h2, h3⟩ := h
  exact ⟨x + 1, y + 1, by omega, by simpa using h2, by simpa using h3⟩
theorem bef_untail {a : Nat} {l : List Nat} {i j : Nat} (hi : i ≠ a) (h : Bef (a :: l) i j) : Bef l i j := by
  obtain ⟨x, y, h1, h2, h3⟩ := h
  cases x with
  | zero => simp at h2; exact absurd h2.symm hi
  | succ x =>
    cases y with
    | zero => omega
    | succ y => exact ⟨x, y, by omega, by simpa using h2, by simpa using h3⟩
/-- Two lists of the same things, without repetitions, the one's order being the other's, are the same. -/
theorem bef_uniq : ∀ {l m : List Nat}, l.Nodup → m.Nodup → (∀ x, x ∈ l ↔ x ∈ m) → (∀ i j, Bef l i j → Bef m i j) → l = m
  | [], m, _, _, hm, _ => by
    cases m with
    | nil => rfl
    | cons b m => exact absurd ((hm b).2 (by simp)) (by simp)
  | a :: l, [], _, _, hm, _ => absurd ((hm a).1 (by simp)) (by simp)
  | a :: l, b :: m, hl, hn, hm, hb => by
    have hab : a = b := by
      refine Classical.byContradiction fun hne => ?_
      have h1 : b ∈ l := by
        rcases List.mem_cons.1 ((hm b).2 (by simp)) with h | h
        · exact absurd h.symm hne
        · exact h
      obtain ⟨y, hy⟩ := List.getElem?_of_mem h1
      obtain ⟨x', y', h2, h3, h4⟩ := hb a b ⟨0, y + 1, by omega, by simp, by simpa using hy⟩
      have := idx_same hn h4 (j := 0) (by simp)
      omega
    subst hab
    have hl' := List.nodup_cons.1 hl
    have hn' := List.nodup_cons.1 hn
    have : l = m := bef_uniq hl'.2 hn'.2 (fun x => by
      have := hm x
      constructor
      · intro h
        have hne : x ≠ a := fun e => hl'.1 (e ▸ h)
        rcases List.mem_cons.1 (this.1 (by simp [h])) with h2 | h2
        · exact absurd h2 hne
        · exact h2
      · intro h
        have hne : x ≠ a := fun e => hn'.1 (e ▸ h)
        rcases List.mem_cons.1 (this.2 (by simp [h])) with h2 | h2
        · exact absurd h2 hne
        · exact h2) (fun i j h => by
      have hi : i ∈ l := by
        obtain ⟨x, _, _, h2, _⟩ := h
        exact List.mem_of_getElem? h2
      exact bef_untail (fun e => by rw [e] at hi; exact hl'.1 hi) (hb i j (bef_tail h)))
    rw [this]
theorem IsOrd.uniq {N : Nat} {l m : List Nat} (hl : IsOrd N l) (hm : IsOrd N m) (h : ∀ i j, Bef l i j → Bef m i j) : l = m :=
  bef_uniq hl.nodup hm.nodup (fun x => by rw [hl.mem, hm.mem]) h
theorem bef_lt {N : Nat} {l : List Nat} (hN : N ≤ 48) (hl : IsOrd N l) {i j : Nat} (h : Bef l i j) : i < 48 ∧ j < 48 := by
  obtain ⟨a, b, _, h2, h3⟩ := h
  have := (hl.mem i).1 (List.mem_of_getElem? h2)
  have := (hl.mem j).1 (List.mem_of_getElem? h3)
  omega
theorem top_tot {N : Nat} {l : List Nat} (hN : N ≤ 48) (hl : IsOrd N l) (m : List Nat) : TopOK N (totF N (iL l)) m ↔ IsOrd N m ∧ l = m := by
  rw [top_iff (rgt_tot hN hl)]
  constructor
  · rintro ⟨h1, h2⟩
    exact ⟨h1, hl.uniq h1 fun i j h => h2 i j (bef_lt hN hl h).1 ((bt_tot hN hl).2 h)⟩
  · rintro ⟨h1, rfl⟩
    exact ⟨h1, fun i j _ h => (bt_tot hN hl).1 h⟩
theorem keep_tot {N : Nat} {l m : List Nat} (hN : N ≤ 48) (hl : IsOrd N l) (hm : IsOrd N m) : keepB N (totF N (iL l)) (iL m) = decide (l = m) := by
  rw [Bool.eq_iff_iff, keep_iff (rgt_tot hN hl) (totF_64 _ _), top_tot hN hl, decide_eq_true_iff]
  exact ⟨fun h => h.2, fun h => ⟨hm, h⟩⟩
theorem topF_tot {N : Nat} {l : List Nat} (hN : N ≤ 48) (hl : IsOrd N l) : topF N (totF N (iL l)) = some l := by
  rcases top_cyc (rgt_tot hN hl) with ⟨l', h1, h2⟩ | ⟨_, hc⟩
  · rw [h1, ((top_tot hN hl l').1 h2).2]
  · exact absurd hc (((top_tot hN hl l).2 ⟨hl, rfl⟩).acyclic (rgt_tot hN hl))
theorem of_tot {N : Nat} {l : List Nat} (hN : N ≤ 48) (hl : IsOrd N l) : ofO N (totF N (iL l)) = some l := by
  unfold ofO
  rw [topF_tot hN hl]
  have h := ordB_of hN hl
  unfold iL at h ⊢
  have h2 : relB (N : Int) N (totF N (l.map fun k : Nat => (k : Int))) (totF N (l.map fun k : Nat => (k : Int))) = true := relB_bits fun _ _ _ => Iff.rfl
  simp only [h, opN, if_true]
  rw [if_pos h2]
theorem plus_tot {N : Nat} {l : List Nat} (hN : N ≤ 48) (hl : IsOrd N l) : relB N N (plusF N (totF N (iL l))) (totF N (iL l)) = true :=
  relB_bits fun _ _ hi => ⟨fun h => plus_min (rgt_tot hN hl) (fun _ _ _ h => h) (fun _ _ _ _ _ h1 h2 => (bt_tot hN hl).2 (((bt_tot hN hl).1 h1).trans hl.nodup ((bt_tot hN hl).1 h2))) hi h, plus_base (rgt_tot hN hl) hi⟩
theorem rev_ord {N : Nat} {l : List Nat} (hl : IsOrd N l) : IsOrd N l.reverse := ⟨(List.reverse_perm l).nodup_iff.2 hl.nodup, fun x => by rw [List.mem_reverse]; exact hl.mem x⟩
theorem bef_rev {l : List Nat} {i j : Nat} : Bef l.reverse i j ↔ Bef l j i := by
  have key : ∀ (l : List Nat) (i j : Nat), Bef l i j → Bef l.reverse j i := by
    rintro l i j ⟨a, b, h1, h2, h3⟩
    have ha := (List.getElem?_eq_some_iff.1 h2).1
    have hb := (List.getElem?_eq_some_iff.1 h3).1
    refine ⟨l.length - 1 - b, l.length - 1 - a, by omega, ?_, ?_⟩
    · rw [List.getElem?_reverse (by omega), show l.length - 1 - (l.length - 1 - b) = b by omega, h3]
    · rw [List.getElem?_reverse (by omega), show l.length - 1 - (l.length - 1 - a) = a by omega, h2]
  exact ⟨fun h => by have := key _ _ _ h; rwa [List.reverse_reverse] at this, key l j i⟩
theorem back_tot {N : Nat} {l : List Nat} (hN : N ≤ 48) (hl : IsOrd N l) : relB N N (backF N (totF N (iL l))) (totF N (iL l.reverse)) = true :=
  relB_bits fun i j hi => by
    rw [bt_back (rgt_tot hN hl) hi, bt_tot hN hl, bt_tot hN (rev_ord hl), bef_rev]
    exact ⟨fun h => h.2, fun h => ⟨(bef_lt hN hl h).1, h⟩⟩
end Go.Proofs.YtpmlomhlbmgilaaDoor
end
