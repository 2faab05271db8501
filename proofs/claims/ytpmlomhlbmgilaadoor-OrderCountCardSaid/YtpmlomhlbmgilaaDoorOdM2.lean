/- OrdComplete2, OrdOrders, OrdCount in one text, for the claim. -/
import Derived.Test.YtpmlomhlbmgilaaDoorOdM1
import Derived.Test.YtpmlomhlbmgilaaDoorRelBack
import Derived.Test.YtpmlomhlbmgilaaDoorRelOk

section
/- order.complete: the orders that begin so: the walk. -/
namespace Go.Proofs.YtpmlomhlbmgilaaDoor
open Go.RowKit Go.Shelf

attribute [local go_sem] Oper.semAt_some

theorem els_nil {s : Nat} (hs : s < 2 ^ 48) (h : (MM.els s).length = 0) : s = 0 := by
  apply Decidable.byContradiction
  intro h0
  obtain ⟨k, _, he, _⟩ := MM.els_step s h0 (by omega)
  rw [he] at h
  simp at h
theorem readyL_mem {B : Nat → Nat} {s a : Nat} (h : a ∈ readyL B s) : a ∈ MM.els s := (List.mem_filter.1 h).1

theorem KeepS.setNew {kp : Nat → Prop} {W W' : World} (h : KeepS kp W W') (a : Addr) (v : Value) (ha : W.heap.size ≤ a.block) : KeepS kp W (W'.setCell a v) :=
  ⟨h.os, h.tape, h.output, Nat.le_trans h.size (by simp [World.setCell]), fun k o hk ho => (Below.heap_setCell W' a v k (by have := (Array.getElem?_eq_some_iff.1 ho).1; omega)).trans (h.block k o hk ho)⟩
theorem Chg.only {ex : Nat → Nat → Obj → Prop} {W W' : World} {B g k : Nat} (hO : Only k W W') (hB : B ≤ k) (he : ∀ o, ex g k o) : Chg ex B g W W' :=
  ⟨hO.os, hO.tape, hO.output, Nat.le_of_eq hO.size.symm, fun i o hi ho => (hO.block i (by
    rintro rfl
    rcases hi with hi | ⟨_, hi⟩
    · omega
    · exact hi (he o))).trans ho⟩
theorem KeepS.chg {kp : Nat → Prop} {ex : Nat → Nat → Obj → Prop} {W A B : World} {g : Nat} (h : KeepS kp W A) (hc : Chg ex W.heap.size g A B) : KeepS kp W B :=
  ⟨hc.os.trans h.os, hc.tape.trans h.tape, hc.output.trans h.output, Nat.le_trans h.size hc.size, fun k o hk ho => hc.block k o (.inl (Array.getElem?_eq_some_iff.1 ho).1) (h.block k o hk ho)⟩
theorem hb_result (W : World) (b : Nat) (v : Bool) {u : Value} (h : Boxed W b 4 u) {tmps : Array Value} (ht : tmps.getD 8 undef = .pointer (some ⟨b, 0, none⟩)) :
    (results Tryd.f97 tmps).run Tryd.prog (W.setCell ⟨b, 0, none⟩ (.bool v)) = .ok (.bool v) (W.setCell ⟨b, 0, none⟩ (.bool v)) := by
  have h' := (h.set (.bool v)).cell
  have ht' : tmps[8]?.getD undef = .pointer (some ⟨b, 0, none⟩) := by simpa using ht
  simp [results, Tryd.f97, go_sem, ht', h']

theorem KeepS.putNew {kp : Nat → Prop} {W W' : World} (h : KeepS kp W W') (l : Nat) (o : Obj) (ha : W.heap.size ≤ l) : KeepS kp W (W'.putObj l o) :=
  ⟨h.os, h.tape, h.output, Nat.le_trans h.size (by simp), fun k o' hk ho => (World.putObj_heap_other (by have := (Array.getElem?_eq_some_iff.1 ho).1; omega)).trans (h.block k o' hk ho)⟩
theorem hb_result3 (W : World) (b : Nat) (v : Bool) (h : Boxed W b 4 (.bool v)) (D : Nat) (hD : b ≠ D) {tmps : Array Value} (ht : tmps.getD 8 undef = .pointer (some ⟨b, 0, none⟩)) :
    (results Tryd.f97 tmps).run Tryd.prog (W.putObj D (.deferred none)) = .ok (.bool v) (W.putObj D (.deferred none)) := by
  have h' := Boxed.cell (show Boxed (W.putObj D (.deferred none)) b 4 (.bool v) from (World.putObj_heap_other hD).trans h)
  have ht' : tmps[8]?.getD undef = .pointer (some ⟨b, 0, none⟩) := by simpa using ht
  simp [results, Tryd.f97, go_sem, ht', h']
theorem hb_result2 (W : World) (b : Nat) (v : Bool) {u : Value} (h : Boxed W b 4 u) (D : Nat) (hD : b ≠ D) {tmps : Array Value} (ht : tmps.getD 8 undef = .pointer (some ⟨b, 0, none⟩)) :
    (results Tryd.f97 tmps).run Tryd.prog ((W.setCell ⟨b, 0, none⟩ (.bool v)).putObj D (.deferred none)) = .ok (.bool v) ((W.setCell ⟨b, 0, none⟩ (.bool v)).putObj D (.deferred none)) :=
  hb_result3 _ b v (h.set (.bool v)) D hD ht

/-- What complete leaves. -/
structure ComplPost (n₀ Br m g N : Nat) (xs : List Nat) (W W' : World) : Prop where
  keep : KeepS (fun k => (k < n₀ ∨ k = Br ∨ m ≤ k) ∧ k ≠ g) W W'
  row : RowP W' g N xs

set_option maxRecDepth 100000 in
set_option maxHeartbeats 2000000 in
theorem complete_in (m n₀ Br Bn g : Nat) (hn₀ : 0 < n₀) (hnm : n₀ ≤ m) (hBm : m ≤ Bn) (hgm : m ≤ g) (hne : Bn ≠ g) (Nn : Int) (B : Nat → Nat) (hB : R64 B) (N : Nat) (hN : N ≤ 48) (l : Nat)
    (J Jx : Nat → List (List Nat) → World → Prop) (hJ : Cl exO m J) (hJx : Cl exO m Jx) (L : List (List Nat))
    (hY : ∀ nY pre x W1, J g pre W1 → RowP W1 g N x → x.length = N → pre ++ [x] <+: L → YieldAt Fence.wide nY Tryd.prog l #[.slice (some ⟨g, 0, none⟩) N N] W1 fun en W' => KeepK (fun k => k < n₀ ∨ k = Br) m W1 W' ∧
      ((en = .returned (.bool true) ∧ J g (pre ++ [x]) W') ∨ (en = .returned (.bool false) ∧ Jx g (pre ++ [x]) W'))) :
    ∀ (d s : Nat) (xs : List Nat) (pre0 : List (List Nat)) (n : Nat) (W : World), (MM.els s).length = d → s < 2 ^ 48 → xs.length + d = N → pre0 ++ compl B d s xs <+: L → Tab W → m ≤ W.heap.size → RelAt W Bn Nn B → RowP W g N xs → J g pre0 W →
      CallsIn Fence.wide n Tryd.prog 97 #[.pointer (some ⟨Bn, 0, none⟩), .int .u64 (s : Int), .slice (some ⟨g, 0, none⟩) xs.length N, .func (.yield l) #[] #[]] W fun e W' =>
        ComplPost n₀ Br m g N xs W W' ∧ ((e = .returned (.bool true) ∧ J g (pre0 ++ compl B d s xs) W') ∨ (e = .returned (.bool false) ∧ ∃ pre, pre <+: L ∧ Jx g pre W')) := by
  intro d
  have HJ := Lib.hid hJ
  have HJx := Lib.hid hJx
  have HY := Lib.hid hY
  clear hJ hJx hY
  induction d with
  | zero =>
    intro s xs pre0 n W hd hs hx hp hT hm hR hrow hj
    refine callsIn_wide.2 ((callsIn_wide (n := 5)).1 ?_)
    obtain rfl := els_nil hs hd
    simp only [Nat.add_zero] at hx
    subst hx
    have hR1 := hrow
    have hb0 := Boxed.new ((((W.alloc (.cells #[.pointer (some ⟨Bn, 0, none⟩)] 82)).alloc (.cells #[.int .u64 0] 23)).alloc (.cells #[.slice (some ⟨g, 0, none⟩) xs.length xs.length] 46)).alloc (.cells #[.func (.yield l) #[] #[]] 108)) 4 (.bool false)
    have hBl : Below W.heap.size W (((((W.alloc (.cells #[.pointer (some ⟨Bn, 0, none⟩)] 82)).alloc (.cells #[.int .u64 0] 23)).alloc (.cells #[.slice (some ⟨g, 0, none⟩) xs.length xs.length] 46)).alloc (.cells #[.func (.yield l) #[] #[]] 108)).alloc (.cells #[.bool false] 4)) :=
      (((((Below.refl _ W).alloc (Nat.le_refl _) _).alloc (by simp) _).alloc (by simp; omega) _).alloc (by simp; omega) _).alloc (by simp; omega) _
    have hj1 := HJ.out _ _ _ _ hj (Chg.of_below hBl)
    have hrow1 := hrow.on hBl
    simp only [compl] at hp ⊢
    obtain ⟨fn, tmps, assign, body, hy, hRd⟩ := HY.out (5 - 1) _ xs _ hj1 hrow1 rfl hp
    simp only [World.size_alloc] at hb0
    have hb4 := Lib.hid hb0
    have hsz := Lib.hid (show (((((W.alloc (.cells #[.pointer (some ⟨Bn, 0, none⟩)] 82)).alloc (.cells #[.int .u64 0] 23)).alloc (.cells #[.slice (some ⟨g, 0, none⟩) xs.length xs.length] 46)).alloc (.cells #[.func (.yield l) #[] #[]] 108)).alloc (.cells #[.bool false] 4)).heap.size = W.heap.size + 1 + 1 + 1 + 1 + 1 by simp)
    replace hBl := Lib.hid hBl
    replace hrow1 := Lib.hid hrow1
    clear hb0 hj1 hj hrow
    refine callsIn_of_wp Tryd.func97 rfl trivial ?_ rfl
    simp only [Tryd.ntmps97, List.size_toArray, List.length_cons, List.length_nil, Nat.reduceAdd, Nat.reduceSub, Array.replicate_succ, Array.replicate_zero, List.push_toArray, List.append_toArray, List.nil_append, List.cons_append]
    gi_wp2
    refine hRd.mono ?_
    rintro e W3 ⟨hk3, h3⟩
    have hg4 : g ≠ W.heap.size + 1 + 1 + 1 + 1 := by have := hR1.lt; omega
    have h4 : Boxed W3 (W.heap.size + 1 + 1 + 1 + 1) 4 (.bool false) := hk3.block _ _ (.inr (by omega)) hb4.out
    have f4 := h4.frozen
    have c4 := h4.cell
    have hkS : ∀ v, KeepS (fun k => (k < n₀ ∨ k = Br ∨ m ≤ k) ∧ k ≠ g) W (W3.setCell ⟨W.heap.size + 1 + 1 + 1 + 1, 0, none⟩ v) := fun v =>
      (((KeepS.of_below hBl.out).trans (hk3.toS fun k hk => by have := hk.1; omega)).setNew ⟨W.heap.size + 1 + 1 + 1 + 1, 0, none⟩ v (by simp; omega))
    have hrow3 : RowP W3 g xs.length xs := hrow1.out.same fun o ho => hk3.block _ _ (.inr hgm) ho
    have hrowS : ∀ v, RowP (W3.setCell ⟨W.heap.size + 1 + 1 + 1 + 1, 0, none⟩ v) g xs.length xs := fun v => hrow3.same fun o ho => (Below.heap_setCell W3 _ v g hg4).trans ho
    have hCh : ∀ v, Chg exO m g W3 (W3.setCell ⟨W.heap.size + 1 + 1 + 1 + 1, 0, none⟩ v) := fun v => Chg.setCell W3 _ v (by simp; omega) (fun o ho => .inl ⟨_, _, (Option.some.inj (ho.symm.trans h4))⟩)
    rcases h3 with ⟨rfl, hj3⟩ | ⟨rfl, hj3⟩
    · have hE := fun tmps ht => hb_result W3 _ true h4 (tmps := tmps) ht
      gi_wp2
      refine bodyPost_ret (hE _ rfl) rfl ?_
      exact ⟨⟨hkS _, hrowS _⟩, .inl ⟨rfl, HJ.out _ _ _ _ hj3 (hCh _)⟩⟩
    · have hE := fun tmps ht => hb_result W3 _ false h4 (tmps := tmps) ht
      gi_wp2
      refine bodyPost_ret (hE _ rfl) rfl ?_
      exact ⟨⟨hkS _, hrowS _⟩, .inr ⟨rfl, _, hp, HJx.out _ _ _ _ hj3 (hCh _)⟩⟩
  | succ d ih =>
    intro s xs pre0 n W hd hs hx hp hT hm hR hrow hj
    refine callsIn_wide.2 ((callsIn_wide (n := 5)).1 ?_)
    have hs0 : s ≠ 0 := by rintro rfl; simp [MM.els_zero] at hd
    have hs1 : (((s : Nat) : Int) == 0) = false := by simp; omega
    have hB5 : Below W.heap.size W (((((W.alloc (.cells #[.pointer (some ⟨Bn, 0, none⟩)] 82)).alloc (.cells #[.int .u64 (s : Int)] 23)).alloc (.cells #[.slice (some ⟨g, 0, none⟩) xs.length N] 46)).alloc (.cells #[.func (.yield l) #[] #[]] 108)).alloc (.cells #[.bool false] 4)) :=
      (((((Below.refl _ W).alloc (Nat.le_refl _) _).alloc (by simp) _).alloc (by simp; omega) _).alloc (by simp; omega) _).alloc (by simp; omega) _
    have b0 := Boxed.new W 82 (.pointer (some ⟨Bn, 0, none⟩))
    have b1 := Boxed.new (W.alloc (.cells #[.pointer (some ⟨Bn, 0, none⟩)] 82)) 23 (.int .u64 (s : Int))
    have b2 := Boxed.new ((W.alloc (.cells #[.pointer (some ⟨Bn, 0, none⟩)] 82)).alloc (.cells #[.int .u64 (s : Int)] 23)) 46 (.slice (some ⟨g, 0, none⟩) xs.length N)
    have b3 := Boxed.new (((W.alloc (.cells #[.pointer (some ⟨Bn, 0, none⟩)] 82)).alloc (.cells #[.int .u64 (s : Int)] 23)).alloc (.cells #[.slice (some ⟨g, 0, none⟩) xs.length N] 46)) 108 (.func (.yield l) #[] #[])
    have b4 := Boxed.new ((((W.alloc (.cells #[.pointer (some ⟨Bn, 0, none⟩)] 82)).alloc (.cells #[.int .u64 (s : Int)] 23)).alloc (.cells #[.slice (some ⟨g, 0, none⟩) xs.length N] 46)).alloc (.cells #[.func (.yield l) #[] #[]] 108)) 4 (.bool false)
    simp only [World.size_alloc] at b0 b1 b2 b3 b4
    replace b0 := (((b0.alloc (.cells #[.int .u64 (s : Int)] 23)).alloc (.cells #[.slice (some ⟨g, 0, none⟩) xs.length N] 46)).alloc (.cells #[.func (.yield l) #[] #[]] 108)).alloc (.cells #[.bool false] 4)
    replace b1 := ((b1.alloc (.cells #[.slice (some ⟨g, 0, none⟩) xs.length N] 46)).alloc (.cells #[.func (.yield l) #[] #[]] 108)).alloc (.cells #[.bool false] 4)
    replace b2 := (b2.alloc (.cells #[.func (.yield l) #[] #[]] 108)).alloc (.cells #[.bool false] 4)
    replace b3 := b3.alloc (.cells #[.bool false] 4)
    have hz5 : (((((W.alloc (.cells #[.pointer (some ⟨Bn, 0, none⟩)] 82)).alloc (.cells #[.int .u64 (s : Int)] 23)).alloc (.cells #[.slice (some ⟨g, 0, none⟩) xs.length N] 46)).alloc (.cells #[.func (.yield l) #[] #[]] 108)).alloc (.cells #[.bool false] 4)).heap.size = W.heap.size + 5 := by simp
    refine callsIn_of_wp_marks Tryd.func97 rfl trivial ?_ rfl
    simp only [Tryd.ntmps97, List.size_toArray, List.length_cons, List.length_nil, Nat.reduceAdd, Nat.reduceSub, Array.replicate_succ, Array.replicate_zero, List.push_toArray, List.append_toArray, List.nil_append, List.cons_append]
    gi_wp2_with fail
    generalize ((((W.alloc (.cells #[.pointer (some ⟨Bn, 0, none⟩)] 82)).alloc (.cells #[.int .u64 (s : Int)] 23)).alloc (.cells #[.slice (some ⟨g, 0, none⟩) xs.length N] 46)).alloc (.cells #[.func (.yield l) #[] #[]] 108)).alloc (.cells #[.bool false] 4) = W1 at *
    refine ⟨trivial, ?_⟩
    refine (callsIn_wide.2 (ready_any _ _ _)).mono ?_
    rintro e W2 ⟨rfl, hW2⟩
    have e0 := Boxed.new W1 82 (.pointer (some ⟨Bn, 0, none⟩))
    have e1 := Boxed.new (W1.alloc (.cells #[.pointer (some ⟨Bn, 0, none⟩)] 82)) 23 (.int .u64 (s : Int))
    replace e0 := e0.alloc (.cells #[.int .u64 (s : Int)] 23)
    rw [World.size_alloc] at e1
    have hB2 : Below W1.heap.size W1 W2 := by rw [← hW2]; exact ((Below.refl _ W1).alloc (Nat.le_refl _) _).alloc (by simp) _
    have hz2 : W2.heap.size = W1.heap.size + 2 := by rw [← hW2]; simp
    rw [hW2, hz5] at e0 e1
    clear hW2
    have hB6 : Below W.heap.size W W2 := hB5.trans (hB2.mono (by omega))
    have hT2 : Tab W2 := hT.below hB6 hT.pos
    have hR2 : RelAt W2 Bn Nn B := hR.on hB6
    have hrow2 := hrow.on hB6
    have hj2 := HJ.out _ _ _ _ hj (Chg.of_below hB6)
    replace b0 := boxed_on b0 hB2
    replace b1 := boxed_on b1 hB2
    replace b2 := boxed_on b2 hB2
    replace b3 := boxed_on b3 hB2
    replace b4 := boxed_on b4 hB2
    have hRl := hR.lt
    have hgl := hrow.lt
    have hB6h := Lib.hid hB6
    have hTh := Lib.hid hT2
    have HB2 := Lib.hid hB2
    have HB5 := Lib.hid hB5
    clear hT hT2 hrow hj hB6 hB2 hB5
    gi_wp2_with fail
    refine range_some rfl (by omega) (gf := 103) (lb := #[.pointer (some ⟨W.heap.size + 5 + 1, 0, none⟩), .pointer (some ⟨W.heap.size + 5, 0, none⟩)]) rfl trivial (enters_of Tryd.func103 (by kernel_rfl) rfl)
      (ready1_gives 4 (by omega) (W.heap.size + 5 + 1) (W.heap.size + 5) Bn n₀ hn₀ Nn B hB s hs W2 hTh.out (by omega) e1 e0 hR2) (fun k hk => by omega) (fun _ _ => rfl) (fun _ _ _ _ _ _ _ _ _ => trivial)
      (fun _ pre W' => J g (pre0 ++ pre.flatMap fun a => compl B d (clr s a) (xs ++ [a])) W' ∧ RowP W' g N xs ∧ KeepS (fun k => (k < n₀ ∨ k = Br ∨ m ≤ k) ∧ k ≠ g) W2 W')
      (fun c _ pre W' => c = .ret ∧ (∃ pr, pr <+: L ∧ Jx g pr W') ∧ RowP W' g N xs ∧ KeepS (fun k => ((k < n₀ ∨ k = Br ∨ m ≤ k) ∧ k ≠ g) ∧ k ≠ W.heap.size + 1 + 1 + 1 + 1) W2 W' ∧ Boxed W' (W.heap.size + 1 + 1 + 1 + 1) 4 (.bool false))
      ?clI ?clX (fun _ _ => ⟨by simpa using hj2, hrow2, KeepS.refl _⟩)
      (fun _ a => { tmps := #[.pointer (some ⟨Bn, 0, none⟩), .int .u64 (s : Int), .slice (some ⟨g, 0, none⟩) xs.length N, .func (.yield l) #[] #[], .pointer (some ⟨W.heap.size, 0, none⟩), .pointer (some ⟨W.heap.size + 1, 0, none⟩), .pointer (some ⟨W.heap.size + 1 + 1, 0, none⟩), .pointer (some ⟨W.heap.size + 1 + 1 + 1, 0, none⟩), .pointer (some ⟨W.heap.size + 1 + 1 + 1 + 1, 0, none⟩), .int .i64 (a : Int), .int .u64 (s : Int), .bool false, undef, undef, undef, .pointer (some ⟨Bn, 0, none⟩), .int .u64 (s : Int), .func (.func 103) #[] #[.pointer (some ⟨W.heap.size + 5 + 1, 0, none⟩), .pointer (some ⟨W.heap.size + 5, 0, none⟩)], .int .i64 (a : Int), undef, undef, undef, undef, undef, undef, undef, undef, undef, undef, undef, undef], defers := [] }) ?assign ?body ?done ?stop
    case clI =>
      rintro g' pre A A' ⟨h1, h2, h3⟩ hc
      exact ⟨HJ.out _ _ _ _ h1 (hc.sharper (by omega) (fun _ _ _ h => h.elim)), h2.same fun o ho => hc.block _ _ (.inl (by omega)) ho, h3.chg hc⟩
    case clX =>
      rintro c g' pre A A' ⟨h0, ⟨pr, hp, h1⟩, h2, h3, h4⟩ hc
      exact ⟨h0, ⟨pr, hp, HJx.out _ _ _ _ h1 (hc.sharper (by omega) (fun _ _ _ h => h.elim))⟩, h2.same fun o ho => hc.block _ _ (.inl (by omega)) ho, h3.chg hc, hc.block _ _ (.inl (by omega)) h4⟩
    case assign =>
      intro l2 g' x W' K hK
      gi_wp2
      exact hK
    case body =>
      rintro l2 g' pre a W3 - ⟨hj3, hrow3, hk3⟩ - hpre
      have hmem : a ∈ MM.els s := readyL_mem (hpre.subset (by simp))
      have ha48 := els_48 hs hmem
      have hm : Tryd.prog.follows .mixedOrders = true := by kernel_rfl
      have a0 : Boxed W3 W.heap.size 82 (.pointer (some ⟨Bn, 0, none⟩)) := hk3.block _ _ ⟨by omega, by omega⟩ b0
      have a1 : Boxed W3 (W.heap.size + 1) 23 (.int .u64 (s : Int)) := hk3.block _ _ ⟨by omega, by omega⟩ b1
      have a2 : Boxed W3 (W.heap.size + 1 + 1) 46 (.slice (some ⟨g, 0, none⟩) xs.length N) := hk3.block _ _ ⟨by omega, by omega⟩ b2
      have a3 : Boxed W3 (W.heap.size + 1 + 1 + 1) 108 (.func (.yield l) #[] #[]) := hk3.block _ _ ⟨by omega, by omega⟩ b3
      have a64 : (a : Int) < 64 := by omega
      have hcb : bits BinOp.andNot IntKind.u64 (s : Int) (IntKind.u64.wrap (2 ^ a)) = (clr s a : Int) := by
        have hp2 : 2 ^ a < 2 ^ 64 := Nat.pow_lt_pow_right (by omega) (by omega)
        rw [shl1_nat a (by omega), u64_andNot_nat _ _ (by omega) hp2]; rfl
      gi_wp2
      refine wpIn_region_held (fun W' => W'.cell? ⟨W.heap.size, 0, none⟩ = some (.pointer (some ⟨Bn, 0, none⟩)) ∧ W'.cell? ⟨W.heap.size + 1, 0, none⟩ = some (.int .u64 (s : Int)) ∧ W'.cell? ⟨W.heap.size + 1 + 1, 0, none⟩ = some (.slice (some ⟨g, 0, none⟩) xs.length N) ∧ W'.cell? ⟨W.heap.size + 1 + 1 + 1, 0, none⟩ = some (.func (.yield l) #[] #[])) hm ?_
      simp only [List.length_cons, List.length_nil, Nat.reduceAdd]
      refine heldIn_take (i := 0) (v := .pointer (some ⟨Bn, 0, none⟩)) (fun _ => trivial) (by kernel_rfl) (by kernel_rfl) (fun _ _ _ _ _ h => h) rfl rfl (by kernel_rfl) (fun W' hC => by obtain ⟨c0, c1, c2, c3⟩ := hC; go_simp) ?_
      simp only [Act.put, List.setIfInBounds_toArray, List.set_cons_succ, List.set_cons_zero]
      refine heldIn_take (i := 1) (v := .int .u64 (s : Int)) (fun _ => trivial) (by kernel_rfl) (by kernel_rfl) (fun _ _ _ _ _ h => h) rfl rfl (by kernel_rfl) (fun W' hC => by obtain ⟨c0, c1, c2, c3⟩ := hC; go_simp) ?_
      simp only [Act.put, List.setIfInBounds_toArray, List.set_cons_succ, List.set_cons_zero]
      refine heldIn_take (i := 2) (v := .int .i64 (a : Int)) (fun _ => trivial) (by kernel_rfl) (by kernel_rfl) (fun _ _ _ _ _ h => h) rfl rfl (by kernel_rfl) (fun W' hC => by obtain ⟨c0, c1, c2, c3⟩ := hC; go_simp) ?_
      simp only [Act.put, List.setIfInBounds_toArray, List.set_cons_succ, List.set_cons_zero]
      refine heldIn_take (i := 3) (v := .int .u64 (IntKind.u64.wrap (2 ^ a))) (fun _ => trivial) (by kernel_rfl) (by kernel_rfl) (fun _ _ _ _ _ h => h) rfl rfl (by kernel_rfl) (fun W' hC => by obtain ⟨c0, c1, c2, c3⟩ := hC; go_simp) ?_
      simp only [Act.put, List.setIfInBounds_toArray, List.set_cons_succ, List.set_cons_zero]
      refine heldIn_take (i := 4) (v := .int .u64 (bits BinOp.andNot IntKind.u64 (s : Int) (IntKind.u64.wrap (2 ^ a)))) (fun _ => trivial) (by kernel_rfl) (by kernel_rfl) (fun _ _ _ _ _ h => h) rfl rfl (by kernel_rfl) (fun W' hC => by obtain ⟨c0, c1, c2, c3⟩ := hC; go_simp) ?_
      simp only [Act.put, List.setIfInBounds_toArray, List.set_cons_succ, List.set_cons_zero]
      rw [hcb]
      refine heldIn_take (i := 5) (v := .slice (some ⟨g, 0, none⟩) xs.length N) (fun _ => trivial) (by kernel_rfl) (by kernel_rfl) (fun _ _ _ _ _ h => h) rfl rfl (by kernel_rfl) (fun W' hC => by obtain ⟨c0, c1, c2, c3⟩ := hC; go_simp) ?_
      simp only [Act.put, List.setIfInBounds_toArray, List.set_cons_succ, List.set_cons_zero]
      refine heldIn_take (i := 6) (v := .int .i64 (a : Int)) (fun _ => trivial) (by kernel_rfl) (by kernel_rfl) (fun _ _ _ _ _ h => h) rfl rfl (by kernel_rfl) (fun W' hC => by obtain ⟨c0, c1, c2, c3⟩ := hC; go_simp) ?_
      simp only [Act.put, List.setIfInBounds_toArray, List.set_cons_succ, List.set_cons_zero]
      refine heldIn_take (i := 9) (v := .func (.yield l) #[] #[]) (fun _ => trivial) (by kernel_rfl) (by kernel_rfl) (fun _ _ _ _ _ h => h) rfl rfl (by kernel_rfl) (fun W' hC => by obtain ⟨c0, c1, c2, c3⟩ := hC; go_simp) ?_
      simp only [Act.put, List.setIfInBounds_toArray, List.set_cons_succ, List.set_cons_zero]
      refine heldIn_one (i := 7) rfl ⟨a0.cell, a1.cell, a2.cell, a3.cell⟩ (by kernel_rfl) (by kernel_rfl) ?_
      refine ⟨fun _ _ => trivial, ?_⟩
      rw [Oper.semAt_eq _ _ _ (fun c h => by cases h)]
      go_simp
      have hp3 : (W3.alloc (.cells #[.int .i64 (a : Int)] 3)).drew.cell? ⟨W3.heap.size, 0, none⟩ = some (.int .i64 (a : Int)) := by
        rw [cell_of_row _ _ 0 _ _ _ (show (W3.alloc (.cells #[.int .i64 (a : Int)] 3)).drew.heap[W3.heap.size]? = some (.cells #[.int .i64 (a : Int)] 3 (0, 0)) from heap_alloc_new W3 _)]
        rfl
      have hB34 : Below W3.heap.size W3 (W3.alloc (.cells #[.int .i64 (a : Int)] 3)).drew := ((Below.refl _ W3).alloc (Nat.le_refl _) _).drew
      have hrow4 := hrow3.on hB34
      have hz3 := hk3.size
      generalize (W3.alloc (.cells #[.int .i64 (a : Int)] 3)).drew = W4 at *
      obtain ⟨W5, hr5, hrow5, hO5⟩ := hrow4.push (by omega) ⟨W3.heap.size, 0, none⟩ 1 a hp3
      have hS4 : KeepS (fun k => (k < n₀ ∨ k = Br ∨ m ≤ k) ∧ k ≠ g) W2 W4 := hk3.trans (KeepS.of_below hB34)
      have hS45 : KeepS (fun k => (k < n₀ ∨ k = Br ∨ m ≤ k) ∧ k ≠ g) W4 W5 := ⟨hO5.os, hO5.tape, hO5.output, Nat.le_of_eq hO5.size.symm, fun k o hk ho => (hO5.block k hk.2).trans ho⟩
      have hS5 := hS4.trans hS45
      have hT5 : Tab W5 := hTh.out.below (hS5.below (n := n₀) (fun k h => ⟨.inl h, by omega⟩) (by omega)) hn₀
      have hR5 : RelAt W5 Bn Nn B := hS5.block _ _ ⟨by omega, hne⟩ hR2
      have hj5 : J g (pre0 ++ pre.flatMap fun a => compl B d (clr s a) (xs ++ [a])) W5 := HJ.out _ _ _ _ (HJ.out _ _ _ _ hj3 (Chg.of_below hB34)) (Chg.only hO5 hgm (fun _ => .inr rfl))
      have hlen : (xs ++ [a]).length = xs.length + 1 := by simp
      have hpre2 : (pre0 ++ pre.flatMap fun a => compl B d (clr s a) (xs ++ [a])) ++ compl B d (clr s a) (xs ++ [a]) <+: L := by
        refine List.IsPrefix.trans ?_ hp
        rw [List.append_assoc, List.prefix_append_right_inj, compl]
        obtain ⟨r, hr⟩ := hpre
        exact ⟨r.flatMap fun a => compl B d (clr s a) (xs ++ [a]), by rw [← hr]; simp⟩
      have hcl := els_clr_len s a hs hmem
      have IH := ih (clr s a) (xs ++ [a]) _ 3 W5 (by omega) (clr_lt s a hs) (by omega) hpre2 hT5 (by have := hS5.size; omega) hR5 hrow5 hj5
      rw [hlen] at IH
      have x0 : Boxed W5 W.heap.size 82 (.pointer (some ⟨Bn, 0, none⟩)) := hS5.block _ _ ⟨by omega, by omega⟩ b0
      have x1 : Boxed W5 (W.heap.size + 1) 23 (.int .u64 (s : Int)) := hS5.block _ _ ⟨by omega, by omega⟩ b1
      have x2 : Boxed W5 (W.heap.size + 1 + 1) 46 (.slice (some ⟨g, 0, none⟩) xs.length N) := hS5.block _ _ ⟨by omega, by omega⟩ b2
      have x3 : Boxed W5 (W.heap.size + 1 + 1 + 1) 108 (.func (.yield l) #[] #[]) := hS5.block _ _ ⟨by omega, by omega⟩ b3
      have y0 : Boxed W4 W.heap.size 82 (.pointer (some ⟨Bn, 0, none⟩)) := hS4.block _ _ ⟨by omega, by omega⟩ b0
      have y1 : Boxed W4 (W.heap.size + 1) 23 (.int .u64 (s : Int)) := hS4.block _ _ ⟨by omega, by omega⟩ b1
      have y2 : Boxed W4 (W.heap.size + 1 + 1) 46 (.slice (some ⟨g, 0, none⟩) xs.length N) := hS4.block _ _ ⟨by omega, by omega⟩ b2
      have y3 : Boxed W4 (W.heap.size + 1 + 1 + 1) 108 (.func (.yield l) #[] #[]) := hS4.block _ _ ⟨by omega, by omega⟩ b3
      refine heldIn_one (i := 8) rfl ⟨y0.cell, y1.cell, y2.cell, y3.cell⟩ (by kernel_rfl) (by kernel_rfl) ?_
      refine wpIn_append_run (fun _ => trivial) (.tmp 24) (.tmp 26) 46 rfl rfl rfl hr5 ?_
      simp only [Act.put, List.setIfInBounds_toArray, List.set_cons_succ, List.set_cons_zero]
      refine heldIn_one (i := 10) rfl ⟨x0.cell, x1.cell, x2.cell, x3.cell⟩ (by kernel_rfl) (by kernel_rfl) ?_
      refine wpIn_call_run (fun _ => trivial) rfl (fun c h => by cases h) (f := 97) (args := #[.pointer (some ⟨Bn, 0, none⟩), .int .u64 (clr s a : Int), .slice (some ⟨g, 0, none⟩) (xs.length + 1) N, .func (.yield l) #[] #[]]) (by go_simp) (CallsIn.inRound l2 (callsIn_wide.2 (callsIn_wide.1 IH))) ?_
      rintro e W6 ⟨⟨hkC, hrow6⟩, hend⟩
      have hS6 := hS5.trans hkC
      have z0 : Boxed W6 W.heap.size 82 (.pointer (some ⟨Bn, 0, none⟩)) := hS6.block _ _ ⟨by omega, by omega⟩ b0
      have z1 : Boxed W6 (W.heap.size + 1) 23 (.int .u64 (s : Int)) := hS6.block _ _ ⟨by omega, by omega⟩ b1
      have z2 : Boxed W6 (W.heap.size + 1 + 1) 46 (.slice (some ⟨g, 0, none⟩) xs.length N) := hS6.block _ _ ⟨by omega, by omega⟩ b2
      have z3 : Boxed W6 (W.heap.size + 1 + 1 + 1) 108 (.func (.yield l) #[] #[]) := hS6.block _ _ ⟨by omega, by omega⟩ b3
      have z4 : Boxed W6 (W.heap.size + 1 + 1 + 1 + 1) 4 (.bool false) := hS6.block _ _ ⟨by omega, by omega⟩ b4
      have hkK : KeepK (fun k => k < n₀ ∨ k = Bn ∨ k = W.heap.size + 5 + 1 ∨ k = W.heap.size + 5) W2.heap.size W3 W6 :=
        ⟨hkC.os.trans (hO5.os.trans hB34.os), hkC.tape.trans (hO5.tape.trans hB34.tape), hkC.output.trans (hO5.output.trans hB34.output), Nat.le_trans hB34.size (Nat.le_trans (Nat.le_of_eq hO5.size.symm) hkC.size), fun k o hk ho =>
          hkC.block k o ⟨by omega, by omega⟩ ((hO5.block k (by omega)).trans ((hB34.block k (Array.getElem?_eq_some_iff.1 ho).1).trans ho))⟩
      have hrowx := hrow6.front
      rcases hend with ⟨rfl, hj6⟩ | ⟨rfl, pr, hpr, hj6⟩
      · refine ⟨_, rfl, ?_⟩
        simp only [Act.put, List.setIfInBounds_toArray, List.set_cons_succ, List.set_cons_zero]
        refine heldIn_one (i := 11) rfl ⟨z0.cell, z1.cell, z2.cell, z3.cell⟩ (by kernel_rfl) (by kernel_rfl) ?_
        refine ⟨fun _ _ => trivial, ?_⟩
        rw [Oper.semAt_eq _ _ _ (fun c h => by cases h)]
        go_simp
        refine heldIn_done ⟨z0.cell, z1.cell, z2.cell, z3.cell⟩ (by kernel_rfl) ?_
        gi_wp2
        refine ⟨hkK, ?_, hrowx, hS6⟩
        rw [List.flatMap_append, ← List.append_assoc, List.flatMap_singleton]
        exact hj6
      · refine ⟨_, rfl, ?_⟩
        simp only [Act.put, List.setIfInBounds_toArray, List.set_cons_succ, List.set_cons_zero]
        refine heldIn_one (i := 11) rfl ⟨z0.cell, z1.cell, z2.cell, z3.cell⟩ (by kernel_rfl) (by kernel_rfl) ?_
        refine ⟨fun _ _ => trivial, ?_⟩
        rw [Oper.semAt_eq _ _ _ (fun c h => by cases h)]
        go_simp
        refine heldIn_done ⟨z0.cell, z1.cell, z2.cell, z3.cell⟩ (by kernel_rfl) ?_
        have f4 := z4.frozen
        have c4 := z4.cell
        gi_wp2
        refine ⟨hkK.trans (KeepK.setCell _ _ _ (by simp; omega) (by simp; omega)), rfl, ⟨pr, hpr, HJx.out _ _ _ _ hj6 (Chg.setCell W6 _ _ (by simp; omega) (fun o ho => .inl ⟨_, _, (Option.some.inj (ho.symm.trans z4))⟩))⟩, hrowx.same fun o ho => (Below.heap_setCell W6 _ _ g (by simp; omega)).trans ho, ?_, z4.set _⟩
        exact ⟨hS6.os, hS6.tape, hS6.output, Nat.le_trans hS6.size (by simp [World.setCell]), fun k o hk ho => (Below.heap_setCell W6 _ _ k (by simp; omega)).trans (hS6.block k o hk.1 ho)⟩
    case done =>
      rintro D g' W4 hD ⟨hj4, hrow4, hk4⟩ hDf
      have hb4 : Boxed W4 (W.heap.size + 1 + 1 + 1 + 1) 4 (.bool false) := hk4.block _ _ ⟨by omega, by omega⟩ b4
      have f4 := hb4.frozen
      have c4 := hb4.cell
      have hD5 : (W4.setCell ⟨W.heap.size + 1 + 1 + 1 + 1, 0, none⟩ (.bool true)).heap[D]? = some (.deferred (some [])) := (Below.heap_setCell W4 _ _ D (by simp; omega)).trans hDf
      gi_wp2
      refine ⟨by simp, .inl ⟨_, _, rfl, run_takeDeferred hD5, ?_⟩⟩
      refine ⟨_, hb_result2 W4 (W.heap.size + 1 + 1 + 1 + 1) true hb4 D (by omega) rfl, ?_⟩
      have hC : Chg exO m g W4 ((W4.setCell ⟨W.heap.size + 1 + 1 + 1 + 1, 0, none⟩ (.bool true)).putObj D (.deferred none)) :=
        (Chg.setCell W4 _ _ (by simp; omega) (fun o ho => .inl ⟨_, _, (Option.some.inj (ho.symm.trans hb4))⟩)).trans (Chg.putObj _ _ _ hD5 (by omega) rfl)
      refine ⟨⟨(((KeepS.of_below hB6h.out).trans hk4).setNew _ _ (by simp; omega)).putNew _ _ (by omega), hrow4.same fun o ho => ?_⟩, .inl ⟨rfl, ?_⟩⟩
      · exact (World.putObj_heap_other (by omega)).trans ((Below.heap_setCell W4 _ _ g (by simp; omega)).trans ho)
      · exact HJ.out _ _ _ _ hj4 hC
    case stop =>
      rintro D g' c pre W4 hD hpre ⟨rfl, ⟨pr, hpr, hj4⟩, hrow4, hk4, hb4⟩ hDf
      gi_wp2
      refine ⟨by simp, .inl ⟨_, _, rfl, run_takeDeferred hDf, ?_⟩⟩
      refine ⟨_, hb_result3 W4 (W.heap.size + 1 + 1 + 1 + 1) false hb4 D (by omega) rfl, ?_⟩
      refine ⟨⟨KeepS.putNew ⟨hk4.os.trans hB6h.out.os, hk4.tape.trans hB6h.out.tape, hk4.output.trans hB6h.out.output, Nat.le_trans hB6h.out.size hk4.size, fun k o hk ho => ?_⟩ _ _ (by omega), hrow4.same fun o ho => (World.putObj_heap_other (by omega)).trans ho⟩, .inr ⟨rfl, pr, hpr, HJx.out _ _ _ _ hj4 (Chg.putObj _ _ _ hDf (by omega) rfl)⟩⟩
      have hlt := (Array.getElem?_eq_some_iff.1 ho).1
      exact hk4.block k o ⟨hk, by omega⟩ ((hB6h.out.block k hlt).trans ho)
end Go.Proofs.YtpmlomhlbmgilaaDoor
end

section
/- order.orders: what its range function hands to a loop's body. -/
namespace Go.Proofs.YtpmlomhlbmgilaaDoor
open Go.RowKit Go.Shelf

attribute [local go_sem] Oper.semAt_some

theorem els_all (N : Nat) (h : N ≤ 48) : MM.els (allOf (N : Int)).toNat = List.range N := by
  unfold MM.els
  obtain ⟨d, hd⟩ : ∃ d, 64 = N + d := ⟨64 - N, by omega⟩
  rw [hd, List.range_add, List.filter_append, List.filter_eq_self.2, List.filter_eq_nil_iff.2, List.append_nil]
  · intro a ha
    obtain ⟨j, _, rfl⟩ := List.mem_map.1 ha
    rw [allOf_bits N _ h]
    simp
  · intro a ha
    rw [allOf_bits N _ h]
    simpa using ha
/-- The rows of a relation's inverse. -/
noncomputable def invF (N : Nat) (f : Nat → Nat) : Nat → Nat := backL (pairsK f N)
/-- The orders that respect a relation, in the order in which they come. -/
noncomputable def ordL (N : Nat) (f : Nat → Nat) : List (List Nat) := if (topF N f).isSome then compl (invF N f) N (allOf (N : Int)).toNat [] else []
/-- The value of an order, in row g. -/
def encO (N : Nat) (g : Nat) (_ : List Nat) : Array Value := #[.slice (some ⟨g, 0, none⟩) N N]
def isO (N : Nat) (g : Nat) (x : List Nat) (W : World) : Prop := RowP W g N x ∧ x.length = N

theorem rowP_make (W : World) (N : Nat) (hN : N ≤ 48) : ∃ W', (Instr.makeSlice 46 (.int .i64 0) (.int .i64 (N : Int))).run Tryd.prog W = .ok (.slice (some ⟨W.heap.size, 0, none⟩) 0 N) W' ∧ RowP W' W.heap.size N [] ∧ Below W.heap.size W W' := by
  obtain ⟨i, hi, hz, hsz, hby⟩ := infoIntC
  obtain ⟨W', hr, h1, h2⟩ := run_make_own (P := Tryd.prog) W 0 46 3 i (.int .i64 0) 1 undInts hi hz hsz .i64 .i64 N (by rw [hby]; omega) (by unfold maxLen; omega) (Nat.zero_le _)
  refine ⟨W', hr, ?_, ⟨h2.os, h2.tape, h2.output, h2.size, fun k hk => h2.block k hk (by simp)⟩⟩
  rcases h1.2 with ⟨he, _⟩ | ⟨g, cap, cur, he, _, hg, _, _, hc, ht⟩
  · cases he
  · cases he
    exact ⟨cur, hg, by omega, by simp⟩

set_option maxHeartbeats 400000 in
theorem orders_any (n : Int) (f : Nat → Nat) (w : World) :
    Calls Tryd.prog 87 #[.agg (relC n f)] w fun e w' => e = .returned (.func (.func 96) #[] #[.pointer (some ⟨w.heap.size, 0, none⟩)]) ∧ w.alloc (.cells (relC n f) 26) = w' := by
  go_enter Tryd.func87, Tryd.ntmps87
  go_wp2
  go_ret
  exact ⟨rfl, rfl⟩

theorem yieldAt_any {m m' : Nat} {P : Program} {l : Nat} {args : Array Value} {W : World} {R : Ending → World → Prop} (h : YieldAt Fence.wide m P l args W R) : YieldAt Fence.wide m' P l args W R := by
  obtain ⟨fn, tmps, assign, body, hy, hR⟩ := h
  exact ⟨fn, tmps, assign, body, hy, hR.1, fun c cs _ => hR.2 c cs (room_wide _)⟩
theorem make_run {a : Act} {o : Oper} {t : TypeId} {x y : Operand} {vx vy v : Value} {W W' : World} (ho : o.op = .makeSlice t x y) (hxy : (a.eval x, a.eval y) = (vx, vy)) (hr : (Instr.makeSlice t vx vy).run Tryd.prog W = .ok v W') : (execOp a.eval o).run Tryd.prog W = .ok (.value v) W' := by
  obtain ⟨hx, hy⟩ := Prod.mk.inj hxy
  unfold execOp
  simp only [ho, hx, hy, Sem.run_bind, Sem.run_pure, hr, Result.andThen_ok]

set_option maxRecDepth 100000 in
set_option maxHeartbeats 2000000 in
theorem orders1_gives (n : Nat) (Br n₀ : Nat) (hn₀ : 0 < n₀) (N : Nat) (f : Nat → Nat) (hf : R64 f) (hr : rightB N f = true) (w : World) (hT : Tab w) (hsz : n₀ ≤ w.heap.size) (hR : RelAt w Br N f) (hBr0 : Br < w.heap.size) :
    GivesSome Fence.wide n Tryd.prog 96 #[.pointer (some ⟨Br, 0, none⟩)] (encO N) exO (fun k => k < n₀ ∨ k = Br) (isO N) (ordL N f) w := by
  intro l J Jx W hW hJ hJx hY hJ0
  refine callsIn_wide.2 ((callsIn_wide (n := 5)).1 ?_)
  obtain ⟨⟨-, hN48⟩, -⟩ := rightB_iff.1 hr
  replace hN48 : N ≤ 48 := by omega
  have HA := Lib.hid (fun W hT => acyclic_any N f W hf hT)
  have HB := Lib.hid (fun W hT => back_any N f W hf hT)
  rw [hr] at HB
  change Hid (∀ W, Tab W → Calls _ _ _ W fun e w' => e = .returned (.agg (relC (N : Int) (invF N f))) ∧ Below W.heap.size W w') at HB
  replace hR := hR.on hW
  replace hT := hT.below hW hT.pos
  have l1 := hR.ld
  have HL := Lib.hid (show ordL N f = if (topF N f).isSome then compl (invF N f) N (allOf (N : Int)).toNat [] else [] by rfl)
  have HJ := Lib.hid hJ
  have HJx := Lib.hid hJx
  have HY := Lib.hid hY
  have HJ0 := Lib.hid hJ0
  have hWs := hW.size
  clear hJ hJx hY hJ0 hW
  refine callsIn_of_wp Tryd.func96 rfl trivial ?_ rfl
  simp only [Tryd.ntmps96, List.size_toArray, List.length_cons, List.length_nil, Nat.reduceAdd, Nat.reduceSub, Array.replicate_succ, Array.replicate_zero, List.push_toArray, List.append_toArray, List.nil_append, List.cons_append]
  generalize hb : (topF N f).isSome = b at *
  cases b
  · gi_wp2_with fail
    refine ⟨trivial, ?_⟩
    refine (callsIn_wide.2 (HA.out _ hT)).mono ?_
    rintro e w1 ⟨rfl, h1⟩
    gi_wp2
    refine bodyPost_ret (results_none rfl _ _ _) rfl ?_
    refine ⟨⟨_, rfl⟩, .inl ⟨W.heap.size, ?_⟩⟩
    rw [HL.out]
    exact HJ.out _ _ _ _ (HJ0.out _ (Nat.le_refl _)) (Chg.of_below h1)
  · gi_wp2_with fail
    refine ⟨trivial, ?_⟩
    refine (callsIn_wide.2 (HA.out _ hT)).mono ?_
    rintro e w1 ⟨rfl, h1⟩
    have hR1 := hR.on h1
    have hT1 := hT.below h1 hT.pos
    have l2 := hR1.ld
    gi_wp2_with fail
    refine ⟨trivial, ?_⟩
    refine (callsIn_wide.2 (HB.out _ hT1)).mono ?_
    rintro e w2 ⟨rfl, h2⟩
    obtain ⟨W3, hs3, hu3, h3, -⟩ := Ex.lay w2 N (invF N f)
    have hR3 := (hR1.on h2).on h3
    have hT3 := (hT1.below h2 hT1.pos).below h3 (hT1.below h2 hT1.pos).pos
    have hB3 := thru (thru h1 h2) h3
    have c0 := hR3.num
    have hm : Tryd.prog.follows .mixedOrders = true := by kernel_rfl
    clear l1 l2
    gi_upto_region 2 with fail
    refine wpIn_region_heldP (fun W' => W'.cell? ⟨Br, 0, none⟩ = some (.int .i64 (N : Int))) hm ?_
    simp only [List.length_cons, List.length_nil, Nat.reduceAdd]
    refine heldIn_take (i := 0) (v := .pointer (some ⟨Br, 0, none⟩)) (fun _ => trivial) (by kernel_rfl) (by kernel_rfl) (fun _ _ _ _ _ h => h) rfl rfl (by kernel_rfl) (fun W' hC => by go_simp) ?_
    simp only [Act.put, List.setIfInBounds_toArray, List.set_cons_succ, List.set_cons_zero]
    refine heldIn_take (i := 1) (v := .int .i64 (N : Int)) (fun _ => trivial) (by kernel_rfl) (by kernel_rfl) (fun _ _ _ _ _ h => h) rfl rfl (by kernel_rfl) (fun W' hC => by go_simp) ?_
    simp only [Act.put, List.setIfInBounds_toArray, List.set_cons_succ, List.set_cons_zero]
    refine heldIn_take (i := 3) (v := .pointer (some ⟨Br, 0, none⟩)) (fun _ => trivial) (by kernel_rfl) (by kernel_rfl) (fun _ _ _ _ _ h => h) rfl rfl (by kernel_rfl) (fun W' hC => by go_simp) ?_
    simp only [Act.put, List.setIfInBounds_toArray, List.set_cons_succ, List.set_cons_zero]
    refine heldIn_take (i := 4) (v := .int .i64 (N : Int)) (fun _ => trivial) (by kernel_rfl) (by kernel_rfl) (fun _ _ _ _ _ h => h) rfl rfl (by kernel_rfl) (fun W' hC => by go_simp) ?_
    simp only [Act.put, List.setIfInBounds_toArray, List.set_cons_succ, List.set_cons_zero]
    refine heldIn_take (i := 6) (v := .func (.yield l) #[] #[]) (fun _ => trivial) (by kernel_rfl) (by kernel_rfl) (fun _ _ _ _ _ h => h) rfl rfl (by kernel_rfl) (fun W' hC => by go_simp) ?_
    simp only [Act.put, List.setIfInBounds_toArray, List.set_cons_succ, List.set_cons_zero]
    have hW3 : Below W.heap.size W W3.drew := hB3.drew
    have hR3d : RelAt W3.drew Br N f := hR3
    have hu3d : RelAt W3.drew w2.heap.size N (invF N f) := hu3
    have hT3d : Tab W3.drew := hT3
    generalize W3.drew = W3 at *
    obtain ⟨W4, hr4, hrow4, hB4⟩ := rowP_make W3 N hN48
    refine heldIn_call_or (i := 2) (j := 5) (f := 66) (args := #[.int .i64 (N : Int)]) (v := .int .u64 (allOf (N : Int))) (u := .slice (some ⟨W3.heap.size, 0, none⟩) 0 N) (w' := W4) (fun _ => trivial) rfl (fun c h => by cases h) (fun c h => by cases h) rfl rfl rfl rfl
      hR3d.num (hR3d.on hB4).num (by kernel_rfl) (by kernel_rfl) (by kernel_rfl) rfl rfl (by go_simp) (by simp only [Act.put, List.setIfInBounds_toArray, List.set_cons_succ, List.set_cons_zero]; go_simp) (fun W' => callsIn_wide.2 (all_any (N : Int) W')) (make_run rfl rfl hr4) (make_run rfl rfl hr4)
      (by simp only [Act.put, List.setIfInBounds_toArray, List.set_cons_succ, List.set_cons_zero]) (by kernel_rfl) ?_
    simp only [Act.put, List.setIfInBounds_toArray, List.set_cons_succ, List.set_cons_zero]
    have hR4 := hR3d.on hB4
    have hu4 := hu3d.on hB4
    have hT4 := hT3d.below hB4 hT3d.pos
    have hs34 := hW3.size
    have hul := hu3d.lt
    have hj4 := HJ.out W3.heap.size _ _ _ (HJ0.out W3.heap.size hs34) (Chg.of_below (thru hW3 hB4))
    have h12 := (thru h1 h2).size
    have hlen := els_all N hN48
    obtain ⟨ha0, ha1⟩ := allOf_lt48 (N : Int) (by omega) (by omega)
    have HC := complete_in W.heap.size n₀ Br w2.heap.size W3.heap.size hn₀ (by omega) (by omega) hs34 (by omega) N (invF N f) (fun i => Nat.lt_of_lt_of_le (backL_lt _ i) (by decide)) N hN48 l J Jx HJ.out HJx.out (ordL N f)
      (fun nY pre x W1 hj hrow hx hp => yieldAt_any (HY.out _ pre x W1 hj ⟨hrow, hx⟩ hs34 hp)) N (allOf (N : Int)).toNat [] [] 3 W4 (by rw [hlen]; simp) ha0 (by simp) (by rw [HL.out]; simp) hT4 (by have := hB4.size; omega) hu4 hrow4 hj4
    rw [← ha1] at HC
    clear ha1 ha0 hlen
    have hBr : Br < w.heap.size := hBr0
    refine heldIn_one (i := 7) rfl hR4.num (by kernel_rfl) (by kernel_rfl) ?_
    refine wpIn_call_run (fun _ => trivial) rfl (fun c h => by cases h) (f := 97) (args := #[.pointer (some ⟨w2.heap.size, 0, none⟩), .int .u64 (allOf (N : Int)), .slice (some ⟨W3.heap.size, 0, none⟩) 0 N, .func (.yield l) #[] #[]]) (by go_simp) (callsIn_wide.2 (callsIn_wide.1 HC)) ?_
    rintro e W5 ⟨⟨hk5, -⟩, h5⟩
    have hR5 : RelAt W5 Br N f := hk5.block _ _ ⟨.inr (.inl rfl), by omega⟩ hR4
    have hv : ∃ v, e = .returned v := by rcases h5 with ⟨rfl, _⟩ | ⟨rfl, _⟩ <;> exact ⟨_, rfl⟩
    obtain ⟨v, rfl⟩ := hv
    refine ⟨v, rfl, ?_⟩
    simp only [Act.put, List.setIfInBounds_toArray, List.set_cons_succ, List.set_cons_zero]
    refine heldIn_doneP hR5.num (by kernel_rfl) ?_
    have hfin : (∃ g, J g (ordL N f) W5) ∨ ∃ g pre, pre <+: ordL N f ∧ Jx g pre W5 := by
      rcases h5 with ⟨_, h⟩ | ⟨_, pre, hp, h⟩
      · exact .inl ⟨_, by rw [HL.out]; simpa using h⟩
      · exact .inr ⟨_, pre, hp, h⟩
    clear h5
    gi_wp2
    go_end0
    exact ⟨⟨_, rfl⟩, hfin⟩
end Go.Proofs.YtpmlomhlbmgilaaDoor
end

section
/- order.Count. -/
namespace Go.Proofs.YtpmlomhlbmgilaaDoor
open Go.RowKit Go.Shelf

attribute [local go_sem] Oper.semAt_some

theorem isO_put {N g : Nat} {x : List Nat} {W : World} {l : Nat} {o o' : Obj} (h : isO N g x W) (hl : W.heap[l]? = some o) (ho : o.isCells = false) : isO N g x (W.putObj l o') := by
  obtain ⟨⟨cur, h1, h2⟩, h3⟩ := h
  refine ⟨⟨cur, (World.putObj_heap_other (by rintro rfl; rw [hl] at h1; cases h1; cases ho)).trans h1, h2⟩, h3⟩
theorem Chg.boxed {ex : Nat → Nat → Obj → Prop} {B g b : Nat} {W W' : World} {t : TypeId} {v : Value} (h : Chg ex B g W W') (hb : Boxed W b t v) (hB : b < B) : Boxed W' b t v := h.block b _ (.inl hB) hb
theorem Chg.below {ex : Nat → Nat → Obj → Prop} {B g n : Nat} {w W W' : World} (h : Chg ex B g W W') (hb : Below n w W) (hB : n ≤ B) (hn : n ≤ w.heap.size) : Below n w W' :=
  ⟨h.os.trans hb.os, h.tape.trans hb.tape, h.output.trans hb.output, Nat.le_trans hb.size h.size, fun k hk => by
    obtain ⟨o, ho⟩ : ∃ o, W.heap[k]? = some o := ⟨W.heap[k]'(by have := hb.size; omega), Array.getElem?_eq_getElem (by have := hb.size; omega)⟩
    rw [h.block k o (.inl (by omega)) ho, ← ho, hb.block k hk]⟩
/-- May Count go by this relation and this limit? -/
def cntOk (n : Int) (f : Nat → Nat) (most : Int) : Bool := rightB n f && decide (0 ≤ most) && decide (most ≤ 10000)
/-- What Count answers then. -/
noncomputable def cntR (N : Nat) (f : Nat → Nat) (most : Int) : Value :=
  if ((ordL N f).length : Int) ≤ most then .tuple #[.int .i64 ((ordL N f).length : Int), .int .i64 0] else .tuple #[.int .i64 0, .int .i64 5]

set_option maxRecDepth 100000 in
set_option maxHeartbeats 1000000 in
theorem count_bad (n : Int) (f : Nat → Nat) (most : Int) (hf : R64 f) (h : cntOk n f most = false) (w : World) :
    Calls Tryd.prog 53 #[.agg (relC n f), .int .i64 most] w fun e w' => e = .returned (.tuple #[.int .i64 0, .int .i64 2]) ∧ Below w.heap.size w w' := by
  have hA := RelAt.new w n f
  have HR := Lib.hid (fun W => right_any n f W hf)
  have l1 := (((hA.alloc (.cells #[.int .i64 most] 3)).alloc (.cells #[.int .i64 0] 3)).alloc (.cells #[.int .i64 0] 30)).ld
  have b1 := Boxed.new (w.alloc (.cells (relC n f) 26)) 3 (.int .i64 most)
  have b2 := Boxed.new ((w.alloc (.cells (relC n f) 26)).alloc (.cells #[.int .i64 most] 3)) 3 (.int .i64 0)
  have b3 := Boxed.new (((w.alloc (.cells (relC n f) 26)).alloc (.cells #[.int .i64 most] 3)).alloc (.cells #[.int .i64 0] 3)) 30 (.int .i64 0)
  simp only [World.size_alloc] at b1 b2 b3
  replace b1 := (b1.alloc (.cells #[.int .i64 0] 3)).alloc (.cells #[.int .i64 0] 30)
  replace b2 := b2.alloc (.cells #[.int .i64 0] 30)
  have hB4 : Below w.heap.size w ((((w.alloc (.cells (relC n f) 26)).alloc (.cells #[.int .i64 most] 3)).alloc (.cells #[.int .i64 0] 3)).alloc (.cells #[.int .i64 0] 30)) :=
    ((((Below.refl _ w).alloc (Nat.le_refl _) _).alloc (by simp) _).alloc (by simp; omega) _).alloc (by simp; omega) _
  have res : ∀ W, Boxed W (w.heap.size + 1 + 1) 3 (.int .i64 0) → Boxed W (w.heap.size + 1 + 1 + 1) 30 (.int .i64 2) → ∀ tmps : Array Value, tmps[4]?.getD undef = .pointer (some ⟨w.heap.size + 1 + 1, 0, none⟩) → tmps[5]?.getD undef = .pointer (some ⟨w.heap.size + 1 + 1 + 1, 0, none⟩) →
      (results Tryd.f53 tmps).run Tryd.prog W = .ok (.tuple #[.int .i64 0, .int .i64 2]) W := by
    intro W h1 h2 tmps t1 t2
    have k1 := h1.cell
    have k2 := h2.cell
    simp [results, Tryd.f53, go_sem, t1, t2, k1, k2]
  have fin : ∀ W, Below w.heap.size w W → Boxed W (w.heap.size + 1 + 1) 3 (.int .i64 0) → Boxed W (w.heap.size + 1 + 1 + 1) 30 (.int .i64 0) →
      Boxed ((W.setCell ⟨w.heap.size + 1 + 1, 0, none⟩ (.int .i64 0)).setCell ⟨w.heap.size + 1 + 1 + 1, 0, none⟩ (.int .i64 2)) (w.heap.size + 1 + 1) 3 (.int .i64 0) ∧
      Boxed ((W.setCell ⟨w.heap.size + 1 + 1, 0, none⟩ (.int .i64 0)).setCell ⟨w.heap.size + 1 + 1 + 1, 0, none⟩ (.int .i64 2)) (w.heap.size + 1 + 1 + 1) 30 (.int .i64 2) ∧
      Below w.heap.size w ((W.setCell ⟨w.heap.size + 1 + 1, 0, none⟩ (.int .i64 0)).setCell ⟨w.heap.size + 1 + 1 + 1, 0, none⟩ (.int .i64 2)) := fun W hB h1 h2 =>
    ⟨(h1.set _).other (by omega) _, (h2.other (by omega) _).set _, (hB.setCell (by simp; omega) _).setCell (by simp; omega) _⟩
  have RES := Lib.hid res
  have FIN := Lib.hid fin
  clear res fin
  have d1 := b1.cell
  go_enter Tryd.func53, Tryd.ntmps53
  go_wp2_with fail
  generalize (((w.alloc (.cells (relC n f) 26)).alloc (.cells #[.int .i64 most] 3)).alloc (.cells #[.int .i64 0] 3)).alloc (.cells #[.int .i64 0] 30) = W1 at *
  refine (HR.out _).mono ?_
  rintro e w1 ⟨rfl, h1⟩
  replace b1 := boxed_on b1 h1
  replace b2 := boxed_on b2 h1
  replace b3 := boxed_on b3 h1
  have hB1 := thru hB4 h1
  have d2 := b1.cell
  have f2 := b2.frozen
  have f3 := b3.frozen
  have c2 := b2.cell
  have c3 := b3.cell
  obtain ⟨x1, x2, x3⟩ := FIN.out w1 hB1 b2 b3
  have hR := RES.out _ x1 x2
  clear l1 d1 hA h1 hB4 b1
  cases hr : rightB n f
  · go_wp2
    refine bodyPost_ret (hR _ rfl rfl) rfl ?_
    exact ⟨rfl, x3⟩
  · by_cases h0 : most < 0
    · have t1 : decide (most < 0) = true := by simpa using h0
      go_wp2
      refine bodyPost_ret (hR _ rfl rfl) rfl ?_
      exact ⟨rfl, x3⟩
    · have t1 : decide (most < 0) = false := by simpa using h0
      have h2 : 10000 < most := by
        apply Decidable.byContradiction
        intro hh
        have : cntOk n f most = true := by simp [cntOk, hr]; omega
        rw [this] at h
        cases h
      have t2 : decide (10000 < most) = true := by simpa using h2
      go_wp2
      refine bodyPost_ret (hR _ rfl rfl) rfl ?_
      exact ⟨rfl, x3⟩

set_option maxRecDepth 100000 in
set_option maxHeartbeats 2000000 in
theorem count_in (N : Nat) (f : Nat → Nat) (M : Nat) (hM : M ≤ 10000) (hf : R64 f) (hr : rightB N f = true) (w : World) (hT : Tab w) :
    CallsIn Fence.wide 6 Tryd.prog 53 #[.agg (relC N f), .int .i64 (M : Int)] w fun e w' => e = .returned (cntR N f M) ∧ Below w.heap.size w w' := by
  have HR := Lib.hid (fun W => right_any N f W hf)
  rw [hr] at HR
  have hA := ((((RelAt.new w N f).alloc (.cells #[.int .i64 (M : Int)] 3)).alloc (.cells #[.int .i64 0] 3)).alloc (.cells #[.int .i64 0] 30))
  have b1 := Boxed.new (w.alloc (.cells (relC N f) 26)) 3 (.int .i64 (M : Int))
  have b2 := Boxed.new ((w.alloc (.cells (relC N f) 26)).alloc (.cells #[.int .i64 (M : Int)] 3)) 3 (.int .i64 0)
  have b3 := Boxed.new (((w.alloc (.cells (relC N f) 26)).alloc (.cells #[.int .i64 (M : Int)] 3)).alloc (.cells #[.int .i64 0] 3)) 30 (.int .i64 0)
  simp only [World.size_alloc] at b1 b2 b3
  replace b1 := (b1.alloc (.cells #[.int .i64 0] 3)).alloc (.cells #[.int .i64 0] 30)
  replace b2 := b2.alloc (.cells #[.int .i64 0] 30)
  have hB4 : Below w.heap.size w ((((w.alloc (.cells (relC N f) 26)).alloc (.cells #[.int .i64 (M : Int)] 3)).alloc (.cells #[.int .i64 0] 3)).alloc (.cells #[.int .i64 0] 30)) :=
    ((((Below.refl _ w).alloc (Nat.le_refl _) _).alloc (by simp) _).alloc (by simp; omega) _).alloc (by simp; omega) _
  have hz4 : ((((w.alloc (.cells (relC N f) 26)).alloc (.cells #[.int .i64 (M : Int)] 3)).alloc (.cells #[.int .i64 0] 3)).alloc (.cells #[.int .i64 0] 30)).heap.size = w.heap.size + 4 := by simp
  have l1 := hA.ld
  have d1 := b1.cell
  have t1 : decide ((M : Int) < 0) = false := by simp
  have t2 : decide ((M : Int) > 10000) = false := by simp; omega
  have t3 : decide ((10000 : Int) < (M : Int)) = false := by simp; omega
  refine callsIn_of_wp_marks Tryd.func53 rfl trivial ?_ rfl
  simp only [Tryd.ntmps53, List.size_toArray, List.length_cons, List.length_nil, Nat.reduceAdd, Nat.reduceSub, Array.replicate_succ, Array.replicate_zero, List.push_toArray, List.append_toArray, List.nil_append, List.cons_append]
  gi_wp2_with fail
  generalize (((w.alloc (.cells (relC N f) 26)).alloc (.cells #[.int .i64 (M : Int)] 3)).alloc (.cells #[.int .i64 0] 3)).alloc (.cells #[.int .i64 0] 30) = W1 at *
  refine ⟨trivial, ?_⟩
  refine (callsIn_wide.2 (HR.out _)).mono ?_
  rintro e w1 ⟨rfl, h1⟩
  have hA1 := hA.on h1
  replace b1 := boxed_on b1 h1
  replace b2 := boxed_on b2 h1
  replace b3 := boxed_on b3 h1
  have hB1 := thru hB4 h1
  have hs1 := h1.size
  have l2 := hA1.alloc (.cells #[.int .i64 0] 3)
  replace l2 := l2.ld
  have d2 := b1.cell
  have g4 := Boxed.new w1 3 (.int .i64 0)
  clear l1 d1 hA h1 hB4
  gi_wp2_with fail
  replace b1 := b1.alloc (.cells #[.int .i64 0] 3)
  replace b2 := b2.alloc (.cells #[.int .i64 0] 3)
  replace b3 := b3.alloc (.cells #[.int .i64 0] 3)
  have hB2 : Below w.heap.size w (w1.alloc (.cells #[.int .i64 0] 3)) := hB1.alloc (by omega) _
  have hz2 : (w1.alloc (.cells #[.int .i64 0] 3)).heap.size = w1.heap.size + 1 := by simp
  clear l2 d2 hA1 hB1
  generalize w1.alloc (.cells #[.int .i64 0] 3) = w2 at *
  refine ⟨trivial, ?_⟩
  refine (callsIn_wide.2 (orders_any _ _ _)).mono ?_
  rintro e w3 ⟨rfl, h3⟩
  have hR3 : RelAt w3 w2.heap.size N f := by rw [← h3]; exact RelAt.new w2 N f
  have h23 : Below w2.heap.size w2 w3 := by rw [← h3]; exact below_new w2 _
  have hz3 : w3.heap.size = w2.heap.size + 1 := by rw [← h3]; simp
  replace b1 := boxed_on b1 h23
  replace b2 := boxed_on b2 h23
  replace b3 := boxed_on b3 h23
  replace g4 := boxed_on g4 h23
  have hB3 := thru hB2 h23
  have hT3 := hT.below hB3 hT.pos
  clear h3 h23 hB2
  rw [hz2] at hR3 hz3
  have hws := hB3.size
  have HB3 := Lib.hid hB3
  have hTp := hT.pos
  clear hB3
  gi_wp2_with fail
  refine range_some rfl (by omega) (gf := 96) (lb := #[.pointer (some ⟨w1.heap.size + 1, 0, none⟩)]) rfl trivial (enters_of Tryd.func96 (by kernel_rfl) rfl)
    (orders1_gives 5 (w1.heap.size + 1) w.heap.size hTp N f hf hr w3 hT3 hws hR3 (by omega)) (fun k hk => by omega) (fun _ _ => rfl) (fun _ _ _ _ _ _ h hl ho => isO_put h hl ho)
    (fun _ pre W => pre.length ≤ M ∧ Boxed W w1.heap.size 3 (.int .i64 (pre.length : Int)) ∧ Boxed W (w.heap.size + 1) 3 (.int .i64 (M : Int)) ∧ Boxed W (w.heap.size + 1 + 1) 3 (.int .i64 0) ∧ Boxed W (w.heap.size + 1 + 1 + 1) 30 (.int .i64 0) ∧ Below w.heap.size w W)
    (fun c _ pre W => c = .ret ∧ pre.length = M + 1 ∧ Boxed W (w.heap.size + 1 + 1) 3 (.int .i64 0) ∧ Boxed W (w.heap.size + 1 + 1 + 1) 30 (.int .i64 5) ∧ Below w.heap.size w W)
    ?clI ?clX (fun _ _ => ⟨by simp, g4, b1, b2, b3, HB3.out⟩)
    (fun g _ => { tmps := #[.agg (relC N f), .int .i64 (M : Int), .pointer (some ⟨w.heap.size, 0, none⟩), .pointer (some ⟨w.heap.size + 1, 0, none⟩), .pointer (some ⟨w.heap.size + 1 + 1, 0, none⟩), .pointer (some ⟨w.heap.size + 1 + 1 + 1, 0, none⟩), .pointer (some ⟨w1.heap.size, 0, none⟩), .agg (relC N f), .bool true, .bool false, .bool false, .int .i64 (M : Int), .bool false, .bool false, .bool false, .int .i64 (M : Int), .bool false, .bool false, .agg (relC N f), .func (.func 96) #[] #[.pointer (some ⟨w1.heap.size + 1, 0, none⟩)], .slice (some ⟨g, 0, none⟩) N N, undef, undef, undef, undef, undef, undef], defers := [] }) ?assign ?body ?done ?stop
  case clI =>
    rintro g' pre A A' ⟨h1, h2, h3, h4, h5, h6⟩ hc
    exact ⟨h1, hc.boxed h2 (by omega), hc.boxed h3 (by omega), hc.boxed h4 (by omega), hc.boxed h5 (by omega), hc.below h6 hws (Nat.le_refl _)⟩
  case clX =>
    rintro c g' pre A A' ⟨h0, h1, h4, h5, h6⟩ hc
    exact ⟨h0, h1, hc.boxed h4 (by omega), hc.boxed h5 (by omega), hc.below h6 hws (Nat.le_refl _)⟩
  case assign =>
    intro l2 g' x W' K hK
    simp only [encO]
    gi_wp2
    first
      | exact hK
      | (simp; exact hK)
      | (rw [show ((#[20] : Array Tmp).zip #[Value.slice (some ⟨g', 0, none⟩) N N]) = #[(20, Value.slice (some ⟨g', 0, none⟩) N N)] by rfl]; exact hK)
      | (simp [Array.zip]; exact hK)
  case body =>
    rintro l2 g' pre x W hg ⟨h1, h2, h3, h4, h5, h6⟩ - -
    have c2 := h2.cell
    have c3 := h3.cell
    have f2 := h2.frozen
    have f4 := h4.frozen
    have f5 := h5.frozen
    have c4 := h4.cell
    have c5 := h5.cell
    by_cases hk : pre.length = M
    · have hk1 : ((pre.length : Int) == (M : Int)) = true := by simp [hk]
      have Hk := Lib.hid hk
      clear hk
      gi_wp2
      refine ⟨(KeepK.setCell _ _ _ (by simp; omega) (by simp; omega)).trans (KeepK.setCell _ _ _ (by simp; omega) (by simp; omega)), rfl, by simp [Hk.out], (h4.set _).other (by omega) _, (h5.other (by omega) _).set _, (h6.setCell (by simp; omega) _).setCell (by simp; omega) _⟩
    · have hk1 : ((pre.length : Int) == (M : Int)) = false := by simp; omega
      have Hk := Lib.hid hk
      clear hk
      gi_wp2
      refine ⟨KeepK.setCell _ _ _ (by simp; omega) (by simp; omega), by have := Hk.out; simp; omega, ?_, h3.other (by omega) _, h4.other (by omega) _, h5.other (by omega) _, h6.setCell (by simp; omega) _⟩
      rw [show (((pre ++ [x]).length : Nat) : Int) = (pre.length : Int) + 1 by simp]
      exact h2.set _
  case done =>
    rintro D g' W hD ⟨h1, h2, h3, h4, h5, h6⟩ hDf
    have c2 := h2.cell
    have f4 := h4.frozen
    have f5 := h5.frozen
    have c4 := h4.cell
    have c5 := h5.cell
    have hD5 : ((W.setCell ⟨w.heap.size + 1 + 1, 0, none⟩ (.int .i64 ((ordL N f).length : Int))).setCell ⟨w.heap.size + 1 + 1 + 1, 0, none⟩ (.int .i64 0)).heap[D]? = some (.deferred (some [])) :=
      (Below.heap_setCell _ _ _ D (by simp; omega)).trans ((Below.heap_setCell W _ _ D (by simp; omega)).trans hDf)
    have e4 := Boxed.other (h4.set (.int .i64 ((ordL N f).length : Int))) (B' := w.heap.size + 1 + 1 + 1) (by omega) (Value.int .i64 0)
    have e5 := (h5.other (B' := w.heap.size + 1 + 1) (by omega) (Value.int .i64 ((ordL N f).length : Int))).set (Value.int .i64 0)
    have k1 := Boxed.cell (show Boxed (World.putObj _ D (.deferred none)) _ _ _ from (World.putObj_heap_other (by omega)).trans e4)
    have k2 := Boxed.cell (show Boxed (World.putObj _ D (.deferred none)) _ _ _ from (World.putObj_heap_other (by omega)).trans e5)
    gi_wp2
    refine ⟨by simp, .inl ⟨_, _, rfl, run_takeDeferred hD5, ?_⟩⟩
    refine ⟨.tuple #[.int .i64 ((ordL N f).length : Int), .int .i64 0], ?_, by rw [cntR, if_pos (by omega)], ((h6.setCell (by simp; omega) _).setCell (by simp; omega) _).trans (belowK_b (w := w) (Nat.le_refl _) _ D _ _ (by omega) hD5 rfl rfl)⟩
    simp [results, Tryd.f53, go_sem, k1, k2]
  case stop =>
    rintro D g' c pre W hD hpre ⟨rfl, h1, h4, h5, h6⟩ hDf
    have k1 := Boxed.cell (show Boxed (World.putObj W D (.deferred none)) _ _ _ from (World.putObj_heap_other (by omega)).trans h4)
    have k2 := Boxed.cell (show Boxed (World.putObj W D (.deferred none)) _ _ _ from (World.putObj_heap_other (by omega)).trans h5)
    gi_wp2
    refine ⟨by simp, .inl ⟨_, _, rfl, run_takeDeferred hDf, ?_⟩⟩
    have hle := hpre.length_le
    refine ⟨.tuple #[.int .i64 0, .int .i64 5], ?_, by rw [cntR, if_neg (by omega)], h6.trans (belowK_b (w := w) (Nat.le_refl _) _ D _ _ (by omega) hDf rfl rfl)⟩
    simp [results, Tryd.f53, go_sem, k1, k2]

theorem count_ok (N : Nat) (f : Nat → Nat) (M : Nat) (hM : M ≤ 10000) (hf : R64 f) (hr : rightB N f = true) (w : World) (hT : Tab w) :
    Calls Tryd.prog 53 #[.agg (relC N f), .int .i64 (M : Int)] w fun e w' => e = .returned (cntR N f M) ∧ Below w.heap.size w w' :=
  callsIn_wide.1 (count_in N f M hM hf hr w hT)
end Go.Proofs.YtpmlomhlbmgilaaDoor
end
