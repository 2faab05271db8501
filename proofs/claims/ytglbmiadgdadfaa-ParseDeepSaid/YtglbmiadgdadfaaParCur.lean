/- The parser's cursor. -/
import Derived.Test.YtglbmiadgdadfaaParBase
import Derived.RegionIn
import Derived.Shelf.Abstract
namespace Go.Proofs.Ytglbmiadgdadfaa
open Go.RowKit Go.Shelf

attribute [local go_sem] Oper.semAt_some
namespace PP
/-- A slice of strings, wherever in its block. -/
def StrSl (W : World) (v : Value) (l : List ByteArray) : Prop :=
  l.length ≤ maxLen ∧ ∃ (a : Option Addr) (cap : Nat), v = .slice a l.length cap ∧ (0 < l.length → ∃ (g off : Nat) (C : Array Value), a = some ⟨g, off, none⟩ ∧ W.heap[g]? = some (.cells C 9 (0, 0)) ∧
    ∀ (j : Nat) (x : ByteArray), l[j]? = some x → C[off + j]? = some (.string x))
theorem StrSl.same {W W' : World} {v : Value} {l : List ByteArray} (h : StrSl W v l) (hs : ∀ (g : Nat) (C : Array Value), W.heap[g]? = some (.cells C 9 (0, 0)) → W'.heap[g]? = some (.cells C 9 (0, 0))) : StrSl W' v l := by
  obtain ⟨h1, a, cap, rfl, h4⟩ := h
  refine ⟨h1, a, cap, rfl, fun h0 => ?_⟩
  obtain ⟨g, off, C, rfl, hg, hc⟩ := h4 h0
  exact ⟨g, off, C, rfl, hs g C hg, hc⟩
theorem StrSl.below {W W' : World} {v : Value} {l : List ByteArray} (h : StrSl W v l) (hb : Below W.heap.size W W') : StrSl W' v l :=
  h.same fun g _ hg => (hb.block g (lt_of_heap hg)).trans hg
/-- A slice of strings, wherever in whatever block. -/
def StrC (W : World) (v : Value) (l : List ByteArray) : Prop :=
  l.length ≤ maxLen ∧ ∃ (a : Option Addr) (cap : Nat), v = .slice a l.length cap ∧ (0 < l.length → ∃ (g off : Nat), a = some ⟨g, off, none⟩ ∧ ∀ (j : Nat) (x : ByteArray), l[j]? = some x → W.cell? ⟨g, off + j, none⟩ = some (.string x))
theorem StrSl.toC {W : World} {v : Value} {l : List ByteArray} (h : StrSl W v l) : StrC W v l := by
  obtain ⟨h1, a, cap, rfl, h4⟩ := h
  refine ⟨h1, a, cap, rfl, fun h0 => ?_⟩
  obtain ⟨g, off, C, rfl, hg, hc⟩ := h4 h0
  exact ⟨g, off, rfl, fun j x hx => (cell_of_row _ g (off + j) _ _ _ hg).trans (hc j x hx)⟩
theorem StrC.below {W W' : World} {v : Value} {l : List ByteArray} (h : StrC W v l) (hb : Below W.heap.size W W') : StrC W' v l := by
  obtain ⟨h1, a, cap, rfl, h4⟩ := h
  refine ⟨h1, a, cap, rfl, fun h0 => ?_⟩
  obtain ⟨g, off, rfl, hc⟩ := h4 h0
  exact ⟨g, off, rfl, fun j x hx => (hb.cell (World.block_lt_of_cell? W _ (hc j x hx))).trans (hc j x hx)⟩
theorem cell_same {W U : World} {g : Nat} {o : Obj} (h : W.heap[g]? = some o) (k : U.heap[g]? = some o) (off : Nat) : U.cell? ⟨g, off, none⟩ = W.cell? ⟨g, off, none⟩ := by
  unfold World.cell?
  simp only [h, k]
theorem strSl_one (w : World) (x : ByteArray) : StrSl (w.alloc (.cells #[.string x] 9)) (.slice (some ⟨w.heap.size, 0, none⟩) 1 1) [x] :=
  ⟨by show 1 ≤ maxLen; unfold maxLen; omega, some ⟨w.heap.size, 0, none⟩, 1, rfl, fun _ => ⟨w.heap.size, 0, #[.string x], rfl, heap_alloc_new w _, fun j y hj => by
    have : j = 0 := by have := (List.getElem?_eq_some_iff.1 hj).1; simpa using this
    subst this; cases hj; rfl⟩⟩
def ixI (x : ByteArray) (l : List ByteArray) : Int := match l.idxOf? x with
  | some i => (i : Int)
  | none => -1
theorem idx_at {x : ByteArray} : ∀ {l : List ByteArray} {k : Nat}, l[k]? = some x → (∀ (j : Nat), j < k → l[j]? ≠ some x) → l.idxOf? x = some k
  | [], _, h, _ => by simp at h
  | y :: l, 0, h, _ => by cases h; simp [List.idxOf?, List.findIdx?_cons]
  | y :: l, k + 1, h, hn => by
    have hy : (y == x) = false := by
      have := hn 0 (by omega)
      simpa using this
    have := idx_at (l := l) (k := k) h (fun j hj => hn (j + 1) (by omega))
    unfold List.idxOf? at this ⊢
    rw [List.findIdx?_cons, hy]
    simp [this]
theorem idx_no {x : ByteArray} : ∀ {l : List ByteArray}, (∀ (j : Nat), l[j]? ≠ some x) → l.idxOf? x = none
  | [], _ => rfl
  | y :: l, hn => by
    have hy : (y == x) = false := by
      have := hn 0
      simpa using this
    have := idx_no (l := l) (fun j => hn (j + 1))
    unfold List.idxOf? at this ⊢
    rw [List.findIdx?_cons, hy]
    simp [this]
theorem any_idx {x : ByteArray} : ∀ (l : List ByteArray), (l.any fun y => y == x) = (l.idxOf? x).isSome
  | [] => rfl
  | y :: l => by
    have := any_idx (x := x) l
    unfold List.idxOf? at this ⊢
    rw [List.findIdx?_cons, List.any_cons, this]
    cases y == x <;> simp

set_option maxRecDepth 100000 in
set_option maxHeartbeats 4000000 in
theorem index_any (v : Value) (l : List ByteArray) (x : ByteArray) (w : World) (hv : StrC w v l) :
    Calls Try.prog 73 #[v, .string x] w fun e w' => e = .returned (.int .i64 (ixI x l)) ∧ w = w' := by
  obtain ⟨hm, a, cap, rfl, hcell⟩ := hv
  replace hcell := Lib.hid hcell
  have hl : l.length ≤ 9223372036854775807 := by unfold maxLen at hm; omega
  replace hm := Lib.hid hm
  go_enter Try.func73, Try.ntmps73
  go_wp2_with fail
  go_loopw [8] (fun i wr => ∃ (k : Nat), k ≤ l.length ∧ i = .int .i64 (k : Int) ∧ (∀ (j : Nat), j < k → l[j]? ≠ some x) ∧ w = wr) (fun i _ => l.length - (intOf i).toNat)
  case atStart => exact ⟨0, by omega, rfl, fun j hj => absurd hj (by omega), rfl⟩
  case round =>
    obtain ⟨k, hk', rfl, hno, rfl⟩ := hrel
    by_cases hlt : k < l.length
    · obtain ⟨g, off, rfl, hc⟩ := hcell.out (by omega)
      obtain ⟨y, hy⟩ : ∃ y, l[k]? = some y := ⟨l[k], List.getElem?_eq_getElem hlt⟩
      have e1 := hc k y hy
      have t1 : decide (k < l.length) = true := by simpa using hlt
      clear hc
      replace hno := Lib.hid hno
      go_wp2
      case roundEnd =>
        rename_i hne
        go_roundw
        case rel =>
          refine ⟨k + 1, by omega, by go_num, fun j hj hx => ?_, trivial⟩
          rcases Nat.lt_or_ge j k with h | h
          · exact hno.out j h hx
          · obtain rfl : j = k := by omega
            rw [hy] at hx; cases hx; simp at hne
        case measure => simp [intOf]; omega
      · rename_i he
        go_ret
        refine ⟨?_, rfl⟩
        have hxy : x = y := bsOf_inj (by rw [← toList_bs, ← toList_bs]; simpa using he)
        unfold ixI
        rw [idx_at (x := x) (by rw [hxy]; exact hy) hno.out]
        rfl
    · obtain rfl : k = l.length := by omega
      have t1 : decide (l.length < l.length) = false := by simp
      go_wp2
      go_ret
      refine ⟨?_, rfl⟩
      unfold ixI
      rw [idx_no (x := x) fun j hj => hno j (List.getElem?_eq_some_iff.1 hj).1 hj]
      rfl

set_option maxRecDepth 100000 in
set_option maxHeartbeats 4000000 in
theorem contains_any (v : Value) (l : List ByteArray) (x : ByteArray) (w : World) (hv : StrSl w v l) :
    Calls Try.prog 70 #[v, .string x] w fun e w' => e = .returned (.bool (l.any fun y => y == x)) ∧ w = w' := by
  have hI := Lib.hid (index_any v l x w hv.toC)
  have hA : Hid ((l.any fun y => y == x) = (l.idxOf? x).isSome) := Lib.hid (any_idx l)
  obtain ⟨i, hi⟩ : ∃ i, ixI x l = i := ⟨_, rfl⟩
  have hd : decide (0 ≤ i) = (l.idxOf? x).isSome := by
    rw [← hi]; unfold ixI
    cases h : l.idxOf? x with
    | none => rfl
    | some k => simp
  rw [hi] at hI
  rw [hA.out]
  generalize (l.idxOf? x).isSome = c at *
  go_enter Try.func70, Try.ntmps70
  go_wp2_with (first | (go_at_call 73; refine (hI.out).mono ?_; rintro e w' ⟨rfl, rfl⟩))
  go_ret
  exact ⟨rfl, rfl⟩

set_option maxRecDepth 100000 in
set_option maxHeartbeats 4000000 in
theorem wordSym_any (x : ByteArray) (w : World) (hm : x.size ≤ maxLen) :
    Calls Try.prog 45 #[.string x] w fun e w' => e = .returned (.string (PX.wsy x)) ∧ Below w.heap.size w w' := by
  have hK := kept_any x
  have hN := fun W => name_any x W hm
  have hR := fun W => reg_any x W hm
  replace hK := Lib.hid hK
  replace hN := Lib.hid hN
  replace hR := Lib.hid hR
  obtain ⟨a, ha⟩ : ∃ a, LX.keptB (bsOf x) = a := ⟨_, rfl⟩
  obtain ⟨b, hb⟩ : ∃ b, LX.nameB (bsOf x) = b := ⟨_, rfl⟩
  obtain ⟨c, hc⟩ : ∃ c, LX.regOk (bsOf x) = c := ⟨_, rfl⟩
  have hE : PX.wsy x = if a then x else if b then PX.sNAME else if c then PX.sREG else PX.sNo := by unfold PX.wsy; rw [ha, hb, hc]
  replace hE := Lib.hid hE
  unfold LX.regV at hR
  rw [ha] at hK
  rw [hb] at hN
  rw [hc] at hR
  clear ha hb hc
  go_enter Try.func45, Try.ntmps45
  go_wp2_with (first | (go_at_call 61; refine (hK.out _).mono ?_; rintro e w' ⟨rfl, rfl⟩) | (go_at_call 62; refine (hN.out _).mono ?_; rintro e w' ⟨rfl, B1⟩) | (go_at_call 63; refine (hR.out _).mono ?_; rintro e w' ⟨rfl, B2⟩))
  all_goals
    subst_vars
    go_ret
    refine ⟨by rw [hE.out]; rfl, ?_⟩
    first | exact Below.refl _ _ | exact B1 | exact B1.trans (B2.mono B1.size)

set_option maxRecDepth 100000 in
set_option maxHeartbeats 4000000 in
theorem symbol_any (t : TokD) (w : World) (ht : okTok t) :
    Calls Try.prog 33 #[tokV t] w fun e w' => e = .returned (.string (PX.sy t)) ∧ Below w.heap.size w w' := by
  obtain ⟨t1, t2, t3⟩ := ht
  have hW := fun W => wordSym_any t.x W (by unfold maxLen; omega)
  replace hW := Lib.hid hW
  have hB := (Below.refl w.heap.size w).alloc (Nat.le_refl _) (.cells #[.int .u8 t.k, .string t.x, .int .i64 t.p] 61)
  have hN := heap_alloc_new w (.cells #[.int .u8 t.k, .string t.x, .int .i64 t.p] 61)
  have n0 := cell_of_row _ w.heap.size 0 _ _ _ hN
  have n1 := cell_of_row _ w.heap.size 1 _ _ _ hN
  simp only [List.getElem?_toArray, List.getElem?_cons_zero, List.getElem?_cons_succ] at n0 n1
  have hE : Hid (∀ z, PX.sy t = z ↔ (if t.k = 1 then PX.wsy t.x else if t.k = 2 then PX.sNUM else if t.k = 3 then t.x else if t.k = 4 then PX.sEND else PX.sNo) = z) := Lib.hid fun z => Iff.rfl
  replace hB := Lib.hid hB
  clear hN
  unfold tokV
  generalize PX.sy t = z at *
  generalize PX.wsy t.x = y at *
  have hk : t.k = 0 ∨ t.k = 1 ∨ t.k = 2 ∨ t.k = 3 ∨ t.k = 4 := by omega
  generalize t.k = k at *
  rcases hk with rfl | rfl | rfl | rfl | rfl
  all_goals
    go_enter Try.func33, Try.ntmps33
    go_wp2_with (first | (go_at_call 45; refine (hW.out _).mono ?_; rintro e w' ⟨rfl, B1⟩))
    go_ret
    first
      | exact ⟨by rw [(hE.out _).2 rfl]; rfl, hB.out⟩
      | exact ⟨by rw [(hE.out _).2 rfl]; rfl, hB.out.trans (B1.mono hB.out.size)⟩


set_option maxRecDepth 100000 in
set_option maxHeartbeats 4000000 in
theorem is_any (b : Nat) (s : PX.S) (h : Hd) (v : Value) (l : List ByteArray) (w : World) (p : PS w b s h) (hv : StrSl w v l) :
    Calls Try.prog 52 #[.pointer (some ⟨b, 0, none⟩), v] w fun e w' => e = .returned (.bool (PX.isS l s)) ∧ Below w.heap.size w w' := by
  have hN := Lib.hid (next_any b s h w p)
  have hS := Lib.hid fun W => symbol_any (PX.next s) W p.next_ok
  have hC := Lib.hid fun W (hb : Below w.heap.size w W) => contains_any v l (PX.sy (PX.next s)) W (hv.below hb)
  go_enter Try.func52, Try.ntmps52
  go_wp2_with (first | (go_at_call 21; refine (hN.out).mono ?_; rintro e w1 ⟨rfl, B1⟩) | (go_at_call 33; refine (hS.out _).mono ?_; rintro e w2 ⟨rfl, B2⟩) | (go_at_call 70; refine (hC.out _ (B1.trans (B2.mono B1.size))).mono ?_; rintro e w3 ⟨rfl, rfl⟩))
  go_ret
  exact ⟨rfl, B1.trans (B2.mono B1.size)⟩

set_option maxRecDepth 100000 in
set_option maxHeartbeats 4000000 in
theorem fail_any (pl e : Int) (w : World) : Calls Try.prog 28 #[.int .i64 pl, .int .i64 e] w fun e' w' => e' = failE pl e ∧ w = w' := by
  go_enter Try.func28, Try.ntmps28
  go_wp2
  exact ⟨rfl, rfl, rfl⟩

theorem TkR.tail {W : World} {g off n cap : Nat} {t : TokD} {l : List TokD} (hl : l.length + 1 = n) (h : TkR W g (.slice (some ⟨g, off, none⟩) n cap) (t :: l)) (v : Value)
    (hv : (cap = 1 ∧ v = .slice (some ⟨g, off, none⟩) (n - 1) 0) ∨ (cap ≠ 1 ∧ v = .slice (some ⟨g, off + 3, none⟩) (n - 1) (cap - 1))) : TkR W g v l := by
  obtain ⟨h1, a, cap', he, h2, h3, h4⟩ := h
  simp only [Value.slice.injEq] at he
  obtain ⟨rfl, hn, rfl⟩ := he
  simp only [List.length_cons] at h1 h2 hn
  obtain ⟨off', C, ha, hg, hc⟩ := h4 (by simp)
  cases ha
  rcases hv with ⟨rfl, rfl⟩ | ⟨hc1, rfl⟩
  · refine ⟨by omega, some ⟨g, off, none⟩, 0, by rw [← hl]; rfl, by omega, by omega, fun h0 => by omega⟩
  · refine ⟨by omega, some ⟨g, off + 3, none⟩, cap - 1, by rw [← hl]; rfl, by omega, by omega, fun h0 => ⟨off + 3, C, rfl, hg, fun j u hj => ?_⟩⟩
    have := hc (j + 1) u hj
    rw [show off + 3 + j * 3 = off + (j + 1) * 3 from by omega]
    exact this
theorem took {w W1 : World} {b k : Nat} {s : PX.S} {h : Hd} {vr v : Value} {l : List TokD} (B : Below w.heap.size w W1) (h1 : w.heap[b]? = some (.cells (psC vr s h) 54 (0, 0)))
    (hv : TkR w h.g v l) (hg : h.g < w.heap.size) (h6 : ∀ t ∈ l, okTok t) (hk : w.heap.size ≤ k) (u0 u1 u2 : Value) :
    Fr [] b w ((((W1.setCell ⟨b, 0, none⟩ v).setCell ⟨k, 0, none⟩ u0).setCell ⟨k, 1, none⟩ u1).setCell ⟨k, 2, none⟩ u2) ∧
    PS ((((W1.setCell ⟨b, 0, none⟩ v).setCell ⟨k, 0, none⟩ u0).setCell ⟨k, 1, none⟩ u1).setCell ⟨k, 2, none⟩ u2) b { s with rest := l } h := by
  have hb := lt_of_heap h1
  have F : Fr [] b w ((((W1.setCell ⟨b, 0, none⟩ v).setCell ⟨k, 0, none⟩ u0).setCell ⟨k, 1, none⟩ u1).setCell ⟨k, 2, none⟩ u2) :=
    ((((Fr.of_below B).setB 0 v).setNew hk 0 u0).setNew hk 1 u1).setNew hk 2 u2
  refine ⟨F, v, ?_, hv.same fun C hC => F.box hC (fun e => by rw [e, h1] at hC; cases hC) (by simp), h6, Nat.lt_of_lt_of_le hg F.size⟩
  rw [Below.heap_setCell _ _ _ _ (by show b ≠ k; omega), Below.heap_setCell _ _ _ _ (by show b ≠ k; omega), Below.heap_setCell _ _ _ _ (by show b ≠ k; omega)]
  rw [heap_setCell_same _ _ _ _ _ _ ((B.block b hb).trans h1)]
  rfl

set_option maxRecDepth 100000 in
set_option maxHeartbeats 8000000 in
theorem takeIf_any (b : Nat) (s : PX.S) (h : Hd) (fits : Bool) (w : World) (p : PS w b s h) (hf : fits = true → s.rest ≠ []) :
    Calls Try.prog 51 #[.pointer (some ⟨b, 0, none⟩), .bool fits] w (Ends w b h tokV (PX.takeIf fits s)) := by
  have hN := Lib.hid fun W hp => next_any b s h W hp
  have hF := Lib.hid fun pl W => fail_any pl 50 W
  have hp0 := Lib.hid p
  have B0 := (Below.refl w.heap.size w).alloc (Nat.le_refl _) (.cells #[.int .u8 0, .string ⟨#[]⟩, .int .i64 0] 61)
  cases fits
  · go_enter Try.func51, Try.ntmps51
    go_wp2_with (first | (go_at_call 21; refine (hN.out _ (hp0.out.below B0)).mono ?_; rintro e w1 ⟨rfl, B1⟩; unfold tokV) | (go_at_call 28; refine (hF.out _ _).mono ?_; rintro e w2 ⟨rfl, rfl⟩))
    refine ⟨rfl, ?_, by rename_i hh; exact hh.symm⟩
    exact Fr.of_below ((B0.trans (B1.mono (by simp))).alloc (by have := B1.size; simp at this; omega) _)
  · obtain ⟨vr, h1, ⟨h2, a, cap, rfl, h3, h4, h5⟩, h6, h7⟩ := p
    obtain ⟨t, l, hr⟩ : ∃ t l, s.rest = t :: l := by
      cases hr : s.rest with
      | nil => exact absurd hr (hf rfl)
      | cons t l => exact ⟨t, l, rfl⟩
    rw [hr] at h1 h2 h3 h5 h6
    obtain ⟨off, C, rfl, hg, hc⟩ := h5 (by simp)
    obtain ⟨g, hgg⟩ : ∃ g, h.g = g := ⟨_, rfl⟩
    rw [hgg] at h1 h5 h7 hg
    have hn : PX.next s = t := by unfold PX.next; rw [hr]; rfl
    have hlt := lt_of_heap h1
    obtain ⟨n, hn'⟩ : ∃ n, l.length + 1 = n := ⟨_, rfl⟩
    simp only [List.length_cons] at h1 h2 h3
    rw [hn'] at h1 h2 h3
    have t1 : decide ((n : Int) < 1) = false := by simp; omega
    have t2 : decide ((cap : Int) < n) = false := by simp; omega
    have hcell : ∀ W, Below w.heap.size w W → W.cell? ⟨b, 0, none⟩ = some (.slice (some ⟨g, off, none⟩) n cap) := fun W hW => cell_of_row _ b 0 _ _ _ ((hW.block b hlt).trans h1)
    replace hcell := Lib.hid hcell
    rw [hn] at hN
    have hz := heap_alloc_new w (.cells #[.int .u8 0, .string ⟨#[]⟩, .int .i64 0] 61)
    have hz' := Lib.hid fun W (hW : Below (w.heap.size + 1) (w.alloc (.cells #[.int .u8 0, .string ⟨#[]⟩, .int .i64 0] 61)) W) => (hW.block w.heap.size (by omega)).trans hz
    go_enter Try.func51, Try.ntmps51
    go_wp2_with (first | (go_at_call 21; refine (hN.out _ (hp0.out.below B0)).mono ?_; rintro e w1 ⟨rfl, B1⟩; unfold tokV; simp only [World.size_alloc] at B1;
                          have B2 := (B0.trans (B1.mono (by omega))).alloc (by have := B1.size; simp at this; omega) (.cells #[.int .u8 t.k, .string t.x, .int .i64 t.p] 61); have c0 := hcell.out _ B2
                          have z := hz'.out _ (B1.alloc (by have := B1.size; simpa using this) (.cells #[.int .u8 t.k, .string t.x, .int .i64 t.p] 61))
                          have hs1 : w.heap.size ≤ w1.heap.size := by have := B1.size; simp at this; omega
                          have y := heap_alloc_new w1 (.cells #[.int .u8 t.k, .string t.x, .int .i64 t.p] 61)
                          have hbz : b ≠ w.heap.size := by omega
                          have hby : b ≠ w1.heap.size := by omega
                          have fb := frozen_of_row _ b 0 _ _ ((B2.block b hlt).trans h1)
                          have fz := fun j => frozen_of_row _ _ j _ _ z
                          have z0 := fun v => (cell_past _ hbz 0 0 v).trans (cell_of_row _ _ 0 _ _ _ z)
                          have z1 := fun v => (cell_past _ hbz 0 1 v).trans (cell_of_row _ _ 1 _ _ _ z)
                          have z2 := fun v => (cell_past _ hbz 0 2 v).trans (cell_of_row _ _ 2 _ _ _ z)
                          have y0 := fun v => (cell_past _ hby 0 0 v).trans (cell_of_row _ _ 0 _ _ _ y)
                          have y1 := fun v => (cell_past _ hby 0 1 v).trans (cell_of_row _ _ 1 _ _ _ y)
                          have y2 := fun v => (cell_past _ hby 0 2 v).trans (cell_of_row _ _ 2 _ _ _ y)
                          simp only [List.getElem?_toArray, List.getElem?_cons_zero, List.getElem?_cons_succ] at z0 z1 z2 y0 y1 y2
                          clear z; clear y) | (go_at_call 28; refine (hF.out _ _).mono ?_; rintro e w2 ⟨rfl, rfl⟩))
    all_goals
      have hT := TkR.tail hn' (show TkR w g (.slice (some ⟨g, off, none⟩) n _) (t :: l) from ⟨by simp only [List.length_cons]; omega, _, _, by rw [← hn']; rfl, by simp only [List.length_cons]; omega, h4, h5⟩)
      have hcap := h
    · obtain ⟨F, P⟩ := took B2 h1 (by rw [hgg]; exact hT _ (.inl ⟨hcap, rfl⟩)) (by rw [hgg]; exact h7) (fun u hu => h6 u (List.mem_cons_of_mem _ hu)) (Nat.le_refl _) (.int .u8 t.k) (.string t.x) (.int .i64 t.p)
      refine bodyPost_ret (v := tokV t) ?_ rfl ⟨F, ?_⟩
      · unfold tokV
        simp [results, Try.f51, go_sem, z0, z1, z2]
      · have hx : PX.takeIf true s = .ok t { s with rest := l } := by unfold PX.takeIf; rw [hn, hr]; rfl
        rw [hx]
        exact ⟨rfl, P⟩
    · obtain ⟨F, P⟩ := took B2 h1 (by rw [hgg]; exact hT _ (.inr ⟨hcap, rfl⟩)) (by rw [hgg]; exact h7) (fun u hu => h6 u (List.mem_cons_of_mem _ hu)) (Nat.le_refl _) (.int .u8 t.k) (.string t.x) (.int .i64 t.p)
      refine bodyPost_ret (v := tokV t) ?_ rfl ⟨F, ?_⟩
      · unfold tokV
        simp [results, Try.f51, go_sem, z0, z1, z2]
      · have hx : PX.takeIf true s = .ok t { s with rest := l } := by unfold PX.takeIf; rw [hn, hr]; rfl
        rw [hx]
        exact ⟨rfl, P⟩

/-- A list of symbols, none of them empty. -/
def SymsOk (l : List ByteArray) : Prop := ∀ x ∈ l, x ≠ ⟨#[]⟩
theorem isS_ne {l : List ByteArray} {s : PX.S} (hl : SymsOk l) (h : PX.isS l s = true) : s.rest ≠ [] := by
  intro hr
  unfold PX.isS at h
  obtain ⟨x, hx, hxe⟩ := List.any_eq_true.1 h
  have : PX.sy (PX.next s) = ⟨#[]⟩ := by unfold PX.next; rw [hr]; rfl
  rw [this] at hxe
  exact hl x hx (by simpa using hxe)

set_option maxRecDepth 100000 in
set_option maxHeartbeats 4000000 in
theorem take_any (b : Nat) (s : PX.S) (h : Hd) (v : Value) (l : List ByteArray) (w : World) (p : PS w b s h) (hv : StrSl w v l) (hl : SymsOk l) :
    Calls Try.prog 41 #[.pointer (some ⟨b, 0, none⟩), v] w (Ends w b h tokV (PX.take l s)) := by
  have B0 := (Below.refl w.heap.size w).alloc (Nat.le_refl _) (.cells #[.int .u8 0, .string ⟨#[]⟩, .int .i64 0] 61)
  have hI := Lib.hid (is_any b s h v l _ (p.below B0) (hv.below B0))
  have hT := Lib.hid fun W hp => takeIf_any b s h (PX.isS l s) W hp (isS_ne hl)
  have hb := p.lt
  have hgl := p.g_lt
  have hz := heap_alloc_new w (.cells #[.int .u8 0, .string ⟨#[]⟩, .int .i64 0] 61)
  replace p := Lib.hid p
  unfold PX.take
  generalize PX.isS l s = c at *
  rcases hx : PX.takeIf c s with ⟨t, s'⟩ | ⟨pl, er⟩
  · rw [hx] at hT
    go_enter Try.func41, Try.ntmps41
    go_wp2_with (first
      | (go_at_call 52; refine (hI.out).mono ?_; rintro e w1 ⟨rfl, B1⟩; simp only [World.size_alloc] at B1)
      | (go_at_call 51; refine (hT.out _ ((p.out.below B0).below (by simpa using B1))).mono ?_; rintro e w2 ⟨F, rfl, P⟩; unfold tokV
         have hz2 := F.box ((B1.block w.heap.size (by omega)).trans hz) (by omega) (by simp)
         have z0 := cell_of_row _ _ 0 _ _ _ hz2; have z1 := cell_of_row _ _ 1 _ _ _ hz2; have z2 := cell_of_row _ _ 2 _ _ _ hz2; have fz := fun j => frozen_of_row _ _ j _ _ hz2
         simp only [List.getElem?_toArray, List.getElem?_cons_zero, List.getElem?_cons_succ] at z0 z1 z2))
    have F' := Fr.trans (Fr.of_below (T := []) (b := b) (B0.trans (B1.mono (by omega)))) F
    refine bodyPost_ret (v := tokV t) ?_ rfl ⟨((F'.setNew (Nat.le_refl _) 0 _).setNew (Nat.le_refl _) 1 _).setNew (Nat.le_refl _) 2 _, rfl, ?_⟩
    · unfold tokV
      simp [results, Try.f41, go_sem, z0, z1, z2]
    · exact ((P.setOther (by omega) (by omega) 0 _).setOther (by omega) (by omega) 1 _).setOther (by omega) (by omega) 2 _
  · rw [hx] at hT
    go_enter Try.func41, Try.ntmps41
    go_wp2_with (first
      | (go_at_call 52; refine (hI.out).mono ?_; rintro e w1 ⟨rfl, B1⟩; simp only [World.size_alloc] at B1)
      | (go_at_call 51; refine (hT.out _ ((p.out.below B0).below (by simpa using B1))).mono ?_; rintro e w2 ⟨F, rfl⟩))
    refine ⟨rfl, Fr.trans (Fr.of_below (B0.trans (B1.mono (by omega)))) F, ?_⟩
    rename_i hh
    exact hh.symm
end PP
end Go.Proofs.Ytglbmiadgdadfaa
