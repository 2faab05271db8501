/- marks.Of: the set of a list, as the orders use it. -/
import Derived.Test.YtpbljciblgcgfaaDoorMarksAllOnly
namespace Go.Proofs.YtpbljciblgcgfaaDoor
open Go.RowKit Go.Shelf

/-- The value v holds the numbers zs, in blocks below n₀. -/
def NumSl (q : IntKind) (n₀ : Nat) (W : World) (v : Value) (zs : List Int) : Prop :=
  zs.length ≤ maxLen ∧ ∃ a cap, v = .slice a zs.length cap ∧ (0 < zs.length → ∃ b off, a = some ⟨b, off, none⟩ ∧ b < n₀ ∧ ∀ j, j < zs.length → W.cell? ⟨b, off + j, none⟩ = some (.int q (zs[j]?.getD 0)))
abbrev IntSl := NumSl .i64

theorem NumSl.below {q : IntKind} {n₀ : Nat} {W W' : World} {v : Value} {zs : List Int} (h : NumSl q n₀ W v zs) (hb : Below n₀ W W') : NumSl q n₀ W' v zs := by
  obtain ⟨hl, a, cap, rfl, h⟩ := h
  refine ⟨hl, a, cap, rfl, fun h0 => ?_⟩
  obtain ⟨b, off, rfl, hbn, hc⟩ := h h0
  exact ⟨b, off, rfl, hbn, fun j hj => (hb.cell (p := ⟨b, off + j, none⟩) hbn).trans (hc j hj)⟩

theorem NumSl.mono {q : IntKind} {n₀ n₁ : Nat} {W : World} {v : Value} {zs : List Int} (h : NumSl q n₀ W v zs) (hn : n₀ ≤ n₁) : NumSl q n₁ W v zs := by
  obtain ⟨hl, a, cap, rfl, h⟩ := h
  refine ⟨hl, a, cap, rfl, fun h0 => ?_⟩
  obtain ⟨b, off, rfl, hbn, hc⟩ := h h0
  exact ⟨b, off, rfl, by omega, hc⟩

theorem numSl_of_row {q : IntKind} {W : World} {base : Nat} {e : TypeId} {v : Value} {zs : List Int} (h : W.ownsRow base e 1 v zs.length (zs.map (Value.int q))) (hm : zs.length ≤ maxLen) : NumSl q W.heap.size W v zs := by
  refine ⟨hm, ?_⟩
  have hh := h
  rcases h.2 with ⟨rfl, h0⟩ | ⟨g, cap, cur, rfl, hg, hheap, _⟩
  · exact ⟨none, 0, by rw [h0], fun hp => by omega⟩
  · refine ⟨_, cap, rfl, fun _ => ⟨g, 0, rfl, (Array.getElem?_eq_some_iff.1 hheap).1, fun j hj => ?_⟩⟩
    have := hh.cellAt j (by omega)
    rw [Nat.zero_add, this, List.getElem?_map]
    simp [hj]

def okInts (zs : List Int) : Bool := zs.all fun z => decide (0 ≤ z) && decide (z < 64)
/-- The set of a list. -/
def setL (zs : List Int) : Int := (zs.foldl (fun (s : Nat) z => s ||| 2 ^ z.toNat) 0 : Nat)

theorem setL_snoc (l : List Int) (z : Int) : setL (l ++ [z]) = (((setL l).toNat ||| 2 ^ z.toNat : Nat) : Int) := by simp [setL, List.foldl_append]
theorem setL_nonneg (l : List Int) : 0 ≤ setL l := by unfold setL; omega
theorem okInts_mem {zs : List Int} (h : okInts zs = true) {z : Int} (hz : z ∈ zs) : 0 ≤ z ∧ z < 64 := by
  have := List.all_eq_true.1 h z hz
  simpa using this
theorem setL_lt (l : List Int) (h : okInts l = true) : setL l < 18446744073709551616 := by
  suffices hs : ∀ (l : List Int) (s : Nat), (∀ z ∈ l, 0 ≤ z ∧ z < 64) → s < 2 ^ 64 → l.foldl (fun (s : Nat) z => s ||| 2 ^ z.toNat) s < 2 ^ 64 by
    have := hs l 0 (fun z hz => okInts_mem h hz) (by decide)
    unfold setL; omega
  intro l
  induction l with
  | nil => intro s _ hs; exact hs
  | cons z l ih =>
    intro s hz hs
    have h1 := hz z (by simp)
    exact ih _ (fun y hy => hz y (by simp [hy])) (Nat.or_lt_two_pow hs (Nat.pow_lt_pow_right (by omega) (by omega)))
theorem okInts_take {zs : List Int} (h : okInts zs = true) (k : Nat) : okInts (zs.take k) = true := by
  rw [okInts, List.all_eq_true] at h ⊢
  exact fun z hz => h z (List.mem_of_mem_take hz)
theorem take_snoc (zs : List Int) (k : Nat) (h : k < zs.length) : zs.take (k + 1) = zs.take k ++ [zs[k]?.getD 0] := by
  rw [List.take_succ_eq_append_getElem h]; simp [h]
theorem setL_step (l : List Int) (h : okInts l = true) (z : Int) (h0 : 0 ≤ z) (h1 : z < 64) : bits BinOp.or IntKind.u64 (setL l) (IntKind.u64.wrap (2 ^ z.toNat)) = setL (l ++ [z]) := by
  have hp : 2 ^ z.toNat < 2 ^ 64 := Nat.pow_lt_pow_right (by omega) (by omega)
  rw [setL_snoc, shl1_u64 z h0 h1]
  generalize 2 ^ z.toNat = p at hp
  rw [u64_or _ _ (setL_nonneg l) (setL_lt l h) (by omega) (by omega), Int.toNat_natCast]

set_option maxHeartbeats 400000 in
theorem of_good (v : Value) (zs : List Int) (n₀ : Nat) (w : World) (hs : IntSl n₀ w v zs) (hok : okInts zs = true) :
    Calls Tryd.prog 98 #[v] w fun e w' => e = .returned (.tuple #[.int .u64 (setL zs), .int .i64 0]) ∧ w = w' := by
  obtain ⟨hm, a, cap, rfl, h⟩ := hs
  unfold maxLen at hm
  have Hok := Lib.hid hok
  clear hok
  go_enter Tryd.func98, Tryd.ntmps98
  go_wp2
  go_loop [4, 9] (fun s i => ∃ k : Nat, k ≤ zs.length ∧ i = .int .i64 k ∧ s = .int .u64 (setL (zs.take k))) (fun _ i => zs.length - (intOf i).toNat)
  case atStart => exact ⟨0, Nat.zero_le _, rfl, rfl⟩
  case round =>
    obtain ⟨k, hk, rfl, rfl⟩ := hrel
    by_cases hlt : k < zs.length
    · obtain ⟨b, off, rfl, hb, hc⟩ := h (by omega)
      have hck := hc k hlt
      have ht := take_snoc zs k hlt
      have hz := okInts_mem Hok.out (z := zs[k]?.getD 0) (by simp [hlt])
      generalize zs[k]?.getD 0 = z at hck ht hz
      have hst := setL_step (zs.take k) (okInts_take Hok.out k) z hz.1 hz.2
      rw [← ht] at hst
      obtain ⟨hz0, hz1⟩ := hz
      have t0 : decide (z < 0) = false := by simp; omega
      have t1 : decide (64 ≤ z) = false := by simp; omega
      have Hst := Lib.hid hst
      clear h hc ht hst
      go_wp2
      go_round
      case rel => exact ⟨k + 1, by omega, by go_num, by rw [Hst.out]⟩
      case measure => simp [intOf]; omega
    · obtain rfl : k = zs.length := by omega
      go_wp2
      go_ret2
      exact ⟨rfl, rfl⟩

theorem okInts_bad {zs : List Int} (h : okInts zs = false) : ∃ k, k < zs.length ∧ okInts (zs.take k) = true ∧ (zs[k]?.getD 0 < 0 ∨ 64 ≤ zs[k]?.getD 0) := by
  induction zs with
  | nil => simp [okInts] at h
  | cons z zs ih =>
    by_cases hz : 0 ≤ z ∧ z < 64
    · have h' : okInts zs = false := by simpa [okInts, hz.1, hz.2] using h
      obtain ⟨k, hk, h1, h2⟩ := ih h'
      refine ⟨k + 1, by simp; omega, ?_, by simpa using h2⟩
      rw [List.take_succ_cons]
      simpa [okInts, hz.1, hz.2] using h1
    · exact ⟨0, by simp, by simp [okInts], by simp; omega⟩

set_option maxHeartbeats 400000 in
theorem of_bad (v : Value) (zs : List Int) (n₀ : Nat) (w : World) (hs : IntSl n₀ w v zs) (hok : okInts zs = false) :
    Calls Tryd.prog 98 #[v] w fun e w' => e = .returned (.tuple #[.int .u64 0, .int .i64 2]) ∧ w = w' := by
  obtain ⟨m, hm1, hm2, hm3⟩ := okInts_bad hok
  clear hok
  obtain ⟨hm, a, cap, rfl, h⟩ := hs
  unfold maxLen at hm
  have Hm2 := Lib.hid hm2
  have Hm3 := Lib.hid hm3
  clear hm2 hm3
  go_enter Tryd.func98, Tryd.ntmps98
  go_wp2
  go_loop [4, 9] (fun s i => ∃ k : Nat, k ≤ m ∧ i = .int .i64 k ∧ s = .int .u64 (setL (zs.take k))) (fun _ i => zs.length - (intOf i).toNat)
  case atStart => exact ⟨0, Nat.zero_le _, rfl, rfl⟩
  case round =>
    obtain ⟨k, hk, rfl, rfl⟩ := hrel
    obtain ⟨b, off, rfl, hb, hc⟩ := h (by omega)
    by_cases hlt : k < m
    · have hck := hc k (by omega)
      have ht := take_snoc zs k (by omega)
      have hz := okInts_mem Hm2.out (z := zs[k]?.getD 0) (by rw [List.mem_take_iff_getElem]; exact ⟨k, by omega, by simp [show k < zs.length by omega]⟩)
      generalize zs[k]?.getD 0 = z at hck ht hz
      have hst := setL_step (zs.take k) (by have := okInts_take Hm2.out k; rwa [List.take_take, Nat.min_eq_left (by omega)] at this) z hz.1 hz.2
      rw [← ht] at hst
      obtain ⟨hz0, hz1⟩ := hz
      have t0 : decide (z < 0) = false := by simp; omega
      have t1 : decide (64 ≤ z) = false := by simp; omega
      have Hst := Lib.hid hst
      clear h hc ht hst
      go_wp2
      go_round
      case rel => exact ⟨k + 1, by omega, by go_num, by rw [Hst.out]⟩
      case measure => simp [intOf]; omega
    · obtain rfl : k = m := by omega
      have hck := hc k hm1
      have hz := Hm3.out
      generalize zs[k]?.getD 0 = z at hck hz
      clear h hc
      rcases hz with hz | hz
      · have t0 : decide (z < 0) = true := by simp; omega
        go_wp2
        go_ret2
        exact ⟨rfl, rfl⟩
      · have t0 : decide (z < 0) = false := by simp; omega
        have t1 : decide (64 ≤ z) = true := by simp; omega
        go_wp2
        go_ret2
        exact ⟨rfl, rfl⟩


end Go.Proofs.YtpbljciblgcgfaaDoor
