/- The law MarksRank's walk. -/
import Derived.Test.YtacfamelnaocmaaDoorMarksUnion
namespace Go.Proofs.YtacfamelnaocmaaDoor
open Go.RowKit Go.Shelf
namespace MM
theorem rank_at {l : List Nat} (hl : l.Pairwise (· < ·)) : ∀ {k n : Nat}, l[k]? = some n → rankOf l (n : Int) = (k : Int) := by
  induction l with
  | nil => intro k n h; simp at h
  | cons a l ih =>
    obtain ⟨h1, h2⟩ := List.pairwise_cons.1 hl
    intro k n h
    cases k with
    | zero =>
      simp at h; subst h
      unfold rankOf
      rw [List.filter_eq_nil_iff.2]
      · rfl
      · intro y hy
        rcases List.mem_cons.1 hy with rfl | hy
        · simp
        · have := h1 y hy; simp; omega
    | succ k =>
      simp at h
      have hz := h1 n (List.mem_of_getElem? h)
      have := ih h2 h
      unfold rankOf at this ⊢
      rw [List.filter_cons, if_pos (by simp; omega), List.length_cons]
      omega
theorem rank_succ {l : List Nat} (hl : l.Pairwise (· < ·)) (i : Nat) : rankOf l ((i : Int) + 1) = rankOf l (i : Int) + (if i ∈ l then 1 else 0) := by
  induction l with
  | nil => simp [rankOf]
  | cons a l ih =>
    obtain ⟨h1, h2⟩ := List.pairwise_cons.1 hl
    have ih := ih h2
    unfold rankOf at ih ⊢
    rw [List.filter_cons, List.filter_cons]
    by_cases ha : a = i
    · subst ha
      have hn : a ∉ l := fun hm => Nat.lt_irrefl _ (h1 a hm)
      rw [if_neg hn] at ih
      rw [if_pos (by simp; omega), if_neg (by simp), if_pos (by simp), List.length_cons]
      omega
    · have hm : i ∈ a :: l ↔ i ∈ l := by simp; intro e; exact absurd e.symm ha
      simp only [hm]
      by_cases hlt : a < i
      · rw [if_pos (by simp; omega), if_pos (by simp; omega), List.length_cons, List.length_cons]; omega
      · rw [if_neg (by simp; omega), if_neg (by simp; omega)]; exact ih
theorem rank_zero (l : List Nat) : rankOf l 0 = 0 := by
  unfold rankOf; rw [List.filter_eq_nil_iff.2]; · rfl
  · intro y _; simp
theorem rank_all (s : Nat) : rankOf (els s) 64 = lenOf (els s) := by
  unfold rankOf lenOf; rw [List.filter_eq_self.2]
  intro y hy
  have := els_lt hy
  simp; omega
theorem rank_bd (s : Nat) (i : Int) : 0 ≤ rankOf (els s) i ∧ rankOf (els s) i ≤ 64 := by
  have := List.length_filter_le (fun k : Nat => decide ((k : Int) < i)) (els s)
  have := els_length s
  unfold rankOf; omega
end MM

/-- The bit that the law asks. -/
theorem bit_eq (x i : Int) (h0 : 0 ≤ x) (h1 : x < 18446744073709551616) : bits BinOp.and IntKind.u64 (x / 2 ^ i.toNat) 1 = if x.toNat.testBit i.toNat then 1 else 0 := by
  have hd : 0 ≤ x / 2 ^ i.toNat := Int.ediv_nonneg h0 (Int.le_of_lt (Int.pow_pos (by decide)))
  have hle : x / 2 ^ i.toNat ≤ x := Int.ediv_le_self _ h0
  rw [and_one_u64 _ hd (by omega), Nat.testBit_eq_decide_div_mod_eq]
  obtain ⟨X, rfl⟩ := Int.eq_ofNat_of_zero_le h0
  have e : ((X : Int) / 2 ^ i.toNat) = ((X / 2 ^ i.toNat : Nat) : Int) := by simp
  rw [e, Int.toNat_natCast]
  generalize X / 2 ^ i.toNat = y
  by_cases h : y % 2 = 1
  · simp [h]; omega
  · simp [h]; omega

theorem pickOf_some {l : List Nat} {k : Int} {n : Nat} (h : pickOf l k = some n) : 0 ≤ k ∧ k < lenOf l ∧ l[k.toNat]? = some n := by
  unfold pickOf at h
  split at h
  · have := (List.getElem?_eq_some_iff.1 h).1
    unfold lenOf
    exact ⟨by assumption, by omega, h⟩
  · cases h
theorem pickOf_none' {l : List Nat} {k : Int} (h : pickOf l k = none) : k < 0 ∨ lenOf l ≤ k := by
  unfold pickOf at h
  split at h
  · rw [List.getElem?_eq_none_iff] at h; unfold lenOf; omega
  · omega

set_option maxRecDepth 100000 in
set_option maxHeartbeats 2000000 in
/-- The part behind the first test: the same on both ways. -/
theorem rankTail (x k : Int) (L : Int) (o : Option Nat)
    (CN : Hid (∀ w, Tab w → Calls Tryd.prog 24 #[.int .u64 x, .int .i64 k] w fun e w' => e = .returned (optV o) ∧ Below w.heap.size w w'))
    (ho : (∃ n : Nat, o = some n) ∨ o = none) (hn : o = none → k < 0 ∨ L ≤ k) (hs : ∀ n, o = some n → 0 ≤ k ∧ k < L) :
    ∃ (K : Int) (b : Bool), optV o = .tuple #[.int .i64 K, .bool b] ∧ (b = true → 0 ≤ k ∧ k < L ∧ ∃ n : Nat, o = some n ∧ K = (n : Int)) ∧ (b = false → k < 0 ∨ (0 ≤ k ∧ L ≤ k)) := by
  have _ := CN
  rcases ho with ⟨n, rfl⟩ | rfl
  · exact ⟨n, true, rfl, fun _ => ⟨(hs n rfl).1, (hs n rfl).2, n, rfl, rfl⟩, fun h => by cases h⟩
  · exact ⟨0, false, rfl, (fun h => by cases h), fun _ => by have := hn rfl; omega⟩

set_option maxRecDepth 100000 in
set_option maxHeartbeats 4000000 in
theorem rankLaw_any (x a k : Int) (h0 : 0 ≤ x) (h1 : x < 18446744073709551616) (a0 : 0 ≤ a) (a1 : a ≤ 255) (w : World) (hT : Tab w) :
    Calls Tryd.prog 6 #[.int .u64 x, .int .u8 a, .int .i64 k] w fun e w' => e = .returned (.bool true) ∧ Below w.heap.size w w' := by
  have hp := hT.pos
  obtain ⟨i, hi⟩ : ∃ i, a % 64 = i := ⟨_, rfl⟩
  have i0 : 0 ≤ i := by omega
  have i1 : i < 64 := by omega
  have Ch := fun w hT => rank_any x i h0 h1 w hT
  have Cn := fun w hT => rank_any x (i + 1) h0 h1 w hT
  have C64 := fun w hT => rank_any x 64 h0 h1 w hT
  have C0 := fun w hT => rank_any x 0 h0 h1 w hT
  rw [MM.rank_all] at C64
  rw [MM.rank_zero] at C0
  have CL := fun w hT => len_any x h0 h1 w hT
  have CP := fun w hT => pick_any x (rankOf (MM.els x.toNat) i) h0 h1 w hT
  have CK := fun w hT => pick_any x k h0 h1 w hT
  have CRk := fun (n : Nat) (hn : (MM.els x.toNat)[k.toNat]? = some n) (hk : 0 ≤ k) w hT => (by
    have := rank_any x n h0 h1 w hT
    rw [MM.rank_at (MM.els_sorted _) hn, Int.toNat_of_nonneg hk] at this
    exact this : Calls Tryd.prog 19 #[.int .u64 x, .int .i64 (n : Int)] w fun e w' => e = .returned (.int .i64 k) ∧ Below w.heap.size w w')
  have hps := fun (n : Nat) (h : pickOf (MM.els x.toNat) k = some n) => pickOf_some h
  have hpn := fun (h : pickOf (MM.els x.toNat) k = none) => pickOf_none' h
  have hbit := bit_eq x i h0 h1
  have hsucc := MM.rank_succ (MM.els_sorted x.toNat) i.toNat
  rw [Int.toNat_of_nonneg i0] at hsucc
  have hbd := MM.rank_bd x.toNat i
  have hLb := lenOf_bd x.toNat
  have hmem : i.toNat ∈ MM.els x.toNat ↔ x.toNat.testBit i.toNat = true := by rw [MM.mem_els]; exact ⟨fun h => h.2, fun h => ⟨by omega, h⟩⟩
  have hpick : i.toNat ∈ MM.els x.toNat → pickOf (MM.els x.toNat) (rankOf (MM.els x.toNat) i) = some i.toNat := by
    intro hm
    obtain ⟨j, hj, hji⟩ := List.getElem_of_mem hm
    have hj' : (MM.els x.toNat)[j]? = some i.toNat := by rw [List.getElem?_eq_getElem hj, hji]
    have hr := MM.rank_at (MM.els_sorted _) hj'
    rw [Int.toNat_of_nonneg i0] at hr
    unfold pickOf
    rw [hr, if_pos (by omega), Int.toNat_natCast, hj']
  generalize rankOf (MM.els x.toNat) (i + 1) = n1 at *
  generalize rankOf (MM.els x.toNat) i = hh at *
  generalize lenOf (MM.els x.toNat) = L at *
  generalize pickOf (MM.els x.toNat) k = o at *
  replace CK := Lib.hid CK
  obtain ⟨K, b, hKb, hbt, hbf⟩ := rankTail x k L o CK (by cases o; exact .inr rfl; exact .inl ⟨_, rfl⟩) (fun h => hpn h) (fun n h => ⟨(hps n h).1, (hps n h).2.1⟩)
  have CK' := CK.out
  rw [hKb] at CK'
  replace CK' := Lib.hid CK'
  have CRK : b = true → ∀ w, Tab w → Calls Tryd.prog 19 #[.int .u64 x, .int .i64 K] w fun e w' => e = .returned (.int .i64 k) ∧ Below w.heap.size w w' := by
    intro hb w hT
    obtain ⟨hk0, _, n, hn, rfl⟩ := hbt hb
    exact CRk n (hps n hn).2.2 hk0 w hT
  replace CRK := Lib.hid CRK
  clear CK CRk hps hpn hKb
  replace Ch := Lib.hid Ch
  replace Cn := Lib.hid Cn
  replace C64 := Lib.hid C64
  replace C0 := Lib.hid C0
  replace CL := Lib.hid CL
  have hcase : (bits BinOp.and IntKind.u64 (x / 2 ^ i.toNat) 1 = 1 ∧ n1 = hh + 1 ∧ ∀ w, Tab w → Calls Tryd.prog 24 #[.int .u64 x, .int .i64 hh] w fun e w' => e = .returned (.tuple #[.int .i64 i, .bool true]) ∧ Below w.heap.size w w') ∨
      (bits BinOp.and IntKind.u64 (x / 2 ^ i.toNat) 1 = 0 ∧ n1 = hh) := by
    by_cases hb : x.toNat.testBit i.toNat = true
    · left
      rw [if_pos hb] at hbit
      rw [if_pos (hmem.2 hb)] at hsucc
      refine ⟨hbit, hsucc, fun w hT => ?_⟩
      have := CP w hT
      rw [hpick (hmem.2 hb)] at this
      have e : optV (some i.toNat) = .tuple #[.int .i64 i, .bool true] := by simp only [optV]; rw [Int.toNat_of_nonneg i0]
      rw [e] at this
      exact this
    · right
      rw [if_neg hb] at hbit
      rw [if_neg (fun h => hb (hmem.1 h))] at hsucc
      exact ⟨hbit, by omega⟩
  clear CP hbit hsucc hmem hpick
  have hkk : (b = true ∧ decide (0 ≤ k) = true ∧ decide (k < L) = true) ∨ (b = false ∧ decide (0 ≤ k) = false) ∨ (b = false ∧ decide (0 ≤ k) = true ∧ decide (k < L) = false) := by
    cases b
    · rcases hbf rfl with h | ⟨h, h'⟩
      · exact .inr (.inl ⟨rfl, by simp; omega⟩)
      · exact .inr (.inr ⟨rfl, by simpa using h, by simp; omega⟩)
    · obtain ⟨h, h', _⟩ := hbt rfl
      exact .inl ⟨rfl, by simpa using h, by simpa using h'⟩
  clear hbt hbf
  rcases hcase with ⟨hbit, hn1, CP⟩ | ⟨hbit, hn1⟩
  · replace CP := Lib.hid CP
    subst hn1
    rcases hkk with ⟨rfl, t1, t2⟩ | ⟨rfl, t1⟩ | ⟨rfl, t1, t2⟩
    · go_enter Tryd.func6, Tryd.ntmps6
      go_wp2_with fail
      refine (Ch.out _ hT).mono ?_
      rintro e w1 ⟨rfl, hB⟩
      go_wp2_with fail
      refine (Cn.out _ (hT.below hB hp)).mono ?_
      rintro e w2 ⟨rfl, hb⟩
      replace hB := hB.trans (hb.mono hB.size)
      clear hb
      go_wp2_with fail
      refine (CP.out _ (hT.below hB hp)).mono ?_
      rintro e w3 ⟨rfl, hb⟩
      replace hB := hB.trans (hb.mono hB.size)
      clear hb
      go_wp2_with fail
      refine (CK'.out _ (hT.below hB hp)).mono ?_
      rintro e w4 ⟨rfl, hb⟩
      replace hB := hB.trans (hb.mono hB.size)
      clear hb
      go_wp2_with fail
      refine (CL.out _ (hT.below hB hp)).mono ?_
      rintro e w5 ⟨rfl, hb⟩
      replace hB := hB.trans (hb.mono hB.size)
      clear hb
      go_wp2_with fail
      refine (CRK.out (by simp) _ (hT.below hB hp)).mono ?_
      rintro e w6 ⟨rfl, hb⟩
      replace hB := hB.trans (hb.mono hB.size)
      clear hb
      go_wp2_with fail
      refine (C64.out _ (hT.below hB hp)).mono ?_
      rintro e w7 ⟨rfl, hb⟩
      replace hB := hB.trans (hb.mono hB.size)
      clear hb
      go_wp2_with fail
      refine (CL.out _ (hT.below hB hp)).mono ?_
      rintro e w8 ⟨rfl, hb⟩
      replace hB := hB.trans (hb.mono hB.size)
      clear hb
      go_wp2_with fail
      refine (C0.out _ (hT.below hB hp)).mono ?_
      rintro e w9 ⟨rfl, hb⟩
      replace hB := hB.trans (hb.mono hB.size)
      clear hb
      go_wp2_with fail
      refine (awake_any _ (hT.below hB hp)).mono ?_
      rintro e w10 ⟨rfl, hb⟩
      replace hB := hB.trans (hb.mono hB.size)
      clear hb
      go_wp2
      go_ret
      exact ⟨rfl, hB⟩
    · go_enter Tryd.func6, Tryd.ntmps6
      go_wp2_with fail
      refine (Ch.out _ hT).mono ?_
      rintro e w1 ⟨rfl, hB⟩
      go_wp2_with fail
      refine (Cn.out _ (hT.below hB hp)).mono ?_
      rintro e w2 ⟨rfl, hb⟩
      replace hB := hB.trans (hb.mono hB.size)
      clear hb
      go_wp2_with fail
      refine (CP.out _ (hT.below hB hp)).mono ?_
      rintro e w3 ⟨rfl, hb⟩
      replace hB := hB.trans (hb.mono hB.size)
      clear hb
      go_wp2_with fail
      refine (CK'.out _ (hT.below hB hp)).mono ?_
      rintro e w4 ⟨rfl, hb⟩
      replace hB := hB.trans (hb.mono hB.size)
      clear hb
      go_wp2_with fail
      refine (C64.out _ (hT.below hB hp)).mono ?_
      rintro e w5 ⟨rfl, hb⟩
      replace hB := hB.trans (hb.mono hB.size)
      clear hb
      go_wp2_with fail
      refine (CL.out _ (hT.below hB hp)).mono ?_
      rintro e w6 ⟨rfl, hb⟩
      replace hB := hB.trans (hb.mono hB.size)
      clear hb
      go_wp2_with fail
      refine (C0.out _ (hT.below hB hp)).mono ?_
      rintro e w7 ⟨rfl, hb⟩
      replace hB := hB.trans (hb.mono hB.size)
      clear hb
      go_wp2_with fail
      refine (awake_any _ (hT.below hB hp)).mono ?_
      rintro e w8 ⟨rfl, hb⟩
      replace hB := hB.trans (hb.mono hB.size)
      clear hb
      go_wp2
      go_ret
      exact ⟨rfl, hB⟩
    · go_enter Tryd.func6, Tryd.ntmps6
      go_wp2_with fail
      refine (Ch.out _ hT).mono ?_
      rintro e w1 ⟨rfl, hB⟩
      go_wp2_with fail
      refine (Cn.out _ (hT.below hB hp)).mono ?_
      rintro e w2 ⟨rfl, hb⟩
      replace hB := hB.trans (hb.mono hB.size)
      clear hb
      go_wp2_with fail
      refine (CP.out _ (hT.below hB hp)).mono ?_
      rintro e w3 ⟨rfl, hb⟩
      replace hB := hB.trans (hb.mono hB.size)
      clear hb
      go_wp2_with fail
      refine (CK'.out _ (hT.below hB hp)).mono ?_
      rintro e w4 ⟨rfl, hb⟩
      replace hB := hB.trans (hb.mono hB.size)
      clear hb
      go_wp2_with fail
      refine (CL.out _ (hT.below hB hp)).mono ?_
      rintro e w5 ⟨rfl, hb⟩
      replace hB := hB.trans (hb.mono hB.size)
      clear hb
      go_wp2_with fail
      refine (C64.out _ (hT.below hB hp)).mono ?_
      rintro e w6 ⟨rfl, hb⟩
      replace hB := hB.trans (hb.mono hB.size)
      clear hb
      go_wp2_with fail
      refine (CL.out _ (hT.below hB hp)).mono ?_
      rintro e w7 ⟨rfl, hb⟩
      replace hB := hB.trans (hb.mono hB.size)
      clear hb
      go_wp2_with fail
      refine (C0.out _ (hT.below hB hp)).mono ?_
      rintro e w8 ⟨rfl, hb⟩
      replace hB := hB.trans (hb.mono hB.size)
      clear hb
      go_wp2_with fail
      refine (awake_any _ (hT.below hB hp)).mono ?_
      rintro e w9 ⟨rfl, hb⟩
      replace hB := hB.trans (hb.mono hB.size)
      clear hb
      go_wp2
      go_ret
      exact ⟨rfl, hB⟩
  · subst hn1
    rcases hkk with ⟨rfl, t1, t2⟩ | ⟨rfl, t1⟩ | ⟨rfl, t1, t2⟩
    · go_enter Tryd.func6, Tryd.ntmps6
      go_wp2_with fail
      refine (Ch.out _ hT).mono ?_
      rintro e w1 ⟨rfl, hB⟩
      go_wp2_with fail
      refine (Cn.out _ (hT.below hB hp)).mono ?_
      rintro e w2 ⟨rfl, hb⟩
      replace hB := hB.trans (hb.mono hB.size)
      clear hb
      go_wp2_with fail
      refine (CK'.out _ (hT.below hB hp)).mono ?_
      rintro e w3 ⟨rfl, hb⟩
      replace hB := hB.trans (hb.mono hB.size)
      clear hb
      go_wp2_with fail
      refine (CL.out _ (hT.below hB hp)).mono ?_
      rintro e w4 ⟨rfl, hb⟩
      replace hB := hB.trans (hb.mono hB.size)
      clear hb
      go_wp2_with fail
      refine (CRK.out (by simp) _ (hT.below hB hp)).mono ?_
      rintro e w5 ⟨rfl, hb⟩
      replace hB := hB.trans (hb.mono hB.size)
      clear hb
      go_wp2_with fail
      refine (C64.out _ (hT.below hB hp)).mono ?_
      rintro e w6 ⟨rfl, hb⟩
      replace hB := hB.trans (hb.mono hB.size)
      clear hb
      go_wp2_with fail
      refine (CL.out _ (hT.below hB hp)).mono ?_
      rintro e w7 ⟨rfl, hb⟩
      replace hB := hB.trans (hb.mono hB.size)
      clear hb
      go_wp2_with fail
      refine (C0.out _ (hT.below hB hp)).mono ?_
      rintro e w8 ⟨rfl, hb⟩
      replace hB := hB.trans (hb.mono hB.size)
      clear hb
      go_wp2_with fail
      refine (awake_any _ (hT.below hB hp)).mono ?_
      rintro e w9 ⟨rfl, hb⟩
      replace hB := hB.trans (hb.mono hB.size)
      clear hb
      go_wp2
      go_ret
      exact ⟨rfl, hB⟩
    · go_enter Tryd.func6, Tryd.ntmps6
      go_wp2_with fail
      refine (Ch.out _ hT).mono ?_
      rintro e w1 ⟨rfl, hB⟩
      go_wp2_with fail
      refine (Cn.out _ (hT.below hB hp)).mono ?_
      rintro e w2 ⟨rfl, hb⟩
      replace hB := hB.trans (hb.mono hB.size)
      clear hb
      go_wp2_with fail
      refine (CK'.out _ (hT.below hB hp)).mono ?_
      rintro e w3 ⟨rfl, hb⟩
      replace hB := hB.trans (hb.mono hB.size)
      clear hb
      go_wp2_with fail
      refine (C64.out _ (hT.below hB hp)).mono ?_
      rintro e w4 ⟨rfl, hb⟩
      replace hB := hB.trans (hb.mono hB.size)
      clear hb
      go_wp2_with fail
      refine (CL.out _ (hT.below hB hp)).mono ?_
      rintro e w5 ⟨rfl, hb⟩
      replace hB := hB.trans (hb.mono hB.size)
      clear hb
      go_wp2_with fail
      refine (C0.out _ (hT.below hB hp)).mono ?_
      rintro e w6 ⟨rfl, hb⟩
      replace hB := hB.trans (hb.mono hB.size)
      clear hb
      go_wp2_with fail
      refine (awake_any _ (hT.below hB hp)).mono ?_
      rintro e w7 ⟨rfl, hb⟩
      replace hB := hB.trans (hb.mono hB.size)
      clear hb
      go_wp2
      go_ret
      exact ⟨rfl, hB⟩
    · go_enter Tryd.func6, Tryd.ntmps6
      go_wp2_with fail
      refine (Ch.out _ hT).mono ?_
      rintro e w1 ⟨rfl, hB⟩
      go_wp2_with fail
      refine (Cn.out _ (hT.below hB hp)).mono ?_
      rintro e w2 ⟨rfl, hb⟩
      replace hB := hB.trans (hb.mono hB.size)
      clear hb
      go_wp2_with fail
      refine (CK'.out _ (hT.below hB hp)).mono ?_
      rintro e w3 ⟨rfl, hb⟩
      replace hB := hB.trans (hb.mono hB.size)
      clear hb
      go_wp2_with fail
      refine (CL.out _ (hT.below hB hp)).mono ?_
      rintro e w4 ⟨rfl, hb⟩
      replace hB := hB.trans (hb.mono hB.size)
      clear hb
      go_wp2_with fail
      refine (C64.out _ (hT.below hB hp)).mono ?_
      rintro e w5 ⟨rfl, hb⟩
      replace hB := hB.trans (hb.mono hB.size)
      clear hb
      go_wp2_with fail
      refine (CL.out _ (hT.below hB hp)).mono ?_
      rintro e w6 ⟨rfl, hb⟩
      replace hB := hB.trans (hb.mono hB.size)
      clear hb
      go_wp2_with fail
      refine (C0.out _ (hT.below hB hp)).mono ?_
      rintro e w7 ⟨rfl, hb⟩
      replace hB := hB.trans (hb.mono hB.size)
      clear hb
      go_wp2_with fail
      refine (awake_any _ (hT.below hB hp)).mono ?_
      rintro e w8 ⟨rfl, hb⟩
      replace hB := hB.trans (hb.mono hB.size)
      clear hb
      go_wp2
      go_ret
      exact ⟨rfl, hB⟩
end Go.Proofs.YtacfamelnaocmaaDoor
