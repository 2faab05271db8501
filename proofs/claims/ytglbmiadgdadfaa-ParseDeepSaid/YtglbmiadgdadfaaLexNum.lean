/- lex.Num, and the document's. -/
import Derived.Test.YtglbmiadgdadfaaLexCons
namespace Go.Proofs.Ytglbmiadgdadfaa
open Go.RowKit

attribute [local go_sem] Oper.semAt_some
namespace LX
def digB (b : UInt8) : Bool := inN (cls (b.toNat : Int))
theorem digB_iff {b : UInt8} : digB b = true ↔ 48 ≤ b.toNat ∧ b.toNat ≤ 57 := by
  have := b.toNat_lt
  unfold digB inN cls
  rw [beq_iff_eq]
  constructor
  · intro h
    repeat' split at h
    all_goals omega
  · intro h
    rw [if_neg (by omega), if_pos (by omega)]
theorem numVal_snoc (l : List UInt8) (b : UInt8) : numVal (l ++ [b]) = 10 * numVal l + (b.toNat - 48) := by unfold numVal; rw [List.foldl_append]; rfl
theorem numVal_le : ∀ (k : Nat) (l : List UInt8), k ≤ 3 → k ≤ l.length → l.all digB = true → numVal (l.take k) ≤ 10 ^ k - 1
  | 0, l, _, _, _ => by simp [numVal]
  | k + 1, l, hk, hl, ha => by
    have ih := numVal_le k l (by omega) (by omega) ha
    rw [List.take_succ_eq_append_getElem (by omega), numVal_snoc]
    have hb := digB_iff.1 (List.all_eq_true.1 ha l[k] (List.getElem_mem _))
    have : k = 0 ∨ k = 1 ∨ k = 2 := by omega
    rcases this with rfl | rfl | rfl <;> simp at ih ⊢ <;> omega
theorem numVal_take {l : List UInt8} {k : Nat} (h : k < l.length) : numVal (l.take (k + 1)) = 10 * numVal (l.take k) + ((l[k]'h).toNat - 48) := by
  rw [List.take_succ_eq_append_getElem h, numVal_snoc]
theorem numOk_iff {l : List UInt8} : numOk l = true ↔ l.all digB = true ∧ 1 ≤ l.length ∧ l.length ≤ 3 ∧ ¬ (l[0]? = some 48 ∧ 1 < l.length) ∧ numVal l ≤ 255 := by
  unfold numOk
  have he : l.all (fun b => inN (cls (b.toNat : Int))) = l.all digB := rfl
  rw [he, List.head?_eq_getElem?]
  simp only [Bool.and_eq_true, decide_eq_true_eq, Bool.not_eq_true', Bool.and_eq_false_iff, beq_eq_false_iff_ne, ne_eq, decide_eq_false_iff_not]
  constructor
  · rintro ⟨⟨⟨⟨h1, h2⟩, h3⟩, h4⟩, h5⟩
    exact ⟨h1, h2, h3, fun h => by rcases h4 with h4 | h4; exact h4 h.1; exact h4 h.2, h5⟩
  · rintro ⟨h1, h2, h3, h4, h5⟩
    refine ⟨⟨⟨⟨h1, h2⟩, h3⟩, ?_⟩, h5⟩
    by_cases h : l[0]? = some 48
    · exact .inr fun h' => h4 ⟨h, h'⟩
    · exact .inl h
theorem consN_iff {l : List UInt8} : cons inN l = true ↔ l.all digB = true ∧ 1 ≤ l.length := by
  unfold cons
  have he : l.all (fun b => inN (cls (b.toNat : Int))) = l.all digB := rfl
  rw [he, Bool.and_eq_true]
  cases l <;> simp
/-- What Num answers. -/
def numV (l : List UInt8) : Value := .tuple #[.int .u8 ((if numOk l then numVal l else 0 : Nat) : Int), .bool (numOk l)]
theorem numV_no {l : List UInt8} (h : numOk l = false) : numV l = .tuple #[.int .u8 0, .bool false] := by unfold numV; rw [h]; rfl
theorem numV_yes {l : List UInt8} (h : numOk l = true) : numV l = .tuple #[.int .u8 (numVal l : Int), .bool true] := by unfold numV; rw [h]; rfl
end LX
theorem bs_get? (s : ByteArray) (k : Nat) (h : k < s.size) : (bsOf s)[k]? = some s[k] := by
  rw [List.getElem?_eq_getElem (by rw [bsOf_length]; exact h)]; rfl
theorem toList_bs (s : ByteArray) : s.toList = bsOf s := by rw [ByteArray.toList_eq]; rfl

set_option maxRecDepth 100000 in
set_option maxHeartbeats 2000000 in
theorem num_any (s : ByteArray) (w : World) (hm : s.size ≤ maxLen) :
    Calls Try.prog 71 #[.string s] w fun e w' => e = .returned (LX.numV (bsOf s)) ∧ Below w.heap.size w w' := by
  have CN := Lib.hid (consNumber_any s w hm)
  by_cases h3 : 3 < s.size
  · have hno : LX.numOk (bsOf s) = false := by
      rw [Bool.eq_false_iff]; intro h; have := (LX.numOk_iff.1 h).2.2.1; rw [bsOf_length] at this; omega
    rw [LX.numV_no hno]
    have t1 : decide (3 < (s.size : Int)) = true := by simp; omega
    go_enter Try.func71, Try.ntmps71
    go_wp2
    go_ret2
    exact ⟨rfl, Below.refl _ _⟩
  have t1 : decide (3 < (s.size : Int)) = false := by simp; omega
  cases hc : LX.cons LX.inN (bsOf s)
  · have hno : LX.numOk (bsOf s) = false := by
      rw [Bool.eq_false_iff]; intro h; have := LX.numOk_iff.1 h; rw [LX.consN_iff.2 ⟨this.1, this.2.1⟩] at hc; cases hc
    rw [LX.numV_no hno]
    rw [hc] at CN
    clear hno hc
    go_enter Try.func71, Try.ntmps71
    go_wp2_with fail
    refine CN.out.mono ?_
    rintro e w1 ⟨rfl, h1⟩
    go_wp2
    go_ret2
    exact ⟨rfl, h1⟩
  rw [hc] at CN
  have hal := LX.consN_iff.1 hc
  have hsz := hal.2
  rw [bsOf_length] at hsz
  have hal := Lib.hid hal.1
  clear hc
  have h0 : 0 < s.size := hsz
  have g0 := Lib.hid (bs_get? s 0 h0)
  have hlen := Lib.hid (bsOf_length s)
  by_cases hz : (s[0]'h0).toNat = 48 ∧ 1 < s.size
  · have hno : LX.numOk (bsOf s) = false := by
      rw [Bool.eq_false_iff]; intro h
      refine (LX.numOk_iff.1 h).2.2.2.1 ⟨?_, by rw [bsOf_length]; exact hz.2⟩
      rw [g0.out]
      exact congrArg some (UInt8.toNat.inj hz.1)
    rw [LX.numV_no hno]
    clear hno
    have t2 : (((s[0]'h0).toNat : Int) == 48) = true := by rw [hz.1]; rfl
    have t3 : (s.toList == [48]) = false := by
      rw [beq_eq_false_iff_ne]
      intro h
      have := congrArg List.length h
      rw [toList_bs, bsOf_length] at this
      simp at this; omega
    have t4 : (s.toList != [48]) = true := by simp [bne, t3]
    replace hz := Lib.hid hz
    go_enter Try.func71, Try.ntmps71
    go_wp2_with fail
    refine CN.out.mono ?_
    rintro e w1 ⟨rfl, h1⟩
    go_wp2
    go_ret2
    exact ⟨rfl, h1⟩
  have hnz : ¬ ((bsOf s)[0]? = some 48 ∧ 1 < (bsOf s).length) := by
    rintro ⟨h1, h2⟩
    rw [g0.out] at h1
    rw [hlen.out] at h2
    exact hz ⟨by rw [Option.some.inj h1]; rfl, h2⟩
  have hval := LX.numVal_le s.size (bsOf s) (by omega) (by rw [bsOf_length]; omega) hal.out
  rw [show (bsOf s).take s.size = bsOf s by rw [← bsOf_length, List.take_length]] at hval
  have hv999 : LX.numVal (bsOf s) ≤ 999 := by
    have : s.size = 1 ∨ s.size = 2 ∨ s.size = 3 := by omega
    rcases this with h | h | h <;> rw [h] at hval <;> simp at hval <;> omega
  have hok : LX.numOk (bsOf s) = decide (LX.numVal (bsOf s) ≤ 255) := by
    rw [Bool.eq_iff_iff, LX.numOk_iff, decide_eq_true_iff]
    exact ⟨fun h => h.2.2.2.2, fun h => ⟨hal.out, by rw [bsOf_length]; omega, by rw [bsOf_length]; omega, hnz, h⟩⟩
  have hstep := Lib.hid (fun k (hk : k < s.size) => (by
    have h1 := LX.numVal_take (l := bsOf s) (k := k) (by rw [bsOf_length]; exact hk)
    have h2 := LX.numVal_le k (bsOf s) (by omega) (by rw [bsOf_length]; omega) hal.out
    have h3 := LX.digB_iff.1 (List.all_eq_true.1 hal.out _ (List.getElem_mem (by rw [bsOf_length]; exact hk)))
    have h4 : 10 ^ k - 1 ≤ 99 := by
      have : k = 0 ∨ k = 1 ∨ k = 2 := by omega
      rcases this with rfl | rfl | rfl <;> simp
    exact ⟨h1, by omega, h3⟩ : LX.numVal ((bsOf s).take (k + 1)) = 10 * LX.numVal ((bsOf s).take k) + ((s[k]'hk).toNat - 48) ∧ LX.numVal ((bsOf s).take k) ≤ 99 ∧ 48 ≤ (s[k]'hk).toNat ∧ (s[k]'hk).toNat ≤ 57))
  have htake := Lib.hid (show (bsOf s).take s.size = bsOf s by rw [← bsOf_length, List.take_length])
  have hV : (LX.numVal (bsOf s) ≤ 255 → LX.numV (bsOf s) = .tuple #[.int .u8 (LX.numVal (bsOf s) : Int), .bool true]) ∧ (255 < LX.numVal (bsOf s) → LX.numV (bsOf s) = .tuple #[.int .u8 0, .bool false]) :=
    ⟨fun h => LX.numV_yes (by rw [hok]; simpa using h), fun h => LX.numV_no (by rw [hok]; simpa using h)⟩
  replace hV := Lib.hid hV
  clear hok hval hnz
  have hmm : s.size ≤ 3 := by omega
  have two : (((s[0]'h0).toNat : Int) == 48) = false ∨ ((((s[0]'h0).toNat : Int) == 48) = true ∧ (s.toList == [48]) = true) := by
    by_cases h48 : (s[0]'h0).toNat = 48
    · refine .inr ⟨by rw [h48]; rfl, ?_⟩
      have h1 : s.size = 1 := by omega
      have : s.toList = [48] := by
        rw [toList_bs]
        apply List.ext_getElem?
        intro i
        rcases Nat.eq_zero_or_pos i with rfl | hi
        · rw [g0.out]; exact congrArg some (UInt8.toNat.inj h48)
        · rw [List.getElem?_eq_none (by rw [hlen.out]; omega), List.getElem?_eq_none (by simp; omega)]
      rw [this]; rfl
    · refine .inl ?_
      rw [beq_eq_false_iff_ne]; omega
  have hv0 := Lib.hid (show LX.numVal ((bsOf s).take 0) = 0 by simp [LX.numVal])
  clear hz g0 hal hlen
  rcases two with t2 | ⟨t2, t3⟩
  all_goals
    go_enter Try.func71, Try.ntmps71
    go_wp2_with fail
    refine CN.out.mono ?_
    rintro e w1 ⟨rfl, h1⟩
    replace h1 := Lib.hid h1
    go_wp2
    go_loop [4, 25] (fun n i => ∃ k v : Nat, k ≤ s.size ∧ v ≤ 999 ∧ i = .int .i64 (k : Int) ∧ n = .int .i64 (v : Int) ∧ Hid (v = LX.numVal ((bsOf s).take k))) (fun _ i => s.size - (intOf i).toNat)
    case atStart => exact ⟨0, 0, by omega, by omega, rfl, rfl, Lib.hid hv0.out.symm⟩
    case round =>
      obtain ⟨k, v, hk, hv, rfl, rfl, hvk⟩ := hrel
      by_cases hlt : k < s.size
      · obtain ⟨a1, a2, a3, a4⟩ := hstep.out k hlt
        rw [← hvk.out] at a1 a2
        have hb := byte_range (s[k]'hlt)
        have a1 := Lib.hid a1
        have b3 : (48 : Int) ≤ ((s[k]'hlt).toNat : Int) := by omega
        have b4 : ((s[k]'hlt).toNat : Int) ≤ 57 := by omega
        have t5 : decide (k < s.size) = true := by simpa using hlt
        go_wp2
        go_round
        case rel =>
          refine ⟨k + 1, 10 * v + ((s[k]'hlt).toNat - 48), by omega, by omega, by go_num, ?_, Lib.hid a1.out.symm⟩
          congr 1
          omega
        case measure => simp [intOf]; omega
      · obtain rfl : k = s.size := by omega
        rw [htake.out] at hvk
        have t5 : decide (s.size < s.size) = false := by simp
        by_cases hq : v ≤ 255
        · have t6 : decide (255 < (v : Int)) = false := by simp; omega
          go_wp2
          go_ret2
          rw [hV.out.1 (by rw [← hvk.out]; exact hq), ← hvk.out]
          exact ⟨rfl, h1.out⟩
        · have t6 : decide (255 < (v : Int)) = true := by simp; omega
          go_wp2
          go_ret2
          rw [hV.out.2 (by rw [← hvk.out]; omega)]
          exact ⟨rfl, h1.out⟩
end Go.Proofs.Ytglbmiadgdadfaa
