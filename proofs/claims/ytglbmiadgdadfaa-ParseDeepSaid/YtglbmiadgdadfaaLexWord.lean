/- lex.Reg, lex.Kept, lex.Name. -/
import Derived.Test.YtglbmiadgdadfaaLexNum
namespace Go.Proofs.Ytglbmiadgdadfaa
open Go.RowKit

attribute [local go_sem] Oper.semAt_some
theorem ret_bool {a b : Bool} (h : a = b) : Ending.returned (.bool a) = .returned (.bool b) := by rw [h]
namespace LX
def kws : List (List UInt8) := [[116, 101, 115, 116], [105, 110, 105, 116], [116, 104, 114, 101, 97, 100], [115, 111, 109, 101], [110, 111, 110, 101], [97, 108, 108], [97, 99, 113], [114, 101, 108], [115, 119, 97, 112], [102, 101, 116, 99, 104], [99, 97, 115], [102, 101, 110, 99, 101], [108, 111, 97, 100, 115], [115, 116, 111, 114, 101, 115], [115, 107, 105, 112], [105, 102], [116, 114, 117, 101]]
def keptB (l : List UInt8) : Bool := kws.any fun k => l == k
def regOk (l : List UInt8) : Bool := match l with
  | [a, b] => decide (a.toNat = 114) && decide (48 ≤ b.toNat) && decide (b.toNat ≤ 55)
  | _ => false
def regN (l : List UInt8) : Nat := match l with
  | [_, b] => b.toNat - 48
  | _ => 0
/-- What Reg answers. -/
def regV (l : List UInt8) : Value := .tuple #[.int .u8 ((if regOk l then regN l else 0 : Nat) : Int), .bool (regOk l)]
theorem regV_no {l : List UInt8} (h : regOk l = false) : regV l = .tuple #[.int .u8 0, .bool false] := by unfold regV; rw [h]; rfl
theorem regV_yes {l : List UInt8} (h : regOk l = true) : regV l = .tuple #[.int .u8 (regN l : Int), .bool true] := by unfold regV; rw [h]; rfl
def nameB (l : List UInt8) : Bool := decide (l.length ≤ 16) && cons inW l && decide (clAt l 0 = 4) && !keptB l && !(l[0]? == some 114 && cons inN (l.drop 1))
theorem numOk_one (b : UInt8) : numOk [b] = digB b := by
  rw [Bool.eq_iff_iff, numOk_iff]
  simp [numVal]
  intro h
  have := digB_iff.1 h
  have := b.toNat_lt
  omega
theorem numVal_one (b : UInt8) : numVal [b] = b.toNat - 48 := by simp [numVal]
theorem two_of {l : List UInt8} (h : l.length = 2) : ∃ a b, l = [a, b] := by
  match l, h with
  | [a, b], _ => exact ⟨a, b, rfl⟩
end LX
theorem bsOf_extract (s : ByteArray) (i j : Nat) : bsOf (s.extract i j) = LX.cut (bsOf s) i j := by rw [← toList_bs, cut_extract]
theorem bsOf_from (s : ByteArray) (i : Nat) : bsOf (s.extract i s.size) = (bsOf s).drop i := by
  rw [bsOf_extract]; unfold LX.cut
  rw [List.take_of_length_le (by rw [List.length_drop, bsOf_length]; omega)]
theorem size_from (s : ByteArray) (i : Nat) : (s.extract i s.size).size ≤ s.size := by rw [← bsOf_length, bsOf_from, List.length_drop, bsOf_length]; omega

set_option maxRecDepth 100000 in
set_option maxHeartbeats 2000000 in
theorem reg_any (s : ByteArray) (w : World) (hm : s.size ≤ maxLen) :
    Calls Try.prog 63 #[.string s] w fun e w' => e = .returned (LX.regV (bsOf s)) ∧ Below w.heap.size w w' := by
  by_cases h2 : s.size = 2
  · obtain ⟨a, b, hab⟩ := LX.two_of (l := bsOf s) (by rw [bsOf_length]; exact h2)
    have h0 : 0 < s.size := by omega
    have ha : s[0]'h0 = a := by have := bs_get? s 0 (by omega); rw [hab] at this; simpa using this.symm
    have CN := num_any (s.extract 1 s.size) w (Nat.le_trans (size_from s 1) hm)
    rw [bsOf_from, hab] at CN
    replace CN := Lib.hid CN
    have t1 : ((s.size : Int) != 2) = false := by simp; omega
    have q0 : (1 : Int) ≤ (s.size : Int) := by omega
    rw [hab]
    replace h2 := Lib.hid h2
    by_cases h114 : a.toNat = 114
    · have t2 : (((s[0]'h0).toNat : Int) != 114) = false := by rw [ha, h114]; rfl
      cases hd : LX.digB b
      · have hno : LX.regOk [a, b] = false := by
          rw [Bool.eq_false_iff]; intro h
          have : (48 ≤ b.toNat) ∧ b.toNat ≤ 55 := by simp [LX.regOk] at h; omega
          rw [LX.digB_iff.2 (by omega)] at hd; cases hd
        rw [LX.regV_no hno]
        have hn : LX.numV ([a, b].drop 1) = .tuple #[.int .u8 0, .bool false] := LX.numV_no (by show LX.numOk [b] = false; rw [LX.numOk_one, hd])
        rw [hn] at CN
        clear hn hno hd ha hab h114
        go_enter Try.func63, Try.ntmps63
        go_wp2_with fail
        refine CN.out.mono ?_
        rintro e w1 ⟨rfl, h1⟩
        go_wp2
        go_ret2
        exact ⟨rfl, h1⟩
      · have hd' := LX.digB_iff.1 hd
        have hn : LX.numV ([a, b].drop 1) = .tuple #[.int .u8 ((b.toNat - 48 : Nat) : Int), .bool true] := by
          have := LX.numV_yes (l := [b]) (by rw [LX.numOk_one, hd])
          rw [LX.numVal_one] at this; exact this
        rw [hn] at CN
        by_cases h8 : b.toNat ≤ 55
        · have hyes : LX.regOk [a, b] = true := by simp [LX.regOk, h114]; omega
          rw [LX.regV_yes hyes, show LX.regN [a, b] = b.toNat - 48 from rfl]
          obtain ⟨v, hv⟩ : ∃ v, v = b.toNat - 48 := ⟨_, rfl⟩
          have t3 : decide (8 ≤ (v : Int)) = false := by simp; omega
          rw [← hv] at CN ⊢
          clear hn hyes hd ha hab h114 hv
          go_enter Try.func63, Try.ntmps63
          go_wp2_with fail
          refine CN.out.mono ?_
          rintro e w1 ⟨rfl, h1⟩
          go_wp2
          go_ret2
          exact ⟨rfl, h1⟩
        · have hno : LX.regOk [a, b] = false := by simp [LX.regOk]; omega
          rw [LX.regV_no hno]
          obtain ⟨v, hv⟩ : ∃ v, v = b.toNat - 48 := ⟨_, rfl⟩
          have t3 : decide (8 ≤ (v : Int)) = true := by simp; omega
          rw [← hv] at CN
          clear hn hno hd ha hab h114 hv
          go_enter Try.func63, Try.ntmps63
          go_wp2_with fail
          refine CN.out.mono ?_
          rintro e w1 ⟨rfl, h1⟩
          go_wp2
          go_ret2
          exact ⟨rfl, h1⟩
    · have hno : LX.regOk [a, b] = false := by simp [LX.regOk]; omega
      rw [LX.regV_no hno]
      have t2 : (((s[0]'h0).toNat : Int) != 114) = true := by rw [ha]; simp; omega
      clear hno ha hab h114 CN
      go_enter Try.func63, Try.ntmps63
      go_wp2
      go_ret2
      exact ⟨rfl, Below.refl _ _⟩
  · have hno : LX.regOk (bsOf s) = false := by
      rw [Bool.eq_false_iff]; intro h
      have hl := bsOf_length s
      revert h hl
      generalize bsOf s = l
      intro h hl
      match l, h with
      | [a, b], _ => simp at hl; omega
    rw [LX.regV_no hno]
    have t1 : ((s.size : Int) != 2) = true := by simp; omega
    clear hno h2
    go_enter Try.func63, Try.ntmps63
    go_wp2
    go_ret2
    exact ⟨rfl, Below.refl _ _⟩

set_option maxRecDepth 100000 in
set_option maxHeartbeats 4000000 in
theorem kept_any (s : ByteArray) (w : World) : Calls Try.prog 61 #[.string s] w fun e w' => e = .returned (.bool (LX.keptB (bsOf s))) ∧ w = w' := by
  have hk : LX.keptB (bsOf s) = LX.keptB s.toList := by rw [toList_bs]
  replace hk := Lib.hid hk
  go_enter Try.func61, Try.ntmps61
  go_wp2
  all_goals
    go_ret
    rw [hk.out]
    refine ⟨ret_bool ?_, rfl⟩
    first | (simp [LX.keptB, LX.kws, *]; done) | simp_all
end Go.Proofs.Ytglbmiadgdadfaa
