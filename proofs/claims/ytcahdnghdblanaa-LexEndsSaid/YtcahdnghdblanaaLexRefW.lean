/- The document's answers for layer 4: classes of bytes, Num, Reg, Kept. -/
import Derived.Test.YtcahdnghdblanaaLexWord
namespace Go.Proofs.Ytcahdnghdblanaa
open Go.RowKit

attribute [local go_sem] Oper.semAt_some
namespace LX
theorem cls_letter {z : Int} : cls z = 4 ↔ (97 ≤ z ∧ z ≤ 122) ∨ (65 ≤ z ∧ z ≤ 90) := by
  unfold cls; repeat' split
  all_goals omega
theorem cls_digit {z : Int} : cls z = 5 ↔ 48 ≤ z ∧ z ≤ 57 := by
  unfold cls; repeat' split
  all_goals omega
theorem cls_under {z : Int} : cls z = 6 ↔ z = 95 := by
  unfold cls; repeat' split
  all_goals omega
theorem inW_iff {z : Int} : inW (cls z) = (decide (cls z = 4) || decide (cls z = 5) || decide (z = 95)) := by
  unfold inW
  rw [Bool.eq_iff_iff]
  simp [cls_under]
end LX
set_option maxHeartbeats 1000000 in
theorem rLetter_any (z : Int) (w : World) : Calls Try.prog 38 #[.int .u8 z] w fun e w' => e = .returned (.bool (decide (LX.cls z = 4))) ∧ w = w' := by
  go_enter Try.func38, Try.ntmps38
  go_wp2
  all_goals
    go_ret
    refine ⟨ret_bool ?_, rfl⟩
    rw [Bool.eq_iff_iff]
    simp [LX.cls_letter]
    try omega
set_option maxHeartbeats 1000000 in
theorem rDigit_any (z : Int) (w : World) : Calls Try.prog 40 #[.int .u8 z] w fun e w' => e = .returned (.bool (decide (LX.cls z = 5))) ∧ w = w' := by
  go_enter Try.func40, Try.ntmps40
  go_wp2
  all_goals
    go_ret
    refine ⟨ret_bool ?_, rfl⟩
    rw [Bool.eq_iff_iff]
    simp [LX.cls_digit]
    try omega
set_option maxHeartbeats 1000000 in
theorem rGoes_any (z : Int) (w : World) : Calls Try.prog 39 #[.int .u8 z] w fun e w' => e = .returned (.bool (LX.inW (LX.cls z))) ∧ w = w' := by
  rw [LX.inW_iff]
  have CL := Lib.hid (fun W => rLetter_any z W)
  have CD := Lib.hid (fun W => rDigit_any z W)
  have h95 : decide (z = 95) = (z == 95) := by rw [Bool.eq_iff_iff]; simp
  rw [h95]
  clear h95
  generalize decide (LX.cls z = 4) = p at *
  generalize decide (LX.cls z = 5) = q at *
  cases p
  · go_enter Try.func39, Try.ntmps39
    go_wp2_with fail
    refine (CL.out _).mono ?_
    rintro e w1 ⟨rfl, rfl⟩
    go_wp2_with fail
    refine (CD.out _).mono ?_
    rintro e w1 ⟨rfl, rfl⟩
    cases q
    all_goals
      go_wp2
      go_ret
      exact ⟨rfl, rfl⟩
  · go_enter Try.func39, Try.ntmps39
    go_wp2_with fail
    refine (CL.out _).mono ?_
    rintro e w1 ⟨rfl, rfl⟩
    go_wp2
    go_ret
    exact ⟨rfl, rfl⟩

set_option maxRecDepth 100000 in
set_option maxHeartbeats 2000000 in
theorem rReg_any (s : ByteArray) (w : World) :
    Calls Try.prog 28 #[.string s] w fun e w' => e = .returned (LX.regV (bsOf s)) ∧ w = w' := by
  by_cases h2 : s.size = 2
  · obtain ⟨a, b, hab⟩ := LX.two_of (l := bsOf s) (by rw [bsOf_length]; exact h2)
    have h0 : 0 < s.size := by omega
    have h1 : 1 < s.size := by omega
    have ha : s[0]'h0 = a := by have := bs_get? s 0 h0; rw [hab] at this; simpa using this.symm
    have hb : s[1]'h1 = b := by have := bs_get? s 1 h1; rw [hab] at this; simpa using this.symm
    have t1 : ((s.size : Int) != 2) = false := by simp; omega
    have q0 : (0 : Int) < (s.size : Int) := by omega
    have q1 : (1 : Int) < (s.size : Int) := by omega
    have r1 := byte_range (s[1]'h1)
    rw [hab]
    replace h2 := Lib.hid h2
    by_cases h114 : a.toNat = 114
    · have t2 : (((s[0]'h0).toNat : Int) != 114) = false := by rw [ha, h114]; rfl
      by_cases hok : 48 ≤ b.toNat ∧ b.toNat ≤ 55
      · have hyes : LX.regOk [a, b] = true := by simp [LX.regOk, h114]; omega
        rw [LX.regV_yes hyes, show LX.regN [a, b] = b.toNat - 48 from rfl, ← hb] 
        rw [← hb] at hok
        have t3 : decide (((s[1]'h1).toNat : Int) < 48) = false := by simp; omega
        have t4 : decide ((55 : Int) < ((s[1]'h1).toNat : Int)) = false := by simp; omega
        have t5 : (48 : Int) ≤ ((s[1]'h1).toNat : Int) := by omega
        clear hyes ha hab h114 hb
        have hv : (((s[1]'h1).toNat - 48 : Nat) : Int) = ((s[1]'h1).toNat : Int) - 48 := by omega
        rw [hv]
        clear hv hok
        go_enter Try.func28, Try.ntmps28
        go_wp2
        go_ret2
        exact ⟨rfl, rfl⟩
      · have hno : LX.regOk [a, b] = false := by simp [LX.regOk]; omega
        rw [LX.regV_no hno]
        rw [← hb] at hok
        clear hno ha hab h114 hb
        by_cases h48 : (s[1]'h1).toNat < 48
        · have t3 : decide (((s[1]'h1).toNat : Int) < 48) = true := by simp; omega
          clear hok
          go_enter Try.func28, Try.ntmps28
          go_wp2
          go_ret2
          exact ⟨rfl, rfl⟩
        · have t3 : decide (((s[1]'h1).toNat : Int) < 48) = false := by simp; omega
          have t4 : decide ((55 : Int) < ((s[1]'h1).toNat : Int)) = true := by simp; omega
          clear hok h48
          go_enter Try.func28, Try.ntmps28
          go_wp2
          go_ret2
          exact ⟨rfl, rfl⟩
    · have hno : LX.regOk [a, b] = false := by simp [LX.regOk]; omega
      rw [LX.regV_no hno]
      have t2 : (((s[0]'h0).toNat : Int) != 114) = true := by rw [ha]; simp; omega
      clear hno ha hab h114 hb
      go_enter Try.func28, Try.ntmps28
      go_wp2
      go_ret2
      exact ⟨rfl, rfl⟩
  · have hno : LX.regOk (bsOf s) = false := by
      rw [Bool.eq_false_iff]; intro h
      have hl := bsOf_length s
      revert h hl
      generalize bsOf s = l
      intro h hl
      match l, h with
      | [a, b], _ => simp at hl; omega
    rw [LX.regV_no hno]
    have t1 : ((s.size : Int) != 2) = true := by simp; omega
    clear hno h2
    go_enter Try.func28, Try.ntmps28
    go_wp2
    go_ret2
    exact ⟨rfl, rfl⟩

set_option maxRecDepth 100000 in
set_option maxHeartbeats 2000000 in
theorem rNum_any (s : ByteArray) (w : World) (hm : s.size ≤ maxLen) :
    Calls Try.prog 29 #[.string s] w fun e w' => e = .returned (LX.numV (bsOf s)) ∧ w = w' := by
  unfold maxLen at hm
  have hlen := Lib.hid (bsOf_length s)
  have hgrow : Hid (∀ k (hk : k < s.size), ((bsOf s).take k).all LX.digB = true → LX.digB (s[k]'hk) = true → ((bsOf s).take (k + 1)).all LX.digB = true) := Lib.hid fun k hk h1 h2 => by
    rw [List.take_succ_eq_append_getElem (by rw [hlen.out]; exact hk), List.all_append, h1]
    simp only [List.all_cons, List.all_nil, Bool.and_true, Bool.true_and]
    exact h2
  have hnodig : Hid (∀ k (hk : k < s.size), LX.digB (s[k]'hk) = false → LX.numOk (bsOf s) = false) := Lib.hid fun k hk h => by
    rw [Bool.eq_false_iff]; intro ho
    have := List.all_eq_true.1 (LX.numOk_iff.1 ho).1 _ (List.getElem_mem (by rw [hlen.out]; exact hk))
    rw [show (bsOf s)[k]'(by rw [hlen.out]; exact hk) = s[k]'hk from rfl, h] at this
    cases this
  have hlong : Hid (3 < s.size → LX.numOk (bsOf s) = false) := Lib.hid fun h => by
    rw [Bool.eq_false_iff]; intro ho
    have := (LX.numOk_iff.1 ho).2.2.1
    rw [hlen.out] at this; omega
  have hle : Hid (∀ k, k ≤ s.size → k ≤ 3 → ((bsOf s).take k).all LX.digB = true → LX.numVal ((bsOf s).take k) ≤ 10 ^ k - 1) := Lib.hid fun k h1 h2 h3 => by
    have := LX.numVal_le k ((bsOf s).take k) h2 (by rw [List.length_take, hlen.out]; omega) h3
    rwa [List.take_take, Nat.min_self] at this
  have hstep : Hid (∀ k (hk : k < s.size), LX.digB (s[k]'hk) = true → LX.numVal ((bsOf s).take (k + 1)) = 10 * LX.numVal ((bsOf s).take k) + ((s[k]'hk).toNat - 48) ∧ 48 ≤ (s[k]'hk).toNat ∧ (s[k]'hk).toNat ≤ 57) := Lib.hid fun k hk h =>
    ⟨LX.numVal_take (by rw [hlen.out]; exact hk), LX.digB_iff.1 h⟩
  have htake := Lib.hid (show (bsOf s).take s.size = bsOf s by rw [← bsOf_length, List.take_length])
  go_enter Try.func29, Try.ntmps29
  go_wp2
  go_loop [4, 5] (fun n i => ∃ k v : Nat, k ≤ s.size ∧ k ≤ 3 ∧ v ≤ 999 ∧ i = .int .i64 (k : Int) ∧ n = .int .i64 (v : Int) ∧ Hid (v = LX.numVal ((bsOf s).take k)) ∧ Hid (((bsOf s).take k).all LX.digB = true)) (fun _ i => s.size - (intOf i).toNat)
  case atStart => exact ⟨0, 0, by omega, by omega, by omega, rfl, rfl, Lib.hid (by simp [LX.numVal]), Lib.hid (by simp)⟩
  case round =>
    obtain ⟨k, v, hk, hk3, hv, rfl, rfl, hvk, hall⟩ := hrel
    by_cases hlt : k < s.size
    · have hb := byte_range (s[k]'hlt)
      have CD := Lib.hid (fun W => rDigit_any ((s[k]'hlt).toNat : Int) W)
      have hdd : decide (LX.cls ((s[k]'hlt).toNat : Int) = 5) = LX.digB (s[k]'hlt) := by
        unfold LX.digB LX.inN; rw [Bool.eq_iff_iff]; simp
      rw [hdd] at CD
      clear hdd
      cases hd : LX.digB (s[k]'hlt)
      · rw [hd] at CD
        have hno := Lib.hid (hnodig.out k hlt hd)
        clear hd
        go_wp2_with fail
        refine (CD.out _).mono ?_
        rintro e w1 ⟨rfl, rfl⟩
        go_wp2
        go_ret2
        rw [LX.numV_no hno.out]
        exact ⟨rfl, rfl⟩
      · rw [hd] at CD
        by_cases h2 : 2 < k
        · have hno := Lib.hid (hlong.out (by omega))
          have t3 : decide (2 < (k : Int)) = true := by simp; omega
          clear hd
          go_wp2_with fail
          refine (CD.out _).mono ?_
          rintro e w1 ⟨rfl, rfl⟩
          go_wp2
          go_ret2
          rw [LX.numV_no hno.out]
          exact ⟨rfl, rfl⟩
        · have t3 : decide (2 < (k : Int)) = false := by simp; omega
          obtain ⟨a1, a3, a4⟩ := hstep.out k hlt hd
          have hv99 : v ≤ 99 := by
            have := hle.out k hk hk3 hall.out
            rw [← hvk.out] at this
            have h4 : 10 ^ k - 1 ≤ 99 := by
              have : k = 0 ∨ k = 1 ∨ k = 2 := by omega
              rcases this with rfl | rfl | rfl <;> simp
            omega
          have b3 : (48 : Int) ≤ ((s[k]'hlt).toNat : Int) := by omega
          have b4 : ((s[k]'hlt).toNat : Int) ≤ 57 := by omega
          have hall2 := Lib.hid (hgrow.out k hlt hall.out hd)
          rw [← hvk.out] at a1
          replace a1 := Lib.hid a1
          clear hd
          go_wp2_with fail
          refine (CD.out _).mono ?_
          rintro e w1 ⟨rfl, rfl⟩
          go_wp2
          go_round
          case rel =>
            refine ⟨k + 1, 10 * v + ((s[k]'hlt).toNat - 48), by omega, by omega, by omega, by go_num, ?_, Lib.hid a1.out.symm, hall2⟩
            congr 1
            omega
          case measure => simp [intOf]; omega
    · obtain rfl : k = s.size := by omega
      rw [htake.out] at hvk hall
      clear hlt
      by_cases h0 : s.size = 0
      · have hno : LX.numOk (bsOf s) = false := by
          rw [Bool.eq_false_iff]; intro ho
          have := (LX.numOk_iff.1 ho).2.1
          rw [hlen.out] at this; omega
        have hs : s.toList = [] := by rw [toList_bs]; exact List.eq_nil_of_length_eq_zero (by rw [hlen.out]; exact h0)
        replace h0 := Lib.hid h0
        replace hno := Lib.hid hno
        go_wp2
        go_ret2
        rw [LX.numV_no hno.out]
        exact ⟨rfl, rfl⟩
      · have hpos : 0 < s.size := by omega
        have q0 : (0 : Int) < (s.size : Int) := by omega
        have hs : s.toList.isEmpty = false := by
          rw [List.isEmpty_eq_false_iff, toList_bs]
          intro h
          have := congrArg List.length h
          rw [hlen.out, List.length_nil] at this; omega
        have g0 := bs_get? s 0 hpos
        by_cases hz : (s[0]'hpos).toNat = 48 ∧ 1 < s.size
        · have hno : LX.numOk (bsOf s) = false := by
            rw [Bool.eq_false_iff]; intro ho
            exact (LX.numOk_iff.1 ho).2.2.2.1 ⟨by rw [g0]; exact congrArg some (UInt8.toNat.inj hz.1), by rw [hlen.out]; exact hz.2⟩
          have t4 : (((s[0]'hpos).toNat : Int) == 48) = true := by rw [hz.1]; rfl
          have t5 : decide ((1 : Int) < (s.size : Int)) = true := by simp; omega
          replace hno := Lib.hid hno
          clear g0 hz
          go_wp2
          go_ret2
          rw [LX.numV_no hno.out]
          exact ⟨rfl, rfl⟩
        · have hnz : ¬ ((bsOf s)[0]? = some 48 ∧ 1 < (bsOf s).length) := by
            rintro ⟨h1, h2⟩
            rw [g0] at h1
            rw [hlen.out] at h2
            exact hz ⟨by rw [Option.some.inj h1]; rfl, h2⟩
          have two : (((s[0]'hpos).toNat : Int) == 48) = false ∨ ((((s[0]'hpos).toNat : Int) == 48) = true ∧ decide ((1 : Int) < (s.size : Int)) = false) := by
            by_cases h48 : (s[0]'hpos).toNat = 48
            · have hn1 : ¬ 1 < s.size := fun h => hz ⟨h48, h⟩
              have hle1 : (s.size : Int) ≤ 1 := by omega
              exact .inr ⟨by rw [h48]; rfl, by simpa using hle1⟩
            · exact .inl (by rw [beq_eq_false_iff_ne]; omega)
          clear hz
          by_cases hq : v ≤ 255
          · have hyes := Lib.hid (LX.numV_yes (l := bsOf s) (LX.numOk_iff.2 ⟨hall.out, by rw [hlen.out]; omega, by rw [hlen.out]; omega, hnz, by rw [← hvk.out]; exact hq⟩))
            have t6 : decide (255 < (v : Int)) = false := by simp; omega
            clear g0 hnz
            rcases two with t4 | ⟨t4, t5⟩
            all_goals
              go_wp2
              go_ret2
              rw [hyes.out, ← hvk.out]
              exact ⟨rfl, rfl⟩
          · have hno := Lib.hid (show LX.numOk (bsOf s) = false by
              rw [Bool.eq_false_iff]; intro ho
              have := (LX.numOk_iff.1 ho).2.2.2.2
              rw [← hvk.out] at this
              omega)
            have t6 : decide (255 < (v : Int)) = true := by simp; omega
            clear g0 hnz
            rcases two with t4 | ⟨t4, t5⟩
            all_goals
              go_wp2
              go_ret2
              rw [LX.numV_no hno.out]
              exact ⟨rfl, rfl⟩
end Go.Proofs.Ytcahdnghdblanaa
