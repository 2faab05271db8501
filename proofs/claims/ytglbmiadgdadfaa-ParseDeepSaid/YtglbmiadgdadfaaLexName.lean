/- lex.Name. -/
import Derived.Test.YtglbmiadgdadfaaLexWord
namespace Go.Proofs.Ytglbmiadgdadfaa
open Go.RowKit

attribute [local go_sem] Oper.semAt_some

set_option maxRecDepth 100000 in
set_option maxHeartbeats 4000000 in
theorem name_any (s : ByteArray) (w : World) (hm : s.size ≤ maxLen) :
    Calls Try.prog 62 #[.string s] w fun e w' => e = .returned (.bool (LX.nameB (bsOf s))) ∧ Below w.heap.size w w' := by
  have CW := Lib.hid (consWord_any s w hm)
  have CK := Lib.hid (fun W => kept_any s W)
  by_cases h16 : 16 < s.size
  · have hno : LX.nameB (bsOf s) = false := by
      unfold LX.nameB
      rw [bsOf_length, show decide (s.size ≤ 16) = false by simp; omega]
      rfl
    have t1 : decide (16 < (s.size : Int)) = true := by simp; omega
    rw [hno]
    clear hno h16 CW CK
    go_enter Try.func62, Try.ntmps62
    go_wp2
    go_ret
    exact ⟨rfl, Below.refl _ _⟩
  have t1 : decide (16 < (s.size : Int)) = false := by simp; omega
  have n1 : decide ((bsOf s).length ≤ 16) = true := by rw [bsOf_length]; simp; omega
  cases hc : LX.cons LX.inW (bsOf s)
  · have hno : LX.nameB (bsOf s) = false := by
      unfold LX.nameB
      rw [hc]; simp
    rw [hno]
    rw [hc] at CW
    clear hno hc h16 CK n1
    go_enter Try.func62, Try.ntmps62
    go_wp2_with fail
    refine CW.out.mono ?_
    rintro e w1 ⟨rfl, h1⟩
    go_wp2
    go_ret
    exact ⟨rfl, h1⟩
  have hsz : 0 < s.size := by
    have := LX.cons_run LX.inW (bsOf s)
    rw [hc, bsOf_length] at this
    simp at this; omega
  rw [hc] at CW
  have hcl := clAt_get s 0 hsz
  have hb := byte_range (s[0]'hsz)
  have q0 : (0 : Int) < (s.size : Int) := by omega
  by_cases h4 : LX.clAt (bsOf s) 0 = 4
  · have t2 : (LX.clAt (bsOf s) 0 != 4) = false := by rw [h4]; rfl
    have n2 : decide (LX.clAt (bsOf s) 0 = 4) = true := by simpa using h4
    cases hk : LX.keptB (bsOf s)
    · rw [hk] at CK
      have hn : LX.nameB (bsOf s) = !((bsOf s)[0]? == some 114 && LX.cons LX.inN ((bsOf s).drop 1)) := by
        unfold LX.nameB
        rw [n1, hc, n2, hk]; rfl
      rw [hn]
      rw [bs_get? s 0 hsz]
      have CN := consNumber_any (s.extract 1 s.size)
      rw [bsOf_from] at CN
      generalize LX.cons LX.inN ((bsOf s).drop 1) = q at *
      replace CN := Lib.hid (fun W => CN W (Nat.le_trans (size_from s 1) hm))
      have q1 : (1 : Int) ≤ (s.size : Int) := by omega
      have hcl' := Lib.hid hcl
      clear hn n1 n2 hk hc h16
      by_cases h114 : (s[0]'hsz).toNat = 114
      · have t3 : (((s[0]'hsz).toNat : Int) != 114) = false := by rw [h114]; rfl
        have e3 : (some (s[0]'hsz) == some 114) = true := by rw [show s[0]'hsz = 114 from UInt8.toNat.inj h114]; rfl
        rw [e3, Bool.true_and]
        clear e3 h114
        replace h4 := Lib.hid h4
        go_enter Try.func62, Try.ntmps62
        go_wp2_with fail
        refine CW.out.mono ?_
        rintro e w1 ⟨rfl, h1⟩
        go_wp2_with fail
        refine (classOf_any _ hb.1 hb.2 _).mono ?_
        rintro e w2 ⟨rfl, rfl⟩
        go_wp2_with fail
        refine (CK.out _).mono ?_
        rintro e w2 ⟨rfl, rfl⟩
        go_wp2_with fail
        refine (CN.out _).mono ?_
        rintro e w2 ⟨rfl, h2⟩
        go_wp2
        go_ret
        exact ⟨rfl, h1.trans (h2.mono h1.size)⟩
      · have t3 : (((s[0]'hsz).toNat : Int) != 114) = true := by simp; omega
        have e3 : (some (s[0]'hsz) == some 114) = false := by
          rw [beq_eq_false_iff_ne]; intro h; exact h114 (by rw [Option.some.inj h]; rfl)
        rw [e3, Bool.false_and, Bool.not_false]
        clear e3 h114 CN
        replace h4 := Lib.hid h4
        go_enter Try.func62, Try.ntmps62
        go_wp2_with fail
        refine CW.out.mono ?_
        rintro e w1 ⟨rfl, h1⟩
        go_wp2_with fail
        refine (classOf_any _ hb.1 hb.2 _).mono ?_
        rintro e w2 ⟨rfl, rfl⟩
        go_wp2_with fail
        refine (CK.out _).mono ?_
        rintro e w2 ⟨rfl, rfl⟩
        go_wp2
        go_ret
        exact ⟨rfl, h1⟩
    · have hno : LX.nameB (bsOf s) = false := by
        unfold LX.nameB
        rw [hk]; simp
      rw [hno]
      rw [hk] at CK
      clear hno hk hc h16 n1 n2
      replace h4 := Lib.hid h4
      go_enter Try.func62, Try.ntmps62
      go_wp2_with fail
      refine CW.out.mono ?_
      rintro e w1 ⟨rfl, h1⟩
      go_wp2_with fail
      refine (classOf_any _ hb.1 hb.2 _).mono ?_
      rintro e w2 ⟨rfl, rfl⟩
      go_wp2_with fail
      refine (CK.out _).mono ?_
      rintro e w2 ⟨rfl, rfl⟩
      go_wp2
      go_ret
      exact ⟨rfl, h1⟩
  · have t2 : (LX.clAt (bsOf s) 0 != 4) = true := by simpa using h4
    have hno : LX.nameB (bsOf s) = false := by
      unfold LX.nameB
      rw [show decide (LX.clAt (bsOf s) 0 = 4) = false by simpa using h4]; simp
    rw [hno]
    clear hno hc h16 n1 h4
    go_enter Try.func62, Try.ntmps62
    go_wp2_with fail
    refine CW.out.mono ?_
    rintro e w1 ⟨rfl, h1⟩
    go_wp2_with fail
    refine (classOf_any _ hb.1 hb.2 _).mono ?_
    rintro e w2 ⟨rfl, rfl⟩
    go_wp2
    go_ret
    exact ⟨rfl, h1⟩
end Go.Proofs.Ytglbmiadgdadfaa
