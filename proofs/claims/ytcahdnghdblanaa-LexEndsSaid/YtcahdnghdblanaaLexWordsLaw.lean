/- LexWords. -/
import Derived.Test.YtcahdnghdblanaaLexAwake
namespace Go.Proofs.Ytcahdnghdblanaa
open Go.RowKit Go.Shelf

attribute [local go_sem] Oper.semAt_some
theorem regV_form (l : List UInt8) : ∃ a b, LX.regV l = .tuple #[.int .u8 a, .bool b] := ⟨_, _, rfl⟩
theorem numV_form (l : List UInt8) : ∃ a b, LX.numV l = .tuple #[.int .u8 a, .bool b] := ⟨_, _, rfl⟩

set_option maxRecDepth 100000 in
set_option maxHeartbeats 4000000 in
theorem words_any (s : ByteArray) (w : World) (hm : s.size ≤ maxLen) : Calls Try.prog 13 #[.string s] w fun e w' => e = .returned (.bool true) ∧ Below w.heap.size w w' := by
  obtain ⟨a, b, hr⟩ := regV_form (bsOf s)
  obtain ⟨c, d, hn⟩ := numV_form (bsOf s)
  have R := Lib.hid (fun W => hr ▸ reg_any s W hm)
  have R' := Lib.hid (fun W => hr ▸ rReg_any s W)
  have N := Lib.hid (fun W => hn ▸ num_any s W hm)
  have N' := Lib.hid (fun W => hn ▸ rNum_any s W hm)
  have K := Lib.hid (fun W => kept_any s W)
  have K' := Lib.hid (fun W => rKept_any s W)
  have M := Lib.hid (fun W => name_any s W hm)
  have M' := Lib.hid (fun W => rName_any s W hm)
  generalize LX.keptB (bsOf s) = k at *
  generalize LX.nameB (bsOf s) = m at *
  clear hr hn
  go_enter Try.func13, Try.ntmps13
  go_wp2_with fail
  refine (R.out w).mono ?_
  rintro e w1 ⟨rfl, hB⟩
  replace hB := Lib.hid hB
  go_wp2_with fail
  refine (R'.out w1).mono ?_
  rintro e w2 ⟨rfl, rfl⟩
  go_wp2_with fail
  refine (N.out w1).mono ?_
  rintro e w2 ⟨rfl, hb⟩
  replace hB := Lib.hid (hB.out.trans (hb.mono hB.out.size))
  clear hb
  go_wp2_with fail
  refine (N'.out w2).mono ?_
  rintro e w3 ⟨rfl, rfl⟩
  go_wp2_with fail
  refine (K.out w2).mono ?_
  rintro e w3 ⟨rfl, rfl⟩
  go_wp2_with fail
  refine (K'.out w2).mono ?_
  rintro e w3 ⟨rfl, hb⟩
  replace hB := Lib.hid (hB.out.trans (hb.mono hB.out.size))
  clear hb
  go_wp2_with fail
  refine (M.out w3).mono ?_
  rintro e w4 ⟨rfl, hb⟩
  replace hB := Lib.hid (hB.out.trans (hb.mono hB.out.size))
  clear hb
  go_wp2_with fail
  refine (M'.out w4).mono ?_
  rintro e w5 ⟨rfl, hb⟩
  replace hB := Lib.hid (hB.out.trans (hb.mono hB.out.size))
  clear hb
  go_wp2
  go_ret
  exact ⟨rfl, hB.out⟩

set_option maxRecDepth 100000 in
theorem words_law (s : ByteArray) (w : World) : Calls Try.prog 4 #[.string s] w fun e w' => e = .returned (.bool true) ∧ Below w.heap.size w w' := by
  by_cases h : 5000 < s.size
  · have t1 : decide (5000 < (s.size : Int)) = true := by simp; omega
    go_enter Try.func4, Try.ntmps4
    go_wp2_with fail
    refine (awake_any w).mono ?_
    rintro e w1 ⟨rfl, hb⟩
    go_wp2
    go_ret
    exact ⟨rfl, hb⟩
  · have t1 : decide (5000 < (s.size : Int)) = false := by simp; omega
    go_enter Try.func4, Try.ntmps4
    go_wp2_with fail
    refine (words_any s w (by unfold maxLen; omega)).mono ?_
    rintro e w1 ⟨rfl, hb⟩
    go_wp2_with fail
    refine (awake_any w1).mono ?_
    rintro e w2 ⟨rfl, hb2⟩
    go_wp2
    go_ret
    exact ⟨rfl, hb.trans (hb2.mono hb.size)⟩
end Go.Proofs.Ytcahdnghdblanaa
