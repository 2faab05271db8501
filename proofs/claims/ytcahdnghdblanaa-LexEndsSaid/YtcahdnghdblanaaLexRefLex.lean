/- The document's Lex: the walk. -/
import Derived.Test.YtcahdnghdblanaaLexRefL
namespace Go.Proofs.Ytcahdnghdblanaa
open Go.RowKit Go.Shelf

attribute [local go_sem] Oper.semAt_some
theorem rDig_any (z : Int) (w : World) : Calls Try.prog 40 #[.int .u8 z] w fun e w' => e = .returned (.bool (LX.inN (LX.cls z))) ∧ w = w' := by
  have h : LX.inN (LX.cls z) = decide (LX.cls z = 5) := by unfold LX.inN; rw [Bool.eq_iff_iff]; simp
  rw [h]; exact rDigit_any z w
set_option maxRecDepth 100000 in
set_option maxHeartbeats 16000000 in
theorem rLex_any (s : ByteArray) (w : World) : Calls Try.prog 27 #[.string s] w (RLexPost s w) := by
  have hL := bsOf_length s
  by_cases hbig : 16384 < s.size
  · have t1 : decide (16384 < (s.size : Int)) = true := by simp; omega
    have hout := Lib.hid (LX.out_big (L := bsOf s) (by rw [hL]; exact hbig))
    go_enter Try.func27, Try.ntmps27
    go_wp2
    go_ret3
    unfold RLexPost
    rw [hout.out]
    exact ⟨_, rfl, ROwn.nil _ _ _, Below.refl _ _⟩
  · have t1 : decide (16384 < (s.size : Int)) = false := by simp; omega
    have hL2 : (bsOf s).length ≤ 16384 := by omega
    replace hL2 := Lib.hid hL2
    have hm : s.size ≤ 16384 := by omega
    replace hL := Lib.hid hL
    go_enter Try.func27, Try.ntmps27
    go_wp2_with fail
    go_loopw [5, 6] (fun v5 a wr => ∃ (v : Value) (i : Nat) (pre : List LX.Tk), v5 = v ∧ i ≤ s.size ∧ a = .int .i64 (i : Int) ∧ Hid (ROwn w.heap.size s wr v pre ∧ Below w.heap.size w wr ∧ Met (bsOf s) i pre)) (fun _ a _ => s.size - (intOf a).toNat)
    case atStart => exact ⟨_, 0, [], rfl, by omega, rfl, Lib.hid ⟨ROwn.nil _ _ _, Below.refl _ _, Met.start _⟩⟩
    case round =>
      obtain ⟨v, i, pre, rfl, hi, rfl, hX⟩ := hrel
      by_cases hlt : i < s.size
      · have t2 : decide ((i : Int) < (s.size : Int)) = true := by simpa using hlt
        have hlb : i < (bsOf s).length := by rw [hL.out]; exact hlt
        have hcl : LX.clAt (bsOf s) i = LX.cls ((s[i]'hlt).toNat : Int) := by
          rw [LX.clAt_lt hlb]
          have := bs_get? s i hlt
          rw [(List.getElem?_eq_some_iff.1 this).2]
        obtain ⟨z, hz⟩ : ∃ z, ((s[i]'hlt).toNat : Int) = z := ⟨_, rfl⟩
        rw [hz] at hcl
        by_cases h1 : LX.cls z = 1
        · have hz1 : z = 32 ∨ z = 9 := by
            revert h1; unfold LX.cls; repeat' split
            all_goals omega
          obtain ⟨hO, hB, hM⟩ := hX.out
          have hM2 := hM.skips (LX.ys_blank hlb (by rw [hcl, h1]))
          have hF : Hid (ROwn w.heap.size s wr _ pre ∧ Below w.heap.size w wr ∧ Met (bsOf s) (i + 1) pre) := Lib.hid ⟨hO, hB, hM2⟩
          clear hX hM hM2 hO hB hcl
          rcases hz1 with rfl | rfl
          all_goals
            go_wp2
            go_roundw
            case rel => exact ⟨_, i + 1, pre, rfl, by omega, by go_num, hF⟩
            case measure => simp [intOf]; omega
        · have hz32 : (z == 32) = false := by rw [Bool.eq_false_iff]; intro h; rw [beq_iff_eq] at h; subst h; exact h1 rfl
          have hz9 : (z == 9) = false := by rw [Bool.eq_false_iff]; intro h; rw [beq_iff_eq] at h; subst h; exact h1 rfl
          by_cases h2 : LX.cls z = 2
          · rw [cls_nl] at h2
            subst h2
            obtain ⟨hO, hB, hM⟩ := hX.out
            have hnl := LX.ys_newline (u := endU pre) hlb (by rw [hcl]; rfl)
            rcases List.eq_nil_or_concat pre with rfl | ⟨pre', t, hpt⟩
            · obtain ⟨a, cap, rfl⟩ := hO.forms
              have hF : Hid (ROwn w.heap.size s wr _ [] ∧ Below w.heap.size w wr ∧ Met (bsOf s) (i + 1) []) := Lib.hid ⟨hO, hB, hM.skips (by rw [hnl]; rfl)⟩
              clear hX hO hB hM hnl hcl
              go_wp2
              go_roundw
              case rel => exact ⟨_, i + 1, [], rfl, by omega, by go_num, hF⟩
              case measure => simp [intOf]; omega
            · rw [List.concat_eq_append] at hpt
              subst hpt
              obtain ⟨g, cap, rfl, hk⟩ := hO.last
              have hlen := hM.room hL2.out
              rw [List.length_append, List.length_singleton] at hlen
              by_cases h4 : t.kind = 4
              · have t4 : ((t.kind : Int) != 4) = false := by rw [h4]; rfl
                have hF : Hid (ROwn w.heap.size s wr _ (pre' ++ [t]) ∧ Below w.heap.size w wr ∧ Met (bsOf s) (i + 1) (pre' ++ [t])) := Lib.hid ⟨hO, hB, hM.skips (by rw [hnl, endU_snoc, h4]; rfl)⟩
                clear hX hO hB hM hnl hcl
                go_wp2
                go_roundw
                case rel => exact ⟨_, i + 1, _, rfl, by omega, by go_num, hF⟩
                case measure => simp [intOf]; omega
              · have t4 : ((t.kind : Int) != 4) = true := by simp; omega
                have hxe := show (⟨#[]⟩ : ByteArray) = s.extract i i by apply ByteArray.ext; simp
                obtain ⟨i0, hi0, hz0, hz1, hz2⟩ := infoRTok
                obtain ⟨r1, r2, r3, r4, r5⟩ := rgo s w.heap.size i (i + 1) w wr _ (pre' ++ [t]) ⟨4, i, i⟩ 4 (i : Int) ⟨#[]⟩ rfl hxe rfl rfl hO hB hM (by rw [hnl, endU_snoc, if_pos (by simpa using h4)]; rfl)
                have hlen3 : (pre' ++ [t]).length = pre'.length + 1 := by simp
                clear hX hO hB hM hnl hcl hxe
                go_wp2_with (at_builtin; refine wpList_append_own_at _ rfl _ _ 30 rfl w.heap.size 49 i0 _ 3 32 Try.underlying30 hi0 hz0 hz1 hz2 rfl (by decide) _ _ _ rfl r1.out ⟨wr.heap.size, 0, none⟩ 1 1 _ rfl rfl r2.out r3.out (by unfold maxLen; omega) (by omega) r4.out ?_; intro v' w1 hown' hgrow _ _)
                go_roundw
                case rel => exact ⟨_, i + 1, _, rfl, by omega, by go_num, r5.out _ _ hown' hgrow⟩
                case measure => simp [intOf]; omega
          · have hz10 : (z == 10) = false := by rw [Bool.eq_false_iff]; intro h; rw [beq_iff_eq] at h; subst h; exact h2 rfl
            by_cases h3 : LX.cls z = 3
            · rw [cls_hash] at h3
              subst h3
              obtain ⟨hO, hB, hM⟩ := hX.out
              have hF : Hid (ROwn w.heap.size s wr _ pre ∧ Below w.heap.size w wr ∧ Met (bsOf s) (LX.run LX.inC (bsOf s) i) pre) := Lib.hid ⟨hO, hB, hM.skips (LX.ys_hash hlb (by rw [hcl]; rfl))⟩
              have hgt := LX.run_gt (p := LX.inC) hlb (by rw [hcl]; rfl)
              clear hX hO hB hM hcl
              go_wp2_with fail
              go_loop [6] (fun a => ∃ j : Nat, i ≤ j ∧ j ≤ s.size ∧ a = .int .i64 (j : Int) ∧ Hid (LX.run LX.inC (bsOf s) j = LX.run LX.inC (bsOf s) i)) (fun a => s.size - (intOf a).toNat)
              case atStart => exact ⟨i, Nat.le_refl _, by omega, rfl, Lib.hid rfl⟩
              case round =>
                obtain ⟨j, hij, hj, rfl, hrun⟩ := hrel
                by_cases hjl : j < s.size
                · have hjb : j < (bsOf s).length := by rw [hL.out]; exact hjl
                  have u2 : decide ((j : Int) < (s.size : Int)) = true := by simpa using hjl
                  have hcj : LX.clAt (bsOf s) j = LX.cls ((s[j]'hjl).toNat : Int) := by
                    rw [LX.clAt_lt hjb]
                    have := bs_get? s j hjl
                    rw [(List.getElem?_eq_some_iff.1 this).2]
                  by_cases h10 : ((s[j]'hjl).toNat : Int) = 10
                  · have u3 : (((s[j]'hjl).toNat : Int) != 10) = false := by rw [h10]; rfl
                    have he : LX.run LX.inC (bsOf s) i = j := by rw [← hrun.out]; exact LX.run_stop (.inr (by rw [hcj, h10]; rfl))
                    rw [he] at hF hgt
                    clear hcj hrun
                    go_wp2
                    go_roundw
                    case rel => exact ⟨_, j, _, rfl, by omega, by go_num, hF⟩
                    case measure => simp [intOf]; omega
                  · have u3 : (((s[j]'hjl).toNat : Int) != 10) = true := by simpa using h10
                    have he : Hid (LX.run LX.inC (bsOf s) (j + 1) = LX.run LX.inC (bsOf s) i) := Lib.hid (by rw [← hrun.out]; exact (LX.run_more hjb (by rw [hcj]; unfold LX.inC; simp; intro h; exact h10 (cls_nl.1 h))).symm)
                    clear hcj hrun
                    go_wp2
                    exact ⟨⟨j + 1, by omega, by omega, by go_num, he⟩, by simp [intOf]; omega⟩
                · obtain rfl : j = s.size := by omega
                  have u2 : decide ((s.size : Int) < (s.size : Int)) = false := by simp
                  have he : LX.run LX.inC (bsOf s) i = s.size := by rw [← hrun.out]; exact LX.run_stop (.inl (by rw [hL.out]; exact Nat.le_refl _))
                  rw [he] at hF hgt
                  clear hrun
                  go_wp2
                  go_roundw
                  case rel => exact ⟨_, s.size, _, rfl, by omega, by go_num, hF⟩
                  case measure => simp [intOf]; omega
            · have hz35 : (z == 35) = false := by rw [Bool.eq_false_iff]; intro h; rw [beq_iff_eq] at h; subst h; exact h3 rfl
              by_cases h5 : LX.cls z = 4
              · obtain ⟨hO, hB, hM⟩ := hX.out
                have hy := LX.ys_word (u := endU pre) hlb (by rw [hcl, h5])
                have hgt := LX.run_gt (p := LX.inW) hlb (by rw [hcl, h5]; rfl)
                have c4 : decide (LX.cls z = 4) = true := by simp [h5]
                have CL := Lib.hid (fun W => rLetter_any z W)
                rw [c4] at CL
                clear hcl hO hB hM
                replace hy := Lib.hid hy
                go_wp2_with fail
                refine (CL.out wr).mono ?_
                rintro e w' ⟨rfl, rfl⟩
                go_wp2_with fail
                go_loop [6] (fun a => ∃ j : Nat, i ≤ j ∧ j ≤ s.size ∧ a = .int .i64 (j : Int) ∧ Hid (LX.run LX.inW (bsOf s) j = LX.run LX.inW (bsOf s) i)) (fun a => s.size - (intOf a).toNat)
                case atStart => exact ⟨i, Nat.le_refl _, by omega, rfl, Lib.hid rfl⟩
                case round =>
                  obtain ⟨j, hij, hj, rfl, hrun⟩ := hrel
                  by_cases hjl : j < s.size
                  · have hjb : j < (bsOf s).length := by rw [hL.out]; exact hjl
                    have u2 : decide ((j : Int) < (s.size : Int)) = true := by simpa using hjl
                    have hcj : LX.clAt (bsOf s) j = LX.cls ((s[j]'hjl).toNat : Int) := by
                      rw [LX.clAt_lt hjb]
                      have := bs_get? s j hjl
                      rw [(List.getElem?_eq_some_iff.1 this).2]
                    have CG := Lib.hid (fun W => rGoes_any ((s[j]'hjl).toNat : Int) W)
                    by_cases hp : LX.inW (LX.cls ((s[j]'hjl).toNat : Int)) = true
                    · have he : Hid (LX.run LX.inW (bsOf s) (j + 1) = LX.run LX.inW (bsOf s) i) := Lib.hid (by rw [← hrun.out]; exact (LX.run_more hjb (by rw [hcj]; exact hp)).symm)
                      rw [hp] at CG
                      clear hcj hrun
                      go_wp2_with fail
                      refine (CG.out wr).mono ?_
                      rintro e w' ⟨rfl, rfl⟩
                      go_wp2
                      exact ⟨⟨j + 1, by omega, by omega, by go_num, he⟩, by simp [intOf]; omega⟩
                    · have he : LX.run LX.inW (bsOf s) i = j := by rw [← hrun.out]; exact LX.run_stop (.inr (by rw [hcj]; exact Bool.eq_false_iff.2 hp))
                      rw [Bool.eq_false_iff.2 hp] at CG
                      clear hcj
                      rw [he] at hy hgt
                      have q1 : (i : Int) ≤ (j : Int) := by omega
                      have q2 : (j : Int) ≤ (s.size : Int) := by omega
                      obtain ⟨hO, hB, hM⟩ := hX.out
                      by_cases h16 : 16 < j - i
                      · have t16 : decide (16 < (j : Int) - (i : Int)) = true := by simp; omega
                        have hF : Hid (RLexPost s w (.returned (.tuple #[.slice none 0 0, .int .i64 (i : Int), .int .i64 42])) wr) := Lib.hid (by
                          unfold RLexPost; rw [hM.bad (t := ⟨1, i, j⟩) hL2.out (by rw [hy.out, if_pos h16]) (by decide)]; exact ⟨_, rfl, ROwn.nil _ _ _, hB⟩)
                        clear hX hO hB hM hy he hrun
                        go_wp2_with fail
                        refine (CG.out wr).mono ?_
                        rintro e w' ⟨rfl, rfl⟩
                        go_wp2
                        go_ret3
                        exact hF.out
                      · have t16 : decide (16 < (j : Int) - (i : Int)) = false := by simp; omega
                        have hlen := hM.room hL2.out
                        obtain ⟨i0, hi0, hz0, hz1, hz2⟩ := infoRTok
                        obtain ⟨r1, r2, r3, r4, r5⟩ := rgo s w.heap.size i j w wr _ pre ⟨1, i, j⟩ 1 (i : Int) (s.extract i j) rfl rfl rfl rfl hO hB hM (by rw [hy.out, if_neg h16]; rfl)
                        clear hX hO hB hM hy he hrun
                        go_wp2_with fail
                        refine (CG.out wr).mono ?_
                        rintro e w' ⟨rfl, rfl⟩
                        go_wp2_with (at_builtin; refine wpList_append_own_at _ rfl _ _ 30 rfl w.heap.size 49 i0 _ 3 32 Try.underlying30 hi0 hz0 hz1 hz2 rfl (by decide) _ _ _ rfl r1.out ⟨wr.heap.size, 0, none⟩ 1 1 _ rfl rfl r2.out r3.out (by unfold maxLen; omega) (by omega) r4.out ?_; intro v' w1 hown' hgrow _ _)
                        go_roundw
                        case rel => exact ⟨_, j, _, rfl, by omega, by go_num, r5.out _ _ hown' hgrow⟩
                        case measure => simp [intOf]; omega
                  · obtain rfl : j = s.size := by omega
                    have u2 : decide ((s.size : Int) < (s.size : Int)) = false := by simp
                    have he : LX.run LX.inW (bsOf s) i = s.size := by rw [← hrun.out]; exact LX.run_stop (.inl (by rw [hL.out]; exact Nat.le_refl _))
                    rw [he] at hy hgt
                    have q1 : (i : Int) ≤ (s.size : Int) := by omega
                    have q2 : (s.size : Int) ≤ (s.size : Int) := by omega
                    obtain ⟨hO, hB, hM⟩ := hX.out
                    by_cases h16 : 16 < s.size - i
                    · have t16 : decide (16 < (s.size : Int) - (i : Int)) = true := by simp; omega
                      have hF : Hid (RLexPost s w (.returned (.tuple #[.slice none 0 0, .int .i64 (i : Int), .int .i64 42])) wr) := Lib.hid (by
                        unfold RLexPost; rw [hM.bad (t := ⟨1, i, s.size⟩) hL2.out (by rw [hy.out, if_pos h16]) (by decide)]; exact ⟨_, rfl, ROwn.nil _ _ _, hB⟩)
                      clear hX hO hB hM hy he hrun
                      go_wp2
                      go_ret3
                      exact hF.out
                    · have t16 : decide (16 < (s.size : Int) - (i : Int)) = false := by simp; omega
                      have hlen := hM.room hL2.out
                      obtain ⟨i0, hi0, hz0, hz1, hz2⟩ := infoRTok
                      obtain ⟨r1, r2, r3, r4, r5⟩ := rgo s w.heap.size i s.size w wr _ pre ⟨1, i, s.size⟩ 1 (i : Int) (s.extract i s.size) rfl rfl rfl rfl hO hB hM (by rw [hy.out, if_neg h16]; rfl)
                      clear hX hO hB hM hy he hrun
                      go_wp2_with (at_builtin; refine wpList_append_own_at _ rfl _ _ 30 rfl w.heap.size 49 i0 _ 3 32 Try.underlying30 hi0 hz0 hz1 hz2 rfl (by decide) _ _ _ rfl r1.out ⟨wr.heap.size, 0, none⟩ 1 1 _ rfl rfl r2.out r3.out (by unfold maxLen; omega) (by omega) r4.out ?_; intro v' w1 hown' hgrow _ _)
                      go_roundw
                      case rel => exact ⟨_, s.size, _, rfl, by omega, by go_num, r5.out _ _ hown' hgrow⟩
                      case measure => simp [intOf]; omega
              · by_cases h6 : LX.cls z = 5
                · obtain ⟨hO, hB, hM⟩ := hX.out
                  have hy := LX.ys_num (u := endU pre) hlb (by rw [hcl, h6])
                  have hgt := LX.run_gt (p := LX.inN) hlb (by rw [hcl, h6]; rfl)
                  have c4 : decide (LX.cls z = 4) = false := by simp [h5]
                  have c5 : decide (LX.cls z = 5) = true := by simp [h6]
                  have CL := Lib.hid (fun W => rLetter_any z W)
                  have CD := Lib.hid (fun W => rDigit_any z W)
                  rw [c4] at CL
                  rw [c5] at CD
                  clear hcl hO hB hM
                  replace hy := Lib.hid hy
                  go_wp2_with fail
                  refine (CL.out wr).mono ?_
                  rintro e w' ⟨rfl, rfl⟩
                  go_wp2_with fail
                  refine (CD.out wr).mono ?_
                  rintro e w' ⟨rfl, rfl⟩
                  go_wp2_with fail
                  go_loop [6] (fun a => ∃ j : Nat, i ≤ j ∧ j ≤ s.size ∧ a = .int .i64 (j : Int) ∧ Hid (LX.run LX.inN (bsOf s) j = LX.run LX.inN (bsOf s) i)) (fun a => s.size - (intOf a).toNat)
                  case atStart => exact ⟨i, Nat.le_refl _, by omega, rfl, Lib.hid rfl⟩
                  case round =>
                    obtain ⟨j, hij, hj, rfl, hrun⟩ := hrel
                    by_cases hjl : j < s.size
                    · have hjb : j < (bsOf s).length := by rw [hL.out]; exact hjl
                      have u2 : decide ((j : Int) < (s.size : Int)) = true := by simpa using hjl
                      have hcj : LX.clAt (bsOf s) j = LX.cls ((s[j]'hjl).toNat : Int) := by
                        rw [LX.clAt_lt hjb]
                        have := bs_get? s j hjl
                        rw [(List.getElem?_eq_some_iff.1 this).2]
                      have CG := Lib.hid (fun W => rDig_any ((s[j]'hjl).toNat : Int) W)
                      by_cases hp : LX.inN (LX.cls ((s[j]'hjl).toNat : Int)) = true
                      · have he : Hid (LX.run LX.inN (bsOf s) (j + 1) = LX.run LX.inN (bsOf s) i) := Lib.hid (by rw [← hrun.out]; exact (LX.run_more hjb (by rw [hcj]; exact hp)).symm)
                        rw [hp] at CG
                        clear hcj hrun
                        go_wp2_with fail
                        refine (CG.out wr).mono ?_
                        rintro e w' ⟨rfl, rfl⟩
                        go_wp2
                        exact ⟨⟨j + 1, by omega, by omega, by go_num, he⟩, by simp [intOf]; omega⟩
                      · have he : LX.run LX.inN (bsOf s) i = j := by rw [← hrun.out]; exact LX.run_stop (.inr (by rw [hcj]; exact Bool.eq_false_iff.2 hp))
                        rw [Bool.eq_false_iff.2 hp] at CG
                        clear hcj
                        rw [he] at hy hgt
                        have q1 : (i : Int) ≤ (j : Int) := by omega
                        have q2 : (j : Int) ≤ (s.size : Int) := by omega
                        have hsz : (s.extract i j).size ≤ maxLen := by rw [← bsOf_length, bsOf_extract]; unfold LX.cut maxLen; rw [List.length_take]; omega
                        have CN := Lib.hid (fun W => rNum_any (s.extract i j) W hsz)
                        rw [bsOf_extract] at CN
                        obtain ⟨hO, hB, hM⟩ := hX.out
                        by_cases hok : LX.numOk (LX.cut (bsOf s) i j) = true
                        · have hlen := hM.room hL2.out
                          obtain ⟨i0, hi0, hz0, hz1, hz2⟩ := infoRTok
                          obtain ⟨r1, r2, r3, r4, r5⟩ := rgo s w.heap.size i j w wr _ pre ⟨2, i, j⟩ 2 (i : Int) (s.extract i j) rfl rfl rfl rfl hO hB hM (by rw [hy.out, if_pos hok]; rfl)
                          rw [LX.numV_yes hok] at CN
                          clear hX hO hB hM hy he hrun
                          go_wp2_with fail
                          refine (CG.out wr).mono ?_
                          rintro e w' ⟨rfl, rfl⟩
                          go_wp2_with fail
                          refine (CN.out wr).mono ?_
                          rintro e w' ⟨rfl, rfl⟩
                          go_wp2_with (at_builtin; refine wpList_append_own_at _ rfl _ _ 30 rfl w.heap.size 49 i0 _ 3 32 Try.underlying30 hi0 hz0 hz1 hz2 rfl (by decide) _ _ _ rfl r1.out ⟨wr.heap.size, 0, none⟩ 1 1 _ rfl rfl r2.out r3.out (by unfold maxLen; omega) (by omega) r4.out ?_; intro v' w1 hown' hgrow _ _)
                          go_roundw
                          case rel => exact ⟨_, j, _, rfl, by omega, by go_num, r5.out _ _ hown' hgrow⟩
                          case measure => simp [intOf]; omega
                        · have hF : Hid (RLexPost s w (.returned (.tuple #[.slice none 0 0, .int .i64 (i : Int), .int .i64 41])) wr) := Lib.hid (by
                            unfold RLexPost; rw [hM.bad (t := ⟨2, i, j⟩) hL2.out (by rw [hy.out, if_neg hok]) (by decide)]; exact ⟨_, rfl, ROwn.nil _ _ _, hB⟩)
                          rw [LX.numV_no (Bool.eq_false_iff.2 hok)] at CN
                          clear hX hO hB hM hy he hrun
                          go_wp2_with fail
                          refine (CG.out wr).mono ?_
                          rintro e w' ⟨rfl, rfl⟩
                          go_wp2_with fail
                          refine (CN.out wr).mono ?_
                          rintro e w' ⟨rfl, rfl⟩
                          go_wp2
                          go_ret3
                          exact hF.out
                    · obtain rfl : j = s.size := by omega
                      have u2 : decide ((s.size : Int) < (s.size : Int)) = false := by simp
                      have he : LX.run LX.inN (bsOf s) i = s.size := by rw [← hrun.out]; exact LX.run_stop (.inl (by rw [hL.out]; exact Nat.le_refl _))
                      rw [he] at hy hgt
                      have q1 : (i : Int) ≤ (s.size : Int) := by omega
                      have q2 : (s.size : Int) ≤ (s.size : Int) := by omega
                      have hsz : (s.extract i s.size).size ≤ maxLen := by rw [← bsOf_length, bsOf_extract]; unfold LX.cut maxLen; rw [List.length_take]; omega
                      have CN := Lib.hid (fun W => rNum_any (s.extract i s.size) W hsz)
                      rw [bsOf_extract] at CN
                      obtain ⟨hO, hB, hM⟩ := hX.out
                      by_cases hok : LX.numOk (LX.cut (bsOf s) i s.size) = true
                      · have hlen := hM.room hL2.out
                        obtain ⟨i0, hi0, hz0, hz1, hz2⟩ := infoRTok
                        obtain ⟨r1, r2, r3, r4, r5⟩ := rgo s w.heap.size i s.size w wr _ pre ⟨2, i, s.size⟩ 2 (i : Int) (s.extract i s.size) rfl rfl rfl rfl hO hB hM (by rw [hy.out, if_pos hok]; rfl)
                        rw [LX.numV_yes hok] at CN
                        clear hX hO hB hM hy he hrun
                        go_wp2_with fail
                        refine (CN.out wr).mono ?_
                        rintro e w' ⟨rfl, rfl⟩
                        go_wp2_with (at_builtin; refine wpList_append_own_at _ rfl _ _ 30 rfl w.heap.size 49 i0 _ 3 32 Try.underlying30 hi0 hz0 hz1 hz2 rfl (by decide) _ _ _ rfl r1.out ⟨wr.heap.size, 0, none⟩ 1 1 _ rfl rfl r2.out r3.out (by unfold maxLen; omega) (by omega) r4.out ?_; intro v' w1 hown' hgrow _ _)
                        go_roundw
                        case rel => exact ⟨_, s.size, _, rfl, by omega, by go_num, r5.out _ _ hown' hgrow⟩
                        case measure => simp [intOf]; omega
                      · have hF : Hid (RLexPost s w (.returned (.tuple #[.slice none 0 0, .int .i64 (i : Int), .int .i64 41])) wr) := Lib.hid (by
                          unfold RLexPost; rw [hM.bad (t := ⟨2, i, s.size⟩) hL2.out (by rw [hy.out, if_neg hok]) (by decide)]; exact ⟨_, rfl, ROwn.nil _ _ _, hB⟩)
                        rw [LX.numV_no (Bool.eq_false_iff.2 hok)] at CN
                        clear hX hO hB hM hy he hrun
                        go_wp2_with fail
                        refine (CN.out wr).mono ?_
                        rintro e w' ⟨rfl, rfl⟩
                        go_wp2
                        go_ret3
                        exact hF.out
                · obtain ⟨hO, hB, hM⟩ := hX.out
                  have c4 : decide (LX.cls z = 4) = false := by simp [h5]
                  have c5 : decide (LX.cls z = 5) = false := by simp [h6]
                  have CL := Lib.hid (fun W => rLetter_any z W)
                  have CD := Lib.hid (fun W => rDigit_any z W)
                  have CS := Lib.hid (fun W => rSign_any s i hlt hm W)
                  rw [c4] at CL
                  rw [c5] at CD
                  have hr := LX.cls_range z
                  by_cases h7 : LX.cls z = 7
                  · have hn : sgN (bsOf s) i = LX.signLen (bsOf s) i := by unfold sgN; rw [if_pos (by rw [hcl, h7])]
                    have hy := LX.ys_sign (u := endU pre) hlb (by rw [hcl, h7])
                    have hle := LX.signLen_le hlb
                    have hps := LX.signLen_pos (bsOf s) i
                    rw [hL.out] at hle
                    rw [hn] at CS
                    obtain ⟨n, hnn⟩ : ∃ n, LX.signLen (bsOf s) i = n := ⟨_, rfl⟩
                    rw [hnn] at CS hy hle hps
                    have tn : ((n : Int) == 0) = false := by rw [Bool.eq_false_iff]; intro h; rw [beq_iff_eq] at h; omega
                    have q1 : (i : Int) ≤ (i : Int) + (n : Int) := by omega
                    have q2 : (i : Int) + (n : Int) ≤ (s.size : Int) := by omega
                    have hlen := hM.room hL2.out
                    obtain ⟨i0, hi0, hz0, hz1, hz2⟩ := infoRTok
                    have hgo := Lib.hid (fun (w' : World) (hB' : ∀ B, Below B wr w') => rgo s w.heap.size i (i + n) w w' _ pre ⟨3, i, i + n⟩ 3 (i : Int) (s.extract i (i + n)) rfl rfl rfl rfl (hO.same hB') (hB.trans (hB' _)) hM (by rw [hy]; rfl))
                    clear hcl hO hB hM hX hy hn hnn
                    go_wp2_with fail
                    refine (CL.out wr).mono ?_
                    rintro e w' ⟨rfl, rfl⟩
                    go_wp2_with fail
                    refine (CD.out wr).mono ?_
                    rintro e w' ⟨rfl, rfl⟩
                    go_wp2_with fail
                    refine (CS.out wr).mono ?_
                    rintro e w2 ⟨rfl, hB2⟩
                    obtain ⟨r1, r2, r3, r4, r5⟩ := hgo.out w2 hB2
                    clear hgo hB2
                    go_wp2_with (at_builtin; refine wpList_append_own_at _ rfl _ _ 30 rfl w.heap.size 49 i0 _ 3 32 Try.underlying30 hi0 hz0 hz1 hz2 rfl (by decide) _ _ _ rfl r1.out ⟨w2.heap.size, 0, none⟩ 1 1 _ rfl rfl r2.out r3.out (by unfold maxLen; omega) (by omega) r4.out ?_; intro v' w1 hown' hgrow _ _)
                    go_roundw
                    case rel => exact ⟨_, i + n, _, rfl, by omega, by go_num, r5.out _ _ hown' hgrow⟩
                    case measure => simp [intOf]; omega
                  · have hn : sgN (bsOf s) i = 0 := by unfold sgN; rw [if_neg (by rw [hcl]; exact h7)]
                    have hy := LX.ys_stray (u := endU pre) hlb (by rw [hcl]; omega)
                    rw [hn] at CS
                    have hF : Hid (∀ w', (∀ B, Below B wr w') → RLexPost s w (.returned (.tuple #[.slice none 0 0, .int .i64 (i : Int), .int .i64 40])) w') := Lib.hid (fun w' hB' => by
                      unfold RLexPost; rw [hM.bad (t := ⟨0, i, i⟩) hL2.out hy (by decide)]; exact ⟨_, rfl, ROwn.nil _ _ _, hB.trans (hB' _)⟩)
                    clear hcl hO hB hM hX hy hn
                    go_wp2_with fail
                    refine (CL.out wr).mono ?_
                    rintro e w' ⟨rfl, rfl⟩
                    go_wp2_with fail
                    refine (CD.out wr).mono ?_
                    rintro e w' ⟨rfl, rfl⟩
                    go_wp2_with fail
                    refine (CS.out wr).mono ?_
                    rintro e w2 ⟨rfl, hB2⟩
                    go_wp2
                    go_ret3
                    exact hF.out _ hB2
      · obtain rfl : i = s.size := by omega
        have t2 : decide ((s.size : Int) < (s.size : Int)) = false := by simp
        obtain ⟨hO, hB, hM⟩ := hX.out
        have he := LX.ys_end (L := bsOf s) (i := s.size) (u := endU pre) (by rw [hL.out]; exact Nat.le_refl _)
        rcases List.eq_nil_or_concat pre with rfl | ⟨pre', t, hpt⟩
        · obtain ⟨a, cap, rfl⟩ := hO.forms
          have hF : Hid (RLexPost s w (.returned (.tuple #[.slice a 0 cap, .int .i64 0, .int .i64 0])) wr) := Lib.hid (by unfold RLexPost; rw [hM.good hL2.out (by rw [he]; rfl)]; exact ⟨_, rfl, hO, hB⟩)
          clear hX hO hB hM he
          go_wp2
          go_ret3
          exact hF.out
        · rw [List.concat_eq_append] at hpt
          subst hpt
          obtain ⟨g, cap, rfl, hk⟩ := hO.last
          have hlen := hM.room hL2.out
          rw [List.length_append, List.length_singleton] at hlen
          by_cases h4 : t.kind = 4
          · have t4 : ((t.kind : Int) != 4) = false := by rw [h4]; rfl
            have hF : Hid (RLexPost s w (.returned (.tuple #[.slice (some ⟨g, 0, none⟩) (pre'.length + 1) cap, .int .i64 0, .int .i64 0])) wr) := Lib.hid (by unfold RLexPost; rw [hM.good hL2.out (by rw [he, endU_snoc, h4]; rfl)]; exact ⟨_, rfl, hO, hB⟩)
            clear hX hO hB hM he
            go_wp2
            go_ret3
            exact hF.out
          · have t4 : ((t.kind : Int) != 4) = true := by simp; omega
            have hxe := show (⟨#[]⟩ : ByteArray) = s.extract s.size s.size by apply ByteArray.ext; simp
            obtain ⟨i0, hi, hz0, hz1, hz2⟩ := infoRTok
            obtain ⟨r1, r2, r3, r4, r5⟩ := rapp s w.heap.size w wr _ (pre' ++ [t]) ⟨4, s.size, s.size⟩ 4 (s.size : Int) ⟨#[]⟩ rfl hxe rfl rfl hO hB
            have hF : Hid (∀ (v' : Value) (w1 : World), w1.ownsRow w.heap.size 49 3 v' ((pre' ++ [t]).length + 1) (rtoksC s (pre' ++ [t]) ++ [Value.int .i64 4, .string ⟨#[]⟩, .int .i64 (s.size : Int)]) →
                (wr.alloc (.cells #[.int .i64 4, .string ⟨#[]⟩, .int .i64 (s.size : Int)] 49)).grownBy w1 (Value.slice (some ⟨g, 0, none⟩) (pre'.length + 1) cap).ownBlock →
                RLexPost s w (.returned (.tuple #[v', .int .i64 0, .int .i64 0])) w1) := Lib.hid fun v' w1 ho hg => by
              obtain ⟨ho2, hb2⟩ := r5 v' w1 ho hg
              have hM2 : Met (bsOf s) s.size (pre' ++ [t] ++ [⟨4, s.size, s.size⟩]) := hM.goes (by rw [he, endU_snoc, if_pos (by simpa using h4)]; show _ = _ :: LX.ys (bsOf s) s.size false; rw [LX.ys_end (by rw [hL.out]; exact Nat.le_refl _)]; rfl)
              unfold RLexPost
              rw [hM2.good hL2.out (by rw [endU_snoc]; show LX.ys (bsOf s) s.size false = []; rw [LX.ys_end (by rw [hL.out]; exact Nat.le_refl _)]; rfl)]
              exact ⟨_, rfl, ho2, hb2⟩
            replace r1 := Lib.hid r1
            replace r2 := Lib.hid r2
            replace r3 := Lib.hid r3
            replace r4 := Lib.hid r4
            clear r5 hX hO hB hM he
            go_wp2_with (at_builtin; refine wpList_append_own_at _ rfl _ _ 30 rfl w.heap.size 49 i0 _ 3 32 Try.underlying30 hi hz0 hz1 hz2 rfl (by decide) _ _ _ rfl r1.out ⟨wr.heap.size, 0, none⟩ 1 1 _ rfl rfl r2.out r3.out (by unfold maxLen; rw [List.length_append, List.length_singleton]; omega) (by rw [List.length_append, List.length_singleton]; omega) r4.out ?_; intro v' w1 hown' hgrow _ _)
            go_ret3
            exact hF.out _ _ hown' hgrow
end Go.Proofs.Ytcahdnghdblanaa
