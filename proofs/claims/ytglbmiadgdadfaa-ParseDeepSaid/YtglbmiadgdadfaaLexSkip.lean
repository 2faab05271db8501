/- lex.skip, lex.takeSign. -/
import Derived.Deep.RegionHeld3
import Derived.BigRegion
import Derived.WalkLawsBesides
import Derived.Test.YtglbmiadgdadfaaLexTake
namespace Go.Proofs.Ytglbmiadgdadfaa
open Go.RowKit

attribute [local go_sem] Oper.semAt_some

set_option maxRecDepth 100000 in
set_option maxHeartbeats 4000000 in
theorem skip_any {b : Nat} {s : ByteArray} {i : Nat} {tl : List Value} {t : TypeId} (w : World) (h : InAt w b s i tl t) (hi : i ≤ s.size) (hm : s.size ≤ maxLen) :
    Calls Try.prog 42 #[.pointer (some ⟨b, 0, none⟩)] w fun e w' => (∃ v, e = .returned v) ∧ Put b (LX.skipTo (bsOf s) i) w w' := by
  have hm' := Lib.hid hm
  have hr := Lib.hid (LX.run_le LX.inB (bsOf s) i (by rw [bsOf_length]; exact hi))
  rw [bsOf_length] at hr
  by_cases hc : LX.clAt (bsOf s) (LX.run LX.inB (bsOf s) i) = 3
  · have he : LX.skipTo (bsOf s) i = LX.run LX.inC (bsOf s) (LX.run LX.inB (bsOf s) i) := by unfold LX.skipTo; rw [if_pos hc]
    rw [he]
    clear he
    have TB := Lib.hid (takeBlank_any w h hi hm)
    clear hm
    generalize LX.run LX.inB (bsOf s) i = j at *
    have t3 : (LX.clAt (bsOf s) j == 3) = true := by simp [hc]
    replace hc := Lib.hid hc
    go_enter Try.func42, Try.ntmps42
    go_wp2_with fail
    refine TB.out.mono ?_
    rintro e w1 ⟨rfl, h1⟩
    have i1 := h.put h1
    go_wp2_with fail
    refine (next_any w1 i1 hr.out).mono ?_
    rintro e w2 ⟨rfl, h2⟩
    have i2 := i1.drw h2
    go_wp2_with fail
    refine (takeComment_any w2 i2 hr.out hm'.out).mono ?_
    rintro e w3 ⟨rfl, h3⟩
    go_wp2
    go_end0
    exact ⟨⟨_, rfl⟩, (h1.drw h2).put h3⟩
  · have he : LX.skipTo (bsOf s) i = LX.run LX.inB (bsOf s) i := by unfold LX.skipTo; rw [if_neg hc]
    rw [he]
    clear he
    have TB := Lib.hid (takeBlank_any w h hi hm)
    clear hm
    generalize LX.run LX.inB (bsOf s) i = j at *
    have t3 : (LX.clAt (bsOf s) j == 3) = false := by simp [hc]
    replace hc := Lib.hid hc
    go_enter Try.func42, Try.ntmps42
    go_wp2_with fail
    refine TB.out.mono ?_
    rintro e w1 ⟨rfl, h1⟩
    have i1 := h.put h1
    go_wp2_with fail
    refine (next_any w1 i1 hr.out).mono ?_
    rintro e w2 ⟨rfl, h2⟩
    go_wp2
    go_end0
    exact ⟨⟨_, rfl⟩, h1.drw h2⟩

theorem two_iff (L : List UInt8) (i m : Nat) (hm : m = min (i + 2) L.length) (x y : UInt8) : LX.cut L i m = [x, y] ↔ L[i]? = some x ∧ L[i + 1]? = some y := by
  have h0 : L[i]? = (L.drop i)[0]? := by rw [List.getElem?_drop, Nat.add_zero]
  have h1 : L[i + 1]? = (L.drop i)[1]? := by rw [List.getElem?_drop]
  have hl : m - i = min 2 (L.drop i).length := by rw [List.length_drop]; omega
  unfold LX.cut
  rw [h0, h1, hl]
  rcases L.drop i with _ | ⟨a, _ | ⟨b, r⟩⟩ <;> simp
theorem cut_extract (s : ByteArray) (i j : Nat) : (s.extract i j).toList = LX.cut (bsOf s) i j := by
  rw [ByteArray.toList_eq]
  unfold LX.cut bsOf
  simp [ByteArray.data_extract, Array.toList_extract, List.extract_eq_take_drop]

set_option maxRecDepth 100000 in
set_option maxHeartbeats 4000000 in
theorem takeSign_any {b : Nat} {s : ByteArray} {i : Nat} {tl : List Value} {t : TypeId} (w : World) (h : InAt w b s i tl t) (hi : i < s.size) (hm : s.size ≤ 16384) :
    Calls Try.prog 59 #[.pointer (some ⟨b, 0, none⟩)] w fun e w' => e = .returned (.string (s.extract i (i + LX.signLen (bsOf s) i))) ∧ Put b (i + LX.signLen (bsOf s) i) w w' := by
  have c0 := h.text
  have c1 := h.at_
  have q0 : (0 : Int) ≤ (i : Int) := by omega
  have hw : IntKind.i64.wrap ((i : Int) + 2) = (i : Int) + 2 := IntWalk.i64_in _ (by omega)
  obtain ⟨m, hmin, hm1, hm2, hm3⟩ : ∃ m : Nat, (if (s.size : Int) < (i : Int) + 2 then (s.size : Int) else (i : Int) + 2) = (m : Int) ∧ i ≤ m ∧ m ≤ s.size ∧ m = min (i + 2) s.size := by
    refine ⟨min (i + 2) s.size, ?_, by omega, by omega, rfl⟩
    split <;> omega
  replace hm3 := Lib.hid hm3
  have q1 : (i : Int) ≤ (m : Int) := by omega
  have q2 : (m : Int) ≤ (s.size : Int) := by omega
  have k1 : (s.extract i m).toList = [61, 61] ↔ (bsOf s)[i]? = some 61 ∧ (bsOf s)[i + 1]? = some 61 := by rw [cut_extract]; exact two_iff _ i m (by rw [bsOf_length]; exact hm3.out) _ _
  have k2 : (s.extract i m).toList = [33, 61] ↔ (bsOf s)[i]? = some 33 ∧ (bsOf s)[i + 1]? = some 61 := by rw [cut_extract]; exact two_iff _ i m (by rw [bsOf_length]; exact hm3.out) _ _
  have hle := LX.signLen_le (L := bsOf s) (i := i) (by rw [bsOf_length]; exact hi)
  rw [bsOf_length] at hle
  have fin : ∀ (n : Nat) (nq : Nat), LX.signLen (bsOf s) i = n → i + n ≤ s.size → Calls Try.prog 32 #[.pointer (some ⟨b, 0, none⟩), .int .i64 (n : Int)] (w.drewN nq)
      (fun e w' => e = .returned (.string (s.extract i (i + LX.signLen (bsOf s) i))) ∧ Put b (i + LX.signLen (bsOf s) i) w w') := fun n nq hn hin => by
    rw [hn]
    refine (take_any (i := i) (n := n) _ (h.drewN nq) hin (by unfold maxLen; omega)).mono ?_
    rintro e w' ⟨rfl, hp⟩
    exact ⟨rfl, (Drw.of w nq).put hp⟩
  by_cases e1 : (s.extract i m).toList = [61, 61]
  · have hn : LX.signLen (bsOf s) i = 2 := by unfold LX.signLen; rw [if_pos ⟨(k1.1 e1).2, .inl (k1.1 e1).1⟩]
    have F := Lib.hid (fun nq => fin 2 nq hn (by omega))
    clear k1 k2 fin hle hn
    go_enter Try.func59, Try.ntmps59
    go_wp2
    go_quiet (fail)
    go_wp2_with fail
    refine (F.out _).mono ?_
    rintro e w' ⟨rfl, hp⟩
    go_wp2
    go_ret
    exact ⟨rfl, hp⟩
  · by_cases e2 : (s.extract i m).toList = [33, 61]
    · have hn : LX.signLen (bsOf s) i = 2 := by unfold LX.signLen; rw [if_pos ⟨(k2.1 e2).2, .inr (k2.1 e2).1⟩]
      have F := Lib.hid (fun nq => fin 2 nq hn (by omega))
      clear k1 k2 fin hle hn e1
      go_enter Try.func59, Try.ntmps59
      go_wp2
      go_quiet (fail)
      go_wp2_with fail
      refine (F.out _).mono ?_
      rintro e w' ⟨rfl, hp⟩
      go_wp2
      go_ret
      exact ⟨rfl, hp⟩
    · have hn : LX.signLen (bsOf s) i = 1 := by
        unfold LX.signLen
        rw [if_neg]
        rintro ⟨h1, h2 | h2⟩
        · exact e1 (k1.2 ⟨h2, h1⟩)
        · exact e2 (k2.2 ⟨h2, h1⟩)
      have F := Lib.hid (fun nq => fin 1 nq hn (by omega))
      have b1 : ((s.extract i m).toList == [61, 61]) = false := by simpa using e1
      have b2 : ((s.extract i m).toList == [33, 61]) = false := by simpa using e2
      clear k1 k2 fin hle hn
      go_enter Try.func59, Try.ntmps59
      go_wp2
      go_quiet (fail)
      go_wp2_with fail
      refine (F.out _).mono ?_
      rintro e w' ⟨rfl, hp⟩
      go_wp2
      go_ret
      exact ⟨rfl, hp⟩
end Go.Proofs.Ytglbmiadgdadfaa
