/- lex.takeWhile, at each of the four predicates. -/
import Derived.Test.YtglbmiadgdadfaaLexMem
namespace Go.Proofs.Ytglbmiadgdadfaa
open Go.RowKit

attribute [local go_sem] Oper.semAt_some

set_option maxRecDepth 100000 in
set_option maxHeartbeats 4000000 in
theorem takeBlank_any {b : Nat} {s : ByteArray} {i : Nat} {tl : List Value} {t : TypeId} (w : World) (h : InAt w b s i tl t) (hi : i ≤ s.size) (hm : s.size ≤ maxLen) :
    Calls Try.prog 53 #[.pointer (some ⟨b, 0, none⟩), .func (.func 54) #[] #[]] w fun e w' => e = .returned (.string (s.extract i (LX.run LX.inB (bsOf s) i))) ∧ Put b (LX.run LX.inB (bsOf s) i) w w' := by
  have hm' := hm
  unfold maxLen at hm
  replace hm' := Lib.hid hm'
  go_enter Try.func53, Try.ntmps53
  go_wp2
  go_loopw [5] (fun n w' => ∃ k : Nat, n = .int .i64 (k : Int) ∧ i + k ≤ s.size ∧ (∀ j, j < k → LX.inB (LX.clAt (bsOf s) (i + j)) = true) ∧ Drw w w') (fun n _ => s.size - (intOf n).toNat)
  case atStart => exact ⟨0, rfl, by omega, fun j hj => absurd hj (by omega), .refl _⟩
  case round =>
    obtain ⟨k, rfl, hk, ha, hd⟩ := hrel
    have hexit : (s.size ≤ i + k ∨ LX.inB (LX.clAt (bsOf s) (i + k)) = false) → LX.run LX.inB (bsOf s) i = i + k := fun hx =>
      LX.run_eq (by rw [bsOf_length]; exact hk) ha (by rw [bsOf_length]; exact hx)
    replace ha := Lib.hid ha
    replace hexit := Lib.hid hexit
    have h1 := h.drw hd
    have c0 := h1.text
    have c1 := h1.at_
    have hw : IntKind.i64.wrap ((i : Int) + (k : Int)) = (i : Int) + (k : Int) := IntWalk.i64_in _ (by omega)
    have q0 : (0 : Int) ≤ (i : Int) + (k : Int) := by omega
    have q1 : ((i : Int) + (k : Int)).toNat = i + k := by omega
    by_cases hlt : i + k < s.size
    · have q2 : (i : Int) + (k : Int) < (s.size : Int) := by omega
      have hb := byte_range (s[i + k]'hlt)
      have hc := clAt_get s (i + k) hlt
      cases hp : LX.inB (LX.clAt (bsOf s) (i + k))
      · go_wp2
        go_quiet ((first | (go_at_call 56; exact quiet_left (classOf_any _ (by omega) (by omega) _)) | (go_at_call 54; exact quiet_left (isBlank_any _ _))))
        clear hw
        go_wp2_with fail
        refine (take_any (i := i) (n := k) _ (h.drw (hd.drewN _)) hk hm'.out).mono ?_
        rintro e w2 ⟨rfl, hput⟩
        go_wp2
        go_ret
        rw [hexit.out (.inr hp)]
        exact ⟨rfl, (hd.drewN _).put hput⟩
      · go_wp2
        go_quiet ((first | (go_at_call 56; exact quiet_left (classOf_any _ (by omega) (by omega) _)) | (go_at_call 54; exact quiet_left (isBlank_any _ _))))
        clear hw
        go_wp2
        go_roundw
        case rel =>
          refine ⟨k + 1, by go_num, by omega, fun j hj => ?_, hd.drewN _⟩
          by_cases hjk : j = k
          · rw [hjk]; exact hp
          · exact ha.out j (by omega)
        case measure => simp [intOf]; omega
    · have q2 : (s.size : Int) ≤ (i : Int) + (k : Int) := by omega
      have q3 : decide ((i : Int) + (k : Int) < (s.size : Int)) = false := by simpa using q2
      go_wp2
      go_quiet (fail)
      clear hw
      go_wp2_with fail
      refine (take_any (i := i) (n := k) _ (h.drw (hd.drewN _)) hk hm'.out).mono ?_
      rintro e w2 ⟨rfl, hput⟩
      go_wp2
      go_ret
      rw [hexit.out (.inl (by omega))]
      exact ⟨rfl, (hd.drewN _).put hput⟩

set_option maxRecDepth 100000 in
set_option maxHeartbeats 4000000 in
theorem takeComment_any {b : Nat} {s : ByteArray} {i : Nat} {tl : List Value} {t : TypeId} (w : World) (h : InAt w b s i tl t) (hi : i ≤ s.size) (hm : s.size ≤ maxLen) :
    Calls Try.prog 53 #[.pointer (some ⟨b, 0, none⟩), .func (.func 55) #[] #[]] w fun e w' => e = .returned (.string (s.extract i (LX.run LX.inC (bsOf s) i))) ∧ Put b (LX.run LX.inC (bsOf s) i) w w' := by
  have hm' := hm
  unfold maxLen at hm
  replace hm' := Lib.hid hm'
  go_enter Try.func53, Try.ntmps53
  go_wp2
  go_loopw [5] (fun n w' => ∃ k : Nat, n = .int .i64 (k : Int) ∧ i + k ≤ s.size ∧ (∀ j, j < k → LX.inC (LX.clAt (bsOf s) (i + j)) = true) ∧ Drw w w') (fun n _ => s.size - (intOf n).toNat)
  case atStart => exact ⟨0, rfl, by omega, fun j hj => absurd hj (by omega), .refl _⟩
  case round =>
    obtain ⟨k, rfl, hk, ha, hd⟩ := hrel
    have hexit : (s.size ≤ i + k ∨ LX.inC (LX.clAt (bsOf s) (i + k)) = false) → LX.run LX.inC (bsOf s) i = i + k := fun hx =>
      LX.run_eq (by rw [bsOf_length]; exact hk) ha (by rw [bsOf_length]; exact hx)
    replace ha := Lib.hid ha
    replace hexit := Lib.hid hexit
    have h1 := h.drw hd
    have c0 := h1.text
    have c1 := h1.at_
    have hw : IntKind.i64.wrap ((i : Int) + (k : Int)) = (i : Int) + (k : Int) := IntWalk.i64_in _ (by omega)
    have q0 : (0 : Int) ≤ (i : Int) + (k : Int) := by omega
    have q1 : ((i : Int) + (k : Int)).toNat = i + k := by omega
    by_cases hlt : i + k < s.size
    · have q2 : (i : Int) + (k : Int) < (s.size : Int) := by omega
      have hb := byte_range (s[i + k]'hlt)
      have hc := clAt_get s (i + k) hlt
      cases hp : LX.inC (LX.clAt (bsOf s) (i + k))
      · go_wp2
        go_quiet ((first | (go_at_call 56; exact quiet_left (classOf_any _ (by omega) (by omega) _)) | (go_at_call 55; exact quiet_left (inComment_any _ _))))
        clear hw
        go_wp2_with fail
        refine (take_any (i := i) (n := k) _ (h.drw (hd.drewN _)) hk hm'.out).mono ?_
        rintro e w2 ⟨rfl, hput⟩
        go_wp2
        go_ret
        rw [hexit.out (.inr hp)]
        exact ⟨rfl, (hd.drewN _).put hput⟩
      · go_wp2
        go_quiet ((first | (go_at_call 56; exact quiet_left (classOf_any _ (by omega) (by omega) _)) | (go_at_call 55; exact quiet_left (inComment_any _ _))))
        clear hw
        go_wp2
        go_roundw
        case rel =>
          refine ⟨k + 1, by go_num, by omega, fun j hj => ?_, hd.drewN _⟩
          by_cases hjk : j = k
          · rw [hjk]; exact hp
          · exact ha.out j (by omega)
        case measure => simp [intOf]; omega
    · have q2 : (s.size : Int) ≤ (i : Int) + (k : Int) := by omega
      have q3 : decide ((i : Int) + (k : Int) < (s.size : Int)) = false := by simpa using q2
      go_wp2
      go_quiet (fail)
      clear hw
      go_wp2_with fail
      refine (take_any (i := i) (n := k) _ (h.drw (hd.drewN _)) hk hm'.out).mono ?_
      rintro e w2 ⟨rfl, hput⟩
      go_wp2
      go_ret
      rw [hexit.out (.inl (by omega))]
      exact ⟨rfl, (hd.drewN _).put hput⟩

set_option maxRecDepth 100000 in
set_option maxHeartbeats 4000000 in
theorem takeWord_any {b : Nat} {s : ByteArray} {i : Nat} {tl : List Value} {t : TypeId} (w : World) (h : InAt w b s i tl t) (hi : i ≤ s.size) (hm : s.size ≤ maxLen) :
    Calls Try.prog 53 #[.pointer (some ⟨b, 0, none⟩), .func (.func 57) #[] #[]] w fun e w' => e = .returned (.string (s.extract i (LX.run LX.inW (bsOf s) i))) ∧ Put b (LX.run LX.inW (bsOf s) i) w w' := by
  have hm' := hm
  unfold maxLen at hm
  replace hm' := Lib.hid hm'
  go_enter Try.func53, Try.ntmps53
  go_wp2
  go_loopw [5] (fun n w' => ∃ k : Nat, n = .int .i64 (k : Int) ∧ i + k ≤ s.size ∧ (∀ j, j < k → LX.inW (LX.clAt (bsOf s) (i + j)) = true) ∧ Drw w w') (fun n _ => s.size - (intOf n).toNat)
  case atStart => exact ⟨0, rfl, by omega, fun j hj => absurd hj (by omega), .refl _⟩
  case round =>
    obtain ⟨k, rfl, hk, ha, hd⟩ := hrel
    have hexit : (s.size ≤ i + k ∨ LX.inW (LX.clAt (bsOf s) (i + k)) = false) → LX.run LX.inW (bsOf s) i = i + k := fun hx =>
      LX.run_eq (by rw [bsOf_length]; exact hk) ha (by rw [bsOf_length]; exact hx)
    replace ha := Lib.hid ha
    replace hexit := Lib.hid hexit
    have h1 := h.drw hd
    have c0 := h1.text
    have c1 := h1.at_
    have hw : IntKind.i64.wrap ((i : Int) + (k : Int)) = (i : Int) + (k : Int) := IntWalk.i64_in _ (by omega)
    have q0 : (0 : Int) ≤ (i : Int) + (k : Int) := by omega
    have q1 : ((i : Int) + (k : Int)).toNat = i + k := by omega
    by_cases hlt : i + k < s.size
    · have q2 : (i : Int) + (k : Int) < (s.size : Int) := by omega
      have hb := byte_range (s[i + k]'hlt)
      have hc := clAt_get s (i + k) hlt
      cases hp : LX.inW (LX.clAt (bsOf s) (i + k))
      · go_wp2
        go_quiet ((first | (go_at_call 56; exact quiet_left (classOf_any _ (by omega) (by omega) _)) | (go_at_call 57; exact quiet_left (inWord_any _ _))))
        clear hw
        go_wp2_with fail
        refine (take_any (i := i) (n := k) _ (h.drw (hd.drewN _)) hk hm'.out).mono ?_
        rintro e w2 ⟨rfl, hput⟩
        go_wp2
        go_ret
        rw [hexit.out (.inr hp)]
        exact ⟨rfl, (hd.drewN _).put hput⟩
      · go_wp2
        go_quiet ((first | (go_at_call 56; exact quiet_left (classOf_any _ (by omega) (by omega) _)) | (go_at_call 57; exact quiet_left (inWord_any _ _))))
        clear hw
        go_wp2
        go_roundw
        case rel =>
          refine ⟨k + 1, by go_num, by omega, fun j hj => ?_, hd.drewN _⟩
          by_cases hjk : j = k
          · rw [hjk]; exact hp
          · exact ha.out j (by omega)
        case measure => simp [intOf]; omega
    · have q2 : (s.size : Int) ≤ (i : Int) + (k : Int) := by omega
      have q3 : decide ((i : Int) + (k : Int) < (s.size : Int)) = false := by simpa using q2
      go_wp2
      go_quiet (fail)
      clear hw
      go_wp2_with fail
      refine (take_any (i := i) (n := k) _ (h.drw (hd.drewN _)) hk hm'.out).mono ?_
      rintro e w2 ⟨rfl, hput⟩
      go_wp2
      go_ret
      rw [hexit.out (.inl (by omega))]
      exact ⟨rfl, (hd.drewN _).put hput⟩

set_option maxRecDepth 100000 in
set_option maxHeartbeats 4000000 in
theorem takeNumber_any {b : Nat} {s : ByteArray} {i : Nat} {tl : List Value} {t : TypeId} (w : World) (h : InAt w b s i tl t) (hi : i ≤ s.size) (hm : s.size ≤ maxLen) :
    Calls Try.prog 53 #[.pointer (some ⟨b, 0, none⟩), .func (.func 58) #[] #[]] w fun e w' => e = .returned (.string (s.extract i (LX.run LX.inN (bsOf s) i))) ∧ Put b (LX.run LX.inN (bsOf s) i) w w' := by
  have hm' := hm
  unfold maxLen at hm
  replace hm' := Lib.hid hm'
  go_enter Try.func53, Try.ntmps53
  go_wp2
  go_loopw [5] (fun n w' => ∃ k : Nat, n = .int .i64 (k : Int) ∧ i + k ≤ s.size ∧ (∀ j, j < k → LX.inN (LX.clAt (bsOf s) (i + j)) = true) ∧ Drw w w') (fun n _ => s.size - (intOf n).toNat)
  case atStart => exact ⟨0, rfl, by omega, fun j hj => absurd hj (by omega), .refl _⟩
  case round =>
    obtain ⟨k, rfl, hk, ha, hd⟩ := hrel
    have hexit : (s.size ≤ i + k ∨ LX.inN (LX.clAt (bsOf s) (i + k)) = false) → LX.run LX.inN (bsOf s) i = i + k := fun hx =>
      LX.run_eq (by rw [bsOf_length]; exact hk) ha (by rw [bsOf_length]; exact hx)
    replace ha := Lib.hid ha
    replace hexit := Lib.hid hexit
    have h1 := h.drw hd
    have c0 := h1.text
    have c1 := h1.at_
    have hw : IntKind.i64.wrap ((i : Int) + (k : Int)) = (i : Int) + (k : Int) := IntWalk.i64_in _ (by omega)
    have q0 : (0 : Int) ≤ (i : Int) + (k : Int) := by omega
    have q1 : ((i : Int) + (k : Int)).toNat = i + k := by omega
    by_cases hlt : i + k < s.size
    · have q2 : (i : Int) + (k : Int) < (s.size : Int) := by omega
      have hb := byte_range (s[i + k]'hlt)
      have hc := clAt_get s (i + k) hlt
      cases hp : LX.inN (LX.clAt (bsOf s) (i + k))
      · go_wp2
        go_quiet ((first | (go_at_call 56; exact quiet_left (classOf_any _ (by omega) (by omega) _)) | (go_at_call 58; exact quiet_left (inNumber_any _ _))))
        clear hw
        go_wp2_with fail
        refine (take_any (i := i) (n := k) _ (h.drw (hd.drewN _)) hk hm'.out).mono ?_
        rintro e w2 ⟨rfl, hput⟩
        go_wp2
        go_ret
        rw [hexit.out (.inr hp)]
        exact ⟨rfl, (hd.drewN _).put hput⟩
      · go_wp2
        go_quiet ((first | (go_at_call 56; exact quiet_left (classOf_any _ (by omega) (by omega) _)) | (go_at_call 58; exact quiet_left (inNumber_any _ _))))
        clear hw
        go_wp2
        go_roundw
        case rel =>
          refine ⟨k + 1, by go_num, by omega, fun j hj => ?_, hd.drewN _⟩
          by_cases hjk : j = k
          · rw [hjk]; exact hp
          · exact ha.out j (by omega)
        case measure => simp [intOf]; omega
    · have q2 : (s.size : Int) ≤ (i : Int) + (k : Int) := by omega
      have q3 : decide ((i : Int) + (k : Int) < (s.size : Int)) = false := by simpa using q2
      go_wp2
      go_quiet (fail)
      clear hw
      go_wp2_with fail
      refine (take_any (i := i) (n := k) _ (h.drw (hd.drewN _)) hk hm'.out).mono ?_
      rintro e w2 ⟨rfl, hput⟩
      go_wp2
      go_ret
      rw [hexit.out (.inl (by omega))]
      exact ⟨rfl, (hd.drewN _).put hput⟩
end Go.Proofs.Ytglbmiadgdadfaa
