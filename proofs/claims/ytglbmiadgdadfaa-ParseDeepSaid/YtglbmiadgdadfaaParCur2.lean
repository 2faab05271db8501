/- The parser's cursor: what stands on take. -/
import Derived.Test.YtglbmiadgdadfaaParCur
namespace Go.Proofs.Ytglbmiadgdadfaa
open Go.RowKit Go.Shelf

attribute [local go_sem] Oper.semAt_some
namespace PP
theorem take_ok {l : List ByteArray} {s s' : PX.S} {t : TokD} (h : PX.take l s = .ok t s') : t = PX.next s := by
  unfold PX.take PX.takeIf at h
  split at h
  · cases h; rfl
  · cases h
theorem tok_f0 (k x p : Value) (w : World) : (Instr.field 61 (.agg #[k, x, p]) 0).run Try.prog w = .ok k w := by kernel_rfl
theorem tok_f1 (k x p : Value) (w : World) : (Instr.field 61 (.agg #[k, x, p]) 1).run Try.prog w = .ok x w := by kernel_rfl
theorem tok_f2 (k x p : Value) (w : World) : (Instr.field 61 (.agg #[k, x, p]) 2).run Try.prog w = .ok p w := by kernel_rfl
theorem symsOk_one {x : ByteArray} (h : x ≠ ⟨#[]⟩) : SymsOk [x] := fun y hy => by simp at hy; subst hy; exact h

set_option maxRecDepth 100000 in
set_option maxHeartbeats 4000000 in
theorem takes_any (b : Nat) (s : PX.S) (h : Hd) (x : ByteArray) (w : World) (p : PS w b s h) (hx : x ≠ ⟨#[]⟩) :
    Calls Try.prog 48 #[.pointer (some ⟨b, 0, none⟩), .string x] w (Ends w b h (fun r => .bool r) (PX.takes x s)) := by
  have A1 := fun W : World => (Below.refl W.heap.size W).alloc (Nat.le_refl _) (.cells #[.string x] 9)
  have hI := Lib.hid (is_any b s h _ [x] _ (p.below (A1 w)) (strSl_one w x))
  have hT := Lib.hid fun W (hp : PS W b s h) => take_any b s h _ [x] _ (hp.below (A1 W)) (strSl_one W x) (symsOk_one hx)
  replace p := Lib.hid p
  replace A1 := Lib.hid A1
  unfold PX.takes
  generalize PX.isS [x] s = c at *
  cases c
  · go_enter Try.func48, Try.ntmps48
    go_wp2_with (first
      | (go_at_call 52; refine (hI.out).mono ?_; rintro e w1 ⟨rfl, B1⟩))
    go_ret
    have B := (A1.out w).trans (B1.mono (A1.out w).size)
    exact ⟨Fr.of_below B, rfl, p.out.below B⟩
  · rcases ht : PX.take [x] s with ⟨t, s'⟩ | ⟨pl, er⟩
    · rw [ht] at hT
      go_enter Try.func48, Try.ntmps48
      go_wp2_with (first
        | (go_at_call 52; refine (hI.out).mono ?_; rintro e w1 ⟨rfl, B1⟩)
        | (go_at_call 41; refine (hT.out _ ((p.out.below ((A1.out w).trans (B1.mono (A1.out w).size))))).mono ?_; rintro e w2 ⟨F, rfl, P⟩))
      go_ret
      have B := (A1.out w).trans (B1.mono (A1.out w).size)
      exact ⟨(Fr.of_below (T := []) (b := b) (B.trans ((A1.out w1).mono B.size))).trans F, rfl, P⟩
    · rw [ht] at hT
      go_enter Try.func48, Try.ntmps48
      go_wp2_with (first
        | (go_at_call 52; refine (hI.out).mono ?_; rintro e w1 ⟨rfl, B1⟩)
        | (go_at_call 41; refine (hT.out _ ((p.out.below ((A1.out w).trans (B1.mono (A1.out w).size))))).mono ?_; rintro e w2 ⟨F, rfl⟩))
      have B := (A1.out w).trans (B1.mono (A1.out w).size)
      refine ⟨rfl, (Fr.of_below (T := []) (b := b) (B.trans ((A1.out w1).mono B.size))).trans F, ?_⟩
      rename_i hh
      exact hh.symm

set_option maxRecDepth 100000 in
set_option maxHeartbeats 4000000 in
theorem num_any (b : Nat) (s : PX.S) (h : Hd) (w : World) (p : PS w b s h) :
    Calls Try.prog 65 #[.pointer (some ⟨b, 0, none⟩)] w (Ends w b h (fun n => .int .u8 n) (PX.num s)) := by
  have A1 := (Below.refl w.heap.size w).alloc (Nat.le_refl _) (.cells #[.string ⟨#[78, 85, 77]⟩] 9)
  have hT := Lib.hid (take_any b s h _ [PX.sNUM] _ (p.below A1) (strSl_one w _) (symsOk_one (by decide)))
  have hok := Lib.hid p.next_ok
  replace A1 := Lib.hid A1
  unfold PX.num
  rcases ht : PX.take [PX.sNUM] s with ⟨t, s'⟩ | ⟨pl, er⟩
  · have htn := take_ok ht
    rw [ht] at hT
    rw [← htn] at hok
    have hN := Lib.hid fun W => @Go.Proofs.Ytglbmiadgdadfaa.num_any t.x W (by have := hok.out.1; unfold maxLen; omega)
    have e : (.ok (PX.numI t.x) s' : PX.R Int) = (PX.R.ok t s').bind fun t s => .ok (PX.numI t.x) s := rfl
    rw [← e]
    unfold LX.numV at hN
    have hv : PX.numI t.x = (((if LX.numOk (bsOf t.x) then LX.numVal (bsOf t.x) else 0 : Nat)) : Int) := by unfold PX.numI; split <;> rfl
    rw [hv]
    generalize (if LX.numOk (bsOf t.x) then LX.numVal (bsOf t.x) else 0 : Nat) = m at *
    have hf1 := tok_f1
    clear htn ht e hv hok
    go_enter Try.func65, Try.ntmps65
    go_wp2_with (first
      | (go_at_call 41; refine (hT.out).mono ?_; rintro e w2 ⟨F, rfl, P⟩; unfold tokV)
      | (go_at_call 71; refine (hN.out _).mono ?_; rintro e w3 ⟨rfl, B3⟩))
    go_ret
    exact ⟨((Fr.of_below (T := []) (b := b) A1.out).trans F).trans (.of_below B3), rfl, P.below B3⟩
  · rw [ht] at hT
    go_enter Try.func65, Try.ntmps65
    go_wp2_with (first
      | (go_at_call 41; refine (hT.out).mono ?_; rintro e w2 ⟨F, rfl⟩))
    refine ⟨rfl, (Fr.of_below (T := []) (b := b) A1.out).trans F, ?_⟩
    rename_i hh
    exact hh.symm
set_option maxRecDepth 100000 in
set_option maxHeartbeats 4000000 in
theorem reg_any (b : Nat) (s : PX.S) (h : Hd) (w : World) (p : PS w b s h) :
    Calls Try.prog 85 #[.pointer (some ⟨b, 0, none⟩)] w (Ends w b h (fun n => .int .u8 n) (PX.reg s)) := by
  have A1 := (Below.refl w.heap.size w).alloc (Nat.le_refl _) (.cells #[.string ⟨#[82, 69, 71]⟩] 9)
  have hT := Lib.hid (take_any b s h _ [PX.sREG] _ (p.below A1) (strSl_one w _) (symsOk_one (by decide)))
  have hok := Lib.hid p.next_ok
  replace A1 := Lib.hid A1
  unfold PX.reg
  rcases ht : PX.take [PX.sREG] s with ⟨t, s'⟩ | ⟨pl, er⟩
  · have htn := take_ok ht
    rw [ht] at hT
    rw [← htn] at hok
    have hN := Lib.hid fun W => @Go.Proofs.Ytglbmiadgdadfaa.reg_any t.x W (by have := hok.out.1; unfold maxLen; omega)
    have e : (.ok (PX.regI t.x) s' : PX.R Int) = (PX.R.ok t s').bind fun t s => .ok (PX.regI t.x) s := rfl
    rw [← e]
    unfold LX.regV at hN
    have hv : PX.regI t.x = (((if LX.regOk (bsOf t.x) then LX.regN (bsOf t.x) else 0 : Nat)) : Int) := by unfold PX.regI; split <;> rfl
    rw [hv]
    generalize (if LX.regOk (bsOf t.x) then LX.regN (bsOf t.x) else 0 : Nat) = m at *
    have hf1 := tok_f1
    clear htn ht e hv hok
    go_enter Try.func85, Try.ntmps85
    go_wp2_with (first
      | (go_at_call 41; refine (hT.out).mono ?_; rintro e w2 ⟨F, rfl, P⟩; unfold tokV)
      | (go_at_call 63; refine (hN.out _).mono ?_; rintro e w3 ⟨rfl, B3⟩))
    go_ret
    exact ⟨((Fr.of_below (T := []) (b := b) A1.out).trans F).trans (.of_below B3), rfl, P.below B3⟩
  · rw [ht] at hT
    go_enter Try.func85, Try.ntmps85
    go_wp2_with (first
      | (go_at_call 41; refine (hT.out).mono ?_; rintro e w2 ⟨F, rfl⟩))
    refine ⟨rfl, (Fr.of_below (T := []) (b := b) A1.out).trans F, ?_⟩
    rename_i hh
    exact hh.symm

/-- An argument, as a value. -/
def argV (a : PX.ArgD) : Value := .agg #[.bool a.r, .int .u8 a.n]
set_option maxRecDepth 100000 in
set_option maxHeartbeats 4000000 in
theorem arg_any (b : Nat) (s : PX.S) (h : Hd) (w : World) (p : PS w b s h) :
    Calls Try.prog 84 #[.pointer (some ⟨b, 0, none⟩)] w (Ends w b h argV (PX.arg s)) := by
  have A0 := (Below.refl w.heap.size w).alloc (Nat.le_refl _) (.cells #[.bool false, .int .u8 0] 44)
  have A1 := A0.alloc A0.size (.cells #[.string ⟨#[82, 69, 71]⟩] 9)
  have hI := is_any b s h _ [PX.sREG] _ (p.below A1) (strSl_one _ _)
  simp only [World.size_alloc] at hI
  replace hI := Lib.hid hI
  have hR := Lib.hid fun W (hp : PS W b s h) => reg_any b s h W hp
  have hN := Lib.hid fun W (hp : PS W b s h) => PP.num_any b s h W hp
  have hz := (((Below.refl _ _).alloc (Nat.le_refl _) (.cells #[.string ⟨#[82, 69, 71]⟩] 9)).block w.heap.size (by simp)).trans (heap_alloc_new w (.cells #[.bool false, .int .u8 0] 44))
  have hb := p.lt
  have hgl := p.g_lt
  replace A1 := Lib.hid A1
  replace p := Lib.hid p
  unfold PX.arg
  generalize PX.isS [PX.sREG] s = c at *
  cases c
  · rcases ht : PX.num s with ⟨t, s'⟩ | ⟨pl, er⟩
    · rw [ht] at hN
      go_enter Try.func84, Try.ntmps84
      go_wp2_with (first
        | (go_at_call 52; refine (hI.out).mono ?_; rintro e w1 ⟨rfl, B1⟩; have B := A1.out.trans (B1.mono (by omega)))
        | (go_at_call 65; refine (hN.out _ (p.out.below B)).mono ?_; rintro e w2 ⟨F, rfl, P⟩;
           have hz2 := F.box ((B1.block w.heap.size (by omega)).trans hz) (by omega) (by simp);
           have z0 := cell_of_row _ _ 0 _ _ _ hz2; have z1 := cell_of_row _ _ 1 _ _ _ hz2; have fz := fun j => frozen_of_row _ _ j _ _ hz2;
           simp only [List.getElem?_toArray, List.getElem?_cons_zero, List.getElem?_cons_succ] at z0 z1))
      have F' := Fr.trans (Fr.of_below (T := []) (b := b) B) F
      refine bodyPost_ret (v := argV ⟨false, t⟩) ?_ rfl ⟨(F'.setNew (Nat.le_refl _) 0 _).setNew (Nat.le_refl _) 1 _, rfl, (P.setOther (by omega) (by omega) 0 _).setOther (by omega) (by omega) 1 _⟩
      unfold argV
      simp [results, Try.f84, go_sem, z0, z1]
    · rw [ht] at hN
      go_enter Try.func84, Try.ntmps84
      go_wp2_with (first
        | (go_at_call 52; refine (hI.out).mono ?_; rintro e w1 ⟨rfl, B1⟩; have B := A1.out.trans (B1.mono (by omega)))
        | (go_at_call 65; refine (hN.out _ (p.out.below B)).mono ?_; rintro e w2 ⟨F, rfl⟩))
      refine ⟨rfl, (Fr.of_below (T := []) (b := b) B).trans F, ?_⟩
      rename_i hh
      exact hh.symm
  · rcases ht : PX.reg s with ⟨t, s'⟩ | ⟨pl, er⟩
    · rw [ht] at hR
      go_enter Try.func84, Try.ntmps84
      go_wp2_with (first
        | (go_at_call 52; refine (hI.out).mono ?_; rintro e w1 ⟨rfl, B1⟩; have B := A1.out.trans (B1.mono (by omega)))
        | (go_at_call 85; refine (hR.out _ (p.out.below B)).mono ?_; rintro e w2 ⟨F, rfl, P⟩;
           have hz2 := F.box ((B1.block w.heap.size (by omega)).trans hz) (by omega) (by simp);
           have z0 := cell_of_row _ _ 0 _ _ _ hz2; have z1 := cell_of_row _ _ 1 _ _ _ hz2; have fz := fun j => frozen_of_row _ _ j _ _ hz2;
           simp only [List.getElem?_toArray, List.getElem?_cons_zero, List.getElem?_cons_succ] at z0 z1))
      have F' := Fr.trans (Fr.of_below (T := []) (b := b) B) F
      refine bodyPost_ret (v := argV ⟨true, t⟩) ?_ rfl ⟨(F'.setNew (Nat.le_refl _) 0 _).setNew (Nat.le_refl _) 1 _, rfl, (P.setOther (by omega) (by omega) 0 _).setOther (by omega) (by omega) 1 _⟩
      unfold argV
      simp [results, Try.f84, go_sem, z0, z1]
    · rw [ht] at hR
      go_enter Try.func84, Try.ntmps84
      go_wp2_with (first
        | (go_at_call 52; refine (hI.out).mono ?_; rintro e w1 ⟨rfl, B1⟩; have B := A1.out.trans (B1.mono (by omega)))
        | (go_at_call 85; refine (hR.out _ (p.out.below B)).mono ?_; rintro e w2 ⟨F, rfl⟩))
      refine ⟨rfl, (Fr.of_below (T := []) (b := b) B).trans F, ?_⟩
      rename_i hh
      exact hh.symm
end PP
end Go.Proofs.Ytglbmiadgdadfaa
