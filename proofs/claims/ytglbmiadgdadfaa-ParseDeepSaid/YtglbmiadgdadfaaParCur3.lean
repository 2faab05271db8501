/- The parser's cursor: a word, the last end; what a sign does. -/
import Derived.Test.YtglbmiadgdadfaaParCur2
namespace Go.Proofs.Ytglbmiadgdadfaa
open Go.RowKit Go.Shelf

attribute [local go_sem] Oper.semAt_some
namespace PP
set_option maxRecDepth 100000 in
set_option maxHeartbeats 4000000 in
theorem takeWord_any (b : Nat) (s : PX.S) (h : Hd) (w : World) (p : PS w b s h) :
    Calls Try.prog 46 #[.pointer (some ⟨b, 0, none⟩)] w (Ends w b h tokV (PX.takeWord s)) := by
  have B0 := (Below.refl w.heap.size w).alloc (Nat.le_refl _) (.cells #[.int .u8 0, .string ⟨#[]⟩, .int .i64 0] 61)
  have hN := Lib.hid (next_any b s h _ (p.below B0))
  have hf : ((PX.next s).k == 1) = true → s.rest ≠ [] := fun hk hr => by
    unfold PX.next at hk; rw [hr] at hk; simp at hk
  have hT := Lib.hid fun W hp => takeIf_any b s h ((PX.next s).k == 1) W hp hf
  have hb := p.lt
  have hgl := p.g_lt
  have hz := heap_alloc_new w (.cells #[.int .u8 0, .string ⟨#[]⟩, .int .i64 0] 61)
  have hf0 := tok_f0
  replace p := Lib.hid p
  clear hf
  unfold PX.takeWord
  obtain ⟨c, hc⟩ : ∃ c, ((PX.next s).k == 1) = c := ⟨_, rfl⟩
  rw [hc] at hT ⊢
  rcases hx : PX.takeIf c s with ⟨t, s'⟩ | ⟨pl, er⟩
  · rw [hx] at hT
    go_enter Try.func46, Try.ntmps46
    go_wp2_with (first
      | (go_at_call 21; refine (hN.out).mono ?_; rintro e w1 ⟨rfl, B1⟩; unfold tokV; simp only [World.size_alloc] at B1)
      | (go_at_call 51; refine (hT.out _ ((p.out.below B0).below (by simpa using B1))).mono ?_; rintro e w2 ⟨F, rfl, P⟩; unfold tokV
         have hz2 := F.box ((B1.block w.heap.size (by omega)).trans hz) (by omega) (by simp)
         have z0 := cell_of_row _ _ 0 _ _ _ hz2; have z1 := cell_of_row _ _ 1 _ _ _ hz2; have z2 := cell_of_row _ _ 2 _ _ _ hz2; have fz := fun j => frozen_of_row _ _ j _ _ hz2
         simp only [List.getElem?_toArray, List.getElem?_cons_zero, List.getElem?_cons_succ] at z0 z1 z2))
    have F' := Fr.trans (Fr.of_below (T := []) (b := b) (B0.trans (B1.mono (by omega)))) F
    refine bodyPost_ret (v := tokV t) ?_ rfl ⟨((F'.setNew (Nat.le_refl _) 0 _).setNew (Nat.le_refl _) 1 _).setNew (Nat.le_refl _) 2 _, rfl, ?_⟩
    · unfold tokV
      simp [results, Try.f46, go_sem, z0, z1, z2]
    · exact ((P.setOther (by omega) (by omega) 0 _).setOther (by omega) (by omega) 1 _).setOther (by omega) (by omega) 2 _
  · rw [hx] at hT
    go_enter Try.func46, Try.ntmps46
    go_wp2_with (first
      | (go_at_call 21; refine (hN.out).mono ?_; rintro e w1 ⟨rfl, B1⟩; unfold tokV; simp only [World.size_alloc] at B1)
      | (go_at_call 51; refine (hT.out _ ((p.out.below B0).below (by simpa using B1))).mono ?_; rintro e w2 ⟨F, rfl⟩))
    refine ⟨rfl, Fr.trans (Fr.of_below (B0.trans (B1.mono (by omega)))) F, ?_⟩
    rename_i hh
    exact hh.symm

set_option maxRecDepth 100000 in
set_option maxHeartbeats 4000000 in
theorem takeLast_any (b : Nat) (s : PX.S) (h : Hd) (w : World) (p : PS w b s h) :
    Calls Try.prog 27 #[.pointer (some ⟨b, 0, none⟩)] w (Ends w b h (fun _ => .tuple #[]) (PX.takeLast s)) := by
  have A1 := (Below.refl w.heap.size w).alloc (Nat.le_refl _) (.cells #[.string ⟨#[69, 78, 68]⟩] 9)
  have hT := Lib.hid (take_any b s h _ [PX.sEND] _ (p.below A1) (strSl_one w _) (symsOk_one (by decide)))
  have hF := Lib.hid fun pl W => fail_any pl 50 W
  have hf2 := tok_f2
  replace A1 := Lib.hid A1
  unfold PX.takeLast
  rcases ht : PX.take [PX.sEND] s with ⟨t, s'⟩ | ⟨pl, er⟩
  · rw [ht] at hT
    clear ht
    have hN := Lib.hid fun W (hp : PS W b s' h) => next_any b s' h W hp
    have e : ((PX.R.ok t s').bind fun _ s => if s.rest.isEmpty then (PX.R.ok () s) else .bad (PX.next s).p 50) = if s'.rest.isEmpty then (PX.R.ok () s') else .bad (PX.next s').p 50 := rfl
    rw [e]
    clear e
    obtain ⟨n, hn⟩ : ∃ n, s'.rest.length = n := ⟨_, rfl⟩
    by_cases h0 : s'.rest = []
    · have hn0 : n = 0 := by rw [← hn, h0]; rfl
      subst hn0
      rw [h0, List.isEmpty_nil, if_pos rfl]
      go_enter Try.func27, Try.ntmps27
      go_wp2_with (first
        | (go_at_call 41; refine (hT.out).mono ?_; rintro e w2 ⟨F, rfl, P⟩; unfold tokV;
           obtain ⟨vr, q1, ⟨q2, a, cap, rfl, q3, q4, q5⟩, q6, q7⟩ := id P; have c0 := cell_of_row _ _ 0 _ _ _ q1; unfold psC at c0; simp only [List.getElem?_toArray, List.getElem?_cons_zero, hn] at c0))
      go_end0
      exact ⟨(Fr.of_below (T := []) (b := b) A1.out).trans F, rfl, P⟩
    · obtain ⟨q, hq⟩ : ∃ q, PX.next s' = q := ⟨_, rfl⟩
      have hie : s'.rest.isEmpty = false := by cases hr : s'.rest with | nil => exact absurd hr h0 | cons _ _ => rfl
      have t1 : 0 < n := by
        have : 0 < s'.rest.length := List.length_pos_iff.2 h0
        omega
      rw [hie, if_neg (by simp)]
      rw [hq] at hN ⊢
      go_enter Try.func27, Try.ntmps27
      go_wp2_with (first
        | (go_at_call 41; refine (hT.out).mono ?_; rintro e w2 ⟨F, rfl, P⟩; unfold tokV;
           obtain ⟨vr, q1, ⟨q2, a, cap, rfl, q3, q4, q5⟩, q6, q7⟩ := id P; have c0 := cell_of_row _ _ 0 _ _ _ q1; unfold psC at c0; simp only [List.getElem?_toArray, List.getElem?_cons_zero, hn] at c0)
        | (go_at_call 21; refine (hN.out _ P).mono ?_; rintro e w3 ⟨rfl, B3⟩; unfold tokV)
        | (go_at_call 28; refine (hF.out _ _).mono ?_; rintro e w4 ⟨rfl, rfl⟩))
      refine ⟨rfl, ((Fr.of_below (T := []) (b := b) A1.out).trans F).trans (.of_below B3), ?_⟩
      rename_i hh
      exact hh.symm
  · rw [ht] at hT
    go_enter Try.func27, Try.ntmps27
    go_wp2_with (first
      | (go_at_call 41; refine (hT.out).mono ?_; rintro e w2 ⟨F, rfl⟩))
    refine ⟨rfl, (Fr.of_below (T := []) (b := b) A1.out).trans F, ?_⟩
    rename_i hh
    exact hh.symm

theorem beq_lit (x : ByteArray) (l : List UInt8) : (x == PX.bs l) = (x.toList == l) := by
  have e : bsOf (PX.bs l) = l := by unfold bsOf PX.bs; simp
  rw [toList_bs, bbeq]
  by_cases h : x = PX.bs l
  · subst h; rw [e]; simp
  · have : ¬ bsOf x = l := fun hh => h (bsOf_inj (by rw [e, hh]))
    simp [h, this]
set_option maxRecDepth 100000 in
set_option maxHeartbeats 4000000 in
theorem fnOf_any (x : ByteArray) (w : World) : Calls Try.prog 93 #[.string x] w fun e w' => e = .returned (.int .u8 (PX.fnOf x)) ∧ w = w' := by
  have hE := Lib.hid (show PX.fnOf x = if x.toList == [43] then 1 else if x.toList == [45] then 2 else if x.toList == [94] then 3 else if x.toList == [61, 61] then 4 else if x.toList == [33, 61] then 5 else 6 from by
    unfold PX.fnOf PX.gPlus PX.gMinus PX.gXor PX.gEqEq PX.gNe
    simp only [beq_lit])
  go_enter Try.func93, Try.ntmps93
  go_wp2
  all_goals
    go_ret
    rw [hE.out]
    simp [*]
end PP
end Go.Proofs.Ytglbmiadgdadfaa
