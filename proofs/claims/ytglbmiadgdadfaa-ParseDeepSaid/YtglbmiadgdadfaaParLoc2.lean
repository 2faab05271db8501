/- The parser reads a location's name. -/
import Derived.Deep.QuietTactic
import Derived.BigQuiet
import Derived.Test.YtglbmiadgdadfaaParLoc
namespace Go.Proofs.Ytglbmiadgdadfaa
open Go.RowKit Go.Shelf

attribute [local go_sem] Oper.semAt_some
namespace PP
theorem drewB (W : World) (n : Nat) : Below W.heap.size W (W.drewN n) := below_drewN (Below.refl W.heap.size W) n
set_option maxRecDepth 100000 in
set_option maxHeartbeats 8000000 in
theorem loc_any (b : Nat) (s : PX.S) (h : Hd) (w : World) (L : LS w b s h) :
    Calls Try.prog 64 #[.pointer (some ⟨b, 0, none⟩)] w (Ends1 w b h (fun n => .int .u8 n) (PX.loc s)) := by
  have A1 := (Below.refl w.heap.size w).alloc (Nat.le_refl _) (.cells #[.string ⟨#[78, 65, 77, 69]⟩] 9)
  have hT := Lib.hid (take_any b s h _ [PX.sNAME] _ (L.ps.below A1) (strSl_one w _) (symsOk_one (by decide)))
  have hbl := L.ps.lt
  rcases ht : PX.take [PX.sNAME] s with ⟨t, s'⟩ | ⟨pl, er⟩
  · rw [ht] at hT
    have hmv := mv_take ht
    have hL2 := Lib.hid fun W (F : Fr [] b w W) (P : PS W b s' h) => L.up F hmv P
    have hix : ixI t.x s'.locs = match s'.locs.idxOf? t.x with
      | some i => (i : Int)
      | none => -1 := rfl
    rcases hi : s'.locs.idxOf? t.x with _ | i
    · rw [hi] at hix
      obtain ⟨n, hn⟩ : ∃ n, s'.locs.length = n := ⟨_, rfl⟩
      have hX := fun W (hs : StrC W h.vl s'.locs) => index_any h.vl s'.locs t.x W hs
      rw [hix] at hX
      replace hX := Lib.hid hX
      have hA := fun W (L' : LS W b s' h) => addLoc_any b s' h t.x t.p W L'
      have t1 : decide ((-1 : Int) < 0) = true := by decide
      rcases ha : PX.addLoc t.x t.p s' with ⟨u, s2⟩ | ⟨pl, er⟩
      · have e : PX.loc s = .ok ((n : Int) % 256) s2 := by
          unfold PX.loc; rw [ht]; simp only [PX.R.bind, hi, ha, hn]
        rw [e]
        clear e ht
        rw [ha] at hA
        replace hA := Lib.hid hA
        clear hix hi ha
        go_enter Try.func64, Try.ntmps64
        go_wp2_with (first
          | (go_at_call 41; refine (hT.out).mono ?_; rintro e w2 ⟨F, rfl, P⟩; unfold tokV
             have F0 := (Fr.of_below (T := []) (b := b) A1).trans F
             have L2 := hL2.out _ F0 P
             have hz := heap_alloc_new w2 (.cells #[.int .u8 t.k, .string t.x, .int .i64 t.p] 61)
             have L3 := L2.below ((Below.refl w2.heap.size w2).alloc (Nat.le_refl _) (.cells #[.int .u8 t.k, .string t.x, .int .i64 t.p] 61))
             obtain ⟨vr, q1, -⟩ := id L3.ps
             obtain ⟨_, a, cap, hvl, _⟩ := L3.locs.sl
             have hsl := Lib.hid L3.locs.sl
             rw [hn] at hvl
             have c1 : World.cell? _ _ = some (.slice a n cap) := (cell_of_row _ b 2 _ _ _ q1).trans (congrArg some hvl)
             replace L3 := Lib.hid L3
             rw [hvl] at hX hsl
             replace hvl := Lib.hid hvl))
        go_quiet ((go_at_call 73; exact quiet_left (hX.out _ hsl.out)))
        have B4 := drewB (w2.alloc (.cells #[.int .u8 t.k, .string t.x, .int .i64 t.p] 61)) nq
        go_wp2_with (first
          | (go_at_call 74; refine (hA.out _ (L3.out.below B4)).mono ?_; rintro e w5 ⟨F5, rfl, vl, vi, L5⟩))
        go_ret
        exact ⟨((F0.alloc _).trans (.of_below B4)).up.trans F5, rfl, vl, vi, L5⟩
      · have e : PX.loc s = .bad pl er := by
          unfold PX.loc; rw [ht]; simp only [PX.R.bind, hi, ha]
        rw [e]
        clear e ht
        rw [ha] at hA
        replace hA := Lib.hid hA
        clear hix hi ha
        go_enter Try.func64, Try.ntmps64
        go_wp2_with (first
          | (go_at_call 41; refine (hT.out).mono ?_; rintro e w2 ⟨F, rfl, P⟩; unfold tokV
             have F0 := (Fr.of_below (T := []) (b := b) A1).trans F
             have L2 := hL2.out _ F0 P
             have hz := heap_alloc_new w2 (.cells #[.int .u8 t.k, .string t.x, .int .i64 t.p] 61)
             have L3 := L2.below ((Below.refl w2.heap.size w2).alloc (Nat.le_refl _) (.cells #[.int .u8 t.k, .string t.x, .int .i64 t.p] 61))
             obtain ⟨vr, q1, -⟩ := id L3.ps
             obtain ⟨_, a, cap, hvl, _⟩ := L3.locs.sl
             have hsl := Lib.hid L3.locs.sl
             rw [hn] at hvl
             have c1 : World.cell? _ _ = some (.slice a n cap) := (cell_of_row _ b 2 _ _ _ q1).trans (congrArg some hvl)
             replace L3 := Lib.hid L3
             rw [hvl] at hX hsl
             replace hvl := Lib.hid hvl))
        go_quiet ((go_at_call 73; exact quiet_left (hX.out _ hsl.out)))
        have B4 := drewB (w2.alloc (.cells #[.int .u8 t.k, .string t.x, .int .i64 t.p] 61)) nq
        go_wp2_with (first
          | (go_at_call 74; refine (hA.out _ (L3.out.below B4)).mono ?_; rintro e w5 ⟨F5, rfl⟩))
        refine ⟨rfl, ((F0.alloc _).trans (.of_below B4)).up.trans F5, ?_⟩
        show Ending.panicked _ = failE _ _
        symm
        assumption
    · have e : PX.loc s = .ok ((i : Int) % 256) s' := by
        unfold PX.loc; rw [ht]; simp only [PX.R.bind, hi]
      rw [e]
      clear e ht
      rw [hi] at hix
      have hX := fun W (hs : StrC W h.vl s'.locs) => index_any h.vl s'.locs t.x W hs
      rw [hix] at hX
      replace hX := Lib.hid hX
      have t1 : decide ((i : Int) < 0) = false := by simp
      clear hix hi
      go_enter Try.func64, Try.ntmps64
      go_wp2_with (first
        | (go_at_call 41; refine (hT.out).mono ?_; rintro e w2 ⟨F, rfl, P⟩; unfold tokV
           have F0 := (Fr.of_below (T := []) (b := b) A1).trans F
           have L2 := hL2.out _ F0 P
           have L3 := L2.below ((Below.refl w2.heap.size w2).alloc (Nat.le_refl _) (.cells #[.int .u8 t.k, .string t.x, .int .i64 t.p] 61))
           obtain ⟨vr, q1, -⟩ := id L3.ps
           have c1 : World.cell? _ _ = some h.vl := cell_of_row _ b 2 _ _ _ q1
           have hsl := Lib.hid L3.locs.sl
           replace L3 := Lib.hid L3))
      go_quiet ((go_at_call 73; exact quiet_left (hX.out _ hsl.out)))
      go_wp2
      go_ret
      have B4 := drewB (w2.alloc (.cells #[.int .u8 t.k, .string t.x, .int .i64 t.p] 61)) nq
      exact ⟨((F0.alloc _).trans (.of_below B4)).up, rfl, h.vl, h.vi, L3.out.below B4⟩
  · have e : PX.loc s = .bad pl er := by unfold PX.loc; rw [ht]; rfl
    rw [e]
    rw [ht] at hT
    go_enter Try.func64, Try.ntmps64
    go_wp2_with (first
      | (go_at_call 41; refine (hT.out).mono ?_; rintro e w2 ⟨F, rfl⟩))
    refine ⟨rfl, ((Fr.of_below (T := []) (b := b) A1).trans F).up, ?_⟩
    show Ending.panicked _ = failE _ _
    symm
    assumption
end PP
end Go.Proofs.Ytglbmiadgdadfaa
