/- lex.tokens: the tokens of a text, handed over. -/
import Derived.Laws.EntriesVeiled
import Derived.Test.YtglbmiadgdadfaaLexLine
namespace Go.Proofs.Ytglbmiadgdadfaa
open Go.RowKit

attribute [local go_sem] Oper.semAt_some
set_option maxHeartbeats 400000 in
theorem tokens_any (s : ByteArray) (w : World) :
    Calls Try.prog 22 #[.string s] w fun e w' => e = .returned (.func (.func 29) #[] #[.pointer (some ⟨w.heap.size, 0, none⟩)]) ∧ w.alloc (.cells #[.string s] 9) = w' := by
  go_enter Try.func22, Try.ntmps22
  go_wp2
  go_ret
  exact ⟨rfl, rfl⟩
/-- What the loop carries. -/
def ToksRel (b : Nat) (s : ByteArray) (l : Nat) (J : List (LX.Tk × Nat) → World → Prop) (W : World) : Prop :=
  ∃ (j : Nat) (pr : List (LX.Tk × Nat)), j ≤ s.size ∧ InAt W b s j [.func (.yield l) #[] #[]] 83 ∧ J pr W ∧ Hid (LX.ys (bsOf s) 0 false = pr ++ LX.ys (bsOf s) j false)
def ToksEnd (s : ByteArray) (J Jx : List (LX.Tk × Nat) → World → Prop) (e : Ending) (W' : World) : Prop :=
  (∃ v, e = .returned v) ∧ (J (LX.ys (bsOf s) 0 false) W' ∨ ∃ pre, pre <+: LX.ys (bsOf s) 0 false ∧ Jx pre W')

set_option maxRecDepth 100000 in
set_option maxHeartbeats 4000000 in
theorem tokens1_gives (n : Nat) (hn : 1 ≤ n) (s : ByteArray) (hm : s.size ≤ 16384) (B1 : Nat) (w : World) (hB1 : w.heap[B1]? = some (.cells #[.string s] 9 (0, 0))) :
    GivesTill Fence.wide n Try.prog 29 #[.pointer (some ⟨B1, 0, none⟩)] (encL s) exL 61 (fun _ => False) (LX.ys (bsOf s) 0 false) w := by
  intro l J Jx W hW hJ hJx hY hJ0
  replace hY := Lib.hid (fun pre x W1 hj hp => yield_wide (m' := n - 1) (hY pre x W1 hj hp))
  have hlt1 := (Array.getElem?_eq_some_iff.1 hB1).1
  have hB : W.heap[B1]? = some (.cells #[.string s] 9 (0, 0)) := (hW.block B1 hlt1).trans hB1
  have c0 : W.cell? ⟨B1, 0, none⟩ = some (.string s) := cell_of_row W B1 0 _ _ (0, 0) hB
  have hI : InAt (W.alloc (.cells #[.string s, .int .i64 0, .func (.yield l) #[] #[]] 83)) W.heap.size s 0 [.func (.yield l) #[] #[]] 83 := heap_alloc_new W _
  have hJ1 := hJ _ _ _ hJ0 (Chg.alloc W (.cells #[.string s, .int .i64 0, .func (.yield l) #[] #[]] 83))
  suffices H : CallsIn Fence.wide n Try.prog 29 (#[.func (.yield l) #[] #[]] ++ #[.pointer (some ⟨B1, 0, none⟩)]) W (ToksEnd s J Jx) from H.mono fun _ _ h => ⟨h.1, h.2⟩
  refine callsIn_of_wp Try.func29 rfl trivial ?_ rfl
  simp only [Try.ntmps29, List.size_toArray, List.length_cons, List.length_nil, Nat.reduceAdd, Nat.reduceSub, Array.replicate_succ, Array.replicate_zero, List.push_toArray, List.append_toArray, List.nil_append, List.cons_append]
  gi_wp2_with fail
  generalize W.alloc (.cells #[.string s, .int .i64 0, .func (.yield l) #[] #[]] 83) = W1 at *
  have hb := Lib.hid (Nat.le_refl W.heap.size)
  clear hB hB1 c0 hJ0
  have hlen := Lib.hid (bsOf_length s)
  generalize W.heap.size = b at *
  gi_loopw [] (fun W => ToksRel b s l J W) (fun W => LineMu b s W)
  case atStart => exact ⟨0, [], by omega, hI, hJ1, Lib.hid rfl⟩
  case round =>
    obtain ⟨j, pr, hj, hIr, hJr, hYr⟩ := hrel
    have hmu := Lib.hid hIr.mu
    have CL := Lib.hid (line_in 5 (by omega) hm (LX.ys (bsOf s) 0 false) pr J Jx wr hb.out hIr hj hJr hYr.out hJ (fun pre x W1 hj hp => yield_wide (hY.out pre x W1 hj hp)))
    gi_wp2_with fail
    refine ⟨trivial, ?_⟩
    refine (callsIn_wide.2 (callsIn_wide.1 CL.out)).mono ?_
    rintro e w2 (⟨rfl, j2, pr2, hjj, hj2, hc2, hI2, hJ2, hY2⟩ | ⟨rfl, hend⟩)
    · replace hc2 := Lib.hid hc2
      by_cases hlt : j2 < s.size
      · have t1 : ((j2 : Int) == (s.size : Int)) = false := by simp; omega
        rw [if_pos hlt] at hY2
        replace hY2 := Lib.hid hY2
        gi_wp2_with fail
        refine ⟨trivial, ?_⟩
        refine (callsIn_wide.2 (done_any w2 hI2)).mono ?_
        rintro e w3 ⟨rfl, hd3⟩
        have hI3 := hI2.drw hd3
        have hJ3 := hJ _ _ _ hJ2 (Chg.of_below hd3.below)
        clear hd3 hI2 hJ2
        gi_wp2_with fail
        refine ⟨trivial, ?_⟩
        refine (callsIn_wide.2 (take_any (n := 1) w3 hI3 (by omega) (by unfold maxLen; omega))).mono ?_
        rintro e w4 ⟨rfl, hp4⟩
        have hI4 := hI3.put hp4
        have hJ4 := hJ _ _ _ hJ3 (Chg.of_grown1 hp4.grown hb.out hI3.ex)
        clear hp4 hI3 hJ3
        gi_wp2
        go_roundw
        case rel => exact ⟨j2 + 1, pr2, by omega, hI4, hJ4, hY2⟩
        case measure =>
          rw [hI4.mu, hmu.out]
          omega
      · have t1 : ((j2 : Int) == (s.size : Int)) = true := by simp; omega
        rw [if_neg hlt, List.append_nil] at hY2
        replace hY2 := Lib.hid hY2
        gi_wp2_with fail
        refine ⟨trivial, ?_⟩
        refine (callsIn_wide.2 (done_any w2 hI2)).mono ?_
        rintro e w3 ⟨rfl, hd3⟩
        have hJ3 := hJ _ _ _ hJ2 (Chg.of_below hd3.below)
        clear hd3 hI2 hJ2
        gi_wp2
        go_end0
        exact ⟨⟨_, rfl⟩, .inl (by rw [hY2.out]; exact hJ3)⟩
    · replace hend := Lib.hid hend
      gi_wp2
      refine ⟨trivial, ?_⟩
      gi_wp2
      go_end0
      exact ⟨⟨_, rfl⟩, hend.out⟩
end Go.Proofs.Ytglbmiadgdadfaa
