/- lex.line: the tokens of a line, handed over. -/
import Derived.Sort.CutIn
import Derived.Test.YtglbmiadgdadfaaRangeTill
import Derived.Test.YtglbmiadgdadfaaWideTail
import Derived.Test.YtglbmiadgdadfaaLexToken
namespace Go.Proofs.Ytglbmiadgdadfaa
open Go.RowKit

attribute [local go_sem] Oper.semAt_some
namespace LX
/-- The token that begins at i, with its error. -/
def hd (L : List UInt8) (i : Nat) : Tk × Nat :=
  if clAt L i = 4 then (⟨1, i, run inW L i⟩, if 16 < run inW L i - i then 42 else 0)
  else if clAt L i = 5 then (⟨2, i, run inN L i⟩, if numOk (cut L i (run inN L i)) then 0 else 41)
  else if clAt L i = 7 then (⟨3, i, i + signLen L i⟩, 0)
  else (⟨0, i, i⟩, 40)
theorem ys_hd {L : List UInt8} {i : Nat} {u : Bool} (h2 : clAt L i ≠ 2) (h1 : clAt L i ≠ 1) (h3 : clAt L i ≠ 3) : ys L i u = hd L i :: (if (hd L i).2 = 0 then ys L (hd L i).1.hi true else []) := by
  have h := lt_of_cl h2
  have hr := clAt_range L i
  have hcs : clAt L i = 4 ∨ clAt L i = 5 ∨ clAt L i = 7 ∨ (clAt L i = 0 ∨ clAt L i = 6) := by omega
  rcases hcs with hc | hc | hc | hc
  · have hh : hd L i = (⟨1, i, run inW L i⟩, if 16 < run inW L i - i then 42 else 0) := by unfold hd; rw [if_pos hc]
    rw [ys_word h hc, hh]
    by_cases hl : 16 < run inW L i - i
    · rw [if_pos hl, if_pos hl, if_neg (by simp)]
    · rw [if_neg hl, if_neg hl, if_pos rfl]
  · have hh : hd L i = (⟨2, i, run inN L i⟩, if numOk (cut L i (run inN L i)) then 0 else 41) := by unfold hd; rw [if_neg (by omega), if_pos hc]
    rw [ys_num h hc, hh]
    cases hn : numOk (cut L i (run inN L i))
    · rfl
    · rfl
  · have hh : hd L i = (⟨3, i, i + signLen L i⟩, 0) := by unfold hd; rw [if_neg (by omega), if_neg (by omega), if_pos hc]
    rw [ys_sign h hc, hh, if_pos rfl]
  · have hh : hd L i = (⟨0, i, i⟩, 40) := by unfold hd; rw [if_neg (by omega), if_neg (by omega), if_neg (by omega)]
    rw [ys_stray h hc, hh, if_neg (by simp)]
theorem hd_hi {L : List UInt8} {i : Nat} (h : i < L.length) : (hd L i).1.hi ≤ L.length := by
  have h1 := run_le inW L i (by omega)
  have h2 := run_le inN L i (by omega)
  have h3 := signLen_le h
  unfold hd; repeat' split
  all_goals (simp only; omega)
theorem hd_gt {L : List UInt8} {i : Nat} (h : i < L.length) (he : (hd L i).2 = 0) : i < (hd L i).1.hi := by
  unfold hd at he ⊢
  by_cases h4 : clAt L i = 4
  · rw [if_pos h4]; exact run_gt h (by rw [h4]; rfl)
  · rw [if_neg h4] at he ⊢
    by_cases h5 : clAt L i = 5
    · rw [if_pos h5]; exact run_gt h (by rw [h5]; rfl)
    · rw [if_neg h5] at he ⊢
      by_cases h7 : clAt L i = 7
      · rw [if_pos h7]; have := signLen_pos L i; simp only; omega
      · rw [if_neg h7] at he; simp at he
end LX
theorem token_any {b : Nat} {s : ByteArray} {i : Nat} {tl : List Value} {t : TypeId} (w : World) (h : InAt w b s i tl t) (hi : i < s.size) (hm : s.size ≤ 16384) :
    Calls Try.prog 44 #[.pointer (some ⟨b, 0, none⟩)] w (TokPost b s (LX.hd (bsOf s) i).1 (LX.hd (bsOf s) i).2 tl t w) := by
  unfold LX.hd
  by_cases h4 : LX.clAt (bsOf s) i = 4
  · rw [if_pos h4]; exact token_word w h hi hm h4
  · rw [if_neg h4]
    by_cases h5 : LX.clAt (bsOf s) i = 5
    · rw [if_pos h5]; exact token_num w h hi hm h5
    · rw [if_neg h5]
      by_cases h7 : LX.clAt (bsOf s) i = 7
      · rw [if_pos h7]; exact token_sign w h hi hm h7
      · rw [if_neg h7]; exact token_stray w h hi ⟨h4, h5, h7⟩

/-- The blocks that the scanner writes. -/
def exL : Nat → Nat → Obj → Prop := fun _ _ o => ∃ cs fr, o = .cells cs 83 fr
theorem Chg.of_grown1 {ex : Nat → Nat → Obj → Prop} {B : Nat} {W W' : World} {b : Nat} (h : W.grownBy W' (some b)) (hb : B ≤ b) (he : ∀ o, W.heap[b]? = some o → ex 0 b o) : Chg ex B 0 W W' :=
  ⟨h.os, h.tape, h.output, h.size, fun k o hk ho => (h.block k (Array.getElem?_eq_some_iff.1 ho).1 (fun e => by
    injection e with e; subst e
    rcases hk with hk | ⟨_, hk⟩
    · omega
    · exact hk (he o ho))).trans ho⟩
theorem InAt.ex {w : World} {b : Nat} {s : ByteArray} {i : Nat} {tl : List Value} (h : InAt w b s i tl 83) : ∀ o, w.heap[b]? = some o → exL 0 b o := fun o ho => by
  unfold InAt at h; rw [h] at ho; cases ho; exact ⟨_, _, rfl⟩
theorem InAt.keep {e : TypeId} {kp : Nat → Prop} {m : Nat} {w w' : World} {b : Nat} {s : ByteArray} {i : Nat} {tl : List Value} {t : TypeId} (h : InAt w b s i tl t) (hk : Keep e kp m w w') (hb : m ≤ b) (ht : t ≠ e) : InAt w' b s i tl t :=
  hk.block b _ (.inr ⟨hb, fun ⟨_, _, h⟩ => ht (by cases h; rfl)⟩) h
theorem yield_wide {m m' : Nat} {P : Program} {l : Nat} {args : Array Value} {W : World} {R : Ending → World → Prop} (h : YieldAt Fence.wide m P l args W R) : YieldAt Fence.wide m' P l args W R := by
  obtain ⟨fn, tmps, assign, body, hy, hR⟩ := h
  exact ⟨fn, tmps, assign, body, hy, hR.1, fun c cs _ => hR.2 c cs (room_wide _)⟩

theorem wpStill_skip {P : Program} {ops : Array Oper} {w : World} {Q : Act → Prop} {a : Act} {o : Oper} {rest : List Oper} (hw : Region.wanted o (yielded ops a.tmps) = false) (h : wpStill P ops w Q rest (a.put o.dst undef)) : wpStill P ops w Q (o :: rest) a := by
  unfold wpStill; rw [hw]; exact h
def encL (s : ByteArray) (x : LX.Tk × Nat) : Array Value := #[tokV s x.1, .int .i64 (x.2 : Int)]

/-- What line answers. -/
def LinePost (b : Nat) (s : ByteArray) (l lo : Nat) (Y : List (LX.Tk × Nat)) (J Jx : List (LX.Tk × Nat) → World → Prop) (e : Ending) (W' : World) : Prop :=
  (e = .returned (.bool true) ∧ ∃ j pre', lo ≤ j ∧ j ≤ s.size ∧ LX.clAt (bsOf s) j = 2 ∧ InAt W' b s j [.func (.yield l) #[] #[]] 83 ∧ J pre' W' ∧ Y = pre' ++ (if j < s.size then LX.ys (bsOf s) (j + 1) false else [])) ∨
  (e = .returned (.bool false) ∧ (J Y W' ∨ ∃ pre', pre' <+: Y ∧ Jx pre' W'))

/-- What the loop of line carries, and its measure. -/
def LineRel (b : Nat) (s : ByteArray) (l lo : Nat) (Y : List (LX.Tk × Nat)) (J : List (LX.Tk × Nat) → World → Prop) (u : Value) (W : World) : Prop :=
  ∃ (j : Nat) (ub : Bool) (pr : List (LX.Tk × Nat)), u = .bool ub ∧ lo ≤ j ∧ j ≤ s.size ∧ Hid (LX.clAt (bsOf s) j ≠ 1 ∧ LX.clAt (bsOf s) j ≠ 3) ∧ InAt W b s j [.func (.yield l) #[] #[]] 83 ∧ J pr W ∧ Hid (Y = pr ++ LX.ys (bsOf s) j ub)
def LineMu (b : Nat) (s : ByteArray) (W : World) : Nat := match W.cell? ⟨b, 1, none⟩ with | some (.int _ j) => s.size - j.toNat | _ => 0
theorem InAt.mu {w : World} {b : Nat} {s : ByteArray} {i : Nat} {tl : List Value} {t : TypeId} (h : InAt w b s i tl t) : LineMu b s w = s.size - i := by
  unfold LineMu; rw [h.at_]; simp

set_option maxRecDepth 100000 in
set_option maxHeartbeats 8000000 in
theorem line_in (n : Nat) (hn : 1 ≤ n) {b : Nat} {s : ByteArray} {i : Nat} {l m : Nat} (hm : s.size ≤ 16384) (Y pre : List (LX.Tk × Nat)) (J Jx : List (LX.Tk × Nat) → World → Prop) (W : World) (hb : m ≤ b)
    (hI : InAt W b s i [.func (.yield l) #[] #[]] 83) (hi : i ≤ s.size) (hJ : J pre W) (hY : Y = pre ++ LX.ys (bsOf s) i false) (hA : Cl1 exL m J)
    (hYl : ∀ pre x W1, J pre W1 → pre ++ [x] <+: Y → YieldAt Fence.wide n Try.prog l (encL s x) W1 fun en W' => Keep 61 (fun _ => False) m W1 W' ∧ ((en = .returned (.bool true) ∧ J (pre ++ [x]) W') ∨ (en = .returned (.bool false) ∧ Jx (pre ++ [x]) W'))) :
    CallsIn Fence.wide n Try.prog 30 #[.pointer (some ⟨b, 0, none⟩)] W (LinePost b s l i Y J Jx) := by
  refine callsIn_of_wp Try.func30 rfl trivial ?_ rfl
  simp only [Try.ntmps30, List.size_toArray, List.length_cons, List.length_nil, Nat.reduceAdd, Nat.reduceSub, Array.replicate_succ, Array.replicate_zero, List.push_toArray, List.append_toArray, List.nil_append, List.cons_append]
  replace hY := Lib.hid hY
  have hlen := Lib.hid (bsOf_length s)
  have CS := Lib.hid (fun W i (hW : InAt W b s i [.func (.yield l) #[] #[]] 83) (hi : i ≤ s.size) => skip_any W hW hi (by unfold maxLen; omega))
  have CN := Lib.hid (fun W i (hW : InAt W b s i [.func (.yield l) #[] #[]] 83) (hi : i ≤ s.size) => next_any W hW hi)
  have CT := Lib.hid (fun W i (hW : InAt W b s i [.func (.yield l) #[] #[]] 83) (hi : i < s.size) => token_any W hW hi hm)
  have hS : Hid (∀ i, i ≤ s.size → LX.skipTo (bsOf s) i ≤ s.size ∧ i ≤ LX.skipTo (bsOf s) i ∧ LX.clAt (bsOf s) (LX.skipTo (bsOf s) i) ≠ 1 ∧ LX.clAt (bsOf s) (LX.skipTo (bsOf s) i) ≠ 3) := Lib.hid fun i hi => by
    have h1 := LX.skipTo_le (bsOf s) i (by rw [hlen.out]; exact hi)
    have h2 := LX.skipTo_cl (L := bsOf s) (i := i) (by rw [hlen.out]; exact hi)
    rw [hlen.out] at h1
    exact ⟨h1, LX.skipTo_ge _ _, h2⟩
  gi_wp2_with fail
  refine ⟨trivial, ?_⟩
  refine (callsIn_wide.2 (CS.out _ _ hI hi)).mono ?_
  rintro e w1 ⟨⟨v, rfl⟩, hp⟩
  have hI1 := hI.put hp
  have hJ1 := hA _ _ _ hJ (Chg.of_grown1 hp.grown hb hI.ex)
  replace hY := hY.out
  rw [LX.ys_skip] at hY
  obtain ⟨g1, gi, g2⟩ := hS.out i hi
  generalize LX.skipTo (bsOf s) i = j0 at *
  clear hI hJ hp hi
  replace hY := Lib.hid hY
  replace g2 := Lib.hid g2
  gi_wp2_with fail
  gi_loopw [3] (fun u W => LineRel b s l i Y J u W) (fun _ W => LineMu b s W)
  case atStart => exact ⟨j0, false, pre, rfl, gi, g1, g2, hI1, hJ1, hY⟩
  case round =>
    obtain ⟨j, ub, pr, rfl, hij, hj, hc, hIr, hJr, hYr⟩ := hrel
    have hmu := Lib.hid hIr.mu
    by_cases h2 : LX.clAt (bsOf s) j = 2
    · have t2 : (LX.clAt (bsOf s) j != 2) = false := by rw [h2]; rfl
      have hend : Hid (∀ u, LX.ys (bsOf s) j u = (if u then [(⟨4, j, j⟩, 0)] else []) ++ (if j < s.size then LX.ys (bsOf s) (j + 1) false else [])) := Lib.hid fun u => by
        by_cases hlt : j < s.size
        · rw [if_pos hlt, LX.ys_newline (by rw [hlen.out]; exact hlt) h2]
        · rw [if_neg hlt, LX.ys_end (by rw [hlen.out]; omega), List.append_nil]
      have CNj := Lib.hid (CN.out wr j hIr hj)
      replace h2 := Lib.hid h2
      obtain ⟨c, hce⟩ : ∃ c, c = LX.clAt (bsOf s) j := ⟨_, rfl⟩
      rw [← hce] at CNj t2
      replace hce := Lib.hid hce
      have hmm : Try.prog.follows .mixedOrders = true := by kernel_rfl
      gi_wp2_with fail
      refine ⟨trivial, ?_⟩
      refine (callsIn_wide.2 CNj.out).mono ?_
      rintro e w2 ⟨rfl, hd⟩
      have hI2 := hIr.drw hd
      have hJ2 := hA _ _ _ hJr (Chg.of_below hd.below)
      clear hIr hJr hd CNj
      cases ub
      · gi_upto_region 9 with fail
        refine wpIn_wide_tail 13 hmm (by kernel_rfl) (by kernel_rfl) ?_
        simp only [List.take_succ_cons, List.take_zero, List.drop_succ_cons, List.drop_zero]
        iterate 3 still_step
        iterate 10 ((with_reducible refine wpStill_skip ?g1 ?_); (case g1 => rfl); simp only [Act.put, List.setIfInBounds_toArray, List.set_cons_succ, List.set_cons_zero])
        with_reducible refine wpStill_nil ?_
        with_reducible refine wpListIn_skip ?g1 ?g2 ?_
        case g1 => rfl
        case g2 => rfl
        simp only [Act.put, List.setIfInBounds_toArray, List.set_cons_succ, List.set_cons_zero]
        gi_wp2
        go_ret
        refine .inl ⟨rfl, j, pr, hij, hj, h2.out, hI2, hA _ _ _ hJ2 (Chg.drew _), ?_⟩
        rw [hYr.out, hend.out false]; rfl
      · have c1 := hI2.at_
        have cy : w2.cell? ⟨b, 2, none⟩ = some (.func (.yield l) #[] #[]) := hI2.cell 2
        have hJ5 := hA _ _ w2.drew hJ2 (Chg.drew _)
        have hYx : Y = (pr ++ [(⟨4, j, j⟩, 0)]) ++ (if j < s.size then LX.ys (bsOf s) (j + 1) false else []) := by rw [hYr.out, hend.out true]; simp
        have hpr : pr ++ [(⟨4, j, j⟩, 0)] <+: Y := ⟨_, hYx.symm⟩
        obtain ⟨fn, tmps, assign, body, hy, hRd⟩ := yield_wide (m' := n - 1) (hYl pr (⟨4, j, j⟩, 0) w2.drew hJ5 hpr)
        have hex : s.extract j j = ⟨#[]⟩ := by apply ByteArray.ext; simp
        simp only [encL, tokV, hex] at hy
        replace hy : (Instr.yield l #[.agg #[.int .u8 4, .string ⟨#[]⟩, .int .i64 (j : Int)], .int .i64 0]).run Try.prog w2.drew = .ok (.round l fn tmps assign body) w2.drew := hy
        clear hex
        replace hpr := Lib.hid hpr
        replace hYx := Lib.hid hYx
        have hI5 := Lib.hid (hI2.drewN 1)
        clear hI2 hJ2 hJ5
        gi_upto_region 9 with fail
        refine wpIn_wide_tail 13 hmm (by kernel_rfl) (by kernel_rfl) ?_
        simp only [List.take_succ_cons, List.take_zero, List.drop_succ_cons, List.drop_zero]
        repeat still_step
        refine wpStill_nil ?_
        gi_wp2
        refine hRd.mono ?_
        rintro e w5 ⟨hk5, ⟨rfl, hJ5⟩ | ⟨rfl, hJx5⟩⟩
        · have hI6 := hI5.out.keep hk5 hb (by decide)
          gi_wp2
          go_ret
          exact .inl ⟨rfl, j, _, hij, hj, h2.out, hI6, hJ5, hYx.out⟩
        · gi_wp2
          go_ret
          exact .inr ⟨rfl, .inr ⟨_, hpr.out, hJx5⟩⟩
    · have t2 : (LX.clAt (bsOf s) j != 2) = true := by simpa using h2
      have hlt : j < s.size := by have := LX.lt_of_cl h2; rwa [hlen.out] at this
      have hys := Lib.hid (LX.ys_hd (u := ub) h2 hc.out.1 hc.out.2)
      have hgt := Lib.hid (fun he => LX.hd_gt (L := bsOf s) (i := j) (by rw [hlen.out]; exact hlt) he)
      have hhi := Lib.hid (LX.hd_hi (L := bsOf s) (i := j) (by rw [hlen.out]; exact hlt))
      have CNj := Lib.hid (CN.out wr j hIr hj)
      have CTj := Lib.hid (fun W hW => CT.out W j hW hlt)
      generalize LX.clAt (bsOf s) j = c at *
      generalize LX.hd (bsOf s) j = x at *
      obtain ⟨tk, er⟩ := x
      clear h2 hc
      gi_wp2_with fail
      refine ⟨trivial, ?_⟩
      refine (callsIn_wide.2 CNj.out).mono ?_
      rintro e w2 ⟨rfl, hd⟩
      have hI2 := hIr.drw hd
      have hJ2 := hA _ _ _ hJr (Chg.of_below hd.below)
      clear hIr hJr hd CNj
      gi_wp2_with fail
      refine ⟨trivial, ?_⟩
      refine (callsIn_wide.2 (CTj.out _ hI2)).mono ?_
      rintro e w3 ⟨rfl, hI3, hG3⟩
      have hJ3 := hA _ _ _ hJ2 (Chg.of_grown1 hG3 hb hI2.ex)
      clear hI2 hJ2 hG3 CTj
      simp only [tokV]
      gi_upto_region 6 with fail
      have hT4 := TokAt.new w3 (tk.kind : Int) (s.extract tk.lo tk.hi) (tk.lo : Int)
      have hI4 := hI3.alloc (.cells #[.int .u8 (tk.kind : Int), .string (s.extract tk.lo tk.hi), .int .i64 (tk.lo : Int)] 61)
      have hJ4 := hA _ _ _ hJ3 (Chg.alloc w3 (.cells #[.int .u8 (tk.kind : Int), .string (s.extract tk.lo tk.hi), .int .i64 (tk.lo : Int)] 61))
      generalize w3.alloc (.cells #[.int .u8 (tk.kind : Int), .string (s.extract tk.lo tk.hi), .int .i64 (tk.lo : Int)] 61) = w4 at *
      have hJ5 := hA _ _ w4.drew hJ4 (Chg.drew _)
      have hpr : pr ++ [(tk, er)] <+: Y := ⟨if er = 0 then LX.ys (bsOf s) tk.hi true else [], by rw [hYr.out, hys.out]; simp⟩
      obtain ⟨fn, tmps, assign, body, hy, hRd⟩ := yield_wide (m' := n - 1) (hYl pr (tk, er) w4.drew hJ5 hpr)
      simp only [encL, tokV] at hy
      have c0 := hT4.c0
      have c1 := hT4.c1
      have c2 := hT4.c2
      have cy : w4.cell? ⟨b, 2, none⟩ = some (.func (.yield l) #[] #[]) := hI4.cell 2
      have hI5 := Lib.hid (hI4.drewN 1)
      have hmm : Try.prog.follows .mixedOrders = true := by kernel_rfl
      replace hpr := Lib.hid hpr
      clear hJ3 hJ4 hJ5 hI3 hI4 hT4
      refine wpIn_wide_tail 6 hmm (by kernel_rfl) (by kernel_rfl) ?_
      simp only [List.take_succ_cons, List.take_zero, List.drop_succ_cons, List.drop_zero]
      repeat still_step
      refine wpStill_nil ?_
      gi_wp2
      refine hRd.mono ?_
      rintro e w5 ⟨hk5, ⟨rfl, hJ5⟩ | ⟨rfl, hJx5⟩⟩
      · have hI6 := Lib.hid (hI5.out.keep hk5 hb (by decide))
        by_cases he : er = 0
        · have te : (((er : Nat) : Int) != 0) = false := by rw [he]; rfl
          have hhi' : tk.hi ≤ s.size := by have := hhi.out; rwa [hlen.out] at this
          have hgt' : j < tk.hi := hgt.out he
          obtain ⟨k1, k2, k3⟩ := hS.out tk.hi hhi'
          have hY6 : Hid (Y = (pr ++ [(tk, er)]) ++ LX.ys (bsOf s) (LX.skipTo (bsOf s) tk.hi) true) := Lib.hid (by
            rw [← LX.ys_skip, hYr.out, hys.out, if_pos he]; simp)
          replace he := Lib.hid he
          replace k3 := Lib.hid k3
          have CSk := Lib.hid (CS.out w5 tk.hi hI6.out hhi')
          have hX5 := Lib.hid hI6.out.ex
          generalize LX.skipTo (bsOf s) tk.hi = j2 at *
          gi_wp2_with fail
          refine ⟨trivial, ?_⟩
          refine (callsIn_wide.2 CSk.out).mono ?_
          rintro e w6 ⟨⟨v6, rfl⟩, hp6⟩
          have hI7 := hI6.out.put hp6
          have hJ7 := hA _ _ _ hJ5 (Chg.of_grown1 hp6.grown hb hX5.out)
          clear hp6
          gi_wp2
          go_roundw
          case rel => exact ⟨j2, true, _, rfl, by omega, k1, k3, hI7, hJ7, hY6⟩
          case measure =>
            rw [hI7.mu, hmu.out]
            omega
        · have te : (((er : Nat) : Int) != 0) = true := by simp; omega
          have hYe : Y = pr ++ [(tk, er)] := by rw [hYr.out, hys.out, if_neg he]
          replace hYe := Lib.hid hYe
          gi_wp2
          go_ret
          exact .inr ⟨rfl, .inl (hYe.out ▸ hJ5)⟩
      · gi_wp2
        go_ret
        exact .inr ⟨rfl, .inr ⟨_, hpr.out, hJx5⟩⟩
end Go.Proofs.Ytglbmiadgdadfaa
