/- ParTyped, ParFit3, ParJoin, ParJoin2, ParCondAny, ParStrArg in one text, for the claim. -/
import Derived.Test.YtglbmiadgdadfaaPj10
import Derived.Test.YtglbmiadgdadfaaPj5
import Derived.Test.YtglbmiadgdadfaaPj9
import Derived.ChangeSlices
import Derived.SliceStrings
import Derived.WideShapes
import Derived.OpenShut
import Derived.Deep.Strs
import Derived.SizedLaws

section
/- Parsing a source and its formatted tokens: the same, but for offsets. An error's offset is a token's, or the end. -/
namespace Go.Proofs.Ytglbmiadgdadfaa
open Go.RowKit Go.Shelf
open Go.BigFrame

attribute [local go_sem] Oper.semAt_some
namespace PX
theorem sameT_of {A : Int → Prop} : ∀ (l m : List TokD), l.map shoD = m.map shoD → (∀ t ∈ l, A t.p) → SameT A l m
  | [], [], _, _ => trivial
  | [], _ :: _, h, _ => by simp at h
  | _ :: _, [], h, _ => by simp at h
  | t :: l, u :: m, h, ha => by
    simp only [List.map_cons, List.cons.injEq] at h
    have h1 : (t.k, t.x) = (u.k, u.x) := h.1
    exact ⟨⟨(Prod.mk.injEq .. ▸ h1).1, (Prod.mk.injEq .. ▸ h1).2, ha t List.mem_cons_self⟩, sameT_of l m h.2 fun v hv => ha v (List.mem_cons_of_mem _ hv)⟩
end PX
namespace PP
/-- The same result but for the offset; an error's offset is a token's, or the end. -/
def Alike (s : ByteArray) : PX.R Unit → PX.R Unit → Prop
  | .ok _ st, .ok _ st' => pgD st = pgD st'
  | .bad p e, .bad _ e' => e = e' ∧ ((∃ t ∈ toks s, t.p = p) ∨ p = (s.size : Int)) ∧ e ≠ 0
  | _, _ => False
theorem alike_typed (s : ByteArray) (hs : s.size ≤ 5000) (h : (LX.out (bsOf s)).2.2 = 0) : Alike s (PX.parse s) (PX.parse (typeS (toks s))) := by
  obtain ⟨_, h2, h3, _⟩ := typed s hs h
  rw [parse_eq, if_pos h, parse_eq, if_pos (by rw [h2])]
  have hlen : (toks (typeS (toks s))).length = (toks s).length := by
    have := congrArg List.length h3
    simpa using this
  rw [hlen]
  have hsim : PX.Sim (fun p => (∃ t ∈ toks s, t.p = p) ∨ p = (s.size : Int)) (PX.start s [] true) (PX.start (typeS (toks s)) [] true) :=
    ⟨PX.sameT_of _ _ h3.symm fun t ht => .inl ⟨t, ht, rfl⟩, .inr rfl, rfl, rfl, rfl, rfl, rfl, rfl, rfl, rfl⟩
  have hr := PX.sim_prog ((toks s).length + 1) hsim
  generalize PX.prog ((toks s).length + 1) (PX.start s [] true) = a at *
  generalize PX.prog ((toks s).length + 1) (PX.start (typeS (toks s)) [] true) = b at *
  cases a with
  | ok u st => cases b with
    | ok u' st' =>
      obtain ⟨_, hh⟩ := hr
      show pgD st = pgD st'
      unfold pgD
      rw [hh.name, hh.locs, hh.init, hh.threads, hh.ask, hh.cond]
    | bad p e => exact hr.elim
  | bad p e => cases b with
    | ok u' st' => exact hr.elim
    | bad p' e' => exact hr
end PP
end Go.Proofs.Ytglbmiadgdadfaa
end

section
/- What a parsed program respects: the whole. -/
namespace Go.Proofs.Ytglbmiadgdadfaa
open Go.RowKit Go.Shelf

namespace PP
theorem wf_tok : ∀ (u : Bool) (l : List (Nat × List UInt8)), LX.wf u l → ∀ x ∈ l, x.1 = 4 ∨ LX.tokOk x.1 x.2
  | _, [], _, x, h => by cases h
  | u, (k, T) :: r, hw, x, h => by
    rcases hw with ⟨h1, _, _, h2⟩ | ⟨h1, h2, h3⟩
    · rcases List.mem_cons.1 h with rfl | h
      · exact .inl h1
      · exact wf_tok _ r h2 x h
    · rcases List.mem_cons.1 h with rfl | h
      · exact .inr h2
      · exact wf_tok _ r h3 x h
theorem toks_fit (s : ByteArray) (he : (LX.out (bsOf s)).2.2 = 0) : ∀ t ∈ toks s, PX.TokG t := by
  intro t ht
  obtain ⟨hw, -, -⟩ := LX.out_good he
  unfold toks at ht
  obtain ⟨u, hu, rfl⟩ := List.mem_map.1 ht
  have hk := wf_tok _ _ hw _ (List.mem_map_of_mem (f := LX.sho (bsOf s)) hu)
  have hx : bsOf (tokD s u).x = LX.cut (bsOf s) u.lo u.hi := bsOf_extract s u.lo u.hi
  have hk' : u.kind = 4 ∨ LX.tokOk u.kind (bsOf (tokD s u).x) := by rw [hx]; exact hk
  refine ⟨fun h3 hn => ?_, fun h1 hz => ?_⟩
  · have h3' : u.kind = 3 := by have : (u.kind : Int) = 3 := h3; omega
    rcases hk' with h4 | h4
    · omega
    · unfold LX.tokOk at h4
      rcases h4 with ⟨h, _⟩ | ⟨h, _⟩ | ⟨_, h⟩
      · omega
      · omega
      · rw [hn] at h
        have hl : (bsOf PX.sNAME).length = 4 := rfl
        rcases h with ⟨b, h, _⟩ | h | h <;> (rw [h] at hl; exact absurd hl (by simp))
  · have h1' : u.kind = 1 := by have : (u.kind : Int) = 1 := h1; omega
    rcases hk' with h4 | h4
    · omega
    · unfold LX.tokOk at h4
      rcases h4 with ⟨_, _, h, _⟩ | ⟨h, _⟩ | ⟨h, _⟩
      · rw [LX.clAt_ge (by rw [bsOf_length]; omega)] at h
        exact absurd h (by decide)
      · omega
      · omega
/-- What a program respects. -/
structure FitD (d : PgD) : Prop where
  l6 : d.locs.length ≤ 6
  il : d.init.length = d.locs.length
  t1 : 1 ≤ d.threads.length
  t4 : d.threads.length ≤ 4
  i12 : ∀ k ∈ d.threads, k.length ≤ 12
  ask : 1 ≤ d.ask ∧ d.ask ≤ 3
  dp : PX.deep d.cond ≤ 20
  nm : d.name.size ≠ 0
  names : ∀ x ∈ d.locs, LX.nameB (bsOf x) = true
  nodup : d.locs.Nodup
  ins : ∀ k ∈ d.threads, ∀ x ∈ k, PX.InsOk d.locs.length x
theorem parse_fit (s : ByteArray) (u : Unit) (st : PX.S) (h : PX.parse s = .ok u st) : FitD (pgD st) := by
  rw [parse_eq] at h
  split at h
  · rename_i he
    have f0 : PX.Fit (PX.start s [] true) :=
      ⟨PX.inv_start s, toks_fit s he, fun x hx => (by cases hx), List.nodup_nil, rfl, fun k hk => (by cases hk), fun hh => (by have : (1 : Int) ≤ 0 := hh; omega), fun hh => (by have : (0 : Int) = 4 := hh; omega), fun hh => (by have : (0 : Int) = 4 := hh; omega)⟩
    obtain ⟨f, hd⟩ := PX.fit_prog ((toks s).length + 1) _ f0 (Nat.lt_succ_self _) u st h
    have h0 : st.threads ≠ [] := f.inv.some_ (by rw [hd]; omega)
    exact ⟨f.inv.l6, f.ilen, Nat.pos_of_ne_zero fun e => h0 (List.eq_nil_of_length_eq_zero e), f.inv.t4, f.inv.i12, f.ask hd, f.deep hd, f.named (by rw [hd]; omega), f.names, f.nodup, f.ins⟩
  · cases h
theorem parse_bad (s : ByteArray) (hs : s.size ≤ 5000) (p x : Int) (h : PX.parse s = .bad p x) : x ≠ 0 := by
  by_cases he : (LX.out (bsOf s)).2.2 = 0
  · have hA := alike_typed s hs he
    rw [h] at hA
    cases hq : PX.parse (typeS (toks s)) with
    | ok u' st' => rw [hq] at hA; exact hA.elim
    | bad p' x' => rw [hq] at hA; exact hA.2.2
  · rw [parse_eq, if_neg he] at h
    injection h with _ h
    omega
theorem SlR.len {W : World} {size m n : Nat} {a : Option Addr} {cap : Nat} {xs : List Value} (h : SlR W size (.slice a m cap) n xs) : m = n := by
  obtain ⟨_, _, a', cap', e, _⟩ := h
  injection e
theorem SlR.at {W : World} {size m n : Nat} {a : Option Addr} {cap : Nat} {xs : List Value} (h : SlR W size (.slice a m cap) n xs) : m ≤ cap ∧ cap ≤ maxLen ∧ (0 < m → ∃ g off, a = some ⟨g, off, none⟩ ∧ ∀ (j : Nat) (u : Value), xs[j]? = some u → ∀ U, Below W.heap.size W U → U.cell? ⟨g, off + j, none⟩ = some u) := by
  have e0 := h.len
  obtain ⟨_, _, a', cap', e, h4, h5, h6⟩ := h
  injection e with e1 e2 e3
  subst e1 e3
  refine ⟨by omega, h5, fun hm => ?_⟩
  obtain ⟨g, off, e, hc⟩ := h6 (by omega)
  exact ⟨g, off, e, fun j u hj U B => cell_on (hc j u hj) B⟩
end PP
end Go.Proofs.Ytglbmiadgdadfaa
end

section
/- The texts that ParseJoins makes: how they read. Pure. -/
namespace Go.Proofs.Ytglbmiadgdadfaa
open Go.RowKit Go.Shelf

namespace PP
/-- The tokens' texts, each behind a blank. -/
def jb (l : List TokD) : List UInt8 := l.flatMap fun t => 32 :: bsOf t.x
def sh (t : TokD) : Nat × List UInt8 := (t.k.toNat, bsOf t.x)
/-- A token that is no line's end. -/
def TokN (t : TokD) : Prop := 0 ≤ t.k ∧ LX.tokOk t.k.toNat (bsOf t.x)
theorem jb_cons (t : TokD) (r : List TokD) : jb (t :: r) = 32 :: (bsOf t.x ++ jb r) := by unfold jb; rw [List.flatMap_cons]; rfl
theorem jb_sep (r : List TokD) (R : List UInt8) : LX.sep (jb r ++ 32 :: R) := by
  cases r with
  | nil => exact .inl rfl
  | cons t r => rw [jb_cons]; exact .inl rfl
theorem jb_reads {R : List UInt8} {ts : List (Nat × List UInt8)} (h : LX.Reads R true ts) : ∀ r : List TokD, (∀ t ∈ r, TokN t) → LX.Reads (jb r ++ 32 :: R) true (r.map sh ++ ts)
  | [], _ => h.blank (by decide)
  | t :: r, hr => by
    have ih := jb_reads h r fun u hu => hr u (List.mem_cons_of_mem _ hu)
    have ht := (hr t List.mem_cons_self).2
    rw [jb_cons, List.cons_append, List.append_assoc]
    exact LX.Reads.blank (ih.tok ht (jb_sep r R)) (by decide)
theorem sgn {b : UInt8} (h : LX.cls (b.toNat : Int) = 7) : LX.tokOk 3 [b] := .inr (.inr ⟨rfl, .inl ⟨b, rfl, h⟩⟩)
theorem reads_close : LX.Reads [41] true [(3, [41]), (4, [])] := by
  refine ⟨[⟨3, 0, 1⟩, ⟨4, 1, 1⟩], ?_, rfl⟩
  rw [LX.ys_sign (by decide) (by decide), LX.ys_end (by decide)]
  rfl
theorem reads_in {r : List TokD} (hr : ∀ t ∈ r, TokN t) {R : List UInt8} {ts : List (Nat × List UInt8)} (h : LX.Reads R true ts) (u : Bool) : LX.Reads (40 :: (jb r ++ 32 :: R)) u ((3, [40]) :: (r.map sh ++ ts)) :=
  (jb_reads h r hr).tok (T := [40]) (sgn (by decide)) (jb_sep r R)
theorem reads_two {ra rb : List TokD} (ha : ∀ t ∈ ra, TokN t) (hb : ∀ t ∈ rb, TokN t) {b : UInt8} (hc : LX.cls (b.toNat : Int) = 7) :
    LX.Reads (40 :: (jb ra ++ 32 :: (41 :: 32 :: b :: 32 :: 40 :: (jb rb ++ 32 :: [41])))) false ((3, [40]) :: (ra.map sh ++ (3, [41]) :: (3, [b]) :: (3, [40]) :: (rb.map sh ++ [(3, [41]), (4, [])]))) := by
  have h1 := reads_in hb reads_close true
  have h2 := (h1.blank (b := 32) (by decide)).tok (u := true) (T := [b]) (sgn hc) (.inl rfl)
  have h3 := (h2.blank (b := 32) (by decide)).tok (u := true) (T := [41]) (sgn (by decide)) (.inl rfl)
  exact reads_in ha h3 false
theorem reads_not {ra : List TokD} (ha : ∀ t ∈ ra, TokN t) : LX.Reads (33 :: 32 :: 40 :: (jb ra ++ 32 :: [41])) false ((3, [33]) :: (3, [40]) :: (ra.map sh ++ [(3, [41]), (4, [])])) := by
  have h1 := reads_in ha reads_close true
  exact (h1.blank (b := 32) (by decide)).tok (u := false) (T := [33]) (sgn (by decide)) (.inl rfl)
theorem wf_last : ∀ (u : Bool) (l : List (Nat × List UInt8)) (x : Nat × List UInt8), LX.wf u (l ++ [x]) → x.1 = 4 ∧ x.2 = []
  | u, [], (k, T), h => by
    rcases h with ⟨h1, _, h2, _⟩ | ⟨_, _, h3⟩
    · exact ⟨h1, h2⟩
    · cases h3
  | u, (k, T) :: l, x, h => by
    rcases h with ⟨_, _, _, h⟩ | ⟨_, _, h⟩
    · exact wf_last _ l x h
    · exact wf_last _ l x h
/-- A condition's text that reads whole: its tokens. -/
theorem toks_whole {s : ByteArray} (he : (LX.out (bsOf s)).2.2 = 0) {r : List TokD} {e : TokD} (h : toks s = r ++ [e]) (hn : ∀ t ∈ r, PX.sy t ≠ PX.sEND) : jb (toks s) = jb r ++ [32] ∧ ∀ t ∈ r, TokN t := by
  obtain ⟨hw, -, -⟩ := LX.out_good he
  have hsh : (toks s).map sh = (LX.out (bsOf s)).1.map (LX.sho (bsOf s)) := by
    unfold toks
    rw [List.map_map]
    apply List.map_congr_left
    intro t _
    show ((t.kind : Int).toNat, bsOf (s.extract t.lo t.hi)) = (t.kind, LX.cut (bsOf s) t.lo t.hi)
    rw [bsOf_extract]
    rfl
  rw [← hsh] at hw
  have hk : ∀ t ∈ toks s, 0 ≤ t.k := fun t ht => (toks_ok s t ht).2.1
  refine ⟨?_, fun t ht => ?_⟩
  · rw [h, List.map_append] at hw
    have := wf_last _ _ _ hw
    have hx : bsOf e.x = [] := this.2
    rw [h]
    unfold jb
    rw [List.flatMap_append, List.flatMap_cons, hx]
    rfl
  · have htm : t ∈ toks s := by rw [h]; exact List.mem_append_left _ ht
    have h0 := hk t htm
    rcases wf_tok _ _ hw _ (List.mem_map_of_mem (f := sh) htm) with h4 | h4
    · have h4' : t.k = 4 := by have : t.k.toNat = 4 := h4; omega
      refine absurd ?_ (hn t ht)
      unfold PX.sy
      rw [if_neg (by omega), if_neg (by omega), if_neg (by omega), if_pos h4']
    · exact ⟨h0, h4⟩
theorem jb_len (s : ByteArray) : (jb (toks s)).length ≤ 3 * s.size := by
  by_cases he : (LX.out (bsOf s)).2.2 = 0
  · obtain ⟨-, hc, -⟩ := LX.out_good he
    have a2 := LX.chain_sum hc (Nat.zero_le _)
    have a3 := LX.out_len' (L := bsOf s)
    rw [bsOf_length] at a2 a3
    have e : ∀ l : List LX.Tk, (jb (l.map (tokD s))).length = l.length + ((l.map (LX.sho (bsOf s))).map fun x => x.2.length).sum := by
      intro l
      induction l with
      | nil => rfl
      | cons t l ih =>
        rw [List.map_cons, jb_cons]
        simp only [List.length_cons, List.length_append, List.map_cons, List.sum_cons, ih]
        have : (bsOf (tokD s t).x).length = (LX.sho (bsOf s) t).2.length := by
          show (bsOf (s.extract t.lo t.hi)).length = _
          rw [bsOf_extract]; rfl
        rw [this]; omega
    unfold toks
    rw [e]; omega
  · have : toks s = [] := by
      unfold toks
      have : (LX.out (bsOf s)).1 = [] := by
        unfold LX.out at he ⊢
        split
        · rfl
        · rename_i hl
          rw [if_neg hl] at he
          split
          · rfl
          · rename_i hf; rw [hf] at he; exact absurd rfl he
      rw [this]; rfl
    rw [this]
    exact Nat.zero_le _
end PP
end Go.Proofs.Ytglbmiadgdadfaa
end

section
/- typed of seisinlaw05; what the joined texts parse as. -/
namespace Go.Proofs.Ytglbmiadgdadfaa
open Go.RowKit Go.Shelf
open Go.BigFrame

attribute [local go_sem] Oper.semAt_some
namespace PP
theorem apS (a b : ByteArray) : bsOf (a ++ b) = bsOf a ++ bsOf b := by unfold bsOf; simp
theorem apN (a b : ByteArray) : (a ++ b).size = a.size + b.size := by rw [← bsOf_length, apS, List.length_append, bsOf_length, bsOf_length]
def tyS (l : List TokD) : ByteArray := ⟨(jb l).toArray⟩
theorem bsOf_tyS (l : List TokD) : bsOf (tyS l) = jb l := by unfold tyS bsOf; simp
theorem tyS_size (s : ByteArray) : (tyS (toks s)).size ≤ 3 * s.size := by rw [← bsOf_length, bsOf_tyS]; exact jb_len s
theorem jb_append (a b : List TokD) : jb (a ++ b) = jb a ++ jb b := by unfold jb; rw [List.flatMap_append]
set_option maxRecDepth 100000 in
set_option maxHeartbeats 4000000 in
theorem typed_fn (s : ByteArray) (hs : s.size ≤ 4000) (w : World) : Calls Try.prog 10 #[.string s] w fun e w' => e = .returned (.string (tyS (toks s))) ∧ Below w.heap.size w w' := by
  have CL := Lib.hid fun W => lexT s W
  have hj := jb_len s
  generalize (LX.out (bsOf s)).2.1 = pl at CL
  generalize (LX.out (bsOf s)).2.2 = er at CL
  generalize toks s = ts at *
  go_enter Try.func10, Try.ntmps10
  go_wp2_with fail
  refine (CL.out w).mono ?_
  rintro e w1 ⟨v, rfl, hl, B1⟩
  obtain ⟨hm, a, cap, rfl, hc⟩ := hl
  obtain ⟨N, hN⟩ : ∃ N, ts.length = N := ⟨_, rfl⟩
  rw [hN] at hm hc ⊢
  unfold maxLen at hm
  replace hc := Lib.hid hc
  replace B1 := Lib.hid B1
  clear CL
  go_wp2
  go_loop [6, 7] (fun o i => ∃ (q : Nat) (P : ByteArray), q ≤ N ∧ o = .string P ∧ i = .int .i64 (q : Int) ∧ Hid (bsOf P = jb (ts.take q))) (fun _ i => N - (intOf i).toNat)
  case atStart => exact ⟨0, ⟨#[]⟩, by omega, rfl, rfl, Lib.hid rfl⟩
  case round =>
    obtain ⟨q, P, hq, rfl, rfl, hP⟩ := hrel
    by_cases hlt : q < N
    · obtain ⟨g, rfl, hg, hcc⟩ := hc.out (by omega)
      obtain ⟨t, ht⟩ : ∃ t, ts[q]? = some t := ⟨ts[q]'(by omega), List.getElem?_eq_getElem (by omega)⟩
      obtain ⟨e1, e2, e3⟩ := hcc q t ht
      have u1 : decide (q < N) = true := by simpa using hlt
      have hsplit : jb ts = jb (ts.take q) ++ (32 :: (bsOf t.x ++ jb (ts.drop (q + 1)))) := by
        conv => lhs; rw [← List.take_append_drop q ts]
        rw [jb_append, List.drop_eq_getElem_cons (by omega : q < ts.length), jb_cons]
        have : ts[q]'(by omega) = t := by
          have := List.getElem?_eq_getElem (by omega : q < ts.length)
          rw [ht] at this
          exact (Option.some.inj this).symm
        rw [this]
      have hlen := congrArg List.length hsplit
      rw [← hP.out] at hlen
      simp only [List.length_append, List.length_cons, bsOf_length] at hlen
      obtain ⟨x, hx⟩ : ∃ x, t.x = x := ⟨_, rfl⟩
      rw [hx] at e2 hlen
      have q1 : (9223372036854775807 < P.size + 1) = False := eq_false (by omega)
      have q2 : (9223372036854775807 < P.size + 1 + x.size) = False := eq_false (by omega)
      have hnew : Hid (bsOf (P ++ ⟨#[32]⟩ ++ x) = jb (ts.take (q + 1))) := Lib.hid (by
        rw [List.take_add_one, ht, jb_append, apS, apS, hP.out]
        show _ = _ ++ jb [t]
        rw [jb_cons, hx]
        show _ ++ [32] ++ bsOf x = _ ++ 32 :: (bsOf x ++ [])
        simp)
      clear hcc ht hsplit hlen hx e1 e3
      go_wp2
      exact ⟨⟨q + 1, _, by omega, rfl, by go_num, hnew⟩, by simp [intOf]; omega⟩
    · have u1 : decide (q < N) = false := by simpa using hlt
      have hfin : P = tyS ts := bsOf_inj (by
        rw [bsOf_tyS, hP.out, List.take_of_length_le (by omega)])
      subst hfin
      go_wp2
      go_ret
      exact ⟨rfl, B1.out⟩
/-- A text that reads as given: its tokens. -/
theorem toks_reads {J : ByteArray} {ts : List (Nat × List UInt8)} (h : LX.Reads (bsOf J) false ts) (hJ : J.size ≤ 16384) : (LX.out (bsOf J)).2.2 = 0 ∧ (toks J).map shoD = ts.map fun x => ((x.1 : Int), (⟨x.2.toArray⟩ : ByteArray)) := by
  obtain ⟨q1, q2⟩ := h.out (by rw [bsOf_length]; exact hJ)
  refine ⟨by rw [q1], ?_⟩
  rw [← q2]
  unfold toks
  rw [List.map_map, List.map_map]
  apply List.map_congr_left
  intro t _
  simp only [Function.comp_apply, shoD, tokD, LX.sho]
  rw [← bsOf_extract]
  rfl
theorem shoD_sh (r : List TokD) (h : ∀ t ∈ r, TokN t) : (r.map sh).map (fun x => ((x.1 : Int), (⟨x.2.toArray⟩ : ByteArray))) = r.map shoD := by
  rw [List.map_map]
  apply List.map_congr_left
  intro t ht
  have h0 := (h t ht).1
  show ((t.k.toNat : Int), (⟨(bsOf t.x).toArray⟩ : ByteArray)) = (t.k, t.x)
  rw [Int.toNat_of_nonneg h0]
  rfl
theorem sy_sign {t : TokD} {b : ByteArray} (h : shoD t = (3, b)) : PX.sy t = b := by
  unfold shoD at h
  have h1 : t.k = 3 := congrArg Prod.fst h
  have h2 : t.x = b := congrArg Prod.snd h
  unfold PX.sy
  rw [if_neg (by omega), if_neg (by omega), if_pos h1, h2]
theorem sy_end {t : TokD} {b : ByteArray} (h : shoD t = (4, b)) : PX.sy t = PX.sEND := by
  unfold shoD at h
  have h1 : t.k = 4 := congrArg Prod.fst h
  unfold PX.sy
  rw [if_neg (by omega), if_neg (by omega), if_neg (by omega), if_pos h1]
/-- A valid condition's text. -/
theorem readC_ok {s : ByteArray} {l : List ByteArray} {c : PX.CondD} {st : PX.S} (h : readC s l = .ok c st) : (LX.out (bsOf s)).2.2 = 0 ∧ PX.onlyCond (PX.start s l false) = .ok c st := by
  rw [readC_eq] at h
  split at h
  · rename_i he; exact ⟨he, h⟩
  · cases h
section
variable {a b : ByteArray} {l : List ByteArray} {c d : PX.CondD} {sta stb : PX.S} (ha : readC a l = .ok c sta)
include ha
theorem readC_deep : PX.deep c ≤ 20 := by
  obtain ⟨_, _, _, _, _, h, _⟩ := PX.whole (s := PX.start a l false) rfl (readC_ok ha).2
  exact h
theorem joins_not {J : ByteArray} (hJ : bsOf J = 33 :: 32 :: 40 :: (jb (toks a) ++ [41])) (hs : J.size ≤ 16384) :
    (PX.deep c < 20 → ∃ s1, readC J l = .ok (.mk 5 0 0 0 [c]) s1) ∧ (20 ≤ PX.deep c → ∃ p, readC J l = .bad p 5) := by
  obtain ⟨he, ho⟩ := readC_ok ha
  obtain ⟨r, e, h1, h2, h3, h4, -⟩ := PX.whole (s := PX.start a l false) rfl ho
  obtain ⟨j1, j2⟩ := toks_whole he h1 h3
  have hr := reads_not j2
  have hb : bsOf J = 33 :: 32 :: 40 :: (jb r ++ 32 :: [41]) := by rw [hJ, j1]; simp
  rw [← hb] at hr
  obtain ⟨k1, k2⟩ := toks_reads hr hs
  simp only [List.map_cons, List.map_append, shoD_sh r j2] at k2
  obtain ⟨N, R1, t1, n1, k3⟩ := List.map_eq_cons_iff.1 k2
  obtain ⟨P, R2, t2, n2, k4⟩ := List.map_eq_cons_iff.1 k3
  obtain ⟨r', R3, t3, n3, k5⟩ := List.map_eq_append_iff.1 k4
  obtain ⟨C, R4, t4, n4, k6⟩ := List.map_eq_cons_iff.1 k5
  obtain ⟨E, R5, t5, n5, k7⟩ := List.map_eq_cons_iff.1 k6
  obtain rfl : R5 = [] := by simpa using k7
  subst t5; subst t4; subst t3; subst t2
  rw [readC_eq, if_pos k1]
  exact PX.join_not (sa := PX.start a l false) rfl rfl ho h1 (s := PX.start J l false) ⟨t1, rfl, rfl⟩ (PX.sameT_of _ _ n3.symm fun _ _ => trivial) (sy_sign n1) (sy_sign n2) (sy_sign n4) (sy_end n5)
theorem joins_two (hb : readC b l = .ok d stb) {J : ByteArray} {x : UInt8} {k : Int} (hx : (x = 38 ∧ k = 3) ∨ (x = 124 ∧ k = 4)) (hJ : bsOf J = 40 :: (jb (toks a) ++ 41 :: 32 :: x :: 32 :: 40 :: (jb (toks b) ++ [41]))) (hs : J.size ≤ 16384) :
    (max (PX.deep c) (PX.deep d) < 20 → ∃ s1, readC J l = .ok (.mk k 0 0 0 [c, d]) s1) ∧ (20 ≤ max (PX.deep c) (PX.deep d) → ∃ p, readC J l = .bad p 5) := by
  obtain ⟨he, ho⟩ := readC_ok ha
  obtain ⟨he', ho'⟩ := readC_ok hb
  obtain ⟨r, e, h1, h2, h3, h4, -⟩ := PX.whole (s := PX.start a l false) rfl ho
  obtain ⟨q, e', h1', h2', h3', h4', -⟩ := PX.whole (s := PX.start b l false) rfl ho'
  obtain ⟨j1, j2⟩ := toks_whole he h1 h3
  obtain ⟨j1', j2'⟩ := toks_whole he' h1' h3'
  have hcl : LX.cls (x.toNat : Int) = 7 := by rcases hx with ⟨rfl, _⟩ | ⟨rfl, _⟩ <;> decide
  have hr := reads_two j2 j2' hcl
  have hbb : bsOf J = 40 :: (jb r ++ 32 :: (41 :: 32 :: x :: 32 :: 40 :: (jb q ++ 32 :: [41]))) := by rw [hJ, j1, j1']; simp
  rw [← hbb] at hr
  obtain ⟨k1, k2⟩ := toks_reads hr hs
  simp only [List.map_cons, List.map_append, shoD_sh r j2, shoD_sh q j2'] at k2
  obtain ⟨P, R2, t2, n2, k4⟩ := List.map_eq_cons_iff.1 k2
  obtain ⟨r', R3, t3, n3, k5⟩ := List.map_eq_append_iff.1 k4
  obtain ⟨C, R4, t4, n4, k6⟩ := List.map_eq_cons_iff.1 k5
  obtain ⟨A, R5, t5, n5, k7⟩ := List.map_eq_cons_iff.1 k6
  obtain ⟨P2, R6, t6, n6, k8⟩ := List.map_eq_cons_iff.1 k7
  obtain ⟨q', R7, t7, n7, k9⟩ := List.map_eq_append_iff.1 k8
  obtain ⟨C2, R8, t8, n8, k10⟩ := List.map_eq_cons_iff.1 k9
  obtain ⟨E, R9, t9, n9, k11⟩ := List.map_eq_cons_iff.1 k10
  obtain rfl : R9 = [] := by simpa using k11
  subst t9; subst t8; subst t7; subst t6; subst t5; subst t4; subst t3
  rw [readC_eq, if_pos k1]
  refine PX.join_two (sa := PX.start a l false) (sb := PX.start b l false) rfl rfl ho h1 rfl rfl ho' h1' (s := PX.start J l false) ⟨t2, rfl, rfl⟩ (PX.sameT_of _ _ n3.symm fun _ _ => trivial) (PX.sameT_of _ _ n7.symm fun _ _ => trivial) (sy_sign n2) (sy_sign n4) (sy_sign n6) (sy_sign n8) (sy_end n9) k ?_
  rcases hx with ⟨rfl, rfl⟩ | ⟨rfl, rfl⟩
  · exact .inl ⟨sy_sign n5, rfl⟩
  · exact .inr ⟨sy_sign n5, rfl⟩
end
end PP
end Go.Proofs.Ytglbmiadgdadfaa
end

section
/- Cond, of any text. -/
namespace Go.Proofs.Ytglbmiadgdadfaa
open Go.RowKit Go.Shelf

attribute [local go_sem] Oper.semAt_some
namespace PP
/-- What Cond answers. -/
def CondPost (s : ByteArray) (l : List ByteArray) (w : World) (e : Ending) (w' : World) : Prop :=
  Below w.heap.size w w' ∧ match readC s l with
    | .ok c _ => ∃ x, e = .returned (.tuple #[condV x, .int .i64 0, .int .i64 0]) ∧ CondR w' x c
    | .bad p x => e = .returned (.tuple #[.agg condZ, .int .i64 p, .int .i64 x])
theorem LocsOk.lift {W W' : World} {b b' : Nat} {v : Value} {l : List ByteArray} (h : LocsOk W b false v l) (B : Below W.heap.size W W') (hb : b ≤ b') : LocsOk W' b' false v l := by
  refine ⟨fun h => (by cases h), fun ho => ?_⟩
  obtain ⟨h1, a, cap, rfl, h2⟩ := h.2 ho
  refine ⟨h1, a, cap, rfl, fun h0 => ?_⟩
  obtain ⟨g, off, C, rfl, hg, h3, h4⟩ := h2 h0
  exact ⟨g, off, C, rfl, by omega, (B.block g (lt_of_heap h3)).trans h3, h4⟩
theorem cond_results5 (tmps : Array Value) (W : World) (k : Nat) (cs : Array Value) (p x : Int) (hs : cs.size = 5) (h2 : tmps[4]?.getD undef = .pointer (some ⟨k, 0, none⟩)) (h3 : tmps[5]?.getD undef = .int .i64 p) (h4 : tmps[6]?.getD undef = .int .i64 x)
    (r0 : W.heap[k]? = some (.cells cs 24 (0, 0))) :
    (results Try.f9 tmps).run Try.prog W = .ok (.tuple #[.agg cs, .int .i64 p, .int .i64 x]) W := by
  have l0 := run_loadVar_row (P := Try.prog) W k 24 24 cs (0, 0) _ r0 Try.underlying24 rfl (by rw [sizeCond, hs])
  simp [results, Try.results9, h2, h3, h4, asAddr, l0]
set_option maxRecDepth 100000 in
set_option maxHeartbeats 16000000 in
theorem cond_any (s : ByteArray) (l : List ByteArray) (vl : Value) (w : World) (hl : LocsOk w w.heap.size false vl l) : Calls Try.prog 9 #[.string s, vl] w (CondPost s l w) := by
  have z0 := row_alloc (heap_alloc_new w (.cells condZ 24)) (.cells (parZ false vl) 54)
  have zb := heap_alloc_new (w.alloc (.cells condZ 24)) (.cells (parZ false vl) 54)
  have B0 := ((Below.refl w.heap.size w).alloc (Nat.le_refl _) (.cells condZ 24)).alloc (by simp) (.cells (parZ false vl) 54)
  simp only [World.size_alloc] at zb
  have CR := readCond_any s l vl (w.heap.size + 1) _ zb (hl.lift B0 (by omega))
  obtain ⟨va, vn, vc, rfl⟩ : ∃ a n c, vl = .slice a n c := by
    obtain ⟨_, a, cap, e, _⟩ := hl.2 rfl
    exact ⟨_, _, _, e⟩
  clear hl
  unfold ReadCPost at CR
  unfold CondPost
  unfold condZ parZ at CR B0 z0
  have ht2 : 24 ∉ T1 := by simp [T1]
  replace B0 := Lib.hid B0
  rcases hp : readC s l with ⟨c, st⟩ | ⟨p, x⟩
  · rw [hp] at CR
    replace CR := Lib.hid CR
    go_enter Try.func9, Try.ntmps9
    go_wp2_with (first
      | (go_at_call 13; refine (CR.out).mono ?_; rintro e w1 ⟨F1, xc, rfl, P1⟩
         have r0 := F1.box z0 (by omega) ht2
         have B1 := Lib.hid (B0.out.trans ((Fr.below F1 (by simp)).mono (by omega)))
         obtain ⟨xa, xl, xp, hu⟩ := CondM.slice P1
         obtain ⟨xk, xt, xn, xv, xu⟩ := xc
         simp only at hu
         subst hu
         unfold condV
         simp only
         have d0 := cell_of_row _ w.heap.size 0 _ _ _ r0
         have d1 := cell_of_row _ w.heap.size 1 _ _ _ r0
         have d2 := cell_of_row _ w.heap.size 2 _ _ _ r0
         have d3 := cell_of_row _ w.heap.size 3 _ _ _ r0
         have d4 := cell_of_row _ w.heap.size 4 _ _ _ r0
         simp only [List.getElem?_toArray, List.getElem?_cons_zero, List.getElem?_cons_succ] at d0 d1 d2 d3 d4
         have f0 := fun j => frozen_of_row _ w.heap.size j _ _ r0
         replace r0 := Lib.hid r0
         replace P1 := Lib.hid P1))
    have q0 := setCond_row (y := cvZ) ⟨xk, xt, xn, xv, .slice xa xl xp⟩ r0.out
    have hB := (setCond_fr (T := []) (b := w.heap.size) ⟨xk, xt, xn, xv, .slice xa xl xp⟩ (Fr.of_below B1.out) (Nat.le_refl _)).below (Nat.le_refl _)
    have hPk : CondR (setCond w1 w.heap.size ⟨xk, xt, xn, xv, .slice xa xl xp⟩) ⟨xk, xt, xn, xv, .slice xa xl xp⟩ c :=
      CondM.toR _ _ (CondM.mono (Q' := fun _ => True) (fun i D hi hh => setCond_keep hh (by simp at hi; omega)) (fun _ _ => trivial) _ _ P1.out)
    obtain ⟨Y, hY⟩ : ∃ Y, setCond w1 w.heap.size ⟨xk, xt, xn, xv, .slice xa xl xp⟩ = Y := ⟨_, rfl⟩
    rw [hY] at q0 hPk hB
    unfold setCond at hY
    simp only at hY
    rw [hY]
    clear hY
    have hR : CondPost s l w (.returned (.tuple #[.agg #[.int .u8 xk, .int .u8 xt, .int .u8 xn, .int .u8 xv, .slice xa xl xp], .int .i64 0, .int .i64 0])) Y := by
      unfold CondPost
      rw [hp]
      exact ⟨hB, ⟨xk, xt, xn, xv, .slice xa xl xp⟩, rfl, hPk⟩
    unfold CondPost at hR
    rw [hp] at hR
    exact bodyPost_ret (v := .tuple #[.agg #[.int .u8 xk, .int .u8 xt, .int .u8 xn, .int .u8 xv, .slice xa xl xp], .int .i64 0, .int .i64 0]) (cond_results5 _ _ w.heap.size #[.int .u8 xk, .int .u8 xt, .int .u8 xn, .int .u8 xv, .slice xa xl xp] 0 0 rfl rfl rfl rfl q0) rfl hR
  · rw [hp] at CR
    replace CR := Lib.hid CR
    go_enter Try.func9, Try.ntmps9
    go_wp2_with (first
      | (go_at_call 13; refine (CR.out).mono ?_; rintro e w1 ⟨F1, rfl⟩
         have r0 := F1.box z0 (by omega) ht2
         have B1 := Lib.hid (B0.out.trans ((Fr.below F1 (by simp)).mono (by omega)))
         have d0 := cell_of_row _ w.heap.size 0 _ _ _ r0
         have d1 := cell_of_row _ w.heap.size 1 _ _ _ r0
         have d2 := cell_of_row _ w.heap.size 2 _ _ _ r0
         have d3 := cell_of_row _ w.heap.size 3 _ _ _ r0
         have d4 := cell_of_row _ w.heap.size 4 _ _ _ r0
         simp only [List.getElem?_toArray, List.getElem?_cons_zero, List.getElem?_cons_succ] at d0 d1 d2 d3 d4
         have f0 := fun j => frozen_of_row _ w.heap.size j _ _ r0
         replace r0 := Lib.hid r0))
    have q0 := setCond_row (y := cvZ) cvZ r0.out
    have hB := (setCond_fr (T := []) (b := w.heap.size) cvZ (Fr.of_below B1.out) (Nat.le_refl _)).below (Nat.le_refl _)
    obtain ⟨Y, hY⟩ : ∃ Y, setCond w1 w.heap.size cvZ = Y := ⟨_, rfl⟩
    rw [hY] at q0 hB
    unfold setCond cvZ at hY
    simp only at hY
    rw [hY]
    clear hY
    exact bodyPost_ret (v := .tuple #[.agg condZ, .int .i64 p, .int .i64 x]) (cond_results5 _ _ w.heap.size condZ p x rfl rfl rfl rfl q0) rfl ⟨hB, rfl⟩
end PP
end Go.Proofs.Ytglbmiadgdadfaa
end

section
/- A list of strings that came in as an argument: locations that are given. -/
namespace Go.Proofs.Ytglbmiadgdadfaa
open Go.ChangeShapes Go.WideShapes Go.RowKit

theorem strCells : Try.prog.cellsOf 9 = 1 := by kernel_rfl
set_option maxRecDepth 100000 in
theorem strsArg {H : Type} {enc : TypeId × Value → H} {W : World} {base : Nat} {v : Value} {d : DataW H} {p : List MemPlace}
    (hv : Value.okWide Try.prog W .any base 29 v) (h : DataW.Trod enc Try.prog W 0 (fun _ => true) true 29 v d p) : ∃ l : List ByteArray, PP.LocsOk W W.heap.size false v l := by
  obtain ⟨a0, len, cap, rfl⟩ := okWide_slice Try.underlying29 hv
  obtain ⟨fuel, hf⟩ := h
  rcases open_strings Try.underlying29 Try.underlying9 strCells hf with ⟨hcs, _⟩ | ⟨a, len', cap', ss, hcs, _, hle, hm, hz, _, hcell, _⟩
  · have hcs0 : [Value.slice a0 len cap] = [Value.slice none 0 0] := hcs
    obtain ⟨rfl, rfl, rfl⟩ : a0 = none ∧ len = 0 ∧ cap = 0 := by simpa using hcs0
    exact ⟨[], fun h => (by cases h), fun _ => ⟨Nat.zero_le _, none, 0, rfl, fun h => absurd h (by simp)⟩⟩
  · have hcs0 : [Value.slice a0 len cap] = [Value.slice (some a) len' cap'] := hcs
    obtain ⟨rfl, rfl, rfl⟩ : a0 = some a ∧ len = len' ∧ cap = cap' := by simpa using hcs0
    simp only [if_true] at hz
    have hlen : (ss.take len).length = len := by rw [List.length_take]; omega
    refine ⟨ss.take len, fun h => (by cases h), fun _ => ⟨by rw [hlen]; omega, some a, cap, by rw [hlen], fun h0 => ?_⟩⟩
    rw [hlen] at h0
    obtain ⟨g, off, spot⟩ := a
    have h1 := hcell 0 (by omega)
    have hspot : spot = none := by simpa [Addr.add] using World.cell?_spot h1
    subst hspot
    have hb : g < W.heap.size := World.block_lt_of_cell? W _ h1
    refine ⟨g, off, W.heap[g], rfl, hb, Array.getElem?_eq_getElem hb, fun j x hj U hU => ?_⟩
    have hjl : j < len := by have := (List.getElem?_eq_some_iff.1 hj).1; omega
    rw [PP.cell_same (Array.getElem?_eq_getElem hb) hU]
    have h2 := hcell j (by omega)
    rw [Go.WideShapes.add_plain] at h2
    rw [h2]
    rw [List.getElem?_take, if_pos hjl] at hj
    rw [List.getD_eq_getElem?_getD, hj]
    rfl
end Go.Proofs.Ytglbmiadgdadfaa
end
