/- LexBlanks. -/
import Derived.BigQuiet
import Derived.Test.YtcahdnghdblanaaLexRows
import Derived.Test.YtcahdnghdblanaaLexBackLaw
namespace Go.Proofs.Ytcahdnghdblanaa
open Go.RowKit Go.Shelf

attribute [local go_sem] Oper.semAt_some
/-- Where blanks stand behind a token. -/
def blC (z : Int) (j : Nat) : Bool := ((j : Int) + z) % 3 == 0
def whole (X : List UInt8) (z : Int) (s : ByteArray) : List UInt8 := 10 :: 32 :: 9 :: LX.blL X (blC z) 0 ((LX.out (bsOf s)).1.map (LX.sho (bsOf s)))
theorem whole_reads {X : List UInt8} (hX : ∀ b ∈ X, b ≠ 10) (z : Int) {s : ByteArray} (h : (LX.out (bsOf s)).2.2 = 0) : LX.Reads (whole X z s) false ((LX.out (bsOf s)).1.map (LX.sho (bsOf s))) :=
  (((LX.bl_reads hX (blC z) _ 0 false (LX.out_good h).1).blank (b := 9) rfl).blank (b := 32) rfl).nl
theorem blL_at {X : List UInt8} {c : Nat → Bool} {ts : List (Nat × List UInt8)} {k : Nat} {t : Nat × List UInt8} (h : ts[k]? = some t) :
    LX.blL X c k (ts.drop k) = t.2 ++ 32 :: ((if t.1 = 4 then 9 :: 35 :: (X ++ [10, 10]) else []) ++ ((if c k then [9, 32] else []) ++ LX.blL X c (k + 1) (ts.drop (k + 1)))) := by
  have hk := (List.getElem?_eq_some_iff.1 h).1
  rw [List.drop_eq_getElem_cons hk, (List.getElem?_eq_some_iff.1 h).2]
  rfl
theorem bs_app (a b : ByteArray) : bsOf (a ++ b) = bsOf a ++ bsOf b := by unfold bsOf; simp
theorem kinds_sho (l : List TokD) : (l.map bareD).map shoD = l.map shoD := by rw [List.map_map]; rfl

/-- 's[k:k+1]' -/
theorem str_one (s : ByteArray) (k : Nat) (h : k < s.size) (W : World) : (Instr.slice 9 (.string s) (some (.int .i64 (k : Int))) (some (.int .i64 ((k : Int) + 1))) none).run Try.prog W = .ok (.string (s.extract k (k + 1))) W := by
  have e : ((k : Int) + 1) = ((k + 1 : Nat) : Int) := by omega
  rw [e]
  have hu : Try.prog.underlying 9 = some .string := Try.underlying9
  simp [Instr.slice, Instr.sliceBounds, Instr.sliceBound, asIntOf, run_underlying hu, show ¬ (k + 1 > s.size) by omega]
  omega
set_option maxRecDepth 100000 in
set_option maxHeartbeats 8000000 in
theorem blanks_good (s r : ByteArray) (n : Int) (n0 : -9223372036854775808 ≤ n) (n1 : n ≤ 9223372036854775807) (w : World) (h : (LX.out (bsOf s)).2.2 = 0) (h5 : (toks s).length ≤ 500) (hr : r.size ≤ 20) :
    Calls Try.prog 8 #[.string s, .string r, .int .i64 n] w fun e w' => e = .returned (.bool true) ∧ Below w.heap.size w w' := by
  have L1 := lexIs s
  rw [h] at L1
  replace L1 := Lib.hid L1
  have hgood := Lib.hid (LX.out_good h)
  have hread := Lib.hid (fun X (hX : ∀ b ∈ X, b ≠ 10) z => whole_reads hX z h)
  have t1 : decide (500 < ((toks s).length : Int)) = false := by simp; omega
  have t2 : decide (20 < (r.size : Int)) = false := by simp; omega
  have hk0 := Lib.hid (show ∀ k t, (toks s)[k]? = some t → ∃ tk, (LX.out (bsOf s)).1[k]? = some tk ∧ t = tokD s tk by
    intro k t ht
    unfold toks at ht
    rw [List.getElem?_map] at ht
    obtain ⟨tk, h1, h2⟩ := Option.map_eq_some_iff.1 ht
    exact ⟨tk, h1, h2.symm⟩)
  have hlen := Lib.hid (toks_length s)
  clear h
  obtain ⟨T, hT⟩ : ∃ T, Hid (toks s = T) := ⟨_, Lib.hid rfl⟩
  rw [hT.out] at L1 h5 t1 hk0 hlen
  go_enter Try.func8, Try.ntmps8
  go_wp2_with fail
  refine (awake_any w).mono ?_
  rintro e w1 ⟨rfl, hB⟩
  replace hB := Lib.hid hB
  go_wp2_with fail
  refine (L1.out w1).mono ?_
  rintro e w2 ⟨v, rfl, l1, hb⟩
  replace hB := Lib.hid (hB.out.trans (hb.mono hB.out.size))
  clear hb
  have hl1 := Lib.hid l1
  obtain ⟨hm, ad, cap, rfl, hcell⟩ := l1
  replace hcell := Lib.hid hcell
  clear hm
  go_wp2_with fail
  go_loop [10, 11] (fun o i => ∃ (k : Nat) (b : ByteArray), k ≤ r.size ∧ o = .string b ∧ i = .int .i64 (k : Int) ∧ b.size ≤ k ∧ Hid (∀ x ∈ bsOf b, x ≠ 10)) (fun _ i => r.size - (intOf i).toNat)
  case atStart => exact ⟨0, ⟨#[]⟩, by omega, rfl, rfl, Nat.le_refl 0, Lib.hid (by simp [bsOf])⟩
  case round =>
    obtain ⟨k, b, hk, rfl, rfl, hbs, hb10⟩ := hrel
    by_cases hlt : k < r.size
    · have u1 : decide ((k : Int) < (r.size : Int)) = true := by simpa using hlt
      by_cases h10 : r[k]'hlt = 10
      · have u2 : (((r[k]'hlt).toNat : Int) != 10) = false := by rw [h10]; rfl
        go_wp2
        exact ⟨⟨k + 1, b, by omega, rfl, by go_num, by omega, hb10⟩, by simp [intOf]; omega⟩
      · have u2 : (((r[k]'hlt).toNat : Int) != 10) = true := by
          rw [bne_iff_ne]; intro hh
          exact h10 (UInt8.toNat_inj.1 (by show _ = 10; omega))
        have hxs : (r.extract k (k + 1)).size = 1 := by rw [← bsOf_length, bsOf_extract, LX.cut_len (by rw [bsOf_length]; omega)]; omega
        have q1 : (9223372036854775807 < b.size + (r.extract k (k + 1)).size) = False := eq_false (by omega)
        have hnew : Hid (∀ x ∈ bsOf (b ++ r.extract k (k + 1)), x ≠ 10) := Lib.hid (by
          rw [bs_app, bsOf_extract, LX.cut_one (bs_get? r k hlt)]
          intro x hx
          rcases List.mem_append.1 hx with hx | hx
          · exact hb10.out x hx
          · simp at hx; rw [hx]; exact h10)
        have hsz : (b ++ r.extract k (k + 1)).size ≤ k + 1 := by rw [app_size]; omega
        replace hxs := Lib.hid hxs
        have b1 : (k : Int) ≤ (k : Int) + 1 := by omega
        have b2 : (k : Int) + 1 ≤ (r.size : Int) := by omega
        have hsl := fun W => str_one r k hlt W
        clear h10
        go_wp2
        exact ⟨⟨k + 1, _, by omega, rfl, by go_num, hsz, hnew⟩, by simp [intOf]; omega⟩
    · obtain rfl : k = r.size := by omega
      have u1 : decide ((r.size : Int) < (r.size : Int)) = false := by simp
      clear hlt hk u1
      obtain ⟨z, hz⟩ : ∃ z, n.tmod 3 = z := ⟨_, rfl⟩
      have hz0 : -2 ≤ z ∧ z ≤ 2 := by
        rw [← hz]
        rcases Int.lt_or_le n 0 with h | h
        · have := Int.lt_tmod_of_pos n (show (0 : Int) < 3 by decide); have := Int.tmod_lt_of_pos n (show (0 : Int) < 3 by decide); omega
        · have := Int.tmod_nonneg 3 h; have := Int.tmod_lt_of_pos n (show (0 : Int) < 3 by decide); omega
      have hr2 := hread.out (bsOf b) hb10.out z
      replace hread := Lib.hid hr2
      clear hr2 hb10
      go_wp2_with fail
      go_loop [12, 13] (fun o i => ∃ (k : Nat) (ob : ByteArray), k ≤ T.length ∧ o = .string ob ∧ i = .int .i64 (k : Int) ∧ ob.size ≤ 3 + k * 20000 ∧ Hid (whole (bsOf b) z s = bsOf ob ++ LX.blL (bsOf b) (blC z) k (((LX.out (bsOf s)).1.map (LX.sho (bsOf s))).drop k))) (fun _ i => T.length - (intOf i).toNat)
      case atStart => exact ⟨0, ⟨#[10, 32, 9]⟩, by omega, rfl, rfl, Nat.le_refl 3, Lib.hid rfl⟩
      case round =>
        obtain ⟨k, ob, hk, rfl, rfl, hos, hob⟩ := hrel
        by_cases hlt : k < T.length
        · obtain ⟨g, rfl, hg, hc⟩ := hcell.out (by omega)
          obtain ⟨t, ht⟩ : ∃ t, T[k]? = some t := ⟨T[k], List.getElem?_eq_getElem hlt⟩
          obtain ⟨e1, e2, e3⟩ := hc k t ht
          obtain ⟨tk, htk, rfl⟩ := hk0.out k t ht
          have u1 : decide (k < T.length) = true := by simpa using hlt
          have hmem := LX.chain_mem hgood.out.2.1 tk (List.mem_of_getElem? htk)
          have hl16 := hgood.out.2.2
          have hst := blL_at (X := bsOf b) (c := blC z) (k := k) (ts := (LX.out (bsOf s)).1.map (LX.sho (bsOf s))) (t := LX.sho (bsOf s) tk) (by rw [List.getElem?_map, htk]; rfl)
          have hob2 := hob.out
          rw [hst] at hob2
          unfold tokD at e1 e2
          simp only at e1 e2
          obtain ⟨x, hx⟩ : ∃ x, Hid (x = s.extract tk.lo tk.hi) := ⟨_, Lib.hid rfl⟩
          rw [← hx.out] at e2
          have hxb : LX.cut (bsOf s) tk.lo tk.hi = bsOf x := by rw [hx.out, bsOf_extract]
          have hxs : x.size ≤ 16384 := by rw [← bsOf_length, ← hxb, LX.cut_len hmem.2]; omega
          have hsho : LX.sho (bsOf s) tk = (tk.kind, bsOf x) := by unfold LX.sho; rw [hxb]
          rw [hsho] at hob2
          simp only at hob2
          have q1 : (9223372036854775807 < ob.size + x.size) = False := eq_false (by omega)
          have q2 : (9223372036854775807 < (ob ++ x).size + 1) = False := eq_false (by rw [app_size]; omega)
          have z2 : (ob ++ x ++ ⟨#[32]⟩).size = ob.size + x.size + 1 := by rw [app_size, app_size]; rfl
          clear hc ht htk hmem hst hxb e3 hsho hob
          by_cases h4 : tk.kind = 4
          · rw [h4] at e1
            rw [if_pos h4] at hob2
            have q3 : (9223372036854775807 < (ob ++ x ++ ⟨#[32]⟩).size + 2) = False := eq_false (by omega)
            have z3 : (ob ++ x ++ ⟨#[32]⟩ ++ ⟨#[9, 35]⟩).size = ob.size + x.size + 3 := by rw [app_size, z2]; rfl
            have q4 : (9223372036854775807 < (ob ++ x ++ ⟨#[32]⟩ ++ ⟨#[9, 35]⟩).size + b.size) = False := eq_false (by omega)
            have z4 : (ob ++ x ++ ⟨#[32]⟩ ++ ⟨#[9, 35]⟩ ++ b).size = ob.size + x.size + 3 + b.size := by rw [app_size, z3]
            have q5 : (9223372036854775807 < (ob ++ x ++ ⟨#[32]⟩ ++ ⟨#[9, 35]⟩ ++ b).size + 2) = False := eq_false (by omega)
            have z5 : (ob ++ x ++ ⟨#[32]⟩ ++ ⟨#[9, 35]⟩ ++ b ++ ⟨#[10, 10]⟩).size = ob.size + x.size + 5 + b.size := by rw [app_size, z4]; show _ + 2 = _; omega
            cases hcb : blC z k
            · have vc : (((k : Int) + z) % 3 == 0) = false := hcb
              have hfin : Hid (whole (bsOf b) z s = bsOf (ob ++ x ++ ⟨#[32]⟩ ++ ⟨#[9, 35]⟩ ++ b ++ ⟨#[10, 10]⟩) ++ LX.blL (bsOf b) (blC z) (k + 1) (((LX.out (bsOf s)).1.map (LX.sho (bsOf s))).drop (k + 1))) := Lib.hid (by
                rw [hob2, hcb]; simp [bs_app, bsOf])
              have hsz : (ob ++ x ++ ⟨#[32]⟩ ++ ⟨#[9, 35]⟩ ++ b ++ ⟨#[10, 10]⟩).size ≤ 3 + (k + 1) * 20000 := by rw [z5]; omega
              replace hsz := Lib.hid hsz
              replace z2 := Lib.hid z2
              replace z3 := Lib.hid z3
              replace z4 := Lib.hid z4
              replace z5 := Lib.hid z5
              clear hob2 hcb h4
              go_wp2
              exact ⟨⟨k + 1, _, by omega, rfl, by go_num, hsz.out, hfin⟩, by simp [intOf]; omega⟩
            · have vc : (((k : Int) + z) % 3 == 0) = true := hcb
              have q6 : (9223372036854775807 < (ob ++ x ++ ⟨#[32]⟩ ++ ⟨#[9, 35]⟩ ++ b ++ ⟨#[10, 10]⟩).size + 2) = False := eq_false (by omega)
              have hfin : Hid (whole (bsOf b) z s = bsOf (ob ++ x ++ ⟨#[32]⟩ ++ ⟨#[9, 35]⟩ ++ b ++ ⟨#[10, 10]⟩ ++ ⟨#[9, 32]⟩) ++ LX.blL (bsOf b) (blC z) (k + 1) (((LX.out (bsOf s)).1.map (LX.sho (bsOf s))).drop (k + 1))) := Lib.hid (by
                rw [hob2, hcb]; simp [bs_app, bsOf])
              have hsz : (ob ++ x ++ ⟨#[32]⟩ ++ ⟨#[9, 35]⟩ ++ b ++ ⟨#[10, 10]⟩ ++ ⟨#[9, 32]⟩).size ≤ 3 + (k + 1) * 20000 := by rw [app_size, z5]; show _ + 2 ≤ _; omega
              replace hsz := Lib.hid hsz
              replace z2 := Lib.hid z2
              replace z3 := Lib.hid z3
              replace z4 := Lib.hid z4
              replace z5 := Lib.hid z5
              clear hob2 hcb h4
              go_wp2
              exact ⟨⟨k + 1, _, by omega, rfl, by go_num, hsz.out, hfin⟩, by simp [intOf]; omega⟩
          · have vk : ((tk.kind : Int) == 4) = false := by rw [Bool.eq_false_iff]; intro h; rw [beq_iff_eq] at h; omega
            rw [if_neg h4] at hob2
            cases hcb : blC z k
            · have vc : (((k : Int) + z) % 3 == 0) = false := hcb
              have hfin : Hid (whole (bsOf b) z s = bsOf (ob ++ x ++ ⟨#[32]⟩) ++ LX.blL (bsOf b) (blC z) (k + 1) (((LX.out (bsOf s)).1.map (LX.sho (bsOf s))).drop (k + 1))) := Lib.hid (by
                rw [hob2, hcb]; simp [bs_app, bsOf])
              have hsz : (ob ++ x ++ ⟨#[32]⟩).size ≤ 3 + (k + 1) * 20000 := by rw [z2]; omega
              replace hsz := Lib.hid hsz
              replace z2 := Lib.hid z2
              clear hob2 hcb h4
              go_wp2
              exact ⟨⟨k + 1, _, by omega, rfl, by go_num, hsz.out, hfin⟩, by simp [intOf]; omega⟩
            · have vc : (((k : Int) + z) % 3 == 0) = true := hcb
              have q6 : (9223372036854775807 < (ob ++ x ++ ⟨#[32]⟩).size + 2) = False := eq_false (by omega)
              have hfin : Hid (whole (bsOf b) z s = bsOf (ob ++ x ++ ⟨#[32]⟩ ++ ⟨#[9, 32]⟩) ++ LX.blL (bsOf b) (blC z) (k + 1) (((LX.out (bsOf s)).1.map (LX.sho (bsOf s))).drop (k + 1))) := Lib.hid (by
                rw [hob2, hcb]; simp [bs_app, bsOf])
              have hsz : (ob ++ x ++ ⟨#[32]⟩ ++ ⟨#[9, 32]⟩).size ≤ 3 + (k + 1) * 20000 := by rw [app_size, z2]; show _ + 2 ≤ _; omega
              replace hsz := Lib.hid hsz
              replace z2 := Lib.hid z2
              clear hob2 hcb h4
              go_wp2
              exact ⟨⟨k + 1, _, by omega, rfl, by go_num, hsz.out, hfin⟩, by simp [intOf]; omega⟩
        · obtain rfl : k = T.length := by omega
          have u1 : decide (T.length < T.length) = false := by simp
          have hW : whole (bsOf b) z s = bsOf ob := by
            rw [hob.out, List.drop_eq_nil_of_le (by rw [List.length_map]; have := hlen.out; omega)]; simp [LX.blL]
          rw [hW] at hread
          have L2 := lexIs ob
          by_cases hbig : 16384 < ob.size
          · rw [LX.out_big (by rw [bsOf_length]; exact hbig)] at L2
            replace L2 := Lib.hid L2
            have v1 : decide (16384 < (ob.size : Int)) = true := by simp; omega
            clear hbig hW hob
            go_wp2_with fail
            refine (L2.out w2).mono ?_
            rintro e w3 ⟨u, rfl, -, hb⟩
            replace hB := Lib.hid (hB.out.trans (hb.mono hB.out.size))
            clear hb
            go_wp2
            go_ret
            exact ⟨rfl, hB.out⟩
          · obtain ⟨y1, y2⟩ := hread.out.out (by rw [bsOf_length]; omega)
            have hsh : (toks ob).map shoD = (toks s).map shoD := shoD_of y2
            rw [hT.out] at hsh
            rw [y1] at L2
            replace L2 := Lib.hid L2
            have v1 : decide (16384 < (ob.size : Int)) = false := by simp; omega
            have hsk : Hid (((toks ob).map bareD).map shoD = (T.map bareD).map shoD) := Lib.hid (by rw [kinds_sho, kinds_sho, hsh])
            have hl3 := toks_len ob
            replace hl3 := Lib.hid hl3
            clear hbig hW hob y1 y2 hsh
            go_wp2_with fail
            refine (L2.out w2).mono ?_
            rintro e w3 ⟨u, rfl, l2, hb⟩
            replace hl1 := Lib.hid (hl1.out.on hb)
            replace hB := Lib.hid (hB.out.trans (hb.mono hB.out.size))
            clear hb
            go_wp2_with fail
            refine (kinds_any _ _ w3 hl1.out (by omega)).mono ?_
            rintro e w4 ⟨k1, rfl, lk1, hb⟩
            replace l2 := l2.on hb
            replace hB := Lib.hid (hB.out.trans (hb.mono hB.out.size))
            clear hb
            go_wp2_with fail
            refine (kinds_any _ _ w4 l2 (by have := hl3.out; omega)).mono ?_
            rintro e w5 ⟨k2, rfl, lk2, hb⟩
            replace lk1 := lk1.on hb
            replace hB := Lib.hid (hB.out.trans (hb.mono hB.out.size))
            clear hb
            go_wp2_with fail
            refine (alike_any k1 k2 _ _ w5 lk1 lk2 hsk.out).mono ?_
            rintro e w6 ⟨rfl, hb⟩
            replace hB := Lib.hid (hB.out.trans (hb _))
            clear hb
            go_wp2
            go_ret
            exact ⟨rfl, hB.out⟩
set_option maxRecDepth 100000 in
theorem blanks_law (s r : ByteArray) (n : Int) (n0 : -9223372036854775808 ≤ n) (n1 : n ≤ 9223372036854775807) (w : World) :
    Calls Try.prog 8 #[.string s, .string r, .int .i64 n] w fun e w' => e = .returned (.bool true) ∧ Below w.heap.size w w' := by
  have hcase : (((LX.out (bsOf s)).2.2 : Int) != 0) = true ∨ ((((LX.out (bsOf s)).2.2 : Int) != 0) = false ∧ decide (500 < ((toks s).length : Int)) = true) ∨
      ((((LX.out (bsOf s)).2.2 : Int) != 0) = false ∧ decide (500 < ((toks s).length : Int)) = false ∧ decide (20 < (r.size : Int)) = true) ∨
      ((LX.out (bsOf s)).2.2 = 0 ∧ (toks s).length ≤ 500 ∧ r.size ≤ 20) := by
    by_cases h1 : (LX.out (bsOf s)).2.2 = 0
    · rw [h1]
      by_cases h2 : 500 < (toks s).length
      · exact .inr (.inl ⟨rfl, by simp; omega⟩)
      · by_cases h3 : 20 < r.size
        · exact .inr (.inr (.inl ⟨rfl, by simp; omega, by simp; omega⟩))
        · exact .inr (.inr (.inr ⟨rfl, by omega, by omega⟩))
    · exact .inl (by simp; omega)
  have L1 := Lib.hid (lexIs s)
  rcases hcase with t1 | ⟨t1, t2⟩ | ⟨t1, t2, t3⟩ | ⟨h1, h2, h3⟩
  · go_enter Try.func8, Try.ntmps8
    go_wp2_with fail
    refine (awake_any w).mono ?_
    rintro e w1 ⟨rfl, hB⟩
    replace hB := Lib.hid hB
    go_wp2_with fail
    refine (L1.out w1).mono ?_
    rintro e w2 ⟨v, rfl, ⟨-, ad, cap, rfl, -⟩, hb⟩
    replace hB := Lib.hid (hB.out.trans (hb.mono hB.out.size))
    clear hb
    go_wp2
    go_ret
    exact ⟨rfl, hB.out⟩
  · go_enter Try.func8, Try.ntmps8
    go_wp2_with fail
    refine (awake_any w).mono ?_
    rintro e w1 ⟨rfl, hB⟩
    replace hB := Lib.hid hB
    go_wp2_with fail
    refine (L1.out w1).mono ?_
    rintro e w2 ⟨v, rfl, ⟨-, ad, cap, rfl, -⟩, hb⟩
    replace hB := Lib.hid (hB.out.trans (hb.mono hB.out.size))
    clear hb
    go_wp2
    go_ret
    exact ⟨rfl, hB.out⟩
  · go_enter Try.func8, Try.ntmps8
    go_wp2_with fail
    refine (awake_any w).mono ?_
    rintro e w1 ⟨rfl, hB⟩
    replace hB := Lib.hid hB
    go_wp2_with fail
    refine (L1.out w1).mono ?_
    rintro e w2 ⟨v, rfl, ⟨-, ad, cap, rfl, -⟩, hb⟩
    replace hB := Lib.hid (hB.out.trans (hb.mono hB.out.size))
    clear hb
    go_wp2
    go_ret
    exact ⟨rfl, hB.out⟩
  · exact blanks_good s r n n0 n1 w h1 h2 h3
end Go.Proofs.Ytcahdnghdblanaa
