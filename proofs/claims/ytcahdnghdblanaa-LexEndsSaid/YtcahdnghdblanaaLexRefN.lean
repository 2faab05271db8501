/- The document's answers for layer 4: Kept, Name. -/
import Derived.Test.YtcahdnghdblanaaLexRefW
namespace Go.Proofs.Ytcahdnghdblanaa
open Go.RowKit

attribute [local go_sem] Oper.semAt_some
/-- The row of the keywords, as a block. -/
def kwV : List Value := LX.kws.map fun k => .string ⟨k.toArray⟩
theorem kwV_get {k : Nat} (h : k < 17) : ∃ l, LX.kws[k]? = some l ∧ kwV[k]? = some (.string ⟨l.toArray⟩) := by
  have hk : k < LX.kws.length := h
  refine ⟨LX.kws[k], List.getElem?_eq_getElem hk, ?_⟩
  unfold kwV
  rw [List.getElem?_map, List.getElem?_eq_getElem hk]; rfl

set_option maxRecDepth 100000 in
set_option maxHeartbeats 2000000 in
theorem rKept_any (s : ByteArray) (w : World) :
    Calls Try.prog 30 #[.string s] w fun e w' => e = .returned (.bool (LX.keptB (bsOf s))) ∧ Below w.heap.size w w' := by
  have hB : Below w.heap.size w (w.alloc (.cells kwV.toArray 9)) := (Below.refl _ w).alloc (Nat.le_refl _) _
  have hcell : ∀ k l, LX.kws[k]? = some l → (w.alloc (.cells kwV.toArray 9)).cell? ⟨w.heap.size, k, none⟩ = some (.string ⟨l.toArray⟩) := fun k l h => by
    rw [cell_of_row _ w.heap.size k _ _ _ (heap_alloc_new w _)]
    obtain ⟨l', h1, h2⟩ := kwV_get (k := k) (List.getElem?_eq_some_iff.1 h).1
    rw [h] at h1; cases h1
    simpa using h2
  obtain ⟨W, hW⟩ : ∃ W, W = w.alloc (.cells kwV.toArray 9) := ⟨_, rfl⟩
  rw [← hW] at hB hcell
  replace hcell := Lib.hid hcell
  simp only [kwV, LX.kws, List.map_cons, List.map_nil] at hW
  replace hW := Lib.hid hW.symm
  have hkb : LX.keptB (bsOf s) = LX.kws.any fun k => k == s.toList := by
    unfold LX.keptB; rw [toList_bs]; congr 1; funext k; rw [Bool.eq_iff_iff, beq_iff_eq, beq_iff_eq]; exact eq_comm
  replace hkb := Lib.hid hkb
  go_enter Try.func30, Try.ntmps30
  go_wp2
  rw [hW.out]
  clear hW
  go_loop [4] (fun i => ∃ k : Nat, k ≤ 17 ∧ i = .int .i64 (k : Int) ∧ Hid (∀ j l, j < k → LX.kws[j]? = some l → (l == s.toList) = false)) (fun i => 17 - (intOf i).toNat)
  case atStart => exact ⟨0, by omega, rfl, Lib.hid fun j l h => by omega⟩
  case round =>
    obtain ⟨k, hk, rfl, hno⟩ := hrel
    by_cases hlt : k < 17
    · obtain ⟨l, hl, -⟩ := kwV_get hlt
      have c0 := hcell.out k l hl
      have tk : decide ((k : Int) < 17) = true := by simp; omega
      cases hq : (l == s.toList)
      · have hno2 : Hid (∀ j l, j < k + 1 → LX.kws[j]? = some l → (l == s.toList) = false) := Lib.hid fun j l' hj h => by
          by_cases he : j = k
          · rw [he, hl] at h; cases h; exact hq
          · exact hno.out j l' (by omega) h
        clear hl
        go_wp2
        go_round
        case rel => exact ⟨k + 1, by omega, by go_num, hno2⟩
        case measure => simp [intOf]; omega
      · have hyes : Hid (LX.keptB (bsOf s) = true) := Lib.hid (by rw [hkb.out, List.any_eq_true]; exact ⟨l, List.mem_of_getElem? hl, hq⟩)
        clear hl
        go_wp2
        go_ret
        rw [hyes.out]
        exact ⟨rfl, hB⟩
    · obtain rfl : k = 17 := by omega
      have tk : decide (((17 : Nat) : Int) < 17) = false := by simp
      have hno2 : Hid (LX.keptB (bsOf s) = false) := Lib.hid (by
        rw [hkb.out, List.any_eq_false]
        intro x hx
        obtain ⟨j, hj⟩ := List.mem_iff_getElem?.1 hx
        have := hno.out j x (List.getElem?_eq_some_iff.1 hj).1 hj
        simpa using this)
      go_wp2
      go_ret
      rw [hno2.out]
      exact ⟨rfl, hB⟩

/-- May the name be an r and digits, as far as k? -/
def dgF (l : List UInt8) (k : Nat) : Bool := decide (1 < l.length) && (l[0]? == some 114) && ((l.take k).drop 1).all LX.digB
theorem dgF_step {l : List UInt8} {k : Nat} (h1 : 1 ≤ k) (hk : k < l.length) : dgF l (k + 1) = (dgF l k && LX.digB (l[k]'hk)) := by
  unfold dgF
  rw [List.take_succ_eq_append_getElem hk, List.drop_append, List.all_append, List.length_take, show 1 - min k l.length = 0 by omega, List.drop_zero]
  simp [Bool.and_assoc]
theorem dgF_end (l : List UInt8) : dgF l l.length = (l[0]? == some 114 && LX.cons LX.inN (l.drop 1)) := by
  unfold dgF
  rw [List.take_length, Bool.eq_iff_iff]
  simp only [Bool.and_eq_true, decide_eq_true_eq, LX.consN_iff, List.length_drop]
  constructor
  · rintro ⟨⟨h1, h2⟩, h3⟩; exact ⟨h2, h3, by omega⟩
  · rintro ⟨h1, h2, h3⟩; exact ⟨⟨by omega, h1⟩, h2⟩

set_option maxRecDepth 100000 in
set_option maxHeartbeats 4000000 in
theorem rName_any (s : ByteArray) (w : World) (hm : s.size ≤ maxLen) :
    Calls Try.prog 31 #[.string s] w fun e w' => e = .returned (.bool (LX.nameB (bsOf s))) ∧ Below w.heap.size w w' := by
  unfold maxLen at hm
  have CK := Lib.hid (fun W => rKept_any s W)
  have hlen := Lib.hid (bsOf_length s)
  by_cases h0 : s.size = 0
  · have hno : LX.nameB (bsOf s) = false := by
      rw [show bsOf s = [] from List.eq_nil_of_length_eq_zero (by rw [hlen.out]; exact h0)]; rfl
    have hs : s.toList = [] := by rw [toList_bs]; exact List.eq_nil_of_length_eq_zero (by rw [hlen.out]; exact h0)
    rw [hno]
    clear hno h0 CK
    go_enter Try.func31, Try.ntmps31
    go_wp2
    go_ret
    exact ⟨rfl, Below.refl _ _⟩
  have hpos : 0 < s.size := by omega
  have hs : s.toList.isEmpty = false := by
    rw [List.isEmpty_eq_false_iff, toList_bs]
    intro h
    have := congrArg List.length h
    rw [hlen.out, List.length_nil] at this; omega
  by_cases h16 : 16 < s.size
  · have hno : LX.nameB (bsOf s) = false := by
      unfold LX.nameB
      rw [bsOf_length, show decide (s.size ≤ 16) = false by simp; omega]
      rfl
    have t1 : decide (16 < (s.size : Int)) = true := by simp; omega
    rw [hno]
    clear hno h16 CK
    go_enter Try.func31, Try.ntmps31
    go_wp2
    go_ret
    exact ⟨rfl, Below.refl _ _⟩
  have t1 : decide (16 < (s.size : Int)) = false := by simp; omega
  have n1 : decide ((bsOf s).length ≤ 16) = true := by rw [bsOf_length]; simp; omega
  have q0 : (0 : Int) < (s.size : Int) := by omega
  have CL := fun W => rLetter_any ((s[0]'hpos).toNat : Int) W
  rw [clAt_get s 0 hpos] at CL
  by_cases h4 : LX.clAt (bsOf s) 0 = 4
  · rw [show decide (LX.clAt (bsOf s) 0 = 4) = true by simpa using h4] at CL
    replace CL := Lib.hid CL
    have n2 : decide (LX.clAt (bsOf s) 0 = 4) = true := by simpa using h4
    cases hk : LX.keptB (bsOf s)
    · rw [hk] at CK
      have hn : LX.nameB (bsOf s) = (LX.cons LX.inW (bsOf s) && !dgF (bsOf s) s.size) := by
        have := dgF_end (bsOf s)
        rw [hlen.out] at this
        unfold LX.nameB
        rw [n1, n2, hk, this]; simp
      have hW0 : LX.inW (LX.cls ((s[0]'hpos).toNat : Int)) = true := by rw [clAt_get s 0 hpos, h4]; rfl
      have hcons : Hid ((∀ k (hk : k < s.size), LX.inW (LX.cls ((s[k]'hk).toNat : Int)) = true) → LX.cons LX.inW (bsOf s) = true) := Lib.hid fun h => by
        unfold LX.cons
        rw [Bool.and_eq_true, List.all_eq_true]
        refine ⟨by rw [← toList_bs, hs]; rfl, fun x hx => ?_⟩
        obtain ⟨j, hj, rfl⟩ := List.mem_iff_getElem.1 hx
        exact h j (by rw [hlen.out] at hj; exact hj)
      have hcons0 : Hid (∀ k (hk : k < s.size), LX.inW (LX.cls ((s[k]'hk).toNat : Int)) = false → LX.cons LX.inW (bsOf s) = false) := Lib.hid fun k hk h => by
        unfold LX.cons
        rw [Bool.and_eq_false_iff]
        refine .inr ?_
        rw [Bool.eq_false_iff]
        intro ha
        have := List.all_eq_true.1 ha _ (List.getElem_mem (l := bsOf s) (n := k) (by rw [hlen.out]; exact hk))
        rw [show (bsOf s)[k]'(by rw [hlen.out]; exact hk) = s[k]'hk from rfl, h] at this
        cases this
      have hd1 : (s.size = 1 ∧ dgF (bsOf s) 1 = false) ∨ (1 < s.size ∧ (((s[0]'hpos).toNat : Int) == 114) = false ∧ dgF (bsOf s) 1 = false) ∨ (1 < s.size ∧ (((s[0]'hpos).toNat : Int) == 114) = true ∧ dgF (bsOf s) 1 = true) := by
        unfold dgF
        rw [hlen.out, bs_get? s 0 hpos, show ((bsOf s).take 1).drop 1 = [] by rw [List.drop_take]; simp]
        by_cases h1 : 1 < s.size
        · rw [show decide (1 < s.size) = true by simpa using h1]
          by_cases h114 : (s[0]'hpos).toNat = 114
          · exact .inr (.inr ⟨h1, by rw [h114]; rfl, by rw [show s[0]'hpos = 114 from UInt8.toNat.inj h114]; rfl⟩)
          · refine .inr (.inl ⟨h1, by rw [beq_eq_false_iff_ne]; omega, ?_⟩)
            rw [show (some (s[0]'hpos) == some 114) = false by rw [beq_eq_false_iff_ne]; intro h; exact h114 (by rw [Option.some.inj h]; rfl)]
            rfl
        · exact .inl ⟨by omega, by rw [show decide (1 < s.size) = false by simpa using h1]; rfl⟩
      have hstep : Hid (∀ k (hk : k < s.size), 1 ≤ k → dgF (bsOf s) (k + 1) = (dgF (bsOf s) k && LX.digB (s[k]'hk))) := Lib.hid fun k hk h1 => dgF_step h1 (by rw [hlen.out]; exact hk)
      rw [hn]
      replace hW0 := Lib.hid hW0
      generalize LX.cons LX.inW (bsOf s) = cb at *
      generalize dgF (bsOf s) = dF at *
      clear hn n1 n2 hk h16 h4 h0
      replace hlen := hlen
      rcases hd1 with ⟨hs1, hd⟩ | ⟨hs1, ht, hd⟩ | ⟨hs1, ht, hd⟩
      all_goals
        first | (have t2 : decide ((1 : Int) < (s.size : Int)) = true := by simp; omega) | (have t2 : decide ((1 : Int) < (s.size : Int)) = false := by simp; omega)
        have hdv := Lib.hid (congrArg Value.bool hd.symm)
        replace hs1 := Lib.hid hs1
        clear hd
        go_enter Try.func31, Try.ntmps31
        go_wp2_with fail
        refine (CL.out _).mono ?_
        rintro e w1 ⟨rfl, rfl⟩
        go_wp2_with fail
        refine (CK.out _).mono ?_
        rintro e w1 ⟨rfl, hB⟩
        replace hB := Lib.hid hB
        go_wp2
        go_loop [3, 4] (fun d i => ∃ k : Nat, 1 ≤ k ∧ k ≤ s.size ∧ i = .int .i64 (k : Int) ∧ d = .bool (dF k) ∧ Hid (∀ j (hj : j < s.size), j < k → LX.inW (LX.cls ((s[j]'hj).toNat : Int)) = true)) (fun _ i => s.size - (intOf i).toNat)
        case atStart => exact ⟨1, by omega, by omega, rfl, hdv.out, Lib.hid fun j hj h => by
          obtain rfl : j = 0 := (by omega)
          exact hW0.out⟩
        case round =>
          clear hdv
          obtain ⟨k, hk1, hk, rfl, rfl, hall⟩ := hrel
          by_cases hlt : k < s.size
          · have CG := Lib.hid (fun W => rGoes_any ((s[k]'hlt).toNat : Int) W)
            have CD := Lib.hid (fun W => rDigit_any ((s[k]'hlt).toNat : Int) W)
            have hdd : decide (LX.cls ((s[k]'hlt).toNat : Int) = 5) = LX.digB (s[k]'hlt) := by
              unfold LX.digB LX.inN; rw [Bool.eq_iff_iff]; simp
            rw [hdd] at CD
            clear hdd
            have t5 : decide (k < s.size) = true := by simpa using hlt
            cases hg : LX.inW (LX.cls ((s[k]'hlt).toNat : Int))
            · have hcf := Lib.hid (hcons0.out k hlt hg)
              rw [hg] at CG
              clear hg
              go_wp2_with fail
              refine (CG.out _).mono ?_
              rintro e w2 ⟨rfl, rfl⟩
              go_wp2
              go_ret
              rw [hcf.out]
              exact ⟨rfl, hB.out⟩
            · rw [hg] at CG
              have hall2 : Hid (∀ j (hj : j < s.size), j < k + 1 → LX.inW (LX.cls ((s[j]'hj).toNat : Int)) = true) := Lib.hid fun j hj h => by
                by_cases he : j = k
                · subst he; exact hg
                · exact hall.out j hj (by omega)
              have hs2 := Lib.hid (hstep.out k hlt hk1)
              clear hg
              generalize LX.digB (s[k]'hlt) = db at *
              cases hdk : dF k
              · rw [hdk] at hs2
                have hv := Lib.hid (show Value.bool false = Value.bool (dF (k + 1)) by rw [hs2.out]; rfl)
                clear hdk
                go_wp2_with fail
                refine (CG.out _).mono ?_
                rintro e w2 ⟨rfl, rfl⟩
                go_wp2
                go_round
                case rel => exact ⟨k + 1, by omega, by omega, by go_num, hv.out, hall2⟩
                case measure => simp [intOf]; omega
              · rw [hdk] at hs2
                have hv := Lib.hid (show Value.bool db = Value.bool (dF (k + 1)) by rw [hs2.out]; rfl)
                clear hdk
                go_wp2_with fail
                refine (CG.out _).mono ?_
                rintro e w2 ⟨rfl, rfl⟩
                go_wp2_with fail
                refine (CD.out _).mono ?_
                rintro e w2 ⟨rfl, rfl⟩
                go_wp2
                go_round
                case rel => exact ⟨k + 1, by omega, by omega, by go_num, hv.out, hall2⟩
                case measure => simp [intOf]; omega
          · obtain rfl : k = s.size := by omega
            have hcf := Lib.hid (hcons.out fun j hj => hall.out j hj hj)
            go_wp2
            go_ret
            rw [hcf.out]
            exact ⟨rfl, hB.out⟩
    · have hno : LX.nameB (bsOf s) = false := by
        unfold LX.nameB
        rw [hk]; simp
      rw [hno]
      rw [hk] at CK
      clear hno hk h16 n1 n2 h4 h0
      go_enter Try.func31, Try.ntmps31
      go_wp2_with fail
      refine (CL.out _).mono ?_
      rintro e w1 ⟨rfl, rfl⟩
      go_wp2_with fail
      refine (CK.out _).mono ?_
      rintro e w1 ⟨rfl, hB⟩
      go_wp2
      go_ret
      exact ⟨rfl, hB⟩
  · rw [show decide (LX.clAt (bsOf s) 0 = 4) = false by simpa using h4] at CL
    replace CL := Lib.hid CL
    have hno : LX.nameB (bsOf s) = false := by
      unfold LX.nameB
      rw [show decide (LX.clAt (bsOf s) 0 = 4) = false by simpa using h4]; simp
    rw [hno]
    clear hno h16 n1 h4 h0
    go_enter Try.func31, Try.ntmps31
    go_wp2_with fail
    refine (CL.out _).mono ?_
    rintro e w1 ⟨rfl, rfl⟩
    go_wp2
    go_ret
    exact ⟨rfl, Below.refl _ _⟩
end Go.Proofs.Ytcahdnghdblanaa
