/- The laws' comparing of tokens but for offsets, and their reading of what stands between tokens. -/
import Derived.BigQuiet
import Derived.Test.YtcahdnghdblanaaLexUse
namespace Go.Proofs.Ytcahdnghdblanaa
open Go.RowKit Go.Shelf

attribute [local go_sem] Oper.semAt_some
set_option maxRecDepth 100000 in
set_option maxHeartbeats 4000000 in
theorem alike_any (v u : Value) (ts us : List TokD) (w : World) (hv : TokSl w.heap.size w v ts) (hu : TokSl w.heap.size w u us) (hs : us.map shoD = ts.map shoD) :
    Calls Try.prog 20 #[v, u] w fun e w' => e = .returned (.bool true) ∧ ∀ B, Below B w w' := by
  have hlen : us.length = ts.length := by have := congrArg List.length hs; rwa [List.length_map, List.length_map] at this
  obtain ⟨hm, a, cap, rfl, hcell⟩ := hv
  obtain ⟨-, a2, cap2, rfl, hcell2⟩ := hu
  rw [hlen] at hcell2 ⊢
  unfold maxLen at hm
  replace hcell := Lib.hid hcell
  replace hcell2 := Lib.hid hcell2
  replace hs := Lib.hid hs
  replace hlen := Lib.hid hlen
  go_enter Try.func20, Try.ntmps20
  go_wp2_with fail
  go_loopw [5] (fun i wr => ∃ (k : Nat), k ≤ ts.length ∧ i = .int .i64 (k : Int) ∧ ∀ B, Below B w wr) (fun i _ => ts.length - (intOf i).toNat)
  case atStart => exact ⟨0, by omega, rfl, fun B => Below.refl B w⟩
  case round =>
    obtain ⟨k, hk', rfl, hB⟩ := hrel
    by_cases hlt : k < ts.length
    · obtain ⟨g, rfl, hg, hc⟩ := hcell.out (by omega)
      obtain ⟨g2, rfl, hg2, hc2⟩ := hcell2.out (by omega)
      obtain ⟨t, ht⟩ : ∃ t, ts[k]? = some t := ⟨ts[k], List.getElem?_eq_getElem hlt⟩
      have hlt2 : k < us.length := by rw [hlen.out]; exact hlt
      obtain ⟨t2, ht2⟩ : ∃ t, us[k]? = some t := ⟨us[k], List.getElem?_eq_getElem hlt2⟩
      have hst : shoD t2 = shoD t := by
        have h1 : (us.map shoD)[k]? = some (shoD t2) := by rw [List.getElem?_map, ht2]; rfl
        rw [hs.out, List.getElem?_map, ht] at h1
        exact (Option.some.inj h1).symm
      obtain ⟨e1, e2, e3⟩ := hc k t ht
      obtain ⟨f1, f2, f3⟩ := hc2 k t2 ht2
      rw [show t2.k = t.k from congrArg Prod.fst hst] at f1
      rw [show t2.x = t.x from congrArg Prod.snd hst] at f2
      replace e1 := ((hB w.heap.size).cell (p := ⟨g, k * 3, none⟩) hg).trans e1
      replace e2 := ((hB w.heap.size).cell (p := ⟨g, k * 3 + 1, none⟩) hg).trans e2
      replace f1 := ((hB w.heap.size).cell (p := ⟨g2, k * 3, none⟩) hg2).trans f1
      replace f2 := ((hB w.heap.size).cell (p := ⟨g2, k * 3 + 1, none⟩) hg2).trans f2
      have t1 : decide (k < ts.length) = true := by simpa using hlt
      have HB := Lib.hid hB
      clear hc hc2 hB e3 f3 hst ht ht2 hlt2
      go_wp2_with fail
      go_quiet (fail)
      go_wp2
      go_roundw
      case rel => exact ⟨k + 1, by omega, by go_num, fun B => below_drewN (HB.out B) nq⟩
      case measure => simp [intOf]; omega
    · obtain rfl : k = ts.length := by omega
      have t1 : decide (ts.length < ts.length) = false := by simp
      have HB := Lib.hid hB
      clear hB
      go_wp2
      go_ret
      exact ⟨rfl, HB.out⟩

set_option maxRecDepth 100000 in
set_option maxHeartbeats 4000000 in
theorem empty_any (s : ByteArray) (hm : s.size ≤ 140737488355328) (w : World) : Calls Try.prog 21 #[.string s] w fun e w' => e = .returned (.bool (LX.emS false (bsOf s)).isSome) ∧ w = w' := by
  have hL : (bsOf s).length = s.size := bsOf_length s
  replace hL := Lib.hid hL
  obtain ⟨o, ho⟩ : ∃ o, Hid (o = (LX.emS false (bsOf s)).isSome) := ⟨_, Lib.hid rfl⟩
  rw [← ho.out]
  go_enter Try.func21, Try.ntmps21
  go_wp2_with fail
  go_loop [3, 4] (fun r i => ∃ (k : Nat) (q : Bool), k ≤ s.size ∧ r = .bool q ∧ i = .int .i64 (k : Int) ∧ Hid (LX.emS false (bsOf s) = LX.emS q ((bsOf s).drop k))) (fun _ i => s.size - (intOf i).toNat)
  case atStart => exact ⟨0, false, by omega, rfl, rfl, Lib.hid rfl⟩
  case round =>
    obtain ⟨k, q, hk, rfl, rfl, hE⟩ := hrel
    by_cases hlt : k < s.size
    · have t1 : decide ((k : Int) < (s.size : Int)) = true := by simpa using hlt
      have hlb : k < (bsOf s).length := by rw [hL.out]; exact hlt
      have hE' := hE.out
      rw [List.drop_eq_getElem_cons hlb] at hE'
      have hb : (bsOf s)[k] = s[k]'hlt := (List.getElem?_eq_some_iff.1 (bs_get? s k hlt)).2
      rw [hb] at hE'
      by_cases h10 : s[k]'hlt = 10
      · have u1 : (((s[k]'hlt).toNat : Int) == 10) = true := by rw [h10]; rfl
        have hE2 : Hid (LX.emS false (bsOf s) = LX.emS false ((bsOf s).drop (k + 1))) := Lib.hid (by rw [hE']; simp [LX.emS, h10])
        clear hE' hb hE h10
        go_wp2
        exact ⟨⟨k + 1, false, by omega, rfl, by go_num, hE2⟩, by simp [intOf]; omega⟩
      · have u1 : (((s[k]'hlt).toNat : Int) == 10) = false := by
          rw [Bool.eq_false_iff]; intro h; rw [beq_iff_eq] at h
          exact h10 (UInt8.toNat_inj.1 (by show _ = 10; omega))
        by_cases h35 : s[k]'hlt = 35
        · have u2 : (((s[k]'hlt).toNat : Int) == 35) = true := by rw [h35]; rfl
          have hE2 : Hid (LX.emS false (bsOf s) = LX.emS true ((bsOf s).drop (k + 1))) := Lib.hid (by rw [hE']; simp [LX.emS, h35])
          clear hE' hb hE h35 h10
          go_wp2
          exact ⟨⟨k + 1, true, by omega, rfl, by go_num, hE2⟩, by simp [intOf]; omega⟩
        · have u2 : (((s[k]'hlt).toNat : Int) == 35) = false := by
            rw [Bool.eq_false_iff]; intro h; rw [beq_iff_eq] at h
            exact h35 (UInt8.toNat_inj.1 (by show _ = 35; omega))
          cases q with
          | true =>
            have hE2 : Hid (LX.emS false (bsOf s) = LX.emS true ((bsOf s).drop (k + 1))) := Lib.hid (by rw [hE']; simp [LX.emS, h35, h10])
            clear hE' hb hE h35 h10
            go_wp2
            exact ⟨⟨k + 1, true, by omega, rfl, by go_num, hE2⟩, by simp [intOf]; omega⟩
          | false =>
            by_cases h32 : s[k]'hlt = 32
            · have u3 : (((s[k]'hlt).toNat : Int) != 32) = false := by rw [h32]; rfl
              have hE2 : Hid (LX.emS false (bsOf s) = LX.emS false ((bsOf s).drop (k + 1))) := Lib.hid (by rw [hE']; simp [LX.emS, h32])
              clear hE' hb hE h35 h10 h32
              go_wp2
              exact ⟨⟨k + 1, false, by omega, rfl, by go_num, hE2⟩, by simp [intOf]; omega⟩
            · have u3 : (((s[k]'hlt).toNat : Int) != 32) = true := by
                rw [bne_iff_ne]; intro h
                exact h32 (UInt8.toNat_inj.1 (by show _ = 32; omega))
              by_cases h9 : s[k]'hlt = 9
              · have u4 : (((s[k]'hlt).toNat : Int) != 9) = false := by rw [h9]; rfl
                have hE2 : Hid (LX.emS false (bsOf s) = LX.emS false ((bsOf s).drop (k + 1))) := Lib.hid (by rw [hE']; simp [LX.emS, h9])
                clear hE' hb hE h35 h10 h32 h9
                go_wp2
                exact ⟨⟨k + 1, false, by omega, rfl, by go_num, hE2⟩, by simp [intOf]; omega⟩
              · have u4 : (((s[k]'hlt).toNat : Int) != 9) = true := by
                  rw [bne_iff_ne]; intro h
                  exact h9 (UInt8.toNat_inj.1 (by show _ = 9; omega))
                have hE2 : o = false := by rw [ho.out, hE']; simp [LX.emS, h35, h10, h32, h9]
                clear hE' hb hE h35 h10 h32 h9 ho
                subst hE2
                go_wp2
                go_ret
                exact ⟨rfl, rfl⟩
    · obtain rfl : k = s.size := by omega
      have t1 : decide ((s.size : Int) < (s.size : Int)) = false := by simp
      have hE2 : o = true := by rw [ho.out, hE.out, show s.size = (bsOf s).length from hL.out.symm, List.drop_length]; rfl
      clear hE ho
      subst hE2
      go_wp2
      go_ret
      exact ⟨rfl, rfl⟩
end Go.Proofs.Ytcahdnghdblanaa
