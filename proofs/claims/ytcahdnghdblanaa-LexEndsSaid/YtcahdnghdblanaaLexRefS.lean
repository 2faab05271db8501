/- The document's sign: how long a sign is that begins at an offset. -/
import Derived.BigQuiet
import Derived.Test.YtcahdnghdblanaaLexRefW
import Derived.Test.YtcahdnghdblanaaLexType3
namespace Go.Proofs.Ytcahdnghdblanaa
open Go.RowKit Go.Shelf

attribute [local go_sem] Oper.semAt_some
def sgB : ByteArray := ⟨#[61, 43, 45, 94, 38, 124, 33, 40, 41, 58, 60]⟩
theorem sgB_size : sgB.size = 11 := rfl
namespace LX
theorem cls_sign {z : Int} : cls z = 7 ↔ z = 61 ∨ z = 43 ∨ z = 45 ∨ z = 94 ∨ z = 38 ∨ z = 124 ∨ z = 33 ∨ z = 40 ∨ z = 41 ∨ z = 58 ∨ z = 60 := by
  unfold cls; repeat' split
  all_goals omega
end LX
theorem sg_at : ∀ (j : Nat) (h : j < sgB.size), LX.cls ((sgB[j]'h).toNat : Int) = 7 := by
  intro j h
  have h11 : j < 11 := h
  have : j = 0 ∨ j = 1 ∨ j = 2 ∨ j = 3 ∨ j = 4 ∨ j = 5 ∨ j = 6 ∨ j = 7 ∨ j = 8 ∨ j = 9 ∨ j = 10 := by omega
  rcases this with rfl | rfl | rfl | rfl | rfl | rfl | rfl | rfl | rfl | rfl | rfl <;> rfl
theorem sg_all (z : Int) (h : LX.cls z = 7) : ∃ (j : Nat) (hj : j < sgB.size), ((sgB[j]'hj).toNat : Int) = z := by
  rw [LX.cls_sign] at h
  rcases h with rfl | rfl | rfl | rfl | rfl | rfl | rfl | rfl | rfl | rfl | rfl
  · exact ⟨0, by decide, rfl⟩
  · exact ⟨1, by decide, rfl⟩
  · exact ⟨2, by decide, rfl⟩
  · exact ⟨3, by decide, rfl⟩
  · exact ⟨4, by decide, rfl⟩
  · exact ⟨5, by decide, rfl⟩
  · exact ⟨6, by decide, rfl⟩
  · exact ⟨7, by decide, rfl⟩
  · exact ⟨8, by decide, rfl⟩
  · exact ⟨9, by decide, rfl⟩
  · exact ⟨10, by decide, rfl⟩
/-- The length of the sign at i, 0 where none begins. -/
def sgN (L : List UInt8) (i : Nat) : Nat := if LX.clAt L i = 7 then LX.signLen L i else 0

set_option maxRecDepth 100000 in
set_option maxHeartbeats 4000000 in
theorem rSign_any (s : ByteArray) (i : Nat) (hi : i < s.size) (hm : s.size ≤ 16384) (w : World) :
    Calls Try.prog 41 #[.string s, .int .i64 (i : Int)] w fun e w' => e = .returned (.int .i64 (sgN (bsOf s) i : Int)) ∧ ∀ B, Below B w w' := by
  have hb : (bsOf s)[i]? = some (s[i]'hi) := bs_get? s i hi
  have hcl : LX.clAt (bsOf s) i = LX.cls ((s[i]'hi).toNat : Int) := by
    have hl : i < (bsOf s).length := by rw [bsOf_length]; exact hi
    rw [LX.clAt_lt hl]
    have := (List.getElem?_eq_some_iff.1 hb).2
    rw [this]
  have hiL : decide ((i : Int) < (s.size : Int)) = true := by simpa using hi
  by_cases h2 : (bsOf s)[i + 1]? = some 61 ∧ ((bsOf s)[i]? = some 61 ∨ (bsOf s)[i]? = some 33)
  · have h1 : i + 1 < s.size := by have := (List.getElem?_eq_some_iff.1 h2.1).1; rw [bsOf_length] at this; exact this
    have b1 : s[i + 1]'h1 = 61 := by have := bs_get? s (i + 1) h1; rw [h2.1] at this; exact (Option.some.inj this).symm
    have t1 : decide ((i : Int) + 1 < (s.size : Int)) = true := by simp; omega
    have t2 : (((s[i + 1]'h1).toNat : Int) == 61) = true := by rw [b1]; rfl
    have hn : sgN (bsOf s) i = 2 := by
      unfold sgN LX.signLen
      rw [if_pos h2, if_pos]
      rw [hcl]
      rcases h2.2 with h | h
      · rw [hb] at h; rw [Option.some.inj h]; rfl
      · rw [hb] at h; rw [Option.some.inj h]; rfl
    rw [hn]
    by_cases e : s[i]'hi = 61
    · have t3 : (((s[i]'hi).toNat : Int) == 61) = true := by rw [e]; rfl
      clear h2 hb hcl hn e b1
      go_enter Try.func41, Try.ntmps41
      go_wp2
      go_ret
      exact ⟨rfl, fun B => Below.refl B _⟩
    · have e33 : s[i]'hi = 33 := by
        rcases h2.2 with h | h
        · rw [hb] at h; exact absurd (Option.some.inj h) e
        · rw [hb] at h; exact Option.some.inj h
      have t3 : (((s[i]'hi).toNat : Int) == 61) = false := by rw [e33]; rfl
      have t4 : (((s[i]'hi).toNat : Int) == 33) = true := by rw [e33]; rfl
      clear h2 hb hcl hn e b1 e33
      go_enter Try.func41, Try.ntmps41
      go_wp2
      go_ret
      exact ⟨rfl, fun B => Below.refl B _⟩
  · have hsl : LX.signLen (bsOf s) i = 1 := by unfold LX.signLen; rw [if_neg h2]
    have hn : sgN (bsOf s) i = if LX.cls ((s[i]'hi).toNat : Int) = 7 then 1 else 0 := by unfold sgN; rw [hsl, hcl]
    obtain ⟨r, hr⟩ : ∃ r : Nat, Hid (r = if LX.cls ((s[i]'hi).toNat : Int) = 7 then 1 else 0) := ⟨_, Lib.hid rfl⟩
    rw [hn, ← hr.out]
    obtain ⟨z, hz⟩ : ∃ z, z = ((s[i]'hi).toNat : Int) := ⟨_, rfl⟩
    have hcase : (decide ((i : Int) + 1 < (s.size : Int)) = false) ∨ (∃ h1 : i + 1 < s.size, decide ((i : Int) + 1 < (s.size : Int)) = true ∧ (((s[i + 1]'h1).toNat : Int) == 61) = false) ∨
        (∃ h1 : i + 1 < s.size, decide ((i : Int) + 1 < (s.size : Int)) = true ∧ (((s[i + 1]'h1).toNat : Int) == 61) = true ∧ (((s[i]'hi).toNat : Int) == 61) = false ∧ (((s[i]'hi).toNat : Int) == 33) = false) := by
      by_cases h1 : i + 1 < s.size
      · have hb1 := bs_get? s (i + 1) h1
        have inj : ∀ (b : UInt8) (n : Nat), n < 256 → (((b.toNat : Nat) : Int) == ((n : Nat) : Int)) = true → b = UInt8.ofNat n := fun b n hn h => by
          rw [beq_iff_eq] at h
          apply UInt8.toNat_inj.1
          simp; omega
        by_cases e1 : (((s[i + 1]'h1).toNat : Int) == 61) = true
        · refine .inr (.inr ⟨h1, by simp; omega, e1, ?_, ?_⟩)
          · rw [Bool.eq_false_iff]; intro h
            exact h2 ⟨by rw [hb1, inj _ 61 (by decide) e1]; rfl, .inl (by rw [hb, inj _ 61 (by decide) h]; rfl)⟩
          · rw [Bool.eq_false_iff]; intro h
            exact h2 ⟨by rw [hb1, inj _ 61 (by decide) e1]; rfl, .inr (by rw [hb, inj _ 33 (by decide) h]; rfl)⟩
        · exact .inr (.inl ⟨h1, by simp; omega, by simpa using e1⟩)
      · exact .inl (by simp; omega)
    clear h2 hb hcl hn hsl
    rcases hcase with t1 | ⟨h1, t1, t2⟩ | ⟨h1, t1, t2, t3, t4⟩
    all_goals
      go_enter Try.func41, Try.ntmps41
      go_wp2_with fail
      rw [show ({ data := #[61, 43, 45, 94, 38, 124, 33, 40, 41, 58, 60] } : ByteArray) = sgB from rfl]
      go_loopw [6] (fun j wr => ∃ (k : Nat), k ≤ 11 ∧ j = .int .i64 (k : Int) ∧ Hid (∀ (m : Nat) (h : m < sgB.size), m < k → ((sgB[m]'h).toNat : Int) ≠ z) ∧ ∀ B, Below B w wr) (fun j _ => 11 - (intOf j).toNat)
      case atStart => exact ⟨0, by omega, rfl, Lib.hid (fun m h hm => by omega), fun B => Below.refl B w⟩
      case round =>
        obtain ⟨k, hk, rfl, hno, hB⟩ := hrel
        have HB := Lib.hid hB
        clear hB
        by_cases hlt : k < 11
        · have hks : k < sgB.size := hlt
          have q0 : decide ((k : Int) < (sgB.size : Int)) = true := by simpa using hks
          by_cases hf : ((sgB[k]'hks).toNat : Int) = z
          · have t9 : (((sgB[k]'hks).toNat : Int) == ((s[i]'hi).toNat : Int)) = true := by rw [hf, hz]; simp
            go_wp2_with fail
            go_quiet (fail)
            go_wp2
            go_ret
            refine ⟨?_, fun B => below_drewN (HB.out B) nq⟩
            rw [hr.out, if_pos (by rw [← hz, ← hf]; exact sg_at k hks)]
            rfl
          · have t9 : (((sgB[k]'hks).toNat : Int) == ((s[i]'hi).toNat : Int)) = false := by rw [← hz]; simpa using hf
            go_wp2_with fail
            go_quiet (fail)
            go_wp2
            go_roundw
            case rel =>
              refine ⟨k + 1, by omega, by go_num, Lib.hid fun m h hm => ?_, fun B => below_drewN (HB.out B) nq⟩
              by_cases e : m = k
              · subst e; exact hf
              · exact hno.out m h (by omega)
            case measure => simp [intOf]; omega
        · obtain rfl : k = 11 := by omega
          have q0 : decide ((11 : Int) < (sgB.size : Int)) = false := rfl
          go_wp2
          go_ret
          refine ⟨?_, HB.out⟩
          rw [hr.out, ← hz, if_neg]
          · rfl
          · intro h7
            obtain ⟨j, hj, hjz⟩ := sg_all z h7
            exact hno.out j hj hj hjz
end Go.Proofs.Ytcahdnghdblanaa
