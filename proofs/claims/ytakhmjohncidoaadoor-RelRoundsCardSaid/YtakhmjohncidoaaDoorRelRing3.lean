/- rel.Ring. -/
import Derived.Lib.SliceRun
import Derived.Test.YtakhmjohncidoaaDoorRelRing2
namespace Go.Proofs.YtakhmjohncidoaaDoor
open Go.RowKit Go.Shelf Go.BigFrame

attribute [local go_sem] Oper.semAt_some

/-- The shorter of two rings, the first one if they are equally long. -/
def better : Option (List Nat) → Option (List Nat) → Option (List Nat)
  | R, none => R
  | none, some l => some l
  | some m, some l => if l.length < m.length then some l else some m
/-- The best ring from the items below k. -/
def ringUpto (n : Int) (f g : Nat → Nat) : Nat → Option (List Nat)
  | 0 => none
  | k + 1 => better (ringUpto n f g k) (ringAtF n f g k)
/-- The ring. -/
def ringF (n : Int) (f : Nat → Nat) : Option (List Nat) := if rightB n f then ringUpto n f (backL (pairsK f n.toNat)) n.toNat else none

theorem ringGo_pos (f g : Nat → Nat) (a : Nat) : ∀ (m : Nat) (aw l : List Nat), 0 < aw.length → ringGo f g a m aw = some l → 0 < l.length ∧ l.length < m + aw.length
  | 0, _, _, _, h => by cases h
  | m + 1, aw, l, hp, h => by
    rw [ringGo_succ] at h
    split at h
    · cases h
      rw [descF_len _ _ _ hp]
      omega
    · have := ringGo_pos f g a m _ l (by simp) h
      simp at this
      omega
theorem ringAtF_pos {n : Int} {f g : Nat → Nat} {a : Nat} {l : List Nat} (h : ringAtF n f g a = some l) : 0 < l.length := (ringGo_pos f g a _ _ l (by simp) h).1
theorem ringUpto_pos {n : Int} {f g : Nat → Nat} : ∀ {k : Nat} {l : List Nat}, ringUpto n f g k = some l → 0 < l.length
  | 0, _, h => by cases h
  | k + 1, l, h => by
    unfold ringUpto at h
    cases hS : ringAtF n f g k with
    | none => rw [hS] at h; exact ringUpto_pos (k := k) (by simpa [better] using h)
    | some s =>
      rw [hS] at h
      cases hR : ringUpto n f g k with
      | none => rw [hR] at h; simp [better] at h; subst h; exact ringAtF_pos hS
      | some r =>
        rw [hR] at h
        simp only [better] at h
        split at h
        · cases h; exact ringAtF_pos hS
        · cases h; exact ringUpto_pos hR

/-- A ring as a slice. -/
def RingAt (base : Nat) (W : World) (v : Value) (R : Option (List Nat)) : Prop :=
  W.ownsRow base 3 1 v (R.getD []).length ((R.getD []).map intV) ∧ (R = none → v = .slice none 0 0)

set_option maxRecDepth 100000 in
set_option maxHeartbeats 4000000 in
theorem ring_any (n : Int) (f : Nat → Nat) (w : World) (hf : R64 f) (hT : Tab w) :
    Calls Tryd.prog 37 #[.agg (relC n f)] w (RingPost (ringF n f) w) := by
  have hA := RelAt.new w n f
  have hB : Below w.heap.size w (w.alloc (.cells (relC n f) 26)) := (Below.refl _ w).alloc (Nat.le_refl _) _
  have R1 := Lib.hid (fun w => right_any n f w hf)
  have l1 := hA.ld
  have hp := hT.pos
  cases h : rightB n f
  · have ht := Lib.hid (show ringF n f = none by simp [ringF, h])
    rw [h] at R1
    clear h
    go_enter Tryd.func37, Tryd.ntmps37
    go_wp2_with fail
    refine (R1.out _).mono ?_
    rintro e w1 ⟨rfl, hb⟩
    replace hB := hB.trans (hb.mono hB.size)
    clear hb l1
    go_wp2
    go_ret
    rw [ht.out]
    exact ⟨_, rfl, World.ownsRow_nil _ _ _ _, hB, fun _ => rfl⟩
  · have ht := Lib.hid (show ringF n f = ringUpto n f (backL (pairsK f n.toNat)) n.toNat by simp [ringF, h])
    obtain ⟨⟨hn0, hn1⟩, -⟩ := rightB_iff.1 h
    have hf48 := Lib.hid (right_row h)
    have HBk := fun w hf hT => back_ok n f w hf hT h
    rw [h] at R1
    clear h
    have Hg48 := Lib.hid (backL_lt (pairsK f n.toNat))
    replace HBk := Lib.hid HBk
    go_enter Tryd.func37, Tryd.ntmps37
    go_wp2_with fail
    refine (R1.out _).mono ?_
    rintro e w1 ⟨rfl, hb⟩
    replace hB := hB.trans (hb.mono hB.size)
    replace hA := hA.below hb (by simp)
    have hsz := Lib.hid (show w.heap.size + 1 ≤ w1.heap.size by have := hb.size; simpa using this)
    clear hb l1
    have l2 := hA.ld
    go_wp2_with fail
    refine (HBk.out _ hf (hT.below hB hp)).mono ?_
    rintro e w2 ⟨rfl, hb⟩
    replace hA := hA.below hb (by have := hsz.out; omega)
    replace hB := hB.trans (hb.mono hB.size)
    replace hsz := Lib.hid (Nat.le_trans hsz.out hb.size)
    clear hb l2
    generalize backL (pairsK f n.toNat) = g at *
    obtain ⟨W3, hs3, hR3, hO3⟩ := (RelAt.new w2 0 zf).put n g
    replace hA := (hA.alloc (.cells (relC 0 zf) 26)).only hO3 (by have := hsz.out; omega)
    replace hB := below_only (hB.alloc (by have := hsz.out; omega) (.cells (relC 0 zf) 26)) hO3 (by have := hsz.out; omega)
    have hsz3 := Lib.hid (show W3.heap.size = w2.heap.size + 1 by rw [hO3.size]; simp)
    clear hO3
    have hn := hA.num
    go_wp2
    clear hs3 hn
    go_loopw [4, 14] (fun v vk W => ∃ k : Nat, vk = .int .i64 (k : Int) ∧ (k : Int) ≤ n ∧ RingAt w.heap.size W v (ringUpto n f g k) ∧ RelAt W w.heap.size n f ∧ RelAt W w2.heap.size n g ∧ Below w.heap.size w W) (fun _ vk _ => n.toNat - (intOf vk).toNat)
    case atStart => exact ⟨0, rfl, hn0, ⟨World.ownsRow_nil _ _ _ _, fun _ => rfl⟩, hA, hR3, hB⟩
    case round =>
      obtain ⟨k, rfl, hkn, hRing, hAw, hGw, hBw⟩ := hrel
      clear hA hR3 hB
      rcases Int.lt_or_le (k : Int) n with hlt | hge
      · have t0 : decide ((k : Int) < n) = true := by simpa using hlt
        have HC := Lib.hid (ringAt_any w.heap.size w2.heap.size n hn0 hn1 f g hf hf48.out Hg48.out k (by omega) wr hAw hGw (hT.below hBw hp))
        have hstep := Lib.hid (show ringUpto n f g (k + 1) = better (ringUpto n f g k) (ringAtF n f g k) from rfl)
        have hSp := Lib.hid (fun l (h : ringAtF n f g k = some l) => ringAtF_pos h)
        have hRp := Lib.hid (fun l (h : ringUpto n f g k = some l) => ringUpto_pos h)
        generalize ringAtF n f g k = S at *
        generalize ringUpto n f g k = R at *
        go_wp2_with fail
        refine HC.out.mono ?_
        rintro e w5 ⟨v5, rfl, ho5, hb5, hnil5⟩
        obtain ⟨hoR, hnilR⟩ := hRing
        have hoR5 := ownsRow_below hoR hb5
        have hAw5 := hAw.below hb5 hAw.lt
        have hGw5 := hGw.below hb5 hGw.lt
        have hBw5 := hBw.trans (hb5.mono hBw.size)
        have hoS := ownsRow_base ho5 hBw.size
        clear HC hoR hAw hGw hBw hb5 ho5
        cases S with
        | none =>
          obtain rfl := hnil5 rfl
          go_wp2
          go_roundw
          case rel => exact ⟨k + 1, by congr 1, by omega, by rw [hstep.out]; exact ⟨hoR5, hnilR⟩, hAw5, hGw5, hBw5⟩
          case measure => simp [intOf]; omega
        | some l =>
          have hl := hSp.out l rfl
          obtain ⟨l', hl'⟩ : ∃ l', l.length = l' + 1 := ⟨l.length - 1, by omega⟩
          have hoS2 : w5.ownsRow w.heap.size 3 1 v5 (l' + 1) (l.map intV) := by rw [← hl']; exact hoS
          obtain ⟨g1, c1, rfl⟩ := ownsRow_succ hoS2
          clear hnil5
          cases R with
          | none =>
            obtain rfl := hnilR rfl
            have hnn := Lib.run_eql_slice_nil (P := Tryd.prog) w5 46 3 none 0 0 0 0 rfl
            go_wp2
            go_roundw
            case rel => exact ⟨k + 1, by congr 1, by omega, by rw [hstep.out]; exact ⟨hoS, fun h => by cases h⟩, hAw5, hGw5, hBw5⟩
            case measure => simp [intOf]; omega
          | some m =>
            have hm := hRp.out m rfl
            obtain ⟨m', hm'⟩ : ∃ m', m.length = m' + 1 := ⟨m.length - 1, by omega⟩
            have hoR2 : w5.ownsRow w.heap.size 3 1 u4 (m' + 1) (m.map intV) := by rw [← hm']; exact hoR5
            obtain ⟨g2, c2, rfl⟩ := ownsRow_succ hoR2
            have hnn := Lib.run_eql_slice_nil (P := Tryd.prog) w5 46 3 (some ⟨g2, 0, none⟩) (m' + 1) c2 0 0 rfl
            rcases Nat.lt_or_ge l' m' with hlm | hlm
            · have t1 : ((l' : Int) + 1 < (m' : Int) + 1) := by omega
              have hb : better (some m) (some l) = some l := by simp [better]; omega
              go_wp2
              go_roundw
              case rel => exact ⟨k + 1, by congr 1, by omega, by rw [hstep.out, hb]; exact ⟨hoS, fun h => by cases h⟩, hAw5, hGw5, hBw5⟩
              case measure => simp [intOf]; omega
            · have t1 : ¬ ((l' : Int) + 1 < (m' : Int) + 1) := by omega
              have hb : better (some m) (some l) = some m := by simp [better]; omega
              go_wp2
              go_roundw
              case rel => exact ⟨k + 1, by congr 1, by omega, by rw [hstep.out, hb]; exact ⟨hoR5, fun h => by cases h⟩, hAw5, hGw5, hBw5⟩
              case measure => simp [intOf]; omega
      · have t0 : decide ((k : Int) < n) = false := by simpa using hge
        have hk : k = n.toNat := by omega
        subst hk
        rw [← ht.out] at hRing
        go_wp2
        go_ret
        exact ⟨_, rfl, hRing.1, hBw, hRing.2⟩
end Go.Proofs.YtakhmjohncidoaaDoor
