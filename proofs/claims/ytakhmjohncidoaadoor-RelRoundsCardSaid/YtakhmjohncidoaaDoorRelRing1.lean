/- rel.descend. -/
import Derived.Test.YtakhmjohncidoaaDoorRelTop
namespace Go.Proofs.YtakhmjohncidoaaDoor
open Go.RowKit Go.Shelf Go.BigFrame

attribute [local go_sem] Oper.semAt_some

def setV (s : Nat) : Value := .int .u64 (s : Int)
/-- The least element, 0 if there is none. -/
def lowF (s : Nat) : Nat := (nextOf (MM.els s) (-1)).getD 0
theorem lowF_lt {s : Nat} (hs : s < 2 ^ 48) : lowF s < 48 := by
  unfold lowF
  cases h : nextOf (MM.els s) (-1) with
  | none => simp
  | some k => exact els_48 hs (List.mem_of_find?_eq_some h)
theorem first_low' (s : Nat) (hs : s < 2 ^ 64) (w : World) (hT : Tab w) :
    ∃ b, Calls Tryd.prog 71 #[.int .u64 (s : Int)] w fun e w' => e = .returned (.tuple #[.int .i64 (lowF s : Int), .bool b]) ∧ Below w.heap.size w w' := by
  have := first_any (s : Int) (by omega) (by omega) w hT
  rw [Int.toNat_natCast] at this
  unfold lowF
  cases h : nextOf (MM.els s) (-1) with
  | none => rw [h] at this; exact ⟨false, this⟩
  | some k => rw [h] at this; exact ⟨true, this⟩
theorem first_bool (s : Nat) : ∃ b, ∀ w, s < 2 ^ 64 → Tab w → Calls Tryd.prog 71 #[.int .u64 (s : Int)] w fun e w' => e = .returned (.tuple #[.int .i64 (lowF s : Int), .bool b]) ∧ Below w.heap.size w w' := by
  unfold lowF
  cases h : nextOf (MM.els s) (-1) with
  | none => exact ⟨false, fun w hs hT => by have := first_any (s : Int) (by omega) (by omega) w hT; rw [Int.toNat_natCast, h] at this; exact this⟩
  | some k => exact ⟨true, fun w hs hT => by have := first_any (s : Int) (by omega) (by omega) w hT; rw [Int.toNat_natCast, h] at this; exact this⟩

/-- The way down, k steps to go. -/
def descGo (f : Nat → Nat) (aw : List Nat) : Nat → Nat → List Nat → List Nat
  | 0, _, acc => acc
  | k + 1, a, acc => descGo f aw k (lowF (f a &&& aw.getD (k + 1) 0)) (acc ++ [lowF (f a &&& aw.getD (k + 1) 0)])
def descF (f : Nat → Nat) (aw : List Nat) (a : Nat) : List Nat := descGo f aw (aw.length - 1) a [a]

set_option maxRecDepth 100000 in
set_option maxHeartbeats 4000000 in
theorem descend_any (b : Nat) (n : Int) (f : Nat → Nat) (hf : R64 f) (hf48 : ∀ i, i < 48 → f i < 2 ^ 48) (v : Value) (aw : List Nat) (base : Nat) (a : Nat) (ha : a < 48) (hl0 : 0 < aw.length) (hl1 : aw.length ≤ 49)
    (w : World) (hR : RelAt w b n f) (hT : Tab w) (hv : w.ownsRow base 23 1 v aw.length (aw.map setV)) (h64 : ∀ s ∈ aw, s < 2 ^ 64) :
    Calls Tryd.prog 69 #[.pointer (some ⟨b, 0, none⟩), v, .int .i64 (a : Int)] w fun e w' => ∃ v', e = .returned v' ∧ w'.ownsRow w.heap.size 3 1 v' (descF f aw a).length ((descF f aw a).map intV) ∧ Below w.heap.size w w' := by
  obtain ⟨i0, hi, hz0, hz1, hz2⟩ := info_parts infoInt
  obtain ⟨g0, cap0, hv0⟩ := ownsRow_succ (k := aw.length - 1) (by rw [show aw.length - 1 + 1 = aw.length by omega]; exact hv)
  rw [show aw.length - 1 + 1 = aw.length by omega] at hv0
  subst hv0
  have hg0 : g0 < w.heap.size := by
    rcases hv.2 with ⟨h, _⟩ | ⟨g, cap, cur, h, hg, hgb, _⟩
    · cases h
    · have : g0 = g := by cases h; rfl
      subst this
      exact (Array.getElem?_eq_some_iff.1 hgb).1
  have hcell : ∀ j, j < aw.length → w.cell? ⟨g0, j, none⟩ = some (setV (aw.getD j 0)) := by
    intro j hj
    have := hv.cellAt j (by omega)
    rw [this, List.getElem?_map]
    simp [List.getD, hj]
  have Hcell := Lib.hid hcell
  have H64 := Lib.hid h64
  clear hcell hv h64
  have hp := hT.pos
  have hbl := hR.lt
  go_enter Tryd.func69, Tryd.ntmps69
  go_wp2
  have hB0 : Below w.heap.size w (w.alloc (.cells #[.int .i64 (a : Int)] 3)) := (Below.refl _ w).alloc (Nat.le_refl _) _
  have hown0 : (w.alloc (.cells #[.int .i64 (a : Int)] 3)).ownsRow w.heap.size 3 1 (.slice (some ⟨w.heap.size, 0, none⟩) 1 1) 1 ([a].map intV) := World.ownsRow_lit w _ 1 (Nat.le_refl _) (by decide) (by simp)
  go_loopw [2, 7, 8] (fun va v vk W => ∃ (k a' : Nat) (acc : List Nat), vk = .int .i64 (k : Int) ∧ va = .int .i64 (a' : Int) ∧ a' < 48 ∧ W.ownsRow w.heap.size 3 1 v acc.length (acc.map intV) ∧ Below w.heap.size w W ∧ acc.length + k = aw.length ∧ 0 < acc.length ∧ descGo f aw k a' acc = descF f aw a) (fun _ _ vk _ => (intOf vk).toNat)
  case atStart => exact ⟨aw.length - 1, a, [a], by congr 1; omega, rfl, ha, hown0, hB0, by simp; omega, by simp, rfl⟩
  case round =>
    obtain ⟨k, a', acc, rfl, rfl, ha', hown, hBw, hlen, hpos, hgo⟩ := hrel
    have Hgo := Lib.hid hgo
    clear hgo hown0 hB0
    obtain ⟨a0, c0, hvv⟩ := ownsRow_slice hown
    rw [hvv] at hown ⊢
    clear hvv
    rcases Nat.eq_zero_or_pos k with rfl | hk
    · have hR := Lib.hid (show acc = descF f aw a by rw [← Hgo.out]; rfl)
      go_wp2
      go_ret
      rw [← hR.out]
      exact ⟨_, rfl, hown, hBw⟩
    · obtain ⟨k', rfl⟩ : ∃ k', k = k' + 1 := ⟨k - 1, by omega⟩
      have k0 : (0 : Int) < ((k' + 1 : Nat) : Int) := by omega
      have hkl : ((k' + 1 : Nat) : Int) < (aw.length : Int) := by omega
      have ka1 : ((a' : Nat) : Int) < 49 := by omega
      have ha1 : (a' : Int) < 48 := by omega
      have hs64 : f a' &&& aw.getD (k' + 1) 0 < 2 ^ 64 := Nat.lt_of_le_of_lt Nat.and_le_left (hf a')
      have hlow : lowF (f a' &&& aw.getD (k' + 1) 0) < 48 := lowF_lt (Nat.lt_of_le_of_lt Nat.and_le_left (hf48 a' ha'))
      obtain ⟨bb, HF⟩ := first_bool (f a' &&& aw.getD (k' + 1) 0)
      have Hgo2 := Lib.hid (show descGo f aw k' (lowF (f a' &&& aw.getD (k' + 1) 0)) (acc ++ [lowF (f a' &&& aw.getD (k' + 1) 0)]) = descF f aw a by rw [← Hgo.out]; rfl)
      have hand := Lib.hid (show bits BinOp.and IntKind.u64 (f a' : Int) (aw.getD (k' + 1) 0 : Int) = ((f a' &&& aw.getD (k' + 1) 0 : Nat) : Int) by
        have : aw.getD (k' + 1) 0 < 2 ^ 64 := by
          rw [List.getD_eq_getElem?_getD, List.getElem?_eq_getElem (by omega)]
          exact H64.out _ (List.getElem_mem _)
        exact u64_and_nat _ _ (hf a') this)
      replace HF := Lib.hid HF
      generalize hv0 : f a' &&& aw.getD (k' + 1) 0 = s0 at *
      clear Hgo
      have hpw := hT.below hBw hp
      have hRw := hR.below hBw hbl
      have hl1 : ∀ W, Below wr.heap.size wr W → W.cell? ⟨b, 1 + a', none⟩ = some (.int .u64 (f a' : Int)) := fun W hW => (hRw.below hW hRw.lt).row a' ha'
      have hl2 : ∀ W, Below wr.heap.size wr W → W.cell? ⟨g0, k' + 1, none⟩ = some (.int .u64 (aw.getD (k' + 1) 0 : Int)) := by
        intro W hW
        rw [(hBw.trans (hW.mono hBw.size)).cell (p := ⟨g0, k' + 1, none⟩) hg0]
        exact Hcell.out (k' + 1) (by omega)
      generalize aw.getD (k' + 1) 0 = t0 at *
      replace hl1 := Lib.hid hl1
      replace hl2 := Lib.hid hl2
      go_wp2
      refine wp_region_below wr.heap.size wr (by kernel_rfl) (by kernel_rfl) (Below.refl _ _) ?_
      iterate 5 go_big_quiet_step ((intro _; exact rfl))
      refine wpQuiet_want rfl fun K hK => ?_
      refine quiet_load 23 (.tmp 23) rfl ⟨b, 1 + a', none⟩ rfl (.int .u64 (f a' : Int)) setAgg hl1.out (hK _ ?_)
      clear hK K
      change wpQuiet _ _ _ _ _ { tmps := List.toArray (Value.pointer (some { block := b, off := 0 }) :: Value.slice (some { block := g0, off := 0 }) aw.length cap0 :: Value.int IntKind.i64 ↑a' :: undef :: undef :: undef :: Value.slice none 0 0 :: Value.slice a0 acc.length c0 :: Value.int IntKind.i64 ↑(k' + 1) :: Value.int IntKind.i64 ↑a :: Value.slice (some { block := w.heap.size, off := 0 }) 1 1 :: Value.slice (some { block := g0, off := 0 }) aw.length cap0 :: Value.int IntKind.i64 ↑aw.length :: Value.int IntKind.i64 (↑aw.length - 1) :: Value.int IntKind.i64 ↑(k' + 1) :: Value.bool true :: u16 :: u17 :: u18 :: .pointer (some ⟨b, 0, none⟩) :: .int .i64 (a' : Int) :: .pointer (some ⟨b, 0, none⟩) :: .pointer (some ⟨b, 1, none⟩) :: .pointer (some ⟨b, 1 + a', none⟩) :: .int .u64 (f a' : Int) :: u25 :: u26 :: u27 :: u28 :: u29 :: u30 :: u31 :: u32 :: u33 :: u34 :: u35 :: u36 :: undef :: []), defers := [] }
      iterate 3 go_big_quiet_step ((intro _; exact rfl))
      refine wpQuiet_want rfl fun K hK => ?_
      refine quiet_load 23 (.tmp 27) rfl ⟨g0, k' + 1, none⟩ rfl (.int .u64 (t0 : Int)) setAgg hl2.out (hK _ ?_)
      clear hK K
      change wpQuiet _ _ _ _ _ { tmps := List.toArray (Value.pointer (some { block := b, off := 0 }) :: Value.slice (some { block := g0, off := 0 }) aw.length cap0 :: Value.int IntKind.i64 ↑a' :: undef :: undef :: undef :: Value.slice none 0 0 :: Value.slice a0 acc.length c0 :: Value.int IntKind.i64 ↑(k' + 1) :: Value.int IntKind.i64 ↑a :: Value.slice (some { block := w.heap.size, off := 0 }) 1 1 :: Value.slice (some { block := g0, off := 0 }) aw.length cap0 :: Value.int IntKind.i64 ↑aw.length :: Value.int IntKind.i64 (↑aw.length - 1) :: Value.int IntKind.i64 ↑(k' + 1) :: Value.bool true :: u16 :: u17 :: u18 :: .pointer (some ⟨b, 0, none⟩) :: .int .i64 (a' : Int) :: .pointer (some ⟨b, 0, none⟩) :: .pointer (some ⟨b, 1, none⟩) :: .pointer (some ⟨b, 1 + a', none⟩) :: .int .u64 (f a' : Int) :: Value.slice (some { block := g0, off := 0 }) aw.length cap0 :: Value.int IntKind.i64 ↑(k' + 1) :: .pointer (some ⟨g0, k' + 1, none⟩) :: .int .u64 (t0 : Int) :: u29 :: u30 :: u31 :: u32 :: u33 :: u34 :: u35 :: u36 :: undef :: []), defers := [] }
      go_big_quiet_step ((intro _; exact rfl))
      rw [hand.out]
      repeat (go_big_quiet_step (first
        | (intro _; exact rfl)
        | (intro hW; go_at_call 71; exact Calls.below_of hW (HF.out _ hs64 (hpw.below hW (by have := hBw.size; omega))))))
      refine wpQuiet_nil ?_
      intro w2 hB
      have ho2 := (ownsRow_below hown hB)
      have hBw2 := hBw.trans (hB.mono hBw.size)
      have hsz2 := hBw2.size
      clear hB hown hBw
      go_wp2_with (at_builtin; refine wpList_append_own _ rfl _ _ 46 rfl w.heap.size 3 i0 (.int .i64 0) 1 8 Tryd.underlying46 hi hz0 hz1 hz2 rfl (by decide) _ _ _ rfl (ho2.alloc _) ⟨w2.heap.size, 0, none⟩ 1 1 [.int .i64 (lowF s0 : Int)] rfl rfl (cell_one_new _ _ _) (by intro u hu; simp at hu; subst hu; rfl) (by unfold maxLen; omega) (by omega) (by simp; omega) ?_; intro v1 w6 hown1 hgrow1 _; obtain ⟨a1, c1, hv1⟩ := ownsRow_slice hown1; rw [hv1] at hown1 ⊢; clear hv1)
      go_roundw
      case rel =>
        refine ⟨k', lowF s0, acc ++ [lowF s0], by congr 1, rfl, hlow, ?_, (hBw2.alloc hsz2 _).grown hgrow1 (by simp; omega) (fun j hj => (ho2.lt j hj).1), by rw [List.length_append]; simp; omega, by simp, Hgo2.out⟩
        rw [List.length_append, List.map_append]
        exact hown1
      case measure => simp [intOf]
end Go.Proofs.YtakhmjohncidoaaDoor
