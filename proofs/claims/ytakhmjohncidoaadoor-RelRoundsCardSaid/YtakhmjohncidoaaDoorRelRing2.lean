/- rel.ringAt. -/
import Derived.Test.YtakhmjohncidoaaDoorRelRing1
namespace Go.Proofs.YtakhmjohncidoaaDoor
open Go.RowKit Go.Shelf Go.BigFrame

attribute [local go_sem] Oper.semAt_some

theorem infoSet' : (Tryd.prog.info? 23).map (fun i => (i.zero, i.size, i.bytes)) = some (some (.int .u64 0), 1, 8) := by kernel_rfl

/-- The way out from a, m steps at most yet. -/
def ringGo (f g : Nat → Nat) (a : Nat) : Nat → List Nat → Option (List Nat)
  | 0, _ => none
  | m + 1, aw => if (imgF g (aw.getD (aw.length - 1) 0)).testBit a then some (descF f aw a) else ringGo f g a m (aw ++ [imgF g (aw.getD (aw.length - 1) 0)])
theorem ringGo_succ (f g : Nat → Nat) (a m : Nat) (aw : List Nat) : ringGo f g a (m + 1) aw = if (imgF g (aw.getD (aw.length - 1) 0)).testBit a then some (descF f aw a) else ringGo f g a m (aw ++ [imgF g (aw.getD (aw.length - 1) 0)]) := rfl
/-- The least of the shortest rings at a. -/
def ringAtF (n : Int) (f g : Nat → Nat) (a : Nat) : Option (List Nat) := ringGo f g a n.toNat [2 ^ a]

/-- What ringAt and Ring answer. -/
def RingPost (R : Option (List Nat)) (w : World) (e : Ending) (w' : World) : Prop :=
  ∃ v, e = .returned v ∧ w'.ownsRow w.heap.size 3 1 v (R.getD []).length ((R.getD []).map intV) ∧ Below w.heap.size w w' ∧ (R = none → v = .slice none 0 0)

theorem imgF_lt48 {g : Nat → Nat} (hg : ∀ i, g i < 2 ^ 48) (s : Nat) : imgF g s < 2 ^ 48 := by
  suffices h : ∀ (l : List Nat) (s : Nat), s < 2 ^ 48 → l.foldl (fun s i => s ||| g i) s < 2 ^ 48 from h (MM.els s) 0 (Nat.two_pow_pos 48)
  intro l
  induction l with
  | nil => exact fun s h => h
  | cons i l ih => exact fun s h => ih _ (Nat.or_lt_two_pow h (hg i))
def slLen : Value → Nat
  | .slice _ k _ => k
  | _ => 0
theorem descGo_len (f : Nat → Nat) (aw : List Nat) : ∀ (k a : Nat) (acc : List Nat), (descGo f aw k a acc).length = acc.length + k
  | 0, _, acc => rfl
  | k + 1, a, acc => by unfold descGo; rw [descGo_len f aw k]; simp; omega
theorem descF_len (f : Nat → Nat) (aw : List Nat) (a : Nat) (h : 0 < aw.length) : (descF f aw a).length = aw.length := by
  unfold descF; rw [descGo_len]; simp; omega

set_option maxRecDepth 100000 in
set_option maxHeartbeats 4000000 in
theorem ringAt_any (b bb : Nat) (n : Int) (hn0 : 0 ≤ n) (hn1 : n ≤ 48) (f g : Nat → Nat) (hf : R64 f) (hf48 : ∀ i, i < 48 → f i < 2 ^ 48) (hg : ∀ i, g i < 2 ^ 48) (a : Nat) (ha : a < 48)
    (w : World) (hR : RelAt w b n f) (hG : RelAt w bb n g) (hT : Tab w) :
    Calls Tryd.prog 65 #[.pointer (some ⟨b, 0, none⟩), .pointer (some ⟨bb, 0, none⟩), .int .i64 (a : Int)] w (RingPost (ringAtF n f g a) w) := by
  obtain ⟨i0, hi, hz0, hz1, hz2⟩ := info_parts infoSet'
  have hg64 : R64 g := fun i => Nat.lt_of_lt_of_le (hg i) (by decide)
  have hp := hT.pos
  have hbl := hR.lt
  have hbbl := hG.lt
  have a64 : (a : Int) < 64 := by omega
  have hsh := Lib.hid (shl1_nat a (by omega))
  have h2a : 2 ^ a < 2 ^ 48 := Nat.pow_lt_pow_right (by omega) ha
  have hR0 := Lib.hid (show ringAtF n f g a = ringGo f g a n.toNat [2 ^ a] from rfl)
  obtain ⟨q, hq⟩ : ∃ q, q = 2 ^ a := ⟨_, rfl⟩
  rw [← hq] at hsh h2a hR0
  replace hq := Lib.hid hq
  go_enter Tryd.func65, Tryd.ntmps65
  go_wp2
  have hB0 : Below w.heap.size w (w.alloc (.cells #[.int .u64 (IntKind.u64.wrap (2 ^ a))] 23)) := (Below.refl _ w).alloc (Nat.le_refl _) _
  have hown0 : (w.alloc (.cells #[.int .u64 (IntKind.u64.wrap (2 ^ a))] 23)).ownsRow w.heap.size 23 1 (.slice (some ⟨w.heap.size, 0, none⟩) 1 1) 1 ([q].map setV) := by
    rw [hsh.out]
    exact World.ownsRow_lit w _ 1 (Nat.le_refl _) (by decide) (by simp)
  go_loopw [7] (fun v W => ∃ (m : Nat) (aw : List Nat), W.ownsRow w.heap.size 23 1 v aw.length (aw.map setV) ∧ Below w.heap.size w W ∧ aw.length + m = n.toNat + 1 ∧ 0 < aw.length ∧ (∀ s ∈ aw, s < 2 ^ 48) ∧ ringGo f g a m aw = ringAtF n f g a) (fun v _ => n.toNat + 1 - slLen v)
  case atStart => exact ⟨n.toNat, [q], hown0, hB0, by simp; omega, by simp, by simpa using h2a, hR0.out.symm⟩
  case round =>
    obtain ⟨m, aw, hown, hBw, hlen, hpos, h48, hgo⟩ := hrel
    have Hgo := Lib.hid hgo
    have H48 := Lib.hid h48
    clear hgo hown0 hB0 h48
    obtain ⟨len', hle⟩ : ∃ k, aw.length = k + 1 := ⟨aw.length - 1, by omega⟩
    have hown2 := hown
    rw [hle] at hown2
    obtain ⟨g0, cap0, hvv⟩ := ownsRow_succ hown2
    subst hvv
    have hRw := hR.below hBw hbl
    have hGw := hG.below hBw hbbl
    have hTw := hT.below hBw hp
    have hn := hRw.num
    rcases Nat.eq_zero_or_pos m with rfl | hm
    · have hR := Lib.hid (show ringAtF n f g a = none by rw [← Hgo.out]; rfl)
      have t0 : decide ((len' : Int) + 1 ≤ n) = false := by simp; omega
      go_wp2
      go_ret
      rw [hR.out]
      exact ⟨_, rfl, World.ownsRow_nil _ _ _ _, hBw, fun _ => rfl⟩
    · obtain ⟨m', rfl⟩ : ∃ m', m = m' + 1 := ⟨m - 1, by omega⟩
      have t0 : decide ((len' : Int) + 1 ≤ n) = true := by simp; omega
      have hlast : aw.getD len' 0 < 2 ^ 48 := by
        rw [List.getD_eq_getElem?_getD, List.getElem?_eq_getElem (by omega)]
        exact H48.out _ (List.getElem_mem _)
      have hcell : wr.cell? ⟨g0, len', none⟩ = some (setV (aw.getD len' 0)) := by
        have := hown2.cellAt len' (by omega)
        rw [this, List.getElem?_map]
        simp [List.getD, hle]
      have hX := imgF_lt48 hg (aw.getD len' 0)
      have Hgo2 := Lib.hid (show (if (imgF g (aw.getD len' 0)).testBit a then some (descF f aw a) else ringGo f g a m' (aw ++ [imgF g (aw.getD len' 0)])) = ringAtF n f g a by rw [← Hgo.out, ringGo_succ, hle]; rfl)
      have HI := Lib.hid (image_any bb n g hg64 (aw.getD len' 0) hlast wr hGw hTw)
      generalize aw.getD len' 0 = s0 at *
      generalize imgF g s0 = X at *
      have hbit := bit_is1 X a (by omega)
      unfold setV at hcell
      clear Hgo
      go_wp2_with fail
      refine HI.out.mono ?_
      rintro e w2 ⟨rfl, hb⟩
      have hRw2 := hRw.below hb hRw.lt
      have hTw2 := hTw.below hb hTw.pos
      have ho2 := ownsRow_below hown hb
      have hBw2 := hBw.trans (hb.mono hBw.size)
      have hsz2 := hBw2.size
      clear hn hcell hown hown2 hBw hRw hGw hTw
      cases hXb : X.testBit a
      · rw [hXb] at hbit Hgo2
        simp only [Bool.false_eq_true, if_false] at Hgo2
        clear hXb
        go_wp2_with (at_builtin; refine wpList_append_own _ rfl _ _ 75 rfl w.heap.size 23 i0 (.int .u64 0) 1 8 Tryd.underlying75 hi hz0 hz1 hz2 rfl (by decide) _ _ _ rfl (ho2.alloc _) ⟨w2.heap.size, 0, none⟩ 1 1 [.int .u64 (X : Int)] rfl rfl (cell_one_new _ _ _) (by intro u hu; simp at hu; subst hu; rfl) (by unfold maxLen; omega) (by omega) (by simp; omega) ?_; intro v1 w6 hown1 hgrow1 _; obtain ⟨a1, c1, hv1⟩ := ownsRow_slice hown1; rw [hv1] at hown1 ⊢; clear hv1)
        go_roundw
        case rel =>
          refine ⟨m', aw ++ [X], ?_, (hBw2.alloc hsz2 _).grown hgrow1 (by simp; omega) (fun j hj => (ho2.lt j hj).1), by rw [List.length_append]; simp; omega, by simp, ?_, Hgo2.out⟩
          · rw [List.length_append, List.map_append, ← hle]
            exact hown1
          · intro s hs
            rcases List.mem_append.1 hs with h | h
            · exact H48.out s h
            · rw [List.mem_singleton.1 h]; exact hX
        case measure => simp [slLen]; omega
      · rw [hXb] at hbit Hgo2
        simp only [if_true] at Hgo2
        have HD := Lib.hid (descend_any b n f hf hf48 _ aw w.heap.size a ha hpos (by omega) w2 hRw2 hTw2 ho2 (fun s hs => Nat.lt_of_lt_of_le (H48.out s hs) (by decide)))
        clear hXb
        go_wp2_with fail
        refine HD.out.mono ?_
        rintro e w3 ⟨v', rfl, ho3, hb3⟩
        go_wp2
        go_ret
        rw [← Hgo2.out]
        exact ⟨_, rfl, ownsRow_base ho3 hsz2, hBw2.trans (hb3.mono hsz2), fun h => by cases h⟩
end Go.Proofs.YtakhmjohncidoaaDoor
