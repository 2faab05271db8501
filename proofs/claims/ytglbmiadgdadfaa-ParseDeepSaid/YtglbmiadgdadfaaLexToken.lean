/- lex.token. -/
import Derived.Test.YtglbmiadgdadfaaLexTok
namespace Go.Proofs.Ytglbmiadgdadfaa
open Go.RowKit

attribute [local go_sem] Oper.semAt_some

/-- Block g holds a token. -/
def TokAt (w : World) (g : Nat) (k : Int) (x : ByteArray) (i : Int) : Prop := w.heap[g]? = some (.cells #[.int .u8 k, .string x, .int .i64 i] 61 (0, 0))
section
variable {w w' : World} {g : Nat} {k : Int} {x : ByteArray} {i : Int}
theorem TokAt.lt (h : TokAt w g k x i) : g < w.heap.size := (Array.getElem?_eq_some_iff.1 h).1
theorem TokAt.cell (h : TokAt w g k x i) (o : Nat) : w.cell? ⟨g, o, none⟩ = #[Value.int .u8 k, .string x, .int .i64 i][o]? := cell_of_row w g o _ _ (0, 0) h
theorem TokAt.c0 (h : TokAt w g k x i) : w.cell? ⟨g, 0, none⟩ = some (.int .u8 k) := h.cell 0
theorem TokAt.c1 (h : TokAt w g k x i) : w.cell? ⟨g, 1, none⟩ = some (.string x) := h.cell 1
theorem TokAt.c2 (h : TokAt w g k x i) : w.cell? ⟨g, 2, none⟩ = some (.int .i64 i) := h.cell 2
theorem TokAt.frozen (h : TokAt w g k x i) (o : Nat) : w.frozen? ⟨g, o, none⟩ = false := by unfold TokAt at h; simp [World.frozen?, h]
theorem TokAt.new (w : World) (k : Int) (x : ByteArray) (i : Int) : TokAt (w.alloc (.cells #[.int .u8 k, .string x, .int .i64 i] 61)) w.heap.size k x i := heap_alloc_new w _
theorem TokAt.alloc (h : TokAt w g k x i) (o : Obj) : TokAt (w.alloc o) g k x i := (Below.heap_alloc w o g h.lt).trans h
theorem TokAt.below {B : Nat} (h : TokAt w g k x i) (hb : Below B w w') (hg : g < B) : TokAt w' g k x i := (hb.block g hg).trans h
theorem TokAt.drw (h : TokAt w g k x i) (d : Drw w w') : TokAt w' g k x i := by obtain ⟨n, rfl⟩ := d; exact h
theorem TokAt.put {b j : Nat} (h : TokAt w g k x i) (d : Put b j w w') (hne : g ≠ b) : TokAt w' g k x i := (d.grown.block g h.lt (fun e => hne (by injection e))).trans h
theorem TokAt.s0 (h : TokAt w g k x i) (k' : Int) : TokAt (w.setCell ⟨g, 0, none⟩ (.int .u8 k')) g k' x i := by
  unfold TokAt at h ⊢; simp [World.setCell, Array.getElem?_modify, h]
theorem TokAt.s1 (h : TokAt w g k x i) (x' : ByteArray) : TokAt (w.setCell ⟨g, 1, none⟩ (.string x')) g k x' i := by
  unfold TokAt at h ⊢; simp [World.setCell, Array.getElem?_modify, h]
theorem TokAt.s2 (h : TokAt w g k x i) (i' : Int) : TokAt (w.setCell ⟨g, 2, none⟩ (.int .i64 i')) g k x i' := by
  unfold TokAt at h ⊢; simp [World.setCell, Array.getElem?_modify, h]
theorem TokAt.far (h : TokAt w g k x i) {p : Addr} (hp : g ≠ p.block) (u : Value) : TokAt (w.setCell p u) g k x i := (Below.heap_setCell w p u g hp).trans h
end
/-- A token as a value. -/
def tokV (s : ByteArray) (t : LX.Tk) : Value := .agg #[.int .u8 (t.kind : Int), .string (s.extract t.lo t.hi), .int .i64 (t.lo : Int)]
theorem only_put {w W w' : World} {b j : Nat} (hB : Below w.heap.size w W) (hp : Put b j W w') : w.grownBy w' (some b) :=
  ⟨hp.grown.os.trans hB.os, hp.grown.tape.trans hB.tape, hp.grown.output.trans hB.output, Nat.le_trans hB.size hp.grown.size, fun k hk hne => (hp.grown.block k (Nat.lt_of_lt_of_le hk hB.size) hne).trans (hB.block k hk)⟩
theorem only_set {w W : World} {b : Nat} (hG : w.grownBy W (some b)) {p : Addr} (hp : w.heap.size ≤ p.block) (v : Value) : w.grownBy (W.setCell p v) (some b) :=
  ⟨hG.os, hG.tape, hG.output, by simpa [World.setCell] using hG.size, fun k hk hne => (Below.heap_setCell W p v k (by rintro rfl; omega)).trans (hG.block k hk hne)⟩
theorem only_below {w W w' : World} {b : Nat} (hG : w.grownBy W (some b)) (hB : Below W.heap.size W w') : w.grownBy w' (some b) :=
  ⟨hB.os.trans hG.os, hB.tape.trans hG.tape, hB.output.trans hG.output, Nat.le_trans hG.size hB.size, fun k hk hne => (hB.block k (Nat.lt_of_lt_of_le hk hG.size)).trans (hG.block k hk hne)⟩
theorem undrew {W w' : World} (h : Below W.drew.heap.size W.drew w') : Below W.heap.size W w' := ⟨h.os, h.tape, h.output, h.size, h.block⟩
def TokPost (b : Nat) (s : ByteArray) (t : LX.Tk) (er : Nat) (tl : List Value) (ty : TypeId) (w : World) (e : Ending) (w' : World) : Prop :=
  e = .returned (.tuple #[tokV s t, .int .i64 (er : Int)]) ∧ InAt w' b s t.hi tl ty ∧ w.grownBy w' (some b)

set_option maxRecDepth 100000 in
set_option maxHeartbeats 8000000 in
theorem token_word {b : Nat} {s : ByteArray} {i : Nat} {tl : List Value} {t : TypeId} (w : World) (h : InAt w b s i tl t) (hi : i < s.size) (hm : s.size ≤ 16384) (hc : LX.clAt (bsOf s) i = 4) :
    Calls Try.prog 44 #[.pointer (some ⟨b, 0, none⟩)] w
      (TokPost b s ⟨1, i, LX.run LX.inW (bsOf s) i⟩ (if 16 < LX.run LX.inW (bsOf s) i - i then 42 else 0) tl t w) := by
  have hr := LX.run_le LX.inW (bsOf s) i (by rw [bsOf_length]; omega)
  have hge := LX.run_ge LX.inW (bsOf s) i
  rw [bsOf_length] at hr
  have CN := Lib.hid (fun W (hW : InAt W b s i tl t) => next_any W hW (by omega))
  rw [hc] at CN
  have CT := Lib.hid (fun W (hW : InAt W b s i tl t) => takeWord_any W hW (by omega) (by unfold maxLen; omega))
  clear hc
  generalize LX.run LX.inW (bsOf s) i = r at *
  have hbl := h.lt
  have hx : (s.extract i r).size = r - i := by rw [← bsOf_length, bsOf_extract]; unfold LX.cut; rw [List.length_take, List.length_drop, bsOf_length]; omega
  have CF := fun (i' : Int) (W : World) => fault_word (s.extract i r) i' W
  rw [hx] at CF
  clear hx
  generalize (if 16 < r - i then 42 else 0 : Nat) = er at *
  generalize hxe : s.extract i r = x at *
  replace hxe := Lib.hid hxe
  replace CF := Lib.hid CF
  have hR := TokAt.new w 0 ⟨#[]⟩ 0
  have hA := h.alloc (.cells #[.int .u8 0, .string ⟨#[]⟩, .int .i64 0] 61)
  have a0 := hA.text
  have a1 := hA.at_
  go_enter Try.func44, Try.ntmps44
  go_upto_region 2 with fail
  clear a0 a1
  have hT := TokAt.new (w.alloc (.cells #[.int .u8 0, .string ⟨#[]⟩, .int .i64 0] 61)) 0 ⟨#[]⟩ (i : Int)
  replace hR := hR.alloc (.cells #[.int .u8 0, .string ⟨#[]⟩, .int .i64 i] 61)
  replace hA := hA.alloc (.cells #[.int .u8 0, .string ⟨#[]⟩, .int .i64 i] 61)
  have hB : Below w.heap.size w _ := ((Below.refl _ w).alloc (Nat.le_refl _) (.cells #[.int .u8 0, .string ⟨#[]⟩, .int .i64 0] 61)).alloc (by simp) (.cells #[.int .u8 0, .string ⟨#[]⟩, .int .i64 i] 61)
  rw [World.size_alloc] at hT
  generalize (w.alloc (.cells #[.int .u8 0, .string ⟨#[]⟩, .int .i64 0] 61)).alloc (.cells #[.int .u8 0, .string ⟨#[]⟩, .int .i64 i] 61) = W1 at *
  go_wp2_with fail
  refine (CN.out _ hA).mono ?_
  rintro e w2 ⟨rfl, hd⟩
  replace hA := hA.drw hd
  replace hR := hR.drw hd
  replace hT := hT.drw hd
  replace hB := hB.trans hd.below
  clear hd CN
  go_wp2_with fail
  refine (CT.out _ hA).mono ?_
  rintro e w3 ⟨rfl, hp⟩
  replace hA := hA.put hp
  replace hR := hR.put hp (by omega)
  replace hT := hT.put hp (by omega)
  have hG : w.grownBy w3 (some b) := only_put hB hp
  clear hp CT hB
  have c0 := hT.c0
  have c1 := hT.c1
  have f0 := hT.frozen 0
  have f1 := hT.frozen 1
  go_upto_region 10 with fail
  clear c0 c1 f0 f1
  replace hA := (hA.far (p := ⟨w.heap.size + 1, 0, none⟩) (by simp; omega) (.int .u8 1)).far (p := ⟨w.heap.size + 1, 1, none⟩) (by simp; omega) (.string x)
  replace hR := (hR.far (p := ⟨w.heap.size + 1, 0, none⟩) (by simp) (.int .u8 1)).far (p := ⟨w.heap.size + 1, 1, none⟩) (by simp) (.string x)
  replace hT := (hT.s0 1).s1 x
  replace hG := only_set (only_set hG (p := ⟨w.heap.size + 1, 0, none⟩) (by simp) (.int .u8 1)) (p := ⟨w.heap.size + 1, 1, none⟩) (by simp) (.string x)
  generalize (w3.setCell ⟨w.heap.size + 1, 0, none⟩ (.int .u8 1)).setCell ⟨w.heap.size + 1, 1, none⟩ (.string x) = W4 at *
  have l0 := hT.c0
  have l1 := hT.c1
  have l2 := hT.c2
  have r0 := hR.c0
  have r1 := hR.c1
  have r2 := hR.c2
  have z0 := hR.frozen 0
  have z1 := hR.frozen 1
  have z2 := hR.frozen 2
  have HA := Lib.hid hA
  have HG := Lib.hid hG
  have HR := Lib.hid hR
  have ht1 := hT.lt
  have hr1 := hR.lt
  have hb1 := hA.lt
  clear hA hG hR hT
  go_region_with (first
    | (go_at_call 60
       refine (CF.out _ _).mono ?_
       rintro e w5 ⟨rfl, hb5⟩
       have HA5 := Lib.hid (HA.out.below (undrew hb5) hb1)
       have HR5 := Lib.hid (HR.out.below (undrew hb5) hr1)
       have HG5 := Lib.hid (only_below HG.out (undrew hb5))
       have k0 := ((undrew hb5).cell (p := ⟨w.heap.size + 1, 0, none⟩) ht1).trans l0
       have k1 := ((undrew hb5).cell (p := ⟨w.heap.size + 1, 1, none⟩) ht1).trans l1
       have k2 := ((undrew hb5).cell (p := ⟨w.heap.size + 1, 2, none⟩) ht1).trans l2
       have y0 := ((undrew hb5).cell (p := ⟨w.heap.size, 0, none⟩) hr1).trans r0
       have y1 := ((undrew hb5).cell (p := ⟨w.heap.size, 1, none⟩) hr1).trans r1
       have y2 := ((undrew hb5).cell (p := ⟨w.heap.size, 2, none⟩) hr1).trans r2
       have x0 := HR5.out.frozen 0
       have x1 := HR5.out.frozen 1
       have x2 := HR5.out.frozen 2
       clear hb5))
  all_goals
    go_wp2
    have R5 := ((HR5.out.s0 1).s1 x).s2 (i : Int)
    have d0 := R5.c0
    have d1 := R5.c1
    have d2 := R5.c2
    refine bodyPost_ret (v := .tuple #[.agg #[.int .u8 1, .string x, .int .i64 (i : Int)], .int .i64 (er : Int)]) (by simp [results, Try.f44, go_sem, d0, d1, d2]) rfl ?_
    refine ⟨by unfold tokV; rw [hxe.out]; rfl, ?_, only_set (only_set (only_set HG5.out (p := ⟨w.heap.size, 0, none⟩) (by simp) _) (p := ⟨w.heap.size, 1, none⟩) (by simp) _) (p := ⟨w.heap.size, 2, none⟩) (by simp) _⟩
    exact ((HA5.out.far (p := ⟨w.heap.size, 0, none⟩) (by simp; omega) _).far (p := ⟨w.heap.size, 1, none⟩) (by simp; omega) _).far (p := ⟨w.heap.size, 2, none⟩) (by simp; omega) _
set_option maxRecDepth 100000 in
set_option maxHeartbeats 8000000 in
theorem token_num {b : Nat} {s : ByteArray} {i : Nat} {tl : List Value} {t : TypeId} (w : World) (h : InAt w b s i tl t) (hi : i < s.size) (hm : s.size ≤ 16384) (hc : LX.clAt (bsOf s) i = 5) :
    Calls Try.prog 44 #[.pointer (some ⟨b, 0, none⟩)] w
      (TokPost b s ⟨2, i, LX.run LX.inN (bsOf s) i⟩ (if LX.numOk (LX.cut (bsOf s) i (LX.run LX.inN (bsOf s) i)) then 0 else 41) tl t w) := by
  have hr := LX.run_le LX.inN (bsOf s) i (by rw [bsOf_length]; omega)
  have hge := LX.run_ge LX.inN (bsOf s) i
  rw [bsOf_length] at hr
  have CN := Lib.hid (fun W (hW : InAt W b s i tl t) => next_any W hW (by omega))
  rw [hc] at CN
  have CT := Lib.hid (fun W (hW : InAt W b s i tl t) => takeNumber_any W hW (by omega) (by unfold maxLen; omega))
  clear hc
  generalize LX.run LX.inN (bsOf s) i = r at *
  have hbl := h.lt
  have hx : (s.extract i r).size ≤ maxLen := by rw [← bsOf_length, bsOf_extract]; unfold LX.cut maxLen; rw [List.length_take, List.length_drop, bsOf_length]; omega
  have CF := fun (i' : Int) (W : World) => fault_num (s.extract i r) i' W hx
  rw [bsOf_extract] at CF
  clear hx
  generalize (if LX.numOk (LX.cut (bsOf s) i r) then 0 else 41 : Nat) = er at *
  generalize hxe : s.extract i r = x at *
  replace hxe := Lib.hid hxe
  replace CF := Lib.hid CF
  have hR := TokAt.new w 0 ⟨#[]⟩ 0
  have hA := h.alloc (.cells #[.int .u8 0, .string ⟨#[]⟩, .int .i64 0] 61)
  have a0 := hA.text
  have a1 := hA.at_
  go_enter Try.func44, Try.ntmps44
  go_upto_region 2 with fail
  clear a0 a1
  have hT := TokAt.new (w.alloc (.cells #[.int .u8 0, .string ⟨#[]⟩, .int .i64 0] 61)) 0 ⟨#[]⟩ (i : Int)
  replace hR := hR.alloc (.cells #[.int .u8 0, .string ⟨#[]⟩, .int .i64 i] 61)
  replace hA := hA.alloc (.cells #[.int .u8 0, .string ⟨#[]⟩, .int .i64 i] 61)
  have hB : Below w.heap.size w _ := ((Below.refl _ w).alloc (Nat.le_refl _) (.cells #[.int .u8 0, .string ⟨#[]⟩, .int .i64 0] 61)).alloc (by simp) (.cells #[.int .u8 0, .string ⟨#[]⟩, .int .i64 i] 61)
  rw [World.size_alloc] at hT
  generalize (w.alloc (.cells #[.int .u8 0, .string ⟨#[]⟩, .int .i64 0] 61)).alloc (.cells #[.int .u8 0, .string ⟨#[]⟩, .int .i64 i] 61) = W1 at *
  go_wp2_with fail
  refine (CN.out _ hA).mono ?_
  rintro e w2 ⟨rfl, hd⟩
  replace hA := hA.drw hd
  replace hR := hR.drw hd
  replace hT := hT.drw hd
  replace hB := hB.trans hd.below
  clear hd CN
  go_wp2_with fail
  refine (CT.out _ hA).mono ?_
  rintro e w3 ⟨rfl, hp⟩
  replace hA := hA.put hp
  replace hR := hR.put hp (by omega)
  replace hT := hT.put hp (by omega)
  have hG : w.grownBy w3 (some b) := only_put hB hp
  clear hp CT hB
  have c0 := hT.c0
  have c1 := hT.c1
  have f0 := hT.frozen 0
  have f1 := hT.frozen 1
  go_upto_region 10 with fail
  clear c0 c1 f0 f1
  replace hA := (hA.far (p := ⟨w.heap.size + 1, 0, none⟩) (by simp; omega) (.int .u8 2)).far (p := ⟨w.heap.size + 1, 1, none⟩) (by simp; omega) (.string x)
  replace hR := (hR.far (p := ⟨w.heap.size + 1, 0, none⟩) (by simp) (.int .u8 2)).far (p := ⟨w.heap.size + 1, 1, none⟩) (by simp) (.string x)
  replace hT := (hT.s0 2).s1 x
  replace hG := only_set (only_set hG (p := ⟨w.heap.size + 1, 0, none⟩) (by simp) (.int .u8 2)) (p := ⟨w.heap.size + 1, 1, none⟩) (by simp) (.string x)
  generalize (w3.setCell ⟨w.heap.size + 1, 0, none⟩ (.int .u8 2)).setCell ⟨w.heap.size + 1, 1, none⟩ (.string x) = W4 at *
  have l0 := hT.c0
  have l1 := hT.c1
  have l2 := hT.c2
  have r0 := hR.c0
  have r1 := hR.c1
  have r2 := hR.c2
  have z0 := hR.frozen 0
  have z1 := hR.frozen 1
  have z2 := hR.frozen 2
  have HA := Lib.hid hA
  have HG := Lib.hid hG
  have HR := Lib.hid hR
  have ht1 := hT.lt
  have hr1 := hR.lt
  have hb1 := hA.lt
  clear hA hG hR hT
  go_region_with (first
    | (go_at_call 60
       refine (CF.out _ _).mono ?_
       rintro e w5 ⟨rfl, hb5⟩
       have HA5 := Lib.hid (HA.out.below (undrew hb5) hb1)
       have HR5 := Lib.hid (HR.out.below (undrew hb5) hr1)
       have HG5 := Lib.hid (only_below HG.out (undrew hb5))
       have k0 := ((undrew hb5).cell (p := ⟨w.heap.size + 1, 0, none⟩) ht1).trans l0
       have k1 := ((undrew hb5).cell (p := ⟨w.heap.size + 1, 1, none⟩) ht1).trans l1
       have k2 := ((undrew hb5).cell (p := ⟨w.heap.size + 1, 2, none⟩) ht1).trans l2
       have y0 := ((undrew hb5).cell (p := ⟨w.heap.size, 0, none⟩) hr1).trans r0
       have y1 := ((undrew hb5).cell (p := ⟨w.heap.size, 1, none⟩) hr1).trans r1
       have y2 := ((undrew hb5).cell (p := ⟨w.heap.size, 2, none⟩) hr1).trans r2
       have x0 := HR5.out.frozen 0
       have x1 := HR5.out.frozen 1
       have x2 := HR5.out.frozen 2
       clear hb5))
  all_goals
    go_wp2
    have R5 := ((HR5.out.s0 2).s1 x).s2 (i : Int)
    have d0 := R5.c0
    have d1 := R5.c1
    have d2 := R5.c2
    refine bodyPost_ret (v := .tuple #[.agg #[.int .u8 2, .string x, .int .i64 (i : Int)], .int .i64 (er : Int)]) (by simp [results, Try.f44, go_sem, d0, d1, d2]) rfl ?_
    refine ⟨by unfold tokV; rw [hxe.out]; rfl, ?_, only_set (only_set (only_set HG5.out (p := ⟨w.heap.size, 0, none⟩) (by simp) _) (p := ⟨w.heap.size, 1, none⟩) (by simp) _) (p := ⟨w.heap.size, 2, none⟩) (by simp) _⟩
    exact ((HA5.out.far (p := ⟨w.heap.size, 0, none⟩) (by simp; omega) _).far (p := ⟨w.heap.size, 1, none⟩) (by simp; omega) _).far (p := ⟨w.heap.size, 2, none⟩) (by simp; omega) _
set_option maxRecDepth 100000 in
set_option maxHeartbeats 8000000 in
theorem token_sign_er {b : Nat} {s : ByteArray} {i : Nat} {tl : List Value} {t : TypeId} (w : World) (h : InAt w b s i tl t) (hi : i < s.size) (hm : s.size ≤ 16384) (hc : LX.clAt (bsOf s) i = 7) {er : Nat} (her : er = 0) :
    Calls Try.prog 44 #[.pointer (some ⟨b, 0, none⟩)] w
      (TokPost b s ⟨3, i, (i + LX.signLen (bsOf s) i)⟩ er tl t w) := by
  have hr := LX.signLen_le (L := bsOf s) (i := i) (by rw [bsOf_length]; exact hi)
  have hge := LX.signLen_pos (bsOf s) i
  rw [bsOf_length] at hr
  have CN := Lib.hid (fun W (hW : InAt W b s i tl t) => next_any W hW (by omega))
  rw [hc] at CN
  have CT := Lib.hid (fun W (hW : InAt W b s i tl t) => takeSign_any W hW hi hm)
  clear hc
  generalize (i + LX.signLen (bsOf s) i) = r at *
  have hbl := h.lt
  have CF : ∀ (i' : Int) (W : World), Calls Try.prog 60 #[.agg #[.int .u8 3, .string (s.extract i r), .int .i64 i']] W fun e w' => e = .returned (.int .i64 (er : Int)) ∧ Below W.heap.size W w' := fun i' W => by rw [her]; exact fault_sign (s.extract i r) i' W
  clear her
  generalize hxe : s.extract i r = x at *
  replace hxe := Lib.hid hxe
  replace CF := Lib.hid CF
  have hR := TokAt.new w 0 ⟨#[]⟩ 0
  have hA := h.alloc (.cells #[.int .u8 0, .string ⟨#[]⟩, .int .i64 0] 61)
  have a0 := hA.text
  have a1 := hA.at_
  go_enter Try.func44, Try.ntmps44
  go_upto_region 2 with fail
  clear a0 a1
  have hT := TokAt.new (w.alloc (.cells #[.int .u8 0, .string ⟨#[]⟩, .int .i64 0] 61)) 0 ⟨#[]⟩ (i : Int)
  replace hR := hR.alloc (.cells #[.int .u8 0, .string ⟨#[]⟩, .int .i64 i] 61)
  replace hA := hA.alloc (.cells #[.int .u8 0, .string ⟨#[]⟩, .int .i64 i] 61)
  have hB : Below w.heap.size w _ := ((Below.refl _ w).alloc (Nat.le_refl _) (.cells #[.int .u8 0, .string ⟨#[]⟩, .int .i64 0] 61)).alloc (by simp) (.cells #[.int .u8 0, .string ⟨#[]⟩, .int .i64 i] 61)
  rw [World.size_alloc] at hT
  generalize (w.alloc (.cells #[.int .u8 0, .string ⟨#[]⟩, .int .i64 0] 61)).alloc (.cells #[.int .u8 0, .string ⟨#[]⟩, .int .i64 i] 61) = W1 at *
  go_wp2_with fail
  refine (CN.out _ hA).mono ?_
  rintro e w2 ⟨rfl, hd⟩
  replace hA := hA.drw hd
  replace hR := hR.drw hd
  replace hT := hT.drw hd
  replace hB := hB.trans hd.below
  clear hd CN
  go_wp2_with fail
  refine (CT.out _ hA).mono ?_
  rintro e w3 ⟨rfl, hp⟩
  replace hA := hA.put hp
  replace hR := hR.put hp (by omega)
  replace hT := hT.put hp (by omega)
  have hG : w.grownBy w3 (some b) := only_put hB hp
  clear hp CT hB
  have c0 := hT.c0
  have c1 := hT.c1
  have f0 := hT.frozen 0
  have f1 := hT.frozen 1
  go_upto_region 10 with fail
  clear c0 c1 f0 f1
  replace hA := (hA.far (p := ⟨w.heap.size + 1, 0, none⟩) (by simp; omega) (.int .u8 3)).far (p := ⟨w.heap.size + 1, 1, none⟩) (by simp; omega) (.string x)
  replace hR := (hR.far (p := ⟨w.heap.size + 1, 0, none⟩) (by simp) (.int .u8 3)).far (p := ⟨w.heap.size + 1, 1, none⟩) (by simp) (.string x)
  replace hT := (hT.s0 3).s1 x
  replace hG := only_set (only_set hG (p := ⟨w.heap.size + 1, 0, none⟩) (by simp) (.int .u8 3)) (p := ⟨w.heap.size + 1, 1, none⟩) (by simp) (.string x)
  generalize (w3.setCell ⟨w.heap.size + 1, 0, none⟩ (.int .u8 3)).setCell ⟨w.heap.size + 1, 1, none⟩ (.string x) = W4 at *
  have l0 := hT.c0
  have l1 := hT.c1
  have l2 := hT.c2
  have r0 := hR.c0
  have r1 := hR.c1
  have r2 := hR.c2
  have z0 := hR.frozen 0
  have z1 := hR.frozen 1
  have z2 := hR.frozen 2
  have HA := Lib.hid hA
  have HG := Lib.hid hG
  have HR := Lib.hid hR
  have ht1 := hT.lt
  have hr1 := hR.lt
  have hb1 := hA.lt
  clear hA hG hR hT
  go_region_with (first
    | (go_at_call 60
       refine (CF.out _ _).mono ?_
       rintro e w5 ⟨rfl, hb5⟩
       have HA5 := Lib.hid (HA.out.below (undrew hb5) hb1)
       have HR5 := Lib.hid (HR.out.below (undrew hb5) hr1)
       have HG5 := Lib.hid (only_below HG.out (undrew hb5))
       have k0 := ((undrew hb5).cell (p := ⟨w.heap.size + 1, 0, none⟩) ht1).trans l0
       have k1 := ((undrew hb5).cell (p := ⟨w.heap.size + 1, 1, none⟩) ht1).trans l1
       have k2 := ((undrew hb5).cell (p := ⟨w.heap.size + 1, 2, none⟩) ht1).trans l2
       have y0 := ((undrew hb5).cell (p := ⟨w.heap.size, 0, none⟩) hr1).trans r0
       have y1 := ((undrew hb5).cell (p := ⟨w.heap.size, 1, none⟩) hr1).trans r1
       have y2 := ((undrew hb5).cell (p := ⟨w.heap.size, 2, none⟩) hr1).trans r2
       have x0 := HR5.out.frozen 0
       have x1 := HR5.out.frozen 1
       have x2 := HR5.out.frozen 2
       clear hb5))
  all_goals
    go_wp2
    have R5 := ((HR5.out.s0 3).s1 x).s2 (i : Int)
    have d0 := R5.c0
    have d1 := R5.c1
    have d2 := R5.c2
    refine bodyPost_ret (v := .tuple #[.agg #[.int .u8 3, .string x, .int .i64 (i : Int)], .int .i64 (er : Int)]) (by simp [results, Try.f44, go_sem, d0, d1, d2]) rfl ?_
    refine ⟨by unfold tokV; rw [hxe.out]; rfl, ?_, only_set (only_set (only_set HG5.out (p := ⟨w.heap.size, 0, none⟩) (by simp) _) (p := ⟨w.heap.size, 1, none⟩) (by simp) _) (p := ⟨w.heap.size, 2, none⟩) (by simp) _⟩
    exact ((HA5.out.far (p := ⟨w.heap.size, 0, none⟩) (by simp; omega) _).far (p := ⟨w.heap.size, 1, none⟩) (by simp; omega) _).far (p := ⟨w.heap.size, 2, none⟩) (by simp; omega) _
theorem token_sign {b : Nat} {s : ByteArray} {i : Nat} {tl : List Value} {t : TypeId} (w : World) (h : InAt w b s i tl t) (hi : i < s.size) (hm : s.size ≤ 16384) (hc : LX.clAt (bsOf s) i = 7) :
    Calls Try.prog 44 #[.pointer (some ⟨b, 0, none⟩)] w (TokPost b s ⟨3, i, i + LX.signLen (bsOf s) i⟩ 0 tl t w) := token_sign_er w h hi hm hc rfl
set_option maxRecDepth 100000 in
set_option maxHeartbeats 8000000 in
theorem token_stray {b : Nat} {s : ByteArray} {i : Nat} {tl : List Value} {t : TypeId} (w : World) (h : InAt w b s i tl t) (hi : i < s.size) (hc : LX.clAt (bsOf s) i ≠ 4 ∧ LX.clAt (bsOf s) i ≠ 5 ∧ LX.clAt (bsOf s) i ≠ 7) :
    Calls Try.prog 44 #[.pointer (some ⟨b, 0, none⟩)] w (TokPost b s ⟨0, i, i⟩ 40 tl t w) := by
  have CN := Lib.hid (fun W (hW : InAt W b s i tl t) => next_any W hW (by omega))
  have t4 : (LX.clAt (bsOf s) i == 4) = false := by simp [hc.1]
  have t5 : (LX.clAt (bsOf s) i == 5) = false := by simp [hc.2.1]
  have t7 : (LX.clAt (bsOf s) i == 7) = false := by simp [hc.2.2]
  clear hc
  generalize LX.clAt (bsOf s) i = c at *
  have hbl := h.lt
  have hxe := Lib.hid (show s.extract i i = ⟨#[]⟩ by apply ByteArray.ext; simp)
  have hR := TokAt.new w 0 ⟨#[]⟩ 0
  have hA := h.alloc (.cells #[.int .u8 0, .string ⟨#[]⟩, .int .i64 0] 61)
  have a0 := hA.text
  have a1 := hA.at_
  go_enter Try.func44, Try.ntmps44
  go_upto_region 2 with fail
  clear a0 a1
  have hT := TokAt.new (w.alloc (.cells #[.int .u8 0, .string ⟨#[]⟩, .int .i64 0] 61)) 0 ⟨#[]⟩ (i : Int)
  replace hR := hR.alloc (.cells #[.int .u8 0, .string ⟨#[]⟩, .int .i64 i] 61)
  replace hA := hA.alloc (.cells #[.int .u8 0, .string ⟨#[]⟩, .int .i64 i] 61)
  have hB : Below w.heap.size w _ := ((Below.refl _ w).alloc (Nat.le_refl _) (.cells #[.int .u8 0, .string ⟨#[]⟩, .int .i64 0] 61)).alloc (by simp) (.cells #[.int .u8 0, .string ⟨#[]⟩, .int .i64 i] 61)
  rw [World.size_alloc] at hT
  generalize (w.alloc (.cells #[.int .u8 0, .string ⟨#[]⟩, .int .i64 0] 61)).alloc (.cells #[.int .u8 0, .string ⟨#[]⟩, .int .i64 i] 61) = W1 at *
  go_wp2_with fail
  refine (CN.out _ hA).mono ?_
  rintro e w2 ⟨rfl, hd⟩
  replace hA := Lib.hid (hA.drw hd)
  replace hR := hR.drw hd
  replace hT := hT.drw hd
  have hG := Lib.hid (show w.grownBy w2 (some b) from ⟨((hd.below (B := 0)).os).trans hB.os, (hd.below (B := 0)).tape.trans hB.tape, (hd.below (B := 0)).output.trans hB.output, (hB.trans hd.below).size, fun k hk _ => (hB.trans hd.below).block k hk⟩)
  clear hd CN hB
  have l0 := hT.c0
  have l1 := hT.c1
  have l2 := hT.c2
  have r0 := hR.c0
  have r1 := hR.c1
  have r2 := hR.c2
  have z0 := hR.frozen 0
  have z1 := hR.frozen 1
  have z2 := hR.frozen 2
  go_wp2
  have R5 := ((hR.s0 0).s1 ⟨#[]⟩).s2 (i : Int)
  have d0 := R5.c0
  have d1 := R5.c1
  have d2 := R5.c2
  refine bodyPost_ret (v := .tuple #[.agg #[.int .u8 0, .string ⟨#[]⟩, .int .i64 (i : Int)], .int .i64 40]) (by simp [results, Try.f44, go_sem, d0, d1, d2]) rfl ?_
  refine ⟨by unfold tokV; rw [hxe.out]; rfl, ?_, only_set (only_set (only_set hG.out (p := ⟨w.heap.size, 0, none⟩) (by simp) _) (p := ⟨w.heap.size, 1, none⟩) (by simp) _) (p := ⟨w.heap.size, 2, none⟩) (by simp) _⟩
  exact ((hA.out.far (p := ⟨w.heap.size, 0, none⟩) (by simp; omega) _).far (p := ⟨w.heap.size, 1, none⟩) (by simp; omega) _).far (p := ⟨w.heap.size, 2, none⟩) (by simp; omega) _
end Go.Proofs.Ytglbmiadgdadfaa
