/- The parser's instructions. -/
import Derived.Test.YtijipgiclkkfhaaParStep
namespace Go.Proofs.Ytijipgiclkkfhaa
open Go.RowKit Go.Shelf

attribute [local go_sem] Oper.semAt_some
namespace PP
theorem symsOk_bs {l : List UInt8} (h : l ≠ []) : SymsOk [PX.bs l] := symsOk_one fun e => h (by
  have := congrArg bsOf e
  simpa [bsOf, PX.bs] using this)
theorem bs_ne {l : List UInt8} (h : l ≠ []) : PX.bs l ≠ ⟨#[]⟩ := fun e => h (by
  have := congrArg bsOf e
  simpa [bsOf, PX.bs] using this)
def zI : PX.InsD := { op := 0 }
/-- A new instruction's cells. -/
theorem newIns (w : World) : (w.alloc (.cells #[.int .u8 0, .int .u8 0, .int .u8 0, .bool false, .int .u8 0, .bool false, .int .u8 0, .int .u8 0, .int .u8 0, .int .u8 0] 48)).heap[w.heap.size]? = some (.cells (insC zI) 48 (0, 0)) := heap_alloc_new w _

set_option maxRecDepth 100000 in
set_option maxHeartbeats 8000000 in
theorem fence_any (b : Nat) (s : PX.S) (h : Hd) (w : World) (L : LS w b s h) :
    Calls Try.prog 86 #[.pointer (some ⟨b, 0, none⟩)] w (Ends1 w b h insV (PX.fence s)) := by
  have hbl := L.ps.lt
  have hgl := L.ps.g_lt
  have hz := newIns w
  have T0 := (Tr.start L).alloc (.cells #[.int .u8 0, .int .u8 0, .int .u8 0, .bool false, .int .u8 0, .bool false, .int .u8 0, .int .u8 0, .int .u8 0, .int .u8 0] 48)
  have T1 := T0.alloc (.cells #[.string ⟨#[102, 101, 110, 99, 101]⟩] 9)
  have C1 := Lib.hid (take_any b s h _ [PX.kFence] _ T1.ls.ps (strSl_one _ _) (symsOk_bs (by decide)))
  have C2 := Lib.hid fun s W (p : PS W b s h) => takes_any b s h PX.kLoads W p (bs_ne (by decide))
  have C3 := Lib.hid fun s W (p : PS W b s h) => takes_any b s h PX.kStores W p (bs_ne (by decide))
  replace hz := ((Below.refl _ _).alloc (Nat.le_refl _) (.cells #[.string ⟨#[102, 101, 110, 99, 101]⟩] 9)).block w.heap.size (by simp) |>.trans hz
  replace T1 := Lib.hid T1
  simp only [World.size_alloc] at C1
  go_enter Try.func86, Try.ntmps86
  go_wp2_with (first
    | (go_at_call 65; refine call0 C1.out (fun t s1 w1 hx1 F1 P1 => ?_) (fun pl er w1 hx F => ⟨rfl, Ends1.bad (T1.out.fr.trans F.up) (by simp only [PX.fence, PX.R.bind, hx])⟩)
       dsimp only [tokV]
       have U1 := T1.out.step0 F1 (mv_take hx1) P1
       have z1 := F1.box hz (by omega) (by simp))
    | (go_at_call 68; have V := U2; refine call0 (C3.out _ _ U2.ls.ps) (fun r3 s3 w3 hx3 F3 P3 => ?_) (fun pl er w1 hx F => ⟨rfl, Ends1.bad (U2.fr.trans F.up) (by simp only [PX.fence, PX.R.bind, hx1, hx2, hx]; simp [*])⟩)
       dsimp only
       have U3 := U2.step0 F3 (mv_takes hx3) P3
       have z3 := F3.box z2 (by omega) (by simp)
       obtain ⟨y0, y1, y2, y3, y4, y5, y6, y7, y8, y9⟩ := row_ins z3
       have fz := fun j => frozen_of_row _ _ j _ _ z3)
    | (go_at_call 68; refine call0 (C2.out _ _ U1.ls.ps) (fun r2 s2 w2 hx2 F2 P2 => ?_) (fun pl er w1 hx F => ⟨rfl, Ends1.bad (U1.fr.trans F.up) (by simp only [PX.fence, PX.R.bind, hx1, hx])⟩)
       dsimp only
       have U2 := U1.step0 F2 (mv_takes hx2) P2
       have z2 := F2.box z1 (by omega) (by simp)
       obtain ⟨y0, y1, y2, y3, y4, y5, y6, y7, y8, y9⟩ := row_ins z2
       have fz := fun j => frozen_of_row _ _ j _ _ z2))
  · obtain ⟨e0, e1, e2, e3, e4, e5, e6, e7, e8, e9⟩ := row_ins (setIns_row { op := 7, mode := 4 } z2)
    refine bodyPost_ret (v := insV { op := 7, mode := 4 }) ?_ rfl (Tr.ok (U2.setIns (Nat.le_refl _) hbl hgl { op := 7, mode := 4 } z2) ?_)
    · unfold setIns at e0 e1 e2 e3 e4 e5 e6 e7 e8 e9
      unfold insV
      simp only at e0 e1 e2 e3 e4 e5 e6 e7 e8 e9
      simp [results, Try.f86, go_sem, e0, e1, e2, e3, e4, e5, e6, e7, e8, e9]
    · simp only [PX.fence, PX.R.bind, hx1, hx2]
      simp [*]
  · obtain ⟨e0, e1, e2, e3, e4, e5, e6, e7, e8, e9⟩ := row_ins (setIns_row { op := 7, mode := 5 } z3)
    refine bodyPost_ret (v := insV { op := 7, mode := 5 }) ?_ rfl (Tr.ok (U3.setIns (Nat.le_refl _) hbl hgl { op := 7, mode := 5 } z3) ?_)
    · unfold setIns at e0 e1 e2 e3 e4 e5 e6 e7 e8 e9
      unfold insV
      simp only at e0 e1 e2 e3 e4 e5 e6 e7 e8 e9
      simp [results, Try.f86, go_sem, e0, e1, e2, e3, e4, e5, e6, e7, e8, e9]
    · simp only [PX.fence, PX.R.bind, hx1, hx2, hx3]
      simp [*]
  · obtain ⟨e0, e1, e2, e3, e4, e5, e6, e7, e8, e9⟩ := row_ins (setIns_row { op := 7, mode := 3 } z3)
    refine bodyPost_ret (v := insV { op := 7, mode := 3 }) ?_ rfl (Tr.ok (U3.setIns (Nat.le_refl _) hbl hgl { op := 7, mode := 3 } z3) ?_)
    · unfold setIns at e0 e1 e2 e3 e4 e5 e6 e7 e8 e9
      unfold insV
      simp only at e0 e1 e2 e3 e4 e5 e6 e7 e8 e9
      simp [results, Try.f86, go_sem, e0, e1, e2, e3, e4, e5, e6, e7, e8, e9]
    · simp only [PX.fence, PX.R.bind, hx1, hx2, hx3]
      simp [*]
end PP
end Go.Proofs.Ytijipgiclkkfhaa
