/- LexEnds: the sweeps. -/
import Derived.BigQuiet
import Derived.Laws.IdiomStrings
import Derived.Laws.MakeOwn
import Derived.Laws.OwnMore
import Derived.Test.YtcahdnghdblanaaRegionBelow
import Derived.Test.YtcahdnghdblanaaLexTellsLaw
import Derived.Test.YtcahdnghdblanaaLexWordsLaw
namespace Go.Proofs.Ytcahdnghdblanaa
open Go.RowKit Go.Shelf

attribute [local go_sem] Oper.semAt_some
/-- A law's part that holds for every string of at most so many bytes. -/
def AnyS (f : Nat) : Prop := ∀ (s : ByteArray), s.size ≤ 100000 → ∀ W, Calls Try.prog f #[.string s] W fun e w' => e = .returned (.bool true) ∧ Below W.heap.size W w'
theorem lexesS : AnyS 12 := fun s _ W => lexes_any s W
theorem wordsS : AnyS 13 := fun s h W => words_any s W (by unfold maxLen; omega)
theorem ap_size (a b : ByteArray) : (a ++ b).size = a.size + b.size := by rw [← bsOf_length, ← bsOf_length, ← bsOf_length, ← List.length_append]; unfold bsOf; simp
theorem ex_size (s : ByteArray) (i j : Nat) (h : j ≤ s.size) : (s.extract i j).size = j - i := by
  rw [← bsOf_length, bsOf_extract]; unfold LX.cut; rw [List.length_take, List.length_drop, bsOf_length]; omega
/-- 's[i:j]' of a string -/
theorem str_cut (s : ByteArray) (i j : Nat) (hi : i ≤ j) (hj : j ≤ s.size) (W : World) : (Instr.slice 9 (.string s) (some (.int .i64 (i : Int))) (some (.int .i64 (j : Int))) none).run Try.prog W = .ok (.string (s.extract i j)) W := by
  have hu : Try.prog.underlying 9 = some .string := Try.underlying9
  have := run_slice_string (P := Try.prog) W 9 s .i64 .i64 (i : Int) (j : Int) hu (by omega) (by omega) (by omega)
  simpa using this
def someS : ByteArray := ⟨#[97, 48, 61, 33, 32, 35, 10, 95, 114, 9]⟩
theorem some_at (i : Nat) (h : i < 10) (W : World) : (Instr.slice 9 (.string ⟨#[97, 48, 61, 33, 32, 35, 10, 95, 114, 9]⟩) (some (.int .i64 (i : Int))) (some (.int .i64 ((i : Int) + 1))) none).run Try.prog W = .ok (.string (someS.extract i (i + 1))) W := by
  have := str_cut someS i (i + 1) (by omega) (by show i + 1 ≤ 10; omega) W
  have e : ((i + 1 : Nat) : Int) = (i : Int) + 1 := by omega
  rw [e] at this
  exact this

theorem some_one (i : Nat) (h : i < 10) : ∃ P : ByteArray, P.size = 1 ∧ ∀ W, (Instr.slice 9 (.string ⟨#[97, 48, 61, 33, 32, 35, 10, 95, 114, 9]⟩) (some (.int .i64 (i : Int))) (some (.int .i64 ((i : Int) + 1))) none).run Try.prog W = .ok (.string P) W :=
  ⟨someS.extract i (i + 1), by rw [ex_size _ _ _ (by show i + 1 ≤ 10; omega)]; omega, some_at i h⟩
def signS : ByteArray := ⟨#[61, 33, 43, 40, 58, 60, 97, 49, 32, 10, 35, 36]⟩
theorem sign_one (x : Int) (h0 : 0 ≤ x) (h1 : x < 12) : ∃ P : ByteArray, P.size = 1 ∧ ∀ W, (Instr.slice 9 (.string ⟨#[61, 33, 43, 40, 58, 60, 97, 49, 32, 10, 35, 36]⟩) (some (.int .i64 x)) (some (.int .i64 (x + 1))) none).run Try.prog W = .ok (.string P) W := by
  obtain ⟨i, rfl⟩ := Int.eq_ofNat_of_zero_le h0
  refine ⟨signS.extract i (i + 1), by rw [ex_size _ _ _ (by show i + 1 ≤ 12; omega)]; omega, fun W => ?_⟩
  have := str_cut signS i (i + 1) (by omega) (by show i + 1 ≤ 12; omega) W
  have e : ((i + 1 : Nat) : Int) = (i : Int) + 1 := by omega
  rw [e] at this
  exact this
def lettS : ByteArray := ⟨#[97, 98, 99, 100, 101, 102, 103, 104, 105, 106, 107, 108, 109, 110, 111, 112, 113, 114, 115, 116, 117, 118, 119, 120, 121, 122]⟩
def regS : ByteArray := ⟨#[114, 48, 49, 50, 51, 52, 53, 54, 55, 56, 57, 48, 49, 50, 51, 52, 53, 54, 55, 56]⟩
def kwL : List ByteArray := [⟨#[116, 101, 115, 116]⟩, ⟨#[105, 110, 105, 116]⟩, ⟨#[116, 104, 114, 101, 97, 100]⟩, ⟨#[115, 111, 109, 101]⟩, ⟨#[110, 111, 110, 101]⟩, ⟨#[97, 108, 108]⟩, ⟨#[97, 99, 113]⟩, ⟨#[114, 101, 108]⟩, ⟨#[115, 119, 97, 112]⟩, ⟨#[102, 101, 116, 99, 104]⟩,
  ⟨#[99, 97, 115]⟩, ⟨#[102, 101, 110, 99, 101]⟩, ⟨#[108, 111, 97, 100, 115]⟩, ⟨#[115, 116, 111, 114, 101, 115]⟩, ⟨#[115, 107, 105, 112]⟩, ⟨#[105, 102]⟩, ⟨#[116, 114, 117, 101]⟩, ⟨#[84, 101, 115, 116]⟩, ⟨#[102, 97, 108, 115, 101]⟩, ⟨#[]⟩]
theorem kw_small : ∀ L ∈ kwL, L.size ≤ 10 := by decide +kernel
/-- A row of so many bytes. -/
def rowC : Array Value := madeCells #[.int .u8 0] 16385
def RowB (W : World) (g : Nat) : Prop := ∃ C : Array Value, W.heap[g]? = some (.cells C 5 (0, 0)) ∧ C.size = 16385 ∧ ∀ x, x < 16385 → ∃ b : UInt8, C[x]? = some (.int .u8 (b.toNat : Int))
section
variable {W W' : World} {g x : Nat}
theorem RowB.cell (h : RowB W g) (hx : x < 16385) : ∃ b : UInt8, W.cell? ⟨g, x, none⟩ = some (.int .u8 (b.toNat : Int)) := by
  obtain ⟨C, hC, _, hb⟩ := h
  obtain ⟨b, e⟩ := hb x hx
  exact ⟨b, (cell_of_row W g x C _ _ hC).trans e⟩
theorem RowB.frozen (h : RowB W g) : W.frozen? ⟨g, x, none⟩ = false := by
  obtain ⟨C, hC, _, _⟩ := h
  simp [World.frozen?, hC]
theorem RowB.set (h : RowB W g) (hx : x < 16385) (b : UInt8) : RowB (W.setCell ⟨g, x, none⟩ (.int .u8 (b.toNat : Int))) g := by
  obtain ⟨C, hC, hs, hb⟩ := h
  refine ⟨_, heap_setCell_same W g x C _ _ hC, by simpa using hs, fun y hy => ?_⟩
  by_cases he : x = y
  · subst he
    exact ⟨b, by rw [Array.getElem?_setIfInBounds_self_of_lt (by omega)]⟩
  · obtain ⟨c, e⟩ := hb y hy
    exact ⟨c, by rw [Array.getElem?_setIfInBounds_ne he]; exact e⟩
theorem RowB.on {n : Nat} (h : RowB W g) (hb : Below n W W') (hg : g < n) : RowB W' g := by
  obtain ⟨C, hC, r⟩ := h
  exact ⟨C, (hb.block g hg).trans hC, r⟩
theorem RowB.lt (h : RowB W g) : g < W.heap.size := by
  obtain ⟨C, hC, r⟩ := h
  exact (Array.getElem?_eq_some_iff.1 hC).1
theorem RowB.str (h : RowB W g) (off n cap : Nat) (hn : off + n ≤ 16385) : ∃ P : ByteArray, P.size = n ∧ (convert 34 9 (.slice (some ⟨g, off, none⟩) n cap)).run Try.prog W = .ok (.string P) W := by
  have hc : ∀ j, j < n → ∃ b : UInt8, W.cell? ⟨g, off + j, none⟩ = some (.int .u8 (b.toNat : Int)) := fun j hj => h.cell (by omega)
  let f : Nat → UInt8 := fun j => if hj : j < n then Classical.choose (hc j hj) else 0
  have hf : ∀ j, j < n → W.cell? ⟨g, off + j, none⟩ = some (.int .u8 ((f j).toNat : Int)) := fun j hj => by
    have e : f j = Classical.choose (hc j hj) := dif_pos hj
    rw [e]; exact Classical.choose_spec (hc j hj)
  have hl : ((List.range n).map f).length = n := by simp
  have := run_convert_bytes_back (P := Try.prog) W 34 9 5 ⟨g, off, none⟩ cap ((List.range n).map f) rfl rfl rfl (fun j hj => by
    rw [hl] at hj
    rw [Go.WideShapes.add_plain, hf j hj]; simp)
  rw [hl] at this
  exact ⟨_, by simp [ByteArray.size], this⟩
end
theorem make_row (W : World) : (Instr.makeSlice 34 (.int .i64 16385) (.int .i64 16385)).run Try.prog W = .ok (.slice (some ⟨W.heap.size, 0, none⟩) 16385 16385) (W.alloc (.cells rowC 5)) ∧ RowB (W.alloc (.cells rowC 5)) W.heap.size := by
  have h : (Try.prog.info? 5).map (fun i => (i.zero, i.size, i.bytes)) = some (some (.int .u8 0), 1, 1) := by kernel_rfl
  refine ⟨?_, rowC, heap_alloc_new W _, size_madeCells _ _, fun x hx => ⟨0, ?_⟩⟩
  · cases hi : Try.prog.info? 5 with
    | none => rw [hi] at h; cases h
    | some i =>
      rw [hi] at h
      simp only [Option.map_some, Option.some.injEq, Prod.mk.injEq] at h
      have := run_makeSlice (P := Try.prog) W 34 5 i (.int .u8 0) Try.underlying34 hi h.1 .i64 .i64 16385 16385 (by decide) (by decide) (by rw [h.2.1]; decide) (by rw [h.2.2]; decide) (by decide)
      rw [h.2.1] at this
      exact this
  · unfold rowC
    rw [← Array.getElem?_toList, toList_madeCells_one, List.getElem?_replicate, if_pos hx]; rfl
theorem str_from (s : ByteArray) (i : Nat) (hi : i ≤ s.size) (hs : s.size ≤ 1000) : ∃ P : ByteArray, P.size ≤ 1000 ∧ ∀ W, (Instr.slice 9 (.string s) (some (.int .i64 (i : Int))) none none).run Try.prog W = .ok (.string P) W := by
  refine ⟨s.extract i s.size, by rw [ex_size _ _ _ (Nat.le_refl _)]; omega, fun W => ?_⟩
  have hu : Try.prog.underlying 9 = some .string := Try.underlying9
  have := run_slice_string_l (P := Try.prog) W 9 s hu .i64 (i : Int) (by omega) (by omega)
  simpa using this
theorem str_to (s : ByteArray) (i : Nat) (hi : i ≤ s.size) : ∃ P : ByteArray, P.size = i ∧ ∀ W, (Instr.slice 9 (.string s) none (some (.int .i64 (i : Int))) none).run Try.prog W = .ok (.string P) W := by
  refine ⟨s.extract 0 i, by rw [ex_size _ _ _ hi]; omega, fun W => ?_⟩
  have hu : Try.prog.underlying 9 = some .string := Try.underlying9
  have := run_slice_string_h (P := Try.prog) W 9 s hu .i64 (i : Int) (by omega) (by omega)
  simpa using this
set_option maxRecDepth 100000 in
set_option maxHeartbeats 8000000 in
theorem sizes_any (w : World) : Calls Try.prog 18 #[] w fun e w' => e = .returned (.bool true) ∧ Below w.heap.size w w' := by
  have CL := Lib.hid lexesS
  have CW := Lib.hid wordsS
  go_enter Try.func18, Try.ntmps18
  go_wp2_with fail
  go_loopw [1, 2, 3] (fun n _ _ wr => ∃ (k : Nat), k ≤ 300 ∧ n = .int .i64 (k : Int) ∧ Hid (Below w.heap.size w wr)) (fun n _ _ _ => 300 - (intOf n).toNat)
  case atStart => exact ⟨0, by omega, rfl, Lib.hid (Below.refl _ w)⟩
  case round =>
    obtain ⟨k, hk, rfl, hB⟩ := hrel
    by_cases hlt : k < 300
    · have t1 : decide ((k : Int) < 300) = true := by simp; omega
      obtain ⟨b1, g1⟩ : ∃ b : UInt8, 48 + (k : Int) / 100 = (b.toNat : Int) := ⟨UInt8.ofNat (48 + k / 100), by rw [UInt8.toNat_ofNat']; omega⟩
      obtain ⟨b2, g2⟩ : ∃ b : UInt8, 48 + (k : Int) / 10 % 10 = (b.toNat : Int) := ⟨UInt8.ofNat (48 + k / 10 % 10), by rw [UInt8.toNat_ofNat']; omega⟩
      obtain ⟨b3, g3⟩ : ∃ b : UInt8, 48 + (k : Int) % 10 = (b.toNat : Int) := ⟨UInt8.ofNat (48 + k % 10), by rw [UInt8.toNat_ofNat']; omega⟩
      have hT := heap_alloc_new wr (.cells #[.int .u8 (b1.toNat : Int), .int .u8 (b2.toNat : Int), .int .u8 (b3.toNat : Int)] 5)
      have q : (convert 34 9 (.slice (some ⟨wr.heap.size, 0, none⟩) 3 3)).run Try.prog (wr.alloc (.cells #[.int .u8 (b1.toNat : Int), .int .u8 (b2.toNat : Int), .int .u8 (b3.toNat : Int)] 5)) = .ok (.string ⟨#[b1, b2, b3]⟩) (wr.alloc (.cells #[.int .u8 (b1.toNat : Int), .int .u8 (b2.toNat : Int), .int .u8 (b3.toNat : Int)] 5)) :=
        run_convert_bytes_back (P := Try.prog) _ 34 9 5 ⟨wr.heap.size, 0, none⟩ 3 [b1, b2, b3] rfl rfl rfl (fun j hj => by
          have hj3 : j < 3 := hj
          rcases j with _ | _ | _ | j
          · exact cell_of_row _ _ 0 _ _ _ hT
          · exact cell_of_row _ _ 1 _ _ _ hT
          · exact cell_of_row _ _ 2 _ _ _ hT
          · omega)
      have hB1 := Lib.hid (hB.out.alloc hB.out.size (.cells #[.int .u8 (b1.toNat : Int), .int .u8 (b2.toNat : Int), .int .u8 (b3.toNat : Int)] 5))
      clear hT hB
      go_upto_region 5 with fail
      generalize wr.alloc (.cells #[.int .u8 (b1.toNat : Int), .int .u8 (b2.toNat : Int), .int .u8 (b3.toNat : Int)] 5) = w1 at *
      clear q
      obtain ⟨S, hS⟩ : ∃ S : ByteArray, S = ⟨#[b1, b2, b3]⟩ := ⟨_, rfl⟩
      have hs1 : Hid (S.size = 3) := Lib.hid (by rw [hS]; rfl)
      rw [← hS]
      clear hS g1 g2 g3
      go_wp2_with fail
      go_loopw [3] (fun i wr2 => ∃ (m : Nat), m ≤ 3 ∧ i = .int .i64 (m : Int) ∧ Hid (Below w.heap.size w wr2)) (fun i _ => 3 - (intOf i).toNat)
      case atStart => exact ⟨0, by omega, rfl, hB1⟩
      case round =>
        clear hB1
        obtain ⟨m, hm, rfl, hB⟩ := hrel
        by_cases hml : m < 3
        · have t2 : decide ((m : Int) < 3) = true := by simp; omega
          obtain ⟨P, z1, s1⟩ := str_from S m (by rw [hs1.out]; omega) (by rw [hs1.out]; omega)
          have q1 : (9223372036854775807 < 2 + P.size) = False := eq_false (by omega)
          have q2 : (9223372036854775807 < 1 + P.size) = False := eq_false (by omega)
          have q3 : (9223372036854775807 < P.size + 1) = False := eq_false (by omega)
          have z2 : ((⟨#[120, 61]⟩ : ByteArray) ++ P).size ≤ 100000 := by rw [ap_size]; show 2 + P.size ≤ _; omega
          have z3 : ((⟨#[114]⟩ : ByteArray) ++ P).size ≤ 100000 := by rw [ap_size]; show 1 + P.size ≤ _; omega
          have z4 : (P ++ (⟨#[97]⟩ : ByteArray)).size ≤ 100000 := by rw [ap_size]; show P.size + 1 ≤ _; omega
          replace z1 := Lib.hid z1
          replace z2 := Lib.hid z2
          replace z3 := Lib.hid z3
          replace z4 := Lib.hid z4
          go_wp2_with fail
          refine (CW.out _ (by have := z1.out; omega) _).mono ?_
          rintro e w2 ⟨rfl, hb⟩
          replace hB := Lib.hid (hB.out.trans (hb.mono hB.out.size))
          clear hb
          go_wp2_with fail
          refine (CL.out _ z2.out _).mono ?_
          rintro e w3 ⟨rfl, hb⟩
          replace hB := Lib.hid (hB.out.trans (hb.mono hB.out.size))
          clear hb
          go_wp2_with fail
          refine (CW.out _ z3.out _).mono ?_
          rintro e w4 ⟨rfl, hb⟩
          replace hB := Lib.hid (hB.out.trans (hb.mono hB.out.size))
          clear hb
          go_wp2_with fail
          refine (CW.out _ z4.out _).mono ?_
          rintro e w5 ⟨rfl, hb⟩
          replace hB := Lib.hid (hB.out.trans (hb.mono hB.out.size))
          clear hb
          go_wp2
          go_roundw
          case rel => exact ⟨m + 1, by omega, by go_num, hB⟩
          case measure => simp [intOf]; omega
        · have t2 : decide ((m : Int) < 3) = false := by simp; omega
          go_wp2
          go_roundw
          case rel => exact ⟨k + 1, by omega, by go_num, hB⟩
          case measure => simp [intOf]; omega
    · have t1 : decide ((k : Int) < 300) = false := by simp; omega
      go_wp2_with fail
      go_loopw [5] (fun n wr2 => ∃ (m : Nat), 14 ≤ m ∧ m ≤ 20 ∧ n = .int .i64 (m : Int) ∧ Hid (Below w.heap.size w wr2)) (fun n _ => 20 - (intOf n).toNat)
      case atStart => exact ⟨14, by omega, by omega, rfl, hB⟩
      case round =>
        clear hB
        obtain ⟨m, hm0, hm, rfl, hB⟩ := hrel
        by_cases hml : m < 20
        · have t2 : decide ((m : Int) < 20) = true := by simp; omega
          obtain ⟨P, z1, s1⟩ := str_to lettS m (by show m ≤ 26; omega)
          obtain ⟨R, z2, s2⟩ := str_to regS m (by show m ≤ 20; omega)
          unfold lettS at s1
          unfold regS at s2
          have q1 : (9223372036854775807 < P.size + 2) = False := eq_false (by omega)
          have z3 : (P ++ (⟨#[32, 36]⟩ : ByteArray)).size ≤ 100000 := by rw [ap_size]; show P.size + 2 ≤ _; omega
          have z4 : P.size ≤ 100000 := by omega
          have z5 : R.size ≤ 100000 := by omega
          replace z1 := Lib.hid z1
          replace z2 := Lib.hid z2
          replace z3 := Lib.hid z3
          replace z4 := Lib.hid z4
          replace z5 := Lib.hid z5
          go_wp2_with fail
          refine (CW.out _ z4.out _).mono ?_
          rintro e w2 ⟨rfl, hb⟩
          replace hB := Lib.hid (hB.out.trans (hb.mono hB.out.size))
          clear hb
          go_wp2_with fail
          refine (CL.out _ z4.out _).mono ?_
          rintro e w3 ⟨rfl, hb⟩
          replace hB := Lib.hid (hB.out.trans (hb.mono hB.out.size))
          clear hb
          go_wp2_with fail
          refine (CL.out _ z3.out _).mono ?_
          rintro e w4 ⟨rfl, hb⟩
          replace hB := Lib.hid (hB.out.trans (hb.mono hB.out.size))
          clear hb
          go_wp2_with fail
          refine (CW.out _ z5.out _).mono ?_
          rintro e w5 ⟨rfl, hb⟩
          replace hB := Lib.hid (hB.out.trans (hb.mono hB.out.size))
          clear hb
          go_wp2
          go_roundw
          case rel => exact ⟨m + 1, by omega, by omega, by go_num, hB⟩
          case measure => simp [intOf]; omega
        · have t2 : decide ((m : Int) < 20) = false := by simp; omega
          go_upto_region 18 with fail
          generalize hW : wr.alloc _ = W
          have hg : wr.heap.size < W.heap.size := by rw [← hW]; simp
          have hK : Hid (∀ j L, kwL[j]? = some L → W.cell? ⟨wr.heap.size, j, none⟩ = some (.string L)) := Lib.hid (by
            intro j L hL
            have hT : W.heap[wr.heap.size]? = some (.cells (kwL.map Value.string).toArray 9 (0, 0)) := by rw [← hW]; exact heap_alloc_new wr _
            rw [cell_of_row W _ j _ _ _ hT, List.getElem?_toArray, List.getElem?_map, hL]; rfl)
          have hBW : Hid (Below w.heap.size w W) := Lib.hid (by rw [← hW]; exact hB.out.alloc hB.out.size _)
          generalize wr.heap.size = g at *
          clear hW hB
          go_loopw [7, 8] (fun i _ wr2 => ∃ (j : Nat), j ≤ 20 ∧ i = .int .i64 (j : Int) ∧ Hid (Below W.heap.size W wr2)) (fun i _ _ => 20 - (intOf i).toNat)
          case atStart => exact ⟨0, by omega, rfl, Lib.hid (Below.refl _ W)⟩
          case round =>
            obtain ⟨j, hj, rfl, hB⟩ := hrel
            by_cases hjl : j < 20
            · have t3 : decide ((j : Int) < 20) = true := by simp; omega
              obtain ⟨L, hL⟩ : ∃ L, kwL[j]? = some L := ⟨kwL[j]'hjl, List.getElem?_eq_getElem hjl⟩
              have hL10 := kw_small L (List.mem_of_getElem? hL)
              have hc := hK.out j L hL
              clear hL
              go_wp2_with fail
              go_loopw [8] (fun i wr2 => ∃ (m : Nat), m ≤ L.size + 1 ∧ i = .int .i64 (m : Int) ∧ Hid (Below W.heap.size W wr2)) (fun i _ => L.size + 1 - (intOf i).toNat)
              case atStart => exact ⟨0, by omega, rfl, hB⟩
              case round =>
                clear hB
                obtain ⟨m, hm, rfl, hB⟩ := hrel
                have e1 := (hB.out.cell (p := ⟨g, j, none⟩) hg).trans hc
                by_cases hml : m ≤ L.size
                · have t4 : decide ((m : Int) ≤ (L.size : Int)) = true := by simp; omega
                  obtain ⟨P, z1, s1⟩ := str_to L m hml
                  have q1 : (9223372036854775807 < P.size + 1) = False := eq_false (by omega)
                  have z3 : (P ++ (⟨#[115]⟩ : ByteArray)).size ≤ 100000 := by rw [ap_size]; show P.size + 1 ≤ _; omega
                  have z4 : P.size ≤ 100000 := by omega
                  replace z1 := Lib.hid z1
                  replace z3 := Lib.hid z3
                  replace z4 := Lib.hid z4
                  go_wp2_with fail
                  refine (CW.out _ z4.out _).mono ?_
                  rintro e w2 ⟨rfl, hb⟩
                  replace hB := Lib.hid (hB.out.trans (hb.mono hB.out.size))
                  clear hb e1
                  have e1 := (hB.out.cell (p := ⟨g, j, none⟩) hg).trans hc
                  go_wp2_with fail
                  refine (CW.out _ z3.out _).mono ?_
                  rintro e w3 ⟨rfl, hb⟩
                  replace hB := Lib.hid (hB.out.trans (hb.mono hB.out.size))
                  clear hb
                  go_wp2
                  go_roundw
                  case rel => exact ⟨m + 1, by omega, by go_num, hB⟩
                  case measure => simp [intOf]; omega
                · have t4 : decide ((m : Int) ≤ (L.size : Int)) = false := by simp; omega
                  go_wp2
                  go_roundw
                  case rel => exact ⟨j + 1, by omega, by go_num, hB⟩
                  case measure => simp [intOf]; omega
            · have t3 : decide ((j : Int) < 20) = false := by simp; omega
              have hmk := Lib.hid (make_row wr)
              obtain ⟨q, hR⟩ := hmk.out
              replace hR := Lib.hid hR
              clear hmk
              have hwg := Lib.hid (show w.heap.size ≤ wr.heap.size from Nat.le_trans hBW.out.size hB.out.size)
              have hBm : Hid (Below w.heap.size w (wr.alloc (.cells rowC 5))) := Lib.hid ((hBW.out.trans (hB.out.mono hBW.out.size)).alloc hwg.out _)
              go_upto_region 27 with fail
              generalize wr.alloc (.cells rowC 5) = W1 at *
              generalize wr.heap.size = r at *
              clear q hB hBW hK
              go_loopw [10] (fun i wr2 => ∃ (j : Nat), j ≤ 16385 ∧ i = .int .i64 (j : Int) ∧ Hid (RowB wr2 r) ∧ Hid (Below w.heap.size w wr2)) (fun i _ => 16385 - (intOf i).toNat)
              case atStart => exact ⟨0, by omega, rfl, hR, hBm⟩
              case round =>
                clear hR hBm
                obtain ⟨x, hx, rfl, hR, hBm⟩ := hrel
                by_cases hxl : x < 16385
                · have t4 : decide ((x : Int) < 16385) = true := by simp; omega
                  obtain ⟨b, e1⟩ := hR.out.cell hxl
                  have e2 := hR.out.frozen (x := x)
                  have hR2 := Lib.hid (hR.out.set hxl 32)
                  have hB2 := Lib.hid (hBm.out.setCell (p := ⟨r, x, none⟩) hwg.out (.int .u8 32))
                  go_wp2
                  go_roundw
                  case rel => exact ⟨x + 1, by omega, by go_num, hR2, hB2⟩
                  case measure => simp [intOf]; omega
                · have t4 : decide ((x : Int) < 16385) = false := by simp; omega
                  obtain ⟨b, e1⟩ := hR.out.cell (show 16383 < 16385 by decide)
                  have e2 := hR.out.frozen (x := 16383)
                  have hR2 := Lib.hid (hR.out.set (show 16383 < 16385 by decide) 120)
                  have hB2 := Lib.hid (hBm.out.setCell (p := ⟨r, 16383, none⟩) hwg.out (.int .u8 120))
                  go_upto_region 31 with fail
                  have hR3 : Hid (RowB (wr.setCell ⟨r, 16383, none⟩ (.int .u8 120)) r) := hR2
                  generalize wr.setCell ⟨r, 16383, none⟩ (.int .u8 120) = W2 at *
                  clear hR hR2 hBm e1 e2
                  obtain ⟨P1, z1, q1⟩ := hR3.out.str 0 16385 16385 (by decide)
                  have z1' : P1.size ≤ 100000 := by rw [z1]; decide
                  replace z1 := Lib.hid z1
                  replace z1' := Lib.hid z1'
                  go_wp2_with fail
                  refine (CL.out _ z1'.out _).mono ?_
                  rintro e w2 ⟨rfl, hb⟩
                  replace hB2 := Lib.hid (hB2.out.trans (hb.mono hB2.out.size))
                  replace hR3 := Lib.hid (hR3.out.on hb hR3.out.lt)
                  clear hb q1
                  obtain ⟨P2, z2, q2⟩ := hR3.out.str 0 16384 16385 (by decide)
                  have z2' : P2.size ≤ 100000 := by rw [z2]; decide
                  replace z2 := Lib.hid z2
                  replace z2' := Lib.hid z2'
                  go_wp2_with fail
                  refine (CL.out _ z2'.out _).mono ?_
                  rintro e w3 ⟨rfl, hb⟩
                  replace hB2 := Lib.hid (hB2.out.trans (hb.mono hB2.out.size))
                  replace hR3 := Lib.hid (hR3.out.on hb hR3.out.lt)
                  clear hb q2
                  obtain ⟨P3, z3, q3⟩ := hR3.out.str 1 16384 16384 (by decide)
                  have z3' : P3.size ≤ 100000 := by rw [z3]; decide
                  replace z3 := Lib.hid z3
                  replace z3' := Lib.hid z3'
                  go_wp2_with fail
                  refine (CL.out _ z3'.out _).mono ?_
                  rintro e w4 ⟨rfl, hb⟩
                  replace hB2 := Lib.hid (hB2.out.trans (hb.mono hB2.out.size))
                  clear hb q3
                  go_wp2
                  go_ret
                  exact ⟨rfl, hB2.out⟩
set_option maxRecDepth 100000 in
set_option maxHeartbeats 8000000 in
theorem ends_law (w : World) : Calls Try.prog 6 #[] w fun e w' => e = .returned (.bool true) ∧ Below w.heap.size w w' := by
  have CL := Lib.hid lexesS
  have CW := Lib.hid wordsS
  go_enter Try.func6, Try.ntmps6
  go_wp2_with fail
  go_loopw [2, 3, 4, 5] (fun b _ _ _ wr => ∃ (k : Nat), k ≤ 256 ∧ b = .int .i64 (k : Int) ∧ Hid (Below w.heap.size w wr)) (fun b _ _ _ _ => 256 - (intOf b).toNat)
  case atStart => exact ⟨0, by omega, rfl, Lib.hid (Below.refl _ w)⟩
  case round =>
    obtain ⟨k, hk, rfl, hB⟩ := hrel
    by_cases hlt : k < 256
    · have t1 : decide ((k : Int) < 256) = true := by simp; omega
      obtain ⟨b, hb⟩ : ∃ b : UInt8, k = b.toNat := ⟨UInt8.ofNat k, by
        have : (UInt8.ofNat k).toNat = k % 256 := UInt8.toNat_ofNat'
        rw [this]; omega⟩
      subst hb
      have hb : (b.toNat : Int) % 256 = (b.toNat : Int) := by omega
      have hT := heap_alloc_new wr (.cells #[.int .u8 (b.toNat : Int)] 5)
      have q : (convert 34 9 (.slice (some ⟨wr.heap.size, 0, none⟩) 1 1)).run Try.prog (wr.alloc (.cells #[.int .u8 (b.toNat : Int)] 5)) = .ok (.string ⟨#[b]⟩) (wr.alloc (.cells #[.int .u8 (b.toNat : Int)] 5)) := run_convert_bytes_back (P := Try.prog) (wr.alloc (.cells #[.int .u8 (b.toNat : Int)] 5)) 34 9 5 ⟨wr.heap.size, 0, none⟩ 1 [b] rfl rfl rfl (fun j hj => by
        obtain rfl : j = 0 := by simpa using hj
        exact cell_of_row _ _ 0 _ _ _ hT)
      have hB1 := Lib.hid (hB.out.alloc hB.out.size (.cells #[.int .u8 (b.toNat : Int)] 5))
      clear hT hB
      go_upto_region 6 with fail
      generalize wr.alloc (.cells #[.int .u8 (b.toNat : Int)] 5) = w1 at *
      clear q hb
      obtain ⟨S, hS⟩ : ∃ S : ByteArray, S = ⟨#[b]⟩ := ⟨_, rfl⟩
      have hs1 : S.size = 1 := by rw [hS]; rfl
      rw [← hS]
      clear hS
      have q1 : (9223372036854775807 < 1 + S.size) = False := eq_false (by omega)
      have z1 : ((⟨#[114]⟩ : ByteArray) ++ S).size ≤ 100000 := by rw [ap_size]; show 1 + S.size ≤ _; omega
      have z2 : ((⟨#[97]⟩ : ByteArray) ++ S).size ≤ 100000 := by rw [ap_size]; show 1 + S.size ≤ _; omega
      replace z1 := Lib.hid z1
      replace z2 := Lib.hid z2
      replace hs1 := Lib.hid hs1
      go_wp2_with fail
      refine (CL.out S (by rw [hs1.out]; omega) w1).mono ?_
      rintro e w2 ⟨rfl, hb⟩
      replace hB1 := Lib.hid (hB1.out.trans (hb.mono hB1.out.size))
      clear hb
      go_wp2_with fail
      refine (CW.out S (by rw [hs1.out]; omega) w2).mono ?_
      rintro e w3 ⟨rfl, hb⟩
      replace hB1 := Lib.hid (hB1.out.trans (hb.mono hB1.out.size))
      clear hb
      go_wp2_with fail
      refine (CW.out _ z1.out w3).mono ?_
      rintro e w4 ⟨rfl, hb⟩
      replace hB1 := Lib.hid (hB1.out.trans (hb.mono hB1.out.size))
      clear hb
      go_wp2_with fail
      refine (CW.out _ z2.out w4).mono ?_
      rintro e w5 ⟨rfl, hb⟩
      replace hB1 := Lib.hid (hB1.out.trans (hb.mono hB1.out.size))
      clear hb
      go_wp2
      go_loopw [4, 5] (fun i _ wr2 => ∃ (j : Nat), j ≤ 10 ∧ i = .int .i64 (j : Int) ∧ Hid (Below w.heap.size w wr2)) (fun i _ _ => 10 - (intOf i).toNat)
      case atStart => exact ⟨0, by omega, rfl, hB1⟩
      case round =>
        clear hB1
        obtain ⟨j, hj, rfl, hB2⟩ := hrel
        by_cases hjl : j < 10
        · have t2 : decide ((j : Int) < 10) = true := by simp; omega
          go_wp2
          go_loopw [5] (fun i wr3 => ∃ (m : Nat), m ≤ 10 ∧ i = .int .i64 (m : Int) ∧ Hid (Below w.heap.size w wr3)) (fun i _ => 10 - (intOf i).toNat)
          case atStart => exact ⟨0, by omega, rfl, hB2⟩
          case round =>
            clear hB2
            obtain ⟨m, hm, rfl, hB3⟩ := hrel
            by_cases hml : m < 10
            · have t3 : decide ((m : Int) < 10) = true := by simp; omega
              have hs2 := hs1.out
              obtain ⟨P, e1, sa⟩ := some_one j hjl
              obtain ⟨R, e2, sb⟩ := some_one m hml
              have q2 : (9223372036854775807 < P.size + S.size) = False := eq_false (by omega)
              have z3 : (P ++ S).size = 2 := by rw [ap_size]; omega
              have q3 : (9223372036854775807 < (P ++ S).size + R.size) = False := eq_false (by omega)
              have q4 : (9223372036854775807 < P.size + S.size + R.size) = False := eq_false (by omega)
              have z4 : (P ++ S ++ R).size ≤ 100000 := by rw [ap_size]; omega
              clear hs2
              replace e1 := Lib.hid e1
              replace e2 := Lib.hid e2
              replace z3 := Lib.hid z3
              replace z4 := Lib.hid z4
              go_wp2_with fail
              refine wp_region_below wr.heap.size wr (by kernel_rfl) (by kernel_rfl) (Below.refl _ _) ?_
              repeat (go_big_quiet_step (first
                | (intro _; exact rfl)
                | (intro hW; go_at_call 12; exact Calls.below_of hW (CL.out _ z4.out _))))
              refine wpQuiet_nil ?_
              intro w6 hB6
              replace hB3 := Lib.hid (hB3.out.trans (hB6.mono hB3.out.size))
              clear hB6
              go_wp2
              go_roundw
              case rel => exact ⟨m + 1, by omega, by go_num, hB3⟩
              case measure => simp [intOf]; omega
            · obtain rfl : m = 10 := by omega
              have t3 : decide ((10 : Int) < 10) = false := by simp
              go_wp2
              go_roundw
              case rel => exact ⟨j + 1, by omega, by go_num, hB3⟩
              case measure => simp [intOf]; omega
        · obtain rfl : j = 10 := by omega
          have t2 : decide ((10 : Int) < 10) = false := by simp
          go_wp2
          go_roundw
          case rel => exact ⟨b.toNat + 1, by omega, by go_num, hB2⟩
          case measure => simp [intOf]; omega
    · have t1 : decide ((k : Int) < 256) = false := by simp; omega
      go_wp2_with fail
      go_loopw [7, 8] (fun i _ wr2 => ∃ (n : Nat), n ≤ 20736 ∧ i = .int .i64 (n : Int) ∧ Hid (Below w.heap.size w wr2)) (fun i _ _ => 20736 - (intOf i).toNat)
      case atStart => exact ⟨0, by omega, rfl, hB⟩
      case round =>
        clear hB
        obtain ⟨n, hn, rfl, hB2⟩ := hrel
        by_cases hnl : n < 20736
        · have t2 : decide ((n : Int) < 20736) = true := by simp; omega
          obtain ⟨P1, z1, s1⟩ := sign_one ((n : Int) % 12) (by omega) (by omega)
          obtain ⟨P2, z2, s2⟩ := sign_one ((n : Int) / 12 % 12) (by omega) (by omega)
          obtain ⟨P3, z3, s3⟩ := sign_one ((n : Int) / 144 % 12) (by omega) (by omega)
          obtain ⟨P4, z4, s4⟩ := sign_one ((n : Int) / 1728) (by omega) (by omega)
          have q1 : (9223372036854775807 < P1.size + P2.size) = False := eq_false (by omega)
          have q2 : (9223372036854775807 < (P1 ++ P2).size + P3.size) = False := eq_false (by rw [ap_size]; omega)
          have q3 : (9223372036854775807 < (P1 ++ P2 ++ P3).size + P4.size) = False := eq_false (by rw [ap_size, ap_size]; omega)
          have q4 : (9223372036854775807 < P1.size + P2.size + P3.size) = False := eq_false (by omega)
          have q5 : (9223372036854775807 < P1.size + P2.size + P3.size + P4.size) = False := eq_false (by omega)
          have z5 : (P1 ++ P2 ++ P3 ++ P4).size ≤ 100000 := by rw [ap_size, ap_size, ap_size]; omega
          replace z1 := Lib.hid z1
          replace z2 := Lib.hid z2
          replace z3 := Lib.hid z3
          replace z4 := Lib.hid z4
          replace z5 := Lib.hid z5
          go_wp2_with fail
          go_quiet (fail)
          have hB3 := Lib.hid (below_drewN hB2.out nq)
          clear hB2
          go_wp2_with fail
          refine (CL.out _ z5.out _).mono ?_
          rintro e w2 ⟨rfl, hb⟩
          replace hB3 := Lib.hid (hB3.out.trans (hb.mono hB3.out.size))
          clear hb
          go_wp2
          go_roundw
          case rel => exact ⟨n + 1, by omega, by go_num, hB3⟩
          case measure => simp [intOf]; omega
        · obtain rfl : n = 20736 := by omega
          have t2 : decide ((20736 : Int) < 20736) = false := by simp
          go_wp2_with fail
          refine (sizes_any _).mono ?_
          rintro e w2 ⟨rfl, hb⟩
          replace hB2 := Lib.hid (hB2.out.trans (hb.mono hB2.out.size))
          clear hb
          go_wp2_with fail
          refine (awake_any w2).mono ?_
          rintro e w3 ⟨rfl, hb⟩
          replace hB2 := Lib.hid (hB2.out.trans (hb.mono hB2.out.size))
          clear hb
          go_wp2
          go_ret
          exact ⟨rfl, hB2.out⟩
end Go.Proofs.Ytcahdnghdblanaa
