/- ParMap, ParWays, ParIns6, ParIns7 in one text, for the claim. -/
import Derived.WideMake
import Derived.Test.YtglbmiadgdadfaaPd1

section
/- A map of the parser's ways: how it is made, and how one is chosen. -/
namespace Go.Proofs.Ytglbmiadgdadfaa
open Go.RowKit Go.Shelf

attribute [local go_sem] Oper.semAt_some
namespace PP
/-- What choosing answers. -/
def picked (q : Option (Nat × Value)) (t : TokD) : Ending := match q with
  | some (_, v) => .returned v
  | none => failE t.p 50
theorem map_ins {P : Program} (mty kt et : TypeId) (es : Array MapEntry) (c : Nat) (k : ByteArray) (val : Value) (w : World) (hm : P.underlying mty = some (.map kt et)) (hk : P.underlying kt = some .string) (h : Instr.findNow .string (.string k) es.toList 0 = some none) :
    (Instr.mapUpdate mty (.map (some w.heap.size)) (.string k) val).run P (w.alloc (.map es c)) = .ok () (w.alloc (.map (es.push { key := .string k, val := val, born := c }) (c + 1))) := by
  have hb := heap_alloc_new w (.map es c)
  have hc : (Instr.checkKey false 10000 kt (.string k)).run P (w.alloc (.map es c)) = .ok () (w.alloc (.map es c)) := MapKept.run_checkKey (k := .string k) hk (by simp [MapKept.IsKey]) false 9999
  have hw : ({ w.alloc (.map es c) with heap := (w.alloc (.map es c)).heap.setIfInBounds w.heap.size (.map (es.push { key := .string k, val := val, born := c }) (c + 1)) } : World) = w.alloc (.map (es.push { key := .string k, val := val, born := c }) (c + 1)) := by
    have hp : ∀ a d : Obj, (w.heap.push a).setIfInBounds w.heap.size d = w.heap.push d := fun a d => by
      apply Array.ext'; simp
    show World.mk ((w.heap.push _).setIfInBounds w.heap.size _) _ _ _ _ = _
    rw [hp]
    rfl
  simp [Instr.mapUpdate, run_underlying hm, MapKept.run_getObj_map hb, hc, MapKept.run_findKey hk h, MapKept.run_setObj_map _ hb, Result.andThen]
  exact hw
theorem map_look {P : Program} (mty kt et : TypeId) (r : Nat) (es : Array MapEntry) (c : Nat) (k : ByteArray) (w : World) (q : Option (Nat × Value)) (hm : P.underlying mty = some (.map kt et)) (hk : P.underlying kt = some .string)
    (hb : w.heap[r]? = some (.map es c)) (h : Instr.findNow .string (.string k) es.toList 0 = some q) (hz : (zeroValue et).run P w = .ok .nilFunc w) :
    (Instr.lookup mty (.map (some r)) (.string k) true).run P w = .ok (match q with
      | some (_, v) => .tuple #[v, .bool true]
      | none => .tuple #[.nilFunc, .bool false]) w := by
  have hc : (Instr.checkKey es.isEmpty 10000 kt (.string k)).run P w = .ok () w := MapKept.run_checkKey (k := .string k) hk (by simp [MapKept.IsKey]) es.isEmpty 9999
  rcases q with _ | ⟨i, v⟩
  · simp [Instr.lookup, run_underlying hm, MapKept.run_getObj_map hb, hc, MapKept.run_findKey hk h, hz, Result.andThen]
  · simp [Instr.lookup, run_underlying hm, MapKept.run_getObj_map hb, hc, MapKept.run_findKey hk h, Result.andThen]

set_option maxRecDepth 100000 in
set_option maxHeartbeats 8000000 in
theorem chooseI_any (b : Nat) (s : PX.S) (h : Hd) (w : World) (mb : Nat) (es : Array MapEntry) (c : Nat) (q : Option (Nat × Value)) (p : PS w b s h) (hb : w.heap[mb]? = some (.map es c))
    (hq : Instr.findNow .string (.string (PX.sy (PX.next s))) es.toList 0 = some q) :
    Calls Try.prog 66 #[.pointer (some ⟨b, 0, none⟩), .map (some mb)] w fun e w' => Below w.heap.size w w' ∧ e = picked q (PX.next s) := by
  have hN := Lib.hid (next_any b s h w p)
  have hS := Lib.hid fun W => symbol_any (PX.next s) W p.next_ok
  have hF := Lib.hid fun pl W => fail_any pl 50 W
  obtain ⟨u, hu⟩ : ∃ u, PX.sy (PX.next s) = u := ⟨_, rfl⟩
  rw [hu] at hq hS
  generalize PX.next s = t at *
  have hL := Lib.hid fun (W : World) (hW : Below w.heap.size w W) => map_look 110 9 108 mb es c u W q Try.underlying110 Try.underlying9 ((hW.block mb (lt_of_heap hb)).trans hb) hq (by kernel_rfl)
  rcases q with _ | ⟨i, v⟩
  · go_enter Try.func66, Try.ntmps66
    go_wp2_with (first
      | (go_at_call 21; refine (hN.out).mono ?_; rintro e w1 ⟨rfl, B1⟩; unfold tokV)
      | (go_at_call 33; refine (hS.out _).mono ?_; rintro e w2 ⟨rfl, B2⟩
         have B := (B1.alloc B1.size (.cells #[.int .u8 t.k, .string t.x, .int .i64 t.p] 61)).trans (B2.mono (by have := B1.size; simp; omega))
         have l1 := hL.out _ B
         have hz := heap_alloc_new w1 (.cells #[.int .u8 t.k, .string t.x, .int .i64 t.p] 61)
         have hz2 := (B2.block w1.heap.size (by simp)).trans hz
         have e2 := cell_of_row _ _ 2 _ _ _ hz2
         simp only [List.getElem?_toArray, List.getElem?_cons_zero, List.getElem?_cons_succ] at e2)
      | (go_at_call 28; refine (hF.out _ _).mono ?_; rintro e w4 ⟨rfl, rfl⟩))
    refine ⟨rfl, B, ?_⟩
    show Ending.panicked _ = failE _ _
    symm
    assumption
  · go_enter Try.func66, Try.ntmps66
    go_wp2_with (first
      | (go_at_call 21; refine (hN.out).mono ?_; rintro e w1 ⟨rfl, B1⟩; unfold tokV)
      | (go_at_call 33; refine (hS.out _).mono ?_; rintro e w2 ⟨rfl, B2⟩
         have B := (B1.alloc B1.size (.cells #[.int .u8 t.k, .string t.x, .int .i64 t.p] 61)).trans (B2.mono (by have := B1.size; simp; omega))
         have l1 := hL.out _ B))
    go_ret
    exact ⟨B, rfl⟩

set_option maxRecDepth 100000 in
set_option maxHeartbeats 8000000 in
theorem chooseC_any (b : Nat) (s : PX.S) (h : Hd) (w : World) (mb : Nat) (es : Array MapEntry) (c : Nat) (q : Option (Nat × Value)) (p : PS w b s h) (hb : w.heap[mb]? = some (.map es c))
    (hq : Instr.findNow .string (.string (PX.sy (PX.next s))) es.toList 0 = some q) :
    Calls Try.prog 68 #[.pointer (some ⟨b, 0, none⟩), .map (some mb)] w fun e w' => Below w.heap.size w w' ∧ e = picked q (PX.next s) := by
  have hN := Lib.hid (next_any b s h w p)
  have hS := Lib.hid fun W => symbol_any (PX.next s) W p.next_ok
  have hF := Lib.hid fun pl W => fail_any pl 50 W
  obtain ⟨u, hu⟩ : ∃ u, PX.sy (PX.next s) = u := ⟨_, rfl⟩
  rw [hu] at hq hS
  generalize PX.next s = t at *
  have hL := Lib.hid fun (W : World) (hW : Below w.heap.size w W) => map_look 113 9 55 mb es c u W q Try.underlying113 Try.underlying9 ((hW.block mb (lt_of_heap hb)).trans hb) hq (by kernel_rfl)
  rcases q with _ | ⟨i, v⟩
  · go_enter Try.func68, Try.ntmps68
    go_wp2_with (first
      | (go_at_call 21; refine (hN.out).mono ?_; rintro e w1 ⟨rfl, B1⟩; unfold tokV)
      | (go_at_call 33; refine (hS.out _).mono ?_; rintro e w2 ⟨rfl, B2⟩
         have B := (B1.alloc B1.size (.cells #[.int .u8 t.k, .string t.x, .int .i64 t.p] 61)).trans (B2.mono (by have := B1.size; simp; omega))
         have l1 := hL.out _ B
         have hz := heap_alloc_new w1 (.cells #[.int .u8 t.k, .string t.x, .int .i64 t.p] 61)
         have hz2 := (B2.block w1.heap.size (by simp)).trans hz
         have e2 := cell_of_row _ _ 2 _ _ _ hz2
         simp only [List.getElem?_toArray, List.getElem?_cons_zero, List.getElem?_cons_succ] at e2)
      | (go_at_call 28; refine (hF.out _ _).mono ?_; rintro e w4 ⟨rfl, rfl⟩))
    refine ⟨rfl, B, ?_⟩
    show Ending.panicked _ = failE _ _
    symm
    assumption
  · go_enter Try.func68, Try.ntmps68
    go_wp2_with (first
      | (go_at_call 21; refine (hN.out).mono ?_; rintro e w1 ⟨rfl, B1⟩; unfold tokV)
      | (go_at_call 33; refine (hS.out _).mono ?_; rintro e w2 ⟨rfl, B2⟩
         have B := (B1.alloc B1.size (.cells #[.int .u8 t.k, .string t.x, .int .i64 t.p] 61)).trans (B2.mono (by have := B1.size; simp; omega))
         have l1 := hL.out _ B))
    go_ret
    exact ⟨B, rfl⟩

set_option maxRecDepth 100000 in
set_option maxHeartbeats 8000000 in
theorem chooseL_any (b : Nat) (s : PX.S) (h : Hd) (w : World) (mb : Nat) (es : Array MapEntry) (c : Nat) (q : Option (Nat × Value)) (p : PS w b s h) (hb : w.heap[mb]? = some (.map es c))
    (hq : Instr.findNow .string (.string (PX.sy (PX.next s))) es.toList 0 = some q) :
    Calls Try.prog 24 #[.pointer (some ⟨b, 0, none⟩), .map (some mb)] w fun e w' => Below w.heap.size w w' ∧ e = picked q (PX.next s) := by
  have hN := Lib.hid (next_any b s h w p)
  have hS := Lib.hid fun W => symbol_any (PX.next s) W p.next_ok
  have hF := Lib.hid fun pl W => fail_any pl 50 W
  obtain ⟨u, hu⟩ : ∃ u, PX.sy (PX.next s) = u := ⟨_, rfl⟩
  rw [hu] at hq hS
  generalize PX.next s = t at *
  have hL := Lib.hid fun (W : World) (hW : Below w.heap.size w W) => map_look 75 9 73 mb es c u W q Try.underlying75 Try.underlying9 ((hW.block mb (lt_of_heap hb)).trans hb) hq (by kernel_rfl)
  rcases q with _ | ⟨i, v⟩
  · go_enter Try.func24, Try.ntmps24
    go_wp2_with (first
      | (go_at_call 21; refine (hN.out).mono ?_; rintro e w1 ⟨rfl, B1⟩; unfold tokV)
      | (go_at_call 33; refine (hS.out _).mono ?_; rintro e w2 ⟨rfl, B2⟩
         have B := (B1.alloc B1.size (.cells #[.int .u8 t.k, .string t.x, .int .i64 t.p] 61)).trans (B2.mono (by have := B1.size; simp; omega))
         have l1 := hL.out _ B
         have hz := heap_alloc_new w1 (.cells #[.int .u8 t.k, .string t.x, .int .i64 t.p] 61)
         have hz2 := (B2.block w1.heap.size (by simp)).trans hz
         have e2 := cell_of_row _ _ 2 _ _ _ hz2
         simp only [List.getElem?_toArray, List.getElem?_cons_zero, List.getElem?_cons_succ] at e2)
      | (go_at_call 28; refine (hF.out _ _).mono ?_; rintro e w4 ⟨rfl, rfl⟩))
    refine ⟨rfl, B, ?_⟩
    show Ending.panicked _ = failE _ _
    symm
    assumption
  · go_enter Try.func24, Try.ntmps24
    go_wp2_with (first
      | (go_at_call 21; refine (hN.out).mono ?_; rintro e w1 ⟨rfl, B1⟩; unfold tokV)
      | (go_at_call 33; refine (hS.out _).mono ?_; rintro e w2 ⟨rfl, B2⟩
         have B := (B1.alloc B1.size (.cells #[.int .u8 t.k, .string t.x, .int .i64 t.p] 61)).trans (B2.mono (by have := B1.size; simp; omega))
         have l1 := hL.out _ B))
    go_ret
    exact ⟨B, rfl⟩
end PP
end Go.Proofs.Ytglbmiadgdadfaa
end

section
/- The parser's ways, by the symbol that they begin with. -/
namespace Go.Proofs.Ytglbmiadgdadfaa
open Go.RowKit Go.Shelf

attribute [local go_sem] Oper.semAt_some
namespace PP
/-- A map's entries: a way for each key. -/
def mapE : List (ByteArray × Nat) → Nat → List MapEntry
  | [], _ => []
  | (k, f) :: r, n => { key := .string k, val := .func (.func f) #[] #[], born := n } :: mapE r (n + 1)
def lookE (x : ByteArray) : List (ByteArray × Nat) → Option Nat
  | [] => none
  | (k, f) :: r => if x == k then some f else lookE x r
theorem find_mapE (x : ByteArray) : ∀ (l : List (ByteArray × Nat)) (n i : Nat), ∃ q, Instr.findNow .string (.string x) (mapE l n) i = some q ∧ (∀ t, picked q t = match lookE x l with
    | some f => .returned (.func (.func f) #[] #[])
    | none => failE t.p 50)
  | [], _, _ => ⟨none, rfl, fun _ => rfl⟩
  | (k, f) :: r, n, i => by
    by_cases h : (x == k) = true
    · refine ⟨some (i, .func (.func f) #[] #[]), ?_, fun t => ?_⟩
      · simp only [mapE, Instr.findNow, Instr.sameNow, h]
      · simp only [lookE, h, if_true]; rfl
    · have h' : (x == k) = false := by simpa using h
      obtain ⟨q, h1, h2⟩ := find_mapE x r (n + 1) (i + 1)
      refine ⟨q, ?_, fun t => ?_⟩
      · simp only [mapE, Instr.findNow, Instr.sameNow, h']; exact h1
      · rw [h2]; simp only [lookE, h', Bool.false_eq_true, if_false]
def tabI : List (ByteArray × Nat) := [(⟨#[78, 65, 77, 69]⟩, 75), (⟨#[82, 69, 71]⟩, 76), (⟨#[102, 101, 110, 99, 101]⟩, 77), (⟨#[115, 107, 105, 112]⟩, 78)]
set_option maxRecDepth 100000 in
set_option maxHeartbeats 8000000 in
theorem instructions_any (w : World) : Calls Try.prog 67 #[] w fun e w' => e = .returned (.map (some w.heap.size)) ∧ w' = w.alloc (.map ⟨mapE tabI 0⟩ 4) := by
  have hm := fun w => run_makeMap_plain (P := Try.prog) w 110
  have i0 : ∀ w : World, (Instr.mapUpdate 110 (.map (some w.heap.size)) (.string ⟨#[78, 65, 77, 69]⟩) (.func (.func 75) #[] #[])).run Try.prog (w.alloc (.map #[] 0)) = .ok () (w.alloc (.map ⟨mapE [(⟨#[78, 65, 77, 69]⟩, 75)] 0⟩ 1)) := fun w => map_ins 110 9 _ #[] 0 _ _ w Try.underlying110 Try.underlying9 (by kernel_rfl)
  have i1 : ∀ w : World, (Instr.mapUpdate 110 (.map (some w.heap.size)) (.string ⟨#[82, 69, 71]⟩) (.func (.func 76) #[] #[])).run Try.prog (w.alloc (.map ⟨mapE [(⟨#[78, 65, 77, 69]⟩, 75)] 0⟩ 1)) = .ok () (w.alloc (.map ⟨mapE [(⟨#[78, 65, 77, 69]⟩, 75), (⟨#[82, 69, 71]⟩, 76)] 0⟩ 2)) := fun w => map_ins 110 9 _ ⟨mapE [(⟨#[78, 65, 77, 69]⟩, 75)] 0⟩ 1 _ _ w Try.underlying110 Try.underlying9 (by kernel_rfl)
  have i2 : ∀ w : World, (Instr.mapUpdate 110 (.map (some w.heap.size)) (.string ⟨#[102, 101, 110, 99, 101]⟩) (.func (.func 77) #[] #[])).run Try.prog (w.alloc (.map ⟨mapE [(⟨#[78, 65, 77, 69]⟩, 75), (⟨#[82, 69, 71]⟩, 76)] 0⟩ 2)) = .ok () (w.alloc (.map ⟨mapE [(⟨#[78, 65, 77, 69]⟩, 75), (⟨#[82, 69, 71]⟩, 76), (⟨#[102, 101, 110, 99, 101]⟩, 77)] 0⟩ 3)) := fun w => map_ins 110 9 _ ⟨mapE [(⟨#[78, 65, 77, 69]⟩, 75), (⟨#[82, 69, 71]⟩, 76)] 0⟩ 2 _ _ w Try.underlying110 Try.underlying9 (by kernel_rfl)
  have i3 : ∀ w : World, (Instr.mapUpdate 110 (.map (some w.heap.size)) (.string ⟨#[115, 107, 105, 112]⟩) (.func (.func 78) #[] #[])).run Try.prog (w.alloc (.map ⟨mapE [(⟨#[78, 65, 77, 69]⟩, 75), (⟨#[82, 69, 71]⟩, 76), (⟨#[102, 101, 110, 99, 101]⟩, 77)] 0⟩ 3)) = .ok () (w.alloc (.map ⟨mapE [(⟨#[78, 65, 77, 69]⟩, 75), (⟨#[82, 69, 71]⟩, 76), (⟨#[102, 101, 110, 99, 101]⟩, 77), (⟨#[115, 107, 105, 112]⟩, 78)] 0⟩ 4)) := fun w => map_ins 110 9 _ ⟨mapE [(⟨#[78, 65, 77, 69]⟩, 75), (⟨#[82, 69, 71]⟩, 76), (⟨#[102, 101, 110, 99, 101]⟩, 77)] 0⟩ 3 _ _ w Try.underlying110 Try.underlying9 (by kernel_rfl)
  go_enter Try.func67, Try.ntmps67
  go_wp2
  go_ret
  exact ⟨rfl, rfl⟩
def tabS : List (ByteArray × Nat) := [(⟨#[78, 65, 77, 69]⟩, 88), (⟨#[82, 69, 71]⟩, 89), (⟨#[78, 85, 77]⟩, 89), (⟨#[115, 119, 97, 112]⟩, 90), (⟨#[102, 101, 116, 99, 104]⟩, 91), (⟨#[99, 97, 115]⟩, 92)]
set_option maxRecDepth 100000 in
set_option maxHeartbeats 8000000 in
theorem sources_any (w : World) : Calls Try.prog 86 #[] w fun e w' => e = .returned (.map (some w.heap.size)) ∧ w' = w.alloc (.map ⟨mapE tabS 0⟩ 6) := by
  have hm := fun w => run_makeMap_plain (P := Try.prog) w 110
  have i0 : ∀ w : World, (Instr.mapUpdate 110 (.map (some w.heap.size)) (.string ⟨#[78, 65, 77, 69]⟩) (.func (.func 88) #[] #[])).run Try.prog (w.alloc (.map #[] 0)) = .ok () (w.alloc (.map ⟨mapE [(⟨#[78, 65, 77, 69]⟩, 88)] 0⟩ 1)) := fun w => map_ins 110 9 _ #[] 0 _ _ w Try.underlying110 Try.underlying9 (by kernel_rfl)
  have i1 : ∀ w : World, (Instr.mapUpdate 110 (.map (some w.heap.size)) (.string ⟨#[82, 69, 71]⟩) (.func (.func 89) #[] #[])).run Try.prog (w.alloc (.map ⟨mapE [(⟨#[78, 65, 77, 69]⟩, 88)] 0⟩ 1)) = .ok () (w.alloc (.map ⟨mapE [(⟨#[78, 65, 77, 69]⟩, 88), (⟨#[82, 69, 71]⟩, 89)] 0⟩ 2)) := fun w => map_ins 110 9 _ ⟨mapE [(⟨#[78, 65, 77, 69]⟩, 88)] 0⟩ 1 _ _ w Try.underlying110 Try.underlying9 (by kernel_rfl)
  have i2 : ∀ w : World, (Instr.mapUpdate 110 (.map (some w.heap.size)) (.string ⟨#[78, 85, 77]⟩) (.func (.func 89) #[] #[])).run Try.prog (w.alloc (.map ⟨mapE [(⟨#[78, 65, 77, 69]⟩, 88), (⟨#[82, 69, 71]⟩, 89)] 0⟩ 2)) = .ok () (w.alloc (.map ⟨mapE [(⟨#[78, 65, 77, 69]⟩, 88), (⟨#[82, 69, 71]⟩, 89), (⟨#[78, 85, 77]⟩, 89)] 0⟩ 3)) := fun w => map_ins 110 9 _ ⟨mapE [(⟨#[78, 65, 77, 69]⟩, 88), (⟨#[82, 69, 71]⟩, 89)] 0⟩ 2 _ _ w Try.underlying110 Try.underlying9 (by kernel_rfl)
  have i3 : ∀ w : World, (Instr.mapUpdate 110 (.map (some w.heap.size)) (.string ⟨#[115, 119, 97, 112]⟩) (.func (.func 90) #[] #[])).run Try.prog (w.alloc (.map ⟨mapE [(⟨#[78, 65, 77, 69]⟩, 88), (⟨#[82, 69, 71]⟩, 89), (⟨#[78, 85, 77]⟩, 89)] 0⟩ 3)) = .ok () (w.alloc (.map ⟨mapE [(⟨#[78, 65, 77, 69]⟩, 88), (⟨#[82, 69, 71]⟩, 89), (⟨#[78, 85, 77]⟩, 89), (⟨#[115, 119, 97, 112]⟩, 90)] 0⟩ 4)) := fun w => map_ins 110 9 _ ⟨mapE [(⟨#[78, 65, 77, 69]⟩, 88), (⟨#[82, 69, 71]⟩, 89), (⟨#[78, 85, 77]⟩, 89)] 0⟩ 3 _ _ w Try.underlying110 Try.underlying9 (by kernel_rfl)
  have i4 : ∀ w : World, (Instr.mapUpdate 110 (.map (some w.heap.size)) (.string ⟨#[102, 101, 116, 99, 104]⟩) (.func (.func 91) #[] #[])).run Try.prog (w.alloc (.map ⟨mapE [(⟨#[78, 65, 77, 69]⟩, 88), (⟨#[82, 69, 71]⟩, 89), (⟨#[78, 85, 77]⟩, 89), (⟨#[115, 119, 97, 112]⟩, 90)] 0⟩ 4)) = .ok () (w.alloc (.map ⟨mapE [(⟨#[78, 65, 77, 69]⟩, 88), (⟨#[82, 69, 71]⟩, 89), (⟨#[78, 85, 77]⟩, 89), (⟨#[115, 119, 97, 112]⟩, 90), (⟨#[102, 101, 116, 99, 104]⟩, 91)] 0⟩ 5)) := fun w => map_ins 110 9 _ ⟨mapE [(⟨#[78, 65, 77, 69]⟩, 88), (⟨#[82, 69, 71]⟩, 89), (⟨#[78, 85, 77]⟩, 89), (⟨#[115, 119, 97, 112]⟩, 90)] 0⟩ 4 _ _ w Try.underlying110 Try.underlying9 (by kernel_rfl)
  have i5 : ∀ w : World, (Instr.mapUpdate 110 (.map (some w.heap.size)) (.string ⟨#[99, 97, 115]⟩) (.func (.func 92) #[] #[])).run Try.prog (w.alloc (.map ⟨mapE [(⟨#[78, 65, 77, 69]⟩, 88), (⟨#[82, 69, 71]⟩, 89), (⟨#[78, 85, 77]⟩, 89), (⟨#[115, 119, 97, 112]⟩, 90), (⟨#[102, 101, 116, 99, 104]⟩, 91)] 0⟩ 5)) = .ok () (w.alloc (.map ⟨mapE [(⟨#[78, 65, 77, 69]⟩, 88), (⟨#[82, 69, 71]⟩, 89), (⟨#[78, 85, 77]⟩, 89), (⟨#[115, 119, 97, 112]⟩, 90), (⟨#[102, 101, 116, 99, 104]⟩, 91), (⟨#[99, 97, 115]⟩, 92)] 0⟩ 6)) := fun w => map_ins 110 9 _ ⟨mapE [(⟨#[78, 65, 77, 69]⟩, 88), (⟨#[82, 69, 71]⟩, 89), (⟨#[78, 85, 77]⟩, 89), (⟨#[115, 119, 97, 112]⟩, 90), (⟨#[102, 101, 116, 99, 104]⟩, 91)] 0⟩ 5 _ _ w Try.underlying110 Try.underlying9 (by kernel_rfl)
  go_enter Try.func86, Try.ntmps86
  go_wp2
  go_ret
  exact ⟨rfl, rfl⟩
def tabF : List (ByteArray × Nat) := [(⟨#[33]⟩, 79), (⟨#[40]⟩, 80), (⟨#[78, 85, 77]⟩, 81), (⟨#[78, 65, 77, 69]⟩, 82), (⟨#[116, 114, 117, 101]⟩, 83)]
set_option maxRecDepth 100000 in
set_option maxHeartbeats 8000000 in
theorem factors_any (w : World) : Calls Try.prog 69 #[] w fun e w' => e = .returned (.map (some w.heap.size)) ∧ w' = w.alloc (.map ⟨mapE tabF 0⟩ 5) := by
  have hm := fun w => run_makeMap_plain (P := Try.prog) w 113
  have i0 : ∀ w : World, (Instr.mapUpdate 113 (.map (some w.heap.size)) (.string ⟨#[33]⟩) (.func (.func 79) #[] #[])).run Try.prog (w.alloc (.map #[] 0)) = .ok () (w.alloc (.map ⟨mapE [(⟨#[33]⟩, 79)] 0⟩ 1)) := fun w => map_ins 113 9 _ #[] 0 _ _ w Try.underlying113 Try.underlying9 (by kernel_rfl)
  have i1 : ∀ w : World, (Instr.mapUpdate 113 (.map (some w.heap.size)) (.string ⟨#[40]⟩) (.func (.func 80) #[] #[])).run Try.prog (w.alloc (.map ⟨mapE [(⟨#[33]⟩, 79)] 0⟩ 1)) = .ok () (w.alloc (.map ⟨mapE [(⟨#[33]⟩, 79), (⟨#[40]⟩, 80)] 0⟩ 2)) := fun w => map_ins 113 9 _ ⟨mapE [(⟨#[33]⟩, 79)] 0⟩ 1 _ _ w Try.underlying113 Try.underlying9 (by kernel_rfl)
  have i2 : ∀ w : World, (Instr.mapUpdate 113 (.map (some w.heap.size)) (.string ⟨#[78, 85, 77]⟩) (.func (.func 81) #[] #[])).run Try.prog (w.alloc (.map ⟨mapE [(⟨#[33]⟩, 79), (⟨#[40]⟩, 80)] 0⟩ 2)) = .ok () (w.alloc (.map ⟨mapE [(⟨#[33]⟩, 79), (⟨#[40]⟩, 80), (⟨#[78, 85, 77]⟩, 81)] 0⟩ 3)) := fun w => map_ins 113 9 _ ⟨mapE [(⟨#[33]⟩, 79), (⟨#[40]⟩, 80)] 0⟩ 2 _ _ w Try.underlying113 Try.underlying9 (by kernel_rfl)
  have i3 : ∀ w : World, (Instr.mapUpdate 113 (.map (some w.heap.size)) (.string ⟨#[78, 65, 77, 69]⟩) (.func (.func 82) #[] #[])).run Try.prog (w.alloc (.map ⟨mapE [(⟨#[33]⟩, 79), (⟨#[40]⟩, 80), (⟨#[78, 85, 77]⟩, 81)] 0⟩ 3)) = .ok () (w.alloc (.map ⟨mapE [(⟨#[33]⟩, 79), (⟨#[40]⟩, 80), (⟨#[78, 85, 77]⟩, 81), (⟨#[78, 65, 77, 69]⟩, 82)] 0⟩ 4)) := fun w => map_ins 113 9 _ ⟨mapE [(⟨#[33]⟩, 79), (⟨#[40]⟩, 80), (⟨#[78, 85, 77]⟩, 81)] 0⟩ 3 _ _ w Try.underlying113 Try.underlying9 (by kernel_rfl)
  have i4 : ∀ w : World, (Instr.mapUpdate 113 (.map (some w.heap.size)) (.string ⟨#[116, 114, 117, 101]⟩) (.func (.func 83) #[] #[])).run Try.prog (w.alloc (.map ⟨mapE [(⟨#[33]⟩, 79), (⟨#[40]⟩, 80), (⟨#[78, 85, 77]⟩, 81), (⟨#[78, 65, 77, 69]⟩, 82)] 0⟩ 4)) = .ok () (w.alloc (.map ⟨mapE [(⟨#[33]⟩, 79), (⟨#[40]⟩, 80), (⟨#[78, 85, 77]⟩, 81), (⟨#[78, 65, 77, 69]⟩, 82), (⟨#[116, 114, 117, 101]⟩, 83)] 0⟩ 5)) := fun w => map_ins 113 9 _ ⟨mapE [(⟨#[33]⟩, 79), (⟨#[40]⟩, 80), (⟨#[78, 85, 77]⟩, 81), (⟨#[78, 65, 77, 69]⟩, 82)] 0⟩ 4 _ _ w Try.underlying113 Try.underlying9 (by kernel_rfl)
  go_enter Try.func69, Try.ntmps69
  go_wp2
  go_ret
  exact ⟨rfl, rfl⟩
end PP
end Go.Proofs.Ytglbmiadgdadfaa
end

section
/- The parser's instructions: an assignment. -/
namespace Go.Proofs.Ytglbmiadgdadfaa
open Go.RowKit Go.Shelf

attribute [local go_sem] Oper.semAt_some
namespace PP
theorem enters {f : Nat} {fn : Func} {c : Code} (hf : Try.prog.funcs[f]? = some fn) (hname : (fn.name == "runtime.NumGoroutine") = false) (hb : fn.body = some c) (args : Array Value) (w : World) : (callFunc f args).run Try.prog w = .ok (.enter f args) w := by
  have h1 : fn.name ≠ "runtime.NumGoroutine" := by simpa using hname
  simp [callFunc, hf, h1, hb]
/-- Every way of a table is a function with a body. -/
def AllIn (l : List (ByteArray × Nat)) : Prop := ∀ p ∈ l, ∀ args w, (callFunc p.2 args).run Try.prog w = .ok (.enter p.2 args) w
theorem lookE_all {l : List (ByteArray × Nat)} (hl : AllIn l) {x : ByteArray} {f : Nat} (h : lookE x l = some f) : ∀ args w, (callFunc f args).run Try.prog w = .ok (.enter f args) w := by
  induction l with
  | nil => cases h
  | cons p r ih =>
    obtain ⟨k, g⟩ := p
    simp only [lookE] at h
    split at h
    · have e : g = f := Option.some.inj h
      rw [← e]
      exact hl (k, g) List.mem_cons_self
    · exact ih (fun p hp => hl p (List.mem_cons_of_mem _ hp)) h
theorem ents : AllIn tabS := by
  intro p hp
  unfold tabS at hp
  simp only [List.mem_cons, List.not_mem_nil, or_false] at hp
  rcases hp with rfl | rfl | rfl | rfl | rfl | rfl
  · exact enters Try.func88 (by kernel_rfl) rfl
  · exact enters Try.func89 (by kernel_rfl) rfl
  · exact enters Try.func89 (by kernel_rfl) rfl
  · exact enters Try.func90 (by kernel_rfl) rfl
  · exact enters Try.func91 (by kernel_rfl) rfl
  · exact enters Try.func92 (by kernel_rfl) rfl
theorem source_some {b : Nat} {s : PX.S} {h : Hd} {W : World} (L : LS W b s h) {f : Nat} (hf : lookE (PX.sy (PX.next s)) tabS = some f) : Calls Try.prog f #[.pointer (some ⟨b, 0, none⟩)] W (Ends1 W b h insV (PX.source s)) := by
  change lookE (PX.sy (PX.next s)) [(PX.sNAME, 88), (PX.sREG, 89), (PX.sNUM, 89), (PX.kSwap, 90), (PX.kFetch, 91), (PX.kCas, 92)] = some f at hf
  simp only [lookE] at hf
  unfold PX.source
  show Calls _ _ _ _ (Ends1 W b h insV (if PX.sy (PX.next s) == PX.sNAME then PX.load s else if PX.sy (PX.next s) == PX.sREG then PX.move s else if PX.sy (PX.next s) == PX.sNUM then PX.move s else if PX.sy (PX.next s) == PX.kSwap then PX.swap s else if PX.sy (PX.next s) == PX.kFetch then PX.fetch s else if PX.sy (PX.next s) == PX.kCas then PX.cas s else PX.wrong s))
  generalize PX.sy (PX.next s) = y at *
  by_cases h1 : (y == PX.sNAME) = true
  · rw [if_pos h1]; rw [if_pos h1] at hf; cases hf; exact load_any b s h W L
  rw [if_neg h1]; rw [if_neg h1] at hf
  by_cases h2 : (y == PX.sREG) = true
  · rw [if_pos h2]; rw [if_pos h2] at hf; cases hf; exact move_any b s h W L
  rw [if_neg h2]; rw [if_neg h2] at hf
  by_cases h3 : (y == PX.sNUM) = true
  · rw [if_pos h3]; rw [if_pos h3] at hf; cases hf; exact move_any b s h W L
  rw [if_neg h3]; rw [if_neg h3] at hf
  by_cases h4 : (y == PX.kSwap) = true
  · rw [if_pos h4]; rw [if_pos h4] at hf; cases hf; exact swap_any b s h W L
  rw [if_neg h4]; rw [if_neg h4] at hf
  by_cases h5 : (y == PX.kFetch) = true
  · rw [if_pos h5]; rw [if_pos h5] at hf; cases hf; exact fetch_any b s h W L
  rw [if_neg h5]; rw [if_neg h5] at hf
  by_cases h6 : (y == PX.kCas) = true
  · rw [if_pos h6]; rw [if_pos h6] at hf; cases hf; exact cas_any b s h W L
  rw [if_neg h6] at hf; cases hf
theorem source_none {s : PX.S} (hf : lookE (PX.sy (PX.next s)) tabS = none) : PX.source s = .bad (PX.next s).p 50 := by
  change lookE (PX.sy (PX.next s)) [(PX.sNAME, 88), (PX.sREG, 89), (PX.sNUM, 89), (PX.kSwap, 90), (PX.kFetch, 91), (PX.kCas, 92)] = none at hf
  simp only [lookE] at hf
  unfold PX.source
  show (if PX.sy (PX.next s) == PX.sNAME then PX.load s else if PX.sy (PX.next s) == PX.sREG then PX.move s else if PX.sy (PX.next s) == PX.sNUM then PX.move s else if PX.sy (PX.next s) == PX.kSwap then PX.swap s else if PX.sy (PX.next s) == PX.kFetch then PX.fetch s else if PX.sy (PX.next s) == PX.kCas then PX.cas s else PX.wrong s) = _
  generalize PX.sy (PX.next s) = y at *
  by_cases h1 : (y == PX.sNAME) = true
  · rw [if_pos h1] at hf; cases hf
  rw [if_neg h1]; rw [if_neg h1] at hf
  by_cases h2 : (y == PX.sREG) = true
  · rw [if_pos h2] at hf; cases hf
  rw [if_neg h2]; rw [if_neg h2] at hf
  by_cases h3 : (y == PX.sNUM) = true
  · rw [if_pos h3] at hf; cases hf
  rw [if_neg h3]; rw [if_neg h3] at hf
  by_cases h4 : (y == PX.kSwap) = true
  · rw [if_pos h4] at hf; cases hf
  rw [if_neg h4]; rw [if_neg h4] at hf
  by_cases h5 : (y == PX.kFetch) = true
  · rw [if_pos h5] at hf; cases hf
  rw [if_neg h5]; rw [if_neg h5] at hf
  by_cases h6 : (y == PX.kCas) = true
  · rw [if_pos h6] at hf; cases hf
  rw [if_neg h6]; rfl
/-- What choosing among the table's ways answers. -/
theorem choseI {b : Nat} {s : PX.S} {h : Hd} {W : World} (l : List (ByteArray × Nat)) (n : Nat) (p : PS W b s h) (mb : Nat) (hb : W.heap[mb]? = some (.map ⟨mapE l 0⟩ n)) :
    Calls Try.prog 66 #[.pointer (some ⟨b, 0, none⟩), .map (some mb)] W fun e w' => Below W.heap.size W w' ∧ e = match lookE (PX.sy (PX.next s)) l with
      | some f => .returned (.func (.func f) #[] #[])
      | none => failE (PX.next s).p 50 := by
  obtain ⟨q, h1, h2⟩ := find_mapE (PX.sy (PX.next s)) l 0 0
  refine (chooseI_any b s h W mb _ n q p hb h1).mono ?_
  rintro e w' ⟨B, rfl⟩
  exact ⟨B, h2 _⟩

set_option maxRecDepth 100000 in
set_option maxHeartbeats 16000000 in
theorem assignment_any (b : Nat) (s : PX.S) (h : Hd) (w : World) (L : LS w b s h) :
    Calls Try.prog 76 #[.pointer (some ⟨b, 0, none⟩)] w (Ends1 w b h insV (PX.assignment s)) := by
  have hbl := L.ps.lt
  have hgl := L.ps.g_lt
  have U0 := (Tr.start L).alloc (.cells #[.int .u8 0, .int .u8 0, .int .u8 0, .bool false, .int .u8 0, .bool false, .int .u8 0, .int .u8 0, .int .u8 0, .int .u8 0] 46)
  have z0 := newIns w
  have C1 := Lib.hid (reg_any b s h _ U0.ls.ps)
  have C2 := Lib.hid fun s W (p : PS (W.alloc (.cells #[.string ⟨#[61]⟩] 9)) b s h) => take_any b s h _ [PX.gEq] _ p (strSl_one W _) (symsOk_bs (by decide))
  have C3 := Lib.hid fun W => sources_any W
  have C4 := Lib.hid fun s W (p : PS (W.alloc (.map ⟨mapE tabS 0⟩ 6)) b s h) => choseI tabS 6 p W.heap.size (heap_alloc_new W _)
  have e0 : PX.assignment s = (PX.reg s).bind fun d s => (PX.take [PX.gEq] s).bind fun _ s => (PX.source s).bind fun x s => .ok { x with dst := d } s := rfl
  replace e0 := Lib.hid e0
  replace U0 := Lib.hid U0
  replace z0 := Lib.hid z0
  rcases r1 : PX.reg s with ⟨d, s1⟩ | ⟨pl, er⟩
  · rw [r1] at C1
    have M1 := mv_reg r1
    have e1 : PX.assignment s = (PX.take [PX.gEq] s1).bind fun _ s => (PX.source s).bind fun x s => .ok { x with dst := d } s := by rw [e0.out, r1]; rfl
    rcases r2 : PX.take [PX.gEq] s1 with ⟨t, s2⟩ | ⟨pl, er⟩
    · have M2 := mv_take r2
      have c2 := fun W p => C2.out s1 W p
      rw [r2] at c2
      replace c2 := Lib.hid c2
      have e2 : PX.assignment s = (PX.source s2).bind fun x s => .ok { x with dst := d } s := by rw [e1, r2]; rfl
      have c4 := fun W p => C4.out s2 W p
      rcases rl : lookE (PX.sy (PX.next s2)) tabS with _ | f
      · have e3 : PX.assignment s = .bad (PX.next s2).p 50 := by rw [e2, source_none rl]; rfl
        rw [rl] at c4
        replace c4 := Lib.hid c4
        rw [e3]
        clear e0 e1 e2 e3 r1 r2 C2 C4
        go_enter Try.func76, Try.ntmps76
        go_wp2_with (first
          | (go_at_call 85; refine (C1.out).mono ?_; rintro e w1 ⟨F1, rfl, P1⟩
             have U1 := (U0.out.step0 F1 M1 P1).alloc (.cells #[.string ⟨#[61]⟩] 9))
          | (go_at_call 41; refine (c2.out _ U1.ls.ps).mono ?_; rintro e w2 ⟨F2, rfl, P2⟩; unfold tokV
             have U2 := (U1.step0 F2 M2 P2).alloc (.map ⟨mapE tabS 0⟩ 6))
          | (go_at_call 86; refine (C3.out _).mono ?_; rintro e w3 ⟨rfl, rfl⟩)
          | (go_at_call 66; refine (c4.out _ U2.ls.ps).mono ?_; rintro e w4 ⟨B4, rfl⟩))
        refine ⟨rfl, U2.fr.trans (.of_below B4), ?_⟩
        show Ending.panicked _ = failE _ _
        symm
        assumption
      · rw [rl] at c4
        replace c4 := Lib.hid c4
        have hsrc := Lib.hid fun h' W (L' : LS W b s2 h') => source_some L' rl
        have hent : ∀ args W, (callFunc f args).run Try.prog W = .ok (.enter f args) W := lookE_all ents rl
        replace e2 := Lib.hid e2
        clear e0 e1 r1 r2 C2 C4
        go_enter Try.func76, Try.ntmps76
        go_wp2_with (first
          | (go_at_call 85; refine (C1.out).mono ?_; rintro e w1 ⟨F1, rfl, P1⟩
             have U1 := (U0.out.step0 F1 M1 P1).alloc (.cells #[.string ⟨#[61]⟩] 9)
             have z1 := row_alloc (F1.box z0.out (by omega) (by simp)) (.cells #[.string ⟨#[61]⟩] 9))
          | (go_at_call 41; refine (c2.out _ U1.ls.ps).mono ?_; rintro e w2 ⟨F2, rfl, P2⟩; unfold tokV
             have U2 := (U1.step0 F2 M2 P2).alloc (.map ⟨mapE tabS 0⟩ 6)
             have z2 := row_alloc (F2.box z1 (by omega) (by simp)) (.map ⟨mapE tabS 0⟩ 6))
          | (go_at_call 86; refine (C3.out _).mono ?_; rintro e w3 ⟨rfl, rfl⟩)
          | (go_at_call 66; refine (c4.out _ U2.ls.ps).mono ?_; rintro e w4 ⟨B4, rfl⟩
             have U4 := U2.below B4
             have z4 := (B4.block _ (lt_of_heap z2)).trans z2))
        refine call1 (hsrc.out _ _ U4.ls) (fun x s5 w5 vl vi hx5 F5 L5 => ?_) (fun pl er w5 hx F => ⟨rfl, Ends1.bad (U4.fr.trans F) (by rw [e2.out, hx]; rfl)⟩)
        dsimp only [insV]
        have hs5 : w.heap.size < w5.heap.size := lt_of_heap (F5.box z4 (by omega) insT1)
        have U5 := U4.step1 F5 L5
        have z5 := F5.box z4 (by omega) insT1
        obtain ⟨v0, v1, v2, v3, v4, v5, v6, v7, v8, v9⟩ := row_ins z5
        have fv := fun j => frozen_of_row _ _ j _ _ z5
        have V5 := Lib.hid z5
        replace U5 := Lib.hid U5
        go_wp2
        refine bodyPost_ret (v := insV { x with dst := d }) (ins_results rfl _ _ w.heap.size { x with dst := d } rfl (row_alloc (setIns_row { x with dst := d } V5.out) (.cells (insC { x with dst := d }) 46))) rfl (Tr.ok ((U5.out.setIns' (Nat.le_refl _) hbl hgl { x with dst := d } V5.out).alloc (.cells (insC { x with dst := d }) 46)) ?_)
        rw [e2.out, hx5]
        rfl
    · have e2 : PX.assignment s = .bad pl er := by rw [e1, r2]; rfl
      have c2 := fun W p => C2.out s1 W p
      rw [r2] at c2
      replace c2 := Lib.hid c2
      rw [e2]
      clear e0 e1 e2 r1 r2 C2 C4
      go_enter Try.func76, Try.ntmps76
      go_wp2_with (first
        | (go_at_call 85; refine (C1.out).mono ?_; rintro e w1 ⟨F1, rfl, P1⟩
           have U1 := (U0.out.step0 F1 M1 P1).alloc (.cells #[.string ⟨#[61]⟩] 9))
        | (go_at_call 41; refine (c2.out _ U1.ls.ps).mono ?_; rintro e w2 ⟨F2, rfl⟩))
      refine ⟨rfl, U1.fr.trans F2.up, ?_⟩
      show Ending.panicked _ = failE _ _
      symm
      assumption
  · have e1 : PX.assignment s = .bad pl er := by rw [e0.out, r1]; rfl
    rw [r1] at C1
    rw [e1]
    clear e0 e1 r1
    go_enter Try.func76, Try.ntmps76
    go_wp2_with (first
      | (go_at_call 85; refine (C1.out).mono ?_; rintro e w1 ⟨F, rfl⟩))
    refine ⟨rfl, U0.out.fr.trans F.up, ?_⟩
    show Ending.panicked _ = failE _ _
    symm
    assumption
end PP
end Go.Proofs.Ytglbmiadgdadfaa
end

section
/- The parser's instructions, all of them. -/
namespace Go.Proofs.Ytglbmiadgdadfaa
open Go.RowKit Go.Shelf

attribute [local go_sem] Oper.semAt_some
namespace PP
theorem mv_takeLast {s s' : PX.S} {u : Unit} (h : PX.takeLast s = .ok u s') : Mv s s' := by
  unfold PX.takeLast at h
  rcases ht : PX.take [PX.sEND] s with ⟨t, s1⟩ | ⟨pl, er⟩
  · rw [ht] at h
    simp only [PX.R.bind] at h
    split at h
    · cases h; exact mv_take ht
    · cases h
  · rw [ht] at h; cases h
theorem ins_some {b : Nat} {s : PX.S} {h : Hd} {W : World} (L : LS W b s h) {f : Nat} (hf : lookE (PX.sy (PX.next s)) tabI = some f) : Calls Try.prog f #[.pointer (some ⟨b, 0, none⟩)] W (Ends1 W b h insV (PX.ins s)) := by
  change lookE (PX.sy (PX.next s)) [(PX.sNAME, 75), (PX.sREG, 76), (PX.kFence, 77), (PX.kSkip, 78)] = some f at hf
  simp only [lookE] at hf
  unfold PX.ins
  show Calls _ _ _ _ (Ends1 W b h insV (if PX.sy (PX.next s) == PX.sNAME then PX.store s else if PX.sy (PX.next s) == PX.sREG then PX.assignment s else if PX.sy (PX.next s) == PX.kFence then PX.fence s else if PX.sy (PX.next s) == PX.kSkip then PX.skip s else PX.wrong s))
  generalize PX.sy (PX.next s) = y at *
  by_cases h1 : (y == PX.sNAME) = true
  · rw [if_pos h1]; rw [if_pos h1] at hf; cases hf; exact store_any b s h W L
  rw [if_neg h1]; rw [if_neg h1] at hf
  by_cases h2 : (y == PX.sREG) = true
  · rw [if_pos h2]; rw [if_pos h2] at hf; cases hf; exact assignment_any b s h W L
  rw [if_neg h2]; rw [if_neg h2] at hf
  by_cases h3 : (y == PX.kFence) = true
  · rw [if_pos h3]; rw [if_pos h3] at hf; cases hf; exact fence_any b s h W L
  rw [if_neg h3]; rw [if_neg h3] at hf
  by_cases h4 : (y == PX.kSkip) = true
  · rw [if_pos h4]; rw [if_pos h4] at hf; cases hf; exact skip_any b s h W L
  rw [if_neg h4] at hf; cases hf
theorem ins_none {s : PX.S} (hf : lookE (PX.sy (PX.next s)) tabI = none) : PX.ins s = .bad (PX.next s).p 50 := by
  change lookE (PX.sy (PX.next s)) [(PX.sNAME, 75), (PX.sREG, 76), (PX.kFence, 77), (PX.kSkip, 78)] = none at hf
  simp only [lookE] at hf
  unfold PX.ins
  show (if PX.sy (PX.next s) == PX.sNAME then PX.store s else if PX.sy (PX.next s) == PX.sREG then PX.assignment s else if PX.sy (PX.next s) == PX.kFence then PX.fence s else if PX.sy (PX.next s) == PX.kSkip then PX.skip s else PX.wrong s) = _
  generalize PX.sy (PX.next s) = y at *
  by_cases h1 : (y == PX.sNAME) = true
  · rw [if_pos h1] at hf; cases hf
  rw [if_neg h1]; rw [if_neg h1] at hf
  by_cases h2 : (y == PX.sREG) = true
  · rw [if_pos h2] at hf; cases hf
  rw [if_neg h2]; rw [if_neg h2] at hf
  by_cases h3 : (y == PX.kFence) = true
  · rw [if_pos h3] at hf; cases hf
  rw [if_neg h3]; rw [if_neg h3] at hf
  by_cases h4 : (y == PX.kSkip) = true
  · rw [if_pos h4] at hf; cases hf
  rw [if_neg h4]; rfl
theorem ents_ins : AllIn tabI := by
  intro p hp
  unfold tabI at hp
  simp only [List.mem_cons, List.not_mem_nil, or_false] at hp
  rcases hp with rfl | rfl | rfl | rfl
  · exact enters Try.func75 (by kernel_rfl) rfl
  · exact enters Try.func76 (by kernel_rfl) rfl
  · exact enters Try.func77 (by kernel_rfl) rfl
  · exact enters Try.func78 (by kernel_rfl) rfl

set_option maxRecDepth 100000 in
set_option maxHeartbeats 16000000 in
theorem ins_any (b : Nat) (s : PX.S) (h : Hd) (w : World) (L : LS w b s h) :
    Calls Try.prog 49 #[.pointer (some ⟨b, 0, none⟩)] w (Ends1 w b h insV (PX.ins s)) := by
  have hbl := L.ps.lt
  have hgl := L.ps.g_lt
  have U0 := ((Tr.start L).alloc (.cells #[.int .u8 0, .int .u8 0, .int .u8 0, .bool false, .int .u8 0, .bool false, .int .u8 0, .int .u8 0, .int .u8 0, .int .u8 0] 46)).alloc (.map ⟨mapE tabI 0⟩ 4)
  have z0 := row_alloc (newIns w) (.map ⟨mapE tabI 0⟩ 4)
  have C3 := Lib.hid fun W => instructions_any W
  have C4 := choseI tabI 4 U0.ls.ps _ (heap_alloc_new _ _)
  simp only [World.size_alloc] at C4
  have hb0 := hbl
  replace U0 := Lib.hid U0
  replace z0 := Lib.hid z0
  rcases rl : lookE (PX.sy (PX.next s)) tabI with _ | f
  · rw [ins_none rl]
    rw [rl] at C4
    replace C4 := Lib.hid C4
    go_enter Try.func49, Try.ntmps49
    go_wp2_with (first
      | (go_at_call 67; refine (C3.out _).mono ?_; rintro e w3 ⟨rfl, rfl⟩; simp only [World.size_alloc])
      | (go_at_call 66; refine (C4.out).mono ?_; rintro e w4 ⟨B4, rfl⟩))
    refine ⟨rfl, U0.out.fr.trans (.of_below (B4.mono (by simp))), ?_⟩
    show Ending.panicked _ = failE _ _
    symm
    assumption
  · have hsrc := Lib.hid fun h' W (L' : LS W b s h') => ins_some L' rl
    have hent : ∀ args W, (callFunc f args).run Try.prog W = .ok (.enter f args) W := lookE_all ents_ins rl
    rw [rl] at C4
    replace C4 := Lib.hid C4
    go_enter Try.func49, Try.ntmps49
    go_wp2_with (first
      | (go_at_call 67; refine (C3.out _).mono ?_; rintro e w3 ⟨rfl, rfl⟩; simp only [World.size_alloc])
      | (go_at_call 66; refine (C4.out).mono ?_; rintro e w4 ⟨B4, rfl⟩
         have U4 := U0.out.below (B4.mono (by simp))
         have z4 := (B4.block _ (by omega)).trans z0.out))
    refine call1 (hsrc.out _ _ U4.ls) (fun x s5 w5 vl vi hx5 F5 L5 => ?_) (fun pl er w5 hx F => ⟨rfl, Ends1.bad (U4.fr.trans F) hx⟩)
    dsimp only [insV]
    have U5 := U4.step1 F5 L5
    have z5 := F5.box z4 (by omega) insT1
    obtain ⟨v0, v1, v2, v3, v4, v5, v6, v7, v8, v9⟩ := row_ins z5
    have fv := fun j => frozen_of_row _ _ j _ _ z5
    have V5 := Lib.hid z5
    replace U5 := Lib.hid U5
    go_wp2
    exact bodyPost_ret (v := insV x) (ins_results rfl _ _ w.heap.size x rfl (setIns_row x V5.out)) rfl (Tr.ok (U5.out.setIns' (Nat.le_refl _) hbl hgl x V5.out) hx5)

end PP
end Go.Proofs.Ytglbmiadgdadfaa
end
