/- ParWays, ParIns6, ParIns7, ParCond in one text, for the claim. -/
import Derived.Test.YtijipgiclkkfhaaPt1

section
/- The parser's ways, by the symbol that they begin with. -/
namespace Go.Proofs.Ytijipgiclkkfhaa
open Go.RowKit Go.Shelf

attribute [local go_sem] Oper.semAt_some
namespace PP
/-- A map's entries: a way for each key. -/
def mapE : List (ByteArray × Nat) → Nat → List MapEntry
  | [], _ => []
  | (k, f) :: r, n => { key := .string k, val := .func (.func f) #[] #[], born := n } :: mapE r (n + 1)
def lookE (x : ByteArray) : List (ByteArray × Nat) → Option Nat
  | [] => none
  | (k, f) :: r => if x == k then some f else lookE x r
theorem find_mapE (x : ByteArray) : ∀ (l : List (ByteArray × Nat)) (n i : Nat), ∃ q, Instr.findNow .string (.string x) (mapE l n) i = some q ∧ (∀ t, picked q t = match lookE x l with
    | some f => .returned (.func (.func f) #[] #[])
    | none => failE t.p 50)
  | [], _, _ => ⟨none, rfl, fun _ => rfl⟩
  | (k, f) :: r, n, i => by
    by_cases h : (x == k) = true
    · refine ⟨some (i, .func (.func f) #[] #[]), ?_, fun t => ?_⟩
      · simp only [mapE, Instr.findNow, Instr.sameNow, h]
      · simp only [lookE, h, if_true]; rfl
    · have h' : (x == k) = false := by simpa using h
      obtain ⟨q, h1, h2⟩ := find_mapE x r (n + 1) (i + 1)
      refine ⟨q, ?_, fun t => ?_⟩
      · simp only [mapE, Instr.findNow, Instr.sameNow, h']; exact h1
      · rw [h2]; simp only [lookE, h', Bool.false_eq_true, if_false]
def tabI : List (ByteArray × Nat) := [(⟨#[78, 65, 77, 69]⟩, 84), (⟨#[82, 69, 71]⟩, 85), (⟨#[102, 101, 110, 99, 101]⟩, 86), (⟨#[115, 107, 105, 112]⟩, 87)]
set_option maxRecDepth 100000 in
set_option maxHeartbeats 8000000 in
theorem instructions_any (w : World) : Calls Try.prog 79 #[] w fun e w' => e = .returned (.map (some w.heap.size)) ∧ w' = w.alloc (.map ⟨mapE tabI 0⟩ 4) := by
  have hm := fun w => run_makeMap_plain (P := Try.prog) w 121
  have i0 : ∀ w : World, (Instr.mapUpdate 121 (.map (some w.heap.size)) (.string ⟨#[78, 65, 77, 69]⟩) (.func (.func 84) #[] #[])).run Try.prog (w.alloc (.map #[] 0)) = .ok () (w.alloc (.map ⟨mapE [(⟨#[78, 65, 77, 69]⟩, 84)] 0⟩ 1)) := fun w => map_ins 121 9 _ #[] 0 _ _ w Try.underlying121 Try.underlying9 (by kernel_rfl)
  have i1 : ∀ w : World, (Instr.mapUpdate 121 (.map (some w.heap.size)) (.string ⟨#[82, 69, 71]⟩) (.func (.func 85) #[] #[])).run Try.prog (w.alloc (.map ⟨mapE [(⟨#[78, 65, 77, 69]⟩, 84)] 0⟩ 1)) = .ok () (w.alloc (.map ⟨mapE [(⟨#[78, 65, 77, 69]⟩, 84), (⟨#[82, 69, 71]⟩, 85)] 0⟩ 2)) := fun w => map_ins 121 9 _ ⟨mapE [(⟨#[78, 65, 77, 69]⟩, 84)] 0⟩ 1 _ _ w Try.underlying121 Try.underlying9 (by kernel_rfl)
  have i2 : ∀ w : World, (Instr.mapUpdate 121 (.map (some w.heap.size)) (.string ⟨#[102, 101, 110, 99, 101]⟩) (.func (.func 86) #[] #[])).run Try.prog (w.alloc (.map ⟨mapE [(⟨#[78, 65, 77, 69]⟩, 84), (⟨#[82, 69, 71]⟩, 85)] 0⟩ 2)) = .ok () (w.alloc (.map ⟨mapE [(⟨#[78, 65, 77, 69]⟩, 84), (⟨#[82, 69, 71]⟩, 85), (⟨#[102, 101, 110, 99, 101]⟩, 86)] 0⟩ 3)) := fun w => map_ins 121 9 _ ⟨mapE [(⟨#[78, 65, 77, 69]⟩, 84), (⟨#[82, 69, 71]⟩, 85)] 0⟩ 2 _ _ w Try.underlying121 Try.underlying9 (by kernel_rfl)
  have i3 : ∀ w : World, (Instr.mapUpdate 121 (.map (some w.heap.size)) (.string ⟨#[115, 107, 105, 112]⟩) (.func (.func 87) #[] #[])).run Try.prog (w.alloc (.map ⟨mapE [(⟨#[78, 65, 77, 69]⟩, 84), (⟨#[82, 69, 71]⟩, 85), (⟨#[102, 101, 110, 99, 101]⟩, 86)] 0⟩ 3)) = .ok () (w.alloc (.map ⟨mapE [(⟨#[78, 65, 77, 69]⟩, 84), (⟨#[82, 69, 71]⟩, 85), (⟨#[102, 101, 110, 99, 101]⟩, 86), (⟨#[115, 107, 105, 112]⟩, 87)] 0⟩ 4)) := fun w => map_ins 121 9 _ ⟨mapE [(⟨#[78, 65, 77, 69]⟩, 84), (⟨#[82, 69, 71]⟩, 85), (⟨#[102, 101, 110, 99, 101]⟩, 86)] 0⟩ 3 _ _ w Try.underlying121 Try.underlying9 (by kernel_rfl)
  go_enter Try.func79, Try.ntmps79
  go_wp2
  go_ret
  exact ⟨rfl, rfl⟩
def tabS : List (ByteArray × Nat) := [(⟨#[78, 65, 77, 69]⟩, 99), (⟨#[82, 69, 71]⟩, 100), (⟨#[78, 85, 77]⟩, 100), (⟨#[115, 119, 97, 112]⟩, 101), (⟨#[102, 101, 116, 99, 104]⟩, 102), (⟨#[99, 97, 115]⟩, 103)]
set_option maxRecDepth 100000 in
set_option maxHeartbeats 8000000 in
theorem sources_any (w : World) : Calls Try.prog 92 #[] w fun e w' => e = .returned (.map (some w.heap.size)) ∧ w' = w.alloc (.map ⟨mapE tabS 0⟩ 6) := by
  have hm := fun w => run_makeMap_plain (P := Try.prog) w 121
  have i0 : ∀ w : World, (Instr.mapUpdate 121 (.map (some w.heap.size)) (.string ⟨#[78, 65, 77, 69]⟩) (.func (.func 99) #[] #[])).run Try.prog (w.alloc (.map #[] 0)) = .ok () (w.alloc (.map ⟨mapE [(⟨#[78, 65, 77, 69]⟩, 99)] 0⟩ 1)) := fun w => map_ins 121 9 _ #[] 0 _ _ w Try.underlying121 Try.underlying9 (by kernel_rfl)
  have i1 : ∀ w : World, (Instr.mapUpdate 121 (.map (some w.heap.size)) (.string ⟨#[82, 69, 71]⟩) (.func (.func 100) #[] #[])).run Try.prog (w.alloc (.map ⟨mapE [(⟨#[78, 65, 77, 69]⟩, 99)] 0⟩ 1)) = .ok () (w.alloc (.map ⟨mapE [(⟨#[78, 65, 77, 69]⟩, 99), (⟨#[82, 69, 71]⟩, 100)] 0⟩ 2)) := fun w => map_ins 121 9 _ ⟨mapE [(⟨#[78, 65, 77, 69]⟩, 99)] 0⟩ 1 _ _ w Try.underlying121 Try.underlying9 (by kernel_rfl)
  have i2 : ∀ w : World, (Instr.mapUpdate 121 (.map (some w.heap.size)) (.string ⟨#[78, 85, 77]⟩) (.func (.func 100) #[] #[])).run Try.prog (w.alloc (.map ⟨mapE [(⟨#[78, 65, 77, 69]⟩, 99), (⟨#[82, 69, 71]⟩, 100)] 0⟩ 2)) = .ok () (w.alloc (.map ⟨mapE [(⟨#[78, 65, 77, 69]⟩, 99), (⟨#[82, 69, 71]⟩, 100), (⟨#[78, 85, 77]⟩, 100)] 0⟩ 3)) := fun w => map_ins 121 9 _ ⟨mapE [(⟨#[78, 65, 77, 69]⟩, 99), (⟨#[82, 69, 71]⟩, 100)] 0⟩ 2 _ _ w Try.underlying121 Try.underlying9 (by kernel_rfl)
  have i3 : ∀ w : World, (Instr.mapUpdate 121 (.map (some w.heap.size)) (.string ⟨#[115, 119, 97, 112]⟩) (.func (.func 101) #[] #[])).run Try.prog (w.alloc (.map ⟨mapE [(⟨#[78, 65, 77, 69]⟩, 99), (⟨#[82, 69, 71]⟩, 100), (⟨#[78, 85, 77]⟩, 100)] 0⟩ 3)) = .ok () (w.alloc (.map ⟨mapE [(⟨#[78, 65, 77, 69]⟩, 99), (⟨#[82, 69, 71]⟩, 100), (⟨#[78, 85, 77]⟩, 100), (⟨#[115, 119, 97, 112]⟩, 101)] 0⟩ 4)) := fun w => map_ins 121 9 _ ⟨mapE [(⟨#[78, 65, 77, 69]⟩, 99), (⟨#[82, 69, 71]⟩, 100), (⟨#[78, 85, 77]⟩, 100)] 0⟩ 3 _ _ w Try.underlying121 Try.underlying9 (by kernel_rfl)
  have i4 : ∀ w : World, (Instr.mapUpdate 121 (.map (some w.heap.size)) (.string ⟨#[102, 101, 116, 99, 104]⟩) (.func (.func 102) #[] #[])).run Try.prog (w.alloc (.map ⟨mapE [(⟨#[78, 65, 77, 69]⟩, 99), (⟨#[82, 69, 71]⟩, 100), (⟨#[78, 85, 77]⟩, 100), (⟨#[115, 119, 97, 112]⟩, 101)] 0⟩ 4)) = .ok () (w.alloc (.map ⟨mapE [(⟨#[78, 65, 77, 69]⟩, 99), (⟨#[82, 69, 71]⟩, 100), (⟨#[78, 85, 77]⟩, 100), (⟨#[115, 119, 97, 112]⟩, 101), (⟨#[102, 101, 116, 99, 104]⟩, 102)] 0⟩ 5)) := fun w => map_ins 121 9 _ ⟨mapE [(⟨#[78, 65, 77, 69]⟩, 99), (⟨#[82, 69, 71]⟩, 100), (⟨#[78, 85, 77]⟩, 100), (⟨#[115, 119, 97, 112]⟩, 101)] 0⟩ 4 _ _ w Try.underlying121 Try.underlying9 (by kernel_rfl)
  have i5 : ∀ w : World, (Instr.mapUpdate 121 (.map (some w.heap.size)) (.string ⟨#[99, 97, 115]⟩) (.func (.func 103) #[] #[])).run Try.prog (w.alloc (.map ⟨mapE [(⟨#[78, 65, 77, 69]⟩, 99), (⟨#[82, 69, 71]⟩, 100), (⟨#[78, 85, 77]⟩, 100), (⟨#[115, 119, 97, 112]⟩, 101), (⟨#[102, 101, 116, 99, 104]⟩, 102)] 0⟩ 5)) = .ok () (w.alloc (.map ⟨mapE [(⟨#[78, 65, 77, 69]⟩, 99), (⟨#[82, 69, 71]⟩, 100), (⟨#[78, 85, 77]⟩, 100), (⟨#[115, 119, 97, 112]⟩, 101), (⟨#[102, 101, 116, 99, 104]⟩, 102), (⟨#[99, 97, 115]⟩, 103)] 0⟩ 6)) := fun w => map_ins 121 9 _ ⟨mapE [(⟨#[78, 65, 77, 69]⟩, 99), (⟨#[82, 69, 71]⟩, 100), (⟨#[78, 85, 77]⟩, 100), (⟨#[115, 119, 97, 112]⟩, 101), (⟨#[102, 101, 116, 99, 104]⟩, 102)] 0⟩ 5 _ _ w Try.underlying121 Try.underlying9 (by kernel_rfl)
  go_enter Try.func92, Try.ntmps92
  go_wp2
  go_ret
  exact ⟨rfl, rfl⟩
def tabF : List (ByteArray × Nat) := [(⟨#[33]⟩, 94), (⟨#[40]⟩, 95), (⟨#[78, 85, 77]⟩, 96), (⟨#[78, 65, 77, 69]⟩, 97), (⟨#[116, 114, 117, 101]⟩, 98)]
set_option maxRecDepth 100000 in
set_option maxHeartbeats 8000000 in
theorem factors_any (w : World) : Calls Try.prog 89 #[] w fun e w' => e = .returned (.map (some w.heap.size)) ∧ w' = w.alloc (.map ⟨mapE tabF 0⟩ 5) := by
  have hm := fun w => run_makeMap_plain (P := Try.prog) w 128
  have i0 : ∀ w : World, (Instr.mapUpdate 128 (.map (some w.heap.size)) (.string ⟨#[33]⟩) (.func (.func 94) #[] #[])).run Try.prog (w.alloc (.map #[] 0)) = .ok () (w.alloc (.map ⟨mapE [(⟨#[33]⟩, 94)] 0⟩ 1)) := fun w => map_ins 128 9 _ #[] 0 _ _ w Try.underlying128 Try.underlying9 (by kernel_rfl)
  have i1 : ∀ w : World, (Instr.mapUpdate 128 (.map (some w.heap.size)) (.string ⟨#[40]⟩) (.func (.func 95) #[] #[])).run Try.prog (w.alloc (.map ⟨mapE [(⟨#[33]⟩, 94)] 0⟩ 1)) = .ok () (w.alloc (.map ⟨mapE [(⟨#[33]⟩, 94), (⟨#[40]⟩, 95)] 0⟩ 2)) := fun w => map_ins 128 9 _ ⟨mapE [(⟨#[33]⟩, 94)] 0⟩ 1 _ _ w Try.underlying128 Try.underlying9 (by kernel_rfl)
  have i2 : ∀ w : World, (Instr.mapUpdate 128 (.map (some w.heap.size)) (.string ⟨#[78, 85, 77]⟩) (.func (.func 96) #[] #[])).run Try.prog (w.alloc (.map ⟨mapE [(⟨#[33]⟩, 94), (⟨#[40]⟩, 95)] 0⟩ 2)) = .ok () (w.alloc (.map ⟨mapE [(⟨#[33]⟩, 94), (⟨#[40]⟩, 95), (⟨#[78, 85, 77]⟩, 96)] 0⟩ 3)) := fun w => map_ins 128 9 _ ⟨mapE [(⟨#[33]⟩, 94), (⟨#[40]⟩, 95)] 0⟩ 2 _ _ w Try.underlying128 Try.underlying9 (by kernel_rfl)
  have i3 : ∀ w : World, (Instr.mapUpdate 128 (.map (some w.heap.size)) (.string ⟨#[78, 65, 77, 69]⟩) (.func (.func 97) #[] #[])).run Try.prog (w.alloc (.map ⟨mapE [(⟨#[33]⟩, 94), (⟨#[40]⟩, 95), (⟨#[78, 85, 77]⟩, 96)] 0⟩ 3)) = .ok () (w.alloc (.map ⟨mapE [(⟨#[33]⟩, 94), (⟨#[40]⟩, 95), (⟨#[78, 85, 77]⟩, 96), (⟨#[78, 65, 77, 69]⟩, 97)] 0⟩ 4)) := fun w => map_ins 128 9 _ ⟨mapE [(⟨#[33]⟩, 94), (⟨#[40]⟩, 95), (⟨#[78, 85, 77]⟩, 96)] 0⟩ 3 _ _ w Try.underlying128 Try.underlying9 (by kernel_rfl)
  have i4 : ∀ w : World, (Instr.mapUpdate 128 (.map (some w.heap.size)) (.string ⟨#[116, 114, 117, 101]⟩) (.func (.func 98) #[] #[])).run Try.prog (w.alloc (.map ⟨mapE [(⟨#[33]⟩, 94), (⟨#[40]⟩, 95), (⟨#[78, 85, 77]⟩, 96), (⟨#[78, 65, 77, 69]⟩, 97)] 0⟩ 4)) = .ok () (w.alloc (.map ⟨mapE [(⟨#[33]⟩, 94), (⟨#[40]⟩, 95), (⟨#[78, 85, 77]⟩, 96), (⟨#[78, 65, 77, 69]⟩, 97), (⟨#[116, 114, 117, 101]⟩, 98)] 0⟩ 5)) := fun w => map_ins 128 9 _ ⟨mapE [(⟨#[33]⟩, 94), (⟨#[40]⟩, 95), (⟨#[78, 85, 77]⟩, 96), (⟨#[78, 65, 77, 69]⟩, 97)] 0⟩ 4 _ _ w Try.underlying128 Try.underlying9 (by kernel_rfl)
  go_enter Try.func89, Try.ntmps89
  go_wp2
  go_ret
  exact ⟨rfl, rfl⟩
end PP
end Go.Proofs.Ytijipgiclkkfhaa
end

section
/- The parser's instructions: an assignment. -/
namespace Go.Proofs.Ytijipgiclkkfhaa
open Go.RowKit Go.Shelf

attribute [local go_sem] Oper.semAt_some
namespace PP
theorem enters {f : Nat} {fn : Func} {c : Code} (hf : Try.prog.funcs[f]? = some fn) (hname : (fn.name == "runtime.NumGoroutine") = false) (hb : fn.body = some c) (args : Array Value) (w : World) : (callFunc f args).run Try.prog w = .ok (.enter f args) w := by
  have h1 : fn.name ≠ "runtime.NumGoroutine" := by simpa using hname
  simp [callFunc, hf, h1, hb]
/-- Every way of a table is a function with a body. -/
def AllIn (l : List (ByteArray × Nat)) : Prop := ∀ p ∈ l, ∀ args w, (callFunc p.2 args).run Try.prog w = .ok (.enter p.2 args) w
theorem lookE_all {l : List (ByteArray × Nat)} (hl : AllIn l) {x : ByteArray} {f : Nat} (h : lookE x l = some f) : ∀ args w, (callFunc f args).run Try.prog w = .ok (.enter f args) w := by
  induction l with
  | nil => cases h
  | cons p r ih =>
    obtain ⟨k, g⟩ := p
    simp only [lookE] at h
    split at h
    · have e : g = f := Option.some.inj h
      rw [← e]
      exact hl (k, g) List.mem_cons_self
    · exact ih (fun p hp => hl p (List.mem_cons_of_mem _ hp)) h
theorem ents : AllIn tabS := by
  intro p hp
  unfold tabS at hp
  simp only [List.mem_cons, List.not_mem_nil, or_false] at hp
  rcases hp with rfl | rfl | rfl | rfl | rfl | rfl
  · exact enters Try.func99 (by kernel_rfl) rfl
  · exact enters Try.func100 (by kernel_rfl) rfl
  · exact enters Try.func100 (by kernel_rfl) rfl
  · exact enters Try.func101 (by kernel_rfl) rfl
  · exact enters Try.func102 (by kernel_rfl) rfl
  · exact enters Try.func103 (by kernel_rfl) rfl
theorem source_some {b : Nat} {s : PX.S} {h : Hd} {W : World} (L : LS W b s h) {f : Nat} (hf : lookE (PX.sy (PX.next s)) tabS = some f) : Calls Try.prog f #[.pointer (some ⟨b, 0, none⟩)] W (Ends1 W b h insV (PX.source s)) := by
  change lookE (PX.sy (PX.next s)) [(PX.sNAME, 99), (PX.sREG, 100), (PX.sNUM, 100), (PX.kSwap, 101), (PX.kFetch, 102), (PX.kCas, 103)] = some f at hf
  simp only [lookE] at hf
  unfold PX.source
  show Calls _ _ _ _ (Ends1 W b h insV (if PX.sy (PX.next s) == PX.sNAME then PX.load s else if PX.sy (PX.next s) == PX.sREG then PX.move s else if PX.sy (PX.next s) == PX.sNUM then PX.move s else if PX.sy (PX.next s) == PX.kSwap then PX.swap s else if PX.sy (PX.next s) == PX.kFetch then PX.fetch s else if PX.sy (PX.next s) == PX.kCas then PX.cas s else PX.wrong s))
  generalize PX.sy (PX.next s) = y at *
  by_cases h1 : (y == PX.sNAME) = true
  · rw [if_pos h1]; rw [if_pos h1] at hf; cases hf; exact load_any b s h W L
  rw [if_neg h1]; rw [if_neg h1] at hf
  by_cases h2 : (y == PX.sREG) = true
  · rw [if_pos h2]; rw [if_pos h2] at hf; cases hf; exact move_any b s h W L
  rw [if_neg h2]; rw [if_neg h2] at hf
  by_cases h3 : (y == PX.sNUM) = true
  · rw [if_pos h3]; rw [if_pos h3] at hf; cases hf; exact move_any b s h W L
  rw [if_neg h3]; rw [if_neg h3] at hf
  by_cases h4 : (y == PX.kSwap) = true
  · rw [if_pos h4]; rw [if_pos h4] at hf; cases hf; exact swap_any b s h W L
  rw [if_neg h4]; rw [if_neg h4] at hf
  by_cases h5 : (y == PX.kFetch) = true
  · rw [if_pos h5]; rw [if_pos h5] at hf; cases hf; exact fetch_any b s h W L
  rw [if_neg h5]; rw [if_neg h5] at hf
  by_cases h6 : (y == PX.kCas) = true
  · rw [if_pos h6]; rw [if_pos h6] at hf; cases hf; exact cas_any b s h W L
  rw [if_neg h6] at hf; cases hf
theorem source_none {s : PX.S} (hf : lookE (PX.sy (PX.next s)) tabS = none) : PX.source s = .bad (PX.next s).p 50 := by
  change lookE (PX.sy (PX.next s)) [(PX.sNAME, 99), (PX.sREG, 100), (PX.sNUM, 100), (PX.kSwap, 101), (PX.kFetch, 102), (PX.kCas, 103)] = none at hf
  simp only [lookE] at hf
  unfold PX.source
  show (if PX.sy (PX.next s) == PX.sNAME then PX.load s else if PX.sy (PX.next s) == PX.sREG then PX.move s else if PX.sy (PX.next s) == PX.sNUM then PX.move s else if PX.sy (PX.next s) == PX.kSwap then PX.swap s else if PX.sy (PX.next s) == PX.kFetch then PX.fetch s else if PX.sy (PX.next s) == PX.kCas then PX.cas s else PX.wrong s) = _
  generalize PX.sy (PX.next s) = y at *
  by_cases h1 : (y == PX.sNAME) = true
  · rw [if_pos h1] at hf; cases hf
  rw [if_neg h1]; rw [if_neg h1] at hf
  by_cases h2 : (y == PX.sREG) = true
  · rw [if_pos h2] at hf; cases hf
  rw [if_neg h2]; rw [if_neg h2] at hf
  by_cases h3 : (y == PX.sNUM) = true
  · rw [if_pos h3] at hf; cases hf
  rw [if_neg h3]; rw [if_neg h3] at hf
  by_cases h4 : (y == PX.kSwap) = true
  · rw [if_pos h4] at hf; cases hf
  rw [if_neg h4]; rw [if_neg h4] at hf
  by_cases h5 : (y == PX.kFetch) = true
  · rw [if_pos h5] at hf; cases hf
  rw [if_neg h5]; rw [if_neg h5] at hf
  by_cases h6 : (y == PX.kCas) = true
  · rw [if_pos h6] at hf; cases hf
  rw [if_neg h6]; rfl
/-- What choosing among the table's ways answers. -/
theorem choseI {b : Nat} {s : PX.S} {h : Hd} {W : World} (l : List (ByteArray × Nat)) (n : Nat) (p : PS W b s h) (mb : Nat) (hb : W.heap[mb]? = some (.map ⟨mapE l 0⟩ n)) :
    Calls Try.prog 78 #[.pointer (some ⟨b, 0, none⟩), .map (some mb)] W fun e w' => Below W.heap.size W w' ∧ e = match lookE (PX.sy (PX.next s)) l with
      | some f => .returned (.func (.func f) #[] #[])
      | none => failE (PX.next s).p 50 := by
  obtain ⟨q, h1, h2⟩ := find_mapE (PX.sy (PX.next s)) l 0 0
  refine (chooseI_any b s h W mb _ n q p hb h1).mono ?_
  rintro e w' ⟨B, rfl⟩
  exact ⟨B, h2 _⟩

set_option maxRecDepth 100000 in
set_option maxHeartbeats 16000000 in
theorem assignment_any (b : Nat) (s : PX.S) (h : Hd) (w : World) (L : LS w b s h) :
    Calls Try.prog 85 #[.pointer (some ⟨b, 0, none⟩)] w (Ends1 w b h insV (PX.assignment s)) := by
  have hbl := L.ps.lt
  have hgl := L.ps.g_lt
  have U0 := (Tr.start L).alloc (.cells #[.int .u8 0, .int .u8 0, .int .u8 0, .bool false, .int .u8 0, .bool false, .int .u8 0, .int .u8 0, .int .u8 0, .int .u8 0] 48)
  have z0 := newIns w
  have C1 := Lib.hid (reg_any b s h _ U0.ls.ps)
  have C2 := Lib.hid fun s W (p : PS (W.alloc (.cells #[.string ⟨#[61]⟩] 9)) b s h) => take_any b s h _ [PX.gEq] _ p (strSl_one W _) (symsOk_bs (by decide))
  have C3 := Lib.hid fun W => sources_any W
  have C4 := Lib.hid fun s W (p : PS (W.alloc (.map ⟨mapE tabS 0⟩ 6)) b s h) => choseI tabS 6 p W.heap.size (heap_alloc_new W _)
  have e0 : PX.assignment s = (PX.reg s).bind fun d s => (PX.take [PX.gEq] s).bind fun _ s => (PX.source s).bind fun x s => .ok { x with dst := d } s := rfl
  replace e0 := Lib.hid e0
  replace U0 := Lib.hid U0
  replace z0 := Lib.hid z0
  rcases r1 : PX.reg s with ⟨d, s1⟩ | ⟨pl, er⟩
  · rw [r1] at C1
    have M1 := mv_reg r1
    have e1 : PX.assignment s = (PX.take [PX.gEq] s1).bind fun _ s => (PX.source s).bind fun x s => .ok { x with dst := d } s := by rw [e0.out, r1]; rfl
    rcases r2 : PX.take [PX.gEq] s1 with ⟨t, s2⟩ | ⟨pl, er⟩
    · have M2 := mv_take r2
      have c2 := fun W p => C2.out s1 W p
      rw [r2] at c2
      replace c2 := Lib.hid c2
      have e2 : PX.assignment s = (PX.source s2).bind fun x s => .ok { x with dst := d } s := by rw [e1, r2]; rfl
      have c4 := fun W p => C4.out s2 W p
      rcases rl : lookE (PX.sy (PX.next s2)) tabS with _ | f
      · have e3 : PX.assignment s = .bad (PX.next s2).p 50 := by rw [e2, source_none rl]; rfl
        rw [rl] at c4
        replace c4 := Lib.hid c4
        rw [e3]
        clear e0 e1 e2 e3 r1 r2 C2 C4
        go_enter Try.func85, Try.ntmps85
        go_wp2_with (first
          | (go_at_call 91; refine (C1.out).mono ?_; rintro e w1 ⟨F1, rfl, P1⟩
             have U1 := (U0.out.step0 F1 M1 P1).alloc (.cells #[.string ⟨#[61]⟩] 9))
          | (go_at_call 65; refine (c2.out _ U1.ls.ps).mono ?_; rintro e w2 ⟨F2, rfl, P2⟩; unfold tokV
             have U2 := (U1.step0 F2 M2 P2).alloc (.map ⟨mapE tabS 0⟩ 6))
          | (go_at_call 92; refine (C3.out _).mono ?_; rintro e w3 ⟨rfl, rfl⟩)
          | (go_at_call 78; refine (c4.out _ U2.ls.ps).mono ?_; rintro e w4 ⟨B4, rfl⟩))
        refine ⟨rfl, U2.fr.trans (.of_below B4), ?_⟩
        show Ending.panicked _ = failE _ _
        symm
        assumption
      · rw [rl] at c4
        replace c4 := Lib.hid c4
        have hsrc := Lib.hid fun h' W (L' : LS W b s2 h') => source_some L' rl
        have hent : ∀ args W, (callFunc f args).run Try.prog W = .ok (.enter f args) W := lookE_all ents rl
        replace e2 := Lib.hid e2
        clear e0 e1 r1 r2 C2 C4
        go_enter Try.func85, Try.ntmps85
        go_wp2_with (first
          | (go_at_call 91; refine (C1.out).mono ?_; rintro e w1 ⟨F1, rfl, P1⟩
             have U1 := (U0.out.step0 F1 M1 P1).alloc (.cells #[.string ⟨#[61]⟩] 9)
             have z1 := row_alloc (F1.box z0.out (by omega) (by simp)) (.cells #[.string ⟨#[61]⟩] 9))
          | (go_at_call 65; refine (c2.out _ U1.ls.ps).mono ?_; rintro e w2 ⟨F2, rfl, P2⟩; unfold tokV
             have U2 := (U1.step0 F2 M2 P2).alloc (.map ⟨mapE tabS 0⟩ 6)
             have z2 := row_alloc (F2.box z1 (by omega) (by simp)) (.map ⟨mapE tabS 0⟩ 6))
          | (go_at_call 92; refine (C3.out _).mono ?_; rintro e w3 ⟨rfl, rfl⟩)
          | (go_at_call 78; refine (c4.out _ U2.ls.ps).mono ?_; rintro e w4 ⟨B4, rfl⟩
             have U4 := U2.below B4
             have z4 := (B4.block _ (lt_of_heap z2)).trans z2))
        refine call1 (hsrc.out _ _ U4.ls) (fun x s5 w5 vl vi hx5 F5 L5 => ?_) (fun pl er w5 hx F => ⟨rfl, Ends1.bad (U4.fr.trans F) (by rw [e2.out, hx]; rfl)⟩)
        dsimp only [insV]
        have hs5 : w.heap.size < w5.heap.size := lt_of_heap (F5.box z4 (by omega) insT1)
        have U5 := U4.step1 F5 L5
        have z5 := F5.box z4 (by omega) insT1
        obtain ⟨v0, v1, v2, v3, v4, v5, v6, v7, v8, v9⟩ := row_ins z5
        have fv := fun j => frozen_of_row _ _ j _ _ z5
        have V5 := Lib.hid z5
        replace U5 := Lib.hid U5
        go_wp2
        refine bodyPost_ret (v := insV { x with dst := d }) (ins_results rfl _ _ w.heap.size { x with dst := d } rfl (row_alloc (setIns_row { x with dst := d } V5.out) (.cells (insC { x with dst := d }) 48))) rfl (Tr.ok ((U5.out.setIns' (Nat.le_refl _) hbl hgl { x with dst := d } V5.out).alloc (.cells (insC { x with dst := d }) 48)) ?_)
        rw [e2.out, hx5]
        rfl
    · have e2 : PX.assignment s = .bad pl er := by rw [e1, r2]; rfl
      have c2 := fun W p => C2.out s1 W p
      rw [r2] at c2
      replace c2 := Lib.hid c2
      rw [e2]
      clear e0 e1 e2 r1 r2 C2 C4
      go_enter Try.func85, Try.ntmps85
      go_wp2_with (first
        | (go_at_call 91; refine (C1.out).mono ?_; rintro e w1 ⟨F1, rfl, P1⟩
           have U1 := (U0.out.step0 F1 M1 P1).alloc (.cells #[.string ⟨#[61]⟩] 9))
        | (go_at_call 65; refine (c2.out _ U1.ls.ps).mono ?_; rintro e w2 ⟨F2, rfl⟩))
      refine ⟨rfl, U1.fr.trans F2.up, ?_⟩
      show Ending.panicked _ = failE _ _
      symm
      assumption
  · have e1 : PX.assignment s = .bad pl er := by rw [e0.out, r1]; rfl
    rw [r1] at C1
    rw [e1]
    clear e0 e1 r1
    go_enter Try.func85, Try.ntmps85
    go_wp2_with (first
      | (go_at_call 91; refine (C1.out).mono ?_; rintro e w1 ⟨F, rfl⟩))
    refine ⟨rfl, U0.out.fr.trans F.up, ?_⟩
    show Ending.panicked _ = failE _ _
    symm
    assumption
end PP
end Go.Proofs.Ytijipgiclkkfhaa
end

section
/- The parser's instructions, all of them. -/
namespace Go.Proofs.Ytijipgiclkkfhaa
open Go.RowKit Go.Shelf

attribute [local go_sem] Oper.semAt_some
namespace PP
theorem mv_takeLast {s s' : PX.S} {u : Unit} (h : PX.takeLast s = .ok u s') : Mv s s' := by
  unfold PX.takeLast at h
  rcases ht : PX.take [PX.sEND] s with ⟨t, s1⟩ | ⟨pl, er⟩
  · rw [ht] at h
    simp only [PX.R.bind] at h
    split at h
    · cases h; exact mv_take ht
    · cases h
  · rw [ht] at h; cases h
theorem ins_some {b : Nat} {s : PX.S} {h : Hd} {W : World} (L : LS W b s h) {f : Nat} (hf : lookE (PX.sy (PX.next s)) tabI = some f) : Calls Try.prog f #[.pointer (some ⟨b, 0, none⟩)] W (Ends1 W b h insV (PX.ins s)) := by
  change lookE (PX.sy (PX.next s)) [(PX.sNAME, 84), (PX.sREG, 85), (PX.kFence, 86), (PX.kSkip, 87)] = some f at hf
  simp only [lookE] at hf
  unfold PX.ins
  show Calls _ _ _ _ (Ends1 W b h insV (if PX.sy (PX.next s) == PX.sNAME then PX.store s else if PX.sy (PX.next s) == PX.sREG then PX.assignment s else if PX.sy (PX.next s) == PX.kFence then PX.fence s else if PX.sy (PX.next s) == PX.kSkip then PX.skip s else PX.wrong s))
  generalize PX.sy (PX.next s) = y at *
  by_cases h1 : (y == PX.sNAME) = true
  · rw [if_pos h1]; rw [if_pos h1] at hf; cases hf; exact store_any b s h W L
  rw [if_neg h1]; rw [if_neg h1] at hf
  by_cases h2 : (y == PX.sREG) = true
  · rw [if_pos h2]; rw [if_pos h2] at hf; cases hf; exact assignment_any b s h W L
  rw [if_neg h2]; rw [if_neg h2] at hf
  by_cases h3 : (y == PX.kFence) = true
  · rw [if_pos h3]; rw [if_pos h3] at hf; cases hf; exact fence_any b s h W L
  rw [if_neg h3]; rw [if_neg h3] at hf
  by_cases h4 : (y == PX.kSkip) = true
  · rw [if_pos h4]; rw [if_pos h4] at hf; cases hf; exact skip_any b s h W L
  rw [if_neg h4] at hf; cases hf
theorem ins_none {s : PX.S} (hf : lookE (PX.sy (PX.next s)) tabI = none) : PX.ins s = .bad (PX.next s).p 50 := by
  change lookE (PX.sy (PX.next s)) [(PX.sNAME, 84), (PX.sREG, 85), (PX.kFence, 86), (PX.kSkip, 87)] = none at hf
  simp only [lookE] at hf
  unfold PX.ins
  show (if PX.sy (PX.next s) == PX.sNAME then PX.store s else if PX.sy (PX.next s) == PX.sREG then PX.assignment s else if PX.sy (PX.next s) == PX.kFence then PX.fence s else if PX.sy (PX.next s) == PX.kSkip then PX.skip s else PX.wrong s) = _
  generalize PX.sy (PX.next s) = y at *
  by_cases h1 : (y == PX.sNAME) = true
  · rw [if_pos h1] at hf; cases hf
  rw [if_neg h1]; rw [if_neg h1] at hf
  by_cases h2 : (y == PX.sREG) = true
  · rw [if_pos h2] at hf; cases hf
  rw [if_neg h2]; rw [if_neg h2] at hf
  by_cases h3 : (y == PX.kFence) = true
  · rw [if_pos h3] at hf; cases hf
  rw [if_neg h3]; rw [if_neg h3] at hf
  by_cases h4 : (y == PX.kSkip) = true
  · rw [if_pos h4] at hf; cases hf
  rw [if_neg h4]; rfl
theorem ents_ins : AllIn tabI := by
  intro p hp
  unfold tabI at hp
  simp only [List.mem_cons, List.not_mem_nil, or_false] at hp
  rcases hp with rfl | rfl | rfl | rfl
  · exact enters Try.func84 (by kernel_rfl) rfl
  · exact enters Try.func85 (by kernel_rfl) rfl
  · exact enters Try.func86 (by kernel_rfl) rfl
  · exact enters Try.func87 (by kernel_rfl) rfl

set_option maxRecDepth 100000 in
set_option maxHeartbeats 16000000 in
theorem ins_any (b : Nat) (s : PX.S) (h : Hd) (w : World) (L : LS w b s h) :
    Calls Try.prog 69 #[.pointer (some ⟨b, 0, none⟩)] w (Ends1 w b h insV (PX.ins s)) := by
  have hbl := L.ps.lt
  have hgl := L.ps.g_lt
  have U0 := ((Tr.start L).alloc (.cells #[.int .u8 0, .int .u8 0, .int .u8 0, .bool false, .int .u8 0, .bool false, .int .u8 0, .int .u8 0, .int .u8 0, .int .u8 0] 48)).alloc (.map ⟨mapE tabI 0⟩ 4)
  have z0 := row_alloc (newIns w) (.map ⟨mapE tabI 0⟩ 4)
  have C3 := Lib.hid fun W => instructions_any W
  have C4 := choseI tabI 4 U0.ls.ps _ (heap_alloc_new _ _)
  simp only [World.size_alloc] at C4
  have hb0 := hbl
  replace U0 := Lib.hid U0
  replace z0 := Lib.hid z0
  rcases rl : lookE (PX.sy (PX.next s)) tabI with _ | f
  · rw [ins_none rl]
    rw [rl] at C4
    replace C4 := Lib.hid C4
    go_enter Try.func69, Try.ntmps69
    go_wp2_with (first
      | (go_at_call 79; refine (C3.out _).mono ?_; rintro e w3 ⟨rfl, rfl⟩; simp only [World.size_alloc])
      | (go_at_call 78; refine (C4.out).mono ?_; rintro e w4 ⟨B4, rfl⟩))
    refine ⟨rfl, U0.out.fr.trans (.of_below (B4.mono (by simp))), ?_⟩
    show Ending.panicked _ = failE _ _
    symm
    assumption
  · have hsrc := Lib.hid fun h' W (L' : LS W b s h') => ins_some L' rl
    have hent : ∀ args W, (callFunc f args).run Try.prog W = .ok (.enter f args) W := lookE_all ents_ins rl
    rw [rl] at C4
    replace C4 := Lib.hid C4
    go_enter Try.func69, Try.ntmps69
    go_wp2_with (first
      | (go_at_call 79; refine (C3.out _).mono ?_; rintro e w3 ⟨rfl, rfl⟩; simp only [World.size_alloc])
      | (go_at_call 78; refine (C4.out).mono ?_; rintro e w4 ⟨B4, rfl⟩
         have U4 := U0.out.below (B4.mono (by simp))
         have z4 := (B4.block _ (by omega)).trans z0.out))
    refine call1 (hsrc.out _ _ U4.ls) (fun x s5 w5 vl vi hx5 F5 L5 => ?_) (fun pl er w5 hx F => ⟨rfl, Ends1.bad (U4.fr.trans F) hx⟩)
    dsimp only [insV]
    have U5 := U4.step1 F5 L5
    have z5 := F5.box z4 (by omega) insT1
    obtain ⟨v0, v1, v2, v3, v4, v5, v6, v7, v8, v9⟩ := row_ins z5
    have fv := fun j => frozen_of_row _ _ j _ _ z5
    have V5 := Lib.hid z5
    replace U5 := Lib.hid U5
    go_wp2
    exact bodyPost_ret (v := insV x) (ins_results rfl _ _ w.heap.size x rfl (setIns_row x V5.out)) rfl (Tr.ok (U5.out.setIns' (Nat.le_refl _) hbl hgl x V5.out) hx5)

end PP
end Go.Proofs.Ytijipgiclkkfhaa
end

section
/- The parser's conditions: those without parts. -/
namespace Go.Proofs.Ytijipgiclkkfhaa
open Go.RowKit Go.Shelf

attribute [local go_sem] Oper.semAt_some
namespace PP
/-- A condition's cells: its numbers and the slice of its parts. -/
structure CV where
  k : Int
  t : Int := 0
  n : Int := 0
  v : Int := 0
  u : Value := .slice none 0 0
def condC (x : CV) : Array Value := #[.int .u8 x.k, .int .u8 x.t, .int .u8 x.n, .int .u8 x.v, x.u]
def condV (x : CV) : Value := .agg #[.int .u8 x.k, .int .u8 x.t, .int .u8 x.n, .int .u8 x.v, x.u]
def zC : CV := { k := 0 }
theorem newCond (w : World) : (w.alloc (.cells #[.int .u8 0, .int .u8 0, .int .u8 0, .int .u8 0, .slice none 0 0] 24)).heap[w.heap.size]? = some (.cells (condC zC) 24 (0, 0)) := heap_alloc_new w _
theorem row_cond {W : World} {k : Nat} {x : CV} (hz : W.heap[k]? = some (.cells (condC x) 24 (0, 0))) :
    W.cell? ⟨k, 0, none⟩ = some (.int .u8 x.k) ∧ W.cell? ⟨k, 1, none⟩ = some (.int .u8 x.t) ∧ W.cell? ⟨k, 2, none⟩ = some (.int .u8 x.n) ∧ W.cell? ⟨k, 3, none⟩ = some (.int .u8 x.v) ∧ W.cell? ⟨k, 4, none⟩ = some x.u :=
  ⟨cell_of_row _ _ 0 _ _ _ hz, cell_of_row _ _ 1 _ _ _ hz, cell_of_row _ _ 2 _ _ _ hz, cell_of_row _ _ 3 _ _ _ hz, cell_of_row _ _ 4 _ _ _ hz⟩
def setCond (W : World) (k : Nat) (x : CV) : World :=
  ((((W.setCell ⟨k, 0, none⟩ (.int .u8 x.k)).setCell ⟨k, 1, none⟩ (.int .u8 x.t)).setCell ⟨k, 2, none⟩ (.int .u8 x.n)).setCell ⟨k, 3, none⟩ (.int .u8 x.v)).setCell ⟨k, 4, none⟩ x.u
theorem setCond_row {W : World} {k : Nat} {y : CV} (x : CV) (hz : W.heap[k]? = some (.cells (condC y) 24 (0, 0))) : (setCond W k x).heap[k]? = some (.cells (condC x) 24 (0, 0)) := by
  have r0 := heap_setCell_same _ k 0 _ _ (.int .u8 x.k) hz
  have r1 := heap_setCell_same _ k 1 _ _ (.int .u8 x.t) r0
  have r2 := heap_setCell_same _ k 2 _ _ (.int .u8 x.n) r1
  have r3 := heap_setCell_same _ k 3 _ _ (.int .u8 x.v) r2
  have r4 := heap_setCell_same _ k 4 _ _ x.u r3
  unfold setCond
  rw [r4]
  simp only [condC, List.setIfInBounds_toArray, List.set_cons_succ, List.set_cons_zero]
theorem condT1 : 24 ∉ T1 := by simp [T1]
theorem Tr.setC {w W : World} {b k : Nat} {s : PX.S} {h g : Hd} (T : Tr w b h W s g) (hk : w.heap.size ≤ k) (hb : b < w.heap.size) (hg : h.g < w.heap.size) {C : Array Value} (hz : W.heap[k]? = some (.cells C 24 (0, 0))) (j : Nat) (v : Value) : Tr w b h (W.setCell ⟨k, j, none⟩ v) s g :=
  T.set hk hb (by obtain ⟨_, _, rfl⟩ := T.hd; exact hg) _ _ hz condT1 j v
theorem Tr.setCond {w W : World} {b k : Nat} {s : PX.S} {h g : Hd} (T : Tr w b h W s g) (hk : w.heap.size ≤ k) (hb : b < w.heap.size) (hg : h.g < w.heap.size) {y : CV} (x : CV) (hz : W.heap[k]? = some (.cells (condC y) 24 (0, 0))) : Tr w b h (PP.setCond W k x) s g := by
  have r0 := heap_setCell_same _ k 0 _ _ (.int .u8 x.k) hz
  have r1 := heap_setCell_same _ k 1 _ _ (.int .u8 x.t) r0
  have r2 := heap_setCell_same _ k 2 _ _ (.int .u8 x.n) r1
  have r3 := heap_setCell_same _ k 3 _ _ (.int .u8 x.v) r2
  exact ((((T.setC hk hb hg hz 0 _).setC hk hb hg r0 1 _).setC hk hb hg r1 2 _).setC hk hb hg r2 3 _).setC hk hb hg r3 4 _
theorem sizeCond : (Try.prog.info? 24).map (·.size) = some 5 := by kernel_rfl
theorem cond_results {fn : Func} {p : Tmp} (h : fn.results = #[.cell p 24]) (tmps : Array Value) (W : World) (k : Nat) (x : CV) (hp : tmps.getD p undef = .pointer (some ⟨k, 0, none⟩)) (hz : W.heap[k]? = some (.cells (condC x) 24 (0, 0))) :
    (results fn tmps).run Try.prog W = .ok (condV x) W :=
  results_cell_row h tmps W k _ _ _ _ hp hz Try.underlying24 rfl sizeCond
theorem setN_row {W : World} {k : Nat} {y : CV} (m : Int) (hz : W.heap[k]? = some (.cells (condC y) 24 (0, 0))) : (W.setCell ⟨k, 2, none⟩ (.int .u8 m)).heap[k]? = some (.cells (condC { y with n := m }) 24 (0, 0)) := by
  rw [heap_setCell_same _ k 2 _ _ (.int .u8 m) hz]
  simp only [condC, List.setIfInBounds_toArray, List.set_cons_succ, List.set_cons_zero]
theorem setV_row {W : World} {k : Nat} {y : CV} (m : Int) (hz : W.heap[k]? = some (.cells (condC y) 24 (0, 0))) : (W.setCell ⟨k, 3, none⟩ (.int .u8 m)).heap[k]? = some (.cells (condC { y with v := m }) 24 (0, 0)) := by
  rw [heap_setCell_same _ k 3 _ _ (.int .u8 m) hz]
  simp only [condC, List.setIfInBounds_toArray, List.set_cons_succ, List.set_cons_zero]
/-- A condition without parts, as a value. -/
def leafV : PX.CondD → Value
  | .mk k t n v _ => condV { k := k, t := t, n := n, v := v }

set_option maxRecDepth 100000 in
set_option maxHeartbeats 16000000 in
theorem truth_any (b : Nat) (s : PX.S) (h : Hd) (w : World) (L : LS w b s h) :
    Calls Try.prog 98 #[.pointer (some ⟨b, 0, none⟩)] w (Ends1 w b h leafV (PX.truth s)) := by
  have hbl := L.ps.lt
  have hgl := L.ps.g_lt
  have U0 := ((Tr.start L).alloc (.cells #[.int .u8 0, .int .u8 0, .int .u8 0, .int .u8 0, .slice none 0 0] 24)).alloc (.cells #[.string ⟨#[116, 114, 117, 101]⟩] 9)
  have z0 := row_alloc (newCond w) (.cells #[.string ⟨#[116, 114, 117, 101]⟩] 9)
  have C1 := take_any b s h _ [PX.kTrue] _ U0.ls.ps (strSl_one _ _) (symsOk_bs (by decide))
  simp only [World.size_alloc] at C1
  have e0 : PX.truth s = (PX.take [PX.kTrue] s).bind fun _ s => .ok (.mk 0 0 0 0 []) s := rfl
  replace e0 := Lib.hid e0
  replace C1 := Lib.hid C1
  replace U0 := Lib.hid U0
  replace z0 := Lib.hid z0
  go_enter Try.func98, Try.ntmps98
  go_wp2_with (first
    | (go_at_call 65; refine call0 C1.out (fun t s1 w1 hx1 F1 P1 => ?_) (fun pl er w1 hx F => ⟨rfl, Ends1.bad (U0.out.fr.trans F.up) (by rw [e0.out, hx]; rfl)⟩)
       dsimp only [tokV]
       have U1 := U0.out.step0 F1 (mv_take hx1) P1
       have z1 := F1.box z0.out (by omega) (by simp)
       obtain ⟨v0, v1, v2, v3, v4⟩ := row_cond z1
       have fv := fun j => frozen_of_row _ _ j _ _ z1))
  refine bodyPost_ret (v := leafV (.mk 0 0 0 0 [])) (cond_results rfl _ _ w.heap.size { k := 0 } rfl (setCond_row { k := 0 } z1)) rfl (Tr.ok (U1.setCond (Nat.le_refl _) hbl hgl { k := 0 } z1) ?_)
  rw [e0.out, hx1]
  rfl

set_option maxRecDepth 100000 in
set_option maxHeartbeats 16000000 in
theorem locCond_any (b : Nat) (s : PX.S) (h : Hd) (w : World) (L : LS w b s h) :
    Calls Try.prog 97 #[.pointer (some ⟨b, 0, none⟩)] w (Ends1 w b h leafV (PX.locCond s)) := by
  have hbl := L.ps.lt
  have hgl := L.ps.g_lt
  have U0 := (Tr.start L).alloc (.cells #[.int .u8 0, .int .u8 0, .int .u8 0, .int .u8 0, .slice none 0 0] 24)
  have z0 := newCond w
  have C1 := Lib.hid (loc_any b s h _ U0.ls)
  have C2 := Lib.hid fun s g W (p : PS (W.alloc (.cells #[.string ⟨#[61]⟩] 9)) b s g) => take_any b s g _ [PX.gEq] _ p (strSl_one W _) (symsOk_bs (by decide))
  have C3 := Lib.hid fun s g W (p : PS W b s g) => PP.num_any b s g W p
  have e0 : PX.locCond s = (PX.loc s).bind fun n s => (PX.take [PX.gEq] s).bind fun _ s => (PX.num s).bind fun v s => .ok (.mk 2 0 n v []) s := rfl
  replace e0 := Lib.hid e0
  replace U0 := Lib.hid U0
  replace z0 := Lib.hid z0
  go_enter Try.func97, Try.ntmps97
  go_wp2_with (first
    | (go_at_call 76; refine call1 C1.out (fun n s1 w1 vl vi hx1 F1 L1 => ?_) (fun pl er w1 hx F => ⟨rfl, Ends1.bad (U0.out.fr.trans F) (by rw [e0.out, hx]; rfl)⟩)
       dsimp only
       have z1 := F1.box z0.out (by omega) condT1
       have hs1 := lt_of_heap z1
       have U1 := ((U0.out.step1 F1 L1).alloc (.cells (condC { k := 2, n := n }) 24)).alloc (.cells #[.string ⟨#[61]⟩] 9)
       have x1 := row_alloc (heap_alloc_new w1 (.cells (condC { k := 2, n := n }) 24)) (.cells #[.string ⟨#[61]⟩] 9)
       replace z1 := row_alloc (row_alloc z1 (.cells (condC { k := 2, n := n }) 24)) (.cells #[.string ⟨#[61]⟩] 9)
       have c2 := C2.out _ _ (w1.alloc (.cells (condC { k := 2, n := n }) 24)) U1.ls.ps
       simp only [World.size_alloc] at c2
       unfold condC at c2
       replace c2 := Lib.hid c2
       replace U1 := Lib.hid U1)
    | (go_at_call 65; refine call0 c2.out (fun t s2 w2 hx2 F2 P2 => ?_) (fun pl er w1 hx F => ⟨rfl, Ends1.bad (U1.out.fr.trans F.up) (by rw [e0.out, hx1]; simp only [PX.R.bind, hx])⟩)
       dsimp only [tokV]
       have U2 := U1.out.step0 F2 (mv_take hx2) P2
       have x2 := F2.box x1 (by omega) (by simp)
       have z2 := F2.box z1 (by omega) (by simp))
    | (go_at_call 77; refine call0 (C3.out _ _ _ U2.ls.ps) (fun v s3 w3 hx3 F3 P3 => ?_) (fun pl er w1 hx F => ⟨rfl, Ends1.bad (U2.fr.trans F.up) (by rw [e0.out, hx1]; simp only [PX.R.bind, hx2, hx])⟩)
       dsimp only
       have U3 := U2.step0 F3 (mv_num hx3) P3
       have x3 := F3.box x2 (by omega) (by simp)
       have z3 := F3.box z2 (by omega) (by simp)
       obtain ⟨y0, y1, y2, y3, y4⟩ := row_cond x3
       obtain ⟨v0, v1, v2, v3, v4⟩ := row_cond z3
       have fz := fun j => frozen_of_row _ _ j _ _ x3
       have fv := fun j => frozen_of_row _ _ j _ _ z3))
  have Z := row_keep (k := w1.heap.size) z3 (by omega) 3 (.int .u8 v)
  refine bodyPost_ret (v := leafV (.mk 2 0 n v [])) (cond_results rfl _ _ w.heap.size { k := 2, n := n, v := v } rfl (setCond_row { k := 2, n := n, v := v } Z)) rfl (Tr.ok ((U3.setC (k := w1.heap.size) (by omega) hbl hgl x3 3 (.int .u8 v)).setCond (Nat.le_refl _) hbl hgl { k := 2, n := n, v := v } Z) ?_)
  rw [e0.out, hx1]
  simp only [PX.R.bind, hx2, hx3]

set_option maxRecDepth 100000 in
set_option maxHeartbeats 16000000 in
theorem regCond_any (b : Nat) (s : PX.S) (h : Hd) (w : World) (L : LS w b s h) :
    Calls Try.prog 96 #[.pointer (some ⟨b, 0, none⟩)] w (Ends1 w b h leafV (PX.regCond s)) := by
  have hbl := L.ps.lt
  have hgl := L.ps.g_lt
  have U0 := (Tr.start L).alloc (.cells #[.int .u8 0, .int .u8 0, .int .u8 0, .int .u8 0, .slice none 0 0] 24)
  have z0 := newCond w
  have C1 := Lib.hid fun s g W (p : PS W b s g) => PP.num_any b s g W p
  have C2 := Lib.hid fun s g W (p : PS (W.alloc (.cells #[.string ⟨#[58]⟩] 9)) b s g) => take_any b s g _ [PX.gColon] _ p (strSl_one W _) (symsOk_bs (by decide))
  have C3 := Lib.hid fun s g W (p : PS W b s g) => PP.reg_any b s g W p
  have C4 := Lib.hid fun s g W (p : PS (W.alloc (.cells #[.string ⟨#[61]⟩] 9)) b s g) => take_any b s g _ [PX.gEq] _ p (strSl_one W _) (symsOk_bs (by decide))
  have e0 : PX.regCond s = (PX.num s).bind fun t s => (PX.take [PX.gColon] s).bind fun _ s => (PX.reg s).bind fun n s => (PX.take [PX.gEq] s).bind fun _ s => (PX.num s).bind fun v s => .ok (.mk 1 t n v []) s := rfl
  replace e0 := Lib.hid e0
  replace U0 := Lib.hid U0
  replace z0 := Lib.hid z0
  go_enter Try.func96, Try.ntmps96
  go_wp2_with (first
    | (go_at_call 77; have V := z4; refine call0 (C1.out _ _ _ U4.ls.ps) (fun v s5 w5 hx5 F5 P5 => ?_) (fun pl er w1 hx F => ⟨rfl, Ends1.bad (U4.fr.trans F.up) (by rw [e0.out, hx1]; simp only [PX.R.bind, hx2, hx3, hx4, hx])⟩)
       dsimp only
       have U5 := U4.step0 F5 (mv_num hx5) P5
       have x5 := F5.box x4 (by omega) (by simp)
       have z5 := F5.box z4 (by omega) (by simp)
       obtain ⟨y0, y1, y2, y3, y4⟩ := row_cond x5
       obtain ⟨v0, v1, v2, v3, v4⟩ := row_cond z5
       have fz := fun j => frozen_of_row _ _ j _ _ x5
       have fv := fun j => frozen_of_row _ _ j _ _ z5)
    | (go_at_call 77; refine call0 (C1.out _ _ _ U0.out.ls.ps) (fun t s1 w1 hx1 F1 P1 => ?_) (fun pl er w1 hx F => ⟨rfl, Ends1.bad (U0.out.fr.trans F.up) (by rw [e0.out, hx]; rfl)⟩)
       dsimp only
       have z1 := F1.box z0.out (by omega) (by simp)
       have hs1 := lt_of_heap z1
       have U1 := ((U0.out.step0 F1 (mv_num hx1) P1).alloc (.cells (condC { k := 1, t := t }) 24)).alloc (.cells #[.string ⟨#[58]⟩] 9)
       have x1 := row_alloc (heap_alloc_new w1 (.cells (condC { k := 1, t := t }) 24)) (.cells #[.string ⟨#[58]⟩] 9)
       replace z1 := row_alloc (row_alloc z1 (.cells (condC { k := 1, t := t }) 24)) (.cells #[.string ⟨#[58]⟩] 9)
       have c2 := C2.out _ _ (w1.alloc (.cells (condC { k := 1, t := t }) 24)) U1.ls.ps
       simp only [World.size_alloc] at c2
       unfold condC at c2
       replace c2 := Lib.hid c2
       replace U1 := Lib.hid U1)
    | (go_at_call 65; have V := z3; refine call0 c4.out (fun u4 s4 w4 hx4 F4 P4 => ?_) (fun pl er w1 hx F => ⟨rfl, Ends1.bad (U3.out.fr.trans F.up) (by rw [e0.out, hx1]; simp only [PX.R.bind, hx2, hx3, hx])⟩)
       dsimp only [tokV]
       have U4 := U3.out.step0 F4 (mv_take hx4) P4
       have x4 := F4.box x3.out (by omega) (by simp)
       have z4 := F4.box z3.out (by omega) (by simp))
    | (go_at_call 65; refine call0 c2.out (fun u2 s2 w2 hx2 F2 P2 => ?_) (fun pl er w1 hx F => ⟨rfl, Ends1.bad (U1.out.fr.trans F.up) (by rw [e0.out, hx1]; simp only [PX.R.bind, hx])⟩)
       dsimp only [tokV]
       have U2 := U1.out.step0 F2 (mv_take hx2) P2
       have x2 := F2.box x1 (by omega) (by simp)
       have z2 := F2.box z1 (by omega) (by simp))
    | (go_at_call 91; refine call0 (C3.out _ _ _ U2.ls.ps) (fun n s3 w3 hx3 F3 P3 => ?_) (fun pl er w1 hx F => ⟨rfl, Ends1.bad (U2.fr.trans F.up) (by rw [e0.out, hx1]; simp only [PX.R.bind, hx2, hx])⟩)
       dsimp only
       have q3 := F3.box x2 (by omega) (by simp)
       have U3 := ((U2.step0 F3 (mv_reg hx3) P3).setC (k := w1.heap.size) (by omega) hbl hgl q3 2 (.int .u8 n)).alloc (.cells #[.string ⟨#[61]⟩] 9)
       have x3 := Lib.hid (row_alloc (setN_row n (y := { k := 1, t := t }) q3) (.cells #[.string ⟨#[61]⟩] 9))
       have z3 := Lib.hid (row_alloc (row_keep (k := w1.heap.size) (F3.box z2 (by omega) (by simp)) (by omega) 2 (.int .u8 n)) (.cells #[.string ⟨#[61]⟩] 9))
       have c4 := C4.out _ _ (w3.setCell ⟨w1.heap.size, 2, none⟩ (.int .u8 n)) U3.ls.ps
       simp only [World.size_setCell] at c4
       replace c4 := Lib.hid c4
       replace U3 := Lib.hid U3
       obtain ⟨y0, y1, y2, y3, y4⟩ := row_cond (x := { k := 1, t := t }) q3
       have fz := fun j => frozen_of_row _ _ j _ _ q3))
  have Z := row_keep (k := w1.heap.size) z5 (by omega) 3 (.int .u8 v)
  refine bodyPost_ret (v := leafV (.mk 1 t n v [])) (cond_results rfl _ _ w.heap.size { k := 1, t := t, n := n, v := v } rfl (setCond_row { k := 1, t := t, n := n, v := v } Z)) rfl (Tr.ok ((U5.setC (k := w1.heap.size) (by omega) hbl hgl x5 3 (.int .u8 v)).setCond (Nat.le_refl _) hbl hgl { k := 1, t := t, n := n, v := v } Z) ?_)
  rw [e0.out, hx1]
  simp only [PX.R.bind, hx2, hx3, hx4, hx5]
end PP
end Go.Proofs.Ytijipgiclkkfhaa
end
