/- ParJoinLaw in one text, for the claim. -/
import Derived.Test.YtglbmiadgdadfaaPd12
import Derived.Test.YtglbmiadgdadfaaPd11
import Derived.Test.YtglbmiadgdadfaaPd10

section
/- ParseJoins is true of any two texts and any locations. -/
namespace Go.Proofs.Ytglbmiadgdadfaa
open Go.RowKit Go.Shelf
open Go.BigFrame

attribute [local go_sem] Oper.semAt_some
namespace PP
theorem same_refl : ∀ l : List TokD, PX.SameT PX.AnyP l l
  | [] => trivial
  | _ :: l => ⟨⟨rfl, rfl, trivial⟩, same_refl l⟩
theorem readC_bad {s : ByteArray} {l : List ByteArray} {p x : Int} (h : readC s l = .bad p x) : x ≠ 0 := by
  rw [readC_eq] at h
  split at h
  · have := PX.sim_onlyCond (A := PX.AnyP) (s := PX.start s l false) (s' := PX.start s l false) ⟨same_refl _, trivial, rfl, rfl, rfl, rfl, rfl, rfl, rfl, rfl⟩
    rw [h] at this
    exact this.2.2
  · rename_i he
    injection h with _ h
    omega
/-- A condition's five cells. -/
structure C5 where
  k : Int
  t : Int
  n : Int
  v : Int
  a : Option Addr
  l : Nat
  p : Nat
def C5.cv (x : C5) : CV := ⟨x.k, x.t, x.n, x.v, .slice x.a x.l x.p⟩
def C5.cs (x : C5) : Array Value := #[.int .u8 x.k, .int .u8 x.t, .int .u8 x.n, .int .u8 x.v, .slice x.a x.l x.p]
theorem cv_of {W : World} {x : CV} {c : PX.CondD} (h : CondR W x c) : ∃ y : C5, condV x = .agg y.cs ∧ CondR W y.cv c := by
  obtain ⟨a, n, p, e⟩ := h.slice
  obtain ⟨xk, xt, xn, xv, xu⟩ := x
  simp only at e
  subst e
  exact ⟨⟨xk, xt, xn, xv, a, n, p⟩, rfl, h⟩
/-- What Cond answers: an error's code, or a condition. -/
def CAns (r : PX.R PX.CondD) (W : World) (e : Ending) (w' : World) : Prop :=
  Below W.heap.size W w' ∧ ∃ (y : C5) (p x : Int), e = .returned (.tuple #[.agg y.cs, .int .i64 p, .int .i64 x]) ∧ (∀ c s, r = .ok c s → x = 0 ∧ CondR w' y.cv c) ∧ (∀ q z, r = .bad q z → x = z)
theorem cond_ans (s : ByteArray) (l : List ByteArray) (vl : Value) (w : World) (hl : LocsOk w w.heap.size false vl l) : Calls Try.prog 9 #[.string s, vl] w (CAns (readC s l) w) := by
  refine (cond_any s l vl w hl).mono ?_
  rintro e w' ⟨B, h⟩
  refine ⟨B, ?_⟩
  cases hr : readC s l with
  | ok c st =>
    rw [hr] at h
    obtain ⟨x, rfl, hx⟩ := h
    obtain ⟨y, e1, e2⟩ := cv_of hx
    exact ⟨y, 0, 0, by rw [e1], fun c' s' e => (by cases e; exact ⟨rfl, e2⟩), fun q z e => (by cases e)⟩
  | bad p x =>
    rw [hr] at h
    exact ⟨⟨0, 0, 0, 0, none, 0, 0⟩, p, x, h, fun c s e => (by cases e), fun q z e => (by cases e; rfl)⟩
theorem c5_cells {W : World} {k : Nat} {y : C5} (h : W.heap[k]? = some (.cells y.cs 24 (0, 0))) : W.cell? ⟨k, 0, none⟩ = some (.int .u8 y.k) ∧ W.cell? ⟨k, 1, none⟩ = some (.int .u8 y.t) ∧ W.cell? ⟨k, 2, none⟩ = some (.int .u8 y.n) ∧ W.cell? ⟨k, 3, none⟩ = some (.int .u8 y.v) ∧ W.cell? ⟨k, 4, none⟩ = some (.slice y.a y.l y.p) :=
  ⟨cell_of_row _ _ 0 _ _ _ h, cell_of_row _ _ 1 _ _ _ h, cell_of_row _ _ 2 _ _ _ h, cell_of_row _ _ 3 _ _ _ h, cell_of_row _ _ 4 _ _ _ h⟩
theorem condR_one {W : World} {g : Nat} {x : C5} {c : PX.CondD} (hx : CondR W x.cv c) (hg : W.heap[g]? = some (.cells x.cs 24 (0, 0))) (kind : Int) : CondR W (C5.cv ⟨kind, 0, 0, 0, some ⟨g, 0, none⟩, 1, 1⟩) (.mk kind 0 0 0 [c]) := by
  refine ⟨rfl, rfl, rfl, rfl, some ⟨g, 0, none⟩, 1, rfl, Nat.le_refl _, by unfold maxLen; omega, fun _ => ⟨g, 0, [x.cv], rfl, lt_of_heap hg, fun i j y hy hj U hU => ?_, ⟨x.cv, [], rfl, hx, rfl⟩⟩⟩
  rw [cell_of_row U g _ _ _ _ (hU.trans hg)]
  rcases i with _ | i
  · cases hy
    rcases j with _ | _ | _ | _ | _ | j
    all_goals first | rfl | omega
  · simp at hy
theorem condR_two {W : World} {g : Nat} {x y : C5} {c d : PX.CondD} (hx : CondR W x.cv c) (hy : CondR W y.cv d) (hg : W.heap[g]? = some (.cells #[.int .u8 x.k, .int .u8 x.t, .int .u8 x.n, .int .u8 x.v, .slice x.a x.l x.p, .int .u8 y.k, .int .u8 y.t, .int .u8 y.n, .int .u8 y.v, .slice y.a y.l y.p] 24 (0, 0))) (kind : Int) : CondR W (C5.cv ⟨kind, 0, 0, 0, some ⟨g, 0, none⟩, 2, 2⟩) (.mk kind 0 0 0 [c, d]) := by
  refine ⟨rfl, rfl, rfl, rfl, some ⟨g, 0, none⟩, 2, rfl, Nat.le_refl _, by unfold maxLen; omega, fun _ => ⟨g, 0, [x.cv, y.cv], rfl, lt_of_heap hg, fun i j z hz hj U hU => ?_, ⟨x.cv, [y.cv], rfl, hx, y.cv, [], rfl, hy, rfl⟩⟩⟩
  rw [cell_of_row U g _ _ _ _ (hU.trans hg)]
  rcases i with _ | _ | i
  · cases hz
    rcases j with _ | _ | _ | _ | _ | j
    all_goals first | rfl | omega
  · cases hz
    rcases j with _ | _ | _ | _ | _ | j
    all_goals first | rfl | omega
  · simp at hz
section
variable {a b : ByteArray} {l : List ByteArray} {c d : PX.CondD} {sta stb : PX.S} (ha : readC a l = .ok c sta) (hs : a.size + b.size ≤ 4000)
include ha hs
theorem jj_not : (PX.deep c < 20 → ∃ s1, readC ((⟨#[33, 32, 40]⟩ : ByteArray) ++ tyS (toks a) ++ (⟨#[41]⟩ : ByteArray)) l = .ok (.mk 5 0 0 0 [c]) s1) ∧ (20 ≤ PX.deep c → ∃ p, readC ((⟨#[33, 32, 40]⟩ : ByteArray) ++ tyS (toks a) ++ (⟨#[41]⟩ : ByteArray)) l = .bad p 5) := by
  have h1 := tyS_size a
  refine joins_not ha (by rw [apS, apS, bsOf_tyS]; rfl) ?_
  rw [apN, apN]
  show 3 + _ + 1 ≤ _
  omega
theorem jj_two (hb : readC b l = .ok d stb) (x : UInt8) (k : Int) (hx : (x = 38 ∧ k = 3) ∨ (x = 124 ∧ k = 4)) :
    (max (PX.deep c) (PX.deep d) < 20 → ∃ s1, readC ((⟨#[40]⟩ : ByteArray) ++ tyS (toks a) ++ (⟨#[41, 32, x, 32, 40]⟩ : ByteArray) ++ tyS (toks b) ++ (⟨#[41]⟩ : ByteArray)) l = .ok (.mk k 0 0 0 [c, d]) s1) ∧
    (20 ≤ max (PX.deep c) (PX.deep d) → ∃ p, readC ((⟨#[40]⟩ : ByteArray) ++ tyS (toks a) ++ (⟨#[41, 32, x, 32, 40]⟩ : ByteArray) ++ tyS (toks b) ++ (⟨#[41]⟩ : ByteArray)) l = .bad p 5) := by
  have h1 := tyS_size a
  have h2 := tyS_size b
  refine joins_two ha hb hx (by
    rw [apS, apS, apS, apS, bsOf_tyS, bsOf_tyS]
    show [40] ++ jb (toks a) ++ [41, 32, x, 32, 40] ++ jb (toks b) ++ [41] = _
    simp) ?_
  rw [apN, apN, apN, apN]
  show 1 + _ + 5 + _ + 1 ≤ _
  omega
end
/-- What a joined text answers. -/
theorem joined_ans {r : PX.R PX.CondD} {W : World} {f : Nat} {args : Array Value} {D : Nat} {k : PX.CondD} (h : Calls Try.prog f args W (CAns r W)) (hj : (D < 20 → ∃ s1, r = .ok k s1) ∧ (20 ≤ D → ∃ p, r = .bad p 5)) :
    Calls Try.prog f args W fun e w' => Below W.heap.size W w' ∧ ∃ (y : C5) (p x : Int), e = .returned (.tuple #[.agg y.cs, .int .i64 p, .int .i64 x]) ∧ ((D < 20 → x = 0 ∧ CondR w' y.cv k) ∧ (20 ≤ D → x = 5)) := by
  refine h.mono ?_
  rintro e w' ⟨B, y, p, x, rfl, h1, h2⟩
  refine ⟨B, y, p, x, rfl, fun hD => ?_, fun hD => ?_⟩
  · obtain ⟨s1, e1⟩ := hj.1 hD
    exact h1 _ _ e1
  · obtain ⟨p', e1⟩ := hj.2 hD
    exact h2 _ _ e1
end PP
end Go.Proofs.Ytglbmiadgdadfaa
end
