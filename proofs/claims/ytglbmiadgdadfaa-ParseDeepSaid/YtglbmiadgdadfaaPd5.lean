/- CondSize, ParKeep, ParSim, ParCut in one text, for the claim. -/
import Derived.BigRegion
import Derived.Laws.AppendOwnNone
import Derived.Laws.OwnMore
import Derived.Deep.RegionLaw
import Derived.Deep.RegionLawGrows
import Derived.Deep.DeepCutAuto
import Derived.Test.YtglbmiadgdadfaaPd4

section
/- How many parts a condition has: what lays bounds on its depth. -/
namespace Go.Proofs.Ytglbmiadgdadfaa
open Go.RowKit Go.Shelf

attribute [local go_sem] Oper.semAt_some
namespace PP
mutual
def sizeC : PX.CondD → Nat
  | .mk _ _ _ _ kids => sizeL kids + 1
def sizeL : List PX.CondD → Nat
  | [] => 0
  | c :: l => sizeC c + sizeL l
end
mutual
theorem deep_le_size : ∀ c : PX.CondD, PX.deep c ≤ sizeC c
  | .mk _ _ _ _ kids => by simp only [PX.deep, sizeC]; have := deepL_le_size kids; omega
theorem deepL_le_size : ∀ l : List PX.CondD, PX.deepL l ≤ sizeL l
  | [] => Nat.le_refl _
  | c :: l => by simp only [PX.deepL, sizeL]; have := deep_le_size c; have := deepL_le_size l; omega
end
theorem sizeL_append : ∀ a b : List PX.CondD, sizeL (a ++ b) = sizeL a + sizeL b
  | [], b => by simp [sizeL]
  | c :: a, b => by simp only [List.cons_append, sizeL, sizeL_append a b]; omega
/-- One step of the search: what stands at place i is looked at, and its parts go to the end. -/
theorem size_step {q : List PX.CondD} {i : Nat} {k t n v : Int} {kids : List PX.CondD} (hi : q[i]? = some (.mk k t n v kids)) : i + sizeL (q.drop i) = (i + 1) + sizeL ((q ++ kids).drop (i + 1)) := by
  have hlt := (List.getElem?_eq_some_iff.1 hi).1
  have he := (List.getElem?_eq_some_iff.1 hi).2
  rw [List.drop_eq_getElem_cons hlt, he, List.drop_append_of_le_length (by omega), sizeL_append]
  simp only [sizeL, sizeC]
  omega
/-- What SizeCond has found at place i. -/
def Found (c : PX.CondD) (M : Nat) (q : List PX.CondD) (i : Nat) : Prop := M ≤ q.length ∨ sizeC c = i + sizeL (q.drop i)
theorem found_start (c : PX.CondD) (M : Nat) : Found c M [c] 0 := .inr (by simp [sizeL])
theorem found_step {c : PX.CondD} {M : Nat} {q : List PX.CondD} {i : Nat} (h : Found c M q i) (hM : q.length < M) {k t n v : Int} {kids : List PX.CondD} (hi : q[i]? = some (.mk k t n v kids)) : Found c M (q ++ kids.take (min kids.length M)) (i + 1) := by
  rcases h with h | h
  · omega
  by_cases hk : kids.length ≤ M
  · right
    rw [Nat.min_eq_left hk, List.take_length, h]
    exact size_step hi
  · left
    rw [List.length_append, List.length_take]
    omega
theorem found_end {c : PX.CondD} {M : Nat} {q : List PX.CondD} (h : Found c M q q.length) (hM : q.length < M) : sizeC c = q.length := by
  rcases h with h | h
  · omega
  · rw [h, List.drop_length]; simp [sizeL]
theorem run_append_zero {P : Program} {w : World} (base : Nat) (t ty e : TypeId) (i : TypeInfo) (size : Nat) (ht : P.underlying t = some (.slice e)) (hi : P.info? e = some i)
    (v : Value) (n : Nat) (xs : List Value) (hown : w.ownsRow base e size v n xs) (o : Option Addr) (c : Nat) :
    (Builtin.append_ #[t, t] ty #[v, .slice o 0 c]).run P w = .ok v w := by
  rcases hown.2 with ⟨rfl, rfl⟩ | ⟨g, cap, cur, rfl, _, _, hnc, _⟩
  · cases o <;> simp [Builtin.append_, run_underlying ht, sizeOf, typeInfo, hi, Builtin.lenOf, Builtin.firstCells, loadCells, loadCellsFrom, storeCells]
  · cases o <;> simp [Builtin.append_, run_underlying ht, sizeOf, typeInfo, hi, Builtin.lenOf, Builtin.firstCells, hnc, storeCells, loadCells, loadCellsFrom]
/-- Nothing is appended. -/
theorem step_append_zero {P : Program} {ops : Array Oper} {o : Oper} {a : Act} {w : World} {K : Act → World → Prop} {Q : Exit → Act → World → Prop} {E : Prop}
    (hg : o.guard = none) (s x : Operand) (t : TypeId) (hop : o.op = Op.call { callee := Callee.builtin Builtin.append, args := #[s, x], argTypes := #[t, t] })
    (base : Nat) (e : TypeId) (i : TypeInfo) (size : Nat) (ht : P.underlying t = some (.slice e)) (hi : P.info? e = some i)
    (v : Value) (n : Nat) (xs : List Value) (hs : a.eval s = v) (hown : w.ownsRow base e size v n xs) (q : Option Addr) (c : Nat) (hx : a.eval x = .slice q 0 c)
    (h : K (a.put o.dst v) w) : if Region.wanted o (yielded ops a.tmps) = true then Oper.wp P o a w K Q else E := by
  have hw : Region.wanted o (yielded ops a.tmps) = true := by simp [Region.wanted, hg]
  rw [if_pos hw]
  have hrun := run_append_zero (P := P) (w := w) base t o.type e i size ht hi v n xs hown q c
  unfold Oper.wp
  simp [execOp, hop, resolve, invoke, builtin, hs, hx, hrun, Result.andThen]
  exact h
theorem elemConds : Try.prog.underlying 22 = some (.slice (Try.prog.elem 22)) := by kernel_rfl
theorem sizeConds (w : World) : (sizeOf (Try.prog.elem 22)).run Try.prog w = .ok 5 w := by kernel_rfl
theorem slice_kids (a : Option Addr) (n c k : Nat) (hk : k ≤ c) (w : World) :
    (Instr.slice 22 (.slice a n c) none (some (.int .i64 (k : Int))) none).run Try.prog w = .ok (.slice a k c) w := by
  rw [run_slice_h w 22 a n c elemConds .i64 (k : Int) (by omega) (by omega), sizeConds]
  cases a <;> simp [Result.andThen, sliced, Addr.add]
theorem kidsR_append {W : World} : ∀ (a : List PX.CondD) (ya : List CV) {b : List PX.CondD} {yb : List CV}, KidsR W ya a → KidsR W yb b → KidsR W (ya ++ yb) (a ++ b)
  | [], _, b, yb, h, k => by cases h; simpa using k
  | c :: l, ys, b, yb, h, k => by
    obtain ⟨y, yr, rfl, h1, h2⟩ := h
    exact ⟨y, yr ++ yb, rfl, h1, kidsR_append l yr h2 k⟩
theorem kidsR_take {W : World} : ∀ (n : Nat) (l : List PX.CondD) (ys : List CV), KidsR W ys l → KidsR W (ys.take n) (l.take n)
  | 0, l, ys, _ => by simp [KidsR]
  | n + 1, [], ys, h => by cases h; simp [KidsR]
  | n + 1, c :: l, ys, h => by
    obtain ⟨y, yr, rfl, h1, h2⟩ := h
    exact ⟨y, yr.take n, rfl, h1, kidsR_take n l yr h2⟩
theorem cellsC_append (a b : List CV) : cellsC (a ++ b) = cellsC a ++ cellsC b := by unfold cellsC; simp
theorem cellsC_get {ys : List CV} {j : Nat} {u : Value} (h : (cellsC ys)[j]? = some u) : ∃ y, ys[j / 5]? = some y ∧ (condC y)[j % 5]? = some u := by
  have hj := (List.getElem?_eq_some_iff.1 h).1
  rw [cellsC_length] at hj
  have h5 : j / 5 < ys.length := by omega
  refine ⟨ys[j / 5], List.getElem?_eq_getElem h5, ?_⟩
  rw [← cellsC_at ys (j / 5) (j % 5) _ (List.getElem?_eq_getElem h5) (by omega), show j / 5 * 5 + j % 5 = j by omega]
  exact h
theorem condC_one (y : CV) (hy : ∃ a n c, y.u = .slice a n c) : ∀ u ∈ (condC y).toList, u.oneCell' = true := by
  obtain ⟨a, n, c, e⟩ := hy
  intro u hu
  simp only [condC, List.mem_cons, List.not_mem_nil, or_false] at hu
  rcases hu with rfl | rfl | rfl | rfl | rfl
  any_goals rfl
  rw [e]; rfl
set_option maxRecDepth 100000 in
set_option maxHeartbeats 8000000 in
theorem size_any (c : PX.CondD) (x : CV) (M : Nat) (w : World) (hM : M ≤ 100000) (h1 : 1 ≤ M) (h : CondR w x c) :
    Calls Try.prog 5 #[condV x, .int .i64 M] w fun e w' => (∃ r : Nat, e = .returned (.int .i64 r) ∧ r ≤ M ∧ (r < M → sizeC c = r)) ∧ Below w.heap.size w w' := by
  obtain ⟨ua, ul, uc, hu⟩ := h.slice
  obtain ⟨xk, xt, xn, xv, xu⟩ := x
  simp only at hu
  subst hu
  have z0 := heap_alloc_new w (.cells (condC ⟨xk, xt, xn, xv, .slice ua ul uc⟩) 24)
  obtain ⟨c0, c1, c2, c3, c4⟩ := row_cond z0
  have O0 := World.ownsRow_lit (base := w.heap.size) (size := 5) (e := 24) (w.alloc (.cells (condC ⟨xk, xt, xn, xv, .slice ua ul uc⟩) 24)) (condC ⟨xk, xt, xn, xv, .slice ua ul uc⟩) 1 (by simp) (by unfold maxLen; omega) rfl
  have B0 := ((Below.refl w.heap.size w).alloc (Nat.le_refl _) (.cells (condC ⟨xk, xt, xn, xv, .slice ua ul uc⟩) 24)).alloc (by simp) (.cells (condC ⟨xk, xt, xn, xv, .slice ua ul uc⟩) 24)
  have O1 : ((w.alloc (.cells (condC ⟨xk, xt, xn, xv, .slice ua ul uc⟩) 24)).alloc (.cells (condC ⟨xk, xt, xn, xv, .slice ua ul uc⟩) 24)).ownsRow w.heap.size 24 5 (.slice (some ⟨w.heap.size + 1, 0, none⟩) 1 1) 1 (cellsC [⟨xk, xt, xn, xv, .slice ua ul uc⟩]) := by
    have e : cellsC [⟨xk, xt, xn, xv, .slice ua ul uc⟩] = (condC ⟨xk, xt, xn, xv, .slice ua ul uc⟩).toList := by simp [cellsC]
    rw [e]
    rw [World.size_alloc] at O0
    exact O0
  have K0 : KidsR w [⟨xk, xt, xn, xv, .slice ua ul uc⟩] [c] := ⟨_, [], rfl, h, rfl⟩
  unfold condC at B0 O1 c0 c1 c2 c3 c4
  unfold condV
  simp only at B0 O1 c0 c1 c2 c3 c4 ⊢
  clear z0 O0
  replace B0 := Lib.hid B0
  replace O1 := Lib.hid O1
  replace K0 := Lib.hid K0
  go_enter Try.func5, Try.ntmps5
  go_wp2_with fail
  go_loopw [5, 6] (fun v i wr => ∃ (q : List PX.CondD) (ys : List CV) (k g cap : Nat), k ≤ q.length ∧ q.length ≤ 2 * M ∧ 1 ≤ q.length ∧ i = .int .i64 (k : Int) ∧ v = .slice (some ⟨g, 0, none⟩) q.length cap ∧
    Hid (wr.ownsRow w.heap.size 24 5 v q.length (cellsC ys)) ∧ Hid (KidsR w ys q) ∧ Hid (Found c M q k) ∧ Hid (Below w.heap.size w wr)) (fun v i _ => 3 * M - (intOf i).toNat)
  case atStart => exact ⟨[c], [⟨xk, xt, xn, xv, .slice ua ul uc⟩], 0, _, _, by simp, by simp; omega, by simp, rfl, rfl, O1, K0, Lib.hid (found_start c M), B0⟩
  case round =>
    obtain ⟨q, ys, k, g, cap, hk, h2M, hq1, rfl, rfl, hO, hK, hF, hB⟩ := hrel
    obtain ⟨N, hN⟩ : ∃ N, q.length = N := ⟨_, rfl⟩
    rw [hN] at hk h2M hq1 hO ⊢
    by_cases hlt : k < N
    · have t1 : decide (k < N) = true := by simpa using hlt
      by_cases hNM : N < M
      · have t2 : decide (N < M) = true := by simpa using hNM
        obtain ⟨d, hd⟩ : ∃ d, q[k]? = some d := ⟨q[k]'(by omega), List.getElem?_eq_getElem (by omega)⟩
        obtain ⟨y, hy, hR⟩ := KidsR.at q ys hK.out k d hd
        obtain ⟨dk, dt, dn, dv, kids⟩ := d
        have hF2 := Lib.hid (found_step hF.out (by omega) hd)
        obtain ⟨-, -, -, -, a, cp, hu, hle, hmx, hkid⟩ := hR
        have hc4 : wr.cell? ⟨g, k * 5 + 4, none⟩ = some (.slice a kids.length cp) := by
          rw [hO.out.cellAt (k * 5 + 4) (by omega), cellsC_at ys k 4 y hy (by omega)]
          show some y.u = _
          rw [hu]
        obtain ⟨i0, hi0, hy0, hy1, hy2⟩ := infoCond
        have hown9 : w.heap.size ≤ g ∧ g < wr.heap.size := by
          rcases hO.out.2 with ⟨h0, _⟩ | ⟨g', c', cur, e1, e2, e3, _⟩
          · cases h0
          · have : g = g' := by injection e1 with e1; injection e1 with e1; injection e1
            subst this
            exact ⟨e2, (Array.getElem?_eq_some_iff.1 e3).1⟩
        have hBw := hB.out.size
        by_cases hn : kids.length = 0
        · have hnil : kids = [] := List.eq_nil_of_length_eq_zero hn
          subst hnil
          clear hkid hn hu hy hd
          replace hown9 := Lib.hid hown9
          have hO2 := Lib.hid hO.out.drew
          have hsl := fun W => slice_kids a 0 cp 0 (Nat.zero_le _) W
          have hm0 : ((M : Int) < 0) = False := by simp
          simp only [Int.ofNat_zero, List.length_nil] at hsl
          go_wp2_with fail
          go_region_law (first
            | (refine step_append_zero rfl (.tmp 21) (.tmp 35) 22 rfl w.heap.size 24 i0 5 Try.underlying22 hi0 (.slice (some ⟨g, 0, none⟩) N cap) N (cellsC ys) rfl hO2.out _ _ rfl ?_))
          all_goals
            go_wp2
            go_roundw
            case rel => exact ⟨q, ys, k + 1, g, cap, by omega, by omega, by omega, by go_num, by rw [hN], by rw [hN]; exact hO2, hK, Lib.hid (by simpa using hF2.out), Lib.hid hB.out.drew⟩
            case measure => simp [intOf]; omega
        · obtain ⟨g', off', kys, rfl, hg', hcells, hkk⟩ := hkid (by omega)
          have hlk := KidsR.length kids kys hkk
          obtain ⟨K, hK0⟩ : ∃ K, min kids.length M = K := ⟨_, rfl⟩
          obtain ⟨n, hnn⟩ : ∃ n, kids.length = n := ⟨_, rfl⟩
          have hnews : Hid (∀ W, Below w.heap.size w W → ∀ (j : Nat) (u : Value), (cellsC (kys.take K))[j]? = some u → W.cell? ((⟨g', off', none⟩ : Addr).add j) = some u) := Lib.hid fun W B j u hj => by
            obtain ⟨z, hz1, hz2⟩ := cellsC_get hj
            rw [List.getElem?_take] at hz1
            split at hz1
            · rw [Go.WideShapes.add_plain, ← hz2, ← hcells (j / 5) (j % 5) z hz1 (by omega) W (B.block _ hg'), show off' + j / 5 * 5 + j % 5 = off' + j by omega]
            · cases hz1
          have hone : Hid (∀ u ∈ cellsC (kys.take K), u.oneCell' = true) := Lib.hid fun u hu => by
            unfold cellsC at hu
            obtain ⟨z, hz, hu⟩ := List.mem_flatMap.1 hu
            obtain ⟨j, hj, rfl⟩ := List.mem_iff_getElem.1 (List.mem_of_mem_take hz)
            obtain ⟨z', h1, h2⟩ := KidsR.at kids kys hkk j kids[j] (List.getElem?_eq_getElem (by omega))
            rw [List.getElem?_eq_getElem hj] at h1
            cases h1
            exact condC_one _ h2.slice u hu
          have hKn : K ≤ n := by omega
          have hKM : K ≤ M := by omega
          have hlen : (cellsC (kys.take K)).length = K * 5 := by rw [cellsC_length, List.length_take]; congr 1; omega
          have hKids : Hid (KidsR w (ys ++ kys.take K) (q ++ kids.take K)) := Lib.hid (kidsR_append q ys hK.out (kidsR_take K kids kys hkk))
          have hlq : (q ++ kids.take K).length = N + K := by rw [List.length_append, List.length_take, hN]; congr 1; omega
          rw [hK0] at hF2
          rw [hnn] at hc4 hle
          have hO2 := Lib.hid hO.out.drew
          have hB2 := Lib.hid hB.out.drew
          have hnew2 : Hid (∀ (j : Nat) (u : Value), (cellsC (kys.take K))[j]? = some u → wr.drew.cell? ((⟨g', off', none⟩ : Addr).add j) = some u) := Lib.hid (hnews.out _ hB2.out)
          have hsl := fun W => slice_kids (some ⟨g', off', none⟩) n cp K (by omega) W
          have hmin : (if M < n then (M : Int) else (n : Int)) = (K : Int) := by
            split <;> omega
          clear hd hy hu hkid hcells hkk hlk hK0 hnn hnews hO hK
          replace hlen := Lib.hid hlen
          replace hlq := Lib.hid hlq
          replace hown9 := Lib.hid hown9
          go_wp2_with fail
          go_region_law (first
            | (refine step_append_rows rfl (.tmp 21) (.tmp 35) 22 rfl w.heap.size 24 i0 _ 5 32 Try.underlying22 hi0 hy0 hy1 hy2 rfl (by decide) (.slice (some ⟨g, 0, none⟩) N cap) N (cellsC ys) rfl hO2.out ⟨g', off', none⟩ K cp (cellsC (kys.take K)) rfl hlen.out hnew2.out hone.out (by unfold maxLen; omega) (by omega) hB2.out.size ?_
               intro v2 w5 hown2 hgrow2 hnil2))
          all_goals
            rcases row_form hown2 with ⟨-, h0⟩ | ⟨g2, cap2, rfl⟩
            · omega
            have hown3 := Lib.hid hown2
            have hB5 := Lib.hid (hB2.out.grown hgrow2 hB2.out.size (fun j hj => by have := hown9.out; cases hj; exact this.1))
            clear hown2 hgrow2 hnil2 hsl hmin hc4 hO2 hnew2 hone
            go_wp2
            go_roundw
            case rel => exact ⟨q ++ kids.take K, ys ++ kys.take K, k + 1, g2, cap2, by rw [hlq.out]; omega, by rw [hlq.out]; omega, by rw [hlq.out]; omega, by go_num, by rw [hlq.out], by rw [hlq.out, cellsC_append]; exact hown3, hKids, hF2, hB5⟩
            case measure => simp [intOf]; omega
      · have t2 : decide (N < M) = false := by simpa using hNM
        clear hO hK hF
        go_wp2
        all_goals go_ret
        all_goals exact ⟨⟨_, rfl, by omega, fun h => by omega⟩, hB.out⟩
    · obtain rfl : k = N := by omega
      have t1 : decide (k < k) = false := by simp
      rw [← hN] at hF
      have hE : Hid (k < M → sizeC c = k) := Lib.hid fun hl => by rw [← hN]; exact found_end hF.out (by omega)
      clear hO hK hF hN
      go_wp2
      all_goals go_ret
      all_goals exact ⟨⟨_, rfl, by omega, fun h => by first | exact hE.out (by omega) | omega⟩, hB.out⟩
end PP
end Go.Proofs.Ytglbmiadgdadfaa
end

section
/- What every part of the parser keeps: pure. -/
namespace Go.Proofs.Ytglbmiadgdadfaa
open Go Go.RowKit
namespace PX
/-- What holds of an answer that is no error. -/
def Post {α : Type} (Q : α → S → Prop) (r : R α) : Prop := ∀ a s, r = .ok a s → Q a s
theorem Post.ok {α : Type} {Q : α → S → Prop} {a : α} {s : S} (h : Q a s) : Post Q (.ok a s) := fun _ _ e => by cases e; exact h
theorem Post.bad {α : Type} {Q : α → S → Prop} {p e : Int} : Post Q (.bad p e : R α) := fun _ _ e => by cases e
theorem Post.bind {α β : Type} {Q : α → S → Prop} {Q' : β → S → Prop} {r : R α} {f : α → S → R β} (h : Post Q r) (hf : ∀ a s, Q a s → Post Q' (f a s)) : Post Q' (r.bind f) := by
  intro b s' e
  cases r with
  | ok a s => exact hf a s (h a s rfl) b s' e
  | bad p x => cases e
theorem Post.mono {α : Type} {Q Q' : α → S → Prop} {r : R α} (h : Post Q r) (hq : ∀ a s, Q a s → Q' a s) : Post Q' r := fun a s e => hq a s (h a s e)
theorem Post.and {α : Type} {Q Q' : α → S → Prop} {r : R α} (h : Post Q r) (h' : Post Q' r) : Post (fun a s => Q a s ∧ Q' a s) r := fun a s e => ⟨h a s e, h' a s e⟩
/-- What taking a token, or making a location of it, leaves as it is. -/
structure Stb (P : S → Prop) : Prop where
  rest : ∀ s, P s → P { s with rest := s.rest.tail }
  grow : ∀ s, P s → sy (next s) = sNAME → s.rest ≠ [] → s.opn = true → s.locs.length ≠ 6 → s.locs.idxOf? (next s).x = none → P { s with rest := s.rest.tail, locs := s.locs ++ [(next s).x], init := s.init ++ [0] }
theorem next_empty {s : S} (h : s.rest = []) : sy (next s) = sNo := by
  unfold next sy; rw [h]; rfl
section
variable {P : S → Prop} (st : Stb P)
include st
theorem keep_takeIf (f : Bool) (s : S) (h : P s) : Post (fun _ s' => P s') (takeIf f s) := by
  unfold takeIf
  split
  · exact .ok (st.rest s h)
  · exact .bad
theorem keep_take (l : List ByteArray) (s : S) (h : P s) : Post (fun _ s' => P s') (take l s) := keep_takeIf st _ s h
theorem keep_takes (x : ByteArray) (s : S) (h : P s) : Post (fun _ s' => P s') (takes x s) := by
  unfold takes
  split
  · exact (keep_take st _ s h).bind fun _ s' h' => .ok h'
  · exact .ok h
theorem keep_takeWord (s : S) (h : P s) : Post (fun _ s' => P s') (takeWord s) := keep_takeIf st _ s h
theorem keep_takeLast (s : S) (h : P s) : Post (fun _ s' => P s') (takeLast s) := (keep_take st _ s h).bind fun _ s' h' => by
  split
  · exact .ok h'
  · exact .bad
theorem keep_num (s : S) (h : P s) : Post (fun _ s' => P s') (num s) := (keep_take st _ s h).bind fun _ _ h' => .ok h'
theorem keep_reg (s : S) (h : P s) : Post (fun _ s' => P s') (reg s) := (keep_take st _ s h).bind fun _ _ h' => .ok h'
theorem keep_arg (s : S) (h : P s) : Post (fun _ s' => P s') (arg s) := by
  unfold arg
  split
  · exact (keep_reg st s h).bind fun _ _ h' => .ok h'
  · exact (keep_num st s h).bind fun _ _ h' => .ok h'
theorem keep_loc (s : S) (h : P s) : Post (fun _ s' => P s') (loc s) := by
  unfold loc take takeIf
  split
  · rename_i hf
    have hsy : sy (next s) = sNAME := by
      unfold isS at hf
      simp only [List.any_cons, List.any_nil, Bool.or_false] at hf
      exact (by rw [PP.bbeq] at hf; exact (of_decide_eq_true hf).symm)
    have hne : s.rest ≠ [] := fun e => by
      rw [next_empty e] at hsy; revert hsy; decide
    simp only [R.bind]
    split
    · exact .ok (st.rest s h)
    · rename_i hi
      refine Post.bind (Q := fun _ s' => P s') ?_ fun _ _ h' => .ok h'
      unfold addLoc
      simp only
      by_cases ho : s.opn = true
      · rw [if_pos ho]
        by_cases h6 : s.locs.length = 6
        · rw [if_pos h6]; exact .bad
        · rw [if_neg h6]
          exact .ok (st.grow s h hsy hne ho h6 hi)
      · rw [if_neg ho]; exact .bad
  · exact .bad
theorem keep_operation (l : List ByteArray) (s : S) (h : P s) : Post (fun _ s' => P s') (operation l s) :=
  (keep_arg st s h).bind fun _ s h => (keep_take st l s h).bind fun _ s h => (keep_arg st s h).bind fun _ _ h => .ok h
theorem keep_store (s : S) (h : P s) : Post (fun _ s' => P s') (store s) :=
  (keep_loc st s h).bind fun _ s h => (keep_take st _ s h).bind fun _ s h => (keep_arg st s h).bind fun _ s h => (keep_takes st _ s h).bind fun _ _ h => .ok h
theorem keep_fence (s : S) (h : P s) : Post (fun _ s' => P s') (fence s) :=
  (keep_take st _ s h).bind fun _ s h => (keep_takes st _ s h).bind fun a s h => by
    split
    · exact .ok h
    · exact (keep_takes st _ s h).bind fun _ _ h => .ok h
theorem keep_skip (s : S) (h : P s) : Post (fun _ s' => P s') (skip s) :=
  (keep_take st _ s h).bind fun _ s h => (keep_num st s h).bind fun _ s h => (keep_take st _ s h).bind fun _ s h => (keep_operation st _ s h).bind fun _ _ h => .ok h
theorem keep_load (s : S) (h : P s) : Post (fun _ s' => P s') (load s) :=
  (keep_loc st s h).bind fun _ s h => (keep_takes st _ s h).bind fun _ _ h => .ok h
theorem keep_move (s : S) (h : P s) : Post (fun _ s' => P s') (move s) := (keep_operation st _ s h).bind fun _ _ h => .ok h
theorem keep_swap (s : S) (h : P s) : Post (fun _ s' => P s') (swap s) :=
  (keep_take st _ s h).bind fun _ s h => (keep_loc st s h).bind fun _ s h => (keep_arg st s h).bind fun _ _ h => .ok h
theorem keep_fetch (s : S) (h : P s) : Post (fun _ s' => P s') (fetch s) :=
  (keep_take st _ s h).bind fun _ s h => (keep_loc st s h).bind fun _ s h => (keep_arg st s h).bind fun _ _ h => .ok h
theorem keep_cas (s : S) (h : P s) : Post (fun _ s' => P s') (cas s) :=
  (keep_take st _ s h).bind fun _ s h => (keep_loc st s h).bind fun _ s h => (keep_arg st s h).bind fun _ s h => (keep_arg st s h).bind fun _ _ h => .ok h
theorem keep_source (s : S) (h : P s) : Post (fun _ s' => P s') (source s) := by
  unfold source
  simp only
  split
  · exact keep_load st s h
  split
  · exact keep_move st s h
  split
  · exact keep_move st s h
  split
  · exact keep_swap st s h
  split
  · exact keep_fetch st s h
  split
  · exact keep_cas st s h
  · exact .bad
theorem keep_assignment (s : S) (h : P s) : Post (fun _ s' => P s') (assignment s) :=
  (keep_reg st s h).bind fun _ s h => (keep_take st _ s h).bind fun _ s h => (keep_source st s h).bind fun _ _ h => .ok h
theorem keep_ins (s : S) (h : P s) : Post (fun _ s' => P s') (ins s) := by
  unfold ins
  simp only
  split
  · exact keep_store st s h
  split
  · exact keep_assignment st s h
  split
  · exact keep_fence st s h
  split
  · exact keep_skip st s h
  · exact .bad
theorem keep_more {kid : S → R CondD} (hk : ∀ s, P s → Post (fun _ s' => P s') (kid s)) (g : ByteArray) : ∀ (n : Nat) (acc : List CondD) (s : S), P s → Post (fun _ s' => P s') (more kid g n acc s)
  | 0, acc, s, h => .ok h
  | n + 1, acc, s, h => (keep_takes st g s h).bind fun b s h => by
    split
    · exact (hk s h).bind fun c s h => keep_more hk g n _ s h
    · exact .ok h
theorem keep_series {kid : S → R CondD} (hk : ∀ s, P s → Post (fun _ s' => P s') (kid s)) (g : ByteArray) (kind : Int) (s : S) (h : P s) : Post (fun _ s' => P s') (series kid g kind s) :=
  (hk s h).bind fun _ s h => (keep_more st hk g _ _ s h).bind fun _ _ h => .ok h
theorem keep_regCond (s : S) (h : P s) : Post (fun _ s' => P s') (regCond s) :=
  (keep_num st s h).bind fun _ s h => (keep_take st _ s h).bind fun _ s h => (keep_reg st s h).bind fun _ s h => (keep_take st _ s h).bind fun _ s h => (keep_num st s h).bind fun _ _ h => .ok h
theorem keep_locCond (s : S) (h : P s) : Post (fun _ s' => P s') (locCond s) :=
  (keep_loc st s h).bind fun _ s h => (keep_take st _ s h).bind fun _ s h => (keep_num st s h).bind fun _ _ h => .ok h
theorem keep_truth (s : S) (h : P s) : Post (fun _ s' => P s') (truth s) := (keep_take st _ s h).bind fun _ _ h => .ok h
theorem keep_factor : ∀ (n : Nat) (s : S), P s → Post (fun _ s' => P s') (factor n s)
  | 0, s, h => .bad
  | n + 1, s, h => by
    unfold factor
    simp only
    split
    · exact (keep_take st _ s h).bind fun _ s h => (keep_factor n s h).bind fun _ _ h => .ok h
    split
    · exact (keep_take st _ s h).bind fun _ s h => (keep_series st (fun s h => keep_series st (keep_factor n) _ _ s h) _ _ s h).bind fun _ s h => (keep_take st _ s h).bind fun _ _ h => .ok h
    split
    · exact keep_regCond st s h
    split
    · exact keep_locCond st s h
    split
    · exact keep_truth st s h
    · exact .bad
theorem keep_disj (n : Nat) (s : S) (h : P s) : Post (fun _ s' => P s') (disj n s) := keep_series st (fun s h => keep_series st (keep_factor st n) _ _ s h) _ _ s h
theorem keep_lastCond (p : Int) (s : S) (h : P s) : Post (fun _ s' => P s') (lastCond p s) :=
  (keep_disj st _ s h).bind fun c s h => (keep_takeLast st s h).bind fun _ s h => by
    split
    · exact .bad
    · exact .ok h
end
/-- How deep a condition is that is read. -/
theorem deepL_all {m : Nat} : ∀ (l : List CondD), (∀ c ∈ l, deep c ≤ m) → deepL l ≤ m
  | [], _ => Nat.zero_le _
  | c :: l, h => by
    simp only [deepL]
    have h1 := h c List.mem_cons_self
    have h2 := deepL_all l fun d hd => h d (List.mem_cons_of_mem _ hd)
    omega
theorem deep_more {kid : S → R CondD} {m : Nat} (hk : ∀ s, Post (fun c _ => deep c ≤ m) (kid s)) (g : ByteArray) : ∀ (n : Nat) (acc : List CondD) (s : S), (∀ c ∈ acc, deep c ≤ m) → Post (fun l _ => ∀ c ∈ l, deep c ≤ m) (more kid g n acc s)
  | 0, acc, s, h => .ok h
  | n + 1, acc, s, h => by
    unfold more
    refine Post.bind (Q := fun _ _ => True) (fun _ _ _ => trivial) fun b s _ => ?_
    split
    · refine (hk s).bind fun c s hc => deep_more hk g n _ s fun d hd => ?_
      rcases List.mem_append.1 hd with hd | hd
      · exact h d hd
      · rw [List.mem_singleton.1 hd]; exact hc
    · exact .ok h
theorem deep_series {kid : S → R CondD} {m : Nat} (hk : ∀ s, Post (fun c _ => deep c ≤ m) (kid s)) (g : ByteArray) (kind : Int) (s : S) : Post (fun c _ => deep c ≤ m + 1) (series kid g kind s) := by
  unfold series
  refine (hk s).bind fun c s' hc => (deep_more hk g _ [c] s' fun d hd => by rw [List.mem_singleton.1 hd]; exact hc).bind fun l s'' hl => ?_
  match l, hl with
  | [], _ => exact .ok (by show deepL [] + 1 ≤ _; simp [deepL])
  | [d], hl => exact .ok (by show deep d ≤ _; have := hl d List.mem_cons_self; omega)
  | d :: e :: r, hl => exact .ok (by show deepL (d :: e :: r) + 1 ≤ _; have := deepL_all _ hl; omega)
theorem deep_leafs (s : S) : Post (fun c _ => deep c ≤ 1) (regCond s) ∧ Post (fun c _ => deep c ≤ 1) (locCond s) ∧ Post (fun c _ => deep c ≤ 1) (truth s) := by
  have tr : ∀ {α : Type} (r : R α), Post (fun _ _ => True) r := fun r _ _ _ => trivial
  refine ⟨?_, ?_, ?_⟩
  · exact (tr _).bind fun _ s _ => (tr _).bind fun _ s _ => (tr _).bind fun _ s _ => (tr _).bind fun _ s _ => (tr _).bind fun _ s _ => .ok (Nat.le_refl 1)
  · exact (tr _).bind fun _ s _ => (tr _).bind fun _ s _ => (tr _).bind fun _ s _ => .ok (Nat.le_refl 1)
  · exact (tr _).bind fun _ s _ => .ok (Nat.le_refl 1)
theorem deep_factor : ∀ (n : Nat) (s : S), Post (fun c _ => deep c ≤ 2 * n) (factor n s)
  | 0, s => .bad
  | n + 1, s => by
    have tr : ∀ {α : Type} (r : R α), Post (fun _ _ => True) r := fun r _ _ _ => trivial
    have hl := deep_leafs s
    unfold factor
    simp only
    split
    · exact (tr _).bind fun _ s _ => (deep_factor n s).bind fun c s hc => .ok (by show deepL [c] + 1 ≤ _; simp only [deepL]; omega)
    split
    · exact (tr _).bind fun _ s _ => (deep_series (fun s => deep_series (deep_factor n) _ _ s) _ _ s).bind fun c s hc => (tr _).bind fun _ s _ => .ok (by omega)
    split
    · exact hl.1.mono fun _ _ h => by omega
    split
    · exact hl.2.1.mono fun _ _ h => by omega
    split
    · exact hl.2.2.mono fun _ _ h => by omega
    · exact .bad
theorem deep_disj (n : Nat) (s : S) : Post (fun c _ => deep c ≤ 2 * n + 2) (disj n s) := deep_series (fun s => deep_series (deep_factor n) _ _ s) _ _ s
/-- Only what is still to be read, and the locations with their values, have moved. -/
def Lv (s s' : S) : Prop := s'.opn = s.opn ∧ s'.name = s.name ∧ s'.threads = s.threads ∧ s'.ask = s.ask ∧ s'.cond = s.cond ∧ s'.done = s.done ∧ s'.size = s.size
theorem Lv.refl (s : S) : Lv s s := ⟨rfl, rfl, rfl, rfl, rfl, rfl, rfl⟩
theorem lv_stb (s0 : S) : Stb (Lv s0) := ⟨fun _ h => h, fun _ h _ _ _ _ _ => h⟩
theorem len_stb (n : Nat) : Stb fun s => s.rest.length ≤ n :=
  ⟨fun s h => by show s.rest.tail.length ≤ n; rw [List.length_tail]; omega, fun s h _ _ _ _ _ => by show s.rest.tail.length ≤ n; rw [List.length_tail]; omega⟩
end PX
end Go.Proofs.Ytglbmiadgdadfaa
end

section
/- Parsing goes by the tokens' kinds and texts: their offsets change nothing but an error's own offset. Pure. -/
namespace Go.Proofs.Ytglbmiadgdadfaa
open Go Go.RowKit
namespace PX
/-- The same token, but for its offset; the first one's offset is among A. -/
def TkS (A : Int → Prop) (t t' : TokD) : Prop := t.k = t'.k ∧ t.x = t'.x ∧ A t.p
def SameT (A : Int → Prop) : List TokD → List TokD → Prop
  | [], [] => True
  | t :: l, t' :: l' => TkS A t t' ∧ SameT A l l'
  | _, _ => False
theorem SameT.length {A : Int → Prop} : ∀ {l l' : List TokD}, SameT A l l' → l.length = l'.length
  | [], [], _ => rfl
  | _ :: l, _ :: l', h => by simp [SameT.length h.2]
  | [], _ :: _, h => h.elim
  | _ :: _, [], h => h.elim
theorem SameT.tail {A : Int → Prop} : ∀ {l l' : List TokD}, SameT A l l' → SameT A l.tail l'.tail
  | [], [], h => h
  | _ :: _, _ :: _, h => h.2
  | [], _ :: _, h => h.elim
  | _ :: _, [], h => h.elim
structure Sim (A : Int → Prop) (s s' : S) : Prop where
  rest : SameT A s.rest s'.rest
  size : A s.size
  locs : s.locs = s'.locs
  opn : s.opn = s'.opn
  name : s.name = s'.name
  init : s.init = s'.init
  threads : s.threads = s'.threads
  ask : s.ask = s'.ask
  cond : s.cond = s'.cond
  done : s.done = s'.done
def RR {α : Type} (A : Int → Prop) (V : α → α → Prop) : R α → R α → Prop
  | .ok a s, .ok a' s' => V a a' ∧ Sim A s s'
  | .bad p e, .bad _ e' => e = e' ∧ A p ∧ e ≠ 0
  | _, _ => False
theorem RR.bind {α β : Type} {A : Int → Prop} {V : α → α → Prop} {V' : β → β → Prop} {r r' : R α} {f f' : α → S → R β} (h : RR A V r r') (hf : ∀ a a' s s', V a a' → Sim A s s' → RR A V' (f a s) (f' a' s')) : RR A V' (r.bind f) (r'.bind f') := by
  cases r with
  | ok a s => cases r' with
    | ok a' s' => exact hf a a' s s' h.1 h.2
    | bad p e => exact h.elim
  | bad p e => cases r' with
    | ok a' s' => exact h.elim
    | bad p' e' => exact h
theorem RR.bindE {α β : Type} {A : Int → Prop} {V' : β → β → Prop} {r r' : R α} {f f' : α → S → R β} (h : RR A Eq r r') (hf : ∀ a s s', Sim A s s' → RR A V' (f a s) (f' a s')) : RR A V' (r.bind f) (r'.bind f') :=
  h.bind fun a a' s s' e k => by subst e; exact hf a s s' k
section
variable {A : Int → Prop}
theorem Sim.next {s s' : S} (h : Sim A s s') : TkS A (PX.next s) (PX.next s') := by
  unfold PX.next
  have := h.rest
  rcases hs : s.rest with _ | ⟨t, l⟩ <;> rcases hs' : s'.rest with _ | ⟨t', l'⟩ <;> rw [hs, hs'] at this
  · exact ⟨rfl, rfl, h.size⟩
  · exact this.elim
  · exact this.elim
  · exact this.1
theorem TkS.sy {t t' : TokD} (h : TkS A t t') : PX.sy t = PX.sy t' := by
  obtain ⟨k, x, p⟩ := t; obtain ⟨k', x', p'⟩ := t'
  obtain ⟨h1, h2, -⟩ := h
  simp only at h1 h2
  subst h1; subst h2; rfl
theorem Sim.sy {s s' : S} (h : Sim A s s') : PX.sy (PX.next s) = PX.sy (PX.next s') := h.next.sy
theorem Sim.len {s s' : S} (h : Sim A s s') : s.rest.length = s'.rest.length := h.rest.length
theorem sim_bad {α : Type} {V : α → α → Prop} {s s' : S} (h : Sim A s s') (e : Int) (he : e ≠ 0) : RR A V (.bad (PX.next s).p e) (.bad (PX.next s').p e) := ⟨rfl, h.next.2.2, he⟩
theorem sim_isS (l : List ByteArray) {s s' : S} (h : Sim A s s') : isS l s = isS l s' := by unfold isS; rw [h.sy]
theorem sim_takeIf {f f' : Bool} (hf : f = f') {s s' : S} (h : Sim A s s') : RR A (TkS A) (takeIf f s) (takeIf f' s') := by
  subst hf
  unfold takeIf
  split
  · exact ⟨h.next, h.rest.tail, h.size, h.locs, h.opn, h.name, h.init, h.threads, h.ask, h.cond, h.done⟩
  · exact sim_bad h 50 (by decide)
theorem sim_take (l : List ByteArray) {s s' : S} (h : Sim A s s') : RR A (TkS A) (take l s) (take l s') := sim_takeIf (sim_isS l h) h
theorem sim_takes (x : ByteArray) {s s' : S} (h : Sim A s s') : RR A Eq (takes x s) (takes x s') := by
  unfold takes
  rw [← sim_isS [x] h]
  split
  · exact (sim_take _ h).bind fun _ _ _ _ _ k => ⟨rfl, k⟩
  · exact ⟨rfl, h⟩
theorem sim_takeWord {s s' : S} (h : Sim A s s') : RR A (TkS A) (takeWord s) (takeWord s') := sim_takeIf (by rw [h.next.1]) h
theorem sim_takeLast {s s' : S} (h : Sim A s s') : RR A Eq (takeLast s) (takeLast s') := (sim_take _ h).bind fun _ _ s s' _ k => by
  have he : s.rest.isEmpty = s'.rest.isEmpty := by
    have := k.len
    cases h1 : s.rest <;> cases h2 : s'.rest <;> rw [h1, h2] at this <;> simp_all
  rw [← he]
  split
  · exact ⟨rfl, k⟩
  · exact sim_bad k 50 (by decide)
theorem sim_num {s s' : S} (h : Sim A s s') : RR A Eq (num s) (num s') := (sim_take _ h).bind fun _ _ _ _ v k => ⟨by rw [v.2.1], k⟩
theorem sim_reg {s s' : S} (h : Sim A s s') : RR A Eq (reg s) (reg s') := (sim_take _ h).bind fun _ _ _ _ v k => ⟨by rw [v.2.1], k⟩
theorem sim_arg {s s' : S} (h : Sim A s s') : RR A Eq (arg s) (arg s') := by
  unfold arg
  rw [← sim_isS _ h]
  split
  · exact (sim_reg h).bindE fun _ _ _ k => ⟨rfl, k⟩
  · exact (sim_num h).bindE fun _ _ _ k => ⟨rfl, k⟩
theorem sim_addLoc {x x' : ByteArray} (hx : x = x') {p p' : Int} (hp : A p) {s s' : S} (h : Sim A s s') : RR A Eq (addLoc x p s) (addLoc x' p' s') := by
  subst hx
  unfold addLoc
  rw [← h.opn, ← h.locs]
  split
  · split
    · exact ⟨rfl, hp, by decide⟩
    · exact ⟨rfl, h.rest, h.size, rfl, rfl, h.name, by rw [h.init], h.threads, h.ask, h.cond, h.done⟩
  · exact ⟨rfl, hp, by decide⟩
theorem sim_loc {s s' : S} (h : Sim A s s') : RR A Eq (loc s) (loc s') := (sim_take _ h).bind fun t t' s s' v k => by
  rw [← v.2.1, ← k.locs]
  split
  · exact ⟨rfl, k⟩
  · exact (sim_addLoc rfl v.2.2 k).bindE fun _ _ _ k => ⟨rfl, k⟩
theorem sim_operation (l : List ByteArray) {s s' : S} (h : Sim A s s') : RR A Eq (operation l s) (operation l s') :=
  (sim_arg h).bindE fun _ _ _ h => (sim_take l h).bind fun _ _ _ _ v h => (sim_arg h).bindE fun _ _ _ h => ⟨by rw [v.2.1], h⟩
theorem sim_store {s s' : S} (h : Sim A s s') : RR A Eq (store s) (store s') :=
  (sim_loc h).bindE fun _ _ _ h => (sim_take _ h).bind fun _ _ _ _ _ h => (sim_arg h).bindE fun _ _ _ h => (sim_takes _ h).bindE fun _ _ _ h => ⟨rfl, h⟩
theorem sim_fence {s s' : S} (h : Sim A s s') : RR A Eq (fence s) (fence s') :=
  (sim_take _ h).bind fun _ _ _ _ _ h => (sim_takes _ h).bindE fun _ _ _ h => by
    split
    · exact ⟨rfl, h⟩
    · exact (sim_takes _ h).bindE fun _ _ _ h => ⟨rfl, h⟩
theorem sim_skip {s s' : S} (h : Sim A s s') : RR A Eq (skip s) (skip s') :=
  (sim_take _ h).bind fun _ _ _ _ _ h => (sim_num h).bindE fun _ _ _ h => (sim_take _ h).bind fun _ _ _ _ _ h => (sim_operation _ h).bindE fun _ _ _ h => ⟨rfl, h⟩
theorem sim_load {s s' : S} (h : Sim A s s') : RR A Eq (load s) (load s') := (sim_loc h).bindE fun _ _ _ h => (sim_takes _ h).bindE fun _ _ _ h => ⟨rfl, h⟩
theorem sim_move {s s' : S} (h : Sim A s s') : RR A Eq (move s) (move s') := (sim_operation _ h).bindE fun _ _ _ h => ⟨rfl, h⟩
theorem sim_swap {s s' : S} (h : Sim A s s') : RR A Eq (swap s) (swap s') :=
  (sim_take _ h).bind fun _ _ _ _ _ h => (sim_loc h).bindE fun _ _ _ h => (sim_arg h).bindE fun _ _ _ h => ⟨rfl, h⟩
theorem sim_fetch {s s' : S} (h : Sim A s s') : RR A Eq (fetch s) (fetch s') :=
  (sim_take _ h).bind fun _ _ _ _ _ h => (sim_loc h).bindE fun _ _ _ h => (sim_arg h).bindE fun _ _ _ h => ⟨rfl, h⟩
theorem sim_cas {s s' : S} (h : Sim A s s') : RR A Eq (cas s) (cas s') :=
  (sim_take _ h).bind fun _ _ _ _ _ h => (sim_loc h).bindE fun _ _ _ h => (sim_arg h).bindE fun _ _ _ h => (sim_arg h).bindE fun _ _ _ h => ⟨rfl, h⟩
theorem sim_wrong {α : Type} {V : α → α → Prop} {s s' : S} (h : Sim A s s') : RR A V (wrong s) (wrong s') := sim_bad h 50 (by decide)
theorem sim_source {s s' : S} (h : Sim A s s') : RR A Eq (source s) (source s') := by
  unfold source
  simp only
  rw [← h.sy]
  split
  · exact sim_load h
  split
  · exact sim_move h
  split
  · exact sim_move h
  split
  · exact sim_swap h
  split
  · exact sim_fetch h
  split
  · exact sim_cas h
  · exact sim_wrong h
theorem sim_assignment {s s' : S} (h : Sim A s s') : RR A Eq (assignment s) (assignment s') :=
  (sim_reg h).bindE fun _ _ _ h => (sim_take _ h).bind fun _ _ _ _ _ h => (sim_source h).bindE fun _ _ _ h => ⟨rfl, h⟩
theorem sim_ins {s s' : S} (h : Sim A s s') : RR A Eq (ins s) (ins s') := by
  unfold ins
  simp only
  rw [← h.sy]
  split
  · exact sim_store h
  split
  · exact sim_assignment h
  split
  · exact sim_fence h
  split
  · exact sim_skip h
  · exact sim_wrong h
theorem sim_more {kid : S → R CondD} (hk : ∀ {s s'}, Sim A s s' → RR A Eq (kid s) (kid s')) (g : ByteArray) : ∀ (n : Nat) (acc : List CondD) {s s' : S}, Sim A s s' → RR A Eq (more kid g n acc s) (more kid g n acc s')
  | 0, acc, s, s', h => ⟨rfl, h⟩
  | n + 1, acc, s, s', h => (sim_takes g h).bindE fun b s s' h => by
    split
    · exact (hk h).bindE fun c s s' h => sim_more hk g n _ h
    · exact ⟨rfl, h⟩
theorem sim_series {kid : S → R CondD} (hk : ∀ {s s'}, Sim A s s' → RR A Eq (kid s) (kid s')) (g : ByteArray) (kind : Int) {s s' : S} (h : Sim A s s') : RR A Eq (series kid g kind s) (series kid g kind s') := by
  unfold series
  rw [← h.len]
  exact (hk h).bindE fun _ _ _ h => (sim_more hk g _ _ h).bindE fun _ _ _ h => ⟨rfl, h⟩
theorem sim_regCond {s s' : S} (h : Sim A s s') : RR A Eq (regCond s) (regCond s') :=
  (sim_num h).bindE fun _ _ _ h => (sim_take _ h).bind fun _ _ _ _ _ h => (sim_reg h).bindE fun _ _ _ h => (sim_take _ h).bind fun _ _ _ _ _ h => (sim_num h).bindE fun _ _ _ h => ⟨rfl, h⟩
theorem sim_locCond {s s' : S} (h : Sim A s s') : RR A Eq (locCond s) (locCond s') :=
  (sim_loc h).bindE fun _ _ _ h => (sim_take _ h).bind fun _ _ _ _ _ h => (sim_num h).bindE fun _ _ _ h => ⟨rfl, h⟩
theorem sim_truth {s s' : S} (h : Sim A s s') : RR A Eq (truth s) (truth s') := (sim_take _ h).bind fun _ _ _ _ _ h => ⟨rfl, h⟩
theorem sim_factor : ∀ (n : Nat) {s s' : S}, Sim A s s' → RR A Eq (factor n s) (factor n s')
  | 0, s, s', h => sim_wrong h
  | n + 1, s, s', h => by
    unfold factor
    simp only
    rw [← h.sy]
    split
    · exact (sim_take _ h).bind fun _ _ _ _ _ h => (sim_factor n h).bindE fun _ _ _ h => ⟨rfl, h⟩
    split
    · exact (sim_take _ h).bind fun _ _ _ _ _ h => (sim_series (fun h => sim_series (fun h => sim_factor n h) _ _ h) _ _ h).bindE fun _ _ _ h => (sim_take _ h).bind fun _ _ _ _ _ h => ⟨rfl, h⟩
    split
    · exact sim_regCond h
    split
    · exact sim_locCond h
    split
    · exact sim_truth h
    · exact sim_wrong h
theorem sim_disj (n : Nat) {s s' : S} (h : Sim A s s') : RR A Eq (disj n s) (disj n s') := sim_series (fun h => sim_series (fun h => sim_factor n h) _ _ h) _ _ h
theorem sim_lastCond {p p' : Int} (hp : A p) {s s' : S} (h : Sim A s s') : RR A Eq (lastCond p s) (lastCond p' s') := by
  unfold lastCond
  rw [← h.len]
  exact (sim_disj _ h).bindE fun c _ _ h => (sim_takeLast h).bindE fun _ _ _ h => by
    split
    · exact ⟨rfl, hp, by decide⟩
    · exact ⟨rfl, h⟩
theorem sim_onlyIns {s s' : S} (h : Sim A s s') : RR A Eq (onlyIns s) (onlyIns s') := (sim_ins h).bindE fun _ _ _ h => (sim_takeLast h).bindE fun _ _ _ h => ⟨rfl, h⟩
theorem sim_onlyCond {s s' : S} (h : Sim A s s') : RR A Eq (onlyCond s) (onlyCond s') := sim_lastCond h.next.2.2 h
theorem sim_titleLine {s s' : S} (h : Sim A s s') : RR A Eq (titleLine s) (titleLine s') :=
  (sim_take _ h).bind fun _ _ _ _ _ h => (sim_takeWord h).bind fun t t' s s' v h => by
    have h2 : Sim A { s with name := t.x } { s' with name := t'.x } := ⟨h.rest, h.size, h.locs, h.opn, v.2.1, h.init, h.threads, h.ask, h.cond, h.done⟩
    exact (sim_take [sEND] h2).bind fun _ _ s s' _ h => ⟨rfl, h.rest, h.size, h.locs, h.opn, h.name, h.init, h.threads, h.ask, h.cond, rfl⟩
theorem sim_value {s s' : S} (h : Sim A s s') : RR A Eq (value s) (value s') := (sim_loc h).bindE fun l a a' k => by
  rw [← h.locs]
  split
  · exact sim_bad h 51 (by decide)
  · exact (sim_take _ k).bind fun _ _ _ _ _ h => (sim_num h).bindE fun _ _ _ h => ⟨rfl, h.rest, h.size, h.locs, h.opn, h.name, by rw [h.init], h.threads, h.ask, h.cond, h.done⟩
theorem sim_values : ∀ (n : Nat) {s s' : S}, Sim A s s' → RR A Eq (values n s) (values n s')
  | 0, s, s', h => ⟨rfl, h⟩
  | n + 1, s, s', h => (sim_takes _ h).bindE fun b s s' h => by
    split
    · exact ⟨rfl, h⟩
    · exact (sim_value h).bindE fun _ _ _ h => sim_values n h
theorem sim_initLine {s s' : S} (h : Sim A s s') : RR A Eq (initLine s) (initLine s') := (sim_take _ h).bind fun _ _ s s' _ h => by
  rw [← h.len]
  exact (sim_value h).bindE fun _ _ _ h => (sim_values _ h).bindE fun _ _ _ h => ⟨rfl, h.rest, h.size, h.locs, h.opn, h.name, h.init, h.threads, h.ask, h.cond, rfl⟩
theorem sim_threadLine {s s' : S} (h : Sim A s s') : RR A Eq (threadLine s) (threadLine s') := (sim_take _ h).bind fun _ _ s s' v h => by
  rw [← h.threads]
  split
  · exact ⟨rfl, v.2.2, by decide⟩
  · exact (sim_take _ h).bind fun _ _ _ _ _ h => ⟨rfl, h.rest, h.size, h.locs, h.opn, h.name, h.init, by rw [h.threads], h.ask, h.cond, rfl⟩
theorem sim_insLine {s s' : S} (h : Sim A s s') : RR A Eq (insLine s) (insLine s') := by
  unfold insLine
  rw [← h.threads]
  split
  · exact sim_bad h 5 (by decide)
  · exact (sim_ins h).bindE fun x s s' h => by
      have h2 : Sim A { s with threads := s.threads.dropLast ++ [s.threads.getLastD [] ++ [x]] } { s' with threads := s'.threads.dropLast ++ [s'.threads.getLastD [] ++ [x]] } := ⟨h.rest, h.size, h.locs, h.opn, h.name, h.init, by rw [h.threads], h.ask, h.cond, h.done⟩
      exact (sim_take [sEND] h2).bind fun _ _ _ _ _ h => ⟨rfl, h⟩
theorem sim_queryLine {s s' : S} (h : Sim A s s') : RR A Eq (queryLine s) (queryLine s') := (sim_take _ h).bind fun t t' s s' v h => by
  have h2 : Sim A { s with ask := if askOf t.x = 0 then s.ask else askOf t.x } { s' with ask := if askOf t'.x = 0 then s'.ask else askOf t'.x } := ⟨h.rest, h.size, h.locs, h.opn, h.name, h.init, h.threads, by rw [v.2.1, h.ask], h.cond, h.done⟩
  exact (sim_lastCond v.2.2 h2).bindE fun _ s s' h => ⟨rfl, h.rest, h.size, h.locs, h.opn, h.name, h.init, h.threads, h.ask, rfl, rfl⟩
theorem RR.ite {α : Type} {V : α → α → Prop} {c : Prop} [Decidable c] {a a' b b' : R α} (h : RR A V a a') (k : RR A V b b') : RR A V (if c then a else b) (if c then a' else b') := by
  by_cases hc : c
  · rw [if_pos hc, if_pos hc]; exact h
  · rw [if_neg hc, if_neg hc]; exact k
def lineB (y : ByteArray) (d : Int) (s : S) : R Unit :=
  if d = 0 then (if y == kTest then titleLine s else wrong s)
  else if d = 1 then (if y == kInit then initLine s else if y == kThread then threadLine s else wrong s)
  else if d = 2 then (if y == kThread then threadLine s else wrong s)
  else if y == kThread then threadLine s else if y == kFence then insLine s else if y == kSkip then insLine s else if y == sNAME then insLine s else if y == sREG then insLine s
  else if y == kSome then queryLine s else if y == kNone then queryLine s else if y == kAll then queryLine s else wrong s
theorem line_eq (s : S) : line s = lineB (PX.sy (PX.next s)) s.done s := rfl
theorem sim_line {s s' : S} (h : Sim A s s') : RR A Eq (line s) (line s') := by
  rw [line_eq, line_eq, ← h.sy, ← h.done]
  generalize PX.sy (PX.next s) = y
  generalize s.done = d
  exact .ite (.ite (sim_titleLine h) (sim_wrong h)) (.ite (.ite (sim_initLine h) (.ite (sim_threadLine h) (sim_wrong h))) (.ite (.ite (sim_threadLine h) (sim_wrong h))
    (.ite (sim_threadLine h) (.ite (sim_insLine h) (.ite (sim_insLine h) (.ite (sim_insLine h) (.ite (sim_insLine h) (.ite (sim_queryLine h) (.ite (sim_queryLine h) (.ite (sim_queryLine h) (sim_wrong h)))))))))))
theorem sim_prog : ∀ (n : Nat) {s s' : S}, Sim A s s' → RR A Eq (prog n s) (prog n s')
  | 0, s, s', h => ⟨rfl, h⟩
  | n + 1, s, s', h => by
    unfold prog
    rw [← h.done]
    split
    · exact ⟨rfl, h⟩
    · exact (sim_line h).bindE fun _ _ _ h => sim_prog n h
end
end PX
end Go.Proofs.Ytglbmiadgdadfaa
end

section
/- A condition's tokens in another text: what is read there. Pure. -/
namespace Go.Proofs.Ytglbmiadgdadfaa
open Go Go.RowKit
namespace PX
abbrev AnyP : Int → Prop := fun _ => True
/-- Behind the same tokens stands a line's end in s, and X in s'. -/
structure Cut (X : List TokD) (s s' : S) : Prop where
  rest : ∃ (r r' : List TokD) (e : TokD), s.rest = r ++ [e] ∧ sy e = sEND ∧ s'.rest = r' ++ X ∧ SameT AnyP r r'
  locs : s.locs = s'.locs
  opn : s.opn = false ∧ s'.opn = false
/-- What follows goes on with neither & nor |. -/
def Stop (X : List TokD) : Prop := ∃ x l, X = x :: l ∧ sy x ≠ gAnd ∧ sy x ≠ gOr
/-- If r reads a, r' reads the same. -/
def OKR {α : Type} (X : List TokD) (V : α → α → Prop) (r r' : R α) : Prop := ∀ a s, r = .ok a s → ∃ a' s', r' = .ok a' s' ∧ V a a' ∧ Cut X s s'
theorem OKR.bind {α β : Type} {X : List TokD} {V : α → α → Prop} {V' : β → β → Prop} {r r' : R α} {f f' : α → S → R β} (h : OKR X V r r') (hf : ∀ a a' s s', V a a' → Cut X s s' → OKR X V' (f a s) (f' a' s')) : OKR X V' (r.bind f) (r'.bind f') := by
  intro b t e
  cases r with
  | ok a s =>
    obtain ⟨a', s', rfl, hv, hc⟩ := h a s rfl
    exact hf a a' s s' hv hc b t e
  | bad p x => cases e
theorem OKR.ok {α : Type} {X : List TokD} {V : α → α → Prop} {a a' : α} {s s' : S} (h : V a a') (hc : Cut X s s') : OKR X V (.ok a s) (.ok a' s') := fun _ _ e => by cases e; exact ⟨a', s', rfl, h, hc⟩
theorem OKR.bad {α : Type} {X : List TokD} {V : α → α → Prop} {p x : Int} {r' : R α} : OKR X V (.bad p x : R α) r' := fun _ _ e => by cases e
theorem Cut.next {X : List TokD} {s s' : S} (h : Cut X s s') : (sy (next s) = sEND ∧ ∃ e, s.rest = [e] ∧ s'.rest = X) ∨ (TkS AnyP (next s) (next s') ∧ Cut X { s with rest := s.rest.tail } { s' with rest := s'.rest.tail }) := by
  obtain ⟨r, r', e, h1, h2, h3, h4⟩ := h.rest
  rcases r with _ | ⟨t, r⟩ <;> rcases r' with _ | ⟨t', r'⟩
  · left
    refine ⟨?_, e, h1, h3⟩
    unfold PX.next; rw [h1]; exact h2
  · exact h4.elim
  · exact h4.elim
  · right
    refine ⟨?_, ⟨r, r', e, ?_, h2, ?_, h4.2⟩, h.locs, h.opn⟩
    · unfold PX.next; rw [h1, h3]; exact h4.1
    · show s.rest.tail = _; rw [h1]; rfl
    · show s'.rest.tail = _; rw [h3]; rfl
theorem isS_end {l : List ByteArray} (hl : l.any (fun x => x == sEND) = false) {s : S} (h : sy (PX.next s) = sEND) : isS l s = false := by unfold isS; rw [h]; exact hl
theorem cut_take {X : List TokD} (l : List ByteArray) (hl : l.any (fun x => x == sEND) = false) {s s' : S} (h : Cut X s s') : OKR X (TkS AnyP) (take l s) (take l s') := by
  unfold take takeIf
  rcases h.next with ⟨h1, _⟩ | ⟨h1, h2⟩
  · rw [isS_end hl h1]
    exact OKR.bad
  · have : isS l s' = isS l s := by unfold isS; rw [h1.sy]
    rw [this]
    split
    · exact OKR.ok h1 h2
    · exact OKR.bad
theorem cut_takes {X : List TokD} (hX : Stop X) (g : ByteArray) (hg : g = gAnd ∨ g = gOr) {s s' : S} (h : Cut X s s') : OKR X Eq (takes g s) (takes g s') := by
  have hge : [g].any (fun x => x == sEND) = false := by rcases hg with rfl | rfl <;> decide
  unfold takes
  rcases h.next with ⟨h1, e, h2, h3⟩ | ⟨h1, h2⟩
  · rw [isS_end hge h1]
    have hn : isS [g] s' = false := by
      obtain ⟨x, l, rfl, n1, n2⟩ := hX
      unfold isS PX.next
      rw [h3]
      simp only [List.any_cons, List.any_nil, Bool.or_false, List.headD_cons, PP.bbeq, decide_eq_false_iff_not]
      rcases hg with rfl | rfl
      · exact fun e => n1 e.symm
      · exact fun e => n2 e.symm
    rw [hn]
    exact OKR.ok rfl h
  · have : isS [g] s' = isS [g] s := by unfold isS; rw [h1.sy]
    rw [this]
    split
    · exact (cut_take [g] hge h).bind fun _ _ _ _ _ k => OKR.ok rfl k
    · exact OKR.ok rfl h
section
variable {X : List TokD} {s s' : S}
theorem cut_num (h : Cut X s s') : OKR X Eq (num s) (num s') := (cut_take _ (by decide) h).bind fun _ _ _ _ v k => OKR.ok (by rw [v.2.1]) k
theorem cut_reg (h : Cut X s s') : OKR X Eq (reg s) (reg s') := (cut_take _ (by decide) h).bind fun _ _ _ _ v k => OKR.ok (by rw [v.2.1]) k
theorem cut_loc (h : Cut X s s') : OKR X Eq (loc s) (loc s') := (cut_take _ (by decide) h).bind fun t t' s s' v k => by
  rw [← v.2.1, ← k.locs]
  split
  · exact OKR.ok rfl k
  · unfold addLoc
    rw [k.opn.1]
    exact OKR.bad
theorem cut_regCond (h : Cut X s s') : OKR X Eq (regCond s) (regCond s') :=
  (cut_num h).bind fun a a' _ _ e k => by
    subst e
    exact (cut_take _ (by decide) k).bind fun _ _ _ _ _ k => (cut_reg k).bind fun b b' _ _ e k => by
      subst e
      exact (cut_take _ (by decide) k).bind fun _ _ _ _ _ k => (cut_num k).bind fun c c' _ _ e k => by
        subst e
        exact OKR.ok rfl k
theorem cut_locCond (h : Cut X s s') : OKR X Eq (locCond s) (locCond s') :=
  (cut_loc h).bind fun a a' _ _ e k => by
    subst e
    exact (cut_take _ (by decide) k).bind fun _ _ _ _ _ k => (cut_num k).bind fun c c' _ _ e k => by
      subst e
      exact OKR.ok rfl k
theorem cut_truth (h : Cut X s s') : OKR X Eq (truth s) (truth s') := (cut_take _ (by decide) h).bind fun _ _ _ _ _ k => OKR.ok rfl k
end
/-- kid reads no more than there is. -/
def Sh (kid : S → R CondD) : Prop := ∀ s, Post (fun _ s' => s'.rest.length ≤ s.rest.length) (kid s)
theorem takes_le (x : ByteArray) (s : S) : Post (fun _ s' => s'.rest.length ≤ s.rest.length) (takes x s) := keep_takes (len_stb s.rest.length) x s (Nat.le_refl _)
theorem takes_one {x : ByteArray} {s s1 : S} (hne : s.rest ≠ []) (e : takes x s = .ok true s1) : s1.rest.length < s.rest.length := by
  unfold takes take takeIf at e
  split at e
  · simp only [R.bind] at e
    cases e
    show s.rest.tail.length < s.rest.length
    rw [List.length_tail]
    have := List.length_pos_iff.2 hne
    omega
  · cases e
theorem sh_factor (n : Nat) : Sh (factor n) := fun s => keep_factor (len_stb s.rest.length) n s (Nat.le_refl _)
theorem sh_conj (n : Nat) : Sh (series (factor n) gAnd 3) := fun s => keep_series (len_stb s.rest.length) (fun s h => keep_factor (len_stb _) n s h) _ _ s (Nat.le_refl _)
theorem Cut.ne {X : List TokD} {s s' : S} (h : Cut X s s') : s.rest ≠ [] := by
  obtain ⟨r, _, e, h1, _⟩ := h.rest
  rw [h1]; simp
theorem Cut.len {X : List TokD} (hX : Stop X) {s s' : S} (h : Cut X s s') : s.rest.length ≤ s'.rest.length := by
  obtain ⟨r, r', e, h1, _, h3, h4⟩ := h.rest
  obtain ⟨x, l, rfl, _⟩ := hX
  have := h4.length
  rw [h1, h3]; simp; omega
theorem cut_more {X : List TokD} (hX : Stop X) {kid kid' : S → R CondD} (hs : Sh kid) (hk : ∀ {s s'}, Cut X s s' → OKR X Eq (kid s) (kid' s')) (g : ByteArray) (hg : g = gAnd ∨ g = gOr) :
    ∀ (n m : Nat) (acc : List CondD) {s s' : S}, Cut X s s' → s.rest.length ≤ n → n ≤ m → OKR X Eq (more kid g n acc s) (more kid' g m acc s')
  | 0, m, acc, s, s', h, hn, _ => absurd (List.length_pos_iff.2 h.ne) (by omega)
  | n + 1, 0, acc, s, s', h, hn, hm => by omega
  | n + 1, m + 1, acc, s, s', h, hn, hm => by
    unfold more
    intro l t e
    cases ht : takes g s with
    | bad p x => rw [ht] at e; cases e
    | ok b s1 =>
      obtain ⟨b', s1', ht', rfl, hc⟩ := cut_takes hX g hg h b s1 ht
      rw [ht] at e
      rw [ht']
      simp only [R.bind] at e ⊢
      cases b with
      | false => 
        simp only [Bool.false_eq_true, if_false] at e ⊢
        exact OKR.ok rfl hc l t e
      | true =>
        simp only [if_true] at e ⊢
        have hlt := takes_one h.ne ht
        cases hkd : kid s1 with
        | bad p x => rw [hkd] at e; cases e
        | ok c s2 =>
          obtain ⟨c', s2', hkd', rfl, hc2⟩ := hk hc c s2 hkd
          rw [hkd] at e
          rw [hkd']
          have := hs s1 c s2 hkd
          exact cut_more hX hs hk g hg n m _ hc2 (by omega) (by omega) l t e
theorem cut_series {X : List TokD} (hX : Stop X) {kid kid' : S → R CondD} (hs : Sh kid) (hk : ∀ {s s'}, Cut X s s' → OKR X Eq (kid s) (kid' s')) (g : ByteArray) (hg : g = gAnd ∨ g = gOr) (kind : Int) {s s' : S} (h : Cut X s s') : OKR X Eq (series kid g kind s) (series kid' g kind s') := by
  unfold series
  intro l t e
  cases hkd : kid s with
  | bad p x => rw [hkd] at e; cases e
  | ok c s1 =>
    obtain ⟨c', s1', hkd', rfl, hc⟩ := hk h c s1 hkd
    rw [hkd] at e
    rw [hkd']
    have := hs s c s1 hkd
    exact ((cut_more hX hs hk g hg _ _ [c] hc this (h.len hX)).bind fun l l' _ _ e k => by subst e; exact OKR.ok rfl k) l t e
theorem cut_factor {X : List TokD} (hX : Stop X) : ∀ (n m : Nat) {s s' : S}, n ≤ m → Cut X s s' → OKR X Eq (factor n s) (factor m s')
  | 0, _, _, _, _, _ => OKR.bad
  | n + 1, 0, _, _, h, _ => by omega
  | n + 1, m + 1, s, s', hn, h => by
    unfold factor
    simp only
    rcases h.next with ⟨h1, _⟩ | ⟨h1, h2⟩
    · rw [h1]
      exact OKR.bad
    · rw [← h1.sy]
      have ih : ∀ {s s' : S}, Cut X s s' → OKR X Eq (factor n s) (factor m s') := fun h => cut_factor hX n m (by omega) h
      split
      · exact (cut_take _ (by decide) h).bind fun _ _ _ _ _ k => (ih k).bind fun c c' _ _ e k => by subst e; exact OKR.ok rfl k
      · split
        · exact (cut_take _ (by decide) h).bind fun _ _ _ _ _ k => (cut_series hX (sh_conj n) (fun k => cut_series hX (sh_factor n) ih gAnd (.inl rfl) 3 k) gOr (.inr rfl) 4 k).bind fun c c' _ _ e k => by
            subst e
            exact (cut_take _ (by decide) k).bind fun _ _ _ _ _ k => OKR.ok rfl k
        · split
          · exact cut_regCond h
          · split
            · exact cut_locCond h
            · split
              · exact cut_truth h
              · exact OKR.bad
theorem cut_disj {X : List TokD} (hX : Stop X) (n m : Nat) (hn : n ≤ m) {s s' : S} (h : Cut X s s') : OKR X Eq (disj n s) (disj m s') :=
  cut_series hX (sh_conj n) (fun k => cut_series hX (sh_factor n) (fun k => cut_factor hX n m hn k) gAnd (.inl rfl) 3 k) gOr (.inr rfl) 4 h
end PX
end Go.Proofs.Ytglbmiadgdadfaa
end
