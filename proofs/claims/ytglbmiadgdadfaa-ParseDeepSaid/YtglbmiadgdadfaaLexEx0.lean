/- Sources computed. -/
import Derived.Test.YtglbmiadgdadfaaLexType3
namespace Go.Proofs.Ytglbmiadgdadfaa
namespace LX
/-- As ys, with a limit. -/
def ysF : Nat → List UInt8 → Nat → Bool → List (Tk × Nat)
  | 0, _, _, _ => []
  | n + 1, L, i, u =>
    if i < L.length then
      if clAt L i = 1 then ysF n L (i + 1) u
      else if clAt L i = 2 then (if u then [(⟨4, i, i⟩, 0)] else []) ++ ysF n L (i + 1) false
      else if clAt L i = 3 then ysF n L (run inC L i) u
      else if clAt L i = 4 then (if 16 < run inW L i - i then [(⟨1, i, run inW L i⟩, 42)] else (⟨1, i, run inW L i⟩, 0) :: ysF n L (run inW L i) true)
      else if clAt L i = 5 then (if numOk (cut L i (run inN L i)) then (⟨2, i, run inN L i⟩, 0) :: ysF n L (run inN L i) true else [(⟨2, i, run inN L i⟩, 41)])
      else if clAt L i = 7 then (⟨3, i, i + signLen L i⟩, 0) :: ysF n L (i + signLen L i) true
      else [(⟨0, i, i⟩, 40)]
    else if u then [(⟨4, i, i⟩, 0)] else []
theorem ysF_eq : ∀ (n : Nat) (L : List UInt8) (i : Nat) (u : Bool), L.length - i < n → ys L i u = ysF n L i u
  | 0, L, i, u, h => by omega
  | n + 1, L, i, u, h => by
    unfold ysF
    by_cases hi : i < L.length
    · have hr := clAt_range L i
      have : clAt L i = 0 ∨ clAt L i = 1 ∨ clAt L i = 2 ∨ clAt L i = 3 ∨ clAt L i = 4 ∨ clAt L i = 5 ∨ clAt L i = 6 ∨ clAt L i = 7 := by omega
      rw [if_pos hi]
      rcases this with hc | hc | hc | hc | hc | hc | hc | hc
      · rw [ys_stray hi (.inl hc)]; simp [hc]
      · rw [ys_blank hi hc, ysF_eq n L (i + 1) u (by omega)]; simp [hc]
      · rw [ys_newline hi hc, ysF_eq n L (i + 1) false (by omega)]; simp [hc]
      · have hg := run_gt (p := inC) hi (by rw [hc]; rfl)
        rw [ys_hash hi hc, ysF_eq n L _ u (by omega)]; simp [hc]
      · have hg := run_gt (p := inW) hi (by rw [hc]; rfl)
        rw [ys_word hi hc, ysF_eq n L _ true (by omega)]; simp [hc]
      · have hg := run_gt (p := inN) hi (by rw [hc]; rfl)
        rw [ys_num hi hc, ysF_eq n L _ true (by omega)]; simp [hc]
      · rw [ys_stray hi (.inr hc)]; simp [hc]
      · have hg := signLen_pos L i
        rw [ys_sign hi hc, ysF_eq n L _ true (by omega)]; simp [hc]
    · rw [if_neg hi, ys_end (by omega)]
/-- What Lex answers, computed. -/
def outF (L : List UInt8) : List Tk × Nat × Nat :=
  if 16384 < L.length then ([], 0, 3)
  else match (ysF (L.length + 1) L 0 false).find? (fun x => x.2 != 0) with
    | some x => ([], x.1.lo, x.2)
    | none => ((ysF (L.length + 1) L 0 false).map (·.1), 0, 0)
theorem out_eq (L : List UInt8) : out L = outF L := by unfold out outF; rw [ysF_eq (L.length + 1) L 0 false (by omega)]; rfl
end LX
def exA : ByteArray := ⟨#[114, 49, 32, 61, 32, 120, 32, 35, 32, 103, 101, 116, 10, 48, 58, 114, 49, 33, 61, 50]⟩
def exB : ByteArray := ⟨#[120, 32, 61, 32, 48, 55]⟩
def exC : ByteArray := ⟨#[120, 32, 36]⟩
def exT : List LX.Tk := [⟨1, 0, 2⟩, ⟨3, 3, 4⟩, ⟨1, 5, 6⟩, ⟨4, 12, 12⟩, ⟨2, 13, 14⟩, ⟨3, 14, 15⟩, ⟨1, 15, 17⟩, ⟨3, 17, 19⟩, ⟨2, 19, 20⟩, ⟨4, 20, 20⟩]
theorem outA : LX.out (bsOf exA) = (exT, 0, 0) := by rw [LX.out_eq]; decide +kernel
theorem outB : LX.out (bsOf exB) = ([], 4, 41) := by rw [LX.out_eq]; decide +kernel
theorem outC : LX.out (bsOf exC) = ([], 2, 40) := by rw [LX.out_eq]; decide +kernel
theorem regA : LX.regV (bsOf ⟨#[114, 55]⟩) = .tuple #[.int .u8 7, .bool true] := rfl
theorem regB : LX.regV (bsOf ⟨#[114, 56]⟩) = .tuple #[.int .u8 0, .bool false] := rfl
theorem nameA : LX.nameB (bsOf ⟨#[114, 49, 48]⟩) = false := by decide +kernel
theorem nameX : LX.nameB (bsOf ⟨#[120]⟩) = true := by decide +kernel
theorem typeA : typeS (exT.map (tokD exA)) = ⟨#[114, 49, 32, 61, 32, 120, 10, 48, 32, 58, 32, 114, 49, 32, 33, 61, 32, 50, 10]⟩ := by decide +kernel
theorem typeL : (byL (spL bno (exT.map (tokD exA)))).length ≤ 140737488355328 := by decide +kernel
end Go.Proofs.Ytglbmiadgdadfaa
