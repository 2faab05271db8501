/- lex.Type: the walk. -/
import Derived.Maps.AppendAt
import Derived.RegionIn
import Derived.Maps.OwnIn
import Derived.Shelf.Abstract
import Derived.RangeFuncBox
import Derived.RangeFuncKeeps
import Derived.RangeFuncRecord
import Derived.RangeFuncLeaves
import Derived.Test.YtglbmiadgdadfaaLexType2
namespace Go.Proofs.Ytglbmiadgdadfaa
open Go.RowKit Go.Shelf

attribute [local go_sem] Oper.semAt_some
theorem TokSl.out {n₀ : Nat} {w : World} {v : Value} {ts : List TokD} (h : TokSl n₀ w v ts) : ∃ a c, v = .slice a ts.length c := by
  obtain ⟨hm, a, cap, rfl, _⟩ := h
  exact ⟨a, cap, rfl⟩
def TypePost (ts : List TokD) (w : World) (e : Ending) (w' : World) : Prop := e = .returned (.string (typeS ts)) ∧ Below w.heap.size w w'

end Go.Proofs.Ytglbmiadgdadfaa
