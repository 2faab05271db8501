/- Programs' parts as data. -/
import Derived.Test.YtglbmiadgdadfaaProg
namespace Go.Proofs.Ytglbmiadgdadfaa
open Go
namespace PX
structure ArgD where
  r : Bool
  n : Int
structure InsD where
  op : Int
  dst : Int := 0
  loc : Int := 0
  a : ArgD := ⟨false, 0⟩
  b : ArgD := ⟨false, 0⟩
  fn : Int := 0
  mode : Int := 0
  skip : Int := 0
inductive CondD where
  | mk (kind thread n val : Int) (kids : List CondD)
end PX
end Go.Proofs.Ytglbmiadgdadfaa
