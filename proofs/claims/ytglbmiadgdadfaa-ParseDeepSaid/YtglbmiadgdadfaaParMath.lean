/- What parsing gives, as plain functions on tokens: no program. -/
import Derived.Test.YtglbmiadgdadfaaLexUse
import Derived.Test.YtglbmiadgdadfaaProgD
namespace Go.Proofs.Ytglbmiadgdadfaa
open Go Go.RowKit
namespace PX
def bs (l : List UInt8) : ByteArray := ⟨l.toArray⟩
def sNo : ByteArray := ⟨#[]⟩
def sNAME : ByteArray := ⟨#[78, 65, 77, 69]⟩
def sREG : ByteArray := ⟨#[82, 69, 71]⟩
def sNUM : ByteArray := ⟨#[78, 85, 77]⟩
def sEND : ByteArray := ⟨#[69, 78, 68]⟩
/-- A word's symbol; a token's. -/
def wsy (x : ByteArray) : ByteArray := if LX.keptB (bsOf x) then x else if LX.nameB (bsOf x) then sNAME else if LX.regOk (bsOf x) then sREG else sNo
def sy (t : TokD) : ByteArray := if t.k = 1 then wsy t.x else if t.k = 2 then sNUM else if t.k = 3 then t.x else if t.k = 4 then sEND else sNo
def numI (x : ByteArray) : Int := if LX.numOk (bsOf x) then (LX.numVal (bsOf x) : Int) else 0
def regI (x : ByteArray) : Int := if LX.regOk (bsOf x) then (LX.regN (bsOf x) : Int) else 0
/-- What the parser holds. -/
structure S where
  rest : List TokD
  size : Int
  locs : List ByteArray
  opn : Bool
  name : ByteArray := ⟨#[]⟩
  init : List Int := []
  threads : List (List InsD) := []
  ask : Int := 0
  cond : CondD := .mk 0 0 0 0 []
  done : Int := 0
/-- What a part of the parser answers: a value, or an offset and an error. -/
inductive R (α : Type) where
  | ok (a : α) (s : S)
  | bad (p e : Int)
def R.bind {α β : Type} (r : R α) (f : α → S → R β) : R β := match r with
  | .ok a s => f a s
  | .bad p e => .bad p e
def next (s : S) : TokD := s.rest.headD ⟨0, ⟨#[]⟩, s.size⟩
def isS (l : List ByteArray) (s : S) : Bool := l.any fun x => x == sy (next s)
def takeIf (fits : Bool) (s : S) : R TokD := if fits then .ok (next s) { s with rest := s.rest.tail } else .bad (next s).p 50
def take (l : List ByteArray) (s : S) : R TokD := takeIf (isS l s) s
def takes (x : ByteArray) (s : S) : R Bool := if isS [x] s then (take [x] s).bind fun _ s => .ok true s else .ok false s
def takeWord (s : S) : R TokD := takeIf ((next s).k == 1) s
def takeLast (s : S) : R Unit := (take [sEND] s).bind fun _ s => if s.rest.isEmpty then .ok () s else .bad (next s).p 50
def num (s : S) : R Int := (take [sNUM] s).bind fun t s => .ok (numI t.x) s
def reg (s : S) : R Int := (take [sREG] s).bind fun t s => .ok (regI t.x) s
def arg (s : S) : R ArgD := if isS [sREG] s then (reg s).bind fun n s => .ok ⟨true, n⟩ s else (num s).bind fun n s => .ok ⟨false, n⟩ s
def addLoc (x : ByteArray) (at_ : Int) (s : S) : R Unit :=
  if s.opn then (if s.locs.length = 6 then .bad at_ 5 else .ok () { s with locs := s.locs ++ [x], init := s.init ++ [0] }) else .bad at_ 6
def loc (s : S) : R Int := (take [sNAME] s).bind fun t s =>
  match s.locs.idxOf? t.x with
  | some i => .ok ((i : Int) % 256) s
  | none => (addLoc t.x t.p s).bind fun _ s' => .ok ((s.locs.length : Int) % 256) s'
-- the keywords and signs that the grammar names
def kTest := bs [116, 101, 115, 116]
def kInit := bs [105, 110, 105, 116]
def kThread := bs [116, 104, 114, 101, 97, 100]
def kSome := bs [115, 111, 109, 101]
def kNone := bs [110, 111, 110, 101]
def kAll := bs [97, 108, 108]
def kAcq := bs [97, 99, 113]
def kRel := bs [114, 101, 108]
def kSwap := bs [115, 119, 97, 112]
def kFetch := bs [102, 101, 116, 99, 104]
def kCas := bs [99, 97, 115]
def kFence := bs [102, 101, 110, 99, 101]
def kLoads := bs [108, 111, 97, 100, 115]
def kStores := bs [115, 116, 111, 114, 101, 115]
def kSkip := bs [115, 107, 105, 112]
def kIf := bs [105, 102]
def kTrue := bs [116, 114, 117, 101]
def gEq := bs [61]
def gEqEq := bs [61, 61]
def gNe := bs [33, 61]
def gLt := bs [60]
def gPlus := bs [43]
def gMinus := bs [45]
def gXor := bs [94]
def gNot := bs [33]
def gAnd := bs [38]
def gOr := bs [124]
def gOpen := bs [40]
def gClose := bs [41]
def gColon := bs [58]
def fnOf (x : ByteArray) : Int := if x == gPlus then 1 else if x == gMinus then 2 else if x == gXor then 3 else if x == gEqEq then 4 else if x == gNe then 5 else 6
/-- Two arguments with a sign between them. -/
def operation (l : List ByteArray) (s : S) : R (ArgD × Int × ArgD) := (arg s).bind fun a s => (take l s).bind fun t s => (arg s).bind fun b s => .ok (a, fnOf t.x, b) s
def store (s : S) : R InsD := (loc s).bind fun l s => (take [gEq] s).bind fun _ s => (arg s).bind fun a s => (takes kRel s).bind fun r s => .ok { op := 2, loc := l, a := a, mode := if r then 2 else 0 } s
def fence (s : S) : R InsD := (take [kFence] s).bind fun _ s => (takes kLoads s).bind fun a s => if a then .ok { op := 7, mode := 4 } s else (takes kStores s).bind fun b s => .ok { op := 7, mode := if b then 5 else 3 } s
def skip (s : S) : R InsD := (take [kSkip] s).bind fun _ s => (num s).bind fun n s => (take [kIf] s).bind fun _ s => (operation [gEqEq, gNe, gLt] s).bind fun x s => .ok { op := 8, skip := n, a := x.1, fn := x.2.1, b := x.2.2 } s
def load (s : S) : R InsD := (loc s).bind fun l s => (takes kAcq s).bind fun r s => .ok { op := 1, loc := l, mode := if r then 1 else 0 } s
def move (s : S) : R InsD := (operation [gPlus, gMinus, gXor] s).bind fun x s => .ok { op := 3, a := x.1, fn := x.2.1, b := x.2.2 } s
def swap (s : S) : R InsD := (take [kSwap] s).bind fun _ s => (loc s).bind fun l s => (arg s).bind fun a s => .ok { op := 4, loc := l, a := a } s
def fetch (s : S) : R InsD := (take [kFetch] s).bind fun _ s => (loc s).bind fun l s => (arg s).bind fun a s => .ok { op := 5, loc := l, a := a } s
def cas (s : S) : R InsD := (take [kCas] s).bind fun _ s => (loc s).bind fun l s => (arg s).bind fun a s => (arg s).bind fun b s => .ok { op := 6, loc := l, a := a, b := b } s
def wrong {α : Type} (s : S) : R α := .bad (next s).p 50
def source (s : S) : R InsD :=
  let y := sy (next s)
  if y == sNAME then load s else if y == sREG then move s else if y == sNUM then move s else if y == kSwap then swap s else if y == kFetch then fetch s else if y == kCas then cas s else wrong s
def assignment (s : S) : R InsD := (reg s).bind fun d s => (take [gEq] s).bind fun _ s => (source s).bind fun x s => .ok { x with dst := d } s
def ins (s : S) : R InsD :=
  let y := sy (next s)
  if y == sNAME then store s else if y == sREG then assignment s else if y == kFence then fence s else if y == kSkip then skip s else wrong s
-- conditions
def more (kid : S → R CondD) (g : ByteArray) : Nat → List CondD → S → R (List CondD)
  | 0, acc, s => .ok acc s
  | n + 1, acc, s => (takes g s).bind fun b s => if b then (kid s).bind fun c s => more kid g n (acc ++ [c]) s else .ok acc s
def series (kid : S → R CondD) (g : ByteArray) (kind : Int) (s : S) : R CondD := (kid s).bind fun c s' => (more kid g s.rest.length [c] s').bind fun l s => .ok (match l with
  | [c] => c
  | l => .mk kind 0 0 0 l) s
def regCond (s : S) : R CondD := (num s).bind fun t s => (take [gColon] s).bind fun _ s => (reg s).bind fun n s => (take [gEq] s).bind fun _ s => (num s).bind fun v s => .ok (.mk 1 t n v []) s
def locCond (s : S) : R CondD := (loc s).bind fun n s => (take [gEq] s).bind fun _ s => (num s).bind fun v s => .ok (.mk 2 0 n v []) s
def truth (s : S) : R CondD := (take [kTrue] s).bind fun _ s => .ok (.mk 0 0 0 0 []) s
def factor : Nat → S → R CondD
  | 0, s => wrong s
  | n + 1, s =>
    let y := sy (next s)
    if y == gNot then (take [gNot] s).bind fun _ s => (factor n s).bind fun c s => .ok (.mk 5 0 0 0 [c]) s
    else if y == gOpen then (take [gOpen] s).bind fun _ s => (series (series (factor n) gAnd 3) gOr 4 s).bind fun c s => (take [gClose] s).bind fun _ s => .ok c s
    else if y == sNUM then regCond s else if y == sNAME then locCond s else if y == kTrue then truth s else wrong s
def conj (n : Nat) (s : S) : R CondD := series (factor n) gAnd 3 s
def disj (n : Nat) (s : S) : R CondD := series (conj n) gOr 4 s
mutual
def deep : CondD → Nat
  | .mk _ _ _ _ kids => deepL kids + 1
def deepL : List CondD → Nat
  | [] => 0
  | c :: l => max (deep c) (deepL l)
end
def lastCond (at_ : Int) (s : S) : R CondD := (disj (s.rest.length + 1) s).bind fun c s => (takeLast s).bind fun _ s => if 20 < deep c then .bad at_ 5 else .ok c s
def onlyIns (s : S) : R InsD := (ins s).bind fun x s => (takeLast s).bind fun _ s => .ok x s
def onlyCond (s : S) : R CondD := lastCond (next s).p s
-- lines
def titleLine (s : S) : R Unit := (take [kTest] s).bind fun _ s => (takeWord s).bind fun t s => (take [sEND] { s with name := t.x }).bind fun _ s => .ok () { s with done := 1 }
def value (s : S) : R Unit := (loc s).bind fun l s' => if l < (s.locs.length : Int) then .bad (next s).p 51 else (take [gEq] s').bind fun _ s => (num s).bind fun v s => .ok () { s with init := s.init.set l.toNat v }
def values : Nat → S → R Unit
  | 0, s => .ok () s
  | n + 1, s => (takes sEND s).bind fun b s => if b then .ok () s else (value s).bind fun _ s => values n s
def initLine (s : S) : R Unit := (take [kInit] s).bind fun _ s => (value s).bind fun _ s' => (values (s.rest.length + 1) s').bind fun _ s => .ok () { s with done := 2 }
def threadLine (s : S) : R Unit := (take [kThread] s).bind fun t s => if s.threads.length = 4 then .bad t.p 5 else (take [sEND] s).bind fun _ s => .ok () { s with threads := s.threads ++ [[]], done := 3 }
def insLine (s : S) : R Unit := if (s.threads.getLastD []).length = 12 then .bad (next s).p 5 else (ins s).bind fun x s => (take [sEND] { s with threads := s.threads.dropLast ++ [s.threads.getLastD [] ++ [x]] }).bind fun _ s => .ok () s
def askOf (x : ByteArray) : Int := if x == kSome then 1 else if x == kNone then 2 else if x == kAll then 3 else 0
def queryLine (s : S) : R Unit := (take [kSome, kNone, kAll] s).bind fun t s => (lastCond t.p { s with ask := if askOf t.x = 0 then s.ask else askOf t.x }).bind fun c s => .ok () { s with cond := c, done := 4 }
def line (s : S) : R Unit :=
  let y := sy (next s)
  if s.done = 0 then (if y == kTest then titleLine s else wrong s)
  else if s.done = 1 then (if y == kInit then initLine s else if y == kThread then threadLine s else wrong s)
  else if s.done = 2 then (if y == kThread then threadLine s else wrong s)
  else if y == kThread then threadLine s else if y == kFence then insLine s else if y == kSkip then insLine s else if y == sNAME then insLine s else if y == sREG then insLine s
  else if y == kSome then queryLine s else if y == kNone then queryLine s else if y == kAll then queryLine s else wrong s
def prog : Nat → S → R Unit
  | 0, s => .ok () s
  | n + 1, s => if s.done = 4 then .ok () s else (line s).bind fun _ s => prog n s
/-- What Parse, Line and Cond answer on a text: the offset and the error of its first invalid token, or what is read. -/
def start (s : ByteArray) (locs : List ByteArray) (opn : Bool) : S := { rest := toks s, size := (s.size : Int), locs := locs, opn := opn }
def read {α : Type} (whole : S → R α) (s : ByteArray) (locs : List ByteArray) (opn : Bool) : R α :=
  if (LX.out (bsOf s)).2.2 = 0 then whole (start s locs opn) else .bad ((LX.out (bsOf s)).2.1 : Int) ((LX.out (bsOf s)).2.2 : Int)
def parse (s : ByteArray) : R Unit := read (fun s => prog (s.rest.length + 1) s) s [] true
end PX
end Go.Proofs.Ytglbmiadgdadfaa
