/- Runs of closed code, reckoned: regions, code, calls. -/
import Derived.Test.YtiakmddejckkbaaGreatXStep
namespace Go.Proofs.YtiakmddejckkbaaGreat

/-- A call's function and arguments. -/
def callArgs (A : Fr) (c : Call) : Option (Nat × List Value) := match c.callee with
  | .value f => match ev A f with
    | some (.func (.func g) fs cs) => match evAll A c.args.toList with
      | some xs => some (g, fs.toList ++ xs ++ cs.toList)
      | none => none
    | _ => none
  | _ => none
abbrev CallA := Nat → List Value → AW → Option (Value × AW)
def stepA (call : CallA) (P : Program) (A : Fr) (σ : AW) (o : Oper) : Option (Value × AW) := match o.op with
  | .call c => match c.callee with
    | .value _ => match callArgs A c with
      | some (g, xs) => call g xs σ
      | none => none
    | _ => opA P A σ o
  | _ => opA P A σ o
def putA (A : Fr) (dst : Option Tmp) (v : Value) : Fr := match dst with
  | some d => A.set d v
  | none => A
def wantedA (all : List Oper) (A : Fr) (o : Oper) : Option Bool := match o.guard with
  | none => some true
  | some (j, want) => match all[j]? with
    | none => none
    | some x => match x.dst with
      | none => none
      | some d => match A.get d with
        | some (.bool b) => some (b == want)
        | some _ => some false
        | none => none
def guardA (call : CallA) (P : Program) (all : List Oper) (A : Fr) (σ : AW) (o : Oper) : Option (Value × AW) := match wantedA all A o with
  | some true => stepA call P A σ o
  | some false => some (undef, σ)
  | none => none
/-- Operations one behind the other. -/
def seqA (call : CallA) (P : Program) (all : List Oper) : List Oper → Fr → AW → Option (Fr × AW)
  | [], A, σ => some (A, σ)
  | o :: l, A, σ => match guardA call P all A σ o with
    | none => none
    | some (v, σ') => seqA call P all l (putA A o.dst v) σ'

/-! ### Operations in whatever order -/
def effect : Op → Bool
  | .alloc _ | .box _ _ | .buildSlice _ _ _ | .makeSlice _ _ _ | .makeMap _ _ | .store _ _ _ | .mapUpdate _ _ _ _ => true
  | .call c => match c.callee with
    | .builtin .append | .builtin .copy => true
    | .builtin _ => false
    | _ => true
  | _ => false
/-- Who must come ahead of each: as bits. -/
def ancO (acc : List Nat) (o : Oper) : Nat := o.after.toList.foldl (fun m e => if Region.binds .any e then m ||| (2 ^ e.on) ||| getN 0 acc e.on else m) 0
def ancL : List Nat → List Oper → List Nat
  | acc, [] => acc
  | acc, o :: l => ancL (acc ++ [ancO acc o]) l
def looks (all : List Oper) (o : Oper) : List Tmp := o.op.operands.toList.filterMap (fun | .tmp t => some t | _ => none) ++ (match o.guard with
  | some (g, _) => (match all[g]? with | some x => x.dst.toList | none => [])
  | none => [])
def bitB (m i : Nat) : Bool := m.testBit i
def dstOK (all : List Oper) (an : List Nat) (o : Oper) (i : Nat) (x : Oper) (j : Nat) : Bool := match x.dst with
  | none => true
  | some d => o.dst != some d && (!(looks all o).contains d || (decide (j < i) && bitB (getN 0 an i) j) || bitB (getN 0 an j) i)
def effOK (an : List Nat) (i0 : Nat) (o : Oper) (i : Nat) (x : Oper) (j : Nat) : Bool := !effect o.op || !effect x.op || decide (i < j) || i == i0 || bitB (getN 0 an i) j
def isAlloc : Op → Bool
  | .alloc _ => true
  | _ => false
/-- A variable that is made whenever it comes up: its place (none: the number of all). -/
def floatAt (all : List Oper) (an : List Nat) : Nat := match all.zipIdx.find? (fun (o, i) => isAlloc o.op && all.zipIdx.any fun (x, j) => decide (j < i) && effect x.op && !bitB (getN 0 an i) j) with
  | some (_, i) => i
  | none => all.length
def floatOK (all : List Oper) (i0 : Nat) : Bool := match all[i0]? with
  | none => true
  | some o => isAlloc o.op && o.guard.isNone && (match o.dst with
    | none => false
    | some d => all.all fun x => effect x.op || !(looks all x).contains d)
/-- What must hold of the operations themselves. -/
def regOK (all : List Oper) : Bool :=
  let an := ancL [] all
  (all.zipIdx.all fun (o, i) => (getN 0 an i == ancO an o) && o.after.toList.all fun e => !Region.binds .any e || decide (e.on < i)) &&
  (all.zipIdx.all fun (o, i) => all.zipIdx.all fun (x, j) => i == j || (dstOK all an o i x j && effOK an (floatAt all an) o i x j)) &&
  floatOK all (floatAt all an) &&
  (all.all fun o => match o.op with | .select _ _ => false | _ => true)
/-- The states on the way: ahead of each operation, and its value. -/
def traceA (call : CallA) (P : Program) (all : List Oper) : List Oper → Fr → AW → Option (List (Fr × AW × Value) × Fr × AW)
  | [], A, σ => some ([], A, σ)
  | o :: l, A, σ => match guardA call P all A σ o with
    | none => none
    | some (v, σ') => match traceA call P all l (putA A o.dst v) σ' with
      | none => none
      | some (tr, r) => some ((A, σ, v) :: tr, r)
def veq0 : Value → Value → Bool
  | .bool a, .bool b => a == b
  | .int k a, .int j b => k == j && a == b
  | .string a, .string b => a.data.toList == b.data.toList
  | .pointer none, .pointer none => true
  | .pointer (some a), .pointer (some b) => a.block == b.block && a.off == b.off && a.spot == b.spot
  | .slice none l c, .slice none m d => l == m && c == d
  | .slice (some a) l c, .slice (some b) m d => a.block == b.block && a.off == b.off && a.spot == b.spot && l == m && c == d
  | .map none, .map none => true
  | .map (some a), .map (some b) => a == b
  | .nilFunc, .nilFunc => true
  | .nilIface, .nilIface => true
  | _, _ => false
def veqLs (f : Value → Value → Bool) : List Value → List Value → Bool
  | [], [] => true
  | x :: l, y :: m => f x y && veqLs f l m
  | _, _ => false
def veq1 (x y : Value) : Bool := match x, y with
  | .func (.func f) ⟨a⟩ ⟨b⟩, .func (.func g) ⟨c⟩ ⟨d⟩ => f == g && veqLs veq0 a c && veqLs veq0 b d
  | x, y => veq0 x y
def veqL : List Value → List Value → Bool := veqLs veq1
def veq2 (x y : Value) : Bool := match x, y with
  | .agg ⟨l⟩, .agg ⟨m⟩ => veqL l m
  | x, y => veq1 x y
def veq (x y : Value) : Bool := match x, y with
  | .tuple ⟨l⟩, .tuple ⟨m⟩ => veqLs veq2 l m
  | x, y => veq2 x y
/-- A place f: all that act ahead of it have acted, no other has. May operation i come up there? -/
def mayBe (all : List Oper) (an : List Nat) (i0 : Nat) (i f : Nat) : Bool :=
  all.zipIdx.all fun (x, j) => !effect x.op || j == i0 || ((!bitB (getN 0 an i) j || decide (j < f)) && (!bitB (getN 0 an j) i || decide (f ≤ j)))
def places (all : List Oper) : List Nat := 0 :: (all.zipIdx.filterMap fun (o, i) => if effect o.op then some (i + 1) else none)
def stOf (tr : List (Fr × AW × Value)) (σf : AW) (f : Nat) : AW := match tr[f]? with
  | some (_, σ, _) => σ
  | none => σf
/-- What only looks comes to the same wherever it may come up. -/
def calm (call : CallA) (P : Program) (all : List Oper) (an : List Nat) (tr : List (Fr × AW × Value)) (σf : AW) : Bool :=
  (all.zip tr).zipIdx.all fun ((o, (A, _, v)), i) => effect o.op ||
    (places all).all fun f => !mayBe all an (floatAt all an) i f ||
      (match guardA call P all A (stOf tr σf f) o with
       | some (u, _) => veq u v
       | none => false)
def floatFit (all : List Oper) (i0 : Nat) (A : Fr) : Bool := match all[i0]? with
  | none => true
  | some o => match o.dst with
    | none => true
    | some d => (A.get d).isSome
def drawA (call : CallA) (P : Program) (all : List Oper) (A : Fr) (σ : AW) : Option (Fr × AW) :=
  if regOK all && floatFit all (floatAt all (ancL [] all)) A then match traceA call P all all A σ with
    | none => none
    | some (tr, A', σ') => if calm call P all (ancL [] all) tr σ' then some (A', σ') else none
  else none

/-! ### Code -/
abbrev ExR := Option (Exit × Fr × AW)
abbrev ExA := Code → Fr → AW → ExR
def loopA (rec : ExA) (c : Code) : Nat → Fr → AW → ExR
  | 0, _, _ => none
  | n + 1, A, σ => match rec c A σ with
    | some (.normal, A', σ') => loopA rec c n A' σ'
    | r => r
def scopeA (rec : ExA) (c : Code) : Nat → Code → Fr → AW → ExR
  | 0, _, _, _ => none
  | n + 1, cur, A, σ => match rec cur A σ with
    | some (.goto l, A', σ') => match findLabel c l with
      | some rest => scopeA rec c n rest A' σ'
      | none => none
    | r => r
def resultOne (P : Program) (A : Fr) (σ : AW) : ResultVar → Option Value
  | .tmp t => A.get t
  | .cell a t => match A.get a with
    | some (.pointer (some ad)) => loadA P σ t ad
    | _ => none
def resultsA (P : Program) (A : Fr) (σ : AW) : List ResultVar → Option (List Value)
  | [] => some []
  | r :: l => match resultOne P A σ r with
    | none => none
    | some v => match resultsA P A σ l with
      | none => none
      | some vs => some (v :: vs)
def resultA (vs : List Value) : Value := match vs with
  | [v] => v
  | l => .tuple l.toArray
def callA (X : CallA) (rec : ExA) (P : Program) : CallA := fun g xs σ =>
  match X g xs σ with
  | some r => some r
  | none => match P.funcs[g]? with
    | none => none
    | some fn => match fn.body with
      | none => none
      | some c => if xs.length ≤ fn.ntmps then match rec c ((Fr.new fn.ntmps).fill 0 xs) σ with
        | some (.normal, A, σ') | some (.ret, A, σ') => match resultsA P A σ' fn.results.toList with
          | some vs => some (resultA vs, σ')
          | none => none
        | _ => none
        else none
def exB (X : CallA) (P : Program) (rec : ExA) : ExA := fun c A σ => match c with
  | .skip | .label _ => some (.normal, A, σ)
  | .region _ ops false => match seqA (callA X rec P) P ops.toList ops.toList A σ with
    | some (A', σ') => some (.normal, A', σ')
    | none => none
  | .region _ ops true => match drawA (callA X rec P) P ops.toList A σ with
    | some (A', σ') => some (.normal, A', σ')
    | none => none
  | .seq x y => match rec x A σ with
    | some (.normal, A', σ') => rec y A' σ'
    | r => r
  | .cond c x y => match ev A c with
    | some (.bool b) => rec (if b then x else y) A σ
    | _ => none
  | .block id c => match rec c A σ with
    | some (.exit i, A', σ') => if i = id then some (.normal, A', σ') else some (.exit i, A', σ')
    | r => r
  | .loop c => loopA rec c 100000 A σ
  | .exit id => some (.exit id, A, σ)
  | .scope c => scopeA rec c 100000 c A σ
  | .goto l => some (.goto l, A, σ)
  | .ret => some (.ret, A, σ)
  | _ => none
/-- Code is run. -/
def ex (X : CallA) (P : Program) : Nat → ExA
  | 0 => fun _ _ _ => none
  | n + 1 => exB X P (ex X P n)
def runA (X : CallA) (P : Program) (n : Nat) : CallA := callA X (ex X P n) P
def AW0 : AW := ⟨0, []⟩

end Go.Proofs.YtiakmddejckkbaaGreat
