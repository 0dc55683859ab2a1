/- The program's reader of tokens (package syntax), in plain words: functions over the tokens that are left, the place and the error. How deep a thing stands is the number of its Knot: all recursion goes through deeper. Values with their slices' elements: what a value reads as, in the reckoning's memory. Steps whose tactic stands as a default argument. The program's reader in the reckoning's memory. -/
import Derived.Test.YthogkmcahnkkoaaGreatDoorJ05
namespace Go.Proofs.YthogkmcahnkkoaaGreatDoor
def NT : ByteArray := ⟨#[111, 114]⟩
def EN : ByteArray := ⟨#[97, 110, 100]⟩
def iT : ByteArray := ⟨#[110, 111, 116]⟩
def uh : ByteArray := ⟨#[105, 115]⟩
def kZ : ByteArray := ⟨#[110, 117, 108, 108]⟩
def uO : ByteArray := ⟨#[105, 110]⟩
def rH : ByteArray := ⟨#[116, 114, 117, 101]⟩
def nZ : ByteArray := ⟨#[102, 97, 108, 115, 101]⟩
def vK : ByteArray := ⟨#[99, 97, 115, 101]⟩
def og : ByteArray := ⟨#[101, 120, 105, 115, 116, 115]⟩
def eX : ByteArray := ⟨#[115, 101, 108, 101, 99, 116]⟩
def lX : ByteArray := ⟨#[119, 104, 101, 110]⟩
def lY : ByteArray := ⟨#[116, 104, 101, 110]⟩
def jP : ByteArray := ⟨#[101, 108, 115, 101]⟩
def EO : ByteArray := ⟨#[101, 110, 100]⟩
def sV : ByteArray := ⟨#[117, 110, 105, 111, 110]⟩
def mJ : ByteArray := ⟨#[101, 120, 99, 101, 112, 116]⟩
def iU : ByteArray := ⟨#[105, 110, 116, 101, 114, 115, 101, 99, 116]⟩
def w_all : ByteArray := ⟨#[97, 108, 108]⟩
def eH : ByteArray := ⟨#[100, 105, 115, 116, 105, 110, 99, 116]⟩
def lg : ByteArray := ⟨#[102, 114, 111, 109]⟩
def jm : ByteArray := ⟨#[119, 104, 101, 114, 101]⟩
def lJ : ByteArray := ⟨#[103, 114, 111, 117, 112]⟩
def xu : ByteArray := ⟨#[98, 121]⟩
def oh : ByteArray := ⟨#[104, 97, 118, 105, 110, 103]⟩
def mW : ByteArray := ⟨#[111, 114, 100, 101, 114]⟩
def oq : ByteArray := ⟨#[108, 105, 109, 105, 116]⟩
def mM : ByteArray := ⟨#[97, 115]⟩
def BA : ByteArray := ⟨#[100, 101, 115, 99]⟩
def o8 : ByteArray := ⟨#[108, 101, 102, 116]⟩
def lZ : ByteArray := ⟨#[106, 111, 105, 110]⟩
def BD : ByteArray := ⟨#[111, 110]⟩
def fO : ByteArray := ⟨#[118, 105, 115, 105, 98, 108, 101]⟩
def qF : ByteArray := ⟨#[99, 111, 117, 110, 116]⟩
def P6 : ByteArray := ⟨#[115, 117, 109]⟩
def P7 : ByteArray := ⟨#[109, 105, 110]⟩
def P8 : ByteArray := ⟨#[109, 97, 120]⟩
def yF : ByteArray := ⟨#[115, 101, 116]⟩
def YD : ByteArray := ⟨#[105, 102]⟩
def DX : ByteArray := ⟨#[119, 104, 105, 108, 101]⟩
def KY : ByteArray := ⟨#[102, 111, 114]⟩
def zY : ByteArray := ⟨#[112, 114, 105, 110, 116]⟩
def zZ : ByteArray := ⟨#[105, 110, 112, 117, 116]⟩
def mO : ByteArray := ⟨#[105, 110, 115, 101, 114, 116]⟩
def uP : ByteArray := ⟨#[117, 112, 100, 97, 116, 101]⟩
def xw : ByteArray := ⟨#[100, 101, 108, 101, 116, 101]⟩
def P9 : ByteArray := ⟨#[116, 114, 121]⟩
def Qa : ByteArray := ⟨#[114, 97, 105, 115, 101]⟩
def I7 : ByteArray := ⟨#[99, 97, 108, 108]⟩
def Qb : ByteArray := ⟨#[98, 101, 103, 105, 110]⟩
def KZ : ByteArray := ⟨#[99, 111, 109, 109, 105, 116]⟩
def EP : ByteArray := ⟨#[114, 111, 108, 108, 98, 97, 99, 107]⟩
def U7 : ByteArray := ⟨#[115, 107, 105, 112]⟩
def DY : ByteArray := ⟨#[99, 97, 116, 99, 104]⟩
def uj : ByteArray := ⟨#[105, 110, 116, 111]⟩
def uQ : ByteArray := ⟨#[118, 97, 108, 117, 101, 115]⟩
def aao : ByteArray := ⟨#[105, 110, 116]⟩
def U8 : ByteArray := ⟨#[98, 111, 111, 108]⟩
def aa4 : ByteArray := ⟨#[116, 101, 120, 116]⟩
def qh : ByteArray := ⟨#[40]⟩
def Gi : ByteArray := ⟨#[41]⟩
def dJ : ByteArray := ⟨#[44]⟩
def vM : ByteArray := ⟨#[59]⟩
def mP : ByteArray := ⟨#[46]⟩
def kF : ByteArray := ⟨#[42]⟩
def xA : ByteArray := ⟨#[43]⟩
def jq : ByteArray := ⟨#[45]⟩
def yX : ByteArray := ⟨#[124, 124]⟩
def vN : ByteArray := ⟨#[47]⟩
def ER : ByteArray := ⟨#[37]⟩
def uS : ByteArray := ⟨#[61]⟩
def Gj : ByteArray := ⟨#[60, 62]⟩
def Gl : ByteArray := ⟨#[60]⟩
def Gm : ByteArray := ⟨#[60, 61]⟩
def Gn : ByteArray := ⟨#[62]⟩
def Gp : ByteArray := ⟨#[62, 61]⟩
def yY : ByteArray := ⟨#[123]⟩
def BF : ByteArray := ⟨#[125]⟩
def pJ : ByteArray := ⟨#[58]⟩
def eB : ByteArray := ⟨#[]⟩
abbrev Tr := Value
structure Sy where
 left : List Tk
 pl : Int
 err : Int
abbrev SM (α : Type) : Type := StateM Sy α
theorem SM.pure_run {α : Type} (a : α) (σ : Sy) : (pure a : SM α) σ = (a, σ) := rfl
theorem SM.bind_run {α β : Type} (m : SM α) (k : α → SM β) (σ : Sy) : (m >>= k) σ = k (m σ).1 (m σ).2 := rfl
def aa5 : Tk := (0, eB, 0, 0)
def Sy.head (σ : Sy) : Tk := σ.left.headD aa5
def eF (x : ByteArray) (σ : Sy) : Bool := decide (σ.head.2.1 = x) && (σ.head.1 == 1 || σ.head.1 == 4)
def oN (x : ByteArray) : SM Bool := fun σ => (eF x σ, σ)
def wB : SM Tk := fun σ => (σ.head, σ)
def bK (e : Int) : SM Unit := fun σ => ((), if σ.err = 0 then ⟨σ.left.drop (σ.left.length - 1), σ.head.2.2.2, e⟩ else σ)
def aI : List ByteArray → SM (Option ByteArray)
 | [] => fun σ => (none, σ)
 | x :: l => fun σ => if eF x σ then (some x, ⟨σ.left.tail, σ.pl, σ.err⟩) else aI l σ
def aB (x : ByteArray) : SM Bool := fun σ => if eF x σ then (true, ⟨σ.left.tail, σ.pl, σ.err⟩) else (false, σ)
def aV (k : Int) : SM Bool := fun σ => if σ.head.1 = k then (true, ⟨σ.left.tail, σ.pl, σ.err⟩) else (false, σ)
def dA (x : ByteArray) : SM Unit := do
 if ← aB x then pure () else bK 10
def bZ : SM ByteArray := do
 let t ← wB
 if qg t.2.1 then do
  bK 10
  pure eB
 else if ← aV 1 then pure t.2.1
 else do
  bK 10
  pure eB
def lK : SM Int := do
 let t ← wB
 if ← aV 2 then pure t.2.2.1
 else do
  bK 10
  pure 0
def acW : SM Int := do
 match ← aI [aao, U8, aa4] with
 | some w => pure (if w = aao then 2 else if w = U8 then 1 else 3)
 | none => do
  bK 10
  pure 0
def loopS {α : Type} (step : α → SM (Option α)) : Nat → α → SM α
 | 0, x => pure x
 | f + 1, x => do
  match ← step x with
  | some y => loopS step f y
  | none => pure x
def rJ {α : Type} (step : α → SM (Option α)) (x : α) : SM α := fun σ => loopS step σ.left.length x σ
def dL (more : Tr → ByteArray → SM Tr) (marks : List ByteArray) (x : Tr) : SM Tr :=
 rJ (fun x => do
  match ← aI marks with
  | some m => do
   let y ← more x m
   pure (some y)
  | none => pure none) x
def Di {α : Type} (word : ByteArray) (read : SM α) (l : List α) : SM (List α) :=
 rJ (fun l => do
  if ← aB word then do
   let y ← read
   pure (some (l ++ [y]))
  else pure none) l
def jW {α : Type} (mark : ByteArray) (read : SM α) : SM (List α) := do
 let x ← read
 Di mark read [x]
def fJ {α : Type} (word : ByteArray) (read : SM α) : SM (List α) := do
 if ← aB word then do
  let x ← read
  pure [x]
 else pure []
def bH {α : Type} (read : SM α) : SM α := do
 dA qh
 let x ← read
 dA Gi
 pure x
def jF {α : Type} (read : SM α) : SM (List α) :=
 bH (do
  if ← oN Gi then pure [] else jW dJ read)
def sl (n : Nat) (l : List Value) : Value := .iface n (.agg l.toArray)
def kH (k n : Int) (s t : ByteArray) (kids qs : List Tr) : Tr := .agg ⟨[.int .i64 k, .int .i64 n, .string s, .string t, sl 6 kids, sl 10 qs]⟩
def zE : Tr := kH 0 0 eB eB [] []
def DL (k : Int) (d : Bool) (n : Int) (items froms wh gr ha or kids : List Tr) : Tr := .agg ⟨[.int .i64 k, .bool d, sl 7 items, sl 7 froms, sl 6 wh, sl 6 gr, sl 6 ha, sl 7 or, .int .i64 n, sl 10 kids]⟩
def zQ : Tr := DL 0 false 0 [] [] [] [] [] [] []
def DZ (k : Int) (v : Bool) (t a : ByteArray) (q kids on : List Tr) : Tr := .agg ⟨[.int .i64 k, .string t, .bool v, .string a, sl 10 q, sl 7 kids, sl 6 on]⟩
def um : Tr → List Value
 | .agg ⟨l⟩ => l
 | v => [v]
def withName (x : Tr) (s : ByteArray) : Tr := .agg ⟨um x ++ [.string s]⟩
def uT (x : Tr) (b : Bool) : Tr := .agg ⟨um x ++ [.bool b]⟩
def Qc (s : ByteArray) : Tr := .string s
def mkS (k a : Int) (t : ByteArray) (names es qs wh body other : List Tr) : Tr := .agg ⟨[.int .i64 k, .int .i64 a, .string t, sl 1 names, sl 6 es, sl 10 qs, sl 6 wh, sl 9 body, sl 9 other]⟩
structure gG where
 or : SM Tr
 not : SM Tr
 unary : SM Tr
 parts : SM Tr
 block : SM (List Tr)
def tooDeep {α : Type} (z : α) : SM α := do
 bK 9
 pure z
section
variable (K : gG)
def La (left : Tr) (mark : ByteArray) (right : Tr) : Tr := kH 10 0 mark eB [left, right] []
def fP (read : SM Tr) (marks : List ByteArray) : SM Tr := do
 let x ← read
 dL (fun left mark => do
  let y ← read
  pure (La left mark y)) marks x
def D5 : SM Tr := do
 dA lX
 let a ← K.or
 dA lY
 let b ← K.or
 dA jP
 let c ← K.or
 dA EO
 pure (kH 11 0 eB eB [a, b, c] [])
def uU (s : ByteArray) : Bool := decide (s = qF) || decide (s = P6) || decide (s = P7) || decide (s = P8)
def qQ (name : ByteArray) : SM (List Tr) :=
 bH (do
  if name = qF then do
   if ← aB kF then pure [] else do
    let x ← K.or
    pure [x]
  else do
   let x ← K.or
   pure [x])
def ES : SM Tr := do
 let name ← bZ
 if ← aB mP then do
  let s ← bZ
  pure (kH 5 0 s name [] [])
 else if uU name then do
  if ← oN qh then do
   let l ← qQ K name
   pure (kH 15 0 name eB l [])
  else pure (kH 5 0 name eB [] [])
 else pure (kH 5 0 name eB [] [])
def rM : SM Tr := do
 if ← oN eX then do
  let q ← K.parts
  pure (kH 14 0 eB eB [] [q])
 else K.or
def Hf : SM Tr := do
 let t ← wB
 if ← aV 2 then pure (kH 3 t.2.2.1 eB eB [] [])
 else if ← aV 3 then pure (kH 4 0 t.2.1 eB [] [])
 else if ← aB kZ then pure (kH 1 0 eB eB [] [])
 else if ← aB rH then pure (kH 2 1 eB eB [] [])
 else if ← aB nZ then pure (kH 2 0 eB eB [] [])
 else if ← aB pJ then do
  let s ← bZ
  pure (kH 6 0 s eB [] [])
 else if ← aB vK then D5 K
 else if ← aB og then do
  let q ← bH K.parts
  pure (kH 12 0 eB eB [] [q])
 else if ← oN qh then bH (rM K)
 else ES K
def yZ : SM Tr := do
 if ← aB jq then do
  let x ← K.unary
  pure (kH 7 0 eB eB [x] [])
 else Hf K
def Lc : SM Tr := fP (yZ K) [kF, vN, ER]
def Aa : SM Tr := fP (Lc K) [xA, jq, yX]
def inS (x : Tr) (n : Int) : SM Tr := do
 dA uO
 let q ← bH K.parts
 pure (kH 13 n eB eB [x] [q])
def qR : SM Tr := do
 let x ← Aa K
 match ← aI [uS, Gj, Gl, Gm, Gn, Gp] with
 | some mark => do
  let y ← Aa K
  pure (La x mark y)
 | none => do
  if ← aB uh then do
   let n ← aB iT
   dA kZ
   pure (kH 9 (if n then 1 else 0) eB eB [x] [])
  else if ← aB iT then inS K x 1
  else if ← oN uO then inS K x 0
  else pure x
def notS : SM Tr := do
 if ← aB iT then do
  let x ← K.not
  pure (kH 8 0 eB eB [x] [])
 else qR K
def acX : SM Tr := fP (notS K) [EN]
def orS : SM Tr := fP (acX K) [NT]
def Hg : SM Tr := do
 let x ← K.or
 dA mM
 let s ← bZ
 pure (withName x s)
def keyS : SM Tr := do
 let x ← K.or
 let d ← aB BA
 pure (uT x d)
def BG : SM Tr := do
 if ← oN qh then do
  let q ← bH K.parts
  dA mM
  let s ← bZ
  pure (DZ 2 false eB s [q] [] [])
 else do
  let t ← bZ
  let v ← aB fO
  if ← aB mM then do
   let a ← bZ
   pure (DZ 1 v t a [] [] [])
  else pure (DZ 1 v t t [] [] [])
def Dj (left : Tr) (k : Int) : SM Tr := do
 let y ← BG K
 dA BD
 let e ← K.or
 pure (DZ k false eB eB [] [left, y] [e])
def vO : SM Tr := do
 let x ← BG K
 dL (fun left word => do
  if word = o8 then do
   dA lZ
   Dj K left 4
  else Dj K left 3) [o8, lZ] x
def y8 : SM (List Tr × List Tr) := do
 if ← aB lJ then do
  dA xu
  let g ← jW dJ K.or
  let h ← fJ oh K.or
  pure (g, h)
 else pure ([], [])
def y9 : SM (List Tr) := do
 if ← aB mW then do
  dA xu
  jW dJ (keyS K)
 else pure []
def zf : SM Int := do
 if ← aB oq then lK else pure (-1)
def rO : SM Tr := do
 if ← oN qh then bH K.parts
 else do
  dA eX
  let d ← aB eH
  let items ← jW dJ (Hg K)
  let froms ← fJ lg (vO K)
  let wh ← fJ jm K.or
  let gh ← y8 K
  let or ← y9 K
  let n ← zf
  pure (DL 1 d n items froms wh gh.1 gh.2 or [])
def kJ (word : ByteArray) : SM Int := do
 if word = mJ then pure 4
 else if word = iU then pure 5
 else if ← aB w_all then pure 3
 else pure 2
def ET : SM Tr := do
 let x ← rO K
 dL (fun left word => do
  let k ← kJ word
  let y ← rO K
  pure (DL k false (-1) [] [] [] [] [] [] [left, y])) [sV, mJ, iU] x
def BH (s : ByteArray) : Int :=
 if s = yF then 1 else if s = YD then 2 else if s = DX then 3 else if s = KY then 4 else if s = zY then 5 else if s = zZ then 17
 else if s = mO then 6 else if s = uP then 8 else if s = xw then 9 else if s = P9 then 10 else if s = Qa then 11
 else if s = I7 then 12 else if s = Qb then 13 else if s = KZ then 14 else if s = EP then 15 else if s = U7 then 16 else 0
def BI : SM (ByteArray × Tr) := do
 let s ← bZ
 dA uS
 let x ← K.or
 pure (s, x)
def U9 : SM (List Tr) := fJ jm K.or
def Va (k a : Int) : SM Tr :=
 if k = 1 then do
  let p ← BI K
  pure (mkS k a eB [Qc p.1] [p.2] [] [] [] [])
 else if k = 17 then do
  let s ← bZ
  pure (mkS k a eB [Qc s] [] [] [] [] [])
 else if k = 5 then do
  let s ← bZ
  let x ← K.or
  pure (mkS k a s [] [x] [] [] [] [])
 else if k = 6 then do
  dA uj
  let s ← bZ
  if ← aB uQ then do
   let l ← bH (jW dJ K.or)
   pure (mkS 6 a s [] l [] [] [] [])
  else do
   let q ← K.parts
   pure (mkS 7 a s [] [] [q] [] [] [])
 else if k = 8 then do
  let s ← bZ
  dA yF
  let l ← jW dJ (BI K)
  let wh ← U9 K
  pure (mkS k a s (l.map fun p => Qc p.1) (l.map fun p => p.2) [] wh [] [])
 else if k = 9 then do
  dA lg
  let s ← bZ
  let wh ← U9 K
  pure (mkS k a s [] [] [] wh [] [])
 else if k = 12 then do
  let s ← bZ
  let l ← jF K.or
  pure (mkS k a s [] l [] [] [] [])
 else pure (mkS k a eB [] [] [] [] [] [])
def aaq (k a : Int) : SM Tr :=
 if k = 2 then do
  let x ← K.or
  let b ← K.block
  if ← aB jP then do
   let c ← K.block
   pure (mkS k a eB [] [x] [] [] b c)
  else pure (mkS k a eB [] [x] [] [] b [])
 else if k = 3 then do
  let x ← K.or
  let b ← K.block
  pure (mkS k a eB [] [x] [] [] b [])
 else if k = 4 then do
  let l ← jW dJ bZ
  dA uO
  let q ← K.parts
  let b ← K.block
  pure (mkS k a eB (l.map Qc) [] [q] [] b [])
 else if k = 10 then do
  let b ← K.block
  dA DY
  let c ← K.block
  pure (mkS k a eB [] [] [] [] b c)
 else do
  let s ← Va K k a
  dA vM
  pure s
def Vb : SM (List Tr) :=
 rJ (fun l => do
  let t ← wB
  if BH t.2.1 = 0 then pure none
  else if ← aV 1 then do
   let s ← aaq K (BH t.2.1) t.2.2.2
   pure (some (l ++ [s]))
  else pure none) []
def Vd : SM (List Tr) := do
 dA yY
 let l ← Vb K
 dA BF
 pure l
end
def I8 : Nat → gG
 | 0 => ⟨tooDeep zE, tooDeep zE, tooDeep zE, tooDeep zQ, tooDeep []⟩
 | n + 1 => ⟨orS (I8 n), notS (I8 n), yZ (I8 n), ET (I8 n), Vd (I8 n)⟩
def EU {α : Type} (none : α) (read : SM α) (ts : List Tk × Nat × Int) : α × Int × Int :=
 if ts.2.2 ≠ 0 then (none, (ts.2.1 : Int), ts.2.2)
 else
  let r := (do
   let x ← read
   let t ← wB
   if t.1 ≠ 0 then do
    bK 10
    pure x
   else pure x : SM α) ⟨ts.1, 0, 0⟩
  if r.2.err ≠ 0 then (none, r.2.pl, r.2.err) else (r.1, 0, 0)
def NU (s : ByteArray) : Tr × Int × Int := EU zE (I8 40).or (dw s)
def QY (σ : AW) (D : Nat → Prop) (n : Nat) (v : Value) (l : List Value) : Prop :=
 (l = [] ∧ ∃ a c, v = .slice a 0 c) ∨ ∃ b o c k e z cs, v = .slice (some ⟨b, o, none⟩) l.length c ∧ σ.get b = ⟨k, e, z, cs⟩ ∧ (k = 1 ∨ k = 2 ∨ k = 5) ∧ z ≠ 0 ∧ b < σ.next ∧ D b ∧ (cs.drop o).take (l.length * n) = l.flatMap aF ∧ ∀ x ∈ l, (aF x).length = n
def Rd (σ : AW) (D : Nat → Prop) (p : Value) : Value → Prop :=
 Value.rec (motive_1 := fun _ => Value → Prop) (motive_2 := fun _ => List Value → Prop) (motive_3 := fun _ => List Value → Prop)
  (fun b v => v = .bool b) (fun k n v => v = .int k n) (fun _ _ _ => False) (fun _ _ _ _ => False) (fun s v => v = .string s)
  (fun _ _ => False) (fun _ _ _ _ => False) (fun _ _ => False) (fun _ _ => False) (fun _ _ _ _ _ _ => False) (fun _ => False)
  (fun n _ ih v => ∃ l, ih (.agg ⟨l⟩) ∧ QY σ D n v l) (fun _ => False)
  (fun _ ih v => ∃ l, v = .agg ⟨l⟩ ∧ ih l) (fun _ _ _ => False)
  (fun _ ih => ih) (fun l => l = []) (fun _ _ ihp ihl l => ∃ v l', l = v :: l' ∧ ihp v ∧ ihl l') p
def nG (σ : AW) (D : Nat → Prop) : List Value → List Value → Prop
 | [], l => l = []
 | p :: ps, l => ∃ v l', l = v :: l' ∧ Rd σ D p v ∧ nG σ D ps l'
section
variable {σ σ' : AW} {D D' : Nat → Prop}
theorem sW {b : Bool} {v : Value} : Rd σ D (.bool b) v ↔ v = .bool b := Iff.rfl
theorem BJ {k : IntKind} {n : Int} {v : Value} : Rd σ D (.int k n) v ↔ v = .int k n := Iff.rfl
theorem jQ {s : ByteArray} {v : Value} : Rd σ D (.string s) v ↔ v = .string s := Iff.rfl
theorem jh {ps : List Value} {v : Value} : Rd σ D (.agg ⟨ps⟩) v ↔ ∃ l, v = .agg ⟨l⟩ ∧ nG σ D ps l := by
 have key : ∀ (ps l : List Value), (Value.rec_2 (motive_1 := fun _ => Value → Prop) (motive_2 := fun _ => List Value → Prop) (motive_3 := fun _ => List Value → Prop)
  (fun b v => v = .bool b) (fun k n v => v = .int k n) (fun _ _ _ => False) (fun _ _ _ _ => False) (fun s v => v = .string s)
  (fun _ _ => False) (fun _ _ _ _ => False) (fun _ _ => False) (fun _ _ => False) (fun _ _ _ _ _ _ => False) (fun _ => False)
  (fun n _ ih v => ∃ l, ih (.agg ⟨l⟩) ∧ QY σ D n v l) (fun _ => False)
  (fun _ ih v => ∃ l, v = .agg ⟨l⟩ ∧ ih l) (fun _ _ _ => False)
  (fun _ ih => ih) (fun l => l = []) (fun _ _ ihp ihl l => ∃ v l', l = v :: l' ∧ ihp v ∧ ihl l') ps : List Value → Prop) l ↔ nG σ D ps l := by
  intro ps
  induction ps with
  | nil => intro l; exact Iff.rfl
  | cons p ps ih =>
   intro l
   constructor
   ·rintro ⟨v, l', h1, h2, h3⟩; exact ⟨v, l', h1, h2, (ih l').1 h3⟩
   ·rintro ⟨v, l', h1, h2, h3⟩; exact ⟨v, l', h1, h2, (ih l').2 h3⟩
 constructor
 ·rintro ⟨l, h1, h2⟩; exact ⟨l, h1, (key ps l).1 h2⟩
 ·rintro ⟨l, h1, h2⟩; exact ⟨l, h1, (key ps l).2 h2⟩
theorem oO {n : Nat} {ps : List Value} {v : Value} : Rd σ D (sl n ps) v ↔ ∃ l, nG σ D ps l ∧ QY σ D n v l := by
 constructor
 ·rintro ⟨l, h1, h2⟩
  obtain ⟨l', e, h⟩ := jh.1 h1
  injection e with e
  injection e with e
  subst e
  exact ⟨l, h, h2⟩
 ·rintro ⟨l, h1, h2⟩
  exact ⟨l, jh.2 ⟨l, rfl, h1⟩, h2⟩
theorem QY.keep (h : ∀ k, D k → k < σ.next → (σ.get k).esz ≠ 0 → σ'.get k = σ.get k) (hn : σ.next ≤ σ'.next) (hD : ∀ k, D k → k < σ.next → D' k) {n : Nat} {v : Value} {l : List Value} (hs : QY σ D n v l) : QY σ' D' n v l := by
 rcases hs with hs | ⟨b, o, c, k, e, z, cs, h1, h2, h3, h4, h5, h6, h7, h8⟩
 ·exact .inl hs
 ·exact .inr ⟨b, o, c, k, e, z, cs, h1, by rw [h b h6 h5 (by rw [h2]; exact h4)]; exact h2, h3, h4, Nat.lt_of_lt_of_le h5 hn, hD b h6 h5, h7, h8⟩
theorem Rd.keep (h : ∀ k, D k → k < σ.next → (σ.get k).esz ≠ 0 → σ'.get k = σ.get k) (hn : σ.next ≤ σ'.next) (hD : ∀ k, D k → k < σ.next → D' k) {p v : Value} (hr : Rd σ D p v) : Rd σ' D' p v := by
 revert v
 refine Value.rec (motive_1 := fun p => ∀ {v}, Rd σ D p v → Rd σ' D' p v) (motive_2 := fun a => ∀ {l}, nG σ D a.toList l → nG σ' D' a.toList l) (motive_3 := fun ps => ∀ {l}, nG σ D ps l → nG σ' D' ps l) ?_ ?_ ?_ ?_ ?_ ?_ ?_ ?_ ?_ ?_ ?_ ?_ ?_ ?_ ?_ ?_ ?_ ?_ p
 ·exact fun _ _ h => h
 ·exact fun _ _ _ h => h
 ·exact fun _ _ _ h => h.elim
 ·exact fun _ _ _ _ h => h.elim
 ·exact fun _ _ h => h
 ·exact fun _ _ h => h.elim
 ·exact fun _ _ _ _ h => h.elim
 ·exact fun _ _ h => h.elim
 ·exact fun _ _ h => h.elim
 ·exact fun _ _ _ _ _ _ h => h.elim
 ·exact fun h => h.elim
 ·rintro n p ih v ⟨l, h1, h2⟩
  exact ⟨l, ih h1, h2.keep h hn hD⟩
 ·exact fun h => h.elim
 ·rintro ⟨ps⟩ ih v hv
  obtain ⟨l, h1, h2⟩ := jh.1 hv
  exact jh.2 ⟨l, h1, ih h2⟩
 ·exact fun _ _ _ h => h.elim
 ·exact fun _ ih => ih
 ·exact fun h => h
 ·rintro p ps ihp ihl l ⟨v, l', h1, h2, h3⟩
  exact ⟨v, l', h1, ihp h2, ihl h3⟩
theorem nG.keep (h : ∀ k, D k → k < σ.next → (σ.get k).esz ≠ 0 → σ'.get k = σ.get k) (hn : σ.next ≤ σ'.next) (hD : ∀ k, D k → k < σ.next → D' k) : ∀ {ps l : List Value}, nG σ D ps l → nG σ' D' ps l
 | [], _, h => h
 | _ :: _, _, ⟨v, l', h1, h2, h3⟩ => ⟨v, l', h1, h2.keep h hn hD, nG.keep h hn hD h3⟩
theorem nG.length : ∀ {ps l : List Value}, nG σ D ps l → l.length = ps.length
 | [], _, h => by rw [h]
 | _ :: _, _, ⟨v, l', h1, _, h3⟩ => by rw [h1, List.length_cons, List.length_cons, nG.length h3]
theorem nG.append : ∀ {ps qs l m : List Value}, nG σ D ps l → nG σ D qs m → nG σ D (ps ++ qs) (l ++ m)
 | [], _, _, _, h, k => by rw [h]; exact k
 | _ :: _, _, _, _, ⟨v, l', h1, h2, h3⟩, k => ⟨v, l' ++ _, by rw [h1]; rfl, h2, nG.append h3 k⟩
theorem nG.one {p v : Value} (h : Rd σ D p v) : nG σ D [p] [v] := ⟨v, [], rfl, h, rfl⟩
theorem aW (n : Nat) (a : Option Addr) (c : Nat) : Rd σ D (sl n []) (.slice a 0 c) := oO.2 ⟨[], rfl, .inl ⟨rfl, a, c, rfl⟩⟩
def Sh (n : Nat) (v : Value) : Prop := ∃ l, v = .agg ⟨l⟩ ∧ l.length = n ∧ l.all gu = true
def TE (n : Nat) (σ : AW) (D : Nat → Prop) (v p : Value) : Prop := Rd σ D p v ∧ Sh n v
theorem TE.keep {n : Nat} {v p : Value} (ht : TE n σ D v p) (h : ∀ k, D k → k < σ.next → (σ.get k).esz ≠ 0 → σ'.get k = σ.get k) (hn : σ.next ≤ σ'.next) (hD : ∀ k, D k → k < σ.next → D' k) : TE n σ' D' v p := ⟨ht.1.keep h hn hD, ht.2⟩
theorem ay {n : Nat} {l : List Value} {v : Value} (h : Rd σ D (sl n l) v) : gu v = true := by
 obtain ⟨m, _, hs⟩ := oO.1 h
 rcases hs with ⟨_, a, c, rfl⟩ | ⟨b, o, c, k, e, z, cs, rfl, _⟩ <;> rfl
theorem NV {n N e c z : Nat} {ps vs : List Value} (hg : σ.get N = ⟨1, e, z, vs.flatMap aF⟩) (hz : z ≠ 0) (hN : N < σ.next) (hD : D N) (hr : nG σ D ps vs) (hl : ∀ v ∈ vs, (aF v).length = n) : Rd σ D (sl n ps) (.slice (some ⟨N, 0, none⟩) vs.length c) := by
 refine oO.2 ⟨vs, hr, .inr ⟨N, 0, c, 1, e, z, _, rfl, hg, .inl rfl, hz, hN, hD, ?_, hl⟩⟩
 rw [List.drop_zero]
 have : (vs.flatMap aF).length = vs.length * n := by
  clear hg hr
  induction vs with
  | nil => simp
  | cons v vs ih =>
   rw [List.flatMap_cons, List.length_append, hl v (List.mem_cons_self ..), ih (fun u hu => hl u (List.mem_cons_of_mem _ hu)), List.length_cons, Nat.add_mul, Nat.one_mul, Nat.add_comm]
 rw [← this, List.take_length]
theorem Sh.len {n : Nat} {v : Value} (h : Sh n v) : (aF v).length = n := by
 obtain ⟨l, rfl, h, _⟩ := h
 exact h
theorem jJ {n N e c z : Nat} {l : List Value} {p : Value} (hg : σ.get N = ⟨1, e, z, l⟩) (hz : z ≠ 0) (hN : N < σ.next) (hD : D N) (h : TE n σ D (.agg ⟨l⟩) p) : Rd σ D (sl n [p]) (.slice (some ⟨N, 0, none⟩) 1 c) :=
 NV (e := e) (z := z) (vs := [.agg ⟨l⟩]) (by rw [hg]; simp [aF]) hz hN hD (nG.one h.1) (fun v hv => by simp only [List.mem_singleton] at hv; subst hv; exact h.2.len)
theorem D6 {n N e c z : Nat} {l m : List Value} {p q : Value} (hg : σ.get N = ⟨1, e, z, l ++ m⟩) (hz : z ≠ 0) (hN : N < σ.next) (hD : D N) (h : TE n σ D (.agg ⟨l⟩) p) (k : TE n σ D (.agg ⟨m⟩) q) : Rd σ D (sl n [p, q]) (.slice (some ⟨N, 0, none⟩) 2 c) :=
 NV (e := e) (z := z) (vs := [.agg ⟨l⟩, .agg ⟨m⟩]) (by rw [hg]; simp [aF]) hz hN hD ⟨_, _, rfl, h.1, nG.one k.1⟩ (fun v hv => by
  simp only [List.mem_cons, List.not_mem_nil, or_false] at hv
  rcases hv with rfl | rfl
  ·exact h.2.len
  ·exact k.2.len)
theorem iM {k n : Int} {s t : ByteArray} {kids qs : List Tr} {vk vq : Value} (hk : Rd σ D (sl 6 kids) vk) (hq : Rd σ D (sl 10 qs) vq) : TE 6 σ D (.agg ⟨[.int .i64 k, .int .i64 n, .string s, .string t, vk, vq]⟩) (kH k n s t kids qs) :=
 ⟨jh.2 ⟨_, rfl, _, _, rfl, rfl, _, _, rfl, rfl, _, _, rfl, rfl, _, _, rfl, rfl, _, _, rfl, hk, _, _, rfl, hq, rfl⟩, _, rfl, rfl, by simp only [List.all_cons, List.all_nil, ay hk, ay hq]; rfl⟩
theorem I9 {k : Int} {d : Bool} {n : Int} {items froms wh gr ha or kids : List Tr} {v1 v2 v3 v4 v5 v6 v7 : Value} (h1 : Rd σ D (sl 7 items) v1) (h2 : Rd σ D (sl 7 froms) v2) (h3 : Rd σ D (sl 6 wh) v3) (h4 : Rd σ D (sl 6 gr) v4) (h5 : Rd σ D (sl 6 ha) v5) (h6 : Rd σ D (sl 7 or) v6) (h7 : Rd σ D (sl 10 kids) v7) :
  TE 10 σ D (.agg ⟨[.int .i64 k, .bool d, v1, v2, v3, v4, v5, v6, .int .i64 n, v7]⟩) (DL k d n items froms wh gr ha or kids) :=
 ⟨jh.2 ⟨_, rfl, _, _, rfl, rfl, _, _, rfl, rfl, _, _, rfl, h1, _, _, rfl, h2, _, _, rfl, h3, _, _, rfl, h4, _, _, rfl, h5, _, _, rfl, h6, _, _, rfl, rfl, _, _, rfl, h7, rfl⟩, _, rfl, rfl, by simp only [List.all_cons, List.all_nil, ay h1, ay h2, ay h3, ay h4, ay h5, ay h6, ay h7]; rfl⟩
theorem BK {k : Int} {v : Bool} {t a : ByteArray} {q kids on : List Tr} {v1 v2 v3 : Value} (h1 : Rd σ D (sl 10 q) v1) (h2 : Rd σ D (sl 7 kids) v2) (h3 : Rd σ D (sl 6 on) v3) : TE 7 σ D (.agg ⟨[.int .i64 k, .string t, .bool v, .string a, v1, v2, v3]⟩) (DZ k v t a q kids on) :=
 ⟨jh.2 ⟨_, rfl, _, _, rfl, rfl, _, _, rfl, rfl, _, _, rfl, rfl, _, _, rfl, rfl, _, _, rfl, h1, _, _, rfl, h2, _, _, rfl, h3, rfl⟩, _, rfl, rfl, by simp only [List.all_cons, List.all_nil, ay h1, ay h2, ay h3]; rfl⟩
end
end Go.Proofs.YthogkmcahnkkoaaGreatDoor
namespace Go.Proofs.YthogkmcahnkkoaaGreatDoor
open Go.RowKit
set_option linter.unusedVariables false
theorem xL {p q : Prop} (k : q) (h : q → p := by intro k; refine iH ?_; (repeat (with_reducible first | apply t_e | apply u_y | apply t_n | apply u_n | refine u_x rfl ?_)); exact k) : p := h k
theorem cJ {a b : Prop} (x : a) (y : b) : a ∧ b := ⟨x, y⟩
theorem nQ (a b : Int) (h : (a == b) = false := by exact rfl) : (a == b) = false := h
theorem eQ (a : Int) (h : (a == a) = true := by exact rfl) : (a == a) = true := h
theorem oW {P : Program} {all : List Oper} {kk : Nat} {pd : List (Nat × Fr × Value)} {st : List (Nat × AW)} {A : Fr} {σ : AW} {an : List Nat} {i0 : Nat} {X : List (Nat × Fr × Value) → List (Nat × AW) → Fr → AW → Prop} (L : List (Nat × Nat)) {q : Prop} (a : ∀ x ∈ L, qw P all pd st x) (k : q) (h1 : owes all an i0 = L := by kernel_rfl) (h : q → X pd st A σ := by intro k; (try simp only [Then, Out, iy]); exact k) : rC P all kk [] pd st A σ (fun pd st A σ => (∀ x ∈ owes all an i0, qw P all pd st x) ∧ X pd st A σ) := acD ⟨Yv h1 a, h k⟩
theorem pK {P : Program} {σ : AW} {g n : Nat} {fn : Func} {c : Code} {xs : List Value} {x0 : Value} {rs : List ResultVar} {R : Value → AW → Prop} (hf : P.funcs[g]? = some fn) (hn : fn.ntmps = n) (hr : fn.results = rs.toArray) (h : ∀ A : Fr, A.size = n → A.get 0 = some x0 → W P c A σ (NJ P rs R)) (h0 : xs[0]? = some x0 := by exact rfl) (hN : (fn.name == "runtime.NumGoroutine") = false := by exact rfl) (hb : fn.body = some c := by exact rfl) (hl : xs.length ≤ n := by exact Nat.le_of_ble_eq_true rfl) : C P g xs σ R := zT hN hf hb hn hr hl (fun A hz hA => h A hz (hA 0 _ h0))
theorem fG {P : Program} {σ : AW} {g n : Nat} {fn : Func} {c : Code} {xs : List Value} {x0 x1 : Value} {rs : List ResultVar} {R : Value → AW → Prop} (hf : P.funcs[g]? = some fn) (hn : fn.ntmps = n) (hr : fn.results = rs.toArray) (h : ∀ A : Fr, A.size = n → A.get 0 = some x0 → A.get 1 = some x1 → W P c A σ (NJ P rs R)) (h0 : xs[0]? = some x0 := by exact rfl) (h1 : xs[1]? = some x1 := by exact rfl) (hN : (fn.name == "runtime.NumGoroutine") = false := by exact rfl) (hb : fn.body = some c := by exact rfl) (hl : xs.length ≤ n := by exact Nat.le_of_ble_eq_true rfl) : C P g xs σ R := zT hN hf hb hn hr hl (fun A hz hA => h A hz (hA 0 _ h0) (hA 1 _ h1))
theorem Ld {P : Program} {σ : AW} {g n : Nat} {fn : Func} {c : Code} {xs : List Value} {x0 x1 x2 : Value} {rs : List ResultVar} {R : Value → AW → Prop} (hf : P.funcs[g]? = some fn) (hn : fn.ntmps = n) (hr : fn.results = rs.toArray) (h : ∀ A : Fr, A.size = n → A.get 0 = some x0 → A.get 1 = some x1 → A.get 2 = some x2 → W P c A σ (NJ P rs R)) (h0 : xs[0]? = some x0 := by exact rfl) (h1 : xs[1]? = some x1 := by exact rfl) (h2 : xs[2]? = some x2 := by exact rfl) (hN : (fn.name == "runtime.NumGoroutine") = false := by exact rfl) (hb : fn.body = some c := by exact rfl) (hl : xs.length ≤ n := by exact Nat.le_of_ble_eq_true rfl) : C P g xs σ R := zT hN hf hb hn hr hl (fun A hz hA => h A hz (hA 0 _ h0) (hA 1 _ h1) (hA 2 _ h2))
theorem cE4 {P : Program} {σ : AW} {g n : Nat} {fn : Func} {c : Code} {xs : List Value} {x0 x1 x2 x3 : Value} {rs : List ResultVar} {R : Value → AW → Prop} (hf : P.funcs[g]? = some fn) (hn : fn.ntmps = n) (hr : fn.results = rs.toArray) (h : ∀ A : Fr, A.size = n → A.get 0 = some x0 → A.get 1 = some x1 → A.get 2 = some x2 → A.get 3 = some x3 → W P c A σ (NJ P rs R)) (h0 : xs[0]? = some x0 := by exact rfl) (h1 : xs[1]? = some x1 := by exact rfl) (h2 : xs[2]? = some x2 := by exact rfl) (h3 : xs[3]? = some x3 := by exact rfl) (hN : (fn.name == "runtime.NumGoroutine") = false := by exact rfl) (hb : fn.body = some c := by exact rfl) (hl : xs.length ≤ n := by exact Nat.le_of_ble_eq_true rfl) : C P g xs σ R := zT hN hf hb hn hr hl (fun A hz hA => h A hz (hA 0 _ h0) (hA 1 _ h1) (hA 2 _ h2) (hA 3 _ h3))
theorem iO {p q : Prop} (k : q) (h : q → p := by intro k; (repeat (first | apply C9 | apply zD | ((first | apply zC | (refine' zG rfl rfl ?_ ?_; rotate_left) | apply FZ); (focus simp (disch := first | decide | (try simp only [zz, hz]) <;> omega | fail) only [go_sem, hz] <;> rfl); with_reducible first | apply zF | apply g_1 | apply g_2 | apply jO | apply lV | apply c_1 | apply c_2) | apply Dc | apply b_k | apply Bj | apply yD)); exact k) : p := h k
theorem NW {p q : Prop} (k : q) (h : q → p := by intro k; (repeat (apply wK; (focus simp (disch := first | decide | (try simp only [zz, hz]) <;> omega | fail) only [go_sem, hz] <;> rfl); first | refine fB ?_ | refine fC ?_ | refine fD ?_)); exact k) : p := h k
theorem dG {p q : Prop} (k : q) (h : q → p := by intro k; refine G6 ?_; (try simp only [Then, Out, Jump, iy]); refine Bo (by simp (disch := first | decide | (try simp only [zz, hz]) <;> omega | fail) only [go_sem, hz] <;> rfl) ?_; (try simp only [jH]); exact k) : p := h k
theorem gI {p q : Prop} (k : q) (h : q → p := by intro k; refine aaS (by simp (disch := first | decide | (try simp only [zz, hz]) <;> omega | fail) only [go_sem, hz] <;> rfl) ?_; (try simp only [jH]); exact k) : p := h k
theorem dD {p : Prop} (h : p := by simp (disch := first | decide | (try simp only [zz, hz]) <;> omega | fail) only [go_sem, hz] <;> rfl) : p := h
theorem jR {a1 p q : Prop} (F1 : a1) (k : q) (h : a1 → q → p := by intro F1; intro k; (repeat (first | apply C9 | apply zD | ((first | apply zC | (refine' zG rfl rfl ?_ ?_; rotate_left) | apply FZ); (focus simp (disch := first | decide | (try simp only [zz, hz]) <;> omega | fail) only [go_sem, hz, F1] <;> rfl); with_reducible first | apply zF | apply g_1 | apply g_2 | apply jO | apply lV | apply c_1 | apply c_2) | apply Dc | apply b_k | apply Bj | apply yD)); exact k) : p := h F1 k
theorem gC1 {a1 p q : Prop} (F1 : a1) (k : q) (h : a1 → q → p := by intro F1; intro k; (repeat (first | apply C9 | apply zD | ((first | apply zC | (refine' zG rfl rfl ?_ ?_; rotate_left) | apply FZ); (focus simp (disch := first | decide | (try simp only [zz, hz]) <;> omega | fail) only [go_sem, hz, F1] <;> rfl); with_reducible first | apply zF | apply g_1 | apply g_2 | apply jO | apply lV | apply c_1 | apply c_2) | apply Dc | apply Bj | apply yD)); exact k) : p := h F1 k
theorem gT1 {a1 p q : Prop} (F1 : a1) (k : q) (h : a1 → q → p := by intro F1; intro k; (repeat (apply wK; (focus simp (disch := first | decide | (try simp only [zz, hz]) <;> omega | fail) only [go_sem, hz, F1] <;> rfl); first | refine fB ?_ | refine fC ?_ | refine fD ?_)); exact k) : p := h F1 k
theorem fQ {a1 p q : Prop} (F1 : a1) (k : q) (h : a1 → q → p := by intro F1; intro k; refine G6 ?_; (try simp only [Then, Out, Jump, iy]); refine Bo (by simp (disch := first | decide | (try simp only [zz, hz]) <;> omega | fail) only [go_sem, hz, F1] <;> rfl) ?_; (try simp only [jH]); exact k) : p := h F1 k
theorem aU {a1 p : Prop} (F1 : a1) (h : a1 → p := by intro F1; simp (disch := first | decide | (try simp only [zz, hz]) <;> omega | fail) only [go_sem, hz, F1] <;> rfl) : p := h F1
theorem gQ {a1 a2 p q : Prop} (F1 : a1) (F2 : a2) (k : q) (h : a1 → a2 → q → p := by intro F1 F2; intro k; (repeat (first | apply C9 | apply zD | ((first | apply zC | (refine' zG rfl rfl ?_ ?_; rotate_left) | apply FZ); (focus simp (disch := first | decide | (try simp only [zz, hz]) <;> omega | fail) only [go_sem, hz, F1, F2] <;> rfl); with_reducible first | apply zF | apply g_1 | apply g_2 | apply jO | apply lV | apply c_1 | apply c_2) | apply Dc | apply b_k | apply Bj | apply yD)); exact k) : p := h F1 F2 k
theorem gC2 {a1 a2 p q : Prop} (F1 : a1) (F2 : a2) (k : q) (h : a1 → a2 → q → p := by intro F1 F2; intro k; (repeat (first | apply C9 | apply zD | ((first | apply zC | (refine' zG rfl rfl ?_ ?_; rotate_left) | apply FZ); (focus simp (disch := first | decide | (try simp only [zz, hz]) <;> omega | fail) only [go_sem, hz, F1, F2] <;> rfl); with_reducible first | apply zF | apply g_1 | apply g_2 | apply jO | apply lV | apply c_1 | apply c_2) | apply Dc | apply Bj | apply yD)); exact k) : p := h F1 F2 k
theorem gT2 {a1 a2 p q : Prop} (F1 : a1) (F2 : a2) (k : q) (h : a1 → a2 → q → p := by intro F1 F2; intro k; (repeat (apply wK; (focus simp (disch := first | decide | (try simp only [zz, hz]) <;> omega | fail) only [go_sem, hz, F1, F2] <;> rfl); first | refine fB ?_ | refine fC ?_ | refine fD ?_)); exact k) : p := h F1 F2 k
theorem D7 {a1 a2 p q : Prop} (F1 : a1) (F2 : a2) (k : q) (h : a1 → a2 → q → p := by intro F1 F2; intro k; refine G6 ?_; (try simp only [Then, Out, Jump, iy]); refine Bo (by simp (disch := first | decide | (try simp only [zz, hz]) <;> omega | fail) only [go_sem, hz, F1, F2] <;> rfl) ?_; (try simp only [jH]); exact k) : p := h F1 F2 k
theorem bP {a1 a2 p : Prop} (F1 : a1) (F2 : a2) (h : a1 → a2 → p := by intro F1 F2; simp (disch := first | decide | (try simp only [zz, hz]) <;> omega | fail) only [go_sem, hz, F1, F2] <;> rfl) : p := h F1 F2
theorem dS {a1 a2 a3 p q : Prop} (F1 : a1) (F2 : a2) (F3 : a3) (k : q) (h : a1 → a2 → a3 → q → p := by intro F1 F2 F3; intro k; (repeat (first | apply C9 | apply zD | ((first | apply zC | (refine' zG rfl rfl ?_ ?_; rotate_left) | apply FZ); (focus simp (disch := first | decide | (try simp only [zz, hz]) <;> omega | fail) only [go_sem, hz, F1, F2, F3] <;> rfl); with_reducible first | apply zF | apply g_1 | apply g_2 | apply jO | apply lV | apply c_1 | apply c_2) | apply Dc | apply b_k | apply Bj | apply yD)); exact k) : p := h F1 F2 F3 k
theorem gC3 {a1 a2 a3 p q : Prop} (F1 : a1) (F2 : a2) (F3 : a3) (k : q) (h : a1 → a2 → a3 → q → p := by intro F1 F2 F3; intro k; (repeat (first | apply C9 | apply zD | ((first | apply zC | (refine' zG rfl rfl ?_ ?_; rotate_left) | apply FZ); (focus simp (disch := first | decide | (try simp only [zz, hz]) <;> omega | fail) only [go_sem, hz, F1, F2, F3] <;> rfl); with_reducible first | apply zF | apply g_1 | apply g_2 | apply jO | apply lV | apply c_1 | apply c_2) | apply Dc | apply Bj | apply yD)); exact k) : p := h F1 F2 F3 k
theorem Ub {a1 a2 a3 p q : Prop} (F1 : a1) (F2 : a2) (F3 : a3) (k : q) (h : a1 → a2 → a3 → q → p := by intro F1 F2 F3; intro k; (repeat (apply wK; (focus simp (disch := first | decide | (try simp only [zz, hz]) <;> omega | fail) only [go_sem, hz, F1, F2, F3] <;> rfl); first | refine fB ?_ | refine fC ?_ | refine fD ?_)); exact k) : p := h F1 F2 F3 k
theorem rT3 {a1 a2 a3 p q : Prop} (F1 : a1) (F2 : a2) (F3 : a3) (k : q) (h : a1 → a2 → a3 → q → p := by intro F1 F2 F3; intro k; refine G6 ?_; (try simp only [Then, Out, Jump, iy]); refine Bo (by simp (disch := first | decide | (try simp only [zz, hz]) <;> omega | fail) only [go_sem, hz, F1, F2, F3] <;> rfl) ?_; (try simp only [jH]); exact k) : p := h F1 F2 F3 k
theorem lF {a1 a2 a3 p : Prop} (F1 : a1) (F2 : a2) (F3 : a3) (h : a1 → a2 → a3 → p := by intro F1 F2 F3; simp (disch := first | decide | (try simp only [zz, hz]) <;> omega | fail) only [go_sem, hz, F1, F2, F3] <;> rfl) : p := h F1 F2 F3
theorem dV {a1 a2 a3 a4 p q : Prop} (F1 : a1) (F2 : a2) (F3 : a3) (F4 : a4) (k : q) (h : a1 → a2 → a3 → a4 → q → p := by intro F1 F2 F3 F4; intro k; (repeat (first | apply C9 | apply zD | ((first | apply zC | (refine' zG rfl rfl ?_ ?_; rotate_left) | apply FZ); (focus simp (disch := first | decide | (try simp only [zz, hz]) <;> omega | fail) only [go_sem, hz, F1, F2, F3, F4] <;> rfl); with_reducible first | apply zF | apply g_1 | apply g_2 | apply jO | apply lV | apply c_1 | apply c_2) | apply Dc | apply b_k | apply Bj | apply yD)); exact k) : p := h F1 F2 F3 F4 k
theorem gC4 {a1 a2 a3 a4 p q : Prop} (F1 : a1) (F2 : a2) (F3 : a3) (F4 : a4) (k : q) (h : a1 → a2 → a3 → a4 → q → p := by intro F1 F2 F3 F4; intro k; (repeat (first | apply C9 | apply zD | ((first | apply zC | (refine' zG rfl rfl ?_ ?_; rotate_left) | apply FZ); (focus simp (disch := first | decide | (try simp only [zz, hz]) <;> omega | fail) only [go_sem, hz, F1, F2, F3, F4] <;> rfl); with_reducible first | apply zF | apply g_1 | apply g_2 | apply jO | apply lV | apply c_1 | apply c_2) | apply Dc | apply Bj | apply yD)); exact k) : p := h F1 F2 F3 F4 k
theorem XL {a1 a2 a3 a4 p q : Prop} (F1 : a1) (F2 : a2) (F3 : a3) (F4 : a4) (k : q) (h : a1 → a2 → a3 → a4 → q → p := by intro F1 F2 F3 F4; intro k; (repeat (apply wK; (focus simp (disch := first | decide | (try simp only [zz, hz]) <;> omega | fail) only [go_sem, hz, F1, F2, F3, F4] <;> rfl); first | refine fB ?_ | refine fC ?_ | refine fD ?_)); exact k) : p := h F1 F2 F3 F4 k
theorem rT4 {a1 a2 a3 a4 p q : Prop} (F1 : a1) (F2 : a2) (F3 : a3) (F4 : a4) (k : q) (h : a1 → a2 → a3 → a4 → q → p := by intro F1 F2 F3 F4; intro k; refine G6 ?_; (try simp only [Then, Out, Jump, iy]); refine Bo (by simp (disch := first | decide | (try simp only [zz, hz]) <;> omega | fail) only [go_sem, hz, F1, F2, F3, F4] <;> rfl) ?_; (try simp only [jH]); exact k) : p := h F1 F2 F3 F4 k
theorem qx {a1 a2 a3 a4 p : Prop} (F1 : a1) (F2 : a2) (F3 : a3) (F4 : a4) (h : a1 → a2 → a3 → a4 → p := by intro F1 F2 F3 F4; simp (disch := first | decide | (try simp only [zz, hz]) <;> omega | fail) only [go_sem, hz, F1, F2, F3, F4] <;> rfl) : p := h F1 F2 F3 F4
theorem jy {a1 a2 a3 a4 a5 p q : Prop} (F1 : a1) (F2 : a2) (F3 : a3) (F4 : a4) (F5 : a5) (k : q) (h : a1 → a2 → a3 → a4 → a5 → q → p := by intro F1 F2 F3 F4 F5; intro k; (repeat (first | apply C9 | apply zD | ((first | apply zC | (refine' zG rfl rfl ?_ ?_; rotate_left) | apply FZ); (focus simp (disch := first | decide | (try simp only [zz, hz]) <;> omega | fail) only [go_sem, hz, F1, F2, F3, F4, F5] <;> rfl); with_reducible first | apply zF | apply g_1 | apply g_2 | apply jO | apply lV | apply c_1 | apply c_2) | apply Dc | apply b_k | apply Bj | apply yD)); exact k) : p := h F1 F2 F3 F4 F5 k
theorem gC5 {a1 a2 a3 a4 a5 p q : Prop} (F1 : a1) (F2 : a2) (F3 : a3) (F4 : a4) (F5 : a5) (k : q) (h : a1 → a2 → a3 → a4 → a5 → q → p := by intro F1 F2 F3 F4 F5; intro k; (repeat (first | apply C9 | apply zD | ((first | apply zC | (refine' zG rfl rfl ?_ ?_; rotate_left) | apply FZ); (focus simp (disch := first | decide | (try simp only [zz, hz]) <;> omega | fail) only [go_sem, hz, F1, F2, F3, F4, F5] <;> rfl); with_reducible first | apply zF | apply g_1 | apply g_2 | apply jO | apply lV | apply c_1 | apply c_2) | apply Dc | apply Bj | apply yD)); exact k) : p := h F1 F2 F3 F4 F5 k
theorem Uc {a1 a2 a3 a4 a5 p q : Prop} (F1 : a1) (F2 : a2) (F3 : a3) (F4 : a4) (F5 : a5) (k : q) (h : a1 → a2 → a3 → a4 → a5 → q → p := by intro F1 F2 F3 F4 F5; intro k; (repeat (apply wK; (focus simp (disch := first | decide | (try simp only [zz, hz]) <;> omega | fail) only [go_sem, hz, F1, F2, F3, F4, F5] <;> rfl); first | refine fB ?_ | refine fC ?_ | refine fD ?_)); exact k) : p := h F1 F2 F3 F4 F5 k
theorem NY {a1 a2 a3 a4 a5 p : Prop} (F1 : a1) (F2 : a2) (F3 : a3) (F4 : a4) (F5 : a5) (h : a1 → a2 → a3 → a4 → a5 → p := by intro F1 F2 F3 F4 F5; simp (disch := first | decide | (try simp only [zz, hz]) <;> omega | fail) only [go_sem, hz, F1, F2, F3, F4, F5] <;> rfl) : p := h F1 F2 F3 F4 F5
theorem kR {a1 a2 a3 a4 a5 a6 p q : Prop} (F1 : a1) (F2 : a2) (F3 : a3) (F4 : a4) (F5 : a5) (F6 : a6) (k : q) (h : a1 → a2 → a3 → a4 → a5 → a6 → q → p := by intro F1 F2 F3 F4 F5 F6; intro k; (repeat (first | apply C9 | apply zD | ((first | apply zC | (refine' zG rfl rfl ?_ ?_; rotate_left) | apply FZ); (focus simp (disch := first | decide | (try simp only [zz, hz]) <;> omega | fail) only [go_sem, hz, F1, F2, F3, F4, F5, F6] <;> rfl); with_reducible first | apply zF | apply g_1 | apply g_2 | apply jO | apply lV | apply c_1 | apply c_2) | apply Dc | apply b_k | apply Bj | apply yD)); exact k) : p := h F1 F2 F3 F4 F5 F6 k
theorem gC6 {a1 a2 a3 a4 a5 a6 p q : Prop} (F1 : a1) (F2 : a2) (F3 : a3) (F4 : a4) (F5 : a5) (F6 : a6) (k : q) (h : a1 → a2 → a3 → a4 → a5 → a6 → q → p := by intro F1 F2 F3 F4 F5 F6; intro k; (repeat (first | apply C9 | apply zD | ((first | apply zC | (refine' zG rfl rfl ?_ ?_; rotate_left) | apply FZ); (focus simp (disch := first | decide | (try simp only [zz, hz]) <;> omega | fail) only [go_sem, hz, F1, F2, F3, F4, F5, F6] <;> rfl); with_reducible first | apply zF | apply g_1 | apply g_2 | apply jO | apply lV | apply c_1 | apply c_2) | apply Dc | apply Bj | apply yD)); exact k) : p := h F1 F2 F3 F4 F5 F6 k
theorem gT6 {a1 a2 a3 a4 a5 a6 p q : Prop} (F1 : a1) (F2 : a2) (F3 : a3) (F4 : a4) (F5 : a5) (F6 : a6) (k : q) (h : a1 → a2 → a3 → a4 → a5 → a6 → q → p := by intro F1 F2 F3 F4 F5 F6; intro k; (repeat (apply wK; (focus simp (disch := first | decide | (try simp only [zz, hz]) <;> omega | fail) only [go_sem, hz, F1, F2, F3, F4, F5, F6] <;> rfl); first | refine fB ?_ | refine fC ?_ | refine fD ?_)); exact k) : p := h F1 F2 F3 F4 F5 F6 k
theorem D8 {a1 a2 a3 a4 a5 a6 p : Prop} (F1 : a1) (F2 : a2) (F3 : a3) (F4 : a4) (F5 : a5) (F6 : a6) (h : a1 → a2 → a3 → a4 → a5 → a6 → p := by intro F1 F2 F3 F4 F5 F6; simp (disch := first | decide | (try simp only [zz, hz]) <;> omega | fail) only [go_sem, hz, F1, F2, F3, F4, F5, F6] <;> rfl) : p := h F1 F2 F3 F4 F5 F6
theorem nH {a1 a2 a3 a4 a5 a6 a7 p q : Prop} (F1 : a1) (F2 : a2) (F3 : a3) (F4 : a4) (F5 : a5) (F6 : a6) (F7 : a7) (k : q) (h : a1 → a2 → a3 → a4 → a5 → a6 → a7 → q → p := by intro F1 F2 F3 F4 F5 F6 F7; intro k; (repeat (first | apply C9 | apply zD | ((first | apply zC | (refine' zG rfl rfl ?_ ?_; rotate_left) | apply FZ); (focus simp (disch := first | decide | (try simp only [zz, hz]) <;> omega | fail) only [go_sem, hz, F1, F2, F3, F4, F5, F6, F7] <;> rfl); with_reducible first | apply zF | apply g_1 | apply g_2 | apply jO | apply lV | apply c_1 | apply c_2) | apply Dc | apply b_k | apply Bj | apply yD)); exact k) : p := h F1 F2 F3 F4 F5 F6 F7 k
theorem YE {a1 a2 a3 a4 a5 a6 a7 p q : Prop} (F1 : a1) (F2 : a2) (F3 : a3) (F4 : a4) (F5 : a5) (F6 : a6) (F7 : a7) (k : q) (h : a1 → a2 → a3 → a4 → a5 → a6 → a7 → q → p := by intro F1 F2 F3 F4 F5 F6 F7; intro k; (repeat (apply wK; (focus simp (disch := first | decide | (try simp only [zz, hz]) <;> omega | fail) only [go_sem, hz, F1, F2, F3, F4, F5, F6, F7] <;> rfl); first | refine fB ?_ | refine fC ?_ | refine fD ?_)); exact k) : p := h F1 F2 F3 F4 F5 F6 F7 k
theorem Ud {a1 a2 a3 a4 a5 a6 a7 p : Prop} (F1 : a1) (F2 : a2) (F3 : a3) (F4 : a4) (F5 : a5) (F6 : a6) (F7 : a7) (h : a1 → a2 → a3 → a4 → a5 → a6 → a7 → p := by intro F1 F2 F3 F4 F5 F6 F7; simp (disch := first | decide | (try simp only [zz, hz]) <;> omega | fail) only [go_sem, hz, F1, F2, F3, F4, F5, F6, F7] <;> rfl) : p := h F1 F2 F3 F4 F5 F6 F7
theorem aY {a1 a2 a3 a4 a5 a6 a7 a8 p q : Prop} (F1 : a1) (F2 : a2) (F3 : a3) (F4 : a4) (F5 : a5) (F6 : a6) (F7 : a7) (F8 : a8) (k : q) (h : a1 → a2 → a3 → a4 → a5 → a6 → a7 → a8 → q → p := by intro F1 F2 F3 F4 F5 F6 F7 F8; intro k; (repeat (first | apply C9 | apply zD | ((first | apply zC | (refine' zG rfl rfl ?_ ?_; rotate_left) | apply FZ); (focus simp (disch := first | decide | (try simp only [zz, hz]) <;> omega | fail) only [go_sem, hz, F1, F2, F3, F4, F5, F6, F7, F8] <;> rfl); with_reducible first | apply zF | apply g_1 | apply g_2 | apply jO | apply lV | apply c_1 | apply c_2) | apply Dc | apply b_k | apply Bj | apply yD)); exact k) : p := h F1 F2 F3 F4 F5 F6 F7 F8 k
theorem XM {a1 a2 a3 a4 a5 a6 a7 a8 p q : Prop} (F1 : a1) (F2 : a2) (F3 : a3) (F4 : a4) (F5 : a5) (F6 : a6) (F7 : a7) (F8 : a8) (k : q) (h : a1 → a2 → a3 → a4 → a5 → a6 → a7 → a8 → q → p := by intro F1 F2 F3 F4 F5 F6 F7 F8; intro k; (repeat (apply wK; (focus simp (disch := first | decide | (try simp only [zz, hz]) <;> omega | fail) only [go_sem, hz, F1, F2, F3, F4, F5, F6, F7, F8] <;> rfl); first | refine fB ?_ | refine fC ?_ | refine fD ?_)); exact k) : p := h F1 F2 F3 F4 F5 F6 F7 F8 k
theorem kC {a1 a2 a3 a4 a5 a6 a7 a8 p : Prop} (F1 : a1) (F2 : a2) (F3 : a3) (F4 : a4) (F5 : a5) (F6 : a6) (F7 : a7) (F8 : a8) (h : a1 → a2 → a3 → a4 → a5 → a6 → a7 → a8 → p := by intro F1 F2 F3 F4 F5 F6 F7 F8; simp (disch := first | decide | (try simp only [zz, hz]) <;> omega | fail) only [go_sem, hz, F1, F2, F3, F4, F5, F6, F7, F8] <;> rfl) : p := h F1 F2 F3 F4 F5 F6 F7 F8
theorem agh {a0 a1 a2 a3 a4 p q : Prop} (F0 : a0) (F1 : a1) (F2 : a2) (F3 : a3) (F4 : a4) (k : q) (h : a0 → a1 → a2 → a3 → a4 → q → p := by intro F0 F1 F2 F3 F4; intro k; (repeat (first | apply C9 | apply zD | ((first | apply zC | (refine' zG rfl rfl ?_ ?_; rotate_left) | apply FZ); (focus simp (disch := first | decide | (try simp only [zz, hz]) <;> omega | fail) only [go_sem, hz, ↓F0, F1, F2, F3, F4] <;> rfl); with_reducible first | apply zF | apply g_1 | apply g_2 | apply jO | apply lV | apply c_1 | apply c_2) | apply Dc | apply b_k | apply Bj | apply yD)); exact k) : p := h F0 F1 F2 F3 F4 k
theorem acZ {a0 a1 a2 a3 a4 a5 p q : Prop} (F0 : a0) (F1 : a1) (F2 : a2) (F3 : a3) (F4 : a4) (F5 : a5) (k : q) (h : a0 → a1 → a2 → a3 → a4 → a5 → q → p := by intro F0 F1 F2 F3 F4 F5; intro k; (repeat (first | apply C9 | apply zD | ((first | apply zC | (refine' zG rfl rfl ?_ ?_; rotate_left) | apply FZ); (focus simp (disch := first | decide | (try simp only [zz, hz]) <;> omega | fail) only [go_sem, hz, ↓F0, F1, F2, F3, F4, F5] <;> rfl); with_reducible first | apply zF | apply g_1 | apply g_2 | apply jO | apply lV | apply c_1 | apply c_2) | apply Dc | apply b_k | apply Bj | apply yD)); exact k) : p := h F0 F1 F2 F3 F4 F5 k
theorem Ve {a0 a1 a2 a3 a4 a5 a6 p q : Prop} (F0 : a0) (F1 : a1) (F2 : a2) (F3 : a3) (F4 : a4) (F5 : a5) (F6 : a6) (k : q) (h : a0 → a1 → a2 → a3 → a4 → a5 → a6 → q → p := by intro F0 F1 F2 F3 F4 F5 F6; intro k; (repeat (first | apply C9 | apply zD | ((first | apply zC | (refine' zG rfl rfl ?_ ?_; rotate_left) | apply FZ); (focus simp (disch := first | decide | (try simp only [zz, hz]) <;> omega | fail) only [go_sem, hz, ↓F0, F1, F2, F3, F4, F5, F6] <;> rfl); with_reducible first | apply zF | apply g_1 | apply g_2 | apply jO | apply lV | apply c_1 | apply c_2) | apply Dc | apply b_k | apply Bj | apply yD)); exact k) : p := h F0 F1 F2 F3 F4 F5 F6 k
theorem aa8 {a0 a1 a2 a3 a4 a5 a6 p q : Prop} (F0 : a0) (F1 : a1) (F2 : a2) (F3 : a3) (F4 : a4) (F5 : a5) (F6 : a6) (k : q) (h : a0 → a1 → a2 → a3 → a4 → a5 → a6 → q → p := by intro F0 F1 F2 F3 F4 F5 F6; intro k; (repeat (apply wK; (focus simp (disch := first | decide | (try simp only [zz, hz]) <;> omega | fail) only [go_sem, hz, ↓F0, F1, F2, F3, F4, F5, F6] <;> rfl); first | refine fB ?_ | refine fC ?_ | refine fD ?_)); exact k) : p := h F0 F1 F2 F3 F4 F5 F6 k
theorem aa9 {a0 a1 a2 a3 a4 a5 a6 a7 p q : Prop} (F0 : a0) (F1 : a1) (F2 : a2) (F3 : a3) (F4 : a4) (F5 : a5) (F6 : a6) (F7 : a7) (k : q) (h : a0 → a1 → a2 → a3 → a4 → a5 → a6 → a7 → q → p := by intro F0 F1 F2 F3 F4 F5 F6 F7; intro k; (repeat (first | apply C9 | apply zD | ((first | apply zC | (refine' zG rfl rfl ?_ ?_; rotate_left) | apply FZ); (focus simp (disch := first | decide | (try simp only [zz, hz]) <;> omega | fail) only [go_sem, hz, ↓F0, F1, F2, F3, F4, F5, F6, F7] <;> rfl); with_reducible first | apply zF | apply g_1 | apply g_2 | apply jO | apply lV | apply c_1 | apply c_2) | apply Dc | apply b_k | apply Bj | apply yD)); exact k) : p := h F0 F1 F2 F3 F4 F5 F6 F7 k
theorem iC {a0 a1 a2 a3 a4 a5 a6 a7 a8 p q : Prop} (F0 : a0) (F1 : a1) (F2 : a2) (F3 : a3) (F4 : a4) (F5 : a5) (F6 : a6) (F7 : a7) (F8 : a8) (k : q) (h : a0 → a1 → a2 → a3 → a4 → a5 → a6 → a7 → a8 → q → p := by intro F0 F1 F2 F3 F4 F5 F6 F7 F8; intro k; (repeat (first | apply C9 | apply zD | ((first | apply zC | (refine' zG rfl rfl ?_ ?_; rotate_left) | apply FZ); (focus simp (disch := first | decide | (try simp only [zz, hz]) <;> omega | fail) only [go_sem, hz, ↓F0, F1, F2, F3, F4, F5, F6, F7, F8] <;> rfl); with_reducible first | apply zF | apply g_1 | apply g_2 | apply jO | apply lV | apply c_1 | apply c_2) | apply Dc | apply b_k | apply Bj | apply yD)); exact k) : p := h F0 F1 F2 F3 F4 F5 F6 F7 F8 k
theorem NZ {a0 a1 a2 a3 a4 a5 a6 a7 a8 p q : Prop} (F0 : a0) (F1 : a1) (F2 : a2) (F3 : a3) (F4 : a4) (F5 : a5) (F6 : a6) (F7 : a7) (F8 : a8) (k : q) (h : a0 → a1 → a2 → a3 → a4 → a5 → a6 → a7 → a8 → q → p := by intro F0 F1 F2 F3 F4 F5 F6 F7 F8; intro k; (repeat (apply wK; (focus simp (disch := first | decide | (try simp only [zz, hz]) <;> omega | fail) only [go_sem, hz, ↓F0, F1, F2, F3, F4, F5, F6, F7, F8] <;> rfl); first | refine fB ?_ | refine fC ?_ | refine fD ?_)); exact k) : p := h F0 F1 F2 F3 F4 F5 F6 F7 F8 k
theorem Gq {a0 a1 a2 a3 a4 a5 a6 a7 a8 p : Prop} (F0 : a0) (F1 : a1) (F2 : a2) (F3 : a3) (F4 : a4) (F5 : a5) (F6 : a6) (F7 : a7) (F8 : a8) (h : a0 → a1 → a2 → a3 → a4 → a5 → a6 → a7 → a8 → p := by intro F0 F1 F2 F3 F4 F5 F6 F7 F8; simp (disch := first | decide | (try simp only [zz, hz]) <;> omega | fail) only [go_sem, hz, ↓F0, F1, F2, F3, F4, F5, F6, F7, F8] <;> rfl) : p := h F0 F1 F2 F3 F4 F5 F6 F7 F8
end Go.Proofs.YthogkmcahnkkoaaGreatDoor
namespace Go.Proofs.YthogkmcahnkkoaaGreatDoor
open Go.RowKit
theorem mixed : Tryz.prog.follows .mixedOrders = true := by kernel_rfl
theorem YF {σ : AW} {b : fZ} : (σ.push b).next = σ.next + 1 := Nat.le_antisymm (Nat.le_refl _) (Nat.le_refl _)
theorem abb {σ : AW} {k : Nat} {b : fZ} : (σ.set k b).next = σ.next := Nat.le_antisymm (Nat.le_refl _) (Nat.le_refl _)
theorem zz : (∀ (A : Fr) d v, (kT A d v).size = A.size) ∧ (∀ (σ : AW) b, (σ.push b).next = σ.next + 1) ∧ ∀ (σ : AW) k b, (σ.set k b).next = σ.next := ⟨fun _ _ _ => rD, fun _ _ => YF, fun _ _ _ => abb⟩
theorem Ja {σ : AW} {b : fZ} {k : Nat} (h : k = σ.next) : (σ.push b).get k = b := by rw [h]; exact aA
attribute [go_sem] Ja Nat.reduceAdd Nat.reduceMul Nat.reduceLT Nat.reduceEqDiff Nat.reduceLeDiff List.take_of_length_le List.drop_of_length_le
def sZ (t : Tk) : List Value := [.int .i64 t.1, .string t.2.1, .int .i64 t.2.2.1, .int .i64 t.2.2.2]
def jS (T : List Tk) : List Value := T.flatMap sZ
theorem Ac (T : List Tk) : (jS T).length = 4 * T.length := by
 induction T with
 | nil => rfl
 | cons t T ih => simp only [jS, List.flatMap_cons, List.length_append] at ih ⊢; rw [ih]; simp [sZ]; omega
theorem N7 (T : List Tk) : ∀ i, (jS T).drop (4 * i) = jS (T.drop i) := by
 induction T with
 | nil => intro i; simp [jS]
 | cons t T ih =>
  intro i
  cases i with
  | zero => rfl
  | succ i =>
   rw [List.drop_succ_cons, ← ih i]
   show (sZ t ++ jS T).drop (4 * (i + 1)) = _
   rw [show 4 * (i + 1) = 4 * i + 4 by omega, List.drop_append]
   simp [sZ, jS]
structure JM (σ : AW) (r b : Nat) (T : List Tk) (i : Nat) (d pl er : Int) : Prop where
 get : σ.get r = ⟨1, 97, 0, [.slice (some ⟨b, 4 * i, none⟩) (T.length - i) (2 * i + 1), .int .i64 d, .int .i64 pl, .int .i64 er]⟩
 toks : σ.get b = ⟨2, 100, 4, jS T⟩
 lr : r < σ.next
 lb : b < σ.next
 li : i < T.length
 few : T.length ≤ 100000
 last : ∀ t, T[T.length - 1]? = some t → t.1 = 0
theorem JM.ne {σ : AW} {r b i : Nat} {T : List Tk} {d pl er : Int} (h : JM σ r b T i d pl er) : b ≠ r := fun e => by
 have h1 := h.get
 have h2 := h.toks
 rw [e, h1] at h2
 injection h2 with h2
 omega
structure Gr (r : Nat) (σ σ' : AW) : Prop where
 next : σ.next ≤ σ'.next
 get : ∀ k, k < σ.next → k ≠ r → σ'.get k = σ.get k
theorem Gr.refl (r : Nat) (σ : AW) : Gr r σ σ := ⟨Nat.le_refl _, fun _ _ _ => rfl⟩
theorem Gr.trans {r : Nat} {σ σ1 σ2 : AW} (h : Gr r σ σ1) (k : Gr r σ1 σ2) : Gr r σ σ2 := ⟨Nat.le_trans h.next k.next, fun j h1 h2 => (k.get j (Nat.lt_of_lt_of_le h1 h.next) h2).trans (h.get j h1 h2)⟩
theorem Gr.push {r : Nat} {σ σ1 : AW} (h : Gr r σ σ1) (b : fZ) : Gr r σ (σ1.push b) := ⟨Nat.le_succ_of_le h.next, fun j h1 h2 => by have := h.next; rw [aC (by omega)]; exact h.get j h1 h2⟩
theorem Gr.set {r : Nat} {σ σ1 : AW} (h : Gr r σ σ1) {k : Nat} (hk : σ.next ≤ k ∨ k = r) (b : fZ) : Gr r σ (σ1.set k b) := ⟨h.next, fun j h1 h2 => by rw [bG (by omega)]; exact h.get j h1 h2⟩
structure Kp (σ σ' : AW) : Prop where
 next : σ.next ≤ σ'.next
 get : ∀ k, k < σ.next → σ'.get k = σ.get k
theorem Kp.refl (σ : AW) : Kp σ σ := ⟨Nat.le_refl _, fun _ _ => rfl⟩
theorem Kp.trans {σ σ1 σ2 : AW} (h : Kp σ σ1) (k : Kp σ1 σ2) : Kp σ σ2 := ⟨Nat.le_trans h.next k.next, fun j h1 => (k.get j (Nat.lt_of_lt_of_le h1 h.next)).trans (h.get j h1)⟩
theorem Kp.push {σ σ1 : AW} (h : Kp σ σ1) (b : fZ) : Kp σ (σ1.push b) := ⟨Nat.le_succ_of_le h.next, fun j h1 => by have := h.next; rw [aC (by omega)]; exact h.get j h1⟩
theorem Kp.set {σ σ1 : AW} (h : Kp σ σ1) {k : Nat} (hk : σ.next ≤ k) (b : fZ) : Kp σ (σ1.set k b) := ⟨h.next, fun j h1 => by rw [bG (by omega)]; exact h.get j h1⟩
theorem Kp.gr {σ σ' : AW} (h : Kp σ σ') (r : Nat) : Gr r σ σ' := ⟨h.next, fun j h1 _ => h.get j h1⟩
theorem Gr.kp {r : Nat} {σ σ1 σ2 : AW} (h : Gr r σ σ1) (k : Kp σ1 σ2) : Gr r σ σ2 := h.trans (k.gr r)
theorem JM.kp {σ σ' : AW} {r b i : Nat} {T : List Tk} {d pl er : Int} (h : JM σ r b T i d pl er) (k : Kp σ σ') : JM σ' r b T i d pl er :=
 ⟨by rw [k.get r h.lr]; exact h.get, by rw [k.get b h.lb]; exact h.toks, Nat.lt_of_lt_of_le h.lr k.next, Nat.lt_of_lt_of_le h.lb k.next, h.li, h.few, h.last⟩
theorem JM.push {σ : AW} {r b i : Nat} {T : List Tk} {d pl er : Int} (h : JM σ r b T i d pl er) (x : fZ) : JM (σ.push x) r b T i d pl er :=
 ⟨by rw [aC (Nat.ne_of_lt h.lr)]; exact h.get, by rw [aC (Nat.ne_of_lt h.lb)]; exact h.toks, Nat.lt_succ_of_lt h.lr, Nat.lt_succ_of_lt h.lb, h.li, h.few, h.last⟩
theorem JM.set {σ : AW} {r b i : Nat} {T : List Tk} {d pl er : Int} (h : JM σ r b T i d pl er) {k : Nat} (hk : k ≠ r) (hb : k ≠ b) (x : fZ) : JM (σ.set k x) r b T i d pl er :=
 ⟨by rw [bG (Ne.symm hk)]; exact h.get, by rw [bG (Ne.symm hb)]; exact h.toks, h.lr, h.lb, h.li, h.few, h.last⟩
theorem JM.gr {σ σ' : AW} {r b i : Nat} {T : List Tk} {d pl er : Int} (h : JM σ r b T i d pl er) (g : Gr r σ σ') {i' : Nat} (hi : i' < T.length) {d' pl' er' : Int}
  (hr : σ'.get r = ⟨1, 97, 0, [.slice (some ⟨b, 4 * i', none⟩) (T.length - i') (2 * i' + 1), .int .i64 d', .int .i64 pl', .int .i64 er']⟩) : JM σ' r b T i' d' pl' er' :=
 ⟨hr, by rw [g.get b h.lb h.ne]; exact h.toks, Nat.lt_of_lt_of_le h.lr g.next, Nat.lt_of_lt_of_le h.lb g.next, hi, h.few, h.last⟩
def lu (σ : AW) (r b : Nat) (T : List Tk) (d : Int) (s : Sy) : Prop := ∃ i, JM σ r b T i d s.pl s.err ∧ s.left = T.drop i
theorem lu.kp {σ σ' : AW} {r b : Nat} {T : List Tk} {d : Int} {s : Sy} (h : lu σ r b T d s) (k : Kp σ σ') : lu σ' r b T d s := by
 obtain ⟨i, h1, h2⟩ := h
 exact ⟨i, h1.kp k, h2⟩
theorem lu.head {σ : AW} {r b : Nat} {T : List Tk} {d : Int} {s : Sy} (h : lu σ r b T d s) : ∃ i, JM σ r b T i d s.pl s.err ∧ s.left = T.drop i ∧ T[i]? = some s.head := by
 obtain ⟨i, h1, h2⟩ := h
 refine ⟨i, h1, h2, ?_⟩
 unfold Sy.head
 rw [h2, List.drop_eq_getElem_cons h1.li, List.getElem?_eq_getElem h1.li]
 rfl
theorem lu.lr {σ : AW} {r b : Nat} {T : List Tk} {d : Int} {s : Sy} (h : lu σ r b T d s) : r < σ.next := by obtain ⟨i, h1, _⟩ := h; exact h1.lr
end Go.Proofs.YthogkmcahnkkoaaGreatDoor
