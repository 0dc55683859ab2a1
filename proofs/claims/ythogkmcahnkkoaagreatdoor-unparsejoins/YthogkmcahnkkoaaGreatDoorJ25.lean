/- Texts appended to rows of bytes; WriteString. The program's writer (package unparse), in plain words: what it puts, piece by piece, hangs on the tree, on how deep it stands, how far in, and whether a blank stands ahead. The text of two scripts' statements, one behind the other (in plain words). The program's writer: Len, put. The program's writer: say. The program's writer: what it is to write, tie, deeper, further. The program's writer: what stands in brackets, what is called. -/
import Derived.Test.YthogkmcahnkkoaaGreatDoorJ24
import Derived.Lib.Repeat
import Derived.Lib.ItoaNum
import Derived.Lib.ItoaLen
namespace Go.Proofs.YthogkmcahnkkoaaGreatDoor
open Go.RowKit
set_option maxRecDepth 10000
set_option linter.unusedSimpArgs false
set_option linter.unusedVariables false
theorem D9 {σ : AW} {x : ByteArray} : yQ Tryz.prog σ 1 9 (.string x) = some (x.size, byteCells x) := by
 have hu : Tryz.prog.underlying 9 = some .string := by kernel_rfl
 simp only [yQ, hu, if_true]
theorem Y8 {σ : AW} {b : Nat} {s x : ByteArray} {v : Value} (hb : b < σ.next) (hs : s.size + x.size ≤ 100000)
  (hv : (s.size = 0 ∧ v = .slice none 0 0) ∨ ∃ g, s.size ≠ 0 ∧ g ≠ b ∧ g < σ.next ∧ v = .slice (some ⟨g, 0, none⟩) s.size 1 ∧ σ.get g = ⟨2, 5, 1, byteCells s⟩) :
  ∃ v' σ', ig Tryz.prog σ 69 9 v (.string x) = some (v', σ') ∧ σ.next ≤ σ'.next ∧ (∀ k, k < σ.next → (k = b ∨ Au (σ.get k)) → σ'.get k = σ.get k) ∧ (aF v').all gu = true ∧ (aF v').length = 1 ∧
   (((s ++ x).size = 0 ∧ v' = .slice none 0 0) ∨ ∃ g, (s ++ x).size ≠ 0 ∧ g ≠ b ∧ g < σ'.next ∧ v' = .slice (some ⟨g, 0, none⟩) (s ++ x).size 1 ∧ σ'.get g = ⟨2, 5, 1, byteCells (s ++ x)⟩) := by
 have hu : Tryz.prog.underlying 69 = some (.slice 5) := by kernel_rfl
 have AZ : (Tryz.prog.info? 5).map (fun i => (i.zero, i.size, i.bytes)) = some (some (.int .u8 0), 1, 1) := by kernel_rfl
 cases hi : Tryz.prog.info? 5 with
 | none => rw [hi] at AZ; cases AZ
 | some i =>
  rw [hi] at AZ
  simp only [Option.map_some, Option.some.injEq, Prod.mk.injEq] at AZ
  obtain ⟨h1, h2, h3⟩ := AZ
  have hsz : (s ++ x).size = s.size + x.size := ByteArray.size_append
  have hbc : byteCells (s ++ x) = byteCells s ++ byteCells x := by simp [byteCells, ByteArray.data_append]
  have hgr : ∀ (τ : AW) (cs : List Value) (k : Nat), 0 < k → k ≤ 100000 → sS τ 5 i k cs = some (.slice (some ⟨τ.next, 0, none⟩) k 1, τ.push ⟨2, 5, 1, cs⟩) := fun τ cs k hk he => by
   unfold sS
   rw [h1]
   simp only
   rw [if_pos ⟨by rw [h2]; rfl, hk, by rw [h3]; omega, by omega⟩, h2]
  have ebl : (byteCells s).length = s.size := by simp [byteCells]
  rcases hv with ⟨h0, rfl⟩ | ⟨g, h0, hne, hlt, rfl, hg⟩
  ·by_cases hx : x.size = 0
   ·refine ⟨_, σ, by simp only [ig, hu, hi, h2, D9, hx, if_true], Nat.le_refl _, fun _ _ _ => rfl, rfl, rfl, .inl ⟨by omega, rfl⟩⟩
   ·refine ⟨_, _, by simp only [ig, hu, hi, h2, D9, hx, if_false]; exact hgr _ _ _ (by omega) (by omega), Nat.le_succ _, fun k hk _ => aC (by omega), rfl, rfl, .inr ⟨σ.next, by omega, by omega, Nat.lt_succ_self _, by rw [hsz, h0], ?_⟩⟩
    rw [aA, hbc]
    have : byteCells s = [] := List.eq_nil_of_length_eq_zero (by omega)
    rw [this]
  ·have hrow : rowOf σ ⟨g, 0, none⟩ = some (byteCells s) := KD hg
   by_cases hx : x.size = 0
   ·refine ⟨.slice (some ⟨g, 0, none⟩) s.size 1, σ, ?_, Nat.le_refl _, fun _ _ _ => rfl, rfl, rfl, .inr ⟨g, by omega, hne, hlt, by rw [hsz, hx, Nat.add_zero], ?_⟩⟩
    ·simp [ig, hu, hi, h2, D9, hrow, ebl, hg, hx]
    ·have : byteCells x = [] := List.eq_nil_of_length_eq_zero (by simp [byteCells, hx])
     rw [hg, hbc, this, List.append_nil]
   ·refine ⟨.slice (some ⟨σ.next, 0, none⟩) (s.size + x.size) 1, (σ.set g eu).push ⟨2, 5, 1, byteCells s ++ byteCells x⟩, ?_, Nat.le_succ _, fun k hk hk2 => ?_, rfl, rfl, .inr ⟨σ.next, by omega, by omega, Nat.lt_succ_self _, by rw [hsz], ?_⟩⟩
    ·simp [ig, hu, hi, h2, D9, hrow, ebl, hg, hx]
     exact hgr (σ.set g eu) _ _ (by omega) (by omega)
    ·rw [aC (by rw [au]; omega), bG (fun e => by subst e; exact hk2.elim hne (fun h => not_safe (s := s) (by rw [hg] at h; exact h)))]
    ·rw [show σ.next = (σ.set g eu).next from rfl, aA, hbc]
theorem Gv {σ : AW} {b E : Nat} {r1 r2 r3 r4 r5 : Value} {s x : ByteArray} (h : Bl σ b E [r1, r2, r3, r4, r5] s) (hs : s.size + x.size ≤ 100000) (hl : liesAt Tryz.prog Tryz.prog.depth E (7 / Tryz.prog.cellsOf E) 0 71 1 = true) :
  C Tryz.prog 135 [.pointer (some ⟨b, 0, none⟩), .string x] σ fun v σ' => Bl σ' b E [r1, r2, r3, r4, r5] (s ++ x) ∧ σ.next ≤ σ'.next ∧ ∀ k, k < σ.next → k ≠ b → Au (σ.get k) → σ'.get k = σ.get k := by
 obtain ⟨hb, a, v, hget, ha, hv⟩ := h
 refine fG Tryz.func135 Tryz.ntmps135 Tryz.results135 fun A hz a0 a1 => ?_
 refine gQ a0 a1 ?_
 refine aj (bP a0 a1) ?_
 refine C.mono (Y6 hget hb ha hl) ?_
 rintro _ _ ⟨rfl, rfl⟩
 have hv1 : (s.size = 0 ∧ v = .slice none 0 0) ∨ ∃ g, s.size ≠ 0 ∧ g ≠ b ∧ g < (σ.set b ⟨1, E, 0, [.pointer (some ⟨b, 0, none⟩), v, r1, r2, r3, r4, r5]⟩).next ∧ v = .slice (some ⟨g, 0, none⟩) s.size 1 ∧ (σ.set b ⟨1, E, 0, [.pointer (some ⟨b, 0, none⟩), v, r1, r2, r3, r4, r5]⟩).get g = ⟨2, 5, 1, byteCells s⟩ :=
  hv.imp id fun ⟨g, h1, h2, h4, h5, h6⟩ => ⟨g, h1, h2, h4, h5, by rw [bG h2]; exact h6⟩
 obtain ⟨v', σ', happ, hnx, hkp, h1, hl1, hv2⟩ := Y8 (x := x) (σ := σ.set b ⟨1, E, 0, [.pointer (some ⟨b, 0, none⟩), v, r1, r2, r3, r4, r5]⟩) hb hs hv1
 have g1 : (σ.set b ⟨1, E, 0, [.pointer (some ⟨b, 0, none⟩), v, r1, r2, r3, r4, r5]⟩).get b = ⟨1, E, 0, [.pointer (some ⟨b, 0, none⟩), v, r1, r2, r3, r4, r5]⟩ := bF
 have g2 := (hkp b hb (.inl rfl)).trans g1
 obtain ⟨ad, n, k, rfl⟩ : ∃ ad n k, v' = .slice ad n k := by
  rcases hv2 with ⟨_, rfl⟩ | ⟨g, _, _, _, rfl, _⟩ <;> exact ⟨_, _, _, rfl⟩
 refine jy a0 a1 g1 g2 happ ?_
 refine dG ?_
 refine ⟨⟨Nat.lt_of_lt_of_le hb hnx, _, _, bF, .inr rfl, ?_⟩, hnx, fun j hj hjb hje => ?_⟩
 ·rcases hv2 with h0 | ⟨g, h1, h2, h4, h5, h6⟩
  ·exact .inl h0
  ·exact .inr ⟨g, h1, h2, h4, h5, by rw [bG h2]; exact h6⟩
 ·rw [bG hjb, hkp j hj (.inr (by rw [bG hjb]; exact hje)), bG hjb]
end Go.Proofs.YthogkmcahnkkoaaGreatDoor
namespace Go.Proofs.YthogkmcahnkkoaaGreatDoor
abbrev WM : Type := Bool → List ByteArray × Bool × Bool
def dW : WM := fun t => ([], t, false)
def aQ (m k : WM) : WM := fun t => ((m t).1 ++ (k (m t).2.1).1, (k (m t).2.1).2.1, (m t).2.2 || (k (m t).2.1).2.2)
def fK (l : List WM) : WM := l.foldr aQ dW
def BX (x : ByteArray) : Bool := decide (x = dJ) || decide (x = vM) || decide (x = Gi) || decide (x = mP)
def qI (x : ByteArray) : Bool := decide (x = qh) || decide (x = mP) || decide (x = pJ)
def Y9 : ByteArray := ⟨#[32]⟩
def VZ : ByteArray := ⟨#[10]⟩
def aK : List ByteArray → WM
 | [] => dW
 | x :: l => aQ (fun t => ((if t || BX x then [x] else [Y9, x]), qI x, false)) (aK l)
def OA : WM := fun _ => ([], true, false)
def wC (d : Nat) (m : Nat → WM) : WM := if d = 40 then fun t => ([], t, true) else m (d + 1)
def brW (m : WM) : WM := aQ (aK [qh]) (aQ m (aK [Gi]))
def vZ (s : ByteArray) (m : WM) : WM := aQ (aK [s]) (aQ OA (brW m))
def dh : List WM → WM
 | [] => dW
 | m :: l => aQ m (fK (l.map fun k => aQ (aK [dJ]) k))
def OB (n : Nat) : ByteArray := ⟨(Lib.repeatL [32, 32] n).toArray⟩
def qy (i : Nat) (m : WM) : WM := fun _ => (OB i :: (m true).1 ++ [VZ], (m true).2)
def BZ (l : List ByteArray) : WM := dh (l.map fun s => aK [s])
def gU : Value → List Tr
 | .iface _ (.agg ⟨l⟩) => l
 | _ => []
def fM : Value → ByteArray
 | .string s => s
 | _ => eB
def uY : Value → Int
 | .int _ n => n
 | _ => 0
def LV : Value → Bool
 | .bool b => b
 | _ => false
def cellV (x : Tr) (i : Nat) : Value := (um x).getD i (.int .i64 0)
def Dp (x : Tr) : Tr := .agg ⟨(um x).take 6⟩
def abB (k : Int) : Bool := k == 10 || k == 7 || k == 8 || k == 9 || k == 13
def Gw (n : Int) : ByteArray := ⟨(Lib.itoa n).toArray⟩
def Cb (s : ByteArray) : ByteArray := ⟨#[39]⟩ ++ ⟨(Lib.replaceAll s.data.toList [39] [39, 39]).toArray⟩ ++ ⟨#[39]⟩
section
variable (E Q : Nat → Tr → WM)
def fE (d : Nat) (x : Tr) : WM := wC d fun d => E d x
def tJ (d : Nat) (x : Tr) : WM := wC d fun d => Q d x
def Aw (d : Nat) (x : Tr) : WM := brW (tJ Q d x)
def jk (d : Nat) (x : Tr) : WM := if abB (uY (cellV x 0)) then brW (fE E d x) else E d x
def qJ (t s : ByteArray) : WM := aQ (if t = eB then dW else aK [t, mP]) (aK [s])
def Hz (d : Nat) (kids : List Tr) : WM := match kids with
 | [] => aK [kF]
 | x :: _ => fE E d x
def Za (d : Nat) (kids : List Tr) : WM := fK ([aK [vK]] ++ ((kids.zip [lX, lY, jP]).flatMap fun p => [aK [p.2], fE E d p.1]) ++ [aK [EO]])
def tK (n : Int) : WM := if n = 1 then aK [iT] else dW
def V3 (d : Nat) (k n : Int) (s t : ByteArray) (kids qs : List Tr) : WM :=
 let x0 := kids.getD 0 zE
 let x1 := kids.getD 1 zE
 let q0 := qs.getD 0 zQ
 if k = 1 then aK [kZ]
 else if k = 2 then aK [if n = 1 then rH else nZ]
 else if k = 3 then aK [Gw n]
 else if k = 4 then aK [Cb s]
 else if k = 6 then aQ (aK [pJ]) (qJ t s)
 else if k = 5 then qJ t s
 else if k = 15 then vZ s (Hz E d kids)
 else if k = 11 then Za E d kids
 else if k = 12 then aQ (aK [og]) (Aw Q d q0)
 else if k = 14 then Aw Q d q0
 else if k = 7 then fK [aK [jq], OA, wC d fun d => jk E d x0]
 else if k = 8 then fK [aK [iT], wC d fun d => jk E d x0]
 else if k = 9 then fK [jk E d x0, aK [uh], tK n, aK [kZ]]
 else if k = 13 then fK [jk E d x0, tK n, aK [uO], Aw Q d q0]
 else if k = 10 then fK [jk E d x0, aK [s], jk E d x1]
 else dW
def yj (d : Nat) (l : List Tr) (ws : List ByteArray) : WM := if l = [] then dW else aQ (aK ws) (dh (l.map (fE E d)))
def V4 (d : Nat) (x : Tr) : WM := aQ (fE E d (Dp x)) (aK [mM, fM (cellV x 6)])
def abC (d : Nat) (x : Tr) : WM := aQ (fE E d (Dp x)) (if LV (cellV x 6) then aK [BA] else dW)
variable (F : Nat → Tr → WM)
def V5 (d : Nat) (k : Int) (v : Bool) (t a : ByteArray) (q kids on : List Tr) : WM :=
 if k = 1 then fK [aK [t], if v then aK [fO] else dW, if a = t then dW else aK [mM, a]]
 else if k = 2 then aQ (Aw Q d (q.getD 0 zQ)) (aK [mM, a])
 else if k = 3 then fK [F d (kids.getD 0 zE), aK [lZ], F d (kids.getD 1 zE), yj E d on [BD]]
 else if k = 4 then fK [F d (kids.getD 0 zE), aK [o8, lZ], F d (kids.getD 1 zE), yj E d on [BD]]
 else dW
def Jt (d : Nat) (di : Bool) (n : Int) (items froms wh gr ha or : List Tr) : WM :=
 fK ([aK [eX], if di then aK [eH] else dW, dh (items.map (V4 E d))] ++ (froms.map fun f => aQ (aK [lg]) (F d f)) ++
  [yj E d wh [jm], yj E d gr [lJ, xu], yj E d ha [oh], if or = [] then dW else aQ (aK [mW, xu]) (dh (or.map (abC E d))), if n = -1 then dW else aK [oq, Gw n]])
def uZ (k : Int) : WM := if k = 2 then aK [sV] else if k = 3 then aK [sV, w_all] else if k = 4 then aK [mJ] else if k = 5 then aK [iU] else dW
end
structure Wr where
 e : Nat → Tr → WM
 q : Nat → Tr → WM
 f : Nat → Tr → WM
def agv (R : Wr) (d : Nat) (x : Tr) : WM := Jt R.e R.f d (LV (cellV x 1)) (uY (cellV x 8)) (gU (cellV x 2)) (gU (cellV x 3)) (gU (cellV x 4)) (gU (cellV x 5)) (gU (cellV x 6)) (gU (cellV x 7))
def jY : Nat → Wr
 | 0 => ⟨fun _ _ => dW, fun _ _ => dW, fun _ _ => dW⟩
 | n + 1 =>
  let R := jY n
  {e := fun d x => V3 R.e R.q d (uY (cellV x 0)) (uY (cellV x 1)) (fM (cellV x 2)) (fM (cellV x 3)) (gU (cellV x 4)) (gU (cellV x 5))
   q := fun d x =>
    if uY (cellV x 0) = 1 then agv R d x
    else
     let y := (gU (cellV x 9)).getD 0 zQ
     let z := (gU (cellV x 9)).getD 1 zQ
     fK [R.q d y, uZ (uY (cellV x 0)), if uY (cellV z 0) = 1 then R.q d z else Aw R.q d z]
   f := fun d x => V5 R.e R.q R.f d (uY (cellV x 0)) (LV (cellV x 2)) (fM (cellV x 1)) (fM (cellV x 3)) (gU (cellV x 4)) (gU (cellV x 5)) (gU (cellV x 6)) }
section
variable (R : Wr)
def Fq (k : Int) : ByteArray := if k = 11 then Qa else if k = 13 then Qb else if k = 14 then KZ else if k = 15 then EP else U7
def abD (d : Nat) (names es : List Tr) : WM := dh ((names.zip es).map fun p => aQ (aK [fM p.1, uS]) (fE R.e d p.2))
def plainW (d : Nat) (k : Int) (t : ByteArray) (names es qs wh : List Tr) : WM :=
 if k = 1 then aQ (aK [yF]) (abD R d names es)
 else if k = 17 then aQ (aK [zZ]) (BZ (names.map fM))
 else if k = 5 then yj R.e d es [zY, t]
 else if k = 6 then aQ (aK [mO, uj, t, uQ]) (brW (dh (es.map (fE R.e d))))
 else if k = 7 then aQ (aK [mO, uj, t]) (tJ R.q d (qs.getD 0 zQ))
 else if k = 8 then fK [aK [uP, t, yF], abD R d names es, yj R.e d wh [jm]]
 else if k = 9 then aQ (aK [xw, lg, t]) (yj R.e d wh [jm])
 else if k = 12 then aQ (aK [I7]) (vZ t (dh (es.map (fE R.e d))))
 else aK [Fq k]
def headW (d : Nat) (k : Int) (names es qs : List Tr) : WM :=
 if k = 2 then yj R.e d es [YD]
 else if k = 3 then yj R.e d es [DX]
 else if k = 4 then fK [aK [KY], BZ (names.map fM), aK [uO], tJ R.q d (qs.getD 0 zQ)]
 else if k = 10 then aK [P9]
 else dW
def LW (B : Nat → Nat → List Tr → WM) (d i : Nat) (x : Tr) : WM :=
 let k := uY (cellV x 0)
 let t := fM (cellV x 2)
 let names := gU (cellV x 3)
 let es := gU (cellV x 4)
 let qs := gU (cellV x 5)
 let wh := gU (cellV x 6)
 let body := gU (cellV x 7)
 let other := gU (cellV x 8)
 if k = 2 ∨ k = 3 ∨ k = 4 ∨ k = 10 then
  fK [qy i (aQ (headW R d k names es qs) (aK [yY])), wC d (fun d => B d (i + 1) body),
   (if k = 10 then aQ (qy i (aK [BF, DY, yY])) (wC d fun d => B d (i + 1) other) else if other = [] then dW else aQ (qy i (aK [BF, jP, yY])) (wC d fun d => B d (i + 1) other)),
   qy i (aK [BF])]
 else qy i (aQ (plainW R d k t names es qs wh) (aK [vM]))
end
def dH : Nat → Nat → Nat → List Tr → WM
 | 0 => fun _ _ _ => dW
 | n + 1 => fun d i l => fK (l.map (LW (jY n) (dH n) d i))
def kD : List ByteArray → ByteArray × Bool → ByteArray × Bool
 | [], p => p
 | c :: l, p => kD l (if p.2 || decide (20000 < p.1.size + c.size) then (p.1, true) else (p.1 ++ c, false))
theorem seq_assoc (a b c : WM) : aQ (aQ a b) c = aQ a (aQ b c) := by
 funext t
 simp only [aQ, List.append_assoc, Bool.or_assoc]
theorem qK (m : WM) : aQ dW m = m := by
 funext t
 simp only [aQ, dW, List.nil_append, Bool.false_or]
theorem Az (l k : List WM) : fK (l ++ k) = aQ (fK l) (fK k) := by
 induction l with
 | nil => exact (qK _).symm
 | cons m l ih =>
  show aQ m (fK (l ++ k)) = aQ (aQ m (fK l)) (fK k)
  rw [ih, seq_assoc]
theorem Ea (l k : List ByteArray) (p : ByteArray × Bool) : kD (l ++ k) p = kD k (kD l p) := by
 induction l generalizing p with
 | nil => rfl
 | cons c l ih => exact ih _
def yu (l : List ByteArray) : Nat := (l.map ByteArray.size).sum
def SC (l : List ByteArray) : ByteArray := l.foldl (· ++ ·) eB
theorem V6 (l : List ByteArray) (s : ByteArray) : kD l (s, true) = (s, true) := by
 induction l with
 | nil => rfl
 | cons c l ih => exact ih
theorem Eb : ∀ (l : List ByteArray) (s : ByteArray), s.size ≤ 20000 → (s.size + yu l ≤ 20000 → kD l (s, false) = (l.foldl (· ++ ·) s, false)) ∧ (20000 < s.size + yu l → (kD l (s, false)).2 = true)
 | [], s, hs => ⟨fun _ => rfl, fun h => by simp [yu] at h; omega⟩
 | c :: l, s, hs => by
  have e : yu (c :: l) = c.size + yu l := rfl
  rw [e]
  by_cases hc : 20000 < s.size + c.size
  ·refine ⟨fun h => by omega, fun _ => ?_⟩
   show (kD l (if false || decide (20000 < s.size + c.size) then (s, true) else (s ++ c, false))).2 = true
   rw [if_pos (by simp [hc]), V6]
  ·have e2 : kD (c :: l) (s, false) = kD l (s ++ c, false) := by
    show kD l (if false || decide (20000 < s.size + c.size) then (s, true) else (s ++ c, false)) = _
    rw [if_neg (by simp [hc])]
   rw [e2]
   have := Eb l (s ++ c) (by rw [ByteArray.size_append]; omega)
   rw [ByteArray.size_append] at this
   exact ⟨fun h => this.1 (by omega), fun h => this.2 (by omega)⟩
theorem LX (i : Nat) (m : WM) (t u : Bool) : qy i m t = qy i m u := rfl
def agw (m : WM) : Prop := ∀ t u, (m t).1 = (m u).1 ∧ (m t).2.2 = (m u).2.2
theorem OC (R : Wr) (B : Nat → Nat → List Tr → WM) (d i : Nat) (x : Tr) (t u : Bool) : LW R B d i x t = LW R B d i x u := by
 unfold LW
 split
 ·simp only [fK, List.foldr, aQ]
  rw [LX i _ t u]
 ·exact LX i _ t u
theorem Dq (n d i : Nat) : ∀ (l : List Tr), agw (dH n d i l) := by
 intro l
 cases n with
 | zero => exact fun t u => ⟨rfl, rfl⟩
 | succ n =>
  cases l with
  | nil => exact fun t u => ⟨rfl, rfl⟩
  | cons x l =>
   intro t u
   simp only [dH, List.map_cons, fK, List.foldr, aQ]
   rw [OC _ _ d i x t u]
   exact ⟨rfl, rfl⟩
theorem OD (n d i : Nat) (a b : List Tr) (t : Bool) : (dH n d i (a ++ b) t).1 = (dH n d i a true).1 ++ (dH n d i b true).1 ∧ (dH n d i (a ++ b) t).2.2 = ((dH n d i a true).2.2 || (dH n d i b true).2.2) := by
 have h : dH n d i (a ++ b) = aQ (dH n d i a) (dH n d i b) := by
  cases n with
  | zero => exact (qK _).symm
  | succ n => simp only [dH, List.map_append, Az]
 rw [h]
 have h1 := Dq n d i a t true
 have h2 := Dq n d i b (dH n d i a t).2.1 true
 exact ⟨by simp only [aQ]; rw [h1.1, h2.1], by simp only [aQ]; rw [h1.2, h2.2]⟩
theorem V7 (a b c : ByteArray) : a ++ b ++ c = a ++ (b ++ c) := ByteArray.append_assoc
theorem abE (a : ByteArray) : a ++ eB = a := ByteArray.append_empty
theorem OE (a : ByteArray) : eB ++ a = a := ByteArray.empty_append
theorem Fv (l : List ByteArray) : ∀ s : ByteArray, l.foldl (· ++ ·) s = s ++ SC l := by
 induction l with
 | nil => exact fun s => (abE s).symm
 | cons c l ih =>
  intro s
  show l.foldl (· ++ ·) (s ++ c) = s ++ l.foldl (· ++ ·) (eB ++ c)
  rw [ih, ih, OE, V7]
theorem Fz (l : List ByteArray) : (SC l).size = yu l := by
 induction l with
 | nil => rfl
 | cons c l ih =>
  show (l.foldl (· ++ ·) (eB ++ c)).size = c.size + yu l
  rw [Fv, OE, ByteArray.size_append, ih]
theorem Zb (l k : List ByteArray) : SC (l ++ k) = SC l ++ SC k := by
 show (l ++ k).foldl (· ++ ·) eB = _
 rw [List.foldl_append, Fv, Fv, OE]
theorem Ju (l k : List ByteArray) : yu (l ++ k) = yu l + yu k := by
 simp [yu]
def lD (ok : Bool) (r : List ByteArray × Bool × Bool) : ByteArray × Int :=
 if ok = false then (eB, 10) else if r.2.2 = true then (eB, 9) else if (kD r.1 (eB, false)).2 = true then (eB, 8) else ((kD r.1 (eB, false)).1, 0)
theorem out_ok {ok : Bool} {r : List ByteArray × Bool × Bool} : (lD ok r).2 = 0 ↔ ok = true ∧ r.2.2 = false ∧ yu r.1 ≤ 20000 := by
 have hp := Eb r.1 eB (by decide)
 have e0 : eB.size = 0 := rfl
 rw [e0, Nat.zero_add] at hp
 unfold lD
 cases ok with
 | false => simp
 | true =>
  cases h2 : r.2.2 with
  | true => simp
  | false =>
   by_cases h : yu r.1 ≤ 20000
   ·rw [hp.1 h]; simp [h]
   ·rw [hp.2 (by omega)]; simp [h]
theorem xI {ok : Bool} {r : List ByteArray × Bool × Bool} (h : (lD ok r).2 = 0) : lD ok r = (SC r.1, 0) := by
 obtain ⟨h1, h2, h3⟩ := out_ok.1 h
 have hp := (Eb r.1 eB (by decide)).1 (by show 0 + _ ≤ _; omega)
 unfold lD
 rw [h1, h2, hp]
 rfl
theorem V8 {r : List ByteArray × Bool × Bool} (h2 : r.2.2 = false) (h3 : 20000 < yu r.1) : lD true r = (eB, 8) := by
 have hp := (Eb r.1 eB (by decide)).2 (by show _ < 0 + _; omega)
 unfold lD
 rw [h2, hp]
 rfl
theorem SE (n : Nat) (a b : List Tr) (oka okb : Bool) :
  (((lD oka (dH n 1 0 a true)).2 ≠ 0 ∨ (lD okb (dH n 1 0 b true)).2 ≠ 0) → (lD (oka && okb) (dH n 1 0 (a ++ b) true)).2 ≠ 0) ∧
  ((lD oka (dH n 1 0 a true)).2 = 0 → (lD okb (dH n 1 0 b true)).2 = 0 →
   ((lD (oka && okb) (dH n 1 0 (a ++ b) true)).2 = 8 ∧ 20000 < (lD oka (dH n 1 0 a true)).1.size + (lD okb (dH n 1 0 b true)).1.size) ∨
   ((lD (oka && okb) (dH n 1 0 (a ++ b) true)).2 = 0 ∧ (lD (oka && okb) (dH n 1 0 (a ++ b) true)).1 = (lD oka (dH n 1 0 a true)).1 ++ (lD okb (dH n 1 0 b true)).1)) := by
 obtain ⟨j1, j2⟩ := OD n 1 0 a b true
 generalize dH n 1 0 a true = A at *
 generalize dH n 1 0 b true = B at *
 generalize dH n 1 0 (a ++ b) true = U at *
 refine ⟨fun h h0 => ?_, fun ha hb => ?_⟩
 ·obtain ⟨q1, q2, q3⟩ := out_ok.1 h0
  rw [j2] at q2
  rw [j1, Ju] at q3
  simp only [Bool.and_eq_true, Bool.or_eq_false_iff] at q1 q2
  exact h.elim (fun h => h (out_ok.2 ⟨q1.1, q2.1, by omega⟩)) (fun h => h (out_ok.2 ⟨q1.2, q2.2, by omega⟩))
 ·rw [xI ha, xI hb]
  obtain ⟨a1, a2, a3⟩ := out_ok.1 ha
  obtain ⟨b1, b2, b3⟩ := out_ok.1 hb
  have hd : U.2.2 = false := by rw [j2, a2, b2]; rfl
  subst a1
  subst b1
  by_cases hs : yu A.1 + yu B.1 ≤ 20000
  ·right
   have h0 : (lD (true && true) U).2 = 0 := out_ok.2 ⟨rfl, hd, by rw [j1, Ju]; exact hs⟩
   refine ⟨h0, ?_⟩
   rw [xI h0, j1, Zb]
  ·left
   have : lD (true && true) U = (eB, 8) := V8 hd (by rw [j1, Ju]; omega)
   rw [this]
   exact ⟨rfl, by simp only [Fz]; omega⟩
theorem V9 (n : Nat) (ok : Bool) : (lD ok (dH n 1 0 [] true)).1 = eB := by
 have : dH n 1 0 [] true = ([], true, false) := by cases n <;> rfl
 rw [this]
 cases ok <;> rfl
end Go.Proofs.YthogkmcahnkkoaaGreatDoor
namespace Go.Proofs.YthogkmcahnkkoaaGreatDoor
open Go.RowKit
set_option maxRecDepth 10000
set_option linter.unusedSimpArgs false
set_option linter.unusedVariables false
structure Wk (b : Nat) (σ σ' : AW) : Prop where
 next : σ.next ≤ σ'.next
 get' : ∀ k, k < σ.next → k ≠ b → Au (σ.get k) → σ'.get k = σ.get k
theorem Wk.get {b : Nat} {σ σ' : AW} (h : Wk b σ σ') (k : Nat) (h1 : k < σ.next) (h2 : k ≠ b) (h3 : (σ.get k).elem ≠ 5) : σ'.get k = σ.get k := h.get' k h1 h2 (.inl h3)
theorem Wk.refl (b : Nat) (σ : AW) : Wk b σ σ := ⟨Nat.le_refl _, fun _ _ _ _ => rfl⟩
theorem Wk.trans {b : Nat} {σ σ1 σ2 : AW} (h : Wk b σ σ1) (k : Wk b σ1 σ2) : Wk b σ σ2 := ⟨Nat.le_trans h.next k.next, fun j h1 h2 h3 => by
 have e := h.get' j h1 h2 h3
 rw [k.get' j (Nat.lt_of_lt_of_le h1 h.next) h2 (by rw [e]; exact h3), e]⟩
structure Dt (σ : AW) (b : Nat) (s : ByteArray) (d i : Int) (t td tl : Bool) : Prop where
 bl : Bl σ b 73 [.int .i64 d, .int .i64 i, .bool t, .bool td, .bool tl] s
 fit : s.size ≤ 20000
theorem LY : liesAt Tryz.prog Tryz.prog.depth 73 (7 / Tryz.prog.cellsOf 73) 0 71 1 = true := by kernel_rfl
theorem adG {σ : AW} {b E : Nat} {r1 r2 r3 r4 r5 : Value} {s : ByteArray} (h : Bl σ b E [r1, r2, r3, r4, r5] s) :
  C Tryz.prog 134 [.pointer (some ⟨b, 0, none⟩)] σ fun v σ' => v = .int .i64 s.size ∧ σ' = σ := by
 obtain ⟨hb, a, v, hget, ha, hv⟩ := h
 obtain ⟨ad, k, rfl⟩ : ∃ ad k, v = .slice ad s.size k := by
  rcases hv with ⟨h0, rfl⟩ | ⟨g, _, _, _, rfl, _⟩
  ·exact ⟨none, 0, by rw [h0]⟩
  ·exact ⟨_, _, rfl⟩
 refine pK Tryz.func134 Tryz.ntmps134 Tryz.results134 fun A hz a0 => ?_
 refine gQ a0 hget ?_
 refine dG ?_
 exact ⟨by first | rfl | trivial, by first | rfl | trivial⟩
theorem HY {σ : AW} {b : Nat} {s x : ByteArray} {d i : Int} {t td tl : Bool} (h : Dt σ b s d i t td tl) (hx : x.size ≤ 70000) :
  C Tryz.prog 94 [.pointer (some ⟨b, 0, none⟩), .string x] σ fun v σ' => Dt σ' b (kD [x] (s, tl)).1 d i t td (kD [x] (s, tl)).2 ∧ Wk b σ σ' := by
 obtain ⟨hl, hf⟩ := h
 have hbl := hl
 obtain ⟨hb, a, v, hget, ha, hv⟩ := hl
 have hsum : aT .add (.int .i64 (s.size : Int)) (.int .i64 (x.size : Int)) = some (.int .i64 ((s.size : Int) + x.size)) := aH (by omega) (by omega)
 have hset : ∀ tl', Dt (σ.set b ⟨1, 73, 0, [a, v, .int .i64 d, .int .i64 i, .bool t, .bool td, .bool tl']⟩) b s d i t td tl' := fun tl' => ⟨⟨hb, a, v, bF, ha, hv.imp id fun ⟨g, h1, h2, h4, h5, h6⟩ => ⟨g, h1, h2, h4, h5, by rw [bG h2]; exact h6⟩⟩, hf⟩
 have hwk : ∀ B, Wk b σ (σ.set b B) := fun B => ⟨Nat.le_refl _, fun k _ h2 _ => bG h2⟩
 refine fG Tryz.func94 Tryz.ntmps94 Tryz.results94 fun A hz a0 a1 => ?_
 cases tl with
 | true =>
  refine dS a0 a1 hget ?_
  refine dG ?_
  exact ⟨hset true, hwk _⟩
 | false =>
  refine dS a0 a1 hget ?_
  refine aj (lF a0 a1 hget) ?_
  refine C.mono (adG hbl) ?_
  rintro _ _ ⟨rfl, rfl⟩
  by_cases hgt : 20000 < s.size + x.size
  ·have c1 : decide ((20000 : Int) < (s.size : Int) + x.size) = true := decide_eq_true (by omega)
   have e : kD [x] (s, false) = (s, true) := by simp [kD, hgt]
   rw [e]
   refine jy a0 a1 hget hsum c1 ?_
   refine dG ?_
   exact ⟨hset true, hwk _⟩
  ·have c1 : decide ((20000 : Int) < (s.size : Int) + x.size) = false := decide_eq_false (by omega)
   have e : kD [x] (s, false) = (s ++ x, false) := by simp [kD, hgt]
   rw [e]
   refine jy a0 a1 hget hsum c1 ?_
   refine aj (lF a0 a1 hget) ?_
   refine C.mono (Gv hbl (by omega) LY) ?_
   rintro _ σ2 ⟨h2, n2, k2⟩
   refine gQ a0 a1 ?_
   refine gI ?_
   exact ⟨⟨h2, by rw [ByteArray.size_append]; omega⟩, ⟨n2, k2⟩⟩
theorem Zc {σ : AW} (x : ByteArray) : C Tryz.prog 93 [.string x] σ fun v σ' => v = .bool (BX x) ∧ σ' = σ := by
 refine pK Tryz.func93 Tryz.ntmps93 Tryz.results93 fun A hz a0 => ?_
 unfold BX
 generalize hc0 : decide (x = dJ) = b0
 have c0 : decide (x = (⟨#[44]⟩ : ByteArray)) = b0 := hc0
 generalize hc1 : decide (x = vM) = b1
 have c1 : decide (x = (⟨#[59]⟩ : ByteArray)) = b1 := hc1
 generalize hc2 : decide (x = Gi) = b2
 have c2 : decide (x = (⟨#[41]⟩ : ByteArray)) = b2 := hc2
 generalize hc3 : decide (x = mP) = b3
 have c3 : decide (x = (⟨#[46]⟩ : ByteArray)) = b3 := hc3
 cases b0 with
 | true =>
  refine gQ a0 c0 ?_
  refine dG ?_
  exact ⟨by first | rfl | trivial, by first | rfl | trivial⟩
 | false =>
  cases b1 with
  | true =>
   refine dS a0 c0 c1 ?_
   refine dG ?_
   exact ⟨by first | rfl | trivial, by first | rfl | trivial⟩
  | false =>
   cases b2 with
   | true =>
    refine dV a0 c0 c1 c2 ?_
    refine dG ?_
    exact ⟨by first | rfl | trivial, by first | rfl | trivial⟩
   | false =>
    cases b3 with
    | true =>
     refine jy a0 c0 c1 c2 c3 ?_
     refine dG ?_
     exact ⟨by first | rfl | trivial, by first | rfl | trivial⟩
    | false =>
     refine jy a0 c0 c1 c2 c3 ?_
     refine dG ?_
     exact ⟨by first | rfl | trivial, by first | rfl | trivial⟩
theorem FB {σ : AW} (x : ByteArray) : C Tryz.prog 95 [.string x] σ fun v σ' => v = .bool (qI x) ∧ σ' = σ := by
 refine pK Tryz.func95 Tryz.ntmps95 Tryz.results95 fun A hz a0 => ?_
 unfold qI
 generalize hc0 : decide (x = qh) = b0
 have c0 : decide (x = (⟨#[40]⟩ : ByteArray)) = b0 := hc0
 generalize hc1 : decide (x = mP) = b1
 have c1 : decide (x = (⟨#[46]⟩ : ByteArray)) = b1 := hc1
 generalize hc2 : decide (x = pJ) = b2
 have c2 : decide (x = (⟨#[58]⟩ : ByteArray)) = b2 := hc2
 cases b0 with
 | true =>
  refine gQ a0 c0 ?_
  refine dG ?_
  exact ⟨by first | rfl | trivial, by first | rfl | trivial⟩
 | false =>
  cases b1 with
  | true =>
   refine dS a0 c0 c1 ?_
   refine dG ?_
   exact ⟨by first | rfl | trivial, by first | rfl | trivial⟩
  | false =>
   cases b2 with
   | true =>
    refine dV a0 c0 c1 c2 ?_
    refine dG ?_
    exact ⟨by first | rfl | trivial, by first | rfl | trivial⟩
   | false =>
    refine dV a0 c0 c1 c2 ?_
    refine dG ?_
    exact ⟨by first | rfl | trivial, by first | rfl | trivial⟩
theorem Dt.open {σ : AW} {b : Nat} {s : ByteArray} {d i : Int} {t td tl : Bool} (h : Dt σ b s d i t td tl) : ∃ a v, σ.get b = ⟨1, 73, 0, [a, v, .int .i64 d, .int .i64 i, .bool t, .bool td, .bool tl]⟩ ∧
  ∀ (d' i' : Int) (t' td' tl' : Bool), Dt (σ.set b ⟨1, 73, 0, [a, v, .int .i64 d', .int .i64 i', .bool t', .bool td', .bool tl']⟩) b s d' i' t' td' tl' ∧ Wk b σ (σ.set b ⟨1, 73, 0, [a, v, .int .i64 d', .int .i64 i', .bool t', .bool td', .bool tl']⟩) := by
 obtain ⟨⟨hb, a, v, hget, ha, hv⟩, hf⟩ := h
 exact ⟨a, v, hget, fun d' i' t' td' tl' => ⟨⟨⟨hb, a, v, bF, ha, hv.imp id fun ⟨g, h1, h2, h4, h5, h6⟩ => ⟨g, h1, h2, h4, h5, by rw [bG h2]; exact h6⟩⟩, hf⟩, ⟨Nat.le_refl _, fun k _ h2 _ => bG h2⟩⟩⟩
theorem Jv {ws : List ByteArray} {j : Nat} (h : j < ws.length) {t : Bool} {p : ByteArray × Bool} {l : List ByteArray} (hl : (if t || BX ws[j] then [ws[j]] else [Y9, ws[j]]) = l) : kD (aK (ws.drop j) t).1 p = kD (aK (ws.drop (j + 1)) (qI ws[j])).1 (kD l p) := by
 rw [List.drop_eq_getElem_cons h]
 show kD ((if t || BX ws[j] then [ws[j]] else [Y9, ws[j]]) ++ _) p = _
 rw [Ea, hl]
theorem Cc {ws : List ByteArray} {j : Nat} (h : j < ws.length) {t : Bool} : (aK (ws.drop j) t).2.1 = (aK (ws.drop (j + 1)) (qI ws[j])).2.1 := by
 rw [List.drop_eq_getElem_cons h]
 rfl
theorem Wh {σ : AW} {b : Nat} {s : ByteArray} {d i : Int} {t td tl : Bool} (h : Dt σ b s d i t td tl) {w c e z : Nat} {ws : List ByteArray} (hw : σ.get w = ⟨1, e, z, ws.map Value.string⟩) (he : e ≠ 5) (hwb : w ≠ b) (hwn : w < σ.next) (hlen : ws.length ≤ 1000) (hx : ∀ x ∈ ws, x.size ≤ 70000) :
  C Tryz.prog 54 [.pointer (some ⟨b, 0, none⟩), .slice (some ⟨w, 0, none⟩) ws.length c] σ fun v σ' => Dt σ' b (kD (aK ws t).1 (s, tl)).1 d i (aK ws t).2.1 td (kD (aK ws t).1 (s, tl)).2 ∧ Wk b σ σ' := by
 refine fG Tryz.func54 Tryz.ntmps54 Tryz.results54 fun A hz a0 a1 => ?_
 refine gQ a0 a1 ?_
 refine dB (dI (fun m B σ1 => ∃ j s1 t1 tl1, j ≤ ws.length ∧ m = ws.length - j ∧ B.size = 33 ∧ B.get 0 = some (.pointer (some ⟨b, 0, none⟩)) ∧ B.get 6 = some (.slice (some ⟨w, 0, none⟩) ws.length c) ∧ B.get 7 = some (.int .i64 (ws.length : Int)) ∧ B.get 8 = some (.int .i64 (j : Int)) ∧ Dt σ1 b s1 d i t1 td tl1 ∧ Wk b σ σ1 ∧ kD (aK ws t).1 (s, tl) = kD (aK (ws.drop j) t1).1 (s1, tl1) ∧ (aK ws t).2.1 = (aK (ws.drop j) t1).2.1) ?_ (m := ws.length) (by refine' ⟨0, s, t, tl, Nat.zero_le _, rfl, ?_, ?_, ?_, ?_, ?_, h, Wk.refl _ _, rfl, rfl⟩; any_goals (first | exact aU a0 | fail)))
 rintro m B σ1 ⟨j, s1, t1, tl1, hj, rfl, hz, b0, b6, b7, b8, h1, k1, hP, hT⟩
 have hw1 : σ1.get w = ⟨1, e, z, ws.map Value.string⟩ := (k1.get w hwn hwb (by rw [hw]; exact he)).trans hw
 obtain ⟨a1, v1, g1, _⟩ := h1.open
 by_cases hlt : j < ws.length
 ·have c1 : decide ((j : Int) < (ws.length : Int)) = true := by simp [hlt]
  have e1 : bU Tryz.prog 9 ⟨w, 0, none⟩ ws.length (j : Int) = some (.pointer (some ⟨w, j, none⟩)) := by rw [vP Bq hlt, je]; simp
  have e2 : (ws.map Value.string)[j]? = some (.string ws[j]) := by simp [hlt]
  have hxj : ws[j].size ≤ 70000 := hx _ (List.getElem_mem hlt)
  have hadd : aT .add (.int .i64 (j : Int)) (.int .i64 1) = some (.int .i64 ((j + 1 : Nat) : Int)) := by rw [aH (by omega) (by omega)]; rfl
  cases t1 with
  | true =>
   refine aY b0 b6 b7 b8 c1 e1 e2 (cJ hw1 g1) ?_
   refine aj (Ud b0 b6 b7 b8 c1 e1 e2) ?_
   refine C.mono (HY h1 hxj) ?_
   rintro _ σ8 ⟨h8, k8⟩
   obtain ⟨a8, v8, g8, LZ⟩ := h8.open
   refine dV b0 b6 b7 b8 ?_
   refine aj (qx b0 b6 b7 b8) ?_
   refine C.mono (FB _) ?_
   rintro _ _ ⟨rfl, rfl⟩
   refine kR b0 b6 b7 b8 g8 hadd ?_
   exact (by refine' ⟨ws.length - (j + 1), by omega, j + 1, _, qI ws[j], _, by omega, rfl, ?_, ?_, ?_, ?_, ?_, (LZ _ _ _ _ _).1, (k1.trans k8).trans (LZ _ _ _ _ _).2, by rw [hP, Jv hlt rfl]; all_goals rfl, by rw [hT, Cc hlt]⟩; any_goals (first | exact lF b0 b6 b7 | fail))
  | false =>
   refine aY b0 b6 b7 b8 c1 e1 e2 (cJ hw1 g1) ?_
   refine aj (kC b0 b6 b7 b8 c1 e1 e2 (cJ hw1 g1)) ?_
   refine C.mono (Zc _) ?_
   rintro _ _ ⟨rfl, rfl⟩
   cases hah : BX ws[j] with
   | true =>
    refine aY b0 b6 b7 b8 c1 e1 e2 (cJ hw1 g1) ?_
    refine aj (Ud b0 b6 b7 b8 c1 e1 e2) ?_
    refine C.mono (HY h1 hxj) ?_
    rintro _ σ8 ⟨h8, k8⟩
    obtain ⟨a8, v8, g8, LZ⟩ := h8.open
    refine dV b0 b6 b7 b8 ?_
    refine aj (qx b0 b6 b7 b8) ?_
    refine C.mono (FB _) ?_
    rintro _ _ ⟨rfl, rfl⟩
    refine kR b0 b6 b7 b8 g8 hadd ?_
    exact (by refine' ⟨ws.length - (j + 1), by omega, j + 1, _, qI ws[j], _, by omega, rfl, ?_, ?_, ?_, ?_, ?_, (LZ _ _ _ _ _).1, (k1.trans k8).trans (LZ _ _ _ _ _).2, by rw [hP, Jv hlt (by rw [hah]; all_goals rfl)]; all_goals rfl, by rw [hT, Cc hlt]⟩; any_goals (first | exact lF b0 b6 b7 | fail))
   | false =>
    refine aY b0 b6 b7 b8 c1 e1 e2 (cJ hw1 g1) ?_
    refine aj (kC b0 b6 b7 b8 c1 e1 e2 (cJ hw1 g1)) ?_
    refine C.mono (HY (x := Y9) h1 (by decide)) ?_
    rintro _ σ7 ⟨h7, k7⟩
    refine aY b0 b6 b7 b8 c1 e1 e2 hw1 ?_
    refine aj (Ud b0 b6 b7 b8 c1 e1 e2) ?_
    refine C.mono (HY h7 hxj) ?_
    rintro _ σ8 ⟨h8, k8⟩
    obtain ⟨a8, v8, g8, LZ⟩ := h8.open
    refine dV b0 b6 b7 b8 ?_
    refine aj (qx b0 b6 b7 b8) ?_
    refine C.mono (FB _) ?_
    rintro _ _ ⟨rfl, rfl⟩
    refine kR b0 b6 b7 b8 g8 hadd ?_
    exact (by refine' ⟨ws.length - (j + 1), by omega, j + 1, _, qI ws[j], _, by omega, rfl, ?_, ?_, ?_, ?_, ?_, (LZ _ _ _ _ _).1, ((k1.trans k7).trans k8).trans (LZ _ _ _ _ _).2, by rw [hP, Jv hlt (by rw [hah]; all_goals rfl)]; all_goals rfl, by rw [hT, Cc hlt]⟩; any_goals (first | exact lF b0 b6 b7 | fail))
 ·have c1 : decide ((j : Int) < (ws.length : Int)) = false := by simp [hlt]
  have ej : ws.drop j = [] := List.drop_of_length_le (by omega)
  rw [ej] at hP hT
  refine jy b0 b6 b7 b8 c1 ?_
  refine iH ?_; simp only [Then, Out, iy, reduceIte, Nat.reduceEqDiff]
  refine jy b0 b6 b7 b8 c1 ?_
  refine gI ?_
  rw [hP, hT]
  exact ⟨h1, k1⟩
def Wrote (b : Nat) (d i : Int) (σ : AW) (s : ByteArray) (t td tl : Bool) (m : WM) (v : Value) (σ' : AW) : Prop :=
 Dt σ' b (kD (m t).1 (s, tl)).1 d i (m t).2.1 (td || (m t).2.2) (kD (m t).1 (s, tl)).2 ∧ Wk b σ σ'
def Writes (E : AW → Prop) (b : Nat) (d i : Int) (g : Nat) (xs : List Value) (m : WM) : Prop := ∀ σ s t td tl, E σ → Dt σ b s d i t td tl → C Tryz.prog g xs σ (Wrote b d i σ s t td tl m)
def dX (b : Nat) (E : AW → Prop) : Prop := ∀ σ σ', E σ → Wk b σ σ' → E σ'
theorem Wi {E : AW → Prop} {b : Nat} {d i : Int} : Writes E b d i 99 [.pointer (some ⟨b, 0, none⟩)] OA := by
 intro σ s t td tl _ h
 obtain ⟨a, v, g, st⟩ := h.open
 refine pK Tryz.func99 Tryz.ntmps99 Tryz.results99 fun A hz a0 => ?_
 refine gQ a0 g ?_
 refine gI ?_
 refine ⟨?_, (st _ _ _ _ _).2⟩
 simp only [OA, kD, Bool.or_false]
 exact (st _ _ _ _ _).1
theorem qU {E : AW → Prop} {b : Nat} (hE : dX b E) {d i : Int} (h0 : 0 ≤ d) (hd : d ≤ 40) {g : Nat} {fs cs : List Value} {m : WM} (hf : d < 40 → Writes E b (d + 1) i g (fs ++ cs) m) :
  Writes E b d i 24 [.pointer (some ⟨b, 0, none⟩), .func (.func g) ⟨fs⟩ ⟨cs⟩] (if d = 40 then fun t => ([], t, true) else m) := by
 intro σ s t td tl he h
 obtain ⟨a, v, g1, st⟩ := h.open
 refine fG Tryz.func24 Tryz.ntmps24 Tryz.results24 fun A hz a0 a1 => ?_
 by_cases hc : d = 40
 ·have c1 : (d == 40) = true := by simp [hc]
  rw [if_pos hc]
  refine dV a0 a1 g1 c1 ?_
  refine dG ?_
  refine ⟨?_, (st _ _ _ _ _).2⟩
  simp only [kD, Bool.or_true]
  exact (st _ _ _ _ _).1
 ·have c1 : (d == 40) = false := by simp [hc]
  rw [if_neg hc]
  have hadd : aT .add (.int .i64 d) (.int .i64 1) = some (.int .i64 (d + 1)) := aH (by omega) (by omega)
  have hsub : aT .sub (.int .i64 (d + 1)) (.int .i64 1) = some (.int .i64 d) := by rw [xg (by omega) (by omega)]; congr 2; omega
  refine jy a0 a1 g1 c1 hadd ?_
  refine aj (qx a0 a1 g1 c1) ?_
  refine C.mono (hf (by omega) _ s t td tl (hE _ _ he (st _ _ _ _ _).2) (st _ _ _ _ _).1) ?_
  rintro _ σ2 ⟨h2, k2⟩
  obtain ⟨a2, v2, g2, st2⟩ := h2.open
  refine dV a0 a1 g2 hsub ?_
  refine gI ?_
  exact ⟨(st2 _ _ _ _ _).1, ((st _ _ _ _ _).2.trans k2).trans (st2 _ _ _ _ _).2⟩
theorem OG {E : AW → Prop} {b : Nat} (hE : dX b E) {d i : Int} (h0 : 0 ≤ i) (hd : i ≤ 1000000) {g : Nat} {fs cs : List Value} {m : WM} (hf : Writes E b d (i + 1) g (fs ++ cs) m) :
  Writes E b d i 75 [.pointer (some ⟨b, 0, none⟩), .func (.func g) ⟨fs⟩ ⟨cs⟩] m := by
 intro σ s t td tl he h
 obtain ⟨a, v, g1, st⟩ := h.open
 refine fG Tryz.func75 Tryz.ntmps75 Tryz.results75 fun A hz a0 a1 => ?_
 have hadd : aT .add (.int .i64 i) (.int .i64 1) = some (.int .i64 (i + 1)) := aH (by omega) (by omega)
 have hsub : aT .sub (.int .i64 (i + 1)) (.int .i64 1) = some (.int .i64 i) := by rw [xg (by omega) (by omega)]; congr 2; omega
 refine dV a0 a1 g1 hadd ?_
 refine aj (lF a0 a1 g1) ?_
 refine C.mono (hf _ s t td tl (hE _ _ he (st _ _ _ _ _).2) (st _ _ _ _ _).1) ?_
 rintro _ σ2 ⟨h2, k2⟩
 obtain ⟨a2, v2, g2, st2⟩ := h2.open
 refine dV a0 a1 g2 hsub ?_
 refine gI ?_
 exact ⟨(st2 _ _ _ _ _).1, ((st _ _ _ _ _).2.trans k2).trans (st2 _ _ _ _ _).2⟩
theorem Dt.lt {σ : AW} {b : Nat} {s : ByteArray} {d i : Int} {t td tl : Bool} (h : Dt σ b s d i t td tl) : b < σ.next := h.bl.1
theorem Dt.push {σ : AW} {b : Nat} {s : ByteArray} {d i : Int} {t td tl : Bool} (h : Dt σ b s d i t td tl) (B : fZ) : Dt (σ.push B) b s d i t td tl := by
 obtain ⟨⟨hb, a, v, hget, ha, hv⟩, hf⟩ := h
 exact ⟨⟨Nat.lt_succ_of_lt hb, a, v, (aC (by omega)).trans hget, ha, hv.imp id fun ⟨g, h1, h2, h4, h5, h6⟩ => ⟨g, h1, h2, Nat.lt_succ_of_lt h4, h5, (aC (by omega)).trans h6⟩⟩, hf⟩
theorem Wk.push {b : Nat} (σ : AW) (B : fZ) : Wk b σ (σ.push B) := ⟨Nat.le_succ _, fun k h1 _ _ => aC (by omega)⟩
theorem cZ {σ : AW} {b : Nat} {s : ByteArray} {d i : Int} {t td tl : Bool} (h : Dt σ b s d i t td tl) (z c : Nat) (x : ByteArray) (hx : x.size ≤ 70000) :
  C Tryz.prog 54 [.pointer (some ⟨b, 0, none⟩), .slice (some ⟨σ.next, 0, none⟩) 1 c] (σ.push ⟨1, 9, z, [.string x]⟩) (Wrote b d i σ s t td tl (aK [x])) := by
 have hlt := h.lt
 refine C.mono (Wh (ws := [x]) (h.push _) aA (by decide) (by omega) (Nat.lt_succ_self _) (show 1 ≤ 1000 by decide) (fun y hy => by rw [List.mem_singleton.1 hy]; exact hx)) ?_
 rintro v σ' ⟨h1, k1⟩
 refine ⟨?_, (Wk.push σ _).trans k1⟩
 have e : (td || (aK [x] t).2.2) = td := by simp [aK, aQ, dW]
 rw [e]
 exact h1
theorem Wrote.trans {b : Nat} {d i : Int} {σ σ1 σ2 : AW} {s : ByteArray} {t td tl : Bool} {m k : WM} {v v' : Value} (h : Wrote b d i σ s t td tl m v σ1) (h2 : Wrote b d i σ1 (kD (m t).1 (s, tl)).1 (m t).2.1 (td || (m t).2.2) (kD (m t).1 (s, tl)).2 k v' σ2) :
  Wrote b d i σ s t td tl (aQ m k) v' σ2 := by
 refine ⟨?_, h.2.trans h2.2⟩
 have h3 := h2.1
 show Dt σ2 b (kD ((m t).1 ++ (k (m t).2.1).1) (s, tl)).1 d i (k (m t).2.1).2.1 (td || ((m t).2.2 || (k (m t).2.1).2.2)) (kD ((m t).1 ++ (k (m t).2.1).1) (s, tl)).2
 rw [Ea, ← Bool.or_assoc]
 exact h3
theorem Du {E : AW → Prop} {b : Nat} (hE : dX b E) {d i : Int} {g : Nat} {fs cs : List Value} {m : WM} (hf : Writes E b d i g (fs ++ cs) m) :
  Writes E b d i 100 [.pointer (some ⟨b, 0, none⟩), .func (.func g) ⟨fs⟩ ⟨cs⟩] (brW m) := by
 intro σ s t td tl he h
 refine fG Tryz.func100 Tryz.ntmps100 Tryz.results100 fun A hz a0 a1 => ?_
 refine gQ a0 a1 ?_
 refine aj (bP a0 a1) ?_
 refine C.mono (cZ h _ _ qh (by decide)) ?_
 rintro _ σ1 h1
 refine gQ a0 a1 ?_
 refine aj (bP a0 a1) ?_
 refine C.mono (hf σ1 _ _ _ _ (hE _ _ he h1.2) h1.1) ?_
 rintro _ σ2 h2
 refine gQ a0 a1 ?_
 refine aj (bP a0 a1) ?_
 refine C.mono (cZ h2.1 _ _ Gi (by decide)) ?_
 rintro v3 σ3 h3
 refine gQ a0 a1 ?_
 refine gI ?_
 exact h1.trans (h2.trans h3)
theorem Ia {E : AW → Prop} {b : Nat} (hE : dX b E) {d i : Int} {g : Nat} {fs cs : List Value} {m : WM} {x : ByteArray} (hx : x.size ≤ 70000) (hf : Writes E b d i g (fs ++ cs) m) :
  Writes E b d i 59 [.pointer (some ⟨b, 0, none⟩), .string x, .func (.func g) ⟨fs⟩ ⟨cs⟩] (vZ x m) := by
 intro σ s t td tl he h
 refine Ld Tryz.func59 Tryz.ntmps59 Tryz.results59 fun A hz a0 a1 a2 => ?_
 refine dS a0 a1 a2 ?_
 refine aj (lF a0 a1 a2) ?_
 refine C.mono (cZ h _ _ x hx) ?_
 rintro _ σ1 h1
 refine dS a0 a1 a2 ?_
 refine aj (lF a0 a1 a2) ?_
 refine C.mono (Wi (E := fun _ => True) σ1 _ _ _ _ trivial h1.1) ?_
 rintro _ σ2 h2
 refine dS a0 a1 a2 ?_
 refine aj (lF a0 a1 a2) ?_
 refine C.mono (Du hE hf σ2 _ _ _ _ (hE _ _ he (h1.2.trans h2.2)) h2.1) ?_
 rintro v3 σ3 h3
 refine dS a0 a1 a2 ?_
 refine gI ?_
 exact h1.trans (h2.trans h3)
end Go.Proofs.YthogkmcahnkkoaaGreatDoor
