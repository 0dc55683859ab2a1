/- Runs of closed code, reckoned: values whose blocks are numbered by the reckoning's own numbers, and what they are in a memory. Runs of closed code, reckoned: the reckoning's memory, and a memory that holds it. Runs of closed code, reckoned: operations that do not look at memory. Runs of closed code, reckoned: loads, stores, new variables, fields. Runs of closed code, reckoned: slices. -/
import Derived.Orders
import Derived.LoopN
import Derived.Scope
import Derived.Below
import Derived.Laws.World
import Derived.Laws.Cells
import Derived.Laws.CopyRow
import Derived.Deep.AppendSrc
namespace Go.Proofs.YthogkmcahnkkoaaGreatDoor
structure Pl where
 blk : Nat
 room : Nat
 sh : Nat
abbrev Rn := Nat → Pl
def oH (ρ : Rn) (k c : Nat) : Nat := if c % 2 = 0 then c / 2 else (ρ k).2 - c / 2
def jd (ρ : Rn) (a : Addr) : Addr := { a with block := (ρ a.block).1, off := a.off + (ρ a.block).3 }
noncomputable def ren (ρ : Rn) (v : Value) : Value :=
 Value.rec (motive_1 := fun _ => Value) (motive_2 := fun _ => Array Value) (motive_3 := fun _ => List Value)
  (fun b => .bool b) (fun k n => .int k n) (fun k b => .float k b) (fun k a b => .complex k a b) (fun s => .string s)
  (fun a => .pointer (a.map (jd ρ)))
  (fun a l c => .slice (a.map (jd ρ)) l (match a with | none => c | some a => oH ρ a.block c))
  (fun r => .map (r.map fun k => (ρ k).1)) (fun r => .chan r)
  (fun fn _ _ f c => .func fn f c) .nilFunc (fun t _ v => .iface t v) .nilIface
  (fun _ cs => .agg cs) (fun _ vs => .tuple vs)
  (fun _ l => ⟨l⟩) [] (fun _ _ v l => v :: l) v
section
variable (ρ : Rn)
theorem pW (b : Bool) : ren ρ (.bool b) = .bool b := rfl
theorem kP (k : IntKind) (n : Int) : ren ρ (.int k n) = .int k n := rfl
theorem yN (s : ByteArray) : ren ρ (.string s) = .string s := rfl
theorem dO (a : Addr) : ren ρ (.pointer (some a)) = .pointer (some (jd ρ a)) := rfl
theorem Pg : ren ρ (.pointer none) = .pointer none := rfl
theorem aZ (a : Addr) (l c : Nat) : ren ρ (.slice (some a) l c) = .slice (some (jd ρ a)) l (oH ρ a.block c) := rfl
theorem qV (l c : Nat) : ren ρ (.slice none l c) = .slice none l c := rfl
theorem sO (k : Nat) : ren ρ (.map (some k)) = .map (some (ρ k).1) := rfl
theorem Eh : ren ρ (.map none) = .map none := rfl
theorem CP : ren ρ .nilFunc = .nilFunc := rfl
theorem zH (l : List Value) : (Value.rec_2 (motive_1 := fun _ => Value) (motive_2 := fun _ => Array Value) (motive_3 := fun _ => List Value)
  (fun b => .bool b) (fun k n => .int k n) (fun k b => .float k b) (fun k a b => .complex k a b) (fun s => .string s)
  (fun a => .pointer (a.map (jd ρ)))
  (fun a l c => .slice (a.map (jd ρ)) l (match a with | none => c | some a => oH ρ a.block c))
  (fun r => .map (r.map fun k => (ρ k).1)) (fun r => .chan r)
  (fun fn _ _ f c => .func fn f c) .nilFunc (fun t _ v => .iface t v) .nilIface
  (fun _ cs => .agg cs) (fun _ vs => .tuple vs)
  (fun _ l => ⟨l⟩) [] (fun _ _ v l => v :: l) l : List Value) = l.map (ren ρ) := by
 induction l with
 | nil => rfl
 | cons x l ih => exact congrArg (ren ρ x :: ·) ih
theorem lG (cs : Array Value) : ren ρ (.agg cs) = .agg (cs.map (ren ρ)) := by
 obtain ⟨l⟩ := cs
 rw [List.map_toArray]
 exact congrArg (fun l => Value.agg ⟨l⟩) (zH ρ l)
theorem dU (cs : Array Value) : ren ρ (.tuple cs) = .tuple (cs.map (ren ρ)) := by
 obtain ⟨l⟩ := cs
 rw [List.map_toArray]
 exact congrArg (fun l => Value.tuple ⟨l⟩) (zH ρ l)
theorem jG (fn : Fn) (f c : Array Value) : ren ρ (.func fn f c) = .func fn (f.map (ren ρ)) (c.map (ren ρ)) := by
 obtain ⟨l⟩ := f
 obtain ⟨m⟩ := c
 rw [List.map_toArray, List.map_toArray]
 have h1 := zH ρ l
 have h2 := zH ρ m
 show Value.func fn ⟨_⟩ ⟨_⟩ = _
 rw [h1, h2]
end
def Sc (D : Nat → Prop) (v : Value) : Prop := ∀ ρ ρ' : Rn, (∀ k, D k → ρ k = ρ' k) → ren ρ v = ren ρ' v
theorem Sc.mono {D D' : Nat → Prop} {v : Value} (h : Sc D v) (hn : ∀ k, D k → D' k) : Sc D' v := fun ρ ρ' e => h ρ ρ' fun k hk => e k (hn k hk)
def Fl (v : Value) : Prop := ∀ ρ : Rn, ren ρ v = v
theorem Fl.sc {v : Value} (h : Fl v) (D : Nat → Prop) : Sc D v := fun ρ ρ' _ => (h ρ).trans (h ρ').symm
def uH : Value → Bool
 | .bool _ | .int _ _ | .float _ _ | .complex _ _ _ | .string _ | .pointer none | .slice none _ _ | .map none | .chan _ | .nilFunc | .nilIface => true
 | _ => false
def ni : Value → Bool
 | .agg ⟨l⟩ | .tuple ⟨l⟩ => l.all uH
 | v => uH v
theorem kW {v : Value} (h : uH v = true) : Fl v := by
 intro ρ
 cases v with
 | pointer a => cases a with | none => rfl | some a => cases h
 | slice a l c => cases a with | none => rfl | some a => cases h
 | map a => cases a with | none => rfl | some a => cases h
 | func _ _ _ => cases h
 | iface _ _ => cases h
 | agg _ => cases h
 | tuple _ => cases h
 | _ => rfl
theorem Ei {l : List Value} (h : l.all uH = true) (ρ : Rn) : l.map (ren ρ) = l := by
 induction l with
 | nil => rfl
 | cons x l ih => rw [List.all_cons, Bool.and_eq_true] at h; rw [List.map_cons, kW h.1 ρ, ih h.2]
theorem gJ {v : Value} (h : ni v = true) : Fl v := by
 intro ρ
 cases v with
 | agg a => obtain ⟨l⟩ := a; rw [lG, List.map_toArray, Ei h]
 | tuple a => obtain ⟨l⟩ := a; rw [dU, List.map_toArray, Ei h]
 | pointer a => exact kW (v := .pointer a) h ρ
 | slice a l c => exact kW (v := .slice a l c) h ρ
 | map a => exact kW (v := .map a) h ρ
 | func a b c => cases h
 | iface a b => cases h
 | _ => rfl
theorem qW : Fl undef := fun ρ => by rw [undef, dU, Array.map_empty]
theorem Iw {D : Nat → Prop} {a : Addr} (h : D a.block) : Sc D (.pointer (some a)) := fun ρ ρ' e => by rw [dO, dO, jd, jd, e _ h]
theorem pX {D : Nat → Prop} {l c : Nat} {a : Addr} (h : D a.block) : Sc D (.slice (some a) l c) := fun ρ ρ' e => by rw [aZ, aZ, jd, jd, oH, oH, e _ h]
theorem aaE {D : Nat → Prop} {k : Nat} (h : D k) : Sc D (.map (some k)) := fun ρ ρ' e => by rw [sO, sO, e _ h]
theorem oZ {D : Nat → Prop} {l : List Value} (h : ∀ v ∈ l, Sc D v) {ρ ρ' : Rn} (e : ∀ k, D k → ρ k = ρ' k) : l.map (ren ρ) = l.map (ren ρ') :=
 List.map_congr_left fun v hv => h v hv ρ ρ' e
theorem Ej {D : Nat → Prop} {l : Array Value} (h : ∀ v ∈ l.toList, Sc D v) : Sc D (.agg l) := fun ρ ρ' e => by
 obtain ⟨l⟩ := l; rw [lG, lG, List.map_toArray, List.map_toArray, oZ h e]
theorem pY {D : Nat → Prop} {l : Array Value} (h : ∀ v ∈ l.toList, Sc D v) : Sc D (.tuple l) := fun ρ ρ' e => by
 obtain ⟨l⟩ := l; rw [dU, dU, List.map_toArray, List.map_toArray, oZ h e]
theorem Iy {D : Nat → Prop} {fn : Fn} {l m : Array Value} (h : ∀ v ∈ l.toList, Sc D v) (k : ∀ v ∈ m.toList, Sc D v) : Sc D (.func fn l m) := fun ρ ρ' e => by
 obtain ⟨l⟩ := l; obtain ⟨m⟩ := m; rw [jG, jG, List.map_toArray, List.map_toArray, List.map_toArray, List.map_toArray, oZ h e, oZ k e]
theorem sQ {l : List Value} {f g : Value → Value} (h : l.map f = l.map g) : ∀ v ∈ l, f v = g v := by
 induction l with
 | nil => intro v hv; cases hv
 | cons x l ih =>
  rw [List.map_cons, List.map_cons] at h
  injection h with h1 h2
  intro v hv
  cases hv with
  | head => exact h1
  | tail _ hv => exact ih h2 v hv
theorem GH {D : Nat → Prop} {l : Array Value} (h : Sc D (.agg l)) : ∀ v ∈ l.toList, Sc D v := fun v hv ρ ρ' e => by
 have := h ρ ρ' e
 obtain ⟨l⟩ := l
 rw [lG, lG, List.map_toArray, List.map_toArray] at this
 injection this with this
 injection this with this
 exact sQ this v hv
theorem JQ {D : Nat → Prop} {l : Array Value} (h : Sc D (.tuple l)) : ∀ v ∈ l.toList, Sc D v := fun v hv ρ ρ' e => by
 have := h ρ ρ' e
 obtain ⟨l⟩ := l
 rw [dU, dU, List.map_toArray, List.map_toArray] at this
 injection this with this
 injection this with this
 exact sQ this v hv
theorem Nj {D : Nat → Prop} {fn : Fn} {l m : Array Value} (h : Sc D (.func fn l m)) : (∀ v ∈ l.toList, Sc D v) ∧ ∀ v ∈ m.toList, Sc D v := by
 refine ⟨fun v hv ρ ρ' e => ?_, fun v hv ρ ρ' e => ?_⟩ <;>
 ·have := h ρ ρ' e
  obtain ⟨l⟩ := l; obtain ⟨m⟩ := m
  rw [jG, jG, List.map_toArray, List.map_toArray, List.map_toArray, List.map_toArray] at this
  injection this with _ t1 t2
  injection t1 with t1
  injection t2 with t2
  first | exact sQ t1 v hv | exact sQ t2 v hv
def aS {α : Type} (P : Program) : Sem α → Option α
 | .pure a => some a
 | .program k => aS P (k P)
 | .mark _ k => aS P k
 | _ => none
theorem iR {α : Type} {P : Program} : ∀ {s : Sem α} {a : α}, aS P s = some a → ∀ w, s.run P w = .ok a w
 | .pure b, a, h, w => by injection h with h; subst h; rfl
 | .program k, a, h, w => by have := iR (s := k P) h w; simpa [Sem.run] using this
 | .mark m k, a, h, w => by have := iR (s := k) h w; simpa [Sem.run] using this
 | .load _ _ _, _, h, _ | .store _ _ _ _, _, h, _ | .new _ _, _, h, _ | .shape _ _, _, h, _ | .freeze _ _ _, _, h, _ | .frozen _ _, _, h, _ | .getObj _ _, _, h, _ | .setObj _ _ _, _, h, _ | .choose _ _, _, h, _ | .sys _ _, _, h, _ | .halt _, _, h, _ => by cases h
structure fZ where
 kind : Nat
 elem : Nat
 esz : Nat
 cells : List Value
def eu : fZ := ⟨0, 0, 0, []⟩
def fA {α : Type} (d : α) (l : List α) (n : Nat) : α :=
 Nat.rec (motive := fun _ => List α → α) (fun l => List.casesOn (motive := fun _ => α) l d (fun x _ => x)) (fun _ ih l => List.casesOn (motive := fun _ => α) l d (fun _ xs => ih xs)) n l
def Iz {α : Type} (d : α) (f : α → α) (l : List α) (n : Nat) : List α :=
 Nat.rec (motive := fun _ => List α → List α) (fun l => List.casesOn (motive := fun _ => List α) l [f d] (fun x xs => f x :: xs)) (fun _ ih l => List.casesOn (motive := fun _ => List α) l (d :: ih []) (fun x xs => x :: ih xs)) n l
theorem ny {α : Type} (d : α) (f : α → α) : ∀ (n : Nat) (l : List α) (m : Nat), fA d (Iz d f l n) m = if m = n then f (fA d l n) else fA d l m
 | 0, [], 0 => rfl
 | 0, [], m + 1 => by rw [if_neg (by omega)]; cases m <;> rfl
 | 0, x :: l, 0 => rfl
 | 0, x :: l, m + 1 => by rw [if_neg (by omega)]; rfl
 | n + 1, [], 0 => by rw [if_neg (by omega)]; rfl
 | n + 1, [], m + 1 => by
  have h := ny d f n [] m
  have e : ∀ k, fA d [] k = d := fun k => by cases k <;> rfl
  show fA d (Iz d f [] n) m = _
  rw [h, e, e, e, e]
  by_cases hm : m = n
  ·rw [if_pos hm, if_pos (by omega)]
  ·rw [if_neg hm, if_neg (by omega)]
 | n + 1, x :: l, 0 => by rw [if_neg (by omega)]; rfl
 | n + 1, x :: l, m + 1 => by
  have h := ny d f n l m
  show fA d (Iz d f l n) m = _
  rw [h]
  by_cases hm : m = n
  ·rw [if_pos hm, if_pos (by omega)]; rfl
  ·rw [if_neg hm, if_neg (by omega)]; rfl
structure AW where
 next : Nat
 rows : List (List (List fZ))
def AW.get (σ : AW) (k : Nat) : fZ := fA eu (fA [] (fA [] σ.rows (k / 64)) (k / 8 % 8)) (k % 8)
def AW.set (σ : AW) (k : Nat) (b : fZ) : AW := { next := σ.next, rows := Iz [] (fun r => Iz [] (fun q => Iz eu (fun _ => b) q (k % 8)) r (k / 8 % 8)) σ.rows (k / 64) }
def AW.up (σ : AW) (n : Nat) : AW := { next := n, rows := σ.rows }
theorem AW.get_set (σ : AW) (k j : Nat) (b : fZ) : (σ.set k b).get j = if j = k then b else σ.get j := by
 simp only [AW.get, AW.set, ny]
 by_cases h1 : j / 64 = k / 64
 ·rw [if_pos h1, ny]
  by_cases h2 : j / 8 % 8 = k / 8 % 8
  ·rw [if_pos h2, ny]
   by_cases h3 : j % 8 = k % 8
   ·have : j = k := by omega
    rw [if_pos h3, if_pos this]
   ·rw [if_neg h3, if_neg (fun e => h3 (by rw [e])), h1, h2]
  ·rw [if_neg h2, if_neg (fun e => h2 (by rw [e])), h1]
 ·rw [if_neg h1, if_neg (fun e => h1 (by rw [e]))]
theorem AW.get_up (σ : AW) (n j : Nat) : (σ.up n).get j = σ.get j := rfl
structure Fr where
 size : Nat
 rows : List (List (List Value))
def Fr.get (A : Fr) (t : Nat) : Option Value := match Nat.blt t A.size with
 | true => some (fA undef (fA [] (fA [] A.rows (t / 64)) (t / 8 % 8)) (t % 8))
 | false => none
def Fr.set (A : Fr) (t : Nat) (v : Value) : Fr := { size := A.size, rows := Iz [] (fun r => Iz [] (fun q => Iz undef (fun _ => v) q (t % 8)) r (t / 8 % 8)) A.rows (t / 64) }
theorem Fr.get_set (A : Fr) (k j : Nat) (b : Value) : (A.set k b).get j = if j = k then (A.get k).map (fun _ => b) else A.get j := by
 simp only [Fr.get, Fr.set, ny]
 by_cases h1 : j / 64 = k / 64
 ·rw [if_pos h1, ny]
  by_cases h2 : j / 8 % 8 = k / 8 % 8
  ·rw [if_pos h2, ny]
   by_cases h3 : j % 8 = k % 8
   ·have : j = k := by omega
    rw [if_pos h3, if_pos this, this]
    cases Nat.blt k A.size <;> rfl
   ·rw [if_neg h3, if_neg (fun e => h3 (by rw [e])), h1, h2]
  ·rw [if_neg h2, if_neg (fun e => h2 (by rw [e])), h1]
 ·rw [if_neg h1, if_neg (fun e => h1 (by rw [e]))]
def Fr.new (n : Nat) : Fr := ⟨n, []⟩
theorem Fr.get_new (n t : Nat) : (Fr.new n).get t = if t < n then some undef else none := by
 have e : ∀ {α : Type} (d : α) (k : Nat), fA d [] k = d := fun d k => by cases k <;> rfl
 simp only [Fr.get, Fr.new, e]
 by_cases h : t < n
 ·rw [if_pos h, show Nat.blt t n = true from Nat.ble_eq_true_of_le h]
 ·rw [if_neg h]
  cases hb : Nat.blt t n with
  | false => rfl
  | true => exact absurd (Nat.le_of_ble_eq_true hb) h
def Fr.fill (A : Fr) : Nat → List Value → Fr
 | _, [] => A
 | i, v :: l => Fr.fill (A.set i v) (i + 1) l
def AW.live (σ : AW) (k : Nat) : Prop := ((σ.get k).kind ≠ 0 ∧ (σ.get k).kind ≠ 5) ∧ (σ.get k).kind ≠ 4
def AW.dom (σ : AW) (k : Nat) : Prop := k < σ.next ∧ (σ.get k).kind ≠ 4
def AW.push (σ : AW) (b : fZ) : AW := (σ.set σ.next b).up (σ.next + 1)
def entries : Nat → List Value → List MapEntry
 | n, k :: v :: l => ⟨k, v, n⟩ :: entries (n + 1) l
 | _, _ => []
def Holds (ρ : Rn) (w : World) (p : Pl) (b : fZ) : Prop :=
 match b.kind with
 | 1 => w.heap[p.1]? = some (.cells (b.cells.map (ren ρ)).toArray b.elem (0, 0))
 | 2 => ∃ rest, w.heap[p.1]? = some (.cells (b.cells.map (ren ρ) ++ rest).toArray b.elem (0, 0)) ∧ b.cells.length + rest.length = p.2 * b.esz
 | 3 => w.heap[p.1]? = some (.map (entries 0 (b.cells.map (ren ρ))).toArray (b.cells.length / 2))
 | _ => False
theorem Holds.lt {ρ : Rn} {w : World} {p : Pl} {b : fZ} (h : Holds ρ w p b) : p.1 < w.heap.size := by
 unfold Holds at h
 split at h
 ·exact (Array.getElem?_eq_some_iff.1 h).1
 ·obtain ⟨r, h, _⟩ := h; exact (Array.getElem?_eq_some_iff.1 h).1
 ·exact (Array.getElem?_eq_some_iff.1 h).1
 ·exact h.elim
theorem Holds.keep {ρ ρ' : Rn} {w w' : World} {p : Pl} {b : fZ} {D : Nat → Prop} (h : Holds ρ w p b) (hw : w'.heap[p.1]? = w.heap[p.1]?) (hs : ∀ v ∈ b.cells, Sc D v) (e : ∀ k, D k → ρ k = ρ' k) : Holds ρ' w' p b := by
 unfold Holds at h ⊢
 rw [hw, ← oZ hs e]
 exact h
def globs : List (Nat × Option (List Value)) := [(0, some [.int .u64 1, .int .u64 10, .int .u64 100, .int .u64 1000, .int .u64 10000, .int .u64 100000, .int .u64 1000000, .int .u64 10000000, .int .u64 100000000, .int .u64 1000000000, .int .u64 10000000000, .int .u64 100000000000, .int .u64 1000000000000, .int .u64 10000000000000, .int .u64 100000000000000, .int .u64 1000000000000000, .int .u64 10000000000000000, .int .u64 100000000000000000, .int .u64 1000000000000000000, .int .u64 10000000000000000000]), (1, none)]
def zI (w : World) (g : Nat × Option (List Value)) : Prop := match g.2 with
 | none => ∃ m : Int, w.cell? ⟨g.1, 0, none⟩ = some (.int .i64 m)
 | some cs => ∃ t f, w.heap[g.1]? = some (.cells cs.toArray t f)
theorem zI.keep {w w' : World} {g : Nat × Option (List Value)} (h : zI w g) (e : w'.heap[g.1]? = w.heap[g.1]?) : zI w' g := by
 obtain ⟨b, o⟩ := g
 cases o with
 | none =>
  obtain ⟨m, hm⟩ := h
  refine ⟨m, ?_⟩
  simp only [World.cell?, e] at hm ⊢
  exact hm
 | some cs =>
  obtain ⟨t, f, hm⟩ := h
  exact ⟨t, f, e.trans hm⟩
def Glob (ρ : Rn) (σ : AW) (w : World) : Prop := ∀ g ∈ globs, g.1 < w.heap.size ∧ (∀ k, σ.live k → (ρ k).1 ≠ g.1) ∧ zI w g
theorem Glob.next {ρ ρ' : Rn} {σ σ' : AW} {w w' : World} (h : Glob ρ σ w) (hs : w.heap.size ≤ w'.heap.size) (hc : ∀ k, σ'.live k → w.heap.size ≤ (ρ' k).1 ∨ ∃ j, σ.live j ∧ (ρ j).1 = (ρ' k).1)
  (hsame : ∀ b, b < w.heap.size → (∀ k, σ.live k → (ρ k).1 ≠ b) → w'.heap[b]? = w.heap[b]?) : Glob ρ' σ' w' := by
 intro q hb
 obtain ⟨h1, h2, h3⟩ := h q hb
 refine ⟨by omega, fun k hk => ?_, h3.keep (hsame _ h1 h2)⟩
 rcases hc k hk with q | ⟨j, hj, e⟩
 ·omega
 ·rw [← e]; exact h2 j hj
def RO (ρ : Rn) (σ : AW) (w : World) : Prop := (∀ k, σ.live k → (ρ k).3 = 0) ∧ ∀ k, (σ.get k).kind = 5 → k < σ.next ∧ ((σ.get k).cells ≠ [] → (ρ k).1 < w.heap.size ∧ ∀ j, σ.live j → (ρ j).1 ≠ (ρ k).1) ∧ (∀ v ∈ (σ.get k).cells, Sc σ.dom v) ∧ ∀ i v, (σ.get k).cells[i]? = some v → w.cell? ⟨(ρ k).1, i + (ρ k).3, none⟩ = some (ren ρ v)
theorem RO.next {ρ ρ' : Rn} {σ σ' : AW} {w w' : World} (h : RO ρ σ w) (hf : ∀ k, σ'.live k → (ρ' k).3 = 0) (h5 : ∀ k, (σ'.get k).kind = 5 → σ'.get k = σ.get k) (hag : ∀ k, k < σ.next → ρ' k = ρ k) (hd : ∀ k, σ.dom k → σ'.dom k) (hn : σ.next ≤ σ'.next) (hs : w.heap.size ≤ w'.heap.size)
  (hc : ∀ k, σ'.live k → w.heap.size ≤ (ρ' k).1 ∨ ∃ j, σ.live j ∧ (ρ j).1 = (ρ' k).1) (hsame : ∀ b, b < w.heap.size → (∀ k, σ.live k → (ρ k).1 ≠ b) → w'.heap[b]? = w.heap[b]?) : RO ρ' σ' w' := by
 refine ⟨hf, fun k hk => ?_⟩
 have e := h5 k hk
 rw [e] at hk ⊢
 obtain ⟨h1, h23, h4, h6⟩ := h.2 k hk
 rw [hag k h1]
 refine ⟨Nat.lt_of_lt_of_le h1 hn, fun hne => ⟨Nat.lt_of_lt_of_le (h23 hne).1 hs, fun j hj => ?_⟩, fun v hv => (h4 v hv).mono hd, fun i v hv => ?_⟩
 ·obtain ⟨h2, h3⟩ := h23 hne
  rcases hc j hj with q | ⟨i, hi, q⟩
  ·omega
  ·rw [← q]; exact h3 i hi
 ·have := h6 i v hv
  obtain ⟨h2, h3⟩ := h23 (fun e => by rw [e] at hv; cases hv)
  rw [← h4 v (List.mem_of_getElem? hv) ρ ρ' (fun k hk => (hag k hk.1).symm)]
  simp only [World.cell?, hsame _ h2 h3] at this ⊢
  exact this
structure Rel (ρ : Rn) (σ : AW) (w : World) : Prop where
 blk : ∀ k, σ.live k → Holds ρ w (ρ k) (σ.get k)
 lt : ∀ k, σ.live k → k < σ.next
 inj : ∀ k j, σ.live k → σ.live j → (ρ k).1 = (ρ j).1 → k = j
 sc : ∀ k, σ.live k → ∀ v ∈ (σ.get k).cells, Sc σ.dom v
 fit : ∀ k, σ.next ≤ k → (σ.get k).kind = 0
 glob : Glob ρ σ w
 ro : RO ρ σ w
structure Step (ρ : Rn) (σ : AW) (w : World) (ρ' : Rn) (σ' : AW) (w' : World) : Prop where
 rel : Rel ρ' σ' w'
 agree : ∀ k, k < σ.next → ρ' k = ρ k
 mono : σ.next ≤ σ'.next
 kept : ∀ k, k < σ.next → ((σ'.get k).kind = 4 ↔ (σ.get k).kind = 4)
 came : ∀ k, σ'.live k → w.heap.size ≤ (ρ' k).1 ∨ ∃ j, σ.live j ∧ (ρ j).1 = (ρ' k).1
 same : ∀ b, b < w.heap.size → (∀ k, σ.live k → (ρ k).1 ≠ b) → w'.heap[b]? = w.heap[b]?
 os : w'.os = w.os
 tape : w'.tape = w.tape
 output : w'.output = w.output
 size : w.heap.size ≤ w'.heap.size
 ro5 : ∀ k, (σ'.get k).kind = 5 → σ'.get k = σ.get k
theorem Step.dom {ρ ρ' : Rn} {σ σ' : AW} {w w' : World} (h : Step ρ σ w ρ' σ' w') (k : Nat) (hk : σ.dom k) : σ'.dom k :=
 ⟨Nat.lt_of_lt_of_le hk.1 h.mono, fun e => hk.2 ((h.kept k hk.1).1 e)⟩
theorem Step.sc {ρ ρ' : Rn} {σ σ' : AW} {w w' : World} (h : Step ρ σ w ρ' σ' w') {v : Value} (hv : Sc σ.dom v) : Sc σ'.dom v := hv.mono h.dom
theorem Step.ren {ρ ρ' : Rn} {σ σ' : AW} {w w' : World} (h : Step ρ σ w ρ' σ' w') {v : Value} (hv : Sc σ.dom v) : ren ρ' v = ren ρ v := hv _ _ fun k hk => h.agree k hk.1
theorem Rel.drawn {ρ : Rn} {σ : AW} {w w' : World} (h : Rel ρ σ w) (hw : w'.heap = w.heap) : Rel ρ σ w' :=
 ⟨fun k hk => (h.blk k hk).keep (by rw [hw]) (h.sc k hk) (fun _ _ => rfl), h.lt, h.inj, h.sc, h.fit, h.glob.next (by rw [hw]; exact Nat.le_refl _) (fun k hk => .inr ⟨k, hk, rfl⟩) (fun b _ _ => by rw [hw]), h.ro.next h.ro.1 (fun _ _ => rfl) (fun _ _ => rfl) (fun _ h => h) (Nat.le_refl _) (by rw [hw]; exact Nat.le_refl _) (fun k hk => .inr ⟨k, hk, rfl⟩) (fun b _ _ => by rw [hw])⟩
theorem Step.refl {ρ : Rn} {σ : AW} {w : World} (h : Rel ρ σ w) : Step ρ σ w ρ σ w :=
 ⟨h, fun _ _ => rfl, Nat.le_refl _, fun _ _ => Iff.rfl, fun k hk => .inr ⟨k, hk, rfl⟩, fun _ _ _ => rfl, rfl, rfl, rfl, Nat.le_refl _, fun _ _ => rfl⟩
theorem Step.drew {ρ : Rn} {σ : AW} {w : World} (h : Rel ρ σ w) : Step ρ σ w ρ σ { w with drawn := w.drawn + 1 } :=
 ⟨h.drawn rfl, fun _ _ => rfl, Nat.le_refl _, fun _ _ => Iff.rfl, fun k hk => .inr ⟨k, hk, rfl⟩, fun _ _ _ => rfl, rfl, rfl, rfl, Nat.le_refl _, fun _ _ => rfl⟩
theorem Step.trans {ρ ρ1 ρ2 : Rn} {σ σ1 σ2 : AW} {w w1 w2 : World} (h : Step ρ σ w ρ1 σ1 w1) (k : Step ρ1 σ1 w1 ρ2 σ2 w2) : Step ρ σ w ρ2 σ2 w2 where
 rel := k.rel
 agree := fun i hi => (k.agree i (Nat.lt_of_lt_of_le hi h.mono)).trans (h.agree i hi)
 mono := Nat.le_trans h.mono k.mono
 kept := fun i hi => (k.kept i (Nat.lt_of_lt_of_le hi h.mono)).trans (h.kept i hi)
 came := fun i hi => by
  rcases k.came i hi with h1 | ⟨j, hj, e⟩
  ·exact .inl (Nat.le_trans h.size h1)
  ·rcases h.came j hj with h2 | ⟨m, hm, e2⟩
   ·exact .inl (by omega)
   ·exact .inr ⟨m, hm, e2.trans e⟩
 same := fun b hb hn => by
  rw [k.same b (Nat.lt_of_lt_of_le hb h.size) (fun i hi e => ?_), h.same b hb hn]
  rcases h.came i hi with h1 | ⟨j, hj, e2⟩
  ·omega
  ·exact hn j hj (e2.trans e)
 os := k.os.trans h.os
 tape := k.tape.trans h.tape
 output := k.output.trans h.output
 size := Nat.le_trans h.size k.size
 ro5 := fun i hi => (k.ro5 i hi).trans (h.ro5 i (by rw [← k.ro5 i hi]; exact hi))
theorem wM {ρ : Rn} {σ : AW} {w : World} (h : Rel ρ σ w) {cap : Nat} {b : fZ} {o : Obj} (_ : b.kind ≠ 4)
  (hs : ∀ v ∈ b.cells, Sc σ.dom v)
  (ho : ∀ ρ', (∀ j, j < σ.next → ρ' j = ρ j) → ∀ w' : World, w'.heap[w.heap.size]? = some o → Holds ρ' w' (⟨w.heap.size, cap, 0⟩ : Pl) b)
  (h5 : b.kind ≠ 5 := by simp) : ∃ ρ', ρ' σ.next = (⟨w.heap.size, cap, 0⟩ : Pl) ∧ Step ρ σ w ρ' (σ.push b) (w.alloc o) := by
 refine ⟨fun j => if j = σ.next then (⟨w.heap.size, cap, 0⟩ : Pl) else ρ j, if_pos rfl, ?_⟩
 have hag : ∀ j, j < σ.next → (if j = σ.next then (⟨w.heap.size, cap, 0⟩ : Pl) else ρ j) = ρ j := fun j hj => if_neg (by omega)
 have hnew : (w.alloc o).heap[w.heap.size]? = some o := by unfold World.alloc; simp
 have hold : ∀ i, i < w.heap.size → (w.alloc o).heap[i]? = w.heap[i]? := fun i hi => by
  unfold World.alloc
  rw [Array.getElem?_push, if_neg (by omega)]
 have hg : ∀ j, (σ.push b).get j = if j = σ.next then b else σ.get j := fun j => by rw [AW.push, AW.get_up, AW.get_set]
 have hl : ∀ j, (σ.push b).live j → j ≠ σ.next → σ.live j := fun j hj hne => by
  unfold AW.live at *; rw [hg, if_neg hne] at hj; exact hj
 have hd : ∀ j, σ.dom j → (σ.push b).dom j := fun j hj => ⟨Nat.lt_succ_of_lt hj.1, by rw [hg, if_neg (Nat.ne_of_lt hj.1)]; exact hj.2⟩
 have wO : ∀ j, (σ.push b).live j → w.heap.size ≤ (if j = σ.next then (⟨w.heap.size, cap, 0⟩ : Pl) else ρ j).1 ∨ ∃ i, σ.live i ∧ (ρ i).1 = (if j = σ.next then (⟨w.heap.size, cap, 0⟩ : Pl) else ρ j).1 := fun j hj => by
  by_cases e : j = σ.next
  ·exact .inl (by simp [e])
  ·exact .inr ⟨j, hl j hj e, by simp [e]⟩
 refine ⟨⟨fun j hj => ?_, fun j hj => ?_, fun i j hi hj e => ?_, fun j hj v hv => ?_, fun j hj => ?_, h.glob.next (by simp) wO (fun i hi _ => hold i hi), h.ro.next (fun j hj => ?_) (fun j hj => ?_) hag hd (Nat.le_succ _) (by simp) wO (fun i hi _ => hold i hi)⟩, hag, Nat.le_succ _, fun j hj => ?_, wO, fun i hi _ => hold i hi, rfl, rfl, rfl, by simp, fun j hj => by
  rw [hg] at hj ⊢
  by_cases e : j = σ.next
  ·rw [if_pos e] at hj; exact absurd hj h5
  ·rw [if_neg e]⟩
 ·by_cases e : j = σ.next
  ·rw [hg, if_pos e]
   simp only [if_pos e]
   exact ho _ hag _ hnew
  ·rw [hg, if_neg e]
   simp only [if_neg e]
   have hj' := hl j hj e
   exact (h.blk j hj').keep (hold _ (h.blk j hj').lt) (h.sc j hj') (fun i hi => (hag i hi.1).symm)
 ·by_cases e : j = σ.next
  ·subst e; exact Nat.lt_succ_self _
  ·exact Nat.lt_succ_of_lt (h.lt j (hl j hj e))
 ·by_cases e1 : i = σ.next
  ·by_cases e2 : j = σ.next
   ·rw [e1, e2]
   ·have := (h.blk j (hl j hj e2)).lt
    simp only [if_pos e1, if_neg e2] at e
    omega
  ·by_cases e2 : j = σ.next
   ·have := (h.blk i (hl i hi e1)).lt
    simp only [if_neg e1, if_pos e2] at e
    omega
   ·simp only [if_neg e1, if_neg e2] at e
    exact h.inj i j (hl i hi e1) (hl j hj e2) e
 ·rw [hg] at hv
  by_cases e : j = σ.next
  ·rw [if_pos e] at hv
   exact (hs v hv).mono hd
  ·rw [if_neg e] at hv
   exact (h.sc j (hl j hj e) v hv).mono hd
 ·rw [hg, if_neg (by have : σ.next + 1 ≤ j := hj; omega)]
  exact h.fit j (by have : σ.next + 1 ≤ j := hj; omega)
 ·by_cases e : j = σ.next
  ·simp [e]
  ·simp only [if_neg e]; exact h.ro.1 j (hl j hj e)
 ·rw [hg] at hj ⊢
  by_cases e : j = σ.next
  ·rw [if_pos e] at hj; exact absurd hj h5
  ·rw [if_neg e]
 ·rw [hg, if_neg (Nat.ne_of_lt hj)]
theorem zJ {ρ : Rn} {σ : AW} {w w' : World} (h : Rel ρ σ w) {k : Nat} {b : fZ} (hk : σ.live k) (h4 : b.kind ≠ 4) (h5 : b.kind ≠ 5)
  (hs : ∀ v ∈ b.cells, Sc σ.dom v) (hw : ∀ i, i ≠ (ρ k).1 → w'.heap[i]? = w.heap[i]?) (hsz : w'.heap.size = w.heap.size) (hh : Holds ρ w' (ρ k) b)
  (ho : w'.os = w.os) (ht : w'.tape = w.tape) (hu : w'.output = w.output) : Step ρ σ w ρ (σ.set k b) w' := by
 have hl : ∀ j, (σ.set k b).live j → σ.live j := fun j hj => by
  unfold AW.live at *; rw [AW.get_set] at hj
  by_cases e : j = k
  ·subst e; exact hk
  ·rw [if_neg e] at hj; exact hj
 have hd : ∀ j, σ.dom j → (σ.set k b).dom j := fun j hj => ⟨hj.1, by
  rw [AW.get_set]
  by_cases e : j = k
  ·rw [if_pos e]; exact h4
  ·rw [if_neg e]; exact hj.2⟩
 refine ⟨⟨fun j hj => ?_, fun j hj => h.lt j (hl j hj), fun i j hi hj => h.inj i j (hl i hi) (hl j hj), fun j hj v hv => ?_, fun j hj => ?_, h.glob.next (Nat.le_of_eq hsz.symm) (fun j hj => .inr ⟨j, hl j hj, rfl⟩) (fun i hi hn => hw i (fun e => hn k hk e.symm)), h.ro.next (fun j hj => h.ro.1 j (hl j hj)) (fun j hj => ?_) (fun _ _ => rfl) hd (Nat.le_refl _) (Nat.le_of_eq hsz.symm) (fun j hj => .inr ⟨j, hl j hj, rfl⟩) (fun i hi hn => hw i (fun e => hn k hk e.symm))⟩, fun _ _ => rfl, Nat.le_refl _, fun j hj => ?_, fun j hj => .inr ⟨j, hl j hj, rfl⟩, fun i hi hn => hw i (fun e => hn k hk e.symm), ho, ht, hu, Nat.le_of_eq hsz.symm, fun j hj => by
  rw [AW.get_set] at hj ⊢
  by_cases e : j = k
  ·rw [if_pos e] at hj; exact absurd hj h5
  ·rw [if_neg e]⟩
 ·rw [AW.get_set]
  by_cases e : j = k
  ·rw [if_pos e, e]; exact hh
  ·rw [if_neg e]
   exact (h.blk j (hl j hj)).keep (hw _ (fun e2 => e (h.inj j k (hl j hj) hk e2))) (h.sc j (hl j hj)) (fun _ _ => rfl)
 ·rw [AW.get_set] at hv
  by_cases e : j = k
  ·rw [if_pos e] at hv; exact (hs v hv).mono hd
  ·rw [if_neg e] at hv; exact (h.sc j (hl j hj) v hv).mono hd
 ·rw [AW.get_set]
  by_cases e : j = k
  ·have : σ.next ≤ j := hj
   have := h.lt k hk
   omega
  ·rw [if_neg e]; exact h.fit j hj
 ·rw [AW.get_set] at hj ⊢
  by_cases e : j = k
  ·rw [if_pos e] at hj; exact absurd hj h5
  ·rw [if_neg e]
 ·rw [AW.get_set]
  by_cases e : j = k
  ·subst e; rw [if_pos rfl]; exact ⟨fun x => absurd x h4, fun x => absurd x hk.2⟩
  ·rw [if_neg e]
section
variable {P : Program}
theorem uf {α β : Type} (f : α → Sem β) : ∀ s : Sem α, aS P (Sem.bind s f) = (aS P s).bind fun a => aS P (f a)
 | .pure _ => rfl
 | .program k => uf f (k P)
 | .mark _ k => uf f k
 | .load _ _ _ | .store _ _ _ _ | .new _ _ | .shape _ _ | .freeze _ _ _ | .frozen _ _ | .getObj _ _ | .setObj _ _ _ | .choose _ _ | .sys _ _ | .halt _ => by first | rfl | (cases ‹Value› <;> rfl)
theorem lH {α β : Type} (s : Sem α) (f : α → Sem β) : aS P (s >>= f) = (aS P s).bind fun a => aS P (f a) := uf f s
theorem vG {α : Type} (a : α) : aS P (Pure.pure a) = some a := rfl
theorem DI : aS P program = some P := rfl
theorem qX (t : TypeId) : aS P (underlying t) = P.underlying t := by
 unfold underlying; rw [lH, DI]
 show aS P (match P.underlying t with | some d => _ | none => _) = _
 cases P.underlying t <;> rfl
end
def ev (A : Fr) : Operand → Option Value
 | .tmp t => A.get t
 | .const v => if ni v then some v else none
 | .func f => some (.func (.func f) #[] #[])
 | .global _ => none
structure TR (ρ : Rn) (σ : AW) (A : Fr) (a : Act) : Prop where
 size : a.tmps.size = A.size
 tmps : ∀ t v, A.get t = some v → a.tmps[t]? = some (ren ρ v)
 sc : ∀ t v, A.get t = some v → Sc σ.dom v
 defers : a.defers = []
theorem ZY {ρ : Rn} {σ : AW} {A : Fr} {a : Act} (h : TR ρ σ A a) {x : Operand} {v : Value} (e : ev A x = some v) : a.eval x = ren ρ v ∧ Sc σ.dom v := by
 cases x with
 | tmp t =>
  have e : A.get t = some v := e
  refine ⟨?_, h.sc t v e⟩
  show a.tmps.getD t undef = _
  simp [h.tmps t v e]
 | const u =>
  simp only [ev] at e
  split at e
  ·rename_i hf
   injection e with e
   subst e
   exact ⟨(gJ hf ρ).symm, (gJ hf).sc _⟩
  ·cases e
 | func f =>
  simp only [ev] at e
  injection e with e
  subst e
  exact ⟨by rw [jG]; simp [Act.eval], Iy (fun v hv => by cases hv) (fun v hv => by cases hv)⟩
 | global g => cases e
def nR (A : Fr) : List Operand → Option (List Value)
 | [] => some []
 | x :: l => match ev A x with
  | none => none
  | some v => match nR A l with
   | none => none
   | some vs => some (v :: vs)
def nS (A : Fr) (o : Oper) : Bool := match o.op with
 | .select _ _ => false
 | op => op.operands.toList.all fun x => match ev A x with | some v => ni v | none => false
def CQ (A : Fr) (x : Operand) : Value := (ev A x).getD undef
def dF (P : Program) (t : TypeId) : Option Bool := match P.underlying t with
 | some (.struct _) | some (.array _ _) => some true
 | some _ => some false
 | none => none
def iW (P : Program) (t : TypeId) : Option Nat := match P.info? t with
 | some i => some i.size
 | none => none
def gu : Value → Bool
 | .agg _ | .tuple _ => false
 | _ => true
def aF : Value → List Value
 | .agg ⟨l⟩ => l
 | v => [v]
theorem xQ (ρ : Rn) (v : Value) : (ren ρ v).cells = ((aF v).map (ren ρ)).toArray := by
 cases v with
 | agg a => obtain ⟨l⟩ := a; rw [lG, List.map_toArray]; rfl
 | tuple a => rw [dU]; simp only [Value.cells, aF, List.map, dU]
 | func a b c => rw [jG]; simp only [Value.cells, aF, List.map, jG]
 | _ => rfl
theorem IB (ρ : Rn) (v : Value) (h : gu v = true) : (ren ρ v).oneCell' = true := by
 cases v with
 | agg a => cases h
 | tuple a => cases h
 | func a b c => rw [jG]; rfl
 | _ => rfl
theorem uI {D : Nat → Prop} {v : Value} (h : Sc D v) : ∀ u ∈ aF v, Sc D u := by
 cases v with
 | agg a => exact GH h
 | _ => intro u hu; simp only [aF, List.mem_singleton] at hu; subst hu; exact h
def rowOf (σ : AW) (a : Addr) : Option (List Value) := match a.spot with
 | some _ => none
 | none => match σ.get a.block with
  | ⟨1, _, _, cs⟩ => some cs
  | ⟨2, _, _, cs⟩ => some cs
  | ⟨5, _, _, cs⟩ => some cs
  | _ => none
theorem IC {ρ : Rn} {σ : AW} {w : World} (h : Rel ρ σ w) {a : Addr} {cs : List Value} (hr : rowOf σ a = some cs) (h5 : (σ.get a.block).kind ≠ 5) :
  (ρ a.block).3 = 0 ∧ σ.live a.block ∧ a.spot = none ∧ (σ.get a.block).cells = cs ∧ ∃ rest, w.heap[(ρ a.block).1]? = some (.cells (cs.map (ren ρ) ++ rest).toArray (σ.get a.block).elem (0, 0)) ∧
   (((σ.get a.block).kind = 1 ∧ rest = []) ∨ ((σ.get a.block).kind = 2 ∧ cs.length + rest.length = (ρ a.block).2 * (σ.get a.block).esz)) := by
 unfold rowOf at hr
 split at hr
 ·cases hr
 ·rename_i hs
  split at hr
  ·rename_i e z c hg
   injection hr with hr
   subst hr
   have hl : σ.live a.block := by unfold AW.live; rw [hg]; exact ⟨by simp, by simp⟩
   have := h.blk _ hl
   rw [hg] at this ⊢
   exact ⟨h.ro.1 _ hl, hl, hs, rfl, [], by rw [List.append_nil]; exact this, .inl ⟨rfl, rfl⟩⟩
  ·rename_i e z c hg
   injection hr with hr
   subst hr
   have hl : σ.live a.block := by unfold AW.live; rw [hg]; exact ⟨by simp, by simp⟩
   have := h.blk _ hl
   rw [hg] at this ⊢
   obtain ⟨rest, h1, h2⟩ := this
   exact ⟨h.ro.1 _ hl, hl, hs, rfl, rest, h1, .inr ⟨rfl, h2⟩⟩
  ·rename_i hg; rw [hg] at h5; exact absurd rfl h5
  ·cases hr
theorem xR {ρ : Rn} {σ : AW} {w : World} (h : Rel ρ σ w) {a : Addr} {cs : List Value} (hr : rowOf σ a = some cs) {j : Nat} {v : Value} (hv : cs[j]? = some v) : w.cell? ⟨(ρ a.block).1, j + (ρ a.block).3, none⟩ = some (ren ρ v) := by
 by_cases h5 : (σ.get a.block).kind = 5
 ·have hc : (σ.get a.block).cells = cs := by
   unfold rowOf at hr
   split at hr
   ·cases hr
   ·split at hr
    ·rename_i hg; rw [hg]; injection hr
    ·rename_i hg; rw [hg]; injection hr
    ·rename_i hg; rw [hg]; injection hr
    ·cases hr
  exact (h.ro.2 _ h5).2.2.2 j v (by rw [hc]; exact hv)
 obtain ⟨h3, _, _, _, rest, hh, _⟩ := IC h hr h5
 simp only [World.cell?, h3, Nat.add_zero, hh]
 obtain ⟨hj, rfl⟩ := List.getElem?_eq_some_iff.1 hv
 simp [hj, List.getElem?_append_left]
theorem yO {ρ : Rn} {σ : AW} {w : World} (h : Rel ρ σ w) {a : Addr} {cs : List Value} (hr : rowOf σ a = some cs) : a.spot = none ∧ (σ.get a.block).cells = cs ∧ ∀ v ∈ cs, Sc σ.dom v := by
 have hs : a.spot = none := by
  unfold rowOf at hr
  split at hr
  ·cases hr
  ·assumption
 by_cases h5 : (σ.get a.block).kind = 5
 ·have hc : (σ.get a.block).cells = cs := by
   unfold rowOf at hr
   split at hr
   ·cases hr
   ·split at hr
    ·rename_i hg; rw [hg]; injection hr
    ·rename_i hg; rw [hg]; injection hr
    ·rename_i hg; rw [hg]; injection hr
    ·cases hr
  exact ⟨hs, hc, by rw [← hc]; exact (h.ro.2 _ h5).2.2.1⟩
 ·obtain ⟨_, hl, _, hc, _⟩ := IC h hr h5
  exact ⟨hs, hc, by rw [← hc]; exact h.sc _ hl⟩
theorem jU (ρ : Rn) (a : Addr) (n : Nat) : jd ρ (a.add n) = (jd ρ a).add n := by
 unfold Addr.add jd; split <;> simp [Nat.add_right_comm]
theorem add_block (a : Addr) (n : Nat) : (a.add n).block = a.block := by unfold Addr.add; split <;> rfl
theorem nC (ρ : Rn) {a : Addr} (h : a.spot = none) : jd ρ a = ⟨(ρ a.block).1, a.off + (ρ a.block).3, none⟩ := by unfold jd; rw [h]
theorem je (b o n : Nat) : (⟨b, o, none⟩ : Addr).add n = ⟨b, o + n, none⟩ := by unfold Addr.add; split <;> simp_all
def Em (P : Program) (σ : AW) (t : TypeId) (a : Addr) : Option Value := match rowOf σ a with
 | none => none
 | some cs => match dF P t with
  | some true => match iW P t with
   | some n => if ((cs.drop a.off).take n).length = n then some (.agg ((cs.drop a.off).take n).toArray) else none
   | none => none
  | some false => cs[a.off]?
  | none => none
theorem xU {P : Program} {t : TypeId} {b : Bool} (h : dF P t = some b) (w : World) : (isAgg t).run P w = .ok b w := by
 unfold dF at h
 unfold isAgg
 cases hu : P.underlying t with
 | none => rw [hu] at h; cases h
 | some d => rw [hu] at h; cases d <;> (simp only [Option.some.injEq] at h; subst h; simp [underlying, hu])
theorem QC {P : Program} {t : TypeId} {n : Nat} (h : iW P t = some n) : ∃ i, P.info? t = some i ∧ i.size = n := by
 unfold iW at h
 cases hi : P.info? t with
 | none => rw [hi] at h; cases h
 | some i => rw [hi] at h; injection h with h; exact ⟨i, rfl, h⟩
theorem dQ {P : Program} {t : TypeId} {n : Nat} (h : iW P t = some n) (w : World) : (sizeOf t).run P w = .ok n w := by
 obtain ⟨i, hi, rfl⟩ := QC h
 simp [sizeOf, typeInfo, hi]
theorem En {P : Program} {ρ : Rn} {σ : AW} {w : World} (h : Rel ρ σ w) {t : TypeId} {a : Addr} {v : Value} (hl : Em P σ t a = some v) :
  (loadVar t (jd ρ a)).run P w = .ok (ren ρ v) w ∧ Sc σ.dom v := by
 unfold Em at hl
 split at hl
 ·cases hl
 ·rename_i cs hr
  obtain ⟨hs, _, hsc⟩ := yO h hr
  split at hl
  ·rename_i ha
   split at hl
   ·rename_i n hn
    split at hl
    ·rename_i hlen
     injection hl with hl
     subst hl
     have hsub : ∀ v ∈ (cs.drop a.off).take n, v ∈ cs := fun v hv => List.mem_of_mem_drop (List.mem_of_mem_take hv)
     refine ⟨?_, Ej (fun v hv => hsc v (hsub v (by simpa using hv)))⟩
     have hld := run_loadCells_list (P := P) w (jd ρ a) (((cs.drop a.off).take n).map (ren ρ)) (fun j v hv => by
      rw [List.getElem?_map, Option.map_eq_some_iff] at hv
      obtain ⟨u, hu, rfl⟩ := hv
      rw [nC ρ hs, je, Nat.add_right_comm]
      refine xR h hr ?_
      rw [List.getElem?_take, List.getElem?_drop] at hu
      split at hu
      ·exact hu
      ·cases hu)
     rw [List.length_map, hlen] at hld
     unfold loadVar
     simp [xU ha, dQ hn, hld, lG]
    ·cases hl
   ·cases hl
  ·rename_i ha
   refine ⟨?_, hsc v (List.mem_of_getElem? hl)⟩
   have := xR h hr hl
   unfold loadVar
   rw [nC ρ hs]
   simp [xU ha, this]
  ·cases hl
def Eo (P : Program) (σ : AW) (t : TypeId) (a : Addr) (v : Value) : Option AW := match rowOf σ a with
 | none => none
 | some cs => match iW P t with
  | none => none
  | some n =>
   if (aF v).length = n ∧ a.off + n ≤ cs.length ∧ (aF v).all gu = true then
    match σ.get a.block with
    | ⟨5, _, _, _⟩ => none
    | ⟨k, e, z, _⟩ => some (σ.set a.block ⟨k, e, z, cs.take a.off ++ aF v ++ cs.drop (a.off + n)⟩)
   else none
theorem Nk {ρ : Rn} {σ : AW} {w : World} (h : Rel ρ σ w) {a : Addr} {cs vs : List Value} (hr : rowOf σ a = some cs) (h5 : (σ.get a.block).kind ≠ 5) (hf : a.off + vs.length ≤ cs.length) (h1 : vs.all gu = true) (hsc : ∀ v ∈ vs, Sc σ.dom v) (P : Program) :
  ∃ w', (storeCells (jd ρ a) (vs.map (ren ρ)) 0).run P w = .ok () w' ∧
   Step ρ σ w ρ (σ.set a.block ⟨(σ.get a.block).kind, (σ.get a.block).elem, (σ.get a.block).esz, cs.take a.off ++ vs ++ cs.drop (a.off + vs.length)⟩) w' := by
 obtain ⟨h30, hl, hs, hcs, rest, hh, hk⟩ := IC h hr h5
 have hsa : ∀ v ∈ cs, Sc σ.dom v := by rw [← hcs]; exact h.sc _ hl
 have hst := run_storeCells_at P (ρ a.block).1 a.off _ (vs.map (ren ρ)) 0 _ w hh (by simp; omega) (fun v hv => by
  obtain ⟨u, hu, rfl⟩ := List.mem_map.1 hv
  exact IB ρ u (List.all_eq_true.1 h1 u hu))
 rw [nC ρ hs, h30, Nat.add_zero]
 refine ⟨_, hst, zJ h hl ?_ h5 (fun v hv => ?_) (fun i hi => setRow_other _ _ _ _ hi) (setRow_size _ _ _) ?_ rfl rfl rfl⟩
 ·rcases hk with ⟨e, _⟩ | ⟨e, _⟩ <;> (rw [e]; decide)
 ·simp only [List.mem_append] at hv
  rcases hv with (hv | hv) | hv
  ·exact hsa v (List.mem_of_mem_take hv)
  ·exact hsc v hv
  ·exact hsa v (List.mem_of_mem_drop hv)
 ·have hw := setRow_heap w (ρ a.block).1 _ (((cs.map (ren ρ) ++ rest).toArray.toList.take (a.off + 0) ++ vs.map (ren ρ) ++ (cs.map (ren ρ) ++ rest).toArray.toList.drop (a.off + 0 + (vs.map (ren ρ)).length)).toArray) _ _ hh
  have e : (cs.map (ren ρ) ++ rest).toArray.toList.take (a.off + 0) ++ vs.map (ren ρ) ++ (cs.map (ren ρ) ++ rest).toArray.toList.drop (a.off + 0 + (vs.map (ren ρ)).length) = (cs.take a.off ++ vs ++ cs.drop (a.off + vs.length)).map (ren ρ) ++ rest := by
   simp only [Nat.add_zero, List.length_map, List.map_append, List.map_take, List.map_drop]
   rw [List.take_append_of_le_length (by simp; omega), List.drop_append_of_le_length (by simp; omega), List.append_assoc, List.append_assoc, List.append_assoc]
  rw [e] at hw ⊢
  rcases hk with ⟨hk, hr0⟩ | ⟨hk, hlen⟩
  ·subst hr0
   rw [hk]
   rw [List.append_nil] at hw ⊢
   exact hw
  ·rw [hk]
   refine ⟨rest, hw, ?_⟩
   simp only [List.length_append, List.length_take, List.length_drop]
   omega
theorem JR {P : Program} {ρ : Rn} {σ σ' : AW} {w : World} (h : Rel ρ σ w) {t : TypeId} {a : Addr} {v : Value} (hv : Sc σ.dom v) (hl : Eo P σ t a v = some σ') :
  ∃ w', (storeVar t (jd ρ a) (ren ρ v)).run P w = .ok () w' ∧ Step ρ σ w ρ σ' w' := by
 unfold Eo at hl
 split at hl
 ·cases hl
 ·rename_i cs hr
  split at hl
  ·cases hl
  ·rename_i n hn
   split at hl
   ·rename_i hc
    obtain ⟨h1, h2, h3⟩ := hc
    split at hl
    ·cases hl
    rename_i k e z _ hk5 hg
    injection hl with hl
    subst h1
    obtain ⟨w', hw, hs⟩ := Nk h hr (fun e5 => hk5 (by rw [hg] at e5; exact e5)) h2 h3 (uI hv) P
    rw [hg] at hs
    rw [hl] at hs
    refine ⟨w', ?_, hs⟩
    unfold storeVar
    have e1 : (ren ρ v).cells.toList = (aF v).map (ren ρ) := by rw [xQ]
    have e2 : (ren ρ v).cells.size = (aF v).length := by rw [xQ]; simp
    simp [dQ hn, e1, e2, hw]
   ·cases hl
def zeroOf (P : Program) (t : TypeId) : Option Value := match P.info? t with
 | none => none
 | some i => match i.zero with
  | none => none
  | some z => if ni z then some z else none
theorem qY {P : Program} {t : TypeId} {z : Value} (h : zeroOf P t = some z) (w : World) : (zeroValue t).run P w = .ok z w ∧ Fl z := by
 unfold zeroOf at h
 split at h
 ·cases h
 ·rename_i i hi
  split at h
  ·cases h
  ·rename_i z' hz
   split at h
   ·rename_i hf
    injection h with h
    subst h
    exact ⟨by simp [zeroValue, typeInfo, hi, hz], gJ hf⟩
   ·cases h
theorem GI {P : Program} {ρ : Rn} {σ : AW} {w : World} (h : Rel ρ σ w) (t : TypeId) {v : Value} (hv : Sc σ.dom v) :
  ∃ ρ' w', (newVar t (ren ρ v)).run P w = .ok (jd ρ' ⟨σ.next, 0, none⟩) w' ∧ Step ρ σ w ρ' (σ.push ⟨1, t, 0, aF v⟩) w' := by
 obtain ⟨ρ', h1, h2⟩ := wM (cap := 0) (b := ⟨1, t, 0, aF v⟩) (o := .cells (ren ρ v).cells t) h (by simp) (uI hv) (fun ρ' e w' hw => by
  show w'.heap[w.heap.size]? = _
  rw [hw, xQ, oZ (uI hv) (fun k hk => e k hk.1)])
 refine ⟨ρ', _, ?_, h2⟩
 unfold newVar newRow
 simp only [jd, h1]
 rfl
theorem nT {σ : AW} {b : fZ} (h : b.kind ≠ 4) : (σ.push b).dom σ.next := ⟨Nat.lt_succ_self _, by rw [AW.push, AW.get_up, AW.get_set, if_pos rfl]; exact h⟩
def aJ (P : Program) (s : TypeId) (v : Value) (f : Nat) : Option Value := match v, P.underlying s with
 | .pointer (some a), some (.struct fs) => match fs[f]? with
  | none => none
  | some fl => match iW P fl.type with
   | some 0 => none
   | some _ => some (.pointer (some (a.add fl.offset)))
   | none => none
 | _, _ => none
theorem Nl {P : Program} {ρ : Rn} {D : Nat → Prop} {s : TypeId} {v r : Value} {f : Nat} (hv : Sc D v) (h : aJ P s v f = some r) (w : World) : (Instr.fieldAt s (ren ρ v) f).run P w = .ok (ren ρ r) w ∧ Sc D r := by
 unfold aJ at h
 split at h
 ·rename_i a fs hu
  split at h
  ·cases h
  ·rename_i fl hf
   split at h
   ·cases h
   ·rename_i n hn0 hn
    injection h with h
    subst h
    refine ⟨?_, fun ρ ρ' e => ?_⟩
    ·unfold Instr.fieldAt
     have : n ≠ 0 := fun e => hn0 e
     simp [underlying, hu, hf, dO, Instr.sureAddr, fieldPlace, dQ hn, this, jU]
    ·have := hv ρ ρ' e
     rw [dO, dO] at this ⊢
     injection this with this
     injection this with this
     rw [jU, jU, this]
   ·cases h
 ·cases h
def Ug (P : Program) (t : TypeId) (l : List Value) (off : Nat) : Option Value := match dF P t with
 | some true => match iW P t with
  | some n => some (.agg ((l.drop off).take n).toArray)
  | none => none
 | some false => l[off]?
 | none => none
theorem XU {P : Program} {ρ : Rn} {D : Nat → Prop} {t : TypeId} {l : List Value} {off : Nat} {r : Value} (hv : ∀ v ∈ l, Sc D v) (h : Ug P t l off = some r) (w : World) : (part t (l.map (ren ρ)).toArray off).run P w = .ok (ren ρ r) w ∧ Sc D r := by
 unfold Ug at h
 unfold part
 split at h
 ·rename_i ha
  split at h
  ·rename_i n hn
   injection h with h
   subst h
   refine ⟨?_, Ej fun v hv' => hv v (List.mem_of_mem_drop (List.mem_of_mem_take (by simpa using hv')))⟩
   simp [xU ha, dQ hn, lG, List.map_take, List.map_drop, List.extract_eq_take_drop]
  ·cases h
 ·rename_i ha
  exact ⟨by simp [xU ha, h], hv _ (List.mem_of_getElem? h)⟩
 ·cases h
def IE (P : Program) (s : TypeId) (v : Value) (f : Nat) : Option Value := match v, P.underlying s with
 | .agg ⟨l⟩, some (.struct fs) => match fs[f]? with
  | none => none
  | some fl => Ug P fl.type l fl.offset
 | _, _ => none
theorem Uh {P : Program} {ρ : Rn} {D : Nat → Prop} {s : TypeId} {v r : Value} {f : Nat} (hv : Sc D v) (h : IE P s v f = some r) (w : World) : (Instr.field s (ren ρ v) f).run P w = .ok (ren ρ r) w ∧ Sc D r := by
 unfold IE at h
 split at h
 ·rename_i l fs hu
  split at h
  ·cases h
  ·rename_i fl hf
   have := XU (ρ := ρ) (fun v hv' => GH hv v hv') h w
   refine ⟨?_, this.2⟩
   unfold Instr.field
   simp [underlying, hu, hf, lG, asAgg, this.1]
 ·cases h
theorem GK {ρ : Rn} {σ : AW} {w : World} (h : Rel ρ σ w) {k : Nat} (hk : σ.live k) : Step ρ σ w ρ (σ.set k eu) w := by
 have hg : ∀ j, (σ.set k eu).get j = if j = k then eu else σ.get j := fun j => AW.get_set σ k j _
 have hl : ∀ j, (σ.set k eu).live j → j ≠ k ∧ σ.live j := fun j hj => by
  unfold AW.live at *; rw [hg] at hj
  by_cases e : j = k
  ·rw [if_pos e] at hj; exact absurd rfl hj.1.1
  ·rw [if_neg e] at hj; exact ⟨e, hj⟩
 have hd : ∀ j, σ.dom j → (σ.set k eu).dom j := fun j hj => ⟨hj.1, by
  rw [hg]
  by_cases e : j = k
  ·rw [if_pos e]; simp [eu]
  ·rw [if_neg e]; exact hj.2⟩
 refine ⟨⟨fun j hj => ?_, fun j hj => h.lt j (hl j hj).2, fun i j hi hj => h.inj i j (hl i hi).2 (hl j hj).2, fun j hj v hv => ?_, fun j hj => ?_, h.glob.next (Nat.le_refl _) (fun j hj => .inr ⟨j, (hl j hj).2, rfl⟩) (fun _ _ _ => rfl), h.ro.next (fun j hj => h.ro.1 j (hl j hj).2) (fun j hj => ?_) (fun _ _ => rfl) hd (Nat.le_refl _) (Nat.le_refl _) (fun j hj => .inr ⟨j, (hl j hj).2, rfl⟩) (fun _ _ _ => rfl)⟩, fun _ _ => rfl, Nat.le_refl _, fun j hj => ?_, fun j hj => .inr ⟨j, (hl j hj).2, rfl⟩, fun _ _ _ => rfl, rfl, rfl, rfl, Nat.le_refl _, fun j hj => by
  rw [hg] at hj ⊢
  by_cases e : j = k
  ·rw [if_pos e] at hj; exact absurd hj (by simp [eu])
  ·rw [if_neg e]⟩
 ·rw [hg, if_neg (hl j hj).1]; exact h.blk j (hl j hj).2
 ·rw [hg, if_neg (hl j hj).1] at hv; exact (h.sc j (hl j hj).2 v hv).mono hd
 ·rw [hg]
  by_cases e : j = k
  ·rw [if_pos e]; rfl
  ·rw [if_neg e]; exact h.fit j hj
 ·rw [hg] at hj ⊢
  by_cases e : j = k
  ·rw [if_pos e] at hj; exact absurd hj (by simp [eu])
  ·rw [if_neg e]
 ·rw [hg]
  by_cases e : j = k
  ·subst e; rw [if_pos rfl]; exact ⟨fun x => by simp [eu] at x, fun x => absurd x hk.2⟩
  ·rw [if_neg e]
theorem QD {ρ : Rn} {σ : AW} {w w' : World} (h : Rel ρ σ w) {k : Nat} {b : fZ} (hk : σ.live k)
  (hs : ∀ v ∈ b.cells, Sc σ.dom v) (hw : ∀ i, i ≠ (ρ k).1 → w'.heap[i]? = w.heap[i]?) (hsz : w'.heap.size = w.heap.size)
  (hh : ∀ ρ', (∀ j, j < σ.next → ρ' j = ρ j) → Holds ρ' w' (ρ k) b)
  (ho : w'.os = w.os) (ht : w'.tape = w.tape) (hu : w'.output = w.output) (h5 : b.kind ≠ 5 := by simp) : ∃ ρ', ρ' σ.next = ρ k ∧ Step ρ σ w ρ' ((σ.set k eu).push b) w' := by
 refine ⟨fun j => if j = σ.next then ρ k else ρ j, if_pos rfl, ?_⟩
 have hkn : k < σ.next := h.lt k hk
 have hag : ∀ j, j < σ.next → (if j = σ.next then ρ k else ρ j) = ρ j := fun j hj => if_neg (by omega)
 have hg : ∀ j, ((σ.set k eu).push b).get j = if j = σ.next then b else if j = k then eu else σ.get j := fun j => by
  rw [AW.push, AW.get_up, AW.get_set, AW.get_set]; rfl
 have hl : ∀ j, ((σ.set k eu).push b).live j → j ≠ σ.next → j ≠ k ∧ σ.live j := fun j hj hne => by
  unfold AW.live at *; rw [hg, if_neg hne] at hj
  by_cases e : j = k
  ·rw [if_pos e] at hj; exact absurd rfl hj.1.1
  ·rw [if_neg e] at hj; exact ⟨e, hj⟩
 have hd : ∀ j, σ.dom j → ((σ.set k eu).push b).dom j := fun j hj => ⟨Nat.lt_succ_of_lt hj.1, by
  rw [hg, if_neg (Nat.ne_of_lt hj.1)]
  by_cases e : j = k
  ·rw [if_pos e]; simp [eu]
  ·rw [if_neg e]; exact hj.2⟩
 have hne : ∀ j, σ.live j → j ≠ k → (ρ j).1 ≠ (ρ k).1 := fun j hj e e2 => e (h.inj j k hj hk e2)
 have wO : ∀ j, ((σ.set k eu).push b).live j → w.heap.size ≤ (if j = σ.next then ρ k else ρ j).1 ∨ ∃ i, σ.live i ∧ (ρ i).1 = (if j = σ.next then ρ k else ρ j).1 := fun j hj => by
  by_cases e : j = σ.next
  ·exact .inr ⟨k, hk, by simp [e]⟩
  ·exact .inr ⟨j, (hl j hj e).2, by simp [e]⟩
 refine ⟨⟨fun j hj => ?_, fun j hj => ?_, fun i j hi hj e => ?_, fun j hj v hv => ?_, fun j hj => ?_, h.glob.next (Nat.le_of_eq hsz.symm) wO (fun i hi hn => hw i (fun e => hn k hk e.symm)), h.ro.next (fun j hj => ?_) (fun j hj => ?_) hag hd (Nat.le_succ _) (Nat.le_of_eq hsz.symm) wO (fun i hi hn => hw i (fun e => hn k hk e.symm))⟩, hag, Nat.le_succ _, fun j hj => ?_, wO, fun i hi hn => hw i (fun e => hn k hk e.symm), ho, ht, hu, Nat.le_of_eq hsz.symm, fun j hj => by
  rw [hg] at hj ⊢
  by_cases e : j = σ.next
  ·rw [if_pos e] at hj; exact absurd hj h5
  ·rw [if_neg e] at hj ⊢
   by_cases e2 : j = k
   ·rw [if_pos e2] at hj; exact absurd hj (by simp [eu])
   ·rw [if_neg e2]⟩
 ·by_cases e : j = σ.next
  ·rw [hg, if_pos e]
   simp only [if_pos e]
   exact hh _ hag
  ·obtain ⟨h1, h2⟩ := hl j hj e
   rw [hg, if_neg e, if_neg h1]
   simp only [if_neg e]
   exact (h.blk j h2).keep (hw _ (hne j h2 h1)) (h.sc j h2) (fun i hi => (hag i hi.1).symm)
 ·by_cases e : j = σ.next
  ·subst e; exact Nat.lt_succ_self _
  ·exact Nat.lt_succ_of_lt (h.lt j (hl j hj e).2)
 ·by_cases e1 : i = σ.next
  ·by_cases e2 : j = σ.next
   ·rw [e1, e2]
   ·simp only [if_pos e1, if_neg e2] at e
    exact absurd e.symm (hne j (hl j hj e2).2 (hl j hj e2).1)
  ·by_cases e2 : j = σ.next
   ·simp only [if_neg e1, if_pos e2] at e
    exact absurd e (hne i (hl i hi e1).2 (hl i hi e1).1)
   ·simp only [if_neg e1, if_neg e2] at e
    exact h.inj i j (hl i hi e1).2 (hl j hj e2).2 e
 ·rw [hg] at hv
  by_cases e : j = σ.next
  ·rw [if_pos e] at hv
   exact (hs v hv).mono hd
  ·obtain ⟨h1, h2⟩ := hl j hj e
   rw [if_neg e, if_neg h1] at hv
   exact (h.sc j h2 v hv).mono hd
 ·have hj : σ.next + 1 ≤ j := hj
  rw [hg, if_neg (by omega), if_neg (by omega)]
  exact h.fit j (by omega)
 ·by_cases e : j = σ.next
  ·simp only [if_pos e]; exact h.ro.1 k hk
  ·simp only [if_neg e]; exact h.ro.1 j (hl j hj e).2
 ·rw [hg] at hj ⊢
  by_cases e : j = σ.next
  ·rw [if_pos e] at hj; exact absurd hj h5
  ·rw [if_neg e] at hj ⊢
   by_cases e2 : j = k
   ·rw [if_pos e2] at hj; exact absurd hj (by simp [eu])
   ·rw [if_neg e2]
 ·rw [hg, if_neg (Nat.ne_of_lt hj)]
  by_cases e : j = k
  ·subst e; rw [if_pos rfl]; exact ⟨fun x => by simp [eu] at x, fun x => absurd x hk.2⟩
  ·rw [if_neg e]
def bU (P : Program) (e : TypeId) (a : Addr) (len : Nat) (i : Int) : Option Value := match iW P e with
 | none => none
 | some n => if 0 ≤ i ∧ i < len then some (.pointer (some (a.add (i.toNat * n)))) else none
def iJ (P : Program) (t : TypeId) (x ix : Value) : Option Value := match ix with
 | .int _ i => match P.underlying t with
  | some (.array len e) => match x with
   | .pointer (some a) => bU P e a len i
   | _ => none
  | some (.slice e) => match x with
   | .slice (some a) len _ => bU P e a len i
   | _ => none
  | _ => none
 | _ => none
theorem IG {D : Nat → Prop} {a : Addr} (n : Nat) (h : Sc D (.pointer (some a))) : Sc D (.pointer (some (a.add n))) := fun ρ ρ' e => by
 have := h ρ ρ' e
 rw [dO, dO] at this ⊢
 injection this with this
 injection this with this
 rw [jU, jU, this]
theorem vH {D : Nat → Prop} {a : Addr} {l c : Nat} (h : Sc D (.slice (some a) l c)) : Sc D (.pointer (some a)) := fun ρ ρ' e => by
 have := h ρ ρ' e
 rw [aZ, aZ] at this
 injection this with this
 injection this with this
 rw [dO, dO, this]
theorem Np {P : Program} {ρ : Rn} {D : Nat → Prop} {t : TypeId} {x ix r : Value} (hx : Sc D x) (h : iJ P t x ix = some r) (w : World) : (Instr.indexAt t (ren ρ x) (ren ρ ix)).run P w = .ok (ren ρ r) w ∧ Sc D r := by
 unfold iJ at h
 split at h
 ·rename_i k i
  split at h
  ·rename_i len e hu
   split at h
   ·rename_i a
    unfold bU at h
    split at h
    ·cases h
    ·rename_i n hn
     split at h
     ·rename_i hi
      injection h with h
      subst h
      refine ⟨?_, IG _ hx⟩
      unfold Instr.indexAt
      simp [kP, asIntOf, underlying, hu, dO, Instr.sureAddr, hi, dQ hn, jU]
     ·cases h
   ·cases h
  ·rename_i e hu
   split at h
   ·rename_i a len c
    unfold bU at h
    split at h
    ·cases h
    ·rename_i n hn
     split at h
     ·rename_i hi
      injection h with h
      subst h
      refine ⟨?_, IG _ (vH hx)⟩
      unfold Instr.indexAt
      simp [kP, asIntOf, underlying, hu, dO, aZ, Instr.sureAddr, hi, dQ hn, jU]
     ·cases h
   ·cases h
  ·cases h
 ·cases h
def yP (v : Value) (y : Nat) : Option Nat := match v with
 | .int _ i => if 0 ≤ i ∧ i ≤ y then some i.toNat else none
 | _ => none
theorem nU {P : Program} {ρ : Rn} {v : Value} {y n : Nat} (h : yP v y = some n) (y' : Nat) (hy : y ≤ y') (c : BoundsCode) (w : World) : (Instr.sliceBound (ren ρ v) y' c).run P w = .ok n w ∧ n ≤ y := by
 unfold yP at h
 split at h
 ·rename_i k i
  split at h
  ·rename_i hi
   injection h with h
   subst h
   refine ⟨?_, by omega⟩
   have : i ≤ (y' : Int) := by omega
   simp [Instr.sliceBound, kP, asIntOf, hi.1, this]
  ·cases h
 ·cases h
def qC (len y : Nat) (lo hi mx : Option Value) : Option (Nat × Nat × Nat) :=
 match (match mx with | none => some y | some v => yP v y) with
 | none => none
 | some m => match (match hi, mx with | some v, _ => yP v m | none, none => some len | none, some _ => none) with
  | none => none
  | some h => match (match lo with | none => some 0 | some v => yP v h) with
   | none => none
   | some l => some (l, h, m)
theorem Ba {P : Program} {ρ : Rn} {b : Bool} {len y l h m : Nat} {lo hi mx : Option Value} (e : qC len y lo hi mx = some (l, h, m)) (y' : Nat) (hy : y ≤ y') (w : World) :
  (Instr.sliceBounds b len y' (lo.map (ren ρ)) (hi.map (ren ρ)) (mx.map (ren ρ))).run P w = .ok (l, h, if mx.isSome then m else y') w := by
 unfold qC at e
 cases mx with
 | none =>
  cases hi with
  | none =>
   cases lo with
   | none =>
    simp only [Option.some.injEq, Prod.mk.injEq] at e
    obtain ⟨rfl, rfl, rfl⟩ := e
    simp [Instr.sliceBounds]
   | some v =>
    simp only at e
    split at e
    ·cases e
    ·rename_i x hx
     simp only [Option.some.injEq, Prod.mk.injEq] at e
     obtain ⟨rfl, rfl, rfl⟩ := e
     simp [Instr.sliceBounds, (nU (P := P) (ρ := ρ) hx _ (Nat.le_refl _) _ w).1]
  | some u =>
   simp only at e
   split at e
   ·cases e
   ·rename_i x hx
    cases lo with
    | none =>
     simp only [Option.some.injEq, Prod.mk.injEq] at e
     obtain ⟨rfl, rfl, rfl⟩ := e
     simp [Instr.sliceBounds, (nU (P := P) (ρ := ρ) hx _ hy _ w).1]
    | some v =>
     simp only at e
     split at e
     ·cases e
     ·rename_i z hz
      simp only [Option.some.injEq, Prod.mk.injEq] at e
      obtain ⟨rfl, rfl, rfl⟩ := e
      simp [Instr.sliceBounds, (nU (P := P) (ρ := ρ) hx _ hy _ w).1, (nU (P := P) (ρ := ρ) hz _ (Nat.le_refl _) _ w).1]
 | some q =>
  simp only at e
  split at e
  ·cases e
  ·rename_i mm hm
   cases hi with
   | none => cases e
   | some u =>
    simp only at e
    split at e
    ·cases e
    ·rename_i x hx
     cases lo with
     | none =>
      simp only [Option.some.injEq, Prod.mk.injEq] at e
      obtain ⟨rfl, rfl, rfl⟩ := e
      simp [Instr.sliceBounds, (nU (P := P) (ρ := ρ) hm _ hy _ w).1, (nU (P := P) (ρ := ρ) hx _ (Nat.le_refl _) _ w).1]
     | some v =>
      simp only at e
      split at e
      ·cases e
      ·rename_i z hz
       simp only [Option.some.injEq, Prod.mk.injEq] at e
       obtain ⟨rfl, rfl, rfl⟩ := e
       simp [Instr.sliceBounds, (nU (P := P) (ρ := ρ) hm _ hy _ w).1, (nU (P := P) (ρ := ρ) hx _ (Nat.le_refl _) _ w).1, (nU (P := P) (ρ := ρ) hz _ (Nat.le_refl _) _ w).1]
end Go.Proofs.YthogkmcahnkkoaaGreatDoor
