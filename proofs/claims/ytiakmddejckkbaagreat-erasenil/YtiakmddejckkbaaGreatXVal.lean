/- Runs of closed code, reckoned: values whose blocks are numbered by the reckoning's own numbers, and what they are in a memory. -/
import Derived.Orders
import Derived.LoopN
import Derived.Scope
import Derived.Below
import Derived.Laws.World
namespace Go.Proofs.YtiakmddejckkbaaGreat

/-- Where a block of the reckoning lies: its block in memory, and how many elements it has room for. -/
abbrev Rn := Nat → Nat × Nat
/-- How much room a slice has: c is twice that; or, where it is not known, twice the place of its first element, and one. -/
def capR (ρ : Rn) (k c : Nat) : Nat := if c % 2 = 0 then c / 2 else (ρ k).2 - c / 2

def renB (ρ : Rn) (a : Addr) : Addr := { a with block := (ρ a.block).1 }
/-- A value of the reckoning as it lies in memory. -/
noncomputable def ren (ρ : Rn) (v : Value) : Value :=
  Value.rec (motive_1 := fun _ => Value) (motive_2 := fun _ => Array Value) (motive_3 := fun _ => List Value)
    (fun b => .bool b) (fun k n => .int k n) (fun k b => .float k b) (fun k a b => .complex k a b) (fun s => .string s)
    (fun a => .pointer (a.map (renB ρ)))
    (fun a l c => .slice (a.map (renB ρ)) l (match a with | none => c | some a => capR ρ a.block c))
    (fun r => .map (r.map fun k => (ρ k).1)) (fun r => .chan r)
    (fun fn _ _ f c => .func fn f c) .nilFunc (fun t _ v => .iface t v) .nilIface
    (fun _ cs => .agg cs) (fun _ vs => .tuple vs)
    (fun _ l => ⟨l⟩) [] (fun _ _ v l => v :: l) v

section
variable (ρ : Rn)
theorem ren_bool (b : Bool) : ren ρ (.bool b) = .bool b := rfl
theorem ren_int (k : IntKind) (n : Int) : ren ρ (.int k n) = .int k n := rfl
theorem ren_string (s : ByteArray) : ren ρ (.string s) = .string s := rfl
theorem ren_ptr (a : Addr) : ren ρ (.pointer (some a)) = .pointer (some (renB ρ a)) := rfl
theorem ren_nil : ren ρ (.pointer none) = .pointer none := rfl
theorem ren_slice (a : Addr) (l c : Nat) : ren ρ (.slice (some a) l c) = .slice (some (renB ρ a)) l (capR ρ a.block c) := rfl
theorem ren_snil (l c : Nat) : ren ρ (.slice none l c) = .slice none l c := rfl
theorem ren_map (k : Nat) : ren ρ (.map (some k)) = .map (some (ρ k).1) := rfl
theorem ren_mnil : ren ρ (.map none) = .map none := rfl
theorem ren_nilFunc : ren ρ .nilFunc = .nilFunc := rfl
theorem ren_iface (t : TypeId) (v : Value) : ren ρ (.iface t v) = .iface t (ren ρ v) := rfl
theorem renL_map (l : List Value) : (Value.rec_2 (motive_1 := fun _ => Value) (motive_2 := fun _ => Array Value) (motive_3 := fun _ => List Value)
    (fun b => .bool b) (fun k n => .int k n) (fun k b => .float k b) (fun k a b => .complex k a b) (fun s => .string s)
    (fun a => .pointer (a.map (renB ρ)))
    (fun a l c => .slice (a.map (renB ρ)) l (match a with | none => c | some a => capR ρ a.block c))
    (fun r => .map (r.map fun k => (ρ k).1)) (fun r => .chan r)
    (fun fn _ _ f c => .func fn f c) .nilFunc (fun t _ v => .iface t v) .nilIface
    (fun _ cs => .agg cs) (fun _ vs => .tuple vs)
    (fun _ l => ⟨l⟩) [] (fun _ _ v l => v :: l) l : List Value) = l.map (ren ρ) := by
  induction l with
  | nil => rfl
  | cons x l ih => exact congrArg (ren ρ x :: ·) ih
theorem ren_agg (cs : Array Value) : ren ρ (.agg cs) = .agg (cs.map (ren ρ)) := by
  obtain ⟨l⟩ := cs
  rw [List.map_toArray]
  exact congrArg (fun l => Value.agg ⟨l⟩) (renL_map ρ l)
theorem ren_tuple (cs : Array Value) : ren ρ (.tuple cs) = .tuple (cs.map (ren ρ)) := by
  obtain ⟨l⟩ := cs
  rw [List.map_toArray]
  exact congrArg (fun l => Value.tuple ⟨l⟩) (renL_map ρ l)
theorem ren_func (fn : Fn) (f c : Array Value) : ren ρ (.func fn f c) = .func fn (f.map (ren ρ)) (c.map (ren ρ)) := by
  obtain ⟨l⟩ := f
  obtain ⟨m⟩ := c
  rw [List.map_toArray, List.map_toArray]
  have h1 := renL_map ρ l
  have h2 := renL_map ρ m
  show Value.func fn ⟨_⟩ ⟨_⟩ = _
  rw [h1, h2]
end

/-- A value that names blocks of D alone. -/
def Sc (D : Nat → Prop) (v : Value) : Prop := ∀ ρ ρ' : Rn, (∀ k, D k → ρ k = ρ' k) → ren ρ v = ren ρ' v
theorem Sc.mono {D D' : Nat → Prop} {v : Value} (h : Sc D v) (hn : ∀ k, D k → D' k) : Sc D' v := fun ρ ρ' e => h ρ ρ' fun k hk => e k (hn k hk)
/-- A value that names no block at all. -/
def Fl (v : Value) : Prop := ∀ ρ : Rn, ren ρ v = v
theorem Fl.sc {v : Value} (h : Fl v) (D : Nat → Prop) : Sc D v := fun ρ ρ' _ => (h ρ).trans (h ρ').symm

def flat1 : Value → Bool
  | .bool _ | .int _ _ | .float _ _ | .complex _ _ _ | .string _ | .pointer none | .slice none _ _ | .map none | .chan _ | .nilFunc | .nilIface => true
  | _ => false
/-- Names it no block? (as far as is looked) -/
def flatB : Value → Bool
  | .agg ⟨l⟩ | .tuple ⟨l⟩ => l.all flat1
  | v => flat1 v
theorem flat1_fl {v : Value} (h : flat1 v = true) : Fl v := by
  intro ρ
  cases v with
  | pointer a => cases a with | none => rfl | some a => cases h
  | slice a l c => cases a with | none => rfl | some a => cases h
  | map a => cases a with | none => rfl | some a => cases h
  | func _ _ _ => cases h
  | iface _ _ => cases h
  | agg _ => cases h
  | tuple _ => cases h
  | _ => rfl
theorem map_fl {l : List Value} (h : l.all flat1 = true) (ρ : Rn) : l.map (ren ρ) = l := by
  induction l with
  | nil => rfl
  | cons x l ih => rw [List.all_cons, Bool.and_eq_true] at h; rw [List.map_cons, flat1_fl h.1 ρ, ih h.2]
theorem flatB_fl {v : Value} (h : flatB v = true) : Fl v := by
  intro ρ
  cases v with
  | agg a => obtain ⟨l⟩ := a; rw [ren_agg, List.map_toArray, map_fl h]
  | tuple a => obtain ⟨l⟩ := a; rw [ren_tuple, List.map_toArray, map_fl h]
  | pointer a => exact flat1_fl (v := .pointer a) h ρ
  | slice a l c => exact flat1_fl (v := .slice a l c) h ρ
  | map a => exact flat1_fl (v := .map a) h ρ
  | func a b c => cases h
  | iface a b => cases h
  | _ => rfl
theorem fl_undef : Fl undef := fun ρ => by rw [undef, ren_tuple, Array.map_empty]

theorem sc_ptr {D : Nat → Prop} {a : Addr} (h : D a.block) : Sc D (.pointer (some a)) := fun ρ ρ' e => by rw [ren_ptr, ren_ptr, renB, renB, e _ h]
theorem sc_slice {D : Nat → Prop} {l c : Nat} {a : Addr} (h : D a.block) : Sc D (.slice (some a) l c) := fun ρ ρ' e => by rw [ren_slice, ren_slice, renB, renB, capR, capR, e _ h]
theorem sc_map {D : Nat → Prop} {k : Nat} (h : D k) : Sc D (.map (some k)) := fun ρ ρ' e => by rw [ren_map, ren_map, e _ h]
theorem map_sc {D : Nat → Prop} {l : List Value} (h : ∀ v ∈ l, Sc D v) {ρ ρ' : Rn} (e : ∀ k, D k → ρ k = ρ' k) : l.map (ren ρ) = l.map (ren ρ') :=
  List.map_congr_left fun v hv => h v hv ρ ρ' e
theorem sc_agg {D : Nat → Prop} {l : Array Value} (h : ∀ v ∈ l.toList, Sc D v) : Sc D (.agg l) := fun ρ ρ' e => by
  obtain ⟨l⟩ := l; rw [ren_agg, ren_agg, List.map_toArray, List.map_toArray, map_sc h e]
theorem sc_tuple {D : Nat → Prop} {l : Array Value} (h : ∀ v ∈ l.toList, Sc D v) : Sc D (.tuple l) := fun ρ ρ' e => by
  obtain ⟨l⟩ := l; rw [ren_tuple, ren_tuple, List.map_toArray, List.map_toArray, map_sc h e]
theorem sc_func {D : Nat → Prop} {fn : Fn} {l m : Array Value} (h : ∀ v ∈ l.toList, Sc D v) (k : ∀ v ∈ m.toList, Sc D v) : Sc D (.func fn l m) := fun ρ ρ' e => by
  obtain ⟨l⟩ := l; obtain ⟨m⟩ := m; rw [ren_func, ren_func, List.map_toArray, List.map_toArray, List.map_toArray, List.map_toArray, map_sc h e, map_sc k e]
theorem list_of_map {l : List Value} {f g : Value → Value} (h : l.map f = l.map g) : ∀ v ∈ l, f v = g v := by
  induction l with
  | nil => intro v hv; cases hv
  | cons x l ih =>
    rw [List.map_cons, List.map_cons] at h
    injection h with h1 h2
    intro v hv
    cases hv with
    | head => exact h1
    | tail _ hv => exact ih h2 v hv
theorem of_sc_agg {D : Nat → Prop} {l : Array Value} (h : Sc D (.agg l)) : ∀ v ∈ l.toList, Sc D v := fun v hv ρ ρ' e => by
  have := h ρ ρ' e
  obtain ⟨l⟩ := l
  rw [ren_agg, ren_agg, List.map_toArray, List.map_toArray] at this
  injection this with this
  injection this with this
  exact list_of_map this v hv
theorem of_sc_tuple {D : Nat → Prop} {l : Array Value} (h : Sc D (.tuple l)) : ∀ v ∈ l.toList, Sc D v := fun v hv ρ ρ' e => by
  have := h ρ ρ' e
  obtain ⟨l⟩ := l
  rw [ren_tuple, ren_tuple, List.map_toArray, List.map_toArray] at this
  injection this with this
  injection this with this
  exact list_of_map this v hv
theorem of_sc_func {D : Nat → Prop} {fn : Fn} {l m : Array Value} (h : Sc D (.func fn l m)) : (∀ v ∈ l.toList, Sc D v) ∧ ∀ v ∈ m.toList, Sc D v := by
  refine ⟨fun v hv ρ ρ' e => ?_, fun v hv ρ ρ' e => ?_⟩ <;>
  · have := h ρ ρ' e
    obtain ⟨l⟩ := l; obtain ⟨m⟩ := m
    rw [ren_func, ren_func, List.map_toArray, List.map_toArray, List.map_toArray, List.map_toArray] at this
    injection this with _ t1 t2
    injection t1 with t1
    injection t2 with t2
    first | exact list_of_map t1 v hv | exact list_of_map t2 v hv

/-- What does not hang on the world, reckoned. -/
def pureRun {α : Type} (P : Program) : Sem α → Option α
  | .pure a => some a
  | .program k => pureRun P (k P)
  | .mark _ k => pureRun P k
  | _ => none
theorem pureRun_run {α : Type} {P : Program} : ∀ {s : Sem α} {a : α}, pureRun P s = some a → ∀ w, s.run P w = .ok a w
  | .pure b, a, h, w => by injection h with h; subst h; rfl
  | .program k, a, h, w => by have := pureRun_run (s := k P) h w; simpa [Sem.run] using this
  | .mark m k, a, h, w => by have := pureRun_run (s := k) h w; simpa [Sem.run] using this
  | .load _ _ _, _, h, _ | .store _ _ _ _, _, h, _ | .new _ _, _, h, _ | .shape _ _, _, h, _ | .freeze _ _ _, _, h, _ | .frozen _ _, _, h, _ | .getObj _ _, _, h, _ | .setObj _ _ _, _, h, _ | .choose _ _, _, h, _ | .sys _ _, _, h, _ | .halt _, _, h, _ => by cases h

end Go.Proofs.YtiakmddejckkbaaGreat
