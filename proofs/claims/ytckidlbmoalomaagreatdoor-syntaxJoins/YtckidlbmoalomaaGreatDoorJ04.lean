/- Runs of closed code, reckoned: one operation. Runs of closed code, reckoned: regions, code, calls. Runs of closed code, reckoned: one operation, and operations one behind the other, are what they are reckoned to be. Runs of closed code, reckoned: operations in whatever order come to what they are reckoned to be. -/
import Derived.Test.YtckidlbmoalomaaGreatDoorJ03
import Derived.Tactics


namespace Go.Proofs.YtckidlbmoalomaaGreatDoor

theorem TR.he {ρ : Rn} {σ : AW} {A : Fr} {a : Act} (h : TR ρ σ A a) (xs : List Operand) : HE ρ σ A a xs := fun _ _ _ e => ev_ok h e
theorem he_all {ρ : Rn} {σ : AW} {A : Fr} {a : Act} : ∀ {l : List Operand} {vs : List Value}, HE ρ σ A a l → evAll A l = some vs → l.map a.eval = vs.map (ren ρ) ∧ ∀ v ∈ vs, Sc σ.dom v
  | [], vs, _, e => by injection e with e; subst e; exact ⟨rfl, fun v hv => by cases hv⟩
  | x :: l, vs, h, e => by
    simp only [evAll] at e
    split at e
    · cases e
    · rename_i v hv
      split at e
      · cases e
      · rename_i us hus
        injection e with e
        subst e
        obtain ⟨h1, h2⟩ := h x (List.mem_cons_self ..) v hv
        obtain ⟨h3, h4⟩ := he_all (fun y hy => h y (List.mem_cons_of_mem _ hy)) hus
        refine ⟨by rw [List.map_cons, List.map_cons, h1, h3], fun u hu => ?_⟩
        cases hu with
        | head => exact h2
        | tail _ hu => exact h4 u hu
theorem he_flat {ρ : Rn} {σ : AW} {A : Fr} {a : Act} {o : Oper} (h : HE ρ σ A a o.op.operands.toList) (hf : flatOp A o = true) : execOp a.eval o = execOp (evF A) o := by
  refine execOp_congr o (fun cs b e => by simp [flatOp, e] at hf) fun x hx => ?_
  have hf : (o.op.operands.toList.all fun x => match ev A x with | some v => flatB v | none => false) = true := by
    unfold flatOp at hf
    split at hf
    · cases hf
    · exact hf
  have hm : x ∈ o.op.operands.toList := by simpa using hx
  have := List.all_eq_true.1 hf x hm
  unfold evF
  cases he : ev A x with
  | none => rw [he] at this; cases this
  | some v =>
    rw [he] at this
    rw [(h x hm v he).1]
    exact flatB_fl this ρ

def flatA (P : Program) (A : Fr) (σ : AW) (o : Oper) : Option (Value × AW) :=
  if flatOp A o then match pureRun P (execOp (evF A) o) with
    | some (.value v) => if flatB v then some (v, σ) else none
    | _ => none
  else none
def evO (A : Fr) : Option Operand → Option (Option Value)
  | none => some none
  | some x => match ev A x with
    | none => none
    | some v => some (some v)
def same (σ : AW) (v : Option Value) : Option (Value × AW) := match v with
  | none => none
  | some v => some (v, σ)
def none2 (σ : Option AW) : Option (Value × AW) := match σ with
  | none => none
  | some σ => some (undef, σ)
def builtinA (P : Program) (A : Fr) (σ : AW) (o : Oper) (b : Builtin) (ts : Array TypeId) (xs : Array Operand) : Option (Value × AW) := match b with
  | .append => match ts.toList, evAll A xs.toList with
    | [t, tx], some [s, x] => appendA P σ t tx s x
    | _, _ => none
  | .copy => match ts.toList, evAll A xs.toList with
    | [t, _], some [d, x] => copyA P σ t d x
    | _, _ => none
  | .len => match ts.toList, evAll A xs.toList with
    | [t], some [x] => same σ (lenA P σ t x)
    | _, _ => none
  | _ => flatA P A σ o
def opA (P : Program) (A : Fr) (σ : AW) (o : Oper) : Option (Value × AW) := match o.op with
  | .move x | .assign x => same σ (ev A x)
  | .pick c x y => match ev A c with
    | some (.bool true) => same σ (ev A x)
    | some (.bool false) => same σ (ev A y)
    | _ => none
  | .alloc t => match zeroOf P t with
    | some z => some (.pointer (some ⟨σ.next, 0, none⟩), σ.push ⟨1, t, 0, cellsL z⟩)
    | none => none
  | .box t x => match ev A x with
    | some v => some (.pointer (some ⟨σ.next, 0, none⟩), σ.push ⟨1, t, 0, cellsL v⟩)
    | none => none
  | .build t ps => match evParts A ps.toList with
    | some vs => same σ (buildA P t vs)
    | none => none
  | .buildSlice t len ps => match evParts A ps.toList with
    | some vs => buildSliceA P σ t len vs
    | none => none
  | .load t x => match ev A x with
    | some (.pointer (some a)) => same σ (loadA P σ t a)
    | _ => none
  | .store t x y => match ev A x with
    | some (.pointer (some a)) => match ev A y with
      | some v => none2 (storeA P σ t a v)
      | none => none
    | _ => none
  | .nilCheck x => match ev A x with
    | some (.pointer (some a)) => some (.pointer (some a), σ)
    | _ => none
  | .binOp op t x y _ => match ev A x, ev A y with
    | some u, some v => match fastB op u v with
      | some r => some (r, σ)
      | none => match op with
        | .eql => (match nilA P t u v with
          | some b => some (.bool b, σ)
          | none => flatA P A σ o)
        | .neq => (match nilA P t u v with
          | some b => some (.bool (!b), σ)
          | none => flatA P A σ o)
        | _ => flatA P A σ o
    | _, _ => none
  | .unOp op _ x => match op, ev A x with
    | .not, some (.bool b) => some (.bool (!b), σ)
    | _, _ => flatA P A σ o
  | .index t x y => match ev A x, ev A y with
    | some u, some v => match byteAt P t u v with
      | some r => some (r, σ)
      | none => flatA P A σ o
    | _, _ => none
  | .convert s d x => match ev A x with
    | some (.slice u l c) => same σ (textA P σ s d (.slice u l c))
    | _ => flatA P A σ o
  | .fieldAddr s x f => match ev A x with
    | some v => same σ (fieldAtA P s v f)
    | none => none
  | .field s x f => match ev A x with
    | some v => same σ (fieldA P s v f)
    | none => none
  | .indexAddr t x y => match ev A x, ev A y with
    | some u, some v => same σ (indexAtA P t u v)
    | _, _ => none
  | .slice t x lo hi mx => match ev A x with
    | some (.string _) => flatA P A σ o
    | some u => match evO A lo, evO A hi, evO A mx with
      | some l, some h, some m => same σ (sliceA P σ t u l h m)
      | _, _, _ => none
    | none => none
  | .extract x i => match ev A x with
    | some v => same σ (extractA v i)
    | none => none
  | .makeFunc fn fs cs => match evAll A fs.toList, evAll A cs.toList with
    | some u, some v => some (.func fn u.toArray v.toArray, σ)
    | _, _ => none
  | .makeMap t r => match (match r with
      | none => some true
      | some x => match ev A x with
        | some (.int _ _) => (match P.underlying t with | some (.map _ _) => some true | _ => none)
        | _ => none : Option Bool) with
    | some _ => some (.map (some σ.next), σ.push ⟨3, 0, 0, []⟩)
    | none => none
  | .makeSlice t l c => match ev A l, ev A c with
    | some u, some v => makeSliceA P σ t u v
    | _, _ => none
  | .lookup t x y ok => match ev A x, ev A y with
    | some u, some v => same σ (lookupA P σ t u v ok)
    | _, _ => none
  | .mapUpdate t m k x => match ev A m, ev A k, ev A x with
    | some u, some v, some y => none2 (mapPutA P σ t u v y)
    | _, _, _ => none
  | .call c => match c.callee with
    | .builtin b => builtinA P A σ o b c.argTypes c.args
    | _ => none
  | _ => flatA P A σ o

def Came (P : Program) (o : Oper) (a : Act) (ρ : Rn) (σ : AW) (w : World) (v : Value) (σ' : AW) : Prop :=
  ∃ ρ' w' n, (execOp a.eval o).run P w = .ok n w' ∧ (n = .value (ren ρ' v) ∨ (n = .skip ∧ v = undef)) ∧ Step ρ σ w ρ' σ' w' ∧ Sc σ'.dom v
section
variable {P : Program} {ρ : Rn} {σ σ' : AW} {w : World} {A : Fr} {a : Act} {o : Oper} {v : Value}
theorem came_value {r : Value} (hR : Rel ρ σ w) (h : (execOp a.eval o).run P w = .ok (.value (ren ρ r)) w) (hs : Sc σ.dom r) : Came P o a ρ σ w r σ :=
  ⟨ρ, w, _, h, .inl rfl, Step.refl hR, hs⟩
theorem flat_came (hR : Rel ρ σ w) (hE : HE ρ σ A a o.op.operands.toList) (h : flatA P A σ o = some (v, σ')) : Came P o a ρ σ w v σ' := by
  unfold flatA at h
  split at h
  · rename_i hf
    split at h
    · rename_i u hu
      split at h
      · rename_i hfl
        injection h with h
        injection h with h1 h2
        subst h1 h2
        have hr := pureRun_run hu w
        rw [← he_flat hE hf] at hr
        refine came_value hR ?_ ((flatB_fl hfl).sc _)
        rw [flatB_fl hfl ρ]
        exact hr
      · cases h
    · cases h
  · cases h
theorem same_inv {r : Option Value} (h : same σ r = some (v, σ')) : r = some v ∧ σ' = σ := by
  unfold same at h
  split at h
  · cases h
  · injection h with h
    injection h with h1 h2
    subst h1
    exact ⟨rfl, h2.symm⟩
theorem none2_inv {r : Option AW} (h : none2 r = some (v, σ')) : r = some σ' ∧ v = undef := by
  unfold none2 at h
  split at h
  · cases h
  · injection h with h
    injection h with h1 h2
    subst h2
    exact ⟨rfl, h1.symm⟩
theorem evO_ok {A : Fr} {x : Option Operand} {v : Option Value} (hE : ∀ y, x = some y → ∀ v, ev A y = some v → a.eval y = ren ρ v ∧ Sc σ.dom v) (h : evO A x = some v) : x.map a.eval = v.map (ren ρ) := by
  unfold evO at h
  split at h
  · injection h with h; subst h; rfl
  · rename_i y
    split at h
    · cases h
    · rename_i u hu
      injection h with h
      subst h
      simp [(hE y rfl u hu).1]
theorem builtin_came {c : Call} {b : Builtin} (ho : o.op = .call c) (hc : c.callee = .builtin b) (hR : Rel ρ σ w) (hE : HE ρ σ A a o.op.operands.toList) (h : builtinA P A σ o b c.argTypes c.args = some (v, σ')) : Came P o a ρ σ w v σ' := by
  have hops : o.op.operands.toList = c.args.toList := by rw [ho]; simp [Op.operands, Call.operands, hc]
  have hE' : HE ρ σ A a c.args.toList := hops ▸ hE
  have two : ∀ {x y : Value}, evAll A c.args.toList = some [x, y] → c.args.map a.eval = #[ren ρ x, ren ρ y] ∧ Sc σ.dom x ∧ Sc σ.dom y := fun {x y} e => by
    obtain ⟨h1, h2⟩ := he_all hE' e
    refine ⟨?_, h2 x (by simp), h2 y (by simp)⟩
    apply Array.ext'
    rw [Array.toList_map, h1]
    rfl
  unfold builtinA at h
  split at h
  · split at h
    · rename_i t tx s x hts hxs
      obtain ⟨h1, h2, _⟩ := two hxs
      have hts' : c.argTypes = #[t, tx] := by apply Array.ext'; rw [hts]
      obtain ⟨ρ', w', hr, hst, hs⟩ := append_ok (ty := o.type) hR h2 h
      refine ⟨ρ', w', _, ?_, .inl rfl, hst, hs⟩
      simp [execOp, ho, resolve, hc, invoke, builtin, h1, hts', hr]
    · cases h
  · split at h
    · rename_i t tx s x hts hxs
      obtain ⟨h1, _, _⟩ := two hxs
      have hts' : c.argTypes = #[t, tx] := by apply Array.ext'; rw [hts]
      obtain ⟨w', hr, hst, hs⟩ := copy_ok (tx := tx) (ty := o.type) hR h
      refine ⟨ρ, w', _, ?_, .inl rfl, hst, hs⟩
      simp [execOp, ho, resolve, hc, invoke, builtin, h1, hts', hr]
    · cases h
  · split at h
    · rename_i t x hts hxs
      obtain ⟨h1, h2⟩ := he_all hE' hxs
      have h1' : c.args.map a.eval = #[ren ρ x] := by apply Array.ext'; rw [Array.toList_map, h1]; rfl
      have hts' : c.argTypes = #[t] := by apply Array.ext'; rw [hts]
      obtain ⟨hl, rfl⟩ := same_inv h
      obtain ⟨hr, hf⟩ := len_ok (ty := o.type) hR hl
      refine came_value hR ?_ (hf.sc _)
      simp [execOp, ho, resolve, hc, invoke, builtin, h1', hts', hr]
    · cases h
  · exact flat_came hR hE h
theorem opA_came (hR : Rel ρ σ w) (hE : HE ρ σ A a o.op.operands.toList) (h : opA P A σ o = some (v, σ')) : Came P o a ρ σ w v σ' := by
  unfold opA at h
  split at h
  · rename_i x ho
    obtain ⟨h1, rfl⟩ := same_inv h
    obtain ⟨e1, e2⟩ := hE x (by rw [ho]; simp [Op.operands]) v h1
    exact came_value hR (by simp [execOp, ho, e1]) e2
  · rename_i x ho
    obtain ⟨h1, rfl⟩ := same_inv h
    obtain ⟨e1, e2⟩ := hE x (by rw [ho]; simp [Op.operands]) v h1
    exact came_value hR (by simp [execOp, ho, e1]) e2
  · rename_i c x y ho
    split at h
    · rename_i hc
      obtain ⟨c1, _⟩ := hE c (by rw [ho]; simp [Op.operands]) _ hc
      obtain ⟨h1, rfl⟩ := same_inv h
      obtain ⟨e1, e2⟩ := hE x (by rw [ho]; simp [Op.operands]) v h1
      exact came_value hR (by simp [execOp, ho, c1, ren_bool, asBool, e1]) e2
    · rename_i hc
      obtain ⟨c1, _⟩ := hE c (by rw [ho]; simp [Op.operands]) _ hc
      obtain ⟨h1, rfl⟩ := same_inv h
      obtain ⟨e1, e2⟩ := hE y (by rw [ho]; simp [Op.operands]) v h1
      exact came_value hR (by simp [execOp, ho, c1, ren_bool, asBool, e1]) e2
    · cases h
  · rename_i t ho
    split at h
    · rename_i z hz
      injection h with h
      injection h with h1 h2
      subst h1 h2
      obtain ⟨hz1, hz2⟩ := zeroOf_run hz w
      obtain ⟨ρ', w', hr, hst⟩ := newVar_ok (P := P) hR t (hz2.sc _)
      rw [hz2 ρ] at hr
      refine ⟨ρ', w', _, ?_, .inl rfl, hst, sc_ptr (push_dom (by simp))⟩
      simp [execOp, ho, Instr.alloc, hz1, hr, ren_ptr]
    · cases h
  · rename_i t x ho
    split at h
    · rename_i u hu
      injection h with h
      injection h with h1 h2
      subst h1 h2
      obtain ⟨e1, e2⟩ := hE x (by rw [ho]; simp [Op.operands]) u hu
      obtain ⟨ρ', w', hr, hst⟩ := newVar_ok (P := P) hR t e2
      refine ⟨ρ', w', _, ?_, .inl rfl, hst, sc_ptr (push_dom (by simp))⟩
      simp [execOp, ho, Instr.box, e1, hr, ren_ptr]
    · cases h
  · rename_i t ps ho
    split at h
    · rename_i vs hvs
      obtain ⟨h1, rfl⟩ := same_inv h
      obtain ⟨e1, e2⟩ := parts_ok (a := a) (ρ := ρ) (σ := σ') (fun x hx => hE x (by rw [ho]; simpa [Op.operands] using hx)) hvs
      obtain ⟨hr, hs⟩ := build_ok (ρ := ρ) e2 h1 w
      have e3 : (ps.map fun (i, x) => (i, a.eval x)) = (vs.map fun p => (p.1, ren ρ p.2)).toArray := by
        apply Array.ext'; rw [Array.toList_map, e1]
      refine came_value hR ?_ hs
      simp only [execOp, ho, e3, Sem.run_bind, hr, Result.andThen_ok, Sem.run_pure]
    · cases h
  · rename_i t len ps ho
    split at h
    · rename_i vs hvs
      obtain ⟨e1, e2⟩ := parts_ok (a := a) (ρ := ρ) (σ := σ) (fun x hx => hE x (by rw [ho]; simpa [Op.operands] using hx)) hvs
      obtain ⟨ρ', w', hr, hst, hs⟩ := buildSlice_ok hR e2 h
      have e3 : (ps.map fun (i, x) => (i, a.eval x)) = (vs.map fun p => (p.1, ren ρ p.2)).toArray := by
        apply Array.ext'; rw [Array.toList_map, e1]
      refine ⟨ρ', w', _, ?_, .inl rfl, hst, hs⟩
      simp only [execOp, ho, e3, Sem.run_bind, hr, Result.andThen_ok, Sem.run_pure]
    · cases h
  · rename_i t x ho
    split at h
    · rename_i ad hx
      obtain ⟨h1, rfl⟩ := same_inv h
      obtain ⟨e1, _⟩ := hE x (by rw [ho]; simp [Op.operands]) _ hx
      obtain ⟨hr, hs⟩ := loadVar_ok hR h1
      refine came_value hR ?_ hs
      simp [execOp, ho, Instr.loadAt, e1, ren_ptr, Instr.sureAddr, hr]
    · cases h
  · rename_i t x y ho
    split at h
    · rename_i ad hx
      split at h
      · rename_i u hu
        obtain ⟨h1, rfl⟩ := none2_inv h
        obtain ⟨e1, _⟩ := hE x (by rw [ho]; simp [Op.operands]) _ hx
        obtain ⟨e2, e3⟩ := hE y (by rw [ho]; simp [Op.operands]) _ hu
        obtain ⟨w', hr, hst⟩ := storeVar_ok hR e3 h1
        refine ⟨ρ, w', _, ?_, .inr ⟨rfl, rfl⟩, hst, fl_undef.sc _⟩
        simp [execOp, ho, Instr.storeAt, e1, e2, ren_ptr, Instr.sureAddr, hr]
      · cases h
    · cases h
  · rename_i x ho
    split at h
    · rename_i ad hx
      injection h with h
      injection h with h1 h2
      subst h1 h2
      obtain ⟨e1, e2⟩ := hE x (by rw [ho]; simp [Op.operands]) _ hx
      refine came_value hR ?_ e2
      simp [execOp, ho, e1, ren_ptr]
    · cases h
  · rename_i op t x y yt ho
    split at h
    · rename_i u u' hu hu'
      obtain ⟨e1, _⟩ := hE x (by rw [ho]; simp [Op.operands]) _ hu
      obtain ⟨e2, _⟩ := hE y (by rw [ho]; simp [Op.operands]) _ hu'
      split at h
      · rename_i r hr
        injection h with h
        injection h with h1 h2
        subst h1 h2
        obtain ⟨hrun, f1, f2, f3⟩ := fastB_ok (P := P) (t := t) (ox := x) (oy := y) hr w
        refine came_value hR ?_ (f3.sc _)
        rw [f1 ρ] at e1
        rw [f2 ρ] at e2
        rw [f3 ρ]
        simp only [execOp, ho, e1, e2]
        rw [Sem.run_bind, hrun]
        rfl
      · split at h
        · split at h
          · rename_i b hb
            injection h with h
            injection h with h1 h2
            subst h1 h2
            obtain ⟨hr, _⟩ := nil_ok (ρ := ρ) hb w x y
            refine came_value hR ?_ (fun _ _ _ => rfl)
            simp only [execOp, ho, e1, e2]
            rw [Sem.run_bind, hr]
            rfl
          · exact flat_came hR hE h
        · split at h
          · rename_i b hb
            injection h with h
            injection h with h1 h2
            subst h1 h2
            obtain ⟨_, hr⟩ := nil_ok (ρ := ρ) hb w x y
            refine came_value hR ?_ (fun _ _ _ => rfl)
            simp only [execOp, ho, e1, e2]
            rw [Sem.run_bind, hr]
            rfl
          · exact flat_came hR hE h
        · exact flat_came hR hE h
    · cases h
  · rename_i op t x ho
    split at h
    · rename_i b hb
      injection h with h
      injection h with h1 h2
      subst h1 h2
      obtain ⟨e1, _⟩ := hE x (by rw [ho]; simp [Op.operands]) _ hb
      refine came_value hR ?_ (fun _ _ _ => rfl)
      simp [execOp, ho, e1, ren_bool, Op.unary]
    · exact flat_came hR hE h
  · rename_i t x y ho
    split at h
    · rename_i u u' hu hu'
      obtain ⟨e1, _⟩ := hE x (by rw [ho]; simp [Op.operands]) _ hu
      obtain ⟨e2, _⟩ := hE y (by rw [ho]; simp [Op.operands]) _ hu'
      split at h
      · rename_i r hr
        injection h with h
        injection h with h1 h2
        subst h1 h2
        obtain ⟨hrun, f1, f2, f3⟩ := byteAt_ok hr w
        refine came_value hR ?_ (f3.sc _)
        rw [f1 ρ] at e1
        rw [f2 ρ] at e2
        rw [f3 ρ]
        simp [execOp, ho, e1, e2, hrun]
      · exact flat_came hR hE h
    · cases h
  · rename_i s d x ho
    split at h
    · rename_i u l c hu
      obtain ⟨h1, rfl⟩ := same_inv h
      obtain ⟨e1, _⟩ := hE x (by rw [ho]; simp [Op.operands]) _ hu
      obtain ⟨hr, hf⟩ := text_ok hR h1
      refine came_value hR ?_ (hf.sc _)
      rw [hf ρ]
      simp [execOp, ho, e1, hr]
    · exact flat_came hR hE h
  · rename_i s x f ho
    split at h
    · rename_i u hu
      obtain ⟨h1, rfl⟩ := same_inv h
      obtain ⟨e1, e2⟩ := hE x (by rw [ho]; simp [Op.operands]) _ hu
      obtain ⟨hr, hs⟩ := fieldAt_ok (ρ := ρ) e2 h1 w
      exact came_value hR (by simp [execOp, ho, e1, hr]) hs
    · cases h
  · rename_i s x f ho
    split at h
    · rename_i u hu
      obtain ⟨h1, rfl⟩ := same_inv h
      obtain ⟨e1, e2⟩ := hE x (by rw [ho]; simp [Op.operands]) _ hu
      obtain ⟨hr, hs⟩ := field_ok (ρ := ρ) e2 h1 w
      exact came_value hR (by simp [execOp, ho, e1, hr]) hs
    · cases h
  · rename_i t x y ho
    split at h
    · rename_i u u' hu hu'
      obtain ⟨h1, rfl⟩ := same_inv h
      obtain ⟨e1, e2⟩ := hE x (by rw [ho]; simp [Op.operands]) _ hu
      obtain ⟨e3, _⟩ := hE y (by rw [ho]; simp [Op.operands]) _ hu'
      obtain ⟨hr, hs⟩ := indexAt_ok (ρ := ρ) e2 h1 w
      exact came_value hR (by simp [execOp, ho, e1, e3, hr]) hs
    · cases h
  · rename_i t x lo hi mx ho
    split at h
    · exact flat_came hR hE h
    · rename_i u _ hu
      split at h
      · rename_i l hh m hl hhi hmx
        obtain ⟨h1, rfl⟩ := same_inv h
        obtain ⟨e1, e2⟩ := hE x (by rw [ho]; simp [Op.operands]) _ hu
        have f1 := evO_ok (a := a) (ρ := ρ) (σ := σ') (fun y hy v e => hE y (by rw [ho]; simp [Op.operands, hy]) v e) hl
        have f2 := evO_ok (a := a) (ρ := ρ) (σ := σ') (fun y hy v e => hE y (by rw [ho]; simp [Op.operands, hy]) v e) hhi
        have f3 := evO_ok (a := a) (ρ := ρ) (σ := σ') (fun y hy v e => hE y (by rw [ho]; simp [Op.operands, hy]) v e) hmx
        obtain ⟨hr, hs⟩ := sliceAt_ok hR e2 h1
        refine came_value hR ?_ hs
        simp only [execOp, ho, e1, f1, f2, f3, Sem.run_bind, hr, Result.andThen_ok, Sem.run_pure]
      · cases h
    · cases h
  · rename_i x i ho
    split at h
    · rename_i u hu
      obtain ⟨h1, rfl⟩ := same_inv h
      obtain ⟨e1, e2⟩ := hE x (by rw [ho]; simp [Op.operands]) _ hu
      obtain ⟨hr, hs⟩ := extract_ok (P := P) (ρ := ρ) e2 h1 w
      exact came_value hR (by simp [execOp, ho, e1, hr]) hs
    · cases h
  · rename_i fn fs cs ho
    split at h
    · rename_i u u' hu hu'
      injection h with h
      injection h with h1 h2
      subst h1 h2
      obtain ⟨e1, e2⟩ := he_all (a := a) (ρ := ρ) (σ := σ) (fun x hx => hE x (by rw [ho]; simp only [Op.operands, Array.toList_append, List.mem_append]; exact .inl hx)) hu
      obtain ⟨e3, e4⟩ := he_all (a := a) (ρ := ρ) (σ := σ) (fun x hx => hE x (by rw [ho]; simp only [Op.operands, Array.toList_append, List.mem_append]; exact .inr hx)) hu'
      refine came_value hR ?_ (sc_func e2 e4)
      have q1 : fs.map a.eval = (u.map (ren ρ)).toArray := by apply Array.ext'; rw [Array.toList_map, e1]
      have q2 : cs.map a.eval = (u'.map (ren ρ)).toArray := by apply Array.ext'; rw [Array.toList_map, e3]
      simp only [execOp, ho, q1, q2, Instr.makeFunc, ren_func, Sem.run_bind, Sem.run_pure, Result.andThen_ok, List.map_toArray]
    · cases h
  · rename_i t r ho
    split at h
    · rename_i b hb
      injection h with h
      injection h with h1 h2
      subst h1 h2
      obtain ⟨ρ', w', hr, hst, hs⟩ := makeMap_ok (P := P) hR t
      refine ⟨ρ', w', _, ?_, .inl rfl, hst, hs⟩
      cases r with
      | none => simp [execOp, ho, hr]
      | some x =>
        simp only at hb
        split at hb
        · rename_i k n hx
          split at hb
          · rename_i kt et hu
            obtain ⟨e1, _⟩ := hE x (by rw [ho]; simp [Op.operands]) _ hx
            have : Instr.makeMap t none = (do pure (.map (some (← newObj (.map #[] 0))))) := rfl
            rw [this] at hr
            simp only [execOp, ho, Option.map_some, e1, ren_int]
            unfold Instr.makeMap
            simp only [Sem.run_bind, run_underlying hu, Result.andThen_ok, asInt, asIntOf, Sem.run_pure] at hr ⊢
            rw [hr]
            rfl
          · cases hb
        · cases hb
    · cases h
  · rename_i t l c ho
    split at h
    · rename_i u u' hu hu'
      obtain ⟨e1, _⟩ := hE l (by rw [ho]; simp [Op.operands]) _ hu
      obtain ⟨e2, _⟩ := hE c (by rw [ho]; simp [Op.operands]) _ hu'
      obtain ⟨ρ', w', hr, hst, hs⟩ := makeSlice_ok hR h
      refine ⟨ρ', w', _, ?_, .inl rfl, hst, hs⟩
      simp [execOp, ho, e1, e2, hr]
    · cases h
  · rename_i t x y ok ho
    split at h
    · rename_i u u' hu hu'
      obtain ⟨h1, rfl⟩ := same_inv h
      obtain ⟨e1, _⟩ := hE x (by rw [ho]; simp [Op.operands]) _ hu
      obtain ⟨e2, _⟩ := hE y (by rw [ho]; simp [Op.operands]) _ hu'
      obtain ⟨hr, hs⟩ := lookup_ok hR h1
      exact came_value hR (by simp [execOp, ho, e1, e2, hr]) hs
    · cases h
  · rename_i t m k x ho
    split at h
    · rename_i u u' u'' hu hu' hu''
      obtain ⟨h1, rfl⟩ := none2_inv h
      obtain ⟨e1, _⟩ := hE m (by rw [ho]; simp [Op.operands]) _ hu
      obtain ⟨e2, _⟩ := hE k (by rw [ho]; simp [Op.operands]) _ hu'
      obtain ⟨e3, e4⟩ := hE x (by rw [ho]; simp [Op.operands]) _ hu''
      obtain ⟨w', hr, hst⟩ := mapPut_ok hR e4 h1
      refine ⟨ρ, w', _, ?_, .inr ⟨rfl, rfl⟩, hst, fl_undef.sc _⟩
      simp [execOp, ho, e1, e2, e3, hr]
    · cases h
  · rename_i c ho
    split at h
    · rename_i b hb
      exact builtin_came ho hb hR hE h
    · cases h
  · exact flat_came hR hE h
end

end Go.Proofs.YtckidlbmoalomaaGreatDoor


namespace Go.Proofs.YtckidlbmoalomaaGreatDoor

def callArgs (A : Fr) (c : Call) : Option (Nat × List Value) := match c.callee with
  | .value f => match ev A f with
    | some (.func (.func g) fs cs) => match evAll A c.args.toList with
      | some xs => some (g, fs.toList ++ xs ++ cs.toList)
      | none => none
    | _ => none
  | _ => none
abbrev CallA := Nat → List Value → AW → Option (Value × AW)
def stepA (call : CallA) (P : Program) (A : Fr) (σ : AW) (o : Oper) : Option (Value × AW) := match o.op with
  | .call c => match c.callee with
    | .value _ => match callArgs A c with
      | some (g, xs) => call g xs σ
      | none => none
    | _ => opA P A σ o
  | _ => opA P A σ o
def putA (A : Fr) (dst : Option Tmp) (v : Value) : Fr := match dst with
  | some d => A.set d v
  | none => A
def wantedA (all : List Oper) (A : Fr) (o : Oper) : Option Bool := match o.guard with
  | none => some true
  | some (j, want) => match all[j]? with
    | none => none
    | some x => match x.dst with
      | none => none
      | some d => match A.get d with
        | some (.bool b) => some (b == want)
        | some _ => some false
        | none => none
def guardA (call : CallA) (P : Program) (all : List Oper) (A : Fr) (σ : AW) (o : Oper) : Option (Value × AW) := match wantedA all A o with
  | some true => stepA call P A σ o
  | some false => some (undef, σ)
  | none => none
def seqA (call : CallA) (P : Program) (all : List Oper) : List Oper → Fr → AW → Option (Fr × AW)
  | [], A, σ => some (A, σ)
  | o :: l, A, σ => match guardA call P all A σ o with
    | none => none
    | some (v, σ') => seqA call P all l (putA A o.dst v) σ'

/-! ### Operations in whatever order -/
def effect : Op → Bool
  | .alloc _ | .box _ _ | .buildSlice _ _ _ | .makeSlice _ _ _ | .makeMap _ _ | .store _ _ _ | .mapUpdate _ _ _ _ => true
  | .call c => match c.callee with
    | .builtin .append | .builtin .copy => true
    | .builtin _ => false
    | _ => true
  | _ => false
def ancO (acc : List Nat) (o : Oper) : Nat := o.after.toList.foldl (fun m e => if Region.binds .any e then m ||| (2 ^ e.on) ||| getN 0 acc e.on else m) 0
def ancL : List Nat → List Oper → List Nat
  | acc, [] => acc
  | acc, o :: l => ancL (acc ++ [ancO acc o]) l
def looks (all : List Oper) (o : Oper) : List Tmp := o.op.operands.toList.filterMap (fun | .tmp t => some t | _ => none) ++ (match o.guard with
  | some (g, _) => (match all[g]? with | some x => x.dst.toList | none => [])
  | none => [])
def bitB (m i : Nat) : Bool := m.testBit i
def dstOK (all : List Oper) (an : List Nat) (o : Oper) (i : Nat) (x : Oper) (j : Nat) : Bool := match x.dst with
  | none => true
  | some d => o.dst != some d && (!(looks all o).contains d || (decide (j < i) && bitB (getN 0 an i) j) || bitB (getN 0 an j) i)
def effOK (an : List Nat) (i0 : Nat) (o : Oper) (i : Nat) (x : Oper) (j : Nat) : Bool := !effect o.op || !effect x.op || decide (i < j) || i == i0 || bitB (getN 0 an i) j
def isPush : Op → Bool
  | .alloc _ | .buildSlice _ _ _ => true
  | _ => false
def floatAt (all : List Oper) (an : List Nat) : Nat := match all.zipIdx.find? (fun (o, i) => isPush o.op && all.zipIdx.any fun (x, j) => decide (j < i) && effect x.op && !bitB (getN 0 an i) j) with
  | some (_, i) => i
  | none => all.length
def floatOK (all : List Oper) (an : List Nat) (i0 : Nat) : Bool := match all[i0]? with
  | none => true
  | some o => isPush o.op && o.guard.isNone && (match o.dst with
    | none => false
    | some d => all.zipIdx.all fun (x, p) => effect x.op || !(looks all x).contains d || all.zipIdx.all fun (y, j) => !effect y.op || !decide (j < i0) || bitB (getN 0 an p) j)
def regOK (all : List Oper) : Bool :=
  let an := ancL [] all
  (all.zipIdx.all fun (o, i) => (getN 0 an i == ancO an o) && o.after.toList.all fun e => !Region.binds .any e || decide (e.on < i)) &&
  (all.zipIdx.all fun (o, i) => all.zipIdx.all fun (x, j) => i == j || (dstOK all an o i x j && effOK an (floatAt all an) o i x j)) &&
  floatOK all an (floatAt all an) &&
  (all.all fun o => match o.op with | .select _ _ => false | _ => true)
def traceA (call : CallA) (P : Program) (all : List Oper) : List Oper → Fr → AW → Option (List (Fr × AW × Value) × Fr × AW)
  | [], A, σ => some ([], A, σ)
  | o :: l, A, σ => match guardA call P all A σ o with
    | none => none
    | some (v, σ') => match traceA call P all l (putA A o.dst v) σ' with
      | none => none
      | some (tr, r) => some ((A, σ, v) :: tr, r)
def veq0 : Value → Value → Bool
  | .bool a, .bool b => a == b
  | .int k a, .int j b => k == j && a == b
  | .string a, .string b => a.data.toList == b.data.toList
  | .pointer none, .pointer none => true
  | .pointer (some a), .pointer (some b) => a.block == b.block && a.off == b.off && a.spot == b.spot
  | .slice none l c, .slice none m d => l == m && c == d
  | .slice (some a) l c, .slice (some b) m d => a.block == b.block && a.off == b.off && a.spot == b.spot && l == m && c == d
  | .map none, .map none => true
  | .map (some a), .map (some b) => a == b
  | .nilFunc, .nilFunc => true
  | .nilIface, .nilIface => true
  | _, _ => false
def veqLs (f : Value → Value → Bool) : List Value → List Value → Bool
  | [], [] => true
  | x :: l, y :: m => f x y && veqLs f l m
  | _, _ => false
def veq1 (x y : Value) : Bool := match x, y with
  | .func (.func f) ⟨a⟩ ⟨b⟩, .func (.func g) ⟨c⟩ ⟨d⟩ => f == g && veqLs veq0 a c && veqLs veq0 b d
  | x, y => veq0 x y
def veqL : List Value → List Value → Bool := veqLs veq1
def veq2 (x y : Value) : Bool := match x, y with
  | .agg ⟨l⟩, .agg ⟨m⟩ => veqL l m
  | x, y => veq1 x y
def veq (x y : Value) : Bool := match x, y with
  | .tuple ⟨l⟩, .tuple ⟨m⟩ => veqLs veq2 l m
  | x, y => veq2 x y
def mayBe (all : List Oper) (an : List Nat) (i0 : Nat) (i f : Nat) : Bool :=
  all.zipIdx.all fun (x, j) => !effect x.op || j == i0 || ((!bitB (getN 0 an i) j || decide (j < f)) && (!bitB (getN 0 an j) i || decide (f ≤ j)))
def places (all : List Oper) : List Nat := 0 :: (all.zipIdx.filterMap fun (o, i) => if effect o.op then some (i + 1) else none)
def stOf (tr : List (Fr × AW × Value)) (σf : AW) (f : Nat) : AW := match tr[f]? with
  | some (_, σ, _) => σ
  | none => σf
def calm (call : CallA) (P : Program) (all : List Oper) (an : List Nat) (tr : List (Fr × AW × Value)) (σf : AW) : Bool :=
  (all.zip tr).zipIdx.all fun ((o, (A, _, v)), i) => effect o.op ||
    (places all).all fun f => !mayBe all an (floatAt all an) i f ||
      (match guardA call P all A (stOf tr σf f) o with
       | some (u, _) => veq u v
       | none => false)
def floatFit (all : List Oper) (i0 : Nat) (A : Fr) : Bool := match all[i0]? with
  | none => true
  | some o => match o.dst with
    | none => true
    | some d => (A.get d).isSome
def draw1 (call : CallA) (P : Program) (all : List Oper) (A : Fr) (σ : AW) : Option (Fr × AW) :=
  if regOK all && floatFit all (floatAt all (ancL [] all)) A then match traceA call P all all A σ with
    | none => none
    | some (tr, A', σ') => if calm call P all (ancL [] all) tr σ' then some (A', σ') else none
  else none
/-! Operations in another order: blocks that hang on nothing are made as late as may be. -/
def nextOp (all : List Oper) (done : List Nat) (ok : Oper → Bool) (l : List Nat) : Option Nat := l.find? fun i => match all[i]? with
  | some o => !done.contains i && ok o && o.after.toList.all fun e => !Region.binds .any e || done.contains e.on
  | none => false
def lateGo (all : List Oper) : Nat → List Nat → List Nat
  | 0, done => done
  | n + 1, done => match nextOp all done (fun o => !isPush o.op) (List.range all.length) with
    | some i => lateGo all n (done ++ [i])
    | none => match nextOp all done (fun _ => true) (List.range all.length).reverse with
      | some i => lateGo all n (done ++ [i])
      | none => done
def lateOrd (all : List Oper) : List Nat := lateGo all all.length []
def invOrd (ord : List Nat) : List Nat := (List.range ord.length).map fun i => ord.idxOf i
def renum (f : Nat → Nat) (o : Oper) : Oper := { o with guard := o.guard.map (fun p => (f p.1, p.2)), after := o.after.map fun e => { e with on := f e.on } }
def permOps (all : List Oper) (ord : List Nat) : List Oper := ord.filterMap fun i => (all[i]?).map (renum fun j => getN 0 (invOrd ord) j)
def permOK (all : List Oper) (ord : List Nat) : Bool := Nat.beq ord.length all.length && (List.range all.length).all fun i => decide (getN 0 (invOrd ord) i < all.length) && Nat.beq (getN 0 ord (getN 0 (invOrd ord) i)) i && Nat.beq (getN 0 (invOrd ord) (getN 0 ord i)) i && decide (getN 0 ord i < all.length)
def within (all : List Oper) : Bool := all.all fun o => (o.after.toList.all fun e => decide (e.on < all.length)) && (match o.guard with | some p => decide (p.1 < all.length) | none => true)
def drawA (call : CallA) (P : Program) (all : List Oper) (A : Fr) (σ : AW) : Option (Fr × AW) :=
  if regOK all then draw1 call P all A σ
  else if permOK all (lateOrd all) && within all then draw1 call P (permOps all (lateOrd all)) A σ
  else none

/-! ### Code -/
abbrev ExR := Option (Exit × Fr × AW)
abbrev ExA := Code → Fr → AW → ExR
def loopA (rec : ExA) (c : Code) : Nat → Fr → AW → ExR
  | 0, _, _ => none
  | n + 1, A, σ => match rec c A σ with
    | some (.normal, A', σ') => loopA rec c n A' σ'
    | r => r
def scopeA (rec : ExA) (c : Code) : Nat → Code → Fr → AW → ExR
  | 0, _, _, _ => none
  | n + 1, cur, A, σ => match rec cur A σ with
    | some (.goto l, A', σ') => match findLabel c l with
      | some rest => scopeA rec c n rest A' σ'
      | none => none
    | r => r
def resultOne (P : Program) (A : Fr) (σ : AW) : ResultVar → Option Value
  | .tmp t => A.get t
  | .cell a t => match A.get a with
    | some (.pointer (some ad)) => loadA P σ t ad
    | _ => none
def resultsA (P : Program) (A : Fr) (σ : AW) : List ResultVar → Option (List Value)
  | [] => some []
  | r :: l => match resultOne P A σ r with
    | none => none
    | some v => match resultsA P A σ l with
      | none => none
      | some vs => some (v :: vs)
def resultA (vs : List Value) : Value := match vs with
  | [v] => v
  | l => .tuple l.toArray
def callA (X : CallA) (rec : ExA) (P : Program) : CallA := fun g xs σ =>
  match X g xs σ with
  | some r => some r
  | none => match P.funcs[g]? with
    | none => none
    | some fn => match fn.body with
      | none => none
      | some c => if xs.length ≤ fn.ntmps then match rec c ((Fr.new fn.ntmps).fill 0 xs) σ with
        | some (.normal, A, σ') | some (.ret, A, σ') => match resultsA P A σ' fn.results.toList with
          | some vs => some (resultA vs, σ')
          | none => none
        | _ => none
        else none
def exB (X : CallA) (P : Program) (rec : ExA) : ExA := fun c A σ => match c with
  | .skip | .label _ => some (.normal, A, σ)
  | .region _ ops false => match seqA (callA X rec P) P ops.toList ops.toList A σ with
    | some (A', σ') => some (.normal, A', σ')
    | none => none
  | .region _ ops true => match drawA (callA X rec P) P ops.toList A σ with
    | some (A', σ') => some (.normal, A', σ')
    | none => none
  | .seq x y => match rec x A σ with
    | some (.normal, A', σ') => rec y A' σ'
    | r => r
  | .cond c x y => match ev A c with
    | some (.bool b) => rec (if b then x else y) A σ
    | _ => none
  | .block id c => match rec c A σ with
    | some (.exit i, A', σ') => if i = id then some (.normal, A', σ') else some (.exit i, A', σ')
    | r => r
  | .loop c => loopA rec c 100000 A σ
  | .exit id => some (.exit id, A, σ)
  | .scope c => scopeA rec c 100000 c A σ
  | .goto l => some (.goto l, A, σ)
  | .ret => some (.ret, A, σ)
  | _ => none
def ex (X : CallA) (P : Program) : Nat → ExA
  | 0 => fun _ _ _ => none
  | n + 1 => exB X P (ex X P n)
def runA (X : CallA) (P : Program) (n : Nat) : CallA := callA X (ex X P n) P
def AW0 : AW := ⟨0, []⟩

end Go.Proofs.YtckidlbmoalomaaGreatDoor


namespace Go.Proofs.YtckidlbmoalomaaGreatDoor

def CallOK (P : Program) (call : CallA) : Prop := ∀ g xs σ v σ', call g xs σ = some (v, σ') → (∀ args w, (callFunc g args).run P w = .ok (.enter g args) w) ∧
  ∀ ρ w, Rel ρ σ w → (∀ x ∈ xs, Sc σ.dom x) → Calls P g (xs.map (ren ρ)).toArray w fun e w' => ∃ ρ', e = .returned (ren ρ' v) ∧ Step ρ σ w ρ' σ' w' ∧ Sc σ'.dom v
def Ok (P : Program) (g : Nat) (xs : List Value) (σ : AW) (v : Value) (σ' : AW) : Prop := (∀ args w, (callFunc g args).run P w = .ok (.enter g args) w) ∧
  ∀ ρ w, Rel ρ σ w → (∀ x ∈ xs, Sc σ.dom x) → Calls P g (xs.map (ren ρ)).toArray w fun e w' => ∃ ρ', e = .returned (ren ρ' v) ∧ Step ρ σ w ρ' σ' w' ∧ Sc σ'.dom v
def StR (P : Program) (A : Fr) (σ : AW) (o : Oper) (v : Value) (σ' : AW) : Prop := match o.op with
  | .call c => match c.callee with
    | .value _ => ∃ g xs, callArgs A c = some (g, xs) ∧ Ok P g xs σ v σ'
    | _ => opA P A σ o = some (v, σ')
  | _ => opA P A σ o = some (v, σ')
def Gd (P : Program) (all : List Oper) (A : Fr) (σ : AW) (o : Oper) (v : Value) (σ' : AW) : Prop := match wantedA all A o with
  | some true => StR P A σ o v σ'
  | some false => v = undef ∧ σ' = σ
  | none => False
theorem gd_of_guard {P : Program} {call : CallA} (hC : CallOK P call) {all : List Oper} {A : Fr} {σ σ' : AW} {o : Oper} {v : Value} (h : guardA call P all A σ o = some (v, σ')) : Gd P all A σ o v σ' := by
  unfold guardA at h
  unfold Gd
  cases hw : wantedA all A o with
  | none => rw [hw] at h; cases h
  | some b =>
    rw [hw] at h
    cases b with
    | false =>
      injection h with h
      injection h with h1 h2
      exact ⟨h1.symm, h2.symm⟩
    | true =>
      simp only at h ⊢
      unfold stepA at h
      unfold StR
      cases ho : o.op with
      | call c =>
        rw [ho] at h
        simp only at h ⊢
        cases hf : c.callee with
        | value f =>
          rw [hf] at h
          simp only at h ⊢
          split at h
          · rename_i g xs hx
            exact ⟨g, xs, hx, hC _ _ _ _ _ h⟩
          · cases h
        | _ => rw [hf] at h; exact h
      | _ => rw [ho] at h; exact h

section
variable {P : Program} {call : CallA} {ρ ρ' : Rn} {σ σ' : AW} {w w' : World} {A : Fr} {a : Act} {o : Oper} {v : Value} {K : Act → World → Prop} {Q : Exit → Act → World → Prop}
theorem came_wp (h : Came P o a ρ σ w v σ') (hK : ∀ ρ' w', Step ρ σ w ρ' σ' w' → Sc σ'.dom v → K (a.put o.dst (ren ρ' v)) w') : o.wp P a w K Q := by
  obtain ⟨ρ', w', n, hr, hn, hst, hs⟩ := h
  unfold Oper.wp
  rw [hr]
  rcases hn with rfl | ⟨rfl, rfl⟩
  · exact hK ρ' w' hst hs
  · have := hK ρ' w' hst hs
    rw [fl_undef ρ'] at this
    exact this
theorem str_wp (hR : Rel ρ σ w) (hE : HE ρ σ A a o.op.operands.toList) (h : StR P A σ o v σ') (hK : ∀ ρ' w', Step ρ σ w ρ' σ' w' → Sc σ'.dom v → K (a.put o.dst (ren ρ' v)) w') : o.wp P a w K Q := by
  unfold StR at h
  split at h
  · rename_i c ho
    split at h
    · rename_i f hf
      · obtain ⟨g, xs, hx, hok⟩ := h
        unfold callArgs at hx
        rw [hf] at hx
        simp only at hx
        split at hx
        · rename_i g' fs cs hfv
          split at hx
          · rename_i ys hys
            injection hx with hx
            injection hx with q1 q2
            subst q1 q2
            have hops : o.op.operands.toList = f :: c.args.toList := by rw [ho]; simp [Op.operands, Call.operands, hf]
            rw [hops] at hE
            obtain ⟨e1, e2⟩ := hE f (List.mem_cons_self ..) _ hfv
            obtain ⟨e3, e4⟩ := he_all (a := a) (ρ := ρ) (σ := σ) (fun x hx => hE x (List.mem_cons_of_mem _ hx)) hys
            obtain ⟨e5, e6⟩ := of_sc_func e2
            obtain ⟨hent, hcall⟩ := hok
            have hargs : c.args.map a.eval = (ys.map (ren ρ)).toArray := by apply Array.ext'; rw [Array.toList_map, e3]
            have hrun : (execOp a.eval o).run P w = .ok (.enter g' ((fs.toList ++ ys ++ cs.toList).map (ren ρ)).toArray) w := by
              simp only [execOp, ho, resolve, hf, e1, ren_func, Deferred.ofValue, Sem.run_bind, Sem.run_pure, Result.andThen_ok, invoke, hent, hargs]
              congr 2
              apply Array.ext'
              simp
            unfold Oper.wp
            rw [hrun]
            refine Calls.mono (hcall ρ w hR (fun x hx => ?_)) ?_
            · simp only [List.mem_append] at hx
              rcases hx with (hx | hx) | hx
              · exact e5 x hx
              · exact e4 x hx
              · exact e6 x hx
            · rintro e w'' ⟨ρ', rfl, hst, hs⟩
              exact hK ρ' w'' hst hs
          · cases hx
        · cases hx
    · exact came_wp (opA_came hR hE h) hK
  · exact came_wp (opA_came hR hE h) hK

theorem TR.step (h : TR ρ σ A a) (hs : Step ρ σ w ρ' σ' w') : TR ρ' σ' A a :=
  ⟨h.size, fun t v e => by rw [hs.ren (h.sc t v e)]; exact h.tmps t v e, fun t v e => hs.sc (h.sc t v e), h.defers⟩
theorem TR.put (h : TR ρ σ A a) (hv : Sc σ.dom v) (dst : Option Tmp) : TR ρ σ (putA A dst v) (a.put dst (ren ρ v)) := by
  cases dst with
  | none => exact h
  | some d =>
    have hsz : (A.set d v).size = A.size := rfl
    refine ⟨by simp [Act.put, putA, hsz, h.size], fun t u e => ?_, fun t u e => ?_, h.defers⟩
    · simp only [putA, Fr.get_set] at e
      simp only [Act.put]
      by_cases ht : t = d
      · rw [if_pos ht, Option.map_eq_some_iff] at e
        obtain ⟨x, hx, rfl⟩ := e
        subst ht
        have := h.tmps t x hx
        have hlt : t < a.tmps.size := (Array.getElem?_eq_some_iff.1 this).1
        simp [hlt]
      · rw [if_neg ht] at e
        rw [Array.getElem?_setIfInBounds_ne (Ne.symm ht)]
        exact h.tmps t u e
    · simp only [putA, Fr.get_set] at e
      by_cases ht : t = d
      · rw [if_pos ht, Option.map_eq_some_iff] at e
        obtain ⟨x, _, rfl⟩ := e
        exact hv
      · rw [if_neg ht] at e
        exact h.sc t u e
theorem wanted_ok {all : List Oper} {ops : Array Oper} (hops : ops.toList = all) (hg : ∀ g b x d v, o.guard = some (g, b) → all[g]? = some x → x.dst = some d → A.get d = some v → a.tmps[d]? = some (ren ρ v)) {b : Bool} (h : wantedA all A o = some b) :
    Region.wanted o (yielded ops a.tmps) = b := by
  unfold wantedA at h
  unfold Region.wanted
  cases hgd : o.guard with
  | none => rw [hgd] at h; injection h
  | some p =>
    obtain ⟨g, want⟩ := p
    rw [hgd] at h
    simp only at h
    have hall : ops[g]? = all[g]? := by rw [← hops]; simp
    cases hx : all[g]? with
    | none => rw [hx] at h; cases h
    | some x =>
      rw [hx] at h
      simp only at h
      cases hd : x.dst with
      | none => rw [hd] at h; cases h
      | some d =>
        rw [hd] at h
        simp only at h
        cases hv : A.get d with
        | none => rw [hv] at h; cases h
        | some v =>
          have h2 := hg g want x d v hgd hx hd hv
          simp only [yielded, hall, hx, Option.bind_some, hd, h2]
          rw [hv] at h
          cases v with
          | bool c => simp only [Option.some.injEq] at h; subst h; rfl
          | agg c => rw [ren_agg]; injection h
          | tuple c => rw [ren_tuple]; injection h
          | func f c d => rw [ren_func]; injection h
          | _ => injection h
theorem gd_wp {all : List Oper} {ops : Array Oper} (hops : ops.toList = all) (hR : Rel ρ σ w) (hE : HE ρ σ A a o.op.operands.toList)
    (hg : ∀ g b x d v, o.guard = some (g, b) → all[g]? = some x → x.dst = some d → A.get d = some v → a.tmps[d]? = some (ren ρ v))
    (h : Gd P all A σ o v σ') (hK : ∀ ρ' w', Step ρ σ w ρ' σ' w' → Sc σ'.dom v → K (a.put o.dst (ren ρ' v)) w') :
    if Region.wanted o (yielded ops a.tmps) then o.wp P a w K Q ∨ (o.asks P a w ∧ LetsOut Q) else K (a.put o.dst undef) w := by
  unfold Gd at h
  split at h
  · rename_i hw
    rw [wanted_ok hops hg hw]
    exact .inl (str_wp hR hE h hK)
  · rename_i hw
    rw [wanted_ok hops hg hw]
    obtain ⟨h1, h2⟩ := h
    subst h1 h2
    have := hK ρ w (Step.refl hR) (fl_undef.sc _)
    rw [fl_undef ρ] at this
    exact this
  · exact h.elim
def Ops (P : Program) (all : List Oper) : List Oper → Fr → AW → (Fr → AW → Prop) → Prop
  | [], A, σ, K => K A σ
  | o :: l, A, σ, K => ∃ v σ', Gd P all A σ o v σ' ∧ Ops P all l (putA A o.dst v) σ' K
theorem seqA_wp {all : List Oper} {ops : Array Oper} (hops : ops.toList = all) (hC : CallOK P call) : ∀ {l : List Oper} {A A' : Fr} {σ σ' : AW} {ρ : Rn} {a : Act} {w : World}, Rel ρ σ w → TR ρ σ A a → seqA call P all l A σ = some (A', σ') →
    (∀ ρ' a' w', Step ρ σ w ρ' σ' w' → TR ρ' σ' A' a' → Q .normal a' w') → wpList P ops Q l a w
  | [], A, A', σ, σ', ρ, a, w, hR, hT, h, hK => by
    injection h with h
    injection h with h1 h2
    subst h1 h2
    exact hK ρ a w (Step.refl hR) hT
  | o :: l, A, A', σ, σ', ρ, a, w, hR, hT, h, hK => by
    unfold seqA at h
    split at h
    · cases h
    · rename_i v σ1 hg
      unfold wpList
      refine gd_wp (Q := Q) hops hR (hT.he _) (fun g b x d v _ _ _ hv => hT.tmps d v hv) (gd_of_guard hC hg) (fun ρ1 w1 hst hs => ?_)
      exact seqA_wp hops hC hst.rel ((hT.step hst).put hs o.dst) h (fun ρ2 a2 w2 hst2 hT2 => hK ρ2 a2 w2 (hst.trans hst2) hT2)
end

end Go.Proofs.YtckidlbmoalomaaGreatDoor


namespace Go.Proofs.YtckidlbmoalomaaGreatDoor

section
variable {P : Program} {call : CallA}
def stAt (tr : List (Fr × AW × Value)) (Af : Fr) (σf : AW) (i : Nat) : Fr × AW := match tr[i]? with
  | some (A, σ, _) => (A, σ)
  | none => (Af, σf)
theorem trace_at {all : List Oper} : ∀ {l : List Oper} {A Af : Fr} {σ σf : AW} {tr : List (Fr × AW × Value)}, traceA call P all l A σ = some (tr, Af, σf) →
    tr.length = l.length ∧ stAt tr Af σf 0 = (A, σ) ∧ ∀ i o, l[i]? = some o → ∃ v, tr[i]? = some ((stAt tr Af σf i).1, (stAt tr Af σf i).2, v) ∧ guardA call P all (stAt tr Af σf i).1 (stAt tr Af σf i).2 o = some (v, (stAt tr Af σf (i + 1)).2) ∧ (stAt tr Af σf (i + 1)).1 = putA (stAt tr Af σf i).1 o.dst v
  | [], A, Af, σ, σf, tr, h => by
    injection h with h
    injection h with h1 h2
    injection h2 with h2 h3
    subst h1 h2 h3
    exact ⟨rfl, rfl, fun i o h => by cases h⟩
  | o :: l, A, Af, σ, σf, tr, h => by
    unfold traceA at h
    split at h
    · cases h
    · rename_i v σ1 hg
      split at h
      · cases h
      · rename_i tr1 r hr
        injection h with h
        injection h with h1 h2
        subst h1 h2
        obtain ⟨l1, l2, l3⟩ := trace_at hr
        refine ⟨by simp [l1], rfl, fun i o' hi => ?_⟩
        cases i with
        | zero =>
          injection hi with hi
          subst hi
          have e : stAt ((A, σ, v) :: tr1) Af σf (0 + 1) = stAt tr1 Af σf 0 := rfl
          rw [e, l2]
          exact ⟨v, rfl, hg, rfl⟩
        | succ i => exact l3 i o' hi

def TraceR (P : Program) (all : List Oper) (tr : List (Fr × AW × Value)) (A0 Af : Fr) (σ0 σf : AW) : Prop :=
  tr.length = all.length ∧ stAt tr Af σf 0 = (A0, σ0) ∧ ∀ i o, all[i]? = some o → ∃ v, tr[i]? = some ((stAt tr Af σf i).1, (stAt tr Af σf i).2, v) ∧ Gd P all (stAt tr Af σf i).1 (stAt tr Af σf i).2 o v (stAt tr Af σf (i + 1)).2 ∧ (stAt tr Af σf (i + 1)).1 = putA (stAt tr Af σf i).1 o.dst v
theorem trace_r {all : List Oper} (hC : CallOK P call) {A Af : Fr} {σ σf : AW} {tr : List (Fr × AW × Value)} (h : traceA call P all all A σ = some (tr, Af, σf)) : TraceR P all tr A Af σ σf := by
  obtain ⟨h1, h2, h3⟩ := trace_at h
  refine ⟨h1, h2, fun i o hi => ?_⟩
  obtain ⟨v, a, b, c⟩ := h3 i o hi
  exact ⟨v, a, gd_of_guard hC b, c⟩

theorem all_zip {α : Type} {l : List α} {p : α × Nat → Bool} (h : l.zipIdx.all p = true) {i : Nat} {x : α} (hi : l[i]? = some x) : p (x, i) = true := by
  refine List.all_eq_true.1 h (x, i) ?_
  rw [List.mem_iff_getElem?]
  exact ⟨i, by simp [hi]⟩
theorem or_bits (g : Nat → Nat) (j : Nat) : ∀ (es : List Edge) (m : Nat), Nat.testBit (es.foldl (fun m e => if Region.binds .any e then m ||| (2 ^ e.on) ||| g e.on else m) m) j = true → Nat.testBit m j = true ∨ ∃ e ∈ es, Region.binds .any e = true ∧ (e.on = j ∨ Nat.testBit (g e.on) j = true)
  | [], m, h => .inl h
  | e :: es, m, h => by
    rw [List.foldl_cons] at h
    rcases or_bits g j es _ h with h1 | ⟨e', he, hb, hj⟩
    · by_cases hb : Region.binds .any e = true
      · rw [if_pos hb, Nat.testBit_or, Nat.testBit_or, Bool.or_eq_true, Bool.or_eq_true] at h1
        rcases h1 with (h1 | h1) | h1
        · exact .inl h1
        · rw [Nat.testBit_two_pow] at h1
          exact .inr ⟨e, List.mem_cons_self .., hb, .inl (of_decide_eq_true h1)⟩
        · exact .inr ⟨e, List.mem_cons_self .., hb, .inr h1⟩
      · rw [if_neg hb] at h1
        exact .inl h1
    · exact .inr ⟨e', List.mem_cons_of_mem _ he, hb, hj⟩

structure RegC (all : List Oper) (an : List Nat) (i0 : Nat) : Prop where
  anc : ∀ (i : Nat) (o : Oper) (j : Nat), all[i]? = some o → bitB (getN 0 an i) j = true → ∃ e ∈ o.after.toList, Region.binds .any e = true ∧ (e.on = j ∨ bitB (getN 0 an e.on) j = true)
  less : ∀ (i : Nat) (o : Oper) (e : Edge), all[i]? = some o → e ∈ o.after.toList → Region.binds .any e = true → e.on < i
  once : ∀ (i j : Nat) (o x : Oper) (d : Tmp), all[i]? = some o → all[j]? = some x → i ≠ j → x.dst = some d → o.dst ≠ some d
  look : ∀ (i j : Nat) (o x : Oper) (d : Tmp), all[i]? = some o → all[j]? = some x → i ≠ j → x.dst = some d → d ∈ looks all o → (j < i ∧ bitB (getN 0 an i) j = true) ∨ bitB (getN 0 an j) i = true
  chain : ∀ (i j : Nat) (o x : Oper), all[i]? = some o → all[j]? = some x → j < i → i ≠ i0 → effect o.op = true → effect x.op = true → bitB (getN 0 an i) j = true
  float : ∀ o : Oper, all[i0]? = some o → ∃ d, isPush o.op = true ∧ o.guard = none ∧ o.dst = some d ∧ ∀ (j : Nat) (x : Oper), all[j]? = some x → effect x.op = false → d ∈ looks all x → ∀ (k : Nat) (y : Oper), all[k]? = some y → effect y.op = true → k < i0 → bitB (getN 0 an j) k = true
theorem regOK_c {all : List Oper} (h : regOK all = true) : RegC all (ancL [] all) (floatAt all (ancL [] all)) := by
  unfold regOK at h
  simp only [Bool.and_eq_true] at h
  obtain ⟨⟨⟨h1, h2⟩, hfl⟩, h3⟩ := h
  have h1' : ∀ i o, all[i]? = some o → getN 0 (ancL [] all) i = ancO (ancL [] all) o ∧ ∀ e ∈ o.after.toList, Region.binds .any e = true → e.on < i := fun i o hi => by
    have := all_zip h1 hi
    simp only [Bool.and_eq_true, beq_iff_eq, List.all_eq_true] at this
    refine ⟨this.1, fun e he hb => ?_⟩
    have q := this.2 e he
    rw [hb] at q
    simpa using q
  have h2' : ∀ i j o x, all[i]? = some o → all[j]? = some x → i ≠ j → dstOK all (ancL [] all) o i x j = true ∧ effOK (ancL [] all) (floatAt all (ancL [] all)) o i x j = true := fun i j o x hi hj hne => by
    have := all_zip (all_zip h2 hi) hj
    simp only [Bool.or_eq_true, beq_iff_eq, hne, false_or, Bool.and_eq_true] at this
    exact this
  refine ⟨fun i o j hi hb => ?_, fun i o e hi he hb => (h1' i o hi).2 e he hb, fun i j o x d hi hj hne hd => ?_, fun i j o x d hi hj hne hd hm => ?_, fun i j o x hi hj hlt hi0 ho hx => ?_, fun o ho => ?_⟩
  · rw [(h1' i o hi).1] at hb
    rcases or_bits _ j _ 0 hb with h | h
    · simp at h
    · exact h
  · have := (h2' i j o x hi hj hne).1
    unfold dstOK at this
    rw [hd] at this
    simp only [Bool.and_eq_true, bne_iff_ne, ne_eq] at this
    exact this.1
  · have := (h2' i j o x hi hj hne).1
    unfold dstOK at this
    rw [hd] at this
    simp only [Bool.and_eq_true, Bool.or_eq_true, Bool.not_eq_true', decide_eq_true_eq] at this
    rcases this.2 with (q | q) | q
    · have hc : (looks all o).contains d = true := List.contains_iff_mem.2 hm
      rw [hc] at q; cases q
    · exact .inl q
    · exact .inr q
  · have := (h2' i j o x hi hj (by omega)).2
    unfold effOK at this
    rw [ho, hx] at this
    simp only [Bool.not_true, Bool.false_or, Bool.or_eq_true, decide_eq_true_eq, beq_iff_eq] at this
    rcases this with (q | q) | q
    · omega
    · exact absurd q hi0
    · exact q
  · unfold floatOK at hfl
    rw [ho] at hfl
    simp only [Bool.and_eq_true] at hfl
    obtain ⟨⟨ha, hg⟩, hd⟩ := hfl
    cases hdst : o.dst with
    | none => rw [hdst] at hd; cases hd
    | some d =>
      rw [hdst] at hd
      refine ⟨d, ha, Option.isNone_iff_eq_none.1 hg, rfl, fun j x hj he hm k y hk hy hki => ?_⟩
      have := all_zip hd hj
      simp only [he, List.contains_iff_mem.2 hm, Bool.false_or, Bool.not_true] at this
      have := all_zip this hk
      simp only [hy, hki, Bool.not_true, Bool.false_or, decide_true] at this
      exact this

def listed (L : Array Bool) (j : Nat) : Prop := L.getD j false = true
structure Closed (all : List Oper) (L : Array Bool) : Prop where
  size : L.size = all.length
  closed : ∀ i o, all[i]? = some o → listed L i → ∀ e ∈ o.after.toList, Region.binds .any e = true → listed L e.on
theorem listed_lt {all : List Oper} {L : Array Bool} (h : Closed all L) {j : Nat} (hj : listed L j) : ∃ o, all[j]? = some o := by
  unfold listed at hj
  have : j < L.size := by
    rcases Nat.lt_or_ge j L.size with h' | h'
    · exact h'
    · simp [Array.getElem?_eq_none h'] at hj
  rw [h.size] at this
  exact ⟨all[j], List.getElem?_eq_getElem this⟩
theorem anc_listed {all : List Oper} {an : List Nat} {i0 : Nat} (hc : RegC all an i0) {L : Array Bool} (hL : Closed all L) : ∀ (i j : Nat) (o : Oper), all[i]? = some o → (listed L i ∨ ∀ e ∈ o.after.toList, Region.binds .any e = true → listed L e.on) → bitB (getN 0 an i) j = true → listed L j ∧ j < i := by
  intro i
  induction i using Nat.strongRecOn with
  | _ i ih =>
    intro j o ho hl hb
    obtain ⟨e, he, hbd, hj⟩ := hc.anc i o j ho hb
    have hlt := hc.less i o e ho he hbd
    have hel : listed L e.on := by
      rcases hl with hl | hl
      · exact hL.closed i o ho hl e he hbd
      · exact hl e he hbd
    rcases hj with rfl | hj
    · exact ⟨hel, hlt⟩
    · obtain ⟨o', ho'⟩ := listed_lt hL hel
      obtain ⟨h1, h2⟩ := ih e.on hlt j o' ho' (.inl hel) hj
      exact ⟨h1, by omega⟩
theorem set_listed {all : List Oper} {L : Array Bool} (hL : Closed all L) {i : Nat} {o : Oper} (ho : all[i]? = some o) (j : Nat) : listed (L.setIfInBounds i true) j ↔ j = i ∨ listed L j := by
  have hi : i < L.size := by rw [hL.size]; exact (List.getElem?_eq_some_iff.1 ho).1
  unfold listed
  by_cases e : j = i
  · subst e; simp [hi]
  · rw [getD_set_ne false (Ne.symm e)]
    simp [e]
end

end Go.Proofs.YtckidlbmoalomaaGreatDoor
