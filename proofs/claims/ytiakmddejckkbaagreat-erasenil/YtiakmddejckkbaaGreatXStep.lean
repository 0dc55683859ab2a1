/- Runs of closed code, reckoned: one operation. -/
import Derived.Test.YtiakmddejckkbaaGreatXFast
namespace Go.Proofs.YtiakmddejckkbaaGreat

theorem TR.he {ρ : Rn} {σ : AW} {A : Fr} {a : Act} (h : TR ρ σ A a) (xs : List Operand) : HE ρ σ A a xs := fun _ _ _ e => ev_ok h e
theorem he_all {ρ : Rn} {σ : AW} {A : Fr} {a : Act} : ∀ {l : List Operand} {vs : List Value}, HE ρ σ A a l → evAll A l = some vs → l.map a.eval = vs.map (ren ρ) ∧ ∀ v ∈ vs, Sc σ.dom v
  | [], vs, _, e => by injection e with e; subst e; exact ⟨rfl, fun v hv => by cases hv⟩
  | x :: l, vs, h, e => by
    simp only [evAll] at e
    split at e
    · cases e
    · rename_i v hv
      split at e
      · cases e
      · rename_i us hus
        injection e with e
        subst e
        obtain ⟨h1, h2⟩ := h x (List.mem_cons_self ..) v hv
        obtain ⟨h3, h4⟩ := he_all (fun y hy => h y (List.mem_cons_of_mem _ hy)) hus
        refine ⟨by rw [List.map_cons, List.map_cons, h1, h3], fun u hu => ?_⟩
        cases hu with
        | head => exact h2
        | tail _ hu => exact h4 u hu
theorem he_flat {ρ : Rn} {σ : AW} {A : Fr} {a : Act} {o : Oper} (h : HE ρ σ A a o.op.operands.toList) (hf : flatOp A o = true) : execOp a.eval o = execOp (evF A) o := by
  refine execOp_congr o (fun cs b e => by simp [flatOp, e] at hf) fun x hx => ?_
  have hf : (o.op.operands.toList.all fun x => match ev A x with | some v => flatB v | none => false) = true := by
    unfold flatOp at hf
    split at hf
    · cases hf
    · exact hf
  have hm : x ∈ o.op.operands.toList := by simpa using hx
  have := List.all_eq_true.1 hf x hm
  unfold evF
  cases he : ev A x with
  | none => rw [he] at this; cases this
  | some v =>
    rw [he] at this
    rw [(h x hm v he).1]
    exact flatB_fl this ρ

/-- An operation over values that name no block. -/
def flatA (P : Program) (A : Fr) (σ : AW) (o : Oper) : Option (Value × AW) :=
  if flatOp A o then match pureRun P (execOp (evF A) o) with
    | some (.value v) => if flatB v then some (v, σ) else none
    | _ => none
  else none
def evO (A : Fr) : Option Operand → Option (Option Value)
  | none => some none
  | some x => match ev A x with
    | none => none
    | some v => some (some v)
/-- A value that stays as it is. -/
def same (σ : AW) (v : Option Value) : Option (Value × AW) := match v with
  | none => none
  | some v => some (v, σ)
def none2 (σ : Option AW) : Option (Value × AW) := match σ with
  | none => none
  | some σ => some (undef, σ)
/-- A builtin function. -/
def builtinA (P : Program) (A : Fr) (σ : AW) (o : Oper) (b : Builtin) (ts : Array TypeId) (xs : Array Operand) : Option (Value × AW) := match b with
  | .append => match ts.toList, evAll A xs.toList with
    | [t, tx], some [s, x] => appendA P σ t tx s x
    | _, _ => none
  | .copy => match ts.toList, evAll A xs.toList with
    | [t, _], some [d, x] => copyA P σ t d x
    | _, _ => none
  | .len => match ts.toList, evAll A xs.toList with
    | [t], some [x] => same σ (lenA P σ t x)
    | _, _ => none
  | _ => flatA P A σ o
/-- One operation; not a call of a function of the program. -/
def opA (P : Program) (A : Fr) (σ : AW) (o : Oper) : Option (Value × AW) := match o.op with
  | .move x | .assign x => same σ (ev A x)
  | .pick c x y => match ev A c with
    | some (.bool true) => same σ (ev A x)
    | some (.bool false) => same σ (ev A y)
    | _ => none
  | .alloc t => match zeroOf P t with
    | some z => some (.pointer (some ⟨σ.next, 0, none⟩), σ.push ⟨1, t, 0, cellsL z⟩)
    | none => none
  | .box t x => match ev A x with
    | some v => some (.pointer (some ⟨σ.next, 0, none⟩), σ.push ⟨1, t, 0, cellsL v⟩)
    | none => none
  | .build t ps => match evParts A ps.toList with
    | some vs => same σ (buildA P t vs)
    | none => none
  | .buildSlice t len ps => match evParts A ps.toList with
    | some vs => buildSliceA P σ t len vs
    | none => none
  | .load t x => match ev A x with
    | some (.pointer (some a)) => same σ (loadA P σ t a)
    | _ => none
  | .store t x y => match ev A x with
    | some (.pointer (some a)) => match ev A y with
      | some v => none2 (storeA P σ t a v)
      | none => none
    | _ => none
  | .nilCheck x => match ev A x with
    | some (.pointer (some a)) => some (.pointer (some a), σ)
    | _ => none
  | .binOp op t x y _ => match ev A x, ev A y with
    | some u, some v => match fastB op u v with
      | some r => some (r, σ)
      | none => match op with
        | .eql => (match nilA P t u v with
          | some b => some (.bool b, σ)
          | none => flatA P A σ o)
        | .neq => (match nilA P t u v with
          | some b => some (.bool (!b), σ)
          | none => flatA P A σ o)
        | _ => flatA P A σ o
    | _, _ => none
  | .unOp op _ x => match op, ev A x with
    | .not, some (.bool b) => some (.bool (!b), σ)
    | _, _ => flatA P A σ o
  | .index t x y => match ev A x, ev A y with
    | some u, some v => match byteAt P t u v with
      | some r => some (r, σ)
      | none => flatA P A σ o
    | _, _ => none
  | .convert s d x => match ev A x with
    | some (.slice u l c) => same σ (textA P σ s d (.slice u l c))
    | _ => flatA P A σ o
  | .fieldAddr s x f => match ev A x with
    | some v => same σ (fieldAtA P s v f)
    | none => none
  | .field s x f => match ev A x with
    | some v => same σ (fieldA P s v f)
    | none => none
  | .indexAddr t x y => match ev A x, ev A y with
    | some u, some v => same σ (indexAtA P t u v)
    | _, _ => none
  | .slice t x lo hi mx => match ev A x with
    | some (.string _) => flatA P A σ o
    | some u => match evO A lo, evO A hi, evO A mx with
      | some l, some h, some m => same σ (sliceA P σ t u l h m)
      | _, _, _ => none
    | none => none
  | .extract x i => match ev A x with
    | some v => same σ (extractA v i)
    | none => none
  | .makeFunc fn fs cs => match evAll A fs.toList, evAll A cs.toList with
    | some u, some v => some (.func fn u.toArray v.toArray, σ)
    | _, _ => none
  | .makeMap t r => match (match r with
      | none => some true
      | some x => match ev A x with
        | some (.int _ _) => (match P.underlying t with | some (.map _ _) => some true | _ => none)
        | _ => none : Option Bool) with
    | some _ => some (.map (some σ.next), σ.push ⟨3, 0, 0, []⟩)
    | none => none
  | .makeSlice t l c => match ev A l, ev A c with
    | some u, some v => makeSliceA P σ t u v
    | _, _ => none
  | .lookup t x y ok => match ev A x, ev A y with
    | some u, some v => same σ (lookupA P σ t u v ok)
    | _, _ => none
  | .mapUpdate t m k x => match ev A m, ev A k, ev A x with
    | some u, some v, some y => none2 (mapPutA P σ t u v y)
    | _, _, _ => none
  | .call c => match c.callee with
    | .builtin b => builtinA P A σ o b c.argTypes c.args
    | _ => none
  | _ => flatA P A σ o

/-- What an operation comes to. -/
def Came (P : Program) (o : Oper) (a : Act) (ρ : Rn) (σ : AW) (w : World) (v : Value) (σ' : AW) : Prop :=
  ∃ ρ' w' n, (execOp a.eval o).run P w = .ok n w' ∧ (n = .value (ren ρ' v) ∨ (n = .skip ∧ v = undef)) ∧ Step ρ σ w ρ' σ' w' ∧ Sc σ'.dom v
section
variable {P : Program} {ρ : Rn} {σ σ' : AW} {w : World} {A : Fr} {a : Act} {o : Oper} {v : Value}
theorem came_value {r : Value} (hR : Rel ρ σ w) (h : (execOp a.eval o).run P w = .ok (.value (ren ρ r)) w) (hs : Sc σ.dom r) : Came P o a ρ σ w r σ :=
  ⟨ρ, w, _, h, .inl rfl, Step.refl hR, hs⟩
theorem flat_came (hR : Rel ρ σ w) (hE : HE ρ σ A a o.op.operands.toList) (h : flatA P A σ o = some (v, σ')) : Came P o a ρ σ w v σ' := by
  unfold flatA at h
  split at h
  · rename_i hf
    split at h
    · rename_i u hu
      split at h
      · rename_i hfl
        injection h with h
        injection h with h1 h2
        subst h1 h2
        have hr := pureRun_run hu w
        rw [← he_flat hE hf] at hr
        refine came_value hR ?_ ((flatB_fl hfl).sc _)
        rw [flatB_fl hfl ρ]
        exact hr
      · cases h
    · cases h
  · cases h
theorem same_inv {r : Option Value} (h : same σ r = some (v, σ')) : r = some v ∧ σ' = σ := by
  unfold same at h
  split at h
  · cases h
  · injection h with h
    injection h with h1 h2
    subst h1
    exact ⟨rfl, h2.symm⟩
theorem none2_inv {r : Option AW} (h : none2 r = some (v, σ')) : r = some σ' ∧ v = undef := by
  unfold none2 at h
  split at h
  · cases h
  · injection h with h
    injection h with h1 h2
    subst h2
    exact ⟨rfl, h1.symm⟩
theorem evO_ok {A : Fr} {x : Option Operand} {v : Option Value} (hE : ∀ y, x = some y → ∀ v, ev A y = some v → a.eval y = ren ρ v ∧ Sc σ.dom v) (h : evO A x = some v) : x.map a.eval = v.map (ren ρ) := by
  unfold evO at h
  split at h
  · injection h with h; subst h; rfl
  · rename_i y
    split at h
    · cases h
    · rename_i u hu
      injection h with h
      subst h
      simp [(hE y rfl u hu).1]
theorem builtin_came {c : Call} {b : Builtin} (ho : o.op = .call c) (hc : c.callee = .builtin b) (hR : Rel ρ σ w) (hE : HE ρ σ A a o.op.operands.toList) (h : builtinA P A σ o b c.argTypes c.args = some (v, σ')) : Came P o a ρ σ w v σ' := by
  have hops : o.op.operands.toList = c.args.toList := by rw [ho]; simp [Op.operands, Call.operands, hc]
  have hE' : HE ρ σ A a c.args.toList := hops ▸ hE
  have two : ∀ {x y : Value}, evAll A c.args.toList = some [x, y] → c.args.map a.eval = #[ren ρ x, ren ρ y] ∧ Sc σ.dom x ∧ Sc σ.dom y := fun {x y} e => by
    obtain ⟨h1, h2⟩ := he_all hE' e
    refine ⟨?_, h2 x (by simp), h2 y (by simp)⟩
    apply Array.ext'
    rw [Array.toList_map, h1]
    rfl
  unfold builtinA at h
  split at h
  · split at h
    · rename_i t tx s x hts hxs
      obtain ⟨h1, h2, _⟩ := two hxs
      have hts' : c.argTypes = #[t, tx] := by apply Array.ext'; rw [hts]
      obtain ⟨ρ', w', hr, hst, hs⟩ := append_ok (ty := o.type) hR h2 h
      refine ⟨ρ', w', _, ?_, .inl rfl, hst, hs⟩
      simp [execOp, ho, resolve, hc, invoke, builtin, h1, hts', hr]
    · cases h
  · split at h
    · rename_i t tx s x hts hxs
      obtain ⟨h1, _, _⟩ := two hxs
      have hts' : c.argTypes = #[t, tx] := by apply Array.ext'; rw [hts]
      obtain ⟨w', hr, hst, hs⟩ := copy_ok (tx := tx) (ty := o.type) hR h
      refine ⟨ρ, w', _, ?_, .inl rfl, hst, hs⟩
      simp [execOp, ho, resolve, hc, invoke, builtin, h1, hts', hr]
    · cases h
  · split at h
    · rename_i t x hts hxs
      obtain ⟨h1, h2⟩ := he_all hE' hxs
      have h1' : c.args.map a.eval = #[ren ρ x] := by apply Array.ext'; rw [Array.toList_map, h1]; rfl
      have hts' : c.argTypes = #[t] := by apply Array.ext'; rw [hts]
      obtain ⟨hl, rfl⟩ := same_inv h
      obtain ⟨hr, hf⟩ := len_ok (ty := o.type) hR hl
      refine came_value hR ?_ (hf.sc _)
      simp [execOp, ho, resolve, hc, invoke, builtin, h1', hts', hr]
    · cases h
  · exact flat_came hR hE h
theorem opA_came (hR : Rel ρ σ w) (hE : HE ρ σ A a o.op.operands.toList) (h : opA P A σ o = some (v, σ')) : Came P o a ρ σ w v σ' := by
  unfold opA at h
  split at h
  · rename_i x ho
    obtain ⟨h1, rfl⟩ := same_inv h
    obtain ⟨e1, e2⟩ := hE x (by rw [ho]; simp [Op.operands]) v h1
    exact came_value hR (by simp [execOp, ho, e1]) e2
  · rename_i x ho
    obtain ⟨h1, rfl⟩ := same_inv h
    obtain ⟨e1, e2⟩ := hE x (by rw [ho]; simp [Op.operands]) v h1
    exact came_value hR (by simp [execOp, ho, e1]) e2
  · rename_i c x y ho
    split at h
    · rename_i hc
      obtain ⟨c1, _⟩ := hE c (by rw [ho]; simp [Op.operands]) _ hc
      obtain ⟨h1, rfl⟩ := same_inv h
      obtain ⟨e1, e2⟩ := hE x (by rw [ho]; simp [Op.operands]) v h1
      exact came_value hR (by simp [execOp, ho, c1, ren_bool, asBool, e1]) e2
    · rename_i hc
      obtain ⟨c1, _⟩ := hE c (by rw [ho]; simp [Op.operands]) _ hc
      obtain ⟨h1, rfl⟩ := same_inv h
      obtain ⟨e1, e2⟩ := hE y (by rw [ho]; simp [Op.operands]) v h1
      exact came_value hR (by simp [execOp, ho, c1, ren_bool, asBool, e1]) e2
    · cases h
  · rename_i t ho
    split at h
    · rename_i z hz
      injection h with h
      injection h with h1 h2
      subst h1 h2
      obtain ⟨hz1, hz2⟩ := zeroOf_run hz w
      obtain ⟨ρ', w', hr, hst⟩ := newVar_ok (P := P) hR t (hz2.sc _)
      rw [hz2 ρ] at hr
      refine ⟨ρ', w', _, ?_, .inl rfl, hst, sc_ptr (push_dom (by simp))⟩
      simp [execOp, ho, Instr.alloc, hz1, hr, ren_ptr]
    · cases h
  · rename_i t x ho
    split at h
    · rename_i u hu
      injection h with h
      injection h with h1 h2
      subst h1 h2
      obtain ⟨e1, e2⟩ := hE x (by rw [ho]; simp [Op.operands]) u hu
      obtain ⟨ρ', w', hr, hst⟩ := newVar_ok (P := P) hR t e2
      refine ⟨ρ', w', _, ?_, .inl rfl, hst, sc_ptr (push_dom (by simp))⟩
      simp [execOp, ho, Instr.box, e1, hr, ren_ptr]
    · cases h
  · rename_i t ps ho
    split at h
    · rename_i vs hvs
      obtain ⟨h1, rfl⟩ := same_inv h
      obtain ⟨e1, e2⟩ := parts_ok (a := a) (ρ := ρ) (σ := σ') (fun x hx => hE x (by rw [ho]; simpa [Op.operands] using hx)) hvs
      obtain ⟨hr, hs⟩ := build_ok (ρ := ρ) e2 h1 w
      have e3 : (ps.map fun (i, x) => (i, a.eval x)) = (vs.map fun p => (p.1, ren ρ p.2)).toArray := by
        apply Array.ext'; rw [Array.toList_map, e1]
      refine came_value hR ?_ hs
      simp only [execOp, ho, e3, Sem.run_bind, hr, Result.andThen_ok, Sem.run_pure]
    · cases h
  · rename_i t len ps ho
    split at h
    · rename_i vs hvs
      obtain ⟨e1, e2⟩ := parts_ok (a := a) (ρ := ρ) (σ := σ) (fun x hx => hE x (by rw [ho]; simpa [Op.operands] using hx)) hvs
      obtain ⟨ρ', w', hr, hst, hs⟩ := buildSlice_ok hR e2 h
      have e3 : (ps.map fun (i, x) => (i, a.eval x)) = (vs.map fun p => (p.1, ren ρ p.2)).toArray := by
        apply Array.ext'; rw [Array.toList_map, e1]
      refine ⟨ρ', w', _, ?_, .inl rfl, hst, hs⟩
      simp only [execOp, ho, e3, Sem.run_bind, hr, Result.andThen_ok, Sem.run_pure]
    · cases h
  · rename_i t x ho
    split at h
    · rename_i ad hx
      obtain ⟨h1, rfl⟩ := same_inv h
      obtain ⟨e1, _⟩ := hE x (by rw [ho]; simp [Op.operands]) _ hx
      obtain ⟨hr, hs⟩ := loadVar_ok hR h1
      refine came_value hR ?_ hs
      simp [execOp, ho, Instr.loadAt, e1, ren_ptr, Instr.sureAddr, hr]
    · cases h
  · rename_i t x y ho
    split at h
    · rename_i ad hx
      split at h
      · rename_i u hu
        obtain ⟨h1, rfl⟩ := none2_inv h
        obtain ⟨e1, _⟩ := hE x (by rw [ho]; simp [Op.operands]) _ hx
        obtain ⟨e2, e3⟩ := hE y (by rw [ho]; simp [Op.operands]) _ hu
        obtain ⟨w', hr, hst⟩ := storeVar_ok hR e3 h1
        refine ⟨ρ, w', _, ?_, .inr ⟨rfl, rfl⟩, hst, fl_undef.sc _⟩
        simp [execOp, ho, Instr.storeAt, e1, e2, ren_ptr, Instr.sureAddr, hr]
      · cases h
    · cases h
  · rename_i x ho
    split at h
    · rename_i ad hx
      injection h with h
      injection h with h1 h2
      subst h1 h2
      obtain ⟨e1, e2⟩ := hE x (by rw [ho]; simp [Op.operands]) _ hx
      refine came_value hR ?_ e2
      simp [execOp, ho, e1, ren_ptr]
    · cases h
  · rename_i op t x y yt ho
    split at h
    · rename_i u u' hu hu'
      obtain ⟨e1, _⟩ := hE x (by rw [ho]; simp [Op.operands]) _ hu
      obtain ⟨e2, _⟩ := hE y (by rw [ho]; simp [Op.operands]) _ hu'
      split at h
      · rename_i r hr
        injection h with h
        injection h with h1 h2
        subst h1 h2
        obtain ⟨hrun, f1, f2, f3⟩ := fastB_ok (P := P) (t := t) (ox := x) (oy := y) hr w
        refine came_value hR ?_ (f3.sc _)
        rw [f1 ρ] at e1
        rw [f2 ρ] at e2
        rw [f3 ρ]
        simp only [execOp, ho, e1, e2]
        rw [Sem.run_bind, hrun]
        rfl
      · split at h
        · split at h
          · rename_i b hb
            injection h with h
            injection h with h1 h2
            subst h1 h2
            obtain ⟨hr, _⟩ := nil_ok (ρ := ρ) hb w x y
            refine came_value hR ?_ (fun _ _ _ => rfl)
            simp only [execOp, ho, e1, e2]
            rw [Sem.run_bind, hr]
            rfl
          · exact flat_came hR hE h
        · split at h
          · rename_i b hb
            injection h with h
            injection h with h1 h2
            subst h1 h2
            obtain ⟨_, hr⟩ := nil_ok (ρ := ρ) hb w x y
            refine came_value hR ?_ (fun _ _ _ => rfl)
            simp only [execOp, ho, e1, e2]
            rw [Sem.run_bind, hr]
            rfl
          · exact flat_came hR hE h
        · exact flat_came hR hE h
    · cases h
  · rename_i op t x ho
    split at h
    · rename_i b hb
      injection h with h
      injection h with h1 h2
      subst h1 h2
      obtain ⟨e1, _⟩ := hE x (by rw [ho]; simp [Op.operands]) _ hb
      refine came_value hR ?_ (fun _ _ _ => rfl)
      simp [execOp, ho, e1, ren_bool, Op.unary]
    · exact flat_came hR hE h
  · rename_i t x y ho
    split at h
    · rename_i u u' hu hu'
      obtain ⟨e1, _⟩ := hE x (by rw [ho]; simp [Op.operands]) _ hu
      obtain ⟨e2, _⟩ := hE y (by rw [ho]; simp [Op.operands]) _ hu'
      split at h
      · rename_i r hr
        injection h with h
        injection h with h1 h2
        subst h1 h2
        obtain ⟨hrun, f1, f2, f3⟩ := byteAt_ok hr w
        refine came_value hR ?_ (f3.sc _)
        rw [f1 ρ] at e1
        rw [f2 ρ] at e2
        rw [f3 ρ]
        simp [execOp, ho, e1, e2, hrun]
      · exact flat_came hR hE h
    · cases h
  · rename_i s d x ho
    split at h
    · rename_i u l c hu
      obtain ⟨h1, rfl⟩ := same_inv h
      obtain ⟨e1, _⟩ := hE x (by rw [ho]; simp [Op.operands]) _ hu
      obtain ⟨hr, hf⟩ := text_ok hR h1
      refine came_value hR ?_ (hf.sc _)
      rw [hf ρ]
      simp [execOp, ho, e1, hr]
    · exact flat_came hR hE h
  · rename_i s x f ho
    split at h
    · rename_i u hu
      obtain ⟨h1, rfl⟩ := same_inv h
      obtain ⟨e1, e2⟩ := hE x (by rw [ho]; simp [Op.operands]) _ hu
      obtain ⟨hr, hs⟩ := fieldAt_ok (ρ := ρ) e2 h1 w
      exact came_value hR (by simp [execOp, ho, e1, hr]) hs
    · cases h
  · rename_i s x f ho
    split at h
    · rename_i u hu
      obtain ⟨h1, rfl⟩ := same_inv h
      obtain ⟨e1, e2⟩ := hE x (by rw [ho]; simp [Op.operands]) _ hu
      obtain ⟨hr, hs⟩ := field_ok (ρ := ρ) e2 h1 w
      exact came_value hR (by simp [execOp, ho, e1, hr]) hs
    · cases h
  · rename_i t x y ho
    split at h
    · rename_i u u' hu hu'
      obtain ⟨h1, rfl⟩ := same_inv h
      obtain ⟨e1, e2⟩ := hE x (by rw [ho]; simp [Op.operands]) _ hu
      obtain ⟨e3, _⟩ := hE y (by rw [ho]; simp [Op.operands]) _ hu'
      obtain ⟨hr, hs⟩ := indexAt_ok (ρ := ρ) e2 h1 w
      exact came_value hR (by simp [execOp, ho, e1, e3, hr]) hs
    · cases h
  · rename_i t x lo hi mx ho
    split at h
    · exact flat_came hR hE h
    · rename_i u _ hu
      split at h
      · rename_i l hh m hl hhi hmx
        obtain ⟨h1, rfl⟩ := same_inv h
        obtain ⟨e1, e2⟩ := hE x (by rw [ho]; simp [Op.operands]) _ hu
        have f1 := evO_ok (a := a) (ρ := ρ) (σ := σ') (fun y hy v e => hE y (by rw [ho]; simp [Op.operands, hy]) v e) hl
        have f2 := evO_ok (a := a) (ρ := ρ) (σ := σ') (fun y hy v e => hE y (by rw [ho]; simp [Op.operands, hy]) v e) hhi
        have f3 := evO_ok (a := a) (ρ := ρ) (σ := σ') (fun y hy v e => hE y (by rw [ho]; simp [Op.operands, hy]) v e) hmx
        obtain ⟨hr, hs⟩ := sliceAt_ok hR e2 h1
        refine came_value hR ?_ hs
        simp only [execOp, ho, e1, f1, f2, f3, Sem.run_bind, hr, Result.andThen_ok, Sem.run_pure]
      · cases h
    · cases h
  · rename_i x i ho
    split at h
    · rename_i u hu
      obtain ⟨h1, rfl⟩ := same_inv h
      obtain ⟨e1, e2⟩ := hE x (by rw [ho]; simp [Op.operands]) _ hu
      obtain ⟨hr, hs⟩ := extract_ok (P := P) (ρ := ρ) e2 h1 w
      exact came_value hR (by simp [execOp, ho, e1, hr]) hs
    · cases h
  · rename_i fn fs cs ho
    split at h
    · rename_i u u' hu hu'
      injection h with h
      injection h with h1 h2
      subst h1 h2
      obtain ⟨e1, e2⟩ := he_all (a := a) (ρ := ρ) (σ := σ) (fun x hx => hE x (by rw [ho]; simp only [Op.operands, Array.toList_append, List.mem_append]; exact .inl hx)) hu
      obtain ⟨e3, e4⟩ := he_all (a := a) (ρ := ρ) (σ := σ) (fun x hx => hE x (by rw [ho]; simp only [Op.operands, Array.toList_append, List.mem_append]; exact .inr hx)) hu'
      refine came_value hR ?_ (sc_func e2 e4)
      have q1 : fs.map a.eval = (u.map (ren ρ)).toArray := by apply Array.ext'; rw [Array.toList_map, e1]
      have q2 : cs.map a.eval = (u'.map (ren ρ)).toArray := by apply Array.ext'; rw [Array.toList_map, e3]
      simp only [execOp, ho, q1, q2, Instr.makeFunc, ren_func, Sem.run_bind, Sem.run_pure, Result.andThen_ok, List.map_toArray]
    · cases h
  · rename_i t r ho
    split at h
    · rename_i b hb
      injection h with h
      injection h with h1 h2
      subst h1 h2
      obtain ⟨ρ', w', hr, hst, hs⟩ := makeMap_ok (P := P) hR t
      refine ⟨ρ', w', _, ?_, .inl rfl, hst, hs⟩
      cases r with
      | none => simp [execOp, ho, hr]
      | some x =>
        simp only at hb
        split at hb
        · rename_i k n hx
          split at hb
          · rename_i kt et hu
            obtain ⟨e1, _⟩ := hE x (by rw [ho]; simp [Op.operands]) _ hx
            have : Instr.makeMap t none = (do pure (.map (some (← newObj (.map #[] 0))))) := rfl
            rw [this] at hr
            simp only [execOp, ho, Option.map_some, e1, ren_int]
            unfold Instr.makeMap
            simp only [Sem.run_bind, run_underlying hu, Result.andThen_ok, asInt, asIntOf, Sem.run_pure] at hr ⊢
            rw [hr]
            rfl
          · cases hb
        · cases hb
    · cases h
  · rename_i t l c ho
    split at h
    · rename_i u u' hu hu'
      obtain ⟨e1, _⟩ := hE l (by rw [ho]; simp [Op.operands]) _ hu
      obtain ⟨e2, _⟩ := hE c (by rw [ho]; simp [Op.operands]) _ hu'
      obtain ⟨ρ', w', hr, hst, hs⟩ := makeSlice_ok hR h
      refine ⟨ρ', w', _, ?_, .inl rfl, hst, hs⟩
      simp [execOp, ho, e1, e2, hr]
    · cases h
  · rename_i t x y ok ho
    split at h
    · rename_i u u' hu hu'
      obtain ⟨h1, rfl⟩ := same_inv h
      obtain ⟨e1, _⟩ := hE x (by rw [ho]; simp [Op.operands]) _ hu
      obtain ⟨e2, _⟩ := hE y (by rw [ho]; simp [Op.operands]) _ hu'
      obtain ⟨hr, hs⟩ := lookup_ok hR h1
      exact came_value hR (by simp [execOp, ho, e1, e2, hr]) hs
    · cases h
  · rename_i t m k x ho
    split at h
    · rename_i u u' u'' hu hu' hu''
      obtain ⟨h1, rfl⟩ := none2_inv h
      obtain ⟨e1, _⟩ := hE m (by rw [ho]; simp [Op.operands]) _ hu
      obtain ⟨e2, _⟩ := hE k (by rw [ho]; simp [Op.operands]) _ hu'
      obtain ⟨e3, e4⟩ := hE x (by rw [ho]; simp [Op.operands]) _ hu''
      obtain ⟨w', hr, hst⟩ := mapPut_ok hR e4 h1
      refine ⟨ρ, w', _, ?_, .inr ⟨rfl, rfl⟩, hst, fl_undef.sc _⟩
      simp [execOp, ho, e1, e2, e3, hr]
    · cases h
  · rename_i c ho
    split at h
    · rename_i b hb
      exact builtin_came ho hb hR hE h
    · cases h
  · exact flat_came hR hE h
end

end Go.Proofs.YtiakmddejckkbaaGreat
