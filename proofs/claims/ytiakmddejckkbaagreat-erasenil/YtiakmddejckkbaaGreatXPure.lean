/- Runs of closed code, reckoned: operations that do not look at memory. -/
import Derived.Test.YtiakmddejckkbaaGreatXMem
namespace Go.Proofs.YtiakmddejckkbaaGreat

section
variable {P : Program}
theorem pureRun_bindS {α β : Type} (f : α → Sem β) : ∀ s : Sem α, pureRun P (Sem.bind s f) = (pureRun P s).bind fun a => pureRun P (f a)
  | .pure _ => rfl
  | .program k => pureRun_bindS f (k P)
  | .mark _ k => pureRun_bindS f k
  | .load _ _ _ | .store _ _ _ _ | .new _ _ | .shape _ _ | .freeze _ _ _ | .frozen _ _ | .getObj _ _ | .setObj _ _ _ | .choose _ _ | .sys _ _ | .halt _ => by first | rfl | (cases ‹Value› <;> rfl)
theorem pureRun_bind {α β : Type} (s : Sem α) (f : α → Sem β) : pureRun P (s >>= f) = (pureRun P s).bind fun a => pureRun P (f a) := pureRun_bindS f s
theorem pureRun_pure {α : Type} (a : α) : pureRun P (Pure.pure a) = some a := rfl
theorem pureRun_stuck {α : Type} (s : String) : pureRun P (stuck s : Sem α) = none := rfl
theorem pureRun_unsupported {α : Type} (s : Unsupported) : pureRun P (unsupported s : Sem α) = none := rfl
theorem pureRun_program : pureRun P program = some P := rfl
theorem pureRun_goPanic {α : Type} (v : Value) : pureRun P (goPanic v : Sem α) = none := rfl
theorem pureRun_underlying (t : TypeId) : pureRun P (underlying t) = P.underlying t := by
  unfold underlying; rw [pureRun_bind, pureRun_program]
  show pureRun P (match P.underlying t with | some d => _ | none => _) = _
  cases P.underlying t <;> rfl
theorem pureRun_typeInfo (t : TypeId) : pureRun P (typeInfo t) = P.info? t := by
  unfold typeInfo; rw [pureRun_bind, pureRun_program]
  show pureRun P (match P.info? t with | some d => _ | none => _) = _
  cases P.info? t <;> rfl
theorem pureRun_sizeOf (t : TypeId) : pureRun P (sizeOf t) = (P.info? t).map (·.size) := by
  unfold sizeOf; rw [pureRun_bind, pureRun_typeInfo]; cases P.info? t <;> rfl
theorem pureRun_runtimePanic {α : Type} (e : RuntimeError) : pureRun P (runtimePanic e : Sem α) = none := by
  cases e <;> (unfold runtimePanic; simp [pureRun_bind, pureRun_program, pureRun_goPanic, newVar, newRow, newObj, elemOf, pureRun_underlying])
  all_goals (first | rfl | (split <;> rfl) | skip)
theorem pureRun_boundsPanic {α : Type} (k : IntKind) (x y : Int) (c : BoundsCode) : pureRun P (boundsPanic k x y c : Sem α) = none := by
  unfold boundsPanic; dsimp only; split <;> simp [pureRun_bind, pureRun_runtimePanic]
end

/-- What a temporary, a constant, a function comes to. -/
def ev (A : Fr) : Operand → Option Value
  | .tmp t => A.get t
  | .const v => if flatB v then some v else none
  | .func f => some (.func (.func f) #[] #[])
  | .global _ => none
/-- The temporaries, as the reckoning has them. -/
structure TR (ρ : Rn) (σ : AW) (A : Fr) (a : Act) : Prop where
  size : a.tmps.size = A.size
  tmps : ∀ t v, A.get t = some v → a.tmps[t]? = some (ren ρ v)
  sc : ∀ t v, A.get t = some v → Sc σ.dom v
  defers : a.defers = []
theorem ev_ok {ρ : Rn} {σ : AW} {A : Fr} {a : Act} (h : TR ρ σ A a) {x : Operand} {v : Value} (e : ev A x = some v) : a.eval x = ren ρ v ∧ Sc σ.dom v := by
  cases x with
  | tmp t =>
    have e : A.get t = some v := e
    refine ⟨?_, h.sc t v e⟩
    show a.tmps.getD t undef = _
    simp [h.tmps t v e]
  | const u =>
    simp only [ev] at e
    split at e
    · rename_i hf
      injection e with e
      subst e
      exact ⟨(flatB_fl hf ρ).symm, (flatB_fl hf).sc _⟩
    · cases e
  | func f =>
    simp only [ev] at e
    injection e with e
    subst e
    exact ⟨by rw [ren_func]; simp [Act.eval], sc_func (fun v hv => by cases hv) (fun v hv => by cases hv)⟩
  | global g => cases e
def evAll (A : Fr) : List Operand → Option (List Value)
  | [] => some []
  | x :: l => match ev A x with
    | none => none
    | some v => match evAll A l with
      | none => none
      | some vs => some (v :: vs)
theorem evAll_ok {ρ : Rn} {σ : AW} {A : Fr} {a : Act} (h : TR ρ σ A a) : ∀ {l : List Operand} {vs : List Value}, evAll A l = some vs → l.map a.eval = vs.map (ren ρ) ∧ ∀ v ∈ vs, Sc σ.dom v
  | [], vs, e => by injection e with e; subst e; exact ⟨rfl, fun v hv => by cases hv⟩
  | x :: l, vs, e => by
    simp only [evAll] at e
    split at e
    · cases e
    · rename_i v hv
      split at e
      · cases e
      · rename_i us hus
        injection e with e
        subst e
        obtain ⟨h1, h2⟩ := ev_ok h hv
        obtain ⟨h3, h4⟩ := evAll_ok h hus
        refine ⟨by rw [List.map_cons, List.map_cons, h1, h3], fun u hu => ?_⟩
        cases hu with
        | head => exact h2
        | tail _ hu => exact h4 u hu

/-- Operands that name no block: all is as the model has it. -/
def flatOp (A : Fr) (o : Oper) : Bool := match o.op with
  | .select _ _ => false
  | op => op.operands.toList.all fun x => match ev A x with | some v => flatB v | none => false
def evF (A : Fr) (x : Operand) : Value := (ev A x).getD undef
theorem flat_exec {ρ : Rn} {σ : AW} {A : Fr} {a : Act} (h : TR ρ σ A a) {o : Oper} (hf : flatOp A o = true) : execOp a.eval o = execOp (evF A) o := by
  refine execOp_congr o (fun cs b e => by simp [flatOp, e] at hf) fun x hx => ?_
  have hf : (o.op.operands.toList.all fun x => match ev A x with | some v => flatB v | none => false) = true := by
    unfold flatOp at hf
    split at hf
    · cases hf
    · exact hf
  have := List.all_eq_true.1 hf x (by simpa using hx)
  unfold evF
  cases he : ev A x with
  | none => rw [he] at this; cases this
  | some v =>
    rw [he] at this
    rw [(ev_ok h he).1]
    exact flatB_fl this ρ

end Go.Proofs.YtiakmddejckkbaaGreat
