/- What code and calls come to, as the reckoning's memory has it: rules for code with variables in it. Rules by which operations over variables are reckoned. Closed facts of the program's types. More rules: truths that are compared, texts that are put together. -/
import Derived.Test.YtckidlbmoalomaaGreatDoorJ05
import Derived.Test.YtckidlbmoalomaaGreatDoorProg
import Derived.KernelRfl


namespace Go.Proofs.YtckidlbmoalomaaGreatDoor
open Go.RowKit

def Run (P : Program) (c : Code) (A : Fr) (σ : AW) (e : Exit) (A' : Fr) (σ' : AW) : Prop := ∀ ρ a w, Rel ρ σ w → TR ρ σ A a → c.wp P (fun e' a' w' => e' = e ∧ ∃ ρ', Step ρ σ w ρ' σ' w' ∧ TR ρ' σ' A' a') a w
def W (P : Program) (c : Code) (A : Fr) (σ : AW) (Q : Exit → Fr → AW → Prop) : Prop := ∃ e A' σ', Run P c A σ e A' σ' ∧ Q e A' σ'
def C (P : Program) (g : Nat) (xs : List Value) (σ : AW) (Q : Value → AW → Prop) : Prop := ∃ v σ', Ok P g xs σ v σ' ∧ Q v σ'

section
variable {P : Program} {A : Fr} {σ : AW} {Q Q' : Exit → Fr → AW → Prop}
theorem C.mono {g : Nat} {xs : List Value} {R R' : Value → AW → Prop} (h : C P g xs σ R) (k : ∀ v σ', R v σ' → R' v σ') : C P g xs σ R' := by
  obtain ⟨v, σ', h1, h2⟩ := h
  exact ⟨v, σ', h1, k v σ' h2⟩
theorem W.mono {c : Code} (h : W P c A σ Q) (k : ∀ e A' σ', Q e A' σ' → Q' e A' σ') : W P c A σ Q' := by
  obtain ⟨e, A', σ', h1, h2⟩ := h
  exact ⟨e, A', σ', h1, k e A' σ' h2⟩
theorem s_k (h : Q .normal A σ) : W P .skip A σ Q := ⟨.normal, A, σ, fun ρ _ _ hR hT => wp_skip ⟨rfl, ρ, Step.refl hR, hT⟩, h⟩
theorem W_label {l : Nat} (h : Q .normal A σ) : W P (.label l) A σ Q := ⟨.normal, A, σ, fun ρ _ _ hR hT => wp_label ⟨rfl, ρ, Step.refl hR, hT⟩, h⟩
theorem W_exit {i : Nat} (h : Q (.exit i) A σ) : W P (.exit i) A σ Q := ⟨.exit i, A, σ, fun ρ _ _ hR hT => wp_exit ⟨rfl, ρ, Step.refl hR, hT⟩, h⟩
theorem W_goto {i : Nat} (h : Q (.goto i) A σ) : W P (.goto i) A σ Q := ⟨.goto i, A, σ, fun ρ _ _ hR hT => wp_goto ⟨rfl, ρ, Step.refl hR, hT⟩, h⟩
theorem W_ret (h : Q .ret A σ) : W P .ret A σ Q := ⟨.ret, A, σ, fun ρ _ _ hR hT => wp_ret ⟨rfl, ρ, Step.refl hR, hT⟩, h⟩
def Then (k : Fr → AW → Prop) (Q : Exit → Fr → AW → Prop) : Exit → Fr → AW → Prop := fun e A σ => match e with
  | .normal => k A σ
  | e => Q e A σ
theorem s_q {x y : Code} (h : W P x A σ (Then (fun A1 σ1 => W P y A1 σ1 Q) Q)) : W P (.seq x y) A σ Q := by
  obtain ⟨e, A1, σ1, hx, hq⟩ := h
  by_cases he : e = .normal
  · subst he
    obtain ⟨e2, A2, σ2, hy, hq2⟩ := hq
    refine ⟨e2, A2, σ2, fun ρ a w hR hT => wp_seq ?_, hq2⟩
    refine wp_mono (hx ρ a w hR hT) ?_
    rintro e' a1 w1 ⟨rfl, ρ1, hst, hT1⟩
    refine wp_mono (hy ρ1 a1 w1 hst.rel hT1) ?_
    rintro e' a2 w2 ⟨rfl, ρ2, hst2, hT2⟩
    exact ⟨rfl, ρ2, hst.trans hst2, hT2⟩
  · have hq : Q e A1 σ1 := by cases e <;> first | exact hq | exact absurd rfl he
    refine ⟨e, A1, σ1, fun ρ a w hR hT => wp_seq ?_, hq⟩
    refine wp_mono (hx ρ a w hR hT) ?_
    rintro e' a1 w1 ⟨rfl, hst⟩
    cases e' with
    | normal => exact absurd rfl he
    | _ => exact ⟨rfl, hst⟩
theorem W_cond {c : Operand} {b : Bool} {x y : Code} (hb : ev A c = some (.bool b)) (h : W P (if b then x else y) A σ Q) : W P (.cond c x y) A σ Q := by
  obtain ⟨e, A1, σ1, hx, hq⟩ := h
  refine ⟨e, A1, σ1, fun ρ a w hR hT => ?_, hq⟩
  have he := (ev_ok hT hb).1
  rw [ren_bool] at he
  exact wp_cond he (hx ρ a w hR hT)
theorem W_cond_t {c : Operand} {x y : Code} (hb : ev A c = some (.bool true)) (h : W P x A σ Q) : W P (.cond c x y) A σ Q := W_cond hb h
theorem W_cond_f {c : Operand} {x y : Code} (hb : ev A c = some (.bool false)) (h : W P y A σ Q) : W P (.cond c x y) A σ Q := W_cond hb h
def Out (id : Nat) (Q : Exit → Fr → AW → Prop) : Exit → Fr → AW → Prop := fun e A σ => match e with
  | .exit i => if i = id then Q .normal A σ else Q (.exit i) A σ
  | e => Q e A σ
theorem b_k {id : Nat} {c : Code} (h : W P c A σ (Out id Q)) : W P (.block id c) A σ Q := by
  obtain ⟨e, A1, σ1, hx, hq⟩ := h
  refine ⟨(match e with | .exit i => if i = id then .normal else .exit i | e => e), A1, σ1, fun ρ a w hR hT => wp_block ?_, ?_⟩
  · refine wp_mono (hx ρ a w hR hT) ?_
    rintro e' a1 w1 ⟨rfl, hst⟩
    cases e' with
    | exit i =>
      simp only [Exit.inBlock]
      by_cases hi : i = id
      · simp only [if_pos hi]; exact ⟨trivial, hst⟩
      · simp only [if_neg hi]; exact ⟨trivial, hst⟩
    | _ => exact ⟨rfl, hst⟩
  · cases e with
    | exit i =>
      simp only [Out] at hq
      by_cases hi : i = id
      · rw [if_pos hi] at hq; simp only [if_pos hi]; exact hq
      · rw [if_neg hi] at hq; simp only [if_neg hi]; exact hq
    | _ => exact hq
theorem rounds_mono {c : Code} {Q1 Q2 : Exit → Act → World → Prop} (h : ∀ e a w, e ≠ .normal → Q1 e a w → Q2 e a w) : ∀ n a w, Code.rounds P c Q1 n a w → Code.rounds P c Q2 n a w := by
  intro n
  induction n with
  | zero => intro _ _ h; exact h
  | succ n ih =>
    intro a w hh
    rw [rounds_succ] at hh ⊢
    refine wp_mono hh ?_
    intro e2 a2 w2 hq
    cases e2 with
    | normal => exact ih _ _ hq
    | _ => exact h _ _ _ (by simp) hq
def RunL (P : Program) (c : Code) (n : Nat) (A : Fr) (σ : AW) (e : Exit) (A' : Fr) (σ' : AW) : Prop := ∀ ρ a w, Rel ρ σ w → TR ρ σ A a → Code.rounds P c (fun e' a' w' => e' = e ∧ ∃ ρ', Step ρ σ w ρ' σ' w' ∧ TR ρ' σ' A' a') n a w
def WL (P : Program) (c : Code) (A : Fr) (σ : AW) (Q : Exit → Fr → AW → Prop) : Prop := ∃ n e A' σ', RunL P c n A σ e A' σ' ∧ Q e A' σ'
theorem W_loop {c : Code} (h : WL P c A σ Q) : W P (.loop c) A σ Q := by
  obtain ⟨n, e, A1, σ1, hx, hq⟩ := h
  exact ⟨e, A1, σ1, fun ρ a w hR hT => wp_loop_rounds n (hx ρ a w hR hT), hq⟩
theorem WL_round {c : Code} (h : W P c A σ (Then (fun A1 σ1 => WL P c A1 σ1 Q) Q)) : WL P c A σ Q := by
  obtain ⟨e, A1, σ1, hx, hq⟩ := h
  by_cases he : e = .normal
  · subst he
    obtain ⟨n, e2, A2, σ2, hy, hq2⟩ := hq
    refine ⟨n + 1, e2, A2, σ2, fun ρ a w hR hT => ?_, hq2⟩
    rw [rounds_succ]
    refine wp_mono (hx ρ a w hR hT) ?_
    rintro e' a1 w1 ⟨rfl, ρ1, hst, hT1⟩
    refine rounds_mono (fun e a' w' _ => ?_) n a1 w1 (hy ρ1 a1 w1 hst.rel hT1)
    rintro ⟨rfl, ρ2, h2, h3⟩
    exact ⟨rfl, ρ2, hst.trans h2, h3⟩
  · have hq : Q e A1 σ1 := by cases e <;> first | exact hq | exact absurd rfl he
    refine ⟨1, e, A1, σ1, fun ρ a w hR hT => ?_, hq⟩
    rw [rounds_succ]
    refine wp_mono (hx ρ a w hR hT) ?_
    rintro e' a1 w1 ⟨rfl, hst⟩
    cases e' with
    | normal => exact absurd rfl he
    | _ => exact ⟨rfl, hst⟩
theorem passes_mono {c : Code} {Q1 Q2 : Exit → Act → World → Prop} (h : ∀ e a w, Q1 e a w → Q2 e a w) : ∀ n cur a w, passes P c Q1 n cur a w → passes P c Q2 n cur a w := by
  intro n
  induction n with
  | zero => intro _ _ _ h; exact h
  | succ n ih =>
    intro cur a w hh
    unfold passes at hh ⊢
    refine wp_mono hh ?_
    intro e2 a2 w2 hq
    cases e2 with
    | goto l => obtain ⟨r, h1, h2⟩ := hq; exact ⟨r, h1, ih _ _ _ h2⟩
    | _ => exact h _ _ _ hq
def WS (P : Program) (c cur : Code) (A : Fr) (σ : AW) (Q : Exit → Fr → AW → Prop) : Prop := ∃ n e A' σ', (∀ ρ a w, Rel ρ σ w → TR ρ σ A a → passes P c (fun e' a' w' => e' = e ∧ ∃ ρ', Step ρ σ w ρ' σ' w' ∧ TR ρ' σ' A' a') n cur a w) ∧ Q e A' σ'
theorem W_scope {c : Code} (h : WS P c c A σ Q) : W P (.scope c) A σ Q := by
  obtain ⟨n, e, A1, σ1, hx, hq⟩ := h
  exact ⟨e, A1, σ1, fun ρ a w hR hT => wp_scope_passes n (hx ρ a w hR hT), hq⟩
def Jump (c : Code) (k : Code → Fr → AW → Prop) (Q : Exit → Fr → AW → Prop) : Exit → Fr → AW → Prop := fun e A σ => match e with
  | .goto l => ∃ rest, findLabel c l = some rest ∧ k rest A σ
  | e => Q e A σ
theorem WS_pass {c cur : Code} (h : W P cur A σ (Jump c (fun rest A1 σ1 => WS P c rest A1 σ1 Q) Q)) : WS P c cur A σ Q := by
  obtain ⟨e, A1, σ1, hx, hq⟩ := h
  by_cases he : ∃ l, e = .goto l
  · obtain ⟨l, rfl⟩ := he
    obtain ⟨rest, hf, n, e2, A2, σ2, hy, hq2⟩ := hq
    refine ⟨n + 1, e2, A2, σ2, fun ρ a w hR hT => ?_, hq2⟩
    unfold passes
    refine wp_mono (hx ρ a w hR hT) ?_
    rintro e' a1 w1 ⟨rfl, ρ1, hst, hT1⟩
    refine ⟨rest, hf, passes_mono (fun e a' w' => ?_) n rest a1 w1 (hy ρ1 a1 w1 hst.rel hT1)⟩
    rintro ⟨rfl, ρ2, h2, h3⟩
    exact ⟨rfl, ρ2, hst.trans h2, h3⟩
  · have hq : Q e A1 σ1 := by cases e <;> first | exact hq | exact absurd ⟨_, rfl⟩ he
    refine ⟨1, e, A1, σ1, fun ρ a w hR hT => ?_, hq⟩
    unfold passes
    refine wp_mono (hx ρ a w hR hT) ?_
    rintro e' a1 w1 ⟨rfl, hst⟩
    cases e' with
    | goto l => exact absurd ⟨_, rfl⟩ he
    | _ => exact ⟨rfl, hst⟩

/-! ### Regions -/
theorem W_region {id : Nat} {ops : Array Oper} (h : Ops P ops.toList ops.toList A σ (fun A' σ' => Q .normal A' σ')) : W P (.region id ops false) A σ Q := by
  have key : ∀ {l : List Oper} {A : Fr} {σ : AW}, Ops P ops.toList l A σ (fun A' σ' => Q .normal A' σ') → ∃ A' σ', Q .normal A' σ' ∧ ∀ (R : Exit → Act → World → Prop) (ρ : Rn) (a : Act) (w : World), Rel ρ σ w → TR ρ σ A a → (∀ ρ' a' w', Step ρ σ w ρ' σ' w' → TR ρ' σ' A' a' → R .normal a' w') → wpList P ops R l a w := by
    intro l
    induction l with
    | nil => intro A σ h; exact ⟨A, σ, h, fun R ρ a w hR hT hK => hK ρ a w (Step.refl hR) hT⟩
    | cons o l ih =>
      intro A σ h
      obtain ⟨v, σ1, hg, hr⟩ := h
      obtain ⟨A', σ', hQ, hw⟩ := ih hr
      refine ⟨A', σ', hQ, fun R ρ a w hR hT hK => ?_⟩
      unfold wpList
      refine gd_wp (Q := R) rfl hR (hT.he _) (fun g b x d v _ _ _ hv => hT.tmps d v hv) hg (fun ρ1 w1 hst hs => ?_)
      exact hw R ρ1 _ w1 hst.rel ((hT.step hst).put hs o.dst) (fun ρ2 a2 w2 hst2 hT2 => hK ρ2 a2 w2 (hst.trans hst2) hT2)
  obtain ⟨A', σ', hQ, hw⟩ := key h
  exact ⟨.normal, A', σ', fun ρ a w hR hT => wp_region_list (hw _ ρ a w hR hT (fun ρ' a' w' hst hT' => ⟨rfl, ρ', hst, hT'⟩)), hQ⟩
def isCall : Op → Bool
  | .call c => match c.callee with
    | .value _ => true
    | _ => false
  | _ => false
theorem Gd_op {all : List Oper} {o : Oper} {v : Value} {σ' : AW} (hw : wantedA all A o = some true) (hc : isCall o.op = false) (h : opA P A σ o = some (v, σ')) : Gd P all A σ o v σ' := by
  unfold Gd
  rw [hw]
  simp only
  unfold StR
  split
  · rename_i c ho
    rw [ho] at hc
    split
    · rename_i f hf
      simp [isCall, hf] at hc
    · exact h
  · exact h
theorem Ops_op {all l : List Oper} {o : Oper} {v : Value} {σ' : AW} {K : Fr → AW → Prop} (hw : wantedA all A o = some true) (hc : isCall o.op = false) (h : opA P A σ o = some (v, σ')) (hk : Ops P all l (putA A o.dst v) σ' K) : Ops P all (o :: l) A σ K :=
  ⟨v, σ', Gd_op hw hc h, hk⟩
theorem Ops_skip {all l : List Oper} {o : Oper} {K : Fr → AW → Prop} (hw : wantedA all A o = some false) (hk : Ops P all l (putA A o.dst undef) σ K) : Ops P all (o :: l) A σ K := by
  refine ⟨undef, σ, ?_, hk⟩
  unfold Gd
  rw [hw]
  exact ⟨rfl, rfl⟩
theorem Ops_call {all l : List Oper} {o : Oper} {c : Call} {f : Operand} {g : Nat} {xs : List Value} {K : Fr → AW → Prop} (hw : wantedA all A o = some true) (ho : o.op = .call c) (hf : c.callee = .value f) (hx : callArgs A c = some (g, xs)) (hk : C P g xs σ (fun v σ' => Ops P all l (putA A o.dst v) σ' K)) : Ops P all (o :: l) A σ K := by
  obtain ⟨v, σ', h, hk⟩ := hk
  refine ⟨v, σ', ?_, hk⟩
  unfold Gd
  rw [hw]
  simp only
  unfold StR
  rw [ho]
  simp only [hf]
  exact ⟨g, xs, hx, h⟩
def OpsT (P : Program) (all : List Oper) : List Oper → List (Fr × AW × Value) → Fr → AW → (List (Fr × AW × Value) → Fr → AW → Prop) → Prop
  | [], tr, A, σ, K => K tr A σ
  | o :: l, tr, A, σ, K => ∃ v σ', Gd P all A σ o v σ' ∧ OpsT P all l (tr ++ [(A, σ, v)]) (putA A o.dst v) σ' K
def looksMem : Op → Bool
  | .load _ _ | .lookup _ _ _ _ | .slice _ _ _ _ _ | .convert _ _ _ => true
  | .call c => match c.callee with
    | .builtin .len => true
    | _ => false
  | _ => false
theorem flat_any {o : Oper} {v : Value} {σ' τ : AW} (h : flatA P A σ o = some (v, σ')) : flatA P A τ o = some (v, τ) := by
  unfold flatA at h ⊢
  split at h
  · rename_i hf
    rw [if_pos hf]
    split at h
    · rename_i u hu
      split at h
      · rename_i hb
        rw [if_pos hb]
        injection h with h
        injection h with h1 _
        rw [h1]
      · cases h
    · cases h
  · cases h
theorem same_any {r : Option Value} {v : Value} {σ' τ : AW} (h : same σ r = some (v, σ')) : same τ r = some (v, τ) := by
  obtain ⟨h1, _⟩ := same_inv h
  rw [h1]
  rfl
theorem op_any {o : Oper} {v : Value} {σ' τ : AW} (he : effect o.op = false) (hl : looksMem o.op = false) (h : opA P A σ o = some (v, σ')) : opA P A τ o = some (v, τ) := by
  unfold opA at h ⊢
  cases ho : o.op with
  | move x =>
    rw [ho] at h
    simp only at h ⊢
    repeat' (first | exact same_any h | exact flat_any h | (injection h with h; injection h with h1 _; rw [h1]; done) | (cases h; done) | split at h)
  | assign x =>
    rw [ho] at h
    simp only at h ⊢
    repeat' (first | exact same_any h | exact flat_any h | (injection h with h; injection h with h1 _; rw [h1]; done) | (cases h; done) | split at h)
  | pick c x y =>
    rw [ho] at h
    simp only at h ⊢
    repeat' (first | exact same_any h | exact flat_any h | (injection h with h; injection h with h1 _; rw [h1]; done) | (cases h; done) | split at h)
  | build t ps =>
    rw [ho] at h
    simp only at h ⊢
    repeat' (first | exact same_any h | exact flat_any h | (injection h with h; injection h with h1 _; rw [h1]; done) | (cases h; done) | split at h)
  | nilCheck x =>
    rw [ho] at h
    simp only at h ⊢
    repeat' (first | exact same_any h | exact flat_any h | (injection h with h; injection h with h1 _; rw [h1]; done) | (cases h; done) | split at h)
  | binOp op t x y z =>
    rw [ho] at h
    simp only at h ⊢
    repeat' (first | exact same_any h | exact flat_any h | (injection h with h; injection h with h1 _; rw [h1]; done) | (cases h; done) | split at h)
  | unOp op t x =>
    rw [ho] at h
    simp only at h ⊢
    repeat' (first | exact same_any h | exact flat_any h | (injection h with h; injection h with h1 _; rw [h1]; done) | (cases h; done) | split at h)
  | index t x y =>
    rw [ho] at h
    simp only at h ⊢
    repeat' (first | exact same_any h | exact flat_any h | (injection h with h; injection h with h1 _; rw [h1]; done) | (cases h; done) | split at h)
  | fieldAddr s x f =>
    rw [ho] at h
    simp only at h ⊢
    repeat' (first | exact same_any h | exact flat_any h | (injection h with h; injection h with h1 _; rw [h1]; done) | (cases h; done) | split at h)
  | field s x f =>
    rw [ho] at h
    simp only at h ⊢
    repeat' (first | exact same_any h | exact flat_any h | (injection h with h; injection h with h1 _; rw [h1]; done) | (cases h; done) | split at h)
  | indexAddr t x y =>
    rw [ho] at h
    simp only at h ⊢
    repeat' (first | exact same_any h | exact flat_any h | (injection h with h; injection h with h1 _; rw [h1]; done) | (cases h; done) | split at h)
  | extract x i =>
    rw [ho] at h
    simp only at h ⊢
    repeat' (first | exact same_any h | exact flat_any h | (injection h with h; injection h with h1 _; rw [h1]; done) | (cases h; done) | split at h)
  | makeFunc fn fs cs =>
    rw [ho] at h
    simp only at h ⊢
    repeat' (first | exact same_any h | exact flat_any h | (injection h with h; injection h with h1 _; rw [h1]; done) | (cases h; done) | split at h)
  | call c =>
    rw [ho] at h he hl
    simp only at h ⊢
    cases hb : c.callee with
    | builtin b =>
      rw [hb] at h
      simp only [effect, looksMem, hb] at he hl h ⊢
      unfold builtinA at h ⊢
      cases b <;> first | (cases he; done) | (cases hl; done) | exact flat_any h
    | _ => rw [hb] at h; cases h
  | alloc _ => rw [ho] at he; cases he
  | box _ _ => rw [ho] at he; cases he
  | buildSlice _ _ _ => rw [ho] at he; cases he
  | store _ _ _ => rw [ho] at he; cases he
  | makeMap _ _ => rw [ho] at he; cases he
  | makeSlice _ _ _ => rw [ho] at he; cases he
  | mapUpdate _ _ _ _ => rw [ho] at he; cases he
  | load _ _ => rw [ho] at hl; cases hl
  | lookup _ _ _ _ => rw [ho] at hl; cases hl
  | slice _ _ _ _ _ => rw [ho] at hl; cases hl
  | convert _ _ _ => rw [ho] at hl; cases hl
  | _ => rw [ho] at h; exact flat_any h
def owes (all : List Oper) (an : List Nat) (i0 : Nat) : List (Nat × Nat) := (List.range all.length).flatMap fun i => match all[i]? with
  | some o => if effect o.op || !looksMem o.op then [] else ((places all).filter fun f => mayBe all an i0 i f).map fun f => (i, f)
  | none => []
def Owed (P : Program) (all : List Oper) (tr : List (Fr × AW × Value)) (σf : AW) (p : Nat × Nat) : Prop := match all[p.1]?, tr[p.1]? with
  | some o, some (A, _, v) => Gd P all A (stOf tr σf p.2) o v (stOf tr σf p.2)
  | _, _ => True
theorem calm_owed {all : List Oper} {tr : List (Fr × AW × Value)} {A0 Af : Fr} {σ0 σf : AW} {i0 : Nat} (htr : TraceR P all tr A0 Af σ0 σf) (h : ∀ p ∈ owes all (ancL [] all) i0, Owed P all tr σf p) : CalmR P all (ancL [] all) i0 tr σf := by
  intro i o B τ v ho hv he f hf hm
  cases hl : looksMem o.op with
  | true =>
    have : (i, f) ∈ owes all (ancL [] all) i0 := by
      unfold owes
      refine List.mem_flatMap.2 ⟨i, List.mem_range.2 (List.getElem?_eq_some_iff.1 ho).1, ?_⟩
      rw [ho]
      simp only [he, hl, Bool.not_true, Bool.or_self, Bool.false_eq_true, if_false]
      exact List.mem_map.2 ⟨f, List.mem_filter.2 ⟨hf, hm⟩, rfl⟩
    have := h _ this
    unfold Owed at this
    simp only [ho, hv] at this
    exact this
  | false =>
    obtain ⟨_, _, h3⟩ := htr
    obtain ⟨v', q1, q2, _⟩ := h3 i o ho
    rw [hv] at q1
    injection q1 with q1
    injection q1 with e1 q1
    injection q1 with e2 e3
    subst e3
    rw [← e1] at q2
    unfold Gd at q2 ⊢
    split at q2
    · unfold StR at q2 ⊢
      split at q2
      · rename_i c hc
        split at q2
        · rename_i g hg
          rw [hc] at he
          simp [effect, hg] at he
        · exact op_any he hl q2
      · exact op_any he hl q2
    · exact ⟨q2.1, rfl⟩
    · exact q2.elim
theorem opsT_trace {all : List Oper} {K : List (Fr × AW × Value) → Fr → AW → Prop} {A0 : Fr} {σ0 : AW} : ∀ {l : List Oper} {tr : List (Fr × AW × Value)} {A : Fr} {σ : AW}, all.drop tr.length = l → tr.length ≤ all.length →
    (stAt tr A σ 0 = (A0, σ0) ∧ ∀ i o, all[i]? = some o → i < tr.length → ∃ v, tr[i]? = some ((stAt tr A σ i).1, (stAt tr A σ i).2, v) ∧ Gd P all (stAt tr A σ i).1 (stAt tr A σ i).2 o v (stAt tr A σ (i + 1)).2 ∧ (stAt tr A σ (i + 1)).1 = putA (stAt tr A σ i).1 o.dst v) →
    OpsT P all l tr A σ K → ∃ tr' Af σf, TraceR P all tr' A0 Af σ0 σf ∧ K tr' Af σf
  | [], tr, A, σ, hd, hle, hI, h => by
    have hl : tr.length = all.length := by
      have := congrArg List.length hd
      simp at this
      omega
    exact ⟨tr, A, σ, ⟨hl, hI.1, fun i o ho => hI.2 i o ho (by have := (List.getElem?_eq_some_iff.1 ho).1; omega)⟩, h⟩
  | o :: l, tr, A, σ, hd, hle, hI, h => by
    obtain ⟨v, σ', hg, hr⟩ := h
    have hlt : tr.length < all.length := by
      have := congrArg List.length hd
      simp at this
      omega
    have hot : all[tr.length]? = some o := by
      have := congrArg (fun l => l[0]?) hd
      simpa using this
    have hst : ∀ i, i ≤ tr.length → stAt (tr ++ [(A, σ, v)]) (putA A o.dst v) σ' i = stAt tr A σ i := fun i hi => by
      unfold stAt
      rcases Nat.lt_or_ge i tr.length with h1 | h1
      · rw [List.getElem?_append_left h1, List.getElem?_eq_getElem h1]
      · have : i = tr.length := by omega
        subst this
        simp
    have hend : stAt (tr ++ [(A, σ, v)]) (putA A o.dst v) σ' (tr.length + 1) = (putA A o.dst v, σ') := by
      unfold stAt
      rw [List.getElem?_eq_none (by simp)]
    have hcur : stAt tr A σ tr.length = (A, σ) := by
      unfold stAt
      rw [List.getElem?_eq_none (Nat.le_refl _)]
    refine opsT_trace (l := l) (tr := tr ++ [(A, σ, v)]) ?_ (by simp; omega) ⟨by rw [hst 0 (Nat.zero_le _)]; exact hI.1, fun i x hx hi => ?_⟩ hr
    · have := congrArg (List.drop 1) hd
      simpa using this
    · simp only [List.length_append, List.length_singleton] at hi
      rcases Nat.lt_or_ge i tr.length with h1 | h1
      · obtain ⟨u, q1, q2, q3⟩ := hI.2 i x hx h1
        refine ⟨u, ?_, ?_, ?_⟩
        · rw [hst i (by omega), List.getElem?_append_left h1]; exact q1
        · rw [hst i (by omega), hst (i + 1) (by omega)]; exact q2
        · rw [hst i (by omega), hst (i + 1) (by omega)]; exact q3
      · have e : i = tr.length := by omega
        subst e
        rw [hot] at hx
        injection hx with hx
        subst hx
        refine ⟨v, ?_, ?_, ?_⟩
        · rw [hst _ (Nat.le_refl _), hcur]; simp
        · rw [hst _ (Nat.le_refl _), hcur, hend]; exact hg
        · rw [hst _ (Nat.le_refl _), hcur, hend]
theorem W_drawn {id : Nat} {ops : Array Oper} (hm : P.follows .mixedOrders = true) (hok : regOK ops.toList = true) (hff : floatFit ops.toList (floatAt ops.toList (ancL [] ops.toList)) A = true)
    (h : OpsT P ops.toList ops.toList [] A σ (fun tr A' σ' => (∀ p ∈ owes ops.toList (ancL [] ops.toList) (floatAt ops.toList (ancL [] ops.toList)), Owed P ops.toList tr σ' p) ∧ Q .normal A' σ')) : W P (.region id ops true) A σ Q := by
  obtain ⟨tr, A', σ', ht, ho, hq⟩ := opsT_trace (A0 := A) (σ0 := σ) (by simp) (Nat.zero_le _) ⟨by unfold stAt; rfl, fun i o _ hi => absurd hi (Nat.not_lt_zero _)⟩ h
  exact ⟨.normal, A', σ', fun ρ a w hR hT => wp_region_any hm (draw_any hok hff ht (calm_owed ht ho) hR hT (fun ρ' a' w' hst hT' => ⟨rfl, ρ', hst, hT'⟩)), hq⟩
theorem W_drawnL {id : Nat} {ops : Array Oper} {all : List Oper} (hm : P.follows .mixedOrders = true) (hall : permOps ops.toList (lateOrd ops.toList) = all) (hp : permOK ops.toList (lateOrd ops.toList) = true) (hw : within ops.toList = true) (hok : regOK all = true) (hff : floatFit all (floatAt all (ancL [] all)) A = true)
    (h : OpsT P all all [] A σ (fun tr A' σ' => (∀ p ∈ owes all (ancL [] all) (floatAt all (ancL [] all)), Owed P all tr σ' p) ∧ Q .normal A' σ')) : W P (.region id ops true) A σ Q := by
  obtain ⟨tr, A', σ', ht, ho, hq⟩ := opsT_trace (A0 := A) (σ0 := σ) (by simp) (Nat.zero_le _) ⟨by unfold stAt; rfl, fun i o _ hi => absurd hi (Nat.not_lt_zero _)⟩ h
  exact ⟨.normal, A', σ', fun ρ a w hR hT => wp_region_any hm (draw_perm hall hp hw hok hff ht (calm_owed ht ho) hR hT (fun ρ' a' w' hst hT' => ⟨rfl, ρ', hst, hT'⟩)), hq⟩

/-! ### The same, with what looked at memory, and the memories, alone -/
def getK {α : Type} (k : Nat) : List (Nat × α) → Option α
  | [] => none
  | (j, x) :: l => match Nat.beq j k with
    | true => some x
    | false => getK k l
def OpsV (P : Program) (all : List Oper) : Nat → List Oper → List (Nat × Fr × Value) → List (Nat × AW) → Fr → AW → (List (Nat × Fr × Value) → List (Nat × AW) → Fr → AW → Prop) → Prop
  | _, [], pd, st, A, σ, K => K pd st A σ
  | k, o :: l, pd, st, A, σ, K => ∃ v σ', Gd P all A σ o v σ' ∧ OpsV P all (k + 1) l (if looksMem o.op then (k, A, v) :: pd else pd) (if effect o.op then (k + 1, σ') :: st else st) (putA A o.dst v) σ' K
def OwedV (P : Program) (all : List Oper) (pd : List (Nat × Fr × Value)) (st : List (Nat × AW)) (p : Nat × Nat) : Prop := ∃ o A v τ, all[p.1]? = some o ∧ getK p.1 pd = some (A, v) ∧ getK p.2 st = some τ ∧ Gd P all A τ o v τ
theorem getK_all {α : Type} {Q : Nat → α → Prop} {k : Nat} {x : α} : ∀ {l : List (Nat × α)}, (∀ p ∈ l, Q p.1 p.2) → getK k l = some x → Q k x
  | [], _, h => by cases h
  | (j, y) :: l, hq, h => by
    unfold getK at h
    split at h
    · rename_i e
      injection h with h
      subst h
      have := hq (j, y) (List.mem_cons_self ..)
      rw [Nat.eq_of_beq_eq_true e] at this
      exact this
    · exact getK_all (fun p hp => hq p (List.mem_cons_of_mem _ hp)) h
theorem opsV_T {all : List Oper} {K : List (Nat × Fr × Value) → List (Nat × AW) → Fr → AW → Prop} : ∀ {l : List Oper} {tr : List (Fr × AW × Value)} {pd : List (Nat × Fr × Value)} {st : List (Nat × AW)} {A : Fr} {σ : AW},
    (∀ p ∈ pd, ∃ τ, tr[p.1]? = some (p.2.1, τ, p.2.2)) → (∀ p ∈ st, p.1 ≤ tr.length ∧ stOf tr σ p.1 = p.2) → OpsV P all tr.length l pd st A σ K →
    OpsT P all l tr A σ (fun tr' A' σ' => ∃ pd' st', (∀ p ∈ pd', ∃ τ, tr'[p.1]? = some (p.2.1, τ, p.2.2)) ∧ (∀ p ∈ st', stOf tr' σ' p.1 = p.2) ∧ K pd' st' A' σ')
  | [], tr, pd, st, A, σ, h1, h2, h => ⟨pd, st, h1, fun p hp => (h2 p hp).2, h⟩
  | o :: l, tr, pd, st, A, σ, h1, h2, h => by
    obtain ⟨v, σ', hg, hr⟩ := h
    refine ⟨v, σ', hg, opsV_T (tr := tr ++ [(A, σ, v)]) ?_ ?_ (by rw [List.length_append]; exact hr)⟩
    · have old : ∀ p ∈ pd, ∃ τ, (tr ++ [(A, σ, v)])[p.1]? = some (p.2.1, τ, p.2.2) := fun p hp => by
        obtain ⟨τ, hτ⟩ := h1 p hp
        exact ⟨τ, by rw [List.getElem?_append_left (List.getElem?_eq_some_iff.1 hτ).1]; exact hτ⟩
      intro p hp
      split at hp
      · cases hp with
        | head => exact ⟨σ, by simp⟩
        | tail _ hp => exact old p hp
      · exact old p hp
    · have keep : ∀ f, f ≤ tr.length → stOf (tr ++ [(A, σ, v)]) σ' f = stOf tr σ f := fun f hf => by
        unfold stOf
        rcases Nat.lt_or_ge f tr.length with h | h
        · rw [List.getElem?_append_left h]
          rw [List.getElem?_eq_getElem h]
        · have : f = tr.length := by omega
          subst this
          simp
      have old : ∀ p ∈ st, p.1 ≤ (tr ++ [(A, σ, v)]).length ∧ stOf (tr ++ [(A, σ, v)]) σ' p.1 = p.2 := fun p hp => by
        obtain ⟨q1, q2⟩ := h2 p hp
        exact ⟨by simp; omega, by rw [keep p.1 q1]; exact q2⟩
      intro p hp
      split at hp
      · cases hp with
        | head => exact ⟨by simp, by unfold stOf; rw [List.getElem?_eq_none (by simp)]⟩
        | tail _ hp => exact old p hp
      · exact old p hp
theorem W_drawnV {id : Nat} {l : List Oper} (hm : P.follows .mixedOrders = true) (hok : regOK l = true) (hff : floatFit l (floatAt l (ancL [] l)) A = true)
    (h : OpsV P l 0 l [] [(0, σ)] A σ (fun pd st A' σ' => (∀ p ∈ owes l (ancL [] l) (floatAt l (ancL [] l)), OwedV P l pd st p) ∧ Q .normal A' σ')) : W P (.region id l.toArray true) A σ Q := by
  have h := opsV_T (tr := []) (fun p hp => by cases hp) (fun p hp => by simp only [List.mem_singleton] at hp; subst hp; exact ⟨Nat.le_refl _, rfl⟩) h
  refine W_drawn (ops := l.toArray) hm hok hff ?_
  have mono : ∀ {l1 : List Oper} {tr : List (Fr × AW × Value)} {A : Fr} {σ : AW} {K K' : List (Fr × AW × Value) → Fr → AW → Prop}, (∀ tr A σ, K tr A σ → K' tr A σ) → OpsT P l l1 tr A σ K → OpsT P l l1 tr A σ K' := by
    intro l1
    induction l1 with
    | nil => intro tr A σ K K' hk h; exact hk _ _ _ h
    | cons o l1 ih =>
      rintro tr A σ K K' hk ⟨v, σ', hg, hr⟩
      exact ⟨v, σ', hg, ih hk hr⟩
  refine mono ?_ h
  rintro tr A' σ' ⟨pd, st, h1, h2, h3, h4⟩
  refine ⟨fun p hp => ?_, h4⟩
  obtain ⟨o, B, v, τ, q1, q2, q3, q4⟩ := h3 p hp
  have hpd := getK_all (Q := fun k x => ∃ τ, tr[k]? = some (x.1, τ, x.2)) h1 q2
  have hst := getK_all (Q := fun k x => stOf tr σ' k = x) h2 q3
  obtain ⟨τ', hτ'⟩ := hpd
  unfold Owed
  simp only [q1, hτ', hst]
  exact q4
theorem W_drawnVL {id : Nat} {l all : List Oper} (hm : P.follows .mixedOrders = true) (hall : permOps l (lateOrd l) = all) (hp : permOK l (lateOrd l) = true) (hw : within l = true) (hok : regOK all = true) (hff : floatFit all (floatAt all (ancL [] all)) A = true)
    (h : OpsV P all 0 all [] [(0, σ)] A σ (fun pd st A' σ' => (∀ p ∈ owes all (ancL [] all) (floatAt all (ancL [] all)), OwedV P all pd st p) ∧ Q .normal A' σ')) : W P (.region id l.toArray true) A σ Q := by
  have h := opsV_T (tr := []) (fun p hp => by cases hp) (fun p hp => by simp only [List.mem_singleton] at hp; subst hp; exact ⟨Nat.le_refl _, rfl⟩) h
  refine W_drawnL (ops := l.toArray) hm hall hp hw hok hff ?_
  have mono : ∀ {l1 : List Oper} {tr : List (Fr × AW × Value)} {A : Fr} {σ : AW} {K K' : List (Fr × AW × Value) → Fr → AW → Prop}, (∀ tr A σ, K tr A σ → K' tr A σ) → OpsT P all l1 tr A σ K → OpsT P all l1 tr A σ K' := by
    intro l1
    induction l1 with
    | nil => intro tr A σ K K' hk h; exact hk _ _ _ h
    | cons o l1 ih =>
      rintro tr A σ K K' hk ⟨v, σ', hg, hr⟩
      exact ⟨v, σ', hg, ih hk hr⟩
  refine mono ?_ h
  rintro tr A' σ' ⟨pd, st, h1, h2, h3, h4⟩
  refine ⟨fun p hp => ?_, h4⟩
  obtain ⟨o, B, v, τ, q1, q2, q3, q4⟩ := h3 p hp
  have hpd := getK_all (Q := fun k x => ∃ τ, tr[k]? = some (x.1, τ, x.2)) h1 q2
  have hst := getK_all (Q := fun k x => stOf tr σ' k = x) h2 q3
  obtain ⟨τ', hτ'⟩ := hpd
  unfold Owed
  simp only [q1, hτ', hst]
  exact q4

/-! ### Calls -/
def Ret (P : Program) (fn : Func) (R : Value → AW → Prop) : Exit → Fr → AW → Prop := fun e A σ => (e = .ret ∨ e = .normal) ∧ ∃ vs, resultsA P A σ fn.results.toList = some vs ∧ R (resultA vs) σ
theorem C_of_W {g : Nat} {fn : Func} {c : Code} {xs : List Value} {R : Value → AW → Prop} (hN : (fn.name == "runtime.NumGoroutine") = false) (hf : P.funcs[g]? = some fn) (hb : fn.body = some c) (hl : xs.length ≤ fn.ntmps) (h : W P c ((Fr.new fn.ntmps).fill 0 xs) σ (Ret P fn R)) : C P g xs σ R := by
  obtain ⟨e, A', σ', hrun, he, vs, hvs, hR⟩ := h
  refine ⟨resultA vs, σ', ⟨?_, fun ρ w hRel hs => ?_⟩, hR⟩
  · intro args w
    unfold callFunc
    have h2 : fn.body.isNone = false := by rw [hb]; rfl
    simp only [Sem.run_bind, run_program, Result.andThen_ok, hf, hN, h2, Bool.false_eq_true, if_false, Sem.run_pure]
  · refine calls_of_wp hf hb ?_
    have hT := frame_tr (ρ := ρ) hs hl
    refine wp_mono (hrun ρ _ w hRel hT) ?_
    rintro e' a' w' ⟨rfl, ρ', hst, hT'⟩
    obtain ⟨q1, q2⟩ := result_ok hst.rel hT' hvs
    rcases he with rfl | rfl
    · exact ⟨hT'.defers, _, q1, ρ', rfl, hst, q2⟩
    · exact ⟨hT'.defers, _, q1, ρ', rfl, hst, q2⟩
end

end Go.Proofs.YtckidlbmoalomaaGreatDoor


namespace Go.Proofs.YtckidlbmoalomaaGreatDoor
open Go.RowKit

section
variable {P : Program} {A : Fr} {σ : AW}
theorem ev_tmp (t : Tmp) : ev A (.tmp t) = A.get t := rfl
theorem ev_int (k : IntKind) (n : Int) : ev A (.const (.int k n)) = some (.int k n) := rfl
theorem ev_bool (b : Bool) : ev A (.const (.bool b)) = some (.bool b) := rfl
theorem ev_str (s : ByteArray) : ev A (.const (.string s)) = some (.string s) := rfl
theorem ev_nilS (l c : Nat) : ev A (.const (.slice none l c)) = some (.slice none l c) := rfl
theorem ev_nilP : ev A (.const (.pointer none)) = some (.pointer none) := rfl
theorem ev_fn (f : FuncId) : ev A (.func f) = some (.func (.func f) #[] #[]) := rfl
theorem evAll_nil : evAll A [] = some [] := rfl
theorem evAll_cons {x : Operand} {l : List Operand} : evAll A (x :: l) = match ev A x with
  | none => none
  | some v => match evAll A l with
    | none => none
    | some vs => some (v :: vs) := rfl
theorem evParts_nil : evParts A [] = some [] := rfl
theorem evParts_cons {i : Nat} {x : Operand} {l : List (Nat × Operand)} : evParts A ((i, x) :: l) = match ev A x with
  | none => none
  | some v => match evParts A l with
    | none => none
    | some vs => some ((i, v) :: vs) := rfl
theorem put_eq {d : Nat} {v : Value} (h : d < A.size) : (putA A (some d) v).get d = some v := by
  simp only [putA, Fr.get_set, if_true]
  unfold Fr.get
  have : Nat.blt d A.size = true := Nat.ble_eq_true_of_le h
  rw [this]
  rfl
theorem put_ne {d t : Nat} {v : Value} (h : t ≠ d) : (putA A (some d) v).get t = A.get t := by
  simp only [putA, Fr.get_set, if_neg h]
theorem put_size {d : Option Tmp} {v : Value} : (putA A d v).size = A.size := by cases d <;> rfl
theorem put_none {v : Value} : putA A none v = A := rfl
theorem fill_size : ∀ (xs : List Value) (i : Nat) (A : Fr), (A.fill i xs).size = A.size
  | [], _, _ => rfl
  | _ :: xs, i, _ => fill_size xs (i + 1) _
theorem fill_get : ∀ (xs : List Value) (i : Nat) (A : Fr), i + xs.length ≤ A.size → (∀ t, t < i → (A.fill i xs).get t = A.get t) ∧ ∀ j v, xs[j]? = some v → (A.fill i xs).get (i + j) = some v
  | [], i, A, _ => ⟨fun _ _ => rfl, fun j v h => by cases h⟩
  | x :: xs, i, A, hl => by
    have hl : i + (xs.length + 1) ≤ A.size := hl
    obtain ⟨h1, h2⟩ := fill_get xs (i + 1) (A.set i x) (by show i + 1 + xs.length ≤ A.size; omega)
    refine ⟨fun t ht => ?_, fun j v hj => ?_⟩
    · show ((A.set i x).fill (i + 1) xs).get t = _
      rw [h1 t (by omega)]
      exact put_ne (A := A) (d := i) (v := x) (by omega)
    · show ((A.set i x).fill (i + 1) xs).get (i + j) = _
      cases j with
      | zero =>
        injection hj with hj
        subst hj
        show ((A.set i x).fill (i + 1) xs).get i = _
        rw [h1 i (by omega)]
        exact put_eq (A := A) (d := i) (by omega)
      | succ j =>
        have := h2 j v hj
        rw [show i + 1 + j = i + (j + 1) by omega] at this
        exact this
def RetL (P : Program) (rs : List ResultVar) (R : Value → AW → Prop) : Exit → Fr → AW → Prop := fun e A σ => (e = .ret ∨ e = .normal) ∧ ∃ vs, resultsA P A σ rs = some vs ∧ R (resultA vs) σ
theorem ret_mk {rs : List ResultVar} {R : Value → AW → Prop} {vs : List Value} (h : resultsA P A σ rs = some vs) (hR : R (resultA vs) σ) : RetL P rs R .ret A σ := ⟨.inl rfl, vs, h, hR⟩
theorem end_mk {rs : List ResultVar} {R : Value → AW → Prop} {vs : List Value} (h : resultsA P A σ rs = some vs) (hR : R (resultA vs) σ) : RetL P rs R .normal A σ := ⟨.inr rfl, vs, h, hR⟩
theorem res_nil : resultsA P A σ [] = some [] := rfl
theorem res_cons {r : ResultVar} {l : List ResultVar} : resultsA P A σ (r :: l) = match resultOne P A σ r with
  | none => none
  | some v => match resultsA P A σ l with
    | none => none
    | some vs => some (v :: vs) := rfl
theorem res_tmp {t : Tmp} : resultOne P A σ (.tmp t) = A.get t := rfl
theorem res_cell {a : Tmp} {t : TypeId} : resultOne P A σ (.cell a t) = match A.get a with
  | some (.pointer (some ad)) => loadA P σ t ad
  | _ => none := rfl
theorem C_enter {g n : Nat} {fn : Func} {c : Code} {xs : List Value} {rs : List ResultVar} {R : Value → AW → Prop} (hN : (fn.name == "runtime.NumGoroutine") = false) (hf : P.funcs[g]? = some fn) (hb : fn.body = some c) (hn : fn.ntmps = n) (hr : fn.results = rs.toArray) (hl : xs.length ≤ n)
    (h : ∀ A : Fr, A.size = n → (∀ i v, xs[i]? = some v → A.get i = some v) → W P c A σ (RetL P rs R)) : C P g xs σ R := by
  refine C_of_W hN hf hb (by omega) (W.mono (h _ ?_ ?_) (fun e A' σ' hq => ?_))
  · rw [fill_size]; exact hn
  · intro i v hv
    have := (fill_get xs 0 (Fr.new fn.ntmps) (by show 0 + xs.length ≤ fn.ntmps; omega)).2 i v hv
    rwa [Nat.zero_add] at this
  · obtain ⟨h1, vs, h2, h3⟩ := hq
    exact ⟨h1, vs, by rw [hr]; exact h2, h3⟩

/-! ### Operations -/
def binE (op : BinOp) (x y : Option Value) (σ : AW) (other : Option (Value × AW)) : Option (Value × AW) := match x with
  | some u => match y with
    | some v => match fastB op u v with
      | some r => some (r, σ)
      | none => other
    | none => none
  | none => none
def binO (P : Program) (A : Fr) (σ : AW) (o : Oper) : Option (Value × AW) := opA P A σ o
theorem bin_eqI (k : IntKind) (a b : Int) : fastB .eql (.int k a) (.int k b) = some (.bool (a == b)) := by simp [fastB]
theorem bin_neI (k : IntKind) (a b : Int) : fastB .neq (.int k a) (.int k b) = some (.bool (a != b)) := by simp [fastB]
theorem bin_ltI (k : IntKind) (a b : Int) : fastB .lss (.int k a) (.int k b) = some (.bool (decide (a < b))) := by simp [fastB]
theorem bin_leI (k : IntKind) (a b : Int) : fastB .leq (.int k a) (.int k b) = some (.bool (decide (a ≤ b))) := by simp [fastB]
theorem bin_gtI (k : IntKind) (a b : Int) : fastB .gtr (.int k a) (.int k b) = some (.bool (decide (a > b))) := by simp [fastB]
theorem bin_geI (k : IntKind) (a b : Int) : fastB .geq (.int k a) (.int k b) = some (.bool (decide (a ≥ b))) := by simp [fastB]
theorem smallI_some {n : Int} (h0 : 0 ≤ n) (h1 : n ≤ 9223372036854775807) : smallI .i64 n = some (.int .i64 n) := by
  unfold smallI
  cases n with
  | ofNat m =>
    have : Nat.ble m 9223372036854775807 = true := Nat.ble_eq_true_of_le (by simp only [Int.ofNat_eq_natCast] at h1; omega)
    simp only [this]
  | negSucc m => omega
theorem bin_addI {a b : Int} (h0 : 0 ≤ a + b) (h1 : a + b ≤ 9223372036854775807) : fastB .add (.int .i64 a) (.int .i64 b) = some (.int .i64 (a + b)) := by
  simp only [fastB, decide_true]
  exact smallI_some h0 h1
theorem bin_subI {a b : Int} (h0 : 0 ≤ a - b) (h1 : a - b ≤ 9223372036854775807) : fastB .sub (.int .i64 a) (.int .i64 b) = some (.int .i64 (a - b)) := by
  simp only [fastB, decide_true]
  exact smallI_some h0 h1
theorem eqL_dec (a b : ByteArray) : eqL a.data.toList b.data.toList = decide (a = b) := by
  rw [eqL_eq]
  by_cases h : a = b
  · subst h; simp
  · have : ¬ a.data.toList = b.data.toList := fun e => h (by cases a; cases b; congr 1; exact Array.ext' e)
    simp only [h, decide_false, beq_eq_false_iff_ne]
    exact this
theorem bin_eqS (a b : ByteArray) : fastB .eql (.string a) (.string b) = some (.bool (decide (a = b))) := by simp only [fastB, eqL_dec]
theorem bin_neS (a b : ByteArray) : fastB .neq (.string a) (.string b) = some (.bool (!decide (a = b))) := by simp only [fastB, eqL_dec]
section
variable {d : Option Tmp} {ty : TypeId} {po : String} {af : Array Edge} {gd : Option (Nat × Bool)}
theorem op_move {x : Operand} : opA P A σ ⟨d, .move x, ty, po, af, gd⟩ = same σ (ev A x) := rfl
theorem op_assign {x : Operand} : opA P A σ ⟨d, .assign x, ty, po, af, gd⟩ = same σ (ev A x) := rfl
theorem op_pick {c x y : Operand} : opA P A σ ⟨d, .pick c x y, ty, po, af, gd⟩ = match ev A c with
  | some (.bool true) => same σ (ev A x)
  | some (.bool false) => same σ (ev A y)
  | _ => none := rfl
theorem op_alloc {t : TypeId} : opA P A σ ⟨d, .alloc t, ty, po, af, gd⟩ = match zeroOf P t with
  | some z => some (.pointer (some ⟨σ.next, 0, none⟩), σ.push ⟨1, t, 0, cellsL z⟩)
  | none => none := rfl
theorem op_box {t : TypeId} {x : Operand} : opA P A σ ⟨d, .box t x, ty, po, af, gd⟩ = match ev A x with
  | some v => some (.pointer (some ⟨σ.next, 0, none⟩), σ.push ⟨1, t, 0, cellsL v⟩)
  | none => none := rfl
theorem op_build {t : TypeId} {ps : Array (Nat × Operand)} : opA P A σ ⟨d, .build t ps, ty, po, af, gd⟩ = match evParts A ps.toList with
  | some vs => same σ (buildA P t vs)
  | none => none := rfl
theorem op_buildSlice {t : TypeId} {len : Nat} {ps : Array (Nat × Operand)} : opA P A σ ⟨d, .buildSlice t len ps, ty, po, af, gd⟩ = match evParts A ps.toList with
  | some vs => buildSliceA P σ t len vs
  | none => none := rfl
theorem op_load {t : TypeId} {x : Operand} : opA P A σ ⟨d, .load t x, ty, po, af, gd⟩ = match ev A x with
  | some (.pointer (some a)) => same σ (loadA P σ t a)
  | _ => none := rfl
theorem op_store {t : TypeId} {x y : Operand} : opA P A σ ⟨d, .store t x y, ty, po, af, gd⟩ = match ev A x with
  | some (.pointer (some a)) => match ev A y with
    | some v => none2 (storeA P σ t a v)
    | none => none
  | _ => none := rfl
theorem op_nilCheck {x : Operand} : opA P A σ ⟨d, .nilCheck x, ty, po, af, gd⟩ = match ev A x with
  | some (.pointer (some a)) => some (.pointer (some a), σ)
  | _ => none := rfl
theorem op_not {t : TypeId} {x : Operand} : opA P A σ ⟨d, .unOp .not t x, ty, po, af, gd⟩ = match ev A x with
  | some (.bool b) => some (.bool (!b), σ)
  | _ => flatA P A σ ⟨d, .unOp .not t x, ty, po, af, gd⟩ := by
    cases h : ev A x with
    | none => simp only [opA, h]
    | some v => cases v <;> simp only [opA, h]
theorem op_fieldAddr {s : TypeId} {x : Operand} {f : Nat} : opA P A σ ⟨d, .fieldAddr s x f, ty, po, af, gd⟩ = match ev A x with
  | some v => same σ (fieldAtA P s v f)
  | none => none := rfl
theorem op_field {s : TypeId} {x : Operand} {f : Nat} : opA P A σ ⟨d, .field s x f, ty, po, af, gd⟩ = match ev A x with
  | some v => same σ (fieldA P s v f)
  | none => none := rfl
theorem op_indexAddr {t : TypeId} {x y : Operand} : opA P A σ ⟨d, .indexAddr t x y, ty, po, af, gd⟩ = match ev A x with
  | some u => match ev A y with
    | some v => same σ (indexAtA P t u v)
    | none => none
  | none => none := by
    cases h1 : ev A x <;> cases h2 : ev A y <;> simp only [opA, h1, h2]
theorem op_extract {x : Operand} {i : Nat} : opA P A σ ⟨d, .extract x i, ty, po, af, gd⟩ = match ev A x with
  | some v => same σ (extractA v i)
  | none => none := rfl
theorem op_makeFunc {fn : Fn} {fs cs : Array Operand} : opA P A σ ⟨d, .makeFunc fn fs cs, ty, po, af, gd⟩ = match evAll A fs.toList with
  | some u => match evAll A cs.toList with
    | some v => some (.func fn u.toArray v.toArray, σ)
    | none => none
  | none => none := by
    cases h1 : evAll A fs.toList <;> cases h2 : evAll A cs.toList <;> simp only [opA, h1, h2]
theorem op_slice {t : TypeId} {x : Operand} {lo hi mx : Option Operand} : opA P A σ ⟨d, .slice t x lo hi mx, ty, po, af, gd⟩ = match ev A x with
  | some (.slice a l c) => match evO A lo with
    | some lo => match evO A hi with
      | some hi => match evO A mx with
        | some mx => same σ (sliceA P σ t (.slice a l c) lo hi mx)
        | none => none
      | none => none
    | none => none
  | _ => binO P A σ ⟨d, .slice t x lo hi mx, ty, po, af, gd⟩ := by
    cases h1 : ev A x with
    | none => rfl
    | some v =>
      cases v with
      | slice a l c => cases h2 : evO A lo <;> cases h3 : evO A hi <;> cases h4 : evO A mx <;> simp only [opA, h1, h2, h3, h4]
      | _ => rfl
theorem evO_none : evO A none = some none := rfl
theorem evO_some {x : Operand} : evO A (some x) = match ev A x with
  | none => none
  | some v => some (some v) := rfl
theorem op_bin {op : BinOp} {t t2 : TypeId} {x y : Operand} : opA P A σ ⟨d, .binOp op t x y t2, ty, po, af, gd⟩ = binE op (ev A x) (ev A y) σ (binO P A σ ⟨d, .binOp op t x y t2, ty, po, af, gd⟩) := by
  unfold binE binO
  split
  · split
    · split
      · rename_i h1 _ _ h2 _ _ h3
        simp only [opA, h1, h2, h3]
      · rfl
    · rename_i u h1 _ h2
      simp only [opA, h1, h2]
  · rename_i h1
    simp only [opA, h1]
theorem op_len {t : TypeId} {x : Operand} : opA P A σ ⟨d, .call ⟨.builtin .len, #[x], #[t]⟩, ty, po, af, gd⟩ = match ev A x with
  | some u => same σ (lenA P σ t u)
  | none => none := by
  cases h1 : ev A x <;> simp only [opA, builtinA, evAll, h1]
theorem op_append {t tx : TypeId} {x y : Operand} : opA P A σ ⟨d, .call ⟨.builtin .append, #[x, y], #[t, tx]⟩, ty, po, af, gd⟩ = match ev A x with
  | some u => match ev A y with
    | some v => appendA P σ t tx u v
    | none => none
  | none => none := by
  cases h1 : ev A x <;> cases h2 : ev A y <;> simp only [opA, builtinA, evAll, h1, h2]
theorem wanted_none {all : List Oper} {op : Op} : wantedA all A ⟨d, op, ty, po, af, none⟩ = some true := rfl
theorem wanted_some {all : List Oper} {op : Op} {j : Nat} {want b : Bool} {x : Oper} {t : Tmp} (h1 : all[j]? = some x) (h2 : x.dst = some t) (h3 : A.get t = some (.bool b)) : wantedA all A ⟨d, op, ty, po, af, some (j, want)⟩ = some (b == want) := by simp only [wantedA, h1, h2, h3]
end
/-! ### The walk -/
theorem s_R {id : Nat} {l : List Oper} {y : Code} {Q : Exit → Fr → AW → Prop} (h : Ops P l l A σ (fun A1 σ1 => W P y A1 σ1 Q)) : W P (.seq (.region id l.toArray false) y) A σ Q := s_q (W_region (ops := l.toArray) h)
theorem r_E {id : Nat} {l : List Oper} {Q : Exit → Fr → AW → Prop} (h : Ops P l l A σ (fun A1 σ1 => Q .normal A1 σ1)) : W P (.region id l.toArray false) A σ Q := W_region (ops := l.toArray) h
section
variable {d : Option Tmp} {ty : TypeId} {po : String} {af : Array Edge} {op : Op} {all l : List Oper} {K : Fr → AW → Prop} {KT : List (Fr × AW × Value) → Fr → AW → Prop} {tr : List (Fr × AW × Value)} {v : Value} {σ' : AW} {x : Oper} {j : Nat} {want : Bool} {t : Tmp}
theorem not_call {o : Oper} {r : Value × AW} (h : opA P A σ o = some r) : isCall o.op = false := by
  unfold isCall
  split
  · rename_i c hc
    split
    · rename_i f hf
      unfold opA at h
      rw [hc] at h
      simp only [hf] at h
      cases h
    · rfl
  · rfl
theorem o_p (h : opA P A σ ⟨d, op, ty, po, af, none⟩ = some (v, σ')) (hk : Ops P all l (putA A d v) σ' K) : Ops P all (⟨d, op, ty, po, af, none⟩ :: l) A σ K := Ops_op rfl (not_call h) h hk
theorem O_call {f : Operand} {os : Array Operand} {ts : Array TypeId} {g : Nat} {xs : List Value} (hx : callArgs A ⟨.value f, os, ts⟩ = some (g, xs)) (hk : C P g xs σ (fun v σ' => Ops P all l (putA A d v) σ' K)) : Ops P all (⟨d, .call ⟨.value f, os, ts⟩, ty, po, af, none⟩ :: l) A σ K := Ops_call rfl rfl rfl hx hk
section
variable {k : Nat} {pd : List (Nat × Fr × Value)} {st : List (Nat × AW)} {KV : List (Nat × Fr × Value) → List (Nat × AW) → Fr → AW → Prop}
theorem V_call {f : Operand} {os : Array Operand} {ts : Array TypeId} {g : Nat} {xs : List Value} (hx : callArgs A ⟨.value f, os, ts⟩ = some (g, xs)) (hk : C P g xs σ (fun v σ' => OpsV P all (k + 1) l pd ((k + 1, σ') :: st) (putA A d v) σ' KV)) : OpsV P all k (⟨d, .call ⟨.value f, os, ts⟩, ty, po, af, none⟩ :: l) pd st A σ KV := by
  obtain ⟨v, σ', h, hk⟩ := hk
  refine ⟨v, σ', ?_, hk⟩
  show Gd P all A σ _ v σ'
  unfold Gd
  rw [wanted_none]
  exact ⟨g, xs, hx, h⟩
theorem V_nil (h : KV pd st A σ) : OpsV P all k [] pd st A σ KV := h
theorem Owed_op {i f : Nat} {o : Oper} {B : Fr} {τ : AW} (h1 : all[i]? = some o) (h2 : getK i pd = some (B, v)) (h3 : getK f st = some τ) (hw : wantedA all B o = some true) (hc : isCall o.op = false) (h : opA P B τ o = some (v, τ)) : OwedV P all pd st (i, f) := ⟨o, B, v, τ, h1, h2, h3, Gd_op hw hc h⟩
theorem owe_cons {p : Nat × Nat} {l : List (Nat × Nat)} (h : OwedV P all pd st p) (k : ∀ q ∈ l, OwedV P all pd st q) : ∀ q ∈ p :: l, OwedV P all pd st q := by
  intro q hq
  cases hq with
  | head => exact h
  | tail _ hq => exact k q hq
theorem owe_nil : ∀ q ∈ ([] : List (Nat × Nat)), OwedV P all pd st q := fun _ hq => by cases hq
theorem owes_by {an : List Nat} {i0 : Nat} {L : List (Nat × Nat)} (h : owes all an i0 = L) (k : ∀ q ∈ L, OwedV P all pd st q) : ∀ q ∈ owes all an i0, OwedV P all pd st q := h ▸ k
end
end
theorem W_regDE {id : Nat} {l : List Oper} {Q : Exit → Fr → AW → Prop} (hm : P.follows .mixedOrders = true) (hok : regOK l = true) (hff : floatFit l (floatAt l (ancL [] l)) A = true)
    (h : OpsV P l 0 l [] [(0, σ)] A σ (fun pd st A' σ' => (∀ p ∈ owes l (ancL [] l) (floatAt l (ancL [] l)), OwedV P l pd st p) ∧ Q .normal A' σ')) : W P (.region id l.toArray true) A σ Q := W_drawnV hm hok hff h
theorem WL_inv {c : Code} {Q : Exit → Fr → AW → Prop} (I : Nat → Fr → AW → Prop) (step : ∀ m A σ, I m A σ → W P c A σ (Then (fun A1 σ1 => ∃ m', m' < m ∧ I m' A1 σ1) Q)) : ∀ {m : Nat} {A : Fr} {σ : AW}, I m A σ → WL P c A σ Q := by
  intro m
  induction m using Nat.strongRecOn with
  | _ m ih =>
    intro A σ h
    refine WL_round (W.mono (step m A σ h) fun e A1 σ1 hq => ?_)
    cases e with
    | normal => obtain ⟨m', hlt, hi⟩ := hq; exact ih m' hlt hi
    | _ => exact hq
def JumpL (l : Nat) (k : Fr → AW → Prop) (Q : Exit → Fr → AW → Prop) : Exit → Fr → AW → Prop := fun e A σ => match e with
  | .goto l' => l' = l ∧ k A σ
  | e => Q e A σ
theorem W_scopeL {l : Nat} {body : Code} {Q : Exit → Fr → AW → Prop} (I : Nat → Fr → AW → Prop) (step : ∀ m A σ, I m A σ → W P body A σ (JumpL l (fun A1 σ1 => ∃ m', m' < m ∧ I m' A1 σ1) Q)) {m : Nat} {A : Fr} {σ : AW} (h : I m A σ) : W P (.scope (.seq (.label l) body)) A σ Q := by
  have hl : findLabel (.seq (.label l) body) l = some (.seq .skip body) := by simp [findLabel]
  have key : ∀ (m : Nat) (A : Fr) (σ : AW), I m A σ → W P body A σ (Jump (.seq (.label l) body) (fun rest A1 σ1 => WS P (.seq (.label l) body) rest A1 σ1 Q) Q) := by
    intro m
    induction m using Nat.strongRecOn with
    | _ m ih =>
      intro A σ h
      refine W.mono (step m A σ h) fun e A1 σ1 hq => ?_
      cases e with
      | goto l' =>
        obtain ⟨rfl, m', hlt, hi⟩ := hq
        refine ⟨_, hl, WS_pass (s_q (s_k ?_))⟩
        exact ih m' hlt A1 σ1 hi
      | _ => exact hq
  exact W_scope (WS_pass (s_q (W_label (key m A σ h))))
theorem o_n {all : List Oper} {K : Fr → AW → Prop} (h : K A σ) : Ops P all [] A σ K := h
/-! ### Literals -/
theorem putL_eq : ∀ (vs cs : List Value) (off : Nat), off + vs.length ≤ cs.length → putL cs off vs = cs.take off ++ vs ++ cs.drop (off + vs.length)
  | [], cs, off, _ => by simp [putL]
  | v :: l, cs, off, h => by
    simp only [List.length_cons] at h
    rw [putL, putL_eq l (cs.set off v) (off + 1) (by rw [List.length_set]; omega)]
    rw [List.take_succ_eq_append_getElem (by rw [List.length_set]; omega), List.getElem_set_self, List.take_set_of_le (Nat.le_refl _), List.drop_set_of_lt (by omega)]
    simp [Nat.add_assoc, Nat.add_comm 1]
def enumL : Nat → List Value → List (Nat × Value)
  | _, [] => []
  | i, v :: l => (i, v) :: enumL (i + 1) l
theorem fill_all {n : Nat} : ∀ (vs pre suf : List Value) (i : Nat), (∀ v ∈ vs, (cellsL v).length = n) → pre.length = i * n → suf.length = vs.length * n → fillL (fun i => some (i * n, n)) (pre ++ suf) (enumL i vs) = some (pre ++ vs.flatMap cellsL)
  | [], pre, suf, i, _, _, hs => by
    have : suf = [] := List.eq_nil_of_length_eq_zero (by simpa using hs)
    subst this
    simp [fillL, enumL]
  | v :: vs, pre, suf, i, hv, hp, hs => by
    have h1 := hv v (List.mem_cons_self ..)
    have hs' : suf.length = vs.length * n + n := by rw [hs, List.length_cons, Nat.add_mul, Nat.one_mul]
    rw [enumL, fillL]
    simp only
    rw [if_neg (by rw [List.length_append]; omega), putL_eq _ _ _ (by rw [List.length_append]; omega)]
    have hd : List.drop (i * n + (cellsL v).length) (pre ++ suf) = suf.drop n := by
      rw [List.drop_append, hp, h1, List.drop_of_length_le (by omega), List.nil_append]
      congr 1
      omega
    rw [List.take_left' hp, hd]
    rw [fill_all vs (pre ++ cellsL v) (suf.drop n) (i + 1) (fun u hu => hv u (List.mem_cons_of_mem _ hu)) (by rw [List.length_append, hp, h1, Nat.add_mul, Nat.one_mul]) (by rw [List.length_drop, hs']; omega)]
    simp
theorem bsl {t e n : Nat} {z : Value} (hu : P.underlying t = some (.slice e)) (hn : szOf P e = some n) (hz : zeroOf P e = some z) (hzl : (cellsL z).length = n) (h0 : n ≠ 0) {vs : List Value} (hl : vs.length * n ≤ 16777216) (hv : ∀ v ∈ vs, (cellsL v).length = n) :
    buildSliceA P σ t vs.length (enumL 0 vs) = some (.slice (some ⟨σ.next, 0, none⟩) vs.length (2 * vs.length), σ.push ⟨1, e, 1, vs.flatMap cellsL⟩) := by
  have hf := fill_all vs [] (repL vs.length (cellsL z)) 0 hv (by simp) (by rw [repL_length, hzl])
  simp only [List.nil_append] at hf
  simp only [buildSliceA, hu, hn, hz, show ¬ (vs.length * n > 16777216 ∨ n = 0) by omega, hzl, ne_eq, not_true_eq_false, if_false, hf]
theorem bsl1 {t e n : Nat} {z : Value} (hu : P.underlying t = some (.slice e)) (hn : szOf P e = some n) (hz : zeroOf P e = some z) (hzl : (cellsL z).length = n) (h0 : n ≠ 0) (hn1 : n ≤ 1000) (v : Value) (hv : (cellsL v).length = n) :
    buildSliceA P σ t 1 [(0, v)] = some (.slice (some ⟨σ.next, 0, none⟩) 1 2, σ.push ⟨1, e, 1, cellsL v⟩) := by
  have := bsl (σ := σ) hu hn hz hzl h0 (vs := [v]) (by simp; omega) (by simpa using hv)
  simpa [enumL] using this
theorem bsl2 {t e n : Nat} {z : Value} (hu : P.underlying t = some (.slice e)) (hn : szOf P e = some n) (hz : zeroOf P e = some z) (hzl : (cellsL z).length = n) (h0 : n ≠ 0) (hn1 : n ≤ 1000) (v u : Value) (hv : (cellsL v).length = n) (hw : (cellsL u).length = n) :
    buildSliceA P σ t 2 [(0, v), (1, u)] = some (.slice (some ⟨σ.next, 0, none⟩) 2 4, σ.push ⟨1, e, 1, cellsL v ++ cellsL u⟩) := by
  have := bsl (σ := σ) hu hn hz hzl h0 (vs := [v, u]) (by simp; omega) (by simp [hv, hw])
  simpa [enumL] using this
theorem append_1 {t e n bts B c k el z M o : Nat} {zv : Value} (hu : P.underlying t = some (.slice e)) (hio : (P.info? e).map (fun i => (i.zero, i.size, i.bytes)) = some (some zv, n, bts)) (hz : (cellsL zv).length = n) (hn : 0 < n) {cs l : List Value} {len : Nat}
    (hB : σ.get B = ⟨k, el, z, cs⟩) (hk : (k = 1 ∧ c = 2 * len) ∨ (k = 2 ∧ c = 1 ∧ el = e ∧ z = n)) (hcs : cs.length = len * n) (hM : σ.get M = ⟨1, e, o, l⟩) (hl : l.length = n) (ho : l.all oneB = true) (hb : (2 * (len + 1) + 768) * bts ≤ 281474976710656) (hlen : len + 1 ≤ 1000000000) :
    appendA P σ t t (.slice (some ⟨B, 0, none⟩) len c) (.slice (some ⟨M, 0, none⟩) 1 2) = some (.slice (some ⟨σ.next, 0, none⟩) (len + 1) 1, (if k = 1 then σ else σ.set B noBlk).push ⟨2, e, n, cs ++ l⟩) := by
  cases hi : P.info? e with
  | none => rw [hi] at hio; cases hio
  | some i =>
    rw [hi] at hio
    simp only [Option.map_some, Option.some.injEq, Prod.mk.injEq] at hio
    obtain ⟨h1, h2, h3⟩ := hio
    have hsrc : srcA P σ i.size t (.slice (some ⟨M, 0, none⟩) 1 2) = some (1, l) := by
      have e2 : List.take n (List.drop 0 l) = l := by rw [List.drop_zero, List.take_of_length_le (by omega)]
      simp only [srcA, hu, rowOf, hM, h2, Nat.one_mul, e2, hl, ho, and_self, if_true]
    have hgr : ∀ τ : AW, growA τ e i (len + 1) (cs ++ l) = some (.slice (some ⟨τ.next, 0, none⟩) (len + 1) 1, τ.push ⟨2, e, n, cs ++ l⟩) := fun τ => by
      simp only [growA, h1, h2, h3, hz]
      rw [if_pos ⟨trivial, by omega, hb, hlen⟩]
    rw [h2] at hsrc
    rcases hk with ⟨rfl, rfl⟩ | ⟨rfl, rfl, rfl, e6⟩
    · have e3 : ¬ (len + 1 ≤ 2 * len / 2) := by omega
      have e4 : 2 * len % 2 = 0 := by omega
      have e5 : List.take (len * n) (List.drop 0 cs) = cs := by rw [List.drop_zero, List.take_of_length_le (by omega)]
      simp only [appendA, hu, hi, hsrc, rowOf, hB, e4, if_true, e3, if_false, h2, e5, hcs, hgr]
    · rw [e6] at hB
      simp only [appendA, hu, hi, hsrc, rowOf, hB, h2, hcs]
      simp only [show ¬ (1 % 2 = 0) by decide, if_false, show (1 = 1 ∧ 0 = 0 ∧ True ∧ 0 < n) by exact ⟨rfl, rfl, trivial, hn⟩, and_self, if_true, hgr, show ¬ (2 = 1) by decide]
      rfl
/-! ### Memory -/
theorem push_eq {b : Blk} : (σ.push b).get σ.next = b := by rw [AW.push, AW.get_up, AW.get_set, if_pos rfl]
theorem push_ne {b : Blk} {k : Nat} (h : k ≠ σ.next) : (σ.push b).get k = σ.get k := by rw [AW.push, AW.get_up, AW.get_set, if_neg h]
theorem push_next {b : Blk} : (σ.push b).next = σ.next + 1 := rfl
theorem set_eq {b : Blk} {k : Nat} : (σ.set k b).get k = b := by rw [AW.get_set, if_pos rfl]
theorem set_ne {b : Blk} {k j : Nat} (h : j ≠ k) : (σ.set k b).get j = σ.get j := by rw [AW.get_set, if_neg h]
theorem set_next {b : Blk} {k : Nat} : (σ.set k b).next = σ.next := rfl
theorem row_1 {b o e z : Nat} {cs : List Value} (h : σ.get b = ⟨1, e, z, cs⟩) : rowOf σ ⟨b, o, none⟩ = some cs := by simp only [rowOf, h]
theorem row_2 {b o e z : Nat} {cs : List Value} (h : σ.get b = ⟨2, e, z, cs⟩) : rowOf σ ⟨b, o, none⟩ = some cs := by simp only [rowOf, h]
end

attribute [go_sem] res_nil res_cons res_tmp res_cell ev_tmp ev_int ev_bool ev_str ev_nilS ev_nilP ev_fn evAll_nil evAll_cons evParts_nil evParts_cons put_eq put_ne put_size put_none op_move op_assign op_pick op_alloc op_box op_build op_buildSlice op_load op_store op_nilCheck op_not op_fieldAddr op_field op_indexAddr op_extract op_bin op_makeFunc op_slice evO_none evO_some op_len op_append List.toList_toArray binE bin_eqI bin_neI bin_ltI bin_leI bin_gtI bin_geI bin_eqS bin_neS same none2 extractA callArgs decide_true decide_false Bool.not_true Bool.not_false
attribute [go_sem] fillL putL List.set_cons_zero List.set_cons_succ gt_iff_lt ne_eq not_true_eq_false not_false_eq_true false_or or_self or_false if_false
attribute [go_sem] loadA storeA List.length_cons List.length_nil Nat.zero_add Nat.add_zero List.take_zero List.nil_append List.append_nil List.drop_succ_cons List.drop_zero List.drop_nil List.take_succ_cons List.take_nil List.cons_append List.all_cons List.all_nil oneB Bool.and_self Bool.and_true Bool.true_and and_self if_true true_and and_true Nat.le_refl List.getElem?_cons_zero List.getElem?_cons_succ
attribute [go_sem] push_eq push_next set_eq set_next push_ne set_ne cellsL rowOf add_none
end Go.Proofs.YtckidlbmoalomaaGreatDoor


namespace Go.Proofs.YtckidlbmoalomaaGreatDoor
set_option maxRecDepth 100000
@[go_sem] theorem ag_3 : isAggB Tryz.prog 3 = some false := by kernel_rfl
@[go_sem] theorem sz_3 : szOf Tryz.prog 3 = some 1 := by kernel_rfl
@[go_sem] theorem ag_4 : isAggB Tryz.prog 4 = some false := by kernel_rfl
@[go_sem] theorem bd_7 (ps : List (Nat × Value)) : buildA Tryz.prog 7 ps = (match fillL (fun i => ([(0, 1), (1, 1), (2, 1), (3, 1)] : List (Nat × Nat))[i]?) [.int .i64 (0), .int .i64 (0), .bool false, .int .u8 (0)] ps with | none => none | some cs => some (.agg cs.toArray)) := by kernel_rfl
@[go_sem] theorem ag_9 : isAggB Tryz.prog 9 = some false := by kernel_rfl
@[go_sem] theorem sz_9 : szOf Tryz.prog 9 = some 1 := by kernel_rfl
@[go_sem] theorem zr_9 : zeroOf Tryz.prog 9 = some (.string ⟨#[]⟩) := by kernel_rfl
theorem io_9 : (Tryz.prog.info? 9).map (fun i => (i.zero, i.size, i.bytes)) = some (some (.string ⟨#[]⟩), 1, 16) := by kernel_rfl
@[go_sem] theorem ln_9 (σ : AW) (s : ByteArray) : lenA Tryz.prog σ 9 (.string s) = some (.int .i64 s.size) := by kernel_rfl
@[go_sem] theorem ag_23 : isAggB Tryz.prog 23 = some false := by kernel_rfl
@[go_sem] theorem sz_23 : szOf Tryz.prog 23 = some 1 := by kernel_rfl
theorem us_23 : Tryz.prog.underlying 23 = some (.slice 95) := by kernel_rfl
@[go_sem] theorem ln_23 (σ : AW) (a : Option Addr) (l c : Nat) : lenA Tryz.prog σ 23 (.slice a l c) = some (.int .i64 l) := by kernel_rfl
@[go_sem] theorem ag_24 : isAggB Tryz.prog 24 = some false := by kernel_rfl
theorem us_24 : Tryz.prog.underlying 24 = some (.slice 77) := by kernel_rfl
@[go_sem] theorem ln_24 (σ : AW) (a : Option Addr) (l c : Nat) : lenA Tryz.prog σ 24 (.slice a l c) = some (.int .i64 l) := by kernel_rfl
@[go_sem] theorem ag_25 : isAggB Tryz.prog 25 = some false := by kernel_rfl
@[go_sem] theorem sz_25 : szOf Tryz.prog 25 = some 1 := by kernel_rfl
theorem us_25 : Tryz.prog.underlying 25 = some (.slice 55) := by kernel_rfl
@[go_sem] theorem ix_25 (a : Addr) (l c : Nat) (kk : IntKind) (i : Int) : indexAtA Tryz.prog 25 (.slice (some a) l c) (.int kk i) = elemAtA Tryz.prog 55 a l i := by kernel_rfl
@[go_sem] theorem ln_25 (σ : AW) (a : Option Addr) (l c : Nat) : lenA Tryz.prog σ 25 (.slice a l c) = some (.int .i64 l) := by kernel_rfl
@[go_sem] theorem ag_27 : isAggB Tryz.prog 27 = some true := by kernel_rfl
@[go_sem] theorem sz_27 : szOf Tryz.prog 27 = some 3 := by kernel_rfl
@[go_sem] theorem zr_27 : zeroOf Tryz.prog 27 = some (.agg ⟨[.slice none 0 0, .slice none 0 0, .slice none 0 0]⟩) := by kernel_rfl
@[go_sem] theorem bd_27 (ps : List (Nat × Value)) : buildA Tryz.prog 27 ps = (match fillL (fun i => ([(0, 1), (1, 1), (2, 1)] : List (Nat × Nat))[i]?) [.slice none 0 0, .slice none 0 0, .slice none 0 0] ps with | none => none | some cs => some (.agg cs.toArray)) := by kernel_rfl
@[go_sem] theorem fa_27_0 (a : Addr) : fieldAtA Tryz.prog 27 (.pointer (some a)) 0 = some (.pointer (some (a.add 0))) := by kernel_rfl
@[go_sem] theorem fa_27_1 (a : Addr) : fieldAtA Tryz.prog 27 (.pointer (some a)) 1 = some (.pointer (some (a.add 1))) := by kernel_rfl
@[go_sem] theorem fa_27_2 (a : Addr) : fieldAtA Tryz.prog 27 (.pointer (some a)) 2 = some (.pointer (some (a.add 2))) := by kernel_rfl
@[go_sem] theorem ag_28 : isAggB Tryz.prog 28 = some false := by kernel_rfl
@[go_sem] theorem sz_28 : szOf Tryz.prog 28 = some 1 := by kernel_rfl
@[go_sem] theorem ag_34 : isAggB Tryz.prog 34 = some false := by kernel_rfl
@[go_sem] theorem sz_34 : szOf Tryz.prog 34 = some 1 := by kernel_rfl
theorem us_34 : Tryz.prog.underlying 34 = some (.slice 37) := by kernel_rfl
@[go_sem] theorem ix_34 (a : Addr) (l c : Nat) (kk : IntKind) (i : Int) : indexAtA Tryz.prog 34 (.slice (some a) l c) (.int kk i) = elemAtA Tryz.prog 37 a l i := by kernel_rfl
@[go_sem] theorem ln_34 (σ : AW) (a : Option Addr) (l c : Nat) : lenA Tryz.prog σ 34 (.slice a l c) = some (.int .i64 l) := by kernel_rfl
@[go_sem] theorem ag_35 : isAggB Tryz.prog 35 = some false := by kernel_rfl
@[go_sem] theorem sz_35 : szOf Tryz.prog 35 = some 1 := by kernel_rfl
theorem us_35 : Tryz.prog.underlying 35 = some (.slice 44) := by kernel_rfl
@[go_sem] theorem ix_35 (a : Addr) (l c : Nat) (kk : IntKind) (i : Int) : indexAtA Tryz.prog 35 (.slice (some a) l c) (.int kk i) = elemAtA Tryz.prog 44 a l i := by kernel_rfl
@[go_sem] theorem ln_35 (σ : AW) (a : Option Addr) (l c : Nat) : lenA Tryz.prog σ 35 (.slice a l c) = some (.int .i64 l) := by kernel_rfl
@[go_sem] theorem ag_37 : isAggB Tryz.prog 37 = some true := by kernel_rfl
@[go_sem] theorem sz_37 : szOf Tryz.prog 37 = some 6 := by kernel_rfl
@[go_sem] theorem zr_37 : zeroOf Tryz.prog 37 = some (.agg ⟨[.int .i64 (0), .int .i64 (0), .string ⟨#[]⟩, .string ⟨#[]⟩, .slice none 0 0, .slice none 0 0]⟩) := by kernel_rfl
theorem io_37 : (Tryz.prog.info? 37).map (fun i => (i.zero, i.size, i.bytes)) = some (some (.agg ⟨[.int .i64 (0), .int .i64 (0), .string ⟨#[]⟩, .string ⟨#[]⟩, .slice none 0 0, .slice none 0 0]⟩), 6, 96) := by kernel_rfl
@[go_sem] theorem bd_37 (ps : List (Nat × Value)) : buildA Tryz.prog 37 ps = (match fillL (fun i => ([(0, 1), (1, 1), (2, 1), (3, 1), (4, 1), (5, 1)] : List (Nat × Nat))[i]?) [.int .i64 (0), .int .i64 (0), .string ⟨#[]⟩, .string ⟨#[]⟩, .slice none 0 0, .slice none 0 0] ps with | none => none | some cs => some (.agg cs.toArray)) := by kernel_rfl
@[go_sem] theorem fa_37_0 (a : Addr) : fieldAtA Tryz.prog 37 (.pointer (some a)) 0 = some (.pointer (some (a.add 0))) := by kernel_rfl
@[go_sem] theorem fa_37_1 (a : Addr) : fieldAtA Tryz.prog 37 (.pointer (some a)) 1 = some (.pointer (some (a.add 1))) := by kernel_rfl
@[go_sem] theorem fa_37_2 (a : Addr) : fieldAtA Tryz.prog 37 (.pointer (some a)) 2 = some (.pointer (some (a.add 2))) := by kernel_rfl
@[go_sem] theorem fa_37_3 (a : Addr) : fieldAtA Tryz.prog 37 (.pointer (some a)) 3 = some (.pointer (some (a.add 3))) := by kernel_rfl
@[go_sem] theorem fa_37_4 (a : Addr) : fieldAtA Tryz.prog 37 (.pointer (some a)) 4 = some (.pointer (some (a.add 4))) := by kernel_rfl
@[go_sem] theorem fa_37_5 (a : Addr) : fieldAtA Tryz.prog 37 (.pointer (some a)) 5 = some (.pointer (some (a.add 5))) := by kernel_rfl
@[go_sem] theorem ag_40 : isAggB Tryz.prog 40 = some false := by kernel_rfl
@[go_sem] theorem sz_40 : szOf Tryz.prog 40 = some 1 := by kernel_rfl
theorem us_40 : Tryz.prog.underlying 40 = some (.slice 105) := by kernel_rfl
@[go_sem] theorem ix_40 (a : Addr) (l c : Nat) (kk : IntKind) (i : Int) : indexAtA Tryz.prog 40 (.slice (some a) l c) (.int kk i) = elemAtA Tryz.prog 105 a l i := by kernel_rfl
@[go_sem] theorem ln_40 (σ : AW) (a : Option Addr) (l c : Nat) : lenA Tryz.prog σ 40 (.slice a l c) = some (.int .i64 l) := by kernel_rfl
@[go_sem] theorem ag_41 : isAggB Tryz.prog 41 = some false := by kernel_rfl
@[go_sem] theorem sz_41 : szOf Tryz.prog 41 = some 1 := by kernel_rfl
theorem us_41 : Tryz.prog.underlying 41 = some (.slice 48) := by kernel_rfl
@[go_sem] theorem ix_41 (a : Addr) (l c : Nat) (kk : IntKind) (i : Int) : indexAtA Tryz.prog 41 (.slice (some a) l c) (.int kk i) = elemAtA Tryz.prog 48 a l i := by kernel_rfl
@[go_sem] theorem ln_41 (σ : AW) (a : Option Addr) (l c : Nat) : lenA Tryz.prog σ 41 (.slice a l c) = some (.int .i64 l) := by kernel_rfl
@[go_sem] theorem ag_42 : isAggB Tryz.prog 42 = some false := by kernel_rfl
@[go_sem] theorem sz_42 : szOf Tryz.prog 42 = some 1 := by kernel_rfl
theorem us_42 : Tryz.prog.underlying 42 = some (.slice 107) := by kernel_rfl
@[go_sem] theorem ix_42 (a : Addr) (l c : Nat) (kk : IntKind) (i : Int) : indexAtA Tryz.prog 42 (.slice (some a) l c) (.int kk i) = elemAtA Tryz.prog 107 a l i := by kernel_rfl
@[go_sem] theorem ln_42 (σ : AW) (a : Option Addr) (l c : Nat) : lenA Tryz.prog σ 42 (.slice a l c) = some (.int .i64 l) := by kernel_rfl
@[go_sem] theorem ag_44 : isAggB Tryz.prog 44 = some true := by kernel_rfl
@[go_sem] theorem sz_44 : szOf Tryz.prog 44 = some 10 := by kernel_rfl
@[go_sem] theorem zr_44 : zeroOf Tryz.prog 44 = some (.agg ⟨[.int .i64 (0), .bool false, .slice none 0 0, .slice none 0 0, .slice none 0 0, .slice none 0 0, .slice none 0 0, .slice none 0 0, .int .i64 (0), .slice none 0 0]⟩) := by kernel_rfl
@[go_sem] theorem bd_44 (ps : List (Nat × Value)) : buildA Tryz.prog 44 ps = (match fillL (fun i => ([(0, 1), (1, 1), (2, 1), (3, 1), (4, 1), (5, 1), (6, 1), (7, 1), (8, 1), (9, 1)] : List (Nat × Nat))[i]?) [.int .i64 (0), .bool false, .slice none 0 0, .slice none 0 0, .slice none 0 0, .slice none 0 0, .slice none 0 0, .slice none 0 0, .int .i64 (0), .slice none 0 0] ps with | none => none | some cs => some (.agg cs.toArray)) := by kernel_rfl
@[go_sem] theorem fa_44_0 (a : Addr) : fieldAtA Tryz.prog 44 (.pointer (some a)) 0 = some (.pointer (some (a.add 0))) := by kernel_rfl
@[go_sem] theorem fa_44_1 (a : Addr) : fieldAtA Tryz.prog 44 (.pointer (some a)) 1 = some (.pointer (some (a.add 1))) := by kernel_rfl
@[go_sem] theorem fa_44_2 (a : Addr) : fieldAtA Tryz.prog 44 (.pointer (some a)) 2 = some (.pointer (some (a.add 2))) := by kernel_rfl
@[go_sem] theorem fa_44_3 (a : Addr) : fieldAtA Tryz.prog 44 (.pointer (some a)) 3 = some (.pointer (some (a.add 3))) := by kernel_rfl
@[go_sem] theorem fa_44_4 (a : Addr) : fieldAtA Tryz.prog 44 (.pointer (some a)) 4 = some (.pointer (some (a.add 4))) := by kernel_rfl
@[go_sem] theorem fa_44_5 (a : Addr) : fieldAtA Tryz.prog 44 (.pointer (some a)) 5 = some (.pointer (some (a.add 5))) := by kernel_rfl
@[go_sem] theorem fa_44_6 (a : Addr) : fieldAtA Tryz.prog 44 (.pointer (some a)) 6 = some (.pointer (some (a.add 6))) := by kernel_rfl
@[go_sem] theorem fa_44_7 (a : Addr) : fieldAtA Tryz.prog 44 (.pointer (some a)) 7 = some (.pointer (some (a.add 7))) := by kernel_rfl
@[go_sem] theorem fa_44_8 (a : Addr) : fieldAtA Tryz.prog 44 (.pointer (some a)) 8 = some (.pointer (some (a.add 8))) := by kernel_rfl
@[go_sem] theorem fa_44_9 (a : Addr) : fieldAtA Tryz.prog 44 (.pointer (some a)) 9 = some (.pointer (some (a.add 9))) := by kernel_rfl
@[go_sem] theorem ag_48 : isAggB Tryz.prog 48 = some true := by kernel_rfl
@[go_sem] theorem sz_48 : szOf Tryz.prog 48 = some 7 := by kernel_rfl
@[go_sem] theorem zr_48 : zeroOf Tryz.prog 48 = some (.agg ⟨[.int .i64 (0), .string ⟨#[]⟩, .bool false, .string ⟨#[]⟩, .slice none 0 0, .slice none 0 0, .slice none 0 0]⟩) := by kernel_rfl
@[go_sem] theorem bd_48 (ps : List (Nat × Value)) : buildA Tryz.prog 48 ps = (match fillL (fun i => ([(0, 1), (1, 1), (2, 1), (3, 1), (4, 1), (5, 1), (6, 1)] : List (Nat × Nat))[i]?) [.int .i64 (0), .string ⟨#[]⟩, .bool false, .string ⟨#[]⟩, .slice none 0 0, .slice none 0 0, .slice none 0 0] ps with | none => none | some cs => some (.agg cs.toArray)) := by kernel_rfl
@[go_sem] theorem fa_48_0 (a : Addr) : fieldAtA Tryz.prog 48 (.pointer (some a)) 0 = some (.pointer (some (a.add 0))) := by kernel_rfl
@[go_sem] theorem fa_48_1 (a : Addr) : fieldAtA Tryz.prog 48 (.pointer (some a)) 1 = some (.pointer (some (a.add 1))) := by kernel_rfl
@[go_sem] theorem fa_48_2 (a : Addr) : fieldAtA Tryz.prog 48 (.pointer (some a)) 2 = some (.pointer (some (a.add 2))) := by kernel_rfl
@[go_sem] theorem fa_48_3 (a : Addr) : fieldAtA Tryz.prog 48 (.pointer (some a)) 3 = some (.pointer (some (a.add 3))) := by kernel_rfl
@[go_sem] theorem fa_48_4 (a : Addr) : fieldAtA Tryz.prog 48 (.pointer (some a)) 4 = some (.pointer (some (a.add 4))) := by kernel_rfl
@[go_sem] theorem fa_48_5 (a : Addr) : fieldAtA Tryz.prog 48 (.pointer (some a)) 5 = some (.pointer (some (a.add 5))) := by kernel_rfl
@[go_sem] theorem fa_48_6 (a : Addr) : fieldAtA Tryz.prog 48 (.pointer (some a)) 6 = some (.pointer (some (a.add 6))) := by kernel_rfl
@[go_sem] theorem ag_50 : isAggB Tryz.prog 50 = some false := by kernel_rfl
@[go_sem] theorem sz_50 : szOf Tryz.prog 50 = some 1 := by kernel_rfl
@[go_sem] theorem zr_50 : zeroOf Tryz.prog 50 = some (.pointer none) := by kernel_rfl
@[go_sem] theorem ag_52 : isAggB Tryz.prog 52 = some false := by kernel_rfl
@[go_sem] theorem ag_53 : isAggB Tryz.prog 53 = some false := by kernel_rfl
@[go_sem] theorem sz_53 : szOf Tryz.prog 53 = some 1 := by kernel_rfl
theorem us_53 : Tryz.prog.underlying 53 = some (.slice 9) := by kernel_rfl
@[go_sem] theorem ix_53 (a : Addr) (l c : Nat) (kk : IntKind) (i : Int) : indexAtA Tryz.prog 53 (.slice (some a) l c) (.int kk i) = elemAtA Tryz.prog 9 a l i := by kernel_rfl
@[go_sem] theorem ln_53 (σ : AW) (a : Option Addr) (l c : Nat) : lenA Tryz.prog σ 53 (.slice a l c) = some (.int .i64 l) := by kernel_rfl
@[go_sem] theorem ag_55 : isAggB Tryz.prog 55 = some true := by kernel_rfl
@[go_sem] theorem sz_55 : szOf Tryz.prog 55 = some 9 := by kernel_rfl
@[go_sem] theorem zr_55 : zeroOf Tryz.prog 55 = some (.agg ⟨[.int .i64 (0), .int .i64 (0), .string ⟨#[]⟩, .slice none 0 0, .slice none 0 0, .slice none 0 0, .slice none 0 0, .slice none 0 0, .slice none 0 0]⟩) := by kernel_rfl
theorem io_55 : (Tryz.prog.info? 55).map (fun i => (i.zero, i.size, i.bytes)) = some (some (.agg ⟨[.int .i64 (0), .int .i64 (0), .string ⟨#[]⟩, .slice none 0 0, .slice none 0 0, .slice none 0 0, .slice none 0 0, .slice none 0 0, .slice none 0 0]⟩), 9, 176) := by kernel_rfl
@[go_sem] theorem bd_55 (ps : List (Nat × Value)) : buildA Tryz.prog 55 ps = (match fillL (fun i => ([(0, 1), (1, 1), (2, 1), (3, 1), (4, 1), (5, 1), (6, 1), (7, 1), (8, 1)] : List (Nat × Nat))[i]?) [.int .i64 (0), .int .i64 (0), .string ⟨#[]⟩, .slice none 0 0, .slice none 0 0, .slice none 0 0, .slice none 0 0, .slice none 0 0, .slice none 0 0] ps with | none => none | some cs => some (.agg cs.toArray)) := by kernel_rfl
@[go_sem] theorem fa_55_0 (a : Addr) : fieldAtA Tryz.prog 55 (.pointer (some a)) 0 = some (.pointer (some (a.add 0))) := by kernel_rfl
@[go_sem] theorem fa_55_1 (a : Addr) : fieldAtA Tryz.prog 55 (.pointer (some a)) 1 = some (.pointer (some (a.add 1))) := by kernel_rfl
@[go_sem] theorem fa_55_2 (a : Addr) : fieldAtA Tryz.prog 55 (.pointer (some a)) 2 = some (.pointer (some (a.add 2))) := by kernel_rfl
@[go_sem] theorem fa_55_3 (a : Addr) : fieldAtA Tryz.prog 55 (.pointer (some a)) 3 = some (.pointer (some (a.add 3))) := by kernel_rfl
@[go_sem] theorem fa_55_4 (a : Addr) : fieldAtA Tryz.prog 55 (.pointer (some a)) 4 = some (.pointer (some (a.add 4))) := by kernel_rfl
@[go_sem] theorem fa_55_5 (a : Addr) : fieldAtA Tryz.prog 55 (.pointer (some a)) 5 = some (.pointer (some (a.add 5))) := by kernel_rfl
@[go_sem] theorem fa_55_6 (a : Addr) : fieldAtA Tryz.prog 55 (.pointer (some a)) 6 = some (.pointer (some (a.add 6))) := by kernel_rfl
@[go_sem] theorem fa_55_7 (a : Addr) : fieldAtA Tryz.prog 55 (.pointer (some a)) 7 = some (.pointer (some (a.add 7))) := by kernel_rfl
@[go_sem] theorem fa_55_8 (a : Addr) : fieldAtA Tryz.prog 55 (.pointer (some a)) 8 = some (.pointer (some (a.add 8))) := by kernel_rfl
@[go_sem] theorem ag_60 : isAggB Tryz.prog 60 = some false := by kernel_rfl
@[go_sem] theorem ag_65 : isAggB Tryz.prog 65 = some false := by kernel_rfl
@[go_sem] theorem sz_65 : szOf Tryz.prog 65 = some 1 := by kernel_rfl
theorem us_65 : Tryz.prog.underlying 65 = some (.slice 72) := by kernel_rfl
@[go_sem] theorem ix_65 (a : Addr) (l c : Nat) (kk : IntKind) (i : Int) : indexAtA Tryz.prog 65 (.slice (some a) l c) (.int kk i) = elemAtA Tryz.prog 72 a l i := by kernel_rfl
@[go_sem] theorem ln_65 (σ : AW) (a : Option Addr) (l c : Nat) : lenA Tryz.prog σ 65 (.slice a l c) = some (.int .i64 l) := by kernel_rfl
@[go_sem] theorem bd_69 (ps : List (Nat × Value)) : buildA Tryz.prog 69 ps = (match fillL (fun i => ([(0, 1), (1, 1), (2, 1), (3, 1)] : List (Nat × Nat))[i]?) [.slice none 0 0, .int .i64 (0), .int .i64 (0), .int .i64 (0)] ps with | none => none | some cs => some (.agg cs.toArray)) := by kernel_rfl
@[go_sem] theorem fa_69_0 (a : Addr) : fieldAtA Tryz.prog 69 (.pointer (some a)) 0 = some (.pointer (some (a.add 0))) := by kernel_rfl
@[go_sem] theorem fa_69_1 (a : Addr) : fieldAtA Tryz.prog 69 (.pointer (some a)) 1 = some (.pointer (some (a.add 1))) := by kernel_rfl
@[go_sem] theorem fa_69_2 (a : Addr) : fieldAtA Tryz.prog 69 (.pointer (some a)) 2 = some (.pointer (some (a.add 2))) := by kernel_rfl
@[go_sem] theorem fa_69_3 (a : Addr) : fieldAtA Tryz.prog 69 (.pointer (some a)) 3 = some (.pointer (some (a.add 3))) := by kernel_rfl
@[go_sem] theorem ag_72 : isAggB Tryz.prog 72 = some true := by kernel_rfl
@[go_sem] theorem sz_72 : szOf Tryz.prog 72 = some 4 := by kernel_rfl
@[go_sem] theorem zr_72 : zeroOf Tryz.prog 72 = some (.agg ⟨[.int .i64 (0), .string ⟨#[]⟩, .int .i64 (0), .int .i64 (0)]⟩) := by kernel_rfl
@[go_sem] theorem fa_72_0 (a : Addr) : fieldAtA Tryz.prog 72 (.pointer (some a)) 0 = some (.pointer (some (a.add 0))) := by kernel_rfl
@[go_sem] theorem fa_72_1 (a : Addr) : fieldAtA Tryz.prog 72 (.pointer (some a)) 1 = some (.pointer (some (a.add 1))) := by kernel_rfl
@[go_sem] theorem fa_72_2 (a : Addr) : fieldAtA Tryz.prog 72 (.pointer (some a)) 2 = some (.pointer (some (a.add 2))) := by kernel_rfl
@[go_sem] theorem fa_72_3 (a : Addr) : fieldAtA Tryz.prog 72 (.pointer (some a)) 3 = some (.pointer (some (a.add 3))) := by kernel_rfl
@[go_sem] theorem ag_77 : isAggB Tryz.prog 77 = some true := by kernel_rfl
@[go_sem] theorem sz_77 : szOf Tryz.prog 77 = some 4 := by kernel_rfl
@[go_sem] theorem zr_77 : zeroOf Tryz.prog 77 = some (.agg ⟨[.string ⟨#[]⟩, .slice none 0 0, .slice none 0 0, .slice none 0 0]⟩) := by kernel_rfl
theorem io_77 : (Tryz.prog.info? 77).map (fun i => (i.zero, i.size, i.bytes)) = some (some (.agg ⟨[.string ⟨#[]⟩, .slice none 0 0, .slice none 0 0, .slice none 0 0]⟩), 4, 88) := by kernel_rfl
@[go_sem] theorem bd_77 (ps : List (Nat × Value)) : buildA Tryz.prog 77 ps = (match fillL (fun i => ([(0, 1), (1, 1), (2, 1), (3, 1)] : List (Nat × Nat))[i]?) [.string ⟨#[]⟩, .slice none 0 0, .slice none 0 0, .slice none 0 0] ps with | none => none | some cs => some (.agg cs.toArray)) := by kernel_rfl
@[go_sem] theorem fa_77_1 (a : Addr) : fieldAtA Tryz.prog 77 (.pointer (some a)) 1 = some (.pointer (some (a.add 1))) := by kernel_rfl
@[go_sem] theorem fa_77_2 (a : Addr) : fieldAtA Tryz.prog 77 (.pointer (some a)) 2 = some (.pointer (some (a.add 2))) := by kernel_rfl
@[go_sem] theorem fa_77_3 (a : Addr) : fieldAtA Tryz.prog 77 (.pointer (some a)) 3 = some (.pointer (some (a.add 3))) := by kernel_rfl
@[go_sem] theorem ag_95 : isAggB Tryz.prog 95 = some true := by kernel_rfl
@[go_sem] theorem sz_95 : szOf Tryz.prog 95 = some 2 := by kernel_rfl
@[go_sem] theorem zr_95 : zeroOf Tryz.prog 95 = some (.agg ⟨[.string ⟨#[]⟩, .int .i64 (0)]⟩) := by kernel_rfl
theorem io_95 : (Tryz.prog.info? 95).map (fun i => (i.zero, i.size, i.bytes)) = some (some (.agg ⟨[.string ⟨#[]⟩, .int .i64 (0)]⟩), 2, 24) := by kernel_rfl
@[go_sem] theorem bd_95 (ps : List (Nat × Value)) : buildA Tryz.prog 95 ps = (match fillL (fun i => ([(0, 1), (1, 1)] : List (Nat × Nat))[i]?) [.string ⟨#[]⟩, .int .i64 (0)] ps with | none => none | some cs => some (.agg cs.toArray)) := by kernel_rfl
@[go_sem] theorem ag_96 : isAggB Tryz.prog 96 = some false := by kernel_rfl
@[go_sem] theorem ag_105 : isAggB Tryz.prog 105 = some true := by kernel_rfl
@[go_sem] theorem sz_105 : szOf Tryz.prog 105 = some 7 := by kernel_rfl
@[go_sem] theorem zr_105 : zeroOf Tryz.prog 105 = some (.agg ⟨[.int .i64 (0), .int .i64 (0), .string ⟨#[]⟩, .string ⟨#[]⟩, .slice none 0 0, .slice none 0 0, .string ⟨#[]⟩]⟩) := by kernel_rfl
theorem io_105 : (Tryz.prog.info? 105).map (fun i => (i.zero, i.size, i.bytes)) = some (some (.agg ⟨[.int .i64 (0), .int .i64 (0), .string ⟨#[]⟩, .string ⟨#[]⟩, .slice none 0 0, .slice none 0 0, .string ⟨#[]⟩]⟩), 7, 112) := by kernel_rfl
@[go_sem] theorem bd_105 (ps : List (Nat × Value)) : buildA Tryz.prog 105 ps = (match fillL (fun i => ([(0, 6), (6, 1)] : List (Nat × Nat))[i]?) [.int .i64 (0), .int .i64 (0), .string ⟨#[]⟩, .string ⟨#[]⟩, .slice none 0 0, .slice none 0 0, .string ⟨#[]⟩] ps with | none => none | some cs => some (.agg cs.toArray)) := by kernel_rfl
@[go_sem] theorem fa_105_0 (a : Addr) : fieldAtA Tryz.prog 105 (.pointer (some a)) 0 = some (.pointer (some (a.add 0))) := by kernel_rfl
@[go_sem] theorem fa_105_1 (a : Addr) : fieldAtA Tryz.prog 105 (.pointer (some a)) 1 = some (.pointer (some (a.add 6))) := by kernel_rfl
@[go_sem] theorem ag_107 : isAggB Tryz.prog 107 = some true := by kernel_rfl
@[go_sem] theorem sz_107 : szOf Tryz.prog 107 = some 7 := by kernel_rfl
@[go_sem] theorem zr_107 : zeroOf Tryz.prog 107 = some (.agg ⟨[.int .i64 (0), .int .i64 (0), .string ⟨#[]⟩, .string ⟨#[]⟩, .slice none 0 0, .slice none 0 0, .bool false]⟩) := by kernel_rfl
theorem io_107 : (Tryz.prog.info? 107).map (fun i => (i.zero, i.size, i.bytes)) = some (some (.agg ⟨[.int .i64 (0), .int .i64 (0), .string ⟨#[]⟩, .string ⟨#[]⟩, .slice none 0 0, .slice none 0 0, .bool false]⟩), 7, 104) := by kernel_rfl
@[go_sem] theorem bd_107 (ps : List (Nat × Value)) : buildA Tryz.prog 107 ps = (match fillL (fun i => ([(0, 6), (6, 1)] : List (Nat × Nat))[i]?) [.int .i64 (0), .int .i64 (0), .string ⟨#[]⟩, .string ⟨#[]⟩, .slice none 0 0, .slice none 0 0, .bool false] ps with | none => none | some cs => some (.agg cs.toArray)) := by kernel_rfl
@[go_sem] theorem fa_107_0 (a : Addr) : fieldAtA Tryz.prog 107 (.pointer (some a)) 0 = some (.pointer (some (a.add 0))) := by kernel_rfl
@[go_sem] theorem fa_107_1 (a : Addr) : fieldAtA Tryz.prog 107 (.pointer (some a)) 1 = some (.pointer (some (a.add 6))) := by kernel_rfl
@[go_sem] theorem b1_23 (σ : AW) (l : List Value) (h : l.length = 2) : buildSliceA Tryz.prog σ 23 1 [(0, .agg ⟨l⟩)] = some (.slice (some ⟨σ.next, 0, none⟩) 1 2, σ.push ⟨1, 95, 1, l⟩) := bsl1 us_23 sz_95 zr_95 rfl (by decide) (by decide) _ h
@[go_sem] theorem b1_24 (σ : AW) (l : List Value) (h : l.length = 4) : buildSliceA Tryz.prog σ 24 1 [(0, .agg ⟨l⟩)] = some (.slice (some ⟨σ.next, 0, none⟩) 1 2, σ.push ⟨1, 77, 1, l⟩) := bsl1 us_24 sz_77 zr_77 rfl (by decide) (by decide) _ h
@[go_sem] theorem b1_25 (σ : AW) (l : List Value) (h : l.length = 9) : buildSliceA Tryz.prog σ 25 1 [(0, .agg ⟨l⟩)] = some (.slice (some ⟨σ.next, 0, none⟩) 1 2, σ.push ⟨1, 55, 1, l⟩) := bsl1 us_25 sz_55 zr_55 rfl (by decide) (by decide) _ h
@[go_sem] theorem b1_34 (σ : AW) (l : List Value) (h : l.length = 6) : buildSliceA Tryz.prog σ 34 1 [(0, .agg ⟨l⟩)] = some (.slice (some ⟨σ.next, 0, none⟩) 1 2, σ.push ⟨1, 37, 1, l⟩) := bsl1 us_34 sz_37 zr_37 rfl (by decide) (by decide) _ h
@[go_sem] theorem b2_34 (σ : AW) (l m : List Value) (h : l.length = 6) (h' : m.length = 6) : buildSliceA Tryz.prog σ 34 2 [(0, .agg ⟨l⟩), (1, .agg ⟨m⟩)] = some (.slice (some ⟨σ.next, 0, none⟩) 2 4, σ.push ⟨1, 37, 1, l ++ m⟩) := bsl2 us_34 sz_37 zr_37 rfl (by decide) (by decide) _ _ h h'
@[go_sem] theorem b1_35 (σ : AW) (l : List Value) (h : l.length = 10) : buildSliceA Tryz.prog σ 35 1 [(0, .agg ⟨l⟩)] = some (.slice (some ⟨σ.next, 0, none⟩) 1 2, σ.push ⟨1, 44, 1, l⟩) := bsl1 us_35 sz_44 zr_44 rfl (by decide) (by decide) _ h
@[go_sem] theorem b2_35 (σ : AW) (l m : List Value) (h : l.length = 10) (h' : m.length = 10) : buildSliceA Tryz.prog σ 35 2 [(0, .agg ⟨l⟩), (1, .agg ⟨m⟩)] = some (.slice (some ⟨σ.next, 0, none⟩) 2 4, σ.push ⟨1, 44, 1, l ++ m⟩) := bsl2 us_35 sz_44 zr_44 rfl (by decide) (by decide) _ _ h h'
@[go_sem] theorem b1_40 (σ : AW) (l : List Value) (h : l.length = 7) : buildSliceA Tryz.prog σ 40 1 [(0, .agg ⟨l⟩)] = some (.slice (some ⟨σ.next, 0, none⟩) 1 2, σ.push ⟨1, 105, 1, l⟩) := bsl1 us_40 sz_105 zr_105 rfl (by decide) (by decide) _ h
@[go_sem] theorem b1_41 (σ : AW) (l : List Value) (h : l.length = 7) : buildSliceA Tryz.prog σ 41 1 [(0, .agg ⟨l⟩)] = some (.slice (some ⟨σ.next, 0, none⟩) 1 2, σ.push ⟨1, 48, 1, l⟩) := bsl1 us_41 sz_48 zr_48 rfl (by decide) (by decide) _ h
@[go_sem] theorem b2_41 (σ : AW) (l m : List Value) (h : l.length = 7) (h' : m.length = 7) : buildSliceA Tryz.prog σ 41 2 [(0, .agg ⟨l⟩), (1, .agg ⟨m⟩)] = some (.slice (some ⟨σ.next, 0, none⟩) 2 4, σ.push ⟨1, 48, 1, l ++ m⟩) := bsl2 us_41 sz_48 zr_48 rfl (by decide) (by decide) _ _ h h'
@[go_sem] theorem b1_42 (σ : AW) (l : List Value) (h : l.length = 7) : buildSliceA Tryz.prog σ 42 1 [(0, .agg ⟨l⟩)] = some (.slice (some ⟨σ.next, 0, none⟩) 1 2, σ.push ⟨1, 107, 1, l⟩) := bsl1 us_42 sz_107 zr_107 rfl (by decide) (by decide) _ h
@[go_sem] theorem b1_53 (σ : AW) (x0 : ByteArray) : buildSliceA Tryz.prog σ 53 1 [(0, .string x0)] = some (.slice (some ⟨σ.next, 0, none⟩) 1 2, σ.push ⟨1, 9, 1, ([x0] : List ByteArray).map Value.string⟩) := bsl (σ := σ) (vs := [.string x0]) us_53 sz_9 zr_9 rfl (by decide) (Nat.le_of_ble_eq_true rfl) (by simp [cellsL])
@[go_sem] theorem b2_53 (σ : AW) (x0 x1 : ByteArray) : buildSliceA Tryz.prog σ 53 2 [(0, .string x0), (1, .string x1)] = some (.slice (some ⟨σ.next, 0, none⟩) 2 4, σ.push ⟨1, 9, 1, ([x0, x1] : List ByteArray).map Value.string⟩) := bsl (σ := σ) (vs := [.string x0, .string x1]) us_53 sz_9 zr_9 rfl (by decide) (Nat.le_of_ble_eq_true rfl) (by simp [cellsL])
@[go_sem] theorem b3_53 (σ : AW) (x0 x1 x2 : ByteArray) : buildSliceA Tryz.prog σ 53 3 [(0, .string x0), (1, .string x1), (2, .string x2)] = some (.slice (some ⟨σ.next, 0, none⟩) 3 6, σ.push ⟨1, 9, 1, ([x0, x1, x2] : List ByteArray).map Value.string⟩) := bsl (σ := σ) (vs := [.string x0, .string x1, .string x2]) us_53 sz_9 zr_9 rfl (by decide) (Nat.le_of_ble_eq_true rfl) (by simp [cellsL])
@[go_sem] theorem b6_53 (σ : AW) (x0 x1 x2 x3 x4 x5 : ByteArray) : buildSliceA Tryz.prog σ 53 6 [(0, .string x0), (1, .string x1), (2, .string x2), (3, .string x3), (4, .string x4), (5, .string x5)] = some (.slice (some ⟨σ.next, 0, none⟩) 6 12, σ.push ⟨1, 9, 1, ([x0, x1, x2, x3, x4, x5] : List ByteArray).map Value.string⟩) := bsl (σ := σ) (vs := [.string x0, .string x1, .string x2, .string x3, .string x4, .string x5]) us_53 sz_9 zr_9 rfl (by decide) (Nat.le_of_ble_eq_true rfl) (by simp [cellsL])
end Go.Proofs.YtckidlbmoalomaaGreatDoor


namespace Go.Proofs.YtckidlbmoalomaaGreatDoor
open Go.RowKit

section
variable {P : Program} {A : Fr} {σ : AW}
def binP (P : Program) (A : Fr) (σ : AW) (o : Oper) : Option (Value × AW) := binO P A σ o
def neqE (x y : Option Value) (σ : AW) (other : Option (Value × AW)) : Option (Value × AW) := match x with
  | some (.bool a) => match y with
    | some (.bool b) => some (.bool (a != b), σ)
    | _ => other
  | _ => other
def eqlE (x y : Option Value) (σ : AW) (other : Option (Value × AW)) : Option (Value × AW) := match x with
  | some (.bool a) => match y with
    | some (.bool b) => some (.bool (a == b), σ)
    | _ => other
  | _ => other
def catE (x y : Option Value) (σ : AW) (other : Option (Value × AW)) : Option (Value × AW) := match x with
  | some (.string a) => match y with
    | some (.string b) => if a.size + b.size ≤ 9223372036854775807 then some (.string (a ++ b), σ) else other
    | _ => other
  | _ => other
theorem fast_bool (op : BinOp) (a : Bool) (y : Value) : fastB op (.bool a) y = none := rfl
theorem fast_add (a b : ByteArray) : fastB .add (.string a) (.string b) = none := rfl
theorem pureRun_by {α β : Type} {s : Sem α} {f : α → Sem β} {a : α} (h : pureRun P s = some a) : pureRun P (s >>= f) = pureRun P (f a) := by
  have key : ∀ (s : Sem α), pureRun P s = some a → pureRun P (Sem.bind s f) = pureRun P (f a) := by
    intro s
    induction s with
    | pure b => intro h; injection h with h; subst h; rfl
    | program k ih => intro h; exact ih P h
    | mark m k ih => intro h; exact ih h
    | _ => intro h; cases h
  exact key s h
theorem flat_bin {d : Option Tmp} {ty : TypeId} {po : String} {af : Array Edge} {g_3 : Option (Nat × Bool)} {op : BinOp} {t t2 : TypeId} {x y : Operand} {u v r : Value} (hx : ev A x = some u) (hy : ev A y = some v) (hu : flatB u = true) (hv : flatB v = true) (hr : flatB r = true)
    (h : pureRun P (do eqGuard op t x y u v; binOp op t u v : Sem Value) = some r) : flatA P A σ ⟨d, .binOp op t x y t2, ty, po, af, g_3⟩ = some (r, σ) := by
  have h1 : flatOp A ⟨d, .binOp op t x y t2, ty, po, af, g_3⟩ = true := by
    simp [flatOp, Op.operands, hx, hy, hu, hv]
  have h2 : execOp (evF A) ⟨d, .binOp op t x y t2, ty, po, af, g_3⟩ = ((do eqGuard op t x y u v; binOp op t u v : Sem Value) >>= fun z => pure (.value z)) := by
    have e1 : evF A x = u := by unfold evF; rw [hx]; rfl
    have e2 : evF A y = v := by unfold evF; rw [hy]; rfl
    unfold execOp
    simp only [e1, e2]
  have h3 : pureRun P (execOp (evF A) ⟨d, .binOp op t x y t2, ty, po, af, g_3⟩) = some (.value r) := by
    rw [h2, pureRun_by h]
    rfl
  unfold flatA
  rw [if_pos h1, h3]
  simp only [hr, if_true]
section
variable {d : Option Tmp} {ty : TypeId} {po : String} {af : Array Edge} {g_3 : Option (Nat × Bool)} {t t2 : TypeId} {x y : Operand}
theorem op_addS : binO P A σ ⟨d, .binOp .add t x y t2, ty, po, af, g_3⟩ = catE (ev A x) (ev A y) σ (binP P A σ ⟨d, .binOp .add t x y t2, ty, po, af, g_3⟩) := by
  unfold catE
  split
  · rename_i a hx
    split
    · rename_i b hy
      split
      · rename_i hs
        have hf : flatA P A σ ⟨d, .binOp .add t x y t2, ty, po, af, g_3⟩ = some (.string (a ++ b), σ) := by
          refine flat_bin hx hy rfl rfl rfl ?_
          have hg : pureRun P (eqGuard .add t x y (.string a) (.string b)) = some () := rfl
          rw [pureRun_by hg]
          have : ¬ (((a.size + b.size : Nat) : Int) > IntKind.i64.max) := by
            have : IntKind.i64.max = 9223372036854775807 := by decide
            rw [this]
            omega
          show pureRun P (Op.stringOp .add a b) = _
          unfold Op.stringOp
          simp only [this, if_false]
          rfl
        unfold binO
        simp only [opA, hx, hy, fast_add]
        exact hf
      · rfl
    · rfl
  · rfl
end
end
section
variable {A : Fr} {σ : AW} {d : Option Tmp} {ty : TypeId} {po : String} {af : Array Edge} {g_3 : Option (Nat × Bool)} {t2 : TypeId} {x y : Operand}
theorem run_neq : ∀ a b : Bool, pureRun Tryz.prog (binOp .neq 4 (.bool a) (.bool b)) = some (.bool (a != b))
  | false, false => by kernel_rfl
  | false, true => by kernel_rfl
  | true, false => by kernel_rfl
  | true, true => by kernel_rfl
theorem run_eql : ∀ a b : Bool, pureRun Tryz.prog (binOp .eql 4 (.bool a) (.bool b)) = some (.bool (a == b))
  | false, false => by kernel_rfl
  | false, true => by kernel_rfl
  | true, false => by kernel_rfl
  | true, true => by kernel_rfl
theorem op_neqB : binO Tryz.prog A σ ⟨d, .binOp .neq 4 x y t2, ty, po, af, g_3⟩ = neqE (ev A x) (ev A y) σ (binP Tryz.prog A σ ⟨d, .binOp .neq 4 x y t2, ty, po, af, g_3⟩) := by
  unfold neqE
  split
  · rename_i a hx
    split
    · rename_i b hy
      have hf : flatA Tryz.prog A σ ⟨d, .binOp .neq 4 x y t2, ty, po, af, g_3⟩ = some (.bool (a != b), σ) := by
        refine flat_bin hx hy rfl rfl rfl ?_
        have hg : pureRun Tryz.prog (eqGuard .neq 4 x y (.bool a) (.bool b)) = some () := rfl
        rw [pureRun_by hg]
        exact run_neq a b
      have hn : nilA Tryz.prog 4 (.bool a) (.bool b) = none := by kernel_rfl
      unfold binO
      simp only [opA, hx, hy, fast_bool, hn]
      exact hf
    · rfl
  · rfl
theorem op_eqlB : binO Tryz.prog A σ ⟨d, .binOp .eql 4 x y t2, ty, po, af, g_3⟩ = eqlE (ev A x) (ev A y) σ (binP Tryz.prog A σ ⟨d, .binOp .eql 4 x y t2, ty, po, af, g_3⟩) := by
  unfold eqlE
  split
  · rename_i a hx
    split
    · rename_i b hy
      have hf : flatA Tryz.prog A σ ⟨d, .binOp .eql 4 x y t2, ty, po, af, g_3⟩ = some (.bool (a == b), σ) := by
        refine flat_bin hx hy rfl rfl rfl ?_
        have hg : pureRun Tryz.prog (eqGuard .eql 4 x y (.bool a) (.bool b)) = some () := rfl
        rw [pureRun_by hg]
        exact run_eql a b
      have hn : nilA Tryz.prog 4 (.bool a) (.bool b) = none := by kernel_rfl
      unfold binO
      simp only [opA, hx, hy, fast_bool, hn]
      exact hf
    · rfl
  · rfl
end
section
variable {P : Program} {A : Fr} {σ σ' : AW} {d : Option Tmp} {ty : TypeId} {po : String} {af : Array Edge} {op : Op} {all l : List Oper} {v : Value} {x : Oper} {j k : Nat} {want : Bool} {t : Tmp} {pd : List (Nat × Fr × Value)} {st : List (Nat × AW)} {KV : List (Nat × Fr × Value) → List (Nat × AW) → Fr → AW → Prop}
theorem want_t (hx : all[j]? = some x) (hd : x.dst = some t) (hg : A.get t = some (.bool want)) : wantedA all A ⟨d, op, ty, po, af, some (j, want)⟩ = some true := by rw [wanted_some hx hd hg]; cases want <;> rfl
theorem want_f (hx : all[j]? = some x) (hd : x.dst = some t) (hg : A.get t = some (.bool (!want))) : wantedA all A ⟨d, op, ty, po, af, some (j, want)⟩ = some false := by rw [wanted_some hx hd hg]; cases want <;> rfl
theorem gd_skip (hw : wantedA all A ⟨d, op, ty, po, af, some (j, want)⟩ = some false) : Gd P all A σ ⟨d, op, ty, po, af, some (j, want)⟩ undef σ := by
  unfold Gd
  rw [hw]
  exact ⟨rfl, rfl⟩
theorem Owed_skG {i f : Nat} {B : Fr} {τ : AW} (h1 : all[i]? = some ⟨d, op, ty, po, af, some (j, want)⟩) (h2 : getK i pd = some (B, undef)) (h3 : getK f st = some τ) (hx : all[j]? = some x) (hd : x.dst = some t) (hg : B.get t = some (.bool (!want))) : OwedV P all pd st (i, f) := ⟨_, B, undef, τ, h1, h2, h3, gd_skip (want_f hx hd hg)⟩
theorem Owed_opG {i f : Nat} {B : Fr} {τ : AW} (h1 : all[i]? = some ⟨d, op, ty, po, af, some (j, want)⟩) (h2 : getK i pd = some (B, v)) (h3 : getK f st = some τ) (hx : all[j]? = some x) (hd : x.dst = some t) (hg : B.get t = some (.bool want)) (hc : isCall op = false) (h : opA P B τ ⟨d, op, ty, po, af, some (j, want)⟩ = some (v, τ)) : OwedV P all pd st (i, f) := ⟨_, B, v, τ, h1, h2, h3, Gd_op (want_t hx hd hg) hc h⟩
end
section
variable {P : Program} {A : Fr} {σ σ' : AW} {Q : Exit → Fr → AW → Prop}
def CX (P : Program) (x y : Code) (A : Fr) (σ : AW) (Q : Exit → Fr → AW → Prop) : Value → Prop
  | .bool true => W P x A σ Q
  | .bool false => W P y A σ Q
  | _ => False
theorem w_c {c : Operand} {v : Value} {x y : Code} (hb : ev A c = some v) (h : CX P x y A σ Q v) : W P (.cond c x y) A σ Q := by
  unfold CX at h
  split at h
  · exact W_cond_t hb h
  · exact W_cond_f hb h
  · exact h.elim
theorem c_1 {x y : Code} (h : W P x A σ Q) : CX P x y A σ Q (.bool true) := h
theorem c_2 {x y : Code} (h : W P y A σ Q) : CX P x y A σ Q (.bool false) := h
section
variable {d : Option Tmp} {ty : TypeId} {po : String} {af : Array Edge} {op : Op} {all l : List Oper} {v : Value} {x : Oper} {j k : Nat} {want : Bool} {t : Tmp} {K : Fr → AW → Prop} {pd : List (Nat × Fr × Value)} {st : List (Nat × AW)} {KV : List (Nat × Fr × Value) → List (Nat × AW) → Fr → AW → Prop}
def GX (R S : Prop) : Bool → Value → Prop
  | true, .bool true => R
  | false, .bool false => R
  | true, .bool false => S
  | false, .bool true => S
  | _, .tuple _ => S
  | _, _ => False
theorem g_1 {R S : Prop} {w : Bool} (h : R) : GX R S w (.bool w) := by cases w <;> exact h
theorem g_2 {R S : Prop} (h : S) : GX R S true (.bool false) := h
theorem g_3 {R S : Prop} (h : S) : GX R S false (.bool true) := h
theorem g_4 {R S : Prop} (h : S) : GX R S want undef := by cases want <;> exact h
theorem o_i (h : Ops P all l A σ K) : Ops P all l A σ K := h
theorem o_g (hx : all[j]? = some x) (hd : x.dst = some t) (hg : A.get t = some v) (hk : GX (Ops P all (⟨d, op, ty, po, af, none⟩ :: l) A σ K) (Ops P all l (putA A d undef) σ K) want v) : Ops P all (⟨d, op, ty, po, af, some (j, want)⟩ :: l) A σ K := by
  have yes : wantedA all A ⟨d, op, ty, po, af, some (j, want)⟩ = some true → Ops P all (⟨d, op, ty, po, af, none⟩ :: l) A σ K → Ops P all (⟨d, op, ty, po, af, some (j, want)⟩ :: l) A σ K := fun hw ⟨u, τ, h1, h2⟩ => by
    refine ⟨u, τ, ?_, h2⟩
    unfold Gd at h1 ⊢
    rw [hw]
    exact h1
  have no : wantedA all A ⟨d, op, ty, po, af, some (j, want)⟩ = some false → Ops P all l (putA A d undef) σ K → Ops P all (⟨d, op, ty, po, af, some (j, want)⟩ :: l) A σ K := fun hw h => Ops_skip hw h
  unfold GX at hk
  split at hk
  · exact yes (want_t hx hd hg) hk
  · exact yes (want_t hx hd hg) hk
  · exact no (want_f hx hd hg) hk
  · exact no (want_f hx hd hg) hk
  · exact no (by simp only [wantedA, hx, hd, hg]) hk
  · exact hk.elim
def VX (P : Program) (all : List Oper) (k : Nat) (l : List Oper) (pd : List (Nat × Fr × Value)) (st : List (Nat × AW)) (A A' : Fr) (σ' : AW) (v : Value) (KV : List (Nat × Fr × Value) → List (Nat × AW) → Fr → AW → Prop) : Bool → Bool → Prop
  | false, false => OpsV P all (k + 1) l pd st A' σ' KV
  | false, true => OpsV P all (k + 1) l ((k, A, v) :: pd) st A' σ' KV
  | true, false => OpsV P all (k + 1) l pd ((k + 1, σ') :: st) A' σ' KV
  | true, true => False
theorem vX_n {A' : Fr} (h : OpsV P all (k + 1) l pd st A' σ' KV) : VX P all k l pd st A A' σ' v KV false false := h
theorem vX_l {A' : Fr} (h : OpsV P all (k + 1) l ((k, A, v) :: pd) st A' σ' KV) : VX P all k l pd st A A' σ' v KV false true := h
theorem vX_e {A' : Fr} (h : OpsV P all (k + 1) l pd ((k + 1, σ') :: st) A' σ' KV) : VX P all k l pd st A A' σ' v KV true false := h
theorem vX_go {g_3 : Option (Nat × Bool)} (hG : Gd P all A σ ⟨d, op, ty, po, af, g_3⟩ v σ') (hk : VX P all k l pd st A (putA A d v) σ' v KV (effect op) (looksMem op)) : OpsV P all k (⟨d, op, ty, po, af, g_3⟩ :: l) pd st A σ KV := by
  refine ⟨v, σ', hG, ?_⟩
  simp only
  generalize effect op = be at hk ⊢
  generalize looksMem op = bm at hk ⊢
  cases be <;> cases bm <;> first | exact hk | exact hk.elim
theorem V_gX (hx : all[j]? = some x) (hd : x.dst = some t) (hg : A.get t = some v) (hk : GX (OpsV P all k (⟨d, op, ty, po, af, none⟩ :: l) pd st A σ KV) (VX P all k l pd st A (putA A d undef) σ undef KV (effect op) (looksMem op)) want v) : OpsV P all k (⟨d, op, ty, po, af, some (j, want)⟩ :: l) pd st A σ KV := by
  have yes : wantedA all A ⟨d, op, ty, po, af, some (j, want)⟩ = some true → OpsV P all k (⟨d, op, ty, po, af, none⟩ :: l) pd st A σ KV → OpsV P all k (⟨d, op, ty, po, af, some (j, want)⟩ :: l) pd st A σ KV := fun hw ⟨u, τ, h1, h2⟩ => by
    refine ⟨u, τ, ?_, h2⟩
    unfold Gd at h1 ⊢
    rw [hw]
    exact h1
  have no : wantedA all A ⟨d, op, ty, po, af, some (j, want)⟩ = some false → VX P all k l pd st A (putA A d undef) σ undef KV (effect op) (looksMem op) → OpsV P all k (⟨d, op, ty, po, af, some (j, want)⟩ :: l) pd st A σ KV := fun hw h => vX_go (gd_skip hw) h
  unfold GX at hk
  split at hk
  · exact yes (want_t hx hd hg) hk
  · exact yes (want_t hx hd hg) hk
  · exact no (want_f hx hd hg) hk
  · exact no (want_f hx hd hg) hk
  · exact no (by simp only [wantedA, hx, hd, hg]) hk
  · exact hk.elim
theorem v_x (h : opA P A σ ⟨d, op, ty, po, af, none⟩ = some (v, σ')) (hk : VX P all k l pd st A (putA A d v) σ' v KV (effect op) (looksMem op)) : OpsV P all k (⟨d, op, ty, po, af, none⟩ :: l) pd st A σ KV := vX_go (Gd_op rfl (not_call h) h) hk
end
end
attribute [go_sem] op_addS op_neqB op_eqlB fast_bool fast_add neqE eqlE catE
end Go.Proofs.YtckidlbmoalomaaGreatDoor
