/- What code and calls come to, as the reckoning's memory has it: rules for code with variables in it. Rules by which operations over variables are reckoned. Closed facts of the program's types. More rules: truths that are compared, texts that are put together. Tokens, in plain words: which stands at the front of bytes, and which tokens a text has. -/
import Derived.Test.YthogkmcahnkkoaaGreatDoorJ04
import Derived.Test.YthogkmcahnkkoaaGreatDoorProg
import Derived.KernelRfl
import Derived.ProofKit
import Derived.Lib.Replace
import Derived.Lib.SplitLaws
namespace Go.Proofs.YthogkmcahnkkoaaGreatDoor
open Go.RowKit
def Run (P : Program) (c : Code) (A : Fr) (σ : AW) (e : Exit) (A' : Fr) (σ' : AW) : Prop := ∀ ρ a w, Rel ρ σ w → TR ρ σ A a → c.wp P (fun e' a' w' => e' = e ∧ ∃ ρ', Step ρ σ w ρ' σ' w' ∧ TR ρ' σ' A' a') a w
def W (P : Program) (c : Code) (A : Fr) (σ : AW) (Q : Exit → Fr → AW → Prop) : Prop := ∃ e A' σ', Run P c A σ e A' σ' ∧ Q e A' σ'
def C (P : Program) (g : Nat) (xs : List Value) (σ : AW) (Q : Value → AW → Prop) : Prop := ∃ v σ', Ok P g xs σ v σ' ∧ Q v σ'
section
variable {P : Program} {A : Fr} {σ : AW} {Q Q' : Exit → Fr → AW → Prop}
theorem C.mono {g : Nat} {xs : List Value} {R R' : Value → AW → Prop} (h : C P g xs σ R) (k : ∀ v σ', R v σ' → R' v σ') : C P g xs σ R' := by
 obtain ⟨v, σ', h1, h2⟩ := h
 exact ⟨v, σ', h1, k v σ' h2⟩
theorem W.mono {c : Code} (h : W P c A σ Q) (k : ∀ e A' σ', Q e A' σ' → Q' e A' σ') : W P c A σ Q' := by
 obtain ⟨e, A', σ', h1, h2⟩ := h
 exact ⟨e, A', σ', h1, k e A' σ' h2⟩
theorem Bj (h : Q .normal A σ) : W P .skip A σ Q := ⟨.normal, A, σ, fun ρ _ _ hR hT => wp_skip ⟨rfl, ρ, Step.refl hR, hT⟩, h⟩
theorem X9 {l : Nat} (h : Q .normal A σ) : W P (.label l) A σ Q := ⟨.normal, A, σ, fun ρ _ _ hR hT => wp_label ⟨rfl, ρ, Step.refl hR, hT⟩, h⟩
theorem iH {i : Nat} (h : Q (.exit i) A σ) : W P (.exit i) A σ Q := ⟨.exit i, A, σ, fun ρ _ _ hR hT => wp_exit ⟨rfl, ρ, Step.refl hR, hT⟩, h⟩
theorem NG {i : Nat} (h : Q (.goto i) A σ) : W P (.goto i) A σ Q := ⟨.goto i, A, σ, fun ρ _ _ hR hT => wp_goto ⟨rfl, ρ, Step.refl hR, hT⟩, h⟩
theorem G6 (h : Q .ret A σ) : W P .ret A σ Q := ⟨.ret, A, σ, fun ρ _ _ hR hT => wp_ret ⟨rfl, ρ, Step.refl hR, hT⟩, h⟩
def Then (k : Fr → AW → Prop) (Q : Exit → Fr → AW → Prop) : Exit → Fr → AW → Prop := fun e A σ => match e with
 | .normal => k A σ
 | e => Q e A σ
theorem yD {x y : Code} (h : W P x A σ (Then (fun A1 σ1 => W P y A1 σ1 Q) Q)) : W P (.seq x y) A σ Q := by
 obtain ⟨e, A1, σ1, hx, hq⟩ := h
 by_cases he : e = .normal
 ·subst he
  obtain ⟨e2, A2, σ2, hy, hq2⟩ := hq
  refine ⟨e2, A2, σ2, fun ρ a w hR hT => wp_seq ?_, hq2⟩
  refine wp_mono (hx ρ a w hR hT) ?_
  rintro e' a1 w1 ⟨rfl, ρ1, hst, hT1⟩
  refine wp_mono (hy ρ1 a1 w1 hst.rel hT1) ?_
  rintro e' a2 w2 ⟨rfl, ρ2, hst2, hT2⟩
  exact ⟨rfl, ρ2, hst.trans hst2, hT2⟩
 ·have hq : Q e A1 σ1 := by cases e <;> first | exact hq | exact absurd rfl he
  refine ⟨e, A1, σ1, fun ρ a w hR hT => wp_seq ?_, hq⟩
  refine wp_mono (hx ρ a w hR hT) ?_
  rintro e' a1 w1 ⟨rfl, hst⟩
  cases e' with
  | normal => exact absurd rfl he
  | _ => exact ⟨rfl, hst⟩
theorem Ux {c : Operand} {b : Bool} {x y : Code} (hb : ev A c = some (.bool b)) (h : W P (if b then x else y) A σ Q) : W P (.cond c x y) A σ Q := by
 obtain ⟨e, A1, σ1, hx, hq⟩ := h
 refine ⟨e, A1, σ1, fun ρ a w hR hT => ?_, hq⟩
 have he := (ZY hT hb).1
 rw [pW] at he
 exact wp_cond he (hx ρ a w hR hT)
theorem Uy {c : Operand} {x y : Code} (hb : ev A c = some (.bool true)) (h : W P x A σ Q) : W P (.cond c x y) A σ Q := Ux hb h
theorem Uz {c : Operand} {x y : Code} (hb : ev A c = some (.bool false)) (h : W P y A σ Q) : W P (.cond c x y) A σ Q := Ux hb h
def Out (id : Nat) (Q : Exit → Fr → AW → Prop) : Exit → Fr → AW → Prop := fun e A σ => match e with
 | .exit i => if i = id then Q .normal A σ else Q (.exit i) A σ
 | e => Q e A σ
theorem b_k {id : Nat} {c : Code} (h : W P c A σ (Out id Q)) : W P (.block id c) A σ Q := by
 obtain ⟨e, A1, σ1, hx, hq⟩ := h
 refine ⟨(match e with | .exit i => if i = id then .normal else .exit i | e => e), A1, σ1, fun ρ a w hR hT => wp_block ?_, ?_⟩
 ·refine wp_mono (hx ρ a w hR hT) ?_
  rintro e' a1 w1 ⟨rfl, hst⟩
  cases e' with
  | exit i =>
   simp only [Exit.inBlock]
   by_cases hi : i = id
   ·simp only [if_pos hi]; exact ⟨trivial, hst⟩
   ·simp only [if_neg hi]; exact ⟨trivial, hst⟩
  | _ => exact ⟨rfl, hst⟩
 ·cases e with
  | exit i =>
   simp only [Out] at hq
   by_cases hi : i = id
   ·rw [if_pos hi] at hq; simp only [if_pos hi]; exact hq
   ·rw [if_neg hi] at hq; simp only [if_neg hi]; exact hq
  | _ => exact hq
theorem Kq {c : Code} {Q1 Q2 : Exit → Act → World → Prop} (h : ∀ e a w, e ≠ .normal → Q1 e a w → Q2 e a w) : ∀ n a w, Code.rounds P c Q1 n a w → Code.rounds P c Q2 n a w := by
 intro n
 induction n with
 | zero => intro _ _ h; exact h
 | succ n ih =>
  intro a w hh
  rw [rounds_succ] at hh ⊢
  refine wp_mono hh ?_
  intro e2 a2 w2 hq
  cases e2 with
  | normal => exact ih _ _ hq
  | _ => exact h _ _ _ (by simp) hq
def afY (P : Program) (c : Code) (n : Nat) (A : Fr) (σ : AW) (e : Exit) (A' : Fr) (σ' : AW) : Prop := ∀ ρ a w, Rel ρ σ w → TR ρ σ A a → Code.rounds P c (fun e' a' w' => e' = e ∧ ∃ ρ', Step ρ σ w ρ' σ' w' ∧ TR ρ' σ' A' a') n a w
def WL (P : Program) (c : Code) (A : Fr) (σ : AW) (Q : Exit → Fr → AW → Prop) : Prop := ∃ n e A' σ', afY P c n A σ e A' σ' ∧ Q e A' σ'
theorem dB {c : Code} (h : WL P c A σ Q) : W P (.loop c) A σ Q := by
 obtain ⟨n, e, A1, σ1, hx, hq⟩ := h
 exact ⟨e, A1, σ1, fun ρ a w hR hT => wp_loop_rounds n (hx ρ a w hR hT), hq⟩
theorem nY {c : Code} (h : W P c A σ (Then (fun A1 σ1 => WL P c A1 σ1 Q) Q)) : WL P c A σ Q := by
 obtain ⟨e, A1, σ1, hx, hq⟩ := h
 by_cases he : e = .normal
 ·subst he
  obtain ⟨n, e2, A2, σ2, hy, hq2⟩ := hq
  refine ⟨n + 1, e2, A2, σ2, fun ρ a w hR hT => ?_, hq2⟩
  rw [rounds_succ]
  refine wp_mono (hx ρ a w hR hT) ?_
  rintro e' a1 w1 ⟨rfl, ρ1, hst, hT1⟩
  refine Kq (fun e a' w' _ => ?_) n a1 w1 (hy ρ1 a1 w1 hst.rel hT1)
  rintro ⟨rfl, ρ2, h2, h3⟩
  exact ⟨rfl, ρ2, hst.trans h2, h3⟩
 ·have hq : Q e A1 σ1 := by cases e <;> first | exact hq | exact absurd rfl he
  refine ⟨1, e, A1, σ1, fun ρ a w hR hT => ?_, hq⟩
  rw [rounds_succ]
  refine wp_mono (hx ρ a w hR hT) ?_
  rintro e' a1 w1 ⟨rfl, hst⟩
  cases e' with
  | normal => exact absurd rfl he
  | _ => exact ⟨rfl, hst⟩
theorem Kr {c : Code} {Q1 Q2 : Exit → Act → World → Prop} (h : ∀ e a w, Q1 e a w → Q2 e a w) : ∀ n cur a w, passes P c Q1 n cur a w → passes P c Q2 n cur a w := by
 intro n
 induction n with
 | zero => intro _ _ _ h; exact h
 | succ n ih =>
  intro cur a w hh
  unfold passes at hh ⊢
  refine wp_mono hh ?_
  intro e2 a2 w2 hq
  cases e2 with
  | goto l => obtain ⟨r, h1, h2⟩ := hq; exact ⟨r, h1, ih _ _ _ h2⟩
  | _ => exact h _ _ _ hq
def WS (P : Program) (c cur : Code) (A : Fr) (σ : AW) (Q : Exit → Fr → AW → Prop) : Prop := ∃ n e A' σ', (∀ ρ a w, Rel ρ σ w → TR ρ σ A a → passes P c (fun e' a' w' => e' = e ∧ ∃ ρ', Step ρ σ w ρ' σ' w' ∧ TR ρ' σ' A' a') n cur a w) ∧ Q e A' σ'
theorem Ya {c : Code} (h : WS P c c A σ Q) : W P (.scope c) A σ Q := by
 obtain ⟨n, e, A1, σ1, hx, hq⟩ := h
 exact ⟨e, A1, σ1, fun ρ a w hR hT => DK n (hx ρ a w hR hT), hq⟩
def Jump (c : Code) (k : Code → Fr → AW → Prop) (Q : Exit → Fr → AW → Prop) : Exit → Fr → AW → Prop := fun e A σ => match e with
 | .goto l => ∃ rest, findLabel c l = some rest ∧ k rest A σ
 | e => Q e A σ
theorem PI {c cur : Code} (h : W P cur A σ (Jump c (fun rest A1 σ1 => WS P c rest A1 σ1 Q) Q)) : WS P c cur A σ Q := by
 obtain ⟨e, A1, σ1, hx, hq⟩ := h
 by_cases he : ∃ l, e = .goto l
 ·obtain ⟨l, rfl⟩ := he
  obtain ⟨rest, hf, n, e2, A2, σ2, hy, hq2⟩ := hq
  refine ⟨n + 1, e2, A2, σ2, fun ρ a w hR hT => ?_, hq2⟩
  unfold passes
  refine wp_mono (hx ρ a w hR hT) ?_
  rintro e' a1 w1 ⟨rfl, ρ1, hst, hT1⟩
  refine ⟨rest, hf, Kr (fun e a' w' => ?_) n rest a1 w1 (hy ρ1 a1 w1 hst.rel hT1)⟩
  rintro ⟨rfl, ρ2, h2, h3⟩
  exact ⟨rfl, ρ2, hst.trans h2, h3⟩
 ·have hq : Q e A1 σ1 := by cases e <;> first | exact hq | exact absurd ⟨_, rfl⟩ he
  refine ⟨1, e, A1, σ1, fun ρ a w hR hT => ?_, hq⟩
  unfold passes
  refine wp_mono (hx ρ a w hR hT) ?_
  rintro e' a1 w1 ⟨rfl, hst⟩
  cases e' with
  | goto l => exact absurd ⟨_, rfl⟩ he
  | _ => exact ⟨rfl, hst⟩
/-! ### aeB -/
theorem Kt {id : Nat} {ops : Array Oper} (h : Ops P ops.toList ops.toList A σ (fun A' σ' => Q .normal A' σ')) : W P (.region id ops false) A σ Q := by
 have key : ∀ {l : List Oper} {A : Fr} {σ : AW}, Ops P ops.toList l A σ (fun A' σ' => Q .normal A' σ') → ∃ A' σ', Q .normal A' σ' ∧ ∀ (R : Exit → Act → World → Prop) (ρ : Rn) (a : Act) (w : World), Rel ρ σ w → TR ρ σ A a → (∀ ρ' a' w', Step ρ σ w ρ' σ' w' → TR ρ' σ' A' a' → R .normal a' w') → wpList P ops R l a w := by
  intro l
  induction l with
  | nil => intro A σ h; exact ⟨A, σ, h, fun R ρ a w hR hT hK => hK ρ a w (Step.refl hR) hT⟩
  | cons o l ih =>
   intro A σ h
   obtain ⟨v, σ1, hg, hr⟩ := h
   obtain ⟨A', σ', hQ, hw⟩ := ih hr
   refine ⟨A', σ', hQ, fun R ρ a w hR hT hK => ?_⟩
   unfold wpList
   refine Z5 (Q := R) rfl hR (hT.he _) (fun g b x d v _ _ _ hv => hT.tmps d v hv) hg (fun ρ1 w1 hst hs => ?_)
   exact hw R ρ1 _ w1 hst.rel ((hT.step hst).put hs o.dst) (fun ρ2 a2 w2 hst2 hT2 => hK ρ2 a2 w2 (hst.trans hst2) hT2)
 obtain ⟨A', σ', hQ, hw⟩ := key h
 exact ⟨.normal, A', σ', fun ρ a w hR hT => wp_region_list (hw _ ρ a w hR hT (fun ρ' a' w' hst hT' => ⟨rfl, ρ', hst, hT'⟩)), hQ⟩
def wY : Op → Bool
 | .call c => match c.callee with
  | .value _ => true
  | _ => false
 | _ => false
theorem PK {all : List Oper} {o : Oper} {v : Value} {σ' : AW} (hw : eY all A o = some true) (hc : wY o.op = false) (h : kQ P A σ o = some (v, σ')) : Gd P all A σ o v σ' := by
 unfold Gd
 rw [hw]
 simp only
 unfold X4
 split
 ·rename_i c ho
  rw [ho] at hc
  split
  ·rename_i f hf
   simp [wY, hf] at hc
  ·exact h
 ·exact h
theorem aaM {all l : List Oper} {o : Oper} {v : Value} {σ' : AW} {K : Fr → AW → Prop} (hw : eY all A o = some true) (hc : wY o.op = false) (h : kQ P A σ o = some (v, σ')) (hk : Ops P all l (kT A o.dst v) σ' K) : Ops P all (o :: l) A σ K :=
 ⟨v, σ', PK hw hc h, hk⟩
theorem UA {all l : List Oper} {o : Oper} {K : Fr → AW → Prop} (hw : eY all A o = some false) (hk : Ops P all l (kT A o.dst undef) σ K) : Ops P all (o :: l) A σ K := by
 refine ⟨undef, σ, ?_, hk⟩
 unfold Gd
 rw [hw]
 exact ⟨rfl, rfl⟩
theorem UC {all l : List Oper} {o : Oper} {c : Call} {f : Operand} {g : Nat} {xs : List Value} {K : Fr → AW → Prop} (hw : eY all A o = some true) (ho : o.op = .call c) (hf : c.callee = .value f) (hx : callArgs A c = some (g, xs)) (hk : C P g xs σ (fun v σ' => Ops P all l (kT A o.dst v) σ' K)) : Ops P all (o :: l) A σ K := by
 obtain ⟨v, σ', h, hk⟩ := hk
 refine ⟨v, σ', ?_, hk⟩
 unfold Gd
 rw [hw]
 simp only
 unfold X4
 rw [ho]
 simp only [hf]
 exact ⟨g, xs, hx, h⟩
def IY (P : Program) (all : List Oper) : List Oper → List (Fr × AW × Value) → Fr → AW → (List (Fr × AW × Value) → Fr → AW → Prop) → Prop
 | [], tr, A, σ, K => K tr A σ
 | o :: l, tr, A, σ, K => ∃ v σ', Gd P all A σ o v σ' ∧ IY P all l (tr ++ [(A, σ, v)]) (kT A o.dst v) σ' K
def mG : Op → Bool
 | .load _ _ | .lookup _ _ _ _ | .slice _ _ _ _ _ | .convert _ _ _ => true
 | .call c => match c.callee with
  | .builtin .len => true
  | _ => false
 | _ => false
theorem jg {o : Oper} {v : Value} {σ' τ : AW} (h : iD P A σ o = some (v, σ')) : iD P A τ o = some (v, τ) := by
 unfold iD at h ⊢
 split at h
 ·rename_i hf
  rw [if_pos hf]
  split at h
  ·rename_i u hu
   split at h
   ·rename_i hb
    rw [if_pos hb]
    injection h with h
    injection h with h1 _
    rw [h1]
   ·cases h
  ·cases h
 ·cases h
theorem jV {r : Option Value} {v : Value} {σ' τ : AW} (h : same σ r = some (v, σ')) : same τ r = some (v, τ) := by
 obtain ⟨h1, _⟩ := eU h
 rw [h1]
 rfl
theorem UD {o : Oper} {v : Value} {σ' τ : AW} (he : effect o.op = false) (hl : mG o.op = false) (h : kQ P A σ o = some (v, σ')) : kQ P A τ o = some (v, τ) := by
 unfold kQ at h ⊢
 cases ho : o.op with
 | move x =>
  rw [ho] at h
  simp only at h ⊢
  repeat' (first | exact jV h | exact jg h | (injection h with h; injection h with h1 _; rw [h1]; done) | (cases h; done) | split at h)
 | assign x =>
  rw [ho] at h
  simp only at h ⊢
  repeat' (first | exact jV h | exact jg h | (injection h with h; injection h with h1 _; rw [h1]; done) | (cases h; done) | split at h)
 | pick c x y =>
  rw [ho] at h
  simp only at h ⊢
  repeat' (first | exact jV h | exact jg h | (injection h with h; injection h with h1 _; rw [h1]; done) | (cases h; done) | split at h)
 | build t ps =>
  rw [ho] at h
  simp only at h ⊢
  repeat' (first | exact jV h | exact jg h | (injection h with h; injection h with h1 _; rw [h1]; done) | (cases h; done) | split at h)
 | nilCheck x =>
  rw [ho] at h
  simp only at h ⊢
  repeat' (first | exact jV h | exact jg h | (injection h with h; injection h with h1 _; rw [h1]; done) | (cases h; done) | split at h)
 | binOp op t x y z =>
  rw [ho] at h
  simp only at h ⊢
  repeat' (first | exact jV h | exact jg h | (injection h with h; injection h with h1 _; rw [h1]; done) | (cases h; done) | split at h)
 | unOp op t x =>
  rw [ho] at h
  simp only at h ⊢
  repeat' (first | exact jV h | exact jg h | (injection h with h; injection h with h1 _; rw [h1]; done) | (cases h; done) | split at h)
 | index t x y =>
  rw [ho] at h
  simp only at h ⊢
  repeat' (first | exact jV h | exact jg h | (injection h with h; injection h with h1 _; rw [h1]; done) | (cases h; done) | split at h)
 | fieldAddr s x f =>
  rw [ho] at h
  simp only at h ⊢
  repeat' (first | exact jV h | exact jg h | (injection h with h; injection h with h1 _; rw [h1]; done) | (cases h; done) | split at h)
 | field s x f =>
  rw [ho] at h
  simp only at h ⊢
  repeat' (first | exact jV h | exact jg h | (injection h with h; injection h with h1 _; rw [h1]; done) | (cases h; done) | split at h)
 | indexAddr t x y =>
  rw [ho] at h
  simp only at h ⊢
  repeat' (first | exact jV h | exact jg h | (injection h with h; injection h with h1 _; rw [h1]; done) | (cases h; done) | split at h)
 | extract x i =>
  rw [ho] at h
  simp only at h ⊢
  repeat' (first | exact jV h | exact jg h | (injection h with h; injection h with h1 _; rw [h1]; done) | (cases h; done) | split at h)
 | makeFunc fn fs cs =>
  rw [ho] at h
  simp only at h ⊢
  repeat' (first | exact jV h | exact jg h | (injection h with h; injection h with h1 _; rw [h1]; done) | (cases h; done) | split at h)
 | call c =>
  rw [ho] at h he hl
  simp only at h ⊢
  cases hb : c.callee with
  | builtin b =>
   rw [hb] at h
   simp only [effect, mG, hb] at he hl h ⊢
   unfold qc at h ⊢
   cases b <;> first | (cases he; done) | (cases hl; done) | exact jg h
  | _ => rw [hb] at h; cases h
 | alloc _ => rw [ho] at he; cases he
 | box _ _ => rw [ho] at he; cases he
 | buildSlice _ _ _ => rw [ho] at he; cases he
 | store _ _ _ => rw [ho] at he; cases he
 | makeMap _ _ => rw [ho] at he; cases he
 | makeSlice _ _ _ => rw [ho] at he; cases he
 | mapUpdate _ _ _ _ => rw [ho] at he; cases he
 | load _ _ => rw [ho] at hl; cases hl
 | lookup _ _ _ _ => rw [ho] at hl; cases hl
 | slice _ _ _ _ _ => rw [ho] at hl; cases hl
 | convert _ _ _ => rw [ho] at hl; cases hl
 | _ => rw [ho] at h; exact jg h
def owes (all : List Oper) (an : List Nat) (i0 : Nat) : List (Nat × Nat) := (List.range all.length).flatMap fun i => match all[i]? with
 | some o => if effect o.op || !mG o.op then [] else ((places all).filter fun f => Pq all an i0 i f).map fun f => (i, f)
 | none => []
def QM (P : Program) (all : List Oper) (tr : List (Fr × AW × Value)) (σf : AW) (p : Nat × Nat) : Prop := match all[p.1]?, tr[p.1]? with
 | some o, some (A, _, v) => Gd P all A (yh tr σf p.2) o v (yh tr σf p.2)
 | _, _ => True
theorem G7 {all : List Oper} {tr : List (Fr × AW × Value)} {A0 Af : Fr} {σ0 σf : AW} {i0 : Nat} (htr : EC P all tr A0 Af σ0 σf) (h : ∀ p ∈ owes all (iG [] all) i0, QM P all tr σf p) : Pz P all (iG [] all) i0 tr σf := by
 intro i o B τ v ho hv he f hf hm
 cases hl : mG o.op with
 | true =>
  have : (i, f) ∈ owes all (iG [] all) i0 := by
   unfold owes
   refine List.mem_flatMap.2 ⟨i, List.mem_range.2 (List.getElem?_eq_some_iff.1 ho).1, ?_⟩
   rw [ho]
   simp only [he, hl, Bool.not_true, Bool.or_self, Bool.false_eq_true, if_false]
   exact List.mem_map.2 ⟨f, List.mem_filter.2 ⟨hf, hm⟩, rfl⟩
  have := h _ this
  unfold QM at this
  simp only [ho, hv] at this
  exact this
 | false =>
  obtain ⟨_, _, h3⟩ := htr
  obtain ⟨v', q1, q2, _⟩ := h3 i o ho
  rw [hv] at q1
  injection q1 with q1
  injection q1 with e1 q1
  injection q1 with e2 e3
  subst e3
  rw [← e1] at q2
  unfold Gd at q2 ⊢
  split at q2
  ·unfold X4 at q2 ⊢
   split at q2
   ·rename_i c hc
    split at q2
    ·rename_i g hg
     rw [hc] at he
     simp [effect, hg] at he
    ·exact UD he hl q2
   ·exact UD he hl q2
  ·exact ⟨q2.1, rfl⟩
  ·exact q2.elim
theorem yV {all : List Oper} {K : List (Fr × AW × Value) → Fr → AW → Prop} {A0 : Fr} {σ0 : AW} : ∀ {l : List Oper} {tr : List (Fr × AW × Value)} {A : Fr} {σ : AW}, all.drop tr.length = l → tr.length ≤ all.length →
  (cu tr A σ 0 = (A0, σ0) ∧ ∀ i o, all[i]? = some o → i < tr.length → ∃ v, tr[i]? = some ((cu tr A σ i).1, (cu tr A σ i).2, v) ∧ Gd P all (cu tr A σ i).1 (cu tr A σ i).2 o v (cu tr A σ (i + 1)).2 ∧ (cu tr A σ (i + 1)).1 = kT (cu tr A σ i).1 o.dst v) →
  IY P all l tr A σ K → ∃ tr' Af σf, EC P all tr' A0 Af σ0 σf ∧ K tr' Af σf
 | [], tr, A, σ, hd, hle, hI, h => by
  have hl : tr.length = all.length := by
   have := congrArg List.length hd
   simp at this
   omega
  exact ⟨tr, A, σ, ⟨hl, hI.1, fun i o ho => hI.2 i o ho (by have := (List.getElem?_eq_some_iff.1 ho).1; omega)⟩, h⟩
 | o :: l, tr, A, σ, hd, hle, hI, h => by
  obtain ⟨v, σ', hg, hr⟩ := h
  have hlt : tr.length < all.length := by
   have := congrArg List.length hd
   simp at this
   omega
  have hot : all[tr.length]? = some o := by
   have := congrArg (fun l => l[0]?) hd
   simpa using this
  have hst : ∀ i, i ≤ tr.length → cu (tr ++ [(A, σ, v)]) (kT A o.dst v) σ' i = cu tr A σ i := fun i hi => by
   unfold cu
   rcases Nat.lt_or_ge i tr.length with h1 | h1
   ·rw [List.getElem?_append_left h1, List.getElem?_eq_getElem h1]
   ·have : i = tr.length := by omega
    subst this
    simp
  have hend : cu (tr ++ [(A, σ, v)]) (kT A o.dst v) σ' (tr.length + 1) = (kT A o.dst v, σ') := by
   unfold cu
   rw [List.getElem?_eq_none (by simp)]
  have hcur : cu tr A σ tr.length = (A, σ) := by
   unfold cu
   rw [List.getElem?_eq_none (Nat.le_refl _)]
  refine yV (l := l) (tr := tr ++ [(A, σ, v)]) ?_ (by simp; omega) ⟨by rw [hst 0 (Nat.zero_le _)]; exact hI.1, fun i x hx hi => ?_⟩ hr
  ·have := congrArg (List.drop 1) hd
   simpa using this
  ·simp only [List.length_append, List.length_singleton] at hi
   rcases Nat.lt_or_ge i tr.length with h1 | h1
   ·obtain ⟨u, q1, q2, q3⟩ := hI.2 i x hx h1
    refine ⟨u, ?_, ?_, ?_⟩
    ·rw [hst i (by omega), List.getElem?_append_left h1]; exact q1
    ·rw [hst i (by omega), hst (i + 1) (by omega)]; exact q2
    ·rw [hst i (by omega), hst (i + 1) (by omega)]; exact q3
   ·have e : i = tr.length := by omega
    subst e
    rw [hot] at hx
    injection hx with hx
    subst hx
    refine ⟨v, ?_, ?_, ?_⟩
    ·rw [hst _ (Nat.le_refl _), hcur]; simp
    ·rw [hst _ (Nat.le_refl _), hcur, hend]; exact hg
    ·rw [hst _ (Nat.le_refl _), hcur, hend]
theorem Yb {id : Nat} {ops : Array Oper} (hm : P.follows .mixedOrders = true) (hok : yC ops.toList = true) (FY : kX ops.toList (dP ops.toList (iG [] ops.toList)) A = true)
  (h : IY P ops.toList ops.toList [] A σ (fun tr A' σ' => (∀ p ∈ owes ops.toList (iG [] ops.toList) (dP ops.toList (iG [] ops.toList)), QM P ops.toList tr σ' p) ∧ Q .normal A' σ')) : W P (.region id ops true) A σ Q := by
 obtain ⟨tr, A', σ', ht, ho, hq⟩ := yV (A0 := A) (σ0 := σ) (by simp) (Nat.zero_le _) ⟨by unfold cu; rfl, fun i o _ hi => absurd hi (Nat.not_lt_zero _)⟩ h
 exact ⟨.normal, A', σ', fun ρ a w hR hT => wp_region_any hm (J9 hok FY ht (G7 ht ho) hR hT (fun ρ' a' w' hst hT' => ⟨rfl, ρ', hst, hT'⟩)), hq⟩
theorem UE {id : Nat} {ops : Array Oper} {all : List Oper} (hm : P.follows .mixedOrders = true) (hall : mV ops.toList (zO ops.toList) = all) (hp : Bh ops.toList (zO ops.toList) = true) (hw : within ops.toList = true) (hok : yC all = true) (FY : kX all (dP all (iG [] all)) A = true)
  (h : IY P all all [] A σ (fun tr A' σ' => (∀ p ∈ owes all (iG [] all) (dP all (iG [] all)), QM P all tr σ' p) ∧ Q .normal A' σ')) : W P (.region id ops true) A σ Q := by
 obtain ⟨tr, A', σ', ht, ho, hq⟩ := yV (A0 := A) (σ0 := σ) (by simp) (Nat.zero_le _) ⟨by unfold cu; rfl, fun i o _ hi => absurd hi (Nat.not_lt_zero _)⟩ h
 exact ⟨.normal, A', σ', fun ρ a w hR hT => wp_region_any hm (QK hall hp hw hok FY ht (G7 ht ho) hR hT (fun ρ' a' w' hst hT' => ⟨rfl, ρ', hst, hT'⟩)), hq⟩
/-! ### The same, with what looked at memory, and the memories, alone -/
def EF {α : Type} (k : Nat) : List (Nat × α) → Option α
 | [] => none
 | (j, x) :: l => match Nat.beq j k with
  | true => some x
  | false => EF k l
def rC (P : Program) (all : List Oper) : Nat → List Oper → List (Nat × Fr × Value) → List (Nat × AW) → Fr → AW → (List (Nat × Fr × Value) → List (Nat × AW) → Fr → AW → Prop) → Prop
 | _, [], pd, st, A, σ, K => K pd st A σ
 | k, o :: l, pd, st, A, σ, K => ∃ v σ', Gd P all A σ o v σ' ∧ rC P all (k + 1) l (if mG o.op then (k, A, v) :: pd else pd) (if effect o.op then (k + 1, σ') :: st else st) (kT A o.dst v) σ' K
def qw (P : Program) (all : List Oper) (pd : List (Nat × Fr × Value)) (st : List (Nat × AW)) (p : Nat × Nat) : Prop := ∃ o A v τ, all[p.1]? = some o ∧ EF p.1 pd = some (A, v) ∧ EF p.2 st = some τ ∧ Gd P all A τ o v τ
theorem wZ {α : Type} {Q : Nat → α → Prop} {k : Nat} {x : α} : ∀ {l : List (Nat × α)}, (∀ p ∈ l, Q p.1 p.2) → EF k l = some x → Q k x
 | [], _, h => by cases h
 | (j, y) :: l, hq, h => by
  unfold EF at h
  split at h
  ·rename_i e
   injection h with h
   subst h
   have := hq (j, y) (List.mem_cons_self ..)
   rw [Nat.eq_of_beq_eq_true e] at this
   exact this
  ·exact wZ (fun p hp => hq p (List.mem_cons_of_mem _ hp)) h
theorem NH {all : List Oper} {K : List (Nat × Fr × Value) → List (Nat × AW) → Fr → AW → Prop} : ∀ {l : List Oper} {tr : List (Fr × AW × Value)} {pd : List (Nat × Fr × Value)} {st : List (Nat × AW)} {A : Fr} {σ : AW},
  (∀ p ∈ pd, ∃ τ, tr[p.1]? = some (p.2.1, τ, p.2.2)) → (∀ p ∈ st, p.1 ≤ tr.length ∧ yh tr σ p.1 = p.2) → rC P all tr.length l pd st A σ K →
  IY P all l tr A σ (fun tr' A' σ' => ∃ pd' st', (∀ p ∈ pd', ∃ τ, tr'[p.1]? = some (p.2.1, τ, p.2.2)) ∧ (∀ p ∈ st', yh tr' σ' p.1 = p.2) ∧ K pd' st' A' σ')
 | [], tr, pd, st, A, σ, h1, h2, h => ⟨pd, st, h1, fun p hp => (h2 p hp).2, h⟩
 | o :: l, tr, pd, st, A, σ, h1, h2, h => by
  obtain ⟨v, σ', hg, hr⟩ := h
  refine ⟨v, σ', hg, NH (tr := tr ++ [(A, σ, v)]) ?_ ?_ (by rw [List.length_append]; exact hr)⟩
  ·have old : ∀ p ∈ pd, ∃ τ, (tr ++ [(A, σ, v)])[p.1]? = some (p.2.1, τ, p.2.2) := fun p hp => by
    obtain ⟨τ, hτ⟩ := h1 p hp
    exact ⟨τ, by rw [List.getElem?_append_left (List.getElem?_eq_some_iff.1 hτ).1]; exact hτ⟩
   intro p hp
   split at hp
   ·cases hp with
    | head => exact ⟨σ, by simp⟩
    | tail _ hp => exact old p hp
   ·exact old p hp
  ·have keep : ∀ f, f ≤ tr.length → yh (tr ++ [(A, σ, v)]) σ' f = yh tr σ f := fun f hf => by
    unfold yh
    rcases Nat.lt_or_ge f tr.length with h | h
    ·rw [List.getElem?_append_left h]
     rw [List.getElem?_eq_getElem h]
    ·have : f = tr.length := by omega
     subst this
     simp
   have old : ∀ p ∈ st, p.1 ≤ (tr ++ [(A, σ, v)]).length ∧ yh (tr ++ [(A, σ, v)]) σ' p.1 = p.2 := fun p hp => by
    obtain ⟨q1, q2⟩ := h2 p hp
    exact ⟨by simp; omega, by rw [keep p.1 q1]; exact q2⟩
   intro p hp
   split at hp
   ·cases hp with
    | head => exact ⟨by simp, by unfold yh; rw [List.getElem?_eq_none (by simp)]⟩
    | tail _ hp => exact old p hp
   ·exact old p hp
theorem UF {id : Nat} {l : List Oper} (hm : P.follows .mixedOrders = true) (hok : yC l = true) (FY : kX l (dP l (iG [] l)) A = true)
  (h : rC P l 0 l [] [(0, σ)] A σ (fun pd st A' σ' => (∀ p ∈ owes l (iG [] l) (dP l (iG [] l)), qw P l pd st p) ∧ Q .normal A' σ')) : W P (.region id l.toArray true) A σ Q := by
 have h := NH (tr := []) (fun p hp => by cases hp) (fun p hp => by simp only [List.mem_singleton] at hp; subst hp; exact ⟨Nat.le_refl _, rfl⟩) h
 refine Yb (ops := l.toArray) hm hok FY ?_
 have mono : ∀ {l1 : List Oper} {tr : List (Fr × AW × Value)} {A : Fr} {σ : AW} {K K' : List (Fr × AW × Value) → Fr → AW → Prop}, (∀ tr A σ, K tr A σ → K' tr A σ) → IY P l l1 tr A σ K → IY P l l1 tr A σ K' := by
  intro l1
  induction l1 with
  | nil => intro tr A σ K K' hk h; exact hk _ _ _ h
  | cons o l1 ih =>
   rintro tr A σ K K' hk ⟨v, σ', hg, hr⟩
   exact ⟨v, σ', hg, ih hk hr⟩
 refine mono ?_ h
 rintro tr A' σ' ⟨pd, st, h1, h2, h3, h4⟩
 refine ⟨fun p hp => ?_, h4⟩
 obtain ⟨o, B, v, τ, q1, q2, q3, q4⟩ := h3 p hp
 have hpd := wZ (Q := fun k x => ∃ τ, tr[k]? = some (x.1, τ, x.2)) h1 q2
 have hst := wZ (Q := fun k x => yh tr σ' k = x) h2 q3
 obtain ⟨τ', aaN⟩ := hpd
 unfold QM
 simp only [q1, aaN, hst]
 exact q4
theorem QN {id : Nat} {l all : List Oper} (hm : P.follows .mixedOrders = true) (hall : mV l (zO l) = all) (hp : Bh l (zO l) = true) (hw : within l = true) (hok : yC all = true) (FY : kX all (dP all (iG [] all)) A = true)
  (h : rC P all 0 all [] [(0, σ)] A σ (fun pd st A' σ' => (∀ p ∈ owes all (iG [] all) (dP all (iG [] all)), qw P all pd st p) ∧ Q .normal A' σ')) : W P (.region id l.toArray true) A σ Q := by
 have h := NH (tr := []) (fun p hp => by cases hp) (fun p hp => by simp only [List.mem_singleton] at hp; subst hp; exact ⟨Nat.le_refl _, rfl⟩) h
 refine UE (ops := l.toArray) hm hall hp hw hok FY ?_
 have mono : ∀ {l1 : List Oper} {tr : List (Fr × AW × Value)} {A : Fr} {σ : AW} {K K' : List (Fr × AW × Value) → Fr → AW → Prop}, (∀ tr A σ, K tr A σ → K' tr A σ) → IY P all l1 tr A σ K → IY P all l1 tr A σ K' := by
  intro l1
  induction l1 with
  | nil => intro tr A σ K K' hk h; exact hk _ _ _ h
  | cons o l1 ih =>
   rintro tr A σ K K' hk ⟨v, σ', hg, hr⟩
   exact ⟨v, σ', hg, ih hk hr⟩
 refine mono ?_ h
 rintro tr A' σ' ⟨pd, st, h1, h2, h3, h4⟩
 refine ⟨fun p hp => ?_, h4⟩
 obtain ⟨o, B, v, τ, q1, q2, q3, q4⟩ := h3 p hp
 have hpd := wZ (Q := fun k x => ∃ τ, tr[k]? = some (x.1, τ, x.2)) h1 q2
 have hst := wZ (Q := fun k x => yh tr σ' k = x) h2 q3
 obtain ⟨τ', aaN⟩ := hpd
 unfold QM
 simp only [q1, aaN, hst]
 exact q4
/-! ### Calls -/
def Ret (P : Program) (fn : Func) (R : Value → AW → Prop) : Exit → Fr → AW → Prop := fun e A σ => (e = .ret ∨ e = .normal) ∧ ∃ vs, kY P A σ fn.results.toList = some vs ∧ R (jH vs) σ
theorem aaO {g : Nat} {fn : Func} {c : Code} {xs : List Value} {R : Value → AW → Prop} (hN : (fn.name == "runtime.NumGoroutine") = false) (hf : P.funcs[g]? = some fn) (hb : fn.body = some c) (hl : xs.length ≤ fn.ntmps) (h : W P c ((Fr.new fn.ntmps).fill 0 xs) σ (Ret P fn R)) : C P g xs σ R := by
 obtain ⟨e, A', σ', hrun, he, vs, hvs, hR⟩ := h
 refine ⟨jH vs, σ', ⟨?_, fun ρ w af0 hs => ?_⟩, hR⟩
 ·intro args w
  unfold callFunc
  have h2 : fn.body.isNone = false := by rw [hb]; rfl
  simp only [Sem.run_bind, run_program, Result.andThen_ok, hf, hN, h2, Bool.false_eq_true, if_false, Sem.run_pure]
 ·refine calls_of_wp hf hb ?_
  have hT := Ut (ρ := ρ) hs hl
  refine wp_mono (hrun ρ _ w af0 hT) ?_
  rintro e' a' w' ⟨rfl, ρ', hst, hT'⟩
  obtain ⟨q1, q2⟩ := QL hst.rel hT' hvs
  rcases he with rfl | rfl
  ·exact ⟨hT'.defers, _, q1, ρ', rfl, hst, q2⟩
  ·exact ⟨hT'.defers, _, q1, ρ', rfl, hst, q2⟩
end
section
variable {P : Program} {A : Fr} {σ : AW}
theorem aaP (t : Tmp) : ev A (.tmp t) = A.get t := rfl
theorem aaQ (k : IntKind) (n : Int) : ev A (.const (.int k n)) = some (.int k n) := rfl
theorem Yc (b : Bool) : ev A (.const (.bool b)) = some (.bool b) := rfl
theorem aaR (s : ByteArray) : ev A (.const (.string s)) = some (.string s) := rfl
theorem Yd (l c : Nat) : ev A (.const (.slice none l c)) = some (.slice none l c) := rfl
theorem Ye : ev A (.const (.pointer none)) = some (.pointer none) := rfl
theorem acC (f : FuncId) : ev A (.func f) = some (.func (.func f) #[] #[]) := rfl
theorem QO : nR A [] = some [] := rfl
theorem NI {x : Operand} {l : List Operand} : nR A (x :: l) = match ev A x with
 | none => none
 | some v => match nR A l with
  | none => none
  | some vs => some (v :: vs) := rfl
theorem Ku : nV A [] = some [] := rfl
theorem IZ {i : Nat} {x : Operand} {l : List (Nat × Operand)} : nV A ((i, x) :: l) = match ev A x with
 | none => none
 | some v => match nV A l with
  | none => none
  | some vs => some ((i, v) :: vs) := rfl
theorem put_eq {d : Nat} {v : Value} (h : d < A.size) : (kT A (some d) v).get d = some v := by
 simp only [kT, Fr.get_set, if_true]
 unfold Fr.get
 have : Nat.blt d A.size = true := Nat.ble_eq_true_of_le h
 rw [this]
 rfl
theorem UG {d t : Nat} {v : Value} (h : t ≠ d) : (kT A (some d) v).get t = A.get t := by
 simp only [kT, Fr.get_set, if_neg h]
theorem rD {d : Option Tmp} {v : Value} : (kT A d v).size = A.size := by cases d <;> rfl
theorem UH {v : Value} : kT A none v = A := rfl
theorem G8 : ∀ (xs : List Value) (i : Nat) (A : Fr), (A.fill i xs).size = A.size
 | [], _, _ => rfl
 | _ :: xs, i, _ => G8 xs (i + 1) _
theorem Kv : ∀ (xs : List Value) (i : Nat) (A : Fr), i + xs.length ≤ A.size → (∀ t, t < i → (A.fill i xs).get t = A.get t) ∧ ∀ j v, xs[j]? = some v → (A.fill i xs).get (i + j) = some v
 | [], i, A, _ => ⟨fun _ _ => rfl, fun j v h => by cases h⟩
 | x :: xs, i, A, hl => by
  have hl : i + (xs.length + 1) ≤ A.size := hl
  obtain ⟨h1, h2⟩ := Kv xs (i + 1) (A.set i x) (by show i + 1 + xs.length ≤ A.size; omega)
  refine ⟨fun t ht => ?_, fun j v hj => ?_⟩
  ·show ((A.set i x).fill (i + 1) xs).get t = _
   rw [h1 t (by omega)]
   exact UG (A := A) (d := i) (v := x) (by omega)
  ·show ((A.set i x).fill (i + 1) xs).get (i + j) = _
   cases j with
   | zero =>
    injection hj with hj
    subst hj
    show ((A.set i x).fill (i + 1) xs).get i = _
    rw [h1 i (by omega)]
    exact put_eq (A := A) (d := i) (by omega)
   | succ j =>
    have := h2 j v hj
    rw [show i + 1 + j = i + (j + 1) by omega] at this
    exact this
def NJ (P : Program) (rs : List ResultVar) (R : Value → AW → Prop) : Exit → Fr → AW → Prop := fun e A σ => (e = .ret ∨ e = .normal) ∧ ∃ vs, kY P A σ rs = some vs ∧ R (jH vs) σ
theorem Bo {rs : List ResultVar} {R : Value → AW → Prop} {vs : List Value} (h : kY P A σ rs = some vs) (hR : R (jH vs) σ) : NJ P rs R .ret A σ := ⟨.inl rfl, vs, h, hR⟩
theorem aaS {rs : List ResultVar} {R : Value → AW → Prop} {vs : List Value} (h : kY P A σ rs = some vs) (hR : R (jH vs) σ) : NJ P rs R .normal A σ := ⟨.inr rfl, vs, h, hR⟩
theorem Yf : kY P A σ [] = some [] := rfl
theorem UJ {r : ResultVar} {l : List ResultVar} : kY P A σ (r :: l) = match qO P A σ r with
 | none => none
 | some v => match kY P A σ l with
  | none => none
  | some vs => some (v :: vs) := rfl
theorem Yg {t : Tmp} : qO P A σ (.tmp t) = A.get t := rfl
theorem UK {a : Tmp} {t : TypeId} : qO P A σ (.cell a t) = match A.get a with
 | some (.pointer (some ad)) => Em P σ t ad
 | _ => none := rfl
theorem zT {g n : Nat} {fn : Func} {c : Code} {xs : List Value} {rs : List ResultVar} {R : Value → AW → Prop} (hN : (fn.name == "runtime.NumGoroutine") = false) (hf : P.funcs[g]? = some fn) (hb : fn.body = some c) (hn : fn.ntmps = n) (hr : fn.results = rs.toArray) (hl : xs.length ≤ n)
  (h : ∀ A : Fr, A.size = n → (∀ i v, xs[i]? = some v → A.get i = some v) → W P c A σ (NJ P rs R)) : C P g xs σ R := by
 refine aaO hN hf hb (by omega) (W.mono (h _ ?_ ?_) (fun e A' σ' hq => ?_))
 ·rw [G8]; exact hn
 ·intro i v hv
  have := (Kv xs 0 (Fr.new fn.ntmps) (by show 0 + xs.length ≤ fn.ntmps; omega)).2 i v hv
  rwa [Nat.zero_add] at this
 ·obtain ⟨h1, vs, h2, h3⟩ := hq
  exact ⟨h1, vs, by rw [hr]; exact h2, h3⟩
/-! ### Operations -/
def aaT (op : BinOp) (x y : Option Value) (σ : AW) (other : Option (Value × AW)) : Option (Value × AW) := match x with
 | some u => match y with
  | some v => match aT op u v with
   | some r => some (r, σ)
   | none => other
  | none => none
 | none => none
def zU (P : Program) (A : Fr) (σ : AW) (o : Oper) : Option (Value × AW) := kQ P A σ o
theorem Yh (k : IntKind) (a b : Int) : aT .eql (.int k a) (.int k b) = some (.bool (a == b)) := by simp [aT]
theorem Yi (k : IntKind) (a b : Int) : aT .neq (.int k a) (.int k b) = some (.bool (a != b)) := by simp [aT]
theorem Yj (k : IntKind) (a b : Int) : aT .lss (.int k a) (.int k b) = some (.bool (decide (a < b))) := by simp [aT]
theorem Yk (k : IntKind) (a b : Int) : aT .leq (.int k a) (.int k b) = some (.bool (decide (a ≤ b))) := by simp [aT]
theorem Ym (k : IntKind) (a b : Int) : aT .gtr (.int k a) (.int k b) = some (.bool (decide (a > b))) := by simp [aT]
theorem Yn (k : IntKind) (a b : Int) : aT .geq (.int k a) (.int k b) = some (.bool (decide (a ≥ b))) := by simp [aT]
theorem CY {n : Int} (h0 : 0 ≤ n) (h1 : n ≤ 9223372036854775807) : Bf .i64 n = some (.int .i64 n) := by
 unfold Bf
 cases n with
 | ofNat m =>
  have : Nat.ble m 9223372036854775807 = true := Nat.ble_eq_true_of_le (by simp only [Int.ofNat_eq_natCast] at h1; omega)
  simp only [this]
 | negSucc m => omega
theorem aH {a b : Int} (h0 : 0 ≤ a + b) (h1 : a + b ≤ 9223372036854775807) : aT .add (.int .i64 a) (.int .i64 b) = some (.int .i64 (a + b)) := by
 simp only [aT, decide_true]
 exact CY h0 h1
theorem xg {a b : Int} (h0 : 0 ≤ a - b) (h1 : a - b ≤ 9223372036854775807) : aT .sub (.int .i64 a) (.int .i64 b) = some (.int .i64 (a - b)) := by
 simp only [aT, decide_true]
 exact CY h0 h1
theorem PL (a b : ByteArray) : eqL a.data.toList b.data.toList = decide (a = b) := by
 rw [IQ]
 by_cases h : a = b
 ·subst h; simp
 ·have : ¬ a.data.toList = b.data.toList := fun e => h (by cases a; cases b; congr 1; exact Array.ext' e)
  simp only [h, decide_false, beq_eq_false_iff_ne]
  exact this
theorem Yo (a b : ByteArray) : aT .eql (.string a) (.string b) = some (.bool (decide (a = b))) := by simp only [aT, PL]
theorem Yq (a b : ByteArray) : aT .neq (.string a) (.string b) = some (.bool (!decide (a = b))) := by simp only [aT, PL]
section
variable {d : Option Tmp} {ty : TypeId} {po : String} {af : Array Edge} {gd : Option (Nat × Bool)}
theorem Yr {x : Operand} : kQ P A σ ⟨d, .move x, ty, po, af, gd⟩ = same σ (ev A x) := rfl
theorem QS {x : Operand} : kQ P A σ ⟨d, .assign x, ty, po, af, gd⟩ = same σ (ev A x) := rfl
theorem Yt {c x y : Operand} : kQ P A σ ⟨d, .pick c x y, ty, po, af, gd⟩ = match ev A c with
 | some (.bool true) => same σ (ev A x)
 | some (.bool false) => same σ (ev A y)
 | _ => none := rfl
theorem UL {t : TypeId} : kQ P A σ ⟨d, .alloc t, ty, po, af, gd⟩ = match zeroOf P t with
 | some z => some (.pointer (some ⟨σ.next, 0, none⟩), σ.push ⟨1, t, 0, aF z⟩)
 | none => none := rfl
theorem aaU {t : TypeId} {x : Operand} : kQ P A σ ⟨d, .box t x, ty, po, af, gd⟩ = match ev A x with
 | some v => some (.pointer (some ⟨σ.next, 0, none⟩), σ.push ⟨1, t, 0, aF v⟩)
 | none => none := rfl
theorem UM {t : TypeId} {ps : Array (Nat × Operand)} : kQ P A σ ⟨d, .build t ps, ty, po, af, gd⟩ = match nV A ps.toList with
 | some vs => same σ (lW P t vs)
 | none => none := rfl
theorem Gh {t : TypeId} {len : Nat} {ps : Array (Nat × Operand)} : kQ P A σ ⟨d, .buildSlice t len ps, ty, po, af, gd⟩ = match nV A ps.toList with
 | some vs => bf P σ t len vs
 | none => none := rfl
theorem Yu {t : TypeId} {x : Operand} : kQ P A σ ⟨d, .load t x, ty, po, af, gd⟩ = match ev A x with
 | some (.pointer (some a)) => same σ (Em P σ t a)
 | _ => none := rfl
theorem UN {t : TypeId} {x y : Operand} : kQ P A σ ⟨d, .store t x y, ty, po, af, gd⟩ = match ev A x with
 | some (.pointer (some a)) => match ev A y with
  | some v => GV (Eo P σ t a v)
  | none => none
 | _ => none := rfl
theorem Kw {x : Operand} : kQ P A σ ⟨d, .nilCheck x, ty, po, af, gd⟩ = match ev A x with
 | some (.pointer (some a)) => some (.pointer (some a), σ)
 | _ => none := rfl
theorem aaV {t : TypeId} {x : Operand} : kQ P A σ ⟨d, .unOp .not t x, ty, po, af, gd⟩ = match ev A x with
 | some (.bool b) => some (.bool (!b), σ)
 | _ => iD P A σ ⟨d, .unOp .not t x, ty, po, af, gd⟩ := by
  cases h : ev A x with
  | none => simp only [kQ, h]
  | some v => cases v <;> simp only [kQ, h]
theorem I4 {s : TypeId} {x : Operand} {f : Nat} : kQ P A σ ⟨d, .fieldAddr s x f, ty, po, af, gd⟩ = match ev A x with
 | some v => same σ (aJ P s v f)
 | none => none := rfl
theorem UO {s : TypeId} {x : Operand} {f : Nat} : kQ P A σ ⟨d, .field s x f, ty, po, af, gd⟩ = match ev A x with
 | some v => same σ (IE P s v f)
 | none => none := rfl
theorem I5 {t : TypeId} {x y : Operand} : kQ P A σ ⟨d, .indexAddr t x y, ty, po, af, gd⟩ = match ev A x with
 | some u => match ev A y with
  | some v => same σ (iJ P t u v)
  | none => none
 | none => none := by
  cases h1 : ev A x <;> cases h2 : ev A y <;> simp only [kQ, h1, h2]
theorem NK {x : Operand} {i : Nat} : kQ P A σ ⟨d, .extract x i, ty, po, af, gd⟩ = match ev A x with
 | some v => same σ (wS v i)
 | none => none := rfl
theorem Ky {fn : Fn} {fs cs : Array Operand} : kQ P A σ ⟨d, .makeFunc fn fs cs, ty, po, af, gd⟩ = match nR A fs.toList with
 | some u => match nR A cs.toList with
  | some v => some (.func fn u.toArray v.toArray, σ)
  | none => none
 | none => none := by
  cases h1 : nR A fs.toList <;> cases h2 : nR A cs.toList <;> simp only [kQ, h1, h2]
theorem UQ {t : TypeId} {x : Operand} {lo hi mx : Option Operand} : kQ P A σ ⟨d, .slice t x lo hi mx, ty, po, af, gd⟩ = match ev A x with
 | some (.slice a l c) => match Pm A lo with
  | some lo => match Pm A hi with
   | some hi => match Pm A mx with
    | some mx => same σ (wP P σ t (.slice a l c) lo hi mx)
    | none => none
   | none => none
  | none => none
 | _ => zU P A σ ⟨d, .slice t x lo hi mx, ty, po, af, gd⟩ := by
  cases h1 : ev A x with
  | none => rfl
  | some v =>
   cases v with
   | slice a l c => cases h2 : Pm A lo <;> cases h3 : Pm A hi <;> cases h4 : Pm A mx <;> simp only [kQ, h1, h2, h3, h4]
   | _ => rfl
theorem UR : Pm A none = some none := rfl
theorem UU {x : Operand} : Pm A (some x) = match ev A x with
 | none => none
 | some v => some (some v) := rfl
theorem aaW {op : BinOp} {t t2 : TypeId} {x y : Operand} : kQ P A σ ⟨d, .binOp op t x y t2, ty, po, af, gd⟩ = aaT op (ev A x) (ev A y) σ (zU P A σ ⟨d, .binOp op t x y t2, ty, po, af, gd⟩) := by
 unfold aaT zU
 split
 ·split
  ·split
   ·rename_i h1 _ _ h2 _ _ h3
    simp only [kQ, h1, h2, h3]
   ·rfl
  ·rename_i u h1 _ h2
   simp only [kQ, h1, h2]
 ·rename_i h1
  simp only [kQ, h1]
theorem aaX {t : TypeId} {x : Operand} : kQ P A σ ⟨d, .call ⟨.builtin .len, #[x], #[t]⟩, ty, po, af, gd⟩ = match ev A x with
 | some u => same σ (fF P σ t u)
 | none => none := by
 cases h1 : ev A x <;> simp only [kQ, qc, nR, h1]
theorem QT {t tx : TypeId} {x y : Operand} : kQ P A σ ⟨d, .call ⟨.builtin .append, #[x, y], #[t, tx]⟩, ty, po, af, gd⟩ = match ev A x with
 | some u => match ev A y with
  | some v => ig P σ t tx u v
  | none => none
 | none => none := by
 cases h1 : ev A x <;> cases h2 : ev A y <;> simp only [kQ, qc, nR, h1, h2]
theorem Kz {all : List Oper} {op : Op} : eY all A ⟨d, op, ty, po, af, none⟩ = some true := rfl
theorem CZ {all : List Oper} {op : Op} {j : Nat} {want b : Bool} {x : Oper} {t : Tmp} (h1 : all[j]? = some x) (h2 : x.dst = some t) (h3 : A.get t = some (.bool b)) : eY all A ⟨d, op, ty, po, af, some (j, want)⟩ = some (b == want) := by simp only [eY, h1, h2, h3]
end
/-! ### The walk -/
theorem C9 {id : Nat} {l : List Oper} {y : Code} {Q : Exit → Fr → AW → Prop} (h : Ops P l l A σ (fun A1 σ1 => W P y A1 σ1 Q)) : W P (.seq (.region id l.toArray false) y) A σ Q := yD (Kt (ops := l.toArray) h)
theorem Dc {id : Nat} {l : List Oper} {Q : Exit → Fr → AW → Prop} (h : Ops P l l A σ (fun A1 σ1 => Q .normal A1 σ1)) : W P (.region id l.toArray false) A σ Q := Kt (ops := l.toArray) h
section
variable {d : Option Tmp} {ty : TypeId} {po : String} {af : Array Edge} {op : Op} {all l : List Oper} {K : Fr → AW → Prop} {KT : List (Fr × AW × Value) → Fr → AW → Prop} {tr : List (Fr × AW × Value)} {v : Value} {σ' : AW} {x : Oper} {j : Nat} {want : Bool} {t : Tmp}
theorem KA {o : Oper} {r : Value × AW} (h : kQ P A σ o = some r) : wY o.op = false := by
 unfold wY
 split
 ·rename_i c hc
  split
  ·rename_i f hf
   unfold kQ at h
   rw [hc] at h
   simp only [hf] at h
   cases h
  ·rfl
 ·rfl
theorem zC (h : kQ P A σ ⟨d, op, ty, po, af, none⟩ = some (v, σ')) (hk : Ops P all l (kT A d v) σ' K) : Ops P all (⟨d, op, ty, po, af, none⟩ :: l) A σ K := aaM rfl (KA h) h hk
theorem aj {f : Operand} {os : Array Operand} {ts : Array TypeId} {g : Nat} {xs : List Value} (hx : callArgs A ⟨.value f, os, ts⟩ = some (g, xs)) (hk : C P g xs σ (fun v σ' => Ops P all l (kT A d v) σ' K)) : Ops P all (⟨d, .call ⟨.value f, os, ts⟩, ty, po, af, none⟩ :: l) A σ K := UC rfl rfl rfl hx hk
section
variable {k : Nat} {pd : List (Nat × Fr × Value)} {st : List (Nat × AW)} {KV : List (Nat × Fr × Value) → List (Nat × AW) → Fr → AW → Prop}
theorem bD {f : Operand} {os : Array Operand} {ts : Array TypeId} {g : Nat} {xs : List Value} (hx : callArgs A ⟨.value f, os, ts⟩ = some (g, xs)) (hk : C P g xs σ (fun v σ' => rC P all (k + 1) l pd ((k + 1, σ') :: st) (kT A d v) σ' KV)) : rC P all k (⟨d, .call ⟨.value f, os, ts⟩, ty, po, af, none⟩ :: l) pd st A σ KV := by
 obtain ⟨v, σ', h, hk⟩ := hk
 refine ⟨v, σ', ?_, hk⟩
 show Gd P all A σ _ v σ'
 unfold Gd
 rw [Kz]
 exact ⟨g, xs, hx, h⟩
theorem acD (h : KV pd st A σ) : rC P all k [] pd st A σ KV := h
theorem bg {i f : Nat} {o : Oper} {B : Fr} {τ : AW} (h1 : all[i]? = some o) (h2 : EF i pd = some (B, v)) (h3 : EF f st = some τ) (hw : eY all B o = some true) (hc : wY o.op = false) (h : kQ P B τ o = some (v, τ)) : qw P all pd st (i, f) := ⟨o, B, v, τ, h1, h2, h3, PK hw hc h⟩
theorem aO {p : Nat × Nat} {l : List (Nat × Nat)} (h : qw P all pd st p) (k : ∀ q ∈ l, qw P all pd st q) : ∀ q ∈ p :: l, qw P all pd st q := by
 intro q hq
 cases hq with
 | head => exact h
 | tail _ hq => exact k q hq
theorem bn : ∀ q ∈ ([] : List (Nat × Nat)), qw P all pd st q := fun _ hq => by cases hq
theorem Yv {an : List Nat} {i0 : Nat} {L : List (Nat × Nat)} (h : owes all an i0 = L) (k : ∀ q ∈ L, qw P all pd st q) : ∀ q ∈ owes all an i0, qw P all pd st q := h ▸ k
end
end
theorem bY {id : Nat} {l : List Oper} {Q : Exit → Fr → AW → Prop} (hm : P.follows .mixedOrders = true) (hok : yC l = true) (FY : kX l (dP l (iG [] l)) A = true)
 (h : rC P l 0 l [] [(0, σ)] A σ (fun pd st A' σ' => (∀ p ∈ owes l (iG [] l) (dP l (iG [] l)), qw P l pd st p) ∧ Q .normal A' σ')) : W P (.region id l.toArray true) A σ Q := UF hm hok FY h
theorem dI {c : Code} {Q : Exit → Fr → AW → Prop} (I : Nat → Fr → AW → Prop) (step : ∀ m A σ, I m A σ → W P c A σ (Then (fun A1 σ1 => ∃ m', m' < m ∧ I m' A1 σ1) Q)) : ∀ {m : Nat} {A : Fr} {σ : AW}, I m A σ → WL P c A σ Q := by
 intro m
 induction m using Nat.strongRecOn with
 | _ m ih =>
  intro A σ h
  refine nY (W.mono (step m A σ h) fun e A1 σ1 hq => ?_)
  cases e with
  | normal => obtain ⟨m', hlt, hi⟩ := hq; exact ih m' hlt hi
  | _ => exact hq
def iy (l : Nat) (k : Fr → AW → Prop) (Q : Exit → Fr → AW → Prop) : Exit → Fr → AW → Prop := fun e A σ => match e with
 | .goto l' => l' = l ∧ k A σ
 | e => Q e A σ
theorem EG {l : Nat} {body : Code} {Q : Exit → Fr → AW → Prop} (I : Nat → Fr → AW → Prop) (step : ∀ m A σ, I m A σ → W P body A σ (iy l (fun A1 σ1 => ∃ m', m' < m ∧ I m' A1 σ1) Q)) {m : Nat} {A : Fr} {σ : AW} (h : I m A σ) : W P (.scope (.seq (.label l) body)) A σ Q := by
 have hl : findLabel (.seq (.label l) body) l = some (.seq .skip body) := by simp [findLabel]
 have key : ∀ (m : Nat) (A : Fr) (σ : AW), I m A σ → W P body A σ (Jump (.seq (.label l) body) (fun rest A1 σ1 => WS P (.seq (.label l) body) rest A1 σ1 Q) Q) := by
  intro m
  induction m using Nat.strongRecOn with
  | _ m ih =>
   intro A σ h
   refine W.mono (step m A σ h) fun e A1 σ1 hq => ?_
   cases e with
   | goto l' =>
    obtain ⟨rfl, m', hlt, hi⟩ := hq
    refine ⟨_, hl, PI (yD (Bj ?_))⟩
    exact ih m' hlt A1 σ1 hi
   | _ => exact hq
 exact Ya (PI (yD (X9 (key m A σ h))))
theorem zD {all : List Oper} {K : Fr → AW → Prop} (h : K A σ) : Ops P all [] A σ K := h
/-! ### Literals -/
theorem PN : ∀ (vs cs : List Value) (off : Nat), off + vs.length ≤ cs.length → yg cs off vs = cs.take off ++ vs ++ cs.drop (off + vs.length)
 | [], cs, off, _ => by simp [yg]
 | v :: l, cs, off, h => by
  simp only [List.length_cons] at h
  rw [yg, PN l (cs.set off v) (off + 1) (by rw [List.length_set]; omega)]
  rw [List.take_succ_eq_append_getElem (by rw [List.length_set]; omega), List.getElem_set_self, List.take_set_of_le (Nat.le_refl _), List.drop_set_of_lt (by omega)]
  simp [Nat.add_assoc, Nat.add_comm 1]
def EH : Nat → List Value → List (Nat × Value)
 | _, [] => []
 | i, v :: l => (i, v) :: EH (i + 1) l
theorem KC {n : Nat} : ∀ (vs pre suf : List Value) (i : Nat), (∀ v ∈ vs, (aF v).length = n) → pre.length = i * n → suf.length = vs.length * n → kE (fun i => some (i * n, n)) (pre ++ suf) (EH i vs) = some (pre ++ vs.flatMap aF)
 | [], pre, suf, i, _, _, hs => by
  have : suf = [] := List.eq_nil_of_length_eq_zero (by simpa using hs)
  subst this
  simp [kE, EH]
 | v :: vs, pre, suf, i, hv, hp, hs => by
  have h1 := hv v (List.mem_cons_self ..)
  have hs' : suf.length = vs.length * n + n := by rw [hs, List.length_cons, Nat.add_mul, Nat.one_mul]
  rw [EH, kE]
  simp only
  rw [if_neg (by rw [List.length_append]; omega), PN _ _ _ (by rw [List.length_append]; omega)]
  have hd : List.drop (i * n + (aF v).length) (pre ++ suf) = suf.drop n := by
   rw [List.drop_append, hp, h1, List.drop_of_length_le (by omega), List.nil_append]
   congr 1
   omega
  rw [List.take_left' hp, hd]
  rw [KC vs (pre ++ aF v) (suf.drop n) (i + 1) (fun u hu => hv u (List.mem_cons_of_mem _ hu)) (by rw [List.length_append, hp, h1, Nat.add_mul, Nat.one_mul]) (by rw [List.length_drop, hs']; omega)]
  simp
theorem QU {t e n : Nat} {z : Value} (hu : P.underlying t = some (.slice e)) (hn : iW P e = some n) (hz : zeroOf P e = some z) (hzl : (aF z).length = n) (h0 : n ≠ 0) {vs : List Value} (hl : vs.length * n ≤ 16777216) (hv : ∀ v ∈ vs, (aF v).length = n) :
  bf P σ t vs.length (EH 0 vs) = some (.slice (some ⟨σ.next, 0, none⟩) vs.length (2 * vs.length), σ.push ⟨1, e, 1, vs.flatMap aF⟩) := by
 have hf := KC vs [] (wG vs.length (aF z)) 0 hv (by simp) (by rw [wQ, hzl])
 simp only [List.nil_append] at hf
 simp only [bf, hu, hn, hz, show ¬ (vs.length * n > 16777216 ∨ n = 0) by omega, hzl, ne_eq, not_true_eq_false, if_false, hf]
theorem UW {t e n : Nat} {z : Value} (hu : P.underlying t = some (.slice e)) (hn : iW P e = some n) (hz : zeroOf P e = some z) (hzl : (aF z).length = n) (h0 : n ≠ 0) (hn1 : n ≤ 1000) (v : Value) (hv : (aF v).length = n) :
  bf P σ t 1 [(0, v)] = some (.slice (some ⟨σ.next, 0, none⟩) 1 2, σ.push ⟨1, e, 1, aF v⟩) := by
 have := QU (σ := σ) hu hn hz hzl h0 (vs := [v]) (by simp; omega) (by simpa using hv)
 simpa [EH] using this
theorem aaY {t e n : Nat} {z : Value} (hu : P.underlying t = some (.slice e)) (hn : iW P e = some n) (hz : zeroOf P e = some z) (hzl : (aF z).length = n) (h0 : n ≠ 0) (hn1 : n ≤ 1000) (v u : Value) (hv : (aF v).length = n) (hw : (aF u).length = n) :
  bf P σ t 2 [(0, v), (1, u)] = some (.slice (some ⟨σ.next, 0, none⟩) 2 4, σ.push ⟨1, e, 1, aF v ++ aF u⟩) := by
 have := QU (σ := σ) hu hn hz hzl h0 (vs := [v, u]) (by simp; omega) (by simp [hv, hw])
 simpa [EH] using this
theorem UY {t e n PO B c k el z M o : Nat} {zv : Value} (hu : P.underlying t = some (.slice e)) (AZ : (P.info? e).map (fun i => (i.zero, i.size, i.bytes)) = some (some zv, n, PO)) (hz : (aF zv).length = n) (hn : 0 < n) {cs l : List Value} {len : Nat}
  (hB : σ.get B = ⟨k, el, z, cs⟩) (hk : (k = 1 ∧ c = 2 * len) ∨ (k = 2 ∧ c = 1 ∧ el = e ∧ z = n)) (hcs : cs.length = len * n) (hM : σ.get M = ⟨1, e, o, l⟩) (hl : l.length = n) (ho : l.all gu = true) (hb : (2 * (len + 1) + 768) * PO ≤ 281474976710656) (hlen : len + 1 ≤ 1000000000) :
  ig P σ t t (.slice (some ⟨B, 0, none⟩) len c) (.slice (some ⟨M, 0, none⟩) 1 2) = some (.slice (some ⟨σ.next, 0, none⟩) (len + 1) 1, (if k = 1 then σ else σ.set B eu).push ⟨2, e, n, cs ++ l⟩) := by
 cases hi : P.info? e with
 | none => rw [hi] at AZ; cases AZ
 | some i =>
  rw [hi] at AZ
  simp only [Option.map_some, Option.some.injEq, Prod.mk.injEq] at AZ
  obtain ⟨h1, h2, h3⟩ := AZ
  have hsrc : yQ P σ i.size t (.slice (some ⟨M, 0, none⟩) 1 2) = some (1, l) := by
   have e2 : List.take n (List.drop 0 l) = l := by rw [List.drop_zero, List.take_of_length_le (by omega)]
   simp only [yQ, hu, rowOf, hM, h2, Nat.one_mul, e2, hl, ho, and_self, if_true]
  have hgr : ∀ τ : AW, sS τ e i (len + 1) (cs ++ l) = some (.slice (some ⟨τ.next, 0, none⟩) (len + 1) 1, τ.push ⟨2, e, n, cs ++ l⟩) := fun τ => by
   simp only [sS, h1, h2, h3, hz]
   rw [if_pos ⟨trivial, by omega, hb, hlen⟩]
  rw [h2] at hsrc
  rcases hk with ⟨rfl, rfl⟩ | ⟨rfl, rfl, rfl, e6⟩
  ·have e3 : ¬ (len + 1 ≤ 2 * len / 2) := by omega
   have e4 : 2 * len % 2 = 0 := by omega
   have e5 : List.take (len * n) (List.drop 0 cs) = cs := by rw [List.drop_zero, List.take_of_length_le (by omega)]
   simp only [ig, hu, hi, hsrc, rowOf, hB, e4, if_true, e3, if_false, h2, e5, hcs, hgr]
  ·rw [e6] at hB
   simp only [ig, hu, hi, hsrc, rowOf, hB, h2, hcs]
   simp only [show ¬ (1 % 2 = 0) by decide, if_false, show (1 = 1 ∧ 0 = 0 ∧ True ∧ 0 < n) by exact ⟨rfl, rfl, trivial, hn⟩, and_self, if_true, hgr, show ¬ (2 = 1) by decide]
   rfl
/-! ### af2 -/
theorem aA {b : fZ} : (σ.push b).get σ.next = b := by rw [AW.push, AW.get_up, AW.get_set, if_pos rfl]
theorem aC {b : fZ} {k : Nat} (h : k ≠ σ.next) : (σ.push b).get k = σ.get k := by rw [AW.push, AW.get_up, AW.get_set, if_neg h]
theorem ah {b : fZ} : (σ.push b).next = σ.next + 1 := rfl
theorem bF {b : fZ} {k : Nat} : (σ.set k b).get k = b := by rw [AW.get_set, if_pos rfl]
theorem bG {b : fZ} {k j : Nat} (h : j ≠ k) : (σ.set k b).get j = σ.get j := by rw [AW.get_set, if_neg h]
theorem au {b : fZ} {k : Nat} : (σ.set k b).next = σ.next := rfl
theorem G9 {b o e z : Nat} {cs : List Value} (h : σ.get b = ⟨1, e, z, cs⟩) : rowOf σ ⟨b, o, none⟩ = some cs := by simp only [rowOf, h]
theorem UZ {b o e z : Nat} {cs : List Value} (h : σ.get b = ⟨5, e, z, cs⟩) : rowOf σ ⟨b, o, none⟩ = some cs := by simp only [rowOf, h]
theorem KD {b o e z : Nat} {cs : List Value} (h : σ.get b = ⟨2, e, z, cs⟩) : rowOf σ ⟨b, o, none⟩ = some cs := by simp only [rowOf, h]
end
attribute [go_sem] Yf UJ Yg UK aaP aaQ Yc aaR Yd Ye acC QO NI Ku IZ put_eq UG rD UH Yr QS Yt UL aaU UM Gh Yu UN Kw aaV I4 UO I5 NK aaW Ky UQ UR UU aaX QT List.toList_toArray aaT Yh Yi Yj Yk Ym Yn Yo Yq same GV wS callArgs decide_true decide_false Bool.not_true Bool.not_false
attribute [go_sem] kE yg List.set_cons_zero List.set_cons_succ gt_iff_lt ne_eq not_true_eq_false not_false_eq_true false_or or_self or_false if_false
attribute [go_sem] Em Eo List.length_cons List.length_nil Nat.zero_add Nat.add_zero List.take_zero List.nil_append List.append_nil List.drop_succ_cons List.drop_zero List.drop_nil List.take_succ_cons List.take_nil List.cons_append List.all_cons List.all_nil gu Bool.and_self Bool.and_true Bool.true_and and_self if_true true_and and_true Nat.le_refl List.getElem?_cons_zero List.getElem?_cons_succ
attribute [go_sem] aA ah bF au aC bG aF rowOf je
end Go.Proofs.YthogkmcahnkkoaaGreatDoor
namespace Go.Proofs.YthogkmcahnkkoaaGreatDoor
set_option maxRecDepth 100000
@[go_sem] theorem ajk : dF Tryz.prog 3 = some false := by kernel_rfl
@[go_sem] theorem Yw : iW Tryz.prog 3 = some 1 := by kernel_rfl
@[go_sem] theorem aaZ : zeroOf Tryz.prog 3 = some (.int .i64 (0)) := by kernel_rfl
@[go_sem] theorem ajl : dF Tryz.prog 4 = some false := by kernel_rfl
@[go_sem] theorem ajm : iW Tryz.prog 4 = some 1 := by kernel_rfl
@[go_sem] theorem ajn (ps : List (Nat × Value)) : lW Tryz.prog 7 ps = (match kE (fun i => ([(0, 1), (1, 1), (2, 1), (3, 1)] : List (Nat × Nat))[i]?) [.int .i64 (0), .int .i64 (0), .bool false, .int .u8 (0)] ps with | none => none | some cs => some (.agg cs.toArray)) := by kernel_rfl
@[go_sem] theorem ajo : dF Tryz.prog 9 = some false := by kernel_rfl
@[go_sem] theorem Bq : iW Tryz.prog 9 = some 1 := by kernel_rfl
@[go_sem] theorem U0 : zeroOf Tryz.prog 9 = some (.string ⟨#[]⟩) := by kernel_rfl
@[go_sem] theorem ajp (σ : AW) (s : ByteArray) : fF Tryz.prog σ 9 (.string s) = some (.int .i64 s.size) := by kernel_rfl
@[go_sem] theorem ahi : dF Tryz.prog 22 = some false := by kernel_rfl
@[go_sem] theorem ahj (a : Addr) (l c : Nat) (kk : IntKind) (i : Int) : iJ Tryz.prog 22 (.slice (some a) l c) (.int kk i) = bU Tryz.prog 52 a l i := by kernel_rfl
@[go_sem] theorem Z7 (σ : AW) (a : Option Addr) (l c : Nat) : fF Tryz.prog σ 22 (.slice a l c) = some (.int .i64 l) := by kernel_rfl
@[go_sem] theorem ahk : dF Tryz.prog 23 = some false := by kernel_rfl
@[go_sem] theorem ahl (a : Addr) (l c : Nat) (kk : IntKind) (i : Int) : iJ Tryz.prog 23 (.slice (some a) l c) (.int kk i) = bU Tryz.prog 36 a l i := by kernel_rfl
@[go_sem] theorem Z8 (σ : AW) (a : Option Addr) (l c : Nat) : fF Tryz.prog σ 23 (.slice a l c) = some (.int .i64 l) := by kernel_rfl
@[go_sem] theorem ahm : dF Tryz.prog 24 = some false := by kernel_rfl
theorem KG : Tryz.prog.underlying 24 = some (.slice 54) := by kernel_rfl
@[go_sem] theorem ahn (a : Addr) (l c : Nat) (kk : IntKind) (i : Int) : iJ Tryz.prog 24 (.slice (some a) l c) (.int kk i) = bU Tryz.prog 54 a l i := by kernel_rfl
@[go_sem] theorem KH (σ : AW) (a : Option Addr) (l c : Nat) : fF Tryz.prog σ 24 (.slice a l c) = some (.int .i64 l) := by kernel_rfl
@[go_sem] theorem aho : dF Tryz.prog 26 = some true := by kernel_rfl
@[go_sem] theorem ahp : iW Tryz.prog 26 = some 3 := by kernel_rfl
@[go_sem] theorem ahq (ps : List (Nat × Value)) : lW Tryz.prog 26 ps = (match kE (fun i => ([(0, 1), (1, 1), (2, 1)] : List (Nat × Nat))[i]?) [.slice none 0 0, .slice none 0 0, .slice none 0 0] ps with | none => none | some cs => some (.agg cs.toArray)) := by kernel_rfl
@[go_sem] theorem aeC (a : Addr) : aJ Tryz.prog 26 (.pointer (some a)) 0 = some (.pointer (some (a.add 0))) := by kernel_rfl
@[go_sem] theorem aeD (a : Addr) : aJ Tryz.prog 26 (.pointer (some a)) 1 = some (.pointer (some (a.add 1))) := by kernel_rfl
@[go_sem] theorem aeE (a : Addr) : aJ Tryz.prog 26 (.pointer (some a)) 2 = some (.pointer (some (a.add 2))) := by kernel_rfl
@[go_sem] theorem ahr : dF Tryz.prog 29 = some false := by kernel_rfl
@[go_sem] theorem ahs : iW Tryz.prog 29 = some 1 := by kernel_rfl
@[go_sem] theorem aht : dF Tryz.prog 36 = some true := by kernel_rfl
@[go_sem] theorem Z9 : iW Tryz.prog 36 = some 4 := by kernel_rfl
@[go_sem] theorem ahu : zeroOf Tryz.prog 36 = some (.agg ⟨[.string ⟨#[]⟩, .slice none 0 0, .slice none 0 0, .slice none 0 0]⟩) := by kernel_rfl
@[go_sem] theorem aeF (a : Addr) : aJ Tryz.prog 36 (.pointer (some a)) 0 = some (.pointer (some (a.add 0))) := by kernel_rfl
@[go_sem] theorem aeG (a : Addr) : aJ Tryz.prog 36 (.pointer (some a)) 1 = some (.pointer (some (a.add 1))) := by kernel_rfl
@[go_sem] theorem aeH (a : Addr) : aJ Tryz.prog 36 (.pointer (some a)) 2 = some (.pointer (some (a.add 2))) := by kernel_rfl
@[go_sem] theorem aeI (a : Addr) : aJ Tryz.prog 36 (.pointer (some a)) 3 = some (.pointer (some (a.add 3))) := by kernel_rfl
@[go_sem] theorem ahv : dF Tryz.prog 38 = some false := by kernel_rfl
theorem KJ : Tryz.prog.underlying 38 = some (.slice 9) := by kernel_rfl
@[go_sem] theorem ahw (a : Addr) (l c : Nat) (kk : IntKind) (i : Int) : iJ Tryz.prog 38 (.slice (some a) l c) (.int kk i) = bU Tryz.prog 9 a l i := by kernel_rfl
@[go_sem] theorem KL (σ : AW) (a : Option Addr) (l c : Nat) : fF Tryz.prog σ 38 (.slice a l c) = some (.int .i64 l) := by kernel_rfl
@[go_sem] theorem ahx : dF Tryz.prog 39 = some false := by kernel_rfl
@[go_sem] theorem PS : iW Tryz.prog 39 = some 1 := by kernel_rfl
@[go_sem] theorem aac : zeroOf Tryz.prog 39 = some (.slice none 0 0) := by kernel_rfl
theorem PU : Tryz.prog.underlying 39 = some (.slice 42) := by kernel_rfl
@[go_sem] theorem ahy (a : Addr) (l c : Nat) (kk : IntKind) (i : Int) : iJ Tryz.prog 39 (.slice (some a) l c) (.int kk i) = bU Tryz.prog 42 a l i := by kernel_rfl
@[go_sem] theorem Df (σ : AW) (a : Option Addr) (l c : Nat) : fF Tryz.prog σ 39 (.slice a l c) = some (.int .i64 l) := by kernel_rfl
@[go_sem] theorem ahz : dF Tryz.prog 40 = some false := by kernel_rfl
theorem aad : Tryz.prog.underlying 40 = some (.slice 61) := by kernel_rfl
@[go_sem] theorem ahA (a : Addr) (l c : Nat) (kk : IntKind) (i : Int) : iJ Tryz.prog 40 (.slice (some a) l c) (.int kk i) = bU Tryz.prog 61 a l i := by kernel_rfl
@[go_sem] theorem He (σ : AW) (a : Option Addr) (l c : Nat) : fF Tryz.prog σ 40 (.slice a l c) = some (.int .i64 l) := by kernel_rfl
@[go_sem] theorem ahB : dF Tryz.prog 42 = some true := by kernel_rfl
@[go_sem] theorem oM : iW Tryz.prog 42 = some 6 := by kernel_rfl
@[go_sem] theorem aae : zeroOf Tryz.prog 42 = some (.agg ⟨[.int .i64 (0), .int .i64 (0), .string ⟨#[]⟩, .string ⟨#[]⟩, .slice none 0 0, .slice none 0 0]⟩) := by kernel_rfl
theorem aaf : (Tryz.prog.info? 42).map (fun i => (i.zero, i.size, i.bytes)) = some (some (.agg ⟨[.int .i64 (0), .int .i64 (0), .string ⟨#[]⟩, .string ⟨#[]⟩, .slice none 0 0, .slice none 0 0]⟩), 6, 96) := by kernel_rfl
@[go_sem] theorem ahC (ps : List (Nat × Value)) : lW Tryz.prog 42 ps = (match kE (fun i => ([(0, 1), (1, 1), (2, 1), (3, 1), (4, 1), (5, 1)] : List (Nat × Nat))[i]?) [.int .i64 (0), .int .i64 (0), .string ⟨#[]⟩, .string ⟨#[]⟩, .slice none 0 0, .slice none 0 0] ps with | none => none | some cs => some (.agg cs.toArray)) := by kernel_rfl
@[go_sem] theorem aeJ (a : Addr) : aJ Tryz.prog 42 (.pointer (some a)) 0 = some (.pointer (some (a.add 0))) := by kernel_rfl
@[go_sem] theorem aeK (a : Addr) : aJ Tryz.prog 42 (.pointer (some a)) 1 = some (.pointer (some (a.add 1))) := by kernel_rfl
@[go_sem] theorem aeL (a : Addr) : aJ Tryz.prog 42 (.pointer (some a)) 2 = some (.pointer (some (a.add 2))) := by kernel_rfl
@[go_sem] theorem aeM (a : Addr) : aJ Tryz.prog 42 (.pointer (some a)) 3 = some (.pointer (some (a.add 3))) := by kernel_rfl
@[go_sem] theorem aeN (a : Addr) : aJ Tryz.prog 42 (.pointer (some a)) 4 = some (.pointer (some (a.add 4))) := by kernel_rfl
@[go_sem] theorem aeO (a : Addr) : aJ Tryz.prog 42 (.pointer (some a)) 5 = some (.pointer (some (a.add 5))) := by kernel_rfl
@[go_sem] theorem ahD : dF Tryz.prog 48 = some false := by kernel_rfl
@[go_sem] theorem ahE : iW Tryz.prog 48 = some 1 := by kernel_rfl
@[go_sem] theorem ahF : zeroOf Tryz.prog 48 = some (.pointer none) := by kernel_rfl
@[go_sem] theorem ahG : dF Tryz.prog 50 = some false := by kernel_rfl
@[go_sem] theorem ahH : dF Tryz.prog 52 = some true := by kernel_rfl
@[go_sem] theorem aag : iW Tryz.prog 52 = some 2 := by kernel_rfl
@[go_sem] theorem ahI : zeroOf Tryz.prog 52 = some (.agg ⟨[.string ⟨#[]⟩, .int .i64 (0)]⟩) := by kernel_rfl
@[go_sem] theorem aeP (a : Addr) : aJ Tryz.prog 52 (.pointer (some a)) 0 = some (.pointer (some (a.add 0))) := by kernel_rfl
@[go_sem] theorem ahJ : dF Tryz.prog 54 = some true := by kernel_rfl
@[go_sem] theorem PV : iW Tryz.prog 54 = some 9 := by kernel_rfl
@[go_sem] theorem acE : zeroOf Tryz.prog 54 = some (.agg ⟨[.int .i64 (0), .int .i64 (0), .string ⟨#[]⟩, .slice none 0 0, .slice none 0 0, .slice none 0 0, .slice none 0 0, .slice none 0 0, .slice none 0 0]⟩) := by kernel_rfl
theorem aah : (Tryz.prog.info? 54).map (fun i => (i.zero, i.size, i.bytes)) = some (some (.agg ⟨[.int .i64 (0), .int .i64 (0), .string ⟨#[]⟩, .slice none 0 0, .slice none 0 0, .slice none 0 0, .slice none 0 0, .slice none 0 0, .slice none 0 0]⟩), 9, 176) := by kernel_rfl
@[go_sem] theorem aeQ (a : Addr) : aJ Tryz.prog 54 (.pointer (some a)) 0 = some (.pointer (some (a.add 0))) := by kernel_rfl
@[go_sem] theorem aeR (a : Addr) : aJ Tryz.prog 54 (.pointer (some a)) 2 = some (.pointer (some (a.add 2))) := by kernel_rfl
@[go_sem] theorem aeS (a : Addr) : aJ Tryz.prog 54 (.pointer (some a)) 3 = some (.pointer (some (a.add 3))) := by kernel_rfl
@[go_sem] theorem aeT (a : Addr) : aJ Tryz.prog 54 (.pointer (some a)) 4 = some (.pointer (some (a.add 4))) := by kernel_rfl
@[go_sem] theorem aeU (a : Addr) : aJ Tryz.prog 54 (.pointer (some a)) 5 = some (.pointer (some (a.add 5))) := by kernel_rfl
@[go_sem] theorem aeV (a : Addr) : aJ Tryz.prog 54 (.pointer (some a)) 6 = some (.pointer (some (a.add 6))) := by kernel_rfl
@[go_sem] theorem aeW (a : Addr) : aJ Tryz.prog 54 (.pointer (some a)) 7 = some (.pointer (some (a.add 7))) := by kernel_rfl
@[go_sem] theorem aeX (a : Addr) : aJ Tryz.prog 54 (.pointer (some a)) 8 = some (.pointer (some (a.add 8))) := by kernel_rfl
@[go_sem] theorem ahK : dF Tryz.prog 57 = some false := by kernel_rfl
@[go_sem] theorem ahL : iW Tryz.prog 57 = some 1 := by kernel_rfl
theorem aai : Tryz.prog.underlying 57 = some (.slice 87) := by kernel_rfl
@[go_sem] theorem ahM (a : Addr) (l c : Nat) (kk : IntKind) (i : Int) : iJ Tryz.prog 57 (.slice (some a) l c) (.int kk i) = bU Tryz.prog 87 a l i := by kernel_rfl
@[go_sem] theorem U2 (σ : AW) (a : Option Addr) (l c : Nat) : fF Tryz.prog σ 57 (.slice a l c) = some (.int .i64 l) := by kernel_rfl
@[go_sem] theorem ahN : dF Tryz.prog 58 = some false := by kernel_rfl
@[go_sem] theorem ahO : iW Tryz.prog 58 = some 1 := by kernel_rfl
theorem aaj : Tryz.prog.underlying 58 = some (.slice 92) := by kernel_rfl
@[go_sem] theorem ahP (a : Addr) (l c : Nat) (kk : IntKind) (i : Int) : iJ Tryz.prog 58 (.slice (some a) l c) (.int kk i) = bU Tryz.prog 92 a l i := by kernel_rfl
@[go_sem] theorem PW (σ : AW) (a : Option Addr) (l c : Nat) : fF Tryz.prog σ 58 (.slice a l c) = some (.int .i64 l) := by kernel_rfl
@[go_sem] theorem ahQ : dF Tryz.prog 59 = some false := by kernel_rfl
@[go_sem] theorem ahR : iW Tryz.prog 59 = some 1 := by kernel_rfl
theorem aak : Tryz.prog.underlying 59 = some (.slice 89) := by kernel_rfl
@[go_sem] theorem ahS (a : Addr) (l c : Nat) (kk : IntKind) (i : Int) : iJ Tryz.prog 59 (.slice (some a) l c) (.int kk i) = bU Tryz.prog 89 a l i := by kernel_rfl
@[go_sem] theorem PX (σ : AW) (a : Option Addr) (l c : Nat) : fF Tryz.prog σ 59 (.slice a l c) = some (.int .i64 l) := by kernel_rfl
@[go_sem] theorem ahT : dF Tryz.prog 61 = some true := by kernel_rfl
@[go_sem] theorem rE : iW Tryz.prog 61 = some 10 := by kernel_rfl
@[go_sem] theorem aal : zeroOf Tryz.prog 61 = some (.agg ⟨[.int .i64 (0), .bool false, .slice none 0 0, .slice none 0 0, .slice none 0 0, .slice none 0 0, .slice none 0 0, .slice none 0 0, .int .i64 (0), .slice none 0 0]⟩) := by kernel_rfl
@[go_sem] theorem ahU (ps : List (Nat × Value)) : lW Tryz.prog 61 ps = (match kE (fun i => ([(0, 1), (1, 1), (2, 1), (3, 1), (4, 1), (5, 1), (6, 1), (7, 1), (8, 1), (9, 1)] : List (Nat × Nat))[i]?) [.int .i64 (0), .bool false, .slice none 0 0, .slice none 0 0, .slice none 0 0, .slice none 0 0, .slice none 0 0, .slice none 0 0, .int .i64 (0), .slice none 0 0] ps with | none => none | some cs => some (.agg cs.toArray)) := by kernel_rfl
@[go_sem] theorem aeY (a : Addr) : aJ Tryz.prog 61 (.pointer (some a)) 0 = some (.pointer (some (a.add 0))) := by kernel_rfl
@[go_sem] theorem aeZ (a : Addr) : aJ Tryz.prog 61 (.pointer (some a)) 1 = some (.pointer (some (a.add 1))) := by kernel_rfl
@[go_sem] theorem ae0 (a : Addr) : aJ Tryz.prog 61 (.pointer (some a)) 2 = some (.pointer (some (a.add 2))) := by kernel_rfl
@[go_sem] theorem ae1 (a : Addr) : aJ Tryz.prog 61 (.pointer (some a)) 3 = some (.pointer (some (a.add 3))) := by kernel_rfl
@[go_sem] theorem ae2 (a : Addr) : aJ Tryz.prog 61 (.pointer (some a)) 4 = some (.pointer (some (a.add 4))) := by kernel_rfl
@[go_sem] theorem ae3 (a : Addr) : aJ Tryz.prog 61 (.pointer (some a)) 5 = some (.pointer (some (a.add 5))) := by kernel_rfl
@[go_sem] theorem ae4 (a : Addr) : aJ Tryz.prog 61 (.pointer (some a)) 6 = some (.pointer (some (a.add 6))) := by kernel_rfl
@[go_sem] theorem ae5 (a : Addr) : aJ Tryz.prog 61 (.pointer (some a)) 7 = some (.pointer (some (a.add 7))) := by kernel_rfl
@[go_sem] theorem ae6 (a : Addr) : aJ Tryz.prog 61 (.pointer (some a)) 8 = some (.pointer (some (a.add 8))) := by kernel_rfl
@[go_sem] theorem ae7 (a : Addr) : aJ Tryz.prog 61 (.pointer (some a)) 9 = some (.pointer (some (a.add 9))) := by kernel_rfl
@[go_sem] theorem ahV : dF Tryz.prog 63 = some false := by kernel_rfl
@[go_sem] theorem ahW : iW Tryz.prog 63 = some 1 := by kernel_rfl
@[go_sem] theorem ahX : zeroOf Tryz.prog 63 = some (.pointer none) := by kernel_rfl
@[go_sem] theorem ahY : dF Tryz.prog 64 = some false := by kernel_rfl
@[go_sem] theorem ahZ : dF Tryz.prog 65 = some false := by kernel_rfl
@[go_sem] theorem ah0 : dF Tryz.prog 69 = some false := by kernel_rfl
@[go_sem] theorem ah1 : iW Tryz.prog 69 = some 1 := by kernel_rfl
@[go_sem] theorem ah2 (σ : AW) (a : Option Addr) (l c : Nat) : fF Tryz.prog σ 69 (.slice a l c) = some (.int .i64 l) := by kernel_rfl
@[go_sem] theorem ae8 (a : Addr) : aJ Tryz.prog 71 (.pointer (some a)) 1 = some (.pointer (some (a.add 1))) := by kernel_rfl
@[go_sem] theorem ah3 (ps : List (Nat × Value)) : lW Tryz.prog 73 ps = (match kE (fun i => ([(0, 2), (2, 1), (3, 1), (4, 1), (5, 1), (6, 1)] : List (Nat × Nat))[i]?) [.pointer none, .slice none 0 0, .int .i64 (0), .int .i64 (0), .bool false, .bool false, .bool false] ps with | none => none | some cs => some (.agg cs.toArray)) := by kernel_rfl
@[go_sem] theorem ae9 (a : Addr) : aJ Tryz.prog 73 (.pointer (some a)) 0 = some (.pointer (some (a.add 0))) := by kernel_rfl
@[go_sem] theorem afa (a : Addr) : aJ Tryz.prog 73 (.pointer (some a)) 1 = some (.pointer (some (a.add 2))) := by kernel_rfl
@[go_sem] theorem afb (a : Addr) : aJ Tryz.prog 73 (.pointer (some a)) 2 = some (.pointer (some (a.add 3))) := by kernel_rfl
@[go_sem] theorem afc (a : Addr) : aJ Tryz.prog 73 (.pointer (some a)) 3 = some (.pointer (some (a.add 4))) := by kernel_rfl
@[go_sem] theorem afd (a : Addr) : aJ Tryz.prog 73 (.pointer (some a)) 4 = some (.pointer (some (a.add 5))) := by kernel_rfl
@[go_sem] theorem afe (a : Addr) : aJ Tryz.prog 73 (.pointer (some a)) 5 = some (.pointer (some (a.add 6))) := by kernel_rfl
@[go_sem] theorem ah4 : dF Tryz.prog 87 = some true := by kernel_rfl
@[go_sem] theorem PY : iW Tryz.prog 87 = some 7 := by kernel_rfl
@[go_sem] theorem acF : zeroOf Tryz.prog 87 = some (.agg ⟨[.int .i64 (0), .int .i64 (0), .string ⟨#[]⟩, .string ⟨#[]⟩, .slice none 0 0, .slice none 0 0, .string ⟨#[]⟩]⟩) := by kernel_rfl
theorem acG : (Tryz.prog.info? 87).map (fun i => (i.zero, i.size, i.bytes)) = some (some (.agg ⟨[.int .i64 (0), .int .i64 (0), .string ⟨#[]⟩, .string ⟨#[]⟩, .slice none 0 0, .slice none 0 0, .string ⟨#[]⟩]⟩), 7, 112) := by kernel_rfl
@[go_sem] theorem acH (ps : List (Nat × Value)) : lW Tryz.prog 87 ps = (match kE (fun i => ([(0, 6), (6, 1)] : List (Nat × Nat))[i]?) [.int .i64 (0), .int .i64 (0), .string ⟨#[]⟩, .string ⟨#[]⟩, .slice none 0 0, .slice none 0 0, .string ⟨#[]⟩] ps with | none => none | some cs => some (.agg cs.toArray)) := by kernel_rfl
@[go_sem] theorem aff (a : Addr) : aJ Tryz.prog 87 (.pointer (some a)) 0 = some (.pointer (some (a.add 0))) := by kernel_rfl
@[go_sem] theorem afg (a : Addr) : aJ Tryz.prog 87 (.pointer (some a)) 1 = some (.pointer (some (a.add 6))) := by kernel_rfl
@[go_sem] theorem ah5 : dF Tryz.prog 89 = some true := by kernel_rfl
@[go_sem] theorem PZ : iW Tryz.prog 89 = some 7 := by kernel_rfl
@[go_sem] theorem acI : zeroOf Tryz.prog 89 = some (.agg ⟨[.int .i64 (0), .int .i64 (0), .string ⟨#[]⟩, .string ⟨#[]⟩, .slice none 0 0, .slice none 0 0, .bool false]⟩) := by kernel_rfl
theorem acJ : (Tryz.prog.info? 89).map (fun i => (i.zero, i.size, i.bytes)) = some (some (.agg ⟨[.int .i64 (0), .int .i64 (0), .string ⟨#[]⟩, .string ⟨#[]⟩, .slice none 0 0, .slice none 0 0, .bool false]⟩), 7, 104) := by kernel_rfl
@[go_sem] theorem acK (ps : List (Nat × Value)) : lW Tryz.prog 89 ps = (match kE (fun i => ([(0, 6), (6, 1)] : List (Nat × Nat))[i]?) [.int .i64 (0), .int .i64 (0), .string ⟨#[]⟩, .string ⟨#[]⟩, .slice none 0 0, .slice none 0 0, .bool false] ps with | none => none | some cs => some (.agg cs.toArray)) := by kernel_rfl
@[go_sem] theorem afh (a : Addr) : aJ Tryz.prog 89 (.pointer (some a)) 0 = some (.pointer (some (a.add 0))) := by kernel_rfl
@[go_sem] theorem afi (a : Addr) : aJ Tryz.prog 89 (.pointer (some a)) 1 = some (.pointer (some (a.add 6))) := by kernel_rfl
@[go_sem] theorem ah6 : dF Tryz.prog 92 = some true := by kernel_rfl
@[go_sem] theorem yE : iW Tryz.prog 92 = some 7 := by kernel_rfl
@[go_sem] theorem aam : zeroOf Tryz.prog 92 = some (.agg ⟨[.int .i64 (0), .string ⟨#[]⟩, .bool false, .string ⟨#[]⟩, .slice none 0 0, .slice none 0 0, .slice none 0 0]⟩) := by kernel_rfl
@[go_sem] theorem ah7 (ps : List (Nat × Value)) : lW Tryz.prog 92 ps = (match kE (fun i => ([(0, 1), (1, 1), (2, 1), (3, 1), (4, 1), (5, 1), (6, 1)] : List (Nat × Nat))[i]?) [.int .i64 (0), .string ⟨#[]⟩, .bool false, .string ⟨#[]⟩, .slice none 0 0, .slice none 0 0, .slice none 0 0] ps with | none => none | some cs => some (.agg cs.toArray)) := by kernel_rfl
@[go_sem] theorem afj (a : Addr) : aJ Tryz.prog 92 (.pointer (some a)) 0 = some (.pointer (some (a.add 0))) := by kernel_rfl
@[go_sem] theorem afk (a : Addr) : aJ Tryz.prog 92 (.pointer (some a)) 1 = some (.pointer (some (a.add 1))) := by kernel_rfl
@[go_sem] theorem afl (a : Addr) : aJ Tryz.prog 92 (.pointer (some a)) 2 = some (.pointer (some (a.add 2))) := by kernel_rfl
@[go_sem] theorem afm (a : Addr) : aJ Tryz.prog 92 (.pointer (some a)) 3 = some (.pointer (some (a.add 3))) := by kernel_rfl
@[go_sem] theorem afn (a : Addr) : aJ Tryz.prog 92 (.pointer (some a)) 4 = some (.pointer (some (a.add 4))) := by kernel_rfl
@[go_sem] theorem afo (a : Addr) : aJ Tryz.prog 92 (.pointer (some a)) 5 = some (.pointer (some (a.add 5))) := by kernel_rfl
@[go_sem] theorem afp (a : Addr) : aJ Tryz.prog 92 (.pointer (some a)) 6 = some (.pointer (some (a.add 6))) := by kernel_rfl
@[go_sem] theorem ah8 : dF Tryz.prog 93 = some false := by kernel_rfl
@[go_sem] theorem ah9 : iW Tryz.prog 93 = some 1 := by kernel_rfl
theorem acL : Tryz.prog.underlying 93 = some (.slice 100) := by kernel_rfl
@[go_sem] theorem aia (a : Addr) (l c : Nat) (kk : IntKind) (i : Int) : iJ Tryz.prog 93 (.slice (some a) l c) (.int kk i) = bU Tryz.prog 100 a l i := by kernel_rfl
@[go_sem] theorem aib (σ : AW) (a : Option Addr) (l c : Nat) : fF Tryz.prog σ 93 (.slice a l c) = some (.int .i64 l) := by kernel_rfl
@[go_sem] theorem aic (ps : List (Nat × Value)) : lW Tryz.prog 97 ps = (match kE (fun i => ([(0, 1), (1, 1), (2, 1), (3, 1)] : List (Nat × Nat))[i]?) [.slice none 0 0, .int .i64 (0), .int .i64 (0), .int .i64 (0)] ps with | none => none | some cs => some (.agg cs.toArray)) := by kernel_rfl
@[go_sem] theorem afq (a : Addr) : aJ Tryz.prog 97 (.pointer (some a)) 0 = some (.pointer (some (a.add 0))) := by kernel_rfl
@[go_sem] theorem afr (a : Addr) : aJ Tryz.prog 97 (.pointer (some a)) 1 = some (.pointer (some (a.add 1))) := by kernel_rfl
@[go_sem] theorem afs (a : Addr) : aJ Tryz.prog 97 (.pointer (some a)) 2 = some (.pointer (some (a.add 2))) := by kernel_rfl
@[go_sem] theorem aft (a : Addr) : aJ Tryz.prog 97 (.pointer (some a)) 3 = some (.pointer (some (a.add 3))) := by kernel_rfl
@[go_sem] theorem af4 : dF Tryz.prog 100 = some true := by kernel_rfl
@[go_sem] theorem ug : iW Tryz.prog 100 = some 4 := by kernel_rfl
@[go_sem] theorem af5 : zeroOf Tryz.prog 100 = some (.agg ⟨[.int .i64 (0), .string ⟨#[]⟩, .int .i64 (0), .int .i64 (0)]⟩) := by kernel_rfl
@[go_sem] theorem acM (a : Addr) : aJ Tryz.prog 100 (.pointer (some a)) 0 = some (.pointer (some (a.add 0))) := by kernel_rfl
@[go_sem] theorem acN (a : Addr) : aJ Tryz.prog 100 (.pointer (some a)) 1 = some (.pointer (some (a.add 1))) := by kernel_rfl
@[go_sem] theorem acO (a : Addr) : aJ Tryz.prog 100 (.pointer (some a)) 2 = some (.pointer (some (a.add 2))) := by kernel_rfl
@[go_sem] theorem acP (a : Addr) : aJ Tryz.prog 100 (.pointer (some a)) 3 = some (.pointer (some (a.add 3))) := by kernel_rfl
@[go_sem] theorem af6 : dF Tryz.prog 118 = some true := by kernel_rfl
@[go_sem] theorem af7 : iW Tryz.prog 118 = some 7 := by kernel_rfl
@[go_sem] theorem af8 : zeroOf Tryz.prog 118 = some (.agg ⟨[.int .i64 (0), .int .i64 (0), .int .i64 (0), .int .i64 (0), .int .i64 (0), .int .i64 (0), .int .i64 (0)]⟩) := by kernel_rfl
@[go_sem] theorem af9 (ps : List (Nat × Value)) : lW Tryz.prog 118 ps = (match kE (fun i => ([(0, 1), (1, 1), (2, 1), (3, 1), (4, 1), (5, 1), (6, 1)] : List (Nat × Nat))[i]?) [.int .i64 (0), .int .i64 (0), .int .i64 (0), .int .i64 (0), .int .i64 (0), .int .i64 (0), .int .i64 (0)] ps with | none => none | some cs => some (.agg cs.toArray)) := by kernel_rfl
@[go_sem] theorem acQ (a : Addr) : aJ Tryz.prog 118 (.pointer (some a)) 0 = some (.pointer (some (a.add 0))) := by kernel_rfl
@[go_sem] theorem acR (a : Addr) : aJ Tryz.prog 118 (.pointer (some a)) 1 = some (.pointer (some (a.add 1))) := by kernel_rfl
@[go_sem] theorem acS (a : Addr) : aJ Tryz.prog 118 (.pointer (some a)) 2 = some (.pointer (some (a.add 2))) := by kernel_rfl
@[go_sem] theorem acT (a : Addr) : aJ Tryz.prog 118 (.pointer (some a)) 4 = some (.pointer (some (a.add 4))) := by kernel_rfl
@[go_sem] theorem acU (a : Addr) : aJ Tryz.prog 118 (.pointer (some a)) 5 = some (.pointer (some (a.add 5))) := by kernel_rfl
@[go_sem] theorem acV (a : Addr) : aJ Tryz.prog 118 (.pointer (some a)) 6 = some (.pointer (some (a.add 6))) := by kernel_rfl
theorem U3 : Tryz.prog.underlying 135 = some (.slice 39) := by kernel_rfl
@[go_sem] theorem aga (a : Addr) (l c : Nat) (kk : IntKind) (i : Int) : iJ Tryz.prog 135 (.slice (some a) l c) (.int kk i) = bU Tryz.prog 39 a l i := by kernel_rfl
@[go_sem] theorem U4 (σ : AW) (a : Option Addr) (l c : Nat) : fF Tryz.prog σ 135 (.slice a l c) = some (.int .i64 l) := by kernel_rfl
theorem NM : Tryz.prog.underlying 152 = some (.slice 3) := by kernel_rfl
@[go_sem] theorem agb (a : Addr) (l c : Nat) (kk : IntKind) (i : Int) : iJ Tryz.prog 152 (.slice (some a) l c) (.int kk i) = bU Tryz.prog 3 a l i := by kernel_rfl
@[go_sem] theorem aa0 (σ : AW) (a : Option Addr) (l c : Nat) : fF Tryz.prog σ 152 (.slice a l c) = some (.int .i64 l) := by kernel_rfl
@[go_sem] theorem aie (σ : AW) (x0 : ByteArray) : bf Tryz.prog σ 38 1 [(0, .string x0)] = some (.slice (some ⟨σ.next, 0, none⟩) 1 2, σ.push ⟨1, 9, 1, ([x0] : List ByteArray).map Value.string⟩) := QU (σ := σ) (vs := [.string x0]) KJ Bq U0 rfl (by decide) (Nat.le_of_ble_eq_true rfl) (by simp [aF])
@[go_sem] theorem aif (σ : AW) (x0 x1 : ByteArray) : bf Tryz.prog σ 38 2 [(0, .string x0), (1, .string x1)] = some (.slice (some ⟨σ.next, 0, none⟩) 2 4, σ.push ⟨1, 9, 1, ([x0, x1] : List ByteArray).map Value.string⟩) := QU (σ := σ) (vs := [.string x0, .string x1]) KJ Bq U0 rfl (by decide) (Nat.le_of_ble_eq_true rfl) (by simp [aF])
@[go_sem] theorem aii (σ : AW) (x0 x1 x2 : ByteArray) : bf Tryz.prog σ 38 3 [(0, .string x0), (1, .string x1), (2, .string x2)] = some (.slice (some ⟨σ.next, 0, none⟩) 3 6, σ.push ⟨1, 9, 1, ([x0, x1, x2] : List ByteArray).map Value.string⟩) := QU (σ := σ) (vs := [.string x0, .string x1, .string x2]) KJ Bq U0 rfl (by decide) (Nat.le_of_ble_eq_true rfl) (by simp [aF])
@[go_sem] theorem aij (σ : AW) (x0 x1 x2 x3 : ByteArray) : bf Tryz.prog σ 38 4 [(0, .string x0), (1, .string x1), (2, .string x2), (3, .string x3)] = some (.slice (some ⟨σ.next, 0, none⟩) 4 8, σ.push ⟨1, 9, 1, ([x0, x1, x2, x3] : List ByteArray).map Value.string⟩) := QU (σ := σ) (vs := [.string x0, .string x1, .string x2, .string x3]) KJ Bq U0 rfl (by decide) (Nat.le_of_ble_eq_true rfl) (by simp [aF])
@[go_sem] theorem aik (σ : AW) (x0 x1 x2 x3 x4 x5 : ByteArray) : bf Tryz.prog σ 38 6 [(0, .string x0), (1, .string x1), (2, .string x2), (3, .string x3), (4, .string x4), (5, .string x5)] = some (.slice (some ⟨σ.next, 0, none⟩) 6 12, σ.push ⟨1, 9, 1, ([x0, x1, x2, x3, x4, x5] : List ByteArray).map Value.string⟩) := QU (σ := σ) (vs := [.string x0, .string x1, .string x2, .string x3, .string x4, .string x5]) KJ Bq U0 rfl (by decide) (Nat.le_of_ble_eq_true rfl) (by simp [aF])
@[go_sem] theorem ail (σ : AW) (l : List Value) (h : l.length = 6) : bf Tryz.prog σ 39 1 [(0, .agg ⟨l⟩)] = some (.slice (some ⟨σ.next, 0, none⟩) 1 2, σ.push ⟨1, 42, 1, l⟩) := UW PU oM aae rfl (by decide) (by decide) _ h
@[go_sem] theorem ain (σ : AW) (l m : List Value) (h : l.length = 6) (h' : m.length = 6) : bf Tryz.prog σ 39 2 [(0, .agg ⟨l⟩), (1, .agg ⟨m⟩)] = some (.slice (some ⟨σ.next, 0, none⟩) 2 4, σ.push ⟨1, 42, 1, l ++ m⟩) := aaY PU oM aae rfl (by decide) (by decide) _ _ h h'
@[go_sem] theorem aio (σ : AW) (l : List Value) (h : l.length = 10) : bf Tryz.prog σ 40 1 [(0, .agg ⟨l⟩)] = some (.slice (some ⟨σ.next, 0, none⟩) 1 2, σ.push ⟨1, 61, 1, l⟩) := UW aad rE aal rfl (by decide) (by decide) _ h
@[go_sem] theorem aip (σ : AW) (l m : List Value) (h : l.length = 10) (h' : m.length = 10) : bf Tryz.prog σ 40 2 [(0, .agg ⟨l⟩), (1, .agg ⟨m⟩)] = some (.slice (some ⟨σ.next, 0, none⟩) 2 4, σ.push ⟨1, 61, 1, l ++ m⟩) := aaY aad rE aal rfl (by decide) (by decide) _ _ h h'
@[go_sem] theorem aiq (σ : AW) (l : List Value) (h : l.length = 7) : bf Tryz.prog σ 57 1 [(0, .agg ⟨l⟩)] = some (.slice (some ⟨σ.next, 0, none⟩) 1 2, σ.push ⟨1, 87, 1, l⟩) := UW aai PY acF rfl (by decide) (by decide) _ h
@[go_sem] theorem air (σ : AW) (l : List Value) (h : l.length = 7) : bf Tryz.prog σ 58 1 [(0, .agg ⟨l⟩)] = some (.slice (some ⟨σ.next, 0, none⟩) 1 2, σ.push ⟨1, 92, 1, l⟩) := UW aaj yE aam rfl (by decide) (by decide) _ h
@[go_sem] theorem ais (σ : AW) (l m : List Value) (h : l.length = 7) (h' : m.length = 7) : bf Tryz.prog σ 58 2 [(0, .agg ⟨l⟩), (1, .agg ⟨m⟩)] = some (.slice (some ⟨σ.next, 0, none⟩) 2 4, σ.push ⟨1, 92, 1, l ++ m⟩) := aaY aaj yE aam rfl (by decide) (by decide) _ _ h h'
@[go_sem] theorem ait (σ : AW) (l : List Value) (h : l.length = 7) : bf Tryz.prog σ 59 1 [(0, .agg ⟨l⟩)] = some (.slice (some ⟨σ.next, 0, none⟩) 1 2, σ.push ⟨1, 89, 1, l⟩) := UW aak PZ acI rfl (by decide) (by decide) _ h
end Go.Proofs.YthogkmcahnkkoaaGreatDoor
namespace Go.Proofs.YthogkmcahnkkoaaGreatDoor
open Go.RowKit
section
variable {P : Program} {A : Fr} {σ : AW}
def Yx (P : Program) (A : Fr) (σ : AW) (o : Oper) : Option (Value × AW) := zU P A σ o
def aa1 (x y : Option Value) (σ : AW) (other : Option (Value × AW)) : Option (Value × AW) := match x with
 | some (.bool a) => match y with
  | some (.bool b) => some (.bool (a != b), σ)
  | _ => other
 | _ => other
def aa2 (x y : Option Value) (σ : AW) (other : Option (Value × AW)) : Option (Value × AW) := match x with
 | some (.bool a) => match y with
  | some (.bool b) => some (.bool (a == b), σ)
  | _ => other
 | _ => other
def aa3 (x y : Option Value) (σ : AW) (other : Option (Value × AW)) : Option (Value × AW) := match x with
 | some (.string a) => match y with
  | some (.string b) => if a.size + b.size ≤ 9223372036854775807 then some (.string (a ++ b), σ) else other
  | _ => other
 | _ => other
theorem Bv (op : BinOp) (a : Bool) (y : Value) : aT op (.bool a) y = none := rfl
theorem KO (a b : ByteArray) : aT .add (.string a) (.string b) = none := rfl
theorem vJ {α β : Type} {s : Sem α} {f : α → Sem β} {a : α} (h : aS P s = some a) : aS P (s >>= f) = aS P (f a) := by
 have key : ∀ (s : Sem α), aS P s = some a → aS P (Sem.bind s f) = aS P (f a) := by
  intro s
  induction s with
  | pure b => intro h; injection h with h; subst h; rfl
  | program k ih => intro h; exact ih P h
  | mark m k ih => intro h; exact ih h
  | _ => intro h; cases h
 exact key s h
theorem zV {d : Option Tmp} {ty : TypeId} {po : String} {af : Array Edge} {jO : Option (Nat × Bool)} {op : BinOp} {t t2 : TypeId} {x y : Operand} {u v r : Value} (hx : ev A x = some u) (hy : ev A y = some v) (hu : ni u = true) (hv : ni v = true) (hr : ni r = true)
  (h : aS P (do eqGuard op t x y u v; binOp op t u v : Sem Value) = some r) : iD P A σ ⟨d, .binOp op t x y t2, ty, po, af, jO⟩ = some (r, σ) := by
 have h1 : nS A ⟨d, .binOp op t x y t2, ty, po, af, jO⟩ = true := by
  simp [nS, Op.operands, hx, hy, hu, hv]
 have h2 : execOp (CQ A) ⟨d, .binOp op t x y t2, ty, po, af, jO⟩ = ((do eqGuard op t x y u v; binOp op t u v : Sem Value) >>= fun z => pure (.value z)) := by
  have e1 : CQ A x = u := by unfold CQ; rw [hx]; rfl
  have e2 : CQ A y = v := by unfold CQ; rw [hy]; rfl
  unfold execOp
  simp only [e1, e2]
 have h3 : aS P (execOp (CQ A) ⟨d, .binOp op t x y t2, ty, po, af, jO⟩) = some (.value r) := by
  rw [h2, vJ h]
  rfl
 unfold iD
 rw [if_pos h1, h3]
 simp only [hr, if_true]
section
variable {d : Option Tmp} {ty : TypeId} {po : String} {af : Array Edge} {jO : Option (Nat × Bool)} {t t2 : TypeId} {x y : Operand}
theorem Yy : zU P A σ ⟨d, .binOp .add t x y t2, ty, po, af, jO⟩ = aa3 (ev A x) (ev A y) σ (Yx P A σ ⟨d, .binOp .add t x y t2, ty, po, af, jO⟩) := by
 unfold aa3
 split
 ·rename_i a hx
  split
  ·rename_i b hy
   split
   ·rename_i hs
    have hf : iD P A σ ⟨d, .binOp .add t x y t2, ty, po, af, jO⟩ = some (.string (a ++ b), σ) := by
     refine zV hx hy rfl rfl rfl ?_
     have hg : aS P (eqGuard .add t x y (.string a) (.string b)) = some () := rfl
     rw [vJ hg]
     have : ¬ (((a.size + b.size : Nat) : Int) > IntKind.i64.max) := by
      have : IntKind.i64.max = 9223372036854775807 := by decide
      rw [this]
      omega
     show aS P (Op.stringOp .add a b) = _
     unfold Op.stringOp
     simp only [this, if_false]
     rfl
    unfold zU
    simp only [kQ, hx, hy, KO]
    exact hf
   ·rfl
  ·rfl
 ·rfl
end
end
section
variable {A : Fr} {σ : AW} {d : Option Tmp} {ty : TypeId} {po : String} {af : Array Edge} {jO : Option (Nat × Bool)} {t2 : TypeId} {x y : Operand}
theorem Yz : ∀ a b : Bool, aS Tryz.prog (binOp .neq 4 (.bool a) (.bool b)) = some (.bool (a != b))
 | false, false => by kernel_rfl
 | false, true => by kernel_rfl
 | true, false => by kernel_rfl
 | true, true => by kernel_rfl
theorem YA : ∀ a b : Bool, aS Tryz.prog (binOp .eql 4 (.bool a) (.bool b)) = some (.bool (a == b))
 | false, false => by kernel_rfl
 | false, true => by kernel_rfl
 | true, false => by kernel_rfl
 | true, true => by kernel_rfl
theorem YB : zU Tryz.prog A σ ⟨d, .binOp .neq 4 x y t2, ty, po, af, jO⟩ = aa1 (ev A x) (ev A y) σ (Yx Tryz.prog A σ ⟨d, .binOp .neq 4 x y t2, ty, po, af, jO⟩) := by
 unfold aa1
 split
 ·rename_i a hx
  split
  ·rename_i b hy
   have hf : iD Tryz.prog A σ ⟨d, .binOp .neq 4 x y t2, ty, po, af, jO⟩ = some (.bool (a != b), σ) := by
    refine zV hx hy rfl rfl rfl ?_
    have hg : aS Tryz.prog (eqGuard .neq 4 x y (.bool a) (.bool b)) = some () := rfl
    rw [vJ hg]
    exact Yz a b
   have hn : nilA Tryz.prog 4 (.bool a) (.bool b) = none := by kernel_rfl
   unfold zU
   simp only [kQ, hx, hy, Bv, hn]
   exact hf
  ·rfl
 ·rfl
theorem YC : zU Tryz.prog A σ ⟨d, .binOp .eql 4 x y t2, ty, po, af, jO⟩ = aa2 (ev A x) (ev A y) σ (Yx Tryz.prog A σ ⟨d, .binOp .eql 4 x y t2, ty, po, af, jO⟩) := by
 unfold aa2
 split
 ·rename_i a hx
  split
  ·rename_i b hy
   have hf : iD Tryz.prog A σ ⟨d, .binOp .eql 4 x y t2, ty, po, af, jO⟩ = some (.bool (a == b), σ) := by
    refine zV hx hy rfl rfl rfl ?_
    have hg : aS Tryz.prog (eqGuard .eql 4 x y (.bool a) (.bool b)) = some () := rfl
    rw [vJ hg]
    exact YA a b
   have hn : nilA Tryz.prog 4 (.bool a) (.bool b) = none := by kernel_rfl
   unfold zU
   simp only [kQ, hx, hy, Bv, hn]
   exact hf
  ·rfl
 ·rfl
end
section
variable {P : Program} {A : Fr} {σ σ' : AW} {d : Option Tmp} {ty : TypeId} {po : String} {af : Array Edge} {op : Op} {all l : List Oper} {v : Value} {x : Oper} {j k : Nat} {want : Bool} {t : Tmp} {pd : List (Nat × Fr × Value)} {st : List (Nat × AW)} {KV : List (Nat × Fr × Value) → List (Nat × AW) → Fr → AW → Prop}
theorem EI (hx : all[j]? = some x) (hd : x.dst = some t) (hg : A.get t = some (.bool want)) : eY all A ⟨d, op, ty, po, af, some (j, want)⟩ = some true := by rw [CZ hx hd hg]; cases want <;> rfl
theorem Bz (hx : all[j]? = some x) (hd : x.dst = some t) (hg : A.get t = some (.bool (!want))) : eY all A ⟨d, op, ty, po, af, some (j, want)⟩ = some false := by rw [CZ hx hd hg]; cases want <;> rfl
theorem P5 (hw : eY all A ⟨d, op, ty, po, af, some (j, want)⟩ = some false) : Gd P all A σ ⟨d, op, ty, po, af, some (j, want)⟩ undef σ := by
 unfold Gd
 rw [hw]
 exact ⟨rfl, rfl⟩
theorem KR {i f : Nat} {B : Fr} {τ : AW} (h1 : all[i]? = some ⟨d, op, ty, po, af, some (j, want)⟩) (h2 : EF i pd = some (B, v)) (h3 : EF f st = some τ) (hx : all[j]? = some x) (hd : x.dst = some t) (hg : B.get t = some (.bool want)) (hc : wY op = false) (h : kQ P B τ ⟨d, op, ty, po, af, some (j, want)⟩ = some (v, τ)) : qw P all pd st (i, f) := ⟨_, B, v, τ, h1, h2, h3, PK (EI hx hd hg) hc h⟩
end
section
variable {P : Program} {A : Fr} {σ σ' : AW} {Q : Exit → Fr → AW → Prop}
def CX (P : Program) (x y : Code) (A : Fr) (σ : AW) (Q : Exit → Fr → AW → Prop) : Value → Prop
 | .bool true => W P x A σ Q
 | .bool false => W P y A σ Q
 | _ => False
theorem FZ {c : Operand} {v : Value} {x y : Code} (hb : ev A c = some v) (h : CX P x y A σ Q v) : W P (.cond c x y) A σ Q := by
 unfold CX at h
 split at h
 ·exact Uy hb h
 ·exact Uz hb h
 ·exact h.elim
theorem c_1 {x y : Code} (h : W P x A σ Q) : CX P x y A σ Q (.bool true) := h
theorem c_2 {x y : Code} (h : W P y A σ Q) : CX P x y A σ Q (.bool false) := h
section
variable {d : Option Tmp} {ty : TypeId} {po : String} {af : Array Edge} {op : Op} {all l : List Oper} {v : Value} {x : Oper} {j k : Nat} {want : Bool} {t : Tmp} {K : Fr → AW → Prop} {pd : List (Nat × Fr × Value)} {st : List (Nat × AW)} {KV : List (Nat × Fr × Value) → List (Nat × AW) → Fr → AW → Prop}
def GX (R S : Prop) : Bool → Value → Prop
 | true, .bool true => R
 | false, .bool false => R
 | true, .bool false => S
 | false, .bool true => S
 | _, .tuple _ => S
 | _, _ => False
theorem g_1 {R S : Prop} {w : Bool} (h : R) : GX R S w (.bool w) := by cases w <;> exact h
theorem g_2 {R S : Prop} (h : S) : GX R S true (.bool false) := h
theorem jO {R S : Prop} (h : S) : GX R S false (.bool true) := h
theorem lV {R S : Prop} (h : S) : GX R S want undef := by cases want <;> exact h
theorem zF (h : Ops P all l A σ K) : Ops P all l A σ K := h
theorem zG (hx : all[j]? = some x) (hd : x.dst = some t) (hg : A.get t = some v) (hk : GX (Ops P all (⟨d, op, ty, po, af, none⟩ :: l) A σ K) (Ops P all l (kT A d undef) σ K) want v) : Ops P all (⟨d, op, ty, po, af, some (j, want)⟩ :: l) A σ K := by
 have yes : eY all A ⟨d, op, ty, po, af, some (j, want)⟩ = some true → Ops P all (⟨d, op, ty, po, af, none⟩ :: l) A σ K → Ops P all (⟨d, op, ty, po, af, some (j, want)⟩ :: l) A σ K := fun hw ⟨u, τ, h1, h2⟩ => by
  refine ⟨u, τ, ?_, h2⟩
  unfold Gd at h1 ⊢
  rw [hw]
  exact h1
 have no : eY all A ⟨d, op, ty, po, af, some (j, want)⟩ = some false → Ops P all l (kT A d undef) σ K → Ops P all (⟨d, op, ty, po, af, some (j, want)⟩ :: l) A σ K := fun hw h => UA hw h
 unfold GX at hk
 split at hk
 ·exact yes (EI hx hd hg) hk
 ·exact yes (EI hx hd hg) hk
 ·exact no (Bz hx hd hg) hk
 ·exact no (Bz hx hd hg) hk
 ·exact no (by simp only [eY, hx, hd, hg]) hk
 ·exact hk.elim
def VX (P : Program) (all : List Oper) (k : Nat) (l : List Oper) (pd : List (Nat × Fr × Value)) (st : List (Nat × AW)) (A A' : Fr) (σ' : AW) (v : Value) (KV : List (Nat × Fr × Value) → List (Nat × AW) → Fr → AW → Prop) : Bool → Bool → Prop
 | false, false => rC P all (k + 1) l pd st A' σ' KV
 | false, true => rC P all (k + 1) l ((k, A, v) :: pd) st A' σ' KV
 | true, false => rC P all (k + 1) l pd ((k + 1, σ') :: st) A' σ' KV
 | true, true => False
theorem fB {A' : Fr} (h : rC P all (k + 1) l pd st A' σ' KV) : VX P all k l pd st A A' σ' v KV false false := h
theorem fC {A' : Fr} (h : rC P all (k + 1) l ((k, A, v) :: pd) st A' σ' KV) : VX P all k l pd st A A' σ' v KV false true := h
theorem fD {A' : Fr} (h : rC P all (k + 1) l pd ((k + 1, σ') :: st) A' σ' KV) : VX P all k l pd st A A' σ' v KV true false := h
theorem aan {jO : Option (Nat × Bool)} (hG : Gd P all A σ ⟨d, op, ty, po, af, jO⟩ v σ') (hk : VX P all k l pd st A (kT A d v) σ' v KV (effect op) (mG op)) : rC P all k (⟨d, op, ty, po, af, jO⟩ :: l) pd st A σ KV := by
 refine ⟨v, σ', hG, ?_⟩
 simp only
 generalize effect op = be at hk ⊢
 generalize mG op = bm at hk ⊢
 cases be <;> cases bm <;> first | exact hk | exact hk.elim
theorem qm (hx : all[j]? = some x) (hd : x.dst = some t) (hg : A.get t = some v) (hk : GX (rC P all k (⟨d, op, ty, po, af, none⟩ :: l) pd st A σ KV) (VX P all k l pd st A (kT A d undef) σ undef KV (effect op) (mG op)) want v) : rC P all k (⟨d, op, ty, po, af, some (j, want)⟩ :: l) pd st A σ KV := by
 have yes : eY all A ⟨d, op, ty, po, af, some (j, want)⟩ = some true → rC P all k (⟨d, op, ty, po, af, none⟩ :: l) pd st A σ KV → rC P all k (⟨d, op, ty, po, af, some (j, want)⟩ :: l) pd st A σ KV := fun hw ⟨u, τ, h1, h2⟩ => by
  refine ⟨u, τ, ?_, h2⟩
  unfold Gd at h1 ⊢
  rw [hw]
  exact h1
 have no : eY all A ⟨d, op, ty, po, af, some (j, want)⟩ = some false → VX P all k l pd st A (kT A d undef) σ undef KV (effect op) (mG op) → rC P all k (⟨d, op, ty, po, af, some (j, want)⟩ :: l) pd st A σ KV := fun hw h => aan (P5 hw) h
 unfold GX at hk
 split at hk
 ·exact yes (EI hx hd hg) hk
 ·exact yes (EI hx hd hg) hk
 ·exact no (Bz hx hd hg) hk
 ·exact no (Bz hx hd hg) hk
 ·exact no (by simp only [eY, hx, hd, hg]) hk
 ·exact hk.elim
theorem wK (h : kQ P A σ ⟨d, op, ty, po, af, none⟩ = some (v, σ')) (hk : VX P all k l pd st A (kT A d v) σ' v KV (effect op) (mG op)) : rC P all k (⟨d, op, ty, po, af, none⟩ :: l) pd st A σ KV := aan (PK rfl (KA h) h) hk
end
end
attribute [go_sem] Yy YB YC Bv KO aa1 aa2 aa3
end Go.Proofs.YthogkmcahnkkoaaGreatDoor
namespace Go.Proofs.YthogkmcahnkkoaaGreatDoor
def pI (c : UInt8) : Bool := (97 ≤ c.toNat && c.toNat ≤ 122) || (65 ≤ c.toNat && c.toNat ≤ 90) || c.toNat == 95
def dM (c : UInt8) : Bool := 48 ≤ c.toNat && c.toNat ≤ 57
def gy (c : UInt8) : Bool := c.toNat == 32 || c.toNat == 9 || c.toNat == 10 || c.toNat == 13
def runN (p : UInt8 → Bool) : List UInt8 → Nat
 | [] => 0
 | c :: r => if p c = true then runN p r + 1 else 0
def xk (l : List UInt8) : Nat := l.foldl (fun n c => 10 * n + (c.toNat - 48)) 0
def EJ (c : UInt8) : Bool := decide (32 ≤ c.toNat) || c.toNat == 10
def jw : Bool → List UInt8 → Nat × Bool
 | o, [] => (0, o)
 | o, c :: r => if c.toNat = 39 then ((jw (!o) r).1 + 1, (jw (!o) r).2) else if o = true then ((jw true r).1 + 1, (jw true r).2) else (0, false)
theorem zW : ∀ (o : Bool) (l : List UInt8), (jw o l).1 ≤ l.length
 | o, [] => Nat.le_refl _
 | o, c :: r => by
  unfold jw
  split
  ·have := zW (!o) r; simp; omega
  ·split
   ·have := zW true r; simp; omega
   ·simp
theorem KW {r : List UInt8} {c : UInt8} (h : c.toNat = 39) (h' : (jw false (c :: r)).2 = false) : 2 ≤ (jw false (c :: r)).1 := by
 rw [jw, if_pos h] at h' ⊢
 cases r with
 | nil => simp [jw] at h'
 | cons d q =>
  simp only [Bool.not_false]
  rw [jw]
  split
  ·simp
  ·simp
def EK (l : List UInt8) : List UInt8 := Lib.replaceAll ((l.take ((jw false l).1 - 1)).drop 1) [39, 39] [39]
def Dh (l : List UInt8) : (List UInt8 × Nat) ⊕ Nat :=
 if (jw false l).2 = true then .inr 0
 else if 1000 < (EK l).length then .inr 0
 else if runN EJ (l.take (jw false l).1) < (jw false l).1 then .inr (runN EJ (l.take (jw false l).1))
 else .inl (EK l, (jw false l).1)
abbrev Tk := Int × ByteArray × Int × Int
def rF : List (List UInt8) := [[124, 124], [60, 62], [60, 61], [62, 61], [40], [41], [44], [59], [46], [42], [43], [45], [47], [37], [61], [60], [62], [123], [125], [58]]
def zX (c : UInt8) (r : List UInt8) : (Int × List UInt8 × Nat × Nat) ⊕ Nat :=
 if pI c = true then (if 30 < runN (fun d => dM d || pI d) (c :: r) then .inr 0 else .inl (1, (c :: r).take (runN (fun d => dM d || pI d) (c :: r)), 0, runN (fun d => dM d || pI d) (c :: r)))
 else if dM c = true then (if 18 < runN dM (c :: r) then .inr 0 else .inl (2, (c :: r).take (runN dM (c :: r)), xk ((c :: r).take (runN dM (c :: r))), runN dM (c :: r)))
 else if c.toNat = 39 then
  match Dh (c :: r) with
  | .inl (b, n) => .inl (3, b, 0, n)
  | .inr k => .inr k
 else match rF.find? (fun m => m.isPrefixOf (c :: r)) with
  | some m => .inl (4, m, 0, m.length)
  | none => .inr 0
def oI : List UInt8 → (Int × List UInt8 × Nat × Nat) ⊕ Nat
 | [] => .inr 0
 | c :: r => zX c r
def iL (out : List Tk) (r : List Tk × Nat × Int) : List Tk × Nat × Int := if r.2.2 = 0 then (out ++ r.1, 0, 0) else ([], r.2)
def jI : Nat → List UInt8 → Nat → Nat → List Tk × Nat × Int
 | 0, _, _, _ => ([], 0, 1)
 | _ + 1, [], o, k => if 6000 ≤ k then ([], o, 8) else ([(0, ⟨#[]⟩, 0, (o : Int))], 0, 0)
 | f + 1, c :: r, o, k =>
  if gy c = true then jI f r (o + 1) k
  else if c.toNat = 45 ∧ r.head?.map UInt8.toNat = some 45 then jI f ((c :: r).drop (runN (fun d => d.toNat != 10) (c :: r))) (o + runN (fun d => d.toNat != 10) (c :: r)) k
  else match oI (c :: r) with
   | .inr n => ([], o + n, 10)
   | .inl (kind, t, n, len) => if 6000 ≤ k then ([], o, 8) else iL [(kind, ⟨t.toArray⟩, (n : Int), (o : Int))] (jI f ((c :: r).drop len) (o + len) (k + 1))
def dw (s : ByteArray) : List Tk × Nat × Int := if 20000 < s.size then ([], 0, 8) else jI (s.size + 1) s.data.toList 0 0
theorem NP (r : List Tk × Nat × Int) (h : r.2.2 = 0 → r.2.1 = 0) (h' : r.2.2 ≠ 0 → r.1 = []) : iL [] r = r := by
 obtain ⟨l, n, e⟩ := r
 unfold iL
 by_cases c : e = 0
 ·subst c
  have : n = 0 := h rfl
  subst this; simp
 ·have : l = [] := h' c
  subst this; simp [c]
theorem NQ (a b : List Tk) (r : List Tk × Nat × Int) : iL a (iL b r) = iL (a ++ b) r := by
 obtain ⟨l, n, e⟩ := r
 unfold iL
 by_cases c : e = 0
 ·simp [c]
 ·simp [c]
theorem qE (p : UInt8 → Bool) : ∀ l : List UInt8, runN p l ≤ l.length
 | [] => Nat.le_refl _
 | c :: r => by
  have := qE p r
  unfold runN
  split <;> simp <;> omega
theorem xq {p : UInt8 → Bool} {c : UInt8} {r : List UInt8} (h : p c = true) : 0 < runN p (c :: r) := by
 unfold runN; rw [if_pos h]; omega
theorem QV {c : UInt8} {r : List UInt8} {b : List UInt8} {n : Nat} (hc : c.toNat = 39) (h : Dh (c :: r) = .inl (b, n)) : 0 < n ∧ n ≤ (c :: r).length := by
 unfold Dh at h
 split at h
 ·cases h
 ·rename_i ho
  split at h
  ·cases h
  ·split at h
   ·cases h
   ·simp only [Sum.inl.injEq, Prod.mk.injEq] at h
    have h2 := KW hc (by simpa using ho)
    have := zW false (c :: r)
    omega
theorem NR : ∀ m ∈ rF, 0 < m.length := by decide
theorem EL {a l : List UInt8} (h : a.isPrefixOf l = true) : a.length ≤ l.length := (List.isPrefixOf_iff_prefix.1 h).length_le
theorem EM {l : List UInt8} {kind : Int} {t : List UInt8} {n len : Nat} (h : oI l = .inl (kind, t, n, len)) : 0 < len ∧ len ≤ l.length := by
 cases l with
 | nil => cases h
 | cons c r =>
  replace h : zX c r = .inl (kind, t, n, len) := h
  unfold zX at h
  split at h
  ·rename_i hc
   split at h
   ·cases h
   ·simp only [Sum.inl.injEq, Prod.mk.injEq] at h
    obtain ⟨_, _, _, rfl⟩ := h
    exact ⟨xq (by simp [hc]), qE _ _⟩
  ·split at h
   ·rename_i hc
    split at h
    ·cases h
    ·simp only [Sum.inl.injEq, Prod.mk.injEq] at h
     obtain ⟨_, _, _, rfl⟩ := h
     exact ⟨xq hc, qE _ _⟩
   ·split at h
    ·split at h
     ·rename_i b k e
      simp only [Sum.inl.injEq, Prod.mk.injEq] at h
      obtain ⟨_, _, _, rfl⟩ := h
      exact QV (by assumption) e
     ·cases h
    ·split at h
     ·rename_i m e
      simp only [Sum.inl.injEq, Prod.mk.injEq] at h
      obtain ⟨_, _, _, rfl⟩ := h
      refine ⟨NR m (List.mem_of_find?_eq_some e), EL ?_⟩
      have := List.find?_some e
      simpa using this
     ·cases h
theorem rG : ∀ (f g : Nat) (l : List UInt8) (o k : Nat), l.length < f → l.length < g → jI f l o k = jI g l o k
 | 0, _, _, _, _, h, _ => by omega
 | _ + 1, 0, _, _, _, _, h => by omega
 | f + 1, g + 1, [], _, _, _, _ => rfl
 | f + 1, g + 1, c :: r, o, k, h1, h2 => by
  simp only [List.length_cons] at h1 h2
  unfold jI
  by_cases hb : gy c = true
  ·rw [if_pos hb, if_pos hb]
   exact rG f g r _ _ (by omega) (by omega)
  ·rw [if_neg hb, if_neg hb]
   by_cases hm : c.toNat = 45 ∧ r.head?.map UInt8.toNat = some 45
   ·rw [if_pos hm, if_pos hm]
    have hp : 0 < runN (fun d => d.toNat != 10) (c :: r) := xq (by rw [hm.1]; decide)
    exact rG f g _ _ _ (by rw [List.length_drop, List.length_cons]; omega) (by rw [List.length_drop, List.length_cons]; omega)
   ·rw [if_neg hm, if_neg hm]
    cases e : oI (c :: r) with
    | inr n => rfl
    | inl p =>
     obtain ⟨kind, t, n, len⟩ := p
     have := EM e
     simp only
     rw [rG f g ((c :: r).drop len) _ _ (by rw [List.length_drop, List.length_cons]; omega) (by rw [List.length_drop, List.length_cons]; omega)]
def nD (l : List UInt8) (o k : Nat) : List Tk × Nat × Int := jI (l.length + 1) l o k
theorem QW (o k : Nat) : nD [] o k = if 6000 ≤ k then ([], o, 8) else ([(0, ⟨#[]⟩, 0, (o : Int))], 0, 0) := rfl
theorem KX {c : UInt8} {r : List UInt8} {o k : Nat} (h : gy c = true) : nD (c :: r) o k = nD r (o + 1) k := by
 show jI (r.length + 1 + 1) (c :: r) o k = _
 unfold jI
 rw [if_pos h]
 rfl
theorem NS {c d : UInt8} {r : List UInt8} {o k : Nat} (h : c.toNat = 45) (h' : d.toNat = 45) :
  nD (c :: d :: r) o k = nD ((c :: d :: r).drop (runN (fun d => d.toNat != 10) (c :: d :: r))) (o + runN (fun d => d.toNat != 10) (c :: d :: r)) k := by
 have hb : ¬ gy c = true := by simp [gy, h]
 have hp : 0 < runN (fun d => d.toNat != 10) (c :: d :: r) := xq (by rw [h]; decide)
 show jI ((c :: d :: r).length + 1) (c :: d :: r) o k = _
 unfold jI
 rw [if_neg hb, if_pos ⟨h, by simp [h']⟩]
 exact rG _ _ _ _ _ (by rw [List.length_drop, List.length_cons]; omega) (Nat.lt_succ_self _)
theorem QX {c : UInt8} {r : List UInt8} {o k : Nat} (h : gy c = false) (h' : ¬ (c.toNat = 45 ∧ r.head?.map UInt8.toNat = some 45)) :
  nD (c :: r) o k = match oI (c :: r) with
   | .inr n => ([], o + n, 10)
   | .inl (kind, t, n, len) => if 6000 ≤ k then ([], o, 8) else iL [(kind, ⟨t.toArray⟩, (n : Int), (o : Int))] (nD ((c :: r).drop len) (o + len) (k + 1)) := by
 show jI ((c :: r).length + 1) (c :: r) o k = _
 unfold jI
 rw [if_neg (by rw [h]; decide), if_neg h']
 cases e : oI (c :: r) with
 | inr n => rfl
 | inl p =>
  obtain ⟨kind, t, n, len⟩ := p
  have := EM e
  simp only
  rw [rG (c :: r).length (((c :: r).drop len).length + 1) _ _ _ (by rw [List.length_drop, List.length_cons]; omega) (Nat.lt_succ_self _)]
  rfl
theorem U5 {s : ByteArray} (h : s.size ≤ 20000) : dw s = nD s.data.toList 0 0 := by
 unfold dw
 rw [if_neg (by omega)]
 rfl
def U6 : List ByteArray := [⟨#[97, 108, 108]⟩, ⟨#[97, 110, 100]⟩, ⟨#[97, 115]⟩, ⟨#[98, 101, 103, 105, 110]⟩, ⟨#[98, 101, 103, 105, 110, 115]⟩, ⟨#[98, 101, 116, 119, 101, 101, 110]⟩, ⟨#[98, 121]⟩, ⟨#[99, 97, 108, 108]⟩, ⟨#[99, 97, 115, 101]⟩, ⟨#[99, 97, 116, 99, 104]⟩, ⟨#[99, 111, 109, 109, 105, 116]⟩, ⟨#[100, 101, 108, 101, 116, 101]⟩, ⟨#[100, 101, 115, 99]⟩, ⟨#[100, 105, 115, 116, 105, 110, 99, 116]⟩, ⟨#[101, 108, 115, 101]⟩, ⟨#[101, 110, 100]⟩, ⟨#[101, 120, 99, 101, 112, 116]⟩, ⟨#[101, 120, 105, 115, 116, 115]⟩, ⟨#[102, 111, 114]⟩, ⟨#[102, 114, 111, 109]⟩, ⟨#[103, 114, 111, 117, 112]⟩, ⟨#[104, 97, 118, 105, 110, 103]⟩, ⟨#[104, 105, 100, 101]⟩, ⟨#[105, 102]⟩, ⟨#[105, 110]⟩, ⟨#[105, 110, 112, 117, 116]⟩, ⟨#[105, 110, 115, 101, 114, 116]⟩, ⟨#[105, 110, 116]⟩, ⟨#[105, 110, 116, 111]⟩, ⟨#[105, 110, 116, 101, 114, 115, 101, 99, 116]⟩, ⟨#[105, 115]⟩, ⟨#[106, 111, 105, 110]⟩, ⟨#[107, 101, 121]⟩, ⟨#[108, 101, 102, 116]⟩, ⟨#[108, 101, 118, 101, 108]⟩, ⟨#[108, 101, 118, 101, 108, 115]⟩, ⟨#[108, 105, 109, 105, 116]⟩, ⟨#[110, 111, 116]⟩, ⟨#[110, 117, 108, 108]⟩, ⟨#[111, 110]⟩, ⟨#[111, 114]⟩, ⟨#[111, 114, 100, 101, 114]⟩, ⟨#[112, 114, 105, 110, 99, 105, 112, 97, 108]⟩, ⟨#[112, 114, 105, 110, 116]⟩, ⟨#[112, 114, 111, 99]⟩, ⟨#[114, 97, 105, 115, 101]⟩, ⟨#[114, 111, 108, 108, 98, 97, 99, 107]⟩, ⟨#[114, 111, 119, 115]⟩, ⟨#[115, 101, 108, 101, 99, 116]⟩, ⟨#[115, 101, 116]⟩, ⟨#[116, 97, 98, 108, 101]⟩, ⟨#[116, 101, 120, 116]⟩, ⟨#[116, 104, 101, 110]⟩, ⟨#[116, 114, 117, 101]⟩, ⟨#[116, 114, 121]⟩, ⟨#[102, 97, 108, 115, 101]⟩, ⟨#[98, 111, 111, 108]⟩, ⟨#[117, 110, 105, 111, 110]⟩, ⟨#[117, 112, 100, 97, 116, 101]⟩, ⟨#[118, 97, 108, 117, 101, 115]⟩, ⟨#[118, 97, 114]⟩, ⟨#[118, 105, 115, 105, 98, 108, 101]⟩, ⟨#[119, 104, 101, 110]⟩, ⟨#[119, 104, 101, 114, 101]⟩, ⟨#[119, 104, 105, 108, 101]⟩, ⟨#[99, 104, 97, 110, 110, 101, 108]⟩, ⟨#[115, 107, 105, 112]⟩]
def qg (s : ByteArray) : Bool := U6.any fun t => decide (t = s)
end Go.Proofs.YthogkmcahnkkoaaGreatDoor
