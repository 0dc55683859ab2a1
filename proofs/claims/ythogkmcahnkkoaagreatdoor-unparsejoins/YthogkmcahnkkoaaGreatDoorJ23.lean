/- What is read where fewer things may stand within one another is the same, or too deep. What is read of tokens behind which others stand in the end's place: the same, where those begin with nothing that is asked for. Expressions and queries that are read of tokens behind which others stand in the end's place. Statements that are read of tokens behind which others stand in the end's place. A text with a newline and more behind it: its tokens stay. -/
import Derived.Test.YthogkmcahnkkoaaGreatDoorJ18
namespace Go.Proofs.YthogkmcahnkkoaaGreatDoor
def iV {α : Type} (m : SM α) : Prop := ∀ σ, σ.err ≠ 0 → (m σ).2.err = σ.err
structure Low {α : Type} (m m' : SM α) : Prop where
 a : iV m
 b : iV m'
 c : ∀ σ, σ.err = 0 → (m' σ).2.err = 0 → (m σ).2.err = 9 ∨ m σ = m' σ
theorem Low.refl {α : Type} {m : SM α} (h : iV m) : Low m m := ⟨h, h, fun _ _ _ => .inr rfl⟩
theorem iV.bind {α β : Type} {m : SM α} {k : α → SM β} (h : iV m) (hk : ∀ a, iV (k a)) : iV (m >>= k) := by
 intro σ hσ
 have h1 := h σ hσ
 rw [SM.bind_run, hk _ _ (by rw [h1]; exact hσ), h1]
theorem Low.bind {α β : Type} {m m' : SM α} {k k' : α → SM β} (h : Low m m') (hk : ∀ a, Low (k a) (k' a)) : Low (m >>= k) (m' >>= k') := by
 refine ⟨h.a.bind fun a => (hk a).a, h.b.bind fun a => (hk a).b, ?_⟩
 intro σ h0 hok
 rw [SM.bind_run] at hok ⊢
 rw [SM.bind_run]
 have h1 : (m' σ).2.err = 0 := by
  by_cases hz : (m' σ).2.err = 0
  ·exact hz
  ·exact absurd (((hk (m' σ).1).b _ hz).symm.trans hok) hz
 rcases h.c σ h0 h1 with h9 | he
 ·left
  rw [(hk (m σ).1).a _ (by rw [h9]; decide), h9]
 ·rw [he]
  exact (hk (m' σ).1).c _ h1 hok
theorem iV.pure {α : Type} (a : α) : iV (Pure.pure a : SM α) := fun _ _ => rfl
theorem iV.head : iV wB := fun _ _ => rfl
theorem iV.sees (x : ByteArray) : iV (oN x) := fun _ _ => rfl
theorem iV.refuse (e : Int) : iV (bK e) := by
 intro σ hσ
 simp [bK, hσ]
theorem iV.take (x : ByteArray) : iV (aB x) := by
 intro σ _
 unfold aB
 split <;> rfl
theorem iV.takeKind (k : Int) : iV (aV k) := by
 intro σ _
 unfold aV
 split <;> rfl
theorem iV.takeAny (l : List ByteArray) : iV (aI l) := by
 induction l with
 | nil => exact fun _ _ => rfl
 | cons x l ih =>
  intro σ hσ
  unfold aI
  split
  ·rfl
  ·exact ih σ hσ
theorem Low.ite {α : Type} {c : Prop} [Decidable c] {m m' n n' : SM α} (h : Low m m') (h' : Low n n') : Low (if c then m else n) (if c then m' else n') := by
 split
 ·exact h
 ·exact h'
theorem Low.pure {α : Type} (a : α) : Low (Pure.pure a : SM α) (Pure.pure a) := .refl (.pure a)
theorem Low.take (x : ByteArray) : Low (aB x) (aB x) := .refl (.take x)
theorem Low.sees (x : ByteArray) : Low (oN x) (oN x) := .refl (.sees x)
theorem Low.head : Low wB wB := .refl .head
theorem Low.refuse (e : Int) : Low (bK e) (bK e) := .refl (.refuse e)
theorem Low.takeKind (k : Int) : Low (aV k) (aV k) := .refl (.takeKind k)
theorem Low.takeAny (l : List ByteArray) : Low (aI l) (aI l) := .refl (.takeAny l)
theorem Low.want (x : ByteArray) : Low (dA x) (dA x) := (Low.take x).bind fun _ => .ite (.pure _) (.refuse _)
theorem Low.name : Low bZ bZ := Low.head.bind fun _ => .ite ((Low.refuse _).bind fun _ => .pure _) ((Low.takeKind _).bind fun _ => .ite (.pure _) ((Low.refuse _).bind fun _ => .pure _))
theorem Low.number : Low lK lK := Low.head.bind fun _ => (Low.takeKind _).bind fun _ => .ite (.pure _) ((Low.refuse _).bind fun _ => .pure _)
theorem Low.loop {α : Type} {s s' : α → SM (Option α)} (h : ∀ a, Low (s a) (s' a)) : ∀ (f : Nat) (x : α), Low (loopS s f x) (loopS s' f x)
 | 0, x => .pure x
 | f + 1, x => (h x).bind fun o => by
  cases o with
  | none => exact .pure x
  | some y => exact Low.loop h f y
theorem Low.while {α : Type} {s s' : α → SM (Option α)} (h : ∀ a, Low (s a) (s' a)) (x : α) : Low (rJ s x) (rJ s' x) :=
 ⟨fun σ => (Low.loop h σ.left.length x).a σ, fun σ => (Low.loop h σ.left.length x).b σ, fun σ => (Low.loop h σ.left.length x).c σ⟩
theorem Low.fromLeft {m m' : Tr → ByteArray → SM Tr} (h : ∀ a b, Low (m a b) (m' a b)) (l : List ByteArray) (x : Tr) : Low (dL m l x) (dL m' l x) :=
 Low.while (fun a => (Low.takeAny l).bind fun o => by
  cases o with
  | none => exact .pure _
  | some y => exact (h a y).bind fun _ => .pure _) x
theorem Low.each {α : Type} {r r' : SM α} (h : Low r r') (x : ByteArray) (l : List α) : Low (Di x r l) (Di x r' l) :=
 Low.while (fun _ => (Low.take x).bind fun _ => .ite (h.bind fun _ => .pure _) (.pure _)) l
theorem Low.list {α : Type} {r r' : SM α} (h : Low r r') (x : ByteArray) : Low (jW x r) (jW x r') := h.bind fun _ => h.each x _
theorem Low.behind {α : Type} {r r' : SM α} (h : Low r r') (x : ByteArray) : Low (fJ x r) (fJ x r') := (Low.take x).bind fun _ => .ite (h.bind fun _ => .pure _) (.pure _)
theorem Low.inBrackets {α : Type} {r r' : SM α} (h : Low r r') : Low (bH r) (bH r') := (Low.want _).bind fun _ => h.bind fun _ => (Low.want _).bind fun _ => .pure _
theorem Low.listInBrackets {α : Type} {r r' : SM α} (h : Low r r') : Low (jF r) (jF r') := ((Low.sees _).bind fun _ => .ite (.pure _) (h.list _)).inBrackets
structure adD (K K' : gG) : Prop where
 or : Low K.or K'.or
 not : Low K.not K'.not
 unary : Low K.unary K'.unary
 parts : Low K.parts K'.parts
 block : Low K.block K'.block
section
variable {K K' : gG} (h : adD K K')
include h
omit h in
theorem Low.operands {r r' : SM Tr} (hr : Low r r') (l : List ByteArray) : Low (fP r l) (fP r' l) := hr.bind fun _ => .fromLeft (fun _ _ => hr.bind fun _ => .pure _) _ _
end
theorem iV.tooDeep {α : Type} (z : α) : iV (Go.Proofs.YthogkmcahnkkoaaGreatDoor.tooDeep z) := (iV.refuse 9).bind fun _ => .pure z
theorem Low.deep {α : Type} (z : α) {m : SM α} (h : iV m) : Low (Go.Proofs.YthogkmcahnkkoaaGreatDoor.tooDeep z) m :=
 ⟨.tooDeep z, h, fun σ h0 _ => .inl (by simp [Go.Proofs.YthogkmcahnkkoaaGreatDoor.tooDeep, SM.bind_run, SM.pure_run, bK, h0])⟩
def shT (d : Int) (t : Tk) : Tk := (t.1, t.2.1, t.2.2.1, t.2.2.2 + d)
structure Tail where
 d : Int
 h : Tk
 r : List Tk
def Tail.R (T : Tail) (σ σ' : Sy) : Prop := ∃ A e, σ.left = A ++ [e] ∧ (e.1 = 0 ∧ ∀ a ∈ A, a.1 ≠ 0) ∧ e.2.1 = eB ∧ σ'.left = A.map (shT T.d) ++ T.h :: T.r ∧ σ.err = 0 ∧ σ'.err = 0
def Tail.No (T : Tail) (x : ByteArray) : Prop := (decide (T.h.2.1 = x) && (T.h.1 == 1 || T.h.1 == 4)) = false
structure kV (T : Tail) {α β : Type} (V : α → β → Prop) (m : SM α) (m' : SM β) : Prop where
 st : iV m
 mono : ∀ σ, (m σ).2.left.length ≤ σ.left.length
 sim : ∀ σ σ', T.R σ σ' → (m σ).2.err = 0 → V (m σ).1 (m' σ').1 ∧ T.R (m σ).2 (m' σ').2
theorem Aq (x : ByteArray) (σ : Sy) : dA x σ = if eF x σ = true then ((), ⟨σ.left.tail, σ.pl, σ.err⟩) else bK 10 σ := by
 show (fun r : Bool × Sy => (if r.1 = true then (Pure.pure () : SM Unit) else bK 10) r.2) (aB x σ) = _
 unfold aB
 by_cases h : eF x σ = true
 ·rw [if_pos h, if_pos h]; rfl
 ·rw [if_neg h, if_neg h]; rfl
theorem LQ {α : Type} (k : Int) (f g : SM α) (σ : Sy) : (aV k >>= fun b => if b = true then f else g) σ = if σ.head.1 = k then f ⟨σ.left.tail, σ.pl, σ.err⟩ else g σ := by
 show (fun r : Bool × Sy => (if r.1 = true then f else g) r.2) (aV k σ) = _
 unfold aV
 by_cases h : σ.head.1 = k
 ·rw [if_pos h, if_pos h]; rfl
 ·rw [if_neg h, if_neg h]; rfl
section
variable {T : Tail}
theorem kV.bind {α α' β β' : Type} {V : α → α' → Prop} {W : β → β' → Prop} {m : SM α} {m' : SM α'} {k : α → SM β} {k' : α' → SM β'} (h : kV T V m m') (hs : ∀ a, iV (k a)) (hm : ∀ a σ, (k a σ).2.left.length ≤ σ.left.length) (hk : ∀ a a', V a a' → kV T W (k a) (k' a')) : kV T W (m >>= k) (m' >>= k') := by
 refine ⟨h.st.bind hs, fun σ => Nat.le_trans (hm _ _) (h.mono σ), ?_⟩
 intro σ σ' hR hok
 rw [SM.bind_run] at hok ⊢
 rw [SM.bind_run]
 have h1 : (m σ).2.err = 0 := by
  by_cases hz : (m σ).2.err = 0
  ·exact hz
  ·exact absurd ((hs (m σ).1 _ hz).symm.trans hok) hz
 obtain ⟨hv, hr⟩ := h.sim σ σ' hR h1
 exact (hk _ _ hv).sim _ _ hr hok
theorem kV.seq {α β β' : Type} {W : β → β' → Prop} {m m' : SM α} {k : α → SM β} {k' : α → SM β'} (h : kV T Eq m m') (hk : ∀ a, kV T W (k a) (k' a)) : kV T W (m >>= k) (m' >>= k') :=
 h.bind (fun a => (hk a).st) (fun a => (hk a).mono) (fun a _ e => e ▸ hk a)
theorem kV.pure' {α β : Type} {V : α → β → Prop} {a : α} {b : β} (h : V a b) : kV T V (Pure.pure a) (Pure.pure b) := ⟨.pure a, fun _ => Nat.le_refl _, fun _ _ hR _ => ⟨h, hR⟩⟩
theorem kV.pure {α : Type} (a : α) : kV T Eq (Pure.pure a : SM α) (Pure.pure a) := .pure' rfl
theorem Qo {x : ByteArray} {σ : Sy} (h : eF x σ = true) : σ.left.tail.length < σ.left.length := by
 obtain ⟨l, p, e⟩ := σ
 cases l with
 | nil => simp [eF, Sy.head, aa5] at h
 | cons a l => simp
theorem Ar (l : List Tk) : l.tail.length ≤ l.length := by simp
theorem Tail.R.sees {x : ByteArray} (hx : T.No x) {σ σ' : Sy} (hR : T.R σ σ') : eF x σ = eF x σ' := by
 obtain ⟨A, e, h1, he, hb, h2, _, _⟩ := hR
 cases A with
 | nil =>
  have hb' : eF x σ = false := by simp [eF, Sy.head, h1, he.1]
  rw [hb']
  simp only [eF, Sy.head, h2]
  exact hx.symm
 | cons a A => simp [eF, Sy.head, h1, h2, shT]
theorem Tail.R.tail {σ σ' : Sy} (hR : T.R σ σ') (h : σ.head.1 ≠ 0) : T.R ⟨σ.left.tail, σ.pl, σ.err⟩ ⟨σ'.left.tail, σ'.pl, σ'.err⟩ ∧ σ'.head = shT T.d σ.head := by
 obtain ⟨A, e, h1, he, hb, h2, h3, h4⟩ := hR
 cases A with
 | nil => exact absurd (by simp [Sy.head, h1, he.1]) h
 | cons a A => exact ⟨⟨A, e, by simp [h1], ⟨he.1, fun b hb => he.2 b (List.mem_cons_of_mem _ hb)⟩, hb, by simp [h2], h3, h4⟩, by simp [Sy.head, h1, h2]⟩
theorem Jr {x : ByteArray} {σ : Sy} (h : eF x σ = true) : σ.head.1 ≠ 0 := by
 intro h0
 simp [eF, h0] at h
theorem kV.sees {x : ByteArray} (hx : T.No x) : kV T Eq (oN x) (oN x) := ⟨.sees x, fun _ => Nat.le_refl _, fun _ _ hR _ => ⟨hR.sees hx, hR⟩⟩
theorem kV.take {x : ByteArray} (hx : T.No x) : kV T Eq (aB x) (aB x) := by
 refine ⟨.take x, ?_, ?_⟩
 ·intro σ
  unfold aB
  split
  ·exact Ar _
  ·exact Nat.le_refl _
 ·intro σ σ' hR _
  unfold aB
  rw [← hR.sees hx]
  split
  ·exact ⟨rfl, (hR.tail (Jr (by assumption))).1⟩
  ·exact ⟨rfl, hR⟩
theorem kV.takeAny {l : List ByteArray} (hl : ∀ x ∈ l, T.No x) : kV T Eq (aI l) (aI l) := by
 refine ⟨.takeAny l, ?_, ?_⟩
 ·intro σ
  induction l with
  | nil => exact Nat.le_refl _
  | cons x l ih =>
   unfold aI
   split
   ·exact Ar _
   ·exact ih fun y hy => hl y (List.mem_cons_of_mem _ hy)
 ·intro σ σ' hR hh
  clear hh
  induction l with
  | nil => exact ⟨rfl, hR⟩
  | cons x l ih =>
   unfold aI
   rw [← hR.sees (hl x (List.mem_cons_self ..))]
   split
   ·exact ⟨rfl, (hR.tail (Jr (by assumption))).1⟩
   ·exact ih (fun y hy => hl y (List.mem_cons_of_mem _ hy))
theorem vY {e : Int} (he : e ≠ 0) (σ : Sy) : ((bK e) σ).2.err ≠ 0 := by
 unfold bK
 split
 ·exact he
 ·assumption
theorem kV.refuse {e : Int} (he : e ≠ 0) {β : Type} {V : Unit → β → Prop} {m' : SM β} : kV T V (bK e) m' :=
 ⟨.refuse e, fun σ => by unfold bK; split <;> simp, fun σ _ _ h => absurd h (vY he σ)⟩
theorem kV.want (x : ByteArray) : kV T Eq (dA x) (dA x) := by
 refine ⟨(Low.want x).a, ?_, ?_⟩
 ·intro σ
  rw [Aq]
  split
  ·exact Ar _
  ·simp only [bK]
   split <;> simp
 ·intro σ σ' hR hok
  rw [Aq] at hok
  have hs : eF x σ = true := by
   by_cases h : eF x σ = true
   ·exact h
   ·rw [if_neg h] at hok
    exact absurd hok (vY (by decide) σ)
  have ht := hR.tail (Jr hs)
  have hs' : eF x σ' = true := by
   rw [← hs]
   simp [eF, ht.2, shT]
  rw [Aq, Aq, if_pos hs, if_pos hs']
  exact ⟨rfl, ht.1⟩
def Tail.V (T : Tail) (a b : Option Tk) : Prop := b = a.map (shT T.d)
theorem iV.name : iV bZ := Low.name.a
theorem kV.name : kV T Eq bZ bZ := by
 have hrun : ∀ σ : Sy, bZ σ = if qg σ.head.2.1 = true ∨ ¬ σ.head.1 = 1 then (eB, ((bK 10) σ).2) else (σ.head.2.1, ⟨σ.left.tail, σ.pl, σ.err⟩) := by
  intro σ
  have h1 : bZ σ = (if qg σ.head.2.1 = true then (bK 10 >>= fun _ => Pure.pure eB) else (aV 1 >>= fun b => if b = true then Pure.pure σ.head.2.1 else (bK 10 >>= fun _ => Pure.pure eB)) : SM ByteArray) σ := rfl
  rw [h1]
  by_cases hw : qg σ.head.2.1 = true
  ·rw [if_pos hw, if_pos (.inl hw)]; rfl
  ·rw [if_neg hw, LQ]
   by_cases hk : σ.head.1 = 1
   ·rw [if_pos hk, if_neg (by simp [hw, hk])]; rfl
   ·rw [if_neg hk, if_pos (.inr hk)]; rfl
 refine ⟨.name, ?_, ?_⟩
 ·intro σ
  rw [hrun]
  split
  ·simp only [bK]
   split <;> simp
  ·exact Ar _
 ·intro σ σ' hR hok
  rw [hrun] at hok
  by_cases hc : qg σ.head.2.1 = true ∨ ¬ σ.head.1 = 1
  ·rw [if_pos hc] at hok
   exact absurd hok (vY (by decide) σ)
  ·have h1 : σ.head.1 = 1 := by
    by_cases h : σ.head.1 = 1
    ·exact h
    ·exact absurd (.inr h) hc
   have ht := hR.tail (by rw [h1]; decide)
   have hc' : ¬ (qg σ'.head.2.1 = true ∨ ¬ σ'.head.1 = 1) := by rw [ht.2]; exact hc
   rw [hrun, hrun, if_neg hc, if_neg hc']
   exact ⟨by simp [ht.2, shT], ht.1⟩
theorem kV.number : kV T Eq lK lK := by
 have hrun : ∀ σ : Sy, lK σ = if ¬ σ.head.1 = 2 then (0, ((bK 10) σ).2) else (σ.head.2.2.1, ⟨σ.left.tail, σ.pl, σ.err⟩) := by
  intro σ
  have h1 : lK σ = (aV 2 >>= fun b => if b = true then Pure.pure σ.head.2.2.1 else (bK 10 >>= fun _ => Pure.pure 0) : SM Int) σ := rfl
  rw [h1, LQ]
  by_cases hk : σ.head.1 = 2
  ·rw [if_pos hk, if_neg (by simp [hk])]; rfl
  ·rw [if_neg hk, if_pos hk]; rfl
 refine ⟨Low.number.a, ?_, ?_⟩
 ·intro σ
  rw [hrun]
  split
  ·simp only [bK]
   split <;> simp
  ·exact Ar _
 ·intro σ σ' hR hok
  rw [hrun] at hok
  by_cases hc : ¬ σ.head.1 = 2
  ·rw [if_pos hc] at hok
   exact absurd hok (vY (by decide) σ)
  ·have h1 : σ.head.1 = 2 := Classical.not_not.1 hc
   have ht := hR.tail (by rw [h1]; decide)
   have hc' : ¬ ¬ σ'.head.1 = 2 := by rw [ht.2]; exact hc
   rw [hrun, hrun, if_neg hc, if_neg hc']
   exact ⟨by simp [ht.2, shT], ht.1⟩
theorem kV.ite {α β : Type} {V : α → β → Prop} {c : Prop} [Decidable c] {m n : SM α} {m' n' : SM β} (h : kV T V m m') (h' : kV T V n n') : kV T V (if c then m else n) (if c then m' else n') := by
 split
 ·exact h
 ·exact h'
def Y5 {α β : Type} (V : α → β → Prop) : Option α → Option β → Prop
 | none, none => True
 | some a, some b => V a b
 | _, _ => False
theorem kV.loop {α β : Type} {V : α → β → Prop} {s : α → SM (Option α)} {s' : β → SM (Option β)} (h : ∀ a b, V a b → kV T (Y5 V) (s a) (s' b)) (hst : ∀ a, iV (s a)) (hlt : ∀ a σ b, (s a σ).1 = some b → (s a σ).2.left.length < σ.left.length) :
  ∀ (f f' : Nat) (a : α) (b : β) (σ σ' : Sy), V a b → T.R σ σ' → σ.left.length ≤ f → σ.left.length ≤ f' → (loopS s f a σ).2.err = 0 → V (loopS s f a σ).1 (loopS s' f' b σ').1 ∧ T.R (loopS s f a σ).2 (loopS s' f' b σ').2 := by
 have hls : ∀ (f : Nat) (a : α), iV (loopS s f a) := fun f a => (Low.loop (fun a => Low.refl (hst a)) f a).a
 intro f
 induction f with
 | zero =>
  intro f' a b σ σ' _ hR hf
  obtain ⟨A, e, h1, _⟩ := hR
  simp [h1] at hf
 | succ f ih =>
  intro f' a b σ σ' hV hR hf hf' hok
  obtain _ | f' := f'
  ·obtain ⟨A, e, h1, _⟩ := hR
   simp [h1] at hf'
  ·simp only [loopS, SM.bind_run] at hok ⊢
   have h1 : (s a σ).2.err = 0 := by
    by_cases hz : (s a σ).2.err = 0
    ·exact hz
    ·cases ho : (s a σ).1 with
     | none => rw [ho] at hok; exact hok
     | some y =>
      rw [ho] at hok
      exact absurd ((hls f y _ hz).symm.trans hok) hz
   obtain ⟨hv, hr⟩ := (h a b hV).sim σ σ' hR h1
   have hl := hlt a σ
   cases ho : (s a σ).1 with
   | none =>
    cases ho' : (s' b σ').1 with
    | none => exact ⟨hV, hr⟩
    | some z => rw [ho, ho'] at hv; exact hv.elim
   | some y =>
    cases ho' : (s' b σ').1 with
    | none => rw [ho, ho'] at hv; exact hv.elim
    | some z =>
     rw [ho, ho'] at hv
     rw [ho] at hok
     have := hl y ho
     exact ih f' y z _ _ hv hr (by omega) (by omega) hok
end
section
variable {T : Tail}
theorem Hy {α : Type} {s : α → SM (Option α)} (h : ∀ a σ, (s a σ).2.left.length ≤ σ.left.length) : ∀ (f : Nat) (a : α) (σ : Sy), (loopS s f a σ).2.left.length ≤ σ.left.length
 | 0, _, _ => Nat.le_refl _
 | f + 1, a, σ => by
  simp only [loopS, SM.bind_run]
  cases ho : (s a σ).1 with
  | none => exact h a σ
  | some y => exact Nat.le_trans (Hy h f y _) (h a σ)
theorem kV.while {α β : Type} {V : α → β → Prop} {s : α → SM (Option α)} {s' : β → SM (Option β)} (h : ∀ a b, V a b → kV T (Y5 V) (s a) (s' b)) (hst : ∀ a, iV (s a)) (hm : ∀ a σ, (s a σ).2.left.length ≤ σ.left.length) (hlt : ∀ a σ b, (s a σ).1 = some b → (s a σ).2.left.length < σ.left.length) {a : α} {b : β} (hV : V a b) : kV T V (rJ s a) (rJ s' b) := by
 refine ⟨(Low.while (fun a => Low.refl (hst a)) a).a, fun σ => Hy hm _ a σ, ?_⟩
 intro σ σ' hR hok
 have hl : σ.left.length ≤ σ'.left.length := by
  obtain ⟨A, e, h1, _, _, h2, _⟩ := hR
  simp [h1, h2]
 exact kV.loop h hst hlt _ _ a b σ σ' hV hR (Nat.le_refl _) hl hok
theorem Oy {l : List ByteArray} {σ : Sy} {m : ByteArray} (h : (aI l σ).1 = some m) : (aI l σ).2.left.length < σ.left.length := by
 induction l with
 | nil => simp [aI] at h
 | cons x l ih =>
  unfold aI at h ⊢
  split
  ·exact Qo (by assumption)
  ·rename_i hs
   rw [if_neg hs] at h
   exact ih h
theorem VW {x : ByteArray} {σ : Sy} (h : (aB x σ).1 = true) : (aB x σ).2.left.length < σ.left.length := by
 unfold aB at h ⊢
 by_cases hs : eF x σ = true
 ·rw [if_pos hs]
  exact Qo hs
 ·rw [if_neg hs] at h
  simp at h
theorem kV.fromLeft {m : Tr → ByteArray → SM Tr} (hm : ∀ a b, kV T Eq (m a b) (m a b)) {l : List ByteArray} (hl : ∀ x ∈ l, T.No x) (x : Tr) : kV T Eq (dL m l x) (dL m l x) := by
 have hs : ∀ a : Tr, kV T (Y5 Eq) (aI l >>= fun o => match o with | some b => (m a b >>= fun y => Pure.pure (some y)) | none => Pure.pure none) (aI l >>= fun o => match o with | some b => (m a b >>= fun y => Pure.pure (some y)) | none => Pure.pure none) := by
  intro a
  refine (kV.takeAny hl).seq fun o => ?_
  cases o with
  | none => exact .pure' trivial
  | some b => exact (hm a b).seq fun y => .pure' rfl
 refine kV.while (V := Eq) (fun a b e => e ▸ hs a) (fun a => (hs a).st) (fun a => (hs a).mono) ?_ rfl
 intro a σ b hb
 have hr : ∀ o : Option ByteArray, o = (aI l σ).1 → ((match o with | some b => (m a b >>= fun y => Pure.pure (some y)) | none => (Pure.pure none : SM (Option Tr))) (aI l σ).2).1 = some b → ((match o with | some b => (m a b >>= fun y => Pure.pure (some y)) | none => (Pure.pure none : SM (Option Tr))) (aI l σ).2).2.left.length < σ.left.length := by
  intro o ho hb
  cases o with
  | none => exact nomatch hb
  | some c => exact Nat.lt_of_le_of_lt ((hm a c).mono _) (Oy ho.symm)
 exact hr _ rfl hb
theorem kV.each {α : Type} {r : SM α} (h : kV T Eq r r) {x : ByteArray} (hx : T.No x) (l : List α) : kV T Eq (Di x r l) (Di x r l) := by
 have hs : ∀ a : List α, kV T (Y5 Eq) (aB x >>= fun c => if c = true then (r >>= fun y => Pure.pure (some (a ++ [y]))) else Pure.pure none) (aB x >>= fun c => if c = true then (r >>= fun y => Pure.pure (some (a ++ [y]))) else Pure.pure none) := by
  intro a
  refine (kV.take hx).seq fun c => ?_
  cases c with
  | false => exact .pure' trivial
  | true => exact h.seq fun y => .pure' rfl
 refine kV.while (V := Eq) (fun a b e => e ▸ hs a) (fun a => (hs a).st) (fun a => (hs a).mono) ?_ rfl
 intro a σ b hb
 have hr : ∀ c : Bool, c = (aB x σ).1 → ((if c = true then (r >>= fun y => Pure.pure (some (a ++ [y]))) else (Pure.pure none : SM (Option (List α)))) (aB x σ).2).1 = some b → ((if c = true then (r >>= fun y => Pure.pure (some (a ++ [y]))) else (Pure.pure none : SM (Option (List α)))) (aB x σ).2).2.left.length < σ.left.length := by
  intro c hc hb
  cases c with
  | false => exact nomatch hb
  | true => exact Nat.lt_of_le_of_lt (h.mono _) (VW hc.symm)
 exact hr _ rfl hb
theorem kV.list {α : Type} {r : SM α} (h : kV T Eq r r) {x : ByteArray} (hx : T.No x) : kV T Eq (jW x r) (jW x r) := h.seq fun _ => h.each hx _
theorem kV.behind {α : Type} {r : SM α} (h : kV T Eq r r) {x : ByteArray} (hx : T.No x) : kV T Eq (fJ x r) (fJ x r) := (kV.take hx).seq fun _ => .ite (h.seq fun _ => .pure _) (.pure _)
theorem kV.inBrackets {α : Type} {r : SM α} (h : kV T Eq r r) : kV T Eq (bH r) (bH r) := (kV.want _).seq fun _ => h.seq fun _ => (kV.want _).seq fun _ => .pure _
def asked : List ByteArray := [NT, EN, iT, uh, uO, kZ, rH, nZ, vK, og, eX, sV, mJ, iU, w_all, eH, lg, jm, lJ, oh, mW, oq, BA, o8, lZ, fO, mM, qh, dJ, mP, kF, xA, jq, yX, vN, ER, uS, Gj, Gl, Gm, Gn, Gp, pJ]
structure Quiet (T : Tail) : Prop where
 k2 : T.h.1 ≠ 2
 k3 : T.h.1 ≠ 3
 no : ∀ x ∈ asked, T.No x
theorem Quiet.some (q : Quiet T) {l : List ByteArray} (h : ∀ x ∈ l, x ∈ asked) : ∀ x ∈ l, T.No x := fun x hx => q.no x (h x hx)
structure adE (T : Tail) (K : gG) : Prop where
 or : kV T Eq K.or K.or
 not : kV T Eq K.not K.not
 unary : kV T Eq K.unary K.unary
 parts : kV T Eq K.parts K.parts
section
variable {K : gG} (q : Quiet T) (h : adE T K)
include q
theorem Quiet.take {x : ByteArray} (hx : x ∈ asked) : kV T Eq (aB x) (aB x) := .take (q.no x hx)
theorem Quiet.sees {x : ByteArray} (hx : x ∈ asked) : kV T Eq (oN x) (oN x) := .sees (q.no x hx)
theorem Quiet.operands {r : SM Tr} (hr : kV T Eq r r) {l : List ByteArray} (hl : ∀ x ∈ l, x ∈ asked) : kV T Eq (fP r l) (fP r l) := hr.seq fun _ => .fromLeft (fun _ _ => hr.seq fun _ => .pure _) (q.some hl) _
include h
end
end
def MvL (R : Tr → Tr → Prop) : List Tr → List Tr → Prop
 | [], [] => True
 | x :: l, y :: m => R x y ∧ MvL R l m
 | _, _ => False
def MvS (d : Int) : Nat → Tr → Tr → Prop
 | 0, _, _ => False
 | n + 1, x, y => ∃ k a s nm es qs wh b c b' c', x = mkS k a s nm es qs wh b c ∧ y = mkS k (a + d) s nm es qs wh b' c' ∧ MvL (MvS d n) b b' ∧ MvL (MvS d n) c c'
structure abz (T : Tail) : Prop extends Quiet T where
 no2 : ∀ x ∈ [jP, uQ, Gi], T.No x
section
variable {T : Tail}
theorem kV.weak {α β : Type} {V W : α → β → Prop} {m : SM α} {m' : SM β} (h : kV T V m m') (hw : ∀ a b, V a b → W a b) : kV T W m m' := ⟨h.st, h.mono, fun σ σ' hR he => ⟨hw _ _ (h.sim σ σ' hR he).1, (h.sim σ σ' hR he).2⟩⟩
section
variable {K : gG} (q : abz T) (h : adE T K)
include q h
variable {K' : gG} (hl : adD K K') (hs : YG K) {n : Nat} (hB : kV T (MvL (MvS T.d n)) K.block K.block)
include hl hs hB
end
def Oz (σ : Sy) : Prop := BH σ.head.2.1 = 0 ∨ σ.head.1 ≠ 1
theorem Tail.R.pos {σ σ' : Sy} (h : T.R σ σ') : 0 < σ.left.length ∧ σ.left.length ≤ σ'.left.length := by
 obtain ⟨A, e, h1, _, _, h2, _⟩ := h
 simp [h1, h2]
theorem Tail.R.no {σ σ' : Sy} (h : T.R σ σ') (he : σ.head.1 ≠ 0) (hn : Oz σ) : Oz σ' := by
 have := (h.tail he).2
 unfold Oz at hn ⊢
 rw [this]
 exact hn
end
end Go.Proofs.YthogkmcahnkkoaaGreatDoor
