/- What is read of tokens behind which others stand in the end's place: the same, where those begin with nothing that is asked for. A text in brackets: its tokens, between brackets. Expressions and queries that are read of tokens behind which others stand in the end's place. An expression in brackets, in plain words. -/
import Derived.Test.YtailfiofcicloaaGreatDoorR19

namespace Go.Proofs.YtailfiofcicloaaGreatDoor

/-- A token that stands further behind. -/
def shT (d : Int) (t : Tk) : Tk := (t.1, t.2.1, t.2.2.1, t.2.2.2 + d)
/-- What stands in the end's place. -/
structure Tail where
  d : Int
  h : Tk
  r : List Tk
/-- Two readers at the same token, the second one with others in the end's place. -/
def Tail.R (T : Tail) (σ σ' : Sy) : Prop := ∃ A e, σ.left = A ++ [e] ∧ (e.1 = 0 ∧ ∀ a ∈ A, a.1 ≠ 0) ∧ e.2.1 = eB ∧ σ'.left = A.map (shT T.d) ++ T.h :: T.r ∧ σ.err = 0 ∧ σ'.err = 0
/-- The first of them is not this word or mark. -/
def Tail.No (T : Tail) (x : ByteArray) : Prop := (decide (T.h.2.1 = x) && (T.h.1 == 1 || T.h.1 == 4)) = false
structure Sim (T : Tail) {α β : Type} (V : α → β → Prop) (m : SM α) (m' : SM β) : Prop where
  st : Stick m
  mono : ∀ σ, (m σ).2.left.length ≤ σ.left.length
  sim : ∀ σ σ', T.R σ σ' → (m σ).2.err = 0 → V (m σ).1 (m' σ').1 ∧ T.R (m σ).2 (m' σ').2

theorem want_run (x : ByteArray) (σ : Sy) : wantS x σ = if seesB x σ = true then ((), ⟨σ.left.tail, σ.pl, σ.err⟩) else refuseS 10 σ := by
  show (fun r : Bool × Sy => (if r.1 = true then (Pure.pure () : SM Unit) else refuseS 10) r.2) (takeS x σ) = _
  unfold takeS
  by_cases h : seesB x σ = true
  · rw [if_pos h, if_pos h]; rfl
  · rw [if_neg h, if_neg h]; rfl
theorem kind_run {α : Type} (k : Int) (f g : SM α) (σ : Sy) : (takeKindS k >>= fun b => if b = true then f else g) σ = if σ.head.1 = k then f ⟨σ.left.tail, σ.pl, σ.err⟩ else g σ := by
  show (fun r : Bool × Sy => (if r.1 = true then f else g) r.2) (takeKindS k σ) = _
  unfold takeKindS
  by_cases h : σ.head.1 = k
  · rw [if_pos h, if_pos h]; rfl
  · rw [if_neg h, if_neg h]; rfl
section
variable {T : Tail}
theorem Sim.bind {α α' β β' : Type} {V : α → α' → Prop} {W : β → β' → Prop} {m : SM α} {m' : SM α'} {k : α → SM β} {k' : α' → SM β'} (h : Sim T V m m') (hs : ∀ a, Stick (k a)) (hm : ∀ a σ, (k a σ).2.left.length ≤ σ.left.length) (hk : ∀ a a', V a a' → Sim T W (k a) (k' a')) : Sim T W (m >>= k) (m' >>= k') := by
  refine ⟨h.st.bind hs, fun σ => Nat.le_trans (hm _ _) (h.mono σ), ?_⟩
  intro σ σ' hR hok
  rw [SM.bind_run] at hok ⊢
  rw [SM.bind_run]
  have h1 : (m σ).2.err = 0 := by
    by_cases hz : (m σ).2.err = 0
    · exact hz
    · exact absurd ((hs (m σ).1 _ hz).symm.trans hok) hz
  obtain ⟨hv, hr⟩ := h.sim σ σ' hR h1
  exact (hk _ _ hv).sim _ _ hr hok
theorem Sim.seq {α β β' : Type} {W : β → β' → Prop} {m m' : SM α} {k : α → SM β} {k' : α → SM β'} (h : Sim T Eq m m') (hk : ∀ a, Sim T W (k a) (k' a)) : Sim T W (m >>= k) (m' >>= k') :=
  h.bind (fun a => (hk a).st) (fun a => (hk a).mono) (fun a _ e => e ▸ hk a)
theorem Sim.pure' {α β : Type} {V : α → β → Prop} {a : α} {b : β} (h : V a b) : Sim T V (Pure.pure a) (Pure.pure b) := ⟨.pure a, fun _ => Nat.le_refl _, fun _ _ hR _ => ⟨h, hR⟩⟩
theorem Sim.pure {α : Type} (a : α) : Sim T Eq (Pure.pure a : SM α) (Pure.pure a) := .pure' rfl
theorem sees_lt {x : ByteArray} {σ : Sy} (h : seesB x σ = true) : σ.left.tail.length < σ.left.length := by
  obtain ⟨l, p, e⟩ := σ
  cases l with
  | nil => simp [seesB, Sy.head, endT] at h
  | cons a l => simp
theorem tail_le (l : List Tk) : l.tail.length ≤ l.length := by simp
/-- What is asked of both. -/
theorem Tail.R.sees {x : ByteArray} (hx : T.No x) {σ σ' : Sy} (hR : T.R σ σ') : seesB x σ = seesB x σ' := by
  obtain ⟨A, e, h1, he, hb, h2, _, _⟩ := hR
  cases A with
  | nil =>
    have hb' : seesB x σ = false := by simp [seesB, Sy.head, h1, he.1]
    rw [hb']
    simp only [seesB, Sy.head, h2]
    exact hx.symm
  | cons a A => simp [seesB, Sy.head, h1, h2, shT]
/-- What is taken of the first is taken of the second. -/
theorem Tail.R.tail {σ σ' : Sy} (hR : T.R σ σ') (h : σ.head.1 ≠ 0) : T.R ⟨σ.left.tail, σ.pl, σ.err⟩ ⟨σ'.left.tail, σ'.pl, σ'.err⟩ ∧ σ'.head = shT T.d σ.head := by
  obtain ⟨A, e, h1, he, hb, h2, h3, h4⟩ := hR
  cases A with
  | nil => exact absurd (by simp [Sy.head, h1, he.1]) h
  | cons a A => exact ⟨⟨A, e, by simp [h1], ⟨he.1, fun b hb => he.2 b (List.mem_cons_of_mem _ hb)⟩, hb, by simp [h2], h3, h4⟩, by simp [Sy.head, h1, h2]⟩
theorem sees_ne {x : ByteArray} {σ : Sy} (h : seesB x σ = true) : σ.head.1 ≠ 0 := by
  intro h0
  simp [seesB, h0] at h
theorem Sim.sees {x : ByteArray} (hx : T.No x) : Sim T Eq (seesS x) (seesS x) := ⟨.sees x, fun _ => Nat.le_refl _, fun _ _ hR _ => ⟨hR.sees hx, hR⟩⟩
theorem Sim.take {x : ByteArray} (hx : T.No x) : Sim T Eq (takeS x) (takeS x) := by
  refine ⟨.take x, ?_, ?_⟩
  · intro σ
    unfold takeS
    split
    · exact tail_le _
    · exact Nat.le_refl _
  · intro σ σ' hR _
    unfold takeS
    rw [← hR.sees hx]
    split
    · exact ⟨rfl, (hR.tail (sees_ne (by assumption))).1⟩
    · exact ⟨rfl, hR⟩
theorem Sim.takeAny {l : List ByteArray} (hl : ∀ x ∈ l, T.No x) : Sim T Eq (takeAnyS l) (takeAnyS l) := by
  refine ⟨.takeAny l, ?_, ?_⟩
  · intro σ
    induction l with
    | nil => exact Nat.le_refl _
    | cons x l ih =>
      unfold takeAnyS
      split
      · exact tail_le _
      · exact ih fun y hy => hl y (List.mem_cons_of_mem _ hy)
  · intro σ σ' hR hh
    clear hh
    induction l with
    | nil => exact ⟨rfl, hR⟩
    | cons x l ih =>
      unfold takeAnyS
      rw [← hR.sees (hl x (List.mem_cons_self ..))]
      split
      · exact ⟨rfl, (hR.tail (sees_ne (by assumption))).1⟩
      · exact ih (fun y hy => hl y (List.mem_cons_of_mem _ hy))
theorem refuse_err {e : Int} (he : e ≠ 0) (σ : Sy) : ((refuseS e) σ).2.err ≠ 0 := by
  unfold refuseS
  split
  · exact he
  · assumption
theorem Sim.refuse {e : Int} (he : e ≠ 0) {β : Type} {V : Unit → β → Prop} {m' : SM β} : Sim T V (refuseS e) m' :=
  ⟨.refuse e, fun σ => by unfold refuseS; split <;> simp, fun σ _ _ h => absurd h (refuse_err he σ)⟩
/-- A reader that always refuses. -/
theorem Sim.never {α β : Type} {V : α → β → Prop} {m : SM α} {m' : SM β} (h1 : Stick m) (h2 : ∀ σ, (m σ).2.left.length ≤ σ.left.length) (h3 : ∀ σ, (m σ).2.err ≠ 0) : Sim T V m m' := ⟨h1, h2, fun σ _ _ h => absurd h (h3 σ)⟩
theorem Sim.want (x : ByteArray) : Sim T Eq (wantS x) (wantS x) := by
  refine ⟨(Low.want x).a, ?_, ?_⟩
  · intro σ
    rw [want_run]
    split
    · exact tail_le _
    · simp only [refuseS]
      split <;> simp
  · intro σ σ' hR hok
    rw [want_run] at hok
    have hs : seesB x σ = true := by
      by_cases h : seesB x σ = true
      · exact h
      · rw [if_neg h] at hok
        exact absurd hok (refuse_err (by decide) σ)
    have ht := hR.tail (sees_ne hs)
    have hs' : seesB x σ' = true := by
      rw [← hs]
      simp [seesB, ht.2, shT]
    rw [want_run, want_run, if_pos hs, if_pos hs']
    exact ⟨rfl, ht.1⟩
/-- A token of a kind, if it is next. -/
def tokS (k : Int) : SM (Option Tk) := fun σ => if σ.head.1 = k then (some σ.head, ⟨σ.left.tail, σ.pl, σ.err⟩) else (none, σ)
/-- The same token, at another place. -/
def Tail.V (T : Tail) (a b : Option Tk) : Prop := b = a.map (shT T.d)
theorem Sim.tok {k : Int} (h0 : k ≠ 0) (hh : T.h.1 ≠ k) : Sim T T.V (tokS k) (tokS k) := by
  refine ⟨?_, ?_, ?_⟩
  · intro σ _
    unfold tokS
    split <;> rfl
  · intro σ
    unfold tokS
    split
    · exact tail_le _
    · exact Nat.le_refl _
  · intro σ σ' hR _
    by_cases hk : σ.head.1 = k
    · have ht := hR.tail (by rw [hk]; exact h0)
      have hk' : σ'.head.1 = k := by rw [ht.2]; exact hk
      simp only [tokS, hk, hk', if_true]
      exact ⟨by simp [Tail.V, ht.2], ht.1⟩
    · have hk' : ¬ σ'.head.1 = k := by
        obtain ⟨A, e, h1, he, hb, h2, h3, h4⟩ := hR
        cases A with
        | nil => simpa [Sy.head, h2] using hh
        | cons a A => simpa [Sy.head, h1, h2, shT] using hk
      simp only [tokS, hk, hk', if_false]
      exact ⟨rfl, hR⟩
theorem Stick.name : Stick nameS := Low.name.a
theorem Sim.name : Sim T Eq nameS nameS := by
  have hrun : ∀ σ : Sy, nameS σ = if wordB σ.head.2.1 = true ∨ ¬ σ.head.1 = 1 then (eB, ((refuseS 10) σ).2) else (σ.head.2.1, ⟨σ.left.tail, σ.pl, σ.err⟩) := by
    intro σ
    have h1 : nameS σ = (if wordB σ.head.2.1 = true then (refuseS 10 >>= fun _ => Pure.pure eB) else (takeKindS 1 >>= fun b => if b = true then Pure.pure σ.head.2.1 else (refuseS 10 >>= fun _ => Pure.pure eB)) : SM ByteArray) σ := rfl
    rw [h1]
    by_cases hw : wordB σ.head.2.1 = true
    · rw [if_pos hw, if_pos (.inl hw)]; rfl
    · rw [if_neg hw, kind_run]
      by_cases hk : σ.head.1 = 1
      · rw [if_pos hk, if_neg (by simp [hw, hk])]; rfl
      · rw [if_neg hk, if_pos (.inr hk)]; rfl
  refine ⟨.name, ?_, ?_⟩
  · intro σ
    rw [hrun]
    split
    · simp only [refuseS]
      split <;> simp
    · exact tail_le _
  · intro σ σ' hR hok
    rw [hrun] at hok
    by_cases hc : wordB σ.head.2.1 = true ∨ ¬ σ.head.1 = 1
    · rw [if_pos hc] at hok
      exact absurd hok (refuse_err (by decide) σ)
    · have h1 : σ.head.1 = 1 := by
        by_cases h : σ.head.1 = 1
        · exact h
        · exact absurd (.inr h) hc
      have ht := hR.tail (by rw [h1]; decide)
      have hc' : ¬ (wordB σ'.head.2.1 = true ∨ ¬ σ'.head.1 = 1) := by rw [ht.2]; exact hc
      rw [hrun, hrun, if_neg hc, if_neg hc']
      exact ⟨by simp [ht.2, shT], ht.1⟩
theorem Sim.number : Sim T Eq numberS numberS := by
  have hrun : ∀ σ : Sy, numberS σ = if ¬ σ.head.1 = 2 then (0, ((refuseS 10) σ).2) else (σ.head.2.2.1, ⟨σ.left.tail, σ.pl, σ.err⟩) := by
    intro σ
    have h1 : numberS σ = (takeKindS 2 >>= fun b => if b = true then Pure.pure σ.head.2.2.1 else (refuseS 10 >>= fun _ => Pure.pure 0) : SM Int) σ := rfl
    rw [h1, kind_run]
    by_cases hk : σ.head.1 = 2
    · rw [if_pos hk, if_neg (by simp [hk])]; rfl
    · rw [if_neg hk, if_pos hk]; rfl
  refine ⟨Low.number.a, ?_, ?_⟩
  · intro σ
    rw [hrun]
    split
    · simp only [refuseS]
      split <;> simp
    · exact tail_le _
  · intro σ σ' hR hok
    rw [hrun] at hok
    by_cases hc : ¬ σ.head.1 = 2
    · rw [if_pos hc] at hok
      exact absurd hok (refuse_err (by decide) σ)
    · have h1 : σ.head.1 = 2 := Classical.not_not.1 hc
      have ht := hR.tail (by rw [h1]; decide)
      have hc' : ¬ ¬ σ'.head.1 = 2 := by rw [ht.2]; exact hc
      rw [hrun, hrun, if_neg hc, if_neg hc']
      exact ⟨by simp [ht.2, shT], ht.1⟩
theorem Sim.ite {α β : Type} {V : α → β → Prop} {c : Prop} [Decidable c] {m n : SM α} {m' n' : SM β} (h : Sim T V m m') (h' : Sim T V n n') : Sim T V (if c then m else n) (if c then m' else n') := by
  split
  · exact h
  · exact h'
/-- What is done with the end of a round. -/
def OptV {α β : Type} (V : α → β → Prop) : Option α → Option β → Prop
  | none, none => True
  | some a, some b => V a b
  | _, _ => False
theorem Sim.loop {α β : Type} {V : α → β → Prop} {s : α → SM (Option α)} {s' : β → SM (Option β)} (h : ∀ a b, V a b → Sim T (OptV V) (s a) (s' b)) (hst : ∀ a, Stick (s a)) (hlt : ∀ a σ b, (s a σ).1 = some b → (s a σ).2.left.length < σ.left.length) :
    ∀ (f f' : Nat) (a : α) (b : β) (σ σ' : Sy), V a b → T.R σ σ' → σ.left.length ≤ f → σ.left.length ≤ f' → (loopS s f a σ).2.err = 0 → V (loopS s f a σ).1 (loopS s' f' b σ').1 ∧ T.R (loopS s f a σ).2 (loopS s' f' b σ').2 := by
  have hls : ∀ (f : Nat) (a : α), Stick (loopS s f a) := fun f a => (Low.loop (fun a => Low.refl (hst a)) f a).a
  intro f
  induction f with
  | zero =>
    intro f' a b σ σ' _ hR hf
    obtain ⟨A, e, h1, _⟩ := hR
    simp [h1] at hf
  | succ f ih =>
    intro f' a b σ σ' hV hR hf hf' hok
    obtain _ | f' := f'
    · obtain ⟨A, e, h1, _⟩ := hR
      simp [h1] at hf'
    · simp only [loopS, SM.bind_run] at hok ⊢
      have h1 : (s a σ).2.err = 0 := by
        by_cases hz : (s a σ).2.err = 0
        · exact hz
        · cases ho : (s a σ).1 with
          | none => rw [ho] at hok; exact hok
          | some y =>
            rw [ho] at hok
            exact absurd ((hls f y _ hz).symm.trans hok) hz
      obtain ⟨hv, hr⟩ := (h a b hV).sim σ σ' hR h1
      have hl := hlt a σ
      cases ho : (s a σ).1 with
      | none =>
        cases ho' : (s' b σ').1 with
        | none => exact ⟨hV, hr⟩
        | some z => rw [ho, ho'] at hv; exact hv.elim
      | some y =>
        cases ho' : (s' b σ').1 with
        | none => rw [ho, ho'] at hv; exact hv.elim
        | some z =>
          rw [ho, ho'] at hv
          rw [ho] at hok
          have := hl y ho
          exact ih f' y z _ _ hv hr (by omega) (by omega) hok
end
end Go.Proofs.YtailfiofcicloaaGreatDoor

namespace Go.Proofs.YtailfiofcicloaaGreatDoor

theorem one_kind {l : List UInt8} {kind : Int} {t : List UInt8} {n len : Nat} (h : oneL l = .inl (kind, t, n, len)) : kind ≠ 0 := by
  cases l with
  | nil => exact nomatch h
  | cons c r =>
    have h : oneC c r = .inl (kind, t, n, len) := h
    unfold oneC at h
    split at h
    · split at h
      · exact nomatch h
      · cases h; decide
    · split at h
      · split at h
        · exact nomatch h
        · cases h; decide
      · split at h
        · split at h
          · cases h; decide
          · exact nomatch h
        · split at h
          · cases h; decide
          · exact nomatch h
theorem scan_tail (o k : Nat) : (scanR [10, 41] o k).2.2 = 8 ∨ ∃ a b : Int, scanR [10, 41] o k = ([(4, ⟨#[41]⟩, 0, a), (0, ⟨#[]⟩, 0, b)], 0, 0) := by
  rw [scanR_blank (by decide), scanR_one (by decide) (by decide)]
  have h1 : oneL [41] = .inl (4, [41], 0, 1) := by decide
  rw [h1]
  simp only
  split
  · exact .inl rfl
  · show (aheadT _ (scanR [] _ _)).2.2 = 8 ∨ ∃ a b : Int, aheadT _ (scanR [] _ _) = _
    rw [scanR_nil]
    split
    · exact .inl (by simp [aheadT])
    · exact .inr ⟨_, _, rfl⟩
theorem scan_join (d : Nat) : ∀ (f : Nat) (l : List UInt8) (o k o' k' : Nat) (A : List Tk) (p : Nat), o' = o + d → scanF f l o k = (A, p, 0) →
    ∃ T e, A = T ++ [((0, ⟨#[]⟩, 0, e) : Tk)] ∧ (∀ x ∈ T, x.1 ≠ 0) ∧ ((scanR (l ++ [10, 41]) o' k').2.2 = 8 ∨ ∃ a b : Int, scanR (l ++ [10, 41]) o' k' = (T.map (shT d) ++ [(4, ⟨#[41]⟩, 0, a), (0, ⟨#[]⟩, 0, b)], 0, 0))
  | 0, _, _, _, _, _, A, p, _, h => by simp [scanF] at h
  | f + 1, [], o, k, o', k', A, p, ho, h => by
    unfold scanF at h
    split at h
    · simp at h
    · simp only [Prod.mk.injEq, and_true] at h
      exact ⟨[], (o : Int), h.1.symm, fun x hx => absurd hx (by simp), scan_tail o' k'⟩
  | f + 1, c :: r, o, k, o', k', A, p, ho, h => by
    unfold scanF at h
    split at h
    · rename_i hb
      obtain ⟨T, e, h1, h2, h3⟩ := scan_join d f r (o + 1) k (o' + 1) k' A p (by omega) h
      refine ⟨T, e, h1, h2, ?_⟩
      rw [List.cons_append, scanR_blank hb]
      exact h3
    · rename_i hb
      split at h
      · rename_i hm
        have hr := runN_app (p := fun d => d.toNat != 10) (c := 10) (by decide) [41] (c :: r)
        have hle := runN_le (fun d => d.toNat != 10) (c :: r)
        obtain ⟨T, e, h1, h2, h3⟩ := scan_join d f _ _ k (o' + runN (fun d => d.toNat != 10) (c :: r)) k' A p (by omega) h
        refine ⟨T, e, h1, h2, ?_⟩
        cases r with
        | nil => simp at hm
        | cons c' r =>
          have hc' : c'.toNat = 45 := by simpa using hm.2
          rw [List.cons_append, List.cons_append, scanR_line hm.1 hc', ← List.cons_append, ← List.cons_append, hr, List.drop_append_of_le_length hle]
          exact h3
      · rename_i hm
        split at h
        · simp at h
        · rename_i kind t n len e
          split at h
          · simp at h
          · unfold aheadT at h
            split at h
            · rename_i hz
              generalize hres : scanF f ((c :: r).drop len) (o + len) (k + 1) = res at h hz
              obtain ⟨A', p', e'⟩ := res
              dsimp only at h hz
              subst hz
              obtain ⟨T, en, hT, hg, h3⟩ := scan_join d f _ _ _ (o' + len) (k' + 1) A' p' (by omega) hres
              simp only [Prod.mk.injEq, and_true] at h
              refine ⟨(kind, ⟨t.toArray⟩, (n : Int), (o : Int)) :: T, en, by rw [← h.1, hT]; rfl, fun x hx => ?_, ?_⟩
              · rcases List.mem_cons.1 hx with rfl | hx
                · exact one_kind e
                · exact hg x hx
              · have hm' : ¬ (c.toNat = 45 ∧ (r ++ [10, 41]).head?.map UInt8.toNat = some 45) := by
                  cases r with
                  | nil => simp
                  | cons c' r => simpa using hm
                have hone := one_app [41] e
                rw [List.cons_append, scanR_one (by simpa using hb) hm', ← List.cons_append, hone]
                simp only
                split
                · exact .inl rfl
                · rw [List.drop_append_of_le_length (oneL_len e).2]
                  rcases h3 with h8 | ⟨a, b, hab⟩
                  · left
                    unfold aheadT
                    rw [if_neg (by rw [h8]; decide)]
                    exact h8
                  · right
                    refine ⟨a, b, ?_⟩
                    rw [hab]
                    simp [aheadT, shT, ho]
            · rename_i hz
              simp only [Prod.mk.injEq] at h
              exact absurd (by rw [h.2]) hz
end Go.Proofs.YtailfiofcicloaaGreatDoor

namespace Go.Proofs.YtailfiofcicloaaGreatDoor

section
variable {T : Tail}
theorem loop_mono {α : Type} {s : α → SM (Option α)} (h : ∀ a σ, (s a σ).2.left.length ≤ σ.left.length) : ∀ (f : Nat) (a : α) (σ : Sy), (loopS s f a σ).2.left.length ≤ σ.left.length
  | 0, _, _ => Nat.le_refl _
  | f + 1, a, σ => by
    simp only [loopS, SM.bind_run]
    cases ho : (s a σ).1 with
    | none => exact h a σ
    | some y => exact Nat.le_trans (loop_mono h f y _) (h a σ)
theorem Sim.while {α β : Type} {V : α → β → Prop} {s : α → SM (Option α)} {s' : β → SM (Option β)} (h : ∀ a b, V a b → Sim T (OptV V) (s a) (s' b)) (hst : ∀ a, Stick (s a)) (hm : ∀ a σ, (s a σ).2.left.length ≤ σ.left.length) (hlt : ∀ a σ b, (s a σ).1 = some b → (s a σ).2.left.length < σ.left.length) {a : α} {b : β} (hV : V a b) : Sim T V (whileS s a) (whileS s' b) := by
  refine ⟨(Low.while (fun a => Low.refl (hst a)) a).a, fun σ => loop_mono hm _ a σ, ?_⟩
  intro σ σ' hR hok
  have hl : σ.left.length ≤ σ'.left.length := by
    obtain ⟨A, e, h1, _, _, h2, _⟩ := hR
    simp [h1, h2]
  exact Sim.loop h hst hlt _ _ a b σ σ' hV hR (Nat.le_refl _) hl hok
theorem takeAny_lt {l : List ByteArray} {σ : Sy} {m : ByteArray} (h : (takeAnyS l σ).1 = some m) : (takeAnyS l σ).2.left.length < σ.left.length := by
  induction l with
  | nil => simp [takeAnyS] at h
  | cons x l ih =>
    unfold takeAnyS at h ⊢
    split
    · exact sees_lt (by assumption)
    · rename_i hs
      rw [if_neg hs] at h
      exact ih h
theorem takeS_lt {x : ByteArray} {σ : Sy} (h : (takeS x σ).1 = true) : (takeS x σ).2.left.length < σ.left.length := by
  unfold takeS at h ⊢
  by_cases hs : seesB x σ = true
  · rw [if_pos hs]
    exact sees_lt hs
  · rw [if_neg hs] at h
    simp at h
theorem Sim.fromLeft {m : Tr → ByteArray → SM Tr} (hm : ∀ a b, Sim T Eq (m a b) (m a b)) {l : List ByteArray} (hl : ∀ x ∈ l, T.No x) (x : Tr) : Sim T Eq (fromLeftS m l x) (fromLeftS m l x) := by
  have hs : ∀ a : Tr, Sim T (OptV Eq) (takeAnyS l >>= fun o => match o with | some b => (m a b >>= fun y => Pure.pure (some y)) | none => Pure.pure none) (takeAnyS l >>= fun o => match o with | some b => (m a b >>= fun y => Pure.pure (some y)) | none => Pure.pure none) := by
    intro a
    refine (Sim.takeAny hl).seq fun o => ?_
    cases o with
    | none => exact .pure' trivial
    | some b => exact (hm a b).seq fun y => .pure' rfl
  refine Sim.while (V := Eq) (fun a b e => e ▸ hs a) (fun a => (hs a).st) (fun a => (hs a).mono) ?_ rfl
  intro a σ b hb
  have hr : ∀ o : Option ByteArray, o = (takeAnyS l σ).1 → ((match o with | some b => (m a b >>= fun y => Pure.pure (some y)) | none => (Pure.pure none : SM (Option Tr))) (takeAnyS l σ).2).1 = some b → ((match o with | some b => (m a b >>= fun y => Pure.pure (some y)) | none => (Pure.pure none : SM (Option Tr))) (takeAnyS l σ).2).2.left.length < σ.left.length := by
    intro o ho hb
    cases o with
    | none => exact nomatch hb
    | some c => exact Nat.lt_of_le_of_lt ((hm a c).mono _) (takeAny_lt ho.symm)
  exact hr _ rfl hb
theorem Sim.each {α : Type} {r : SM α} (h : Sim T Eq r r) {x : ByteArray} (hx : T.No x) (l : List α) : Sim T Eq (eachS x r l) (eachS x r l) := by
  have hs : ∀ a : List α, Sim T (OptV Eq) (takeS x >>= fun c => if c = true then (r >>= fun y => Pure.pure (some (a ++ [y]))) else Pure.pure none) (takeS x >>= fun c => if c = true then (r >>= fun y => Pure.pure (some (a ++ [y]))) else Pure.pure none) := by
    intro a
    refine (Sim.take hx).seq fun c => ?_
    cases c with
    | false => exact .pure' trivial
    | true => exact h.seq fun y => .pure' rfl
  refine Sim.while (V := Eq) (fun a b e => e ▸ hs a) (fun a => (hs a).st) (fun a => (hs a).mono) ?_ rfl
  intro a σ b hb
  have hr : ∀ c : Bool, c = (takeS x σ).1 → ((if c = true then (r >>= fun y => Pure.pure (some (a ++ [y]))) else (Pure.pure none : SM (Option (List α)))) (takeS x σ).2).1 = some b → ((if c = true then (r >>= fun y => Pure.pure (some (a ++ [y]))) else (Pure.pure none : SM (Option (List α)))) (takeS x σ).2).2.left.length < σ.left.length := by
    intro c hc hb
    cases c with
    | false => exact nomatch hb
    | true => exact Nat.lt_of_le_of_lt (h.mono _) (takeS_lt hc.symm)
  exact hr _ rfl hb
theorem Sim.list {α : Type} {r : SM α} (h : Sim T Eq r r) {x : ByteArray} (hx : T.No x) : Sim T Eq (listS x r) (listS x r) := h.seq fun _ => h.each hx _
theorem Sim.behind {α : Type} {r : SM α} (h : Sim T Eq r r) {x : ByteArray} (hx : T.No x) : Sim T Eq (behindS x r) (behindS x r) := (Sim.take hx).seq fun _ => .ite (h.seq fun _ => .pure _) (.pure _)
theorem Sim.inBrackets {α : Type} {r : SM α} (h : Sim T Eq r r) : Sim T Eq (inBracketsS r) (inBracketsS r) := (Sim.want _).seq fun _ => h.seq fun _ => (Sim.want _).seq fun _ => .pure _

/-- All words and marks that expressions and queries ask for and can do without. -/
def asked : List ByteArray := [w_or, w_and, w_not, w_is, w_in, w_null, w_true, w_false, w_case, w_exists, w_select, w_union, w_except, w_intersect, w_all, w_distinct, w_from, w_where, w_group, w_having, w_order, w_limit, w_desc, w_left, w_join, w_visible, w_as, m_lp, m_comma, m_dot, m_star, m_plus, m_minus, m_bars, m_slash, m_pct, m_eq, m_ne, m_lt, m_le, m_gt, m_ge, m_colon]
structure Quiet (T : Tail) : Prop where
  k2 : T.h.1 ≠ 2
  k3 : T.h.1 ≠ 3
  no : ∀ x ∈ asked, T.No x
theorem Quiet.some (q : Quiet T) {l : List ByteArray} (h : ∀ x ∈ l, x ∈ asked) : ∀ x ∈ l, T.No x := fun x hx => q.no x (h x hx)

structure SimK (T : Tail) (K : Knot) : Prop where
  or : Sim T Eq K.or K.or
  not : Sim T Eq K.not K.not
  unary : Sim T Eq K.unary K.unary
  parts : Sim T Eq K.parts K.parts
/-- By the token that is next: what is done behind it, if it is of a kind, or else. -/
def onTok {α : Type} (k : Int) (f : Tk → SM α) (g : SM α) : SM α := fun σ => if σ.head.1 = k then f σ.head ⟨σ.left.tail, σ.pl, σ.err⟩ else g σ
theorem Sim.onTok {α : Type} {k : Int} (h0 : k ≠ 0) (hh : T.h.1 ≠ k) {f : Tk → SM α} {g : SM α} (hf : ∀ t, Sim T Eq (f t) (f (shT T.d t))) (hg : Sim T Eq g g) : Sim T Eq (onTok k f g) (onTok k f g) := by
  refine ⟨?_, ?_, ?_⟩
  · intro σ hσ
    unfold Go.Proofs.YtailfiofcicloaaGreatDoor.onTok
    split
    · exact (hf _).st _ hσ
    · exact hg.st _ hσ
  · intro σ
    unfold Go.Proofs.YtailfiofcicloaaGreatDoor.onTok
    split
    · exact Nat.le_trans ((hf _).mono _) (tail_le _)
    · exact hg.mono _
  · intro σ σ' hR hok
    unfold Go.Proofs.YtailfiofcicloaaGreatDoor.onTok at hok ⊢
    by_cases hk : σ.head.1 = k
    · have ht := hR.tail (by rw [hk]; exact h0)
      have hk' : σ'.head.1 = k := by rw [ht.2]; exact hk
      rw [if_pos hk] at hok ⊢
      rw [if_pos hk', ht.2]
      exact (hf _).sim _ _ ht.1 hok
    · have hk' : ¬ σ'.head.1 = k := by
        obtain ⟨A, e, h1, he, hb, h2, h3, h4⟩ := hR
        cases A with
        | nil => simpa [Sy.head, h2] using hh
        | cons a A => simpa [Sy.head, h1, h2, shT] using hk
      rw [if_neg hk] at hok ⊢
      rw [if_neg hk']
      exact hg.sim _ _ hR hok
def primRest (K : Knot) : SM Tr := do
  if ← takeS w_null then pure (mkE 1 0 eB eB [] [])
  else if ← takeS w_true then pure (mkE 2 1 eB eB [] [])
  else if ← takeS w_false then pure (mkE 2 0 eB eB [] [])
  else if ← takeS m_colon then do
    let s ← nameS
    pure (mkE 6 0 s eB [] [])
  else if ← takeS w_case then choiceS K
  else if ← takeS w_exists then do
    let q ← inBracketsS K.parts
    pure (mkE 12 0 eB eB [] [q])
  else if ← seesS m_lp then inBracketsS (bracketedS K)
  else namedS K
/-- A primary, by the token that it takes. -/
theorem prim_eq (K : Knot) : primS K = onTok 2 (fun t => Pure.pure (mkE 3 t.2.2.1 eB eB [] [])) (onTok 3 (fun t => Pure.pure (mkE 4 0 t.2.1 eB [] [])) (primRest K)) := by
  funext σ
  have h1 : primS K σ = (takeKindS 2 >>= fun b => if b = true then Pure.pure (mkE 3 σ.head.2.2.1 eB eB [] []) else (takeKindS 3 >>= fun b => if b = true then Pure.pure (mkE 4 0 σ.head.2.1 eB [] []) else primRest K) : SM Tr) σ := rfl
  rw [h1, kind_run]
  unfold onTok
  by_cases h2 : σ.head.1 = 2
  · rw [if_pos h2, if_pos h2]
  · rw [if_neg h2, if_neg h2, kind_run]

section
variable {K : Knot} (q : Quiet T) (h : SimK T K)
include q
theorem Quiet.take {x : ByteArray} (hx : x ∈ asked) : Sim T Eq (takeS x) (takeS x) := .take (q.no x hx)
theorem Quiet.sees {x : ByteArray} (hx : x ∈ asked) : Sim T Eq (seesS x) (seesS x) := .sees (q.no x hx)
theorem Quiet.operands {r : SM Tr} (hr : Sim T Eq r r) {l : List ByteArray} (hl : ∀ x ∈ l, x ∈ asked) : Sim T Eq (operandsS r l) (operandsS r l) := hr.seq fun _ => .fromLeft (fun _ _ => hr.seq fun _ => .pure _) (q.some hl) _
include h
omit q in
theorem sim_choice : Sim T Eq (choiceS K) (choiceS K) := (Sim.want _).seq fun _ => h.or.seq fun _ => (Sim.want _).seq fun _ => h.or.seq fun _ => (Sim.want _).seq fun _ => h.or.seq fun _ => (Sim.want _).seq fun _ => .pure _
theorem sim_gathered (s : ByteArray) : Sim T Eq (gatheredS K s) (gatheredS K s) := Sim.inBrackets (.ite ((q.take (by simp [asked])).seq fun _ => .ite (.pure _) (h.or.seq fun _ => .pure _)) (h.or.seq fun _ => .pure _))
theorem sim_named : Sim T Eq (namedS K) (namedS K) := Sim.name.seq fun _ => (q.take (by simp [asked])).seq fun _ => .ite (Sim.name.seq fun _ => .pure _) (.ite ((q.sees (by simp [asked])).seq fun _ => .ite ((sim_gathered q h _).seq fun _ => .pure _) (.pure _)) (.pure _))
theorem sim_bracketed : Sim T Eq (bracketedS K) (bracketedS K) := (q.sees (by simp [asked])).seq fun _ => .ite (h.parts.seq fun _ => .pure _) h.or
theorem sim_rest : Sim T Eq (primRest K) (primRest K) := (q.take (by simp [asked])).seq fun _ => .ite (.pure _) ((q.take (by simp [asked])).seq fun _ => .ite (.pure _) ((q.take (by simp [asked])).seq fun _ => .ite (.pure _) ((q.take (by simp [asked])).seq fun _ => .ite (Sim.name.seq fun _ => .pure _) ((q.take (by simp [asked])).seq fun _ => .ite (sim_choice h) ((q.take (by simp [asked])).seq fun _ => .ite (h.parts.inBrackets.seq fun _ => .pure _) ((q.sees (by simp [asked])).seq fun _ => .ite (sim_bracketed q h).inBrackets (sim_named q h)))))))
theorem sim_prim : Sim T Eq (primS K) (primS K) := by
  rw [prim_eq]
  exact .onTok (by decide) q.k2 (fun _ => .pure _) (.onTok (by decide) q.k3 (fun _ => .pure _) (sim_rest q h))
theorem sim_unary : Sim T Eq (unaryS K) (unaryS K) := (q.take (by simp [asked])).seq fun _ => .ite (h.unary.seq fun _ => .pure _) (sim_prim q h)
theorem sim_product : Sim T Eq (productS K) (productS K) := q.operands (sim_unary q h) (by simp [asked])
theorem sim_sum : Sim T Eq (sumS K) (sumS K) := q.operands (sim_product q h) (by simp [asked])
omit q in
theorem sim_in (x : Tr) (n : Int) : Sim T Eq (inS K x n) (inS K x n) := (Sim.want _).seq fun _ => h.parts.inBrackets.seq fun _ => .pure _
theorem sim_compared : Sim T Eq (comparedS K) (comparedS K) := (sim_sum q h).seq fun _ => (Sim.takeAny (q.some (by simp [asked]))).seq fun o => by
  cases o with
  | some m => exact (sim_sum q h).seq fun _ => .pure _
  | none => exact (q.take (by simp [asked])).seq fun _ => .ite ((q.take (by simp [asked])).seq fun _ => (Sim.want _).seq fun _ => .pure _) ((q.take (by simp [asked])).seq fun _ => .ite (sim_in h _ _) ((q.sees (by simp [asked])).seq fun _ => .ite (sim_in h _ _) (.pure _)))
theorem sim_not : Sim T Eq (notS K) (notS K) := (q.take (by simp [asked])).seq fun _ => .ite (h.not.seq fun _ => .pure _) (sim_compared q h)
theorem sim_and : Sim T Eq (andS K) (andS K) := q.operands (sim_not q h) (by simp [asked])
theorem sim_or : Sim T Eq (orS K) (orS K) := q.operands (sim_and q h) (by simp [asked])
omit q in
theorem sim_item : Sim T Eq (itemS K) (itemS K) := h.or.seq fun _ => (Sim.want _).seq fun _ => Sim.name.seq fun _ => .pure _
theorem sim_key : Sim T Eq (keyS K) (keyS K) := h.or.seq fun _ => (q.take (by simp [asked])).seq fun _ => .pure _
theorem sim_one : Sim T Eq (oneS K) (oneS K) := (q.sees (by simp [asked])).seq fun _ => .ite (h.parts.inBrackets.seq fun _ => (Sim.want _).seq fun _ => Sim.name.seq fun _ => .pure _) (Sim.name.seq fun _ => (q.take (by simp [asked])).seq fun _ => (q.take (by simp [asked])).seq fun _ => .ite (Sim.name.seq fun _ => .pure _) (.pure _))
theorem sim_join (x : Tr) (n : Int) : Sim T Eq (joinS K x n) (joinS K x n) := (sim_one q h).seq fun _ => (Sim.want _).seq fun _ => h.or.seq fun _ => .pure _
theorem sim_source : Sim T Eq (sourceS K) (sourceS K) := (sim_one q h).seq fun _ => .fromLeft (fun _ _ => .ite ((Sim.want _).seq fun _ => sim_join q h _ _) (sim_join q h _ _)) (q.some (by simp [asked])) _
theorem sim_group : Sim T Eq (groupS K) (groupS K) := (q.take (by simp [asked])).seq fun _ => .ite ((Sim.want _).seq fun _ => (h.or.list (q.no _ (by simp [asked]))).seq fun _ => (h.or.behind (q.no _ (by simp [asked]))).seq fun _ => .pure _) (.pure _)
theorem sim_order : Sim T Eq (orderS K) (orderS K) := (q.take (by simp [asked])).seq fun _ => .ite ((Sim.want _).seq fun _ => (sim_key q h).list (q.no _ (by simp [asked]))) (.pure _)
omit h in
theorem sim_limit : Sim T Eq limitS limitS := (q.take (by simp [asked])).seq fun _ => .ite .number (.pure _)
theorem sim_part : Sim T Eq (partS K) (partS K) := (q.sees (by simp [asked])).seq fun _ => .ite h.parts.inBrackets ((Sim.want _).seq fun _ => (q.take (by simp [asked])).seq fun _ => ((sim_item h).list (q.no _ (by simp [asked]))).seq fun _ => ((sim_source q h).behind (q.no _ (by simp [asked]))).seq fun _ => (h.or.behind (q.no _ (by simp [asked]))).seq fun _ => (sim_group q h).seq fun _ => (sim_order q h).seq fun _ => (sim_limit q).seq fun _ => .pure _)
omit h in
theorem sim_together (s : ByteArray) : Sim T Eq (togetherS s) (togetherS s) := .ite (.pure _) (.ite (.pure _) ((q.take (by simp [asked])).seq fun _ => .ite (.pure _) (.pure _)))
theorem sim_parts : Sim T Eq (partsS K) (partsS K) := (sim_part q h).seq fun _ => .fromLeft (fun _ _ => (sim_together q _).seq fun _ => (sim_part q h).seq fun _ => .pure _) (q.some (by simp [asked])) _
omit h in
theorem sim_knot : ∀ n : Nat, SimK T (knot n)
  | 0 => by
    have hd : ∀ {α : Type} (z : α), Sim T Eq (tooDeep z) (tooDeep z) := fun z => (Sim.refuse (by decide)).seq fun _ => .pure z
    exact ⟨hd _, hd _, hd _, hd _⟩
  | n + 1 => ⟨sim_or q (sim_knot n), sim_not q (sim_knot n), sim_unary q (sim_knot n), sim_parts q (sim_knot n)⟩
end
end
end Go.Proofs.YtailfiofcicloaaGreatDoor

namespace Go.Proofs.YtailfiofcicloaaGreatDoor

theorem sees_end {x : ByteArray} {σ : Sy} (h : σ.head.1 = 0) : seesB x σ = false := by simp [seesB, h]
theorem takeAny_none {l : List ByteArray} {σ : Sy} (h : ∀ x ∈ l, seesB x σ = false) : takeAnyS l σ = (none, σ) := by
  induction l with
  | nil => rfl
  | cons x l ih =>
    unfold takeAnyS
    rw [if_neg (by simp [h x (List.mem_cons_self ..)])]
    exact ih fun y hy => h y (List.mem_cons_of_mem _ hy)
theorem take_run {α : Type} (x : ByteArray) (f g : SM α) (σ : Sy) : (takeS x >>= fun b => if b = true then f else g) σ = if seesB x σ = true then f ⟨σ.left.tail, σ.pl, σ.err⟩ else g σ := by
  show (fun r : Bool × Sy => (if r.1 = true then f else g) r.2) (takeS x σ) = _
  unfold takeS
  by_cases h : seesB x σ = true
  · rw [if_pos h, if_pos h]; rfl
  · rw [if_neg h, if_neg h]; rfl
theorem sees_run {α : Type} (x : ByteArray) (f g : SM α) (σ : Sy) : (seesS x >>= fun b => if b = true then f else g) σ = if seesB x σ = true then f σ else g σ := by
  show (if seesB x σ = true then f else g) σ = _
  split <;> rfl
/-- Nothing is behind it. -/
theorem operands_end {r : SM Tr} {l : List ByteArray} {σ : Sy} (h : (r σ).2.head.1 = 0) : operandsS r l σ = r σ := by
  show fromLeftS _ l (r σ).1 (r σ).2 = _
  unfold fromLeftS whileS
  have hn : takeAnyS l (r σ).2 = (none, (r σ).2) := takeAny_none fun x _ => sees_end h
  cases (r σ).2.left.length with
  | zero => rfl
  | succ f =>
    simp only [loopS, SM.bind_run, hn]
    rfl
theorem operands_err {r : SM Tr} (hr : Stick r) {l : List ByteArray} {σ : Sy} (h : (r σ).2.err ≠ 0) : (operandsS r l σ).2.err = (r σ).2.err :=
  (Low.fromLeft (fun _ _ => (Low.refl hr).bind fun _ => .pure _) l _).a _ h

section
variable (K : Knot) (hK : LowK K K) {σ : Sy}
/-- What begins with neither not nor -, and has the end behind it, is what a primary is. -/
theorem or_end (h1 : seesB w_not σ = false) (h2 : seesB m_minus σ = false) (h : (primS K σ).2.head.1 = 0) : orS K σ = primS K σ := by
  have hu : unaryS K σ = primS K σ := by
    show (takeS m_minus >>= fun b => if b = true then _ else primS K) σ = _
    rw [take_run, if_neg (by simp [h2])]
  have hp : productS K σ = primS K σ := (operands_end (by rw [hu]; exact h)).trans hu
  have hs : sumS K σ = primS K σ := (operands_end (by rw [hp]; exact h)).trans hp
  have hc : comparedS K σ = primS K σ := by
    show (fun r : Option ByteArray × Sy => (match r.1 with
      | some mark => (sumS K >>= fun y => pure (binS (sumS K σ).1 mark y))
      | none => (takeS w_is >>= fun b => if b = true then (takeS w_not >>= fun n => wantS w_null >>= fun _ => pure (mkE 9 (if n then 1 else 0) eB eB [(sumS K σ).1] [])) else (takeS w_not >>= fun b => if b = true then inS K (sumS K σ).1 1 else (seesS w_in >>= fun b => if b = true then inS K (sumS K σ).1 0 else pure (sumS K σ).1)) : SM Tr)) r.2) (takeAnyS [m_eq, m_ne, m_lt, m_le, m_gt, m_ge] (sumS K σ).2) = _
    rw [hs, takeAny_none fun x _ => sees_end h]
    show (takeS w_is >>= fun b => if b = true then _ else _) (primS K σ).2 = _
    rw [take_run, if_neg (by simp [sees_end h]), take_run, if_neg (by simp [sees_end h]), sees_run, if_neg (by simp [sees_end h])]
    rfl
  have hn : notS K σ = primS K σ := by
    show (takeS w_not >>= fun b => if b = true then _ else comparedS K) σ = _
    rw [take_run, if_neg (by simp [h1]), hc]
  have ha : andS K σ = primS K σ := (operands_end (by rw [hn]; exact h)).trans hn
  exact (operands_end (by rw [ha]; exact h)).trans ha
include hK
/-- What begins with neither, and is refused as a primary. -/
theorem or_err (h1 : seesB w_not σ = false) (h2 : seesB m_minus σ = false) (h : (primS K σ).2.err ≠ 0) : (orS K σ).2.err = (primS K σ).2.err := by
  have hu : unaryS K σ = primS K σ := by
    show (takeS m_minus >>= fun b => if b = true then _ else primS K) σ = _
    rw [take_run, if_neg (by simp [h2])]
  have hp : (productS K σ).2.err = (primS K σ).2.err := (operands_err (low_unary hK).a (by rw [hu]; exact h)).trans (by rw [hu])
  have hs : (sumS K σ).2.err = (primS K σ).2.err := (operands_err (low_product hK).a (by rw [hp]; exact h)).trans hp
  have hc : (comparedS K σ).2.err = (primS K σ).2.err := by
    have hz : ∀ x : Tr, Stick (takeAnyS [m_eq, m_ne, m_lt, m_le, m_gt, m_ge] >>= fun o => match o with
      | some mark => (sumS K >>= fun y => pure (binS x mark y))
      | none => (takeS w_is >>= fun b => if b = true then (takeS w_not >>= fun n => wantS w_null >>= fun _ => pure (mkE 9 (if n then 1 else 0) eB eB [x] [])) else (takeS w_not >>= fun b => if b = true then inS K x 1 else (seesS w_in >>= fun b => if b = true then inS K x 0 else pure x)) : SM Tr)) := by
      intro x
      refine (Stick.takeAny _).bind fun o => ?_
      cases o with
      | some m => exact (low_sum hK).a.bind fun _ => .pure _
      | none => exact ((Low.take _).bind fun _ => .ite ((Low.take _).bind fun _ => (Low.want _).bind fun _ => .pure _) ((Low.take _).bind fun _ => .ite (low_in hK _ _) ((Low.sees _).bind fun _ => .ite (low_in hK _ _) (.pure _)))).a
    exact (hz (sumS K σ).1 (sumS K σ).2 (by rw [hs]; exact h)).trans hs
  have hn : (notS K σ).2.err = (primS K σ).2.err := by
    have : notS K σ = comparedS K σ := by
      show (takeS w_not >>= fun b => if b = true then _ else comparedS K) σ = _
      rw [take_run, if_neg (by simp [h1])]
    rw [this, hc]
  have ha : (andS K σ).2.err = (primS K σ).2.err := (operands_err (low_not hK).a (by rw [hn]; exact h)).trans hn
  exact (operands_err (low_and hK).a (by rw [ha]; exact h)).trans ha
end

theorem sees_other {x y : ByteArray} {σ : Sy} (h : σ.head.2.1 = y) (hxy : y ≠ x) : seesB x σ = false := by simp [seesB, h, hxy]
theorem prim_rest {K : Knot} {σ : Sy} (h2 : σ.head.1 ≠ 2) (h3 : σ.head.1 ≠ 3) : primS K σ = primRest K σ := by
  rw [prim_eq]
  unfold onTok
  rw [if_neg h2, if_neg h3]
theorem rest_lp {K : Knot} {σ : Sy} {y : ByteArray} (h : σ.head.2.1 = y) (hn : ∀ x ∈ [w_null, w_true, w_false, m_colon, w_case, w_exists], y ≠ x) : primRest K σ = if seesB m_lp σ = true then inBracketsS (bracketedS K) σ else namedS K σ := by
  have hs : ∀ x ∈ [w_null, w_true, w_false, m_colon, w_case, w_exists], ¬ seesB x σ = true := fun x hx => by simp [sees_other h (hn x hx)]
  show (takeS w_null >>= fun b => if b = true then _ else _) σ = _
  rw [take_run, if_neg (hs _ (by simp)), take_run, if_neg (hs _ (by simp)), take_run, if_neg (hs _ (by simp)), take_run, if_neg (hs _ (by simp)), take_run, if_neg (hs _ (by simp)), take_run, if_neg (hs _ (by simp)), sees_run]
theorem prim_lp {K : Knot} {σ : Sy} (hk : σ.head.1 = 4) (h : σ.head.2.1 = m_lp) : primS K σ = inBracketsS (bracketedS K) σ := by
  rw [prim_rest (by rw [hk]; decide) (by rw [hk]; decide), rest_lp h (by
    intro x hx
    simp only [List.mem_cons, List.not_mem_nil, or_false] at hx
    rcases hx with rfl | rfl | rfl | rfl | rfl | rfl <;> decide), if_pos (by simp [seesB, h, hk])]
theorem prim_select {K : Knot} (hK : LowK K K) {σ : Sy} (hs : seesB w_select σ = true) : (primS K σ).2.err ≠ 0 := by
  have hp := hs
  simp only [seesB, Bool.and_eq_true, decide_eq_true_eq, Bool.or_eq_true, beq_iff_eq] at hp
  obtain ⟨h, hk⟩ := hp
  rw [prim_rest (by rcases hk with hk | hk <;> rw [hk] <;> decide) (by rcases hk with hk | hk <;> rw [hk] <;> decide), rest_lp h (by
    intro x hx
    simp only [List.mem_cons, List.not_mem_nil, or_false] at hx
    rcases hx with rfl | rfl | rfl | rfl | rfl | rfl <;> decide), if_neg (by simp [sees_other (x := m_lp) h (by decide)])]
  have hw : wordB σ.head.2.1 = true := by rw [h]; decide
  have hn : (nameS σ).2.err ≠ 0 := by
    have h1 : nameS σ = (if wordB σ.head.2.1 = true then (refuseS 10 >>= fun _ => Pure.pure eB) else (takeKindS 1 >>= fun b => if b = true then Pure.pure σ.head.2.1 else (refuseS 10 >>= fun _ => Pure.pure eB)) : SM ByteArray) σ := rfl
    rw [h1, if_pos hw]
    exact refuse_err (by decide) σ
  have hst : ∀ s : ByteArray, Stick (takeS m_dot >>= fun b => if b = true then (nameS >>= fun t => pure (mkE 5 0 t s [] [])) else if gathersB s = true then (seesS m_lp >>= fun b => if b = true then (gatheredS K s >>= fun l => pure (mkE 15 0 s eB l [])) else pure (mkE 5 0 s eB [] [])) else (pure (mkE 5 0 s eB [] []) : SM Tr)) := fun s =>
    ((Low.take _).bind fun _ => .ite (Low.name.bind fun _ => .pure _) (.ite ((Low.sees _).bind fun _ => .ite ((low_gathered hK _).bind fun _ => .pure _) (.pure _)) (.pure _))).a
  have := hst (nameS σ).1 (nameS σ).2 hn
  show ((takeS m_dot >>= fun b => if b = true then (nameS >>= fun t => pure (mkE 5 0 t (nameS σ).1 [] [])) else if gathersB (nameS σ).1 = true then (seesS m_lp >>= fun b => if b = true then (gatheredS K (nameS σ).1 >>= fun l => pure (mkE 15 0 (nameS σ).1 eB l [])) else pure (mkE 5 0 (nameS σ).1 eB [] [])) else (pure (mkE 5 0 (nameS σ).1 eB [] []) : SM Tr)) (nameS σ).2).2.err ≠ 0
  rw [this]
  exact hn
theorem or_select {K : Knot} (hK : LowK K K) {σ : Sy} (hs : seesB w_select σ = true) : (orS K σ).2.err ≠ 0 := by
  have h : σ.head.2.1 = w_select := by
    simp only [seesB, Bool.and_eq_true, decide_eq_true_eq] at hs
    exact hs.1
  rw [or_err K hK (sees_other h (by decide)) (sees_other h (by decide)) (prim_select hK hs)]
  exact prim_select hK hs
/-- All that is read. -/
theorem whole_run {α : Type} (z : α) (read : SM α) (ts : List Tk) : wholeS z read (ts, 0, 0) = if (read ⟨ts, 0, 0⟩).2.err = 0 ∧ (read ⟨ts, 0, 0⟩).2.head.1 = 0 then ((read ⟨ts, 0, 0⟩).1, 0, 0) else if (read ⟨ts, 0, 0⟩).2.err = 0 then (z, (read ⟨ts, 0, 0⟩).2.head.2.2.2, 10) else (z, (read ⟨ts, 0, 0⟩).2.pl, (read ⟨ts, 0, 0⟩).2.err) := by
  have h1 : wholeS z read (ts, 0, 0) = (fun r : α × Sy => if r.2.err ≠ 0 then (z, r.2.pl, r.2.err) else (r.1, 0, 0)) ((fun p : α × Sy => (if p.2.head.1 ≠ 0 then (refuseS 10 >>= fun _ => pure p.1) else (pure p.1 : SM α)) p.2) (read ⟨ts, 0, 0⟩)) := rfl
  rw [h1]
  generalize read ⟨ts, 0, 0⟩ = p
  obtain ⟨x, τ⟩ := p
  by_cases hk : τ.head.1 = 0
  · by_cases he : τ.err = 0
    · show (fun r : α × Sy => if r.2.err ≠ 0 then (z, r.2.pl, r.2.err) else (r.1, 0, 0)) ((if τ.head.1 ≠ 0 then (refuseS 10 >>= fun _ => pure x) else (pure x : SM α)) τ) = _
      rw [if_neg (show ¬ (τ.head.1 ≠ 0) by simp [hk]), if_pos ⟨he, hk⟩]
      show (if τ.err ≠ 0 then (z, τ.pl, τ.err) else (x, 0, 0)) = _
      rw [if_neg (by simp [he])]
    · show (fun r : α × Sy => if r.2.err ≠ 0 then (z, r.2.pl, r.2.err) else (r.1, 0, 0)) ((if τ.head.1 ≠ 0 then (refuseS 10 >>= fun _ => pure x) else (pure x : SM α)) τ) = _
      rw [if_neg (by simp [hk]), if_neg (by simp [he]), if_neg he]
      show (if τ.err ≠ 0 then _ else _) = _
      rw [if_pos he]
      rfl
  · show (fun r : α × Sy => if r.2.err ≠ 0 then (z, r.2.pl, r.2.err) else (r.1, 0, 0)) ((if τ.head.1 ≠ 0 then (refuseS 10 >>= fun _ => pure x) else (pure x : SM α)) τ) = _
    rw [if_pos hk, if_neg (by simp [hk])]
    show (if ((refuseS 10) τ).2.err ≠ 0 then (z, ((refuseS 10) τ).2.pl, ((refuseS 10) τ).2.err) else (x, 0, 0)) = _
    rw [if_pos (refuse_err (by decide) τ)]
    unfold refuseS
    by_cases he : τ.err = 0
    · rw [if_pos he, if_pos he]
    · rw [if_neg he, if_neg he]
theorem asked_rp : ∀ x ∈ asked, m_rp ≠ x := by
  intro x hx
  simp only [asked, List.mem_cons, List.not_mem_nil, or_false] at hx
  rcases hx with rfl | rfl | rfl | rfl | rfl | rfl | rfl | rfl | rfl | rfl | rfl | rfl | rfl | rfl | rfl | rfl | rfl | rfl | rfl | rfl | rfl | rfl | rfl | rfl | rfl | rfl | rfl | rfl | rfl | rfl | rfl | rfl | rfl | rfl | rfl | rfl | rfl | rfl | rfl | rfl | rfl | rfl | rfl <;> decide
theorem round_quiet {d : Int} {rp : Tk} {r : List Tk} (hk : rp.1 = 4) (hx : rp.2.1 = m_rp) : Quiet ⟨d, rp, r⟩ := by
  refine ⟨by simp [hk], by simp [hk], ?_⟩
  intro x h
  simp only [Tail.No, hx, decide_eq_false (asked_rp x h), Bool.false_and]
/-- The tokens of an expression, in brackets: the expression, or too deep. -/
theorem round_pure {L : List Tk} {e lp rp e' : Tk} {d : Int} (he : e.1 = 0) (heb : e.2.1 = eB) (hL : ∀ a ∈ L, a.1 ≠ 0) (hlp : lp.1 = 4) (hlx : lp.2.1 = m_lp) (hrp : rp.1 = 4) (hrx : rp.2.1 = m_rp) (he' : e'.1 = 0) {n : Nat} {x : Tr}
    (hx : wholeS zE (knot (n + 2)).or (L ++ [e], 0, 0) = (x, 0, 0)) :
    (wholeS zE (knot (n + 2)).or (lp :: (L.map (shT d) ++ [rp, e']), 0, 0)).2.2 = 9 ∨ wholeS zE (knot (n + 2)).or (lp :: (L.map (shT d) ++ [rp, e']), 0, 0) = (x, 0, 0) := by
  have q : Quiet ⟨d, rp, [e']⟩ := round_quiet hrp hrx
  have hok : ((knot (n + 2)).or ⟨L ++ [e], 0, 0⟩).2.err = 0 ∧ ((knot (n + 2)).or ⟨L ++ [e], 0, 0⟩).2.head.1 = 0 ∧ ((knot (n + 2)).or ⟨L ++ [e], 0, 0⟩).1 = x := by
    rw [whole_run] at hx
    split at hx
    · rename_i h
      exact ⟨h.1, h.2, congrArg Prod.fst hx⟩
    · split at hx
      · exact absurd (congrArg (fun p => p.2.2) hx) (by simp)
      · rename_i h
        exact absurd (congrArg (fun p => p.2.2) hx) h
  obtain ⟨h1, h2, h3⟩ := hok
  have hR : Tail.R ⟨d, rp, [e']⟩ ⟨L ++ [e], 0, 0⟩ ⟨L.map (shT d) ++ [rp, e'], 0, 0⟩ := ⟨L, e, rfl, ⟨he, hL⟩, heb, rfl, rfl, rfl⟩
  have hsel : seesB w_select ⟨L.map (shT d) ++ [rp, e'], 0, 0⟩ = false := by
    rw [← hR.sees (q.no w_select (by simp [asked]))]
    cases hs : seesB w_select ⟨L ++ [e], 0, 0⟩
    · rfl
    · exact absurd h1 (or_select (low_self (n + 1)) hs)
  obtain ⟨hv, hr⟩ := (sim_knot q (n + 2)).or.sim _ _ hR h1
  have hz : ((knot (n + 2)).or ⟨L.map (shT d) ++ [rp, e'], 0, 0⟩).2.left = [rp, e'] ∧ ((knot (n + 2)).or ⟨L.map (shT d) ++ [rp, e'], 0, 0⟩).2.err = 0 := by
    obtain ⟨A, e2, a1, a2, a3, a4, a5, a6⟩ := hr
    cases A with
    | nil => exact ⟨a4, a6⟩
    | cons b A => exact absurd (by simpa [Sy.head, a1] using h2) (a2.2 b (List.mem_cons_self ..))
  have hprim : primS (knot (n + 1)) ⟨lp :: (L.map (shT d) ++ [rp, e']), 0, 0⟩ = (fun r : Tr × Sy => (r.1, ((wantS m_rp) r.2).2)) ((knot (n + 1)).or ⟨L.map (shT d) ++ [rp, e'], 0, 0⟩) := by
    rw [prim_lp (by simpa [Sy.head] using hlp) (by simpa [Sy.head] using hlx)]
    show (fun r : Tr × Sy => (r.1, ((wantS m_rp) r.2).2)) (bracketedS (knot (n + 1)) ((wantS m_lp) ⟨lp :: (L.map (shT d) ++ [rp, e']), 0, 0⟩).2) = _
    rw [want_run, if_pos (by simp [seesB, Sy.head, hlp, hlx])]
    show (fun r : Tr × Sy => (r.1, ((wantS m_rp) r.2).2)) ((seesS w_select >>= fun b => if b = true then _ else (knot (n + 1)).or) ⟨L.map (shT d) ++ [rp, e'], 0, 0⟩) = _
    rw [sees_run, if_neg (by simp [hsel])]
  have hs1 : seesB w_not ⟨lp :: (L.map (shT d) ++ [rp, e']), 0, 0⟩ = false := sees_other (y := m_lp) (by simpa [Sy.head] using hlx) (by decide)
  have hs2 : seesB m_minus ⟨lp :: (L.map (shT d) ++ [rp, e']), 0, 0⟩ = false := sees_other (y := m_lp) (by simpa [Sy.head] using hlx) (by decide)
  rcases (low_knot (n + 1)).or.c ⟨L.map (shT d) ++ [rp, e'], 0, 0⟩ rfl hz.2 with h9 | heq
  · left
    have hp9 : (primS (knot (n + 1)) ⟨lp :: (L.map (shT d) ++ [rp, e']), 0, 0⟩).2.err = 9 := by
      rw [hprim]
      exact ((Low.want m_rp).a _ (by rw [h9]; decide)).trans h9
    have ho9 : ((knot (n + 2)).or ⟨lp :: (L.map (shT d) ++ [rp, e']), 0, 0⟩).2.err = 9 := (or_err (knot (n + 1)) (low_self (n + 1)) hs1 hs2 (by rw [hp9]; decide)).trans hp9
    rw [whole_run, if_neg (by rw [ho9]; simp), if_neg (by rw [ho9]; decide)]
    exact ho9
  · right
    have hp : primS (knot (n + 1)) ⟨lp :: (L.map (shT d) ++ [rp, e']), 0, 0⟩ = (x, ⟨[e'], ((knot (n + 2)).or ⟨L.map (shT d) ++ [rp, e'], 0, 0⟩).2.pl, 0⟩) := by
      rw [hprim, heq]
      show (((knot (n + 2)).or ⟨L.map (shT d) ++ [rp, e'], 0, 0⟩).1, ((wantS m_rp) ((knot (n + 2)).or ⟨L.map (shT d) ++ [rp, e'], 0, 0⟩).2).2) = _
      rw [want_run, if_pos (by simp [seesB, Sy.head, hz.1, hrp, hrx]), ← hv, h3, hz.1, hz.2]
      rfl
    have ho : (knot (n + 2)).or ⟨lp :: (L.map (shT d) ++ [rp, e']), 0, 0⟩ = primS (knot (n + 1)) ⟨lp :: (L.map (shT d) ++ [rp, e']), 0, 0⟩ := or_end (knot (n + 1)) hs1 hs2 (by rw [hp]; simpa [Sy.head] using he')
    rw [whole_run, ho, hp, if_pos ⟨rfl, by simpa [Sy.head] using he'⟩]
end Go.Proofs.YtailfiofcicloaaGreatDoor
