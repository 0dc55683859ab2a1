/- Expressions and queries that are read of tokens behind which others stand in the end's place. Statements that are read of tokens behind which others stand in the end's place. The program's reader: statements, one behind the other; blocks at all levels. -/
import Derived.Test.YtckidlbmoalomaaGreatDoorJ24
import Derived.Test.YtckidlbmoalomaaGreatDoorJ11


namespace Go.Proofs.YtckidlbmoalomaaGreatDoor

section
variable {T : Tail}
theorem loop_mono {α : Type} {s : α → SM (Option α)} (h : ∀ a σ, (s a σ).2.left.length ≤ σ.left.length) : ∀ (f : Nat) (a : α) (σ : Sy), (loopS s f a σ).2.left.length ≤ σ.left.length
  | 0, _, _ => Nat.le_refl _
  | f + 1, a, σ => by
    simp only [loopS, SM.bind_run]
    cases ho : (s a σ).1 with
    | none => exact h a σ
    | some y => exact Nat.le_trans (loop_mono h f y _) (h a σ)
theorem Sim.while {α β : Type} {V : α → β → Prop} {s : α → SM (Option α)} {s' : β → SM (Option β)} (h : ∀ a b, V a b → Sim T (OptV V) (s a) (s' b)) (hst : ∀ a, Stick (s a)) (hm : ∀ a σ, (s a σ).2.left.length ≤ σ.left.length) (hlt : ∀ a σ b, (s a σ).1 = some b → (s a σ).2.left.length < σ.left.length) {a : α} {b : β} (hV : V a b) : Sim T V (whileS s a) (whileS s' b) := by
  refine ⟨(Low.while (fun a => Low.refl (hst a)) a).a, fun σ => loop_mono hm _ a σ, ?_⟩
  intro σ σ' hR hok
  have hl : σ.left.length ≤ σ'.left.length := by
    obtain ⟨A, e, h1, _, _, h2, _⟩ := hR
    simp [h1, h2]
  exact Sim.loop h hst hlt _ _ a b σ σ' hV hR (Nat.le_refl _) hl hok
theorem takeAny_lt {l : List ByteArray} {σ : Sy} {m : ByteArray} (h : (takeAnyS l σ).1 = some m) : (takeAnyS l σ).2.left.length < σ.left.length := by
  induction l with
  | nil => simp [takeAnyS] at h
  | cons x l ih =>
    unfold takeAnyS at h ⊢
    split
    · exact sees_lt (by assumption)
    · rename_i hs
      rw [if_neg hs] at h
      exact ih h
theorem takeS_lt {x : ByteArray} {σ : Sy} (h : (takeS x σ).1 = true) : (takeS x σ).2.left.length < σ.left.length := by
  unfold takeS at h ⊢
  by_cases hs : seesB x σ = true
  · rw [if_pos hs]
    exact sees_lt hs
  · rw [if_neg hs] at h
    simp at h
theorem Sim.fromLeft {m : Tr → ByteArray → SM Tr} (hm : ∀ a b, Sim T Eq (m a b) (m a b)) {l : List ByteArray} (hl : ∀ x ∈ l, T.No x) (x : Tr) : Sim T Eq (fromLeftS m l x) (fromLeftS m l x) := by
  have hs : ∀ a : Tr, Sim T (OptV Eq) (takeAnyS l >>= fun o => match o with | some b => (m a b >>= fun y => Pure.pure (some y)) | none => Pure.pure none) (takeAnyS l >>= fun o => match o with | some b => (m a b >>= fun y => Pure.pure (some y)) | none => Pure.pure none) := by
    intro a
    refine (Sim.takeAny hl).seq fun o => ?_
    cases o with
    | none => exact .pure' trivial
    | some b => exact (hm a b).seq fun y => .pure' rfl
  refine Sim.while (V := Eq) (fun a b e => e ▸ hs a) (fun a => (hs a).st) (fun a => (hs a).mono) ?_ rfl
  intro a σ b hb
  have hr : ∀ o : Option ByteArray, o = (takeAnyS l σ).1 → ((match o with | some b => (m a b >>= fun y => Pure.pure (some y)) | none => (Pure.pure none : SM (Option Tr))) (takeAnyS l σ).2).1 = some b → ((match o with | some b => (m a b >>= fun y => Pure.pure (some y)) | none => (Pure.pure none : SM (Option Tr))) (takeAnyS l σ).2).2.left.length < σ.left.length := by
    intro o ho hb
    cases o with
    | none => exact nomatch hb
    | some c => exact Nat.lt_of_le_of_lt ((hm a c).mono _) (takeAny_lt ho.symm)
  exact hr _ rfl hb
theorem Sim.each {α : Type} {r : SM α} (h : Sim T Eq r r) {x : ByteArray} (hx : T.No x) (l : List α) : Sim T Eq (eachS x r l) (eachS x r l) := by
  have hs : ∀ a : List α, Sim T (OptV Eq) (takeS x >>= fun c => if c = true then (r >>= fun y => Pure.pure (some (a ++ [y]))) else Pure.pure none) (takeS x >>= fun c => if c = true then (r >>= fun y => Pure.pure (some (a ++ [y]))) else Pure.pure none) := by
    intro a
    refine (Sim.take hx).seq fun c => ?_
    cases c with
    | false => exact .pure' trivial
    | true => exact h.seq fun y => .pure' rfl
  refine Sim.while (V := Eq) (fun a b e => e ▸ hs a) (fun a => (hs a).st) (fun a => (hs a).mono) ?_ rfl
  intro a σ b hb
  have hr : ∀ c : Bool, c = (takeS x σ).1 → ((if c = true then (r >>= fun y => Pure.pure (some (a ++ [y]))) else (Pure.pure none : SM (Option (List α)))) (takeS x σ).2).1 = some b → ((if c = true then (r >>= fun y => Pure.pure (some (a ++ [y]))) else (Pure.pure none : SM (Option (List α)))) (takeS x σ).2).2.left.length < σ.left.length := by
    intro c hc hb
    cases c with
    | false => exact nomatch hb
    | true => exact Nat.lt_of_le_of_lt (h.mono _) (takeS_lt hc.symm)
  exact hr _ rfl hb
theorem Sim.list {α : Type} {r : SM α} (h : Sim T Eq r r) {x : ByteArray} (hx : T.No x) : Sim T Eq (listS x r) (listS x r) := h.seq fun _ => h.each hx _
theorem Sim.behind {α : Type} {r : SM α} (h : Sim T Eq r r) {x : ByteArray} (hx : T.No x) : Sim T Eq (behindS x r) (behindS x r) := (Sim.take hx).seq fun _ => .ite (h.seq fun _ => .pure _) (.pure _)
theorem Sim.inBrackets {α : Type} {r : SM α} (h : Sim T Eq r r) : Sim T Eq (inBracketsS r) (inBracketsS r) := (Sim.want _).seq fun _ => h.seq fun _ => (Sim.want _).seq fun _ => .pure _

def asked : List ByteArray := [w_or, w_and, w_not, w_is, w_in, w_null, w_true, w_false, w_case, w_exists, w_select, w_union, w_except, w_intersect, w_all, w_distinct, w_from, w_where, w_group, w_having, w_order, w_limit, w_desc, w_left, w_join, w_visible, w_as, m_lp, m_comma, m_dot, m_star, m_plus, m_minus, m_bars, m_slash, m_pct, m_eq, m_ne, m_lt, m_le, m_gt, m_ge, m_colon]
structure Quiet (T : Tail) : Prop where
  k2 : T.h.1 ≠ 2
  k3 : T.h.1 ≠ 3
  no : ∀ x ∈ asked, T.No x
theorem Quiet.some (q : Quiet T) {l : List ByteArray} (h : ∀ x ∈ l, x ∈ asked) : ∀ x ∈ l, T.No x := fun x hx => q.no x (h x hx)

structure SimK (T : Tail) (K : Knot) : Prop where
  or : Sim T Eq K.or K.or
  not : Sim T Eq K.not K.not
  unary : Sim T Eq K.unary K.unary
  parts : Sim T Eq K.parts K.parts
def onTok {α : Type} (k : Int) (f : Tk → SM α) (g : SM α) : SM α := fun σ => if σ.head.1 = k then f σ.head ⟨σ.left.tail, σ.pl, σ.err⟩ else g σ
theorem Sim.onTok {α : Type} {k : Int} (h0 : k ≠ 0) (hh : T.h.1 ≠ k) {f : Tk → SM α} {g : SM α} (hf : ∀ t, Sim T Eq (f t) (f (shT T.d t))) (hg : Sim T Eq g g) : Sim T Eq (onTok k f g) (onTok k f g) := by
  refine ⟨?_, ?_, ?_⟩
  · intro σ hσ
    unfold Go.Proofs.YtckidlbmoalomaaGreatDoor.onTok
    split
    · exact (hf _).st _ hσ
    · exact hg.st _ hσ
  · intro σ
    unfold Go.Proofs.YtckidlbmoalomaaGreatDoor.onTok
    split
    · exact Nat.le_trans ((hf _).mono _) (tail_le _)
    · exact hg.mono _
  · intro σ σ' hR hok
    unfold Go.Proofs.YtckidlbmoalomaaGreatDoor.onTok at hok ⊢
    by_cases hk : σ.head.1 = k
    · have ht := hR.tail (by rw [hk]; exact h0)
      have hk' : σ'.head.1 = k := by rw [ht.2]; exact hk
      rw [if_pos hk] at hok ⊢
      rw [if_pos hk', ht.2]
      exact (hf _).sim _ _ ht.1 hok
    · have hk' : ¬ σ'.head.1 = k := by
        obtain ⟨A, e, h1, he, hb, h2, h3, h4⟩ := hR
        cases A with
        | nil => simpa [Sy.head, h2] using hh
        | cons a A => simpa [Sy.head, h1, h2, shT] using hk
      rw [if_neg hk] at hok ⊢
      rw [if_neg hk']
      exact hg.sim _ _ hR hok
def primRest (K : Knot) : SM Tr := do
  if ← takeS w_null then pure (mkE 1 0 eB eB [] [])
  else if ← takeS w_true then pure (mkE 2 1 eB eB [] [])
  else if ← takeS w_false then pure (mkE 2 0 eB eB [] [])
  else if ← takeS m_colon then do
    let s ← nameS
    pure (mkE 6 0 s eB [] [])
  else if ← takeS w_case then choiceS K
  else if ← takeS w_exists then do
    let q ← inBracketsS K.parts
    pure (mkE 12 0 eB eB [] [q])
  else if ← seesS m_lp then inBracketsS (bracketedS K)
  else namedS K
theorem prim_eq (K : Knot) : primS K = onTok 2 (fun t => Pure.pure (mkE 3 t.2.2.1 eB eB [] [])) (onTok 3 (fun t => Pure.pure (mkE 4 0 t.2.1 eB [] [])) (primRest K)) := by
  funext σ
  have h1 : primS K σ = (takeKindS 2 >>= fun b => if b = true then Pure.pure (mkE 3 σ.head.2.2.1 eB eB [] []) else (takeKindS 3 >>= fun b => if b = true then Pure.pure (mkE 4 0 σ.head.2.1 eB [] []) else primRest K) : SM Tr) σ := rfl
  rw [h1, kind_run]
  unfold onTok
  by_cases h2 : σ.head.1 = 2
  · rw [if_pos h2, if_pos h2]
  · rw [if_neg h2, if_neg h2, kind_run]

section
variable {K : Knot} (q : Quiet T) (h : SimK T K)
include q
theorem Quiet.take {x : ByteArray} (hx : x ∈ asked) : Sim T Eq (takeS x) (takeS x) := .take (q.no x hx)
theorem Quiet.sees {x : ByteArray} (hx : x ∈ asked) : Sim T Eq (seesS x) (seesS x) := .sees (q.no x hx)
theorem Quiet.operands {r : SM Tr} (hr : Sim T Eq r r) {l : List ByteArray} (hl : ∀ x ∈ l, x ∈ asked) : Sim T Eq (operandsS r l) (operandsS r l) := hr.seq fun _ => .fromLeft (fun _ _ => hr.seq fun _ => .pure _) (q.some hl) _
include h
omit q in
theorem sim_choice : Sim T Eq (choiceS K) (choiceS K) := (Sim.want _).seq fun _ => h.or.seq fun _ => (Sim.want _).seq fun _ => h.or.seq fun _ => (Sim.want _).seq fun _ => h.or.seq fun _ => (Sim.want _).seq fun _ => .pure _
theorem sim_gathered (s : ByteArray) : Sim T Eq (gatheredS K s) (gatheredS K s) := Sim.inBrackets (.ite ((q.take (by simp [asked])).seq fun _ => .ite (.pure _) (h.or.seq fun _ => .pure _)) (h.or.seq fun _ => .pure _))
theorem sim_named : Sim T Eq (namedS K) (namedS K) := Sim.name.seq fun _ => (q.take (by simp [asked])).seq fun _ => .ite (Sim.name.seq fun _ => .pure _) (.ite ((q.sees (by simp [asked])).seq fun _ => .ite ((sim_gathered q h _).seq fun _ => .pure _) (.pure _)) (.pure _))
theorem sim_bracketed : Sim T Eq (bracketedS K) (bracketedS K) := (q.sees (by simp [asked])).seq fun _ => .ite (h.parts.seq fun _ => .pure _) h.or
theorem sim_rest : Sim T Eq (primRest K) (primRest K) := (q.take (by simp [asked])).seq fun _ => .ite (.pure _) ((q.take (by simp [asked])).seq fun _ => .ite (.pure _) ((q.take (by simp [asked])).seq fun _ => .ite (.pure _) ((q.take (by simp [asked])).seq fun _ => .ite (Sim.name.seq fun _ => .pure _) ((q.take (by simp [asked])).seq fun _ => .ite (sim_choice h) ((q.take (by simp [asked])).seq fun _ => .ite (h.parts.inBrackets.seq fun _ => .pure _) ((q.sees (by simp [asked])).seq fun _ => .ite (sim_bracketed q h).inBrackets (sim_named q h)))))))
theorem sim_prim : Sim T Eq (primS K) (primS K) := by
  rw [prim_eq]
  exact .onTok (by decide) q.k2 (fun _ => .pure _) (.onTok (by decide) q.k3 (fun _ => .pure _) (sim_rest q h))
theorem sim_unary : Sim T Eq (unaryS K) (unaryS K) := (q.take (by simp [asked])).seq fun _ => .ite (h.unary.seq fun _ => .pure _) (sim_prim q h)
theorem sim_product : Sim T Eq (productS K) (productS K) := q.operands (sim_unary q h) (by simp [asked])
theorem sim_sum : Sim T Eq (sumS K) (sumS K) := q.operands (sim_product q h) (by simp [asked])
omit q in
theorem sim_in (x : Tr) (n : Int) : Sim T Eq (inS K x n) (inS K x n) := (Sim.want _).seq fun _ => h.parts.inBrackets.seq fun _ => .pure _
theorem sim_compared : Sim T Eq (comparedS K) (comparedS K) := (sim_sum q h).seq fun _ => (Sim.takeAny (q.some (by simp [asked]))).seq fun o => by
  cases o with
  | some m => exact (sim_sum q h).seq fun _ => .pure _
  | none => exact (q.take (by simp [asked])).seq fun _ => .ite ((q.take (by simp [asked])).seq fun _ => (Sim.want _).seq fun _ => .pure _) ((q.take (by simp [asked])).seq fun _ => .ite (sim_in h _ _) ((q.sees (by simp [asked])).seq fun _ => .ite (sim_in h _ _) (.pure _)))
theorem sim_not : Sim T Eq (notS K) (notS K) := (q.take (by simp [asked])).seq fun _ => .ite (h.not.seq fun _ => .pure _) (sim_compared q h)
theorem sim_and : Sim T Eq (andS K) (andS K) := q.operands (sim_not q h) (by simp [asked])
theorem sim_or : Sim T Eq (orS K) (orS K) := q.operands (sim_and q h) (by simp [asked])
omit q in
theorem sim_item : Sim T Eq (itemS K) (itemS K) := h.or.seq fun _ => (Sim.want _).seq fun _ => Sim.name.seq fun _ => .pure _
theorem sim_key : Sim T Eq (keyS K) (keyS K) := h.or.seq fun _ => (q.take (by simp [asked])).seq fun _ => .pure _
theorem sim_one : Sim T Eq (oneS K) (oneS K) := (q.sees (by simp [asked])).seq fun _ => .ite (h.parts.inBrackets.seq fun _ => (Sim.want _).seq fun _ => Sim.name.seq fun _ => .pure _) (Sim.name.seq fun _ => (q.take (by simp [asked])).seq fun _ => (q.take (by simp [asked])).seq fun _ => .ite (Sim.name.seq fun _ => .pure _) (.pure _))
theorem sim_join (x : Tr) (n : Int) : Sim T Eq (joinS K x n) (joinS K x n) := (sim_one q h).seq fun _ => (Sim.want _).seq fun _ => h.or.seq fun _ => .pure _
theorem sim_source : Sim T Eq (sourceS K) (sourceS K) := (sim_one q h).seq fun _ => .fromLeft (fun _ _ => .ite ((Sim.want _).seq fun _ => sim_join q h _ _) (sim_join q h _ _)) (q.some (by simp [asked])) _
theorem sim_group : Sim T Eq (groupS K) (groupS K) := (q.take (by simp [asked])).seq fun _ => .ite ((Sim.want _).seq fun _ => (h.or.list (q.no _ (by simp [asked]))).seq fun _ => (h.or.behind (q.no _ (by simp [asked]))).seq fun _ => .pure _) (.pure _)
theorem sim_order : Sim T Eq (orderS K) (orderS K) := (q.take (by simp [asked])).seq fun _ => .ite ((Sim.want _).seq fun _ => (sim_key q h).list (q.no _ (by simp [asked]))) (.pure _)
omit h in
theorem sim_limit : Sim T Eq limitS limitS := (q.take (by simp [asked])).seq fun _ => .ite .number (.pure _)
theorem sim_part : Sim T Eq (partS K) (partS K) := (q.sees (by simp [asked])).seq fun _ => .ite h.parts.inBrackets ((Sim.want _).seq fun _ => (q.take (by simp [asked])).seq fun _ => ((sim_item h).list (q.no _ (by simp [asked]))).seq fun _ => ((sim_source q h).behind (q.no _ (by simp [asked]))).seq fun _ => (h.or.behind (q.no _ (by simp [asked]))).seq fun _ => (sim_group q h).seq fun _ => (sim_order q h).seq fun _ => (sim_limit q).seq fun _ => .pure _)
omit h in
theorem sim_together (s : ByteArray) : Sim T Eq (togetherS s) (togetherS s) := .ite (.pure _) (.ite (.pure _) ((q.take (by simp [asked])).seq fun _ => .ite (.pure _) (.pure _)))
theorem sim_parts : Sim T Eq (partsS K) (partsS K) := (sim_part q h).seq fun _ => .fromLeft (fun _ _ => (sim_together q _).seq fun _ => (sim_part q h).seq fun _ => .pure _) (q.some (by simp [asked])) _
omit h in
theorem sim_knot : ∀ n : Nat, SimK T (knot n)
  | 0 => by
    have hd : ∀ {α : Type} (z : α), Sim T Eq (tooDeep z) (tooDeep z) := fun z => (Sim.refuse (by decide)).seq fun _ => .pure z
    exact ⟨hd _, hd _, hd _, hd _⟩
  | n + 1 => ⟨sim_or q (sim_knot n), sim_not q (sim_knot n), sim_unary q (sim_knot n), sim_parts q (sim_knot n)⟩
end
end
end Go.Proofs.YtckidlbmoalomaaGreatDoor


namespace Go.Proofs.YtckidlbmoalomaaGreatDoor

def MvL (R : Tr → Tr → Prop) : List Tr → List Tr → Prop
  | [], [] => True
  | x :: l, y :: m => R x y ∧ MvL R l m
  | _, _ => False
def MvS (d : Int) : Nat → Tr → Tr → Prop
  | 0, _, _ => False
  | n + 1, x, y => ∃ k a s nm es qs wh b c b' c', x = mkS k a s nm es qs wh b c ∧ y = mkS k (a + d) s nm es qs wh b' c' ∧ MvL (MvS d n) b b' ∧ MvL (MvS d n) c c'
theorem MvL.app {R : Tr → Tr → Prop} : ∀ {a a' b b' : List Tr}, MvL R a a' → MvL R b b' → MvL R (a ++ b) (a' ++ b')
  | [], [], _, _, _, h => h
  | _ :: _, _ :: _, _, _, h, h' => ⟨h.1, MvL.app h.2 h'⟩
  | [], _ :: _, _, _, h, _ => h.elim
  | _ :: _, [], _, _, h, _ => h.elim
structure QuietS (T : Tail) : Prop extends Quiet T where
  no2 : ∀ x ∈ [w_else, w_values, m_rp], T.No x
section
variable {T : Tail}
section
variable {K : Knot} (q : QuietS T) (h : SimK T K)
include q h
omit q in
theorem sim_assigned : Sim T Eq (assignedS K) (assignedS K) := Sim.name.seq fun _ => (Sim.want _).seq fun _ => h.or.seq fun _ => .pure _
theorem sim_where : Sim T Eq (whereS K) (whereS K) := h.or.behind (q.no _ (by simp [asked]))
omit h in
theorem Sim.listIn {α : Type} {r : SM α} (hr : Sim T Eq r r) : Sim T Eq (listInBracketsS r) (listInBracketsS r) := by
  have := q
  exact Sim.inBrackets ((Sim.sees (q.no2 _ (by simp))).seq fun _ => .ite (.pure _) (hr.list (q.no _ (by simp [asked]))))
omit q h in
theorem mvS_plain {d : Int} {n : Nat} (k a : Int) (s : ByteArray) (nm es qs wh : List Tr) : MvS d (n + 1) (mkS k a s nm es qs wh [] []) (mkS k (a + d) s nm es qs wh [] []) := ⟨k, a, s, nm, es, qs, wh, [], [], [], [], rfl, rfl, trivial, trivial⟩
theorem sim_plain (n : Nat) (k a : Int) : Sim T (MvS T.d (n + 1)) (plainS K k a) (plainS K k (a + T.d)) := by
  unfold plainS
  refine .ite ((sim_assigned h).seq fun _ => .pure' (mvS_plain ..)) (.ite (Sim.name.seq fun _ => .pure' (mvS_plain ..)) (.ite (Sim.name.seq fun _ => h.or.seq fun _ => .pure' (mvS_plain ..)) (.ite ?_ (.ite ?_ (.ite ?_ (.ite ?_ (.pure' (mvS_plain ..))))))))
  · exact (Sim.want _).seq fun _ => Sim.name.seq fun _ => (Sim.take (q.no2 _ (by simp))).seq fun _ => .ite ((h.or.list (q.no _ (by simp [asked]))).inBrackets.seq fun _ => .pure' (mvS_plain ..)) (h.parts.seq fun _ => .pure' (mvS_plain ..))
  · exact Sim.name.seq fun _ => (Sim.want _).seq fun _ => ((sim_assigned h).list (q.no _ (by simp [asked]))).seq fun _ => (sim_where q h).seq fun _ => .pure' (mvS_plain ..)
  · exact (Sim.want _).seq fun _ => Sim.name.seq fun _ => (sim_where q h).seq fun _ => .pure' (mvS_plain ..)
  · exact Sim.name.seq fun _ => (Sim.listIn q h.or).seq fun _ => .pure' (mvS_plain ..)
variable {K' : Knot} (hl : LowK K K') (hs : ShrK K) {n : Nat} (hB : Sim T (MvL (MvS T.d n)) K.block K.block)
include hl hs hB
theorem sim_fill (k a : Int) : Sim T (MvS T.d (n + 1)) (fillS K k a) (fillS K k (a + T.d)) := by
  unfold fillS
  refine .ite (h.or.seq fun x => ?_) (.ite (h.or.seq fun x => ?_) (.ite ((Sim.name.list (q.no _ (by simp [asked]))).seq fun l => (Sim.want _).seq fun _ => h.parts.seq fun q1 => ?_) (.ite ?_ ?_)))
  · exact hB.bind (fun b => ((Low.take _).bind fun _ => .ite (hl.block.bind fun _ => .pure _) (.pure _)).a) (fun b σ => ((Shr.take _).bind fun _ => .ite (hs.block.bind fun _ => .pure _) (.pure _)) σ) fun b b' hb => (Sim.take (q.no2 _ (by simp))).seq fun _ => .ite (hB.bind (fun _ => .pure _) (fun _ _ => Nat.le_refl _) fun c c' hc => .pure' ⟨_, _, _, _, _, _, _, _, _, _, _, rfl, rfl, hb, hc⟩) (.pure' ⟨_, _, _, _, _, _, _, _, _, _, _, rfl, rfl, hb, trivial⟩)
  · exact hB.bind (fun _ => .pure _) (fun _ _ => Nat.le_refl _) fun b b' hb => .pure' ⟨_, _, _, _, _, _, _, _, _, _, _, rfl, rfl, hb, trivial⟩
  · exact hB.bind (fun _ => .pure _) (fun _ _ => Nat.le_refl _) fun b b' hb => .pure' ⟨_, _, _, _, _, _, _, _, _, _, _, rfl, rfl, hb, trivial⟩
  · exact hB.bind (fun b => ((Low.want _).bind fun _ => hl.block.bind fun _ => .pure _).a) (fun b σ => ((Shr.want _).bind fun _ => hs.block.bind fun _ => .pure _) σ) fun b b' hb => (Sim.want _).seq fun _ => hB.bind (fun _ => .pure _) (fun _ _ => Nat.le_refl _) fun c c' hc => .pure' ⟨_, _, _, _, _, _, _, _, _, _, _, rfl, rfl, hb, hc⟩
  · exact (sim_plain q h n k a).bind (fun s => ((Low.want _).bind fun _ => .pure _).a) (fun s σ => ((Shr.want _).bind fun _ => .pure _) σ) fun s s' hs => (Sim.want _).seq fun _ => .pure' hs
end
def stepS (K : Knot) (l : List Tr) : SM (Option (List Tr)) := do
  let t ← headM
  if stmtKindN t.2.1 = 0 then pure none
  else if ← takeKindS 1 then do
    let s ← fillS K (stmtKindN t.2.1) t.2.2.2
    pure (some (l ++ [s]))
  else pure none
theorem stmts_eq (K : Knot) (σ : Sy) : stmtsS K σ = loopS (stepS K) σ.left.length [] σ := rfl
def NoStmt (σ : Sy) : Prop := stmtKindN σ.head.2.1 = 0 ∨ σ.head.1 ≠ 1
theorem step_no {K : Knot} {l : List Tr} {σ : Sy} (h : NoStmt σ) : stepS K l σ = (none, σ) := by
  have h1 : stepS K l σ = (if stmtKindN σ.head.2.1 = 0 then Pure.pure none else (takeKindS 1 >>= fun b => if b = true then (fillS K (stmtKindN σ.head.2.1) σ.head.2.2.2 >>= fun s => Pure.pure (some (l ++ [s]))) else Pure.pure none) : SM (Option (List Tr))) σ := rfl
  rw [h1]
  by_cases h0 : stmtKindN σ.head.2.1 = 0
  · rw [if_pos h0]; rfl
  · rw [if_neg h0, kind_run, if_neg (h.resolve_left h0)]; rfl
theorem step_yes {K : Knot} {l : List Tr} {σ : Sy} (h : ¬ NoStmt σ) : stepS K l σ = (some (l ++ [(fillS K (stmtKindN σ.head.2.1) σ.head.2.2.2 ⟨σ.left.tail, σ.pl, σ.err⟩).1]), (fillS K (stmtKindN σ.head.2.1) σ.head.2.2.2 ⟨σ.left.tail, σ.pl, σ.err⟩).2) := by
  have h1 : stepS K l σ = (if stmtKindN σ.head.2.1 = 0 then Pure.pure none else (takeKindS 1 >>= fun b => if b = true then (fillS K (stmtKindN σ.head.2.1) σ.head.2.2.2 >>= fun s => Pure.pure (some (l ++ [s]))) else Pure.pure none) : SM (Option (List Tr))) σ := rfl
  have h2 : stmtKindN σ.head.2.1 ≠ 0 := fun e => h (.inl e)
  have h3 : σ.head.1 = 1 := Classical.not_not.1 fun e => h (.inr e)
  rw [h1, if_neg h2, kind_run, if_pos h3]
  rfl
theorem loop_no {K : Knot} {f : Nat} {l : List Tr} {σ : Sy} (h : NoStmt σ) : loopS (stepS K) f l σ = (l, σ) := by
  cases f with
  | zero => rfl
  | succ f => simp only [loopS, SM.bind_run, step_no h]; rfl
theorem loop_yes {K : Knot} {f : Nat} {l : List Tr} {σ : Sy} (h : ¬ NoStmt σ) : loopS (stepS K) (f + 1) l σ = loopS (stepS K) f (l ++ [(fillS K (stmtKindN σ.head.2.1) σ.head.2.2.2 ⟨σ.left.tail, σ.pl, σ.err⟩).1]) (fillS K (stmtKindN σ.head.2.1) σ.head.2.2.2 ⟨σ.left.tail, σ.pl, σ.err⟩).2 := by
  simp only [loopS, SM.bind_run, step_yes h]
theorem Tail.R.pos {σ σ' : Sy} (h : T.R σ σ') : 0 < σ.left.length ∧ σ.left.length ≤ σ'.left.length := by
  obtain ⟨A, e, h1, _, _, h2, _⟩ := h
  simp [h1, h2]
theorem Tail.R.no {σ σ' : Sy} (h : T.R σ σ') (he : σ.head.1 ≠ 0) (hn : NoStmt σ) : NoStmt σ' := by
  have := (h.tail he).2
  unfold NoStmt at hn ⊢
  rw [this]
  exact hn
theorem stmts_loop {K : Knot} {n : Nat} (hst : ∀ l, Stick (stepS K l)) (hf : ∀ k a, Sim T (MvS T.d n) (fillS K k a) (fillS K k (a + T.d))) : ∀ (f f' : Nat) (l l' : List Tr) (σ σ' : Sy), MvL (MvS T.d n) l l' → T.R σ σ' → σ.left.length ≤ f → σ'.left.length ≤ f' → (loopS (stepS K) f l σ).2.err = 0 →
    ∃ f'' l'' σ'', loopS (stepS K) f' l' σ' = loopS (stepS K) f'' l'' σ'' ∧ MvL (MvS T.d n) (loopS (stepS K) f l σ).1 l'' ∧ T.R (loopS (stepS K) f l σ).2 σ'' ∧ σ''.left.length ≤ f'' ∧ NoStmt (loopS (stepS K) f l σ).2
  | 0, _, _, _, σ, σ', _, hR, hlen, _, _ => by have := hR.pos; omega
  | f + 1, f', l, l', σ, σ', hV, hR, hlen, hlen', hok => by
    by_cases hn : NoStmt σ
    · rw [loop_no hn] at hok ⊢
      exact ⟨f', l', σ', rfl, hV, hR, hlen', hn⟩
    · have h3 : σ.head.1 = 1 := Classical.not_not.1 fun e => hn (.inr e)
      obtain ⟨hT, hh⟩ := hR.tail (by rw [h3]; decide)
      have hn' : ¬ NoStmt σ' := by
        unfold NoStmt at hn ⊢
        rw [hh]
        exact hn
      have hp := hR.pos
      obtain _ | f' := f'
      · omega
      · rw [loop_yes hn] at hok ⊢
        rw [loop_yes hn', hh]
        have hls : ∀ (f : Nat) (l : List Tr), Stick (loopS (stepS K) f l) := fun f l => (Low.loop (fun l => Low.refl (hst l)) f l).a
        have h1 : (fillS K (stmtKindN σ.head.2.1) σ.head.2.2.2 ⟨σ.left.tail, σ.pl, σ.err⟩).2.err = 0 := by
          refine Classical.byContradiction fun hz => hz ?_
          exact (hls f _ _ hz).symm.trans hok
        obtain ⟨hv, hr⟩ := (hf (stmtKindN σ.head.2.1) σ.head.2.2.2).sim _ _ hT h1
        have m1 := (hf (stmtKindN σ.head.2.1) σ.head.2.2.2).mono ⟨σ.left.tail, σ.pl, σ.err⟩
        have m2 := (hf (stmtKindN σ.head.2.1) (σ.head.2.2.2 + T.d)).mono ⟨σ'.left.tail, σ'.pl, σ'.err⟩
        simp only [List.length_tail] at m1 m2
        exact stmts_loop hst hf f f' _ _ _ _ (hV.app ⟨hv, trivial⟩) hr (by omega) (by show (fillS K (stmtKindN σ.head.2.1) (σ.head.2.2.2 + T.d) ⟨σ'.left.tail, σ'.pl, σ'.err⟩).2.left.length ≤ f'; omega) hok
theorem stick_step {K K' : Knot} (hl : LowK K K') (l : List Tr) : Stick (stepS K l) := (Low.head.bind fun _ => .ite (.pure _) ((Low.takeKind _).bind fun _ => .ite ((low_fill hl _ _).bind fun _ => .pure _) (.pure _))).a
theorem sim_block {K K' : Knot} {n : Nat} (hl : LowK K K') (hs : ShrK K) (hf : ∀ k a, Sim T (MvS T.d n) (fillS K k a) (fillS K k (a + T.d))) : Sim T (MvL (MvS T.d n)) (blockS K) (blockS K) := by
  refine (Sim.want _).bind (fun _ => ((low_stmts hl).bind fun _ => (Low.want _).bind fun _ => .pure _).a) (fun _ σ => ((shr_stmts hs).bind fun _ => (Shr.want _).bind fun _ => .pure _) σ) fun _ _ _ => ⟨((low_stmts hl).bind fun _ => (Low.want _).bind fun _ => .pure _).a, fun σ => ((shr_stmts hs).bind fun _ => (Shr.want _).bind fun _ => .pure _) σ, fun σ σ' hR hok => ?_⟩
  simp only [SM.bind_run] at hok ⊢
  have hw : (wantS m_rb (stmtsS K σ).2).2.err = 0 := hok
  have h1 : (stmtsS K σ).2.err = 0 := by
    refine Classical.byContradiction fun hz => hz ?_
    exact ((Low.want _).a _ hz).symm.trans hw
  rw [stmts_eq] at h1 hw
  obtain ⟨f'', l'', σ'', e, hv, hr, hlen, hn⟩ := stmts_loop (stick_step hl) hf σ.left.length σ'.left.length [] [] σ σ' trivial hR (Nat.le_refl _) (Nat.le_refl _) h1
  have hsee : seesB m_rb (loopS (stepS K) σ.left.length [] σ).2 = true := by
    refine Classical.byContradiction fun hz => ?_
    rw [want_run, if_neg hz] at hw
    exact refuse_err (by decide) _ hw
  have hn'' := hr.no (sees_ne hsee) hn
  rw [stmts_eq, stmts_eq, e, loop_no hn'']
  exact ⟨hv, ((Sim.want m_rb).sim _ _ hr hw).2⟩
theorem sim_knotB (q : QuietS T) : ∀ n : Nat, Sim T (MvL (MvS T.d n)) (knot n).block (knot n).block
  | 0 => .never (Stick.tooDeep _) (Shr.tooDeep _) (fun σ => by
    show (refuseS 9 σ).2.err ≠ 0
    exact refuse_err (by decide) σ)
  | n + 1 => sim_block (low_knot n) (shr_knot n) (sim_fill q (sim_knot q.toQuiet n) (low_knot n) (shr_knot n) (sim_knotB q n))
end
end Go.Proofs.YtckidlbmoalomaaGreatDoor


namespace Go.Proofs.YtckidlbmoalomaaGreatDoor
open Go.RowKit
set_option maxRecDepth 10000
set_option linter.unusedSimpArgs false
set_option linter.unusedVariables false

section
variable {r b : Nat} {T : List Tk}
theorem growO_rd {σ : AW} {N e n : Nat} {v : Value} {vs ps : List Value} (hn : n ≠ 0) (h : GrowO σ N e n v vs ps) : Rd σ (fun k => N ≤ k) (sl n ps) v := by
  rcases h with ⟨rfl, rfl, rfl⟩ | h
  · exact rd_nil _ _ _
  · exact h.rd hn
set_option maxHeartbeats 1600000 in
theorem stmts_c {K : Knot} {d : Int} (hK : KOK K r b T d) (hY : YlK K) (hB : ReadsL (fun _ => True) 9 r b T d 90 [.pointer (some ⟨r, 0, none⟩)] K.block) : ReadsL (fun _ => True) 9 r b T d 29 [.pointer (some ⟨r, 0, none⟩)] (stmtsS K) := by
  intro σ s he h
  have hlr := h.lr
  have hlb := h.lb
  have hfew : s.left.length ≤ 100000 := by obtain ⟨i, h1, h2⟩ := h; rw [h2, List.length_drop]; have := h1.few; omega
  refine C_enter rfl Tryz.func29 rfl Tryz.ntmps29 Tryz.results29 (Nat.le_of_ble_eq_true rfl) ?_; intro A hz hA; have a0 := hA 0 _ rfl; clear hA
  repeat (first | apply s_R | apply o_n | ((first | apply o_p | (refine' o_g rfl rfl ?_ ?_; rotate_left) | apply w_c); (focus simp (disch := first | decide | (try simp only [zz, hz]) <;> omega | fail) only [go_sem, hz, a0] <;> rfl); with_reducible first | apply o_i | apply g_1 | apply g_2 | apply g_3 | apply g_4 | apply c_1 | apply c_2) | apply r_E | apply b_k | apply s_k | apply s_q)
  refine W_loop (WL_inv (fun k B σ2 => ∃ s2 ps vs v, s2.left.length ≤ k ∧ B.size = 34 ∧ B.get 0 = some (.pointer (some ⟨r, 0, none⟩)) ∧ B.get 3 = some v ∧ RdS σ2 r b T d s2 ∧ Gr r σ σ2 ∧ GrowO σ2 σ.next 55 9 v vs ps ∧ vs.length + s2.left.length ≤ s.left.length ∧ loopS (stepS K) k ps s2 = stmtsS K s) ?_ (m := s.left.length) (by refine' ⟨s, [], [], _, Nat.le_refl _, ?_, ?_, ?_, h, Gr.refl r σ, .inl ⟨rfl, rfl, rfl⟩, by simp, rfl⟩; any_goals simp (disch := first | decide | (try simp only [zz, hz]) <;> omega | fail) only [go_sem, hz, a0] <;> rfl))
  rintro k B σ2 ⟨s2, ps, vs, v, hk, hz, b0, b3, h2, g2, hG, hcnt, hloop⟩
  obtain ⟨i, hr1, hi2, ht⟩ := h2.head
  have hr := hr1.get
  have hb := hr1.toks
  have hi := hr1.li
  have nx2 := g2.next
  have hlr2 := h2.lr
  have hlb2 := h2.lb
  have e0 : elemAtA Tryz.prog 72 ⟨b, 4 * i, none⟩ (T.length - i) 0 = some (.pointer (some ⟨b, 4 * i, none⟩)) := elem0 sz_72 (by omega)
  have hd := tok_at ht
  repeat (first | apply s_R | apply o_n | ((first | apply o_p | (refine' o_g rfl rfl ?_ ?_; rotate_left) | apply w_c); (focus simp (disch := first | decide | (try simp only [zz, hz]) <;> omega | fail) only [go_sem, hz, b0, b3, hr, hb, hd, e0, tkCells] <;> rfl); with_reducible first | apply o_i | apply g_1 | apply g_2 | apply g_3 | apply g_4 | apply c_1 | apply c_2) | apply r_E | apply b_k | apply s_k | apply s_q)
  refine O_call (by simp (disch := first | decide | (try simp only [zz, hz]) <;> omega | fail) only [go_sem, hz, b0, b3] <;> rfl) ?_
  refine C.mono (kindN_c _ _) ?_
  rintro _ _ ⟨rfl, rfl⟩
  have kp0 : ∀ B1 B2 : Blk, Kp σ2 ((σ2.push B1).set σ2.next B2) := fun _ _ => ((Kp.refl σ2).push _).set (Nat.le_refl _) _
  by_cases hn0 : stmtKindN s2.head.2.1 = 0
  · have c1 : (stmtKindN s2.head.2.1 == 0) = true := by simp [hn0]
    repeat (first | apply s_R | apply o_n | ((first | apply o_p | (refine' o_g rfl rfl ?_ ?_; rotate_left) | apply w_c); (focus simp (disch := first | decide | (try simp only [zz, hz]) <;> omega | fail) only [go_sem, hz, b0, b3, c1] <;> rfl); with_reducible first | apply o_i | apply g_1 | apply g_2 | apply g_3 | apply g_4 | apply c_1 | apply c_2) | apply r_E | apply b_k | apply s_k | apply s_q)
    refine W_ret ?_; (try simp only [Then, Out, Jump, JumpL]); refine ret_mk (by simp (disch := first | decide | (try simp only [zz, hz]) <;> omega | fail) only [go_sem, hz] <;> rfl) ?_; (try simp only [resultA])
    rw [← hloop, loop_no (.inl hn0)]
    exact ⟨(growO_rd (by decide) hG).kp (kp0 _ _), h2.kp (kp0 _ _), g2.kp (kp0 _ _)⟩
  have c1 : (stmtKindN s2.head.2.1 == 0) = false := by simp [hn0]
  repeat (first | apply s_R | apply o_n | ((first | apply o_p | (refine' o_g rfl rfl ?_ ?_; rotate_left) | apply w_c); (focus simp (disch := first | decide | (try simp only [zz, hz]) <;> omega | fail) only [go_sem, hz, b0, b3, c1] <;> rfl); with_reducible first | apply o_i | apply g_1 | apply g_2 | apply g_3 | apply g_4 | apply c_1 | apply c_2) | apply r_E | apply b_k | apply s_k | apply s_q)
  refine O_call (by simp (disch := first | decide | (try simp only [zz, hz]) <;> omega | fail) only [go_sem, hz, b0, b3] <;> rfl) ?_
  refine C.mono (takeKind_c (h2.kp (kp0 _ _)) (k := 1) (by decide)) ?_
  rintro _ σ3 ⟨rfl, h3, g3⟩
  have nx3 := g3.next
  simp only [push_next, set_next] at nx3
  have gt3 := (g3.get σ2.next (by first | omega | (simp only [push_next, set_next]; first | done | omega)) (by omega)).trans set_eq
  have gg3 : Gr r σ2 σ3 := ((kp0 _ _).gr r).trans g3
  by_cases hk1 : s2.head.1 = 1
  · have e1 : takeKindS 1 s2 = (true, ⟨s2.left.tail, s2.pl, s2.err⟩) := by unfold takeKindS; rw [if_pos hk1]
    rw [e1] at h3 ⊢
    simp only at h3
    have hpos : 0 < s2.left.length := by rw [hi2, List.length_drop]; omega
    obtain ⟨k, rfl⟩ : ∃ j, k = j + 1 := ⟨k - 1, by omega⟩
    have hno : ¬ NoStmt s2 := fun h => h.elim hn0 (fun h => h hk1)
    rw [loop_yes hno] at hloop
    repeat (first | apply s_R | apply o_n | ((first | apply o_p | (refine' o_g rfl rfl ?_ ?_; rotate_left) | apply w_c); (focus simp (disch := first | decide | (try simp only [zz, hz]) <;> omega | fail) only [go_sem, hz, b0, b3, gt3] <;> rfl); with_reducible first | apply o_i | apply g_1 | apply g_2 | apply g_3 | apply g_4 | apply c_1 | apply c_2) | apply r_E | apply b_k | apply s_k | apply s_q)
    refine O_call (by simp (disch := first | decide | (try simp only [zz, hz]) <;> omega | fail) only [go_sem, hz, b0, b3] <;> rfl) ?_
    have kp3 : ∀ B1 B2 : Blk, Kp σ3 ((σ3.push B1).set σ3.next B2) := fun _ _ => ((Kp.refl σ3).push _).set (Nat.le_refl _) _
    refine C.mono (fill_c hK hY hB (h3.kp (kp3 _ _)) set_eq (by first | omega | (simp only [push_next, set_next]; first | done | omega)) (by omega) (by omega)) ?_
    rintro _ σ4 ⟨⟨l, gM4, t4⟩, h4, g4⟩
    have nx4 := g4.1
    simp only [push_next, set_next] at nx4
    have g4' : Gr r σ3 σ4 := ⟨by omega, fun j hj hjr => (g4.2 j (by first | omega | (simp only [push_next, set_next]; first | done | omega)) hjr (by omega)).trans ((kp3 _ _).get j hj)⟩
    replace t4 := t4.lo (D' := fun k => σ3.next ≤ k) (fun j hj => by have := hj; simp only [push_next, set_next] at this; omega)
    have hs4 := shr_fill hK.sh (stmtKindN s2.head.2.1) s2.head.2.2.2 ⟨s2.left.tail, s2.pl, s2.err⟩
    simp only [List.length_tail] at hs4
    have hG3 : GrowO σ3 σ.next 55 9 v vs ps := hG.imp id fun h => h.gr gg3 hlr
    obtain ⟨_, l', e', hl4, ho4⟩ := id t4
    injection e' with e'
    injection e' with e'
    subst e'
    obtain ⟨v', σ', hap, hG', hOw, _⟩ := growO_app us_25 io_55 rfl (by decide) hlr (by omega) hG3 g4' t4 (by omega) (by omega)
    repeat (first | apply s_R | apply o_n | ((first | apply o_p | (refine' o_g rfl rfl ?_ ?_; rotate_left) | apply w_c); (focus simp (disch := first | decide | (try simp only [zz, hz]) <;> omega | fail) only [go_sem, hz, b0, b3, gM4, hl4, ho4, hap] <;> rfl); with_reducible first | apply o_i | apply g_1 | apply g_2 | apply g_3 | apply g_4 | apply c_1 | apply c_2) | apply r_E | apply b_k | apply s_k | apply s_q)
    exact (by refine' ⟨k, Nat.lt_succ_self _, _, _, _, v', by omega, ?_, ?_, ?_, h4.ow hOw hlr hlb, ((g2.trans gg3).trans g4').ow hOw, .inr hG', by rw [List.length_append, List.length_singleton]; omega, hloop⟩; any_goals simp (disch := first | decide | (try simp only [zz, hz]) <;> omega | fail) only [go_sem, hz, b0] <;> rfl)
  · have e1 : takeKindS 1 s2 = (false, s2) := by unfold takeKindS; rw [if_neg hk1]
    rw [e1] at h3 ⊢
    simp only at h3
    repeat (first | apply s_R | apply o_n | ((first | apply o_p | (refine' o_g rfl rfl ?_ ?_; rotate_left) | apply w_c); (focus simp (disch := first | decide | (try simp only [zz, hz]) <;> omega | fail) only [go_sem, hz, b0, b3] <;> rfl); with_reducible first | apply o_i | apply g_1 | apply g_2 | apply g_3 | apply g_4 | apply c_1 | apply c_2) | apply r_E | apply b_k | apply s_k | apply s_q)
    refine W_ret ?_; (try simp only [Then, Out, Jump, JumpL]); refine ret_mk (by simp (disch := first | decide | (try simp only [zz, hz]) <;> omega | fail) only [go_sem, hz] <;> rfl) ?_; (try simp only [resultA])
    rw [← hloop, loop_no (.inr hk1)]
    exact ⟨(growO_rd (by decide) (hG.imp id fun h => h.gr gg3 hlr)), h3, g2.trans gg3⟩
theorem knotB_c : ∀ (n : Nat) (d : Int), d + n = 40 → 0 ≤ d → ReadsL (fun _ => True) 9 r b T d 90 [.pointer (some ⟨r, 0, none⟩)] (knot n).block
  | 0, d, hd, h0 => by
    have := block_c (r := r) (b := b) (T := T) (m := pure []) h0 (by omega) (fun h => absurd h (by omega))
    rwa [if_pos (by omega)] at this
  | n + 1, d, hd, h0 => by
    have := block_c (r := r) (b := b) (T := T) h0 (by omega) (fun _ => stmts_c (knot_c word_c n (d + 1) (by omega) (by omega)) (yl_knot n) (knotB_c n (d + 1) (by omega) (by omega)))
    rwa [if_neg (by omega)] at this
end
end Go.Proofs.YtckidlbmoalomaaGreatDoor
