/- Places of statements: no further than the text goes. Slices that are appended to slices; statements whose places are greater. The statement's helper moved: statements whose places are greater. Runs of closed code, reckoned: what was reckoned before is looked up. -/
import Derived.Test.YtckidlbmoalomaaGreatDoorJ29
import Derived.Test.YtckidlbmoalomaaGreatDoorJ20
import Derived.Test.YtckidlbmoalomaaGreatDoorJ23
import Derived.Test.YtckidlbmoalomaaGreatDoorJ28
import Derived.Test.YtckidlbmoalomaaGreatDoorJ05


namespace Go.Proofs.YtckidlbmoalomaaGreatDoor

def Sub {α : Type} (m : SM α) : Prop := ∀ σ, ∀ t ∈ (m σ).2.left, t ∈ σ.left
theorem Sub.bind {α β : Type} {m : SM α} {k : α → SM β} (h : Sub m) (hk : ∀ a, Sub (k a)) : Sub (m >>= k) := fun σ t ht => h σ t (hk _ _ t ht)
theorem Sub.pure {α : Type} (a : α) : Sub (Pure.pure a : SM α) := fun _ _ h => h
theorem Sub.head : Sub headM := fun _ _ h => h
theorem Sub.sees (x : ByteArray) : Sub (seesS x) := fun _ _ h => h
theorem Sub.refuse (e : Int) : Sub (refuseS e) := by
  intro σ
  unfold refuseS
  simp only
  split
  · exact fun t ht => List.mem_of_mem_drop ht
  · exact fun _ h => h
theorem Sub.take (x : ByteArray) : Sub (takeS x) := by
  intro σ
  unfold takeS
  split
  · exact fun t ht => List.mem_of_mem_tail ht
  · exact fun _ h => h
theorem Sub.takeKind (k : Int) : Sub (takeKindS k) := by
  intro σ
  unfold takeKindS
  split
  · exact fun t ht => List.mem_of_mem_tail ht
  · exact fun _ h => h
theorem Sub.takeAny (l : List ByteArray) : Sub (takeAnyS l) := by
  induction l with
  | nil => exact fun _ _ h => h
  | cons x l ih =>
    intro σ
    unfold takeAnyS
    split
    · exact fun t ht => List.mem_of_mem_tail ht
    · exact ih σ
theorem Sub.ite {α : Type} {c : Prop} [Decidable c] {m n : SM α} (h : Sub m) (h' : Sub n) : Sub (if c then m else n) := by
  split
  · exact h
  · exact h'
theorem Sub.want (x : ByteArray) : Sub (wantS x) := (Sub.take x).bind fun _ => .ite (.pure _) (.refuse _)
theorem Sub.name : Sub nameS := Sub.head.bind fun _ => .ite ((Sub.refuse _).bind fun _ => .pure _) ((Sub.takeKind _).bind fun _ => .ite (.pure _) ((Sub.refuse _).bind fun _ => .pure _))
theorem Sub.number : Sub numberS := Sub.head.bind fun _ => (Sub.takeKind _).bind fun _ => .ite (.pure _) ((Sub.refuse _).bind fun _ => .pure _)
theorem Sub.loop {α : Type} {s : α → SM (Option α)} (h : ∀ a, Sub (s a)) : ∀ (f : Nat) (x : α), Sub (loopS s f x)
  | 0, x => .pure x
  | f + 1, x => (h x).bind fun o => by
      cases o with
      | none => exact .pure x
      | some y => exact Sub.loop h f y
theorem Sub.while {α : Type} {s : α → SM (Option α)} (h : ∀ a, Sub (s a)) (x : α) : Sub (whileS s x) := fun σ => Sub.loop h σ.left.length x σ
theorem Sub.fromLeft {m : Tr → ByteArray → SM Tr} (h : ∀ a b, Sub (m a b)) (l : List ByteArray) (x : Tr) : Sub (fromLeftS m l x) :=
  Sub.while (fun a => (Sub.takeAny l).bind fun o => by
    cases o with
    | none => exact .pure _
    | some y => exact (h a y).bind fun _ => .pure _) x
theorem Sub.each {α : Type} {r : SM α} (h : Sub r) (x : ByteArray) (l : List α) : Sub (eachS x r l) :=
  Sub.while (fun _ => (Sub.take x).bind fun _ => .ite (h.bind fun _ => .pure _) (.pure _)) l
theorem Sub.list {α : Type} {r : SM α} (h : Sub r) (x : ByteArray) : Sub (listS x r) := h.bind fun _ => h.each x _
theorem Sub.behind {α : Type} {r : SM α} (h : Sub r) (x : ByteArray) : Sub (behindS x r) := (Sub.take x).bind fun _ => .ite (h.bind fun _ => .pure _) (.pure _)
theorem Sub.inBrackets {α : Type} {r : SM α} (h : Sub r) : Sub (inBracketsS r) := (Sub.want _).bind fun _ => h.bind fun _ => (Sub.want _).bind fun _ => .pure _
theorem Sub.listInBrackets {α : Type} {r : SM α} (h : Sub r) : Sub (listInBracketsS r) := ((Sub.sees _).bind fun _ => .ite (.pure _) (h.list _)).inBrackets

structure SubK (K : Knot) : Prop where
  or : Sub K.or
  not : Sub K.not
  unary : Sub K.unary
  parts : Sub K.parts
  block : Sub K.block

section
variable {K : Knot} (h : SubK K)
include h
omit h in
theorem Sub.operands {r : SM Tr} (hr : Sub r) (l : List ByteArray) : Sub (operandsS r l) := hr.bind fun _ => .fromLeft (fun _ _ => hr.bind fun _ => .pure _) _ _
theorem sub_choice : Sub (choiceS K) := (Sub.want _).bind fun _ => h.or.bind fun _ => (Sub.want _).bind fun _ => h.or.bind fun _ => (Sub.want _).bind fun _ => h.or.bind fun _ => (Sub.want _).bind fun _ => .pure _
theorem sub_gathered (s : ByteArray) : Sub (gatheredS K s) := Sub.inBrackets (.ite ((Sub.take _).bind fun _ => .ite (.pure _) (h.or.bind fun _ => .pure _)) (h.or.bind fun _ => .pure _))
theorem sub_named : Sub (namedS K) := Sub.name.bind fun _ => (Sub.take _).bind fun _ => .ite (Sub.name.bind fun _ => .pure _) (.ite ((Sub.sees _).bind fun _ => .ite ((sub_gathered h _).bind fun _ => .pure _) (.pure _)) (.pure _))
theorem sub_bracketed : Sub (bracketedS K) := (Sub.sees _).bind fun _ => .ite (h.parts.bind fun _ => .pure _) h.or
theorem sub_prim : Sub (primS K) := Sub.head.bind fun _ => (Sub.takeKind _).bind fun _ => .ite (.pure _) ((Sub.takeKind _).bind fun _ => .ite (.pure _) ((Sub.take _).bind fun _ => .ite (.pure _) ((Sub.take _).bind fun _ => .ite (.pure _) ((Sub.take _).bind fun _ => .ite (.pure _) ((Sub.take _).bind fun _ => .ite (Sub.name.bind fun _ => .pure _) ((Sub.take _).bind fun _ => .ite (sub_choice h) ((Sub.take _).bind fun _ => .ite (h.parts.inBrackets.bind fun _ => .pure _) ((Sub.sees _).bind fun _ => .ite (sub_bracketed h).inBrackets (sub_named h)))))))))
theorem sub_unary : Sub (unaryS K) := (Sub.take _).bind fun _ => .ite (h.unary.bind fun _ => .pure _) (sub_prim h)
theorem sub_product : Sub (productS K) := Sub.operands (sub_unary h) _
theorem sub_sum : Sub (sumS K) := Sub.operands (sub_product h) _
theorem sub_in (x : Tr) (n : Int) : Sub (inS K x n) := (Sub.want _).bind fun _ => h.parts.inBrackets.bind fun _ => .pure _
theorem sub_compared : Sub (comparedS K) := (sub_sum h).bind fun _ => (Sub.takeAny _).bind fun o => by
  cases o with
  | some m => exact (sub_sum h).bind fun _ => .pure _
  | none => exact (Sub.take _).bind fun _ => .ite ((Sub.take _).bind fun _ => (Sub.want _).bind fun _ => .pure _) ((Sub.take _).bind fun _ => .ite (sub_in h _ _) ((Sub.sees _).bind fun _ => .ite (sub_in h _ _) (.pure _)))
theorem sub_not : Sub (notS K) := (Sub.take _).bind fun _ => .ite (h.not.bind fun _ => .pure _) (sub_compared h)
theorem sub_and : Sub (andS K) := Sub.operands (sub_not h) _
theorem sub_or : Sub (orS K) := Sub.operands (sub_and h) _
theorem sub_item : Sub (itemS K) := h.or.bind fun _ => (Sub.want _).bind fun _ => Sub.name.bind fun _ => .pure _
theorem sub_key : Sub (keyS K) := h.or.bind fun _ => (Sub.take _).bind fun _ => .pure _
theorem sub_one : Sub (oneS K) := (Sub.sees _).bind fun _ => .ite (h.parts.inBrackets.bind fun _ => (Sub.want _).bind fun _ => Sub.name.bind fun _ => .pure _) (Sub.name.bind fun _ => (Sub.take _).bind fun _ => (Sub.take _).bind fun _ => .ite (Sub.name.bind fun _ => .pure _) (.pure _))
theorem sub_join (x : Tr) (n : Int) : Sub (joinS K x n) := (sub_one h).bind fun _ => (Sub.want _).bind fun _ => h.or.bind fun _ => .pure _
theorem sub_source : Sub (sourceS K) := (sub_one h).bind fun _ => .fromLeft (fun _ _ => .ite ((Sub.want _).bind fun _ => sub_join h _ _) (sub_join h _ _)) _ _
theorem sub_group : Sub (groupS K) := (Sub.take _).bind fun _ => .ite ((Sub.want _).bind fun _ => (h.or.list _).bind fun _ => (h.or.behind _).bind fun _ => .pure _) (.pure _)
theorem sub_order : Sub (orderS K) := (Sub.take _).bind fun _ => .ite ((Sub.want _).bind fun _ => (sub_key h).list _) (.pure _)
omit h in
theorem sub_limit : Sub limitS := (Sub.take _).bind fun _ => .ite .number (.pure _)
theorem sub_part : Sub (partS K) := (Sub.sees _).bind fun _ => .ite h.parts.inBrackets ((Sub.want _).bind fun _ => (Sub.take _).bind fun _ => ((sub_item h).list _).bind fun _ => ((sub_source h).behind _).bind fun _ => (h.or.behind _).bind fun _ => (sub_group h).bind fun _ => (sub_order h).bind fun _ => sub_limit.bind fun _ => .pure _)
omit h in
theorem sub_together (s : ByteArray) : Sub (togetherS s) := .ite (.pure _) (.ite (.pure _) ((Sub.take _).bind fun _ => .ite (.pure _) (.pure _)))
theorem sub_parts : Sub (partsS K) := (sub_part h).bind fun _ => .fromLeft (fun _ _ => (sub_together _).bind fun _ => (sub_part h).bind fun _ => .pure _) _ _
theorem sub_assigned : Sub (assignedS K) := Sub.name.bind fun _ => (Sub.want _).bind fun _ => h.or.bind fun _ => .pure _
theorem sub_plain (k a : Int) : Sub (plainS K k a) :=
  .ite ((sub_assigned h).bind fun _ => .pure _) (.ite (Sub.name.bind fun _ => .pure _) (.ite (Sub.name.bind fun _ => h.or.bind fun _ => .pure _)
  (.ite ((Sub.want _).bind fun _ => Sub.name.bind fun _ => (Sub.take _).bind fun _ => .ite ((h.or.list _).inBrackets.bind fun _ => .pure _) (h.parts.bind fun _ => .pure _))
  (.ite (Sub.name.bind fun _ => (Sub.want _).bind fun _ => ((sub_assigned h).list _).bind fun _ => (h.or.behind _).bind fun _ => .pure _)
  (.ite ((Sub.want _).bind fun _ => Sub.name.bind fun _ => (h.or.behind _).bind fun _ => .pure _)
  (.ite (Sub.name.bind fun _ => h.or.listInBrackets.bind fun _ => .pure _) (.pure _)))))))
theorem sub_fill (k a : Int) : Sub (fillS K k a) :=
  .ite (h.or.bind fun _ => h.block.bind fun _ => (Sub.take _).bind fun _ => .ite (h.block.bind fun _ => .pure _) (.pure _))
  (.ite (h.or.bind fun _ => h.block.bind fun _ => .pure _)
  (.ite ((Sub.name.list _).bind fun _ => (Sub.want _).bind fun _ => h.parts.bind fun _ => h.block.bind fun _ => .pure _)
  (.ite (h.block.bind fun _ => (Sub.want _).bind fun _ => h.block.bind fun _ => .pure _)
  ((sub_plain h _ _).bind fun _ => (Sub.want _).bind fun _ => .pure _))))
theorem sub_stmts : Sub (stmtsS K) :=
  Sub.while (fun _ => Sub.head.bind fun _ => .ite (.pure _) ((Sub.takeKind _).bind fun _ => .ite ((sub_fill h _ _).bind fun _ => .pure _) (.pure _))) _
theorem sub_block : Sub (blockS K) := (Sub.want _).bind fun _ => (sub_stmts h).bind fun _ => (Sub.want _).bind fun _ => .pure _
end
theorem Sub.tooDeep {α : Type} (z : α) : Sub (Go.Proofs.YtckidlbmoalomaaGreatDoor.tooDeep z) := (Sub.refuse 9).bind fun _ => .pure z
theorem sub_knot : ∀ n : Nat, SubK (knot n)
  | 0 => ⟨.tooDeep _, .tooDeep _, .tooDeep _, .tooDeep _, .tooDeep _⟩
  | n + 1 => ⟨sub_or (sub_knot n), sub_not (sub_knot n), sub_unary (sub_knot n), sub_parts (sub_knot n), sub_block (sub_knot n)⟩

def plS (B : Int) : Nat → Tr → Prop
  | 0, _ => False
  | n + 1, x => ∃ k a s nm es qs wh b c, x = mkS k a s nm es qs wh b c ∧ 0 ≤ a ∧ a ≤ B ∧ (∀ y ∈ b, plS B n y) ∧ ∀ y ∈ c, plS B n y
def Yp {α : Type} (B : Int) (m : SM α) (P : α → Prop) : Prop := ∀ σ, (∀ t ∈ σ.left, 0 ≤ t.2.2.2 ∧ t.2.2.2 ≤ B) → P (m σ).1
section
variable {B : Int}
theorem Yp.bind {α β : Type} {P : α → Prop} {Q : β → Prop} {m : SM α} {k : α → SM β} (h : Yp B m P) (hs : Sub m) (hk : ∀ a, P a → Yp B (k a) Q) : Yp B (m >>= k) Q := fun σ hσ => hk _ (h σ hσ) _ (fun t ht => hσ t (hs σ t ht))
theorem Yp.any {α β : Type} {Q : β → Prop} {m : SM α} {k : α → SM β} (hs : Sub m) (hk : ∀ a, Yp B (k a) Q) : Yp B (m >>= k) Q := fun σ hσ => hk _ _ (fun t ht => hσ t (hs σ t ht))
theorem Yp.pure {α : Type} {P : α → Prop} {a : α} (h : P a) : Yp B (Pure.pure a : SM α) P := fun _ _ => h
theorem Yp.ite {α : Type} {P : α → Prop} {c : Prop} [Decidable c] {m n : SM α} (h : Yp B m P) (h' : Yp B n P) : Yp B (if c then m else n) P := by
  split
  · exact h
  · exact h'
theorem Yp.loop {α : Type} {P : α → Prop} {s : α → SM (Option α)} (hs : ∀ a, Sub (s a)) (h : ∀ a, P a → Yp B (s a) (fun o => ∀ b, o = some b → P b)) : ∀ (f : Nat) (x : α), P x → Yp B (loopS s f x) P
  | 0, x, hx => .pure hx
  | f + 1, x, hx => (h x hx).bind (hs x) fun o ho => by
      cases o with
      | none => exact .pure hx
      | some y => exact Yp.loop hs h f y (ho y rfl)
theorem pl_plain {n : Nat} {k a : Int} (h0 : 0 ≤ a) (h1 : a ≤ B) (s : ByteArray) (nm es qs wh : List Tr) : plS B (n + 1) (mkS k a s nm es qs wh [] []) := ⟨k, a, s, nm, es, qs, wh, [], [], rfl, h0, h1, fun _ h => absurd h (by simp), fun _ h => absurd h (by simp)⟩
variable {K : Knot} (h : SubK K)
include h
theorem yp_plain {n : Nat} {k a : Int} (h0 : 0 ≤ a) (h1 : a ≤ B) : Yp B (plainS K k a) (plS B (n + 1)) :=
  .ite (.any (sub_assigned h) fun _ => .pure (pl_plain h0 h1 ..)) (.ite (.any Sub.name fun _ => .pure (pl_plain h0 h1 ..)) (.ite (.any Sub.name fun _ => .any h.or fun _ => .pure (pl_plain h0 h1 ..))
  (.ite (.any (Sub.want _) fun _ => .any Sub.name fun _ => .any (Sub.take _) fun _ => .ite (.any (h.or.list _).inBrackets fun _ => .pure (pl_plain h0 h1 ..)) (.any h.parts fun _ => .pure (pl_plain h0 h1 ..)))
  (.ite (.any Sub.name fun _ => .any (Sub.want _) fun _ => .any ((sub_assigned h).list _) fun _ => .any (h.or.behind _) fun _ => .pure (pl_plain h0 h1 ..))
  (.ite (.any (Sub.want _) fun _ => .any Sub.name fun _ => .any (h.or.behind _) fun _ => .pure (pl_plain h0 h1 ..))
  (.ite (.any Sub.name fun _ => .any h.or.listInBrackets fun _ => .pure (pl_plain h0 h1 ..)) (.pure (pl_plain h0 h1 ..))))))))
variable {n : Nat} (hB : Yp B K.block fun l => ∀ y ∈ l, plS B n y)
include hB
theorem yp_fill {k a : Int} (h0 : 0 ≤ a) (h1 : a ≤ B) : Yp B (fillS K k a) (plS B (n + 1)) :=
  .ite (.any h.or fun _ => hB.bind h.block fun b hb => .any (Sub.take _) fun _ => .ite (hB.bind h.block fun c hc => .pure ⟨_, _, _, _, _, _, _, _, _, rfl, h0, h1, hb, hc⟩) (.pure ⟨_, _, _, _, _, _, _, _, _, rfl, h0, h1, hb, fun _ h => absurd h (by simp)⟩))
  (.ite (.any h.or fun _ => hB.bind h.block fun b hb => .pure ⟨_, _, _, _, _, _, _, _, _, rfl, h0, h1, hb, fun _ h => absurd h (by simp)⟩)
  (.ite (.any (Sub.name.list _) fun _ => .any (Sub.want _) fun _ => .any h.parts fun _ => hB.bind h.block fun b hb => .pure ⟨_, _, _, _, _, _, _, _, _, rfl, h0, h1, hb, fun _ h => absurd h (by simp)⟩)
  (.ite (hB.bind h.block fun b hb => .any (Sub.want _) fun _ => hB.bind h.block fun c hc => .pure ⟨_, _, _, _, _, _, _, _, _, rfl, h0, h1, hb, hc⟩)
  ((yp_plain h h0 h1).bind (sub_plain h _ _) fun _ hs => .any (Sub.want _) fun _ => .pure hs))))
theorem yp_stmts (hB0 : 0 ≤ B) : Yp B (stmtsS K) fun l => ∀ y ∈ l, plS B (n + 1) y := fun σ hσ => by
  rw [stmts_eq]
  refine Yp.loop (P := fun l => ∀ y ∈ l, plS B (n + 1) y) (fun l => Sub.head.bind fun _ => .ite (.pure _) ((Sub.takeKind _).bind fun _ => .ite ((sub_fill h _ _).bind fun _ => .pure _) (.pure _))) (fun l hl τ hτ => ?_) _ _ (fun _ h => absurd h (by simp)) σ hσ
  show ∀ b, (stepS K l τ).1 = some b → ∀ y ∈ b, plS B (n + 1) y
  by_cases hn : NoStmt τ
  · rw [step_no hn]
    exact fun b hb => by cases hb
  · rw [step_yes hn]
    intro b hb
    injection hb with hb
    subst hb
    have hh : 0 ≤ τ.head.2.2.2 ∧ τ.head.2.2.2 ≤ B := by
      unfold Sy.head
      cases e : τ.left with
      | nil => exact ⟨Int.le_refl _, hB0⟩
      | cons t l => exact hτ t (by rw [e]; exact List.mem_cons_self ..)
    intro y hy
    rcases List.mem_append.1 hy with hy | hy
    · exact hl y hy
    · simp only [List.mem_singleton] at hy
      subst hy
      exact yp_fill h hB hh.1 hh.2 _ (fun t ht => hτ t (List.mem_of_mem_tail ht))
end
theorem yp_knot {B : Int} (hB0 : 0 ≤ B) : ∀ n : Nat, Yp B (knot n).block fun l => ∀ y ∈ l, plS B n y
  | 0 => .any (Sub.refuse 9) fun _ => .pure fun _ h => absurd h (by simp)
  | n + 1 => .any (Sub.want _) fun _ => (yp_stmts (sub_knot n) (yp_knot hB0 n) hB0).bind (sub_stmts (sub_knot n)) fun _ hl => .any (Sub.want _) fun _ => .pure hl
theorem scan_places : ∀ (f : Nat) (l : List UInt8) (o k : Nat), ∀ t ∈ (scanF f l o k).1, 0 ≤ t.2.2.2 ∧ t.2.2.2 ≤ ((o + l.length : Nat) : Int)
  | 0, _, _, _, t, ht => absurd ht (by simp [scanF])
  | f + 1, [], o, k, t, ht => by
    unfold scanF at ht
    split at ht
    · exact absurd ht (by simp)
    · simp only [List.mem_singleton] at ht
      subst ht
      exact ⟨Int.natCast_nonneg _, by simp⟩
  | f + 1, c :: r, o, k, t, ht => by
    unfold scanF at ht
    split at ht
    · have := scan_places f r (o + 1) k t ht
      simp only [List.length_cons]
      omega
    · split at ht
      · have := scan_places f _ _ k t ht
        have hl := runN_le (fun d => d.toNat != 10) (c :: r)
        simp only [List.length_drop] at this
        omega
      · split at ht
        · exact absurd ht (by simp)
        · rename_i kind b n len e
          have hl := oneL_len e
          split at ht
          · exact absurd ht (by simp)
          · unfold aheadT at ht
            split at ht
            · simp only [List.singleton_append, List.mem_cons] at ht
              rcases ht with rfl | ht
              · exact ⟨Int.natCast_nonneg _, by simp only; omega⟩
              · have := scan_places f _ _ (k + 1) t ht
                simp only [List.length_drop] at this
                omega
            · exact absurd ht (by simp)
theorem script_pl {s : ByteArray} (hs : s.size ≤ 20000) (hfew : (scanS s).1.length ≤ 100000) {la : List Tr} (h : scriptOf s = (mkSc [] [] la, 0, 0)) : (∀ y ∈ la, plS (s.size : Int) 40 y) ∧ WfL 3 la := by
  unfold scriptOf at h
  obtain ⟨A, p, hA⟩ : ∃ A p, scanS s = (A, p, 0) := by
    rcases he : scanS s with ⟨A, p, e⟩
    by_cases h0 : e = 0
    · exact ⟨A, p, by rw [h0]⟩
    · rw [he] at h
      have : wholeS zSc (scriptS (knot 39)) (A, p, e) = (zSc, (p : Int), e) := by simp [wholeS, h0]
      rw [this] at h
      exact absurd (congrArg (fun q => q.2.2) h) h0
  rw [hA] at h
  obtain ⟨_, _, h3, _, _⟩ := script_of h
  have hp : ∀ t ∈ A, 0 ≤ t.2.2.2 ∧ t.2.2.2 ≤ (s.size : Int) := fun t ht => by
    have h1 : (scanS s).1 = A := by rw [hA]
    rw [scanS_eq hs] at h1
    have := scan_places _ _ 0 0 t (by rw [← h1] at ht; exact ht)
    simpa using this
  have hlen : A.length ≤ 100000 := by rw [hA] at hfew; exact hfew
  refine ⟨?_, ?_⟩
  · rw [← h3]
    exact yp_stmts (sub_knot 39) (yp_knot (Int.natCast_nonneg _) 39) (Int.natCast_nonneg _) _ hp
  · rw [← h3]
    exact (yl_stmts (yl_knot 39) _ hlen).1
end Go.Proofs.YtckidlbmoalomaaGreatDoor


namespace Go.Proofs.YtckidlbmoalomaaGreatDoor
open Go.RowKit
set_option maxRecDepth 10000
set_option linter.unusedSimpArgs false
set_option linter.unusedVariables false

def GrowM (σ : AW) (N : Nat) (D : Nat → Prop) (e n : Nat) (v : Value) (vs ps : List Value) : Prop := (vs = [] ∧ ps = [] ∧ v = .slice none 0 0) ∨ ∃ B c k z, v = .slice (some ⟨B, 0, none⟩) vs.length c ∧ σ.get B = ⟨k, e, z, vs.flatMap cellsL⟩ ∧ ((k = 1 ∧ c = 2 * vs.length ∧ z = 1) ∨ (k = 2 ∧ c = 1 ∧ z = n)) ∧ N ≤ B ∧ B < σ.next ∧ RdL σ (fun j => D j ∨ (N ≤ j ∧ j ≠ B)) ps vs ∧ ∀ v ∈ vs, Sh n v
theorem GrowM.rd {σ : AW} {N e n : Nat} {D : Nat → Prop} {v : Value} {vs ps : List Value} (h : GrowM σ N D e n v vs ps) (hn : n ≠ 0) : Rd σ (fun k => D k ∨ N ≤ k) (sl n ps) v := by
  rcases h with ⟨rfl, rfl, rfl⟩ | ⟨B, c, k, z, rfl, h2, h3, h4, h5, h6, h7⟩
  · exact rd_nil _ _ _
  refine rd_sl.2 ⟨vs, h6.keep (fun _ _ _ _ => rfl) (Nat.le_refl _) (fun k hk _ => hk.imp id (·.1)), .inr ⟨B, 0, c, k, e, z, _, rfl, h2, h3.imp (·.1) (·.1), ?_, h5, .inr h4, ?_, fun u hu => (h7 u hu).len⟩⟩
  · rcases h3 with ⟨_, _, rfl⟩ | ⟨_, _, rfl⟩
    · decide
    · exact hn
  · rw [List.drop_zero, List.take_of_length_le (by rw [flat_len h7]; exact Nat.le_refl _)]
theorem growM_app {P : Program} {σ3 σ4 : AW} {N t e n bts : Nat} {D : Nat → Prop} {zv v p : Value} {vs ps l : List Value} (hD : ∀ k, D k → k < N) (hu : P.underlying t = some (.slice e)) (hio : (P.info? e).map (fun i => (i.zero, i.size, i.bytes)) = some (some zv, n, bts)) (hz : (cellsL zv).length = n) (hn : 0 < n)
    (hN : N ≤ σ3.next) (hG : GrowM σ3 N D e n v vs ps) (g : Kp σ3 σ4) (ht : TE n σ4 (fun k => D k ∨ σ3.next ≤ k) (.agg ⟨l⟩) p) (hb : (2 * (vs.length + 1) + 768) * bts ≤ 281474976710656) (hlen : vs.length + 1 ≤ 1000000000) :
    ∃ v' σ', appendA P (σ4.push ⟨1, e, 1, l⟩) t t v (.slice (some ⟨σ4.next, 0, none⟩) 1 2) = some (v', σ') ∧ GrowM σ' N D e n v' (vs ++ [.agg ⟨l⟩]) (ps ++ [p]) ∧ Ow N σ4 σ' := by
  obtain ⟨t4, _, e2, hl4, ho4⟩ := ht
  injection e2 with e2
  injection e2 with e2
  subst e2
  have nx := g.next
  rcases hG with ⟨rfl, rfl, rfl⟩ | ⟨B, c, k, z, rfl, h2, h3, h4, h5, h6, h7⟩
  · refine ⟨_, _, append_0 hu hio hz push_eq hl4 ho4 (by simpa using hb), .inr ⟨σ4.next + 1, 1, 2, n, rfl, (push_at rfl).trans (by simp [cellsL]), .inr ⟨rfl, rfl, rfl⟩, by omega, Nat.lt_succ_self _, ?_, ?_⟩, ((Ow.refl N σ4).push _).push _⟩
    · refine RdL.one (t4.keep (fun j hj hlt _ => by rw [push_ne (by first | omega | (simp only [push_next, set_next]; first | done | omega)), push_ne (by omega)]) (by first | omega | (simp only [push_next, set_next]; first | done | omega)) (fun j hj hlt => ?_))
      rcases hj with hj | hj
      · exact .inl hj
      · exact .inr ⟨by omega, by omega⟩
    · intro u hu
      have hu : u = .agg ⟨l⟩ := by simpa using hu
      subst hu
      exact ⟨l, rfl, hl4, ho4⟩
  · have hne : B ≠ σ4.next := by omega
    have h2' := (g.get B h5).trans h2
    refine ⟨_, _, append_1 hu hio hz hn (len := vs.length) (by rw [push_ne hne]; exact h2') (h3.imp (fun h => ⟨h.1, h.2.1⟩) (fun h => ⟨h.1, h.2.1, rfl, h.2.2⟩)) (flat_len h7) push_eq hl4 ho4 hb hlen, ?_, ?_⟩
    · have hnx : (if k = 1 then σ4.push ⟨1, e, 1, l⟩ else (σ4.push ⟨1, e, 1, l⟩).set B noBlk).next = σ4.next + 1 := by split <;> rfl
      have hkeep : ∀ j, j ≠ B → j < σ4.next → ((if k = 1 then σ4.push ⟨1, e, 1, l⟩ else (σ4.push ⟨1, e, 1, l⟩).set B noBlk).push ⟨2, e, n, vs.flatMap cellsL ++ l⟩).get j = σ4.get j := fun j h1 h2 => by
        rw [push_ne (by rw [hnx]; omega)]
        split
        · exact push_ne (by omega)
        · rw [set_ne h1, push_ne (by omega)]
      refine .inr ⟨σ4.next + 1, 1, 2, n, by rw [List.length_append]; rfl, ?_, .inr ⟨rfl, rfl, rfl⟩, by omega, by rw [push_next, hnx]; omega, ?_, ?_⟩
      · have := push_eq (σ := if k = 1 then σ4.push ⟨1, e, 1, l⟩ else (σ4.push ⟨1, e, 1, l⟩).set B noBlk) (b := ⟨2, e, n, vs.flatMap cellsL ++ l⟩)
        rw [hnx] at this
        rw [this]
        simp [cellsL]
      · have hb1 : ∀ j, D j → j ≠ B := fun j hj => by have := hD j hj; omega
        refine RdL.append (h6.keep (fun j hj hlt _ => (hkeep j (hj.elim (hb1 j) (·.2)) (by omega)).trans (g.get j hlt)) (by rw [push_next, hnx]; omega) (fun j hj hlt => ?_)) (RdL.one (t4.keep (fun j hj hlt _ => hkeep j (hj.elim (hb1 j) (fun h => by omega)) hlt) (by rw [push_next, hnx]; omega) (fun j hj hlt => ?_)))
        · rcases hj with hj | hj
          · exact .inl hj
          · exact .inr ⟨hj.1, by omega⟩
        · rcases hj with hj | hj
          · exact .inl hj
          · exact .inr ⟨by omega, by omega⟩
      · intro u hu
        rcases List.mem_append.1 hu with hu | hu
        · exact h7 u hu
        · simp only [List.mem_singleton] at hu
          subst hu
          exact ⟨l, rfl, hl4, ho4⟩
    · split
      · exact (((Ow.refl N σ4).push _).push _)
      · exact ((((Ow.refl N σ4).push _).set h4 _).push _)
theorem src_sl {P : Program} {σ : AW} {D : Nat → Prop} {n t e : Nat} {v : Value} {ps : List Value} (hu : P.underlying t = some (.slice e)) (h : Rd σ D (sl n ps) v) (ho : ∀ p ∈ ps, ∀ x, Rd σ D p x → (cellsL x).all oneB = true) :
    ∃ vs, srcA P σ n t v = some (ps.length, vs.flatMap cellsL) ∧ RdL σ D ps vs ∧ (∀ u ∈ vs, (cellsL u).length = n) ∧ (vs.flatMap cellsL).all oneB = true ∧ (vs.flatMap cellsL).length = ps.length * n := by
  obtain ⟨vs, h1, hs⟩ := rd_sl.1 h
  have hlen := h1.length
  have hone : (vs.flatMap cellsL).all oneB = true := by
    clear hs hlen h
    induction ps generalizing vs with
    | nil => rw [h1]; rfl
    | cons p ps ih =>
      obtain ⟨x, l', rfl, h2, h3⟩ := h1
      rw [List.flatMap_cons, List.all_append, ho p (List.mem_cons_self ..) x h2, ih (fun q hq => ho q (List.mem_cons_of_mem _ hq)) l' h3]
      rfl
  rcases hs with ⟨rfl, c, rfl⟩ | ⟨b, o, c, k, e', z, cs, rfl, hb, hk, hz, hlt, hD, hcs, hx⟩
  · refine ⟨[], ?_, h1, fun u hu => absurd hu (by simp), rfl, ?_⟩
    · rw [← hlen]
      simp only [srcA, hu]
      rfl
    · rw [← hlen]
      simp
  · have hfl : (vs.flatMap cellsL).length = vs.length * n := by
      clear hcs h1 hone hlen h
      induction vs with
      | nil => simp
      | cons u vs ih => rw [List.flatMap_cons, List.length_append, hx u (List.mem_cons_self ..), ih (fun w hw => hx w (List.mem_cons_of_mem _ hw)), List.length_cons, Nat.add_mul, Nat.one_mul, Nat.add_comm]
    have hrow : rowOf σ ⟨b, o, none⟩ = some cs := by
      rcases hk with rfl | rfl
      · exact row_1 hb
      · exact row_2 hb
    refine ⟨vs, ?_, h1, hx, hone, by rw [hfl, hlen]⟩
    rw [hlen] at hcs hfl
    simp only [srcA, hu, hrow, hlen, hcs, hfl, hone, and_self, if_true]
def Dst (σ : AW) (e n : Nat) (v : Value) (B len : Nat) (cells : List Value) : Prop := ∃ c, v = .slice (some ⟨B, 0, none⟩) len c ∧ cells.length = len * n ∧ B < σ.next ∧ ((len = 0 ∧ c = 0 ∧ σ.get B = ⟨1, e, 1, cells⟩) ∨ (c = 1 ∧ σ.get B = ⟨2, e, n, cells⟩))
theorem dst_app {P : Program} {σ : AW} {t e n bts m B len : Nat} {zv v x : Value} {news cells : List Value} (hu : P.underlying t = some (.slice e)) (hio : (P.info? e).map (fun i => (i.zero, i.size, i.bytes)) = some (some zv, n, bts)) (hz : (cellsL zv).length = n) (hn : 0 < n)
    (hd : Dst σ e n v B len cells) (hsrc : srcA P σ n t x = some (m, news)) (hm : news.length = m * n) (hb : (2 * (len + m) + 768) * bts ≤ 281474976710656) (hlen : len + m ≤ 1000000000) :
    ∃ v' B' σ', appendA P σ t t v x = some (v', σ') ∧ Dst σ' e n v' B' (len + m) (cells ++ news) ∧ (B' = B ∨ σ.next ≤ B') ∧ σ.next ≤ σ'.next ∧ ∀ j, j < σ.next → j ≠ B → σ'.get j = σ.get j := by
  cases hi : P.info? e with
  | none => rw [hi] at hio; cases hio
  | some i =>
    rw [hi] at hio
    simp only [Option.map_some, Option.some.injEq, Prod.mk.injEq] at hio
    obtain ⟨h1, h2, h3⟩ := hio
    have hgr : ∀ (τ : AW) (cs : List Value) (k : Nat), 0 < k → k = len + m → growA τ e i k cs = some (.slice (some ⟨τ.next, 0, none⟩) k 1, τ.push ⟨2, e, n, cs⟩) := fun τ cs k hk he => by
      subst he
      simp only [growA, h1, h2, h3, hz]
      rw [if_pos ⟨trivial, hk, hb, hlen⟩]
    obtain ⟨c, rfl, hcl, hB, hd⟩ := hd
    rcases hd with ⟨rfl, rfl, hg⟩ | ⟨rfl, hg⟩
    · have hce : cells = [] := List.eq_nil_of_length_eq_zero (by rw [hcl, Nat.zero_mul])
      subst hce
      by_cases h0 : m = 0
      · subst h0
        have hne : news = [] := List.eq_nil_of_length_eq_zero (by rw [hm, Nat.zero_mul])
        subst hne
        refine ⟨.slice (some ⟨B, 0, none⟩) 0 0, B, σ.set B ⟨1, e, 1, []⟩, ?_, ⟨0, rfl, by simp, hB, .inl ⟨rfl, rfl, set_eq⟩⟩, .inl rfl, Nat.le_refl _, fun j _ hj => set_ne hj⟩
        simp only [appendA, hu, hi, h2, hsrc, rowOf, hg]
        simp
      · refine ⟨_, σ.next, _, ?_, ⟨1, rfl, by rw [List.nil_append, hm, Nat.zero_add], Nat.lt_succ_self _, .inr ⟨rfl, push_eq⟩⟩, .inr (Nat.le_refl _), Nat.le_succ _, fun j hj _ => push_ne (by omega)⟩
        simp only [appendA, hu, hi, h2, hsrc, rowOf, hg]
        simp only [show (0 % 2 = 0) from rfl, if_true, show ¬ (0 + m ≤ 0 / 2) by omega, if_false, Nat.zero_mul, List.take_zero, List.length_nil, List.nil_append]
        rw [hgr _ _ _ (by omega) rfl]
    · by_cases h0 : m = 0
      · subst h0
        have hne : news = [] := List.eq_nil_of_length_eq_zero (by rw [hm, Nat.zero_mul])
        subst hne
        refine ⟨.slice (some ⟨B, 0, none⟩) len 1, B, σ, ?_, ⟨1, rfl, by simp [hcl], hB, .inr ⟨rfl, by rw [List.append_nil]; exact hg⟩⟩, .inl rfl, Nat.le_refl _, fun j _ hj => rfl⟩
        simp only [appendA, hu, hi, h2, hsrc, rowOf, hg, hcl]
        simp only [show ¬ (1 % 2 = 0) by decide, if_false, show (1 = 1 ∧ 0 = 0 ∧ True ∧ 0 < n) from ⟨rfl, rfl, trivial, hn⟩, and_self, if_true]
      · have hnx : (σ.set B noBlk).next = σ.next := rfl
        refine ⟨_, σ.next, _, ?_, ⟨1, rfl, by rw [List.length_append, hcl, hm, Nat.add_mul], by rw [push_next, hnx]; exact Nat.lt_succ_self _, .inr ⟨rfl, push_at hnx.symm⟩⟩, .inr (Nat.le_refl _), by rw [push_next, hnx]; exact Nat.le_succ _, fun j hj hjB => (push_ne (by rw [hnx]; omega)).trans (set_ne hjB)⟩
        simp only [appendA, hu, hi, h2, hsrc, rowOf, hg, hcl]
        simp only [show ¬ (1 % 2 = 0) by decide, if_false, show (1 = 1 ∧ 0 = 0 ∧ True ∧ 0 < n) from ⟨rfl, rfl, trivial, hn⟩, and_self, if_true, h0]
        rw [hgr _ _ _ (by omega) rfl]
        rfl
theorem Dst.rd {σ : AW} {D : Nat → Prop} {e n B len : Nat} {v : Value} {cells : List Value} {vs ps : List Value} (h : Dst σ e n v B len cells) (hn : n ≠ 0) (hc : cells = vs.flatMap cellsL) (hl : vs.length = len) (hr : RdL σ D ps vs) (hx : ∀ u ∈ vs, (cellsL u).length = n) (hD : D B) : Rd σ D (sl n ps) v := by
  obtain ⟨c, rfl, hcl, hB, hd⟩ := h
  refine rd_sl.2 ⟨vs, hr, .inr ?_⟩
  rcases hd with ⟨h0, rfl, hg⟩ | ⟨rfl, hg⟩
  · exact ⟨B, 0, 0, 1, e, 1, cells, by rw [hl], hg, .inl rfl, by decide, hB, hD, by rw [hl, List.drop_zero, List.take_of_length_le (Nat.le_of_eq hcl), hc], hx⟩
  · exact ⟨B, 0, 1, 2, e, n, cells, by rw [hl], hg, .inr rfl, hn, hB, hD, by rw [hl, List.drop_zero, List.take_of_length_le (Nat.le_of_eq hcl), hc], hx⟩
end Go.Proofs.YtckidlbmoalomaaGreatDoor


namespace Go.Proofs.YtckidlbmoalomaaGreatDoor
open Go.RowKit
set_option maxRecDepth 10000
set_option linter.unusedSimpArgs false
set_option linter.unusedVariables false

def MovedOK (d : Int) (b b' : List Tr) : Prop := ∀ σ v (D : Nat → Prop), Rd σ D (sl 9 b) v → C Tryz.prog 7 [v, .int .i64 d] σ fun v' σ' => Rd σ' (fun k => (D k ∧ k < σ.next) ∨ σ.next ≤ k) (sl 9 b') v' ∧ Kp σ σ'
theorem take_snoc {α : Type} {l : List α} {i : Nat} (h : i < l.length) : l.take i ++ [l[i]] = l.take (i + 1) := by
  rw [List.take_add_one, List.getElem?_eq_getElem h]
  rfl
set_option maxHeartbeats 1600000 in
theorem movedL_c {d : Int} (h0 : 0 ≤ d) (h1 : d ≤ 1000000) {lb lb' : List Tr} (hlen : lb.length ≤ 200000) (hl : lb'.length = lb.length)
    (hx : ∀ i (h : i < lb.length) (h' : i < lb'.length), ∃ k a t nm es qs wh b c b' c', lb[i] = mkS k a t nm es qs wh b c ∧ lb'[i] = mkS k (a + d) t nm es qs wh b' c' ∧ 0 ≤ a ∧ a ≤ 1000000 ∧ MovedOK d b b' ∧ MovedOK d c c') : MovedOK d lb lb' := by
  intro σ v D h
  have l1 : ∀ τ, lenA Tryz.prog τ 25 v = some (.int .i64 lb.length) := fun τ => by obtain ⟨a, c, rfl⟩ := rd_len h; exact ln_25 τ a _ c
  refine C_enter rfl Tryz.func7 rfl Tryz.ntmps7 Tryz.results7 (Nat.le_of_ble_eq_true rfl) ?_; intro A hz hA; have a0 := hA 0 _ rfl; have a1 := hA 1 _ rfl; clear hA
  repeat (first | apply s_R | apply o_n | ((first | apply o_p | (refine' o_g rfl rfl ?_ ?_; rotate_left) | apply w_c); (focus simp (disch := first | decide | (try simp only [zz, hz]) <;> omega | fail) only [go_sem, hz, a0, a1, l1] <;> rfl); with_reducible first | apply o_i | apply g_1 | apply g_2 | apply g_3 | apply g_4 | apply c_1 | apply c_2) | apply r_E | apply b_k | apply s_k | apply s_q)
  refine W_loop (WL_inv (fun m B σ1 => ∃ (i : Nat) (vs : List Value) (w : Value), i ≤ lb.length ∧ m = lb.length - i ∧ vs.length = i ∧ B.size = 35 ∧ B.get 1 = some (.int .i64 d) ∧ B.get 5 = some w ∧ B.get 8 = some v ∧ B.get 9 = some (.int .i64 (lb.length : Int)) ∧ B.get 10 = some (.int .i64 (i : Int)) ∧ Kp σ σ1 ∧ GrowM σ1 σ.next (fun k => D k ∧ k < σ.next) 55 9 w vs (lb'.take i)) ?_ (m := lb.length) (by refine' ⟨0, [], .slice none 0 0, Nat.zero_le _, rfl, rfl, ?_, ?_, ?_, ?_, ?_, ?_, Kp.refl σ, .inl ⟨rfl, rfl, rfl⟩⟩; any_goals simp (disch := first | decide | (try simp only [zz, hz]) <;> omega | fail) only [go_sem, hz, a1, a0] <;> rfl))
  rintro m B σ1 ⟨i, vs, w, hi, rfl, hvl, hz, b1, b5, b8, b9, b10, kp, hG⟩
  by_cases hlt : i < lb.length
  · have c1 : decide ((i : Int) < (lb.length : Int)) = true := by simp [hlt]
    obtain ⟨ba, o, c, cs, x, rfl, hrow, hel, htk, hx0, hxl⟩ := rd_el (P := Tryz.prog) h sz_55 hlt
    obtain ⟨k, a, t, nm, es, qs, wh, bd, ed, bd', ed', e, e', ha0, ha1, hmb, hmc⟩ := hx i hlt (by omega)
    rw [e] at hx0
    obtain ⟨l, rfl, _, _, rfl, rfl, _, _, rfl, rfl, _, _, rfl, rfl, v1, _, rfl, r1, v2, _, rfl, r2, v3, _, rfl, r3, v4, _, rfl, r4, v5, _, rfl, r5, v6, _, rfl, r6, rfl⟩ := rd_agg.1 hx0
    simp only [cellsL] at htk hxl
    obtain ⟨x1, y1, z1, rfl⟩ := rd_shape r1
    obtain ⟨x2, y2, z2, rfl⟩ := rd_shape r2
    obtain ⟨x3, y3, z3, rfl⟩ := rd_shape r3
    obtain ⟨x4, y4, z4, rfl⟩ := rd_shape r4
    obtain ⟨x5, y5, z5, rfl⟩ := rd_shape r5
    obtain ⟨x6, y6, z6, rfl⟩ := rd_shape r6
    have hr1 := hrow _ kp
    have nx1 := kp.next
    have hadd : fastB .add (.int .i64 a) (.int .i64 d) = some (.int .i64 (a + d)) := bin_addI (by omega) (by omega)
    repeat (first | apply s_R | apply o_n | ((first | apply o_p | (refine' o_g rfl rfl ?_ ?_; rotate_left) | apply w_c); (focus simp (disch := first | decide | (try simp only [zz, hz]) <;> omega | fail) only [go_sem, hz, b1, b5, b8, b9, b10, c1, hel, ↓hr1, htk, hxl, hadd] <;> rfl); with_reducible first | apply o_i | apply g_1 | apply g_2 | apply g_3 | apply g_4 | apply c_1 | apply c_2) | apply r_E | apply b_k | apply s_k | apply s_q)
    obtain ⟨τ, hτ⟩ : ∃ τ, τ = ((σ1.push ⟨1, 55, 0, [.int .i64 0, .int .i64 0, .string ⟨#[]⟩, .slice none 0 0, .slice none 0 0, .slice none 0 0, .slice none 0 0, .slice none 0 0, .slice none 0 0]⟩).set σ1.next ⟨1, 55, 0, [.int .i64 k, .int .i64 a, .string t, .slice x1 y1 z1, .slice x2 y2 z2, .slice x3 y3 z3, .slice x4 y4 z4, .slice x5 y5 z5, .slice x6 y6 z6]⟩).set σ1.next ⟨1, 55, 0, [.int .i64 k, .int .i64 (a + d), .string t, .slice x1 y1 z1, .slice x2 y2 z2, .slice x3 y3 z3, .slice x4 y4 z4, .slice x5 y5 z5, .slice x6 y6 z6]⟩ := ⟨_, rfl⟩
    have kq : Kp σ1 τ := by rw [hτ]; exact (((Kp.refl σ1).push _).set (Nat.le_refl _) _).set (Nat.le_refl _) _
    have nxt : τ.next = σ1.next + 1 := by rw [hτ]; rfl
    have gM : τ.get σ1.next = ⟨1, 55, 0, [.int .i64 k, .int .i64 (a + d), .string t, .slice x1 y1 z1, .slice x2 y2 z2, .slice x3 y3 z3, .slice x4 y4 z4, .slice x5 y5 z5, .slice x6 y6 z6]⟩ := by rw [hτ]; exact set_eq
    rw [← hτ]
    clear hτ
    have kt := kp.trans kq
    have up : ∀ {p u : Value}, Rd σ D p u → Rd τ (fun k => D k ∧ k < σ.next) p u := fun h => h.keep (fun j hj hlt _ => kt.get j hlt) kt.next (fun j hj hlt => ⟨hj, hlt⟩)
    refine W_regDE mixed (by kernel_rfl) (by kernel_rfl) ?_
    repeat (apply v_x; (focus simp (disch := first | decide | (try simp only [zz, hz]) <;> omega | fail) only [go_sem, hz, b1, gM] <;> rfl); first | refine vX_n ?_ | refine vX_l ?_ | refine vX_e ?_)
    refine V_call (by simp (disch := first | decide | (try simp only [zz, hz]) <;> omega | fail) only [go_sem, hz, b1] <;> rfl) ?_
    refine C.mono (hmb τ _ _ (up r5)) ?_
    rintro u5 σ2 ⟨t5, k2⟩
    obtain ⟨p5, q5, w5, rfl⟩ := rd_shape t5
    have nx2 := k2.next
    have gM2 := (k2.get σ1.next (by omega)).trans gM
    repeat (apply v_x; (focus simp (disch := first | decide | (try simp only [zz, hz]) <;> omega | fail) only [go_sem, hz, b1, gM2] <;> rfl); first | refine vX_n ?_ | refine vX_l ?_ | refine vX_e ?_)
    refine V_call (by simp (disch := first | decide | (try simp only [zz, hz]) <;> omega | fail) only [go_sem, hz, b1] <;> rfl) ?_
    refine C.mono (hmc σ2 _ _ ((up r6).ks k2.ks)) ?_
    rintro u6 σ3 ⟨t6, k3⟩
    obtain ⟨p6, q6, w6, rfl⟩ := rd_shape t6
    have nx3 := k3.next
    have gM3 := (k3.get σ1.next (by omega)).trans gM2
    repeat (apply v_x; (focus simp (disch := first | decide | (try simp only [zz, hz]) <;> omega | fail) only [go_sem, hz, b1, gM3] <;> rfl); first | refine vX_n ?_ | refine vX_l ?_ | refine vX_e ?_)
    refine V_nil ?_; refine And.intro (owes_by (L := [(1, 0), (5, 0), (5, 4)]) ?_ ?_) ?_; rotate_left 2; (try simp only [Then, Out, JumpL]); rotate_right 2; focus (kernel_rfl)
    · (repeat (refine owe_cons (Owed_op rfl rfl rfl rfl rfl (by simp (disch := first | decide | (try simp only [zz, hz]) <;> omega | fail) only [go_sem, hz, b1, gM, gM2, gM3] <;> rfl)) ?_)); exact owe_nil
    have k34 : ∀ B1 B2 : Blk, Ks σ3 ((σ3.set σ1.next B1).set σ1.next B2) := fun _ _ => ((Ks.refl σ3).set (.inr (by rw [gM3])) _).set (.inr (by rw [gM3])) _
    obtain ⟨σ4, h4⟩ : ∃ σ4, σ4 = (σ3.set σ1.next ⟨1, 55, 0, [.int .i64 k, .int .i64 (a + d), .string t, .slice x1 y1 z1, .slice x2 y2 z2, .slice x3 y3 z3, .slice x4 y4 z4, .slice p5 q5 w5, .slice x6 y6 z6]⟩).set σ1.next ⟨1, 55, 0, [.int .i64 k, .int .i64 (a + d), .string t, .slice x1 y1 z1, .slice x2 y2 z2, .slice x3 y3 z3, .slice x4 y4 z4, .slice p5 q5 w5, .slice p6 q6 w6]⟩ := ⟨_, rfl⟩
    have k4 : Ks σ3 σ4 := by rw [h4]; exact k34 _ _
    have nx4 : σ4.next = σ3.next := by rw [h4]; rfl
    have gM4 : σ4.get σ1.next = ⟨1, 55, 0, [.int .i64 k, .int .i64 (a + d), .string t, .slice x1 y1 z1, .slice x2 y2 z2, .slice x3 y3 z3, .slice x4 y4 z4, .slice p5 q5 w5, .slice p6 q6 w6]⟩ := by rw [h4]; exact set_eq
    have kp4 : Kp σ1 σ4 := ⟨by omega, fun j hj => by rw [h4, set_ne (by omega), set_ne (by omega)]; exact ((kq.trans k2).trans k3).get j hj⟩
    rw [← h4]
    clear h4 k34
    have up4 : ∀ {p u : Value}, Rd σ D p u → Rd σ4 (fun k => (D k ∧ k < σ.next) ∨ σ1.next ≤ k) p u := fun h => h.keep (fun j hj hlt _ => (kp.trans kp4).get j hlt) (by omega) (fun j hj hlt => .inl ⟨hj, hlt⟩)
    have t5' : Rd σ4 (fun k => (D k ∧ k < σ.next) ∨ σ1.next ≤ k) (sl 9 bd') (.slice p5 q5 w5) := ((t5.ks k3.ks).ks k4).keep (fun _ _ _ _ => rfl) (Nat.le_refl _) (fun j hj _ => hj.elim (fun h => .inl h.1) (fun h => .inr (by omega)))
    have t6' : Rd σ4 (fun k => (D k ∧ k < σ.next) ∨ σ1.next ≤ k) (sl 9 ed') (.slice p6 q6 w6) := (t6.ks k4).keep (fun _ _ _ _ => rfl) (Nat.le_refl _) (fun j hj _ => hj.elim (fun h => .inl h.1) (fun h => .inr (by omega)))
    have te := te_mkS (k := k) (a := a + d) (tb := t) (up4 r1) (up4 r2) (up4 r3) (up4 r4) t5' t6'
    rw [← e'] at te
    obtain ⟨w', σ5, hap, hG', hOw⟩ := growM_app (fun _ h => h.2) us_25 io_55 rfl (by decide) nx1 hG kp4 te (by omega) (by omega)
    rw [take_snoc] at hG'
    have hinc : fastB .add (.int .i64 (i : Int)) (.int .i64 1) = some (.int .i64 ((i + 1 : Nat) : Int)) := by rw [bin_addI (by omega) (by omega)]; rfl
    repeat (first | apply s_R | apply o_n | ((first | apply o_p | (refine' o_g rfl rfl ?_ ?_; rotate_left) | apply w_c); (focus simp (disch := first | decide | (try simp only [zz, hz]) <;> omega | fail) only [go_sem, hz, b1, b5, b8, b9, b10, gM4, hap, hinc] <;> rfl); with_reducible first | apply o_i | apply g_1 | apply g_2 | apply g_3 | apply g_4 | apply c_1 | apply c_2) | apply r_E | apply b_k | apply s_k | apply s_q)
    exact (by refine' ⟨lb.length - (i + 1), by omega, i + 1, _, w', hlt, rfl, by simp [hvl], ?_, ?_, ?_, ?_, ?_, ?_, ⟨by have := hOw.next; omega, fun j hj => (hOw.get j (by omega) hj).trans ((kp.trans kp4).get j hj)⟩, hG'⟩; any_goals simp (disch := first | decide | (try simp only [zz, hz]) <;> omega | fail) only [go_sem, hz, b1, b8, b9] <;> rfl)
  · have c1 : decide ((i : Int) < (lb.length : Int)) = false := by simp [hlt]
    repeat (first | apply s_R | apply o_n | ((first | apply o_p | (refine' o_g rfl rfl ?_ ?_; rotate_left) | apply w_c); (focus simp (disch := first | decide | (try simp only [zz, hz]) <;> omega | fail) only [go_sem, hz, b1, b5, b8, b9, b10, c1] <;> rfl); with_reducible first | apply o_i | apply g_1 | apply g_2 | apply g_3 | apply g_4 | apply c_1 | apply c_2) | apply r_E | apply b_k | apply s_k | apply s_q)
    refine W_exit ?_; simp only [Then, Out, JumpL, reduceIte, Nat.reduceEqDiff]
    repeat (first | apply s_R | apply o_n | ((first | apply o_p | (refine' o_g rfl rfl ?_ ?_; rotate_left) | apply w_c); (focus simp (disch := first | decide | (try simp only [zz, hz]) <;> omega | fail) only [go_sem, hz, b5] <;> rfl); with_reducible first | apply o_i | apply g_1 | apply g_2 | apply g_3 | apply g_4 | apply c_1 | apply c_2) | apply r_E | apply b_k | apply s_k | apply s_q)
    refine W_ret ?_; (try simp only [Then, Out, Jump, JumpL]); refine ret_mk (by simp (disch := first | decide | (try simp only [zz, hz]) <;> omega | fail) only [go_sem, hz] <;> rfl) ?_; (try simp only [resultA])
    have hii : i = lb'.length := by omega
    rw [hii, List.take_length] at hG
    exact ⟨hG.rd (by decide), kp⟩
theorem mvL_len {R : Tr → Tr → Prop} : ∀ {l m : List Tr}, MvL R l m → m.length = l.length
  | [], [], _ => rfl
  | _ :: _, _ :: _, h => by rw [List.length_cons, List.length_cons, mvL_len h.2]
  | [], _ :: _, h => h.elim
  | _ :: _, [], h => h.elim
theorem mvL_at {R : Tr → Tr → Prop} : ∀ {l m : List Tr}, MvL R l m → ∀ i (h : i < l.length) (h' : i < m.length), R l[i] m[i]
  | _ :: _, _ :: _, h, 0, _, _ => h.1
  | _ :: _, _ :: _, h, i + 1, h1, h2 => mvL_at h.2 i (by simpa using h1) (by simpa using h2)
  | [], _, _, i, h1, _ => absurd h1 (by simp)
  | _ :: _, [], h, _, _, _ => h.elim
theorem moved_c {d B : Int} (h0 : 0 ≤ d) (h1 : d ≤ 1000000) (hB : B ≤ 1000000) : ∀ (n m : Nat) (lb lb' : List Tr), MvL (MvS d n) lb lb' → (∀ y ∈ lb, plS B n y) → AllL (wf m 3) lb → MovedOK d lb lb'
  | 0, m, lb, lb', hm, hp, hw => movedL_c h0 h1 hw.1 (mvL_len hm) fun i h h' => (mvL_at hm i h h').elim
  | n + 1, m, lb, lb', hm, hp, hw => movedL_c h0 h1 hw.1 (mvL_len hm) fun i h h' => by
    obtain ⟨k, a, s, nm, es, qs, wh, b, c, b', c', e, e', hb, hc⟩ := mvL_at hm i h h'
    obtain ⟨k2, a2, s2, nm2, es2, qs2, wh2, b2, c2, e2, ha0, ha1, pb, pc⟩ := hp _ (List.getElem_mem h)
    have hwi := hw.2 _ (List.getElem_mem h)
    cases m with
    | zero => exact hwi.elim
    | succ m =>
      obtain ⟨k3, a3, s3, nm3, es3, qs3, wh3, b3, c3, e3, w0, w1, w2, w3, w4, w5⟩ := hwi
      rw [e] at e2 e3
      have q2 : a = a2 ∧ b = b2 ∧ c = c2 := by simp [mkS, sl] at e2; exact ⟨e2.2.1, e2.2.2.2.2.2.2.2⟩
      have q3 : b = b3 ∧ c = c3 := by simp [mkS, sl] at e3; exact e3.2.2.2.2.2.2.2
      obtain ⟨rfl, rfl, rfl⟩ := q2
      obtain ⟨rfl, rfl⟩ := q3
      exact ⟨k, a, s, nm, es, qs, wh, b, c, b', c', e, e', ha0, by omega, moved_c h0 h1 hB n m b b' hb pb w4, moved_c h0 h1 hB n m c c' hc pc w5⟩
end Go.Proofs.YtckidlbmoalomaaGreatDoor


namespace Go.Proofs.YtckidlbmoalomaaGreatDoor
open Go.RowKit

def eqBlk (a b : Blk) : Bool := match a, b with
  | ⟨k, e, z, cs⟩, ⟨k', e', z', cs'⟩ => Nat.beq k k' && Nat.beq e e' && Nat.beq z z' && veqLs veq2 cs cs'
theorem eqBlk_eq {a b : Blk} (h : eqBlk a b = true) : a = b := by
  obtain ⟨k, e, z, cs⟩ := a
  obtain ⟨k', e', z', cs'⟩ := b
  simp only [eqBlk, Bool.and_eq_true] at h
  obtain ⟨⟨⟨h1, h2⟩, h3⟩, h4⟩ := h
  rw [Nat.eq_of_beq_eq_true h1, Nat.eq_of_beq_eq_true h2, Nat.eq_of_beq_eq_true h3, veqLs_eq (fun _ _ => veq2_eq) h4]
def eqLs {α : Type} (f : α → α → Bool) : List α → List α → Bool
  | [], [] => true
  | x :: l, y :: m => f x y && eqLs f l m
  | _, _ => false
theorem eqLs_eq {α : Type} {f : α → α → Bool} (hf : ∀ x y, f x y = true → x = y) : ∀ {l m : List α}, eqLs f l m = true → l = m
  | [], [], _ => rfl
  | [], _ :: _, h => by cases h
  | _ :: _, [], h => by cases h
  | x :: l, y :: m, h => by
    simp only [eqLs, Bool.and_eq_true] at h
    rw [hf x y h.1, eqLs_eq hf h.2]
def eqAW (σ τ : AW) : Bool := match σ, τ with
  | ⟨n, r⟩, ⟨m, q⟩ => Nat.beq n m && eqLs (eqLs (eqLs eqBlk)) r q
theorem eqAW_eq {σ τ : AW} (h : eqAW σ τ = true) : σ = τ := by
  obtain ⟨n, r⟩ := σ
  obtain ⟨m, q⟩ := τ
  simp only [eqAW, Bool.and_eq_true] at h
  rw [Nat.eq_of_beq_eq_true h.1, eqLs_eq (fun _ _ h => eqLs_eq (fun _ _ h => eqLs_eq (fun _ _ h => eqBlk_eq h) h) h) h.2]
structure Ent where
  g : Nat
  xs : List Value
  pre : AW
  v : Value
  post : AW
def EntOK (P : Program) (e : Ent) : Prop := (∀ args w, (callFunc e.g args).run P w = .ok (.enter e.g args) w) ∧
  ∀ ρ w, Rel ρ e.pre w → (∀ x ∈ e.xs, Sc e.pre.dom x) → Calls P e.g (e.xs.map (ren ρ)).toArray w fun r w' => ∃ ρ', r = .returned (ren ρ' e.v) ∧ Step ρ e.pre w ρ' e.post w' ∧ Sc e.post.dom e.v
def isEnt (g : Nat) (xs : List Value) (σ : AW) (e : Ent) : Bool := match Nat.beq e.g g with
  | true => eqLs veq e.xs xs && eqAW e.pre σ
  | false => false
def tabX (l : List Ent) : CallA := fun g xs σ => match l.find? (isEnt g xs σ) with
  | some e => some (e.v, e.post)
  | none => none
theorem tab_ok {P : Program} {l : List Ent} (h : ∀ e ∈ l, EntOK P e) : CallOK P (tabX l) := by
  intro g xs σ v σ' hc
  unfold tabX at hc
  split at hc
  · rename_i e he
    injection hc with hc
    injection hc with h1 h2
    subst h1 h2
    have hm := List.mem_of_find?_eq_some he
    have hp := List.find?_some he
    unfold isEnt at hp
    split at hp
    · rename_i hg
      rw [Bool.and_eq_true] at hp
      have e1 := Nat.eq_of_beq_eq_true hg
      have e2 := eqLs_eq (fun _ _ => veq_eq) hp.1
      have e3 := eqAW_eq hp.2
      subst e1 e2 e3
      exact h e hm
    · cases hp
  · cases hc

def gc (σ : AW) (keep : List Nat) : AW := keep.foldl (fun τ k => τ.set k (σ.get k)) ⟨σ.next, []⟩
theorem gc_get (σ : AW) : ∀ (keep : List Nat) (τ : AW), τ.next = σ.next → (∀ k, (τ.get k).kind ≠ 0 → τ.get k = σ.get k) → (keep.foldl (fun τ k => τ.set k (σ.get k)) τ).next = σ.next ∧ ∀ k, ((keep.foldl (fun τ k => τ.set k (σ.get k)) τ).get k).kind ≠ 0 → (keep.foldl (fun τ k => τ.set k (σ.get k)) τ).get k = σ.get k
  | [], τ, h1, h2 => ⟨h1, h2⟩
  | j :: keep, τ, h1, h2 => by
    refine gc_get σ keep (τ.set j (σ.get j)) h1 (fun k hk => ?_)
    rw [AW.get_set] at hk ⊢
    by_cases e : k = j
    · rw [if_pos e, e]
    · rw [if_neg e] at hk ⊢
      exact h2 k hk
theorem gc_ok (σ : AW) (keep : List Nat) : (gc σ keep).next = σ.next ∧ ∀ k, ((gc σ keep).get k).kind ≠ 0 → (gc σ keep).get k = σ.get k := by
  refine gc_get σ keep ⟨σ.next, []⟩ rfl (fun k hk => ?_)
  have e : ∀ {α : Type} (d : α) (k : Nat), getN d [] k = d := fun d k => by cases k <;> rfl
  simp [AW.get, e, noBlk] at hk
def no4 (σ : AW) : Bool := σ.rows.all fun r => r.all fun q => q.all fun b => !Nat.beq b.kind 4
theorem getN_all {α : Type} {p : α → Bool} {d : α} (hd : p d = true) : ∀ (l : List α) (n : Nat), l.all p = true → p (getN d l n) = true
  | [], n, _ => by
    have : getN d [] n = d := by cases n <;> rfl
    rw [this]; exact hd
  | x :: l, 0, h => by rw [List.all_cons, Bool.and_eq_true] at h; exact h.1
  | x :: l, n + 1, h => by rw [List.all_cons, Bool.and_eq_true] at h; exact getN_all hd l n h.2
theorem no4_ok {σ : AW} (h : no4 σ = true) (k : Nat) : (σ.get k).kind ≠ 4 := by
  unfold no4 at h
  have h1 := getN_all (d := []) (by rfl) σ.rows (k / 64) h
  have h2 := getN_all (d := []) (by rfl) _ (k / 8 % 8) h1
  have h3 := getN_all (d := noBlk) (by rfl) _ (k % 8) h2
  intro e
  unfold AW.get at e
  rw [e] at h3
  cases h3
def segX (P : Program) (X : CallA) (n : Nat) (keep : List Nat) (e : Ent) : Bool := no4 e.pre && match runA X P n e.g e.xs e.pre with
  | some (v, σ) => veq v e.v && eqAW (gc σ keep) e.post
  | none => false
theorem segX_ok {P : Program} (hm : P.follows .mixedOrders = true) (hN : ∀ (g : Nat) (fn : Func), P.funcs[g]? = some fn → (fn.name == "runtime.NumGoroutine") = false) {X : CallA} (hX : CallOK P X) {n : Nat} {keep : List Nat} {e : Ent} (h : segX P X n keep e = true) : EntOK P e := by
  unfold segX at h
  rw [Bool.and_eq_true] at h
  obtain ⟨h4, h⟩ := h
  split at h
  · rename_i v σ hr
    rw [Bool.and_eq_true] at h
    obtain ⟨hv, hp⟩ := h
    have hv := veq_eq hv
    have hp := eqAW_eq hp
    subst hv
    obtain ⟨hent, hcall⟩ := run_ok hm hN hX n _ _ _ _ _ hr
    refine ⟨hent, fun ρ w hR hs => Calls.mono (hcall ρ w hR hs) ?_⟩
    rintro r w' ⟨ρ', rfl, hst, hsc⟩
    obtain ⟨g1, g2⟩ := gc_ok σ keep
    rw [← hp]
    have hn4 : ∀ k, (σ.get k).kind ≠ 4 → ((gc σ keep).get k).kind ≠ 4 := fun k h e => by
      rw [g2 k (by omega)] at e; exact h e
    have hlive : ∀ k, (gc σ keep).live k → σ.live k := fun k hk => by
      have := g2 k hk.1
      unfold AW.live at *
      rw [← this]; exact hk
    have hdom : ∀ k, σ.dom k → (gc σ keep).dom k := fun k hk => ⟨by rw [g1]; exact hk.1, hn4 k hk.2⟩
    refine ⟨ρ', rfl, ⟨⟨fun k hk => ?_, fun k hk => ?_, fun i j hi hj => hst.rel.inj i j (hlive i hi) (hlive j hj), fun k hk x hx => ?_, fun k hk => ?_, hst.rel.glob.next (Nat.le_refl _) (fun k hk => .inr ⟨k, hlive k hk, rfl⟩) (fun _ _ _ => rfl)⟩, hst.agree, by rw [g1]; exact hst.mono, fun k hk => ?_, fun k hk => hst.came k (hlive k hk), hst.same, hst.os, hst.tape, hst.output, hst.size⟩, hsc.mono hdom⟩
    · rw [g2 k hk.1]; exact hst.rel.blk k (hlive k hk)
    · rw [g1]; exact hst.rel.lt k (hlive k hk)
    · rw [g2 k hk.1] at hx; exact (hst.rel.sc k (hlive k hk) x hx).mono hdom
    · rw [g1] at hk
      apply Classical.byContradiction
      intro hne
      have := g2 k hne
      rw [this] at hne
      exact hne (hst.rel.fit k hk)
    · have hno := no4_ok h4 k
      refine ⟨fun e => ?_, fun e => absurd e hno⟩
      rw [g2 k (by omega)] at e
      exact absurd ((hst.kept k hk).1 e) hno
  · cases h

def orX (B X : CallA) : CallA := fun g xs σ => match B g xs σ with
  | some r => some r
  | none => X g xs σ
theorem or_ok {P : Program} {B X : CallA} (hB : CallOK P B) (hX : CallOK P X) : CallOK P (orX B X) := by
  intro g xs σ v σ' h
  unfold orX at h
  split at h
  · rename_i r hr
    injection h with h
    subst h
    exact hB g xs σ v σ' hr
  · exact hX g xs σ v σ' h
end Go.Proofs.YtckidlbmoalomaaGreatDoor
