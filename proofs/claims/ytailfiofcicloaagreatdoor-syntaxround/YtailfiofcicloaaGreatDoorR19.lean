/- Calls of cordonlaw06.alive, reckoned. cordonlaw06.alive: closed, it returns true. A text with a newline and more behind it: its tokens stay. What is read where fewer things may stand within one another is the same, or too deep. -/
import Derived.Test.YtailfiofcicloaaGreatDoorR18
import Derived.Test.YtailfiofcicloaaGreatDoorR07

namespace Go.Proofs.YtailfiofcicloaaGreatDoor

set_option maxRecDepth 1000000 in
theorem syr1_seg : segX Tryz.prog (orX tokX (tabX [syr0])) 5000 syrkeep1 syr1 = true := by kernel_rfl
set_option maxRecDepth 1000000 in
theorem syr2_seg : segX Tryz.prog (orX tokX (tabX [syr0, syr1])) 5000 syrkeep2 syr2 = true := by kernel_rfl

end Go.Proofs.YtailfiofcicloaaGreatDoor

namespace Go.Proofs.YtailfiofcicloaaGreatDoor
open Go.RowKit

theorem syr0_ok : ∀ e ∈ [syr0], EntOK Tryz.prog e := by
  have h := segX_ok mixed named (or_ok tokX_ok (tab_ok (l := []) (fun e he => by cases he))) syr0_seg
  intro e he
  rcases List.mem_singleton.1 he with rfl
  exact h
theorem syr1_ok : ∀ e ∈ [syr0, syr1], EntOK Tryz.prog e := by
  have h := segX_ok mixed named (or_ok tokX_ok (tab_ok syr0_ok)) syr1_seg
  intro e he
  rcases List.mem_append.1 (show e ∈ [syr0] ++ [syr1] from he) with he | he
  · exact syr0_ok e he
  · rcases List.mem_singleton.1 he with rfl
    exact h
theorem syr2_ok : ∀ e ∈ [syr0, syr1, syr2], EntOK Tryz.prog e := by
  have h := segX_ok mixed named (or_ok tokX_ok (tab_ok syr1_ok)) syr2_seg
  intro e he
  rcases List.mem_append.1 (show e ∈ [syr0, syr1] ++ [syr2] from he) with he | he
  · exact syr1_ok e he
  · rcases List.mem_singleton.1 he with rfl
    exact h
set_option maxRecDepth 1000000 in
theorem syr_run : comesTo (runA (orX tokX (tabX [syr0, syr1, syr2])) Tryz.prog 5000 4 [] AW0) isTrueV = true := by kernel_rfl
theorem syr_c (σ : AW) : C Tryz.prog 4 [] σ fun v σ' => v = .bool true ∧ σ' = σ := by
  refine C.mono (closed_c (or_ok tokX_ok (tab_ok syr2_ok)) rfl syr_run σ) ?_
  rintro v σ' ⟨hv, rfl⟩
  cases v with
  | bool b => exact ⟨by rw [show b = true from hv], rfl⟩
  | _ => cases hv
end Go.Proofs.YtailfiofcicloaaGreatDoor

namespace Go.Proofs.YtailfiofcicloaaGreatDoor

theorem runN_app {p : UInt8 → Bool} {c : UInt8} (hc : p c = false) (r : List UInt8) : ∀ l : List UInt8, runN p (l ++ c :: r) = runN p l
  | [] => by simp [runN, hc]
  | a :: l => by
    simp only [List.cons_append, runN, runN_app hc r l]
theorem qrun_app (r : List UInt8) : ∀ (o : Bool) (l : List UInt8), (qrun o l).2 = false → qrun o (l ++ 10 :: r) = qrun o l
  | o, [], h => by
    have ho : o = false := h
    subst ho
    simp [qrun]
  | o, c :: l, h => by
    simp only [List.cons_append]
    rw [qrun] at h ⊢
    rw [qrun]
    split
    · rename_i hc
      rw [if_pos hc] at h
      rw [qrun_app r (!o) l h]
    · rename_i hc
      rw [if_neg hc] at h
      split
      · rename_i ho
        rw [if_pos ho] at h
        rw [qrun_app r true l h]
      · rfl
theorem prefix_app (r : List UInt8) : ∀ (m l : List UInt8), (∀ x ∈ m, x ≠ 10) → m.isPrefixOf (l ++ 10 :: r) = m.isPrefixOf l
  | [], _, _ => by simp [List.isPrefixOf]
  | a :: m, [], h => by
    have : (a == 10) = false := by simpa using h a (List.mem_cons_self ..)
    simp [List.isPrefixOf, this]
  | a :: m, c :: l, h => by
    simp only [List.cons_append, List.isPrefixOf, prefix_app r m l fun x hx => h x (List.mem_cons_of_mem _ hx)]
theorem find_congr {α : Type} {p q : α → Bool} : ∀ l : List α, (∀ x ∈ l, p x = q x) → l.find? p = l.find? q
  | [], _ => rfl
  | a :: l, h => by
    simp only [List.find?, h a (List.mem_cons_self ..), find_congr l fun x hx => h x (List.mem_cons_of_mem _ hx)]
theorem marksL_ten : ∀ m ∈ marksL, ∀ x ∈ m, x ≠ 10 := by decide
theorem textP_app {l : List UInt8} (r : List UInt8) {b : List UInt8} {n : Nat} (h : textP l = .inl (b, n)) : textP (l ++ 10 :: r) = .inl (b, n) := by
  unfold textP at h
  split at h
  · exact nomatch h
  · rename_i hq
    have hq' : (qrun false l).2 = false := by simpa using hq
    have hrun := qrun_app r false l hq'
    have hle := qrun_le false l
    have hs : saidP (l ++ 10 :: r) = saidP l := by
      unfold saidP
      rw [hrun, List.take_append_of_le_length (by omega)]
    unfold textP
    rw [hrun, hs, List.take_append_of_le_length hle, if_neg hq]
    exact h
theorem one_app {l : List UInt8} (r : List UInt8) {v : Int × List UInt8 × Nat × Nat} (h : oneL l = .inl v) : oneL (l ++ 10 :: r) = .inl v := by
  cases l with
  | nil => exact nomatch h
  | cons c q =>
    have h1 := runN_app (p := fun d => digitB d || letterB d) (c := 10) (by decide) r (c :: q)
    have h2 := runN_app (p := digitB) (c := 10) (by decide) r (c :: q)
    have l1 := runN_le (fun d => digitB d || letterB d) (c :: q)
    have l2 := runN_le digitB (c :: q)
    show oneC c (q ++ 10 :: r) = _
    have h : oneC c q = .inl v := h
    unfold oneC at h ⊢
    rw [← List.cons_append, h1, h2, List.take_append_of_le_length l1, List.take_append_of_le_length l2]
    split
    · rename_i hl
      rw [if_pos hl] at h
      exact h
    · rename_i hl
      rw [if_neg hl] at h
      split
      · rename_i hd
        rw [if_pos hd] at h
        exact h
      · rename_i hd
        rw [if_neg hd] at h
        split
        · rename_i hq
          rw [if_pos hq] at h
          cases ht : textP (c :: q) with
          | inr k => rw [ht] at h; exact nomatch h
          | inl p =>
            obtain ⟨b, n⟩ := p
            rw [textP_app r ht]
            rw [ht] at h
            exact h
        · rename_i hq
          rw [if_neg hq] at h
          rw [find_congr marksL fun m hm => prefix_app r m (c :: q) (marksL_ten m hm)]
          exact h
end Go.Proofs.YtailfiofcicloaaGreatDoor

namespace Go.Proofs.YtailfiofcicloaaGreatDoor

/-- A reader that keeps what was refused first. -/
def Stick {α : Type} (m : SM α) : Prop := ∀ σ, σ.err ≠ 0 → (m σ).2.err = σ.err
/-- Where the second reader refuses nothing, the first one does the same, or tells that it is too deep. -/
structure Low {α : Type} (m m' : SM α) : Prop where
  a : Stick m
  b : Stick m'
  c : ∀ σ, σ.err = 0 → (m' σ).2.err = 0 → (m σ).2.err = 9 ∨ m σ = m' σ

theorem Low.refl {α : Type} {m : SM α} (h : Stick m) : Low m m := ⟨h, h, fun _ _ _ => .inr rfl⟩
theorem Stick.bind {α β : Type} {m : SM α} {k : α → SM β} (h : Stick m) (hk : ∀ a, Stick (k a)) : Stick (m >>= k) := by
  intro σ hσ
  have h1 := h σ hσ
  rw [SM.bind_run, hk _ _ (by rw [h1]; exact hσ), h1]
theorem Low.bind {α β : Type} {m m' : SM α} {k k' : α → SM β} (h : Low m m') (hk : ∀ a, Low (k a) (k' a)) : Low (m >>= k) (m' >>= k') := by
  refine ⟨h.a.bind fun a => (hk a).a, h.b.bind fun a => (hk a).b, ?_⟩
  intro σ h0 hok
  rw [SM.bind_run] at hok ⊢
  rw [SM.bind_run]
  have h1 : (m' σ).2.err = 0 := by
    by_cases hz : (m' σ).2.err = 0
    · exact hz
    · exact absurd (((hk (m' σ).1).b _ hz).symm.trans hok) hz
  rcases h.c σ h0 h1 with h9 | he
  · left
    rw [(hk (m σ).1).a _ (by rw [h9]; decide), h9]
  · rw [he]
    exact (hk (m' σ).1).c _ h1 hok
theorem Stick.pure {α : Type} (a : α) : Stick (Pure.pure a : SM α) := fun _ _ => rfl
theorem Stick.head : Stick headM := fun _ _ => rfl
theorem Stick.sees (x : ByteArray) : Stick (seesS x) := fun _ _ => rfl
theorem Stick.refuse (e : Int) : Stick (refuseS e) := by
  intro σ hσ
  simp [refuseS, hσ]
theorem Stick.take (x : ByteArray) : Stick (takeS x) := by
  intro σ _
  unfold takeS
  split <;> rfl
theorem Stick.takeKind (k : Int) : Stick (takeKindS k) := by
  intro σ _
  unfold takeKindS
  split <;> rfl
theorem Stick.takeAny (l : List ByteArray) : Stick (takeAnyS l) := by
  induction l with
  | nil => exact fun _ _ => rfl
  | cons x l ih =>
    intro σ hσ
    unfold takeAnyS
    split
    · rfl
    · exact ih σ hσ
theorem Low.ite {α : Type} {c : Prop} [Decidable c] {m m' n n' : SM α} (h : Low m m') (h' : Low n n') : Low (if c then m else n) (if c then m' else n') := by
  split
  · exact h
  · exact h'
theorem Low.pure {α : Type} (a : α) : Low (Pure.pure a : SM α) (Pure.pure a) := .refl (.pure a)
theorem Low.take (x : ByteArray) : Low (takeS x) (takeS x) := .refl (.take x)
theorem Low.sees (x : ByteArray) : Low (seesS x) (seesS x) := .refl (.sees x)
theorem Low.head : Low headM headM := .refl .head
theorem Low.refuse (e : Int) : Low (refuseS e) (refuseS e) := .refl (.refuse e)
theorem Low.takeKind (k : Int) : Low (takeKindS k) (takeKindS k) := .refl (.takeKind k)
theorem Low.takeAny (l : List ByteArray) : Low (takeAnyS l) (takeAnyS l) := .refl (.takeAny l)
theorem Low.want (x : ByteArray) : Low (wantS x) (wantS x) := (Low.take x).bind fun _ => .ite (.pure _) (.refuse _)
theorem Low.name : Low nameS nameS := Low.head.bind fun _ => .ite ((Low.refuse _).bind fun _ => .pure _) ((Low.takeKind _).bind fun _ => .ite (.pure _) ((Low.refuse _).bind fun _ => .pure _))
theorem Low.number : Low numberS numberS := Low.head.bind fun _ => (Low.takeKind _).bind fun _ => .ite (.pure _) ((Low.refuse _).bind fun _ => .pure _)
theorem Low.opt {α β : Type} {s s' : α → SM β} {n n' : SM β} (h : ∀ a, Low (s a) (s' a)) (h' : Low n n') : ∀ o : Option α, Low (match o with | some a => s a | none => n) (match o with | some a => s' a | none => n')
  | some a => h a
  | none => h'
theorem Low.loop {α : Type} {s s' : α → SM (Option α)} (h : ∀ a, Low (s a) (s' a)) : ∀ (f : Nat) (x : α), Low (loopS s f x) (loopS s' f x)
  | 0, x => .pure x
  | f + 1, x => (h x).bind fun o => by
      cases o with
      | none => exact .pure x
      | some y => exact Low.loop h f y
theorem Low.while {α : Type} {s s' : α → SM (Option α)} (h : ∀ a, Low (s a) (s' a)) (x : α) : Low (whileS s x) (whileS s' x) :=
  ⟨fun σ => (Low.loop h σ.left.length x).a σ, fun σ => (Low.loop h σ.left.length x).b σ, fun σ => (Low.loop h σ.left.length x).c σ⟩
theorem Low.fromLeft {m m' : Tr → ByteArray → SM Tr} (h : ∀ a b, Low (m a b) (m' a b)) (l : List ByteArray) (x : Tr) : Low (fromLeftS m l x) (fromLeftS m' l x) :=
  Low.while (fun a => (Low.takeAny l).bind fun o => by
    cases o with
    | none => exact .pure _
    | some y => exact (h a y).bind fun _ => .pure _) x
theorem Low.each {α : Type} {r r' : SM α} (h : Low r r') (x : ByteArray) (l : List α) : Low (eachS x r l) (eachS x r' l) :=
  Low.while (fun _ => (Low.take x).bind fun _ => .ite (h.bind fun _ => .pure _) (.pure _)) l
theorem Low.list {α : Type} {r r' : SM α} (h : Low r r') (x : ByteArray) : Low (listS x r) (listS x r') := h.bind fun _ => h.each x _
theorem Low.behind {α : Type} {r r' : SM α} (h : Low r r') (x : ByteArray) : Low (behindS x r) (behindS x r') := (Low.take x).bind fun _ => .ite (h.bind fun _ => .pure _) (.pure _)
theorem Low.inBrackets {α : Type} {r r' : SM α} (h : Low r r') : Low (inBracketsS r) (inBracketsS r') := (Low.want _).bind fun _ => h.bind fun _ => (Low.want _).bind fun _ => .pure _
theorem Low.listInBrackets {α : Type} {r r' : SM α} (h : Low r r') : Low (listInBracketsS r) (listInBracketsS r') := ((Low.sees _).bind fun _ => .ite (.pure _) (h.list _)).inBrackets

structure LowK (K K' : Knot) : Prop where
  or : Low K.or K'.or
  not : Low K.not K'.not
  unary : Low K.unary K'.unary
  parts : Low K.parts K'.parts
  block : Low K.block K'.block

section
variable {K K' : Knot} (h : LowK K K')
include h
omit h in
theorem Low.operands {r r' : SM Tr} (hr : Low r r') (l : List ByteArray) : Low (operandsS r l) (operandsS r' l) := hr.bind fun _ => .fromLeft (fun _ _ => hr.bind fun _ => .pure _) _ _
theorem low_choice : Low (choiceS K) (choiceS K') := (Low.want _).bind fun _ => h.or.bind fun _ => (Low.want _).bind fun _ => h.or.bind fun _ => (Low.want _).bind fun _ => h.or.bind fun _ => (Low.want _).bind fun _ => .pure _
theorem low_gathered (s : ByteArray) : Low (gatheredS K s) (gatheredS K' s) := Low.inBrackets (.ite ((Low.take _).bind fun _ => .ite (.pure _) (h.or.bind fun _ => .pure _)) (h.or.bind fun _ => .pure _))
theorem low_named : Low (namedS K) (namedS K') := Low.name.bind fun _ => (Low.take _).bind fun _ => .ite (Low.name.bind fun _ => .pure _) (.ite ((Low.sees _).bind fun _ => .ite ((low_gathered h _).bind fun _ => .pure _) (.pure _)) (.pure _))
theorem low_bracketed : Low (bracketedS K) (bracketedS K') := (Low.sees _).bind fun _ => .ite (h.parts.bind fun _ => .pure _) h.or
theorem low_prim : Low (primS K) (primS K') := Low.head.bind fun _ => (Low.takeKind _).bind fun _ => .ite (.pure _) ((Low.takeKind _).bind fun _ => .ite (.pure _) ((Low.take _).bind fun _ => .ite (.pure _) ((Low.take _).bind fun _ => .ite (.pure _) ((Low.take _).bind fun _ => .ite (.pure _) ((Low.take _).bind fun _ => .ite (Low.name.bind fun _ => .pure _) ((Low.take _).bind fun _ => .ite (low_choice h) ((Low.take _).bind fun _ => .ite (h.parts.inBrackets.bind fun _ => .pure _) ((Low.sees _).bind fun _ => .ite (low_bracketed h).inBrackets (low_named h)))))))))
theorem low_unary : Low (unaryS K) (unaryS K') := (Low.take _).bind fun _ => .ite (h.unary.bind fun _ => .pure _) (low_prim h)
theorem low_product : Low (productS K) (productS K') := Low.operands (low_unary h) _
theorem low_sum : Low (sumS K) (sumS K') := Low.operands (low_product h) _
theorem low_in (x : Tr) (n : Int) : Low (inS K x n) (inS K' x n) := (Low.want _).bind fun _ => h.parts.inBrackets.bind fun _ => .pure _
theorem low_compared : Low (comparedS K) (comparedS K') := (low_sum h).bind fun _ => (Low.takeAny _).bind fun o => by
  cases o with
  | some m => exact (low_sum h).bind fun _ => .pure _
  | none => exact (Low.take _).bind fun _ => .ite ((Low.take _).bind fun _ => (Low.want _).bind fun _ => .pure _) ((Low.take _).bind fun _ => .ite (low_in h _ _) ((Low.sees _).bind fun _ => .ite (low_in h _ _) (.pure _)))
theorem low_not : Low (notS K) (notS K') := (Low.take _).bind fun _ => .ite (h.not.bind fun _ => .pure _) (low_compared h)
theorem low_and : Low (andS K) (andS K') := Low.operands (low_not h) _
theorem low_or : Low (orS K) (orS K') := Low.operands (low_and h) _
theorem low_item : Low (itemS K) (itemS K') := h.or.bind fun _ => (Low.want _).bind fun _ => Low.name.bind fun _ => .pure _
theorem low_key : Low (keyS K) (keyS K') := h.or.bind fun _ => (Low.take _).bind fun _ => .pure _
theorem low_one : Low (oneS K) (oneS K') := (Low.sees _).bind fun _ => .ite (h.parts.inBrackets.bind fun _ => (Low.want _).bind fun _ => Low.name.bind fun _ => .pure _) (Low.name.bind fun _ => (Low.take _).bind fun _ => (Low.take _).bind fun _ => .ite (Low.name.bind fun _ => .pure _) (.pure _))
theorem low_join (x : Tr) (n : Int) : Low (joinS K x n) (joinS K' x n) := (low_one h).bind fun _ => (Low.want _).bind fun _ => h.or.bind fun _ => .pure _
theorem low_source : Low (sourceS K) (sourceS K') := (low_one h).bind fun _ => .fromLeft (fun _ _ => .ite ((Low.want _).bind fun _ => low_join h _ _) (low_join h _ _)) _ _
theorem low_group : Low (groupS K) (groupS K') := (Low.take _).bind fun _ => .ite ((Low.want _).bind fun _ => (h.or.list _).bind fun _ => (h.or.behind _).bind fun _ => .pure _) (.pure _)
theorem low_order : Low (orderS K) (orderS K') := (Low.take _).bind fun _ => .ite ((Low.want _).bind fun _ => (low_key h).list _) (.pure _)
omit h in
theorem low_limit : Low limitS limitS := (Low.take _).bind fun _ => .ite .number (.pure _)
theorem low_part : Low (partS K) (partS K') := (Low.sees _).bind fun _ => .ite h.parts.inBrackets ((Low.want _).bind fun _ => (Low.take _).bind fun _ => ((low_item h).list _).bind fun _ => ((low_source h).behind _).bind fun _ => (h.or.behind _).bind fun _ => (low_group h).bind fun _ => (low_order h).bind fun _ => low_limit.bind fun _ => .pure _)
omit h in
theorem low_together (s : ByteArray) : Low (togetherS s) (togetherS s) := .ite (.pure _) (.ite (.pure _) ((Low.take _).bind fun _ => .ite (.pure _) (.pure _)))
theorem low_parts : Low (partsS K) (partsS K') := (low_part h).bind fun _ => .fromLeft (fun _ _ => (low_together _).bind fun _ => (low_part h).bind fun _ => .pure _) _ _
theorem low_assigned : Low (assignedS K) (assignedS K') := Low.name.bind fun _ => (Low.want _).bind fun _ => h.or.bind fun _ => .pure _
theorem low_plain (k a : Int) : Low (plainS K k a) (plainS K' k a) :=
  .ite ((low_assigned h).bind fun _ => .pure _) (.ite (Low.name.bind fun _ => .pure _) (.ite (Low.name.bind fun _ => h.or.bind fun _ => .pure _)
  (.ite ((Low.want _).bind fun _ => Low.name.bind fun _ => (Low.take _).bind fun _ => .ite ((h.or.list _).inBrackets.bind fun _ => .pure _) (h.parts.bind fun _ => .pure _))
  (.ite (Low.name.bind fun _ => (Low.want _).bind fun _ => ((low_assigned h).list _).bind fun _ => (h.or.behind _).bind fun _ => .pure _)
  (.ite ((Low.want _).bind fun _ => Low.name.bind fun _ => (h.or.behind _).bind fun _ => .pure _)
  (.ite (Low.name.bind fun _ => h.or.listInBrackets.bind fun _ => .pure _) (.pure _)))))))
theorem low_fill (k a : Int) : Low (fillS K k a) (fillS K' k a) :=
  .ite (h.or.bind fun _ => h.block.bind fun _ => (Low.take _).bind fun _ => .ite (h.block.bind fun _ => .pure _) (.pure _))
  (.ite (h.or.bind fun _ => h.block.bind fun _ => .pure _)
  (.ite ((Low.name.list _).bind fun _ => (Low.want _).bind fun _ => h.parts.bind fun _ => h.block.bind fun _ => .pure _)
  (.ite (h.block.bind fun _ => (Low.want _).bind fun _ => h.block.bind fun _ => .pure _)
  ((low_plain h _ _).bind fun _ => (Low.want _).bind fun _ => .pure _))))
theorem low_stmts : Low (stmtsS K) (stmtsS K') :=
  Low.while (fun _ => Low.head.bind fun _ => .ite (.pure _) ((Low.takeKind _).bind fun _ => .ite ((low_fill h _ _).bind fun _ => .pure _) (.pure _))) _
theorem low_block : Low (blockS K) (blockS K') := (Low.want _).bind fun _ => (low_stmts h).bind fun _ => (Low.want _).bind fun _ => .pure _
theorem low_next (n : Nat) (hk : K = knot n) {m : Nat} (hk' : K' = knot m) : LowK (knot (n + 1)) (knot (m + 1)) := by
  subst hk; subst hk'
  exact ⟨low_or h, low_not h, low_unary h, low_parts h, low_block h⟩
end
theorem Stick.tooDeep {α : Type} (z : α) : Stick (Go.Proofs.YtailfiofcicloaaGreatDoor.tooDeep z) := (Stick.refuse 9).bind fun _ => .pure z
theorem Low.deep {α : Type} (z : α) {m : SM α} (h : Stick m) : Low (Go.Proofs.YtailfiofcicloaaGreatDoor.tooDeep z) m :=
  ⟨.tooDeep z, h, fun σ h0 _ => .inl (by simp [Go.Proofs.YtailfiofcicloaaGreatDoor.tooDeep, SM.bind_run, SM.pure_run, refuseS, h0])⟩
theorem low_self : ∀ n : Nat, LowK (knot n) (knot n)
  | 0 => ⟨.refl (.tooDeep _), .refl (.tooDeep _), .refl (.tooDeep _), .refl (.tooDeep _), .refl (.tooDeep _)⟩
  | n + 1 => low_next (low_self n) n rfl rfl
theorem low_knot : ∀ n : Nat, LowK (knot n) (knot (n + 1))
  | 0 => ⟨.deep _ (low_self 1).or.a, .deep _ (low_self 1).not.a, .deep _ (low_self 1).unary.a, .deep _ (low_self 1).parts.a, .deep _ (low_self 1).block.a⟩
  | n + 1 => low_next (low_knot n) n rfl rfl
end Go.Proofs.YtailfiofcicloaaGreatDoor
