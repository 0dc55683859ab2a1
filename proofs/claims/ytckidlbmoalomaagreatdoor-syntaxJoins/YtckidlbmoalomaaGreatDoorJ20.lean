/- The program's reader: a whole expression. What is read is a tree of the kind that is asked for. -/
import Derived.Test.YtckidlbmoalomaaGreatDoorJ19
import Derived.Test.YtckidlbmoalomaaGreatDoorJ08


namespace Go.Proofs.YtckidlbmoalomaaGreatDoor
open Go.RowKit
set_option maxRecDepth 10000
set_option linter.unusedSimpArgs false
set_option linter.unusedVariables false

section
variable {r b : Nat} {T : List Tk}
end
def WPost (n : Nat) (σ : AW) (p : Tr × Int × Int) (v : Value) (σ' : AW) : Prop := ∃ x, v = .tuple ⟨[x, .int .i64 p.2.1, .int .i64 p.2.2]⟩ ∧ TE n σ' (fun k => σ.next ≤ k) x p.1 ∧ Kp σ σ'
def endS (s : Sy) : Sy := if s.head.1 = 0 then s else (refuseS 10 s).2
theorem whole_eq {α : Type} (z : α) (m : SM α) (A : List Tk) (p : Nat) : wholeS z m (A, p, 0) = if (endS (m ⟨A, 0, 0⟩).2).err ≠ 0 then (z, (endS (m ⟨A, 0, 0⟩).2).pl, (endS (m ⟨A, 0, 0⟩).2).err) else ((m ⟨A, 0, 0⟩).1, 0, 0) := by
  have e : (do
      let x ← m
      let t ← headM
      if t.1 ≠ 0 then do
        refuseS 10
        pure x
      else pure x : SM α) ⟨A, 0, 0⟩ = ((m ⟨A, 0, 0⟩).1, endS (m ⟨A, 0, 0⟩).2) := by
    rw [SM.bind_run]
    generalize m ⟨A, 0, 0⟩ = q
    obtain ⟨x, s⟩ := q
    show (if s.head.1 ≠ 0 then (refuseS 10 >>= fun _ => pure x : SM α) else pure x) s = (x, endS s)
    unfold endS
    by_cases h : s.head.1 = 0
    · rw [if_neg (by simp [h]), if_pos h]; rfl
    · rw [if_pos h, if_neg h]; rfl
  unfold wholeS
  simp only [ne_eq, not_true_eq_false, if_false]
  rw [e]
theorem Kp.gr2 {r : Nat} {σ σ1 σ2 : AW} (h : Kp σ σ1) (g : Gr r σ1 σ2) (hr : σ.next ≤ r) : Kp σ σ2 := ⟨Nat.le_trans h.next g.next, fun k hk => (g.get k (Nat.lt_of_lt_of_le hk h.next) (by omega)).trans (h.get k hk)⟩
end Go.Proofs.YtckidlbmoalomaaGreatDoor


namespace Go.Proofs.YtckidlbmoalomaaGreatDoor

def AllL (P : Tr → Prop) (l : List Tr) : Prop := l.length ≤ 200000 ∧ ∀ x ∈ l, P x
theorem AllL.mono {P Q : Tr → Prop} {l : List Tr} (h : AllL P l) (k : ∀ x, P x → Q x) : AllL Q l := ⟨h.1, fun x hx => k x (h.2 x hx)⟩
theorem AllL.nil (P : Tr → Prop) : AllL P [] := ⟨by simp, fun x hx => absurd hx (by simp)⟩
def isText (x : Tr) : Prop := ∃ s, x = .string s
def wf : Nat → Nat → Tr → Prop
  | 0, _, _ => False
  | n + 1, 0, p => ∃ k m s t kids qs, p = mkE k m s t kids qs ∧ AllL (wf n 0) kids ∧ AllL (wf n 1) qs
  | n + 1, 1, p => ∃ k d m items froms wh gr ha or kids, p = mkQ k d m items froms wh gr ha or kids ∧ AllL (fun x => ∃ e s, x = withName e s ∧ wf n 0 e) items ∧ AllL (wf n 2) froms ∧ AllL (wf n 0) wh ∧ AllL (wf n 0) gr ∧ AllL (wf n 0) ha ∧ AllL (fun x => ∃ e b, x = withFlag e b ∧ wf n 0 e) or ∧ AllL (wf n 1) kids
  | n + 1, 2, p => ∃ k v t a q kids on, p = mkF k v t a q kids on ∧ AllL (wf n 1) q ∧ AllL (wf n 2) kids ∧ AllL (wf n 0) on
  | n + 1, 3, p => ∃ k a t names es qs wh body other, p = mkS k a t names es qs wh body other ∧ AllL isText names ∧ AllL (wf n 0) es ∧ AllL (wf n 1) qs ∧ AllL (wf n 0) wh ∧ AllL (wf n 3) body ∧ AllL (wf n 3) other
  | _ + 1, _ + 4, _ => False
theorem wf_succ : ∀ (n k : Nat) (p : Tr), wf n k p → wf (n + 1) k p
  | 0, _, _, h => h.elim
  | n + 1, 0, _, ⟨k, m, s, t, kids, qs, e, h1, h2⟩ => ⟨k, m, s, t, kids, qs, e, h1.mono (wf_succ n 0), h2.mono (wf_succ n 1)⟩
  | n + 1, 1, _, ⟨k, d, m, items, froms, wh, gr, ha, or, kids, e, h1, h2, h3, h4, h5, h6, h7⟩ => ⟨k, d, m, items, froms, wh, gr, ha, or, kids, e, h1.mono (fun _ ⟨a, s, e, h⟩ => ⟨a, s, e, wf_succ n 0 a h⟩), h2.mono (wf_succ n 2), h3.mono (wf_succ n 0), h4.mono (wf_succ n 0), h5.mono (wf_succ n 0), h6.mono (fun _ ⟨a, s, e, h⟩ => ⟨a, s, e, wf_succ n 0 a h⟩), h7.mono (wf_succ n 1)⟩
  | n + 1, 2, _, ⟨k, v, t, a, q, kids, on, e, h1, h2, h3⟩ => ⟨k, v, t, a, q, kids, on, e, h1.mono (wf_succ n 1), h2.mono (wf_succ n 2), h3.mono (wf_succ n 0)⟩
  | n + 1, 3, _, ⟨k, a, t, names, es, qs, wh, body, other, e, h0, h1, h2, h3, h4, h5⟩ => ⟨k, a, t, names, es, qs, wh, body, other, e, h0, h1.mono (wf_succ n 0), h2.mono (wf_succ n 1), h3.mono (wf_succ n 0), h4.mono (wf_succ n 3), h5.mono (wf_succ n 3)⟩
theorem wf_le {n m k : Nat} {p : Tr} (h : wf n k p) (hm : n ≤ m) : wf m k p := by
  induction hm with
  | refl => exact h
  | step _ ih => exact wf_succ _ _ _ ih
def Wf (k : Nat) (p : Tr) : Prop := ∃ n, wf n k p
def WfL (k : Nat) (l : List Tr) : Prop := AllL (Wf k) l
def WfI (l : List Tr) : Prop := AllL (fun x => ∃ e s, x = withName e s ∧ Wf 0 e) l
def WfO (l : List Tr) : Prop := AllL (fun x => ∃ e b, x = withFlag e b ∧ Wf 0 e) l
theorem all_get {Q : Nat → Tr → Prop} (hm : ∀ n m x, Q n x → n ≤ m → Q m x) {l : List Tr} (h : AllL (fun x => ∃ n, Q n x) l) : ∃ n, AllL (Q n) l := by
  have key : ∀ {l : List Tr}, (∀ x ∈ l, ∃ n, Q n x) → ∃ n, ∀ x ∈ l, Q n x := by
    intro l
    induction l with
    | nil => exact fun _ => ⟨0, fun x hx => absurd hx (by simp)⟩
    | cons y l ih =>
      intro h
      obtain ⟨n, hn⟩ := h y (List.mem_cons_self ..)
      obtain ⟨m, hm'⟩ := ih (fun x hx => h x (List.mem_cons_of_mem _ hx))
      refine ⟨n + m, fun x hx => ?_⟩
      cases hx with
      | head => exact hm _ _ _ hn (Nat.le_add_right ..)
      | tail _ hx => exact hm _ _ _ (hm' x hx) (Nat.le_add_left ..)
  obtain ⟨n, hn⟩ := key h.2
  exact ⟨n, h.1, hn⟩
theorem wfL_get {k : Nat} {l : List Tr} (h : WfL k l) : ∃ n, AllL (wf n k) l := all_get (Q := fun n x => wf n k x) (fun _ _ _ h hm => wf_le h hm) h
theorem wfI_get {l : List Tr} (h : WfI l) : ∃ n, AllL (fun x => ∃ e s, x = withName e s ∧ wf n 0 e) l :=
  all_get (Q := fun n x => ∃ e s, x = withName e s ∧ wf n 0 e) (fun _ _ _ ⟨e, s, h1, h2⟩ hm => ⟨e, s, h1, wf_le h2 hm⟩) (h.mono (fun _ ⟨e, s, h1, n, h2⟩ => ⟨n, e, s, h1, h2⟩))
theorem wfO_get {l : List Tr} (h : WfO l) : ∃ n, AllL (fun x => ∃ e b, x = withFlag e b ∧ wf n 0 e) l :=
  all_get (Q := fun n x => ∃ e b, x = withFlag e b ∧ wf n 0 e) (fun _ _ _ ⟨e, s, h1, h2⟩ hm => ⟨e, s, h1, wf_le h2 hm⟩) (h.mono (fun _ ⟨e, s, h1, n, h2⟩ => ⟨n, e, s, h1, h2⟩))
theorem wfL_nil (k : Nat) : WfL k [] := AllL.nil _
theorem all_one {P : Tr → Prop} {x : Tr} (h : P x) : AllL P [x] := ⟨by simp, fun y hy => by simp only [List.mem_singleton] at hy; rw [hy]; exact h⟩
theorem wfL_one {k : Nat} {x : Tr} (h : Wf k x) : WfL k [x] := all_one h
theorem wfL_two {k : Nat} {x y : Tr} (h : Wf k x) (h' : Wf k y) : WfL k [x, y] := ⟨by simp, fun z hz => by
  simp only [List.mem_cons, List.not_mem_nil, or_false] at hz
  rcases hz with rfl | rfl
  · exact h
  · exact h'⟩
theorem wf_E {k m : Int} {s t : ByteArray} {kids qs : List Tr} (h1 : WfL 0 kids) (h2 : WfL 1 qs) : Wf 0 (mkE k m s t kids qs) := by
  obtain ⟨n1, h1⟩ := wfL_get h1
  obtain ⟨n2, h2⟩ := wfL_get h2
  exact ⟨n1 + n2 + 1, k, m, s, t, kids, qs, rfl, h1.mono (fun _ h => wf_le h (by omega)), h2.mono (fun _ h => wf_le h (by omega))⟩
theorem wf_Q {k : Int} {d : Bool} {m : Int} {items froms wh gr ha or kids : List Tr} (h1 : WfI items) (h2 : WfL 2 froms) (h3 : WfL 0 wh) (h4 : WfL 0 gr) (h5 : WfL 0 ha) (h6 : WfO or) (h7 : WfL 1 kids) : Wf 1 (mkQ k d m items froms wh gr ha or kids) := by
  obtain ⟨n1, h1⟩ := wfI_get h1
  obtain ⟨n2, h2⟩ := wfL_get h2
  obtain ⟨n3, h3⟩ := wfL_get h3
  obtain ⟨n4, h4⟩ := wfL_get h4
  obtain ⟨n5, h5⟩ := wfL_get h5
  obtain ⟨n6, h6⟩ := wfO_get h6
  obtain ⟨n7, h7⟩ := wfL_get h7
  exact ⟨n1 + n2 + n3 + n4 + n5 + n6 + n7 + 1, k, d, m, items, froms, wh, gr, ha, or, kids, rfl, h1.mono (fun _ ⟨a, b, q, w⟩ => ⟨a, b, q, wf_le w (by omega)⟩), h2.mono (fun _ h => wf_le h (by omega)), h3.mono (fun _ h => wf_le h (by omega)), h4.mono (fun _ h => wf_le h (by omega)), h5.mono (fun _ h => wf_le h (by omega)), h6.mono (fun _ ⟨a, b, q, w⟩ => ⟨a, b, q, wf_le w (by omega)⟩), h7.mono (fun _ h => wf_le h (by omega))⟩
theorem wf_F {k : Int} {v : Bool} {t a : ByteArray} {q kids on : List Tr} (h1 : WfL 1 q) (h2 : WfL 2 kids) (h3 : WfL 0 on) : Wf 2 (mkF k v t a q kids on) := by
  obtain ⟨n1, h1⟩ := wfL_get h1
  obtain ⟨n2, h2⟩ := wfL_get h2
  obtain ⟨n3, h3⟩ := wfL_get h3
  exact ⟨n1 + n2 + n3 + 1, k, v, t, a, q, kids, on, rfl, h1.mono (fun _ h => wf_le h (by omega)), h2.mono (fun _ h => wf_le h (by omega)), h3.mono (fun _ h => wf_le h (by omega))⟩
theorem wf_S {k a : Int} {t : ByteArray} {names es qs wh body other : List Tr} (h0 : AllL isText names) (h1 : WfL 0 es) (h2 : WfL 1 qs) (h3 : WfL 0 wh) (h4 : WfL 3 body) (h5 : WfL 3 other) : Wf 3 (mkS k a t names es qs wh body other) := by
  obtain ⟨n1, h1⟩ := wfL_get h1
  obtain ⟨n2, h2⟩ := wfL_get h2
  obtain ⟨n3, h3⟩ := wfL_get h3
  obtain ⟨n4, h4⟩ := wfL_get h4
  obtain ⟨n5, h5⟩ := wfL_get h5
  exact ⟨n1 + n2 + n3 + n4 + n5 + 1, k, a, t, names, es, qs, wh, body, other, rfl, h0, h1.mono (fun _ h => wf_le h (by omega)), h2.mono (fun _ h => wf_le h (by omega)), h3.mono (fun _ h => wf_le h (by omega)), h4.mono (fun _ h => wf_le h (by omega)), h5.mono (fun _ h => wf_le h (by omega))⟩

def Yl {α : Type} (m : SM α) (P : α → Prop) : Prop := ∀ σ, σ.left.length ≤ 100000 → P (m σ).1 ∧ (m σ).2.left.length ≤ 100000
section
variable {α β : Type} {P : α → Prop} {Q : β → Prop}
theorem Yl.bind {m : SM α} {k : α → SM β} (h : Yl m P) (hk : ∀ a, P a → Yl (k a) Q) : Yl (m >>= k) Q := fun σ hs => hk _ (h σ hs).1 _ (h σ hs).2
theorem Yl.any {m : SM α} {k : α → SM β} (hk : ∀ a, Yl (k a) Q) (hm : Shr m := by first | exact Shr.head | exact Shr.sees _ | exact Shr.take _ | exact Shr.takeKind _ | exact Shr.want _ | exact Shr.refuse _ | exact Shr.takeAny _ | exact Shr.name | exact Shr.number | exact shr_together _ | exact shr_limit | exact Shr.name.list _) : Yl (m >>= k) Q := fun σ hs => hk _ _ (Nat.le_trans (hm σ) hs)
theorem Yl.pure {a : α} (h : P a) : Yl (Pure.pure a : SM α) P := fun _ hs => ⟨h, hs⟩
theorem Yl.ite {c : Prop} [Decidable c] {m n : SM α} (h : Yl m P) (h' : Yl n P) : Yl (if c then m else n) P := by
  split
  · exact h
  · exact h'
theorem Yl.mono {P' : α → Prop} {m : SM α} (h : Yl m P) (k : ∀ a, P a → P' a) : Yl m P' := fun σ hs => ⟨k _ (h σ hs).1, (h σ hs).2⟩
theorem Yl.loopN {I : Nat → α → Prop} {s : α → SM (Option α)} (h : ∀ n a, I (n + 1) a → Yl (s a) (fun o => ∀ b, o = some b → I n b)) (hz : ∀ n a, I n a → P a) : ∀ (f : Nat) (x : α), I f x → Yl (loopS s f x) P
  | 0, x, hx => .pure (hz 0 x hx)
  | f + 1, x, hx => (h f x hx).bind fun o ho => by
      cases o with
      | none => exact .pure (hz _ x hx)
      | some y => exact Yl.loopN h hz f y (ho y rfl)
theorem Yl.whileN {I : Nat → α → Prop} {s : α → SM (Option α)} (h : ∀ n a, I (n + 1) a → Yl (s a) (fun o => ∀ b, o = some b → I n b)) (hz : ∀ n a, I n a → P a) {x : α} (hx : ∀ n, n ≤ 100000 → I n x) : Yl (whileS s x) P := fun σ hs => Yl.loopN h hz σ.left.length x (hx _ hs) σ hs
theorem Yl.while {s : α → SM (Option α)} (h : ∀ a, P a → Yl (s a) (fun o => ∀ b, o = some b → P b)) {x : α} (hx : P x) : Yl (whileS s x) P := Yl.whileN (I := fun _ => P) (fun _ => h) (fun _ _ h => h) (fun _ _ => hx)
theorem Yl.fromLeft {I : Tr → Prop} {m : Tr → ByteArray → SM Tr} (h : ∀ a b, I a → Yl (m a b) I) (l : List ByteArray) {x : Tr} (hx : I x) : Yl (fromLeftS m l x) I :=
  Yl.while (fun a ha => Yl.any fun o => by
    cases o with
    | none => exact .pure (fun b hb => by cases hb)
    | some y => exact (h a y ha).bind fun z hz => .pure (fun b hb => by injection hb with hb; subst hb; exact hz)) hx
theorem all_snoc {n : Nat} {P : α → Prop} {l : List α} {y : α} (h : l.length + (n + 1) ≤ 200000 ∧ ∀ a ∈ l, P a) (hy : P y) : (l ++ [y]).length + n ≤ 200000 ∧ ∀ a ∈ l ++ [y], P a := by
  refine ⟨by rw [List.length_append]; simp; omega, fun a ha => ?_⟩
  rcases List.mem_append.1 ha with ha | ha
  · exact h.2 a ha
  · simp only [List.mem_singleton] at ha; rw [ha]; exact hy
theorem Yl.each {r : SM α} (h : Yl r P) (x : ByteArray) {l : List α} (hn : l.length ≤ 100000) (hl : ∀ a ∈ l, P a) : Yl (eachS x r l) (fun l => l.length ≤ 200000 ∧ ∀ a ∈ l, P a) :=
  Yl.whileN (I := fun n l => l.length + n ≤ 200000 ∧ ∀ a ∈ l, P a) (fun n l hl => Yl.any fun _ => .ite (h.bind fun y hy => .pure (fun b hb => by
    injection hb with hb
    subst hb
    exact all_snoc hl hy)) (.pure (fun b hb => by cases hb))) (fun n l h => ⟨by omega, h.2⟩) (fun n hn' => ⟨by omega, hl⟩)
theorem Yl.list {r : SM α} (h : Yl r P) (x : ByteArray) : Yl (listS x r) (fun l => l.length ≤ 200000 ∧ ∀ a ∈ l, P a) := h.bind fun y hy => h.each x (by simp) (fun a ha => by simp only [List.mem_singleton] at ha; rw [ha]; exact hy)
theorem Yl.behind {r : SM α} (h : Yl r P) (x : ByteArray) : Yl (behindS x r) (fun l => l.length ≤ 200000 ∧ ∀ a ∈ l, P a) := Yl.any fun _ => .ite (h.bind fun y hy => .pure ⟨by simp, fun a ha => by simp only [List.mem_singleton] at ha; rw [ha]; exact hy⟩) (.pure ⟨by simp, fun a ha => absurd ha (by simp)⟩)
theorem Yl.inBrackets {r : SM α} (h : Yl r P) : Yl (inBracketsS r) P := Yl.any fun _ => h.bind fun _ hx => Yl.any fun _ => .pure hx
theorem Yl.listInBrackets {r : SM α} (h : Yl r P) : Yl (listInBracketsS r) (fun l => l.length ≤ 200000 ∧ ∀ a ∈ l, P a) := Yl.inBrackets (Yl.any fun _ => .ite (.pure ⟨by simp, fun a ha => absurd ha (by simp)⟩) (h.list _))
end
structure YlK (K : Knot) : Prop where
  or : Yl K.or (Wf 0)
  not : Yl K.not (Wf 0)
  unary : Yl K.unary (Wf 0)
  parts : Yl K.parts (Wf 1)
  block : Yl K.block (WfL 3)
theorem wf_zE : Wf 0 zE := wf_E (wfL_nil _) (wfL_nil _)
theorem wfI_nil : WfI [] := AllL.nil _
theorem wfO_nil : WfO [] := AllL.nil _
theorem wf_zQ : Wf 1 zQ := wf_Q wfI_nil (wfL_nil _) (wfL_nil _) (wfL_nil _) (wfL_nil _) wfO_nil (wfL_nil _)
section
variable {K : Knot} (h : YlK K)
include h
omit h in
theorem Yl.operands {r : SM Tr} (hr : Yl r (Wf 0)) (l : List ByteArray) : Yl (operandsS r l) (Wf 0) := hr.bind fun _ hx => .fromLeft (fun _ _ ha => hr.bind fun _ hy => .pure (wf_E (wfL_two ha hy) (wfL_nil _))) _ hx
theorem yl_choice : Yl (choiceS K) (Wf 0) := Yl.any fun _ => h.or.bind fun _ h1 => Yl.any fun _ => h.or.bind fun _ h2 => Yl.any fun _ => h.or.bind fun _ h3 => Yl.any fun _ => .pure (wf_E ⟨by simp, fun x hx => by
  simp only [List.mem_cons, List.not_mem_nil, or_false] at hx
  rcases hx with rfl | rfl | rfl <;> assumption⟩ (wfL_nil _))
theorem yl_gathered (s : ByteArray) : Yl (gatheredS K s) (WfL 0) := Yl.inBrackets (.ite (Yl.any fun _ => .ite (.pure (wfL_nil _)) (h.or.bind fun _ hx => .pure (wfL_one hx))) (h.or.bind fun _ hx => .pure (wfL_one hx)))
theorem yl_named : Yl (namedS K) (Wf 0) := Yl.any fun _ => Yl.any fun _ => .ite (Yl.any fun _ => .pure (wf_E (wfL_nil _) (wfL_nil _))) (.ite (Yl.any fun _ => .ite ((yl_gathered h _).bind fun _ hl => .pure (wf_E hl (wfL_nil _))) (.pure (wf_E (wfL_nil _) (wfL_nil _)))) (.pure (wf_E (wfL_nil _) (wfL_nil _))))
theorem yl_bracketed : Yl (bracketedS K) (Wf 0) := Yl.any fun _ => .ite (h.parts.bind fun _ hq => .pure (wf_E (wfL_nil _) (wfL_one hq))) h.or
theorem yl_prim : Yl (primS K) (Wf 0) := Yl.any fun _ => Yl.any fun _ => .ite (.pure (wf_E (wfL_nil _) (wfL_nil _))) (Yl.any fun _ => .ite (.pure (wf_E (wfL_nil _) (wfL_nil _))) (Yl.any fun _ => .ite (.pure (wf_E (wfL_nil _) (wfL_nil _))) (Yl.any fun _ => .ite (.pure (wf_E (wfL_nil _) (wfL_nil _))) (Yl.any fun _ => .ite (.pure (wf_E (wfL_nil _) (wfL_nil _))) (Yl.any fun _ => .ite (Yl.any fun _ => .pure (wf_E (wfL_nil _) (wfL_nil _))) (Yl.any fun _ => .ite (yl_choice h) (Yl.any fun _ => .ite (h.parts.inBrackets.bind fun _ hq => .pure (wf_E (wfL_nil _) (wfL_one hq))) (Yl.any fun _ => .ite (yl_bracketed h).inBrackets (yl_named h)))))))))
theorem yl_unary : Yl (unaryS K) (Wf 0) := Yl.any fun _ => .ite (h.unary.bind fun _ hx => .pure (wf_E (wfL_one hx) (wfL_nil _))) (yl_prim h)
theorem yl_sum : Yl (sumS K) (Wf 0) := Yl.operands (Yl.operands (yl_unary h) _) _
theorem yl_in {x : Tr} (hx : Wf 0 x) (n : Int) : Yl (inS K x n) (Wf 0) := Yl.any fun _ => h.parts.inBrackets.bind fun _ hq => .pure (wf_E (wfL_one hx) (wfL_one hq))
theorem yl_compared : Yl (comparedS K) (Wf 0) := (yl_sum h).bind fun _ hx => Yl.any fun o => by
  cases o with
  | some m => exact (yl_sum h).bind fun _ hy => .pure (wf_E (wfL_two hx hy) (wfL_nil _))
  | none => exact Yl.any fun _ => .ite (Yl.any fun _ => Yl.any fun _ => .pure (wf_E (wfL_one hx) (wfL_nil _))) (Yl.any fun _ => .ite (yl_in h hx _) (Yl.any fun _ => .ite (yl_in h hx _) (.pure hx)))
theorem yl_not : Yl (notS K) (Wf 0) := Yl.any fun _ => .ite (h.not.bind fun _ hx => .pure (wf_E (wfL_one hx) (wfL_nil _))) (yl_compared h)
theorem yl_or : Yl (orS K) (Wf 0) := Yl.operands (Yl.operands (yl_not h) _) _
theorem yl_item : Yl (itemS K) (fun x => ∃ e s, x = withName e s ∧ Wf 0 e) := h.or.bind fun _ hx => Yl.any fun _ => Yl.any fun _ => .pure ⟨_, _, rfl, hx⟩
theorem yl_key : Yl (keyS K) (fun x => ∃ e b, x = withFlag e b ∧ Wf 0 e) := h.or.bind fun _ hx => Yl.any fun _ => .pure ⟨_, _, rfl, hx⟩
theorem yl_one : Yl (oneS K) (Wf 2) := Yl.any fun _ => .ite (h.parts.inBrackets.bind fun _ hq => Yl.any fun _ => Yl.any fun _ => .pure (wf_F (wfL_one hq) (wfL_nil _) (wfL_nil _))) (Yl.any fun _ => Yl.any fun _ => Yl.any fun _ => .ite (Yl.any fun _ => .pure (wf_F (wfL_nil _) (wfL_nil _) (wfL_nil _))) (.pure (wf_F (wfL_nil _) (wfL_nil _) (wfL_nil _))))
theorem yl_join {x : Tr} (hx : Wf 2 x) (n : Int) : Yl (joinS K x n) (Wf 2) := (yl_one h).bind fun _ hy => Yl.any fun _ => h.or.bind fun _ he => .pure (wf_F (wfL_nil _) (wfL_two hx hy) (wfL_one he))
theorem yl_source : Yl (sourceS K) (Wf 2) := (yl_one h).bind fun _ hx => .fromLeft (fun _ _ ha => .ite (Yl.any fun _ => yl_join h ha _) (yl_join h ha _)) _ hx
theorem yl_group : Yl (groupS K) (fun p => WfL 0 p.1 ∧ WfL 0 p.2) := Yl.any fun _ => .ite (Yl.any fun _ => (h.or.list _).bind fun _ hg => (h.or.behind _).bind fun _ hh => .pure ⟨hg, hh⟩) (.pure ⟨wfL_nil _, wfL_nil _⟩)
theorem yl_order : Yl (orderS K) WfO := Yl.any fun _ => .ite (Yl.any fun _ => (yl_key h).list _) (.pure wfO_nil)
theorem yl_part : Yl (partS K) (Wf 1) := Yl.any fun _ => .ite h.parts.inBrackets (Yl.any fun _ => Yl.any fun _ => ((yl_item h).list _).bind fun _ h1 => ((yl_source h).behind _).bind fun _ h2 => (h.or.behind _).bind fun _ h3 => (yl_group h).bind fun _ h4 => (yl_order h).bind fun _ h5 => Yl.any fun _ => .pure (wf_Q h1 h2 h3 h4.1 h4.2 h5 (wfL_nil _)))
theorem yl_parts : Yl (partsS K) (Wf 1) := (yl_part h).bind fun _ hx => .fromLeft (fun _ _ ha => Yl.any fun _ => (yl_part h).bind fun _ hy => .pure (wf_Q wfI_nil (wfL_nil _) (wfL_nil _) (wfL_nil _) (wfL_nil _) wfO_nil (wfL_two ha hy))) _ hx
omit h in
theorem names_nil : AllL isText [] := AllL.nil _
omit h in
theorem names_one (s : ByteArray) : AllL isText [nameT s] := all_one ⟨s, rfl⟩
omit h in
theorem all_map {α : Type} {P : Tr → Prop} {Q : α → Prop} {f : α → Tr} {l : List α} (h : l.length ≤ 200000 ∧ ∀ a ∈ l, Q a) (k : ∀ a, Q a → P (f a)) : AllL P (l.map f) := ⟨by rw [List.length_map]; exact h.1, fun x hx => by
  obtain ⟨p, hp, rfl⟩ := List.mem_map.1 hx
  exact k p (h.2 p hp)⟩
omit h in
theorem yl_name : Yl nameS (fun _ => True) := fun σ hs => ⟨trivial, Nat.le_trans (Shr.name σ) hs⟩
theorem yl_assigned : Yl (assignedS K) (fun p => Wf 0 p.2) := Yl.any fun _ => Yl.any fun _ => h.or.bind fun _ hx => .pure hx
theorem yl_plain (k a : Int) : Yl (plainS K k a) (Wf 3) :=
  .ite ((yl_assigned h).bind fun _ hp => .pure (wf_S (names_one _) (wfL_one hp) (wfL_nil _) (wfL_nil _) (wfL_nil _) (wfL_nil _)))
  (.ite (Yl.any fun _ => .pure (wf_S (names_one _) (wfL_nil _) (wfL_nil _) (wfL_nil _) (wfL_nil _) (wfL_nil _)))
  (.ite (Yl.any fun _ => h.or.bind fun _ hx => .pure (wf_S names_nil (wfL_one hx) (wfL_nil _) (wfL_nil _) (wfL_nil _) (wfL_nil _)))
  (.ite (Yl.any fun _ => Yl.any fun _ => Yl.any fun _ => .ite ((h.or.list _).inBrackets.bind fun _ hl => .pure (wf_S names_nil hl (wfL_nil _) (wfL_nil _) (wfL_nil _) (wfL_nil _))) (h.parts.bind fun _ hq => .pure (wf_S names_nil (wfL_nil _) (wfL_one hq) (wfL_nil _) (wfL_nil _) (wfL_nil _))))
  (.ite (Yl.any fun _ => Yl.any fun _ => ((yl_assigned h).list _).bind fun l hl => (h.or.behind _).bind fun _ hw => .pure (wf_S (all_map hl (fun p _ => ⟨p.1, rfl⟩)) (all_map hl (fun _ h => h)) (wfL_nil _) hw (wfL_nil _) (wfL_nil _)))
  (.ite (Yl.any fun _ => Yl.any fun _ => (h.or.behind _).bind fun _ hw => .pure (wf_S names_nil (wfL_nil _) (wfL_nil _) hw (wfL_nil _) (wfL_nil _)))
  (.ite (Yl.any fun _ => h.or.listInBrackets.bind fun _ hl => .pure (wf_S names_nil hl (wfL_nil _) (wfL_nil _) (wfL_nil _) (wfL_nil _)))
  (.pure (wf_S names_nil (wfL_nil _) (wfL_nil _) (wfL_nil _) (wfL_nil _) (wfL_nil _)))))))))
theorem yl_fill (k a : Int) : Yl (fillS K k a) (Wf 3) :=
  .ite (h.or.bind fun _ hx => h.block.bind fun _ hb => Yl.any fun _ => .ite (h.block.bind fun _ hc => .pure (wf_S names_nil (wfL_one hx) (wfL_nil _) (wfL_nil _) hb hc)) (.pure (wf_S names_nil (wfL_one hx) (wfL_nil _) (wfL_nil _) hb (wfL_nil _))))
  (.ite (h.or.bind fun _ hx => h.block.bind fun _ hb => .pure (wf_S names_nil (wfL_one hx) (wfL_nil _) (wfL_nil _) hb (wfL_nil _)))
  (.ite ((yl_name.list _).bind fun l hl => Yl.any fun _ => h.parts.bind fun _ hq => h.block.bind fun _ hb => .pure (wf_S (all_map hl (fun p _ => ⟨p, rfl⟩)) (wfL_nil _) (wfL_one hq) (wfL_nil _) hb (wfL_nil _)))
  (.ite (h.block.bind fun _ hb => Yl.any fun _ => h.block.bind fun _ hc => .pure (wf_S names_nil (wfL_nil _) (wfL_nil _) (wfL_nil _) hb hc))
  ((yl_plain h _ _).bind fun _ hs => Yl.any fun _ => .pure hs))))
theorem yl_stmts : Yl (stmtsS K) (WfL 3) :=
  Yl.whileN (I := fun n l => l.length + n ≤ 200000 ∧ ∀ a ∈ l, Wf 3 a) (fun n l hl => Yl.any fun _ => .ite (.pure (fun b hb => by cases hb)) (Yl.any fun _ => .ite ((yl_fill h _ _).bind fun s hs => .pure (fun b hb => by
    injection hb with hb
    subst hb
    exact all_snoc hl hs)) (.pure (fun b hb => by cases hb)))) (fun n l h => ⟨by omega, h.2⟩) (fun n hn => ⟨by simp; omega, fun a ha => absurd ha (by simp)⟩)
theorem yl_block : Yl (blockS K) (WfL 3) := Yl.any fun _ => (yl_stmts h).bind fun _ hl => Yl.any fun _ => .pure hl
end
theorem Yl.deep {α : Type} {P : α → Prop} {z : α} (hz : P z) : Yl (tooDeep z) P := Yl.any fun _ => .pure hz
theorem yl_knot : ∀ n : Nat, YlK (knot n)
  | 0 => ⟨.deep wf_zE, .deep wf_zE, .deep wf_zE, .deep wf_zQ, .deep (wfL_nil _)⟩
  | n + 1 => ⟨yl_or (yl_knot n), yl_not (yl_knot n), yl_unary (yl_knot n), yl_parts (yl_knot n), yl_block (yl_knot n)⟩
theorem whole_wf {α : Type} {P : α → Prop} {z : α} {m : SM α} (hz : P z) (h : Yl m P) (ts : List Tk × Nat × Int) (hts : ts.1.length ≤ 100000) : P (wholeS z m ts).1 := by
  have : Yl (do
      let x ← m
      let t ← headM
      if t.1 ≠ 0 then do
        refuseS 10
        pure x
      else pure x : SM α) P := h.bind fun x hx => Yl.any fun _ => .ite (Yl.any fun _ => .pure hx) (.pure hx)
  unfold wholeS
  split
  · exact hz
  · simp only
    split
    · exact hz
    · exact (this _ hts).1
end Go.Proofs.YtckidlbmoalomaaGreatDoor
