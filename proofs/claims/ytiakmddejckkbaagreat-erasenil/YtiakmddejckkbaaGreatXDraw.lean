/- Runs of closed code, reckoned: operations in whatever order come to what they are reckoned to be. -/
import Derived.Test.YtiakmddejckkbaaGreatXReg
namespace Go.Proofs.YtiakmddejckkbaaGreat

section
variable {P : Program} {call : CallA}
/-- The state ahead of operation i. -/
def stAt (tr : List (Fr × AW × Value)) (Af : Fr) (σf : AW) (i : Nat) : Fr × AW := match tr[i]? with
  | some (A, σ, _) => (A, σ)
  | none => (Af, σf)
theorem trace_at {all : List Oper} : ∀ {l : List Oper} {A Af : Fr} {σ σf : AW} {tr : List (Fr × AW × Value)}, traceA call P all l A σ = some (tr, Af, σf) →
    tr.length = l.length ∧ stAt tr Af σf 0 = (A, σ) ∧ ∀ i o, l[i]? = some o → ∃ v, tr[i]? = some ((stAt tr Af σf i).1, (stAt tr Af σf i).2, v) ∧ guardA call P all (stAt tr Af σf i).1 (stAt tr Af σf i).2 o = some (v, (stAt tr Af σf (i + 1)).2) ∧ (stAt tr Af σf (i + 1)).1 = putA (stAt tr Af σf i).1 o.dst v
  | [], A, Af, σ, σf, tr, h => by
    injection h with h
    injection h with h1 h2
    injection h2 with h2 h3
    subst h1 h2 h3
    exact ⟨rfl, rfl, fun i o h => by cases h⟩
  | o :: l, A, Af, σ, σf, tr, h => by
    unfold traceA at h
    split at h
    · cases h
    · rename_i v σ1 hg
      split at h
      · cases h
      · rename_i tr1 r hr
        injection h with h
        injection h with h1 h2
        subst h1 h2
        obtain ⟨l1, l2, l3⟩ := trace_at hr
        refine ⟨by simp [l1], rfl, fun i o' hi => ?_⟩
        cases i with
        | zero =>
          injection hi with hi
          subst hi
          have e : stAt ((A, σ, v) :: tr1) Af σf (0 + 1) = stAt tr1 Af σf 0 := rfl
          rw [e, l2]
          exact ⟨v, rfl, hg, rfl⟩
        | succ i => exact l3 i o' hi

theorem all_zip {α : Type} {l : List α} {p : α × Nat → Bool} (h : l.zipIdx.all p = true) {i : Nat} {x : α} (hi : l[i]? = some x) : p (x, i) = true := by
  refine List.all_eq_true.1 h (x, i) ?_
  rw [List.mem_iff_getElem?]
  exact ⟨i, by simp [hi]⟩
/-- Bits of a union. -/
theorem or_bits (g : Nat → Nat) (j : Nat) : ∀ (es : List Edge) (m : Nat), Nat.testBit (es.foldl (fun m e => if Region.binds .any e then m ||| (2 ^ e.on) ||| g e.on else m) m) j = true → Nat.testBit m j = true ∨ ∃ e ∈ es, Region.binds .any e = true ∧ (e.on = j ∨ Nat.testBit (g e.on) j = true)
  | [], m, h => .inl h
  | e :: es, m, h => by
    rw [List.foldl_cons] at h
    rcases or_bits g j es _ h with h1 | ⟨e', he, hb, hj⟩
    · by_cases hb : Region.binds .any e = true
      · rw [if_pos hb, Nat.testBit_or, Nat.testBit_or, Bool.or_eq_true, Bool.or_eq_true] at h1
        rcases h1 with (h1 | h1) | h1
        · exact .inl h1
        · rw [Nat.testBit_two_pow] at h1
          exact .inr ⟨e, List.mem_cons_self .., hb, .inl (of_decide_eq_true h1)⟩
        · exact .inr ⟨e, List.mem_cons_self .., hb, .inr h1⟩
      · rw [if_neg hb] at h1
        exact .inl h1
    · exact .inr ⟨e', List.mem_cons_of_mem _ he, hb, hj⟩

/-- What is checked of the operations themselves. -/
structure RegC (all : List Oper) (an : List Nat) (i0 : Nat) : Prop where
  anc : ∀ (i : Nat) (o : Oper) (j : Nat), all[i]? = some o → bitB (getN 0 an i) j = true → ∃ e ∈ o.after.toList, Region.binds .any e = true ∧ (e.on = j ∨ bitB (getN 0 an e.on) j = true)
  less : ∀ (i : Nat) (o : Oper) (e : Edge), all[i]? = some o → e ∈ o.after.toList → Region.binds .any e = true → e.on < i
  once : ∀ (i j : Nat) (o x : Oper) (d : Tmp), all[i]? = some o → all[j]? = some x → i ≠ j → x.dst = some d → o.dst ≠ some d
  look : ∀ (i j : Nat) (o x : Oper) (d : Tmp), all[i]? = some o → all[j]? = some x → i ≠ j → x.dst = some d → d ∈ looks all o → (j < i ∧ bitB (getN 0 an i) j = true) ∨ bitB (getN 0 an j) i = true
  chain : ∀ (i j : Nat) (o x : Oper), all[i]? = some o → all[j]? = some x → j < i → i ≠ i0 → effect o.op = true → effect x.op = true → bitB (getN 0 an i) j = true
  float : ∀ o : Oper, all[i0]? = some o → ∃ t d, o.op = .alloc t ∧ o.guard = none ∧ o.dst = some d ∧ ∀ (j : Nat) (x : Oper), all[j]? = some x → effect x.op = false → d ∉ looks all x
theorem regOK_c {all : List Oper} (h : regOK all = true) : RegC all (ancL [] all) (floatAt all (ancL [] all)) := by
  unfold regOK at h
  simp only [Bool.and_eq_true] at h
  obtain ⟨⟨⟨h1, h2⟩, hfl⟩, h3⟩ := h
  have h1' : ∀ i o, all[i]? = some o → getN 0 (ancL [] all) i = ancO (ancL [] all) o ∧ ∀ e ∈ o.after.toList, Region.binds .any e = true → e.on < i := fun i o hi => by
    have := all_zip h1 hi
    simp only [Bool.and_eq_true, beq_iff_eq, List.all_eq_true] at this
    refine ⟨this.1, fun e he hb => ?_⟩
    have q := this.2 e he
    rw [hb] at q
    simpa using q
  have h2' : ∀ i j o x, all[i]? = some o → all[j]? = some x → i ≠ j → dstOK all (ancL [] all) o i x j = true ∧ effOK (ancL [] all) (floatAt all (ancL [] all)) o i x j = true := fun i j o x hi hj hne => by
    have := all_zip (all_zip h2 hi) hj
    simp only [Bool.or_eq_true, beq_iff_eq, hne, false_or, Bool.and_eq_true] at this
    exact this
  refine ⟨fun i o j hi hb => ?_, fun i o e hi he hb => (h1' i o hi).2 e he hb, fun i j o x d hi hj hne hd => ?_, fun i j o x d hi hj hne hd hm => ?_, fun i j o x hi hj hlt hi0 ho hx => ?_, fun o ho => ?_⟩
  · rw [(h1' i o hi).1] at hb
    rcases or_bits _ j _ 0 hb with h | h
    · simp at h
    · exact h
  · have := (h2' i j o x hi hj hne).1
    unfold dstOK at this
    rw [hd] at this
    simp only [Bool.and_eq_true, bne_iff_ne, ne_eq] at this
    exact this.1
  · have := (h2' i j o x hi hj hne).1
    unfold dstOK at this
    rw [hd] at this
    simp only [Bool.and_eq_true, Bool.or_eq_true, Bool.not_eq_true', decide_eq_true_eq] at this
    rcases this.2 with (q | q) | q
    · have hc : (looks all o).contains d = true := List.contains_iff_mem.2 hm
      rw [hc] at q; cases q
    · exact .inl q
    · exact .inr q
  · have := (h2' i j o x hi hj (by omega)).2
    unfold effOK at this
    rw [ho, hx] at this
    simp only [Bool.not_true, Bool.false_or, Bool.or_eq_true, decide_eq_true_eq, beq_iff_eq] at this
    rcases this with (q | q) | q
    · omega
    · exact absurd q hi0
    · exact q
  · unfold floatOK at hfl
    rw [ho] at hfl
    simp only [Bool.and_eq_true] at hfl
    obtain ⟨⟨ha, hg⟩, hd⟩ := hfl
    have hop : ∃ t, o.op = .alloc t := by
      unfold isAlloc at ha
      split at ha
      · rename_i t ht; exact ⟨t, ht⟩
      · cases ha
    obtain ⟨t, ht⟩ := hop
    cases hdst : o.dst with
    | none => rw [hdst] at hd; cases hd
    | some d =>
      rw [hdst] at hd
      refine ⟨t, d, ht, Option.isNone_iff_eq_none.1 hg, rfl, fun j x hj he hm => ?_⟩
      have := List.all_eq_true.1 hd x (List.mem_of_getElem? hj)
      rw [he, List.contains_iff_mem.2 hm] at this
      cases this

def listed (L : Array Bool) (j : Nat) : Prop := L.getD j false = true
/-- A list of operations that is closed below. -/
structure Closed (all : List Oper) (L : Array Bool) : Prop where
  size : L.size = all.length
  closed : ∀ i o, all[i]? = some o → listed L i → ∀ e ∈ o.after.toList, Region.binds .any e = true → listed L e.on
theorem listed_lt {all : List Oper} {L : Array Bool} (h : Closed all L) {j : Nat} (hj : listed L j) : ∃ o, all[j]? = some o := by
  unfold listed at hj
  have : j < L.size := by
    rcases Nat.lt_or_ge j L.size with h' | h'
    · exact h'
    · simp [Array.getElem?_eq_none h'] at hj
  rw [h.size] at this
  exact ⟨all[j], List.getElem?_eq_getElem this⟩
theorem anc_listed {all : List Oper} {an : List Nat} {i0 : Nat} (hc : RegC all an i0) {L : Array Bool} (hL : Closed all L) : ∀ (i j : Nat) (o : Oper), all[i]? = some o → (listed L i ∨ ∀ e ∈ o.after.toList, Region.binds .any e = true → listed L e.on) → bitB (getN 0 an i) j = true → listed L j ∧ j < i := by
  intro i
  induction i using Nat.strongRecOn with
  | _ i ih =>
    intro j o ho hl hb
    obtain ⟨e, he, hbd, hj⟩ := hc.anc i o j ho hb
    have hlt := hc.less i o e ho he hbd
    have hel : listed L e.on := by
      rcases hl with hl | hl
      · exact hL.closed i o ho hl e he hbd
      · exact hl e he hbd
    rcases hj with rfl | hj
    · exact ⟨hel, hlt⟩
    · obtain ⟨o', ho'⟩ := listed_lt hL hel
      obtain ⟨h1, h2⟩ := ih e.on hlt j o' ho' (.inl hel) hj
      exact ⟨h1, by omega⟩
theorem set_listed {all : List Oper} {L : Array Bool} (hL : Closed all L) {i : Nat} {o : Oper} (ho : all[i]? = some o) (j : Nat) : listed (L.setIfInBounds i true) j ↔ j = i ∨ listed L j := by
  have hi : i < L.size := by rw [hL.size]; exact (List.getElem?_eq_some_iff.1 ho).1
  unfold listed
  by_cases e : j = i
  · subst e; simp [hi]
  · rw [getD_set_ne false (Ne.symm e)]
    simp [e]
end

end Go.Proofs.YtiakmddejckkbaaGreat
