/- A text with a newline and more behind it: its tokens stay. A text in brackets: its tokens, between brackets. A text behind another, a newline between: its tokens behind the other's. Two scripts of statements alone, one behind the other. -/
import Derived.Test.YtckidlbmoalomaaGreatDoorJ07
import Derived.Test.YtckidlbmoalomaaGreatDoorJ24
import Derived.Test.YtckidlbmoalomaaGreatDoorJ25


namespace Go.Proofs.YtckidlbmoalomaaGreatDoor

theorem runN_app {p : UInt8 → Bool} {c : UInt8} (hc : p c = false) (r : List UInt8) : ∀ l : List UInt8, runN p (l ++ c :: r) = runN p l
  | [] => by simp [runN, hc]
  | a :: l => by
    simp only [List.cons_append, runN, runN_app hc r l]
theorem qrun_app (r : List UInt8) : ∀ (o : Bool) (l : List UInt8), (qrun o l).2 = false → qrun o (l ++ 10 :: r) = qrun o l
  | o, [], h => by
    have ho : o = false := h
    subst ho
    simp [qrun]
  | o, c :: l, h => by
    simp only [List.cons_append]
    rw [qrun] at h ⊢
    rw [qrun]
    split
    · rename_i hc
      rw [if_pos hc] at h
      rw [qrun_app r (!o) l h]
    · rename_i hc
      rw [if_neg hc] at h
      split
      · rename_i ho
        rw [if_pos ho] at h
        rw [qrun_app r true l h]
      · rfl
theorem prefix_app (r : List UInt8) : ∀ (m l : List UInt8), (∀ x ∈ m, x ≠ 10) → m.isPrefixOf (l ++ 10 :: r) = m.isPrefixOf l
  | [], _, _ => by simp [List.isPrefixOf]
  | a :: m, [], h => by
    have : (a == 10) = false := by simpa using h a (List.mem_cons_self ..)
    simp [List.isPrefixOf, this]
  | a :: m, c :: l, h => by
    simp only [List.cons_append, List.isPrefixOf, prefix_app r m l fun x hx => h x (List.mem_cons_of_mem _ hx)]
theorem find_congr {α : Type} {p q : α → Bool} : ∀ l : List α, (∀ x ∈ l, p x = q x) → l.find? p = l.find? q
  | [], _ => rfl
  | a :: l, h => by
    simp only [List.find?, h a (List.mem_cons_self ..), find_congr l fun x hx => h x (List.mem_cons_of_mem _ hx)]
theorem marksL_ten : ∀ m ∈ marksL, ∀ x ∈ m, x ≠ 10 := by decide
theorem textP_app {l : List UInt8} (r : List UInt8) {b : List UInt8} {n : Nat} (h : textP l = .inl (b, n)) : textP (l ++ 10 :: r) = .inl (b, n) := by
  unfold textP at h
  split at h
  · exact nomatch h
  · rename_i hq
    have hq' : (qrun false l).2 = false := by simpa using hq
    have hrun := qrun_app r false l hq'
    have hle := qrun_le false l
    have hs : saidP (l ++ 10 :: r) = saidP l := by
      unfold saidP
      rw [hrun, List.take_append_of_le_length (by omega)]
    unfold textP
    rw [hrun, hs, List.take_append_of_le_length hle, if_neg hq]
    exact h
theorem one_app {l : List UInt8} (r : List UInt8) {v : Int × List UInt8 × Nat × Nat} (h : oneL l = .inl v) : oneL (l ++ 10 :: r) = .inl v := by
  cases l with
  | nil => exact nomatch h
  | cons c q =>
    have h1 := runN_app (p := fun d => digitB d || letterB d) (c := 10) (by decide) r (c :: q)
    have h2 := runN_app (p := digitB) (c := 10) (by decide) r (c :: q)
    have l1 := runN_le (fun d => digitB d || letterB d) (c :: q)
    have l2 := runN_le digitB (c :: q)
    show oneC c (q ++ 10 :: r) = _
    have h : oneC c q = .inl v := h
    unfold oneC at h ⊢
    rw [← List.cons_append, h1, h2, List.take_append_of_le_length l1, List.take_append_of_le_length l2]
    split
    · rename_i hl
      rw [if_pos hl] at h
      exact h
    · rename_i hl
      rw [if_neg hl] at h
      split
      · rename_i hd
        rw [if_pos hd] at h
        exact h
      · rename_i hd
        rw [if_neg hd] at h
        split
        · rename_i hq
          rw [if_pos hq] at h
          cases ht : textP (c :: q) with
          | inr k => rw [ht] at h; exact nomatch h
          | inl p =>
            obtain ⟨b, n⟩ := p
            rw [textP_app r ht]
            rw [ht] at h
            exact h
        · rename_i hq
          rw [if_neg hq] at h
          rw [find_congr marksL fun m hm => prefix_app r m (c :: q) (marksL_ten m hm)]
          exact h
end Go.Proofs.YtckidlbmoalomaaGreatDoor


namespace Go.Proofs.YtckidlbmoalomaaGreatDoor

theorem one_kind {l : List UInt8} {kind : Int} {t : List UInt8} {n len : Nat} (h : oneL l = .inl (kind, t, n, len)) : kind ≠ 0 := by
  cases l with
  | nil => exact nomatch h
  | cons c r =>
    have h : oneC c r = .inl (kind, t, n, len) := h
    unfold oneC at h
    split at h
    · split at h
      · exact nomatch h
      · cases h; decide
    · split at h
      · split at h
        · exact nomatch h
        · cases h; decide
      · split at h
        · split at h
          · cases h; decide
          · exact nomatch h
        · split at h
          · cases h; decide
          · exact nomatch h
end Go.Proofs.YtckidlbmoalomaaGreatDoor


namespace Go.Proofs.YtckidlbmoalomaaGreatDoor

theorem ah_ok (ts A : List Tk) (p : Nat) : aheadT ts (A, p, 0) = (ts ++ A, 0, 0) := by simp [aheadT]
theorem ah_err (ts : List Tk) (R : List Tk × Nat × Int) : (aheadT ts R).2.2 = R.2.2 := by
  unfold aheadT
  split <;> simp_all
theorem scan_more (d : Nat) (r2 : List UInt8) : ∀ (f : Nat) (l : List UInt8) (o k o' k' : Nat) (A : List Tk) (p : Nat), o' = o + d → scanF f l o k = (A, p, 0) →
    ∃ T e, A = T ++ [((0, ⟨#[]⟩, 0, e) : Tk)] ∧ e = ((o + l.length : Nat) : Int) ∧ (∀ x ∈ T, x.1 ≠ 0) ∧ ((scanR (l ++ 10 :: r2) o' k').2.2 = 8 ∨ aheadT [] (scanR (l ++ 10 :: r2) o' k') = aheadT (T.map (shT d)) (scanR r2 (o' + l.length + 1) (k' + T.length)))
  | 0, _, _, _, _, _, A, p, _, h => by simp [scanF] at h
  | f + 1, [], o, k, o', k', A, p, ho, h => by
    unfold scanF at h
    split at h
    · simp at h
    · simp only [Prod.mk.injEq, and_true] at h
      exact ⟨[], (o : Int), h.1.symm, rfl, fun x hx => absurd hx (by simp), .inr (by rw [List.nil_append, scanR_blank (c := 10) (by decide)]; rfl)⟩
  | f + 1, c :: r, o, k, o', k', A, p, ho, h => by
    unfold scanF at h
    split at h
    · rename_i hb
      obtain ⟨T, e, h1, h0, h2, h3⟩ := scan_more d r2 f r (o + 1) k (o' + 1) k' A p (by omega) h
      refine ⟨T, e, h1, by rw [h0, List.length_cons]; omega, h2, ?_⟩
      rw [List.cons_append, scanR_blank hb, show o' + (c :: r).length + 1 = o' + 1 + r.length + 1 by rw [List.length_cons]; omega]
      exact h3
    · rename_i hb
      split at h
      · rename_i hm
        have hr := runN_app (p := fun d => d.toNat != 10) (c := 10) (by decide) r2 (c :: r)
        have hle := runN_le (fun d => d.toNat != 10) (c :: r)
        obtain ⟨T, e, h1, h0, h2, h3⟩ := scan_more d r2 f _ _ k (o' + runN (fun d => d.toNat != 10) (c :: r)) k' A p (by omega) h
        rw [List.length_drop] at h0 h3
        refine ⟨T, e, h1, by rw [h0]; congr 1; omega, h2, ?_⟩
        rw [show o' + runN (fun d => d.toNat != 10) (c :: r) + ((c :: r).length - runN (fun d => d.toNat != 10) (c :: r)) + 1 = o' + (c :: r).length + 1 by omega] at h3
        cases r with
        | nil => simp at hm
        | cons c' r =>
          have hc' : c'.toNat = 45 := by simpa using hm.2
          rw [List.cons_append, List.cons_append, scanR_line hm.1 hc', ← List.cons_append, ← List.cons_append, hr, List.drop_append_of_le_length hle]
          exact h3
      · rename_i hm
        split at h
        · simp at h
        · rename_i kind t n len e
          split at h
          · simp at h
          · unfold aheadT at h
            split at h
            · rename_i hz
              generalize hres : scanF f ((c :: r).drop len) (o + len) (k + 1) = res at h hz
              obtain ⟨A', p', e'⟩ := res
              dsimp only at h hz
              subst hz
              obtain ⟨T, en, hT, h0, hg, h3⟩ := scan_more d r2 f _ _ _ (o' + len) (k' + 1) A' p' (by omega) hres
              have hol := (oneL_len e).2
              rw [List.length_drop] at h0 h3
              simp only [Prod.mk.injEq, and_true] at h
              refine ⟨(kind, ⟨t.toArray⟩, (n : Int), (o : Int)) :: T, en, by rw [← h.1, hT]; rfl, by rw [h0]; congr 1; omega, fun x hx => ?_, ?_⟩
              · rcases List.mem_cons.1 hx with rfl | hx
                · exact one_kind e
                · exact hg x hx
              · have hm' : ¬ (c.toNat = 45 ∧ (r ++ 10 :: r2).head?.map UInt8.toNat = some 45) := by
                  cases r with
                  | nil => simp
                  | cons c' r => simpa using hm
                have hone := one_app r2 e
                rw [List.cons_append, scanR_one (by simpa using hb) hm', ← List.cons_append, hone]
                simp only
                split
                · exact .inl rfl
                · rw [List.drop_append_of_le_length hol]
                  rw [show o' + len + ((c :: r).length - len) + 1 = o' + (c :: r).length + 1 by omega, show k' + 1 + T.length = k' + (T.length + 1) by omega] at h3
                  rcases h3 with h8 | hab
                  · left
                    rw [ah_err]
                    exact h8
                  · right
                    rw [aheadT_add, List.nil_append, show ∀ (x : Tk) X, aheadT [x] X = aheadT [x] (aheadT [] X) from fun x X => by rw [aheadT_add]; rfl, hab, aheadT_add, ho]
                    simp [shT]
            · rename_i hz
              simp only [Prod.mk.injEq] at h
              exact absurd (by rw [h.2]) hz
theorem scan_shift (d : Nat) : ∀ (f : Nat) (l : List UInt8) (o k o' k' : Nat) (A : List Tk) (p : Nat), o' = o + d → scanF f l o k = (A, p, 0) → (scanR l o' k').2.2 = 8 ∨ scanR l o' k' = (A.map (shT d), 0, 0)
  | 0, _, _, _, _, _, A, p, _, h => by simp [scanF] at h
  | f + 1, [], o, k, o', k', A, p, ho, h => by
    unfold scanF at h
    split at h
    · simp at h
    · simp only [Prod.mk.injEq, and_true] at h
      rw [scanR_nil]
      split
      · exact .inl rfl
      · right
        rw [← h.1]
        simp [shT, ho]
  | f + 1, c :: r, o, k, o', k', A, p, ho, h => by
    unfold scanF at h
    split at h
    · rename_i hb
      rw [scanR_blank hb]
      exact scan_shift d f r (o + 1) k (o' + 1) k' A p (by omega) h
    · rename_i hb
      split at h
      · rename_i hm
        have h3 := scan_shift d f _ _ k (o' + runN (fun d => d.toNat != 10) (c :: r)) k' A p (by omega) h
        cases r with
        | nil => simp at hm
        | cons c' r =>
          have hc' : c'.toNat = 45 := by simpa using hm.2
          rw [scanR_line hm.1 hc']
          exact h3
      · rename_i hm
        split at h
        · simp at h
        · rename_i kind t n len e
          split at h
          · simp at h
          · unfold aheadT at h
            split at h
            · rename_i hz
              generalize hres : scanF f ((c :: r).drop len) (o + len) (k + 1) = res at h hz
              obtain ⟨A', p', e'⟩ := res
              dsimp only at h hz
              subst hz
              have h3 := scan_shift d f _ _ _ (o' + len) (k' + 1) A' p' (by omega) hres
              simp only [Prod.mk.injEq, and_true] at h
              rw [scanR_one (by simpa using hb) hm, e]
              simp only
              split
              · exact .inl rfl
              · rcases h3 with h8 | hab
                · left
                  rw [ah_err]
                  exact h8
                · right
                  rw [hab, ← h.1]
                  simp [aheadT, shT, ho]
            · rename_i hz
              simp only [Prod.mk.injEq] at h
              exact absurd (by rw [h.2]) hz
end Go.Proofs.YtckidlbmoalomaaGreatDoor


namespace Go.Proofs.YtckidlbmoalomaaGreatDoor

def moreS {α : Type} (x : ByteArray) (r : SM α) (l : List α) : SM (Option (List α)) := takeS x >>= fun c => if c = true then (r >>= fun y => Pure.pure (some (l ++ [y]))) else Pure.pure none
theorem each_eq {α : Type} (x : ByteArray) (r : SM α) (σ : Sy) : eachS x r [] σ = loopS (moreS x r) σ.left.length [] σ := rfl
theorem more_no {α : Type} {x : ByteArray} {r : SM α} {l : List α} {σ : Sy} (h : seesB x σ = false) : moreS x r l σ = (none, σ) := by
  simp only [moreS, SM.bind_run, takeS, h]
  rfl
theorem more_yes {α : Type} {x : ByteArray} {r : SM α} {l : List α} {σ : Sy} (h : seesB x σ = true) : ∃ y σ', moreS x r l σ = (some (l ++ [y]), σ') := by
  simp only [moreS, SM.bind_run, takeS, h]
  exact ⟨_, _, rfl⟩
theorem more_pre {α : Type} {x : ByteArray} {r : SM α} : ∀ (f : Nat) (l : List α) (σ : Sy), ∃ m, (loopS (moreS x r) f l σ).1 = l ++ m
  | 0, l, _ => ⟨[], (List.append_nil l).symm⟩
  | f + 1, l, σ => by
    simp only [loopS, SM.bind_run]
    cases h : seesB x σ with
    | false => rw [more_no h]; exact ⟨[], (List.append_nil l).symm⟩
    | true =>
      obtain ⟨y, σ', e⟩ := more_yes (r := r) (l := l) h
      rw [e]
      obtain ⟨m, hm⟩ := more_pre (x := x) (r := r) f (l ++ [y]) σ'
      exact ⟨y :: m, by simp only [hm, List.append_assoc, List.singleton_append]⟩
theorem each_no {α : Type} {x : ByteArray} {r : SM α} {σ : Sy} (h : seesB x σ = false) : eachS x r [] σ = ([], σ) := by
  rw [each_eq]
  cases σ.left.length with
  | zero => rfl
  | succ f => simp only [loopS, SM.bind_run, more_no h]; rfl
theorem each_nil {α : Type} {x : ByteArray} {r : SM α} {σ : Sy} (h : (eachS x r [] σ).1 = []) : seesB x σ = false := by
  cases hs : seesB x σ with
  | false => rfl
  | true =>
    exfalso
    rw [each_eq] at h
    have hl := sees_lt hs
    generalize σ.left.length = n at h hl
    obtain _ | f := n
    · omega
    · simp only [loopS, SM.bind_run] at h
      obtain ⟨y, σ', e⟩ := more_yes (r := r) (l := []) hs
      rw [e] at h
      obtain ⟨m, hm⟩ := more_pre (x := x) (r := r) f ([] ++ [y]) σ'
      simp only [hm] at h
      simp at h
theorem mkSc_inj {v v' p p' b b' : List Tr} (h : mkSc v p b = mkSc v' p' b') : v = v' ∧ p = p' ∧ b = b' := by
  simpa [mkSc, sl] using h
def ended {α : Type} (read : SM α) : SM α := do
  let x ← read
  let t ← headM
  if t.1 ≠ 0 then do
    refuseS 10
    pure x
  else pure x
theorem whole_run {α : Type} (z : α) (r : SM α) (A : List Tk) (p : Nat) : wholeS z r (A, p, 0) = if (ended r ⟨A, 0, 0⟩).2.err ≠ 0 then (z, (ended r ⟨A, 0, 0⟩).2.pl, (ended r ⟨A, 0, 0⟩).2.err) else ((ended r ⟨A, 0, 0⟩).1, 0, 0) := rfl
theorem ended_run {α : Type} (r : SM α) (σ : Sy) : ended r σ = if (r σ).2.head.1 ≠ 0 then ((r σ).1, ((refuseS 10) (r σ).2).2) else r σ := by
  show (if (r σ).2.head.1 ≠ 0 then (refuseS 10 >>= fun _ => Pure.pure (r σ).1 : SM α) else Pure.pure (r σ).1) (r σ).2 = _
  split
  · rfl
  · rfl
theorem script_run (K : Knot) (σ : Sy) : scriptS K σ = (mkSc (declsS σ).1 (eachS w_proc (procS K) [] (declsS σ).2).1 (stmtsS K (eachS w_proc (procS K) [] (declsS σ).2).2).1, (stmtsS K (eachS w_proc (procS K) [] (declsS σ).2).2).2) := rfl
theorem script_of {K : Knot} {A : List Tk} {p : Nat} {la : List Tr} (h : wholeS zSc (scriptS K) (A, p, 0) = (mkSc [] [] la, 0, 0)) : seesB w_var ⟨A, 0, 0⟩ = false ∧ seesB w_proc ⟨A, 0, 0⟩ = false ∧ (stmtsS K ⟨A, 0, 0⟩).1 = la ∧ (stmtsS K ⟨A, 0, 0⟩).2.err = 0 ∧ (stmtsS K ⟨A, 0, 0⟩).2.head.1 = 0 := by
  rw [whole_run] at h
  have h0 : (ended (scriptS K) ⟨A, 0, 0⟩).2.err = 0 := by
    refine Classical.byContradiction fun hz => ?_
    rw [if_pos hz] at h
    exact hz (congrArg (fun q => q.2.2) h)
  rw [if_neg (fun hz => hz h0)] at h
  have h1 := congrArg (fun q => q.1) h
  simp only at h1
  rw [ended_run] at h0 h1
  have h2 : (scriptS K ⟨A, 0, 0⟩).2.head.1 = 0 := by
    refine Classical.byContradiction fun hz => ?_
    rw [if_pos hz] at h0
    exact refuse_err (by decide) _ h0
  rw [if_neg (fun hz => hz h2)] at h0 h1
  rw [script_run] at h0 h1 h2
  obtain ⟨e1, e2, e3⟩ := mkSc_inj h1
  have hv := each_nil e1
  have hd : declsS ⟨A, 0, 0⟩ = ([], ⟨A, 0, 0⟩) := each_no hv
  rw [hd] at e2 e3 h0 h2
  have hp := each_nil e2
  rw [each_no hp] at e3 h0 h2
  exact ⟨hv, hp, e3, h0, h2⟩
theorem script_to {K : Knot} {A : List Tk} {p : Nat} (hv : seesB w_var ⟨A, 0, 0⟩ = false) (hp : seesB w_proc ⟨A, 0, 0⟩ = false) (h0 : (stmtsS K ⟨A, 0, 0⟩).2.err = 0) (h1 : (stmtsS K ⟨A, 0, 0⟩).2.head.1 = 0) : wholeS zSc (scriptS K) (A, p, 0) = (mkSc [] [] (stmtsS K ⟨A, 0, 0⟩).1, 0, 0) := by
  have hd : declsS ⟨A, 0, 0⟩ = ([], ⟨A, 0, 0⟩) := each_no hv
  have e : scriptS K ⟨A, 0, 0⟩ = (mkSc [] [] (stmtsS K ⟨A, 0, 0⟩).1, (stmtsS K ⟨A, 0, 0⟩).2) := by rw [script_run, hd, each_no hp]
  have e2 : ended (scriptS K) ⟨A, 0, 0⟩ = (mkSc [] [] (stmtsS K ⟨A, 0, 0⟩).1, (stmtsS K ⟨A, 0, 0⟩).2) := by rw [ended_run, e, if_neg (fun hz => hz h1)]
  rw [whole_run, e2, if_neg (fun hz => hz h0)]
theorem loop_acc {K : Knot} (p : List Tr) : ∀ (f : Nat) (l : List Tr) (σ : Sy), loopS (stepS K) f (p ++ l) σ = (p ++ (loopS (stepS K) f l σ).1, (loopS (stepS K) f l σ).2)
  | 0, _, _ => rfl
  | f + 1, l, σ => by
    by_cases h : NoStmt σ
    · rw [loop_no h, loop_no h]
    · rw [loop_yes h, loop_yes h, List.append_assoc, loop_acc p f]
theorem mvL_eq {R : Tr → Tr → Prop} (h : ∀ x y, R x y → x = y) : ∀ {l m : List Tr}, MvL R l m → l = m
  | [], [], _ => rfl
  | x :: l, y :: m, ⟨h1, h2⟩ => by rw [h x y h1, mvL_eq h h2]
  | [], _ :: _, h => h.elim
  | _ :: _, [], h => h.elim
theorem mvS_eq : ∀ (n : Nat) (x y : Tr), MvS 0 n x y → x = y
  | 0, _, _, h => h.elim
  | n + 1, _, _, ⟨k, a, s, nm, es, qs, wh, b, c, b', c', rfl, rfl, hb, hc⟩ => by rw [mvL_eq (mvS_eq n) hb, mvL_eq (mvS_eq n) hc, Int.add_zero]
def stmtWords : List ByteArray := [w_set, w_if, w_while, w_for, w_print, w_input, w_insert, w_update, w_delete, w_try, w_raise, w_call, w_begin, w_commit, w_rollback, w_skip]
theorem stmt_word {s : ByteArray} (h : stmtKindN s ≠ 0) : s ∈ stmtWords := by
  refine Classical.byContradiction fun hn => h ?_
  simp only [stmtWords, List.mem_cons, not_or] at hn
  obtain ⟨h1, h2, h3, h4, h5, h6, h7, h8, h9, h10, h11, h12, h13, h14, h15, h16, _⟩ := hn
  simp only [stmtKindN, h1, h2, h3, h4, h5, h6, h7, h8, h9, h10, h11, h12, h13, h14, h15, h16, if_false]
def askedS : List ByteArray := asked ++ [w_else, w_values, m_rp, w_var, w_proc]
theorem words_quiet : ∀ w ∈ stmtWords, ∀ x ∈ askedS, w ≠ x := by decide
theorem quiet_of {T : Tail} (h : T.h.1 = 0 ∨ ¬ (stmtKindN T.h.2.1 = 0 ∨ T.h.1 ≠ 1)) : QuietS T ∧ T.No w_var ∧ T.No w_proc := by
  have hno : ∀ x ∈ askedS, T.No x := by
    intro x hx
    unfold Tail.No
    rcases h with h | h
    · simp [h]
    · have := words_quiet _ (stmt_word fun e => h (.inl e)) x hx
      simp [this]
  have hk : T.h.1 ≠ 2 ∧ T.h.1 ≠ 3 := by
    rcases h with h | h
    · rw [h]; decide
    · rw [show T.h.1 = 1 from Classical.not_not.1 fun e => h (.inr e)]; decide
  exact ⟨⟨⟨hk.1, hk.2, fun x hx => hno x (List.mem_append_left _ hx)⟩, fun x hx => hno x (List.mem_append_right _ (by simp at hx ⊢; rcases hx with h | h | h <;> simp [h]))⟩, hno _ (by simp [askedS]), hno _ (by simp [askedS])⟩
theorem stmts_sim {T : Tail} (q : QuietS T) (n : Nat) (k a : Int) : Sim T (MvS T.d (n + 1)) (fillS (knot n) k a) (fillS (knot n) k (a + T.d)) := sim_fill q (sim_knot q.toQuiet n) (low_knot n) (shr_knot n) (sim_knotB q n) k a
theorem scan_end {s : ByteArray} (hs : s.size ≤ 20000) {A : List Tk} {p : Nat} (h : scanS s = (A, p, 0)) : scanF (s.data.toList.length + 1) s.data.toList 0 0 = (A, p, 0) := (scanS_eq hs).symm.trans h
theorem script_join {n : Nat} {A B : List Tk} {p p2 q : Nat} {d : Int} {Ta Tb : List Tk} {ea eb : Int} {la lb : List Tr} (hA : A = Ta ++ [(0, ⟨#[]⟩, 0, ea)]) (hTa : ∀ x ∈ Ta, x.1 ≠ 0) (hB : B = Tb ++ [(0, ⟨#[]⟩, 0, eb)]) (hTb : ∀ x ∈ Tb, x.1 ≠ 0)
    (ha : wholeS zSc (scriptS (knot n)) (A, p, 0) = (mkSc [] [] la, 0, 0)) (hb : wholeS zSc (scriptS (knot n)) (B, p2, 0) = (mkSc [] [] lb, 0, 0)) :
    ∃ lb', wholeS zSc (scriptS (knot n)) (Ta.map (shT 0) ++ B.map (shT d), q, 0) = (mkSc [] [] (la ++ lb'), 0, 0) ∧ MvL (MvS d (n + 1)) lb lb' := by
  obtain ⟨a1, a2, a3, a4, a5⟩ := script_of ha
  obtain ⟨b1, b2, b3, b4, b5⟩ := script_of hb
  have hst := fun l => stick_step (low_knot n) l
  obtain ⟨h, r, hr⟩ : ∃ h r, B.map (shT d) = h :: r := by
    rw [hB]
    cases Tb with
    | nil => exact ⟨_, _, rfl⟩
    | cons x l => exact ⟨_, _, rfl⟩
  have hquiet : h.1 = 0 ∨ ¬ (stmtKindN h.2.1 = 0 ∨ h.1 ≠ 1) := by
    cases Tb with
    | nil =>
      rw [hB] at hr
      injection hr with h1 _
      rw [← h1]
      exact .inl rfl
    | cons x l =>
      right
      rw [hB] at hr b3 b5
      injection hr with h1 _
      rw [← h1]
      intro hn
      have hn' : NoStmt ⟨x :: l ++ [(0, ⟨#[]⟩, 0, eb)], 0, 0⟩ := hn
      rw [stmts_eq, loop_no hn'] at b5
      exact hTb x (List.mem_cons_self ..) b5
  obtain ⟨q1, qv, qp⟩ := quiet_of (T := ⟨0, h, r⟩) hquiet
  obtain ⟨q2, _, _⟩ := quiet_of (T := ⟨d, shT d (0, ⟨#[]⟩, 0, eb), []⟩) (.inl rfl)
  have hR1 : Tail.R ⟨0, h, r⟩ ⟨A, 0, 0⟩ ⟨Ta.map (shT 0) ++ B.map (shT d), 0, 0⟩ := ⟨Ta, _, hA, ⟨rfl, hTa⟩, rfl, by rw [hr], rfl, rfl⟩
  have hR2 : ∀ pl, Tail.R ⟨d, shT d (0, ⟨#[]⟩, 0, eb), []⟩ ⟨B, 0, 0⟩ ⟨B.map (shT d), pl, 0⟩ := fun pl => ⟨Tb, _, hB, ⟨rfl, hTb⟩, rfl, by simp [hB], rfl, rfl⟩
  rw [stmts_eq] at a3 a4 a5 b3 b4 b5
  obtain ⟨f2, l2, σ2, e1, v1, R1, n1, _⟩ := stmts_loop hst (stmts_sim q1 n) A.length (Ta.map (shT 0) ++ B.map (shT d)).length [] [] _ _ trivial hR1 (Nat.le_refl _) (Nat.le_refl _) a4
  have hl2 : la = l2 := (a3.symm).trans (mvL_eq (mvS_eq (n + 1)) v1)
  subst hl2
  have hσ2 : σ2.left = B.map (shT d) ∧ σ2.err = 0 := by
    obtain ⟨A', e, g1, g2, _, g3, _, g4⟩ := R1
    cases A' with
    | nil => exact ⟨by rw [g3, hr]; rfl, g4⟩
    | cons x A' =>
      exfalso
      refine g2.2 x (List.mem_cons_self ..) ?_
      have : (loopS (stepS (knot n)) A.length [] ⟨A, 0, 0⟩).2.head = x := by simp [Sy.head, g1]
      rw [← this]
      exact a5
  obtain ⟨lf, pl2, er⟩ := σ2
  obtain ⟨rfl, rfl⟩ := hσ2
  obtain ⟨f3, l3, σ3, e2, v2, R2, n2, _⟩ := stmts_loop hst (stmts_sim q2 n) B.length f2 [] [] _ _ trivial (hR2 pl2) (Nat.le_refl _) n1 b4
  have hσ3 : σ3.head.1 = 0 ∧ σ3.err = 0 := by
    obtain ⟨A', e, g1, g2, _, g3, _, g4⟩ := R2
    cases A' with
    | nil => exact ⟨by simp [Sy.head, g3, shT], g4⟩
    | cons x A' =>
      exfalso
      refine g2.2 x (List.mem_cons_self ..) ?_
      have : (loopS (stepS (knot n)) B.length [] ⟨B, 0, 0⟩).2.head = x := by simp [Sy.head, g1]
      rw [← this]
      exact b5
  have hrun : stmtsS (knot n) ⟨Ta.map (shT 0) ++ B.map (shT d), 0, 0⟩ = (la ++ l3, σ3) := by
    rw [stmts_eq, e1]
    have := loop_acc (K := knot n) la f2 [] ⟨B.map (shT d), pl2, 0⟩
    rw [List.append_nil] at this
    rw [this, e2, loop_no (σ := σ3) (.inr (by rw [hσ3.1]; decide))]
  refine ⟨l3, ?_, ?_⟩
  · have hv := (hR1.sees (x := w_var) qv).symm.trans a1
    have hp := (hR1.sees (x := w_proc) qp).symm.trans a2
    have := script_to (K := knot n) (p := q) hv hp (by rw [hrun]; exact hσ3.2) (by rw [hrun]; exact hσ3.1)
    rw [hrun] at this
    exact this
  · rw [← b3]
    exact v2
theorem script_two {s t s2 : ByteArray} (hs : s.size ≤ 5000) (ht : t.size ≤ 5000) (hs2 : s2.size ≤ 20000) (h2 : s2.data.toList = s.data.toList ++ 10 :: t.data.toList) {la lb : List Tr} (ha : scriptOf s = (mkSc [] [] la, 0, 0)) (hb : scriptOf t = (mkSc [] [] lb, 0, 0)) :
    (scriptOf s2).2.2 = 8 ∨ ∃ lb', scriptOf s2 = (mkSc [] [] (la ++ lb'), 0, 0) ∧ MvL (MvS ((s.size + 1 : Nat) : Int) 40) lb lb' := by
  unfold scriptOf at ha hb ⊢
  have hz : ∀ {x : List Tk × Nat × Int} {l : List Tr}, wholeS zSc (scriptS (knot 39)) x = (mkSc [] [] l, 0, 0) → ∃ A p, x = (A, p, 0) := by
    rintro ⟨A, p, e⟩ l h
    by_cases he : e = 0
    · exact ⟨A, p, by rw [he]⟩
    · have : wholeS zSc (scriptS (knot 39)) (A, p, e) = (zSc, (p : Int), e) := by simp [wholeS, he]
      rw [this] at h
      exact absurd (congrArg (fun q => q.2.2) h) he
  obtain ⟨A, p, hA⟩ := hz ha
  obtain ⟨B, p2, hB⟩ := hz hb
  rw [hA] at ha
  rw [hB] at hb
  obtain ⟨Ta, ea, hTa, _, hga, h3⟩ := scan_more 0 t.data.toList _ _ 0 0 0 0 A p rfl (scan_end (by omega) hA)
  obtain ⟨Tb, eb, hTb, _, hgb, _⟩ := scan_more 0 [] _ _ 0 0 0 0 B p2 rfl (scan_end (by omega) hB)
  have hlen : s.data.toList.length = s.size := rfl
  have hsh := scan_shift (s.size + 1) _ _ 0 0 (0 + s.data.toList.length + 1) (0 + Ta.length) B p2 (by omega) (scan_end (by omega) hB)
  have hscan : scanS s2 = scanR (s.data.toList ++ 10 :: t.data.toList) 0 0 := by rw [scanS_eq hs2, h2]
  rw [hscan]
  generalize hX : scanR (s.data.toList ++ 10 :: t.data.toList) 0 0 = X at h3
  generalize hY : scanR t.data.toList (0 + s.data.toList.length + 1) (0 + Ta.length) = Y at h3 hsh
  have h8 : X.2.2 = 8 → (wholeS zSc (scriptS (knot 39)) X).2.2 = 8 := by
    obtain ⟨x1, x2, x3⟩ := X
    intro e
    have e : x3 = 8 := e
    subst e
    rfl
  rcases h3 with h3 | h3
  · exact .inl (h8 h3)
  · rcases hsh with hsh | hsh
    · left
      refine h8 ?_
      have := congrArg (fun q => q.2.2) h3
      simp only [ah_err] at this
      rw [this, hsh]
    · right
      rw [hsh, ah_ok] at h3
      obtain ⟨x1, x2, x3⟩ := X
      have hx3 : x3 = 0 := by have := congrArg (fun q => q.2.2) h3; rw [ah_err] at this; exact this
      subst hx3
      rw [ah_ok] at h3
      have hx1 : x1 = Ta.map (shT 0) ++ B.map (shT ((s.size + 1 : Nat) : Int)) := by have := congrArg (fun q => q.1) h3; simpa using this
      subst hx1
      exact script_join hTa hga hTb hgb ha hb
end Go.Proofs.YtckidlbmoalomaaGreatDoor
