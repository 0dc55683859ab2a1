/- Runs of closed code, reckoned: operations in whatever order come to what they are reckoned to be. Runs of closed code, reckoned: a region whose order is left open. Runs of closed code, reckoned: a region whose order is left open, whichever operation comes up. Runs of closed code, reckoned: code and calls come to what they are reckoned to be. Runs of closed code, reckoned: what is reckoned of a call of closed code is so, in whatever memory, on whatever tape. -/
import Derived.Test.YthogkmcahnkkoaaGreatDoorJ03
namespace Go.Proofs.YthogkmcahnkkoaaGreatDoor
section
variable {P : Program} {call : J5}
def cu (tr : List (Fr × AW × Value)) (Af : Fr) (σf : AW) (i : Nat) : Fr × AW := match tr[i]? with
 | some (A, σ, _) => (A, σ)
 | none => (Af, σf)
def EC (P : Program) (all : List Oper) (tr : List (Fr × AW × Value)) (A0 Af : Fr) (σ0 σf : AW) : Prop :=
 tr.length = all.length ∧ cu tr Af σf 0 = (A0, σ0) ∧ ∀ i o, all[i]? = some o → ∃ v, tr[i]? = some ((cu tr Af σf i).1, (cu tr Af σf i).2, v) ∧ Gd P all (cu tr Af σf i).1 (cu tr Af σf i).2 o v (cu tr Af σf (i + 1)).2 ∧ (cu tr Af σf (i + 1)).1 = kT (cu tr Af σf i).1 o.dst v
theorem zS {α : Type} {l : List α} {p : α × Nat → Bool} (h : l.zipIdx.all p = true) {i : Nat} {x : α} (hi : l[i]? = some x) : p (x, i) = true := by
 refine List.all_eq_true.1 h (x, i) ?_
 rw [List.mem_iff_getElem?]
 exact ⟨i, by simp [hi]⟩
theorem Px (g : Nat → Nat) (j : Nat) : ∀ (es : List Edge) (m : Nat), Nat.testBit (es.foldl (fun m e => if Region.binds .any e then m ||| (2 ^ e.on) ||| g e.on else m) m) j = true → Nat.testBit m j = true ∨ ∃ e ∈ es, Region.binds .any e = true ∧ (e.on = j ∨ Nat.testBit (g e.on) j = true)
 | [], m, h => .inl h
 | e :: es, m, h => by
  rw [List.foldl_cons] at h
  rcases Px g j es _ h with h1 | ⟨e', he, hb, hj⟩
  ·by_cases hb : Region.binds .any e = true
   ·rw [if_pos hb, Nat.testBit_or, Nat.testBit_or, Bool.or_eq_true, Bool.or_eq_true] at h1
    rcases h1 with (h1 | h1) | h1
    ·exact .inl h1
    ·rw [Nat.testBit_two_pow] at h1
     exact .inr ⟨e, List.mem_cons_self .., hb, .inl (of_decide_eq_true h1)⟩
    ·exact .inr ⟨e, List.mem_cons_self .., hb, .inr h1⟩
   ·rw [if_neg hb] at h1
    exact .inl h1
  ·exact .inr ⟨e', List.mem_cons_of_mem _ he, hb, hj⟩
structure aaJ (all : List Oper) (an : List Nat) (i0 : Nat) : Prop where
 anc : ∀ (i : Nat) (o : Oper) (j : Nat), all[i]? = some o → wH (fA 0 an i) j = true → ∃ e ∈ o.after.toList, Region.binds .any e = true ∧ (e.on = j ∨ wH (fA 0 an e.on) j = true)
 less : ∀ (i : Nat) (o : Oper) (e : Edge), all[i]? = some o → e ∈ o.after.toList → Region.binds .any e = true → e.on < i
 once : ∀ (i j : Nat) (o x : Oper) (d : Tmp), all[i]? = some o → all[j]? = some x → i ≠ j → x.dst = some d → o.dst ≠ some d
 look : ∀ (i j : Nat) (o x : Oper) (d : Tmp), all[i]? = some o → all[j]? = some x → i ≠ j → x.dst = some d → d ∈ looks all o → (j < i ∧ wH (fA 0 an i) j = true) ∨ wH (fA 0 an j) i = true
 chain : ∀ (i j : Nat) (o x : Oper), all[i]? = some o → all[j]? = some x → j < i → i ≠ i0 → effect o.op = true → effect x.op = true → wH (fA 0 an i) j = true
 float : ∀ o : Oper, all[i0]? = some o → ∃ d, Ez o.op = true ∧ o.guard = none ∧ o.dst = some d ∧ ∀ (j : Nat) (x : Oper), all[j]? = some x → effect x.op = false → d ∈ looks all x → ∀ (k : Nat) (y : Oper), all[k]? = some y → effect y.op = true → k < i0 → wH (fA 0 an j) k = true
theorem X5 {all : List Oper} (h : yC all = true) : aaJ all (iG [] all) (dP all (iG [] all)) := by
 unfold yC at h
 simp only [Bool.and_eq_true] at h
 obtain ⟨⟨⟨h1, h2⟩, hfl⟩, h3⟩ := h
 have h1' : ∀ i o, all[i]? = some o → fA 0 (iG [] all) i = aaH (iG [] all) o ∧ ∀ e ∈ o.after.toList, Region.binds .any e = true → e.on < i := fun i o hi => by
  have := zS h1 hi
  simp only [Bool.and_eq_true, beq_iff_eq, List.all_eq_true] at this
  refine ⟨this.1, fun e he hb => ?_⟩
  have q := this.2 e he
  rw [hb] at q
  simpa using q
 have h2' : ∀ i j o x, all[i]? = some o → all[j]? = some x → i ≠ j → Pn all (iG [] all) o i x j = true ∧ Uo (iG [] all) (dP all (iG [] all)) o i x j = true := fun i j o x hi hj hne => by
  have := zS (zS h2 hi) hj
  simp only [Bool.or_eq_true, beq_iff_eq, hne, false_or, Bool.and_eq_true] at this
  exact this
 refine ⟨fun i o j hi hb => ?_, fun i o e hi he hb => (h1' i o hi).2 e he hb, fun i j o x d hi hj hne hd => ?_, fun i j o x d hi hj hne hd hm => ?_, fun i j o x hi hj hlt hi0 ho hx => ?_, fun o ho => ?_⟩
 ·rw [(h1' i o hi).1] at hb
  rcases Px _ j _ 0 hb with h | h
  ·simp at h
  ·exact h
 ·have := (h2' i j o x hi hj hne).1
  unfold Pn at this
  rw [hd] at this
  simp only [Bool.and_eq_true, bne_iff_ne, ne_eq] at this
  exact this.1
 ·have := (h2' i j o x hi hj hne).1
  unfold Pn at this
  rw [hd] at this
  simp only [Bool.and_eq_true, Bool.or_eq_true, Bool.not_eq_true', decide_eq_true_eq] at this
  rcases this.2 with (q | q) | q
  ·have hc : (looks all o).contains d = true := List.contains_iff_mem.2 hm
   rw [hc] at q; cases q
  ·exact .inl q
  ·exact .inr q
 ·have := (h2' i j o x hi hj (by omega)).2
  unfold Uo at this
  rw [ho, hx] at this
  simp only [Bool.not_true, Bool.false_or, Bool.or_eq_true, decide_eq_true_eq, beq_iff_eq] at this
  rcases this with (q | q) | q
  ·omega
  ·exact absurd q hi0
  ·exact q
 ·unfold Po at hfl
  rw [ho] at hfl
  simp only [Bool.and_eq_true] at hfl
  obtain ⟨⟨ha, hg⟩, hd⟩ := hfl
  cases hdst : o.dst with
  | none => rw [hdst] at hd; cases hd
  | some d =>
   rw [hdst] at hd
   refine ⟨d, ha, Option.isNone_iff_eq_none.1 hg, rfl, fun j x hj he hm k y hk hy hki => ?_⟩
   have := zS hd hj
   simp only [he, List.contains_iff_mem.2 hm, Bool.false_or, Bool.not_true] at this
   have := zS this hk
   simp only [hy, hki, Bool.not_true, Bool.false_or, decide_true] at this
   exact this
def listed (L : Array Bool) (j : Nat) : Prop := L.getD j false = true
structure Closed (all : List Oper) (L : Array Bool) : Prop where
 size : L.size = all.length
 closed : ∀ i o, all[i]? = some o → listed L i → ∀ e ∈ o.after.toList, Region.binds .any e = true → listed L e.on
theorem QI {all : List Oper} {L : Array Bool} (h : Closed all L) {j : Nat} (hj : listed L j) : ∃ o, all[j]? = some o := by
 unfold listed at hj
 have : j < L.size := by
  rcases Nat.lt_or_ge j L.size with h' | h'
  ·exact h'
  ·simp [Array.getElem?_eq_none h'] at hj
 rw [h.size] at this
 exact ⟨all[j], List.getElem?_eq_getElem this⟩
theorem jf {all : List Oper} {an : List Nat} {i0 : Nat} (hc : aaJ all an i0) {L : Array Bool} (hL : Closed all L) : ∀ (i j : Nat) (o : Oper), all[i]? = some o → (listed L i ∨ ∀ e ∈ o.after.toList, Region.binds .any e = true → listed L e.on) → wH (fA 0 an i) j = true → listed L j ∧ j < i := by
 intro i
 induction i using Nat.strongRecOn with
 | _ i ih =>
  intro j o ho hl hb
  obtain ⟨e, he, hbd, hj⟩ := hc.anc i o j ho hb
  have hlt := hc.less i o e ho he hbd
  have hel : listed L e.on := by
   rcases hl with hl | hl
   ·exact hL.closed i o ho hl e he hbd
   ·exact hl e he hbd
  rcases hj with rfl | hj
  ·exact ⟨hel, hlt⟩
  ·obtain ⟨o', ho'⟩ := QI hL hel
   obtain ⟨h1, h2⟩ := ih e.on hlt j o' ho' (.inl hel) hj
   exact ⟨h1, by omega⟩
theorem fH {all : List Oper} {L : Array Bool} (hL : Closed all L) {i : Nat} {o : Oper} (ho : all[i]? = some o) (j : Nat) : listed (L.setIfInBounds i true) j ↔ j = i ∨ listed L j := by
 have hi : i < L.size := by rw [hL.size]; exact (List.getElem?_eq_some_iff.1 ho).1
 unfold listed
 by_cases e : j = i
 ·subst e; simp [hi]
 ·rw [getD_set_ne false (Ne.symm e)]
  simp [e]
end
section
variable {P : Program} {call : J5}
theorem qP {A : Fr} {σ σ' : AW} {o : Oper} {v : Value} (h : iD P A σ o = some (v, σ')) : σ' = σ := by
 unfold iD at h
 split at h
 ·split at h
  ·split at h
   ·injection h with h; injection h with _ h; exact h.symm
   ·cases h
  ·cases h
 ·cases h
theorem IV {A : Fr} {σ σ' : AW} {o : Oper} {v : Value} {b : Builtin} {ts : Array TypeId} {xs : Array Operand} (he : b ≠ .append ∧ b ≠ .copy) (h : qc P A σ o b ts xs = some (v, σ')) : σ' = σ := by
 unfold qc at h
 split at h
 ·exact absurd rfl he.1
 ·exact absurd rfl he.2
 ·split at h
  ·exact (eU h).2
  ·cases h
 ·exact qP h
theorem J6 {A : Fr} {σ σ' : AW} {o : Oper} {v : Value} (he : effect o.op = false) (h : kQ P A σ o = some (v, σ')) : σ' = σ := by
 unfold kQ at h
 split at h
 all_goals first
  | exact (eU h).2
  | exact qP h
  | (rename_i ho; rw [ho] at he; cases he; done)
  | skip
 all_goals first
  | (split at h <;> first | exact (eU h).2 | exact qP h | (injection h with h; injection h with _ h; exact h.symm; done) | (cases h; done) | (split at h <;> first | exact (eU h).2 | exact qP h | (injection h with h; injection h with _ h; exact h.symm; done) | (cases h; done) | (split at h <;> first | exact (eU h).2 | exact qP h | (injection h with h; injection h with _ h; exact h.symm; done) | (cases h; done) | (split at h <;> first | exact qP h | (injection h with h; injection h with _ h; exact h.symm; done)))); done)
  | skip
 all_goals
  rename_i c ho
  rw [ho] at he
  split at h
  ·rename_i b hb
   refine IV (b := b) ?_ h
   simp only [effect, hb] at he
   cases b <;> first | (cases he; done) | exact ⟨by simp, by simp⟩
  ·cases h
theorem X6 {all : List Oper} {A : Fr} {σ σ' : AW} {o : Oper} {v : Value} (he : effect o.op = false) (h : Gd P all A σ o v σ') : σ' = σ := by
 unfold Gd at h
 split at h
 ·unfold X4 at h
  split at h
  ·rename_i c ho
   split at h
   ·rename_i f hf
    rw [ho] at he
    simp [effect, hf] at he
   ·exact J6 he h
  ·exact J6 he h
 ·exact h.2
 ·exact h.elim
def at1 (n : Nat) (v : Value) : Prop := v = .pointer (some ⟨n, 0, none⟩) ∨ ∃ l c, v = .slice (some ⟨n, 0, none⟩) l (2 * c)
theorem Py {n : Nat} {v : Value} (h : at1 n v) {ρ : Rn} {b : Nat} (hb : (ρ n).1 = b) (h3 : (ρ n).3 = 0) : ren ρ v = ren (fun _ => ⟨b, 0, 0⟩) v := by
 rcases h with rfl | ⟨l, c, rfl⟩
 ·simp only [dO, jd, hb, h3]
 ·simp only [aZ, jd, hb, h3, oH, Nat.mul_mod_right, if_true]
theorem aaK {n : Nat} {v : Value} (h : at1 n v) {D : Nat → Prop} (hn : D n) : Sc D v := by
 rcases h with rfl | ⟨l, c, rfl⟩
 ·exact Iw hn
 ·exact pX hn
theorem push_inv {A : Fr} {σ σ' : AW} {o : Oper} {v : Value} (hp : Ez o.op = true) (h : kQ P A σ o = some (v, σ')) :
  ∃ t z cs, σ' = σ.push ⟨1, t, z, cs⟩ ∧ at1 σ.next v ∧ (∀ τ, ∃ u, kQ P A τ o = some (u, τ.push ⟨1, t, z, cs⟩) ∧ at1 τ.next u ∧ ∀ b, ren (fun _ => ⟨b, 0, 0⟩) u = ren (fun _ => ⟨b, 0, 0⟩) v) ∧
   ∀ {ρ : Rn} {τ : AW} {a : Act}, HE ρ τ A a o.op.operands.toList → ∀ x ∈ cs, Sc τ.dom x := by
 cases ho : o.op with
 | alloc t =>
  simp only [kQ, ho] at h ⊢
  cases hz : zeroOf P t with
  | none => rw [hz] at h; cases h
  | some z =>
   rw [hz] at h
   injection h with h
   injection h with h1 h2
   subst h1 h2
   refine ⟨t, 0, aF z, rfl, .inl rfl, fun τ => ⟨_, rfl, .inl rfl, fun b => rfl⟩, fun {ρ τ a} _ => ?_⟩
   have : Fl z := by
    unfold zeroOf at hz
    split at hz
    ·cases hz
    ·split at hz
     ·cases hz
     ·split at hz
      ·rename_i hf
       injection hz with hz
       subst hz
       exact gJ hf
      ·cases hz
   exact xX this _
 | buildSlice t len ps =>
  simp only [kQ, ho] at h ⊢
  cases hv : nV A ps.toList with
  | none => rw [hv] at h; cases h
  | some vs =>
   rw [hv] at h
   simp only at h ⊢
   unfold bf at h ⊢
   split at h
   ·rename_i e hu
    split at h
    ·cases h
    ·rename_i n hn
     split at h
     ·cases h
     ·rename_i hc
      split at h
      ·cases h
      ·rename_i z hz
       split at h
       ·cases h
       ·rename_i hzl
        split at h
        ·cases h
        ·rename_i cs hcs
         injection h with h
         injection h with h1 h2
         subst h1 h2
         refine ⟨e, 1, cs, rfl, .inr ⟨len, len, rfl⟩, fun τ => ⟨.slice (some ⟨τ.next, 0, none⟩) len (2 * len), ?_, .inr ⟨len, len, rfl⟩, fun b => rfl⟩, fun {ρ τ a} hE => ?_⟩
         ·simp [hc, hzl]
         ·have : Fl z := by
           unfold zeroOf at hz
           split at hz
           ·cases hz
           ·split at hz
            ·cases hz
            ·split at hz
             ·rename_i hf
              injection hz with hz
              subst hz
              exact gJ hf
             ·cases hz
          have hE' : HE ρ τ A a (ps.toList.map (·.2)) := fun x hx => hE x (by simpa [Op.operands] using hx)
          exact uM (zN (xX this _) len) (zL hE' hv).2 hcs
   ·cases h
 | _ => rw [ho] at hp; cases hp
theorem J7 {ρ ρ' : Rn} {σ : AW} {w w' : World} {t : TypeId} {z : Nat} {cs : List Value} (h0 : Rel ρ σ w) (hs : ∀ x ∈ cs, Sc σ.dom x) (h : Step ρ σ w ρ' (σ.push ⟨1, t, z, cs⟩) w') :
  Step ρ σ w ρ σ w' ∧ w'.heap[(ρ' σ.next).1]? = some (.cells (cs.map (ren ρ)).toArray t (0, 0)) ∧ w.heap.size ≤ (ρ' σ.next).1 := by
 have hg : ∀ j, (σ.push ⟨1, t, z, cs⟩).get j = if j = σ.next then ⟨1, t, z, cs⟩ else σ.get j := fun j => by rw [AW.push, AW.get_up, AW.get_set]
 have hl : ∀ j, σ.live j → (σ.push ⟨1, t, z, cs⟩).live j := fun j hj => by
  have := h0.lt j hj
  unfold AW.live at *
  rw [hg, if_neg (by omega)]
  exact hj
 have hn : (σ.push ⟨1, t, z, cs⟩).live σ.next := by unfold AW.live; rw [hg, if_pos rfl]; exact ⟨by simp, by simp⟩
 have hag : ∀ k, σ.dom k → ρ' k = ρ k := fun k hk => h.agree k hk.1
 have hb := h.rel.blk σ.next hn
 rw [hg, if_pos rfl] at hb
 have hb : w'.heap[(ρ' σ.next).1]? = some (.cells (cs.map (ren ρ')).toArray t (0, 0)) := hb
 rw [oZ hs hag] at hb
 refine ⟨⟨⟨fun k hk => ?_, h0.lt, h0.inj, h0.sc, h0.fit, h0.glob.next h.size (fun k hk => .inr ⟨k, hk, rfl⟩) h.same, h0.ro.next h0.ro.1 (fun _ _ => rfl) (fun _ _ => rfl) (fun _ h => h) (Nat.le_refl _) h.size (fun k hk => .inr ⟨k, hk, rfl⟩) h.same⟩, fun _ _ => rfl, Nat.le_refl _, fun _ _ => Iff.rfl, fun k hk => .inr ⟨k, hk, rfl⟩, h.same, h.os, h.tape, h.output, h.size, fun _ _ => rfl⟩, hb, ?_⟩
 ·have := h.rel.blk k (hl k hk)
  rw [hg, if_neg (Nat.ne_of_lt (h0.lt k hk)), h.agree k (h0.lt k hk)] at this
  exact this.keep rfl (h0.sc k hk) hag
 ·rcases h.came σ.next hn with q | ⟨j, hj, e⟩
  ·exact q
  ·rw [← h.agree j (h0.lt j hj)] at e
   have := h.rel.inj j σ.next (hl j hj) hn e
   have := h0.lt j hj
   omega
structure Inv (P : Program) (all : List Oper) (i0 : Nat) (pt : TypeId) (pc : List Value) (pv : Value) (tr : List (Fr × AW × Value)) (A0 Af : Fr) (σf : AW) (ρ0 : Rn) (σ0 : AW) (w0 : World) (L : Array Bool) (f : Nat) (ρ : Rn) (a : Act) (w : World) : Prop where
 closed : Closed all L
 place : f ∈ places all
 eff : ∀ j o, all[j]? = some o → effect o.op = true → j ≠ i0 → (listed L j ↔ j < f)
 fl : i0 < f → i0 < all.length → listed L i0
 step : Step ρ0 σ0 w0 ρ (cu tr Af σf f).2 w
 size : a.tmps.size = A0.size
 defers : a.defers = []
 done : ∀ j o t v u, all[j]? = some o → (j = i0 → i0 < f) → listed L j → o.dst = some t → (tr[j]?.map (·.2.2)) = some v → A0.get t = some u → a.tmps[t]? = some (ren ρ v) ∧ Sc (cu tr Af σf f).2.dom v
 todo : ∀ t v, (∀ j o, all[j]? = some o → listed L j → o.dst ≠ some t) → A0.get t = some v → a.tmps[t]? = some (ren ρ v) ∧ Sc (cu tr Af σf f).2.dom v
 side : listed L i0 → f ≤ i0 → ∀ o d u, all[i0]? = some o → o.dst = some d → A0.get d = some u → ∃ b, a.tmps[d]? = some (ren (fun _ => ⟨b, 0, 0⟩) pv) ∧ w.heap[b]? = some (.cells (pc.map (ren ρ)).toArray pt (0, 0)) ∧ (∀ x ∈ pc, Sc (cu tr Af σf f).2.dom x) ∧ (∀ k, (cu tr Af σf f).2.live k → (ρ k).1 ≠ b) ∧ w0.heap.size ≤ b
theorem QJ {ρ : Rn} {σ : AW} {w : World} (h : Rel ρ σ w) {b : Nat} {t : TypeId} {z : Nat} {cs : List Value} (hz : ∀ x ∈ cs, Sc σ.dom x) (hb : w.heap[b]? = some (.cells (cs.map (ren ρ)).toArray t (0, 0))) (hn : ∀ k, σ.live k → (ρ k).1 ≠ b) (hb0 : ∀ q ∈ globs, b ≠ q.1) (hr5 : ∀ k, (σ.get k).kind = 5 → (σ.get k).cells ≠ [] → (ρ k).1 ≠ b) :
  Rel (fun k => if k = σ.next then ⟨b, 0, 0⟩ else ρ k) (σ.push ⟨1, t, z, cs⟩) w := by
 have hg : ∀ j, (σ.push ⟨1, t, z, cs⟩).get j = if j = σ.next then ⟨1, t, z, cs⟩ else σ.get j := fun j => by rw [AW.push, AW.get_up, AW.get_set]
 have hag : ∀ j, j < σ.next → (if j = σ.next then ⟨b, 0, 0⟩ else ρ j) = ρ j := fun j hj => if_neg (by omega)
 have hl : ∀ j, (σ.push ⟨1, t, z, cs⟩).live j → j ≠ σ.next → σ.live j := fun j hj hne => by
  unfold AW.live at *; rw [hg, if_neg hne] at hj; exact hj
 have hd : ∀ j, σ.dom j → (σ.push ⟨1, t, z, cs⟩).dom j := fun j hj => ⟨Nat.lt_succ_of_lt hj.1, by rw [hg, if_neg (Nat.ne_of_lt hj.1)]; exact hj.2⟩
 have acw : Glob (fun k => if k = σ.next then ⟨b, 0, 0⟩ else ρ k) (σ.push ⟨1, t, z, cs⟩) w := fun q hq => by
  obtain ⟨h1, h2, h3⟩ := h.glob q hq
  refine ⟨h1, fun k hk => ?_, h3⟩
  by_cases e : k = σ.next
  ·simp only [if_pos e]; exact hb0 q hq
  ·simp only [if_neg e]; exact h2 k (hl k hk e)
 refine ⟨fun j hj => ?_, fun j hj => ?_, fun i j hi hj e => ?_, fun j hj v hv => ?_, fun j hj => ?_, acw, ⟨fun j hj => ?_, fun k hk => ?_⟩⟩
 ·by_cases e : j = σ.next
  ·rw [hg, if_pos e]
   simp only [if_pos e]
   show w.heap[b]? = _
   rw [hb, oZ hz (ρ := ρ) (ρ' := fun k => if k = σ.next then ⟨b, 0, 0⟩ else ρ k) (fun k hk => (hag k hk.1).symm)]
  ·rw [hg, if_neg e]
   simp only [if_neg e]
   have hj' := hl j hj e
   exact (h.blk j hj').keep rfl (h.sc j hj') (fun i hi => (hag i hi.1).symm)
 ·by_cases e : j = σ.next
  ·subst e; exact Nat.lt_succ_self _
  ·exact Nat.lt_succ_of_lt (h.lt j (hl j hj e))
 ·by_cases e1 : i = σ.next
  ·by_cases e2 : j = σ.next
   ·rw [e1, e2]
   ·simp only [if_pos e1, if_neg e2] at e
    exact absurd e.symm (hn j (hl j hj e2))
  ·by_cases e2 : j = σ.next
   ·simp only [if_neg e1, if_pos e2] at e
    exact absurd e (hn i (hl i hi e1))
   ·simp only [if_neg e1, if_neg e2] at e
    exact h.inj i j (hl i hi e1) (hl j hj e2) e
 ·rw [hg] at hv
  by_cases e : j = σ.next
  ·rw [if_pos e] at hv
   exact (hz v hv).mono hd
  ·rw [if_neg e] at hv
   exact (h.sc j (hl j hj e) v hv).mono hd
 ·have hj : σ.next + 1 ≤ j := hj
  rw [hg, if_neg (by omega)]
  exact h.fit j (by omega)
 ·by_cases e : j = σ.next
  ·simp only [if_pos e]
  ·simp only [if_neg e]; exact h.ro.1 j (hl j hj e)
 ·rw [hg] at hk ⊢
  by_cases e : k = σ.next
  ·rw [if_pos e] at hk; cases hk
  ·rw [if_neg e] at hk ⊢
   obtain ⟨q1, q23, q4, q5⟩ := h.ro.2 k hk
   simp only [if_neg e]
   refine ⟨Nat.lt_succ_of_lt q1, fun hne => ⟨(q23 hne).1, fun j hj => ?_⟩, fun v hv => (q4 v hv).mono hd, fun i v hv => ?_⟩
   ·by_cases e2 : j = σ.next
    ·simp only [if_pos e2]; exact fun x => hr5 k hk hne x.symm
    ·simp only [if_neg e2]; exact (q23 hne).2 j (hl j hj e2)
   ·rw [q5 i v hv, q4 v (List.mem_of_getElem? hv) ρ _ (fun k hk => (hag k hk.1).symm)]
theorem Nz {all : List Oper} {tr : List (Fr × AW × Value)} {A0 Af : Fr} {σf : AW} (h0 : (cu tr Af σf 0).1 = A0)
  (hs : ∀ i o, all[i]? = some o → ∃ v, (tr[i]?.map (·.2.2)) = some v ∧ (cu tr Af σf (i + 1)).1 = kT (cu tr Af σf i).1 o.dst v)
  (once : ∀ (i j : Nat) (o x : Oper) (d : Tmp), all[i]? = some o → all[j]? = some x → i ≠ j → x.dst = some d → o.dst ≠ some d) (t : Tmp) :
  ∀ i, i ≤ all.length → ((∀ j o, j < i → all[j]? = some o → o.dst ≠ some t) → (cu tr Af σf i).1.get t = A0.get t) ∧
   (∀ j o v, j < i → all[j]? = some o → o.dst = some t → (tr[j]?.map (·.2.2)) = some v → (cu tr Af σf i).1.get t = (A0.get t).map (fun _ => v)) := by
 intro i
 induction i with
 | zero => exact fun _ => ⟨fun _ => by rw [h0], fun j o v hj => by omega⟩
 | succ i ih =>
  intro hi
  obtain ⟨ih1, ih2⟩ := ih (by omega)
  have ho : all[i]? = some all[i] := List.getElem?_eq_getElem (by omega)
  obtain ⟨v, hv, hp⟩ := hs i _ ho
  rw [hp]
  refine ⟨fun hn => ?_, fun j o u hj hjo hd hu => ?_⟩
  ·have hni := hn i _ (by omega) ho
   have h1 := ih1 (fun j o hj => hn j o (by omega))
   cases hd : (all[i]).dst with
   | none => exact h1
   | some d =>
    simp only [kT, Fr.get_set]
    rw [if_neg (fun e => hni (by rw [hd, e])), h1]
  ·by_cases hji : j = i
   ·subst hji
    rw [ho] at hjo
    injection hjo with hjo
    subst hjo
    rw [hv] at hu
    injection hu with hu
    subst hu
    rw [hd]
    simp only [kT, Fr.get_set, if_true]
    have h1 := ih1 (fun k x hk hx hxd => once k j x _ t hx ho (by omega) hd hxd)
    rw [h1]
   ·have h1 := ih2 j o u (by omega) hjo hd hu
    have hne : (all[i]).dst ≠ some t := once i j _ o t ho hjo (Ne.symm hji) hd
    cases hd2 : (all[i]).dst with
    | none => exact h1
    | some d =>
     simp only [kT, Fr.get_set]
     rw [if_neg (fun e => hne (by rw [hd2, e])), h1]
theorem IW {all : List Oper} {tr : List (Fr × AW × Value)} {Af : Fr} {σf : AW} (hs : ∀ i o, all[i]? = some o → ∃ v, Gd P all (cu tr Af σf i).1 (cu tr Af σf i).2 o v (cu tr Af σf (i + 1)).2) (f : Nat) :
  ∀ i, f ≤ i → i ≤ all.length → (∀ j o, f ≤ j → j < i → all[j]? = some o → effect o.op = false) → (cu tr Af σf i).2 = (cu tr Af σf f).2 := by
 intro i
 induction i with
 | zero => intro h _ _; rw [Nat.le_zero.1 h]
 | succ i ih =>
  intro h hi hn
  by_cases e : f = i + 1
  ·rw [e]
  ·have ho : all[i]? = some all[i] := List.getElem?_eq_getElem (by omega)
   obtain ⟨v, hg⟩ := hs i _ ho
   rw [X6 (hn i _ (by omega) (by omega) ho) hg]
   exact ih (by omega) (by omega) (fun j o h1 h2 => hn j o h1 (by omega))
end
section
variable {P : Program} {call : J5} {Q : Exit → Act → World → Prop}
theorem yT {α : Type} {p q : α → Bool} : ∀ (l : List α), (∀ x ∈ l, q x = true → p x = true) → (∃ x ∈ l, p x = true ∧ q x = false) → (l.filter q).length < (l.filter p).length
 | [], _, h => by obtain ⟨x, hx, _⟩ := h; cases hx
 | y :: l, h, ⟨x, hx, h1, h2⟩ => by
  have hle : ∀ l : List α, (∀ x ∈ l, q x = true → p x = true) → (l.filter q).length ≤ (l.filter p).length := by
   intro l
   induction l with
   | nil => intro _; exact Nat.le_refl _
   | cons z l ih =>
    intro hz
    have := ih (fun x hx => hz x (List.mem_cons_of_mem _ hx))
    have hz1 := hz z (List.mem_cons_self ..)
    simp only [List.filter_cons]
    cases hq : q z with
    | true => rw [hz1 hq]; simp; omega
    | false => cases p z <;> simp <;> omega
  have hl := hle l (fun x hx => h x (List.mem_cons_of_mem _ hx))
  simp only [List.filter_cons]
  cases hx with
  | head => rw [h1, h2]; simp; omega
  | tail _ hx =>
   have := yT l (fun x hx => h x (List.mem_cons_of_mem _ hx)) ⟨x, hx, h1, h2⟩
   have hy := h y (List.mem_cons_self ..)
   cases hq : q y with
   | true => rw [hy hq]; simp; omega
   | false => cases p y <;> simp <;> omega
def left (L : Array Bool) : Nat := ((List.range L.size).filter fun i => !L.getD i true).length
def Pz (P : Program) (all : List Oper) (an : List Nat) (i0 : Nat) (tr : List (Fr × AW × Value)) (σf : AW) : Prop :=
 ∀ (i : Nat) (o : Oper) (A : Fr) (τ : AW) (v : Value), all[i]? = some o → tr[i]? = some (A, τ, v) → effect o.op = false → ∀ f ∈ places all, Pq all an i0 i f = true → Gd P all A (yh tr σf f) o v (yh tr σf f)
theorem PD {all : List Oper} {ops : Array Oper} {i0 : Nat} {pt : TypeId} {pz : Nat} {pc : List Value} {pv : Value} (hops : ops.toList = all) (hc : aaJ all (iG [] all) i0) {tr : List (Fr × AW × Value)} {A0 Af : Fr} {σf : AW} {ρ0 : Rn} {σ0 : AW} {w0 : World}
  (hg0 : ∀ q ∈ globs, q.1 < w0.heap.size) (h50 : ∀ k, (σ0.get k).kind = 5 → k < σ0.next ∧ ((σ0.get k).cells ≠ [] → (ρ0 k).1 < w0.heap.size)) (hfit : ∀ o : Oper, all[i0]? = some o → ∀ d, o.dst = some d → ∃ u, A0.get d = some u) (htr : EC P all tr A0 Af σ0 σf) (hcalm : Pz P all (iG [] all) i0 tr σf)
  (hpush : ∀ o : Oper, all[i0]? = some o → (cu tr Af σf (i0 + 1)).2 = (cu tr Af σf i0).2.push ⟨1, pt, pz, pc⟩ ∧ (tr[i0]?.map (·.2.2)) = some pv ∧ at1 (cu tr Af σf i0).2.next pv)
  (hQ : ∀ ρ' a' w', Step ρ0 σ0 w0 ρ' σf w' → TR ρ' σf Af a' → Q .normal a' w') :
  ∀ (fuel : Nat) (L : Array Bool) (f : Nat) (ρ : Rn) (a : Act) (w : World), left L ≤ fuel → Inv P all i0 pt pc pv tr A0 Af σf ρ0 σ0 w0 L f ρ a w → wpAny P .any ops Q fuel L a w := by
 obtain ⟨hlen, F9, hstep⟩ := htr
 have hvs : ∀ i o, all[i]? = some o → ∃ v, (tr[i]?.map (·.2.2)) = some v ∧ (cu tr Af σf (i + 1)).1 = kT (cu tr Af σf i).1 o.dst v := fun i o hi => by
  obtain ⟨v, h1, _, h3⟩ := hstep i o hi
  exact ⟨v, by rw [h1]; rfl, h3⟩
 have hgs : ∀ i o, all[i]? = some o → ∃ v, Gd P all (cu tr Af σf i).1 (cu tr Af σf i).2 o v (cu tr Af σf (i + 1)).2 := fun i o hi => by
  obtain ⟨v, _, h2, _⟩ := hstep i o hi
  exact ⟨v, h2⟩
 have PE := Nz (by rw [F9]) hvs hc.once
 have hend : cu tr Af σf all.length = (Af, σf) := by
  unfold cu
  rw [List.getElem?_eq_none (by omega)]
 have aaL : ∀ f, f ∈ places all → f ≤ all.length := fun f hf => by
  unfold places at hf
  cases hf with
  | head => exact Nat.zero_le _
  | tail _ hf =>
    obtain ⟨p, hp, he⟩ := List.mem_filterMap.1 hf
    obtain ⟨o, i⟩ := p
    simp only at he
    split at he
    · injection he with he
      have := List.mem_zipIdx hp
      omega
    · cases he
 -- the block that was made before its time is taken in
 have conv : ∀ (L : Array Bool) (f : Nat) (ρ : Rn) (a : Act) (w : World), i0 < all.length → f ≤ i0 → listed L i0 → (∀ j o, all[j]? = some o → effect o.op = true → j < i0 → listed L j) → Inv P all i0 pt pc pv tr A0 Af σf ρ0 σ0 w0 L f ρ a w → ∃ ρ', Inv P all i0 pt pc pv tr A0 Af σf ρ0 σ0 w0 L (i0 + 1) ρ' a w := by
  intro L f ρ a w hlt hfi hl hall hI
  have ho : all[i0]? = some all[i0] := List.getElem?_eq_getElem hlt
  obtain ⟨d, hop, hgd, hdst, _⟩ := hc.float _ ho
  have heff : effect (all[i0]).op = true := by
    cases hq : (all[i0]).op <;> rw [hq] at hop <;> first | rfl | cases hop
  have hsame : (cu tr Af σf i0).2 = (cu tr Af σf f).2 := IW hgs f i0 hfi (by omega) (fun j x h1 h2 hj => by
    cases hx : effect x.op with
    | false => rfl
    | true => have := (hI.eff j x hj hx (by omega)).1 (hall j x hj hx h2); omega)
  obtain ⟨hp1, hvv, hat⟩ := hpush _ ho
  have hnx : (cu tr Af σf (i0 + 1)).2 = (cu tr Af σf f).2.push ⟨1, pt, pz, pc⟩ := by rw [hp1, hsame]
  rw [hsame] at hat
  have afT : i0 + 1 ∈ places all := by
    unfold places
    refine List.mem_cons_of_mem _ (List.mem_filterMap.2 ⟨(all[i0], i0), ?_, by simp [heff]⟩)
    rw [List.mem_iff_getElem?]
    exact ⟨i0, by simp [ho]⟩
  obtain ⟨u, hAd⟩ := hfit _ ho d hdst
  obtain ⟨b, htm, hbk, hsc, hnl, hnew⟩ := hI.side hl hfi _ d u ho hdst hAd
  have hrel := QJ (z := pz) hI.step.rel hsc hbk hnl (fun q hq => by have := hg0 q hq; omega) (fun k hk hne => by
    have q := hI.step.ro5 k hk
    rw [q] at hk hne
    obtain ⟨q1, q2⟩ := h50 k hk
    have := q2 hne
    rw [hI.step.agree k q1]
    omega)
  have hdom : ∀ k, (cu tr Af σf f).2.dom k → ((cu tr Af σf f).2.push ⟨1, pt, pz, pc⟩).dom k := fun k hk => ⟨Nat.lt_succ_of_lt hk.1, by rw [AW.push, AW.get_up, AW.get_set, if_neg (Nat.ne_of_lt hk.1)]; exact hk.2⟩
  have acy : ∀ v, Sc (cu tr Af σf f).2.dom v → ren (fun k => if k = (cu tr Af σf f).2.next then ⟨b, 0, 0⟩ else ρ k) v = ren ρ v := fun v hv => hv _ _ fun k hk => if_neg (Nat.ne_of_lt hk.1)
  refine ⟨fun k => if k = (cu tr Af σf f).2.next then ⟨b, 0, 0⟩ else ρ k, hI.closed, afT, fun j x hj hx hne => ?_, fun _ _ => hl, ?_, hI.size, hI.defers, fun j x tt y uu hj hq hlj hd hu hA => ?_, fun tt y hn hA => ?_, fun _ h => by omega⟩
  · constructor
    · intro h; have := (hI.eff j x hj hx hne).1 h; omega
    · intro h; exact hall j x hj hx (by omega)
  · rw [hnx]
    have hs := hI.step
    refine ⟨hrel, fun k hk => ?_, Nat.le_trans hs.mono (Nat.le_succ _), fun k hk => ?_, fun k hk => ?_, hs.same, hs.os, hs.tape, hs.output, hs.size, fun k hk => by
      rw [AW.push, AW.get_up, AW.get_set] at hk ⊢
      by_cases e : k = (cu tr Af σf f).2.next
      · rw [if_pos e] at hk; cases hk
      · rw [if_neg e] at hk ⊢; exact hs.ro5 k hk⟩
    · have := hs.mono
      rw [if_neg (by omega)]
      exact hs.agree k hk
    · have := hs.mono
      rw [AW.push, AW.get_up, AW.get_set, if_neg (by omega)]
      exact hs.kept k hk
    · by_cases e : k = (cu tr Af σf f).2.next
      · exact .inl (by simp only [if_pos e]; exact hnew)
      · simp only [if_neg e]
        refine hs.came k ?_
        unfold AW.live at hk ⊢
        rw [AW.push, AW.get_up, AW.get_set, if_neg e] at hk
        exact hk
  · rw [hnx]
    by_cases hji : j = i0
    · subst hji
      rw [ho] at hj
      injection hj with hj
      subst hj
      rw [hdst] at hd
      injection hd with hd
      subst hd
      rw [hvv] at hu
      injection hu with hu
      subst hu
      refine ⟨?_, aaK hat (nT (by simp))⟩
      rw [htm]
      exact congrArg some (Py hat (by simp) (by simp)).symm
    · obtain ⟨h1, h2⟩ := hI.done j x tt y uu hj (fun e => absurd e hji) hlj hd hu hA
      exact ⟨by rw [acy y h2]; exact h1, h2.mono hdom⟩
  · rw [hnx]
    obtain ⟨h1, h2⟩ := hI.todo tt y hn hA
    exact ⟨by rw [acy y h2]; exact h1, h2.mono hdom⟩
 -- when nothing is left, all is done
 have fin : ∀ (L : Array Bool) (f : Nat) (ρ : Rn) (a : Act) (w : World), Region.ready .any ops L = [] → Inv P all i0 pt pc pv tr A0 Af σf ρ0 σ0 w0 L f ρ a w → Q .normal a w := by
  intro L f ρ a w hr hI
  have hall : ∀ i, i < all.length → listed L i := by
    intro i
    induction i using Nat.strongRecOn with
    | _ i ih =>
      intro hi
      apply Classical.byContradiction
      intro hn
      have ho : all[i]? = some all[i] := List.getElem?_eq_getElem hi
      have : i ∈ Region.ready .any ops L := by
        rw [mem_ready]
        refine ⟨?_, all[i], by rw [← ho, ← hops]; simp, fun e he hb => ?_⟩
        · have hiL : i < L.size := by rw [hI.closed.size]; exact hi
          unfold listed at hn
          simp only [Array.getD_eq_getD_getElem?, Array.getElem?_eq_getElem hiL, Option.getD_some] at hn ⊢
          simpa using hn
        · have hlt := hc.less i _ e ho (by simpa using he) hb
          exact ih e.on hlt (by omega)
      rw [hr] at this
      cases this
  obtain ⟨f, ρ, hI, hF⟩ : ∃ f' ρ', Inv P all i0 pt pc pv tr A0 Af σf ρ0 σ0 w0 L f' ρ' a w ∧ (i0 < all.length → i0 < f') := by
    by_cases h : i0 < all.length ∧ f ≤ i0
    · obtain ⟨ρ', hI'⟩ := conv L f ρ a w h.1 h.2 (hall i0 h.1) (fun j o hj _ _ => hall j (List.getElem?_eq_some_iff.1 hj).1) hI
      exact ⟨i0 + 1, ρ', hI', fun _ => Nat.lt_succ_self _⟩
    · exact ⟨f, ρ, hI, fun h' => by omega⟩
  have hsf : (cu tr Af σf all.length).2 = (cu tr Af σf f).2 := IW hgs f all.length (aaL f hI.place) (Nat.le_refl _) (fun j o h1 h2 hj => by
    cases he : effect o.op with
    | false => rfl
    | true =>
      by_cases hji : j = i0
      · subst hji; have := hF h2; omega
      · have := (hI.eff j o hj he hji).1 (hall j h2); omega)
  rw [hend] at hsf
  refine hQ ρ a w (by have := hI.step; rw [← hsf] at this; exact this) ⟨?_, fun t v e => ?_, fun t v e => ?_, hI.defers⟩
  · rw [hI.size]
    have : ∀ i, i ≤ all.length → (cu tr Af σf i).1.size = A0.size := by
      intro i
      induction i with
      | zero => intro _; rw [F9]
      | succ i ih =>
        intro hi
        obtain ⟨v, _, hp⟩ := hvs i _ (List.getElem?_eq_getElem (by omega : i < all.length))
        rw [hp, ← ih (by omega)]
        cases (all[i]).dst <;> rfl
    have h2 := this all.length (Nat.le_refl _)
    rw [hend] at h2
    exact h2.symm
  all_goals
    have hq : a.tmps[t]? = some (ren ρ v) ∧ Sc (cu tr Af σf f).2.dom v := by
      have hb := PE t all.length (Nat.le_refl _)
      rw [hend] at hb
      by_cases hw : ∃ (j : Nat) (o : Oper), all[j]? = some o ∧ o.dst = some t
      · obtain ⟨j, o, hj, hd⟩ := hw
        have hjl := (List.getElem?_eq_some_iff.1 hj).1
        obtain ⟨u, hu, _⟩ := hvs j o hj
        have := hb.2 j o u hjl hj hd hu
        rw [e] at this
        cases hA : A0.get t with
        | none => rw [hA] at this; cases this
        | some x =>
          rw [hA] at this
          injection this with this
          subst this
          exact hI.done j o t v x hj (fun e => hF (e ▸ hjl)) (hall j hjl) hd hu hA
      · have hn : ∀ (j : Nat) (o : Oper), all[j]? = some o → o.dst ≠ some t := fun j o hj hd => hw ⟨j, o, hj, hd⟩
        have := hb.1 (fun j o _ hj => hn j o hj)
        rw [e] at this
        exact hI.todo t v (fun j o hj _ => hn j o hj) this.symm
  · exact hq.1
  · rw [← hsf] at hq; exact hq.2
 intro fuel
 induction fuel with
 | zero =>
  intro L f ρ a w hl hI
  have hr : Region.ready .any ops L = [] := by
    cases hq : Region.ready .any ops L with
    | nil => rfl
    | cons i r =>
      have hi : i ∈ Region.ready .any ops L := by rw [hq]; exact List.mem_cons_self ..
      rw [mem_ready] at hi
      obtain ⟨h1, o, ho, _⟩ := hi
      have hmem : i ∈ (List.range L.size).filter fun i => !L.getD i true := by
        rw [List.mem_filter, List.mem_range]
        refine ⟨?_, by rw [h1]; rfl⟩
        rw [hI.closed.size, ← hops, Array.length_toList]
        exact (Array.getElem?_eq_some_iff.1 ho).1
      have := List.length_pos_of_mem hmem
      unfold left at hl
      omega
  exact ⟨hr, fin L f ρ a w hr hI⟩
 | succ fuel ih =>
  intro L f ρ a w hl hI
  refine ⟨fun hr => fin L f ρ a w hr hI, fun i hi => ?_⟩
  rw [mem_ready] at hi
  obtain ⟨hun, o, X7, J8⟩ := hi
  have ho : all[i]? = some o := by rw [← hops]; simpa using X7
  have hil := (List.getElem?_eq_some_iff.1 ho).1
  have hiL : i < L.size := by rw [hI.closed.size]; exact hil
  have hnl : ¬ listed L i := by
    unfold listed
    simp only [Array.getD_eq_getD_getElem?, Array.getElem?_eq_getElem hiL, Option.getD_some] at hun ⊢
    rw [hun]
    simp
  have ru : ∀ e ∈ o.after.toList, Region.binds .any e = true → listed L e.on := fun e he hb => J8 e (by simpa using he) hb
  obtain ⟨v, hv1, hv2, hv3⟩ := hstep i o ho
  have hvv : (tr[i]?.map (·.2.2)) = some v := by rw [hv1]; rfl
  -- an ancestor stands ahead
  have key : ∀ k m (x : Oper), all[k]? = some x → wH (fA 0 (iG [] all) k) m = true → m < k := by
    intro k
    induction k using Nat.strongRecOn with
    | _ k ihk =>
      intro m x hx hb
      obtain ⟨e, he, hbd, hm⟩ := hc.anc k x m hx hb
      have hlt := hc.less k x e hx he hbd
      rcases hm with rfl | hm
      · exact hlt
      · obtain ⟨x', hx'⟩ : ∃ x', all[e.on]? = some x' := ⟨_, List.getElem?_eq_getElem (by have := (List.getElem?_eq_some_iff.1 hx).1; omega)⟩
        have := ihk e.on hlt m x' hx' hm
        omega
  obtain ⟨f, ρ, hI, hF⟩ : ∃ f' ρ', Inv P all i0 pt pc pv tr A0 Af σf ρ0 σ0 w0 L f' ρ' a w ∧ ((effect o.op = true ∨ ∃ x0 d0, all[i0]? = some x0 ∧ x0.dst = some d0 ∧ d0 ∈ looks all o) → i ≠ i0 → i0 < i → i0 < f') := by
    by_cases h : (effect o.op = true ∨ ∃ x0 d0, all[i0]? = some x0 ∧ x0.dst = some d0 ∧ d0 ∈ looks all o) ∧ i ≠ i0 ∧ i0 < i ∧ f ≤ i0
    · obtain ⟨h1, h2, h3, h4⟩ := h
      have hlt : i0 < all.length := by omega
      have ho0 : all[i0]? = some all[i0] := List.getElem?_eq_getElem hlt
      obtain ⟨d, hop, _, hdst, hfl⟩ := hc.float _ ho0
      have he0 : effect (all[i0]).op = true := by
        cases hq : (all[i0]).op <;> rw [hq] at hop <;> first | rfl | cases hop
      cases heo : effect o.op with
      | true =>
        obtain ⟨ρ', hI'⟩ := conv L f ρ a w hlt h4 (jf hc hI.closed i i0 o ho (.inr ru) (hc.chain i i0 o _ ho ho0 h3 h2 heo he0)).1
          (fun j x hj hx hji => (jf hc hI.closed i j o ho (.inr ru) (hc.chain i j o x ho hj (by omega) h2 heo hx)).1) hI
        exact ⟨i0 + 1, ρ', hI', fun _ _ _ => Nat.lt_succ_self _⟩
      | false =>
        rcases h1 with h1 | ⟨x0, d0, hx0, hd0, hl0⟩
        · rw [heo] at h1; cases h1
        rw [ho0] at hx0
        injection hx0 with hx0
        subst hx0
        rw [hdst] at hd0
        injection hd0 with hd0
        subst hd0
        have hb : wH (fA 0 (iG [] all) i) i0 = true := by
          rcases hc.look i i0 o _ d ho ho0 h2 hdst hl0 with q | q
          · exact q.2
          · have := key i0 i _ ho0 q; omega
        obtain ⟨ρ', hI'⟩ := conv L f ρ a w hlt h4 (jf hc hI.closed i i0 o ho (.inr ru) hb).1
          (fun j x hj hx hji => (jf hc hI.closed i j o ho (.inr ru) (hfl i o ho heo hl0 j x hj hx hji)).1) hI
        exact ⟨i0 + 1, ρ', hI', fun _ _ _ => Nat.lt_succ_self _⟩
    · exact ⟨f, ρ, hI, fun h1 h2 h3 => by
        apply Classical.byContradiction
        intro h4
        exact h ⟨h1, h2, h3, by omega⟩⟩
  -- what a temporary that it looks at is
  have hlook : ∀ t, t ∈ looks all o → ∀ u, (cu tr Af σf i).1.get t = some u → a.tmps[t]? = some (ren ρ u) ∧ Sc (cu tr Af σf f).2.dom u := fun t ht u hu => by
    have hb := PE t i (by omega)
    by_cases hw : ∃ (j : Nat) (x : Oper), j < i ∧ all[j]? = some x ∧ x.dst = some t
    · obtain ⟨j, x, hji, hj, hd⟩ := hw
      obtain ⟨y, hy, _⟩ := hvs j x hj
      have := hb.2 j x y hji hj hd hy
      rw [hu] at this
      cases hA : A0.get t with
      | none => rw [hA] at this; cases this
      | some z =>
        rw [hA] at this
        injection this with this
        subst this
        rcases hc.look i j o x t ho hj (by omega) hd ht with h | h
        · refine hI.done j x t u z hj (fun e => ?_) (jf hc hI.closed i j o ho (.inr ru) h.2).1 hd hy hA
          subst e
          exact hF (.inr ⟨x, t, hj, hd, ht⟩) (by omega) hji
        · have := key j i x hj h
          omega
    · have hn : ∀ (j : Nat) (x : Oper), j < i → all[j]? = some x → x.dst ≠ some t := fun j x h1 h2 h3 => hw ⟨j, x, h1, h2, h3⟩
      have := hb.1 hn
      rw [hu] at this
      refine hI.todo t u (fun j x hj hlj hd => ?_) this.symm
      have hji : j ≠ i := fun e => hnl (e ▸ hlj)
      by_cases hlt : j < i
      · exact hn j x hlt hj hd
      · rcases hc.look i j o x t ho hj (Ne.symm hji) hd ht with h | h
        · omega
        · exact hnl (jf hc hI.closed j i x hj (.inl hlj) h).1
  have hE : HE ρ (cu tr Af σf f).2 (cu tr Af σf i).1 a o.op.operands.toList := fun x hx u hu => by
    cases x with
    | tmp t =>
      have hu : (cu tr Af σf i).1.get t = some u := hu
      obtain ⟨h1, h2⟩ := hlook t (by
        unfold looks
        exact List.mem_append_left _ (List.mem_filterMap.2 ⟨.tmp t, hx, rfl⟩)) u hu
      refine ⟨?_, h2⟩
      show a.tmps.getD t undef = _
      simp [h1]
    | const c =>
      simp only [ev] at hu
      split at hu
      · rename_i hf
        injection hu with hu
        subst hu
        exact ⟨(gJ hf ρ).symm, (gJ hf).sc _⟩
      · cases hu
    | func g =>
      simp only [ev] at hu
      injection hu with hu
      subst hu
      exact ⟨by rw [jG]; simp [Act.eval], Iy (fun v hv => by cases hv) (fun v hv => by cases hv)⟩
    | global g => cases hu
  have hG : ∀ g b x d u, o.guard = some (g, b) → all[g]? = some x → x.dst = some d → (cu tr Af σf i).1.get d = some u → a.tmps[d]? = some (ren ρ u) := fun g b x d u h1 h2 h3 h4 =>
    (hlook d (by
      unfold looks
      refine List.mem_append_right _ ?_
      rw [h1]
      simp only [h2, h3]
      simp) u h4).1
  -- the rest, behind it
  have go : ∀ f' σ', i ≠ i0 → (i0 < f' → i0 < all.length → listed (L.setIfInBounds i true) i0) → (i0 < f' → i0 < f) → (f' ≤ i0 → f ≤ i0) → (cu tr Af σf f').2 = σ' → f' ∈ places all → (∀ j x, all[j]? = some x → effect x.op = true → j ≠ i0 → (listed (L.setIfInBounds i true) j ↔ j < f')) → Gd P all (cu tr Af σf i).1 (cu tr Af σf f).2 o v σ' → wpOp P ops Q i (wpAny P .any ops Q fuel (L.setIfInBounds i true)) a w := by
    intro f' σ' hne0 afV FY hfs hf' hpl heff hg
    unfold wpOp
    rw [X7]
    refine Z5 (Q := Q) hops hI.step.rel hE hG hg (fun ρ' w' hst hs => ?_)
    refine ih _ f' ρ' _ _ ?_ ?_
    · -- one less is left
      have : left (L.setIfInBounds i true) < left L := by
        unfold left
        rw [Array.size_setIfInBounds]
        refine yT _ (fun x _ hx => ?_) ⟨i, List.mem_range.2 hiL, by rw [hun]; rfl, ?_⟩
        · by_cases e : i = x
          · subst e; simp [hiL] at hx
          · rw [getD_set_ne true e] at hx; exact hx
        · simp [hiL]
      omega
    · have hput : ∀ t u, o.dst ≠ some t → a.tmps[t]? = some u → (a.put o.dst (ren ρ' v)).tmps[t]? = some u := fun t u hne ht => by
        cases hd : o.dst with
        | none => exact ht
        | some d =>
          rw [hd] at hne
          simp only [Act.put]
          rw [Array.getElem?_setIfInBounds_ne (fun e => hne (by rw [e]))]
          exact ht
      subst hf'
      refine ⟨⟨by rw [Array.size_setIfInBounds]; exact hI.closed.size, fun j x hj hlj e he hb => ?_⟩, hpl, heff, afV, hI.step.trans hst, ?_, ?_, fun j x t u z hj hq0 hlj hd hu hA => ?_, fun t u hn hA => ?_, fun hl0 hf0 o0 d0 u0 ho0 hd0 hA0 => ?_⟩
      · rw [fH hI.closed ho] at hlj ⊢
        rcases hlj with rfl | hlj
        · rw [ho] at hj
          injection hj with hj
          subst hj
          exact .inr (ru e he hb)
        · exact .inr (hI.closed.closed j x hj hlj e he hb)
      · rw [← hI.size]; cases o.dst <;> simp [Act.put]
      · rw [← hI.defers]; cases o.dst <;> rfl
      · rw [fH hI.closed ho] at hlj
        by_cases hji : j = i
        · subst hji
          rw [ho] at hj
          injection hj with hj
          subst hj
          rw [hvv] at hu
          injection hu with hu
          subst hu
          refine ⟨?_, hs⟩
          rw [hd]
          simp only [Act.put]
          have ht : t < a.tmps.size := by
            rw [hI.size]
            unfold Fr.get at hA
            split at hA
            ·rename_i hb; exact Nat.le_of_ble_eq_true hb
            ·cases hA
          simp [ht]
        · have hlj := hlj.resolve_left hji
          obtain ⟨h1, h2⟩ := hI.done j x t u z hj (fun e => FY (hq0 e)) hlj hd hu hA
          have hne : o.dst ≠ some t := hc.once i j o x t ho hj (Ne.symm hji) hd
          refine ⟨hput t _ hne ?_, hst.sc h2⟩
          rw [hst.ren h2]
          exact h1
      · have hne : o.dst ≠ some t := hn i o ho ((fH hI.closed ho i).2 (.inl rfl))
        obtain ⟨h1, h2⟩ := hI.todo t u (fun j x hj hlj => hn j x hj ((fH hI.closed ho j).2 (.inr hlj))) hA
        refine ⟨hput t _ hne ?_, hst.sc h2⟩
        rw [hst.ren h2]
        exact h1
      · rw [fH hI.closed ho] at hl0
        have hl0 := hl0.resolve_left (Ne.symm hne0)
        obtain ⟨b, htm, hbk, acz, acA, hnew⟩ := hI.side hl0 (hfs hf0) o0 d0 u0 ho0 hd0 hA0
        have hblt := (Array.getElem?_eq_some_iff.1 hbk).1
        refine ⟨b, hput d0 _ (fun e => hc.once i0 i o0 o d0 ho0 ho (Ne.symm hne0) e hd0) htm, ?_, fun x hx => hst.sc (acz x hx), fun k hk => ?_, hnew⟩
        · rw [hst.same b hblt acA, hbk]
          have : pc.map (ren ρ') = pc.map (ren ρ) := List.map_congr_left fun x hx => hst.ren (acz x hx)
          rw [this]
        · rcases hst.came k hk with h | ⟨j, hj, e⟩
          · omega
          · rw [← e]; exact acA j hj
  cases heo : effect o.op with
  | true =>
   by_cases hii : i = i0
   · -- the variable that is made whenever it comes up
    have ajh : f ≤ i0 := by
      rcases Nat.lt_or_ge i0 f with h | h
      · exact absurd (hii ▸ hI.fl h (by omega)) hnl
      · exact h
    obtain ⟨d, hop, hgd, hdst, _⟩ := hc.float o (hii ▸ ho)
    obtain ⟨hp1, hp2, hp3⟩ := hpush o (hii ▸ ho)
    rw [hii] at hvv
    rw [hvv] at hp2
    injection hp2 with hp2
    rw [← hii] at hp1 hp3
    have X8 : ∀ c, o.op ≠ .call c := fun c e => by rw [e] at hop; cases hop
    have hv2 : kQ P (cu tr Af σf i).1 (cu tr Af σf i).2 o = some (v, (cu tr Af σf (i + 1)).2) := by
      unfold Gd eY at hv2
      rw [hgd] at hv2
      simp only at hv2
      unfold X4 at hv2
      split at hv2
      · rename_i c hc'; exact absurd hc' (X8 c)
      · exact hv2
    obtain ⟨t1, z1, cs1, q1, q2, q3, q4⟩ := push_inv hop hv2
    have hpp : (⟨1, t1, z1, cs1⟩ : fZ) = ⟨1, pt, pz, pc⟩ := by
      have : ((cu tr Af σf i).2.push ⟨1, t1, z1, cs1⟩).get (cu tr Af σf i).2.next = ((cu tr Af σf i).2.push ⟨1, pt, pz, pc⟩).get (cu tr Af σf i).2.next := by rw [← q1, ← hp1]
      simpa [AW.push, AW.get_up, AW.get_set] using this
    injection hpp with _ e1 e3 e2
    subst e1 e2 e3
    obtain ⟨u, hu1, hu2, hu3⟩ := q3 (cu tr Af σf f).2
    have hsc1 := q4 hE
    obtain ⟨ρ', w', nx, hrun, hnv, hst, hsu⟩ := Ey hI.step.rel hE hu1
    obtain ⟨afX, hblk, hnew⟩ := J7 hI.step.rel hsc1 hst
    have hnv : nx = .value (ren ρ' u) := by
      rcases hnv with h | ⟨_, h⟩
      · exact h
      · rw [h] at hu2
        rcases hu2 with h | ⟨_, _, h⟩ <;> (unfold undef at h; cases h)
    have hru : ren ρ' u = ren (fun _ => ⟨(ρ' (cu tr Af σf f).2.next).1, 0, 0⟩) pv := by
      rw [Py hu2 rfl (hst.rel.ro.1 _ (by unfold AW.live; rw [AW.push, AW.get_up, AW.get_set, if_pos rfl]; exact ⟨by simp, by simp⟩)), hu3, hp2]
    rw [hnv, hru] at hrun
    have hwant : Region.wanted o (yielded ops a.tmps) = true := by unfold Region.wanted; rw [hgd]
    unfold wpOp
    rw [X7]
    simp only [hwant, if_true]
    refine .inl ?_
    unfold Oper.wp
    rw [hrun]
    show wpAny P .any ops Q fuel (L.setIfInBounds i true) (a.put o.dst (ren (fun _ => ⟨(ρ' (cu tr Af σf f).2.next).1, 0, 0⟩) pv)) w'
    have hleft : left (L.setIfInBounds i true) < left L := by
      unfold left
      rw [Array.size_setIfInBounds]
      refine yT _ (fun x _ hx => ?_) ⟨i, List.mem_range.2 hiL, by rw [hun]; rfl, ?_⟩
      · by_cases e : i = x
        · subst e; simp [hiL] at hx
        · rw [getD_set_ne true e] at hx; exact hx
      · simp [hiL]
    have hput : ∀ t u0, o.dst ≠ some t → a.tmps[t]? = some u0 → (a.put o.dst (ren (fun _ => ⟨(ρ' (cu tr Af σf f).2.next).1, 0, 0⟩) pv)).tmps[t]? = some u0 := fun t u0 hne ht => by
      rw [hdst] at hne ⊢
      simp only [Act.put]
      rw [Array.getElem?_setIfInBounds_ne (fun e => hne (by rw [e]))]
      exact ht
    refine ih _ f ρ _ _ (by omega) ⟨⟨by rw [Array.size_setIfInBounds]; exact hI.closed.size, fun j x hj hlj e he hb => ?_⟩, hI.place, fun j x hj hx hne => ?_, fun h => by omega, hI.step.trans afX, ?_, ?_, fun j x tt y zz hj hq0 hlj hd hu hA => ?_, fun tt y hn hA => ?_, fun _ _ o0 d0 u0 ho0 hd0 hA0 => ?_⟩
    · rw [fH hI.closed ho] at hlj ⊢
      rcases hlj with rfl | hlj
      · rw [ho] at hj
        injection hj with hj
        subst hj
        exact .inr (ru e he hb)
      · exact .inr (hI.closed.closed j x hj hlj e he hb)
    · rw [fH hI.closed ho, ← hI.eff j x hj hx hne]
      exact ⟨fun h => h.resolve_left (fun e => hne (e.trans hii)), .inr⟩
    · rw [← hI.size, hdst]; simp [Act.put]
    · rw [← hI.defers, hdst]; rfl
    · have hji : j ≠ i := fun e => by have := hq0 (e.trans hii); omega
      rw [fH hI.closed ho] at hlj
      obtain ⟨h1, h2⟩ := hI.done j x tt y zz hj hq0 (hlj.resolve_left hji) hd hu hA
      exact ⟨hput tt _ (hc.once i j o x tt ho hj (Ne.symm hji) hd) h1, h2⟩
    · have hne : o.dst ≠ some tt := hn i o ho ((fH hI.closed ho i).2 (.inl rfl))
      obtain ⟨h1, h2⟩ := hI.todo tt y (fun j x hj hlj => hn j x hj ((fH hI.closed ho j).2 (.inr hlj))) hA
      exact ⟨hput tt _ hne h1, h2⟩
    · rw [← hii, ho] at ho0
      injection ho0 with ho0
      subst ho0
      rw [hdst] at hd0
      injection hd0 with hd0
      subst hd0
      refine ⟨(ρ' (cu tr Af σf f).2.next).1, ?_, hblk, hsc1, fun k hk => ?_, Nat.le_trans hI.step.size hnew⟩
      · rw [hdst]
        simp only [Act.put]
        have ht : d < a.tmps.size := by
          rw [hI.size]
          unfold Fr.get at hA0
          split at hA0
          · rename_i hb; exact Nat.le_of_ble_eq_true hb
          · cases hA0
        simp [ht]
      · have := (hI.step.rel.blk k hk).lt
        omega
   · have hfi : f ≤ i := by
       rcases Nat.lt_or_ge i f with h | h
       · exact absurd ((hI.eff i o ho heo hii).2 h) hnl
       · exact h
     have hsame : (cu tr Af σf i).2 = (cu tr Af σf f).2 := IW hgs f i hfi (by omega) (fun j x h1 h2 hj => by
       cases hx : effect x.op with
       | false => rfl
       | true =>
         have hb := hc.chain i j o x ho hj h2 hii heo hx
         by_cases hj0 : j = i0
         · have := hF (.inl heo) hii (by omega); omega
         · have := (hI.eff j x hj hx hj0).1 (jf hc hI.closed i j o ho (.inr ru) hb).1
           omega)
     refine go (i + 1) _ hii (fun h1 h2 => ?_) (fun h => hF (.inl heo) hii (by omega)) (fun h => by omega) rfl ?_ (fun j x hj hx hj0 => ?_) (by rw [← hsame]; exact hv2)
     · have ho0 : all[i0]? = some all[i0] := List.getElem?_eq_getElem h2
       obtain ⟨d, hop, _⟩ := hc.float _ ho0
       exact (fH hI.closed ho i0).2 (.inr (jf hc hI.closed i i0 o ho (.inr ru) (hc.chain i i0 o _ ho ho0 (by omega) hii heo (by cases hq : (all[i0]).op <;> rw [hq] at hop <;> first | rfl | cases hop))).1)
     · unfold places
       refine List.mem_cons_of_mem _ (List.mem_filterMap.2 ⟨(o, i), ?_, by simp [heo]⟩)
       rw [List.mem_iff_getElem?]
       exact ⟨i, by simp [ho]⟩
     · rw [fH hI.closed ho]
       constructor
       · rintro (rfl | h)
         · omega
         · have := (hI.eff j x hj hx hj0).1 h; omega
       · intro h
         by_cases e : j = i
         · exact .inl e
         · exact .inr (jf hc hI.closed i j o ho (.inr ru) (hc.chain i j o x ho hj (by omega) hii heo hx)).1
  | false =>
    have hmay : Pq all (iG [] all) i0 i f = true := by
      unfold Pq
      rw [List.all_eq_true]
      rintro ⟨x, j⟩ hxj
      rw [List.mem_iff_getElem?] at hxj
      obtain ⟨k, hk⟩ := hxj
      have hj : all[j]? = some x := by
        simp only [List.getElem?_zipIdx, Option.map_eq_some_iff, Prod.mk.injEq] at hk
        obtain ⟨y, hy, rfl, rfl⟩ := hk
        simpa using hy
      simp only [Bool.or_eq_true, Bool.not_eq_true', Bool.and_eq_true, decide_eq_true_eq, beq_iff_eq]
      cases hx : effect x.op with
      | false => exact .inl (.inl rfl)
      | true =>
        by_cases hj0 : j = i0
        · exact .inl (.inr hj0)
        refine .inr ⟨?_, ?_⟩
        · cases hb : wH (fA 0 (iG [] all) i) j with
          | false => exact .inl rfl
          | true => exact .inr ((hI.eff j x hj hx hj0).1 (jf hc hI.closed i j o ho (.inr ru) hb).1)
        · cases hb : wH (fA 0 (iG [] all) j) i with
          | false => exact .inl rfl
          | true =>
            right
            rcases Nat.lt_or_ge j f with h | h
            ·exact absurd (jf hc hI.closed j i x hj (.inl ((hI.eff j x hj hx hj0).2 h)) hb).1 hnl
            ·exact h
    have est : yh tr σf f = (cu tr Af σf f).2 := by
      unfold cu yh
      cases tr[f]? with
      | none => rfl
      | some p => rfl
    have hgf := hcalm i o _ _ v ho hv1 heo f hI.place hmay
    rw [est] at hgf
    have hne0 : i ≠ i0 := fun e => by
      obtain ⟨d, hop, _⟩ := hc.float o (e ▸ ho)
      cases hq : o.op <;> rw [hq] at hop heo <;> first | cases hop; done | cases heo
    refine go f _ hne0 (fun h1 h2 => (fH hI.closed ho i0).2 (.inr (hI.fl h1 h2))) id id rfl hI.place (fun j x hj hx hj0 => ?_) hgf
    rw [fH hI.closed ho, hI.eff j x hj hx hj0]
    constructor
    · rintro (rfl | h)
      · rw [ho] at hj
        injection hj with hj
        subst hj
        rw [heo] at hx
        cases hx
      · exact h
    · exact .inr
end
section
variable {P : Program} {call : J5} {Q : Exit → Act → World → Prop}
theorem NC {md : Region.Mode} {ops ops' : Array Oper} {n : Nat} {f g : Nat → Nat} (hn : ops.size = n) (hn' : ops'.size = n) (hf : ∀ i, i < n → f i < n ∧ g (f i) = i) (hg : ∀ i, i < n → g i < n ∧ f (g i) = i)
  (J8 : ∀ (i : Nat) (o : Oper), ops[i]? = some o → (∀ e ∈ o.after, e.on < n) ∧ ∀ p, o.guard = some p → p.1 < n)
  (h : ∀ (i : Nat) (o : Oper), ops[i]? = some o → ops'[f i]? = some (uN f o)) :
  ∀ (fuel : Nat) (L L' : Array Bool) (a : Act) (w : World), L.size = n → L'.size = n → (∀ i, i < n → L'.getD (f i) true = L.getD i true) → wpAny P md ops' Q fuel L' a w → wpAny P md ops Q fuel L a w := by
 have hinj : ∀ i j, i < n → j < n → f i = f j → i = j := fun i j hi hj e => by
  have := (hf i hi).2
  rw [e, (hf j hj).2] at this
  exact this.symm
 have hmem : ∀ (L L' : Array Bool), L.size = n → L'.size = n → (∀ i, i < n → L'.getD (f i) true = L.getD i true) → ∀ i, i ∈ Region.ready md ops L → f i ∈ Region.ready md ops' L' := by
  intro L L' h1 h2 h3 i hi
  rw [mem_ready] at hi ⊢
  obtain ⟨hl, o, ho, he⟩ := hi
  have hin : i < n := hn ▸ (Array.getElem?_eq_some_iff.1 ho).1
  refine ⟨by rw [h3 i hin]; exact hl, _, h i o ho, fun e he' hb => ?_⟩
  simp only [uN, Array.mem_map] at he'
  obtain ⟨e0, he0, rfl⟩ := he'
  have hlt := (J8 i o ho).1 e0 he0
  have := he e0 he0 hb
  have h4 := h3 e0.on hlt
  have hL : e0.on < L.size := by omega
  have hL' : f e0.on < L'.size := by have := (hf _ hlt).1; omega
  simp only [Array.getD_eq_getD_getElem?, Array.getElem?_eq_getElem hL, Array.getElem?_eq_getElem hL', Option.getD_some] at this h4 ⊢
  rw [h4]; exact this
 have hnil : ∀ (L L' : Array Bool), L.size = n → L'.size = n → (∀ i, i < n → L'.getD (f i) true = L.getD i true) → Region.ready md ops L = [] → Region.ready md ops' L' = [] := by
  intro L L' h1 h2 h3 hr
  cases hq : Region.ready md ops' L' with
  | nil => rfl
  | cons j r =>
   have hj : j ∈ Region.ready md ops' L' := by rw [hq]; exact List.mem_cons_self ..
   rw [mem_ready] at hj
   obtain ⟨hl, o, ho, he⟩ := hj
   have hjn : j < n := hn' ▸ (Array.getElem?_eq_some_iff.1 ho).1
   have hgn := hg j hjn
   have ho2 : ops[g j]? = some ops[g j] := Array.getElem?_eq_getElem (by omega)
   have e2 := h _ _ ho2
   rw [hgn.2, ho] at e2
   injection e2 with e2
   have : g j ∈ Region.ready md ops L := by
    rw [mem_ready]
    refine ⟨by rw [← h3 (g j) hgn.1, hgn.2]; exact hl, _, ho2, fun e he' hb => ?_⟩
    have hlt := (J8 _ _ ho2).1 e he'
    have := he { e with on := f e.on } (by rw [e2]; exact Array.mem_map.2 ⟨e, he', rfl⟩) hb
    have h4 := h3 e.on hlt
    have hL : e.on < L.size := by omega
    have hL' : f e.on < L'.size := by have := (hf _ hlt).1; omega
    simp only [Array.getD_eq_getD_getElem?, Array.getElem?_eq_getElem hL, Array.getElem?_eq_getElem hL', Option.getD_some] at this h4 ⊢
    rw [← h4]; exact this
   rw [hr] at this
   cases this
 intro fuel
 induction fuel with
 | zero =>
  intro L L' a w h1 h2 h3 hw
  refine ⟨?_, hw.2⟩
  cases hq : Region.ready md ops L with
  | nil => rfl
  | cons i r =>
   have := hmem L L' h1 h2 h3 i (by rw [hq]; exact List.mem_cons_self ..)
   rw [hw.1] at this
   cases this
 | succ fuel ih =>
  intro L L' a w h1 h2 h3 hw
  refine ⟨fun hr => hw.1 (hnil L L' h1 h2 h3 hr), fun i hi => ?_⟩
  have hi' := hmem L L' h1 h2 h3 i hi
  have := hw.2 _ hi'
  rw [mem_ready] at hi
  obtain ⟨_, o, ho, _⟩ := hi
  have hin : i < n := hn ▸ (Array.getElem?_eq_some_iff.1 ho).1
  have hK : ∀ a w, wpAny P md ops' Q fuel (L'.setIfInBounds (f i) true) a w → wpAny P md ops Q fuel (L.setIfInBounds i true) a w := fun a w hk => by
   refine ih _ _ a w (by simpa using h1) (by simpa using h2) (fun j hj => ?_) hk
   have hfi := (hf i hin).1
   by_cases e : i = j
   ·subst e
    have q1 : i < L.size := by omega
    have q2 : f i < L'.size := by omega
    simp [q1, q2]
   ·have e' : f i ≠ f j := fun q => e (hinj i j hin hj q)
    rw [getD_set_ne true e, getD_set_ne true e']
    exact h3 j hj
  unfold wpOp at this ⊢
  rw [ho]
  rw [h i o ho] at this
  simp only at this ⊢
  have hy : Region.wanted (uN f o) (yielded ops' a.tmps) = Region.wanted o (yielded ops a.tmps) := by
   unfold Region.wanted uN
   cases hgd : o.guard with
   | none => rfl
   | some p =>
    obtain ⟨j, b⟩ := p
    have hj := (J8 i o ho).2 (j, b) hgd
    have hoj : ops[j]? = some ops[j] := Array.getElem?_eq_getElem (by simp only at hj; omega)
    simp only [Option.map_some, yielded, h _ _ hoj, hoj, Option.bind_some, uN]
  rw [hy] at this
  have he : execOp a.eval (uN f o) = execOp a.eval o := rfl
  split
  ·rename_i hwant
   rw [if_pos hwant] at this
   rcases this with this | this
   ·left
    have h5 : o.wp P a w (wpAny P md ops' Q fuel (L'.setIfInBounds (f i) true)) Q := this
    exact Oper.wp_mono hK h5
   ·right
    exact this
  ·rename_i hwant
   rw [if_neg hwant] at this
   exact hK _ _ this
theorem J9 {ops : Array Oper} {tr : List (Fr × AW × Value)} {A A' : Fr} {σ σ' : AW} (hok : yC ops.toList = true) (FY : kX ops.toList (dP ops.toList (iG [] ops.toList)) A = true) (htr : EC P ops.toList tr A A' σ σ')
  (hcalm : Pz P ops.toList (iG [] ops.toList) (dP ops.toList (iG [] ops.toList)) tr σ') {ρ : Rn} {a : Act} {w : World} (hR : Rel ρ σ w) (hT : TR ρ σ A a)
  (hQ : ∀ ρ' a' w', Step ρ σ w ρ' σ' w' → TR ρ' σ' A' a' → Q .normal a' w') : wpAny P .any ops Q ops.size (Array.replicate ops.size false) a { w with drawn := w.drawn + 1 } := by
 obtain ⟨hlen, F9, hstep⟩ := htr
 have hI : ∀ pt pc pv, Inv P ops.toList (dP ops.toList (iG [] ops.toList)) pt pc pv tr A A' σ' ρ σ w (Array.replicate ops.size false) 0 ρ a { w with drawn := w.drawn + 1 } := fun pt pc pv => by
  have hno : ∀ j, ¬ listed (Array.replicate ops.size false) j := fun j hj => by
   unfold listed at hj
   by_cases hlt : j < ops.size
   ·simp [hlt] at hj
   ·simp [hlt] at hj
  have hs0 : (cu tr A' σ' 0).2 = σ := by rw [F9]
  exact ⟨⟨by simp, fun i o _ hl => absurd hl (hno i)⟩, List.mem_cons_self .., fun j o _ _ _ => ⟨fun hl => absurd hl (hno j), fun hl => absurd hl (Nat.not_lt_zero _)⟩, fun h => absurd h (Nat.not_lt_zero _), by rw [hs0]; exact Step.drew hR, hT.size, hT.defers,
   fun j o t v u _ _ hl => absurd hl (hno j), fun t v _ hA => ⟨hT.tmps t v hA, by rw [hs0]; exact hT.sc t v hA⟩, fun hl => absurd hl (hno _)⟩
 have hleft : left (Array.replicate ops.size false) ≤ ops.size := by
  unfold left
  refine Nat.le_trans (List.length_filter_le _ _) ?_
  simp
 have hc := X5 hok
 have hfit : ∀ o : Oper, ops.toList[dP ops.toList (iG [] ops.toList)]? = some o → ∀ d, o.dst = some d → ∃ u, A.get d = some u := fun o ho d hd => by
  unfold kX at FY
  rw [ho] at FY
  simp only [hd] at FY
  exact Option.isSome_iff_exists.1 FY
 cases hq : ops.toList[dP ops.toList (iG [] ops.toList)]? with
 | none => exact PD (pt := 0) (pz := 0) (pc := []) (pv := undef) rfl hc (fun q hq => (hR.glob q hq).1) (fun k hk => ⟨(hR.ro.2 k hk).1, fun h => ((hR.ro.2 k hk).2.1 h).1⟩) hfit ⟨hlen, F9, hstep⟩ hcalm (fun o ho => by rw [hq] at ho; cases ho) hQ ops.size _ 0 ρ a _ hleft (hI _ _ _)
 | some o =>
  obtain ⟨v, hv1, hv2, hv3⟩ := hstep _ o hq
  obtain ⟨d, hop, hgd, hdst, _⟩ := hc.float o hq
  have hv2 : kQ P (cu tr A' σ' (dP ops.toList (iG [] ops.toList))).1 (cu tr A' σ' (dP ops.toList (iG [] ops.toList))).2 o = some (v, (cu tr A' σ' (dP ops.toList (iG [] ops.toList) + 1)).2) := by
   unfold Gd eY at hv2
   rw [hgd] at hv2
   simp only at hv2
   unfold X4 at hv2
   split at hv2
   ·rename_i c hc'; rw [hc'] at hop; cases hop
   ·exact hv2
  obtain ⟨t1, z1, cs1, q1, q2, _, _⟩ := push_inv hop hv2
  refine PD (pt := t1) (pz := z1) (pc := cs1) (pv := v) rfl hc (fun q hq => (hR.glob q hq).1) (fun k hk => ⟨(hR.ro.2 k hk).1, fun h => ((hR.ro.2 k hk).2.1 h).1⟩) hfit ⟨hlen, F9, hstep⟩ hcalm (fun o' ho => ?_) hQ ops.size _ 0 ρ a _ hleft (hI _ _ _)
  exact ⟨q1, by rw [hv1]; rfl, q2⟩
theorem Ko {l : List Nat} : ∀ {i : Nat}, i < l.length → l[i]? = some (fA 0 l i) := by
 induction l with
 | nil => intro i h; cases h
 | cons x l ih =>
  intro i h
  cases i with
  | zero => rfl
  | succ i => exact ih (by simpa using h)
theorem Us {all : List Oper} {ord : List Nat} (h : Bh all ord = true) : (mV all ord).length = all.length ∧ (∀ i, i < all.length → (fA 0 (nX ord) i < all.length ∧ fA 0 ord (fA 0 (nX ord) i) = i) ∧ (fA 0 ord i < all.length ∧ fA 0 (nX ord) (fA 0 ord i) = i)) ∧
  ∀ (i : Nat) (o : Oper), all[i]? = some o → (mV all ord)[fA 0 (nX ord) i]? = some (uN (fun j => fA 0 (nX ord) j) o) := by
 unfold Bh at h
 simp only [Bool.and_eq_true, List.all_eq_true, List.mem_range, decide_eq_true_eq] at h
 obtain ⟨h1, h2⟩ := h
 have h1 := Nat.eq_of_beq_eq_true h1
 have h3 : ∀ i, i < all.length → (fA 0 (nX ord) i < all.length ∧ fA 0 ord (fA 0 (nX ord) i) = i) ∧ (fA 0 ord i < all.length ∧ fA 0 (nX ord) (fA 0 ord i) = i) := fun i hi => by
  obtain ⟨⟨⟨a, b⟩, c⟩, d⟩ := h2 i hi
  exact ⟨⟨a, Nat.eq_of_beq_eq_true b⟩, d, Nat.eq_of_beq_eq_true c⟩
 have hmem : ∀ x ∈ ord, x < all.length := fun x hx => by
  obtain ⟨i, hi, rfl⟩ := List.mem_iff_getElem.1 hx
  have := (h3 i (by omega)).2.1
  have e := Ko hi
  rw [List.getElem?_eq_getElem hi] at e
  injection e with e
  rw [e]; exact this
 have hmap : mV all ord = ord.map fun i => uN (fun j => fA 0 (nX ord) j) (all.getD i default) := by
  unfold mV
  have hgen : ∀ (F : Nat → Nat) (l : List Nat), (∀ x ∈ l, x < all.length) → l.filterMap (fun i => (all[i]?).map (uN F)) = l.map fun i => uN F (all.getD i default) := by
   intro F l
   induction l with
   | nil => intro _; rfl
   | cons x l ih =>
    intro hm
    have hx := hm x (List.mem_cons_self ..)
    rw [List.map_cons, ← ih (fun y hy => hm y (List.mem_cons_of_mem _ hy)), List.filterMap_cons]
    simp [hx]
  exact hgen _ ord hmem
 refine ⟨by rw [hmap, List.length_map, h1], h3, fun i o hi => ?_⟩
 have hil := (List.getElem?_eq_some_iff.1 hi).1
 obtain ⟨⟨a, b⟩, _⟩ := h3 i hil
 rw [hmap, List.getElem?_map, Ko (by omega), b]
 simp [hi]
theorem QK {ops : Array Oper} {tr : List (Fr × AW × Value)} {A A' : Fr} {σ σ' : AW} {ord : List Nat} {all : List Oper} (hall : mV ops.toList ord = all) (hp : Bh ops.toList ord = true) (hwi : within ops.toList = true) (hok : yC all = true) (FY : kX all (dP all (iG [] all)) A = true) (htr : EC P all tr A A' σ σ')
  (hcalm : Pz P all (iG [] all) (dP all (iG [] all)) tr σ') {ρ : Rn} {a : Act} {w : World} (hR : Rel ρ σ w) (hT : TR ρ σ A a)
  (hQ : ∀ ρ' a' w', Step ρ σ w ρ' σ' w' → TR ρ' σ' A' a' → Q .normal a' w') : wpAny P .any ops Q ops.size (Array.replicate ops.size false) a { w with drawn := w.drawn + 1 } := by
 obtain ⟨h1, h2, h3⟩ := Us hp
 subst hall
 have hd := J9 (ops := (mV ops.toList ord).toArray) hok FY htr hcalm hR hT hQ
 have hsz : (mV ops.toList ord).toArray.size = ops.size := by rw [List.size_toArray, h1, Array.length_toList]
 rw [hsz] at hd
 refine NC (n := ops.size) (f := fun j => fA 0 (nX ord) j) (g := fun j => fA 0 ord j) rfl hsz (fun i hi => (h2 i (by simpa using hi)).1.imp (by simp) id) (fun i hi => (h2 i (by simpa using hi)).2.imp (by simp) id) (fun i o ho => ?_) (fun i o ho => by simpa using h3 i o (by simpa using ho)) _ _ _ a _ (by simp) (by simp) (fun i hi => ?_) hd
 ·unfold within at hwi
  have := List.all_eq_true.1 hwi o (by simpa using Array.mem_of_getElem? ho)
  simp only [Bool.and_eq_true, List.all_eq_true, decide_eq_true_eq, Array.length_toList] at this
  refine ⟨fun e he => this.1 e (by simpa using he), fun p hp => ?_⟩
  have q := this.2
  rw [hp] at q
  simpa using q
 ·have := (h2 i (by simpa using hi)).1.1
  rw [Array.length_toList] at this
  simp [hi, this]
def passes (P : Program) (c : Code) (Q : Exit → Act → World → Prop) : Nat → Code → Act → World → Prop
 | 0, _, _, _ => False
 | n + 1, cur, a, w => cur.wp P (fun e a w => match e with
  | .goto l => ∃ rest, findLabel c l = some rest ∧ passes P c Q n rest a w
  | e => Q e a w) a w
theorem DK {a : Act} {w : World} {c : Code} (n : Nat) (h : passes P c Q n c a w) : (Code.scope c).wp P Q a w := by
 intro b k cs
 have key : ∀ n cur a w, passes P c Q n cur a w → ∃ e a' w', Q e a' w' ∧ Arrives P (lone (b.at a (.code cur :: .inScope c :: k)) cs w) b k cs e a' w' := by
  intro n
  induction n with
  | zero => intro cur a w h; exact h.elim
  | succ n ih =>
   intro cur a w h
   obtain ⟨e, a₁, w₁, hq, harr⟩ := h b (.inScope c :: k) cs
   cases e with
   | normal => exact ⟨.normal, a₁, w₁, hq, Steps.trans harr (.one step_inScope)⟩
   | exit id => exact ⟨.exit id, a₁, w₁, hq, fun k' hk => harr k' (by simp [exitTo, hk])⟩
   | goto l =>
    obtain ⟨rest, hf, hp⟩ := hq
    obtain ⟨e₂, a₂, w₂, hq₂, harr₂⟩ := ih rest a₁ w₁ hp
    exact ⟨e₂, a₂, w₂, hq₂, .of_steps (harr _ (by simp [gotoIn, hf])) harr₂⟩
   | ret => exact ⟨_, a₁, w₁, hq, harr⟩
   | panic ch => exact ⟨_, a₁, w₁, hq, harr⟩
   | outgrown => exact ⟨_, a₁, w₁, hq, harr⟩
 obtain ⟨e, a', w', hq, harr⟩ := key n c a w h
 exact ⟨e, a', w', hq, .of_steps (.one step_scope) harr⟩
def ND (a : Act) : ResultVar → Sem Value
 | .tmp t => pure (a.tmps.getD t undef)
 | .cell x t => do loadVar t (← asAddr (a.tmps.getD x undef))
theorem IX {A : Fr} {σ : AW} {ρ : Rn} {a : Act} {w : World} (hR : Rel ρ σ w) (hT : TR ρ σ A a) {r : ResultVar} {v : Value} (hv : qO P A σ r = some v) : (ND a r).run P w = .ok (ren ρ v) w ∧ Sc σ.dom v := by
 cases r with
 | tmp t =>
  have hv : A.get t = some v := hv
  refine ⟨?_, hT.sc t v hv⟩
  simp [ND, hT.tmps t v hv]
 | cell x t =>
  unfold qO at hv
  simp only at hv
  split at hv
  ·rename_i ad hx
   obtain ⟨q1, q2⟩ := En hR hv
   refine ⟨?_, q2⟩
   have := hT.tmps x _ hx
   rw [dO] at this
   simp [ND, this, asAddr, q1]
  ·cases hv
theorem ED {A : Fr} {σ : AW} {ρ : Rn} {a : Act} {w : World} (hR : Rel ρ σ w) (hT : TR ρ σ A a) : ∀ {l : List ResultVar} {vs : List Value}, kY P A σ l = some vs →
  (l.mapM (ND a)).run P w = .ok (vs.map (ren ρ)) w ∧ ∀ v ∈ vs, Sc σ.dom v
 | [], vs, h => by injection h with h; subst h; exact ⟨rfl, fun v hv => by cases hv⟩
 | r :: l, vs, h => by
  unfold kY at h
  split at h
  ·cases h
  ·rename_i v hv
   split at h
   ·cases h
   ·rename_i us hus
    injection h with h
    subst h
    obtain ⟨h1, h2⟩ := ED hR hT hus
    obtain ⟨q1, q2⟩ := IX hR hT hv
    refine ⟨?_, fun u hu => ?_⟩
    ·rw [List.mapM_cons]
     simp only [Sem.run_bind, q1, Result.andThen_ok, h1, Sem.run_pure, List.map_cons]
    ·cases hu with
     | head => exact q2
     | tail _ hu => exact h2 u hu
theorem QL {fn : Func} {A : Fr} {σ : AW} {ρ : Rn} {a : Act} {w : World} (hR : Rel ρ σ w) (hT : TR ρ σ A a) {vs : List Value} (h : kY P A σ fn.results.toList = some vs) :
  (results fn a.tmps).run P w = .ok (ren ρ (jH vs)) w ∧ Sc σ.dom (jH vs) := by
 obtain ⟨h1, h2⟩ := ED hR hT h
 have hm : (fn.results.mapM (ND a)).run P w = .ok (vs.map (ren ρ)).toArray w := by
  rw [Array.mapM_eq_mapM_toList, Sem.run_map, h1]
  rfl
 have hf : (results fn a.tmps) = (do let vs ← fn.results.mapM (ND a); pure (if h : vs.size = 1 then vs[0] else .tuple vs)) := by
  unfold results
  have : (fun (x : ResultVar) => (match x with | .tmp t => pure (a.tmps.getD t undef) | .cell x t => do loadVar t (← asAddr (a.tmps.getD x undef)) : Sem Value)) = ND a := by
   funext r
   cases r <;> rfl
  rw [← this]
  rfl
 rw [hf]
 simp only [Sem.run_bind, hm, Result.andThen_ok, Sem.run_pure]
 cases vs with
 | nil => exact ⟨by simp [jH, dU], pY (fun v hv => by cases hv)⟩
 | cons v l =>
  cases l with
  | nil => exact ⟨by simp [jH], h2 v (by simp)⟩
  | cons u m => exact ⟨by simp [jH, dU], pY (fun v hv => h2 v (by simpa using hv))⟩
theorem PG {σ : AW} {ρ : Rn} {n : Nat} : ∀ (xs : List Value) (i : Nat) (A : Fr) (tm : Array Value), (∀ x ∈ xs, Sc σ.dom x) → A.size = n → tm.size = n → (∀ t v, A.get t = some v → tm[t]? = some (ren ρ v) ∧ Sc σ.dom v) →
  (A.fill i xs).size = n ∧ ∀ t v, (A.fill i xs).get t = some v → ((xs.zipIdx i).foldl (fun (tm : Array Value) (p : Value × Nat) => tm.setIfInBounds p.2 (ren ρ p.1)) tm)[t]? = some (ren ρ v) ∧ Sc σ.dom v
 | [], i, A, tm, _, hA, _, h => ⟨hA, h⟩
 | x :: xs, i, A, tm, hs, hA, ht, h => by
  refine PG xs (i + 1) (A.set i x) (tm.setIfInBounds i (ren ρ x)) (fun y hy => hs y (List.mem_cons_of_mem _ hy)) hA (by simpa using ht) (fun t v e => ?_)
  rw [Fr.get_set] at e
  by_cases hti : t = i
  ·rw [if_pos hti, Option.map_eq_some_iff] at e
   obtain ⟨u, hu, rfl⟩ := e
   subst hti
   have := (h t u hu).1
   have hlt := (Array.getElem?_eq_some_iff.1 this).1
   exact ⟨by simp [hlt], hs x (List.mem_cons_self ..)⟩
  ·rw [if_neg hti] at e
   rw [Array.getElem?_setIfInBounds_ne (Ne.symm hti)]
   exact h t v e
theorem G5 (f : Value → Value) : ∀ (xs : List Value) (i : Nat) (pre suf : List Value), pre.length = i → xs.length ≤ suf.length →
  (xs.zipIdx i).foldl (fun (tm : Array Value) (p : Value × Nat) => tm.setIfInBounds p.2 (f p.1)) (pre ++ suf).toArray = (pre ++ xs.map f ++ suf.drop xs.length).toArray
 | [], i, pre, suf, _, _ => by simp
 | x :: xs, i, pre, suf, hp, hl => by
  cases suf with
  | nil => simp at hl
  | cons s suf =>
   rw [List.zipIdx_cons, List.foldl_cons]
   have e : (pre ++ s :: suf).toArray.setIfInBounds i (f x) = ((pre ++ [f x]) ++ suf).toArray := by
    simp only [List.setIfInBounds_toArray, List.append_assoc, List.singleton_append]
    congr 1
    rw [List.set_append_right _ _ (by omega), hp, Nat.sub_self]
    rfl
   simp only [e]
   rw [G5 f xs (i + 1) (pre ++ [f x]) suf (by simp [hp]) (by simp at hl; omega)]
   simp
theorem Ut {σ : AW} {ρ : Rn} {n : Nat} {xs : List Value} (hs : ∀ x ∈ xs, Sc σ.dom x) (hl : xs.length ≤ n) : TR ρ σ ((Fr.new n).fill 0 xs) { tmps := (xs.map (ren ρ)).toArray ++ Array.replicate (n - (xs.map (ren ρ)).toArray.size) undef, defers := [] } := by
 have h0 : ∀ t v, (Fr.new n).get t = some v → (Array.replicate n undef)[t]? = some (ren ρ v) ∧ Sc σ.dom v := fun t v e => by
  rw [Fr.get_new] at e
  split at e
  ·rename_i ht
   injection e with e
   subst e
   exact ⟨by rw [qW ρ]; simp [ht], qW.sc _⟩
  ·cases e
 obtain ⟨h1, h2⟩ := PG (ρ := ρ) xs 0 (Fr.new n) (Array.replicate n undef) (n := n) hs rfl (by simp) h0
 have hf := G5 (ren ρ) xs 0 [] (List.replicate n undef) rfl (by simpa using hl)
 have e1 : ([] ++ List.replicate n undef).toArray = Array.replicate n undef := by simp
 rw [e1] at hf
 have e2 : (xs.map (ren ρ)).toArray ++ Array.replicate (n - (xs.map (ren ρ)).toArray.size) undef = ([] ++ xs.map (ren ρ) ++ (List.replicate n undef).drop xs.length).toArray := by
  apply Array.ext'
  simp
 rw [hf] at h2
 exact ⟨by rw [h1, e2]; simp; omega, fun t v e => by rw [e2]; exact (h2 t v e).1, fun t v e => (h2 t v e).2, rfl⟩
end
end Go.Proofs.YthogkmcahnkkoaaGreatDoor
namespace Go.Proofs.YthogkmcahnkkoaaGreatDoor
open Go.RowKit
section
variable {P : Program}
theorem yU {ρ : Rn} {σ : AW} {w w' : World} (h : Rel ρ σ w) (hb : Below w.heap.size w w') : Step ρ σ w ρ σ w' where
 rel := ⟨fun k hk => (h.blk k hk).keep (hb.block _ (h.blk k hk).lt) (h.sc k hk) (fun _ _ => rfl), h.lt, h.inj, h.sc, h.fit, h.glob.next hb.size (fun k hk => .inr ⟨k, hk, rfl⟩) (fun b hb' _ => hb.block b hb'), h.ro.next h.ro.1 (fun _ _ => rfl) (fun _ _ => rfl) (fun _ h => h) (Nat.le_refl _) hb.size (fun k hk => .inr ⟨k, hk, rfl⟩) (fun b hb' _ => hb.block b hb')⟩
 agree := fun _ _ => rfl
 mono := Nat.le_refl _
 kept := fun _ _ => Iff.rfl
 came := fun k hk => .inr ⟨k, hk, rfl⟩
 same := fun b hb' _ => hb.block b hb'
 os := hb.os
 tape := hb.tape
 output := hb.output
 size := hb.size
 ro5 := fun _ _ => rfl
def Uu (w : World) : Prop := ∀ g ∈ globs, g.1 < w.heap.size ∧ zI w g
theorem Uw (ρ : Rn) (w : World) (hw : Uu w) : Rel ρ AW0 w := by
 have hn : ∀ k, (AW0.get k).kind = 0 := fun k => by
  have e : ∀ {α : Type} (d : α) (k : Nat), fA d [] k = d := fun d k => by cases k <;> rfl
  simp [AW.get, AW0, e, eu]
 exact ⟨fun k hk => absurd (hn k) hk.1.1, fun k hk => absurd (hn k) hk.1.1, fun k j hk => absurd (hn k) hk.1.1, fun k hk => absurd (hn k) hk.1.1, fun k _ => hn k, fun q hq => ⟨(hw q hq).1, fun k hk => absurd (hn k) hk.1.1, (hw q hq).2⟩, fun k hk => absurd (hn k) hk.1.1, fun k hk => by rw [hn k] at hk; cases hk⟩
end
end Go.Proofs.YthogkmcahnkkoaaGreatDoor
