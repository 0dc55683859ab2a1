/- Regions whose order Go leaves open, over calls that only make memory, new variables and stores into them: one walk in a chosen order serves every order. No program in sight. -/
import Derived.Lib.QuietBelow
import Derived.Deep.Quiet
import Derived.BigQuiet
namespace Go.Proofs.YtcnbbmgclphfdaaDoor
open Go Go.RowKit Go.Sort

section
variable {P : Program} {ops : Array Oper} {md : Region.Mode} {R R0 : World → Prop} {B : Nat}

/-- The world has only grown (a name of its own, so that no tactic rewrites the heap's size in it). -/
def Gb (w w' : World) : Prop := Below w.heap.size w w'

/-- The operation yields v in the world that it got; or it calls, is handed v, and the world has only grown. -/
def softUpon (P : Program) (w : World) (v : Value) : Result Next → Prop
  | .ok (.value u) w' => w' = w ∧ u = v
  | .ok .skip w' => w' = w ∧ v = undef
  | .ok (.enter f args) w' => w' = w ∧ Calls P f args w (fun e w'' => e = .returned v ∧ Gb w w'')
  | _ => False

/-- One value, in every world of the class. -/
def Soft (P : Program) (R : World → Prop) (o : Oper) (a : Act) (v : Value) : Prop := ∀ w, R w → softUpon P w v ((execOp a.eval o).run P w)
/-- It makes a new block that holds ob; mk: what it yields, of the block's number. -/
def Fresh (P : Program) (R : World → Prop) (o : Oper) (a : Act) (mk : Nat → Value) (ob : Obj) : Prop :=
  ∀ w, R w → (execOp a.eval o).run P w = .ok (.value (mk w.heap.size)) (w.alloc ob)
/-- It writes: the world turns by g, and stays in the wide class. -/
def Hard (P : Program) (R R0 : World → Prop) (o : Oper) (a : Act) (g : World → World) : Prop :=
  ∀ w, R w → (execOp a.eval o).run P w = .ok .skip (g w) ∧ R0 (g w)
/-- Worlds that have grown out of one of the class. -/
def Behind (R : World → Prop) (g : World → World) : World → Prop := fun w' => ∃ w, R w ∧ Below (g w).heap.size (g w) w'
/-- Worlds of the class in which block q holds ob. -/
def With (R : World → Prop) (q : Nat) (ob : Obj) : World → Prop := fun w => R w ∧ w.heap[q]? = some ob

/-- The class is closed under growing. -/
def Grows (R : World → Prop) : Prop := ∀ w w', R w → Below w.heap.size w w' → R w'

theorem Grows.below (w0 : World) : Grows (fun w => Below w0.heap.size w0 w) := fun _ _ h k => h.trans (k.mono h.size)
theorem lt_of_heap {w : World} {q : Nat} {ob : Obj} (h : w.heap[q]? = some ob) : q < w.heap.size := by
  rcases Nat.lt_or_ge q w.heap.size with h' | h'
  · exact h'
  · rw [Array.getElem?_eq_none h'] at h; cases h
theorem Grows.with (hg : Grows R) (q : Nat) (ob : Obj) : Grows (With R q ob) := fun _ _ h k =>
  ⟨hg _ _ h.1 k, by rw [k.block q (lt_of_heap h.2)]; exact h.2⟩
theorem Grows.behind (g : World → World) : Grows (Behind R g) := fun _ _ ⟨w, hw, hb⟩ k => ⟨w, hw, hb.trans (k.mono hb.size)⟩

/-- Operation number i comes up, in every world of the class. -/
def stepN (P : Program) (ops : Array Oper) (R0 : World → Prop) (B : Nat) (i : Nat) (K : Act → (World → Prop) → Prop) (a : Act) (R : World → Prop) : Prop :=
  ∃ o, ops[i]? = some o ∧
    ((Region.wanted o (yielded ops a.tmps) = false ∧ K (a.put o.dst undef) R) ∨
     (Region.wanted o (yielded ops a.tmps) = true ∧
       ((∃ v, Soft P R o a v ∧ K (a.put o.dst v) R) ∨
        (∃ mk ob, Fresh P R o a mk ob ∧ ∀ q, B ≤ q → K (a.put o.dst (mk q)) (With R q ob)) ∨
        (∃ g, Hard P R R0 o a g ∧ K (a.put o.dst undef) (Behind R g)))))

/-- Whatever order is picked from here on. -/
def ordN (P : Program) (md : Region.Mode) (ops : Array Oper) (R0 : World → Prop) (B : Nat) (Q : Act → World → Prop) : Nat → Array Bool → Act → (World → Prop) → Prop
  | 0, listed, a, R => Region.ready md ops listed = [] ∧ ∀ w, R w → Q a w
  | f + 1, listed, a, R =>
    (Region.ready md ops listed = [] → ∀ w, R w → Q a w) ∧
    ∀ i ∈ Region.ready md ops listed, stepN P ops R0 B i (ordN P md ops R0 B Q f (listed.setIfInBounds i true)) a R

theorem stepN_mono {i : Nat} {K K' : Act → (World → Prop) → Prop} {a : Act} (h : ∀ a R, K a R → K' a R) (hh : stepN P ops R0 B i K a R) : stepN P ops R0 B i K' a R := by
  obtain ⟨o, ho, ⟨hw, hk⟩ | ⟨hw, ⟨v, hs, hk⟩ | ⟨mk, ob, hf, hk⟩ | ⟨g, hd, hk⟩⟩⟩ := hh
  · exact ⟨o, ho, .inl ⟨hw, h _ _ hk⟩⟩
  · exact ⟨o, ho, .inr ⟨hw, .inl ⟨v, hs, h _ _ hk⟩⟩⟩
  · exact ⟨o, ho, .inr ⟨hw, .inr (.inl ⟨mk, ob, hf, fun q hq => h _ _ (hk q hq)⟩)⟩⟩
  · exact ⟨o, ho, .inr ⟨hw, .inr (.inr ⟨g, hd, h _ _ hk⟩)⟩⟩

/-- It is so from every world of the class. -/
theorem ordN_sound {Q : Act → World → Prop} {Q' : Exit → Act → World → Prop} (hQ : ∀ a w, Q a w → Q' .normal a w) (h0 : ∀ w, R0 w → B ≤ w.heap.size) :
    ∀ (f : Nat) (listed : Array Bool) (a : Act) (R : World → Prop), Grows R → (∀ w, R w → R0 w) → Grows R0 → ordN P md ops R0 B Q f listed a R → ∀ w, R w → wpAny P md ops Q' f listed a w
  | 0, _, _, _, _, _, _, h, w, hw => ⟨h.1, hQ _ _ (h.2 w hw)⟩
  | f + 1, listed, a, R, hg, hs, hg0, h, w, hw => by
    refine ⟨fun h1 => hQ _ _ (h.1 h1 w hw), fun i hi => ?_⟩
    obtain ⟨o, ho, hc⟩ := h.2 i hi
    unfold wpOp
    simp only [ho]
    rcases hc with ⟨hwn, hk⟩ | ⟨hwn, hc⟩
    · rw [hwn]
      simp only [Bool.false_eq_true, if_false]
      exact ordN_sound hQ h0 f _ _ _ hg hs hg0 hk w hw
    · rw [hwn]
      simp only [if_true]
      refine .inl ?_
      unfold Oper.wp
      rcases hc with ⟨v, hv, hk⟩ | ⟨mk, ob, hf, hk⟩ | ⟨g, hd, hk⟩
      · have h3 := hv w hw
        generalize (execOp a.eval o).run P w = r at *
        cases r with
        | ok n w' =>
          cases n <;> simp only [softUpon] at h3 <;> simp only [Oper.upon]
          case value u =>
            obtain ⟨e1, e2⟩ := h3
            rw [e1, e2]
            exact ordN_sound hQ h0 f _ _ _ hg hs hg0 hk w hw
          case skip =>
            obtain ⟨e1, e2⟩ := h3
            rw [e1, ← e2]
            exact ordN_sound hQ h0 f _ _ _ hg hs hg0 hk w hw
          case enter fn args =>
            obtain ⟨e1, hcall⟩ := h3
            rw [e1]
            exact hcall.mono fun e w'' ⟨he, hb⟩ => by
              subst he
              exact ordN_sound hQ h0 f _ _ _ hg hs hg0 hk w'' (hg _ _ hw hb)
        | halt x w' => simp only [softUpon] at h3
      · rw [hf w hw]
        simp only [Oper.upon]
        refine ordN_sound hQ h0 f _ _ _ (hg.with _ ob) (fun w h => hs w h.1) hg0 (hk w.heap.size (h0 w (hs w hw))) _ ⟨hg _ _ hw ((Below.refl _ _).alloc (Nat.le_refl _) _), ?_⟩
        show (w.heap.push ob)[w.heap.size]? = some ob
        simp
      · obtain ⟨e, hr⟩ := hd w hw
        rw [e]
        simp only [Oper.upon]
        exact ordN_sound hQ h0 f _ _ _ (Grows.behind g) (fun w' ⟨w1, hw1, hb⟩ => hg0 _ _ (hd w1 hw1).2 hb) hg0 hk _ ⟨w, hw, Below.refl _ _⟩

theorem Soft.put {oi oj : Oper} {a : Act} {v u : Value} (hsel : ∀ cs b, oi.op ≠ .select cs b) (h : ∀ d, oj.dst = some d → d ∉ oi.looksAt ops) (hs : Soft P R oi a v) : Soft P R oi (a.put oj.dst u) v := by
  unfold Soft at *
  rw [execOp_put (ops := ops) oi hsel a oj.dst u h]
  exact hs

/-- **An operation that yields one value in the whole wide class may be taken first.** -/
theorem ordN_first {Q : Act → World → Prop} {i : Nat} {oi : Oper} {v : Value} (hi : ops[i]? = some oi) (hsel : ∀ (j : Nat) (o : Oper) cs b, ops[j]? = some o → o.op ≠ .select cs b) (hg0 : Grows R0) :
    ∀ (f : Nat) (listed : Array Bool) (a : Act) (R : World → Prop), (∀ w, R w → R0 w) →
      (∀ j oj, ops[j]? = some oj → j ≠ i → listed.getD j true = false → (∀ e ∈ oj.after, Region.binds md e = true → e.on ≠ i) → oi.apart ops oj = true) →
      i ∈ Region.ready md ops listed →
      ((Region.wanted oi (yielded ops a.tmps) = true ∧ Soft P R0 oi a v) ∨ (Region.wanted oi (yielded ops a.tmps) = false ∧ v = undef)) →
      ordN P md ops R0 B Q f (listed.setIfInBounds i true) (a.put oi.dst v) R → ordN P md ops R0 B Q (f + 1) listed a R := by
  intro f
  induction f with
  | zero =>
    intro listed a R hs hfree hr hy H
    refine ⟨fun h => (by rw [h] at hr; cases hr), fun j hj => ?_⟩
    by_cases hji : j = i
    · subst hji
      rcases hy with ⟨hw, hv⟩ | ⟨hw, rfl⟩
      · exact ⟨oi, hi, .inr ⟨hw, .inl ⟨v, fun w h => hv w (hs w h), H⟩⟩⟩
      · exact ⟨oi, hi, .inl ⟨hw, H⟩⟩
    · have := ready_mono hj hji
      rw [H.1] at this
      cases this
  | succ f ih =>
    intro listed a R hs hfree hr hy H
    refine ⟨fun h => (by rw [h] at hr; cases hr), fun j hj => ?_⟩
    by_cases hji : j = i
    · subst hji
      rcases hy with ⟨hw, hv⟩ | ⟨hw, rfl⟩
      · exact ⟨oi, hi, .inr ⟨hw, .inl ⟨v, fun w h => hv w (hs w h), H⟩⟩⟩
      · exact ⟨oi, hi, .inl ⟨hw, H⟩⟩
    · have h1 := H.2 j (ready_mono hj hji)
      obtain ⟨hjun, oj', hoj', hall⟩ := mem_ready.1 hj
      have hnot : ∀ e ∈ oj'.after, Region.binds md e = true → e.on ≠ i := fun e he hb heq => by
        have h2 := hall e he hb
        have h3 := (mem_ready.1 hr).1
        rw [heq] at h2
        rcases Nat.lt_or_ge i listed.size with h' | h'
        · simp [h'] at h3 h2; rw [h3] at h2; cases h2
        · simp [Array.getElem?_eq_none h'] at h2
      have hap := hfree j oj' hoj' hji hjun hnot
      obtain ⟨a1, a2, a3⟩ := Oper.apart_spec hap
      have hfree' : ∀ k ok, ops[k]? = some ok → k ≠ i → (listed.setIfInBounds j true).getD k true = false →
          (∀ e ∈ ok.after, Region.binds md e = true → e.on ≠ i) → oi.apart ops ok = true := fun k ok hk hki hun hno => by
        refine hfree k ok hk hki ?_ hno
        by_cases hjk : j = k
        · subst hjk; exact hjun
        · rw [getD_set_ne true hjk] at hun; exact hun
      have hcomm : (listed.setIfInBounds i true).setIfInBounds j true = (listed.setIfInBounds j true).setIfInBounds i true := Array.setIfInBounds_comm _ _ (Ne.symm hji)
      -- whatever j does, i may be taken first behind it
      have go : ∀ (u : Value) (R' : World → Prop), (∀ w, R' w → R0 w) → ordN P md ops R0 B Q f ((listed.setIfInBounds i true).setIfInBounds j true) ((a.put oi.dst v).put oj'.dst u) R' →
          ordN P md ops R0 B Q (f + 1) (listed.setIfInBounds j true) (a.put oj'.dst u) R' := fun u R' hs' h => by
        rw [hcomm, Act.put_comm a v u a2] at h
        refine ih _ _ _ hs' hfree' (ready_mono hr (Ne.symm hji)) ?_ h
        rcases hy with ⟨hw, hv⟩ | ⟨hw, hv⟩
        · exact .inl ⟨by rw [wanted_put oi a oj'.dst u a3]; exact hw, hv.put (hsel i oi · · hi) a3⟩
        · exact .inr ⟨by rw [wanted_put oi a oj'.dst u a3]; exact hw, hv⟩
      obtain ⟨o, ho, hc⟩ := h1
      have : o = oj' := Option.some.inj (ho.symm.trans hoj')
      subst this
      have hex : execOp (a.put oi.dst v).eval o = execOp a.eval o := execOp_put (ops := ops) o (hsel j o · · ho) a oi.dst v a1
      rw [wanted_put o a oi.dst v a1] at hc
      rcases hc with ⟨hwn, hk⟩ | ⟨hwn, ⟨u, hu, hk⟩ | ⟨mk, ob, hf, hk⟩ | ⟨g, hd, hk⟩⟩
      · exact ⟨o, ho, .inl ⟨hwn, go _ _ hs hk⟩⟩
      · exact ⟨o, ho, .inr ⟨hwn, .inl ⟨u, by unfold Soft at *; rw [hex] at hu; exact hu, go _ _ hs hk⟩⟩⟩
      · exact ⟨o, ho, .inr ⟨hwn, .inr (.inl ⟨mk, ob, by unfold Fresh at *; rw [hex] at hf; exact hf, fun q hq => go _ _ (fun w h => hs w h.1) (hk q hq)⟩)⟩⟩
      · have hd' : Hard P R R0 o a g := by unfold Hard at *; rw [hex] at hd; exact hd
        exact ⟨o, ho, .inr ⟨hwn, .inr (.inr ⟨g, hd', go _ _ (fun w' ⟨w1, hw1, hb⟩ => hg0 _ _ (hd' w1 hw1).2 hb) hk⟩)⟩⟩

/-! ### The walk in a chosen order: first what yields one value in the whole class, then the rest, one behind the other -/

def wpV (P : Program) (ops : Array Oper) (C : World → Prop) (Q : Act → Prop) : List Nat → Act → Prop
  | [], a => Q a
  | i :: rest, a => ∃ o, ops[i]? = some o ∧
      if Region.wanted o (yielded ops a.tmps) then ∃ v, Soft P C o a v ∧ wpV P ops C Q rest (a.put o.dst v) else wpV P ops C Q rest (a.put o.dst undef)

def wpT (P : Program) (ops : Array Oper) (R0 : World → Prop) (B : Nat) (Q : Act → World → Prop) : List Nat → Act → (World → Prop) → Prop
  | [], a, R => ∀ w, R w → Q a w
  | i :: rest, a, R => stepN P ops R0 B i (wpT P ops R0 B Q rest) a R

def headB (md : Region.Mode) (ops : Array Oper) : List Nat → Array Bool → Bool
  | [], _ => true
  | k :: ks, listed => (Region.ready md ops listed).contains k && Region.free md ops listed k && headB md ops ks (listed.setIfInBounds k true)
def tailB (md : Region.Mode) (ops : Array Oper) : List Nat → Array Bool → Bool
  | [], listed => (Region.ready md ops listed).isEmpty
  | k :: ks, listed => decide (Region.ready md ops listed = [k]) && tailB md ops ks (listed.setIfInBounds k true)
def listB : List Nat → Array Bool → Array Bool
  | [], listed => listed
  | k :: ks, listed => listB ks (listed.setIfInBounds k true)
def growB (ops : Array Oper) (ks ts : List Nat) : Bool :=
  Region.noSelect ops && headB .any ops ks (Array.replicate ops.size false) && tailB .any ops ts (listB ks (Array.replicate ops.size false)) && decide (ks.length + ts.length = ops.size)

theorem ordN_tail {Q : Act → World → Prop} : ∀ (ts : List Nat) (listed : Array Bool) (a : Act) (R : World → Prop), tailB md ops ts listed = true → wpT P ops R0 B Q ts a R → ordN P md ops R0 B Q ts.length listed a R
  | [], listed, a, R, hB, h => ⟨by simpa [tailB] using hB, h⟩
  | k :: ks, listed, a, R, hB, h => by
    simp only [tailB, Bool.and_eq_true, decide_eq_true_eq] at hB
    refine ⟨fun h0 => (by rw [hB.1] at h0; cases h0), fun i hi => ?_⟩
    rw [hB.1] at hi
    have : i = k := by simpa using hi
    subst this
    exact stepN_mono (fun a R h => ordN_tail ks _ a R hB.2 h) h

theorem ordN_head {Q : Act → World → Prop} (hsel : Region.noSelect ops = true) (hg0 : Grows R0) (f : Nat) : ∀ (ks : List Nat) (listed : Array Bool) (a : Act),
    headB md ops ks listed = true → wpV P ops R0 (fun a' => ordN P md ops R0 B Q f (listB ks listed) a' R0) ks a → ordN P md ops R0 B Q (ks.length + f) listed a R0
  | [], listed, a, _, h => by
    have : ordN P md ops R0 B Q f listed a R0 := h
    simpa using this
  | k :: ks, listed, a, hB, h => by
    simp only [headB, Bool.and_eq_true] at hB
    obtain ⟨⟨hr, hf⟩, hB'⟩ := hB
    obtain ⟨o, ho, hc⟩ := h
    rw [show (k :: ks).length + f = (ks.length + f) + 1 by simp; omega]
    have hr' : k ∈ Region.ready md ops listed := by simpa using hr
    by_cases hw : Region.wanted o (yielded ops a.tmps) = true
    · rw [if_pos hw] at hc
      obtain ⟨v, hv, hk⟩ := hc
      exact ordN_first ho (Region.noSelect_spec hsel) hg0 _ _ _ _ (fun _ h => h) (Region.free_spec ho hf) hr' (.inl ⟨hw, hv⟩) (ordN_head hsel hg0 f ks _ _ hB' hk)
    · rw [if_neg hw] at hc
      exact ordN_first ho (Region.noSelect_spec hsel) hg0 _ _ _ _ (fun _ h => h) (Region.free_spec ho hf) hr' (.inr ⟨by simpa using hw, rfl⟩) (ordN_head hsel hg0 f ks _ _ hB' hc)

/-- The worlds that have grown out of w, spelt so that the walk reads cells in them. -/
def Grown' (w : World) : World → Prop := fun w' => ∃ p : Regrown, w' = grow (redrawn w p.d) p.os
theorem grown_iff (w w' : World) : Grown' w w' ↔ Below w.heap.size w w' :=
  ⟨fun ⟨p, hp⟩ => by subst hp; exact below_regrown w p.d p.os, fun h => regrown_of_below h⟩

theorem wpV_congr {C C' : World → Prop} {Q : Act → Prop} (hC : ∀ w, C' w → C w) : ∀ (ks : List Nat) (a : Act), wpV P ops C Q ks a → wpV P ops C' Q ks a
  | [], _, h => h
  | k :: ks, a, ⟨o, ho, hc⟩ => by
    refine ⟨o, ho, ?_⟩
    by_cases hw : Region.wanted o (yielded ops a.tmps) = true
    · rw [if_pos hw] at hc ⊢
      obtain ⟨v, hv, hk⟩ := hc
      exact ⟨v, fun w h => hv w (hC w h), wpV_congr hC ks _ hk⟩
    · rw [if_neg hw] at hc ⊢
      exact wpV_congr hC ks _ hc

/-- **A region whose order is open, walked once.** ks: what yields one value wherever the world has grown; ts: the rest (new variables, stores into them, and what waits for all). -/
theorem wp_region_grow {id : Nat} {Q : Exit → Act → World → Prop} {a : Act} {w : World} {l : List Oper} (ks ts : List Nat) (hm : P.follows .mixedOrders = true) (hB : growB l.toArray ks ts = true)
    (h : wpV P l.toArray (fun w' => ∃ p : Regrown, w' = grow (redrawn w p.d) p.os) (fun a' => wpT P l.toArray (fun w' => Below w.heap.size w w') w.heap.size (fun a w' => Q .normal a w') ts a' (fun w' => Below w.heap.size w w')) ks a) :
    (Code.region id l.toArray true).wp P Q a w := by
  simp only [growB, Bool.and_eq_true, decide_eq_true_eq] at hB
  obtain ⟨⟨⟨hs, hh⟩, ht⟩, hn⟩ := hB
  refine wp_region_any hm ?_
  have h1 := wpV_congr (C' := fun w' => Below w.heap.size w w') (fun w' hw' => (grown_iff w w').2 hw') ks a h
  have mono : ∀ (ks : List Nat) (a : Act) {Q1 Q2 : Act → Prop}, (∀ a, Q1 a → Q2 a) → wpV P l.toArray (fun w' => Below w.heap.size w w') Q1 ks a → wpV P l.toArray (fun w' => Below w.heap.size w w') Q2 ks a := by
    intro ks
    induction ks with
    | nil => intro a Q1 Q2 h12 hh; exact h12 _ hh
    | cons k ks ih =>
      intro a Q1 Q2 h12 ⟨o, ho, hc⟩
      refine ⟨o, ho, ?_⟩
      by_cases hw : Region.wanted o (yielded l.toArray a.tmps) = true
      · rw [if_pos hw] at hc ⊢
        obtain ⟨v, hv, hk⟩ := hc
        exact ⟨v, hv, ih _ h12 hk⟩
      · rw [if_neg hw] at hc ⊢
        exact ih _ h12 hc
  have h2 := ordN_head (md := .any) hs (Grows.below w) ts.length ks _ a hh (mono ks a (fun a' h => ordN_tail (md := .any) ts _ a' _ ht h) h1)
  rw [hn] at h2
  exact ordN_sound (fun _ _ h => h) (fun _ h => h.size) _ _ _ _ (Grows.below w) (fun _ h => h) (Grows.below w) h2 _ ⟨rfl, rfl, rfl, Nat.le_refl _, fun _ _ => rfl⟩

theorem wpV_nil {C : World → Prop} {Q : Act → Prop} {a : Act} (h : Q a) : wpV P ops C Q [] a := h
theorem wpV_step {C : World → Prop} {Q : Act → Prop} {a : Act} {i : Nat} {o : Oper} {rest : List Nat} (ho : ops[i]? = some o)
    (h : ∀ K : Act → Prop, (∀ a, wpV P ops C Q rest a → K a) → if Region.wanted o (yielded ops a.tmps) then ∃ v, Soft P C o a v ∧ K (a.put o.dst v) else K (a.put o.dst undef)) : wpV P ops C Q (i :: rest) a :=
  ⟨o, ho, h _ fun _ h => h⟩
theorem wpT_nil {Q : Act → World → Prop} {a : Act} (h : ∀ w, R w → Q a w) : wpT P ops R0 B Q [] a R := h
theorem wpT_new {Q : Act → World → Prop} {a : Act} {i : Nat} {o : Oper} {rest : List Nat} (ob : Obj) (ho : ops[i]? = some o) (hw : Region.wanted o (yielded ops a.tmps) = true)
    (hf : ∀ w, (execOp a.eval o).run P w = .ok (.value (.pointer (some ⟨w.heap.size, 0, none⟩))) (w.alloc ob))
    (h : ∀ q, B ≤ q → wpT P ops R0 B Q rest (a.put o.dst (.pointer (some ⟨q, 0, none⟩))) (With R q ob)) : wpT P ops R0 B Q (i :: rest) a R :=
  ⟨o, ho, .inr ⟨hw, .inr (.inl ⟨fun q => .pointer (some ⟨q, 0, none⟩), ob, fun w _ => hf w, h⟩)⟩⟩
theorem wpT_newAs {Q : Act → World → Prop} {a : Act} {i : Nat} {o : Oper} {rest : List Nat} (mk : Nat → Value) (ob : Obj) (ho : ops[i]? = some o) (hw : Region.wanted o (yielded ops a.tmps) = true)
    (hf : ∀ w, (execOp a.eval o).run P w = .ok (.value (mk w.heap.size)) (w.alloc ob))
    (h : ∀ q, B ≤ q → wpT P ops R0 B Q rest (a.put o.dst (mk q)) (With R q ob)) : wpT P ops R0 B Q (i :: rest) a R :=
  ⟨o, ho, .inr ⟨hw, .inr (.inl ⟨mk, ob, fun w _ => hf w, h⟩)⟩⟩
theorem wpT_hard {Q : Act → World → Prop} {a : Act} {i : Nat} {o : Oper} {rest : List Nat} (g : World → World) (ho : ops[i]? = some o) (hw : Region.wanted o (yielded ops a.tmps) = true)
    (hd : ∀ w, R w → (execOp a.eval o).run P w = .ok .skip (g w) ∧ R0 (g w))
    (h : wpT P ops R0 B Q rest (a.put o.dst undef) (Behind R g)) : wpT P ops R0 B Q (i :: rest) a R :=
  ⟨o, ho, .inr ⟨hw, .inr (.inr ⟨g, hd, h⟩)⟩⟩
theorem wpT_soft {Q : Act → World → Prop} {a : Act} {i : Nat} {o : Oper} {rest : List Nat} (v : Value) (ho : ops[i]? = some o) (hw : Region.wanted o (yielded ops a.tmps) = true)
    (hv : ∀ w, R w → softUpon P w v ((execOp a.eval o).run P w))
    (h : wpT P ops R0 B Q rest (a.put o.dst v) R) : wpT P ops R0 B Q (i :: rest) a R :=
  ⟨o, ho, .inr ⟨hw, .inl ⟨v, hv, h⟩⟩⟩
/-- An assignment of a slot. -/
theorem wpT_assign {Q : Act → World → Prop} {a : Act} {i : Nat} {o : Oper} {x : Operand} {rest : List Nat} (ho : ops[i]? = some o) (hop : o.op = .assign x) (hw : Region.wanted o (yielded ops a.tmps) = true)
    (h : wpT P ops R0 B Q rest (a.put o.dst (a.eval x)) R) : wpT P ops R0 B Q (i :: rest) a R :=
  wpT_soft _ ho hw (fun w _ => by rw [BigFrame.run_assign x hop]; exact ⟨rfl, rfl⟩) h
/-- Fewer worlds are asked of. -/
theorem wpT_sub {Q : Act → World → Prop} : ∀ (ts : List Nat) (a : Act) (R R' : World → Prop), (∀ w, R' w → R w) → wpT P ops R0 B Q ts a R → wpT P ops R0 B Q ts a R'
  | [], _, _, _, hs, h => fun w hw => h w (hs w hw)
  | k :: ks, a, R, R', hs, ⟨o, ho, hc⟩ => by
    refine ⟨o, ho, ?_⟩
    rcases hc with ⟨hwn, hk⟩ | ⟨hwn, ⟨u, hu, hk⟩ | ⟨mk, ob, hf, hk⟩ | ⟨g, hd, hk⟩⟩
    · exact .inl ⟨hwn, wpT_sub ks _ _ _ hs hk⟩
    · exact .inr ⟨hwn, .inl ⟨u, fun w hw => hu w (hs w hw), wpT_sub ks _ _ _ hs hk⟩⟩
    · exact .inr ⟨hwn, .inr (.inl ⟨mk, ob, fun w hw => hf w (hs w hw), fun q hq => wpT_sub ks _ _ _ (fun w h => ⟨hs w h.1, h.2⟩) (hk q hq)⟩)⟩
    · exact .inr ⟨hwn, .inr (.inr ⟨g, fun w hw => hd w (hs w hw), wpT_sub ks _ _ _ (fun w' ⟨w1, h1, hb⟩ => ⟨w1, hs w1 h1, hb⟩) hk⟩)⟩

end
end Go.Proofs.YtcnbbmgclphfdaaDoor
