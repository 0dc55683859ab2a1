/- Runs of closed code, reckoned: the reckoning's memory, and a memory that holds it. -/
import Derived.Test.YtiakmddejckkbaaGreatXVal
namespace Go.Proofs.YtiakmddejckkbaaGreat

/-- A block of the reckoning: kind 0 none, 4 a number that is kept, 1 a row of cells, 2 a row of cells behind which there may be room, 3 a map (keys and values in turn); how many cells an element has. -/
structure Blk where
  kind : Nat
  elem : Nat
  esz : Nat
  cells : List Value
def noBlk : Blk := ⟨0, 0, 0, []⟩
/-- The n-th of a list (for the kernel: by recursors). -/
def getN {α : Type} (d : α) (l : List α) (n : Nat) : α :=
  Nat.rec (motive := fun _ => List α → α) (fun l => List.casesOn (motive := fun _ => α) l d (fun x _ => x)) (fun _ ih l => List.casesOn (motive := fun _ => α) l d (fun _ xs => ih xs)) n l
def modN {α : Type} (d : α) (f : α → α) (l : List α) (n : Nat) : List α :=
  Nat.rec (motive := fun _ => List α → List α) (fun l => List.casesOn (motive := fun _ => List α) l [f d] (fun x xs => f x :: xs)) (fun _ ih l => List.casesOn (motive := fun _ => List α) l (d :: ih []) (fun x xs => x :: ih xs)) n l
theorem getN_modN {α : Type} (d : α) (f : α → α) : ∀ (n : Nat) (l : List α) (m : Nat), getN d (modN d f l n) m = if m = n then f (getN d l n) else getN d l m
  | 0, [], 0 => rfl
  | 0, [], m + 1 => by rw [if_neg (by omega)]; cases m <;> rfl
  | 0, x :: l, 0 => rfl
  | 0, x :: l, m + 1 => by rw [if_neg (by omega)]; rfl
  | n + 1, [], 0 => by rw [if_neg (by omega)]; rfl
  | n + 1, [], m + 1 => by
    have h := getN_modN d f n [] m
    have e : ∀ k, getN d [] k = d := fun k => by cases k <;> rfl
    show getN d (modN d f [] n) m = _
    rw [h, e, e, e, e]
    by_cases hm : m = n
    · rw [if_pos hm, if_pos (by omega)]
    · rw [if_neg hm, if_neg (by omega)]
  | n + 1, x :: l, 0 => by rw [if_neg (by omega)]; rfl
  | n + 1, x :: l, m + 1 => by
    have h := getN_modN d f n l m
    show getN d (modN d f l n) m = _
    rw [h]
    by_cases hm : m = n
    · rw [if_pos hm, if_pos (by omega)]; rfl
    · rw [if_neg hm, if_neg (by omega)]; rfl

/-- The reckoning's memory. -/
structure AW where
  next : Nat
  rows : List (List (List Blk))
def AW.get (σ : AW) (k : Nat) : Blk := getN noBlk (getN [] (getN [] σ.rows (k / 64)) (k / 8 % 8)) (k % 8)
def AW.set (σ : AW) (k : Nat) (b : Blk) : AW := { next := σ.next, rows := modN [] (fun r => modN [] (fun q => modN noBlk (fun _ => b) q (k % 8)) r (k / 8 % 8)) σ.rows (k / 64) }
def AW.up (σ : AW) (n : Nat) : AW := { next := n, rows := σ.rows }
theorem AW.get_set (σ : AW) (k j : Nat) (b : Blk) : (σ.set k b).get j = if j = k then b else σ.get j := by
  simp only [AW.get, AW.set, getN_modN]
  by_cases h1 : j / 64 = k / 64
  · rw [if_pos h1, getN_modN]
    by_cases h2 : j / 8 % 8 = k / 8 % 8
    · rw [if_pos h2, getN_modN]
      by_cases h3 : j % 8 = k % 8
      · have : j = k := by omega
        rw [if_pos h3, if_pos this]
      · rw [if_neg h3, if_neg (fun e => h3 (by rw [e])), h1, h2]
    · rw [if_neg h2, if_neg (fun e => h2 (by rw [e])), h1]
  · rw [if_neg h1, if_neg (fun e => h1 (by rw [e]))]
theorem AW.get_up (σ : AW) (n j : Nat) : (σ.up n).get j = σ.get j := rfl
theorem AW.next_set (σ : AW) (k : Nat) (b : Blk) : (σ.set k b).next = σ.next := rfl

/-- The temporaries of a call. -/
structure Fr where
  size : Nat
  rows : List (List (List Value))
def Fr.get (A : Fr) (t : Nat) : Option Value := match Nat.blt t A.size with
  | true => some (getN undef (getN [] (getN [] A.rows (t / 64)) (t / 8 % 8)) (t % 8))
  | false => none
def Fr.set (A : Fr) (t : Nat) (v : Value) : Fr := { size := A.size, rows := modN [] (fun r => modN [] (fun q => modN undef (fun _ => v) q (t % 8)) r (t / 8 % 8)) A.rows (t / 64) }
theorem Fr.get_set (A : Fr) (k j : Nat) (b : Value) : (A.set k b).get j = if j = k then (A.get k).map (fun _ => b) else A.get j := by
  simp only [Fr.get, Fr.set, getN_modN]
  by_cases h1 : j / 64 = k / 64
  · rw [if_pos h1, getN_modN]
    by_cases h2 : j / 8 % 8 = k / 8 % 8
    · rw [if_pos h2, getN_modN]
      by_cases h3 : j % 8 = k % 8
      · have : j = k := by omega
        rw [if_pos h3, if_pos this, this]
        cases Nat.blt k A.size <;> rfl
      · rw [if_neg h3, if_neg (fun e => h3 (by rw [e])), h1, h2]
    · rw [if_neg h2, if_neg (fun e => h2 (by rw [e])), h1]
  · rw [if_neg h1, if_neg (fun e => h1 (by rw [e]))]
def Fr.new (n : Nat) : Fr := ⟨n, []⟩
theorem Fr.get_new (n t : Nat) : (Fr.new n).get t = if t < n then some undef else none := by
  have e : ∀ {α : Type} (d : α) (k : Nat), getN d [] k = d := fun d k => by cases k <;> rfl
  simp only [Fr.get, Fr.new, e]
  by_cases h : t < n
  · rw [if_pos h, show Nat.blt t n = true from Nat.ble_eq_true_of_le h]
  · rw [if_neg h]
    cases hb : Nat.blt t n with
    | false => rfl
    | true => exact absurd (Nat.le_of_ble_eq_true hb) h
/-- The arguments, from place i on. -/
def Fr.fill (A : Fr) : Nat → List Value → Fr
  | _, [] => A
  | i, v :: l => Fr.fill (A.set i v) (i + 1) l
def AW.live (σ : AW) (k : Nat) : Prop := (σ.get k).kind ≠ 0 ∧ (σ.get k).kind ≠ 4
/-- The numbers that values may name. -/
def AW.dom (σ : AW) (k : Nat) : Prop := k < σ.next ∧ (σ.get k).kind ≠ 4
/-- A new block. -/
def AW.push (σ : AW) (b : Blk) : AW := (σ.set σ.next b).up (σ.next + 1)

/-- The entries of a map. -/
def entries : Nat → List Value → List MapEntry
  | n, k :: v :: l => ⟨k, v, n⟩ :: entries (n + 1) l
  | _, _ => []
/-- A block of memory as the reckoning has it. -/
def Holds (ρ : Rn) (w : World) (p : Nat × Nat) (b : Blk) : Prop :=
  match b.kind with
  | 1 => w.heap[p.1]? = some (.cells (b.cells.map (ren ρ)).toArray b.elem (0, 0))
  | 2 => ∃ rest, w.heap[p.1]? = some (.cells (b.cells.map (ren ρ) ++ rest).toArray b.elem (0, 0)) ∧ b.cells.length + rest.length = p.2 * b.esz
  | 3 => w.heap[p.1]? = some (.map (entries 0 (b.cells.map (ren ρ))).toArray (b.cells.length / 2))
  | _ => False
theorem Holds.lt {ρ : Rn} {w : World} {p : Nat × Nat} {b : Blk} (h : Holds ρ w p b) : p.1 < w.heap.size := by
  unfold Holds at h
  split at h
  · exact (Array.getElem?_eq_some_iff.1 h).1
  · obtain ⟨r, h, _⟩ := h; exact (Array.getElem?_eq_some_iff.1 h).1
  · exact (Array.getElem?_eq_some_iff.1 h).1
  · exact h.elim
theorem Holds.keep {ρ ρ' : Rn} {w w' : World} {p : Nat × Nat} {b : Blk} {D : Nat → Prop} (h : Holds ρ w p b) (hw : w'.heap[p.1]? = w.heap[p.1]?) (hs : ∀ v ∈ b.cells, Sc D v) (e : ∀ k, D k → ρ k = ρ' k) : Holds ρ' w' p b := by
  unfold Holds at h ⊢
  rw [hw, ← map_sc hs e]
  exact h

/-- The memory holds what the reckoning has. -/
structure Rel (ρ : Rn) (σ : AW) (w : World) : Prop where
  blk : ∀ k, σ.live k → Holds ρ w (ρ k) (σ.get k)
  lt : ∀ k, σ.live k → k < σ.next
  inj : ∀ k j, σ.live k → σ.live j → (ρ k).1 = (ρ j).1 → k = j
  sc : ∀ k, σ.live k → ∀ v ∈ (σ.get k).cells, Sc σ.dom v
  fit : ∀ k, σ.next ≤ k → (σ.get k).kind = 0

/-- What a step may do: what is not the reckoning's stays as it is. -/
structure Step (ρ : Rn) (σ : AW) (w : World) (ρ' : Rn) (σ' : AW) (w' : World) : Prop where
  rel : Rel ρ' σ' w'
  agree : ∀ k, k < σ.next → ρ' k = ρ k
  mono : σ.next ≤ σ'.next
  kept : ∀ k, k < σ.next → ((σ'.get k).kind = 4 ↔ (σ.get k).kind = 4)
  came : ∀ k, σ'.live k → w.heap.size ≤ (ρ' k).1 ∨ ∃ j, σ.live j ∧ (ρ j).1 = (ρ' k).1
  same : ∀ b, b < w.heap.size → (∀ k, σ.live k → (ρ k).1 ≠ b) → w'.heap[b]? = w.heap[b]?
  os : w'.os = w.os
  tape : w'.tape = w.tape
  output : w'.output = w.output
  size : w.heap.size ≤ w'.heap.size

theorem Step.dom {ρ ρ' : Rn} {σ σ' : AW} {w w' : World} (h : Step ρ σ w ρ' σ' w') (k : Nat) (hk : σ.dom k) : σ'.dom k :=
  ⟨Nat.lt_of_lt_of_le hk.1 h.mono, fun e => hk.2 ((h.kept k hk.1).1 e)⟩
theorem Step.sc {ρ ρ' : Rn} {σ σ' : AW} {w w' : World} (h : Step ρ σ w ρ' σ' w') {v : Value} (hv : Sc σ.dom v) : Sc σ'.dom v := hv.mono h.dom
theorem Step.ren {ρ ρ' : Rn} {σ σ' : AW} {w w' : World} (h : Step ρ σ w ρ' σ' w') {v : Value} (hv : Sc σ.dom v) : ren ρ' v = ren ρ v := hv _ _ fun k hk => h.agree k hk.1
theorem AW.live_dom {ρ : Rn} {σ : AW} {w : World} (h : Rel ρ σ w) {k : Nat} (hk : σ.live k) : σ.dom k := ⟨h.lt k hk, hk.2⟩
theorem Rel.drawn {ρ : Rn} {σ : AW} {w w' : World} (h : Rel ρ σ w) (hw : w'.heap = w.heap) : Rel ρ σ w' :=
  ⟨fun k hk => (h.blk k hk).keep (by rw [hw]) (h.sc k hk) (fun _ _ => rfl), h.lt, h.inj, h.sc, h.fit⟩
theorem Step.refl {ρ : Rn} {σ : AW} {w : World} (h : Rel ρ σ w) : Step ρ σ w ρ σ w :=
  ⟨h, fun _ _ => rfl, Nat.le_refl _, fun _ _ => Iff.rfl, fun k hk => .inr ⟨k, hk, rfl⟩, fun _ _ _ => rfl, rfl, rfl, rfl, Nat.le_refl _⟩
theorem Step.drew {ρ : Rn} {σ : AW} {w : World} (h : Rel ρ σ w) : Step ρ σ w ρ σ { w with drawn := w.drawn + 1 } :=
  ⟨h.drawn rfl, fun _ _ => rfl, Nat.le_refl _, fun _ _ => Iff.rfl, fun k hk => .inr ⟨k, hk, rfl⟩, fun _ _ _ => rfl, rfl, rfl, rfl, Nat.le_refl _⟩
theorem Step.trans {ρ ρ1 ρ2 : Rn} {σ σ1 σ2 : AW} {w w1 w2 : World} (h : Step ρ σ w ρ1 σ1 w1) (k : Step ρ1 σ1 w1 ρ2 σ2 w2) : Step ρ σ w ρ2 σ2 w2 where
  rel := k.rel
  agree := fun i hi => (k.agree i (Nat.lt_of_lt_of_le hi h.mono)).trans (h.agree i hi)
  mono := Nat.le_trans h.mono k.mono
  kept := fun i hi => (k.kept i (Nat.lt_of_lt_of_le hi h.mono)).trans (h.kept i hi)
  came := fun i hi => by
    rcases k.came i hi with h1 | ⟨j, hj, e⟩
    · exact .inl (Nat.le_trans h.size h1)
    · rcases h.came j hj with h2 | ⟨m, hm, e2⟩
      · exact .inl (by omega)
      · exact .inr ⟨m, hm, e2.trans e⟩
  same := fun b hb hn => by
    rw [k.same b (Nat.lt_of_lt_of_le hb h.size) (fun i hi e => ?_), h.same b hb hn]
    rcases h.came i hi with h1 | ⟨j, hj, e2⟩
    · omega
    · exact hn j hj (e2.trans e)
  os := k.os.trans h.os
  tape := k.tape.trans h.tape
  output := k.output.trans h.output
  size := Nat.le_trans h.size k.size

/-- A new block of memory, under the next number. -/
theorem step_new {ρ : Rn} {σ : AW} {w : World} (h : Rel ρ σ w) {cap : Nat} {b : Blk} {o : Obj} (_ : b.kind ≠ 4)
    (hs : ∀ v ∈ b.cells, Sc σ.dom v)
    (ho : ∀ ρ', (∀ j, j < σ.next → ρ' j = ρ j) → ∀ w' : World, w'.heap[w.heap.size]? = some o → Holds ρ' w' (w.heap.size, cap) b)
    : ∃ ρ', ρ' σ.next = (w.heap.size, cap) ∧ Step ρ σ w ρ' (σ.push b) (w.alloc o) := by
  refine ⟨fun j => if j = σ.next then (w.heap.size, cap) else ρ j, if_pos rfl, ?_⟩
  have hag : ∀ j, j < σ.next → (if j = σ.next then (w.heap.size, cap) else ρ j) = ρ j := fun j hj => if_neg (by omega)
  have hnew : (w.alloc o).heap[w.heap.size]? = some o := by unfold World.alloc; simp
  have hold : ∀ i, i < w.heap.size → (w.alloc o).heap[i]? = w.heap[i]? := fun i hi => by
    unfold World.alloc
    rw [Array.getElem?_push, if_neg (by omega)]
  have hg : ∀ j, (σ.push b).get j = if j = σ.next then b else σ.get j := fun j => by rw [AW.push, AW.get_up, AW.get_set]
  have hl : ∀ j, (σ.push b).live j → j ≠ σ.next → σ.live j := fun j hj hne => by
    unfold AW.live at *; rw [hg, if_neg hne] at hj; exact hj
  have hd : ∀ j, σ.dom j → (σ.push b).dom j := fun j hj => ⟨Nat.lt_succ_of_lt hj.1, by rw [hg, if_neg (Nat.ne_of_lt hj.1)]; exact hj.2⟩
  refine ⟨⟨fun j hj => ?_, fun j hj => ?_, fun i j hi hj e => ?_, fun j hj v hv => ?_, fun j hj => ?_⟩, hag, Nat.le_succ _, fun j hj => ?_, fun j hj => ?_, fun i hi _ => hold i hi, rfl, rfl, rfl, by simp⟩
  · by_cases e : j = σ.next
    · rw [hg, if_pos e]
      simp only [if_pos e]
      exact ho _ hag _ hnew
    · rw [hg, if_neg e]
      simp only [if_neg e]
      have hj' := hl j hj e
      exact (h.blk j hj').keep (hold _ (h.blk j hj').lt) (h.sc j hj') (fun i hi => (hag i hi.1).symm)
  · by_cases e : j = σ.next
    · subst e; exact Nat.lt_succ_self _
    · exact Nat.lt_succ_of_lt (h.lt j (hl j hj e))
  · by_cases e1 : i = σ.next
    · by_cases e2 : j = σ.next
      · rw [e1, e2]
      · have := (h.blk j (hl j hj e2)).lt
        simp only [if_pos e1, if_neg e2] at e
        omega
    · by_cases e2 : j = σ.next
      · have := (h.blk i (hl i hi e1)).lt
        simp only [if_neg e1, if_pos e2] at e
        omega
      · simp only [if_neg e1, if_neg e2] at e
        exact h.inj i j (hl i hi e1) (hl j hj e2) e
  · rw [hg] at hv
    by_cases e : j = σ.next
    · rw [if_pos e] at hv
      exact (hs v hv).mono hd
    · rw [if_neg e] at hv
      exact (h.sc j (hl j hj e) v hv).mono hd
  · rw [hg, if_neg (by have : σ.next + 1 ≤ j := hj; omega)]
    exact h.fit j (by have : σ.next + 1 ≤ j := hj; omega)
  · rw [hg, if_neg (Nat.ne_of_lt hj)]
  · by_cases e : j = σ.next
    · exact .inl (by simp [e])
    · exact .inr ⟨j, hl j hj e, by simp [e]⟩

/-- A block is written anew. -/
theorem step_set {ρ : Rn} {σ : AW} {w w' : World} (h : Rel ρ σ w) {k : Nat} {b : Blk} (hk : σ.live k) (h4 : b.kind ≠ 4)
    (hs : ∀ v ∈ b.cells, Sc σ.dom v) (hw : ∀ i, i ≠ (ρ k).1 → w'.heap[i]? = w.heap[i]?) (hsz : w'.heap.size = w.heap.size) (hh : Holds ρ w' (ρ k) b)
    (ho : w'.os = w.os) (ht : w'.tape = w.tape) (hu : w'.output = w.output) : Step ρ σ w ρ (σ.set k b) w' := by
  have hl : ∀ j, (σ.set k b).live j → σ.live j := fun j hj => by
    unfold AW.live at *; rw [AW.get_set] at hj
    by_cases e : j = k
    · subst e; exact hk
    · rw [if_neg e] at hj; exact hj
  have hd : ∀ j, σ.dom j → (σ.set k b).dom j := fun j hj => ⟨hj.1, by
    rw [AW.get_set]
    by_cases e : j = k
    · rw [if_pos e]; exact h4
    · rw [if_neg e]; exact hj.2⟩
  refine ⟨⟨fun j hj => ?_, fun j hj => h.lt j (hl j hj), fun i j hi hj => h.inj i j (hl i hi) (hl j hj), fun j hj v hv => ?_, fun j hj => ?_⟩, fun _ _ => rfl, Nat.le_refl _, fun j hj => ?_, fun j hj => .inr ⟨j, hl j hj, rfl⟩, fun i hi hn => hw i (fun e => hn k hk e.symm), ho, ht, hu, Nat.le_of_eq hsz.symm⟩
  · rw [AW.get_set]
    by_cases e : j = k
    · rw [if_pos e, e]; exact hh
    · rw [if_neg e]
      exact (h.blk j (hl j hj)).keep (hw _ (fun e2 => e (h.inj j k (hl j hj) hk e2))) (h.sc j (hl j hj)) (fun _ _ => rfl)
  · rw [AW.get_set] at hv
    by_cases e : j = k
    · rw [if_pos e] at hv; exact (hs v hv).mono hd
    · rw [if_neg e] at hv; exact (h.sc j (hl j hj) v hv).mono hd
  · rw [AW.get_set]
    by_cases e : j = k
    · have : σ.next ≤ j := hj
      have := h.lt k hk
      omega
    · rw [if_neg e]; exact h.fit j hj
  · rw [AW.get_set]
    by_cases e : j = k
    · subst e; rw [if_pos rfl]; exact ⟨fun x => absurd x h4, fun x => absurd x hk.2⟩
    · rw [if_neg e]

end Go.Proofs.YtiakmddejckkbaaGreat
