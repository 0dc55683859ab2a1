/- Runs of closed code, reckoned: what was reckoned before is looked up. Scan and Word, as they are known, for the reckoning of closed runs. The calls that cordonlaw06.alive is reckoned by. Calls of cordonlaw06.alive, reckoned. -/
import Derived.Test.YtailfiofcicloaaGreatDoorR05
import Derived.Test.YtailfiofcicloaaGreatDoorR15
import Derived.KernelRfl

namespace Go.Proofs.YtailfiofcicloaaGreatDoor
open Go.RowKit

def eqBlk (a b : Blk) : Bool := match a, b with
  | ⟨k, e, z, cs⟩, ⟨k', e', z', cs'⟩ => Nat.beq k k' && Nat.beq e e' && Nat.beq z z' && veqLs veq2 cs cs'
theorem eqBlk_eq {a b : Blk} (h : eqBlk a b = true) : a = b := by
  obtain ⟨k, e, z, cs⟩ := a
  obtain ⟨k', e', z', cs'⟩ := b
  simp only [eqBlk, Bool.and_eq_true] at h
  obtain ⟨⟨⟨h1, h2⟩, h3⟩, h4⟩ := h
  rw [Nat.eq_of_beq_eq_true h1, Nat.eq_of_beq_eq_true h2, Nat.eq_of_beq_eq_true h3, veqLs_eq (fun _ _ => veq2_eq) h4]
def eqLs {α : Type} (f : α → α → Bool) : List α → List α → Bool
  | [], [] => true
  | x :: l, y :: m => f x y && eqLs f l m
  | _, _ => false
theorem eqLs_eq {α : Type} {f : α → α → Bool} (hf : ∀ x y, f x y = true → x = y) : ∀ {l m : List α}, eqLs f l m = true → l = m
  | [], [], _ => rfl
  | [], _ :: _, h => by cases h
  | _ :: _, [], h => by cases h
  | x :: l, y :: m, h => by
    simp only [eqLs, Bool.and_eq_true] at h
    rw [hf x y h.1, eqLs_eq hf h.2]
def eqAW (σ τ : AW) : Bool := match σ, τ with
  | ⟨n, r⟩, ⟨m, q⟩ => Nat.beq n m && eqLs (eqLs (eqLs eqBlk)) r q
theorem eqAW_eq {σ τ : AW} (h : eqAW σ τ = true) : σ = τ := by
  obtain ⟨n, r⟩ := σ
  obtain ⟨m, q⟩ := τ
  simp only [eqAW, Bool.and_eq_true] at h
  rw [Nat.eq_of_beq_eq_true h.1, eqLs_eq (fun _ _ h => eqLs_eq (fun _ _ h => eqLs_eq (fun _ _ h => eqBlk_eq h) h) h) h.2]
/-- A call that was reckoned. -/
structure Ent where
  g : Nat
  xs : List Value
  pre : AW
  v : Value
  post : AW
/-- It is so. -/
def EntOK (P : Program) (e : Ent) : Prop := (∀ args w, (callFunc e.g args).run P w = .ok (.enter e.g args) w) ∧
  ∀ ρ w, Rel ρ e.pre w → (∀ x ∈ e.xs, Sc e.pre.dom x) → Calls P e.g (e.xs.map (ren ρ)).toArray w fun r w' => ∃ ρ', r = .returned (ren ρ' e.v) ∧ Step ρ e.pre w ρ' e.post w' ∧ Sc e.post.dom e.v
def isEnt (g : Nat) (xs : List Value) (σ : AW) (e : Ent) : Bool := match Nat.beq e.g g with
  | true => eqLs veq e.xs xs && eqAW e.pre σ
  | false => false
def tabX (l : List Ent) : CallA := fun g xs σ => match l.find? (isEnt g xs σ) with
  | some e => some (e.v, e.post)
  | none => none
theorem tab_ok {P : Program} {l : List Ent} (h : ∀ e ∈ l, EntOK P e) : CallOK P (tabX l) := by
  intro g xs σ v σ' hc
  unfold tabX at hc
  split at hc
  · rename_i e he
    injection hc with hc
    injection hc with h1 h2
    subst h1 h2
    have hm := List.mem_of_find?_eq_some he
    have hp := List.find?_some he
    unfold isEnt at hp
    split at hp
    · rename_i hg
      rw [Bool.and_eq_true] at hp
      have e1 := Nat.eq_of_beq_eq_true hg
      have e2 := eqLs_eq (fun _ _ => veq_eq) hp.1
      have e3 := eqAW_eq hp.2
      subst e1 e2 e3
      exact h e hm
    · cases hp
  · cases hc

/-- The blocks that are kept. -/
def gc (σ : AW) (keep : List Nat) : AW := keep.foldl (fun τ k => τ.set k (σ.get k)) ⟨σ.next, []⟩
theorem gc_get (σ : AW) : ∀ (keep : List Nat) (τ : AW), τ.next = σ.next → (∀ k, (τ.get k).kind ≠ 0 → τ.get k = σ.get k) → (keep.foldl (fun τ k => τ.set k (σ.get k)) τ).next = σ.next ∧ ∀ k, ((keep.foldl (fun τ k => τ.set k (σ.get k)) τ).get k).kind ≠ 0 → (keep.foldl (fun τ k => τ.set k (σ.get k)) τ).get k = σ.get k
  | [], τ, h1, h2 => ⟨h1, h2⟩
  | j :: keep, τ, h1, h2 => by
    refine gc_get σ keep (τ.set j (σ.get j)) h1 (fun k hk => ?_)
    rw [AW.get_set] at hk ⊢
    by_cases e : k = j
    · rw [if_pos e, e]
    · rw [if_neg e] at hk ⊢
      exact h2 k hk
theorem gc_ok (σ : AW) (keep : List Nat) : (gc σ keep).next = σ.next ∧ ∀ k, ((gc σ keep).get k).kind ≠ 0 → (gc σ keep).get k = σ.get k := by
  refine gc_get σ keep ⟨σ.next, []⟩ rfl (fun k hk => ?_)
  have e : ∀ {α : Type} (d : α) (k : Nat), getN d [] k = d := fun d k => by cases k <;> rfl
  simp [AW.get, e, noBlk] at hk
/-- No number is kept free. -/
def no4 (σ : AW) : Bool := σ.rows.all fun r => r.all fun q => q.all fun b => !Nat.beq b.kind 4
theorem getN_all {α : Type} {p : α → Bool} {d : α} (hd : p d = true) : ∀ (l : List α) (n : Nat), l.all p = true → p (getN d l n) = true
  | [], n, _ => by
    have : getN d [] n = d := by cases n <;> rfl
    rw [this]; exact hd
  | x :: l, 0, h => by rw [List.all_cons, Bool.and_eq_true] at h; exact h.1
  | x :: l, n + 1, h => by rw [List.all_cons, Bool.and_eq_true] at h; exact getN_all hd l n h.2
theorem no4_ok {σ : AW} (h : no4 σ = true) (k : Nat) : (σ.get k).kind ≠ 4 := by
  unfold no4 at h
  have h1 := getN_all (d := []) (by rfl) σ.rows (k / 64) h
  have h2 := getN_all (d := []) (by rfl) _ (k / 8 % 8) h1
  have h3 := getN_all (d := noBlk) (by rfl) _ (k % 8) h2
  intro e
  unfold AW.get at e
  rw [e] at h3
  cases h3
/-- A call, reckoned by what was reckoned before. -/
def segX (P : Program) (X : CallA) (n : Nat) (keep : List Nat) (e : Ent) : Bool := no4 e.pre && match runA X P n e.g e.xs e.pre with
  | some (v, σ) => veq v e.v && eqAW (gc σ keep) e.post
  | none => false
theorem segX_ok {P : Program} (hm : P.follows .mixedOrders = true) (hN : ∀ (g : Nat) (fn : Func), P.funcs[g]? = some fn → (fn.name == "runtime.NumGoroutine") = false) {X : CallA} (hX : CallOK P X) {n : Nat} {keep : List Nat} {e : Ent} (h : segX P X n keep e = true) : EntOK P e := by
  unfold segX at h
  rw [Bool.and_eq_true] at h
  obtain ⟨h4, h⟩ := h
  split at h
  · rename_i v σ hr
    rw [Bool.and_eq_true] at h
    obtain ⟨hv, hp⟩ := h
    have hv := veq_eq hv
    have hp := eqAW_eq hp
    subst hv
    obtain ⟨hent, hcall⟩ := run_ok hm hN hX n _ _ _ _ _ hr
    refine ⟨hent, fun ρ w hR hs => Calls.mono (hcall ρ w hR hs) ?_⟩
    rintro r w' ⟨ρ', rfl, hst, hsc⟩
    obtain ⟨g1, g2⟩ := gc_ok σ keep
    rw [← hp]
    have hn4 : ∀ k, (σ.get k).kind ≠ 4 → ((gc σ keep).get k).kind ≠ 4 := fun k h e => by
      rw [g2 k (by omega)] at e; exact h e
    have hlive : ∀ k, (gc σ keep).live k → σ.live k := fun k hk => by
      have := g2 k hk.1
      unfold AW.live at *
      rw [← this]; exact hk
    have hdom : ∀ k, σ.dom k → (gc σ keep).dom k := fun k hk => ⟨by rw [g1]; exact hk.1, hn4 k hk.2⟩
    refine ⟨ρ', rfl, ⟨⟨fun k hk => ?_, fun k hk => ?_, fun i j hi hj => hst.rel.inj i j (hlive i hi) (hlive j hj), fun k hk x hx => ?_, fun k hk => ?_, hst.rel.glob.next (Nat.le_refl _) (fun k hk => .inr ⟨k, hlive k hk, rfl⟩) (fun _ _ _ => rfl)⟩, hst.agree, by rw [g1]; exact hst.mono, fun k hk => ?_, fun k hk => hst.came k (hlive k hk), hst.same, hst.os, hst.tape, hst.output, hst.size⟩, hsc.mono hdom⟩
    · rw [g2 k hk.1]; exact hst.rel.blk k (hlive k hk)
    · rw [g1]; exact hst.rel.lt k (hlive k hk)
    · rw [g2 k hk.1] at hx; exact (hst.rel.sc k (hlive k hk) x hx).mono hdom
    · rw [g1] at hk
      apply Classical.byContradiction
      intro hne
      have := g2 k hne
      rw [this] at hne
      exact hne (hst.rel.fit k hk)
    · have hno := no4_ok h4 k
      refine ⟨fun e => ?_, fun e => absurd e hno⟩
      rw [g2 k (by omega)] at e
      exact absurd ((hst.kept k hk).1 e) hno
  · cases h

def segB (P : Program) (l : List Ent) (n : Nat) (keep : List Nat) (e : Ent) : Bool := segX P (tabX l) n keep e
theorem seg_ok {P : Program} (hm : P.follows .mixedOrders = true) (hN : ∀ (g : Nat) (fn : Func), P.funcs[g]? = some fn → (fn.name == "runtime.NumGoroutine") = false) {l : List Ent} (hl : ∀ e ∈ l, EntOK P e) {n : Nat} {keep : List Nat} {e : Ent} (h : segB P l n keep e = true) : EntOK P e := segX_ok hm hN (tab_ok hl) h
/-- What is known of some functions otherwise comes first. -/
def orX (B X : CallA) : CallA := fun g xs σ => match B g xs σ with
  | some r => some r
  | none => X g xs σ
theorem or_ok {P : Program} {B X : CallA} (hB : CallOK P B) (hX : CallOK P X) : CallOK P (orX B X) := by
  intro g xs σ v σ' h
  unfold orX at h
  split at h
  · rename_i r hr
    injection h with h
    subst h
    exact hB g xs σ v σ' hr
  · exact hX g xs σ v σ' h
/-- One block from outside, number 0, of which nothing is known. -/
def AW1 : AW := ⟨1, []⟩
theorem closed_call1 {P : Program} {X : CallA} (hm : P.follows .mixedOrders = true) (hN : ∀ (g : Nat) (fn : Func), P.funcs[g]? = some fn → (fn.name == "runtime.NumGoroutine") = false) (hX : CallOK P X) {n g : Nat} {xs : List Value} {p : Value → Bool} (h : comesTo (runA X P n g xs AW1) p = true) (b : Nat) (hx : ∀ x ∈ xs, Sc AW1.dom x) (w : World) (hw : GlobW w) :
    Calls P g (xs.map (ren fun _ => (b, 0))).toArray w fun e w' => ∃ v, e = .returned v ∧ p v = true ∧ Below w.heap.size w w' := by
  unfold comesTo at h
  split at h
  · rename_i v σ' hr
    rw [Bool.and_eq_true] at h
    have hno : ∀ k, (AW1.get k).kind = 0 := fun k => by
      have e : ∀ {α : Type} (d : α) (k : Nat), getN d [] k = d := fun d k => by cases k <;> rfl
      simp [AW.get, AW1, e, noBlk]
    have hrel : Rel (fun _ => (b, 0)) AW1 w := ⟨fun k hk => absurd (hno k) hk.1, fun k hk => absurd (hno k) hk.1, fun k j hk => absurd (hno k) hk.1, fun k hk => absurd (hno k) hk.1, fun k _ => hno k, fun hq => ⟨(hw hq).1, fun k hk => absurd (hno k) hk.1, (hw hq).2⟩⟩
    obtain ⟨_, hc⟩ := run_ok hm hN hX n g xs AW1 v σ' hr
    refine Calls.mono (hc (fun _ => (b, 0)) w hrel hx) ?_
    rintro e w' ⟨ρ', rfl, hst, _⟩
    rw [flatB_fl h.1 ρ']
    exact ⟨v, rfl, h.2, ⟨hst.os, hst.tape, hst.output, hst.size, fun b hb => hst.same b hb (fun k hk => absurd (hno k) hk.1)⟩⟩
  · cases h
theorem dom1 : AW1.dom 0 := by
  refine ⟨Nat.zero_lt_one, ?_⟩
  have e : ∀ {α : Type} (d : α) (k : Nat), getN d [] k = d := fun d k => by cases k <;> rfl
  simp [AW.get, AW1, e, noBlk]

end Go.Proofs.YtailfiofcicloaaGreatDoor

namespace Go.Proofs.YtailfiofcicloaaGreatDoor
open Go.RowKit

set_option maxRecDepth 100000 in
theorem names_all : (Tryz.prog.funcs.toList.all fun fn => !(fn.name == "runtime.NumGoroutine")) = true := by kernel_rfl
theorem named (g : Nat) (fn : Func) (h : Tryz.prog.funcs[g]? = some fn) : (fn.name == "runtime.NumGoroutine") = false := by
  have := List.all_eq_true.1 names_all fn (by rw [Array.mem_toList_iff]; exact Array.mem_of_getElem? h)
  simpa using this
/-- Scan and Word, reckoned. -/
def tokX : CallA := fun g xs σ => match Nat.beq g 20 with
  | true => (match xs with
    | [.string s] => (match Nat.ble s.size 1000000 with
      | true => (match scanS s with
        | (T, p, e) => match decide (e = 0) with
          | true => some (.tuple ⟨[.slice (some ⟨σ.next, 0, none⟩) T.length 1, .int .i64 (p : Int), .int .i64 e]⟩, σ.push ⟨2, 67, 4, flatT T⟩)
          | false => some (.tuple ⟨[.slice none 0 0, .int .i64 (p : Int), .int .i64 e]⟩, σ))
      | false => none)
    | _ => none)
  | false => (match Nat.beq g 86 with
    | true => (match xs with
      | [.string s] => some (.bool (wordB s), σ)
      | _ => none)
    | false => none)
theorem tokX_ok : CallOK Tryz.prog tokX := by
  intro g xs σ v σ' h
  unfold tokX at h
  split at h
  · rename_i hg
    have hg := Nat.eq_of_beq_eq_true hg
    subst hg
    split at h
    · rename_i s
      split at h
      · rename_i hs
        have hs := Nat.le_of_ble_eq_true hs
        obtain ⟨u, τ, hok, hq⟩ := scan_c σ s hs
        generalize scanS s = ts at h hq
        obtain ⟨T, p, e⟩ := ts
        simp only at h hq
        split at h
        · rename_i he
          have he := of_decide_eq_true he
          rcases hq with ⟨h0, _, _⟩ | ⟨h0, rfl, rfl⟩
          · exact absurd he h0
          · injection h with h
            injection h with h1 h2
            subst h1 h2
            exact hok
        · rename_i he
          have he := of_decide_eq_false he
          rcases hq with ⟨h0, rfl, rfl⟩ | ⟨h0, _, _⟩
          · injection h with h
            injection h with h1 h2
            subst h1 h2
            exact hok
          · exact absurd h0 he
      · cases h
    · cases h
  · split at h
    · rename_i hg
      have hg := Nat.eq_of_beq_eq_true hg
      subst hg
      split at h
      · rename_i s
        obtain ⟨u, τ, hok, rfl, rfl⟩ := word_c σ s
        injection h with h
        injection h with h1 h2
        subst h1 h2
        exact hok
      · cases h
    · cases h
theorem globW_of {ρ : Rn} {σ : AW} {w : World} (h : Rel ρ σ w) : GlobW w := fun hb => ⟨(h.glob hb).1, (h.glob hb).2.2⟩
theorem fl_map : ∀ {xs : List Value}, (∀ x ∈ xs, Fl x) → ∀ ρ : Rn, xs.map (ren ρ) = xs
  | [], _, _ => rfl
  | x :: l, h, ρ => by rw [List.map_cons, h x (by simp) ρ, fl_map (fun z hz => h z (List.mem_cons_of_mem _ hz)) ρ]
/-- A closed call, reckoned, in whatever memory. -/
theorem closed_c {X : CallA} (hX : CallOK Tryz.prog X) {n g : Nat} {xs : List Value} {p : Value → Bool} (hx : xs.all flatB = true) (h : comesTo (runA X Tryz.prog n g xs AW0) p = true) (σ : AW) : C Tryz.prog g xs σ fun v σ' => p v = true ∧ σ' = σ := by
  unfold comesTo at h
  split at h
  · rename_i v σ' hr
    rw [Bool.and_eq_true] at h
    obtain ⟨hent, hc⟩ := run_ok mixed named hX n g xs AW0 v σ' hr
    refine ⟨v, σ, ⟨hent, fun ρ w hR _ => ?_⟩, h.2, rfl⟩
    have hfl : ∀ x ∈ xs, Fl x := fun x hx' => flatB_fl (List.all_eq_true.1 hx x hx')
    have hm : ∀ ρ : Rn, xs.map (ren ρ) = xs := fun ρ => fl_map hfl ρ
    have := hc (fun k => (k, 0)) w (rel_none _ w (globW_of hR)) (fun x hx' => (hfl x hx').sc _)
    rw [hm] at this ⊢
    refine Calls.mono this ?_
    rintro e w' ⟨ρ', rfl, hst, _⟩
    have hb : Below w.heap.size w w' := ⟨hst.os, hst.tape, hst.output, hst.size, fun b hb => hst.same b hb (fun k hk => by
      have e : ∀ {α : Type} (d : α) (k : Nat), getN d [] k = d := fun d k => by cases k <;> rfl
      have : (AW0.get k).kind = 0 := by simp [AW.get, AW0, e, noBlk]
      exact absurd this hk.1)⟩
    exact ⟨ρ, by rw [flatB_fl h.1 ρ', flatB_fl h.1 ρ], step_below hR hb, (flatB_fl h.1).sc _⟩
  · cases h
/-- Is it true? -/
def isTrueV : Value → Bool
  | .bool b => b
  | _ => false
end Go.Proofs.YtailfiofcicloaaGreatDoor

namespace Go.Proofs.YtailfiofcicloaaGreatDoor

abbrev nV (n : Nat) : Value := .int .i64 (.ofNat n)
abbrev pV (k o : Nat) : Value := .pointer (some ⟨k, o, none⟩)
abbrev lV (k o l c : Nat) : Value := .slice (some ⟨k, o, none⟩) l c
set_option maxRecDepth 100000 in
/-- A call that is reckoned. -/
def syr0 : Ent := ⟨5, [.string ⟨#[97, 32, 43, 32, 98, 32, 42, 32, 99]⟩], ⟨0, []⟩, .tuple #[.agg #[nV 10, nV 0, .string ⟨#[43]⟩, .string ⟨#[]⟩, lV 122 0 2 4, .slice none 0 0], nV 0, nV 0], ⟨147, [
  [], 
  [[], [], [], [], [], [], [noBlk, noBlk, noBlk, ⟨1, 26, 1, [nV 5, nV 0, .string ⟨#[98]⟩, .string ⟨#[]⟩, .slice none 0 0, .slice none 0 0, nV 5, nV 0, .string ⟨#[99]⟩, .string ⟨#[]⟩, .slice none 0 0, .slice none 0 0]⟩], [noBlk, noBlk, ⟨1, 26, 1, [nV 5, nV 0, .string ⟨#[97]⟩, .string ⟨#[]⟩, .slice none 0 0, .slice none 0 0, nV 10, nV 0, .string ⟨#[42]⟩, .string ⟨#[]⟩, lV 115 0 2 4, .slice none 0 0]⟩]]]⟩⟩

/-- What is kept of its memory. -/
def syrkeep0 : List Nat := [115, 122]

set_option maxRecDepth 100000 in
/-- A call that is reckoned. -/
def syr1 : Ent := ⟨7, [.string ⟨#[115, 101, 108, 101, 99, 116, 32, 97, 32, 97, 115, 32, 120, 32, 102, 114, 111, 109, 32, 116]⟩], ⟨148, [
  [], 
  [[], [], [], [], [], [], [noBlk, noBlk, noBlk, ⟨1, 26, 1, [nV 5, nV 0, .string ⟨#[98]⟩, .string ⟨#[]⟩, .slice none 0 0, .slice none 0 0, nV 5, nV 0, .string ⟨#[99]⟩, .string ⟨#[]⟩, .slice none 0 0, .slice none 0 0]⟩], [noBlk, noBlk, ⟨1, 26, 1, [nV 5, nV 0, .string ⟨#[97]⟩, .string ⟨#[]⟩, .slice none 0 0, .slice none 0 0, nV 10, nV 0, .string ⟨#[42]⟩, .string ⟨#[]⟩, lV 115 0 2 4, .slice none 0 0]⟩]], 
  [[], [], [noBlk, noBlk, noBlk, ⟨1, 26, 0, [nV 10, nV 0, .string ⟨#[43]⟩, .string ⟨#[]⟩, lV 122 0 2 4, .slice none 0 0]⟩]]]⟩, .tuple #[.agg #[nV 1, .bool false, lV 244 0 1 2, lV 263 0 1 2, .slice none 0 0, .slice none 0 0, .slice none 0 0, .slice none 0 0, .int .i64 (.negSucc 0), .slice none 0 0], nV 0, nV 0], ⟨280, [
  [], 
  [[], [], [], [], [], [], [noBlk, noBlk, noBlk, ⟨1, 26, 1, [nV 5, nV 0, .string ⟨#[98]⟩, .string ⟨#[]⟩, .slice none 0 0, .slice none 0 0, nV 5, nV 0, .string ⟨#[99]⟩, .string ⟨#[]⟩, .slice none 0 0, .slice none 0 0]⟩], [noBlk, noBlk, ⟨1, 26, 1, [nV 5, nV 0, .string ⟨#[97]⟩, .string ⟨#[]⟩, .slice none 0 0, .slice none 0 0, nV 10, nV 0, .string ⟨#[42]⟩, .string ⟨#[]⟩, lV 115 0 2 4, .slice none 0 0]⟩]], 
  [[], [], [noBlk, noBlk, noBlk, ⟨1, 26, 0, [nV 10, nV 0, .string ⟨#[43]⟩, .string ⟨#[]⟩, lV 122 0 2 4, .slice none 0 0]⟩]], 
  [[], [], [], [], [], [], [noBlk, noBlk, noBlk, noBlk, ⟨1, 93, 1, [nV 5, nV 0, .string ⟨#[97]⟩, .string ⟨#[]⟩, .slice none 0 0, .slice none 0 0, .string ⟨#[120]⟩]⟩]], 
  [[noBlk, noBlk, noBlk, noBlk, noBlk, noBlk, noBlk, ⟨1, 47, 1, [nV 1, .string ⟨#[116]⟩, .bool false, .string ⟨#[116]⟩, .slice none 0 0, .slice none 0 0, .slice none 0 0]⟩]]]⟩⟩

/-- What is kept of its memory. -/
def syrkeep1 : List Nat := [115, 122, 147, 244, 263]

set_option maxRecDepth 100000 in
/-- A call that is reckoned. -/
def syr2 : Ent := ⟨8, [.string ⟨#[115, 107, 105, 112, 59, 32, 115, 105, 112, 59]⟩], ⟨281, [
  [], 
  [[], [], [], [], [], [], [noBlk, noBlk, noBlk, ⟨1, 26, 1, [nV 5, nV 0, .string ⟨#[98]⟩, .string ⟨#[]⟩, .slice none 0 0, .slice none 0 0, nV 5, nV 0, .string ⟨#[99]⟩, .string ⟨#[]⟩, .slice none 0 0, .slice none 0 0]⟩], [noBlk, noBlk, ⟨1, 26, 1, [nV 5, nV 0, .string ⟨#[97]⟩, .string ⟨#[]⟩, .slice none 0 0, .slice none 0 0, nV 10, nV 0, .string ⟨#[42]⟩, .string ⟨#[]⟩, lV 115 0 2 4, .slice none 0 0]⟩]], 
  [[], [], [noBlk, noBlk, noBlk, ⟨1, 26, 0, [nV 10, nV 0, .string ⟨#[43]⟩, .string ⟨#[]⟩, lV 122 0 2 4, .slice none 0 0]⟩]], 
  [[], [], [], [], [], [], [noBlk, noBlk, noBlk, noBlk, ⟨1, 93, 1, [nV 5, nV 0, .string ⟨#[97]⟩, .string ⟨#[]⟩, .slice none 0 0, .slice none 0 0, .string ⟨#[120]⟩]⟩]], 
  [[noBlk, noBlk, noBlk, noBlk, noBlk, noBlk, noBlk, ⟨1, 47, 1, [nV 1, .string ⟨#[116]⟩, .bool false, .string ⟨#[116]⟩, .slice none 0 0, .slice none 0 0, .slice none 0 0]⟩], [], [], [⟨1, 36, 0, [nV 1, .bool false, lV 244 0 1 2, lV 263 0 1 2, .slice none 0 0, .slice none 0 0, .slice none 0 0, .slice none 0 0, .int .i64 (.negSucc 0), .slice none 0 0]⟩]]]⟩, .tuple #[.agg #[.slice none 0 0, .slice none 0 0, .slice none 0 0], nV 6, nV 10], ⟨305, [
  [], 
  [[], [], [], [], [], [], [noBlk, noBlk, noBlk, ⟨1, 26, 1, [nV 5, nV 0, .string ⟨#[98]⟩, .string ⟨#[]⟩, .slice none 0 0, .slice none 0 0, nV 5, nV 0, .string ⟨#[99]⟩, .string ⟨#[]⟩, .slice none 0 0, .slice none 0 0]⟩], [noBlk, noBlk, ⟨1, 26, 1, [nV 5, nV 0, .string ⟨#[97]⟩, .string ⟨#[]⟩, .slice none 0 0, .slice none 0 0, nV 10, nV 0, .string ⟨#[42]⟩, .string ⟨#[]⟩, lV 115 0 2 4, .slice none 0 0]⟩]], 
  [[], [], [noBlk, noBlk, noBlk, ⟨1, 26, 0, [nV 10, nV 0, .string ⟨#[43]⟩, .string ⟨#[]⟩, lV 122 0 2 4, .slice none 0 0]⟩]], 
  [[], [], [], [], [], [], [noBlk, noBlk, noBlk, noBlk, ⟨1, 93, 1, [nV 5, nV 0, .string ⟨#[97]⟩, .string ⟨#[]⟩, .slice none 0 0, .slice none 0 0, .string ⟨#[120]⟩]⟩]], 
  [[noBlk, noBlk, noBlk, noBlk, noBlk, noBlk, noBlk, ⟨1, 47, 1, [nV 1, .string ⟨#[116]⟩, .bool false, .string ⟨#[116]⟩, .slice none 0 0, .slice none 0 0, .slice none 0 0]⟩], [], [], [⟨1, 36, 0, [nV 1, .bool false, lV 244 0 1 2, lV 263 0 1 2, .slice none 0 0, .slice none 0 0, .slice none 0 0, .slice none 0 0, .int .i64 (.negSucc 0), .slice none 0 0]⟩]]]⟩⟩

/-- What is kept of its memory. -/
def syrkeep2 : List Nat := [115, 122, 147, 244, 263, 280]

end Go.Proofs.YtailfiofcicloaaGreatDoor

namespace Go.Proofs.YtailfiofcicloaaGreatDoor

set_option maxRecDepth 1000000 in
theorem syr0_seg : segX Tryz.prog (orX tokX (tabX [])) 5000 syrkeep0 syr0 = true := by kernel_rfl

end Go.Proofs.YtailfiofcicloaaGreatDoor
