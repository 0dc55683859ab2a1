/- Scan and Word, as they are known, for the reckoning of closed runs. The calls that cordonlaw06.alive is reckoned by. Calls of cordonlaw06.alive, reckoned. Calls of cordonlaw06.alive, reckoned. -/
import Derived.Test.YtckidlbmoalomaaGreatDoorJ30
import Derived.Test.YtckidlbmoalomaaGreatDoorJ19
import Derived.KernelRfl


namespace Go.Proofs.YtckidlbmoalomaaGreatDoor
open Go.RowKit

set_option maxRecDepth 100000 in
theorem names_all : (Tryz.prog.funcs.toList.all fun fn => !(fn.name == "runtime.NumGoroutine")) = true := by kernel_rfl
theorem named (g : Nat) (fn : Func) (h : Tryz.prog.funcs[g]? = some fn) : (fn.name == "runtime.NumGoroutine") = false := by
  have := List.all_eq_true.1 names_all fn (by rw [Array.mem_toList_iff]; exact Array.mem_of_getElem? h)
  simpa using this
def tokX : CallA := fun g xs σ => match Nat.beq g 22 with
  | true => (match xs with
    | [.string s] => (match Nat.ble s.size 1000000 with
      | true => (match scanS s with
        | (T, p, e) => match decide (e = 0) with
          | true => some (.tuple ⟨[.slice (some ⟨σ.next, 0, none⟩) T.length 1, .int .i64 (p : Int), .int .i64 e]⟩, σ.push ⟨2, 72, 4, flatT T⟩)
          | false => some (.tuple ⟨[.slice none 0 0, .int .i64 (p : Int), .int .i64 e]⟩, σ))
      | false => none)
    | _ => none)
  | false => (match Nat.beq g 85 with
    | true => (match xs with
      | [.string s] => some (.bool (wordB s), σ)
      | _ => none)
    | false => none)
theorem tokX_ok : CallOK Tryz.prog tokX := by
  intro g xs σ v σ' h
  unfold tokX at h
  split at h
  · rename_i hg
    have hg := Nat.eq_of_beq_eq_true hg
    subst hg
    split at h
    · rename_i s
      split at h
      · rename_i hs
        have hs := Nat.le_of_ble_eq_true hs
        obtain ⟨u, τ, hok, hq⟩ := scan_c σ s hs
        generalize scanS s = ts at h hq
        obtain ⟨T, p, e⟩ := ts
        simp only at h hq
        split at h
        · rename_i he
          have he := of_decide_eq_true he
          rcases hq with ⟨h0, _, _⟩ | ⟨h0, rfl, rfl⟩
          · exact absurd he h0
          · injection h with h
            injection h with h1 h2
            subst h1 h2
            exact hok
        · rename_i he
          have he := of_decide_eq_false he
          rcases hq with ⟨h0, rfl, rfl⟩ | ⟨h0, _, _⟩
          · injection h with h
            injection h with h1 h2
            subst h1 h2
            exact hok
          · exact absurd h0 he
      · cases h
    · cases h
  · split at h
    · rename_i hg
      have hg := Nat.eq_of_beq_eq_true hg
      subst hg
      split at h
      · rename_i s
        obtain ⟨u, τ, hok, rfl, rfl⟩ := word_c σ s
        injection h with h
        injection h with h1 h2
        subst h1 h2
        exact hok
      · cases h
    · cases h
theorem globW_of {ρ : Rn} {σ : AW} {w : World} (h : Rel ρ σ w) : GlobW w := fun hb => ⟨(h.glob hb).1, (h.glob hb).2.2⟩
theorem fl_map : ∀ {xs : List Value}, (∀ x ∈ xs, Fl x) → ∀ ρ : Rn, xs.map (ren ρ) = xs
  | [], _, _ => rfl
  | x :: l, h, ρ => by rw [List.map_cons, h x (by simp) ρ, fl_map (fun z hz => h z (List.mem_cons_of_mem _ hz)) ρ]
theorem closed_c {X : CallA} (hX : CallOK Tryz.prog X) {n g : Nat} {xs : List Value} {p : Value → Bool} (hx : xs.all flatB = true) (h : comesTo (runA X Tryz.prog n g xs AW0) p = true) (σ : AW) : C Tryz.prog g xs σ fun v σ' => p v = true ∧ σ' = σ := by
  unfold comesTo at h
  split at h
  · rename_i v σ' hr
    rw [Bool.and_eq_true] at h
    obtain ⟨hent, hc⟩ := run_ok mixed named hX n g xs AW0 v σ' hr
    refine ⟨v, σ, ⟨hent, fun ρ w hR _ => ?_⟩, h.2, rfl⟩
    have hfl : ∀ x ∈ xs, Fl x := fun x hx' => flatB_fl (List.all_eq_true.1 hx x hx')
    have hm : ∀ ρ : Rn, xs.map (ren ρ) = xs := fun ρ => fl_map hfl ρ
    have := hc (fun k => (k, 0)) w (rel_none _ w (globW_of hR)) (fun x hx' => (hfl x hx').sc _)
    rw [hm] at this ⊢
    refine Calls.mono this ?_
    rintro e w' ⟨ρ', rfl, hst, _⟩
    have hb : Below w.heap.size w w' := ⟨hst.os, hst.tape, hst.output, hst.size, fun b hb => hst.same b hb (fun k hk => by
      have e : ∀ {α : Type} (d : α) (k : Nat), getN d [] k = d := fun d k => by cases k <;> rfl
      have : (AW0.get k).kind = 0 := by simp [AW.get, AW0, e, noBlk]
      exact absurd this hk.1)⟩
    exact ⟨ρ, by rw [flatB_fl h.1 ρ', flatB_fl h.1 ρ], step_below hR hb, (flatB_fl h.1).sc _⟩
  · cases h
def isTrueV : Value → Bool
  | .bool b => b
  | _ => false
end Go.Proofs.YtckidlbmoalomaaGreatDoor


namespace Go.Proofs.YtckidlbmoalomaaGreatDoor

abbrev nV (n : Nat) : Value := .int .i64 (.ofNat n)
abbrev lV (k o l c : Nat) : Value := .slice (some ⟨k, o, none⟩) l c
set_option maxRecDepth 100000 in
def syj0 : Ent := ⟨8, [.string ⟨#[97, 32, 43, 32, 98, 32, 42, 32, 99]⟩], ⟨0, []⟩, .tuple #[.agg #[nV 10, nV 0, .string ⟨#[43]⟩, .string ⟨#[]⟩, lV 122 0 2 4, .slice none 0 0], nV 0, nV 0], ⟨147, [
  [], 
  [[], [], [], [], [], [], [noBlk, noBlk, noBlk, ⟨1, 37, 1, [nV 5, nV 0, .string ⟨#[98]⟩, .string ⟨#[]⟩, .slice none 0 0, .slice none 0 0, nV 5, nV 0, .string ⟨#[99]⟩, .string ⟨#[]⟩, .slice none 0 0, .slice none 0 0]⟩], [noBlk, noBlk, ⟨1, 37, 1, [nV 5, nV 0, .string ⟨#[97]⟩, .string ⟨#[]⟩, .slice none 0 0, .slice none 0 0, nV 10, nV 0, .string ⟨#[42]⟩, .string ⟨#[]⟩, lV 115 0 2 4, .slice none 0 0]⟩]]]⟩⟩

def syjkeep0 : List Nat := [115, 122]

set_option maxRecDepth 100000 in
def syj1 : Ent := ⟨9, [.string ⟨#[115, 101, 108, 101, 99, 116, 32, 97, 32, 97, 115, 32, 120, 32, 102, 114, 111, 109, 32, 116]⟩], ⟨148, [
  [], 
  [[], [], [], [], [], [], [noBlk, noBlk, noBlk, ⟨1, 37, 1, [nV 5, nV 0, .string ⟨#[98]⟩, .string ⟨#[]⟩, .slice none 0 0, .slice none 0 0, nV 5, nV 0, .string ⟨#[99]⟩, .string ⟨#[]⟩, .slice none 0 0, .slice none 0 0]⟩], [noBlk, noBlk, ⟨1, 37, 1, [nV 5, nV 0, .string ⟨#[97]⟩, .string ⟨#[]⟩, .slice none 0 0, .slice none 0 0, nV 10, nV 0, .string ⟨#[42]⟩, .string ⟨#[]⟩, lV 115 0 2 4, .slice none 0 0]⟩]], 
  [[], [], [noBlk, noBlk, noBlk, ⟨1, 37, 0, [nV 10, nV 0, .string ⟨#[43]⟩, .string ⟨#[]⟩, lV 122 0 2 4, .slice none 0 0]⟩]]]⟩, .tuple #[.agg #[nV 1, .bool false, lV 244 0 1 2, lV 263 0 1 2, .slice none 0 0, .slice none 0 0, .slice none 0 0, .slice none 0 0, .int .i64 (.negSucc 0), .slice none 0 0], nV 0, nV 0], ⟨280, [
  [], 
  [[], [], [], [], [], [], [noBlk, noBlk, noBlk, ⟨1, 37, 1, [nV 5, nV 0, .string ⟨#[98]⟩, .string ⟨#[]⟩, .slice none 0 0, .slice none 0 0, nV 5, nV 0, .string ⟨#[99]⟩, .string ⟨#[]⟩, .slice none 0 0, .slice none 0 0]⟩], [noBlk, noBlk, ⟨1, 37, 1, [nV 5, nV 0, .string ⟨#[97]⟩, .string ⟨#[]⟩, .slice none 0 0, .slice none 0 0, nV 10, nV 0, .string ⟨#[42]⟩, .string ⟨#[]⟩, lV 115 0 2 4, .slice none 0 0]⟩]], 
  [[], [], [noBlk, noBlk, noBlk, ⟨1, 37, 0, [nV 10, nV 0, .string ⟨#[43]⟩, .string ⟨#[]⟩, lV 122 0 2 4, .slice none 0 0]⟩]], 
  [[], [], [], [], [], [], [noBlk, noBlk, noBlk, noBlk, ⟨1, 105, 1, [nV 5, nV 0, .string ⟨#[97]⟩, .string ⟨#[]⟩, .slice none 0 0, .slice none 0 0, .string ⟨#[120]⟩]⟩]], 
  [[noBlk, noBlk, noBlk, noBlk, noBlk, noBlk, noBlk, ⟨1, 48, 1, [nV 1, .string ⟨#[116]⟩, .bool false, .string ⟨#[116]⟩, .slice none 0 0, .slice none 0 0, .slice none 0 0]⟩]]]⟩⟩

def syjkeep1 : List Nat := [115, 122, 147, 244, 263]

set_option maxRecDepth 100000 in
def syj2 : Ent := ⟨5, [.string ⟨#[115, 107, 105, 112, 59, 32, 115, 105, 112, 59]⟩], ⟨281, [
  [], 
  [[], [], [], [], [], [], [noBlk, noBlk, noBlk, ⟨1, 37, 1, [nV 5, nV 0, .string ⟨#[98]⟩, .string ⟨#[]⟩, .slice none 0 0, .slice none 0 0, nV 5, nV 0, .string ⟨#[99]⟩, .string ⟨#[]⟩, .slice none 0 0, .slice none 0 0]⟩], [noBlk, noBlk, ⟨1, 37, 1, [nV 5, nV 0, .string ⟨#[97]⟩, .string ⟨#[]⟩, .slice none 0 0, .slice none 0 0, nV 10, nV 0, .string ⟨#[42]⟩, .string ⟨#[]⟩, lV 115 0 2 4, .slice none 0 0]⟩]], 
  [[], [], [noBlk, noBlk, noBlk, ⟨1, 37, 0, [nV 10, nV 0, .string ⟨#[43]⟩, .string ⟨#[]⟩, lV 122 0 2 4, .slice none 0 0]⟩]], 
  [[], [], [], [], [], [], [noBlk, noBlk, noBlk, noBlk, ⟨1, 105, 1, [nV 5, nV 0, .string ⟨#[97]⟩, .string ⟨#[]⟩, .slice none 0 0, .slice none 0 0, .string ⟨#[120]⟩]⟩]], 
  [[noBlk, noBlk, noBlk, noBlk, noBlk, noBlk, noBlk, ⟨1, 48, 1, [nV 1, .string ⟨#[116]⟩, .bool false, .string ⟨#[116]⟩, .slice none 0 0, .slice none 0 0, .slice none 0 0]⟩], [], [], [⟨1, 44, 0, [nV 1, .bool false, lV 244 0 1 2, lV 263 0 1 2, .slice none 0 0, .slice none 0 0, .slice none 0 0, .slice none 0 0, .int .i64 (.negSucc 0), .slice none 0 0]⟩]]]⟩, .tuple #[.agg #[.slice none 0 0, .slice none 0 0, .slice none 0 0], nV 6, nV 10], ⟨305, [
  [], 
  [[], [], [], [], [], [], [noBlk, noBlk, noBlk, ⟨1, 37, 1, [nV 5, nV 0, .string ⟨#[98]⟩, .string ⟨#[]⟩, .slice none 0 0, .slice none 0 0, nV 5, nV 0, .string ⟨#[99]⟩, .string ⟨#[]⟩, .slice none 0 0, .slice none 0 0]⟩], [noBlk, noBlk, ⟨1, 37, 1, [nV 5, nV 0, .string ⟨#[97]⟩, .string ⟨#[]⟩, .slice none 0 0, .slice none 0 0, nV 10, nV 0, .string ⟨#[42]⟩, .string ⟨#[]⟩, lV 115 0 2 4, .slice none 0 0]⟩]], 
  [[], [], [noBlk, noBlk, noBlk, ⟨1, 37, 0, [nV 10, nV 0, .string ⟨#[43]⟩, .string ⟨#[]⟩, lV 122 0 2 4, .slice none 0 0]⟩]], 
  [[], [], [], [], [], [], [noBlk, noBlk, noBlk, noBlk, ⟨1, 105, 1, [nV 5, nV 0, .string ⟨#[97]⟩, .string ⟨#[]⟩, .slice none 0 0, .slice none 0 0, .string ⟨#[120]⟩]⟩]], 
  [[noBlk, noBlk, noBlk, noBlk, noBlk, noBlk, noBlk, ⟨1, 48, 1, [nV 1, .string ⟨#[116]⟩, .bool false, .string ⟨#[116]⟩, .slice none 0 0, .slice none 0 0, .slice none 0 0]⟩], [], [], [⟨1, 44, 0, [nV 1, .bool false, lV 244 0 1 2, lV 263 0 1 2, .slice none 0 0, .slice none 0 0, .slice none 0 0, .slice none 0 0, .int .i64 (.negSucc 0), .slice none 0 0]⟩]]]⟩⟩

def syjkeep2 : List Nat := [115, 122, 147, 244, 263, 280]

end Go.Proofs.YtckidlbmoalomaaGreatDoor


namespace Go.Proofs.YtckidlbmoalomaaGreatDoor

set_option maxRecDepth 1000000 in
theorem syj0_seg : segX Tryz.prog (orX tokX (tabX [])) 5000 syjkeep0 syj0 = true := by kernel_rfl

end Go.Proofs.YtckidlbmoalomaaGreatDoor


namespace Go.Proofs.YtckidlbmoalomaaGreatDoor

set_option maxRecDepth 1000000 in
theorem syj1_seg : segX Tryz.prog (orX tokX (tabX [syj0])) 5000 syjkeep1 syj1 = true := by kernel_rfl
set_option maxRecDepth 1000000 in
theorem syj2_seg : segX Tryz.prog (orX tokX (tabX [syj0, syj1])) 5000 syjkeep2 syj2 = true := by kernel_rfl

end Go.Proofs.YtckidlbmoalomaaGreatDoor
