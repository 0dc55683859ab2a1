/- Tokens, in plain words: which stands at the front of bytes, and which tokens a text has. -/
import Derived.ProofKit
import Derived.Lib.Replace
import Derived.Lib.SplitLaws
namespace Go.Proofs.YtcnbbmgclphfdaaDoor

def letterB (c : UInt8) : Bool := (97 ≤ c.toNat && c.toNat ≤ 122) || (65 ≤ c.toNat && c.toNat ≤ 90) || c.toNat == 95
def digitB (c : UInt8) : Bool := 48 ≤ c.toNat && c.toNat ≤ 57
def blankB (c : UInt8) : Bool := c.toNat == 32 || c.toNat == 9 || c.toNat == 10 || c.toNat == 13
/-- How many bytes at the front have a property. -/
def runN (p : UInt8 → Bool) : List UInt8 → Nat
  | [] => 0
  | c :: r => if p c = true then runN p r + 1 else 0
/-- Digits as a number. -/
def numL (l : List UInt8) : Nat := l.foldl (fun n c => 10 * n + (c.toNat - 48)) 0
/-- A byte that may stand in a text. -/
def mayB (c : UInt8) : Bool := decide (32 ≤ c.toNat) || c.toNat == 10
/-- How far a text goes that is open, or not, and whether it is open there. -/
def qrun : Bool → List UInt8 → Nat × Bool
  | o, [] => (0, o)
  | o, c :: r => if c.toNat = 39 then ((qrun (!o) r).1 + 1, (qrun (!o) r).2) else if o = true then ((qrun true r).1 + 1, (qrun true r).2) else (0, false)
theorem qrun_le : ∀ (o : Bool) (l : List UInt8), (qrun o l).1 ≤ l.length
  | o, [] => Nat.le_refl _
  | o, c :: r => by
    unfold qrun
    split
    · have := qrun_le (!o) r; simp; omega
    · split
      · have := qrun_le true r; simp; omega
      · simp
theorem qrun_two {r : List UInt8} {c : UInt8} (h : c.toNat = 39) (h' : (qrun false (c :: r)).2 = false) : 2 ≤ (qrun false (c :: r)).1 := by
  rw [qrun, if_pos h] at h' ⊢
  cases r with
  | nil => simp [qrun] at h'
  | cons d q =>
    simp only [Bool.not_false]
    rw [qrun]
    split
    · simp
    · simp
/-- What stands between a text's two ends, each ' once. -/
def saidP (l : List UInt8) : List UInt8 := Lib.replaceAll ((l.take ((qrun false l).1 - 1)).drop 1) [39, 39] [39]
/-- The text at the front: what it says and how many bytes it has, or where it is wrong: as the program reads it. -/
def textP (l : List UInt8) : (List UInt8 × Nat) ⊕ Nat :=
  if (qrun false l).2 = true then .inr 0
  else if 1000 < (saidP l).length then .inr 0
  else if runN mayB (l.take (qrun false l).1) < (qrun false l).1 then .inr (runN mayB (l.take (qrun false l).1))
  else .inl (saidP l, (qrun false l).1)
/-- A token: its kind, its text, its number, its place. -/
abbrev Tk := Int × ByteArray × Int × Int
def marksL : List (List UInt8) := [[124, 124], [60, 62], [60, 61], [62, 61], [40], [41], [44], [59], [46], [42], [43], [45], [47], [37], [61], [60], [62], [123], [125], [58]]
/-- The token at the front (its kind, its text, its number, its bytes), or where it is wrong. -/
def oneC (c : UInt8) (r : List UInt8) : (Int × List UInt8 × Nat × Nat) ⊕ Nat :=
  if letterB c = true then (if 30 < runN (fun d => digitB d || letterB d) (c :: r) then .inr 0 else .inl (1, (c :: r).take (runN (fun d => digitB d || letterB d) (c :: r)), 0, runN (fun d => digitB d || letterB d) (c :: r)))
  else if digitB c = true then (if 18 < runN digitB (c :: r) then .inr 0 else .inl (2, (c :: r).take (runN digitB (c :: r)), numL ((c :: r).take (runN digitB (c :: r))), runN digitB (c :: r)))
  else if c.toNat = 39 then
    match textP (c :: r) with
    | .inl (b, n) => .inl (3, b, 0, n)
    | .inr k => .inr k
  else match marksL.find? (fun m => m.isPrefixOf (c :: r)) with
    | some m => .inl (4, m, 0, m.length)
    | none => .inr 0
def oneL : List UInt8 → (Int × List UInt8 × Nat × Nat) ⊕ Nat
  | [] => .inr 0
  | c :: r => oneC c r
/-- Tokens ahead of others. -/
def aheadT (out : List Tk) (r : List Tk × Nat × Int) : List Tk × Nat × Int := if r.2.2 = 0 then (out ++ r.1, 0, 0) else ([], r.2)
/-- The tokens of bytes that stand at a place, behind so many tokens; at most so many steps. -/
def scanF : Nat → List UInt8 → Nat → Nat → List Tk × Nat × Int
  | 0, _, _, _ => ([], 0, 1)
  | _ + 1, [], o, k => if 6000 ≤ k then ([], o, 8) else ([(0, ⟨#[]⟩, 0, (o : Int))], 0, 0)
  | f + 1, c :: r, o, k =>
    if blankB c = true then scanF f r (o + 1) k
    else if c.toNat = 45 ∧ r.head?.map UInt8.toNat = some 45 then scanF f ((c :: r).drop (runN (fun d => d.toNat != 10) (c :: r))) (o + runN (fun d => d.toNat != 10) (c :: r)) k
    else match oneL (c :: r) with
      | .inr n => ([], o + n, 10)
      | .inl (kind, t, n, len) => if 6000 ≤ k then ([], o, 8) else aheadT [(kind, ⟨t.toArray⟩, (n : Int), (o : Int))] (scanF f ((c :: r).drop len) (o + len) (k + 1))
/-- The tokens of a text. -/
def scanS (s : ByteArray) : List Tk × Nat × Int := if 20000 < s.size then ([], 0, 8) else scanF (s.size + 1) s.data.toList 0 0

theorem aheadT_nil (r : List Tk × Nat × Int) (h : r.2.2 = 0 → r.2.1 = 0) (h' : r.2.2 ≠ 0 → r.1 = []) : aheadT [] r = r := by
  obtain ⟨l, n, e⟩ := r
  unfold aheadT
  by_cases c : e = 0
  · subst c
    have : n = 0 := h rfl
    subst this; simp
  · have : l = [] := h' c
    subst this; simp [c]
theorem aheadT_add (a b : List Tk) (r : List Tk × Nat × Int) : aheadT a (aheadT b r) = aheadT (a ++ b) r := by
  obtain ⟨l, n, e⟩ := r
  unfold aheadT
  by_cases c : e = 0
  · simp [c]
  · simp [c]
theorem runN_le (p : UInt8 → Bool) : ∀ l : List UInt8, runN p l ≤ l.length
  | [] => Nat.le_refl _
  | c :: r => by
    have := runN_le p r
    unfold runN
    split <;> simp <;> omega
theorem runN_pos {p : UInt8 → Bool} {c : UInt8} {r : List UInt8} (h : p c = true) : 0 < runN p (c :: r) := by
  unfold runN; rw [if_pos h]; omega
theorem textP_len {c : UInt8} {r : List UInt8} {b : List UInt8} {n : Nat} (hc : c.toNat = 39) (h : textP (c :: r) = .inl (b, n)) : 0 < n ∧ n ≤ (c :: r).length := by
  unfold textP at h
  split at h
  · cases h
  · rename_i ho
    split at h
    · cases h
    · split at h
      · cases h
      · simp only [Sum.inl.injEq, Prod.mk.injEq] at h
        have h2 := qrun_two hc (by simpa using ho)
        have := qrun_le false (c :: r)
        omega
theorem marksL_pos : ∀ m ∈ marksL, 0 < m.length := by decide
theorem isPrefixOf_len {a l : List UInt8} (h : a.isPrefixOf l = true) : a.length ≤ l.length := (List.isPrefixOf_iff_prefix.1 h).length_le
/-- A token has bytes, and no more than there are. -/
theorem oneL_len {l : List UInt8} {kind : Int} {t : List UInt8} {n len : Nat} (h : oneL l = .inl (kind, t, n, len)) : 0 < len ∧ len ≤ l.length := by
  cases l with
  | nil => cases h
  | cons c r =>
    replace h : oneC c r = .inl (kind, t, n, len) := h
    unfold oneC at h
    split at h
    · rename_i hc
      split at h
      · cases h
      · simp only [Sum.inl.injEq, Prod.mk.injEq] at h
        obtain ⟨_, _, _, rfl⟩ := h
        exact ⟨runN_pos (by simp [hc]), runN_le _ _⟩
    · split at h
      · rename_i hc
        split at h
        · cases h
        · simp only [Sum.inl.injEq, Prod.mk.injEq] at h
          obtain ⟨_, _, _, rfl⟩ := h
          exact ⟨runN_pos hc, runN_le _ _⟩
      · split at h
        · split at h
          · rename_i b k e
            simp only [Sum.inl.injEq, Prod.mk.injEq] at h
            obtain ⟨_, _, _, rfl⟩ := h
            exact textP_len (by assumption) e
          · cases h
        · split at h
          · rename_i m e
            simp only [Sum.inl.injEq, Prod.mk.injEq] at h
            obtain ⟨_, _, _, rfl⟩ := h
            refine ⟨marksL_pos m (List.mem_of_find?_eq_some e), isPrefixOf_len ?_⟩
            have := List.find?_some e
            simpa using this
          · cases h
/-- More steps change nothing. -/
theorem scanF_fuel : ∀ (f g : Nat) (l : List UInt8) (o k : Nat), l.length < f → l.length < g → scanF f l o k = scanF g l o k
  | 0, _, _, _, _, h, _ => by omega
  | _ + 1, 0, _, _, _, _, h => by omega
  | f + 1, g + 1, [], _, _, _, _ => rfl
  | f + 1, g + 1, c :: r, o, k, h1, h2 => by
    simp only [List.length_cons] at h1 h2
    unfold scanF
    by_cases hb : blankB c = true
    · rw [if_pos hb, if_pos hb]
      exact scanF_fuel f g r _ _ (by omega) (by omega)
    · rw [if_neg hb, if_neg hb]
      by_cases hm : c.toNat = 45 ∧ r.head?.map UInt8.toNat = some 45
      · rw [if_pos hm, if_pos hm]
        have hp : 0 < runN (fun d => d.toNat != 10) (c :: r) := runN_pos (by rw [hm.1]; decide)
        exact scanF_fuel f g _ _ _ (by rw [List.length_drop, List.length_cons]; omega) (by rw [List.length_drop, List.length_cons]; omega)
      · rw [if_neg hm, if_neg hm]
        cases e : oneL (c :: r) with
        | inr n => rfl
        | inl p =>
          obtain ⟨kind, t, n, len⟩ := p
          have := oneL_len e
          simp only
          rw [scanF_fuel f g ((c :: r).drop len) _ _ (by rw [List.length_drop, List.length_cons]; omega) (by rw [List.length_drop, List.length_cons]; omega)]
/-- The tokens of what is left of a text. -/
def scanR (l : List UInt8) (o k : Nat) : List Tk × Nat × Int := scanF (l.length + 1) l o k
theorem scanR_nil (o k : Nat) : scanR [] o k = if 6000 ≤ k then ([], o, 8) else ([(0, ⟨#[]⟩, 0, (o : Int))], 0, 0) := rfl
theorem scanR_blank {c : UInt8} {r : List UInt8} {o k : Nat} (h : blankB c = true) : scanR (c :: r) o k = scanR r (o + 1) k := by
  show scanF (r.length + 1 + 1) (c :: r) o k = _
  unfold scanF
  rw [if_pos h]
  rfl
theorem scanR_line {c d : UInt8} {r : List UInt8} {o k : Nat} (h : c.toNat = 45) (h' : d.toNat = 45) :
    scanR (c :: d :: r) o k = scanR ((c :: d :: r).drop (runN (fun d => d.toNat != 10) (c :: d :: r))) (o + runN (fun d => d.toNat != 10) (c :: d :: r)) k := by
  have hb : ¬ blankB c = true := by simp [blankB, h]
  have hp : 0 < runN (fun d => d.toNat != 10) (c :: d :: r) := runN_pos (by rw [h]; decide)
  show scanF ((c :: d :: r).length + 1) (c :: d :: r) o k = _
  unfold scanF
  rw [if_neg hb, if_pos ⟨h, by simp [h']⟩]
  exact scanF_fuel _ _ _ _ _ (by rw [List.length_drop, List.length_cons]; omega) (Nat.lt_succ_self _)
theorem scanR_one {c : UInt8} {r : List UInt8} {o k : Nat} (h : blankB c = false) (h' : ¬ (c.toNat = 45 ∧ r.head?.map UInt8.toNat = some 45)) :
    scanR (c :: r) o k = match oneL (c :: r) with
      | .inr n => ([], o + n, 10)
      | .inl (kind, t, n, len) => if 6000 ≤ k then ([], o, 8) else aheadT [(kind, ⟨t.toArray⟩, (n : Int), (o : Int))] (scanR ((c :: r).drop len) (o + len) (k + 1)) := by
  show scanF ((c :: r).length + 1) (c :: r) o k = _
  unfold scanF
  rw [if_neg (by rw [h]; decide), if_neg h']
  cases e : oneL (c :: r) with
  | inr n => rfl
  | inl p =>
    obtain ⟨kind, t, n, len⟩ := p
    have := oneL_len e
    simp only
    rw [scanF_fuel (c :: r).length (((c :: r).drop len).length + 1) _ _ _ (by rw [List.length_drop, List.length_cons]; omega) (Nat.lt_succ_self _)]
    rfl
theorem scanS_eq {s : ByteArray} (h : s.size ≤ 20000) : scanS s = scanR s.data.toList 0 0 := by
  unfold scanS
  rw [if_neg (by omega)]
  rfl

/-- The words of the language. -/
def wordsL : List ByteArray := [⟨#[97, 108, 108]⟩, ⟨#[97, 110, 100]⟩, ⟨#[97, 115]⟩, ⟨#[98, 101, 103, 105, 110]⟩, ⟨#[98, 101, 103, 105, 110, 115]⟩, ⟨#[98, 101, 116, 119, 101, 101, 110]⟩, ⟨#[98, 121]⟩, ⟨#[99, 97, 108, 108]⟩, ⟨#[99, 97, 115, 101]⟩, ⟨#[99, 97, 116, 99, 104]⟩, ⟨#[99, 111, 109, 109, 105, 116]⟩, ⟨#[100, 101, 108, 101, 116, 101]⟩, ⟨#[100, 101, 115, 99]⟩, ⟨#[100, 105, 115, 116, 105, 110, 99, 116]⟩, ⟨#[101, 108, 115, 101]⟩, ⟨#[101, 110, 100]⟩, ⟨#[101, 120, 99, 101, 112, 116]⟩, ⟨#[101, 120, 105, 115, 116, 115]⟩, ⟨#[102, 111, 114]⟩, ⟨#[102, 114, 111, 109]⟩, ⟨#[103, 114, 111, 117, 112]⟩, ⟨#[104, 97, 118, 105, 110, 103]⟩, ⟨#[104, 105, 100, 101]⟩, ⟨#[105, 102]⟩, ⟨#[105, 110]⟩, ⟨#[105, 110, 112, 117, 116]⟩, ⟨#[105, 110, 115, 101, 114, 116]⟩, ⟨#[105, 110, 116]⟩, ⟨#[105, 110, 116, 111]⟩, ⟨#[105, 110, 116, 101, 114, 115, 101, 99, 116]⟩, ⟨#[105, 115]⟩, ⟨#[106, 111, 105, 110]⟩, ⟨#[107, 101, 121]⟩, ⟨#[108, 101, 102, 116]⟩, ⟨#[108, 101, 118, 101, 108]⟩, ⟨#[108, 101, 118, 101, 108, 115]⟩, ⟨#[108, 105, 109, 105, 116]⟩, ⟨#[110, 111, 116]⟩, ⟨#[110, 117, 108, 108]⟩, ⟨#[111, 110]⟩, ⟨#[111, 114]⟩, ⟨#[111, 114, 100, 101, 114]⟩, ⟨#[112, 114, 105, 110, 99, 105, 112, 97, 108]⟩, ⟨#[112, 114, 105, 110, 116]⟩, ⟨#[112, 114, 111, 99]⟩, ⟨#[114, 97, 105, 115, 101]⟩, ⟨#[114, 111, 108, 108, 98, 97, 99, 107]⟩, ⟨#[114, 111, 119, 115]⟩, ⟨#[115, 101, 108, 101, 99, 116]⟩, ⟨#[115, 101, 116]⟩, ⟨#[116, 97, 98, 108, 101]⟩, ⟨#[116, 101, 120, 116]⟩, ⟨#[116, 104, 101, 110]⟩, ⟨#[116, 114, 117, 101]⟩, ⟨#[116, 114, 121]⟩, ⟨#[102, 97, 108, 115, 101]⟩, ⟨#[98, 111, 111, 108]⟩, ⟨#[117, 110, 105, 111, 110]⟩, ⟨#[117, 112, 100, 97, 116, 101]⟩, ⟨#[118, 97, 108, 117, 101, 115]⟩, ⟨#[118, 97, 114]⟩, ⟨#[118, 105, 115, 105, 98, 108, 101]⟩, ⟨#[119, 104, 101, 110]⟩, ⟨#[119, 104, 101, 114, 101]⟩, ⟨#[119, 104, 105, 108, 101]⟩, ⟨#[99, 104, 97, 110, 110, 101, 108]⟩, ⟨#[115, 107, 105, 112]⟩]
def wordB (s : ByteArray) : Bool := wordsL.any fun t => decide (t = s)
def marksB : List ByteArray := marksL.map fun m => ⟨m.toArray⟩
/-- Line and column behind bytes. -/
def lineC (l : List UInt8) : Nat × Nat := l.foldl (fun p c => if c.toNat = 10 then (p.1 + 1, 1) else (p.1, p.2 + 1)) (1, 1)
/-- A place within a text. -/
def placeN (s : ByteArray) (k : Int) : Nat := if k < 0 then 0 else min k.toNat s.size
def lineS (s : ByteArray) (k : Int) : Nat × Nat := lineC (s.data.toList.take (placeN s k))
theorem lineC_snoc (l : List UInt8) (c : UInt8) : lineC (l ++ [c]) = if c.toNat = 10 then ((lineC l).1 + 1, 1) else ((lineC l).1, (lineC l).2 + 1) := by
  simp [lineC, List.foldl_append]
theorem lineC_le (l : List UInt8) : (lineC l).1 ≤ l.length + 1 ∧ (lineC l).2 ≤ l.length + 2 := by
  have : ∀ (l : List UInt8) (p : Nat × Nat), (l.foldl (fun p c => if c.toNat = 10 then (p.1 + 1, 1) else (p.1, p.2 + 1)) p).1 ≤ l.length + p.1 ∧ (l.foldl (fun p c => if c.toNat = 10 then (p.1 + 1, 1) else (p.1, p.2 + 1)) p).2 ≤ l.length + p.2 + 1 := by
    intro l
    induction l with
    | nil => intro p; exact ⟨by simp, by simp⟩
    | cons c r ih =>
      intro p
      simp only [List.foldl_cons, List.length_cons]
      split
      · have := ih (p.1 + 1, 1); simp only at this; omega
      · have := ih (p.1, p.2 + 1); simp only at this; omega
  have := this l (1, 1)
  simp only at this
  unfold lineC
  omega
theorem placeN_le (s : ByteArray) (k : Int) : placeN s k ≤ s.size := by
  unfold placeN
  split
  · omega
  · exact Nat.min_le_right _ _

end Go.Proofs.YtcnbbmgclphfdaaDoor
