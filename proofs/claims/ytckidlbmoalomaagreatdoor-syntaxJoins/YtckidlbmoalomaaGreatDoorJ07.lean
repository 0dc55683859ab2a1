/- Tokens, in plain words: which stands at the front of bytes, and which tokens a text has. The program's reader of tokens (package syntax), in plain words: functions over the tokens that are left, the place and the error. How deep a thing stands is the number of its Knot: all recursion goes through deeper. Values with their slices' elements: what a value reads as, in the reckoning's memory. The program's reader in the reckoning's memory. -/
import Derived.ProofKit
import Derived.Lib.Replace
import Derived.Lib.SplitLaws
import Derived.Test.YtckidlbmoalomaaGreatDoorJ06


namespace Go.Proofs.YtckidlbmoalomaaGreatDoor

def letterB (c : UInt8) : Bool := (97 ≤ c.toNat && c.toNat ≤ 122) || (65 ≤ c.toNat && c.toNat ≤ 90) || c.toNat == 95
def digitB (c : UInt8) : Bool := 48 ≤ c.toNat && c.toNat ≤ 57
def blankB (c : UInt8) : Bool := c.toNat == 32 || c.toNat == 9 || c.toNat == 10 || c.toNat == 13
def runN (p : UInt8 → Bool) : List UInt8 → Nat
  | [] => 0
  | c :: r => if p c = true then runN p r + 1 else 0
def numL (l : List UInt8) : Nat := l.foldl (fun n c => 10 * n + (c.toNat - 48)) 0
def mayB (c : UInt8) : Bool := decide (32 ≤ c.toNat) || c.toNat == 10
def qrun : Bool → List UInt8 → Nat × Bool
  | o, [] => (0, o)
  | o, c :: r => if c.toNat = 39 then ((qrun (!o) r).1 + 1, (qrun (!o) r).2) else if o = true then ((qrun true r).1 + 1, (qrun true r).2) else (0, false)
theorem qrun_le : ∀ (o : Bool) (l : List UInt8), (qrun o l).1 ≤ l.length
  | o, [] => Nat.le_refl _
  | o, c :: r => by
    unfold qrun
    split
    · have := qrun_le (!o) r; simp; omega
    · split
      · have := qrun_le true r; simp; omega
      · simp
theorem qrun_two {r : List UInt8} {c : UInt8} (h : c.toNat = 39) (h' : (qrun false (c :: r)).2 = false) : 2 ≤ (qrun false (c :: r)).1 := by
  rw [qrun, if_pos h] at h' ⊢
  cases r with
  | nil => simp [qrun] at h'
  | cons d q =>
    simp only [Bool.not_false]
    rw [qrun]
    split
    · simp
    · simp
def saidP (l : List UInt8) : List UInt8 := Lib.replaceAll ((l.take ((qrun false l).1 - 1)).drop 1) [39, 39] [39]
def textP (l : List UInt8) : (List UInt8 × Nat) ⊕ Nat :=
  if (qrun false l).2 = true then .inr 0
  else if 1000 < (saidP l).length then .inr 0
  else if runN mayB (l.take (qrun false l).1) < (qrun false l).1 then .inr (runN mayB (l.take (qrun false l).1))
  else .inl (saidP l, (qrun false l).1)
abbrev Tk := Int × ByteArray × Int × Int
def marksL : List (List UInt8) := [[124, 124], [60, 62], [60, 61], [62, 61], [40], [41], [44], [59], [46], [42], [43], [45], [47], [37], [61], [60], [62], [123], [125], [58]]
def oneC (c : UInt8) (r : List UInt8) : (Int × List UInt8 × Nat × Nat) ⊕ Nat :=
  if letterB c = true then (if 30 < runN (fun d => digitB d || letterB d) (c :: r) then .inr 0 else .inl (1, (c :: r).take (runN (fun d => digitB d || letterB d) (c :: r)), 0, runN (fun d => digitB d || letterB d) (c :: r)))
  else if digitB c = true then (if 18 < runN digitB (c :: r) then .inr 0 else .inl (2, (c :: r).take (runN digitB (c :: r)), numL ((c :: r).take (runN digitB (c :: r))), runN digitB (c :: r)))
  else if c.toNat = 39 then
    match textP (c :: r) with
    | .inl (b, n) => .inl (3, b, 0, n)
    | .inr k => .inr k
  else match marksL.find? (fun m => m.isPrefixOf (c :: r)) with
    | some m => .inl (4, m, 0, m.length)
    | none => .inr 0
def oneL : List UInt8 → (Int × List UInt8 × Nat × Nat) ⊕ Nat
  | [] => .inr 0
  | c :: r => oneC c r
def aheadT (out : List Tk) (r : List Tk × Nat × Int) : List Tk × Nat × Int := if r.2.2 = 0 then (out ++ r.1, 0, 0) else ([], r.2)
def scanF : Nat → List UInt8 → Nat → Nat → List Tk × Nat × Int
  | 0, _, _, _ => ([], 0, 1)
  | _ + 1, [], o, k => if 6000 ≤ k then ([], o, 8) else ([(0, ⟨#[]⟩, 0, (o : Int))], 0, 0)
  | f + 1, c :: r, o, k =>
    if blankB c = true then scanF f r (o + 1) k
    else if c.toNat = 45 ∧ r.head?.map UInt8.toNat = some 45 then scanF f ((c :: r).drop (runN (fun d => d.toNat != 10) (c :: r))) (o + runN (fun d => d.toNat != 10) (c :: r)) k
    else match oneL (c :: r) with
      | .inr n => ([], o + n, 10)
      | .inl (kind, t, n, len) => if 6000 ≤ k then ([], o, 8) else aheadT [(kind, ⟨t.toArray⟩, (n : Int), (o : Int))] (scanF f ((c :: r).drop len) (o + len) (k + 1))
def scanS (s : ByteArray) : List Tk × Nat × Int := if 20000 < s.size then ([], 0, 8) else scanF (s.size + 1) s.data.toList 0 0

theorem aheadT_nil (r : List Tk × Nat × Int) (h : r.2.2 = 0 → r.2.1 = 0) (h' : r.2.2 ≠ 0 → r.1 = []) : aheadT [] r = r := by
  obtain ⟨l, n, e⟩ := r
  unfold aheadT
  by_cases c : e = 0
  · subst c
    have : n = 0 := h rfl
    subst this; simp
  · have : l = [] := h' c
    subst this; simp [c]
theorem aheadT_add (a b : List Tk) (r : List Tk × Nat × Int) : aheadT a (aheadT b r) = aheadT (a ++ b) r := by
  obtain ⟨l, n, e⟩ := r
  unfold aheadT
  by_cases c : e = 0
  · simp [c]
  · simp [c]
theorem runN_le (p : UInt8 → Bool) : ∀ l : List UInt8, runN p l ≤ l.length
  | [] => Nat.le_refl _
  | c :: r => by
    have := runN_le p r
    unfold runN
    split <;> simp <;> omega
theorem runN_pos {p : UInt8 → Bool} {c : UInt8} {r : List UInt8} (h : p c = true) : 0 < runN p (c :: r) := by
  unfold runN; rw [if_pos h]; omega
theorem textP_len {c : UInt8} {r : List UInt8} {b : List UInt8} {n : Nat} (hc : c.toNat = 39) (h : textP (c :: r) = .inl (b, n)) : 0 < n ∧ n ≤ (c :: r).length := by
  unfold textP at h
  split at h
  · cases h
  · rename_i ho
    split at h
    · cases h
    · split at h
      · cases h
      · simp only [Sum.inl.injEq, Prod.mk.injEq] at h
        have h2 := qrun_two hc (by simpa using ho)
        have := qrun_le false (c :: r)
        omega
theorem marksL_pos : ∀ m ∈ marksL, 0 < m.length := by decide
theorem isPrefixOf_len {a l : List UInt8} (h : a.isPrefixOf l = true) : a.length ≤ l.length := (List.isPrefixOf_iff_prefix.1 h).length_le
theorem oneL_len {l : List UInt8} {kind : Int} {t : List UInt8} {n len : Nat} (h : oneL l = .inl (kind, t, n, len)) : 0 < len ∧ len ≤ l.length := by
  cases l with
  | nil => cases h
  | cons c r =>
    replace h : oneC c r = .inl (kind, t, n, len) := h
    unfold oneC at h
    split at h
    · rename_i hc
      split at h
      · cases h
      · simp only [Sum.inl.injEq, Prod.mk.injEq] at h
        obtain ⟨_, _, _, rfl⟩ := h
        exact ⟨runN_pos (by simp [hc]), runN_le _ _⟩
    · split at h
      · rename_i hc
        split at h
        · cases h
        · simp only [Sum.inl.injEq, Prod.mk.injEq] at h
          obtain ⟨_, _, _, rfl⟩ := h
          exact ⟨runN_pos hc, runN_le _ _⟩
      · split at h
        · split at h
          · rename_i b k e
            simp only [Sum.inl.injEq, Prod.mk.injEq] at h
            obtain ⟨_, _, _, rfl⟩ := h
            exact textP_len (by assumption) e
          · cases h
        · split at h
          · rename_i m e
            simp only [Sum.inl.injEq, Prod.mk.injEq] at h
            obtain ⟨_, _, _, rfl⟩ := h
            refine ⟨marksL_pos m (List.mem_of_find?_eq_some e), isPrefixOf_len ?_⟩
            have := List.find?_some e
            simpa using this
          · cases h
theorem scanF_fuel : ∀ (f g : Nat) (l : List UInt8) (o k : Nat), l.length < f → l.length < g → scanF f l o k = scanF g l o k
  | 0, _, _, _, _, h, _ => by omega
  | _ + 1, 0, _, _, _, _, h => by omega
  | f + 1, g + 1, [], _, _, _, _ => rfl
  | f + 1, g + 1, c :: r, o, k, h1, h2 => by
    simp only [List.length_cons] at h1 h2
    unfold scanF
    by_cases hb : blankB c = true
    · rw [if_pos hb, if_pos hb]
      exact scanF_fuel f g r _ _ (by omega) (by omega)
    · rw [if_neg hb, if_neg hb]
      by_cases hm : c.toNat = 45 ∧ r.head?.map UInt8.toNat = some 45
      · rw [if_pos hm, if_pos hm]
        have hp : 0 < runN (fun d => d.toNat != 10) (c :: r) := runN_pos (by rw [hm.1]; decide)
        exact scanF_fuel f g _ _ _ (by rw [List.length_drop, List.length_cons]; omega) (by rw [List.length_drop, List.length_cons]; omega)
      · rw [if_neg hm, if_neg hm]
        cases e : oneL (c :: r) with
        | inr n => rfl
        | inl p =>
          obtain ⟨kind, t, n, len⟩ := p
          have := oneL_len e
          simp only
          rw [scanF_fuel f g ((c :: r).drop len) _ _ (by rw [List.length_drop, List.length_cons]; omega) (by rw [List.length_drop, List.length_cons]; omega)]
def scanR (l : List UInt8) (o k : Nat) : List Tk × Nat × Int := scanF (l.length + 1) l o k
theorem scanR_nil (o k : Nat) : scanR [] o k = if 6000 ≤ k then ([], o, 8) else ([(0, ⟨#[]⟩, 0, (o : Int))], 0, 0) := rfl
theorem scanR_blank {c : UInt8} {r : List UInt8} {o k : Nat} (h : blankB c = true) : scanR (c :: r) o k = scanR r (o + 1) k := by
  show scanF (r.length + 1 + 1) (c :: r) o k = _
  unfold scanF
  rw [if_pos h]
  rfl
theorem scanR_line {c d : UInt8} {r : List UInt8} {o k : Nat} (h : c.toNat = 45) (h' : d.toNat = 45) :
    scanR (c :: d :: r) o k = scanR ((c :: d :: r).drop (runN (fun d => d.toNat != 10) (c :: d :: r))) (o + runN (fun d => d.toNat != 10) (c :: d :: r)) k := by
  have hb : ¬ blankB c = true := by simp [blankB, h]
  have hp : 0 < runN (fun d => d.toNat != 10) (c :: d :: r) := runN_pos (by rw [h]; decide)
  show scanF ((c :: d :: r).length + 1) (c :: d :: r) o k = _
  unfold scanF
  rw [if_neg hb, if_pos ⟨h, by simp [h']⟩]
  exact scanF_fuel _ _ _ _ _ (by rw [List.length_drop, List.length_cons]; omega) (Nat.lt_succ_self _)
theorem scanR_one {c : UInt8} {r : List UInt8} {o k : Nat} (h : blankB c = false) (h' : ¬ (c.toNat = 45 ∧ r.head?.map UInt8.toNat = some 45)) :
    scanR (c :: r) o k = match oneL (c :: r) with
      | .inr n => ([], o + n, 10)
      | .inl (kind, t, n, len) => if 6000 ≤ k then ([], o, 8) else aheadT [(kind, ⟨t.toArray⟩, (n : Int), (o : Int))] (scanR ((c :: r).drop len) (o + len) (k + 1)) := by
  show scanF ((c :: r).length + 1) (c :: r) o k = _
  unfold scanF
  rw [if_neg (by rw [h]; decide), if_neg h']
  cases e : oneL (c :: r) with
  | inr n => rfl
  | inl p =>
    obtain ⟨kind, t, n, len⟩ := p
    have := oneL_len e
    simp only
    rw [scanF_fuel (c :: r).length (((c :: r).drop len).length + 1) _ _ _ (by rw [List.length_drop, List.length_cons]; omega) (Nat.lt_succ_self _)]
    rfl
theorem scanS_eq {s : ByteArray} (h : s.size ≤ 20000) : scanS s = scanR s.data.toList 0 0 := by
  unfold scanS
  rw [if_neg (by omega)]
  rfl

def wordsL : List ByteArray := [⟨#[97, 108, 108]⟩, ⟨#[97, 110, 100]⟩, ⟨#[97, 115]⟩, ⟨#[98, 101, 103, 105, 110]⟩, ⟨#[98, 101, 103, 105, 110, 115]⟩, ⟨#[98, 101, 116, 119, 101, 101, 110]⟩, ⟨#[98, 121]⟩, ⟨#[99, 97, 108, 108]⟩, ⟨#[99, 97, 115, 101]⟩, ⟨#[99, 97, 116, 99, 104]⟩, ⟨#[99, 111, 109, 109, 105, 116]⟩, ⟨#[100, 101, 108, 101, 116, 101]⟩, ⟨#[100, 101, 115, 99]⟩, ⟨#[100, 105, 115, 116, 105, 110, 99, 116]⟩, ⟨#[101, 108, 115, 101]⟩, ⟨#[101, 110, 100]⟩, ⟨#[101, 120, 99, 101, 112, 116]⟩, ⟨#[101, 120, 105, 115, 116, 115]⟩, ⟨#[102, 111, 114]⟩, ⟨#[102, 114, 111, 109]⟩, ⟨#[103, 114, 111, 117, 112]⟩, ⟨#[104, 97, 118, 105, 110, 103]⟩, ⟨#[104, 105, 100, 101]⟩, ⟨#[105, 102]⟩, ⟨#[105, 110]⟩, ⟨#[105, 110, 112, 117, 116]⟩, ⟨#[105, 110, 115, 101, 114, 116]⟩, ⟨#[105, 110, 116]⟩, ⟨#[105, 110, 116, 111]⟩, ⟨#[105, 110, 116, 101, 114, 115, 101, 99, 116]⟩, ⟨#[105, 115]⟩, ⟨#[106, 111, 105, 110]⟩, ⟨#[107, 101, 121]⟩, ⟨#[108, 101, 102, 116]⟩, ⟨#[108, 101, 118, 101, 108]⟩, ⟨#[108, 101, 118, 101, 108, 115]⟩, ⟨#[108, 105, 109, 105, 116]⟩, ⟨#[110, 111, 116]⟩, ⟨#[110, 117, 108, 108]⟩, ⟨#[111, 110]⟩, ⟨#[111, 114]⟩, ⟨#[111, 114, 100, 101, 114]⟩, ⟨#[112, 114, 105, 110, 99, 105, 112, 97, 108]⟩, ⟨#[112, 114, 105, 110, 116]⟩, ⟨#[112, 114, 111, 99]⟩, ⟨#[114, 97, 105, 115, 101]⟩, ⟨#[114, 111, 108, 108, 98, 97, 99, 107]⟩, ⟨#[114, 111, 119, 115]⟩, ⟨#[115, 101, 108, 101, 99, 116]⟩, ⟨#[115, 101, 116]⟩, ⟨#[116, 97, 98, 108, 101]⟩, ⟨#[116, 101, 120, 116]⟩, ⟨#[116, 104, 101, 110]⟩, ⟨#[116, 114, 117, 101]⟩, ⟨#[116, 114, 121]⟩, ⟨#[102, 97, 108, 115, 101]⟩, ⟨#[98, 111, 111, 108]⟩, ⟨#[117, 110, 105, 111, 110]⟩, ⟨#[117, 112, 100, 97, 116, 101]⟩, ⟨#[118, 97, 108, 117, 101, 115]⟩, ⟨#[118, 97, 114]⟩, ⟨#[118, 105, 115, 105, 98, 108, 101]⟩, ⟨#[119, 104, 101, 110]⟩, ⟨#[119, 104, 101, 114, 101]⟩, ⟨#[119, 104, 105, 108, 101]⟩, ⟨#[99, 104, 97, 110, 110, 101, 108]⟩, ⟨#[115, 107, 105, 112]⟩]
def wordB (s : ByteArray) : Bool := wordsL.any fun t => decide (t = s)
end Go.Proofs.YtckidlbmoalomaaGreatDoor


namespace Go.Proofs.YtckidlbmoalomaaGreatDoor

def w_or : ByteArray := ⟨#[111, 114]⟩
def w_and : ByteArray := ⟨#[97, 110, 100]⟩
def w_not : ByteArray := ⟨#[110, 111, 116]⟩
def w_is : ByteArray := ⟨#[105, 115]⟩
def w_null : ByteArray := ⟨#[110, 117, 108, 108]⟩
def w_in : ByteArray := ⟨#[105, 110]⟩
def w_true : ByteArray := ⟨#[116, 114, 117, 101]⟩
def w_false : ByteArray := ⟨#[102, 97, 108, 115, 101]⟩
def w_case : ByteArray := ⟨#[99, 97, 115, 101]⟩
def w_exists : ByteArray := ⟨#[101, 120, 105, 115, 116, 115]⟩
def w_select : ByteArray := ⟨#[115, 101, 108, 101, 99, 116]⟩
def w_when : ByteArray := ⟨#[119, 104, 101, 110]⟩
def w_then : ByteArray := ⟨#[116, 104, 101, 110]⟩
def w_else : ByteArray := ⟨#[101, 108, 115, 101]⟩
def w_end : ByteArray := ⟨#[101, 110, 100]⟩
def w_union : ByteArray := ⟨#[117, 110, 105, 111, 110]⟩
def w_except : ByteArray := ⟨#[101, 120, 99, 101, 112, 116]⟩
def w_intersect : ByteArray := ⟨#[105, 110, 116, 101, 114, 115, 101, 99, 116]⟩
def w_all : ByteArray := ⟨#[97, 108, 108]⟩
def w_distinct : ByteArray := ⟨#[100, 105, 115, 116, 105, 110, 99, 116]⟩
def w_from : ByteArray := ⟨#[102, 114, 111, 109]⟩
def w_where : ByteArray := ⟨#[119, 104, 101, 114, 101]⟩
def w_group : ByteArray := ⟨#[103, 114, 111, 117, 112]⟩
def w_by : ByteArray := ⟨#[98, 121]⟩
def w_having : ByteArray := ⟨#[104, 97, 118, 105, 110, 103]⟩
def w_order : ByteArray := ⟨#[111, 114, 100, 101, 114]⟩
def w_limit : ByteArray := ⟨#[108, 105, 109, 105, 116]⟩
def w_as : ByteArray := ⟨#[97, 115]⟩
def w_desc : ByteArray := ⟨#[100, 101, 115, 99]⟩
def w_left : ByteArray := ⟨#[108, 101, 102, 116]⟩
def w_join : ByteArray := ⟨#[106, 111, 105, 110]⟩
def w_on : ByteArray := ⟨#[111, 110]⟩
def w_visible : ByteArray := ⟨#[118, 105, 115, 105, 98, 108, 101]⟩
def w_count : ByteArray := ⟨#[99, 111, 117, 110, 116]⟩
def w_sum : ByteArray := ⟨#[115, 117, 109]⟩
def w_min : ByteArray := ⟨#[109, 105, 110]⟩
def w_max : ByteArray := ⟨#[109, 97, 120]⟩
def w_set : ByteArray := ⟨#[115, 101, 116]⟩
def w_if : ByteArray := ⟨#[105, 102]⟩
def w_while : ByteArray := ⟨#[119, 104, 105, 108, 101]⟩
def w_for : ByteArray := ⟨#[102, 111, 114]⟩
def w_print : ByteArray := ⟨#[112, 114, 105, 110, 116]⟩
def w_input : ByteArray := ⟨#[105, 110, 112, 117, 116]⟩
def w_insert : ByteArray := ⟨#[105, 110, 115, 101, 114, 116]⟩
def w_update : ByteArray := ⟨#[117, 112, 100, 97, 116, 101]⟩
def w_delete : ByteArray := ⟨#[100, 101, 108, 101, 116, 101]⟩
def w_try : ByteArray := ⟨#[116, 114, 121]⟩
def w_raise : ByteArray := ⟨#[114, 97, 105, 115, 101]⟩
def w_call : ByteArray := ⟨#[99, 97, 108, 108]⟩
def w_begin : ByteArray := ⟨#[98, 101, 103, 105, 110]⟩
def w_commit : ByteArray := ⟨#[99, 111, 109, 109, 105, 116]⟩
def w_rollback : ByteArray := ⟨#[114, 111, 108, 108, 98, 97, 99, 107]⟩
def w_skip : ByteArray := ⟨#[115, 107, 105, 112]⟩
def w_catch : ByteArray := ⟨#[99, 97, 116, 99, 104]⟩
def w_into : ByteArray := ⟨#[105, 110, 116, 111]⟩
def w_values : ByteArray := ⟨#[118, 97, 108, 117, 101, 115]⟩
def w_var : ByteArray := ⟨#[118, 97, 114]⟩
def w_proc : ByteArray := ⟨#[112, 114, 111, 99]⟩
def w_int : ByteArray := ⟨#[105, 110, 116]⟩
def w_bool : ByteArray := ⟨#[98, 111, 111, 108]⟩
def w_text : ByteArray := ⟨#[116, 101, 120, 116]⟩
def m_lp : ByteArray := ⟨#[40]⟩
def m_rp : ByteArray := ⟨#[41]⟩
def m_comma : ByteArray := ⟨#[44]⟩
def m_semi : ByteArray := ⟨#[59]⟩
def m_dot : ByteArray := ⟨#[46]⟩
def m_star : ByteArray := ⟨#[42]⟩
def m_plus : ByteArray := ⟨#[43]⟩
def m_minus : ByteArray := ⟨#[45]⟩
def m_bars : ByteArray := ⟨#[124, 124]⟩
def m_slash : ByteArray := ⟨#[47]⟩
def m_pct : ByteArray := ⟨#[37]⟩
def m_eq : ByteArray := ⟨#[61]⟩
def m_ne : ByteArray := ⟨#[60, 62]⟩
def m_lt : ByteArray := ⟨#[60]⟩
def m_le : ByteArray := ⟨#[60, 61]⟩
def m_gt : ByteArray := ⟨#[62]⟩
def m_ge : ByteArray := ⟨#[62, 61]⟩
def m_lb : ByteArray := ⟨#[123]⟩
def m_rb : ByteArray := ⟨#[125]⟩
def m_colon : ByteArray := ⟨#[58]⟩
def eB : ByteArray := ⟨#[]⟩

abbrev Tr := Value
structure Sy where
  left : List Tk
  pl : Int
  err : Int
abbrev SM (α : Type) : Type := StateM Sy α
theorem SM.pure_run {α : Type} (a : α) (σ : Sy) : (pure a : SM α) σ = (a, σ) := rfl
theorem SM.bind_run {α β : Type} (m : SM α) (k : α → SM β) (σ : Sy) : (m >>= k) σ = k (m σ).1 (m σ).2 := rfl

def endT : Tk := (0, eB, 0, 0)
def Sy.head (σ : Sy) : Tk := σ.left.headD endT
def seesB (x : ByteArray) (σ : Sy) : Bool := decide (σ.head.2.1 = x) && (σ.head.1 == 1 || σ.head.1 == 4)
def seesS (x : ByteArray) : SM Bool := fun σ => (seesB x σ, σ)
def headM : SM Tk := fun σ => (σ.head, σ)
def refuseS (e : Int) : SM Unit := fun σ => ((), if σ.err = 0 then ⟨σ.left.drop (σ.left.length - 1), σ.head.2.2.2, e⟩ else σ)
def takeAnyS : List ByteArray → SM (Option ByteArray)
  | [] => fun σ => (none, σ)
  | x :: l => fun σ => if seesB x σ then (some x, ⟨σ.left.tail, σ.pl, σ.err⟩) else takeAnyS l σ
def takeS (x : ByteArray) : SM Bool := fun σ => if seesB x σ then (true, ⟨σ.left.tail, σ.pl, σ.err⟩) else (false, σ)
def takeKindS (k : Int) : SM Bool := fun σ => if σ.head.1 = k then (true, ⟨σ.left.tail, σ.pl, σ.err⟩) else (false, σ)
def wantS (x : ByteArray) : SM Unit := do
  if ← takeS x then pure () else refuseS 10
def nameS : SM ByteArray := do
  let t ← headM
  if wordB t.2.1 then do
    refuseS 10
    pure eB
  else if ← takeKindS 1 then pure t.2.1
  else do
    refuseS 10
    pure eB
def numberS : SM Int := do
  let t ← headM
  if ← takeKindS 2 then pure t.2.2.1
  else do
    refuseS 10
    pure 0
def typeS : SM Int := do
  match ← takeAnyS [w_int, w_bool, w_text] with
  | some w => pure (if w = w_int then 2 else if w = w_bool then 1 else 3)
  | none => do
    refuseS 10
    pure 0

def loopS {α : Type} (step : α → SM (Option α)) : Nat → α → SM α
  | 0, x => pure x
  | f + 1, x => do
    match ← step x with
    | some y => loopS step f y
    | none => pure x
def whileS {α : Type} (step : α → SM (Option α)) (x : α) : SM α := fun σ => loopS step σ.left.length x σ
def fromLeftS (more : Tr → ByteArray → SM Tr) (marks : List ByteArray) (x : Tr) : SM Tr :=
  whileS (fun x => do
    match ← takeAnyS marks with
    | some m => do
      let y ← more x m
      pure (some y)
    | none => pure none) x
def eachS {α : Type} (word : ByteArray) (read : SM α) (l : List α) : SM (List α) :=
  whileS (fun l => do
    if ← takeS word then do
      let y ← read
      pure (some (l ++ [y]))
    else pure none) l
def listS {α : Type} (mark : ByteArray) (read : SM α) : SM (List α) := do
  let x ← read
  eachS mark read [x]
def behindS {α : Type} (word : ByteArray) (read : SM α) : SM (List α) := do
  if ← takeS word then do
    let x ← read
    pure [x]
  else pure []
def inBracketsS {α : Type} (read : SM α) : SM α := do
  wantS m_lp
  let x ← read
  wantS m_rp
  pure x
def listInBracketsS {α : Type} (read : SM α) : SM (List α) :=
  inBracketsS (do
    if ← seesS m_rp then pure [] else listS m_comma read)

def sl (n : Nat) (l : List Value) : Value := .iface n (.agg l.toArray)
def mkE (k n : Int) (s t : ByteArray) (kids qs : List Tr) : Tr := .agg ⟨[.int .i64 k, .int .i64 n, .string s, .string t, sl 6 kids, sl 10 qs]⟩
def zE : Tr := mkE 0 0 eB eB [] []
def mkQ (k : Int) (d : Bool) (n : Int) (items froms wh gr ha or kids : List Tr) : Tr := .agg ⟨[.int .i64 k, .bool d, sl 7 items, sl 7 froms, sl 6 wh, sl 6 gr, sl 6 ha, sl 7 or, .int .i64 n, sl 10 kids]⟩
def zQ : Tr := mkQ 0 false 0 [] [] [] [] [] [] []
def mkF (k : Int) (v : Bool) (t a : ByteArray) (q kids on : List Tr) : Tr := .agg ⟨[.int .i64 k, .string t, .bool v, .string a, sl 10 q, sl 7 kids, sl 6 on]⟩
def cellsT : Tr → List Value
  | .agg ⟨l⟩ => l
  | v => [v]
def withName (x : Tr) (s : ByteArray) : Tr := .agg ⟨cellsT x ++ [.string s]⟩
def withFlag (x : Tr) (b : Bool) : Tr := .agg ⟨cellsT x ++ [.bool b]⟩
def nameT (s : ByteArray) : Tr := .string s
def mkS (k a : Int) (t : ByteArray) (names es qs wh body other : List Tr) : Tr := .agg ⟨[.int .i64 k, .int .i64 a, .string t, sl 1 names, sl 6 es, sl 10 qs, sl 6 wh, sl 9 body, sl 9 other]⟩

structure Knot where
  or : SM Tr
  not : SM Tr
  unary : SM Tr
  parts : SM Tr
  block : SM (List Tr)
def tooDeep {α : Type} (z : α) : SM α := do
  refuseS 9
  pure z

section
variable (K : Knot)
def binS (left : Tr) (mark : ByteArray) (right : Tr) : Tr := mkE 10 0 mark eB [left, right] []
def operandsS (read : SM Tr) (marks : List ByteArray) : SM Tr := do
  let x ← read
  fromLeftS (fun left mark => do
    let y ← read
    pure (binS left mark y)) marks x
def choiceS : SM Tr := do
  wantS w_when
  let a ← K.or
  wantS w_then
  let b ← K.or
  wantS w_else
  let c ← K.or
  wantS w_end
  pure (mkE 11 0 eB eB [a, b, c] [])
def gathersB (s : ByteArray) : Bool := decide (s = w_count) || decide (s = w_sum) || decide (s = w_min) || decide (s = w_max)
def gatheredS (name : ByteArray) : SM (List Tr) :=
  inBracketsS (do
    if name = w_count then do
      if ← takeS m_star then pure [] else do
        let x ← K.or
        pure [x]
    else do
      let x ← K.or
      pure [x])
def namedS : SM Tr := do
  let name ← nameS
  if ← takeS m_dot then do
    let s ← nameS
    pure (mkE 5 0 s name [] [])
  else if gathersB name then do
    if ← seesS m_lp then do
      let l ← gatheredS K name
      pure (mkE 15 0 name eB l [])
    else pure (mkE 5 0 name eB [] [])
  else pure (mkE 5 0 name eB [] [])
def bracketedS : SM Tr := do
  if ← seesS w_select then do
    let q ← K.parts
    pure (mkE 14 0 eB eB [] [q])
  else K.or
def primS : SM Tr := do
  let t ← headM
  if ← takeKindS 2 then pure (mkE 3 t.2.2.1 eB eB [] [])
  else if ← takeKindS 3 then pure (mkE 4 0 t.2.1 eB [] [])
  else if ← takeS w_null then pure (mkE 1 0 eB eB [] [])
  else if ← takeS w_true then pure (mkE 2 1 eB eB [] [])
  else if ← takeS w_false then pure (mkE 2 0 eB eB [] [])
  else if ← takeS m_colon then do
    let s ← nameS
    pure (mkE 6 0 s eB [] [])
  else if ← takeS w_case then choiceS K
  else if ← takeS w_exists then do
    let q ← inBracketsS K.parts
    pure (mkE 12 0 eB eB [] [q])
  else if ← seesS m_lp then inBracketsS (bracketedS K)
  else namedS K
def unaryS : SM Tr := do
  if ← takeS m_minus then do
    let x ← K.unary
    pure (mkE 7 0 eB eB [x] [])
  else primS K
def productS : SM Tr := operandsS (unaryS K) [m_star, m_slash, m_pct]
def sumS : SM Tr := operandsS (productS K) [m_plus, m_minus, m_bars]
def inS (x : Tr) (n : Int) : SM Tr := do
  wantS w_in
  let q ← inBracketsS K.parts
  pure (mkE 13 n eB eB [x] [q])
def comparedS : SM Tr := do
  let x ← sumS K
  match ← takeAnyS [m_eq, m_ne, m_lt, m_le, m_gt, m_ge] with
  | some mark => do
    let y ← sumS K
    pure (binS x mark y)
  | none => do
    if ← takeS w_is then do
      let n ← takeS w_not
      wantS w_null
      pure (mkE 9 (if n then 1 else 0) eB eB [x] [])
    else if ← takeS w_not then inS K x 1
    else if ← seesS w_in then inS K x 0
    else pure x
def notS : SM Tr := do
  if ← takeS w_not then do
    let x ← K.not
    pure (mkE 8 0 eB eB [x] [])
  else comparedS K
def andS : SM Tr := operandsS (notS K) [w_and]
def orS : SM Tr := operandsS (andS K) [w_or]

def itemS : SM Tr := do
  let x ← K.or
  wantS w_as
  let s ← nameS
  pure (withName x s)
def keyS : SM Tr := do
  let x ← K.or
  let d ← takeS w_desc
  pure (withFlag x d)
def oneS : SM Tr := do
  if ← seesS m_lp then do
    let q ← inBracketsS K.parts
    wantS w_as
    let s ← nameS
    pure (mkF 2 false eB s [q] [] [])
  else do
    let t ← nameS
    let v ← takeS w_visible
    if ← takeS w_as then do
      let a ← nameS
      pure (mkF 1 v t a [] [] [])
    else pure (mkF 1 v t t [] [] [])
def joinS (left : Tr) (k : Int) : SM Tr := do
  let y ← oneS K
  wantS w_on
  let e ← K.or
  pure (mkF k false eB eB [] [left, y] [e])
def sourceS : SM Tr := do
  let x ← oneS K
  fromLeftS (fun left word => do
    if word = w_left then do
      wantS w_join
      joinS K left 4
    else joinS K left 3) [w_left, w_join] x
def groupS : SM (List Tr × List Tr) := do
  if ← takeS w_group then do
    wantS w_by
    let g ← listS m_comma K.or
    let h ← behindS w_having K.or
    pure (g, h)
  else pure ([], [])
def orderS : SM (List Tr) := do
  if ← takeS w_order then do
    wantS w_by
    listS m_comma (keyS K)
  else pure []
def limitS : SM Int := do
  if ← takeS w_limit then numberS else pure (-1)
def partS : SM Tr := do
  if ← seesS m_lp then inBracketsS K.parts
  else do
    wantS w_select
    let d ← takeS w_distinct
    let items ← listS m_comma (itemS K)
    let froms ← behindS w_from (sourceS K)
    let wh ← behindS w_where K.or
    let gh ← groupS K
    let or ← orderS K
    let n ← limitS
    pure (mkQ 1 d n items froms wh gh.1 gh.2 or [])
def togetherS (word : ByteArray) : SM Int := do
  if word = w_except then pure 4
  else if word = w_intersect then pure 5
  else if ← takeS w_all then pure 3
  else pure 2
def partsS : SM Tr := do
  let x ← partS K
  fromLeftS (fun left word => do
    let k ← togetherS word
    let y ← partS K
    pure (mkQ k false (-1) [] [] [] [] [] [] [left, y])) [w_union, w_except, w_intersect] x

def stmtKindN (s : ByteArray) : Int :=
  if s = w_set then 1 else if s = w_if then 2 else if s = w_while then 3 else if s = w_for then 4 else if s = w_print then 5 else if s = w_input then 17
  else if s = w_insert then 6 else if s = w_update then 8 else if s = w_delete then 9 else if s = w_try then 10 else if s = w_raise then 11
  else if s = w_call then 12 else if s = w_begin then 13 else if s = w_commit then 14 else if s = w_rollback then 15 else if s = w_skip then 16 else 0
def assignedS : SM (ByteArray × Tr) := do
  let s ← nameS
  wantS m_eq
  let x ← K.or
  pure (s, x)
def whereS : SM (List Tr) := behindS w_where K.or
def plainS (k a : Int) : SM Tr :=
  if k = 1 then do
    let p ← assignedS K
    pure (mkS k a eB [nameT p.1] [p.2] [] [] [] [])
  else if k = 17 then do
    let s ← nameS
    pure (mkS k a eB [nameT s] [] [] [] [] [])
  else if k = 5 then do
    let s ← nameS
    let x ← K.or
    pure (mkS k a s [] [x] [] [] [] [])
  else if k = 6 then do
    wantS w_into
    let s ← nameS
    if ← takeS w_values then do
      let l ← inBracketsS (listS m_comma K.or)
      pure (mkS 6 a s [] l [] [] [] [])
    else do
      let q ← K.parts
      pure (mkS 7 a s [] [] [q] [] [] [])
  else if k = 8 then do
    let s ← nameS
    wantS w_set
    let l ← listS m_comma (assignedS K)
    let wh ← whereS K
    pure (mkS k a s (l.map fun p => nameT p.1) (l.map fun p => p.2) [] wh [] [])
  else if k = 9 then do
    wantS w_from
    let s ← nameS
    let wh ← whereS K
    pure (mkS k a s [] [] [] wh [] [])
  else if k = 12 then do
    let s ← nameS
    let l ← listInBracketsS K.or
    pure (mkS k a s [] l [] [] [] [])
  else pure (mkS k a eB [] [] [] [] [] [])
def fillS (k a : Int) : SM Tr :=
  if k = 2 then do
    let x ← K.or
    let b ← K.block
    if ← takeS w_else then do
      let c ← K.block
      pure (mkS k a eB [] [x] [] [] b c)
    else pure (mkS k a eB [] [x] [] [] b [])
  else if k = 3 then do
    let x ← K.or
    let b ← K.block
    pure (mkS k a eB [] [x] [] [] b [])
  else if k = 4 then do
    let l ← listS m_comma nameS
    wantS w_in
    let q ← K.parts
    let b ← K.block
    pure (mkS k a eB (l.map nameT) [] [q] [] b [])
  else if k = 10 then do
    let b ← K.block
    wantS w_catch
    let c ← K.block
    pure (mkS k a eB [] [] [] [] b c)
  else do
    let s ← plainS K k a
    wantS m_semi
    pure s
def stmtsS : SM (List Tr) :=
  whileS (fun l => do
    let t ← headM
    if stmtKindN t.2.1 = 0 then pure none
    else if ← takeKindS 1 then do
      let s ← fillS K (stmtKindN t.2.1) t.2.2.2
      pure (some (l ++ [s]))
    else pure none) []
def blockS : SM (List Tr) := do
  wantS m_lb
  let l ← stmtsS K
  wantS m_rb
  pure l
end

def knot : Nat → Knot
  | 0 => ⟨tooDeep zE, tooDeep zE, tooDeep zE, tooDeep zQ, tooDeep []⟩
  | n + 1 => ⟨orS (knot n), notS (knot n), unaryS (knot n), partsS (knot n), blockS (knot n)⟩

def wholeS {α : Type} (none : α) (read : SM α) (ts : List Tk × Nat × Int) : α × Int × Int :=
  if ts.2.2 ≠ 0 then (none, (ts.2.1 : Int), ts.2.2)
  else
    let r := (do
      let x ← read
      let t ← headM
      if t.1 ≠ 0 then do
        refuseS 10
        pure x
      else pure x : SM α) ⟨ts.1, 0, 0⟩
    if r.2.err ≠ 0 then (none, r.2.pl, r.2.err) else (r.1, 0, 0)
end Go.Proofs.YtckidlbmoalomaaGreatDoor


namespace Go.Proofs.YtckidlbmoalomaaGreatDoor

def SlIs (σ : AW) (D : Nat → Prop) (n : Nat) (v : Value) (l : List Value) : Prop :=
  (l = [] ∧ ∃ c, v = .slice none 0 c) ∨ ∃ b o c k e z cs, v = .slice (some ⟨b, o, none⟩) l.length c ∧ σ.get b = ⟨k, e, z, cs⟩ ∧ (k = 1 ∨ k = 2) ∧ z ≠ 0 ∧ b < σ.next ∧ D b ∧ (cs.drop o).take (l.length * n) = l.flatMap cellsL ∧ ∀ x ∈ l, (cellsL x).length = n
def Rd (σ : AW) (D : Nat → Prop) (p : Value) : Value → Prop :=
  Value.rec (motive_1 := fun _ => Value → Prop) (motive_2 := fun _ => List Value → Prop) (motive_3 := fun _ => List Value → Prop)
    (fun b v => v = .bool b) (fun k n v => v = .int k n) (fun _ _ _ => False) (fun _ _ _ _ => False) (fun s v => v = .string s)
    (fun _ _ => False) (fun _ _ _ _ => False) (fun _ _ => False) (fun _ _ => False) (fun _ _ _ _ _ _ => False) (fun _ => False)
    (fun n _ ih v => ∃ l, ih (.agg ⟨l⟩) ∧ SlIs σ D n v l) (fun _ => False)
    (fun _ ih v => ∃ l, v = .agg ⟨l⟩ ∧ ih l) (fun _ _ _ => False)
    (fun _ ih => ih) (fun l => l = []) (fun _ _ ihp ihl l => ∃ v l', l = v :: l' ∧ ihp v ∧ ihl l') p
def RdL (σ : AW) (D : Nat → Prop) : List Value → List Value → Prop
  | [], l => l = []
  | p :: ps, l => ∃ v l', l = v :: l' ∧ Rd σ D p v ∧ RdL σ D ps l'
section
variable {σ σ' : AW} {D D' : Nat → Prop}
theorem rd_bool {b : Bool} {v : Value} : Rd σ D (.bool b) v ↔ v = .bool b := Iff.rfl
theorem rd_str {s : ByteArray} {v : Value} : Rd σ D (.string s) v ↔ v = .string s := Iff.rfl
theorem rd_agg {ps : List Value} {v : Value} : Rd σ D (.agg ⟨ps⟩) v ↔ ∃ l, v = .agg ⟨l⟩ ∧ RdL σ D ps l := by
  have key : ∀ (ps l : List Value), (Value.rec_2 (motive_1 := fun _ => Value → Prop) (motive_2 := fun _ => List Value → Prop) (motive_3 := fun _ => List Value → Prop)
    (fun b v => v = .bool b) (fun k n v => v = .int k n) (fun _ _ _ => False) (fun _ _ _ _ => False) (fun s v => v = .string s)
    (fun _ _ => False) (fun _ _ _ _ => False) (fun _ _ => False) (fun _ _ => False) (fun _ _ _ _ _ _ => False) (fun _ => False)
    (fun n _ ih v => ∃ l, ih (.agg ⟨l⟩) ∧ SlIs σ D n v l) (fun _ => False)
    (fun _ ih v => ∃ l, v = .agg ⟨l⟩ ∧ ih l) (fun _ _ _ => False)
    (fun _ ih => ih) (fun l => l = []) (fun _ _ ihp ihl l => ∃ v l', l = v :: l' ∧ ihp v ∧ ihl l') ps : List Value → Prop) l ↔ RdL σ D ps l := by
    intro ps
    induction ps with
    | nil => intro l; exact Iff.rfl
    | cons p ps ih =>
      intro l
      constructor
      · rintro ⟨v, l', h1, h2, h3⟩; exact ⟨v, l', h1, h2, (ih l').1 h3⟩
      · rintro ⟨v, l', h1, h2, h3⟩; exact ⟨v, l', h1, h2, (ih l').2 h3⟩
  constructor
  · rintro ⟨l, h1, h2⟩; exact ⟨l, h1, (key ps l).1 h2⟩
  · rintro ⟨l, h1, h2⟩; exact ⟨l, h1, (key ps l).2 h2⟩
theorem rd_sl {n : Nat} {ps : List Value} {v : Value} : Rd σ D (sl n ps) v ↔ ∃ l, RdL σ D ps l ∧ SlIs σ D n v l := by
  constructor
  · rintro ⟨l, h1, h2⟩
    obtain ⟨l', e, h⟩ := rd_agg.1 h1
    injection e with e
    injection e with e
    subst e
    exact ⟨l, h, h2⟩
  · rintro ⟨l, h1, h2⟩
    exact ⟨l, rd_agg.2 ⟨l, rfl, h1⟩, h2⟩
theorem SlIs.keep (h : ∀ k, D k → k < σ.next → (σ.get k).esz ≠ 0 → σ'.get k = σ.get k) (hn : σ.next ≤ σ'.next) (hD : ∀ k, D k → k < σ.next → D' k) {n : Nat} {v : Value} {l : List Value} (hs : SlIs σ D n v l) : SlIs σ' D' n v l := by
  rcases hs with hs | ⟨b, o, c, k, e, z, cs, h1, h2, h3, h4, h5, h6, h7, h8⟩
  · exact .inl hs
  · exact .inr ⟨b, o, c, k, e, z, cs, h1, by rw [h b h6 h5 (by rw [h2]; exact h4)]; exact h2, h3, h4, Nat.lt_of_lt_of_le h5 hn, hD b h6 h5, h7, h8⟩
theorem Rd.keep (h : ∀ k, D k → k < σ.next → (σ.get k).esz ≠ 0 → σ'.get k = σ.get k) (hn : σ.next ≤ σ'.next) (hD : ∀ k, D k → k < σ.next → D' k) {p v : Value} (hr : Rd σ D p v) : Rd σ' D' p v := by
  revert v
  refine Value.rec (motive_1 := fun p => ∀ {v}, Rd σ D p v → Rd σ' D' p v) (motive_2 := fun a => ∀ {l}, RdL σ D a.toList l → RdL σ' D' a.toList l) (motive_3 := fun ps => ∀ {l}, RdL σ D ps l → RdL σ' D' ps l) ?_ ?_ ?_ ?_ ?_ ?_ ?_ ?_ ?_ ?_ ?_ ?_ ?_ ?_ ?_ ?_ ?_ ?_ p
  · exact fun _ _ h => h
  · exact fun _ _ _ h => h
  · exact fun _ _ _ h => h.elim
  · exact fun _ _ _ _ h => h.elim
  · exact fun _ _ h => h
  · exact fun _ _ h => h.elim
  · exact fun _ _ _ _ h => h.elim
  · exact fun _ _ h => h.elim
  · exact fun _ _ h => h.elim
  · exact fun _ _ _ _ _ _ h => h.elim
  · exact fun h => h.elim
  · rintro n p ih v ⟨l, h1, h2⟩
    exact ⟨l, ih h1, h2.keep h hn hD⟩
  · exact fun h => h.elim
  · rintro ⟨ps⟩ ih v hv
    obtain ⟨l, h1, h2⟩ := rd_agg.1 hv
    exact rd_agg.2 ⟨l, h1, ih h2⟩
  · exact fun _ _ _ h => h.elim
  · exact fun _ ih => ih
  · exact fun h => h
  · rintro p ps ihp ihl l ⟨v, l', h1, h2, h3⟩
    exact ⟨v, l', h1, ihp h2, ihl h3⟩
theorem RdL.keep (h : ∀ k, D k → k < σ.next → (σ.get k).esz ≠ 0 → σ'.get k = σ.get k) (hn : σ.next ≤ σ'.next) (hD : ∀ k, D k → k < σ.next → D' k) : ∀ {ps l : List Value}, RdL σ D ps l → RdL σ' D' ps l
  | [], _, h => h
  | _ :: _, _, ⟨v, l', h1, h2, h3⟩ => ⟨v, l', h1, h2.keep h hn hD, RdL.keep h hn hD h3⟩
theorem RdL.length : ∀ {ps l : List Value}, RdL σ D ps l → l.length = ps.length
  | [], _, h => by rw [h]
  | _ :: _, _, ⟨v, l', h1, _, h3⟩ => by rw [h1, List.length_cons, List.length_cons, RdL.length h3]
theorem RdL.append : ∀ {ps qs l m : List Value}, RdL σ D ps l → RdL σ D qs m → RdL σ D (ps ++ qs) (l ++ m)
  | [], _, _, _, h, k => by rw [h]; exact k
  | _ :: _, _, _, _, ⟨v, l', h1, h2, h3⟩, k => ⟨v, l' ++ _, by rw [h1]; rfl, h2, RdL.append h3 k⟩
theorem RdL.one {p v : Value} (h : Rd σ D p v) : RdL σ D [p] [v] := ⟨v, [], rfl, h, rfl⟩
theorem rd_nil (n : Nat) (a : Option Addr) (c : Nat) (ha : a = none := by rfl) : Rd σ D (sl n []) (.slice a 0 c) := rd_sl.2 ⟨[], rfl, .inl ⟨rfl, c, by rw [ha]⟩⟩
def Sh (n : Nat) (v : Value) : Prop := ∃ l, v = .agg ⟨l⟩ ∧ l.length = n ∧ l.all oneB = true
def TE (n : Nat) (σ : AW) (D : Nat → Prop) (v p : Value) : Prop := Rd σ D p v ∧ Sh n v
theorem TE.keep {n : Nat} {v p : Value} (ht : TE n σ D v p) (h : ∀ k, D k → k < σ.next → (σ.get k).esz ≠ 0 → σ'.get k = σ.get k) (hn : σ.next ≤ σ'.next) (hD : ∀ k, D k → k < σ.next → D' k) : TE n σ' D' v p := ⟨ht.1.keep h hn hD, ht.2⟩
theorem rd_one {n : Nat} {l : List Value} {v : Value} (h : Rd σ D (sl n l) v) : oneB v = true := by
  obtain ⟨m, _, hs⟩ := rd_sl.1 h
  rcases hs with ⟨_, c, rfl⟩ | ⟨b, o, c, k, e, z, cs, rfl, _⟩ <;> rfl
theorem rd_lit {n N e c z : Nat} {ps vs : List Value} (hg : σ.get N = ⟨1, e, z, vs.flatMap cellsL⟩) (hz : z ≠ 0) (hN : N < σ.next) (hD : D N) (hr : RdL σ D ps vs) (hl : ∀ v ∈ vs, (cellsL v).length = n) : Rd σ D (sl n ps) (.slice (some ⟨N, 0, none⟩) vs.length c) := by
  refine rd_sl.2 ⟨vs, hr, .inr ⟨N, 0, c, 1, e, z, _, rfl, hg, .inl rfl, hz, hN, hD, ?_, hl⟩⟩
  rw [List.drop_zero]
  have : (vs.flatMap cellsL).length = vs.length * n := by
    clear hg hr
    induction vs with
    | nil => simp
    | cons v vs ih =>
      rw [List.flatMap_cons, List.length_append, hl v (List.mem_cons_self ..), ih (fun u hu => hl u (List.mem_cons_of_mem _ hu)), List.length_cons, Nat.add_mul, Nat.one_mul, Nat.add_comm]
  rw [← this, List.take_length]
theorem Sh.len {n : Nat} {v : Value} (h : Sh n v) : (cellsL v).length = n := by
  obtain ⟨l, rfl, h, _⟩ := h
  exact h
theorem rd_lit1 {n N e c z : Nat} {l : List Value} {p : Value} (hg : σ.get N = ⟨1, e, z, l⟩) (hz : z ≠ 0) (hN : N < σ.next) (hD : D N) (h : TE n σ D (.agg ⟨l⟩) p) : Rd σ D (sl n [p]) (.slice (some ⟨N, 0, none⟩) 1 c) :=
  rd_lit (e := e) (z := z) (vs := [.agg ⟨l⟩]) (by rw [hg]; simp [cellsL]) hz hN hD (RdL.one h.1) (fun v hv => by simp only [List.mem_singleton] at hv; subst hv; exact h.2.len)
theorem rd_lit2 {n N e c z : Nat} {l m : List Value} {p q : Value} (hg : σ.get N = ⟨1, e, z, l ++ m⟩) (hz : z ≠ 0) (hN : N < σ.next) (hD : D N) (h : TE n σ D (.agg ⟨l⟩) p) (k : TE n σ D (.agg ⟨m⟩) q) : Rd σ D (sl n [p, q]) (.slice (some ⟨N, 0, none⟩) 2 c) :=
  rd_lit (e := e) (z := z) (vs := [.agg ⟨l⟩, .agg ⟨m⟩]) (by rw [hg]; simp [cellsL]) hz hN hD ⟨_, _, rfl, h.1, RdL.one k.1⟩ (fun v hv => by
    simp only [List.mem_cons, List.not_mem_nil, or_false] at hv
    rcases hv with rfl | rfl
    · exact h.2.len
    · exact k.2.len)
theorem te_mkE {k n : Int} {s t : ByteArray} {kids qs : List Tr} {vk vq : Value} (hk : Rd σ D (sl 6 kids) vk) (hq : Rd σ D (sl 10 qs) vq) : TE 6 σ D (.agg ⟨[.int .i64 k, .int .i64 n, .string s, .string t, vk, vq]⟩) (mkE k n s t kids qs) :=
  ⟨rd_agg.2 ⟨_, rfl, _, _, rfl, rfl, _, _, rfl, rfl, _, _, rfl, rfl, _, _, rfl, rfl, _, _, rfl, hk, _, _, rfl, hq, rfl⟩, _, rfl, rfl, by simp only [List.all_cons, List.all_nil, rd_one hk, rd_one hq]; rfl⟩
theorem te_mkQ {k : Int} {d : Bool} {n : Int} {items froms wh gr ha or kids : List Tr} {v1 v2 v3 v4 v5 v6 v7 : Value} (h1 : Rd σ D (sl 7 items) v1) (h2 : Rd σ D (sl 7 froms) v2) (h3 : Rd σ D (sl 6 wh) v3) (h4 : Rd σ D (sl 6 gr) v4) (h5 : Rd σ D (sl 6 ha) v5) (h6 : Rd σ D (sl 7 or) v6) (h7 : Rd σ D (sl 10 kids) v7) :
    TE 10 σ D (.agg ⟨[.int .i64 k, .bool d, v1, v2, v3, v4, v5, v6, .int .i64 n, v7]⟩) (mkQ k d n items froms wh gr ha or kids) :=
  ⟨rd_agg.2 ⟨_, rfl, _, _, rfl, rfl, _, _, rfl, rfl, _, _, rfl, h1, _, _, rfl, h2, _, _, rfl, h3, _, _, rfl, h4, _, _, rfl, h5, _, _, rfl, h6, _, _, rfl, rfl, _, _, rfl, h7, rfl⟩, _, rfl, rfl, by simp only [List.all_cons, List.all_nil, rd_one h1, rd_one h2, rd_one h3, rd_one h4, rd_one h5, rd_one h6, rd_one h7]; rfl⟩
theorem te_mkF {k : Int} {v : Bool} {t a : ByteArray} {q kids on : List Tr} {v1 v2 v3 : Value} (h1 : Rd σ D (sl 10 q) v1) (h2 : Rd σ D (sl 7 kids) v2) (h3 : Rd σ D (sl 6 on) v3) : TE 7 σ D (.agg ⟨[.int .i64 k, .string t, .bool v, .string a, v1, v2, v3]⟩) (mkF k v t a q kids on) :=
  ⟨rd_agg.2 ⟨_, rfl, _, _, rfl, rfl, _, _, rfl, rfl, _, _, rfl, rfl, _, _, rfl, rfl, _, _, rfl, h1, _, _, rfl, h2, _, _, rfl, h3, rfl⟩, _, rfl, rfl, by simp only [List.all_cons, List.all_nil, rd_one h1, rd_one h2, rd_one h3]; rfl⟩
end

end Go.Proofs.YtckidlbmoalomaaGreatDoor


namespace Go.Proofs.YtckidlbmoalomaaGreatDoor
open Go.RowKit

theorem mixed : Tryz.prog.follows .mixedOrders = true := by kernel_rfl
theorem nx_push {σ : AW} {b : Blk} : (σ.push b).next = σ.next + 1 := Nat.le_antisymm (Nat.le_refl _) (Nat.le_refl _)
theorem nx_set {σ : AW} {k : Nat} {b : Blk} : (σ.set k b).next = σ.next := Nat.le_antisymm (Nat.le_refl _) (Nat.le_refl _)
theorem zz : (∀ (A : Fr) d v, (putA A d v).size = A.size) ∧ (∀ (σ : AW) b, (σ.push b).next = σ.next + 1) ∧ ∀ (σ : AW) k b, (σ.set k b).next = σ.next := ⟨fun _ _ _ => put_size, fun _ _ => nx_push, fun _ _ _ => nx_set⟩
theorem push_at {σ : AW} {b : Blk} {k : Nat} (h : k = σ.next) : (σ.push b).get k = b := by rw [h]; exact push_eq
attribute [go_sem] push_at Nat.reduceAdd Nat.reduceMul Nat.reduceLT Nat.reduceEqDiff Nat.reduceLeDiff List.take_of_length_le List.drop_of_length_le
def tkCells (t : Tk) : List Value := [.int .i64 t.1, .string t.2.1, .int .i64 t.2.2.1, .int .i64 t.2.2.2]
def flatT (T : List Tk) : List Value := T.flatMap tkCells
theorem flatT_length (T : List Tk) : (flatT T).length = 4 * T.length := by
  induction T with
  | nil => rfl
  | cons t T ih => simp only [flatT, List.flatMap_cons, List.length_append] at ih ⊢; rw [ih]; simp [tkCells]; omega
theorem flatT_drop (T : List Tk) : ∀ i, (flatT T).drop (4 * i) = flatT (T.drop i) := by
  induction T with
  | nil => intro i; simp [flatT]
  | cons t T ih =>
    intro i
    cases i with
    | zero => rfl
    | succ i =>
      rw [List.drop_succ_cons, ← ih i]
      show (tkCells t ++ flatT T).drop (4 * (i + 1)) = _
      rw [show 4 * (i + 1) = 4 * i + 4 by omega, List.drop_append]
      simp [tkCells, flatT]
structure Rdr (σ : AW) (r b : Nat) (T : List Tk) (i : Nat) (d pl er : Int) : Prop where
  get : σ.get r = ⟨1, 69, 0, [.slice (some ⟨b, 4 * i, none⟩) (T.length - i) (2 * i + 1), .int .i64 d, .int .i64 pl, .int .i64 er]⟩
  toks : σ.get b = ⟨2, 72, 4, flatT T⟩
  lr : r < σ.next
  lb : b < σ.next
  li : i < T.length
  few : T.length ≤ 100000
  last : ∀ t, T[T.length - 1]? = some t → t.1 = 0
theorem Rdr.ne {σ : AW} {r b i : Nat} {T : List Tk} {d pl er : Int} (h : Rdr σ r b T i d pl er) : b ≠ r := fun e => by
  have h1 := h.get
  have h2 := h.toks
  rw [e, h1] at h2
  injection h2 with h2
  omega
structure Gr (r : Nat) (σ σ' : AW) : Prop where
  next : σ.next ≤ σ'.next
  get : ∀ k, k < σ.next → k ≠ r → σ'.get k = σ.get k
theorem Gr.refl (r : Nat) (σ : AW) : Gr r σ σ := ⟨Nat.le_refl _, fun _ _ _ => rfl⟩
theorem Gr.trans {r : Nat} {σ σ1 σ2 : AW} (h : Gr r σ σ1) (k : Gr r σ1 σ2) : Gr r σ σ2 := ⟨Nat.le_trans h.next k.next, fun j h1 h2 => (k.get j (Nat.lt_of_lt_of_le h1 h.next) h2).trans (h.get j h1 h2)⟩
theorem Gr.push {r : Nat} {σ σ1 : AW} (h : Gr r σ σ1) (b : Blk) : Gr r σ (σ1.push b) := ⟨Nat.le_succ_of_le h.next, fun j h1 h2 => by have := h.next; rw [push_ne (by omega)]; exact h.get j h1 h2⟩
theorem Gr.set {r : Nat} {σ σ1 : AW} (h : Gr r σ σ1) {k : Nat} (hk : σ.next ≤ k ∨ k = r) (b : Blk) : Gr r σ (σ1.set k b) := ⟨h.next, fun j h1 h2 => by rw [set_ne (by omega)]; exact h.get j h1 h2⟩
structure Kp (σ σ' : AW) : Prop where
  next : σ.next ≤ σ'.next
  get : ∀ k, k < σ.next → σ'.get k = σ.get k
theorem Kp.refl (σ : AW) : Kp σ σ := ⟨Nat.le_refl _, fun _ _ => rfl⟩
theorem Kp.trans {σ σ1 σ2 : AW} (h : Kp σ σ1) (k : Kp σ1 σ2) : Kp σ σ2 := ⟨Nat.le_trans h.next k.next, fun j h1 => (k.get j (Nat.lt_of_lt_of_le h1 h.next)).trans (h.get j h1)⟩
theorem Kp.push {σ σ1 : AW} (h : Kp σ σ1) (b : Blk) : Kp σ (σ1.push b) := ⟨Nat.le_succ_of_le h.next, fun j h1 => by have := h.next; rw [push_ne (by omega)]; exact h.get j h1⟩
theorem Kp.set {σ σ1 : AW} (h : Kp σ σ1) {k : Nat} (hk : σ.next ≤ k) (b : Blk) : Kp σ (σ1.set k b) := ⟨h.next, fun j h1 => by rw [set_ne (by omega)]; exact h.get j h1⟩
theorem Kp.gr {σ σ' : AW} (h : Kp σ σ') (r : Nat) : Gr r σ σ' := ⟨h.next, fun j h1 _ => h.get j h1⟩
theorem Gr.kp {r : Nat} {σ σ1 σ2 : AW} (h : Gr r σ σ1) (k : Kp σ1 σ2) : Gr r σ σ2 := h.trans (k.gr r)
theorem Rdr.kp {σ σ' : AW} {r b i : Nat} {T : List Tk} {d pl er : Int} (h : Rdr σ r b T i d pl er) (k : Kp σ σ') : Rdr σ' r b T i d pl er :=
  ⟨by rw [k.get r h.lr]; exact h.get, by rw [k.get b h.lb]; exact h.toks, Nat.lt_of_lt_of_le h.lr k.next, Nat.lt_of_lt_of_le h.lb k.next, h.li, h.few, h.last⟩
theorem Rdr.push {σ : AW} {r b i : Nat} {T : List Tk} {d pl er : Int} (h : Rdr σ r b T i d pl er) (x : Blk) : Rdr (σ.push x) r b T i d pl er :=
  ⟨by rw [push_ne (Nat.ne_of_lt h.lr)]; exact h.get, by rw [push_ne (Nat.ne_of_lt h.lb)]; exact h.toks, Nat.lt_succ_of_lt h.lr, Nat.lt_succ_of_lt h.lb, h.li, h.few, h.last⟩
theorem Rdr.set {σ : AW} {r b i : Nat} {T : List Tk} {d pl er : Int} (h : Rdr σ r b T i d pl er) {k : Nat} (hk : k ≠ r) (hb : k ≠ b) (x : Blk) : Rdr (σ.set k x) r b T i d pl er :=
  ⟨by rw [set_ne (Ne.symm hk)]; exact h.get, by rw [set_ne (Ne.symm hb)]; exact h.toks, h.lr, h.lb, h.li, h.few, h.last⟩
theorem Rdr.gr {σ σ' : AW} {r b i : Nat} {T : List Tk} {d pl er : Int} (h : Rdr σ r b T i d pl er) (g : Gr r σ σ') {i' : Nat} (hi : i' < T.length) {d' pl' er' : Int}
    (hr : σ'.get r = ⟨1, 69, 0, [.slice (some ⟨b, 4 * i', none⟩) (T.length - i') (2 * i' + 1), .int .i64 d', .int .i64 pl', .int .i64 er']⟩) : Rdr σ' r b T i' d' pl' er' :=
  ⟨hr, by rw [g.get b h.lb h.ne]; exact h.toks, Nat.lt_of_lt_of_le h.lr g.next, Nat.lt_of_lt_of_le h.lb g.next, hi, h.few, h.last⟩
def RdS (σ : AW) (r b : Nat) (T : List Tk) (d : Int) (s : Sy) : Prop := ∃ i, Rdr σ r b T i d s.pl s.err ∧ s.left = T.drop i
theorem RdS.kp {σ σ' : AW} {r b : Nat} {T : List Tk} {d : Int} {s : Sy} (h : RdS σ r b T d s) (k : Kp σ σ') : RdS σ' r b T d s := by
  obtain ⟨i, h1, h2⟩ := h
  exact ⟨i, h1.kp k, h2⟩
theorem RdS.head {σ : AW} {r b : Nat} {T : List Tk} {d : Int} {s : Sy} (h : RdS σ r b T d s) : ∃ i, Rdr σ r b T i d s.pl s.err ∧ s.left = T.drop i ∧ T[i]? = some s.head := by
  obtain ⟨i, h1, h2⟩ := h
  refine ⟨i, h1, h2, ?_⟩
  unfold Sy.head
  rw [h2, List.drop_eq_getElem_cons h1.li, List.getElem?_eq_getElem h1.li]
  rfl
theorem RdS.lr {σ : AW} {r b : Nat} {T : List Tk} {d : Int} {s : Sy} (h : RdS σ r b T d s) : r < σ.next := by obtain ⟨i, h1, _⟩ := h; exact h1.lr
end Go.Proofs.YtckidlbmoalomaaGreatDoor
