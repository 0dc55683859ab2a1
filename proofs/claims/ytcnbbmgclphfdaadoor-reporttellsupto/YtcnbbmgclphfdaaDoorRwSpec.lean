/- Lists of rows, without Go: each row once, which places have which row, and that a right row's bytes tell it. -/
import Derived.Test.YtcnbbmgclphfdaaDoorOrdEnc
namespace Go.Proofs.YtcnbbmgclphfdaaDoor
open Go.RowKit Go.Sort

abbrev Row := List Ent
theorem sameB_eq (l m : Row) : sameB l m = decide (l = m) := by
  induction l generalizing m with
  | nil => cases m <;> simp [sameB]
  | cons e l ih =>
    cases m with
    | nil => simp [sameB]
    | cons f m =>
      rw [sameB, ih m, sameV_iff]
      by_cases h : ordE e f = 0
      · have := ordE_zero h
        subst this
        simp [h]
      · have hn : ¬ e = f := fun x => h (by subst x; exact ordE_self e)
        simp [h, hn]

/-- A row that is gone through: right, of at most 40 values. -/
def RightR (l : Row) : Prop := encErr l = 0 ∧ Fair l
theorem encS_inj {l m : Row} (hl : RightR l) (hm : RightR m) (h : encS l = encS m) : l = m := by
  have h1 := encS_list hl.1
  have h2 := encS_list hm.1
  rw [h, h2] at h1
  have sl := sound_of hl.1 hl.2
  have sm := sound_of hm.1 hm.2
  have e1 := enc_less l m sl sm
  have e2 := enc_less m l sm sl
  rw [h1] at e1
  rw [h1] at e2
  have irr : ∀ x : List UInt8, Op.bytesLess x x = false := fun x => by
    cases c : Op.bytesLess x x
    · rfl
    · have := bl_asymm _ _ c
      rw [c] at this; cases this
  rw [irr] at e1 e2
  have a1 : ¬ ordRow l m < 0 := by simpa using e1.symm
  have a2 : ¬ ordRow m l < 0 := by simpa using e2.symm
  have a3 := ordRow_anti l m
  have h0 : ordRow l m = 0 := by omega
  have := sameB_iff l m
  rw [h0, sameB_eq] at this
  simpa using this

/-- Is a row one of some? -/
def memB (L : List Row) (r : Row) : Bool := L.any fun x => decide (x = r)
theorem memB_iff (L : List Row) (r : Row) : memB L r = true ↔ r ∈ L := by
  simp only [memB, List.any_eq_true, decide_eq_true_eq]
  exact ⟨fun ⟨x, h, e⟩ => e ▸ h, fun h => ⟨r, h, rfl⟩⟩
theorem memB_false (L : List Row) (r : Row) : memB L r = false ↔ ¬ r ∈ L := by
  rw [← memB_iff]; simp
theorem memB_congr {L M : List Row} {r : Row} (h : r ∈ L ↔ r ∈ M) : memB L r = memB M r := by
  have := memB_iff L r
  have := memB_iff M r
  cases h1 : memB L r <;> cases h2 : memB M r <;> simp_all
/-- Each row once, where it stands first. -/
def distF (out : List Row) (r : Row) : List Row := if memB out r = true then out else out ++ [r]
def distR (L : List Row) : List Row := L.foldl distF []
theorem distR_snoc (L : List Row) (r : Row) : distR (L ++ [r]) = if memB (distR L) r = true then distR L else distR L ++ [r] := by
  unfold distR; rw [List.foldl_append]; rfl
theorem mem_distF (L out : List Row) (r : Row) : r ∈ L.foldl distF out ↔ r ∈ out ∨ r ∈ L := by
  induction L generalizing out with
  | nil => simp
  | cons x L ih =>
    rw [List.foldl_cons, ih]
    unfold distF
    split
    · rename_i h
      rw [memB_iff] at h
      constructor
      · rintro (h' | h')
        · exact .inl h'
        · exact .inr (List.mem_cons_of_mem _ h')
      · rintro (h' | h')
        · exact .inl h'
        · rcases List.mem_cons.1 h' with rfl | h'
          · exact .inl h
          · exact .inr h'
    · simp [or_assoc]
theorem mem_distR (L : List Row) (r : Row) : r ∈ distR L ↔ r ∈ L := by rw [distR, mem_distF]; simp
theorem distR_take {L : List Row} {k : Nat} (hk : k < L.length) : distR (L.take (k + 1)) = if memB (L.take k) L[k] = true then distR (L.take k) else distR (L.take k) ++ [L[k]] := by
  rw [List.take_succ_eq_append_getElem hk, distR_snoc, memB_congr (mem_distR (L.take k) L[k])]
theorem nodup_distF (L out : List Row) (h : out.Nodup) : (L.foldl distF out).Nodup := by
  induction L generalizing out with
  | nil => simpa
  | cons x L ih =>
    rw [List.foldl_cons]
    apply ih
    unfold distF
    split
    · exact h
    · rename_i hx
      rw [memB_iff] at hx
      rw [List.nodup_append]
      exact ⟨h, by simp, fun a ha b hb => by rw [List.mem_singleton.1 hb]; exact fun e => hx (e ▸ ha)⟩
theorem nodup_distR (L : List Row) : (distR L).Nodup := nodup_distF L [] (by simp)
theorem distF_length (L out : List Row) : (L.foldl distF out).length ≤ out.length + L.length := by
  induction L generalizing out with
  | nil => simp
  | cons x L ih =>
    rw [List.foldl_cons]
    refine Nat.le_trans (ih _) ?_
    unfold distF
    split <;> simp <;> omega
theorem distR_length_le (L : List Row) : (distR L).length ≤ L.length := by
  have := distF_length L []
  simpa [distR] using this

/-- The places below n at which a row stands. -/
def posOf (L : List Row) (r : Row) (n : Nat) : List Nat := (List.range n).filter fun k => decide (L[k]? = some r)
theorem posOf_succ (L : List Row) (r : Row) (n : Nat) : posOf L r (n + 1) = posOf L r n ++ (if L[n]? = some r then [n] else []) := by
  unfold posOf
  rw [List.range_succ, List.filter_append]
  by_cases h : L[n]? = some r <;> simp [h]
/-- Groups. -/
def groupsR (L : List Row) (n : Nat) : List (List Nat) := (distR (L.take n)).map fun r => posOf L r n

/-- A shelf's lists: bytes, and the places that stand with them. -/
abbrev Sh := List (ByteArray × List Int)
def putS : Sh → ByteArray → Int → Sh
  | [], k, p => [(k, [p])]
  | e :: S, k, p => if e.1 = k then (e.1, e.2 ++ [p]) :: S else e :: putS S k p
def idxS : Sh → ByteArray → Option Nat
  | [], _ => none
  | e :: S, k => if e.1 = k then some 0 else (idxS S k).map (· + 1)
def getS : Sh → ByteArray → List Int
  | [], _ => []
  | e :: S, k => if e.1 = k then e.2 else getS S k
theorem idxS_lt : ∀ {S : Sh} {k : ByteArray} {i : Nat}, idxS S k = some i → ∃ h : i < S.length, S[i].1 = k
  | e :: S, k, i, h => by
    unfold idxS at h
    split at h
    · simp at h; subst h; exact ⟨by simp, by simpa⟩
    · cases hx : idxS S k with
      | none => rw [hx] at h; simp at h
      | some j =>
        rw [hx] at h
        simp at h
        subst h
        obtain ⟨h1, h2⟩ := idxS_lt hx
        exact ⟨by simpa using h1, by simpa using h2⟩
theorem getS_idx : ∀ (S : Sh) (k : ByteArray), getS S k = match idxS S k with | none => [] | some i => (S.getD i (k, [])).2
  | [], k => rfl
  | e :: S, k => by
    unfold getS idxS
    by_cases h : e.1 = k
    · simp [h]
    · rw [if_neg h, if_neg h, getS_idx S k]
      cases idxS S k <;> simp
theorem putS_none : ∀ {S : Sh} {k : ByteArray} {p : Int}, idxS S k = none → putS S k p = S ++ [(k, [p])]
  | [], k, p, _ => rfl
  | e :: S, k, p, h => by
    unfold idxS at h
    by_cases hk : e.1 = k
    · rw [if_pos hk] at h; cases h
    · rw [if_neg hk] at h
      rw [putS, if_neg hk, putS_none (by simpa using h)]
      rfl
theorem putS_some : ∀ {S : Sh} {k : ByteArray} {p : Int} {i : Nat}, idxS S k = some i → putS S k p = S.set i (k, (S.getD i (k, [])).2 ++ [p])
  | e :: S, k, p, i, h => by
    unfold idxS at h
    by_cases hk : e.1 = k
    · rw [if_pos hk] at h
      simp at h
      subst h
      subst hk
      simp [putS]
    · rw [if_neg hk] at h
      cases hx : idxS S k with
      | none => rw [hx] at h; simp at h
      | some j =>
        rw [hx] at h
        simp at h
        subst h
        rw [putS, if_neg hk, putS_some hx]
        simp
theorem idxS_append (S : Sh) (k z : ByteArray) (p : List Int) : idxS (S ++ [(k, p)]) z = (idxS S z).or (if z = k then some S.length else none) := by
  induction S with
  | nil =>
    by_cases h : z = k
    · simp [idxS, h]
    · have h' : ¬ k = z := fun e => h e.symm
      simp [idxS, h, h']
  | cons e S ih =>
    simp only [List.cons_append, idxS, ih]
    by_cases he : e.1 = z
    · simp [he]
    · rw [if_neg he, if_neg he]
      cases idxS S z <;> by_cases h : z = k <;> simp [h]
theorem idxS_set {S : Sh} {k z : ByteArray} {i : Nat} {p : List Int} (h : idxS S k = some i) : idxS (S.set i (k, p)) z = idxS S z := by
  induction S generalizing i with
  | nil => simp
  | cons e S ih =>
    unfold idxS at h
    by_cases hk : e.1 = k
    · rw [if_pos hk] at h
      simp at h
      subst h
      subst hk
      simp [idxS]
    · rw [if_neg hk] at h
      cases hx : idxS S k with
      | none => rw [hx] at h; simp at h
      | some j =>
        rw [hx] at h
        simp at h
        subst h
        simp only [List.set_cons_succ, idxS, ih hx]

end Go.Proofs.YtcnbbmgclphfdaaDoor
