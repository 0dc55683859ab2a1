/- Places of rows by their bytes, without Go. -/
import Derived.Test.YtalfeggddfpgeaaDoorRwSpec
namespace Go.Proofs.YtalfeggddfpgeaaDoor
open Go.RowKit Go.Sort

/-- What a shelf holds behind some puts, each of a row's bytes and a place. -/
def shP (ps : List (Nat × Row)) : Sh := ps.foldl (fun S x => putS S (encS x.2) (x.1 : Int)) []
/-- The places that stand with a row. -/
def plc (ps : List (Nat × Row)) (r : Row) : List Int := (ps.filter fun x => decide (x.2 = r)).map fun x => (x.1 : Int)
theorem shP_snoc (ps : List (Nat × Row)) (x : Nat × Row) : shP (ps ++ [x]) = putS (shP ps) (encS x.2) (x.1 : Int) := by
  unfold shP; rw [List.foldl_append]; rfl
theorem plc_snoc (ps : List (Nat × Row)) (x : Nat × Row) (r : Row) : plc (ps ++ [x]) r = plc ps r ++ (if x.2 = r then [(x.1 : Int)] else []) := by
  unfold plc
  rw [List.filter_append, List.map_append]
  by_cases h : x.2 = r <;> simp [h]
theorem plc_none {ps : List (Nat × Row)} {r : Row} (h : ∀ x ∈ ps, x.2 ≠ r) : plc ps r = [] := by
  unfold plc
  rw [List.filter_eq_nil_iff.2 (fun x hx => by simpa using h x hx)]
  rfl
theorem putS_length : ∀ (S : Sh) (k : ByteArray) (p : Int), (putS S k p).length ≤ S.length + 1
  | [], _, _ => by simp [putS]
  | e :: S, k, p => by
    unfold putS
    split
    · simp
    · have := putS_length S k p
      simp; omega
theorem putS_lists : ∀ {S : Sh} {k : ByteArray} {p : Int} {n : Nat}, (∀ e ∈ S, e.2.length ≤ n) → ∀ e ∈ putS S k p, e.2.length ≤ n + 1
  | [], k, p, n, _ => by simp [putS]
  | e :: S, k, p, n, h => by
    have h1 := h e (List.mem_cons_self ..)
    unfold putS
    split
    · intro x hx
      rcases List.mem_cons.1 hx with rfl | hx
      · simp; omega
      · have := h x (List.mem_cons_of_mem _ hx); omega
    · intro x hx
      rcases List.mem_cons.1 hx with rfl | hx
      · omega
      · exact putS_lists (fun y hy => h y (List.mem_cons_of_mem _ hy)) x hx
theorem shP_bound (ps : List (Nat × Row)) : ∀ k, k ≤ ps.length → (shP (ps.take k)).length ≤ k ∧ ∀ e ∈ shP (ps.take k), e.2.length ≤ k
  | 0, _ => by simp [shP]
  | k + 1, h => by
    obtain ⟨h1, h2⟩ := shP_bound ps k (by omega)
    rw [List.take_succ_eq_append_getElem (by omega), shP_snoc]
    exact ⟨Nat.le_trans (putS_length _ _ _) (by omega), putS_lists h2⟩
theorem shP_len (ps : List (Nat × Row)) : (shP ps).length ≤ ps.length ∧ ∀ e ∈ shP ps, e.2.length ≤ ps.length := by
  have := shP_bound ps ps.length (Nat.le_refl _)
  rwa [List.take_length] at this

theorem putS_map {D : List Row} {f : Row → List Int} {r : Row} {p : Int} (hin : ∀ x ∈ D, encS x = encS r → x = r) (hnd : D.Nodup) :
    putS (D.map fun x => (encS x, f x)) (encS r) p = if memB D r = true then D.map (fun x => (encS x, f x ++ (if x = r then [p] else []))) else D.map (fun x => (encS x, f x)) ++ [(encS r, [p])] := by
  induction D with
  | nil => simp [putS, memB]
  | cons d D ih =>
    have hnd' := List.nodup_cons.1 hnd
    have hi := ih (fun x hx => hin x (List.mem_cons_of_mem _ hx)) hnd'.2
    by_cases c : d = r
    · subst c
      have hm : memB (d :: D) d = true := (memB_iff _ _).2 (List.mem_cons_self ..)
      rw [if_pos hm]
      simp only [List.map_cons, putS, if_true, List.cons.injEq, true_and]
      apply List.map_congr_left
      intro x hx
      have : ¬ x = d := fun e => hnd'.1 (e ▸ hx)
      simp [this]
    · have hne : ¬ encS d = encS r := fun e => c (hin d (List.mem_cons_self ..) e)
      have hm : memB (d :: D) r = memB D r := memB_congr (by simp; intro e; exact absurd e.symm c)
      simp only [List.map_cons, putS, if_neg hne]
      rw [hi, hm]
      by_cases hb : memB D r = true
      · rw [if_pos hb, if_pos hb]
        simp [c]
      · rw [if_neg hb, if_neg hb]
        rfl
theorem shP_eq : ∀ (ps : List (Nat × Row)) k, k ≤ ps.length → (∀ x ∈ ps, RightR x.2) → shP (ps.take k) = (distR ((ps.take k).map (·.2))).map fun r => (encS r, plc (ps.take k) r)
  | ps, 0, _, _ => by simp [shP, distR]
  | ps, k + 1, hk, hr => by
    have ih := shP_eq ps k (by omega) hr
    have hkl : k < ps.length := by omega
    rw [List.take_succ_eq_append_getElem hkl, shP_snoc, ih]
    have hmem : ps[k] ∈ ps := List.getElem_mem hkl
    have hrk := hr _ hmem
    generalize hq : ps.take k = qs at *
    have hqr : ∀ x ∈ qs, RightR x.2 := fun x hx => hr x (by rw [← hq] at hx; exact List.mem_of_mem_take hx)
    generalize ps[k] = x at *
    rw [List.map_append, List.map_singleton, distR_snoc, putS_map _ (nodup_distR _)]
    · by_cases hb : memB (distR (qs.map (·.2))) x.2 = true
      · rw [if_pos hb, if_pos hb]
        apply List.map_congr_left
        intro y _
        rw [plc_snoc]
        by_cases e : y = x.2
        · simp [e]
        · have e' : ¬ x.2 = y := fun h => e h.symm
          simp [e, e']
      · rw [if_neg hb, if_neg hb, List.map_append]
        congr 1
        · apply List.map_congr_left
          intro y hy
          rw [plc_snoc]
          have : ¬ x.2 = y := fun h => hb ((memB_iff _ _).2 (h ▸ hy))
          simp [this]
        · simp only [List.map_cons, List.map_nil]
          rw [plc_snoc, plc_none]
          · simp
          · intro z hz e
            exact hb ((memB_iff _ _).2 ((mem_distR _ _).2 (List.mem_map.2 ⟨z, hz, e⟩)))
    · intro y hy e
      obtain ⟨z, hz, rfl⟩ := List.mem_map.1 ((mem_distR _ _).1 hy)
      exact encS_inj (hqr z hz) hrk e
theorem shP_all (ps : List (Nat × Row)) (hr : ∀ x ∈ ps, RightR x.2) : shP ps = (distR (ps.map (·.2))).map fun r => (encS r, plc ps r) := by
  have := shP_eq ps ps.length (Nat.le_refl _) hr
  rwa [List.take_length] at this
theorem getS_map {D : List Row} {f : Row → List Int} {r : Row} (hin : ∀ x ∈ D, encS x = encS r → x = r) : getS (D.map fun x => (encS x, f x)) (encS r) = if memB D r = true then f r else [] := by
  induction D with
  | nil => simp [getS, memB]
  | cons d D ih =>
    have hi := ih fun x hx => hin x (List.mem_cons_of_mem _ hx)
    by_cases c : d = r
    · subst c
      have hm : memB (d :: D) d = true := (memB_iff _ _).2 (List.mem_cons_self ..)
      rw [if_pos hm]
      simp [getS]
    · have hne : ¬ encS d = encS r := fun e => c (hin d (List.mem_cons_self ..) e)
      have hm : memB (d :: D) r = memB D r := memB_congr (by simp; intro e; exact absurd e.symm c)
      simp only [List.map_cons, getS, if_neg hne]
      rw [hi, hm]
theorem getS_shP (ps : List (Nat × Row)) (hr : ∀ x ∈ ps, RightR x.2) (r : Row) (hrr : RightR r) : getS (shP ps) (encS r) = plc ps r := by
  rw [shP_all ps hr, getS_map]
  · split
    · rfl
    · rename_i h
      rw [plc_none]
      intro x hx e
      exact h ((memB_iff _ _).2 ((mem_distR _ _).2 (List.mem_map.2 ⟨x, hx, e⟩)))
  · intro y hy e
    obtain ⟨z, hz, rfl⟩ := List.mem_map.1 ((mem_distR _ _).1 hy)
    exact encS_inj (hr z hz) hrr e
theorem plc_nil_iff (ps : List (Nat × Row)) (r : Row) : plc ps r = [] ↔ ∀ x ∈ ps, x.2 ≠ r := by
  constructor
  · intro h x hx e
    unfold plc at h
    have : x ∈ ps.filter fun x => decide (x.2 = r) := List.mem_filter.2 ⟨hx, by simpa using e⟩
    rw [List.map_eq_nil_iff.1 h] at this
    cases this
  · exact plc_none

/-- The rows of a list with their places, up to k. -/
def enumR (L : List Row) (k : Nat) : List (Nat × Row) := (List.range k).map fun i => (i, L.getD i [])
theorem enumR_succ {L : List Row} {k : Nat} (hk : k < L.length) : enumR L (k + 1) = enumR L k ++ [(k, L[k])] := by
  unfold enumR
  rw [List.range_succ, List.map_append]
  simp [List.getD, hk]
theorem enumR_length (L : List Row) (k : Nat) : (enumR L k).length = k := by simp [enumR]
theorem enumR_rows {L : List Row} {k : Nat} (hk : k ≤ L.length) : (enumR L k).map (·.2) = L.take k := by
  induction k with
  | zero => simp [enumR]
  | succ k ih => rw [enumR_succ (by omega), List.map_append, ih (by omega), List.take_succ_eq_append_getElem (by omega)]; rfl
theorem enumR_mem {L : List Row} {k : Nat} (hk : k ≤ L.length) {x : Nat × Row} (h : x ∈ enumR L k) : ∃ h : x.1 < L.length, x.1 < k ∧ x.2 = L[x.1] := by
  obtain ⟨i, hi, rfl⟩ := List.mem_map.1 h
  have := List.mem_range.1 hi
  exact ⟨by dsimp only; omega, this, by simp [List.getD, show i < L.length by omega]⟩

end Go.Proofs.YtalfeggddfpgeaaDoor
