/- Groups, without Go: what the law RowsGroups asks of them. -/
import Derived.Test.YtafbgmpbfonljaaDoorRwShelf2
namespace Go.Proofs.YtafbgmpbfonljaaDoor
open Go.RowKit Go.Sort

theorem mem_plc {L : List Row} {r : Row} {z : Int} : z ∈ plc (enumR L L.length) r ↔ ∃ k : Nat, z = k ∧ ∃ h : k < L.length, L[k] = r := by
  constructor
  · intro h
    obtain ⟨x, hx, rfl⟩ := List.mem_map.1 h
    obtain ⟨h1, h2⟩ := List.mem_filter.1 hx
    obtain ⟨h3, _, h4⟩ := enumR_mem (Nat.le_refl _) h1
    exact ⟨x.1, rfl, h3, by rw [← h4]; simpa using h2⟩
  · rintro ⟨k, rfl, h, rfl⟩
    refine List.mem_map.2 ⟨(k, L[k]), List.mem_filter.2 ⟨?_, by simp⟩, rfl⟩
    exact List.mem_map.2 ⟨k, List.mem_range.2 h, by simp [List.getD, h]⟩
theorem plc_rising (L : List Row) (r : Row) : ∀ k, k ≤ L.length → (plc (enumR L k) r).Pairwise (· < ·) ∧ ∀ z ∈ plc (enumR L k) r, z < (k : Int)
  | 0, _ => by simp [plc, enumR]
  | k + 1, hk => by
    obtain ⟨h1, h2⟩ := plc_rising L r k (by omega)
    rw [enumR_succ (by omega), plc_snoc]
    split
    · refine ⟨?_, ?_⟩
      · rw [List.pairwise_append]
        exact ⟨h1, by simp, fun a ha b hb => by rw [List.mem_singleton.1 hb]; exact h2 a ha⟩
      · intro z hz
        rcases List.mem_append.1 hz with hz | hz
        · have := h2 z hz; omega
        · rw [List.mem_singleton.1 hz]; dsimp only; omega
    · simp only [List.append_nil]
      exact ⟨h1, fun z hz => by have := h2 z hz; omega⟩
/-- The first place of a row that is there. -/
theorem plc_head {L : List Row} {r : Row} (hr : r ∈ L) : ∃ z l, plc (enumR L L.length) r = z :: l := by
  cases h : plc (enumR L L.length) r with
  | nil =>
    exfalso
    obtain ⟨k, hk, e⟩ := List.mem_iff_getElem.1 hr
    have : (k : Int) ∈ plc (enumR L L.length) r := mem_plc.2 ⟨k, rfl, hk, e⟩
    rw [h] at this
    cases this
  | cons z l => exact ⟨z, l, rfl⟩
/-- The number of places of all rows of a list without repeats that holds all of them. -/
theorem plc_total (L : List Row) : ∀ k, k ≤ L.length → ∀ D : List Row, D.Nodup → (∀ r ∈ L, r ∈ D) → ((D.map fun r => (plc (enumR L k) r).length).sum) = k
  | 0, _, D, _, _ => by
    have : ∀ r, (plc (enumR L 0) r).length = 0 := fun r => by simp [plc, enumR]
    simp only [this]
    have hz : ∀ D : List Row, (D.map fun _ => 0).sum = 0 := fun D => by
      induction D with
      | nil => rfl
      | cons a D ih => simpa using ih
    exact hz D
  | k + 1, hk, D, hn, hm => by
    have ih := plc_total L k (by omega) D hn hm
    have hkl : k < L.length := by omega
    have e : ∀ r, (plc (enumR L (k + 1)) r).length = (plc (enumR L k) r).length + if L[k] = r then 1 else 0 := fun r => by
      rw [enumR_succ hkl, plc_snoc, List.length_append]
      by_cases h : L[k] = r <;> simp [h]
    simp only [e]
    have hs : ∀ (D : List Row) (f g : Row → Nat), (D.map fun r => f r + g r).sum = (D.map f).sum + (D.map g).sum := fun D f g => by
      induction D with
      | nil => rfl
      | cons a D ih => simp [ih]; omega
    rw [hs, ih]
    have hone : ∀ (D : List Row) (x : Row), D.Nodup → x ∈ D → (D.map fun r => if x = r then 1 else 0).sum = 1 := fun D x hn hx => by
      induction D with
      | nil => cases hx
      | cons a D ih =>
        have hn' := List.nodup_cons.1 hn
        by_cases c : x = a
        · subst c
          have : (D.map fun r => if x = r then 1 else 0).sum = 0 := by
            have hz : ∀ r ∈ D, ¬ x = r := fun r hr e => hn'.1 (e ▸ hr)
            clear ih hn hx hn'
            induction D with
            | nil => rfl
            | cons b D ih => simp [hz b (List.mem_cons_self ..)]; exact ih fun r hr => hz r (List.mem_cons_of_mem _ hr)
          simp [this]
        · rcases List.mem_cons.1 hx with h | h
          · exact absurd h c
          · simp [c, ih hn'.2 h]
    rw [hone D L[k] hn (hm _ (List.getElem_mem hkl))]
theorem grp_total (L : List Row) : ((grpR L).map List.length).sum = L.length := by
  have := plc_total L L.length (Nat.le_refl _) (distR L) (nodup_distR L) (fun r hr => (mem_distR L r).2 hr)
  unfold grpR
  rw [List.map_map]
  exact this
/-- The first places rise with the groups. -/
theorem dist_first (L : List Row) : ∀ k, k ≤ L.length → (distR (L.take k)).Pairwise (fun r s => ∃ i : Nat, ∃ h : i < L.length, L[i] = r ∧ ∀ j : Nat, (hj : j < L.length) → L[j] = s → i < j) ∧ ∀ r ∈ distR (L.take k), ∃ i : Nat, ∃ h : i < L.length, i < k ∧ L[i] = r
  | 0, _ => by simp [distR]
  | k + 1, hk => by
    obtain ⟨h1, h2⟩ := dist_first L k (by omega)
    have hkl : k < L.length := by omega
    rw [distR_take hkl]
    split
    · exact ⟨h1, fun r hr => by obtain ⟨i, h, hi, e⟩ := h2 r hr; exact ⟨i, h, by omega, e⟩⟩
    · rename_i hm
      rw [memB_iff] at hm
      refine ⟨?_, ?_⟩
      · rw [List.pairwise_append]
        refine ⟨h1, by simp, fun a ha b hb => ?_⟩
        rw [List.mem_singleton.1 hb]
        obtain ⟨i, h, hi, e⟩ := h2 a ha
        refine ⟨i, h, e, fun j hj he => ?_⟩
        have : ¬ j < k := fun hjk => hm (by
          rw [← he]
          exact List.mem_iff_getElem.2 ⟨j, by simp; omega, by simp⟩)
        omega
      · intro r hr
        rcases List.mem_append.1 hr with hr | hr
        · obtain ⟨i, h, hi, e⟩ := h2 r hr; exact ⟨i, h, by omega, e⟩
        · rw [List.mem_singleton.1 hr]; exact ⟨k, hkl, by omega, rfl⟩
/-- What the law asks of a list of groups. -/
structure Grp (L : List Row) (G : List (List Int)) : Prop where
  ne : ∀ i, (h : i < G.length) → 0 < G[i].length
  up : ∀ i, (h : i + 1 < G.length) → (G[i]'(by omega)).headD 0 < (G[i + 1]).headD 0
  inn : ∀ i, (h : i < G.length) → ∀ z ∈ G[i], 0 ≤ z ∧ z < (L.length : Int)
  ris : ∀ i, (h : i < G.length) → G[i].Pairwise (· < ·)
  same : ∀ i, (h : i < G.length) → ∀ z ∈ G[i], L.getD (G[i].headD 0).toNat [] = L.getD z.toNat []
  diff : ∀ i j, (h : j < i) → (h' : i < G.length) → L.getD ((G[j]'(by omega)).headD 0).toNat [] ≠ L.getD (G[i].headD 0).toNat []
  tot : (G.map List.length).sum = L.length
theorem grp_at {L : List Row} {i : Nat} (h : i < (grpR L).length) : ∃ h' : i < (distR L).length, (grpR L)[i] = plc (enumR L L.length) (distR L)[i] ∧ (distR L)[i] ∈ L := by
  have h' : i < (distR L).length := by simpa [grpR] using h
  exact ⟨h', by simp [grpR], (mem_distR _ _).1 (List.getElem_mem h')⟩
theorem grp_key {L : List Row} {r : Row} {z : Int} (h : z ∈ plc (enumR L L.length) r) : 0 ≤ z ∧ z < (L.length : Int) ∧ L.getD z.toNat [] = r := by
  obtain ⟨k, rfl, hk, e⟩ := mem_plc.1 h
  exact ⟨by omega, by omega, by simp [List.getD, hk, e]⟩
theorem headD_mem {l : List Int} (h : 0 < l.length) : l.headD 0 ∈ l := by
  cases l with
  | nil => simp at h
  | cons a l => simp
theorem grp_ok (L : List Row) : Grp L (grpR L) := by
  have ne : ∀ i, (h : i < (grpR L).length) → 0 < (grpR L)[i].length := fun i h => by
    obtain ⟨h1, h2, h3⟩ := grp_at h
    obtain ⟨z, l, e⟩ := plc_head h3
    rw [h2, e]; simp
  have key : ∀ i, (h : i < (grpR L).length) → ∀ z ∈ (grpR L)[i], 0 ≤ z ∧ z < (L.length : Int) ∧ L.getD z.toNat [] = (distR L)[i]'(grp_at h).1 := fun i h z hz => by
    obtain ⟨h1, h2, h3⟩ := grp_at h
    rw [h2] at hz
    exact grp_key hz
  have hk : ∀ i, (h : i < (grpR L).length) → L.getD ((grpR L)[i].headD 0).toNat [] = (distR L)[i]'(grp_at h).1 := fun i h => (key i h _ (headD_mem (ne i h))).2.2
  refine ⟨ne, fun i h => ?_, fun i h z hz => ⟨(key i h z hz).1, (key i h z hz).2.1⟩, fun i h => ?_, fun i h z hz => ?_, fun i j h h' => ?_, grp_total L⟩
  · obtain ⟨h1, h2, h3⟩ := grp_at (show i < (grpR L).length by omega)
    obtain ⟨g1, g2, g3⟩ := grp_at h
    have hd := (dist_first L L.length (Nat.le_refl _)).1
    rw [List.take_length, List.pairwise_iff_getElem] at hd
    obtain ⟨k, hk, e, hall⟩ := hd i (i + 1) h1 g1 (by omega)
    have m2 : ((grpR L)[i + 1]).headD 0 ∈ (grpR L)[i + 1] := headD_mem (ne _ h)
    rw [g2] at m2
    obtain ⟨j, hj, hjl, e2⟩ := mem_plc.1 m2
    have hkj := hall j hjl e2
    have m1 : (k : Int) ∈ plc (enumR L L.length) (distR L)[i] := mem_plc.2 ⟨k, rfl, hk, e⟩
    have hr := (plc_rising L (distR L)[i] L.length (Nat.le_refl _)).1
    rw [h2]
    rw [← g2] at hj
    rw [hj]
    obtain ⟨z, l, ez⟩ := plc_head h3
    rw [ez] at m1 hr ⊢
    rcases List.mem_cons.1 m1 with m1 | m1
    · simp; omega
    · have := (List.pairwise_cons.1 hr).1 _ m1
      simp; omega
  · obtain ⟨h1, h2, h3⟩ := grp_at h
    rw [h2]
    exact (plc_rising L _ L.length (Nat.le_refl _)).1
  · rw [hk i h, (key i h z hz).2.2]
  · rw [hk i h', hk j (by omega)]
    intro e
    have := List.getElem_inj (nodup_distR L) |>.1 e
    omega

end Go.Proofs.YtafbgmpbfonljaaDoor
