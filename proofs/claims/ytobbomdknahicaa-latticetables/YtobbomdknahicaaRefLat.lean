/- The document's lattice in memory, and contracts of its calls: Is, Leq, Join, Meet, Bottom, Top, Above. -/
import Derived.Test.YtobbomdknahicaaCore
import Derived.Test.YtobbomdknahicaaLatSpec
namespace Go.Proofs.Ytobbomdknahicaa
open Go.RowKit Go.Sort

def leR (n : Nat) (R : Nat → Nat → Bool) (a b : Int) : Bool := isI n a && isI n b && R a.toNat b.toNat
/-- p is the document's lattice: its names, and so many rows. -/
def RLat (w : World) (p : Value) (L : List ByteArray) (k : Nat) (R : Nat → Nat → Bool) : Prop :=
  ∃ b ns bs rows, p = .pointer (some ⟨b, 0, none⟩) ∧ w.cell? ⟨b, 0, none⟩ = some ns ∧ w.cell? ⟨b, 1, none⟩ = some bs ∧ LiesS w ns L ∧ LiesC w bs rows ∧ rows.length = k ∧
    ∀ a (ha : a < rows.length), LiesC w rows[a] ((List.range L.length).map fun b => Value.bool (R a b))
theorem RLat.keep {w w' : World} {p : Value} {L : List ByteArray} {k : Nat} {R : Nat → Nat → Bool} (h : RLat w p L k R) (g : Below w.heap.size w w') : RLat w' p L k R := by
  obtain ⟨b, ns, bs, rows, h0, h1, h2, h3, h4, h5, h6⟩ := h
  exact ⟨b, ns, bs, rows, h0, cell_keep h1 g, cell_keep h2 g, h3.keep g, h4.keep g, h5, fun a ha => (h6 a ha).keep g⟩

set_option maxHeartbeats 1000000 in
theorem refIs_any (w : World) (p : Value) (L : List ByteArray) (k : Nat) (R : Nat → Nat → Bool) (hl : RLat w p L k R) (a : Int) :
    Calls Try.prog 40 #[p, .int .i64 a] w fun e w' => e = .returned (.bool (isI L.length a)) ∧ Below w.heap.size w w' := by
  obtain ⟨b, ns, bs, rows, rfl, h1, _, h3, _⟩ := hl
  obtain ⟨ao, cap, rfl, _, hc⟩ := h3
  have HX : Hid (isI L.length a = (decide (0 ≤ a) && decide (a < L.length))) := rfl
  clear hc
  by_cases ha : 0 ≤ a
  · go_enter Try.func40, Try.ntmps40
    go_wp2_with fail
    go_ret
    exact ⟨ret_bool (by rw [HX.out]; simp [ha]), Below.refl _ _⟩
  · go_enter Try.func40, Try.ntmps40
    go_wp2_with fail
    go_ret
    exact ⟨ret_bool (by rw [HX.out, decide_eq_false (by omega)]; rfl), Below.refl _ _⟩

set_option maxHeartbeats 2000000 in
theorem refLeq_any (w : World) (p : Value) (L : List ByteArray) (R : Nat → Nat → Bool) (hl : RLat w p L L.length R) (a b : Int) :
    Calls Try.prog 22 #[p, .int .i64 a, .int .i64 b] w fun e w' => e = .returned (.bool (leR L.length R a b)) ∧ Below w.heap.size w w' := by
  have i1 := fun w' (g : Below w.heap.size w w') => refIs_any w' p L _ R (hl.keep g) a
  have i2 := fun w' (g : Below w.heap.size w w') => refIs_any w' p L _ R (hl.keep g) b
  by_cases ha : isI L.length a = true
  · rw [ha] at i1
    by_cases hb : isI L.length b = true
    · rw [hb] at i2
      obtain ⟨x, hx, rfl⟩ := nat_of_isI ha
      obtain ⟨y, hy, rfl⟩ := nat_of_isI hb
      have HX : Hid (leR L.length R (x : Int) (y : Int) = R x y) := by show leR _ _ _ _ = _; simp [leR, ha, hb]
      obtain ⟨q, ns, bs, rows, rfl, h1, h2, h3, h4, h5, h6⟩ := hl
      obtain ⟨ao, cap, rfl, _, hc⟩ := h4
      have hxr : x < rows.length := by omega
      obtain ⟨rb, roff, rfl, hrow⟩ := hc x hxr
      obtain ⟨ro, rcap, hrv, _, hr⟩ := h6 x hxr
      obtain ⟨cb, coff, rfl, hcell⟩ := hr y (by simpa using hy)
      simp only [List.length_map, List.length_range, List.getElem_map, List.getElem_range] at hrv hcell
      rw [hrv] at hrow
      have j0 : (0 : Int) ≤ (x : Int) := by omega
      have j1 : (x : Int) < (rows.length : Int) := by omega
      have j2 : (0 : Int) ≤ (y : Int) := by omega
      have j3 : (y : Int) < (L.length : Int) := by omega
      clear hc hr h6 hrv ha hb
      go_enter Try.func22, Try.ntmps22
      go_wp2_with fail
      refine (i1 _ (Below.refl _ _)).mono ?_
      rintro e w1 ⟨rfl, b1⟩
      go_wp2_with fail
      refine (i2 _ b1).mono ?_
      rintro e w2 ⟨rfl, b2⟩
      replace b2 := btrans b1 b2
      replace h2 := cell_keep h2 b2
      replace hrow := cell_keep hrow b2
      replace hcell := cell_keep hcell b2
      go_wp2_with fail
      go_ret
      exact ⟨ret_bool HX.out.symm, b2⟩
    · rw [show isI L.length b = false by simpa using hb] at i2
      have HX : Hid (leR L.length R a b = false) := by show leR _ _ _ _ = _; simp [leR, hb]
      clear hb ha
      go_enter Try.func22, Try.ntmps22
      go_wp2_with fail
      refine (i1 _ (Below.refl _ _)).mono ?_
      rintro e w1 ⟨rfl, b1⟩
      go_wp2_with fail
      refine (i2 _ b1).mono ?_
      rintro e w2 ⟨rfl, b2⟩
      go_wp2_with fail
      go_ret
      exact ⟨ret_bool HX.out.symm, btrans b1 b2⟩
  · rw [show isI L.length a = false by simpa using ha] at i1
    have HX : Hid (leR L.length R a b = false) := by show leR _ _ _ _ = _; simp [leR, ha]
    clear ha
    go_enter Try.func22, Try.ntmps22
    go_wp2_with fail
    refine (i1 _ (Below.refl _ _)).mono ?_
    rintro e w1 ⟨rfl, b1⟩
    go_wp2_with fail
    go_ret
    exact ⟨ret_bool HX.out.symm, b1⟩

end Go.Proofs.Ytobbomdknahicaa
