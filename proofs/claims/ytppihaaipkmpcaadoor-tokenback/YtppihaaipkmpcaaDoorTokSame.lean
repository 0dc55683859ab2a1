/- Contract of the document's Same. -/
import Derived.Test.YtppihaaipkmpcaaDoorTokMem
namespace Go.Proofs.YtppihaaipkmpcaaDoor
open Go.RowKit Go.Sort

theorem lieG_at {α : Type} {m : Nat} {enc : α → List Value} {w w' : World} {ao : Option Addr} {L : List α} (hc : ∀ i (h : i < L.length), ∃ b off, ao = some ⟨b, off, none⟩ ∧ ∀ j u, (enc L[i])[j]? = some u → w.cell? ⟨b, off + i * m + j, none⟩ = some u) (k : Below w.heap.size w w') {i : Nat} (h : i < L.length) :
    ∃ b off, ao = some ⟨b, off, none⟩ ∧ ∀ j u, (enc L[i])[j]? = some u → w'.cell? ⟨b, off + i * m + j, none⟩ = some u := by
  obtain ⟨b, off, h0, h1⟩ := hc i h
  exact ⟨b, off, h0, fun j u hj => cell_keep (h1 j u hj) k⟩
/-- The four cells of a token that lies in a slice. -/
theorem tok_cells {w : World} {b o : Nat} {t : Tk} (h : ∀ j u, (encT t)[j]? = some u → w.cell? ⟨b, o + j, none⟩ = some u) :
    w.cell? ⟨b, o, none⟩ = some (.int .i64 t.1) ∧ w.cell? ⟨b, o + 1, none⟩ = some (.string t.2.1) ∧ w.cell? ⟨b, o + 2, none⟩ = some (.int .i64 t.2.2.1) ∧ w.cell? ⟨b, o + 3, none⟩ = some (.int .i64 t.2.2.2) :=
  ⟨h 0 _ rfl, h 1 _ rfl, h 2 _ rfl, h 3 _ rfl⟩

theorem tok_ne {a b : Tk} (h : ¬ a = b) : ¬ a.1 = b.1 ∨ (a.1 = b.1 ∧ ¬ a.2.1.toList = b.2.1.toList) ∨ (a.1 = b.1 ∧ a.2.1.toList = b.2.1.toList ∧ ¬ a.2.2.1 = b.2.2.1) ∨ (a.1 = b.1 ∧ a.2.1.toList = b.2.1.toList ∧ a.2.2.1 = b.2.2.1 ∧ ¬ a.2.2.2 = b.2.2.2) := by
  by_cases h1 : a.1 = b.1
  · by_cases h2 : a.2.1.toList = b.2.1.toList
    · by_cases h3 : a.2.2.1 = b.2.2.1
      · exact .inr (.inr (.inr ⟨h1, h2, h3, fun h4 => h (Prod.ext h1 (Prod.ext (toList_inj h2) (Prod.ext h3 h4)))⟩))
      · exact .inr (.inr (.inl ⟨h1, h2, h3⟩))
    · exact .inr (.inl ⟨h1, h2⟩)
  · exact .inl h1

set_option maxRecDepth 100000 in
set_option maxHeartbeats 2000000 in
theorem same_ref (w : World) (v u : Value) (A B : List Tk) (ha : LiesG 4 encT w v A) (hb : LiesG 4 encT w u B) (hal : A.length ≤ 1000000) :
    Calls Tryd.prog 13 #[v, u] w fun e w' => e = .returned (.bool (decide (A = B))) ∧ Below w.heap.size w w' := by
  obtain ⟨ao, cap, rfl, _, hc⟩ := ha
  obtain ⟨bo, cbp, rfl, _, hd⟩ := hb
  by_cases hlen : A.length = B.length
  · have hlb : ((A.length : Int) != (B.length : Int)) = false := by simp [hlen]
    have HL : Hid (A.length = B.length) := hlen
    clear hlen
    go_enter Tryd.func13, Tryd.ntmps13
    go_wp2_with fail
    go_loopw [5] (fun i wr => ∃ k : Nat, k ≤ A.length ∧ i = .int .i64 k ∧ Below w.heap.size w wr ∧ ∀ j (ha : j < A.length) (hb : j < B.length), j < k → A[j] = B[j]) (fun i _ => A.length - (intOf i).toNat)
    case atStart => exact ⟨0, Nat.zero_le _, rfl, Below.refl _ _, fun j _ _ hj => absurd hj (by omega)⟩
    case round =>
      obtain ⟨k, hkl, rfl, hbel, hno⟩ := hrel
      by_cases h1 : k < A.length
      · have h2 : k < B.length := by rw [← HL.out]; exact h1
        obtain ⟨b, off, rfl, g1⟩ := lieG_at hc hbel h1
        obtain ⟨b', off', rfl, g2⟩ := lieG_at hd hbel h2
        obtain ⟨p0, p1, p2, p3⟩ := tok_cells g1
        obtain ⟨r0, r1, r2, r3⟩ := tok_cells g2
        have i0 : (0 : Int) ≤ (k : Int) := by omega
        have i1 : (k : Int) < (A.length : Int) := by omega
        have i2 : (k : Int) < (B.length : Int) := by omega
        clear hc hd g1 g2
        by_cases he : A[k] = B[k]
        · have e1 : A[k].1 = B[k].1 := by rw [he]
          have e2 : A[k].2.1.toList = B[k].2.1.toList := by rw [he]
          have e3 : A[k].2.2.1 = B[k].2.2.1 := by rw [he]
          have e4 : A[k].2.2.2 = B[k].2.2.2 := by rw [he]
          have HX : Hid (∀ j (ha : j < A.length) (hb : j < B.length), j < k + 1 → A[j] = B[j]) := fun j ha hb hjk => by
            by_cases c : j < k
            · exact hno j ha hb c
            · have : j = k := by omega
              subst this; exact he
          clear he hno
          go_wp2_with fail
          go_region
          go_wp2_with fail
          go_roundw
          case rel => exact ⟨k + 1, by omega, by go_num, hbel.drew, HX.out⟩
          case measure => simp [intOf]; omega
        · have HX : Hid (decide (A = B) = false) := decide_eq_false fun e => he (by subst e; rfl)
          have hcs := tok_ne he
          clear he hno
          rcases hcs with e1 | ⟨e1, e2⟩ | ⟨e1, e2, e3⟩ | ⟨e1, e2, e3, e4⟩ <;> (
            go_wp2_with fail
            go_region
            go_wp2_with fail
            go_ret
            exact ⟨ret_bool HX.out.symm, hbel.drew⟩)
      · have HX : Hid (decide (A = B) = true) := decide_eq_true (List.ext_getElem HL.out fun i ha hb => hno i ha hb (by omega))
        clear hno
        have hk : k = A.length := by omega
        subst hk
        go_wp2_with fail
        go_ret
        exact ⟨ret_bool HX.out.symm, hbel⟩
  · have hlb : ((A.length : Int) != (B.length : Int)) = true := by simp; omega
    have HX : Hid (decide (A = B) = false) := decide_eq_false fun e => hlen (by rw [e])
    clear hlen hc hd
    go_enter Tryd.func13, Tryd.ntmps13
    go_wp2_with fail
    go_ret
    exact ⟨ret_bool HX.out.symm, Below.refl _ _⟩

end Go.Proofs.YtppihaaipkmpcaaDoor
