/- Contract of Same. -/
import Derived.Test.YtcnbbmgclphfdaaDoorOrdRow
namespace Go.Proofs.YtcnbbmgclphfdaaDoor
open Go.RowKit Go.Sort

set_option maxHeartbeats 2000000 in
theorem same_any (w : World) (v u : Value) (l m : List Ent) (hl : Lies w v l) (hm : Lies w u m) (hll : l.length ≤ 60) :
    Calls Tryd.prog 23 #[v, u] w fun e w' => e = .returned (.bool (sameB l m)) ∧ Below w.heap.size w w' := by
  have hv := run_vne
  obtain ⟨ao, cap, rfl, hc⟩ := hl
  obtain ⟨bo, cbp, rfl, hd⟩ := hm
  by_cases hlen : l.length = m.length
  · have hlb : ((l.length : Int) != (m.length : Int)) = false := by simp [hlen]
    have HL : Hid (l.length = m.length) := hlen
    clear hlen
    go_enter Tryd.func23, Tryd.ntmps23
    go_wp2
    go_loopw [5] (fun i wr => ∃ k : Nat, k ≤ l.length ∧ i = .int .i64 k ∧ Below w.heap.size w wr ∧ sameB l m = sameB (l.drop k) (m.drop k)) (fun i _ => l.length - (intOf i).toNat)
    case atStart => exact ⟨0, Nat.zero_le _, rfl, Below.refl _ _, rfl⟩
    case round =>
      obtain ⟨k, hkl, rfl, hbel, ho⟩ := hrel
      have HO : Hid (sameB l m = sameB (l.drop k) (m.drop k)) := ho
      clear ho
      by_cases h1 : k < l.length
      · have h2 : k < m.length := by rw [← HL.out]; exact h1
        obtain ⟨b, off, rfl, g1, g2, g3⟩ := lie_at hc hbel h1
        obtain ⟨b', off', rfl, g4, g5, g6⟩ := lie_at hd hbel h2
        have HD : Hid (sameB (l.drop k) (m.drop k) = (sameV l[k] m[k] && sameB (l.drop (k + 1)) (m.drop (k + 1)))) := sameB_drop h1 h2
        generalize l[k] = en at g1 g2 g3 HD
        generalize m[k] = em at g4 g5 g6 HD
        obtain ⟨t, n, s⟩ := en
        obtain ⟨t', n', s'⟩ := em
        simp only at g1 g2 g3 g4 g5 g6
        have HD' : Hid (sameB (l.drop k) (m.drop k) = (veq t n s t' n' s' && sameB (l.drop (k + 1)) (m.drop (k + 1)))) := HD
        clear HD hc hd
        have i0 : (0 : Int) ≤ (k : Int) := by omega
        have i1 : (k : Int) < (l.length : Int) := by omega
        have i2 : (k : Int) < (m.length : Int) := by omega
        cases hz : veq t n s t' n' s'
        · go_wp2_with fail
          go_region
          all_goals
            go_wp2_with fail
            go_ret
            refine ⟨?_, hbel.drew⟩
            rw [HO.out, HD'.out, hz]
            rfl
        · go_wp2_with fail
          go_region
          all_goals
            go_wp2_with fail
            go_roundw
            case rel => exact ⟨k + 1, by omega, by go_num, hbel.drew, by rw [HO.out, HD'.out, hz]; rfl⟩
            case measure => simp [intOf]; omega
      · have hk : k = l.length := by omega
        subst hk
        go_wp2_with fail
        go_ret
        refine ⟨?_, hbel⟩
        rw [HO.out, List.drop_eq_nil_of_le (Nat.le_refl _), List.drop_eq_nil_of_le (Nat.le_of_eq HL.out.symm)]
        rfl
  · have hlb : ((l.length : Int) != (m.length : Int)) = true := by simp; omega
    have he : sameB l m = false := by
      cases h : sameB l m
      · rfl
      · exact absurd (sameB_length h) hlen
    have HE : Hid (sameB l m = false) := he
    clear he hlen
    go_enter Tryd.func23, Tryd.ntmps23
    go_wp2
    go_ret
    refine ⟨?_, Below.refl _ _⟩
    rw [HE.out]
    rfl

end Go.Proofs.YtcnbbmgclphfdaaDoor
