/- Few: which lists of rows are gone through. -/
import Derived.Test.YtcnbbmgclphfdaaDoorRwMem
namespace Go.Proofs.YtcnbbmgclphfdaaDoor
open Go.RowKit Go.Sort

theorem lawRight_any (t n : Int) (s : ByteArray) (w : World) :
    Calls Tryd.prog 24 #[V t n s] w fun e w' => e = .returned (.bool (rightE t n s == 0)) ∧ Below w.heap.size w w' := by
  go_enter Tryd.func24, Tryd.ntmps24
  go_wp2_with (go_at_call 8; refine (refRight_any _ _ _ _).mono ?_; rintro e w1 ⟨rfl, hb1⟩)
  go_ret
  exact ⟨rfl, bnew hb1⟩

def okE (e : Ent) : Bool := rightE e.1 e.2.1 e.2.2 == 0
def okR (r : Row) : Bool := decide (r.length ≤ 40) && r.all okE
def okL (L : List Row) : Bool := decide (L.length ≤ 40) && L.all okR
def fewR (LL : List (List Row)) : Bool := LL.all okL

/-- v is a slice of lists of rows and holds LL. -/
def LiesLL (w : World) (v : Value) (LL : List (List Row)) : Prop :=
  ∃ ao cap, v = .slice ao LL.length cap ∧ ∀ i (h : i < LL.length), ∃ b off r, ao = some ⟨b, off, none⟩ ∧ w.cell? ⟨b, off + i, none⟩ = some r ∧ LiesR w r LL[i]

set_option maxHeartbeats 4000000 in
theorem few11_any (w : World) (v : Value) (LL : List (List Row)) (hl : LiesLL w v LL) (hll : LL.length ≤ 10) :
    Calls Tryd.prog 6 #[v] w fun e w' => e = .returned (.bool (fewR LL)) ∧ Below w.heap.size w w' := by
  obtain ⟨ao, cap, rfl, hc⟩ := hl
  go_enter Tryd.func6, Tryd.ntmps6
  go_wp2
  go_loopw [11] (fun i wr => ∃ k : Nat, k ≤ LL.length ∧ i = .int .i64 k ∧ Below w.heap.size w wr ∧ (LL.take k).all okL = true) (fun i _ => LL.length - (intOf i).toNat)
  case atStart => exact ⟨0, Nat.zero_le _, rfl, Below.refl _ _, rfl⟩
  case round =>
    obtain ⟨k, hk, rfl, hbel, ha⟩ := hrel
    have HA : Hid ((LL.take k).all okL = true) := ha
    clear ha
    by_cases hlt : k < LL.length
    · obtain ⟨b, off, r, rfl, h1, h2⟩ := hc k hlt
      have HT : Hid (LL.take (k + 1) = LL.take k ++ [LL[k]]) := List.take_succ_eq_append_getElem hlt
      have HM : Hid (LL[k] ∈ LL) := List.getElem_mem hlt
      generalize LL[k] = L at h1 h2 HT HM
      have g1 := cell_keep h1 hbel
      have g2 := h2.keep hbel
      have bad : okL L = false → fewR LL = false := fun h => List.all_eq_false.2 ⟨_, HM.out, by simpa using h⟩
      have BAD : Aside _ := bad
      clear bad h1 h2
      have HC : Aside _ := hc
      clear hc
      obtain ⟨ao2, cap2, rfl, hn2, hd⟩ := g2
      by_cases h40 : L.length ≤ 40
      · have h40b : decide (40 < (L.length : Int)) = false := by simp; omega
        go_wp2
        obtain ⟨wx, rfl⟩ : ∃ x, x = wr := ⟨_, rfl⟩
        go_loopw [20] (fun i ws => ∃ m : Nat, m ≤ L.length ∧ i = .int .i64 m ∧ Below w.heap.size w ws ∧ Below wx.heap.size wx ws ∧ (L.take m).all okR = true) (fun i _ => L.length - (intOf i).toNat)
        case atStart => exact ⟨0, Nat.zero_le _, rfl, hbel, Below.refl _ _, rfl⟩
        case round =>
          obtain ⟨m, hm, rfl, hbel2, hbx, hb⟩ := hrel
          have HB : Hid ((L.take m).all okR = true) := hb
          clear hb
          by_cases hmt : m < L.length
          · obtain ⟨b2, off2, r2, rfl, k1, k2⟩ := lieR_at hd hbx hmt
            have HT2 : Hid (L.take (m + 1) = L.take m ++ [L[m]]) := List.take_succ_eq_append_getElem hmt
            have HM2 : Hid (L[m] ∈ L) := List.getElem_mem hmt
            generalize L[m] = R at k1 k2 HT2 HM2
            have bad2 : okR R = false → okL L = false := fun h => by
              unfold okL
              rw [Bool.and_eq_false_iff]
              exact .inr (List.all_eq_false.2 ⟨_, HM2.out, by simpa using h⟩)
            have BAD2 : Aside _ := bad2
            clear bad2
            have HD : Aside _ := hd
            clear hd
            obtain ⟨ao3, cap3, rfl, he⟩ := k2
            by_cases h40' : R.length ≤ 40
            · have h40c : decide (40 < (R.length : Int)) = false := by simp; omega
              go_wp2
              obtain ⟨wy, rfl⟩ : ∃ x, x = wr := ⟨_, rfl⟩
              go_loopw [29] (fun i ws => ∃ q : Nat, q ≤ R.length ∧ i = .int .i64 q ∧ Below w.heap.size w ws ∧ Below wx.heap.size wx ws ∧ Below wy.heap.size wy ws ∧ (R.take q).all okE = true) (fun i _ => R.length - (intOf i).toNat)
              case atStart => exact ⟨0, Nat.zero_le _, rfl, hbel2, hbx, Below.refl _ _, rfl⟩
              case round =>
                obtain ⟨q, hq, rfl, hbel3, hbx3, hby, hb3⟩ := hrel
                have HB3 : Hid ((R.take q).all okE = true) := hb3
                clear hb3
                by_cases hqt : q < R.length
                · obtain ⟨b3, off3, rfl, c1, c2, c3⟩ := lie_at he hby hqt
                  have HT3 : Hid (R.take (q + 1) = R.take q ++ [R[q]]) := List.take_succ_eq_append_getElem hqt
                  have HM3 : Hid (R[q] ∈ R) := List.getElem_mem hqt
                  generalize R[q] = en at c1 c2 c3 HT3 HM3
                  obtain ⟨t, n, s⟩ := en
                  simp only at c1 c2 c3
                  have HE : Aside _ := he
                  clear he
                  have hs1 := hbel3.size
                  have hs2 := hbx3.size
                  have hs3 := hby.size
                  cases hz : (rightE t n s == 0)
                  · go_wp2_with (go_at_call 24; refine (lawRight_any _ _ _ _).mono ?_; rintro e w1 ⟨rfl, hb1⟩; rw [hz])
                    go_ret
                    have : okR R = false := by
                      unfold okR
                      rw [Bool.and_eq_false_iff]
                      exact .inr (List.all_eq_false.2 ⟨_, HM3.out, by simpa [okE] using hz⟩)
                    exact ⟨by rw [BAD.out (BAD2.out this)]; rfl, btrans hbel3 (bnew hb1)⟩
                  · go_wp2_with (go_at_call 24; refine (lawRight_any _ _ _ _).mono ?_; rintro e w1 ⟨rfl, hb1⟩; rw [hz])
                    go_roundw
                    case rel => exact ⟨q + 1, by omega, by go_num, btrans hbel3 (bnew hb1), btrans hbx3 (bnew hb1), btrans hby (bnew hb1), by rw [HT3.out, List.all_append, HB3.out]; simp [okE, hz]⟩
                    case measure => simp [intOf]; omega
                · have hqq : q = R.length := by omega
                  subst hqq
                  rw [List.take_length] at HB3
                  go_wp2
                  go_roundw
                  case rel => exact ⟨m + 1, by omega, by go_num, hbel3, hbx3, by rw [HT2.out, List.all_append, HB.out]; simp [okR, HB3.out, h40']⟩
                  case measure => simp [intOf]; omega
            · have h40c : decide (40 < (R.length : Int)) = true := by simp; omega
              go_wp2
              go_ret
              have : okR R = false := by simp [okR]; omega
              exact ⟨by rw [BAD.out (BAD2.out this)]; rfl, hbel2⟩
          · have hmm : m = L.length := by omega
            subst hmm
            rw [List.take_length] at HB
            go_wp2
            go_roundw
            case rel => exact ⟨k + 1, by omega, by go_num, hbel2, by rw [HT.out, List.all_append, HA.out]; simp [okL, HB.out, h40]⟩
            case measure => simp [intOf]; omega
      · have h40b : decide (40 < (L.length : Int)) = true := by simp; omega
        go_wp2
        go_ret
        have : okL L = false := by simp [okL]; omega
        exact ⟨by rw [BAD.out this]; rfl, hbel⟩
    · have hkk : k = LL.length := by omega
      subst hkk
      rw [List.take_length] at HA
      go_wp2
      go_ret
      exact ⟨by rw [fewR, HA.out]; rfl, hbel⟩

end Go.Proofs.YtcnbbmgclphfdaaDoor
