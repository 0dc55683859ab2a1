/- Contract of the program's takeEdges. -/
import Derived.Test.YtobbomdknahicaaLatHas
namespace Go.Proofs.Ytobbomdknahicaa
open Go.RowKit Go.Sort

theorem pow_lt {k : Nat} (h : k < 16) : 2 ^ k < 65536 := Nat.lt_of_lt_of_le (Nat.pow_lt_pow_right (by decide) h) (by decide : 2 ^ 16 ≤ 65536)
theorem cast_pow (k : Nat) : ((2 ^ k : Nat) : Int) = (2 : Int) ^ k := by simp
theorem shl_pow {k : Nat} (h : k < 16) : (2 : Int) ^ k % 4294967296 = (2 : Int) ^ k := by
  have h1 := pow_lt h
  rw [← cast_pow]
  generalize 2 ^ k = m at *
  omega
theorem or_pow {a k : Nat} (ha : a < 65536) (h : k < 16) : bits .or .u32 (a : Int) ((2 : Int) ^ k) = ((a ||| 2 ^ k : Nat) : Int) := by
  rw [← cast_pow]
  exact u32_or_nat a (2 ^ k) (by omega) (by have := pow_lt h; omega)

set_option maxRecDepth 100000 in
set_option maxHeartbeats 4000000 in
theorem takeEdges_any (w : World) (q pb N cap : Nat) (ao : Option Addr) (u : Value) (L : List ByteArray) (E : List (ByteArray × ByteArray)) (B : Nat → Nat) (J M : Nat → Nat → Int) (bt tp : Int)
    (hq : LatW w q (.slice ao L.length cap) (.map (some pb)) (fun _ => 0) B J M bt tp) (hm : MapS w pb N (placeF L)) (hpb : q < pb)
    (hE : ∀ w', w.grownBy w' (some q) → LiesP w' u E) (hl : L.length ≤ 16) (hel : E.length ≤ 64) (hse : ∀ e ∈ E, e.1.size ≤ 1000 ∧ e.2.size ≤ 1000) :
    Calls Try.prog 32 #[.pointer (some ⟨q, 0, none⟩), u] w fun e w' => e = .returned (.bool (edgesOk L E)) ∧ w.grownBy w' (some q) ∧
      (edgesOk L E = true → ∃ A, LatW w' q (.slice ao L.length cap) (.map (some pb)) A B J M bt tp ∧ MidP L.length (ixE L E) A) := by
  obtain ⟨bo, cbp, rfl, _, _⟩ := hE w (grown_refl _ _)
  have c0 := hq.names
  rw [← startM_zero] at hq
  go_enter Try.func32, Try.ntmps32
  go_wp2_with fail
  go_loopw [17] (fun i wr => ∃ k : Nat, k ≤ L.length ∧ i = .int .i64 k ∧ w.grownBy wr (some q) ∧ LatW wr q (.slice ao L.length cap) (.map (some pb)) (startM k) B J M bt tp) (fun i _ => L.length - (intOf i).toNat)
  case atStart => exact ⟨0, Nat.zero_le _, rfl, grown_refl _ _, hq⟩
  case round =>
    obtain ⟨k, hkl, rfl, hgr, hqr⟩ := hrel
    clear hq c0
    by_cases hk : k < L.length
    · have i0 : (0 : Int) ≤ (k : Int) := by omega
      have i1 : (k : Int) < 16 := by omega
      have ca := hqr.above (a := k) (by omega)
      have fa := hqr.frozen (2 + k)
      have hsp := shl_pow (k := k) (by omega)
      go_wp2_with fail
      go_region
      go_wp2_with fail
      go_roundw
      case rel =>
        have h := hqr.setAbove (k := k) (by omega) (2 ^ k)
        rw [startM_succ, cast_pow] at h
        exact ⟨k + 1, by omega, by go_num, grown_drew (grown_trans hgr (grown_set _ _ _ _)), h.drew⟩
      case measure => simp [intOf]; omega
    · have hkn : k = L.length := by omega
      subst hkn
      obtain ⟨wx, rfl⟩ : ∃ x, x = wr := ⟨_, rfl⟩
      go_wp2_with fail
      go_loopw [30] (fun i wr => ∃ (k : Nat) (A : Nat → Nat), k ≤ E.length ∧ i = .int .i64 k ∧ w.grownBy wr (some q) ∧ LatW wr q (.slice ao L.length cap) (.map (some pb)) A B J M bt tp ∧ EdgeP L.length (ixE L E) k A ∧ ∀ j (hj : j < E.length), j < k → (hasB L E[j].1 && hasB L E[j].2) = true) (fun i _ => E.length - (intOf i).toNat)
      case atStart => exact ⟨0, _, Nat.zero_le _, rfl, hgr, hqr, EdgeP.start _ _, fun j _ hj => absurd hj (by omega)⟩
      case round =>
        clear hgr hqr wx
        obtain ⟨k, A, hkl, rfl, hgr, hqr, hed, hno⟩ := hrel
        have HN : Hid (∀ j (hj : j < E.length), j < k → (hasB L E[j].1 && hasB L E[j].2) = true) := hno
        clear hno
        by_cases hk : k < E.length
        · obtain ⟨_, _, hv0, _, hc⟩ := hE wr hgr
          simp only [Value.slice.injEq] at hv0
          obtain ⟨rfl, _, rfl⟩ := hv0
          obtain ⟨b, off, rfl, g1, g2⟩ := hc k hk
          have i0 : (0 : Int) ≤ (k : Int) := by omega
          have i1 : (k : Int) < (E.length : Int) := by omega
          have c1 := hqr.places
          have hlt := hqr.lt
          clear hc
          obtain ⟨e1, he1⟩ : ∃ x, x = E[k].1 := ⟨_, rfl⟩
          obtain ⟨e2, he2⟩ : ∃ x, x = E[k].2 := ⟨_, rfl⟩
          rw [← he1] at g1
          rw [← he2] at g2
          have HE1 : Hid (e1 = E[k].1) := he1
          have HE2 : Hid (e2 = E[k].2) := he2
          clear he1 he2
          have hmr := hm.grown hgr (by simp; omega)
          have hs1 : e1.size ≤ maxLen := by rw [HE1.out]; have := (hse E[k] (List.getElem_mem hk)).1; unfold maxLen; omega
          have hs2 : e2.size ≤ maxLen := by rw [HE2.out]; have := (hse E[k] (List.getElem_mem hk)).2; unfold maxLen; omega
          have HF : Hid ((hasB L e1 && hasB L e2) = false → edgesOk L E = false) := fun h => edgesOk_false hk (by rw [← HE1.out, ← HE2.out]; exact h)
          go_upto_region 9 with fail
          have hgx := World.grownBy_alloc wr (.cells #[.string e1, .string e2] 47) (some q)
          have hqx := hqr.grown (World.grownBy_alloc wr (.cells #[.string e1, .string e2] 47) none) (by simp)
          have hmx := hmr.grown (World.grownBy_alloc wr (.cells #[.string e1, .string e2] 47) none) (by simp)
          have x1 : (wr.alloc (.cells #[.string e1, .string e2] 47)).cell? ⟨wr.heap.size, 0, none⟩ = some (.string e1) := by rw [cell_of_row _ _ _ _ _ (0, 0) (heap_alloc_last wr _)]; rfl
          have x2 : (wr.alloc (.cells #[.string e1, .string e2] 47)).cell? ⟨wr.heap.size, 1, none⟩ = some (.string e2) := by rw [cell_of_row _ _ _ _ _ (0, 0) (heap_alloc_last wr _)]; rfl
          obtain ⟨wx, hwx⟩ : ∃ x, x = wr.alloc (.cells #[.string e1, .string e2] 47) := ⟨_, rfl⟩
          rw [← hwx] at hgx hqx hmx x1 x2 ⊢
          replace hgx := grown_trans hgr hgx
          have cx := hqx.places
          have l1 := MapS.lookOk (w := wx.drew) hmx hs1
          have l2 := MapS.lookOk (w := wx.drew.drew) hmx hs2
          rw [placeF_some, placeF_getD] at l1 l2
          clear hwx hmx hmr g1 g2 c1 hgr hqr hm
          have hd : w.grownBy wx.drew.drew (some q) := grown_drew (grown_drew hgx)
          cases h1 : hasB L e1
          · rw [h1] at l1
            have HX : Hid (edgesOk L E = false) := HF.out (by rw [h1]; rfl)
            generalize (if hasB L e2 = true then ((posN L e2 : Nat) : Int) else 0) = z2 at l2
            generalize hasB L e2 = b2 at l2
            go_region
            go_wp2_with fail
            go_region
            go_wp2_with fail
            go_ret
            rw [HX.out]
            exact ⟨rfl, hd, fun h => by cases h⟩
          · rw [h1, if_pos rfl] at l1
            cases h2 : hasB L e2
            · rw [h2] at l2
              have HX : Hid (edgesOk L E = false) := HF.out (by rw [h1, h2]; rfl)
              go_region
              go_wp2_with fail
              go_region
              go_wp2_with fail
              go_ret
              rw [HX.out]
              exact ⟨rfl, hd, fun h => by cases h⟩
            · rw [h2, if_pos rfl] at l2
              have hp1 := (findI_pos h1).2
              have hp2 := (findI_pos h2).2
              have hix : (ixE L E)[k]? = some (posN L e1, posN L e2) := by
                rw [HE1.out, HE2.out]; simp [ixE, hk]
              have hnew := hed.succ hix
              have HT : Hid (∀ e ∈ (ixE L E).take k, e.1 < L.length ∧ e.2 < L.length) := fun e he => by
                obtain ⟨j, hj, rfl⟩ := List.getElem_of_mem he
                rw [List.length_take] at hj
                have hjk : j < k := by omega
                have hjE : j < E.length := by omega
                have := HN.out j hjE hjk
                simp only [Bool.and_eq_true] at this
                rw [List.getElem_take]
                simp only [ixE, List.getElem_map]
                exact ⟨(findI_pos this.1).2, (findI_pos this.2).2⟩
              have hlow := hed.lt hl HT.out (posN L e1)
              have HN' : Hid (∀ j (hj : j < E.length), j < k + 1 → (hasB L E[j].1 && hasB L E[j].2) = true) := fun j hj hjk => by
                by_cases e : j < k
                · exact HN.out j hj e
                · have : j = k := by omega
                  subst this; rw [← HE1.out, ← HE2.out, h1, h2]; rfl
              clear h1 h2 HN HT hed hix HF
              generalize posN L e1 = lo at *
              generalize posN L e2 = hi at *
              have ca := hqx.above (a := lo) (by omega)
              have fa := hqx.frozen (2 + lo)
              have hsp := shl_pow (k := hi) (by omega)
              have hor := or_pow (a := A lo) (k := hi) hlow (by omega)
              have j0 : (0 : Int) ≤ (lo : Int) := by omega
              have j1 : (lo : Int) < 16 := by omega
              have j2 : (0 : Int) ≤ (hi : Int) := by omega
              have j3 : (hi : Int) < 16 := by omega
              go_region
              go_wp2_with fail
              go_region
              go_wp2_with fail
              go_region
              go_wp2_with fail
              go_roundw
              case rel =>
                exact ⟨k + 1, _, by omega, by go_num, grown_drew (grown_drew (grown_drew (grown_trans hgx (grown_set _ _ _ _)))), (hqx.setAbove (k := lo) (by omega) (A lo ||| 2 ^ hi)).drew.drew.drew, hnew, HN'.out⟩
              case measure => simp [intOf]; omega
        · have hkn : k = E.length := by omega
          subst hkn
          have HX : Hid (edgesOk L E = true) := edgesOk_true fun j hj => HN.out j hj hj
          clear HN
          go_wp2_with fail
          go_ret
          have hE0 := HX.out
          refine ⟨by rw [hE0]; rfl, hgr, fun _ => ⟨A, hqr, ?_⟩⟩
          have hlen : (ixE L E).length = E.length := by simp [ixE]
          rw [← hlen] at hed
          exact hed.mid (ixE_lt hE0)

end Go.Proofs.Ytobbomdknahicaa
