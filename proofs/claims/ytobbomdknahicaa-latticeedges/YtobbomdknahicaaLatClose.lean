/- Contract of the program's closeAbove. -/
import Derived.Test.YtobbomdknahicaaLatTurn
import Derived.ScopeJumps
namespace Go.Proofs.Ytobbomdknahicaa
open Go.RowKit Go.Sort

/-- A label that stands first in its scope, and jumps back to it. -/
theorem wp_scope_back {P : Program} {Q : Exit → Act → World → Prop} {a : Act} {w : World} {body : Code} (l : Nat) (J : Act → World → Prop) (μ : Act → World → Nat) (hf : findLabel ((Code.label l).seq body) l = some (Code.skip.seq body)) (hJ : J a w)
    (pass : ∀ a w, J a w → body.wp P (Exit.jump l (fun a' w' => J a' w' ∧ μ a' w' < μ a w) Q) a w) : (Code.scope ((Code.label l).seq body)).wp P Q a w :=
  wp_scope_jumps l J μ hf (wp_seq (wp_label (wp_mono (pass a w hJ) fun e a w h => by
    cases e <;> first | exact h | exact ⟨h.1, h.2.1⟩))) fun a w hJ => wp_seq (wp_skip (pass a w hJ))

/-- The sets that stand above, out of memory. -/
def maskOf (w : World) (q : Nat) : Nat → Nat := fun a => match w.cell? ⟨q, 2 + a, none⟩ with
  | some v => (intOf v).toNat
  | none => 0
theorem maskOf_eq {w : World} {q : Nat} {nv pv : Value} {A B : Nat → Nat} {J M : Nat → Nat → Int} {bt tp : Int} (h : LatW w q nv pv A B J M bt tp) {a : Nat} (ha : a < 16) : maskOf w q a = A a := by
  unfold maskOf
  rw [h.above ha]
  simp [intOf]
theorem bitsAll_eq {w : World} {q n : Nat} {nv pv : Value} {A B : Nat → Nat} {J M : Nat → Nat → Int} {bt tp : Int} (h : LatW w q nv pv A B J M bt tp) (hn : n ≤ 16) : bitsAll n (maskOf w q) = bitsAll n A := by
  unfold bitsAll
  congr 1
  refine List.map_congr_left fun a ha => ?_
  rw [maskOf_eq h (by have := List.mem_range.1 ha; omega)]

set_option maxRecDepth 100000 in
set_option maxHeartbeats 4000000 in
theorem closeAbove_any (w : World) (q n cap : Nat) (ao : Option Addr) (pv : Value) (A B : Nat → Nat) (J M : Nat → Nat → Int) (bt tp : Int) (E : List (Nat × Nat))
    (hq : LatW w q (.slice ao n cap) pv A B J M bt tp) (hn : n ≤ 16) (hA : MidP n E A) :
    Calls Try.prog 33 #[.pointer (some ⟨q, 0, none⟩)] w fun e w' => e = .returned (.tuple #[]) ∧ w.grownBy w' (some q) ∧
      ∃ A', LatW w' q (.slice ao n cap) pv A' B J M bt tp ∧ MidP n E A' ∧ ∀ x, x < n → StillP A' x := by
  go_enter Try.func33, Try.ntmps33
  go_wp2_with fail
  refine wp_scope_back 0 (fun a' w' => ∃ (A' : Nat → Nat) (u1 u2 u3 u4 u5 u6 u7 u8 u9 u10 u11 u12 u13 u14 u15 u16 u17 u18 u19 u20 u21 u22 u23 u24 u25 u26 u27 u28 u29 u30 u31 u32 u33 u34 u35 u36 u37 u38 u39 u40 u41 u42 u43 u44 u45 u46 u47 u48 u49 u50 u51 u52 u53 u54 u55 u56 u57 u58 : Value), a' = { tmps := #[.pointer (some ⟨q, 0, none⟩), u1, u2, u3, u4, u5, u6, u7, u8, u9, u10, u11, u12, u13, u14, u15, u16, u17, u18, u19, u20, u21, u22, u23, u24, u25, u26, u27, u28, u29, u30, u31, u32, u33, u34, u35, u36, u37, u38, u39, u40, u41, u42, u43, u44, u45, u46, u47, u48, u49, u50, u51, u52, u53, u54, u55, u56, u57, u58], defers := [] } ∧ w.grownBy w' (some q) ∧ LatW w' q (.slice ao n cap) pv A' B J M bt tp ∧ MidP n E A') (fun _ w' => n * n - bitsAll n (maskOf w' q)) rfl ?_ ?_
  · exact ⟨A, _, _, _, _, _, _, _, _, _, _, _, _, _, _, _, _, _, _, _, _, _, _, _, _, _, _, _, _, _, _, _, _, _, _, _, _, _, _, _, _, _, _, _, _, _, _, _, _, _, _, _, _, _, _, _, _, _, _, rfl, grown_refl _ _, hq, hA⟩
  clear hq hA A
  rintro _ w0 ⟨A, u1, u2, u3, u4, u5, u6, u7, u8, u9, u10, u11, u12, u13, u14, u15, u16, u17, u18, u19, u20, u21, u22, u23, u24, u25, u26, u27, u28, u29, u30, u31, u32, u33, u34, u35, u36, u37, u38, u39, u40, u41, u42, u43, u44, u45, u46, u47, u48, u49, u50, u51, u52, u53, u54, u55, u56, u57, u58, rfl, hg0, hq0, hA⟩
  have HBITS : Hid (bitsAll n (maskOf w0 q) = bitsAll n A) := bitsAll_eq hq0 hn
  have c0 := hq0.names
  go_wp2_with fail
  go_loopw [10] (fun i wr => ∃ k : Nat, k ≤ n ∧ i = .int .i64 k ∧ w.grownBy wr (some q) ∧ LatW wr q (.slice ao n cap) pv A B J M bt tp ∧ ∀ x, x < k → StillP A x) (fun i _ => n - (intOf i).toNat)
  case atStart => exact ⟨0, Nat.zero_le _, rfl, hg0, hq0, fun x hx => absurd hx (by omega)⟩
  case round =>
    clear hg0 hq0 c0
    obtain ⟨k, hkl, rfl, hgr, hqr, hst⟩ := hrel
    have HST : Hid (∀ x, x < k → StillP A x) := hst
    clear hst
    by_cases hk : k < n
    · have i0 : (0 : Int) ≤ (k : Int) := by omega
      have i1 : (k : Int) < 16 := by omega
      have c1 := hqr.names
      have ca := hqr.above (a := k) (by omega)
      obtain ⟨wx, hwx⟩ : ∃ x, x = wr := ⟨_, rfl⟩
      rw [← hwx] at hgr hqr c1 ca ⊢
      clear hwx
      go_wp2_with fail
      go_loopw [3, 24] (fun m i wr => ∃ (j x : Nat), j ≤ n ∧ m = .int .u32 x ∧ i = .int .i64 j ∧ w.grownBy wr (some q) ∧ LatW wr q (.slice ao n cap) pv A B J M bt tp ∧ WideP A k j x) (fun _ i _ => n - (intOf i).toNat)
      case atStart => exact ⟨0, A k, Nat.zero_le _, rfl, rfl, hgr, hqr, WideP.start A k⟩
      case round =>
        clear hgr hqr c1 ca
        obtain ⟨j, x, hjl, rfl, rfl, hgr, hqr, hw⟩ := hrel
        have ca := hqr.above (a := k) (by omega)
        have hAk := hA.lt hn k
        have hx := hw.bound hA hn
        by_cases hj : j < n
        · have j0 : (0 : Int) ≤ (j : Int) := by omega
          have j1 : (j : Int) < 16 := by omega
          have hh := has_any wr (A k) j hAk (by omega)
          have hAj := hA.lt hn j
          have cj := hqr.above (a := j) (by omega)
          have hor := u32_or_nat x (A j) (by omega) (by omega)
          cases hb : (A k).testBit j
          · rw [hb] at hh
            have hnew := hw.same hb
            go_wp2_with fail
            refine hh.mono ?_
            rintro e w1 ⟨rfl, b1⟩
            go_wp2_with fail
            go_roundw
            case rel => exact ⟨j + 1, x, by omega, rfl, by go_num, grown_below hgr b1, hqr.keep b1, hnew⟩
            case measure => simp [intOf]; omega
          · rw [hb] at hh
            have hnew := hw.more hb
            go_wp2_with fail
            refine hh.mono ?_
            rintro e w1 ⟨rfl, b1⟩
            replace cj := cell_keep cj b1
            go_wp2_with fail
            go_roundw
            case rel => exact ⟨j + 1, x ||| A j, by omega, rfl, by go_num, grown_below hgr b1, hqr.keep b1, hnew⟩
            case measure => simp [intOf]; omega
        · have hjn : j = n := by omega
          subst hjn
          have HA := hA
          by_cases he : x = A k
          · have hne : ((x : Int) != ((A k : Nat) : Int)) = false := by simp [he]
            subst he
            have HX : Hid (∀ y, y < k + 1 → StillP A y) := fun y hy => by
              by_cases e : y < k
              · exact HST.out y e
              · have : y = k := by omega
                subst this; exact hw.still hA
            go_wp2_with fail
            go_roundw
            case rel => exact ⟨k + 1, by omega, by go_num, hgr, hqr, HX.out⟩
            case measure => simp [intOf]; omega
          · have hne : ((x : Int) != ((A k : Nat) : Int)) = true := by
              rw [bne_iff_ne]; omega
            have hmid := hw.mid hA hk
            have hgrows := hw.grows hA hk he
            have fa := hqr.frozen (2 + k)
            go_wp2_with fail
            go_step3
            have hqn := hqr.setAbove (k := k) (by omega) x
            refine ⟨rfl, ⟨setM A k x, _, _, _, _, _, _, _, _, _, _, _, _, _, _, _, _, _, _, _, _, _, _, _, _, _, _, _, _, _, _, _, _, _, _, _, _, _, _, _, _, _, _, _, _, _, _, _, _, _, _, _, _, _, _, _, _, _, _, rfl, grown_trans hgr (grown_set _ _ _ _), hqn, hmid⟩, ?_⟩
            rw [bitsAll_eq hqn hn, HBITS.out]
            exact hgrows
    · have hkn : k = n := by omega
      subst hkn
      go_wp2_with fail
      simp only [Exit.jump]
      go_end0
      exact ⟨rfl, hgr, A, hqr, hA, HST.out⟩

end Go.Proofs.Ytobbomdknahicaa
