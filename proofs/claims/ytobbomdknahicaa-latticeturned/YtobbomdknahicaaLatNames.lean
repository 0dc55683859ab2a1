/- Contract of the program's takeNames. -/
import Derived.Test.YtobbomdknahicaaLatHas
import Derived.Carry
namespace Go.Proofs.Ytobbomdknahicaa
open Go.RowKit Go.Sort

theorem infoS : (Try.prog.info? 9).map (fun i => (i.zero, i.size, i.bytes)) = some (some (.string ⟨#[]⟩), 1, 16) := by kernel_rfl
theorem oneS (L : List ByteArray) : ∀ y ∈ L.map Value.string, y.oneCell' = true := by
  intro y hy
  simp only [List.mem_map] at hy
  obtain ⟨s, _, rfl⟩ := hy
  rfl
/-- What lies behind block q stays, if block q alone is changed. -/
theorem Own1.past {w w' : World} {q : Nat} {e : TypeId} {v : Value} {xs : List Value} (h : Own1 w (q + 1) e v xs) (hg : w.grownBy w' (some q)) : Own1 w' (q + 1) e v xs := by
  refine World.ownsRow.kept h hg ?_
  cases hv : v.ownBlock with
  | none => exact .inl rfl
  | some g =>
    refine .inr fun hc => ?_
    have := (h.block hv).1
    simp only [Option.some.injEq] at hc
    omega

theorem run_makeMapN (n : Int) (w : World) : (Instr.makeMap 52 (some (.int .i64 n))).run Try.prog w = .ok (.map (some w.heap.size)) (w.alloc (.map #[] 0)) := by
  simp [Instr.makeMap, go_sem]

set_option maxRecDepth 100000 in
set_option maxHeartbeats 4000000 in
theorem takeNames_any (w : World) (q : Nat) (v nv pv : Value) (L : List ByteArray) (A B : Nat → Nat) (J M : Nat → Nat → Int) (bt tp : Int) (hq : LatW w q nv pv A B J M bt tp)
    (hL : ∀ w', w.grownBy w' (some q) → LiesS w' v L) (hl : L.length ≤ 16) (hs : ∀ s ∈ L, s.size ≤ 1000) :
    Calls Try.prog 31 #[.pointer (some ⟨q, 0, none⟩), v] w fun e w' => e = .returned (.bool (namesOk L)) ∧ w.grownBy w' (some q) ∧
      (namesOk L = true → ∃ nv' pb, LatW w' q nv' (.map (some pb)) A B J M bt tp ∧ q < pb ∧ MapS w' pb L.length (placeF L) ∧ Own1 w' (q + 1) 9 nv' (L.map .string)) := by
  obtain ⟨ao, cap, rfl, _, hc0⟩ := hL w (grown_refl _ _)
  have hmm := run_makeMapN (L.length : Int) w
  have hlt := hq.lt
  have c1 := hq.places
  have f1 := hq.frozen 1
  obtain ⟨wa, hwa⟩ : ∃ x, x = (w.setCell ⟨q, 1, none⟩ (.map (some w.heap.size))).alloc (.map #[] 0) := ⟨_, rfl⟩
  have hga : w.grownBy wa (some q) := by
    rw [hwa]
    exact grown_trans (grown_set _ _ _ _) (World.grownBy_alloc _ _ _)
  have hqa : LatW wa q nv (.map (some w.heap.size)) A B J M bt tp := by
    rw [hwa]
    exact (hq.setPlaces _).grown (World.grownBy_alloc _ _ none) (by simp)
  have hma : MapS wa w.heap.size 0 (placeF (L.take 0)) := by
    rw [hwa, List.take_zero, placeF_nil]
    have := MapS.made (w.setCell ⟨q, 1, none⟩ (.map (some w.heap.size)))
    rwa [World.size_setCell] at this
  go_enter Try.func31, Try.ntmps31
  go_wp2_with fail
  rw [← hwa]
  clear hmm c1 f1 hc0
  go_loopw [17] (fun i wr => ∃ k : Nat, k ≤ L.length ∧ i = .int .i64 k ∧ w.grownBy wr (some q) ∧ LatW wr q nv (.map (some w.heap.size)) A B J M bt tp ∧ MapS wr w.heap.size k (placeF (L.take k)) ∧ ∀ c, c < k → nameOk L c = true) (fun i _ => L.length - (intOf i).toNat)
  case atStart => exact ⟨0, Nat.zero_le _, rfl, hga, hqa, hma, fun c hc => absurd hc (by omega)⟩
  case round =>
    clear hga hqa hma hwa wa
    obtain ⟨k, hkl, rfl, hgr, hqr, hmr, hno⟩ := hrel
    have HN : Hid (∀ c, c < k → nameOk L c = true) := hno
    clear hno
    have hv := hL wr hgr
    obtain ⟨_, _, hv0, _, hc⟩ := hv
    simp only [Value.slice.injEq] at hv0
    obtain ⟨rfl, _, rfl⟩ := hv0
    have c0 := hqr.names
    have c1 := hqr.places
    have f0 := hqr.frozen 0
    by_cases hk : k < L.length
    · obtain ⟨b, off, rfl, g1⟩ := hc k hk
      have i0 : (0 : Int) ≤ (k : Int) := by omega
      have i1 : (k : Int) < (L.length : Int) := by omega
      have hsk : L[k].size ≤ maxLen := by have := hs L[k] (List.getElem_mem hk); unfold maxLen; omega
      have HK : Hid (nameOk L k = (!L[k].toList.isEmpty && decide (L[k].size ≤ 30) && !hasB (L.take k) L[k])) := nameOk_at hk
      have HF : Hid (nameOk L k = false → namesOk L = false) := fun h => namesOk_false hk h
      have hlook := hmr.lookOk hsk
      rw [placeF_some] at hlook
      clear hc
      cases hh : hasB (L.take k) L[k]
      · rw [hh] at hlook
        cases he : L[k].toList.isEmpty
        · by_cases h30 : 30 < L[k].size
          · have HX : Hid (nameOk L k = false) := by show nameOk L k = false; rw [HK.out]; simp; omega
            have h30' : decide ((30 : Int) < (L[k].size : Int)) = true := by simp; omega
            go_wp2_with fail
            go_ret
            have := HF.out HX.out
            rw [this]
            exact ⟨rfl, hgr, fun h => by cases h⟩
          · have h30' : decide ((30 : Int) < (L[k].size : Int)) = false := by simp; omega
            have HX : Hid (nameOk L k = true) := by show nameOk L k = true; rw [HK.out, he, hh]; simp; omega
            have HT : Hid (L.take (k + 1) = L.take k ++ [L[k]]) := List.take_succ_eq_append_getElem hk
            have HP := placeF_snoc hh
            rw [← HT.out, List.length_take, Nat.min_eq_left hkl] at HP
            have HPH : Hid ((fun z => if z = L[k] then some ((k : Nat) : Int) else placeF (L.take k) z) = placeF (L.take (k + 1))) := HP
            clear HP HK HF
            go_wp2_with (at_mapUpdate; refine wpList_putS (.tmp 44) (.tmp 45) (.tmp 46) rfl rfl rfl rfl rfl hmr (by omega) hsk (by unfold inR; omega) ?_; intro w2 hm2 hg2)
            go_roundw
            case rel =>
              rw [HPH.out] at hm2
              have hg3 : w.grownBy w2 (some q) := ⟨hg2.os.trans hgr.os, hg2.tape.trans hgr.tape, hg2.output.trans hgr.output, Nat.le_trans hgr.size hg2.size, fun i hi hne => (hg2.block i (Nat.lt_of_lt_of_le hi hgr.size) (by simp; omega)).trans (hgr.block i hi hne)⟩
              refine ⟨k + 1, by omega, by go_num, hg3, hqr.grown hg2 (by simp; omega), hm2, fun c hc => ?_⟩
              by_cases e : c < k
              · exact HN.out c e
              · have : c = k := by omega
                subst this; exact HX.out
            case measure => simp [intOf]; omega
        · have HX : Hid (nameOk L k = false) := by show nameOk L k = false; rw [HK.out, he]; rfl
          go_wp2_with fail
          go_ret
          have := HF.out HX.out
          rw [this]
          exact ⟨rfl, hgr, fun h => by cases h⟩
      · rw [hh] at hlook
        have HX : Hid (nameOk L k = false) := by show nameOk L k = false; rw [HK.out, hh]; simp
        go_wp2_with fail
        go_ret
        have := HF.out HX.out
        rw [this]
        exact ⟨rfl, hgr, fun h => by cases h⟩
    · have HX : Hid (namesOk L = true) := namesOk_true fun c hc => HN.out c (by omega)
      have hkn : k = L.length := by omega
      subst hkn
      rw [List.take_length] at hmr
      clear HN
      have hqs : q < wr.heap.size := hqr.lt
      go_upto_region 11 with (at_make; refine wpList_make1 infoS Try.underlying22 rfl (by decide) (.tmp 50) (.tmp 50) rfl rfl .i64 .i64 L.length rfl rfl (by omega) (Nat.le_refl _) ?_; intro w4 ho4 hb4; have c4 := (hqr.keep hb4).names; have f4 := (hqr.keep hb4).frozen 0)
      have hg4 : w.grownBy w4 (some q) := grown_trans hgr ⟨hb4.os, hb4.tape, hb4.output, hb4.size, fun i hi _ => hb4.block i hi⟩
      have hq5 := (hqr.keep hb4).setNames (.slice (some ⟨wr.heap.size, 0, none⟩) L.length L.length)
      have ho5 := (ho4.mono (base' := q + 1) hqs).past (grown_set w4 q 0 (.slice (some ⟨wr.heap.size, 0, none⟩) L.length L.length))
      have hg5 := grown_trans hg4 (grown_set w4 q 0 (.slice (some ⟨wr.heap.size, 0, none⟩) L.length L.length))
      have hm5 := (hmr.keep hb4).grown (grown_set w4 q 0 (.slice (some ⟨wr.heap.size, 0, none⟩) L.length L.length)) (by simp; omega)
      obtain ⟨w5, hw5⟩ : ∃ x, x = w4.setCell ⟨q, 0, none⟩ (.slice (some ⟨wr.heap.size, 0, none⟩) L.length L.length) := ⟨_, rfl⟩
      rw [← hw5] at hq5 ho5 hg5 hm5 ⊢
      have c5 := hq5.names
      have hsrc := (hL w5 hg5).cells
      have hs5 : w4.heap.size = w5.heap.size := by rw [hw5]; simp
      have hs4 : wr.heap.size ≤ w4.heap.size := hb4.size
      have hwq : w.heap.size < wr.heap.size := hmr.lt
      clear hw5 c4 f4 ho4 hq hmr hqr hc c0 c1 f0
      go_wp2_with (refine wpList_copy1 Try.underlying22 (by kernel_rfl) (.tmp 57) (.tmp 58) rfl rfl rfl rfl ho5 hsrc (by simp) (oneS L) ?_; intro w6 ho6 hb6 hg6)
      go_ret
      replace hg6 : w5.grownBy w6 (some wr.heap.size) := hg6
      refine ⟨by rw [HX.out]; rfl, ⟨hg6.os.trans hg5.os, hg6.tape.trans hg5.tape, hg6.output.trans hg5.output, Nat.le_trans hg5.size hg6.size, fun i hi hne => (hg6.block i (Nat.lt_of_lt_of_le hi hg5.size) (by simp; omega)).trans (hg5.block i hi hne)⟩, fun _ => ?_⟩
      exact ⟨_, _, hq5.grown hg6 (by simp; omega), by omega, hm5.grown hg6 (by simp; omega), ho6⟩

end Go.Proofs.Ytobbomdknahicaa
