/- The document's Ints and Groups; joinedBy. -/
import Derived.Test.YtafbgmpbfonljaaDoorRwShelf2
import Derived.Test.YtafbgmpbfonljaaDoorRwRef
import Derived.Test.YtafbgmpbfonljaaDoorRwCmp
namespace Go.Proofs.YtafbgmpbfonljaaDoor
open Go.RowKit Go.Sort

theorem ints_take {l m : List Int} {k : Nat} (h1 : k < l.length) (h2 : k < m.length) : (l.take (k + 1) = m.take (k + 1)) ↔ (l.take k = m.take k ∧ l[k] = m[k]) := by
  rw [List.take_succ_eq_append_getElem h1, List.take_succ_eq_append_getElem h2]
  have hl : (l.take k).length = (m.take k).length := by simp; omega
  constructor
  · intro h
    have := List.append_inj h hl
    exact ⟨this.1, by simpa using this.2⟩
  · rintro ⟨e1, e2⟩; rw [e1, e2]

set_option maxHeartbeats 2000000 in
theorem intsSame_any (w : World) (v u : Value) (l : List Int) (hl : LiesN w v l) (hm : LiesN w u l) (hll : l.length ≤ 1000) :
    Calls Tryd.prog 22 #[v, u] w fun e w' => e = .returned (.bool true) ∧ Below w.heap.size w w' := by
  obtain ⟨ao, cap, rfl, _, hc⟩ := hl
  obtain ⟨bo, cbp, rfl, _, hd⟩ := hm
  have hlb : ((l.length : Int) != (l.length : Int)) = false := by simp
  go_enter Tryd.func22, Tryd.ntmps22
  go_wp2
  go_loopw [5] (fun i wr => ∃ k : Nat, k ≤ l.length ∧ i = .int .i64 k ∧ Below w.heap.size w wr) (fun i _ => l.length - (intOf i).toNat)
  case atStart => exact ⟨0, Nat.zero_le _, rfl, Below.refl _ _⟩
  case round =>
    obtain ⟨k, hkl, rfl, hbel⟩ := hrel
    by_cases h1 : k < l.length
    · obtain ⟨b, off, rfl, c1⟩ := lieN_at hc hbel h1
      obtain ⟨b', off', rfl, d1⟩ := lieN_at hd hbel h1
      generalize l[k] = x at c1 d1
      have HC : Aside _ := And.intro hc hd
      clear hc hd
      have i0 : (0 : Int) ≤ (k : Int) := by omega
      have i1 : (k : Int) < (l.length : Int) := by omega
      go_wp2_with fail
      go_region
      all_goals
        go_wp2_with fail
        go_roundw
        case rel => exact ⟨k + 1, by omega, by go_num, hbel.drew⟩
        case measure => simp [intOf]; omega
    · go_wp2_with fail
      go_ret
      exact ⟨rfl, hbel⟩

theorem plc_take {L : List Row} {r : Row} {k : Nat} (hk : k < L.length) : plc (enumR L (k + 1)) r = plc (enumR L k) r ++ (if sameB L[k] r = true then [(k : Int)] else []) := by
  rw [enumR_succ hk, plc_snoc, sameB_eq]
  by_cases h : L[k] = r <;> simp [h]
theorem plc_len (L : List Row) (r : Row) (k : Nat) : (plc (enumR L k) r).length ≤ k := by
  unfold plc
  rw [List.length_map]
  exact Nat.le_trans (List.length_filter_le ..) (by rw [enumR_length]; omega)

/-- Lists of numbers of the calls' own. -/
def AllInts (w : World) (base : Nat) (vs : List Value) (G : List (List Int)) : Prop := vs.length = G.length ∧ ∀ i (h : i < vs.length) (h' : i < G.length), Own1 w base 3 vs[i] (G[i].map (.int .i64))
theorem AllInts.keep {w w' : World} {base : Nat} {vs : List Value} {G : List (List Int)} (h : AllInts w base vs G) (k : Below w.heap.size w w') : AllInts w' base vs G := ⟨h.1, fun i h1 h2 => (h.2 i h1 h2).keep k⟩
theorem AllInts.grown {w w' : World} {base base' : Nat} {e' : TypeId} {u : Value} {ys vs : List Value} {G : List (List Int)} (h : AllInts w base vs G) (hu : Own1 w base' e' u ys) (hne : 3 ≠ e') (hg : w.grownBy w' u.ownBlock) : AllInts w' base vs G := ⟨h.1, fun i h1 h2 => (h.2 i h1 h2).grown hu hne hg⟩
theorem AllInts.snoc {w : World} {base : Nat} {vs : List Value} {G : List (List Int)} {x : Value} {g : List Int} (h : AllInts w base vs G) (hx : Own1 w base 3 x (g.map (.int .i64))) : AllInts w base (vs ++ [x]) (G ++ [g]) := by
  refine ⟨by simp [h.1], fun i h1 h2 => ?_⟩
  by_cases c : i < vs.length
  · have c' : i < G.length := by rw [← h.1]; exact c
    rw [List.getElem_append_left c, List.getElem_append_left c']
    exact h.2 i c c'
  · have e : i = vs.length := by simp at h1; omega
    subst e
    have e2 : (G ++ [g])[vs.length]'h2 = g := by
      have := h.1
      simp [this]
    rw [e2]
    simpa using hx
theorem AllInts.lies {w : World} {base : Nat} {v : Value} {vs : List Value} {G : List (List Int)} (h : AllInts w base vs G) (ho : Own1 w base 35 v vs) : LiesG w v G := by
  obtain ⟨ao, cap, h0, _, hc⟩ := ho.lies
  refine ⟨ao, cap, by rw [h0, h.1], fun i hi => ?_⟩
  have hiV : i < vs.length := by rw [h.1]; exact hi
  obtain ⟨b, off, g1, g2⟩ := hc i hiV
  exact ⟨b, off, _, g1, g2, (h.2 i hiV hi).lies.ints⟩

set_option maxHeartbeats 4000000 in
theorem refGroups_any (w : World) (v : Value) (L : List Row) (hl : LiesR w v L) (hll : L.length ≤ 1000) (hs : Small L) :
    Calls Tryd.prog 21 #[v] w fun e w' => ∃ u, e = .returned u ∧ LiesG w' u (grpR L) ∧ Below w.heap.size w w' := by
  obtain ⟨ao, cap, hv, _, _⟩ := id hl
  subst hv
  obtain ⟨D, hD⟩ : ∃ D, D = distR L := ⟨_, rfl⟩
  have HDD : Hid (D = distR L) := hD
  have hdl : D.length ≤ 1000 := by rw [hD]; exact Nat.le_trans (distR_length_le _) hll
  have HGR : Hid (grpR L = D.map fun r => plc (enumR L L.length) r) := by show _ = _; rw [hD]; rfl
  have sD : Small D := by rw [hD]; exact hs.dist
  clear hD
  go_enter Tryd.func21, Tryd.ntmps21
  go_wp2_with (go_at_call 13; refine (refDistinct_any _ _ L hl hll hs).mono ?_; rintro e w1 ⟨x1, rfl, hx1, hb1⟩; rw [← HDD.out] at hx1; obtain ⟨do', dc, rfl, _, hdc⟩ := hx1)
  have hl1 := hl.keep hb1
  obtain ⟨_, _, hve, _, hlc⟩ := hl1
  simp only [Value.slice.injEq] at hve
  obtain ⟨rfl, _, rfl⟩ := hve
  have HDC : Aside _ := hdc
  have HLC : Aside _ := hlc
  clear hdc hlc hl
  have hsz1 := hb1.size
  go_loopw [3, 5] (fun x i wr => ∃ (k : Nat) (vs : List Value), k ≤ D.length ∧ i = .int .i64 k ∧ Own1 wr w1.heap.size 35 x vs ∧ AllInts wr w1.heap.size vs ((D.take k).map fun r => plc (enumR L L.length) r) ∧ Below w1.heap.size w1 wr) (fun _ i _ => D.length - (intOf i).toNat)
  case atStart => exact ⟨0, [], Nat.zero_le _, rfl, Own1.nil _ _ _, ⟨rfl, fun i h => absurd h (by simp)⟩, Below.refl _ _⟩
  case round =>
    obtain ⟨k, vs, hk, rfl, hown, hall, hbel⟩ := hrel
    have hsz := hbel.size
    by_cases hlt : k < D.length
    · have hkt : decide ((k : Int) < (D.length : Int)) = true := by simp; omega
      have HT : Hid ((D.take (k + 1)).map (fun r => plc (enumR L L.length) r) = (D.take k).map (fun r => plc (enumR L L.length) r) ++ [plc (enumR L L.length) D[k]]) := by
        show _ = _; rw [List.take_succ_eq_append_getElem hlt, List.map_append]; rfl
      obtain ⟨db, dof, y, rfl, c1, c2⟩ := HDC.out k hlt
      have h60 := sD.at hlt
      generalize D[k] = r at c1 c2 HT h60
      have hvl : vs.length ≤ 1000 := by rw [hall.1]; simp; omega
      obtain ⟨wx, rfl⟩ : ∃ x, x = wr := ⟨_, rfl⟩
      go_wp2_with fail
      go_loopw [6, 7] (fun g i wr => ∃ n : Nat, n ≤ L.length ∧ i = .int .i64 n ∧ Own1 wr wx.heap.size 3 g ((plc (enumR L n) r).map (.int .i64)) ∧ Below wx.heap.size wx wr) (fun _ i _ => L.length - (intOf i).toNat)
      case atStart => exact ⟨0, Nat.zero_le _, rfl, by simpa [plc, enumR] using Own1.nil wx wx.heap.size 3, Below.refl _ _⟩
      case round =>
        obtain ⟨n, hn, rfl, hg, hbx⟩ := hrel
        have hbn := btrans hbel hbx
        have hszx := hbx.size
        by_cases hnl : n < L.length
        · have hnt : decide ((n : Int) < (L.length : Int)) = true := by simp; omega
          have HP : Hid _ := plc_take (r := r) hnl
          obtain ⟨lb, lo, x, rfl, d1, d2⟩ := lieR_at HLC.out hbn hnl
          have h60x := hs.at hnl
          generalize L[n] = X at d1 d2 HP h60x
          have c1' := cell_keep c1 hbn
          have c2' := c2.keep hbn
          have u1 : ∀ d os, (grow (redrawn wr d) os).cell? ⟨lb, lo + n, none⟩ = some x := fun d os => cell_regrown d1 d os
          have u2 : ∀ d os, (grow (redrawn wr d) os).cell? ⟨db, dof + k, none⟩ = some y := fun d os => cell_regrown c1' d os
          have i0 : (0 : Int) ≤ (n : Int) := by omega
          have i1 : (n : Int) < (L.length : Int) := by omega
          have i2 : (0 : Int) ≤ (k : Int) := by omega
          have i3 : (k : Int) < (D.length : Int) := by omega
          have hgl := plc_len L r n
          have WA : Aside _ := And.intro hown hall
          clear hown hall
          go_wp2_with fail
          refine wp_region_quiet_below (by kernel_rfl) (by kernel_rfl) ?_
          repeat (first | go_big_quiet_step (exact Calls.regrown_of (same_any _ _ _ X r (d2.keep (below_regrown ..)) (c2'.keep (below_regrown ..)) h60x)) | quiet_step (exact Calls.regrown_of (same_any _ _ _ X r (d2.keep (below_regrown ..)) (c2'.keep (below_regrown ..)) h60x)))
          refine wpQuiet_nil ?_
          rintro _ ⟨⟨dq, osq⟩, rfl⟩
          have hb := below_regrown wr dq osq
          generalize grow (redrawn wr dq) osq = w3 at hb ⊢
          have hb3 := btrans hbx hb
          have hg3 := hg.keep hb
          have hs3 := hb3.size
          have hgl2 : ((plc (enumR L n) r).map (Value.int .i64)).length + 1 ≤ 1000000000 := by simp; omega
          have hy0 : ∀ z ∈ [Value.int .i64 (n : Int)], z.oneCell' = true := by intro z h; rw [List.mem_singleton.1 h]; rfl
          clear u1 u2 c1' c2' d1 d2 hg hb hbx
          cases hz : sameB X r
          · go_wp2_with fail
            go_roundw
            case rel => exact ⟨n + 1, by omega, by go_num, by rw [HP.out, hz]; simpa using hg3, hb3⟩
            case measure => simp [intOf]; omega
          · go_wp2_with (at_builtin; refine wpList_push1 info_int Tryd.underlying35 rfl (by decide) (.tmp 31) (.tmp 33) rfl rfl rfl (ys := [.int .i64 (n : Int)]) rfl rfl rfl hg3 hy0 hs3 hgl2 ?_; intro v4 w4 hr4 hb4 hg4)
            go_roundw
            case rel => exact ⟨n + 1, by omega, by go_num, by rw [HP.out, hz]; simpa using hr4, hb3.trans hb4⟩
            case measure => simp [intOf]; omega
        · have hnt : decide ((n : Int) < (L.length : Int)) = false := by simp; omega
          have hnn : n = L.length := by omega
          subst hnn
          have ho2 := hown.keep hbx
          have ha2 := hall.keep hbx
          have hgb := hg.mono (base' := w1.heap.size) (by omega)
          obtain ⟨ga, gc, hgf⟩ := hg.shape
          subst hgf
          have hy0 : ∀ z ∈ [Value.slice ga ((plc (enumR L L.length) r).map (Value.int .i64)).length gc], z.oneCell' = true := by intro z h; rw [List.mem_singleton.1 h]; rfl
          have hs2 := hbn.size
          have ha3 := ha2.snoc hgb
          clear hall hown hbx hg ha2 hgb
          generalize ((plc (enumR L L.length) r).map (Value.int .i64)).length = gn at *
          go_wp2_with (at_builtin; refine wpList_push1 info_ints Tryd.underlying32 rfl (by decide) (.tmp 35) (.tmp 37) rfl rfl rfl (ys := [.slice ga gn gc]) rfl rfl rfl ho2 hy0 hs2 (by simp; omega) ?_; intro v4 w4 hr4 hb4 hg4)
          go_roundw
          case rel => exact ⟨k + 1, vs ++ [.slice ga gn gc], by omega, by go_num, hr4, by rw [HT.out]; exact ha3.grown ho2 (by decide) hg4, hbn.trans hb4⟩
          case measure => simp [intOf]; omega
    · have hkt : decide ((k : Int) < (D.length : Int)) = false := by simp; omega
      have hkk : k = D.length := by omega
      subst hkk
      rw [List.take_length] at hall
      go_wp2_with fail
      go_ret
      exact ⟨_, rfl, by rw [HGR.out]; exact hall.lies hown, btrans hb1 hbel⟩

end Go.Proofs.YtafbgmpbfonljaaDoor
