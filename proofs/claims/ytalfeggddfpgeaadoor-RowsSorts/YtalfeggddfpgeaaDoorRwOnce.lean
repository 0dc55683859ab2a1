/- once: each row that may stay, once; Distinct, Except and Intersect. -/
import Derived.Test.YtalfeggddfpgeaaDoorRwShelf2
namespace Go.Proofs.YtalfeggddfpgeaaDoor
open Go.RowKit Go.Sort

theorem OwnV.block {w : World} {base : Nat} {v : Value} {l : List Ent} (h : OwnV w base v l) {g : Nat} (hg : v.ownBlock = some g) : base ≤ g ∧ ∃ cur, w.heap[g]? = some (.cells cur 34 (0, 0)) := by
  rcases h.2 with ⟨rfl, _⟩ | ⟨g', cap, cur, rfl, hb, hh, _⟩
  · simp [Value.ownBlock] at hg
  · simp [Value.ownBlock] at hg
    subst hg
    exact ⟨hb, cur, hh⟩
theorem OwnV.grown {w w' : World} {base base' : Nat} {e' : TypeId} {v u : Value} {l : List Ent} {ys : List Value} (h : OwnV w base v l) (hu : Own1 w base' e' u ys) (hne : 34 ≠ e') (hg : w.grownBy w' u.ownBlock) : OwnV w' base v l := by
  refine World.ownsRow.kept h hg ?_
  cases hv : v.ownBlock with
  | none => exact .inl rfl
  | some g =>
    refine .inr fun hc => hne ?_
    obtain ⟨_, cur, h1⟩ := h.block hv
    obtain ⟨_, cur', h2⟩ := hu.block hc.symm
    rw [h1] at h2
    simp at h2
    exact h2.2
theorem OwnV.grownMap {w w' : World} {base b n : Nat} {f : ByteArray → Option Int} {v : Value} {l : List Ent} (h : OwnV w base v l) (hm : MapS w b n f) (hg : w.grownBy w' (some b)) : OwnV w' base v l :=
  World.ownsRow.kept h hg (by
    cases hv : v.ownBlock with
    | none => exact .inl rfl
    | some q =>
      obtain ⟨_, cur, hc⟩ := h.block hv
      exact .inr fun e => hm.map hc (by simpa using e.symm))
/-- Rows of the calls' own, one by one. -/
def AllOwn (w : World) (base : Nat) (xs : List Value) (L : List Row) : Prop := xs.length = L.length ∧ ∀ i (h : i < xs.length) (h' : i < L.length), OwnV w base xs[i] L[i]
theorem AllOwn.keep {w w' : World} {base : Nat} {xs : List Value} {L : List Row} (h : AllOwn w base xs L) (k : Below w.heap.size w w') : AllOwn w' base xs L := ⟨h.1, fun i h1 h2 => (h.2 i h1 h2).keep k⟩
theorem AllOwn.nil (w : World) (base : Nat) : AllOwn w base [] [] := ⟨rfl, fun i h => absurd h (by simp)⟩
theorem AllOwn.grown {w w' : World} {base base' : Nat} {e' : TypeId} {u : Value} {ys xs : List Value} {L : List Row} (h : AllOwn w base xs L) (hu : Own1 w base' e' u ys) (hne : 34 ≠ e') (hg : w.grownBy w' u.ownBlock) : AllOwn w' base xs L := ⟨h.1, fun i h1 h2 => (h.2 i h1 h2).grown hu hne hg⟩
theorem AllOwn.grownMap {w w' : World} {base b n : Nat} {f : ByteArray → Option Int} {xs : List Value} {L : List Row} (h : AllOwn w base xs L) (hm : MapS w b n f) (hg : w.grownBy w' (some b)) : AllOwn w' base xs L := ⟨h.1, fun i h1 h2 => (h.2 i h1 h2).grownMap hm hg⟩
theorem AllOwn.lie {w : World} {base : Nat} {xs : List Value} {L : List Row} (h : AllOwn w base xs L) : AllLie w xs L := ⟨h.1, fun i h1 h2 => (h.2 i h1 h2).lies⟩
theorem AllOwn.snoc {w : World} {base : Nat} {xs : List Value} {L : List Row} {x : Value} {r : Row} (h : AllOwn w base xs L) (hx : OwnV w base x r) : AllOwn w base (xs ++ [x]) (L ++ [r]) := by
  refine ⟨by simp [h.1], fun i h1 h2 => ?_⟩
  by_cases c : i < xs.length
  · have c' : i < L.length := by rw [← h.1]; exact c
    rw [List.getElem_append_left c, List.getElem_append_left c']
    exact h.2 i c c'
  · have e : i = xs.length := by simp at h1; omega
    subst e
    have e2 : (L ++ [r])[xs.length]'h2 = r := by
      have := h.1
      simp [this]
    rw [e2]
    simpa using hx
/-- The keys that were seen. -/
def Seen (f : ByteArray → Option Int) (L : List Row) : Prop := ∀ s, (f s).isSome = true ↔ ∃ r ∈ L, encS r = s
theorem Seen.snoc {f : ByteArray → Option Int} {L : List Row} {r : Row} {c : Int} (h : Seen f L) : Seen (fun z => if z = encS r then some c else f z) (L ++ [r]) := by
  intro s
  by_cases e : s = encS r
  · subst e
    simp only [if_true, Option.isSome_some, true_iff]
    exact ⟨r, by simp, rfl⟩
  · simp only [if_neg e, h s]
    constructor
    · rintro ⟨x, hx, rfl⟩; exact ⟨x, by simp [hx], rfl⟩
    · rintro ⟨x, hx, rfl⟩
      rcases List.mem_append.1 hx with hx | hx
      · exact ⟨x, hx, rfl⟩
      · rw [List.mem_singleton.1 hx] at e; exact absurd rfl e
theorem Seen.dup {f : ByteArray → Option Int} {L : List Row} {r : Row} (h : Seen f L) (hr : r ∈ L) : Seen f (L ++ [r]) := by
  intro s
  rw [h s]
  constructor
  · rintro ⟨x, hx, rfl⟩; exact ⟨x, by simp [hx], rfl⟩
  · rintro ⟨x, hx, rfl⟩
    rcases List.mem_append.1 hx with hx | hx
    · exact ⟨x, hx, rfl⟩
    · rw [List.mem_singleton.1 hx]; exact ⟨r, hr, rfl⟩
theorem RightL.take {L : List Row} (h : RightL L) (k : Nat) : RightL (L.take k) := fun r hr => h r (List.mem_of_mem_take hr)
theorem Seen.mem {f : ByteArray → Option Int} {L : List Row} {r : Row} (h : Seen f L) (hr : RightR r) (hL : RightL L) : (f (encS r)).isSome = memB L r := by
  have h1 := h (encS r)
  have h2 := memB_iff L r
  cases hb : memB L r
  · have : ¬ (f (encS r)).isSome = true := fun c => by
      obtain ⟨x, hx, he⟩ := h1.1 c
      rw [encS_inj (hL x hx).1 hr he] at hx
      rw [h2.2 hx] at hb
      cases hb
    simpa using this
  · exact h1.2 ⟨r, h2.1 hb, rfl⟩
/-- The filtered list behind one more row. -/
theorem filter_dist {L : List Row} {p : Row → Bool} {k : Nat} (hk : k < L.length) : (distR (L.take (k + 1))).filter p = if memB (L.take k) L[k] = true then (distR (L.take k)).filter p else (distR (L.take k)).filter p ++ (if p L[k] = true then [L[k]] else []) := by
  rw [distR_take hk]
  split
  · rfl
  · rw [List.filter_append]
    by_cases h : p L[k] = true <;> simp [h]

set_option maxHeartbeats 4000000 in
theorem once_any (w : World) (v : Value) (L : List Row) (K : Nat) (cb : Array Value) (p : Row → Bool) (hl : LiesR w v L) (hr : RightL L) (hlen : L.length ≤ 1000)
    (hK : ∀ a w, (callFunc K a).run Tryd.prog w = .ok (.enter K a) w)
    (hst : ∀ w', Below w.heap.size w w' → ∀ r ∈ L, Calls Tryd.prog K (#[.string (encS r)] ++ cb) w' fun e w'' => e = .returned (.bool (p r)) ∧ Below w'.heap.size w' w'') :
    Calls Tryd.prog 23 #[v, .func (.func K) #[] cb] w fun e w' => ∃ u, e = .returned u ∧ LiesR w' u ((distR L).filter p) ∧ Below w.heap.size w w' := by
  obtain ⟨ao, cap, rfl, hn, hc⟩ := hl
  clear hn
  have hmm := @run_makeMap Tryd.prog
  have HST : Aside _ := hst
  clear hst
  go_enter Tryd.func23, Tryd.ntmps23
  go_wp2
  clear hmm
  go_loopw [5, 15] (fun x i wr => ∃ (k n : Nat) (xs : List Value) (f : ByteArray → Option Int), k ≤ L.length ∧ i = .int .i64 k ∧ n ≤ k ∧ Own1 wr w.heap.size 30 x xs ∧ AllOwn wr w.heap.size xs ((distR (L.take k)).filter p) ∧ MapS wr w.heap.size n f ∧ Seen f (L.take k) ∧ Below w.heap.size w wr) (fun _ i _ => L.length - (intOf i).toNat)
  case atStart => exact ⟨0, 0, [], _, Nat.zero_le _, rfl, Nat.le_refl _, Own1.nil _ _ _, AllOwn.nil _ _, MapS.made w, fun s => by simp, (Below.refl _ _).alloc (Nat.le_refl _) _⟩
  case round =>
    obtain ⟨k, n, xs, f, hk, rfl, hnk, hown, hall, hmap, hseen, hbel⟩ := hrel
    have hsz := hbel.size
    by_cases hlt : k < L.length
    · obtain ⟨b, off, x, rfl, c1, c2⟩ := hc k hlt
      have g1 := cell_keep c1 hbel
      have g2 := c2.keep hbel
      have HT : Hid _ := filter_dist (p := p) hlt
      have HTK : Hid (L.take (k + 1) = L.take k ++ [L[k]]) := List.take_succ_eq_append_getElem hlt
      have hmem : L[k] ∈ L := List.getElem_mem hlt
      obtain ⟨hR, hR40⟩ := hr _ hmem
      have HM := hseen.mem hR (hr.take k)
      have HSR : Aside _ := fun w' (hw : Below w.heap.size w w') => HST.out w' hw _ hmem
      have hes := encS_size hR (by omega)
      have hxl : xs.length ≤ 1000 := by
        rw [hall.1]
        refine Nat.le_trans (List.length_filter_le ..) (Nat.le_trans (distR_length_le _) ?_)
        simp; omega
      clear hmem
      generalize L[k] = R at c1 c2 g1 g2 HT HTK hR hR40 HM HSR hes
      have HC : Aside _ := hc
      have WA : Aside _ := And.intro hown (And.intro hall (And.intro hmap hseen))
      clear hc hown hall hmap hseen
      cases hz : memB (L.take k) R
      · rw [hz] at HM
        have hfn : f (encS R) = none := by simpa using HM
        have HFN : Hid (f (encS R) = none) := hfn
        clear hfn HM
        have hkr : inR (k : Int) := by unfold inR; omega
        cases hp : p R
        · skip
          go_wp2_with fail
          refine (bytesOf_any _ _ R g2 hR (by omega)).mono ?_
          rintro e w2 ⟨rfl, hb2⟩
          have HM2 : Aside (MapS w2 w.heap.size n f) := WA.out.2.2.1.keep hb2
          have HO2 : Aside (Own1 w2 w.heap.size 30 u5 xs) := WA.out.1.keep hb2
          have HA2 : Aside (AllOwn w2 w.heap.size xs ((distR (L.take k)).filter p)) := WA.out.2.1.keep hb2
          have hlook := HM2.out.lookOk hes
          rw [HFN.out] at hlook
          simp only [Option.getD_none, Option.isSome_none] at hlook
          have bw2 := btrans hbel hb2
          have hs2 := bw2.size
          clear g1 g2 hb2
          go_wp2_with (at_mapUpdate; refine wpList_putS (.tmp 29) (.tmp 30) (.tmp 31) rfl rfl rfl rfl rfl HM2.out (by omega) hes hkr ?_; intro w3 hm3 hg3)
          have HO3 : Aside (Own1 w3 w.heap.size 30 u5 xs) := HO2.out.grownMap HM2.out hg3
          have HA3 : Aside (AllOwn w3 w.heap.size xs ((distR (L.take k)).filter p)) := HA2.out.grownMap HM2.out hg3
          have bw3 : Below w.heap.size w w3 := Below.grown bw2 hg3 hs2 (fun k hk => by simp only [Option.some.injEq] at hk; omega)
          refine (HSR.out w3 bw3).mono ?_
          rintro e w4 ⟨rfl, hb4⟩
          rw [hp]
          have bw4 := btrans bw3 hb4
          have hs4 := bw4.size
          have HM4 : Aside (MapS w4 w.heap.size (n + 1) (fun z => if z = encS R then some (k : Int) else f z)) := hm3.keep hb4
          have HO4 : Aside (Own1 w4 w.heap.size 30 u5 xs) := HO3.out.keep hb4
          have HA4 : Aside (AllOwn w4 w.heap.size xs ((distR (L.take k)).filter p)) := HA3.out.keep hb4
          have HSN : Aside (Seen _ (L.take (k + 1))) := HTK.out ▸ WA.out.2.2.2.snoc (c := (k : Int))
          clear hlook HM2 HO2 HA2 bw2 hs2 hm3 hg3 HO3 HA3 bw3 hb4 HFN WA
          go_wp2_with fail
          go_roundw
          case rel => exact ⟨k + 1, n + 1, xs, _, by omega, by go_num, by omega, HO4.out, by rw [HT.out, hz, if_neg (by simp), hp]; simpa using HA4.out, HM4.out, HSN.out, bw4⟩
          case measure => simp [intOf]; omega
        · skip
          go_wp2_with fail
          refine (bytesOf_any _ _ R g2 hR (by omega)).mono ?_
          rintro e w2 ⟨rfl, hb2⟩
          have HM2 : Aside (MapS w2 w.heap.size n f) := WA.out.2.2.1.keep hb2
          have HO2 : Aside (Own1 w2 w.heap.size 30 u5 xs) := WA.out.1.keep hb2
          have HA2 : Aside (AllOwn w2 w.heap.size xs ((distR (L.take k)).filter p)) := WA.out.2.1.keep hb2
          have hlook := HM2.out.lookOk hes
          rw [HFN.out] at hlook
          simp only [Option.getD_none, Option.isSome_none] at hlook
          have bw2 := btrans hbel hb2
          have hs2 := bw2.size
          clear g1 g2 hb2
          go_wp2_with (at_mapUpdate; refine wpList_putS (.tmp 29) (.tmp 30) (.tmp 31) rfl rfl rfl rfl rfl HM2.out (by omega) hes hkr ?_; intro w3 hm3 hg3)
          have HO3 : Aside (Own1 w3 w.heap.size 30 u5 xs) := HO2.out.grownMap HM2.out hg3
          have HA3 : Aside (AllOwn w3 w.heap.size xs ((distR (L.take k)).filter p)) := HA2.out.grownMap HM2.out hg3
          have bw3 : Below w.heap.size w w3 := Below.grown bw2 hg3 hs2 (fun k hk => by simp only [Option.some.injEq] at hk; omega)
          refine (HSR.out w3 bw3).mono ?_
          rintro e w4 ⟨rfl, hb4⟩
          rw [hp]
          have bw4 := btrans bw3 hb4
          have hs4 := bw4.size
          have HM4 : Aside (MapS w4 w.heap.size (n + 1) (fun z => if z = encS R then some (k : Int) else f z)) := hm3.keep hb4
          have HO4 : Aside (Own1 w4 w.heap.size 30 u5 xs) := HO3.out.keep hb4
          have HA4 : Aside (AllOwn w4 w.heap.size xs ((distR (L.take k)).filter p)) := HA3.out.keep hb4
          have HSN : Aside (Seen _ (L.take (k + 1))) := HTK.out ▸ WA.out.2.2.2.snoc (c := (k : Int))
          clear hlook HM2 HO2 HA2 bw2 hs2 hm3 hg3 HO3 HA3 bw3 hb4 HFN WA
          go_wp2_with fail
          refine (clone_any _ _ R (c2.keep bw4) (by omega)).mono ?_
          rintro e w5 ⟨y5, rfl, hu5, hb5⟩
          have bw5 := btrans bw4 hb5
          have hs5 := bw5.size
          obtain ⟨uo, uc, rfl⟩ := hu5.lies.form
          have HM5 : Aside (MapS w5 w.heap.size (n + 1) (fun z => if z = encS R then some (k : Int) else f z)) := HM4.out.keep hb5
          have ho5 := HO4.out.keep hb5
          have HA5 : Aside (AllOwn w5 w.heap.size (xs ++ [.slice uo R.length uc]) _) := (HA4.out.keep hb5).snoc (hu5.mono (Nat.le_trans hs4 (Nat.le_refl _)))
          have hy1 : ∀ z ∈ [Value.slice uo R.length uc], z.oneCell' = true := by intro z h; rw [List.mem_singleton.1 h]; rfl
          clear hu5 HM4 HO4 HA4 bw4
          go_wp2_with (at_builtin; refine wpList_push1 info_R Tryd.underlying22 rfl (by decide) (.tmp 35) (.tmp 38) rfl rfl rfl (ys := [.slice uo R.length uc]) rfl rfl rfl ho5 hy1 hs5 (by simp; omega) ?_; intro v6 w6 ho6 hb6 hg6)
          go_roundw
          case rel =>
            refine ⟨k + 1, n + 1, xs ++ [.slice uo R.length uc], _, by omega, by go_num, by omega, ho6, ?_, HM5.out.grown hg6 ?_, HSN.out, bw5.trans hb6⟩
            · rw [HT.out, hz, if_neg (by simp), hp, if_pos rfl]
              exact HA5.out.grown ho5 (by decide) hg6
            · intro e
              obtain ⟨_, cur', hc'⟩ := ho5.block e.symm
              exact HM5.out.map hc' rfl
          case measure => simp [intOf]; omega
      · rw [hz] at HM
        go_wp2_with fail
        refine (bytesOf_any _ _ R g2 hR (by omega)).mono ?_
        rintro e w2 ⟨rfl, hb2⟩
        have HM2 := WA.out.2.2.1.keep hb2
        have hlook := HM2.lookOk hes
        rw [HM] at hlook
        clear HM2 HM
        go_wp2_with fail
        go_roundw
        case rel => exact ⟨k + 1, n, xs, f, by omega, by go_num, by omega, WA.out.1.keep hb2, by rw [HT.out, hz, if_pos rfl]; exact WA.out.2.1.keep hb2, WA.out.2.2.1.keep hb2, by rw [HTK.out]; exact WA.out.2.2.2.dup ((memB_iff _ _).1 hz), btrans hbel hb2⟩
        case measure => simp [intOf]; omega
    · have hkk : k = L.length := by omega
      subst hkk
      rw [List.take_length] at hall
      go_wp2
      go_ret
      exact ⟨_, rfl, hown.lies.rows hall.lie, hbel⟩

end Go.Proofs.YtalfeggddfpgeaaDoor
