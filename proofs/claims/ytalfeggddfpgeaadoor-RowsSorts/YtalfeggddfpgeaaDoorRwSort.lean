/- Sort: rows put in order by keys. -/
import Derived.Test.YtalfeggddfpgeaaDoorRwCmp
import Derived.Test.YtalfeggddfpgeaaDoorRwSets
namespace Go.Proofs.YtalfeggddfpgeaaDoor
open Go.RowKit Go.Sort

/-- slices.SortStableFunc of n places, as they stand: in order, those that are the same as they stood. -/
def SortOK (n : Nat) : Prop := ∀ (w0 w : World) (base g cap K : Nat) (cb : Array Value) (cf : Nat → Nat → Int), DataAt w base g cap n (List.range n) → w0.grownBy w (some g) → CmpOK w0 g n K cb cf → (∀ a w, (callFunc K a).run Tryd.prog w = .ok (.enter K a) w) → Pre cf →
  Calls Tryd.prog 16 #[.slice (some ⟨g, 0, none⟩) n cap, .func (.func K) #[] cb] w fun e w' => e = .returned (.tuple #[]) ∧ ∃ P', DataAt w' base g cap n P' ∧ P'.Perm (List.range n) ∧ SortedOn cf P' 0 n ∧ w0.grownBy w' (some g)

theorem nth_range {n k : Nat} (h : k < n) : nth (List.range n) k = k := by simp [nth, List.getD, h]

set_option maxHeartbeats 2000000 in
theorem sortOK_small (n : Nat) (hn : n < 20) : SortOK n := by
  intro w0 w base g cap K cb cf hd hg hcmp hK hc
  have hins := ins_any w0 w base g cap n K 0 n cb cf (List.range n) hd hg hcmp hK hc (by omega) (Nat.zero_le _) (Nat.le_refl _) (fun k l _ h2 h3 => by rw [nth_range (by omega), nth_range h3]; exact h2) (fun x hx => List.mem_range.1 hx)
  have hst : Calls Tryd.prog 26 #[.slice (some ⟨g, 0, none⟩) n cap, .int .i64 n, .func (.func K) #[] cb] w fun e w' => e = .returned (.tuple #[]) ∧ ∃ P', DataAt w' base g cap n P' ∧ P'.Perm (List.range n) ∧ SortedOn cf P' 0 n ∧ w0.grownBy w' (some g) := by
    have h1 : decide ((20 : Int) ≤ (n : Int)) = false := by simp; omega
    have h2 : decide ((20 : Int) < (n : Int)) = false := by simp; omega
    have h1' : ¬ (20 : Int) ≤ (n : Int) := by omega
    have h2' : ¬ (20 : Int) < (n : Int) := by omega
    clear hd hcmp
    go_enter Tryd.func26, Tryd.ntmps26
    go_wp2_with fail
    refine wp_loop_rounds 1 ?_
    rw [rounds_succ]
    go_wp2_with fail
    refine hins.mono ?_
    rintro e w1 ⟨rfl, P', h1, h2, h3, h4, h5⟩
    go_wp2_with fail
    refine wp_loop_rounds 1 ?_
    rw [rounds_succ]
    go_wp2_with fail
    go_end0
    exact ⟨rfl, P', h1, h2, h4, h5⟩
  clear hins hd hcmp
  go_enter Tryd.func16, Tryd.ntmps16
  go_wp2_with fail
  refine hst.mono ?_
  rintro e w1 ⟨rfl, h⟩
  go_wp2_with fail
  go_end0
  exact ⟨rfl, h⟩

/-- The closure that standing makes. -/
theorem standing_any (w : World) (vk vd : Value) (hk : ∃ a n c, vk = .slice a n c) (hd : ∃ a n c, vd = .slice a n c) : Calls Tryd.prog 17 #[vk, vd] w fun e w' => ∃ kb fb db, e = .returned (.func (.func 28) #[] #[.pointer (some ⟨fb, 0, none⟩), .pointer (some ⟨db, 0, none⟩)]) ∧
    w.heap.size ≤ kb ∧ w.heap.size ≤ fb ∧ w.heap.size ≤ db ∧ w'.cell? ⟨kb, 0, none⟩ = some vk ∧ w'.cell? ⟨fb, 0, none⟩ = some (.func (.func 27) #[] #[.pointer (some ⟨kb, 0, none⟩)]) ∧ w'.cell? ⟨db, 0, none⟩ = some vd ∧ Below w.heap.size w w' := by
  obtain ⟨a, n, c, rfl⟩ := hk
  obtain ⟨a', n', c', rfl⟩ := hd
  obtain ⟨w0, hw0⟩ : ∃ w0, w0 = w := ⟨_, rfl⟩
  have hh : (((w.alloc (.cells #[.slice a n c] 22)).alloc (.cells #[.slice a' n' c'] 23)).alloc (.cells #[.nilFunc] 36)).heap[w.heap.size + 1 + 1]? = some (.cells #[.nilFunc] 36 (0, 0)) := by
    have := heap_alloc_new ((w.alloc (.cells #[.slice a n c] 22)).alloc (.cells #[.slice a' n' c'] 23)) (.cells #[.nilFunc] 36)
    simpa using this
  have c3 := frozen_of_row _ (w.heap.size + 1 + 1) 0 _ _ hh
  have c4 := cell_of_row _ (w.heap.size + 1 + 1) 0 _ _ _ hh
  replace c4 : (((w.alloc (.cells #[.slice a n c] 22)).alloc (.cells #[.slice a' n' c'] 23)).alloc (.cells #[.nilFunc] 36)).cell? ⟨w.heap.size + 1 + 1, 0, none⟩ = some .nilFunc := c4
  clear hh
  have hst : ∀ (w : World) (ad : Addr), (store ad (.func (.func 27) #[] #[.pointer (some ⟨w0.heap.size, 0, none⟩)])).run Tryd.prog w = stored Tryd.prog w ad (.func (.func 27) #[] #[.pointer (some ⟨w0.heap.size, 0, none⟩)]) .plain := fun w ad => run_store Tryd.prog w ad _ .plain rfl
  obtain rfl : w0 = w := hw0
  go_enter Tryd.func17, Tryd.ntmps17
  go_wp2_with fail
  go_ret
  refine ⟨w0.heap.size, w0.heap.size + 1 + 1, w0.heap.size + 1, rfl, Nat.le_refl _, by omega, by omega, by simp [go_sem], ?_, by simp [go_sem], (((Below.refl _ w0).alloc (Nat.le_refl _) _).alloc (by simp) _).alloc (by simp; omega) _⟩
  have := cell_of_row _ _ 0 _ _ _ (heap_alloc_new ((w0.alloc (.cells #[.slice a n c] 22)).alloc (.cells #[.slice a' n' c'] 23)) (.cells #[.func (.func 27) #[] #[.pointer (some ⟨w0.heap.size, 0, none⟩)]] 36))
  simpa using this

theorem OwnV.setOther {w : World} {base q i : Nat} {T : TypeId} {v x : Value} {l : List Ent} {C : Array Value} (h : OwnV w base v l) (hq : w.heap[q]? = some (.cells C T (0, 0))) (hne : 34 ≠ T) : OwnV (w.setCell ⟨q, i, none⟩ x) base v l := by
  refine World.ownsRow.kept (row := some q) h ⟨rfl, rfl, rfl, by simp, fun k _ hk => heap_setCell_other w ⟨q, i, none⟩ k x (fun e => hk (by simp [e]))⟩ ?_
  cases hv : v.ownBlock with
  | none => exact .inl rfl
  | some g =>
    refine .inr fun hc => hne ?_
    obtain ⟨_, cur, h1⟩ := h.block hv
    simp only [Option.some.injEq] at hc
    subst hc
    rw [h1] at hq
    simp at hq
    exact hq.2
theorem AllOwn.setOther {w : World} {base q i : Nat} {T : TypeId} {x : Value} {xs : List Value} {L : List Row} {C : Array Value} (h : AllOwn w base xs L) (hq : w.heap[q]? = some (.cells C T (0, 0))) (hne : 34 ≠ T) : AllOwn (w.setCell ⟨q, i, none⟩ x) base xs L :=
  ⟨h.1, fun j h1 h2 => (h.2 j h1 h2).setOther hq hne⟩
theorem DataAt.setOther {w : World} {base g cap n q i : Nat} {T : TypeId} {x : Value} {P : List Nat} {C : Array Value} (h : DataAt w base g cap n P) (hq : w.heap[q]? = some (.cells C T (0, 0))) (hne : 3 ≠ T) : DataAt (w.setCell ⟨q, i, none⟩ x) base g cap n P := ⟨h.1, h.2.1, h.2.2.setOther hq hne⟩
theorem info_bool : (Tryd.prog.info? 4).map (fun i => (i.zero, i.size, i.bytes)) = some (some (.bool false), 1, 1) := by kernel_rfl

set_option maxHeartbeats 4000000 in
theorem sort_any (w : World) (v vk vd : Value) (L K : List Row) (d : List Bool) (hl : LiesR w v L) (hk : LiesR w vk K) (hd : LiesB w vd d) (hn : L.length ≤ 1000) (hS : Small K) (hSL : Small L) (hso : SortOK L.length) :
    Calls Tryd.prog 8 #[v, vk, vd] w fun e w' => ∃ u P, e = .returned u ∧ P.Perm (List.range L.length) ∧ SortedOn (cfK K d) P 0 L.length ∧ LiesR w' u (P.map fun k => L.getD k []) ∧ Below w.heap.size w w' := by
  obtain ⟨ao, cap, rfl, hn0, hc⟩ := hl
  obtain ⟨xs, hx1, hx2⟩ := hk.cells
  have hkf : ∃ a n c, vk = .slice a n c := by obtain ⟨a, c, h, _⟩ := hx1; exact ⟨a, _, c, h⟩
  have hdf : ∃ a n c, vd = .slice a n c := by obtain ⟨a, c, h, _⟩ := hd; exact ⟨a, _, c, h⟩
  clear hn0 hk
  have HC : Aside _ := hc
  clear hc
  go_enter Tryd.func8, Tryd.ntmps8
  go_wp2_with (at_make; refine wpList_make1 info_int Tryd.underlying41 rfl (by decide) (.tmp 13) (.tmp 13) rfl rfl .i64 .i64 L.length rfl rfl (by omega) (Nat.le_refl _) ?_; intro w1 ho1 hb1)
  go_loopw [17] (fun i wr => ∃ (k : Nat) (P : List Nat), k ≤ L.length ∧ i = .int .i64 k ∧ DataAt wr w.heap.size w.heap.size L.length L.length P ∧ P.take k = List.range k ∧ Below w.heap.size w wr) (fun i _ => L.length - (intOf i).toNat)
  case atStart => exact ⟨0, List.replicate L.length 0, Nat.zero_le _, rfl, ⟨by simp, Nat.le_refl _, by simpa [natCells] using ho1⟩, by simp, hb1⟩
  case round =>
    clear ho1 hb1
    obtain ⟨k, P, hk, rfl, hdt, htk, hbel⟩ := hrel
    have HTK : Hid (P.take k = List.range k) := htk
    clear htk
    by_cases hlt : k < L.length
    · obtain ⟨c1, f1⟩ := hdt.cell hlt
      have hst := hdt.stored k k
      have hPl := hdt.1
      go_wp2_with fail
      go_roundw
      case rel => exact ⟨k + 1, P.set k k, by omega, by go_num, hst, by rw [List.range_succ, ← HTK.out, List.take_succ_eq_append_getElem (by simp; omega)]; simp [List.take_set_of_le], hbel.setCell (Nat.le_refl _) _⟩
      case measure => simp [intOf]; omega
    · have hkk : k = L.length := by omega
      subst hkk
      have hP : P = List.range L.length := by rw [← HTK.out, ← hdt.1, List.take_length]
      subst hP
      clear HTK
      have hsz := hbel.size
      go_wp2_with fail
      refine (standing_any _ vk vd hkf hdf).mono ?_
      rintro e w2 ⟨kb, fb, db, rfl, lk, lf, ld, c1, c2, c3, hb2⟩
      have hlg : w.heap.size < wr.heap.size := by
        obtain ⟨_, cur, h⟩ := hdt.2.2.block (g := w.heap.size) rfl
        exact (Array.getElem?_eq_some_iff.1 h).1
      have hb2' : Below w.heap.size w w2 := btrans hbel hb2
      have hs2 := hb2'.size
      have hbw : ∀ w', w2.grownBy w' (some w.heap.size) → Below w.heap.size w w' := fun w' hg => Below.grown hb2' hg hs2 (fun k hk => by simp only [Option.some.injEq] at hk; omega)
      have hcmp : CmpOK w2 w.heap.size L.length 28 #[.pointer (some ⟨fb, 0, none⟩), .pointer (some ⟨db, 0, none⟩)] (cfK K d) := fun w' hg p q _ _ =>
        cmp_any w' vk vd xs K d kb fb db p q (hx1.keep (hbw w' hg)) (hx2.keep (hbw w' hg)) hS (hd.keep (hbw w' hg)) (hg.cell c1 (by simp; omega)) (hg.cell c2 (by simp; omega)) (hg.cell c3 (by simp; omega))
      have hsort := hso w2 w2 _ _ _ _ _ _ (hdt.keep hb2) (grownBy_refl _ _) hcmp (entered Tryd.func28 (by kernel_rfl) (by kernel_rfl)) (pre_cfK K d)
      have HBW : Aside _ := hbw
      clear hcmp hbw c1 c2 c3 hdt hx1 hx2 hd
      go_wp2_with fail
      refine hsort.mono ?_
      rintro e w3 ⟨rfl, P, hd3, hperm, hsrt, hg3⟩
      have hb3 := HBW.out w3 hg3
      have hs3 := hb3.size
      have HRES : Aside _ := And.intro hperm hsrt
      have hPl : P.length = L.length := hd3.1
      have hPlt : Aside (∀ k, k < L.length → nth P k < L.length) := fun k hk => nth_lt hperm (fun x hx => List.mem_range.1 hx) (by omega)
      clear hsort hperm hsrt HBW
      go_wp2_with (at_make; refine wpList_make1 info_R Tryd.underlying22 rfl (by decide) (.tmp 31) (.tmp 31) rfl rfl .i64 .i64 L.length rfl rfl (by omega) (Nat.le_refl _) ?_; intro w4 ho4 hb4)
      have hd4 := hd3.keep hb4
      have hb4' := btrans hb3 hb4
      clear hd3 hg3 hb3 hb4 hbel hb2 hb2'
      go_loopw [35] (fun i wr => ∃ (k : Nat) (ys : List Value), k ≤ L.length ∧ i = .int .i64 k ∧ Own1 wr w.heap.size 30 (.slice (some ⟨w3.heap.size, 0, none⟩) L.length L.length) ys ∧ ys.length = L.length ∧ AllOwn wr w.heap.size (ys.take k) ((P.take k).map fun k => L.getD k []) ∧ DataAt wr w.heap.size w.heap.size L.length L.length P ∧ Below w.heap.size w wr) (fun i _ => L.length - (intOf i).toNat)
      case atStart => exact ⟨0, List.replicate L.length (.slice none 0 0), Nat.zero_le _, rfl, ho4.mono hs3, by simp, by simpa using AllOwn.nil _ _, hd4, hb4'⟩
      case round =>
        clear ho4 hd4 hb4'
        obtain ⟨k, ys, hk, rfl, hown, hyl, hall, hdt, hbel⟩ := hrel
        have hsz := hbel.size
        by_cases hlt : k < L.length
        · obtain ⟨c1, f1⟩ := hdt.cell hlt
          have hpk := hPlt.out k hlt
          obtain ⟨b, off, x, rfl, d1, d2⟩ := HC.out _ hpk
          have HLG : Hid (L.getD (nth P k) [] = L[nth P k]) := by show _ = _; simp [List.getD, hpk]
          have h60 := hSL.at hpk
          have g1 := cell_keep d1 hbel
          have g2 := d2.keep hbel
          have HTP : Hid ((P.take (k + 1)).map (fun k => L.getD k []) = (P.take k).map (fun k => L.getD k []) ++ [L[nth P k]]) := by
            show _ = _
            rw [List.take_succ_eq_append_getElem (by omega), List.map_append, ← nth_get (by omega)]
            simp [hpk]
          have j0 : (0 : Int) ≤ (nth P k : Int) := by omega
          have j1 : (nth P k : Int) < (L.length : Int) := by omega
          generalize L[nth P k] = R at g1 g2 d1 d2 h60 HTP HLG
          generalize nth P k = pk at *
          obtain ⟨cc, cf⟩ := hown.cellAt (i := k) (by omega)
          have WA : Aside _ := And.intro hown (And.intro hall hdt)
          clear hown hall hdt
          go_wp2_with fail
          refine (clone_any _ _ R g2 (by omega)).mono ?_
          rintro e w5 ⟨u, rfl, hu, hb5⟩
          obtain ⟨uo, uc, rfl⟩ := hu.lies.form
          have cc5 := cell_keep cc hb5
          have cf5 := ((bcell hb5).2 _ k (block_lt_of_cell cc)).trans cf
          have hb5' := btrans hbel hb5
          go_wp2_with fail
          go_roundw
          case rel =>
            have hown5 := WA.out.1.keep hb5
            obtain ⟨_, cur, hcur⟩ := hown5.block (g := w3.heap.size) rfl
            have hst := Own1.stored (w := w5) (base := w.heap.size) (g := w3.heap.size) (cap := L.length) (e := 30) (xs := ys) (by rw [hyl]; exact hown5) k (.slice uo R.length uc)
            rw [hyl] at hst
            refine ⟨k + 1, ys.set k (.slice uo R.length uc), by omega, by go_num, hst, by simpa using hyl, ?_, (WA.out.2.2.keep hb5).setOther hcur (by decide), hb5'.setCell hs3 _⟩
            rw [HTP.out, List.take_succ_eq_append_getElem (by simp; omega)]
            rw [show (ys.set k (.slice uo R.length uc)).take k = ys.take k by simp [List.take_set_of_le]]
            rw [List.getElem_set_self]
            exact ((WA.out.2.1.keep hb5).snoc (hu.mono hsz)).setOther hcur (by decide)
          case measure => simp [intOf]; omega
        · have hkk : k = L.length := by omega
          subst hkk
          have e1 : ys.take L.length = ys := by rw [← hyl, List.take_length]
          have e2 : P.take L.length = P := by rw [← hPl, List.take_length]
          rw [e1, e2] at hall
          go_wp2_with fail
          go_ret
          exact ⟨_, P, rfl, HRES.out.1, HRES.out.2, hown.lies.rows hall.lie, hbel⟩

end Go.Proofs.YtalfeggddfpgeaaDoor
