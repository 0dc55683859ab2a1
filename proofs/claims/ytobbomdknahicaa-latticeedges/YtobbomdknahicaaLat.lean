/- Contract of the program's New. -/
import Derived.Test.YtobbomdknahicaaLatGet
import Derived.Test.YtobbomdknahicaaLatClose
import Derived.Test.YtobbomdknahicaaLatPair
import Derived.Test.YtobbomdknahicaaLatZero
namespace Go.Proofs.Ytobbomdknahicaa
open Go.RowKit Go.Sort

theorem pow_le' {n : Nat} (h : n ≤ 16) : 2 ^ n ≤ 65536 := Nat.pow_le_pow_right (n := 2) (by decide) h
theorem shl_all {n : Nat} (h : n ≤ 16) : (2 : Int) ^ n % 4294967296 = (2 : Int) ^ n := by
  have h1 := pow_le' h
  rw [← cast_pow]
  generalize 2 ^ n = m at *
  omega
theorem cast_all (n : Nat) : ((2 ^ n - 1 : Nat) : Int) = (2 : Int) ^ n - 1 := by
  have h2 : 0 < 2 ^ n := Nat.pow_pos (by decide)
  rw [← cast_pow]
  generalize 2 ^ n = m at *
  omega
theorem sub_all {n : Nat} (h : n ≤ 16) : ((2 : Int) ^ n - 1) % 4294967296 = (2 : Int) ^ n - 1 := by
  have h1 := pow_le' h
  have h2 : 0 < 2 ^ n := Nat.pow_pos (by decide)
  rw [← cast_pow]
  generalize 2 ^ n = m at *
  omega
theorem below_new {w w' : World} {o : Obj} (h : (w.alloc o).grownBy w' (some w.heap.size)) : Below w.heap.size w w' :=
  ((Below.refl w.heap.size w).alloc (Nat.le_refl _) o).grown h (by simp) fun k hk => by simp at hk; omega

set_option maxRecDepth 100000 in
set_option maxHeartbeats 1000000 in
theorem new_any (w : World) (v u : Value) (L : List ByteArray) (E : List (ByteArray × ByteArray)) (hL : LiesS w v L) (hE : LiesP w u E) (hl : L.length ≤ 1000) (hel : E.length ≤ 1000) (hs : ∀ s ∈ L, s.size ≤ 1000) (hse : ∀ e ∈ E, e.1.size ≤ 1000 ∧ e.2.size ≤ 1000) :
    Calls Try.prog 11 #[v, u] w fun e w' => ∃ p, e = .returned (.tuple #[p, .int .i64 (latErr L E)]) ∧ Below w.heap.size w w' ∧ (latErr L E = 0 → LatAt w' p L E) ∧ (latErr L E ≠ 0 → p = .pointer none) := by
  have hL0 := hL
  have hE0 := hE
  obtain ⟨ao, cap, rfl, _, _⟩ := hL
  obtain ⟨bo, cbp, rfl, _, _⟩ := hE
  by_cases h16 : 16 < L.length
  · have HX : Hid (latErr L E = 8) := latErr_many (.inl h16)
    go_enter Try.func11, Try.ntmps11
    go_wp2_with fail
    go_ret2
    rw [HX.out]
    exact ⟨_, rfl, Below.refl _ _, fun h => absurd h (by decide), fun _ => rfl⟩
  by_cases h64 : 64 < E.length
  · have HX : Hid (latErr L E = 8) := latErr_many (.inr h64)
    go_enter Try.func11, Try.ntmps11
    go_wp2_with fail
    go_ret2
    rw [HX.out]
    exact ⟨_, rfl, Below.refl _ _, fun h => absurd h (by decide), fun _ => rfl⟩
  obtain ⟨Z, hZ, hZs, hZC⟩ : ∃ Z, (∀ w, (zeroValue 60).run Try.prog w = .ok (.agg Z) w) ∧ Z.size = 548 ∧ LatC Z (.slice none 0 0) (.map none) (fun _ => 0) (fun _ => 0) (fun _ _ => 0) (fun _ _ => 0) 0 0 := ⟨zeroLat, zeroLat_run, zeroLat_size, zeroLat_lat⟩
  have hz1 : ¬ Z = #[] := fun e => by rw [e] at hZs; simp at hZs
  have hz2 : ¬ Z.size < 2 := by omega
  have QUIT : Hid (∀ (w' : World) (c : Int), latErr L E = c → c ≠ 0 → Below w.heap.size w w' → ∃ p, Ending.returned (.tuple #[.pointer none, .int .i64 c]) = .returned (.tuple #[p, .int .i64 (latErr L E)]) ∧ Below w.heap.size w w' ∧ (latErr L E = 0 → LatAt w' p L E) ∧ (latErr L E ≠ 0 → p = .pointer none)) := fun w' c h1 h2 hb => by
    rw [h1]
    exact ⟨_, rfl, hb, fun h => absurd h h2, fun _ => rfl⟩
  go_enter Try.func11, Try.ntmps11
  go_upto_region 4 with fail
  obtain ⟨q, hqq⟩ : ∃ x, x = w.heap.size := ⟨_, rfl⟩
  obtain ⟨w1, hw1⟩ : ∃ x, x = w.alloc (.cells Z 60) := ⟨_, rfl⟩
  have HB : Hid (∀ w', w1.grownBy w' (some q) → Below w.heap.size w w') := fun w' hg => by
    rw [hqq, hw1] at hg
    exact below_new hg
  have hq1 : LatW w1 q (.slice none 0 0) (.map none) (fun _ => 0) (fun _ => 0) (fun _ _ => 0) (fun _ _ => 0) 0 0 := ⟨Z, by rw [hw1, hqq]; exact heap_alloc_last w _, hZC⟩
  have HL : Hid (∀ w', w1.grownBy w' (some q) → LiesS w' (.slice ao L.length cap) L) := fun w' hg => hL0.keep (HB.out w' hg)
  have HE : Hid (∀ w', w1.grownBy w' (some q) → LiesP w' (.slice bo E.length cbp) E) := fun w' hg => hE0.keep (HB.out w' hg)
  rw [← hqq, ← hw1]
  clear hqq hw1 hZ hZC hZs hz1 hz2 hL0 hE0
  have hn : L.length ≤ 16 := by omega
  have he : E.length ≤ 64 := by omega
  cases hno : namesOk L
  · have HX : Hid (latErr L E = 11) := latErr_names hn he (.inl hno)
    have t1 := takeNames_any w1 q _ _ _ L _ _ _ _ _ _ hq1 HL.out hn hs
    rw [hno] at t1
    go_wp2_with fail
    refine t1.mono ?_
    rintro e w2 ⟨rfl, g2, _⟩
    go_wp2_with fail
    go_ret2
    exact QUIT.out _ _ HX.out (by decide) (HB.out _ g2)
  have t1 := takeNames_any w1 q _ _ _ L _ _ _ _ _ _ hq1 HL.out hn hs
  rw [hno] at t1
  go_wp2_with fail
  refine t1.mono ?_
  rintro e w2 ⟨rfl, g2, h2⟩
  obtain ⟨nv, pb, hq2, hpb, hm2, ho2⟩ := h2 (by trivial)
  clear h2 t1 hq1
  obtain ⟨na, nc, rfl⟩ := ho2.shapeN (n := L.length) (by simp)
  have t2 := takeEdges_any w2 q pb L.length nc na _ L E _ _ _ _ _ hq2 hm2 hpb (fun w' hg => HE.out w' (grown_trans g2 hg)) hn he hse
  cases heo : edgesOk L E
  · have HX : Hid (latErr L E = 11) := latErr_names hn he (.inr heo)
    rw [heo] at t2
    go_wp2_with fail
    refine t2.mono ?_
    rintro e w3 ⟨rfl, g3, _⟩
    go_wp2_with fail
    go_ret2
    exact QUIT.out _ _ HX.out (by decide) (HB.out _ (grown_trans g2 g3))
  rw [heo] at t2
  go_wp2_with fail
  refine t2.mono ?_
  rintro e w3 ⟨rfl, g3, h3⟩
  obtain ⟨A1, hq3, hmid1⟩ := h3 (by trivial)
  clear h3 t2 hq2
  go_wp2_with fail
  refine (closeAbove_any w3 q L.length nc na _ A1 _ _ _ _ _ _ hq3 hn hmid1).mono ?_
  rintro e w4 ⟨rfl, g4, A, hq4, hmid, hstill⟩
  clear hq3 hmid1 A1
  have hF := ixE_lt heo
  have hmask : IsMask (leL L E) A := hmid.closed hF hstill
  have hdom : ∀ x y, (A x).testBit y = true → x < L.length ∧ y < L.length := fun x y h => ⟨(hmid.2.2 x y h).1, (hmid.2.2 x y h).2.1⟩
  have hAlt := hmid.lt hn
  clear hstill
  go_wp2_with fail
  refine (turnBelow_any w4 q L.length nc na _ A _ _ _ _ hq4 hn hdom hAlt).mono ?_
  rintro e w5 ⟨rfl, g5, B, hq5, hturn, hBlt⟩
  have hmaskB : IsMask (flipI (leL L E)) B := hmask.flip hturn
  have HREST : Hid (latErr L E = if L.length = 0 then 12 else if latOk (leL L E) L.length = true then 0 else 12) := latErr_rest hn he hno heo
  have g15 : w1.grownBy w5 (some q) := grown_trans (grown_trans (grown_trans g2 g3) g4) g5
  have ho5 := ((ho2.past g3).past g4).past g5
  have hm5 := ((hm2.grown g3 (by simp; omega)).grown g4 (by simp; omega)).grown g5 (by simp; omega)
  clear hq4 hturn ho2 hm2 g2 g3 g4 g5 w2 w3 w4 hno HL HE
  by_cases h0 : L.length = 0
  · have HX : Hid (latErr L E = 12) := by show latErr L E = 12; rw [HREST.out, if_pos h0]
    have h0' : ((L.length : Int) == 0) = true := by simp [h0]
    go_wp2_with fail
    go_ret2
    exact QUIT.out _ _ HX.out (by decide) (HB.out _ g15)
  have h0' : ((L.length : Int) == 0) = false := by
    rw [beq_eq_false_iff_ne]; omega
  have HROUND := round_iff (n := L.length) hmask hmaskB (leI_refl hF) leL_dom
  have tr := goesRound_any w5 q L.length nc na _ A B _ _ _ _ hq5 hn hAlt hBlt
  by_cases hr : roundB L.length A B = true
  · have HX : Hid (latErr L E = 12) := by
      show latErr L E = 12
      rw [HREST.out, if_neg h0]
      cases hok : latOk (leL L E) L.length with
      | false => rfl
      | true => rw [HROUND.2 (latOk_iff.1 hok).1] at hr; cases hr
    rw [hr] at tr
    clear HROUND HREST
    go_wp2_with fail
    refine tr.mono ?_
    rintro e w6 ⟨rfl, b6⟩
    go_wp2_with fail
    go_ret2
    exact QUIT.out _ _ HX.out (by decide) (HB.out _ (grown_below g15 b6))
  replace hr : roundB L.length A B = false := by simpa using hr
  have HR : Hid (∀ a b : Nat, a < L.length → b < L.length → (a ≠ b ∧ leL L E (a : Int) (b : Int) = true ∧ leL L E (b : Int) (a : Int) = true) → False) := HROUND.1 hr
  rw [hr] at tr
  clear HROUND
  go_wp2_with fail
  refine tr.mono ?_
  rintro e w6 ⟨rfl, b6⟩
  have hq6 := hq5.keep b6
  have g16 := grown_below g15 b6
  have ho6 := ho5.keep b6
  have hm6 := hm5.keep b6
  clear hq5 g15 ho5 hm5 tr b6 w5 hr
  have tp := pairUp_any w6 q L.length nc na _ A B _ _ _ _ hq6 hn hAlt hBlt (fun a b => joinI (leL L E) L.length (a : Int) (b : Int)) (fun a b => meetI (leL L E) L.length (a : Int) (b : Int)) (fun a b => firstM_join hn hmask leL_dom a b) (fun a b => firstM_join hn hmaskB (flip_dom leL_dom) a b)
  cases hp : pairsB L.length (fun a b => joinI (leL L E) L.length (a : Int) (b : Int)) (fun a b => meetI (leL L E) L.length (a : Int) (b : Int))
  · have HX : Hid (latErr L E = 12) := by
      show latErr L E = 12
      rw [HREST.out, if_neg h0]
      cases hok : latOk (leL L E) L.length with
      | false => rfl
      | true => rw [pairsB_iff.2 (latOk_iff.1 hok).2] at hp; cases hp
    rw [hp] at tp
    clear HREST
    go_wp2_with fail
    refine tp.mono ?_
    rintro e w7 ⟨rfl, g7, _⟩
    go_wp2_with fail
    go_ret2
    exact QUIT.out _ _ HX.out (by decide) (HB.out _ (grown_trans g16 g7))
  have HX : Hid (latErr L E = 0) := by
    show latErr L E = 0
    rw [HREST.out, if_neg h0, if_pos (latOk_iff.2 ⟨HR.out, pairsB_iff.1 hp⟩)]
  rw [hp] at tp
  have HBOT : Hid (firstM (2 ^ L.length - 1) A = botI (leL L E) L.length) := firstM_bot hn hmask leL_dom
  have HTOP : Hid (firstM (2 ^ L.length - 1) B = topI (leL L E) L.length) := firstM_bot hn hmaskB (flip_dom leL_dom)
  have hall : 2 ^ L.length - 1 < 65536 := by have := pow_le' hn; omega
  have hsh := shl_all hn
  have hsu := sub_all hn
  have hcast := cast_all L.length
  have HM := hmask
  clear HREST HR QUIT
  go_wp2_with fail
  refine tp.mono ?_
  rintro e w7 ⟨rfl, g7, h7⟩
  obtain ⟨J, M, hq7, hpair⟩ := h7 (by trivial)
  clear h7 tp hq6
  have hr7 := hq7.aboves
  go_upto_region 11 with fail
  go_wp2_with ((with_reducible refine wpList_load_mid ?ha1 55 (.tmp 52) ?ha2 q 2 ?ha3 (maskCells A) _ hr7 under_masks ?ha4 ?ha5 ?ha6); (case ha1 => rfl); (case ha2 => rfl); (case ha3 => rfl); (case ha4 => rfl); (case ha5 => (rw [maskCells_length]; exact size_masks)))
  have tf := first_any w7 (2 ^ L.length - 1) A hall hAlt
  rw [hcast, HBOT.out] at tf
  refine tf.mono ?_
  rintro e w8 ⟨rfl, b8⟩
  have hq8 := hq7.keep b8
  have c8 := hq8.bot
  have f8 := hq8.frozen 546
  go_upto_region 12 with fail
  have g8 := grown_trans (grown_below g7 b8) (grown_set w8 q 546 (.int .i64 (botI (leL L E) L.length)))
  have hq9 := hq8.setBot (botI (leL L E) L.length)
  generalize w8.setCell ⟨q, 546, none⟩ (.int .i64 (botI (leL L E) L.length)) = w9 at g8 hq9 ⊢
  have hr9 := hq9.belows
  go_wp2_with ((with_reducible refine wpList_load_mid ?hb1 55 (.tmp 61) ?hb2 q 18 ?hb3 (maskCells B) _ hr9 under_masks ?hb4 ?hb5 ?hb6); (case hb1 => rfl); (case hb2 => rfl); (case hb3 => rfl); (case hb4 => rfl); (case hb5 => (rw [maskCells_length]; exact size_masks)))
  have tg := first_any w9 (2 ^ L.length - 1) B hall hBlt
  rw [hcast, HTOP.out] at tg
  refine tg.mono ?_
  rintro e wa ⟨rfl, ba⟩
  have hqa := hq9.keep ba
  have ca := hqa.top
  have fa := hqa.frozen 547
  go_upto_region 13 with fail
  have ga := grown_trans (grown_below g8 ba) (grown_set wa q 547 (.int .i64 (topI (leL L E) L.length)))
  have hqb := hqa.setTop (topI (leL L E) L.length)
  generalize wa.setCell ⟨q, 547, none⟩ (.int .i64 (topI (leL L E) L.length)) = wb at ga hqb ⊢
  go_wp2_with fail
  go_ret2
  have hN := (ho6.past ga).lies.strings
  have hm := hm6.grown ga (by simp; omega)
  refine ⟨_, by rw [HX.out]; rfl, HB.out _ (grown_trans g16 ga), fun _ => ⟨HX.out, q, nc, pb, _, na, A, B, J, M, rfl, hqb, hN, hm, hmask, fun a b ha hb => ?_⟩, fun h => absurd HX.out h⟩
  have := hpair a b ha hb (.inl ha)
  exact ⟨this.1, this.2.1⟩

end Go.Proofs.Ytobbomdknahicaa
