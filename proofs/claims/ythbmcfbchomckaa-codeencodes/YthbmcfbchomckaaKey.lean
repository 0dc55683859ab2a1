/- alive and Key. -/
import Derived.Test.YthbmcfbchomckaaOwnV
import Derived.Test.YthbmcfbchomckaaEnc
namespace Go.Proofs.Ythbmcfbchomckaa
open Go.RowKit Go.Sort

/-- The chapter's example. -/
def exRow : List Ent := [(2, 1, E0), (3, 0, ⟨#[97]⟩)]
theorem exRow_s : encS exRow = ⟨#[4, 128, 0, 0, 0, 0, 0, 0, 1, 5, 97, 0, 0]⟩ := by decide +kernel
theorem exRow_e : encErr exRow = 0 := by decide +kernel
theorem exRow_fair : Fair exRow := by
  intro e he
  simp only [exRow, List.mem_cons, List.not_mem_nil, or_false] at he
  unfold inR
  rcases he with rfl | rfl
  · exact ⟨by decide, by dsimp only; omega, by dsimp only; omega⟩
  · exact ⟨by decide, by dsimp only; omega, by dsimp only; omega⟩

theorem Lies.two (w : World) (e f : Ent) : Lies (w.alloc (.cells #[.int .i64 e.1, .int .i64 e.2.1, .string e.2.2, .int .i64 f.1, .int .i64 f.2.1, .string f.2.2] 33)) (.slice (some ⟨w.heap.size, 0, none⟩) 2 2) [e, f] := by
  refine ⟨_, 2, rfl, fun i hi => ⟨w.heap.size, 0, rfl, ?_⟩⟩
  match i, hi with
  | 0, _ => simp [go_sem]
  | 1, _ => simp [go_sem]

set_option maxHeartbeats 1000000 in
theorem alive_any (w : World) : Calls Try.prog 9 #[] w fun e w' => e = .returned (.bool true) ∧ Below w.heap.size w w' := by
  go_enter Try.func9, Try.ntmps9
  go_wp2_with fail
  refine (refInt_any _ _).mono ?_
  rintro e w1 ⟨rfl, b1⟩
  go_wp2_with fail
  refine (refText_any _ _).mono ?_
  rintro e w2 ⟨rfl, b2⟩
  go_wp2_with fail
  have hl := Lies.two w2 (2, 1, E0) (3, 0, ⟨#[97]⟩)
  refine (encode_any _ _ exRow hl (by decide) exRow_fair).mono ?_
  rintro e w3 ⟨rfl, b3⟩
  rw [exRow_s, exRow_e]
  go_wp2
  go_ret
  exact ⟨rfl, btrans (btrans b1 b2) (bnew b3)⟩

/-- v is a slice of numbers and holds l. -/
def LiesI (w : World) (v : Value) (l : List Int) : Prop :=
  ∃ ao cap, v = .slice ao l.length cap ∧ ∀ i (h : i < l.length), ∃ b off, ao = some ⟨b, off, none⟩ ∧ w.cell? ⟨b, off + i, none⟩ = some (.int .i64 l[i])
theorem LiesI.keep {w w' : World} {v : Value} {l : List Int} (h : LiesI w v l) (k : Below w.heap.size w w') : LiesI w' v l := by
  obtain ⟨ao, cap, rfl, hc⟩ := h
  refine ⟨ao, cap, rfl, fun i hi => ?_⟩
  obtain ⟨b, off, h0, h1⟩ := hc i hi
  exact ⟨b, off, h0, (k.cell (block_lt_of_cell h1)).trans h1⟩

/-- Are these columns there? -/
def okCols (l : List Ent) (cs : List Int) : Bool := cs.all fun c => decide (0 ≤ c ∧ c < l.length)
/-- The values of some columns. -/
def pick (l : List Ent) (cs : List Int) : List Ent := cs.map fun c => l.getD c.toNat (0, 0, E0)
def keyS (l : List Ent) (cs : List Int) : ByteArray := if okCols l cs = true then encS (pick l cs) else E0
def keyE (l : List Ent) (cs : List Int) : Int := if okCols l cs = true then encErr (pick l cs) else 2
theorem pick_length (l : List Ent) (cs : List Int) : (pick l cs).length = cs.length := by simp [pick]
theorem pick_fair {l : List Ent} (h : Fair l) (cs : List Int) : Fair (pick l cs) := by
  intro e he
  simp only [pick, List.mem_map] at he
  obtain ⟨c, _, rfl⟩ := he
  rcases Nat.lt_or_ge c.toNat l.length with hc | hc
  · have : l.getD c.toNat (0, 0, E0) = l[c.toNat] := by simp [List.getD, hc]
    rw [this]
    exact h _ (List.getElem_mem hc)
  · have : l.getD c.toNat (0, 0, E0) = (0, 0, E0) := by simp [List.getD, List.getElem?_eq_none hc]
    rw [this]
    unfold inR
    exact ⟨by decide, by dsimp only; omega, by dsimp only; omega⟩

set_option maxHeartbeats 2000000 in
theorem key_any (w : World) (v u : Value) (l : List Ent) (cs : List Int) (hl : Lies w v l) (hi : LiesI w u cs) (hlc : cs.length ≤ 60) (hf : Fair l) :
    Calls Try.prog 12 #[v, u] w fun e w' => e = .returned (.tuple #[.string (keyS l cs), .int .i64 (keyE l cs)]) ∧ Below w.heap.size w w' := by
  obtain ⟨ao, cap, rfl, hc⟩ := hl
  obtain ⟨io, icap, rfl, hd⟩ := hi
  go_enter Try.func12, Try.ntmps12
  go_wp2
  go_loopw [6, 11] (fun x i wr => ∃ k : Nat, k ≤ cs.length ∧ i = .int .i64 k ∧ OwnV wr w.heap.size x (pick l (cs.take k)) ∧ okCols l (cs.take k) = true ∧ Below w.heap.size w wr) (fun _ i _ => cs.length - (intOf i).toNat)
  case atStart => exact ⟨0, Nat.zero_le _, rfl, OwnV.nil _ _, rfl, Below.refl _ _⟩
  case round =>
    obtain ⟨k, hk, rfl, hr, hok, hbel⟩ := hrel
    have hsz := hbel.size
    have HO : Hid (okCols l (cs.take k) = true) := hok
    clear hok
    by_cases hlt : k < cs.length
    · obtain ⟨b, off, rfl, h1⟩ := hd k hlt
      have HT : Hid (cs.take (k + 1) = cs.take k ++ [cs[k]]) := List.take_succ_eq_append_getElem hlt
      have HM : Hid (cs[k] ∈ cs) := List.getElem_mem hlt
      have g1 := (hbel.cell (block_lt_of_cell h1)).trans h1
      generalize cs[k] = c at g1 HT HM h1
      clear h1 hd
      by_cases hcr : 0 ≤ c ∧ c < l.length
      · obtain ⟨hc0, hc1⟩ := hcr
        obtain ⟨m, rfl⟩ : ∃ m : Nat, c = m := ⟨c.toNat, by omega⟩
        have hml : m < l.length := by omega
        obtain ⟨b', off', rfl, k1, k2, k3⟩ := hc m hml
        have HP : Hid (pick l (cs.take (k + 1)) = pick l (cs.take k) ++ [l[m]]) := by
          show pick l (cs.take (k + 1)) = _
          rw [HT.out]
          simp [pick, List.getD, hml]
        have HQ : Hid (okCols l (cs.take (k + 1)) = true) := by
          show okCols l (cs.take (k + 1)) = true
          rw [HT.out, okCols, List.all_append]
          have := HO.out
          unfold okCols at this
          rw [this]
          simp [hml]
        have e1 := (hbel.cell (block_lt_of_cell k1)).trans k1
        have e2 := (hbel.cell (block_lt_of_cell k2)).trans k2
        have e3 := (hbel.cell (block_lt_of_cell k3)).trans k3
        generalize l[m] = en at e1 e2 e3 HP
        obtain ⟨t, n, s⟩ := en
        simp only at e1 e2 e3
        have hpl : (pick l (cs.take k)).length ≤ 60 := by rw [pick_length]; simp; omega
        clear k1 k2 k3 hc
        go_wp2_with (at_builtin; refine wpList_pushV (.tmp 23) (.tmp 28) rfl rfl rfl hr hsz [(t, n, s)] rfl rfl (by first | rfl | simp) (by simp; omega) ?_; intro v1 w1 hr1 hb1)
        go_roundw
        case rel => exact ⟨k + 1, by omega, by go_num, by rw [HP.out]; exact hr1, HQ.out, hbel.trans hb1⟩
        case measure => simp [intOf]; omega
      · have hbad : okCols l cs = false := List.all_eq_false.2 ⟨c, HM.out, by simpa using hcr⟩
        have HB : Hid (okCols l cs = false) := hbad
        clear hbad hc
        rcases (show c < 0 ∨ (0 ≤ c ∧ (l.length : Int) ≤ c) by omega) with hneg | ⟨hpos, hge⟩
        · go_wp2
          go_ret2
          refine ⟨?_, hbel⟩
          rw [keyS, keyE, HB.out, if_neg (by simp), if_neg (by simp)]
          rfl
        · go_wp2
          go_ret2
          refine ⟨?_, hbel⟩
          rw [keyS, keyE, HB.out, if_neg (by simp), if_neg (by simp)]
          rfl
    · have hkk : k = cs.length := by omega
      subst hkk
      rw [List.take_length] at hr HO
      have hpf := pick_fair hf cs
      have hpl := pick_length l cs
      go_wp2_with (go_at_call 10; refine (encode_any _ _ (pick l cs) hr.lies (by omega) hpf).mono ?_; rintro e w1 ⟨rfl, hb1⟩)
      go_ret2
      refine ⟨?_, btrans hbel hb1⟩
      rw [keyS, keyE, HO.out, if_pos rfl, if_pos rfl]
      rfl

end Go.Proofs.Ythbmcfbchomckaa
