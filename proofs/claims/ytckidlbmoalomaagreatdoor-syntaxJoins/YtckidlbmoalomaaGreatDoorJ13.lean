/- Contract of the program's span: with a test that hangs on the byte alone, and with one that keeps something. Slices of structs: how they lie in memory, slices that the calls themselves make, and what an append makes of them; for any struct whose fields are one cell each. Tokens in memory. Contracts of the program's takeName, takeInt, takeMark. -/
import Derived.Test.YtckidlbmoalomaaGreatDoorJ12
import Derived.Test.YtckidlbmoalomaaGreatDoorJ07


namespace Go.Proofs.YtckidlbmoalomaaGreatDoor
open Go.RowKit Go.Sort

theorem spanN_step {p : UInt8 → Bool} {s : ByteArray} {k : Nat} (hk : k < s.size) (h : runN p s.data.toList = k + runN p (s.data.toList.drop k)) :
    (p s[k] = true → runN p s.data.toList = (k + 1) + runN p (s.data.toList.drop (k + 1))) ∧ (p s[k] = false → runN p s.data.toList = k) := by
  rw [byte_at s hk, runN] at h
  constructor
  · intro hp; rw [hp] at h; simp at h; omega
  · intro hp; rw [hp] at h; simpa using h

set_option maxHeartbeats 1000000 in
theorem span_any (K : Nat) (p : UInt8 → Bool) (hK : ∀ (a : Array Value) (w : World), (callFunc K a).run Tryz.prog w = .ok (.enter K a) w) (hp : ∀ (w : World) (c : UInt8), Calls Tryz.prog K #[.int .u8 (c.toNat : Int)] w fun e w' => e = .returned (.bool (p c)) ∧ w' = w)
    (w : World) (s : ByteArray) (hs : s.size ≤ 1000000) :
    Calls Tryz.prog 42 #[.string s, .func (.func K) #[] #[]] w fun e w' => e = .returned (.int .i64 (runN p s.data.toList : Int)) ∧ w' = w := by
  go_enter Tryz.func42, Tryz.ntmps42
  go_wp2_with fail
  go_loopw [8] (fun i wr => ∃ k : Nat, k ≤ s.size ∧ i = .int .i64 k ∧ wr = w ∧ runN p s.data.toList = k + runN p (s.data.toList.drop k)) (fun i _ => s.size - (intOf i).toNat)
  case atStart => exact ⟨0, Nat.zero_le _, rfl, rfl, by simp⟩
  case round =>
    obtain ⟨k, hks, rfl, rfl, hrun⟩ := hrel
    by_cases hk : k < s.size
    · have HSt := spanN_step hk hrun
      have hc := hp wr s[k]
      have i0 : (0 : Int) ≤ (k : Int) := by omega
      have i1 : (k : Int) < (s.size : Int) := by omega
      cases hb : p s[k]
      · have HR : Hid (runN p s.data.toList = k) := HSt.2 hb
        rw [hb] at hc
        clear HSt hrun hb hp
        go_wp2_with fail
        refine hc.mono ?_
        rintro e w1 ⟨rfl, hw1⟩
        subst w1
        go_wp2_with fail
        go_ret
        exact ⟨by rw [HR.out]; rfl, rfl⟩
      · have HR : Hid (runN p s.data.toList = (k + 1) + runN p (s.data.toList.drop (k + 1))) := HSt.1 hb
        rw [hb] at hc
        clear HSt hrun hb hp
        go_wp2_with fail
        refine hc.mono ?_
        rintro e w1 ⟨rfl, hw1⟩
        subst w1
        go_wp2_with fail
        go_roundw
        case rel => exact ⟨k + 1, by omega, by go_num, by first | rfl | trivial, HR.out⟩
        case measure => simp [intOf]; omega
    · have hnil : s.data.toList.drop k = [] := List.drop_eq_nil_of_le (by simp; omega)
      rw [hnil] at hrun
      have HR : Hid (runN p s.data.toList = s.size) := by
        show runN p s.data.toList = _
        rw [hrun]; simp [runN]; omega
      clear hrun hnil hp
      go_wp2_with fail
      go_ret
      exact ⟨by rw [HR.out]; rfl, rfl⟩

theorem quote_any (w : World) (c : UInt8) (o : Bool) : Calls Tryz.prog 98 #[.int .u8 (c.toNat : Int), .pointer (some ⟨w.heap.size, 0, none⟩)] (w.alloc (.cells #[.bool o] 4)) fun e w' =>
    if c.toNat = 39 then e = .returned (.bool true) ∧ w' = w.alloc (.cells #[.bool (!o)] 4) else e = .returned (.bool o) ∧ w' = w.alloc (.cells #[.bool o] 4) := by
  by_cases h : c.toNat = 39
  · have q : ((c.toNat : Int) == 39) = true := by rw [h]; rfl
    simp only [h, if_true]
    have HC : Hid (c.toNat = 39) := h
    rw [← h]
    clear h
    go_enter Tryz.func98, Tryz.ntmps98
    go_wp2_with fail
    go_ret
    exact ⟨rfl, rfl⟩
  · have q : ((c.toNat : Int) == 39) = false := by rw [beq_eq_false_iff_ne]; omega
    simp only [h, if_false]
    go_enter Tryz.func98, Tryz.ntmps98
    go_wp2_with fail
    go_ret
    exact ⟨rfl, rfl⟩

set_option maxHeartbeats 1000000 in
theorem spanQ_any (w : World) (s : ByteArray) (hs : s.size ≤ 1000000) :
    Calls Tryz.prog 42 #[.string s, .func (.func 98) #[] #[.pointer (some ⟨w.heap.size, 0, none⟩)]] (w.alloc (.cells #[.bool false] 4)) fun e w' =>
      e = .returned (.int .i64 ((qrun false s.data.toList).1 : Int)) ∧ w' = w.alloc (.cells #[.bool (qrun false s.data.toList).2] 4) := by
  go_enter Tryz.func42, Tryz.ntmps42
  go_wp2_with fail
  go_loopw [8] (fun i wr => ∃ (k : Nat) (o : Bool), k ≤ s.size ∧ i = .int .i64 k ∧ wr = w.alloc (.cells #[.bool o] 4) ∧ qrun false s.data.toList = (k + (qrun o (s.data.toList.drop k)).1, (qrun o (s.data.toList.drop k)).2)) (fun i _ => s.size - (intOf i).toNat)
  case atStart => exact ⟨0, false, Nat.zero_le _, rfl, rfl, by simp⟩
  case round =>
    obtain ⟨k, o, hks, rfl, rfl, hrun⟩ := hrel
    by_cases hk : k < s.size
    · have hc := quote_any w s[k] o
      have i0 : (0 : Int) ≤ (k : Int) := by omega
      have i1 : (k : Int) < (s.size : Int) := by omega
      rw [byte_at s hk, qrun] at hrun
      by_cases h39 : s[k].toNat = 39
      · simp only [h39, if_true] at hrun hc
        have HR : Hid (qrun false s.data.toList = ((k + 1) + (qrun (!o) (s.data.toList.drop (k + 1))).1, (qrun (!o) (s.data.toList.drop (k + 1))).2)) := by
          show qrun _ _ = _
          rw [hrun]; simp only [Prod.mk.injEq, and_true]; omega
        rw [← h39] at hc
        clear hrun h39
        go_wp2_with fail
        refine hc.mono ?_
        rintro e w1 ⟨rfl, hw1⟩
        subst w1
        go_wp2_with fail
        go_roundw
        case rel => exact ⟨k + 1, !o, by omega, by go_num, by first | rfl | trivial, HR.out⟩
        case measure => simp [intOf]; omega
      · simp only [h39, if_false] at hrun hc
        cases o
        · have HR : Hid (qrun false s.data.toList = (k, false)) := by
            show qrun _ _ = _
            rw [hrun]; simp
          clear hrun h39
          go_wp2_with fail
          refine hc.mono ?_
          rintro e w1 ⟨rfl, hw1⟩
          subst w1
          go_wp2_with fail
          go_ret
          exact ⟨by rw [HR.out]; rfl, by rw [HR.out]⟩
        · have HR : Hid (qrun false s.data.toList = ((k + 1) + (qrun true (s.data.toList.drop (k + 1))).1, (qrun true (s.data.toList.drop (k + 1))).2)) := by
            show qrun _ _ = _
            rw [hrun]; simp only [if_true, Prod.mk.injEq, and_true]; omega
          clear hrun h39
          go_wp2_with fail
          refine hc.mono ?_
          rintro e w1 ⟨rfl, hw1⟩
          subst w1
          go_wp2_with fail
          go_roundw
          case rel => exact ⟨k + 1, true, by omega, by go_num, by first | rfl | trivial, HR.out⟩
          case measure => simp [intOf]; omega
    · have hnil : s.data.toList.drop k = [] := List.drop_eq_nil_of_le (by simp; omega)
      rw [hnil] at hrun
      have HR : Hid (qrun false s.data.toList = (s.size, o)) := by
        show qrun _ _ = _
        rw [hrun]; simp [qrun]; omega
      clear hrun hnil
      go_wp2_with fail
      go_ret
      exact ⟨by rw [HR.out]; rfl, by rw [HR.out]⟩

end Go.Proofs.YtckidlbmoalomaaGreatDoor


namespace Go.Proofs.YtckidlbmoalomaaGreatDoor
open Go.RowKit Go.Sort

section
variable {α : Type} {m : Nat} {enc : α → List Value}
def gcells (enc : α → List Value) (L : List α) : List Value := L.flatMap enc
theorem gcells_append (L K : List α) : gcells enc (L ++ K) = gcells enc L ++ gcells enc K := by simp [gcells]
theorem gcells_length (he : ∀ x, (enc x).length = m) (L : List α) : (gcells enc L).length = L.length * m := by
  induction L with
  | nil => simp [gcells]
  | cons e l ih =>
    have : gcells enc (e :: l) = enc e ++ gcells enc l := rfl
    rw [this, List.length_append, ih, he, List.length_cons, Nat.succ_mul, Nat.add_comm]
theorem gcells_get (he : ∀ x, (enc x).length = m) : ∀ (L : List α) (i : Nat) (h : i < L.length) (j : Nat), j < m → (gcells enc L)[i * m + j]? = (enc L[i])[j]?
  | e :: l, 0, _, j, hj => by
    have hc : gcells enc (e :: l) = enc e ++ gcells enc l := rfl
    rw [hc, Nat.zero_mul, Nat.zero_add, List.getElem?_append_left (by rw [he]; exact hj)]
    rfl
  | e :: l, i + 1, h, j, hj => by
    have hc : gcells enc (e :: l) = enc e ++ gcells enc l := rfl
    have := gcells_get he l i (by simpa using h) j hj
    have e1 : (i + 1) * m + j = m + (i * m + j) := by rw [Nat.succ_mul]; omega
    rw [hc, e1, List.getElem?_append_right (by rw [he]; omega), he, Nat.add_sub_cancel_left, this]
    rfl
def LiesG (m : Nat) (enc : α → List Value) (w : World) (v : Value) (L : List α) : Prop :=
  ∃ ao cap, v = .slice ao L.length cap ∧ ((ao = none → cap = 0) ∧ L.length ≤ cap) ∧ ∀ i (h : i < L.length), ∃ b off, ao = some ⟨b, off, none⟩ ∧ ∀ j u, (enc L[i])[j]? = some u → w.cell? ⟨b, off + i * m + j, none⟩ = some u
theorem LiesG.keep {w w' : World} {v : Value} {L : List α} (h : LiesG m enc w v L) (k : Below w.heap.size w w') : LiesG m enc w' v L := by
  obtain ⟨ao, cap, rfl, hn, hc⟩ := h
  refine ⟨ao, cap, rfl, hn, fun i hi => ?_⟩
  obtain ⟨b, off, h0, h1⟩ := hc i hi
  exact ⟨b, off, h0, fun j u hj => cell_keep (h1 j u hj) k⟩
theorem LiesG.nil (w : World) : LiesG m enc w (.slice none 0 0) [] := ⟨none, 0, rfl, ⟨fun _ => rfl, Nat.le_refl _⟩, fun i hi => absurd hi (by simp)⟩
def OwnG (m : Nat) (enc : α → List Value) (w : World) (base : Nat) (e : TypeId) (v : Value) (L : List α) : Prop := w.ownsRow base e m v L.length (gcells enc L)
theorem OwnG.nil (w : World) (base : Nat) (e : TypeId) : OwnG m enc w base e (.slice none 0 0) [] := World.ownsRow_nil _ _ _ _
theorem OwnG.alloc {w : World} {base : Nat} {e : TypeId} {v : Value} {L : List α} (h : OwnG m enc w base e v L) (o : Obj) : OwnG m enc (w.alloc o) base e v L := World.ownsRow.alloc h o
theorem OwnG.keep {w w' : World} {base : Nat} {e : TypeId} {v : Value} {L : List α} (h : OwnG m enc w base e v L) (k : Below w.heap.size w w') : OwnG m enc w' base e v L :=
  World.ownsRow.kept h (grownBy_of_below k) (by cases hv : v.ownBlock <;> simp)
theorem OwnG.drew {w : World} {base : Nat} {e : TypeId} {v : Value} {L : List α} (h : OwnG m enc w base e v L) : OwnG m enc w.drew base e v L := h
theorem OwnG.mono {w : World} {base base' : Nat} {e : TypeId} {v : Value} {L : List α} (h : OwnG m enc w base e v L) (hb : base' ≤ base) : OwnG m enc w base' e v L := by
  refine ⟨h.1, ?_⟩
  rcases h.2 with h | ⟨g, cap, cur, h1, h2, h3⟩
  · exact .inl h
  · exact .inr ⟨g, cap, cur, h1, Nat.le_trans hb h2, h3⟩
theorem OwnG.shapeN {w : World} {base n : Nat} {e : TypeId} {v : Value} {L : List α} (h : OwnG m enc w base e v L) (hn : L.length = n) : ∃ ao cap, v = .slice ao n cap := by
  subst hn
  rcases h.2 with ⟨rfl, h0⟩ | ⟨g, cap, cur, rfl, _⟩
  · exact ⟨none, 0, by rw [h0]⟩
  · exact ⟨_, cap, rfl⟩
theorem OwnG.lies {w : World} {base : Nat} {e : TypeId} {v : Value} {L : List α} (he : ∀ x, (enc x).length = m) (h : OwnG m enc w base e v L) : LiesG m enc w v L := by
  rcases h.2 with ⟨rfl, h0⟩ | ⟨g, cap, cur, rfl, h3⟩
  · exact ⟨none, 0, by rw [h0], ⟨fun _ => rfl, by omega⟩, fun i hi => by omega⟩
  · refine ⟨_, cap, rfl, ⟨nofun, h3.2.2.1⟩, fun i hi => ⟨g, 0, rfl, fun j u hj => ?_⟩⟩
    have hjm : j < m := by
      have := (List.getElem?_eq_some_iff.1 hj).1
      rwa [he] at this
    have hg := gcells_get he L i hi j hjm
    rw [hj] at hg
    have hadd : ∀ j, (⟨g, 0, none⟩ : Addr).add j = ⟨g, 0 + j, none⟩ := fun j => by unfold Addr.add; split <;> simp_all
    rw [Nat.add_assoc, ← hadd]
    exact World.ownsRow.cells h (g := g) rfl _ _ hg
theorem OwnG.lit (he : ∀ x, (enc x).length = m) (w : World) {base H : Nat} {e : TypeId} {C : Array Value} (L : List α) (hC : C.toList = gcells enc L) (hb : base ≤ w.heap.size) (hH : w.heap.size = H) (hlen : L.length ≤ 1000000000) :
    OwnG m enc (w.alloc (.cells C e)) base e (.slice (some ⟨H, 0, none⟩) L.length L.length) L := by
  subst hH
  have hs : C.size = L.length * m := by rw [← Array.length_toList, hC, gcells_length he]
  have := World.ownsRow_lit (base := base) (e := e) (size := m) w C L.length hb (by unfold maxLen; omega) hs
  rw [hC] at this
  exact this
theorem LiesG.cells (he : ∀ x, (enc x).length = m) (hm : 0 < m) {w : World} {b off : Nat} {n cap : Nat} {L : List α} (h : LiesG m enc w (.slice (some ⟨b, off, none⟩) n cap) L) : ∀ j u, (gcells enc L)[j]? = some u → w.cell? ((⟨b, off, none⟩ : Addr).add j) = some u := by
  obtain ⟨ao, cap', hv, _, hc⟩ := h
  simp only [Value.slice.injEq] at hv
  obtain ⟨rfl, rfl, rfl⟩ := hv
  intro j u hj
  have hlt : j < L.length * m := by
    have := (List.getElem?_eq_some_iff.1 hj).1
    rwa [gcells_length he] at this
  have hi : j / m < L.length := Nat.div_lt_of_lt_mul (by rw [Nat.mul_comm]; exact hlt)
  obtain ⟨b', off', hb, h1⟩ := hc (j / m) hi
  simp only [Option.some.injEq, Addr.mk.injEq, and_true] at hb
  obtain ⟨rfl, rfl⟩ := hb
  have hjm : j % m < m := Nat.mod_lt _ hm
  have hg := gcells_get he L (j / m) hi (j % m) hjm
  have hdm : j / m * m + j % m = j := Nat.div_add_mod' j m
  rw [hdm, hj] at hg
  have hadd : (⟨b, off, none⟩ : Addr).add j = ⟨b, off + j, none⟩ := by unfold Addr.add; split <;> simp_all
  have := h1 (j % m) u hg.symm
  rw [Nat.add_assoc, hdm] at this
  rw [hadd]
  exact this
theorem gcells_one (h1 : ∀ x, ∀ u ∈ enc x, u.oneCell' = true) {u : Value} {L : List α} (h : u ∈ gcells enc L) : u.oneCell' = true := by
  simp only [gcells, List.mem_flatMap] at h
  obtain ⟨x, _, hx⟩ := h
  exact h1 x u hx

theorem wp_catG (he : ∀ x, (enc x).length = m) (hm : 0 < m) (h1c : ∀ x, ∀ u ∈ enc x, u.oneCell' = true) {o : Oper} {a : Act} {K : Act → World → Prop} {Q : Exit → Act → World → Prop} {w : World} {base : Nat} {t e : TypeId} {z : Value} {bytes : Nat} {v u : Value} {L M : List α}
    (hinfo : (Tryz.prog.info? e).map (fun i => (i.zero, i.size, i.bytes)) = some (some z, m, bytes)) (ht : Tryz.prog.underlying t = some (.slice e)) (hzc : z.cells.size = m) (hby : bytes ≤ 4096)
    (s x : Operand) (ho : o.op = .call { callee := .builtin .append, args := #[s, x], argTypes := #[t, t] })
    (hs : a.eval s = v) (hx : a.eval x = u) (hown : OwnG m enc w base e v L) (hsrc : LiesG m enc w u M) (hb : base ≤ w.heap.size) (hlen : L.length + M.length ≤ 10000000)
    (h : ∀ v' w', OwnG m enc w' base e v' (L ++ M) → Below base w w' → w.grownBy w' v.ownBlock → K (a.put o.dst v') w') :
    Oper.wp Tryz.prog o a w K Q := by
  obtain ⟨i0, hi, hz0, hz1, hz2⟩ := info_parts hinfo
  have hsrc' := hsrc
  obtain ⟨ao, cap, rfl, hn, hc⟩ := hsrc
  cases ao with
  | none =>
    have hm : M = [] := by
      cases M with
      | nil => rfl
      | cons f m => obtain ⟨b, off, he, _⟩ := hc 0 (by simp); cases he
    subst hm
    rw [hn.1 rfl] at hx
    have hrun := run_append_owned_none (P := Tryz.prog) (w := w) base t o.type e i0 m ht hi v L.length (gcells enc L) hown
    unfold Oper.wp
    simp only [List.length_nil] at hx
    simp [execOp, ho, resolve, invoke, builtin, hs, hx, hrun, Result.andThen]
    exact h v w (by rw [List.append_nil]; exact hown) (Below.refl _ _) ⟨rfl, rfl, rfl, Nat.le_refl _, fun _ _ _ => rfl⟩
  | some ad =>
    refine wp_append_own _ s x t ho base e i0 z m bytes ht hi hz0 hz1 hz2 hzc hm v L.length (gcells enc L) hs hown ad M.length cap (gcells enc M) hx (gcells_length he M) ?_ (fun u hu => gcells_one h1c hu) ?_ ?_ hb ?_
    · intro j y hj
      have hlt : j < M.length * m := by
        have := (List.getElem?_eq_some_iff.1 hj).1
        rwa [gcells_length he] at this
      have hpos : 0 < M.length := by
        rcases Nat.eq_zero_or_pos M.length with h0 | h0
        · rw [h0, Nat.zero_mul] at hlt; omega
        · exact h0
      obtain ⟨b, off, had, _⟩ := hc 0 hpos
      simp only [Option.some.injEq] at had
      subst had
      exact hsrc'.cells he hm j y hj
    · unfold maxLen; omega
    · exact Nat.le_trans (Nat.mul_le_mul hlen hby) (by decide)
    · intro v' w' h1 h2 _
      refine h v' w' ?_ (Below.grown (Below.refl _ _) h2 hb fun k hk => (World.ownsRow.lt hown k hk).1) h2
      unfold OwnG
      rw [gcells_append, List.length_append]
      exact h1
theorem wpList_catG (he : ∀ x, (enc x).length = m) (hm : 0 < m) (h1c : ∀ x, ∀ u ∈ enc x, u.oneCell' = true) {ops : Array Oper} {rest : List Oper} {o : Oper} {a : Act} {Q : Exit → Act → World → Prop} {w : World} {base : Nat} {t e : TypeId} {z : Value} {bytes : Nat} {v u : Value} {L M : List α}
    (hinfo : (Tryz.prog.info? e).map (fun i => (i.zero, i.size, i.bytes)) = some (some z, m, bytes)) (ht : Tryz.prog.underlying t = some (.slice e)) (hzc : z.cells.size = m) (hby : bytes ≤ 4096)
    (s x : Operand) (hgd : o.guard = none) (ho : o.op = .call { callee := .builtin .append, args := #[s, x], argTypes := #[t, t] })
    (hs : a.eval s = v) (hx : a.eval x = u) (hown : OwnG m enc w base e v L) (hsrc : LiesG m enc w u M) (hb : base ≤ w.heap.size) (hlen : L.length + M.length ≤ 10000000)
    (h : ∀ v' w', OwnG m enc w' base e v' (L ++ M) → Below base w w' → w.grownBy w' v.ownBlock → wpList Tryz.prog ops Q rest (a.put o.dst v') w') :
    wpList Tryz.prog ops Q (o :: rest) a w :=
  wpList_plain hgd fun _ hK => wp_catG he hm h1c hinfo ht hzc hby s x ho hs hx hown hsrc hb hlen fun v' w' h1 h2 h3 => hK _ _ (h v' w' h1 h2 h3)
end

end Go.Proofs.YtckidlbmoalomaaGreatDoor


namespace Go.Proofs.YtckidlbmoalomaaGreatDoor
open Go.RowKit Go.Sort

abbrev T4 (k : Int) (t : ByteArray) (n a : Int) : Value := .agg #[.int .i64 k, .string t, .int .i64 n, .int .i64 a]
theorem extract_mid (s : ByteArray) (k e : Nat) : s.extract k e = ⟨((s.data.toList.drop k).take (e - k)).toArray⟩ := by
  refine toList_inj ?_
  rw [ByteArray.toList_eq, ByteArray.toList_eq]
  simp [ByteArray.extract, ByteArray.copySlice]

def TokAt (w : World) (b : Nat) (k : Int) (t : ByteArray) (n a : Int) : Prop := w.heap[b]? = some (.cells #[.int .i64 k, .string t, .int .i64 n, .int .i64 a] 72 (0, 0))
theorem TokAt.cells {w : World} {b : Nat} {k n a : Int} {t : ByteArray} (h : TokAt w b k t n a) : w.cell? ⟨b, 0, none⟩ = some (.int .i64 k) ∧ w.cell? ⟨b, 1, none⟩ = some (.string t) ∧ w.cell? ⟨b, 2, none⟩ = some (.int .i64 n) ∧ w.cell? ⟨b, 3, none⟩ = some (.int .i64 a) := by
  refine ⟨?_, ?_, ?_, ?_⟩ <;> (rw [cell_of_row w b _ _ _ _ h]; rfl)
theorem TokAt.frozen {w : World} {b : Nat} {k n a : Int} {t : ByteArray} (h : TokAt w b k t n a) (i : Nat) : w.frozen? ⟨b, i, none⟩ = false := frozen_of_row w b i _ _ h
theorem TokAt.lt {w : World} {b : Nat} {k n a : Int} {t : ByteArray} (h : TokAt w b k t n a) : b < w.heap.size := (Array.getElem?_eq_some_iff.1 h).1
theorem TokAt.keep {w w' : World} {b : Nat} {k n a : Int} {t : ByteArray} (h : TokAt w b k t n a) (g : Below w.heap.size w w') : TokAt w' b k t n a := (g.block b h.lt).trans h
theorem TokAt.alloc {w : World} {b : Nat} {k n a : Int} {t : ByteArray} (h : TokAt w b k t n a) (o : Obj) : TokAt (w.alloc o) b k t n a := h.keep ((Below.refl _ _).alloc (Nat.le_refl _) _)

def encT (t : Tk) : List Value := [.int .i64 t.1, .string t.2.1, .int .i64 t.2.2.1, .int .i64 t.2.2.2]
theorem encT_len (t : Tk) : (encT t).length = 4 := rfl
theorem encT_one (t : Tk) : ∀ u ∈ encT t, u.oneCell' = true := by
  intro u hu
  simp only [encT, List.mem_cons, List.not_mem_nil, or_false] at hu
  rcases hu with rfl | rfl | rfl | rfl <;> rfl
theorem info_T : (Tryz.prog.info? 72).map (fun i => (i.zero, i.size, i.bytes)) = some (some (.agg #[.int .i64 0, .string ⟨#[]⟩, .int .i64 0, .int .i64 0]), 4, 40) := by kernel_rfl
theorem aheadT_err {out : List Tk} {p : Nat} {e : Int} (h : e ≠ 0) (l : List Tk) : aheadT out (l, p, e) = ([], p, e) := by simp [aheadT, h]

theorem aheadT_form (out : List Tk) (r : List Tk × Nat × Int) : ((aheadT out r).2.2 = 0 → (aheadT out r).2.1 = 0) ∧ ((aheadT out r).2.2 ≠ 0 → (aheadT out r).1 = []) := by
  unfold aheadT
  by_cases h : r.2.2 = 0
  · rw [if_pos h]; exact ⟨fun _ => rfl, fun h => absurd rfl h⟩
  · rw [if_neg h]; exact ⟨fun h' => absurd h' h, fun _ => rfl⟩
theorem scanF_form : ∀ (f : Nat) (l : List UInt8) (o k : Nat), ((scanF f l o k).2.2 = 0 → (scanF f l o k).2.1 = 0) ∧ ((scanF f l o k).2.2 ≠ 0 → (scanF f l o k).1 = [])
  | 0, _, _, _ => ⟨fun _ => rfl, fun _ => rfl⟩
  | f + 1, [], o, k => by
    unfold scanF
    split
    · exact ⟨fun h => by simp at h, fun _ => rfl⟩
    · exact ⟨fun _ => rfl, fun h => absurd rfl h⟩
  | f + 1, c :: r, o, k => by
    unfold scanF
    split
    · exact scanF_form f _ _ _
    · split
      · exact scanF_form f _ _ _
      · split
        · exact ⟨fun h => by simp at h, fun _ => rfl⟩
        · split
          · exact ⟨fun h => by simp at h, fun _ => rfl⟩
          · exact aheadT_form _ _

end Go.Proofs.YtckidlbmoalomaaGreatDoor


namespace Go.Proofs.YtckidlbmoalomaaGreatDoor
open Go.RowKit Go.Sort

theorem entered {f : FuncId} {fn : Func} (hf : Tryz.prog.funcs[f]? = some fn) (hb : fn.body.isSome = true) (hname : (fn.name == "runtime.NumGoroutine") = false) (a : Array Value) (w : World) :
    (callFunc f a).run Tryz.prog w = .ok (.enter f a) w := by
  have h1 : fn.name ≠ "runtime.NumGoroutine" := by simpa using hname
  have h2 : fn.body ≠ none := by intro h; rw [h] at hb; cases hb
  simp [callFunc, hf, h1, h2]
theorem span_name (w : World) (s : ByteArray) (hs : s.size ≤ 1000000) : Calls Tryz.prog 42 #[.string s, .func (.func 97) #[] #[]] w fun e w' => e = .returned (.int .i64 (runN nameB s.data.toList : Int)) ∧ w' = w :=
  span_any 97 nameB (entered Tryz.func97 (by kernel_rfl) (by kernel_rfl)) name_any w s hs
theorem span_digit (w : World) (s : ByteArray) (hs : s.size ≤ 1000000) : Calls Tryz.prog 42 #[.string s, .func (.func 80) #[] #[]] w fun e w' => e = .returned (.int .i64 (runN digitB s.data.toList : Int)) ∧ w' = w :=
  span_any 80 digitB (entered Tryz.func80 (by kernel_rfl) (by kernel_rfl)) digit_any w s hs
theorem span_may (w : World) (s : ByteArray) (hs : s.size ≤ 1000000) : Calls Tryz.prog 42 #[.string s, .func (.func 100) #[] #[]] w fun e w' => e = .returned (.int .i64 (runN mayB s.data.toList : Int)) ∧ w' = w :=
  span_any 100 mayB (entered Tryz.func100 (by kernel_rfl) (by kernel_rfl)) may_any w s hs
theorem span_blank (w : World) (s : ByteArray) (hs : s.size ≤ 1000000) : Calls Tryz.prog 42 #[.string s, .func (.func 43) #[] #[]] w fun e w' => e = .returned (.int .i64 (runN blankB s.data.toList : Int)) ∧ w' = w :=
  span_any 43 blankB (entered Tryz.func43 (by kernel_rfl) (by kernel_rfl)) blank_any w s hs
theorem span_line (w : World) (s : ByteArray) (hs : s.size ≤ 1000000) : Calls Tryz.prog 42 #[.string s, .func (.func 45) #[] #[]] w fun e w' => e = .returned (.int .i64 (runN noEndB s.data.toList : Int)) ∧ w' = w :=
  span_any 45 noEndB (entered Tryz.func45 (by kernel_rfl) (by kernel_rfl)) noEnd_any w s hs

def takeV : (Int × List UInt8 × Nat × Nat) ⊕ Nat → Value
  | .inl (kind, t, n, len) => .tuple #[T4 kind ⟨t.toArray⟩ (n : Int) 0, .int .i64 (len : Int), .int .i64 (-1)]
  | .inr d => .tuple #[T4 0 ⟨#[]⟩ 0 0, .int .i64 0, .int .i64 (d : Int)]
theorem extract_front (s : ByteArray) (n : Nat) : s.extract 0 n = ⟨(s.data.toList.take n).toArray⟩ := by
  rw [extract_mid]; simp
set_option maxHeartbeats 1000000 in
theorem takeName_any (w : World) (s : ByteArray) (hs : s.size ≤ 1000000) :
    Calls Tryz.prog 79 #[.string s] w fun e w' =>
      e = .returned (takeV (if 30 < runN nameB s.data.toList then .inr 0 else .inl (1, s.data.toList.take (runN nameB s.data.toList), 0, runN nameB s.data.toList))) ∧ Below w.heap.size w w' := by
  have a1 := span_name (w.alloc (.cells #[.int .i64 0, .string ⟨#[]⟩, .int .i64 0, .int .i64 0] 72)) s hs
  have hle : runN nameB s.data.toList ≤ s.size := by have := runN_le nameB s.data.toList; simpa using this
  generalize runN nameB s.data.toList = n at a1 hle
  have i0 : (0 : Int) ≤ (n : Int) := by omega
  have i1 : (n : Int) ≤ (s.size : Int) := by omega
  have HE : Hid (s.extract 0 n = ⟨(s.data.toList.take n).toArray⟩) := extract_front s n
  by_cases h : 30 < n
  · have q : decide ((30 : Int) < (n : Int)) = true := by simp; omega
    simp only [h, if_true]
    go_enter Tryz.func79, Tryz.ntmps79
    go_wp2_with fail
    refine a1.mono ?_
    rintro e w1 ⟨rfl, hw1⟩
    subst w1
    go_wp2_with fail
    exact bodyPost_ret (v := takeV (.inr 0)) (by simp [results, Tryz.results79, go_sem, takeV]) rfl ⟨rfl, ((Below.refl _ _).alloc (Nat.le_refl _) _)⟩
  · have q : decide ((30 : Int) < (n : Int)) = false := by simp; omega
    simp only [h, if_false]
    go_enter Tryz.func79, Tryz.ntmps79
    go_wp2_with fail
    refine a1.mono ?_
    rintro e w1 ⟨rfl, hw1⟩
    subst w1
    go_wp2_with fail
    exact bodyPost_ret (v := takeV (.inl (1, s.data.toList.take n, 0, n))) (by simp [results, Tryz.results79, go_sem, takeV, HE.out]) rfl ⟨rfl, ((Below.refl _ _).alloc (Nat.le_refl _) _)⟩

theorem runN_all {p : UInt8 → Bool} : ∀ (l : List UInt8) (j : Nat), j < runN p l → ∃ c, l[j]? = some c ∧ p c = true
  | [], j, h => by simp [runN] at h
  | c :: r, j, h => by
    unfold runN at h
    by_cases hc : p c = true
    · rw [if_pos hc] at h
      cases j with
      | zero => exact ⟨c, rfl, hc⟩
      | succ j =>
        obtain ⟨d, h1, h2⟩ := runN_all (p := p) r j (by omega)
        exact ⟨d, by simpa using h1, h2⟩
    · rw [if_neg hc] at h; omega
theorem numL_snoc (l : List UInt8) (c : UInt8) : numL (l ++ [c]) = 10 * numL l + (c.toNat - 48) := by simp [numL, List.foldl_append]
theorem numL_lt (l : List UInt8) (h : ∀ c ∈ l, digitB c = true) : numL l < 10 ^ l.length := by
  have : ∀ (l : List UInt8) (a : Nat), (∀ c ∈ l, digitB c = true) → l.foldl (fun n c => 10 * n + (c.toNat - 48)) a < (a + 1) * 10 ^ l.length := by
    intro l
    induction l with
    | nil => intro a _; simp
    | cons c r ih =>
      intro a ha
      have hd := ha c (List.mem_cons_self ..)
      simp only [digitB, Bool.and_eq_true, decide_eq_true_eq] at hd
      have := ih (10 * a + (c.toNat - 48)) fun d hd => ha d (List.mem_cons_of_mem _ hd)
      simp only [List.foldl_cons, List.length_cons]
      refine Nat.lt_of_lt_of_le this ?_
      rw [Nat.pow_succ, Nat.mul_comm (10 ^ r.length) 10, ← Nat.mul_assoc]
      exact Nat.mul_le_mul_right _ (by omega)
  simpa [numL] using this l 0 h
theorem digit_val {c : UInt8} (h : digitB c = true) : 48 ≤ c.toNat ∧ c.toNat ≤ 57 := by
  simpa [digitB] using h

theorem runN_front {p : UInt8 → Bool} {s : ByteArray} {i : Nat} (h : i < runN p s.data.toList) (hi : i < s.size) : p s[i] = true := by
  obtain ⟨c, h1, h2⟩ := runN_all _ _ h
  have h' : i < s.data.toList.length := by simpa using hi
  rw [List.getElem?_eq_getElem h'] at h1
  have : s[i] = c := by injection h1
  rw [this]; exact h2
theorem numL_front {s : ByteArray} {k : Nat} (h : k ≤ runN digitB s.data.toList) : numL (s.data.toList.take k) < 10 ^ k := by
  have hl : (s.data.toList.take k).length = k := by
    rw [List.length_take]; have := runN_le digitB s.data.toList; omega
  have := numL_lt (s.data.toList.take k) fun c hc => by
    obtain ⟨i, hi, rfl⟩ := List.getElem_of_mem hc
    rw [hl] at hi
    obtain ⟨d, h1, h2⟩ := runN_all (p := digitB) s.data.toList i (by omega)
    rw [List.getElem_take]
    rw [List.getElem?_eq_some_iff] at h1
    obtain ⟨_, h1⟩ := h1
    rw [h1]; exact h2
  rwa [hl] at this

set_option maxHeartbeats 2000000 in
theorem takeInt_any (w : World) (s : ByteArray) (hs : s.size ≤ 1000000) :
    Calls Tryz.prog 81 #[.string s] w fun e w' =>
      e = .returned (takeV (if 18 < runN digitB s.data.toList then .inr 0 else .inl (2, s.data.toList.take (runN digitB s.data.toList), numL (s.data.toList.take (runN digitB s.data.toList)), runN digitB s.data.toList))) ∧ Below w.heap.size w w' := by
  have a1 := span_digit (w.alloc (.cells #[.int .i64 0, .string ⟨#[]⟩, .int .i64 0, .int .i64 0] 72)) s hs
  have hle : runN digitB s.data.toList ≤ s.size := by have := runN_le digitB s.data.toList; simpa using this
  have HD : Hid (∀ i (hi : i < s.size), i < runN digitB s.data.toList → 48 ≤ s[i].toNat ∧ s[i].toNat ≤ 57) := fun i hi h => digit_val (runN_front h hi)
  have HN : Hid (∀ k, k ≤ runN digitB s.data.toList → numL (s.data.toList.take k) < 10 ^ k) := fun k h => numL_front h
  generalize runN digitB s.data.toList = n at a1 hle HD HN
  have i0 : (0 : Int) ≤ (n : Int) := by omega
  have i1 : (n : Int) ≤ (s.size : Int) := by omega
  have HE : Hid (s.extract 0 n = ⟨(s.data.toList.take n).toArray⟩) := extract_front s n
  by_cases h : 18 < n
  · have q : decide ((18 : Int) < (n : Int)) = true := by simp; omega
    simp only [h, if_true]
    go_enter Tryz.func81, Tryz.ntmps81
    go_wp2_with fail
    refine a1.mono ?_
    rintro e w1 ⟨rfl, hw1⟩
    subst w1
    go_wp2_with fail
    exact bodyPost_ret (v := takeV (.inr 0)) (by simp [results, Tryz.results81, go_sem, takeV]) rfl ⟨rfl, ((Below.refl _ _).alloc (Nat.le_refl _) _)⟩
  · have q : decide ((18 : Int) < (n : Int)) = false := by simp; omega
    simp only [h, if_false]
    go_enter Tryz.func81, Tryz.ntmps81
    go_wp2_with fail
    refine a1.mono ?_
    rintro e w1 ⟨rfl, hw1⟩
    subst w1
    go_wp2_with fail
    go_loopw [5, 13] (fun x i wr => ∃ k : Nat, k ≤ n ∧ i = .int .i64 k ∧ x = .int .i64 (numL (s.data.toList.take k) : Int) ∧ wr = w.alloc (.cells #[.int .i64 0, .string ⟨#[]⟩, .int .i64 0, .int .i64 0] 72)) (fun _ i _ => n - (intOf i).toNat)
    case atStart => exact ⟨0, Nat.zero_le _, rfl, rfl, rfl⟩
    case round =>
      obtain ⟨k, hkn, rfl, rfl, rfl⟩ := hrel
      have hb := HN.out k hkn
      have hb18 : (10 : Nat) ^ k ≤ 10 ^ 18 := Nat.pow_le_pow_right (by decide) (by omega)
      have hb2 : numL (s.data.toList.take k) < 1000000000000000000 := Nat.lt_of_lt_of_le hb hb18
      clear hb hb18
      by_cases hk : k < n
      · have hks : k < s.size := by omega
        have HT := numL_snoc (s.data.toList.take k) s[k]
        rw [← byte_take s hks] at HT
        obtain ⟨d0, d1⟩ := HD.out k hks hk
        have j0 : (0 : Int) ≤ (k : Int) := by omega
        have j1 : (k : Int) < (s.size : Int) := by omega
        have hb3 := HN.out (k + 1) (by omega)
        have hb183 : (10 : Nat) ^ (k + 1) ≤ 10 ^ 18 := Nat.pow_le_pow_right (by decide) (by omega)
        have hb4 : numL (s.data.toList.take (k + 1)) < 1000000000000000000 := Nat.lt_of_lt_of_le hb3 hb183
        clear hb3 hb183
        have HT' : Hid (numL (s.data.toList.take (k + 1)) = 10 * numL (s.data.toList.take k) + (s[k].toNat - 48)) := HT
        rw [HT] at hb4
        generalize numL (s.data.toList.take k) = m at *
        have hsub : IntKind.u8.wrap ((s[k].toNat : Int) - 48) = ((s[k].toNat - 48 : Nat) : Int) := by
          simp only [IntKind.wrap, IntKind.signed, IntKind.bits]
          simp
          omega
        clear HT
        go_wp2_with fail
        go_roundw
        case rel => exact ⟨k + 1, by omega, by go_num, by rw [HT'.out]; go_num, by first | rfl | trivial⟩
        case measure => simp [intOf]; omega
      · have hkn' : k = n := by omega
        subst hkn'
        go_wp2_with fail
        exact bodyPost_ret (v := takeV (.inl (2, s.data.toList.take k, numL (s.data.toList.take k), k))) (by simp [results, Tryz.results81, go_sem, takeV, HE.out]) rfl ⟨rfl, ((Below.refl _ _).alloc (Nat.le_refl _) _)⟩

end Go.Proofs.YtckidlbmoalomaaGreatDoor
