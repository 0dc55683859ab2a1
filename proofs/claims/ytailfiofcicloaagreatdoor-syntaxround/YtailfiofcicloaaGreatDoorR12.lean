/- Contract of the document's Line. Contracts of the program's tests of bytes, and of span with each of them. Contract of the program's span: with a test that hangs on the byte alone, and with one that keeps something. Slices of structs: how they lie in memory, slices that the calls themselves make, and what an append makes of them; for any struct whose fields are one cell each. -/
import Derived.Test.YtailfiofcicloaaGreatDoorR11
import Derived.Test.YtailfiofcicloaaGreatDoorR07

namespace Go.Proofs.YtailfiofcicloaaGreatDoor
open Go.RowKit Go.Sort

theorem byte_at (s : ByteArray) {k : Nat} (h : k < s.size) : s.data.toList.drop k = s[k] :: s.data.toList.drop (k + 1) := by
  have h' : k < s.data.toList.length := by simpa using h
  rw [List.drop_eq_getElem_cons h']
  rfl
theorem byte_take (s : ByteArray) {k : Nat} (h : k < s.size) : s.data.toList.take (k + 1) = s.data.toList.take k ++ [s[k]] := by
  have h' : k < s.data.toList.length := by simpa using h
  rw [List.take_succ_eq_append_getElem h']
  rfl
end Go.Proofs.YtailfiofcicloaaGreatDoor

namespace Go.Proofs.YtailfiofcicloaaGreatDoor
open Go.RowKit Go.Sort

def nameB (c : UInt8) : Bool := digitB c || letterB c
def noEndB (c : UInt8) : Bool := c.toNat != 10

theorem digit_any (w : World) (c : UInt8) : Calls Tryz.prog 77 #[.int .u8 (c.toNat : Int)] w fun e w' => e = .returned (.bool (digitB c)) ∧ w' = w := by
  have q1 : decide ((48 : Int) ≤ (c.toNat : Int)) = decide (48 ≤ c.toNat) := le_nat 48 _
  have q2 : decide ((c.toNat : Int) ≤ 57) = decide (c.toNat ≤ 57) := le_nat _ 57
  have HX : Hid (digitB c = (decide (48 ≤ c.toNat) && decide (c.toNat ≤ 57))) := rfl
  generalize decide (48 ≤ c.toNat) = b1 at q1 HX
  generalize decide (c.toNat ≤ 57) = b2 at q2 HX
  cases b1 <;> cases b2 <;> (
    go_enter Tryz.func77, Tryz.ntmps77
    go_wp2_with fail
    go_ret
    exact ⟨ret_bool (by rw [HX.out]; rfl), rfl⟩)
theorem may_any (w : World) (c : UInt8) : Calls Tryz.prog 97 #[.int .u8 (c.toNat : Int)] w fun e w' => e = .returned (.bool (mayB c)) ∧ w' = w := by
  have q1 : decide ((32 : Int) ≤ (c.toNat : Int)) = decide (32 ≤ c.toNat) := le_nat 32 _
  have q2 : ((c.toNat : Int) == 10) = (c.toNat == 10) := beq_nat _ 10
  have HX : Hid (mayB c = (decide (32 ≤ c.toNat) || c.toNat == 10)) := rfl
  generalize decide (32 ≤ c.toNat) = b1 at q1 HX
  generalize (c.toNat == 10) = b2 at q2 HX
  cases b1 <;> cases b2 <;> (
    go_enter Tryz.func97, Tryz.ntmps97
    go_wp2_with fail
    go_ret
    exact ⟨ret_bool (by rw [HX.out]; rfl), rfl⟩)
theorem blank_any (w : World) (c : UInt8) : Calls Tryz.prog 40 #[.int .u8 (c.toNat : Int)] w fun e w' => e = .returned (.bool (blankB c)) ∧ w' = w := by
  have q1 : ((c.toNat : Int) == 32) = (c.toNat == 32) := beq_nat _ 32
  have q2 : ((c.toNat : Int) == 9) = (c.toNat == 9) := beq_nat _ 9
  have q3 : ((c.toNat : Int) == 10) = (c.toNat == 10) := beq_nat _ 10
  have q4 : ((c.toNat : Int) == 13) = (c.toNat == 13) := beq_nat _ 13
  have HX : Hid (blankB c = (c.toNat == 32 || c.toNat == 9 || c.toNat == 10 || c.toNat == 13)) := rfl
  generalize (c.toNat == 32) = b1 at q1 HX
  generalize (c.toNat == 9) = b2 at q2 HX
  generalize (c.toNat == 10) = b3 at q3 HX
  generalize (c.toNat == 13) = b4 at q4 HX
  cases b1 <;> cases b2 <;> cases b3 <;> cases b4 <;> (
    go_enter Tryz.func40, Tryz.ntmps40
    go_wp2_with fail
    go_ret
    exact ⟨ret_bool (by rw [HX.out]; rfl), rfl⟩)
theorem letter_any (w : World) (c : UInt8) : Calls Tryz.prog 75 #[.int .u8 (c.toNat : Int)] w fun e w' => e = .returned (.bool (letterB c)) ∧ w' = w := by
  have q1 : decide ((97 : Int) ≤ (c.toNat : Int)) = decide (97 ≤ c.toNat) := le_nat 97 _
  have q2 : decide ((c.toNat : Int) ≤ 122) = decide (c.toNat ≤ 122) := le_nat _ 122
  have q3 : decide ((65 : Int) ≤ (c.toNat : Int)) = decide (65 ≤ c.toNat) := le_nat 65 _
  have q4 : decide ((c.toNat : Int) ≤ 90) = decide (c.toNat ≤ 90) := le_nat _ 90
  have q5 : ((c.toNat : Int) == 95) = (c.toNat == 95) := beq_nat _ 95
  have HX : Hid (letterB c = ((decide (97 ≤ c.toNat) && decide (c.toNat ≤ 122)) || (decide (65 ≤ c.toNat) && decide (c.toNat ≤ 90)) || c.toNat == 95)) := rfl
  generalize decide (97 ≤ c.toNat) = b1 at q1 HX
  generalize decide (c.toNat ≤ 122) = b2 at q2 HX
  generalize decide (65 ≤ c.toNat) = b3 at q3 HX
  generalize decide (c.toNat ≤ 90) = b4 at q4 HX
  generalize (c.toNat == 95) = b5 at q5 HX
  cases b1 <;> cases b2 <;> cases b3 <;> cases b4 <;> cases b5 <;> (
    go_enter Tryz.func75, Tryz.ntmps75
    go_wp2_with fail
    go_ret
    exact ⟨ret_bool (by rw [HX.out]; rfl), rfl⟩)
theorem noEnd_any (w : World) (c : UInt8) : Calls Tryz.prog 42 #[.int .u8 (c.toNat : Int)] w fun e w' => e = .returned (.bool (noEndB c)) ∧ w' = w := by
  have HX : Hid (noEndB c = ((c.toNat : Int) != 10)) := by
    show noEndB c = _
    unfold noEndB
    rw [Bool.eq_iff_iff, bne_iff_ne, bne_iff_ne]; omega
  go_enter Tryz.func42, Tryz.ntmps42
  go_wp2_with fail
  go_ret
  exact ⟨ret_bool HX.out.symm, rfl⟩
theorem name_any (w : World) (c : UInt8) : Calls Tryz.prog 94 #[.int .u8 (c.toNat : Int)] w fun e w' => e = .returned (.bool (nameB c)) ∧ w' = w := by
  have a1 := letter_any w c
  have a2 := digit_any w c
  have HX : Hid (nameB c = (letterB c || digitB c)) := Bool.or_comm _ _
  generalize letterB c = b1 at a1 HX
  generalize digitB c = b2 at a2 HX
  cases b1
  · go_enter Tryz.func94, Tryz.ntmps94
    go_wp2_with fail
    refine a1.mono ?_
    rintro e w1 ⟨rfl, hw1⟩
    subst w1
    go_wp2_with fail
    refine a2.mono ?_
    rintro e w1 ⟨rfl, hw1⟩
    subst w1
    go_wp2_with fail
    go_ret
    exact ⟨ret_bool (by rw [HX.out]; rfl), rfl⟩
  · go_enter Tryz.func94, Tryz.ntmps94
    go_wp2_with fail
    refine a1.mono ?_
    rintro e w1 ⟨rfl, hw1⟩
    subst w1
    go_wp2_with fail
    go_ret
    exact ⟨ret_bool (by rw [HX.out]; rfl), rfl⟩

end Go.Proofs.YtailfiofcicloaaGreatDoor

namespace Go.Proofs.YtailfiofcicloaaGreatDoor
open Go.RowKit Go.Sort

theorem spanN_step {p : UInt8 → Bool} {s : ByteArray} {k : Nat} (hk : k < s.size) (h : runN p s.data.toList = k + runN p (s.data.toList.drop k)) :
    (p s[k] = true → runN p s.data.toList = (k + 1) + runN p (s.data.toList.drop (k + 1))) ∧ (p s[k] = false → runN p s.data.toList = k) := by
  rw [byte_at s hk, runN] at h
  constructor
  · intro hp; rw [hp] at h; simp at h; omega
  · intro hp; rw [hp] at h; simpa using h

set_option maxHeartbeats 1000000 in
theorem span_any (K : Nat) (p : UInt8 → Bool) (hK : ∀ (a : Array Value) (w : World), (callFunc K a).run Tryz.prog w = .ok (.enter K a) w) (hp : ∀ (w : World) (c : UInt8), Calls Tryz.prog K #[.int .u8 (c.toNat : Int)] w fun e w' => e = .returned (.bool (p c)) ∧ w' = w)
    (w : World) (s : ByteArray) (hs : s.size ≤ 1000000) :
    Calls Tryz.prog 39 #[.string s, .func (.func K) #[] #[]] w fun e w' => e = .returned (.int .i64 (runN p s.data.toList : Int)) ∧ w' = w := by
  go_enter Tryz.func39, Tryz.ntmps39
  go_wp2_with fail
  go_loopw [8] (fun i wr => ∃ k : Nat, k ≤ s.size ∧ i = .int .i64 k ∧ wr = w ∧ runN p s.data.toList = k + runN p (s.data.toList.drop k)) (fun i _ => s.size - (intOf i).toNat)
  case atStart => exact ⟨0, Nat.zero_le _, rfl, rfl, by simp⟩
  case round =>
    obtain ⟨k, hks, rfl, rfl, hrun⟩ := hrel
    by_cases hk : k < s.size
    · have HSt := spanN_step hk hrun
      have hc := hp wr s[k]
      have i0 : (0 : Int) ≤ (k : Int) := by omega
      have i1 : (k : Int) < (s.size : Int) := by omega
      cases hb : p s[k]
      · have HR : Hid (runN p s.data.toList = k) := HSt.2 hb
        rw [hb] at hc
        clear HSt hrun hb hp
        go_wp2_with fail
        refine hc.mono ?_
        rintro e w1 ⟨rfl, hw1⟩
        subst w1
        go_wp2_with fail
        go_ret
        exact ⟨by rw [HR.out]; rfl, rfl⟩
      · have HR : Hid (runN p s.data.toList = (k + 1) + runN p (s.data.toList.drop (k + 1))) := HSt.1 hb
        rw [hb] at hc
        clear HSt hrun hb hp
        go_wp2_with fail
        refine hc.mono ?_
        rintro e w1 ⟨rfl, hw1⟩
        subst w1
        go_wp2_with fail
        go_roundw
        case rel => exact ⟨k + 1, by omega, by go_num, by first | rfl | trivial, HR.out⟩
        case measure => simp [intOf]; omega
    · have hnil : s.data.toList.drop k = [] := List.drop_eq_nil_of_le (by simp; omega)
      rw [hnil] at hrun
      have HR : Hid (runN p s.data.toList = s.size) := by
        show runN p s.data.toList = _
        rw [hrun]; simp [runN]; omega
      clear hrun hnil hp
      go_wp2_with fail
      go_ret
      exact ⟨by rw [HR.out]; rfl, rfl⟩

theorem quote_any (w : World) (c : UInt8) (o : Bool) : Calls Tryz.prog 95 #[.int .u8 (c.toNat : Int), .pointer (some ⟨w.heap.size, 0, none⟩)] (w.alloc (.cells #[.bool o] 4)) fun e w' =>
    if c.toNat = 39 then e = .returned (.bool true) ∧ w' = w.alloc (.cells #[.bool (!o)] 4) else e = .returned (.bool o) ∧ w' = w.alloc (.cells #[.bool o] 4) := by
  by_cases h : c.toNat = 39
  · have q : ((c.toNat : Int) == 39) = true := by rw [h]; rfl
    simp only [h, if_true]
    have HC : Hid (c.toNat = 39) := h
    rw [← h]
    clear h
    go_enter Tryz.func95, Tryz.ntmps95
    go_wp2_with fail
    go_ret
    exact ⟨rfl, rfl⟩
  · have q : ((c.toNat : Int) == 39) = false := by rw [beq_eq_false_iff_ne]; omega
    simp only [h, if_false]
    go_enter Tryz.func95, Tryz.ntmps95
    go_wp2_with fail
    go_ret
    exact ⟨rfl, rfl⟩

set_option maxHeartbeats 1000000 in
theorem spanQ_any (w : World) (s : ByteArray) (hs : s.size ≤ 1000000) :
    Calls Tryz.prog 39 #[.string s, .func (.func 95) #[] #[.pointer (some ⟨w.heap.size, 0, none⟩)]] (w.alloc (.cells #[.bool false] 4)) fun e w' =>
      e = .returned (.int .i64 ((qrun false s.data.toList).1 : Int)) ∧ w' = w.alloc (.cells #[.bool (qrun false s.data.toList).2] 4) := by
  go_enter Tryz.func39, Tryz.ntmps39
  go_wp2_with fail
  go_loopw [8] (fun i wr => ∃ (k : Nat) (o : Bool), k ≤ s.size ∧ i = .int .i64 k ∧ wr = w.alloc (.cells #[.bool o] 4) ∧ qrun false s.data.toList = (k + (qrun o (s.data.toList.drop k)).1, (qrun o (s.data.toList.drop k)).2)) (fun i _ => s.size - (intOf i).toNat)
  case atStart => exact ⟨0, false, Nat.zero_le _, rfl, rfl, by simp⟩
  case round =>
    obtain ⟨k, o, hks, rfl, rfl, hrun⟩ := hrel
    by_cases hk : k < s.size
    · have hc := quote_any w s[k] o
      have i0 : (0 : Int) ≤ (k : Int) := by omega
      have i1 : (k : Int) < (s.size : Int) := by omega
      rw [byte_at s hk, qrun] at hrun
      by_cases h39 : s[k].toNat = 39
      · simp only [h39, if_true] at hrun hc
        have HR : Hid (qrun false s.data.toList = ((k + 1) + (qrun (!o) (s.data.toList.drop (k + 1))).1, (qrun (!o) (s.data.toList.drop (k + 1))).2)) := by
          show qrun _ _ = _
          rw [hrun]; simp only [Prod.mk.injEq, and_true]; omega
        rw [← h39] at hc
        clear hrun h39
        go_wp2_with fail
        refine hc.mono ?_
        rintro e w1 ⟨rfl, hw1⟩
        subst w1
        go_wp2_with fail
        go_roundw
        case rel => exact ⟨k + 1, !o, by omega, by go_num, by first | rfl | trivial, HR.out⟩
        case measure => simp [intOf]; omega
      · simp only [h39, if_false] at hrun hc
        cases o
        · have HR : Hid (qrun false s.data.toList = (k, false)) := by
            show qrun _ _ = _
            rw [hrun]; simp
          clear hrun h39
          go_wp2_with fail
          refine hc.mono ?_
          rintro e w1 ⟨rfl, hw1⟩
          subst w1
          go_wp2_with fail
          go_ret
          exact ⟨by rw [HR.out]; rfl, by rw [HR.out]⟩
        · have HR : Hid (qrun false s.data.toList = ((k + 1) + (qrun true (s.data.toList.drop (k + 1))).1, (qrun true (s.data.toList.drop (k + 1))).2)) := by
            show qrun _ _ = _
            rw [hrun]; simp only [if_true, Prod.mk.injEq, and_true]; omega
          clear hrun h39
          go_wp2_with fail
          refine hc.mono ?_
          rintro e w1 ⟨rfl, hw1⟩
          subst w1
          go_wp2_with fail
          go_roundw
          case rel => exact ⟨k + 1, true, by omega, by go_num, by first | rfl | trivial, HR.out⟩
          case measure => simp [intOf]; omega
    · have hnil : s.data.toList.drop k = [] := List.drop_eq_nil_of_le (by simp; omega)
      rw [hnil] at hrun
      have HR : Hid (qrun false s.data.toList = (s.size, o)) := by
        show qrun _ _ = _
        rw [hrun]; simp [qrun]; omega
      clear hrun hnil
      go_wp2_with fail
      go_ret
      exact ⟨by rw [HR.out]; rfl, by rw [HR.out]⟩

end Go.Proofs.YtailfiofcicloaaGreatDoor

namespace Go.Proofs.YtailfiofcicloaaGreatDoor
open Go.RowKit Go.Sort

section
variable {α : Type} {m : Nat} {enc : α → List Value}
def gcells (enc : α → List Value) (L : List α) : List Value := L.flatMap enc
theorem gcells_append (L K : List α) : gcells enc (L ++ K) = gcells enc L ++ gcells enc K := by simp [gcells]
theorem gcells_length (he : ∀ x, (enc x).length = m) (L : List α) : (gcells enc L).length = L.length * m := by
  induction L with
  | nil => simp [gcells]
  | cons e l ih =>
    have : gcells enc (e :: l) = enc e ++ gcells enc l := rfl
    rw [this, List.length_append, ih, he, List.length_cons, Nat.succ_mul, Nat.add_comm]
theorem gcells_get (he : ∀ x, (enc x).length = m) : ∀ (L : List α) (i : Nat) (h : i < L.length) (j : Nat), j < m → (gcells enc L)[i * m + j]? = (enc L[i])[j]?
  | e :: l, 0, _, j, hj => by
    have hc : gcells enc (e :: l) = enc e ++ gcells enc l := rfl
    rw [hc, Nat.zero_mul, Nat.zero_add, List.getElem?_append_left (by rw [he]; exact hj)]
    rfl
  | e :: l, i + 1, h, j, hj => by
    have hc : gcells enc (e :: l) = enc e ++ gcells enc l := rfl
    have := gcells_get he l i (by simpa using h) j hj
    have e1 : (i + 1) * m + j = m + (i * m + j) := by rw [Nat.succ_mul]; omega
    rw [hc, e1, List.getElem?_append_right (by rw [he]; omega), he, Nat.add_sub_cancel_left, this]
    rfl
/-- v is a slice of structs and holds L. -/
def LiesG (m : Nat) (enc : α → List Value) (w : World) (v : Value) (L : List α) : Prop :=
  ∃ ao cap, v = .slice ao L.length cap ∧ ((ao = none → cap = 0) ∧ L.length ≤ cap) ∧ ∀ i (h : i < L.length), ∃ b off, ao = some ⟨b, off, none⟩ ∧ ∀ j u, (enc L[i])[j]? = some u → w.cell? ⟨b, off + i * m + j, none⟩ = some u
theorem LiesG.keep {w w' : World} {v : Value} {L : List α} (h : LiesG m enc w v L) (k : Below w.heap.size w w') : LiesG m enc w' v L := by
  obtain ⟨ao, cap, rfl, hn, hc⟩ := h
  refine ⟨ao, cap, rfl, hn, fun i hi => ?_⟩
  obtain ⟨b, off, h0, h1⟩ := hc i hi
  exact ⟨b, off, h0, fun j u hj => cell_keep (h1 j u hj) k⟩
theorem LiesG.nil (w : World) : LiesG m enc w (.slice none 0 0) [] := ⟨none, 0, rfl, ⟨fun _ => rfl, Nat.le_refl _⟩, fun i hi => absurd hi (by simp)⟩
/-- v is such a slice of the calls' own, in a block from base on. -/
def OwnG (m : Nat) (enc : α → List Value) (w : World) (base : Nat) (e : TypeId) (v : Value) (L : List α) : Prop := w.ownsRow base e m v L.length (gcells enc L)
theorem OwnG.nil (w : World) (base : Nat) (e : TypeId) : OwnG m enc w base e (.slice none 0 0) [] := World.ownsRow_nil _ _ _ _
theorem OwnG.alloc {w : World} {base : Nat} {e : TypeId} {v : Value} {L : List α} (h : OwnG m enc w base e v L) (o : Obj) : OwnG m enc (w.alloc o) base e v L := World.ownsRow.alloc h o
theorem OwnG.keep {w w' : World} {base : Nat} {e : TypeId} {v : Value} {L : List α} (h : OwnG m enc w base e v L) (k : Below w.heap.size w w') : OwnG m enc w' base e v L :=
  World.ownsRow.kept h (grownBy_of_below k) (by cases hv : v.ownBlock <;> simp)
theorem OwnG.drew {w : World} {base : Nat} {e : TypeId} {v : Value} {L : List α} (h : OwnG m enc w base e v L) : OwnG m enc w.drew base e v L := h
theorem OwnG.mono {w : World} {base base' : Nat} {e : TypeId} {v : Value} {L : List α} (h : OwnG m enc w base e v L) (hb : base' ≤ base) : OwnG m enc w base' e v L := by
  refine ⟨h.1, ?_⟩
  rcases h.2 with h | ⟨g, cap, cur, h1, h2, h3⟩
  · exact .inl h
  · exact .inr ⟨g, cap, cur, h1, Nat.le_trans hb h2, h3⟩
theorem OwnG.shapeN {w : World} {base n : Nat} {e : TypeId} {v : Value} {L : List α} (h : OwnG m enc w base e v L) (hn : L.length = n) : ∃ ao cap, v = .slice ao n cap := by
  subst hn
  rcases h.2 with ⟨rfl, h0⟩ | ⟨g, cap, cur, rfl, _⟩
  · exact ⟨none, 0, by rw [h0]⟩
  · exact ⟨_, cap, rfl⟩
theorem OwnG.lies {w : World} {base : Nat} {e : TypeId} {v : Value} {L : List α} (he : ∀ x, (enc x).length = m) (h : OwnG m enc w base e v L) : LiesG m enc w v L := by
  rcases h.2 with ⟨rfl, h0⟩ | ⟨g, cap, cur, rfl, h3⟩
  · exact ⟨none, 0, by rw [h0], ⟨fun _ => rfl, by omega⟩, fun i hi => by omega⟩
  · refine ⟨_, cap, rfl, ⟨nofun, h3.2.2.1⟩, fun i hi => ⟨g, 0, rfl, fun j u hj => ?_⟩⟩
    have hjm : j < m := by
      have := (List.getElem?_eq_some_iff.1 hj).1
      rwa [he] at this
    have hg := gcells_get he L i hi j hjm
    rw [hj] at hg
    have hadd : ∀ j, (⟨g, 0, none⟩ : Addr).add j = ⟨g, 0 + j, none⟩ := fun j => by unfold Addr.add; split <;> simp_all
    rw [Nat.add_assoc, ← hadd]
    exact World.ownsRow.cells h (g := g) rfl _ _ hg
theorem OwnG.lit (he : ∀ x, (enc x).length = m) (w : World) {base H : Nat} {e : TypeId} {C : Array Value} (L : List α) (hC : C.toList = gcells enc L) (hb : base ≤ w.heap.size) (hH : w.heap.size = H) (hlen : L.length ≤ 1000000000) :
    OwnG m enc (w.alloc (.cells C e)) base e (.slice (some ⟨H, 0, none⟩) L.length L.length) L := by
  subst hH
  have hs : C.size = L.length * m := by rw [← Array.length_toList, hC, gcells_length he]
  have := World.ownsRow_lit (base := base) (e := e) (size := m) w C L.length hb (by unfold maxLen; omega) hs
  rw [hC] at this
  exact this
theorem LiesG.cells (he : ∀ x, (enc x).length = m) (hm : 0 < m) {w : World} {b off : Nat} {n cap : Nat} {L : List α} (h : LiesG m enc w (.slice (some ⟨b, off, none⟩) n cap) L) : ∀ j u, (gcells enc L)[j]? = some u → w.cell? ((⟨b, off, none⟩ : Addr).add j) = some u := by
  obtain ⟨ao, cap', hv, _, hc⟩ := h
  simp only [Value.slice.injEq] at hv
  obtain ⟨rfl, rfl, rfl⟩ := hv
  intro j u hj
  have hlt : j < L.length * m := by
    have := (List.getElem?_eq_some_iff.1 hj).1
    rwa [gcells_length he] at this
  have hi : j / m < L.length := Nat.div_lt_of_lt_mul (by rw [Nat.mul_comm]; exact hlt)
  obtain ⟨b', off', hb, h1⟩ := hc (j / m) hi
  simp only [Option.some.injEq, Addr.mk.injEq, and_true] at hb
  obtain ⟨rfl, rfl⟩ := hb
  have hjm : j % m < m := Nat.mod_lt _ hm
  have hg := gcells_get he L (j / m) hi (j % m) hjm
  have hdm : j / m * m + j % m = j := Nat.div_add_mod' j m
  rw [hdm, hj] at hg
  have hadd : (⟨b, off, none⟩ : Addr).add j = ⟨b, off + j, none⟩ := by unfold Addr.add; split <;> simp_all
  have := h1 (j % m) u hg.symm
  rw [Nat.add_assoc, hdm] at this
  rw [hadd]
  exact this
theorem gcells_one (h1 : ∀ x, ∀ u ∈ enc x, u.oneCell' = true) {u : Value} {L : List α} (h : u ∈ gcells enc L) : u.oneCell' = true := by
  simp only [gcells, List.mem_flatMap] at h
  obtain ⟨x, _, hx⟩ := h
  exact h1 x u hx

/-- append(v, u...): u lies in memory. -/
theorem wp_catG (he : ∀ x, (enc x).length = m) (hm : 0 < m) (h1c : ∀ x, ∀ u ∈ enc x, u.oneCell' = true) {o : Oper} {a : Act} {K : Act → World → Prop} {Q : Exit → Act → World → Prop} {w : World} {base : Nat} {t e : TypeId} {z : Value} {bytes : Nat} {v u : Value} {L M : List α}
    (hinfo : (Tryz.prog.info? e).map (fun i => (i.zero, i.size, i.bytes)) = some (some z, m, bytes)) (ht : Tryz.prog.underlying t = some (.slice e)) (hzc : z.cells.size = m) (hby : bytes ≤ 4096)
    (s x : Operand) (ho : o.op = .call { callee := .builtin .append, args := #[s, x], argTypes := #[t, t] })
    (hs : a.eval s = v) (hx : a.eval x = u) (hown : OwnG m enc w base e v L) (hsrc : LiesG m enc w u M) (hb : base ≤ w.heap.size) (hlen : L.length + M.length ≤ 10000000)
    (h : ∀ v' w', OwnG m enc w' base e v' (L ++ M) → Below base w w' → w.grownBy w' v.ownBlock → K (a.put o.dst v') w') :
    Oper.wp Tryz.prog o a w K Q := by
  obtain ⟨i0, hi, hz0, hz1, hz2⟩ := info_parts hinfo
  have hsrc' := hsrc
  obtain ⟨ao, cap, rfl, hn, hc⟩ := hsrc
  cases ao with
  | none =>
    have hm : M = [] := by
      cases M with
      | nil => rfl
      | cons f m => obtain ⟨b, off, he, _⟩ := hc 0 (by simp); cases he
    subst hm
    rw [hn.1 rfl] at hx
    have hrun := run_append_owned_none (P := Tryz.prog) (w := w) base t o.type e i0 m ht hi v L.length (gcells enc L) hown
    unfold Oper.wp
    simp only [List.length_nil] at hx
    simp [execOp, ho, resolve, invoke, builtin, hs, hx, hrun, Result.andThen]
    exact h v w (by rw [List.append_nil]; exact hown) (Below.refl _ _) ⟨rfl, rfl, rfl, Nat.le_refl _, fun _ _ _ => rfl⟩
  | some ad =>
    refine wp_append_own _ s x t ho base e i0 z m bytes ht hi hz0 hz1 hz2 hzc hm v L.length (gcells enc L) hs hown ad M.length cap (gcells enc M) hx (gcells_length he M) ?_ (fun u hu => gcells_one h1c hu) ?_ ?_ hb ?_
    · intro j y hj
      have hlt : j < M.length * m := by
        have := (List.getElem?_eq_some_iff.1 hj).1
        rwa [gcells_length he] at this
      have hpos : 0 < M.length := by
        rcases Nat.eq_zero_or_pos M.length with h0 | h0
        · rw [h0, Nat.zero_mul] at hlt; omega
        · exact h0
      obtain ⟨b, off, had, _⟩ := hc 0 hpos
      simp only [Option.some.injEq] at had
      subst had
      exact hsrc'.cells he hm j y hj
    · unfold maxLen; omega
    · exact Nat.le_trans (Nat.mul_le_mul hlen hby) (by decide)
    · intro v' w' h1 h2 _
      refine h v' w' ?_ (Below.grown (Below.refl _ _) h2 hb fun k hk => (World.ownsRow.lt hown k hk).1) h2
      unfold OwnG
      rw [gcells_append, List.length_append]
      exact h1
theorem wpList_catG (he : ∀ x, (enc x).length = m) (hm : 0 < m) (h1c : ∀ x, ∀ u ∈ enc x, u.oneCell' = true) {ops : Array Oper} {rest : List Oper} {o : Oper} {a : Act} {Q : Exit → Act → World → Prop} {w : World} {base : Nat} {t e : TypeId} {z : Value} {bytes : Nat} {v u : Value} {L M : List α}
    (hinfo : (Tryz.prog.info? e).map (fun i => (i.zero, i.size, i.bytes)) = some (some z, m, bytes)) (ht : Tryz.prog.underlying t = some (.slice e)) (hzc : z.cells.size = m) (hby : bytes ≤ 4096)
    (s x : Operand) (hgd : o.guard = none) (ho : o.op = .call { callee := .builtin .append, args := #[s, x], argTypes := #[t, t] })
    (hs : a.eval s = v) (hx : a.eval x = u) (hown : OwnG m enc w base e v L) (hsrc : LiesG m enc w u M) (hb : base ≤ w.heap.size) (hlen : L.length + M.length ≤ 10000000)
    (h : ∀ v' w', OwnG m enc w' base e v' (L ++ M) → Below base w w' → w.grownBy w' v.ownBlock → wpList Tryz.prog ops Q rest (a.put o.dst v') w') :
    wpList Tryz.prog ops Q (o :: rest) a w :=
  wpList_plain hgd fun _ hK => wp_catG he hm h1c hinfo ht hzc hby s x ho hs hx hown hsrc hb hlen fun v' w' h1 h2 h3 => hK _ _ (h v' w' h1 h2 h3)
/-- One append of a struct that lies in a new block. -/
theorem wpList_pushG (he : ∀ x, (enc x).length = m) (hm : 0 < m) (h1c : ∀ x, ∀ u ∈ enc x, u.oneCell' = true) {ops : Array Oper} {rest : List Oper} {o : Oper} {a : Act} {Q : Exit → Act → World → Prop} {w : World} {base H : Nat} {t e : TypeId} {z : Value} {bytes : Nat} {v : Value} {L : List α} {C : Array Value} (y : α)
    (hinfo : (Tryz.prog.info? e).map (fun i => (i.zero, i.size, i.bytes)) = some (some z, m, bytes)) (ht : Tryz.prog.underlying t = some (.slice e)) (hzc : z.cells.size = m) (hby : bytes ≤ 4096)
    (s x : Operand) (hgd : o.guard = none) (ho : o.op = .call { callee := .builtin .append, args := #[s, x], argTypes := #[t, t] })
    (hs : a.eval s = v) (hx : a.eval x = .slice (some ⟨H, 0, none⟩) 1 1) (hH : w.heap.size = H) (hC : C.toList = enc y) (hown : OwnG m enc w base e v L) (hb : base ≤ w.heap.size) (hlen : L.length + 1 ≤ 10000000)
    (h : ∀ v' w', OwnG m enc w' base e v' (L ++ [y]) → Below base w w' → wpList Tryz.prog ops Q rest (a.put o.dst v') w') :
    wpList Tryz.prog ops Q (o :: rest) a (w.alloc (.cells C e)) := by
  refine wpList_catG he hm h1c (L := L) (M := [y]) hinfo ht hzc hby s x hgd ho hs hx (hown.alloc _) (OwnG.lies he (OwnG.lit he w [y] (by rw [hC]; simp [gcells]) (base := base) hb hH (by simp))) (by simp; omega) hlen fun v' w' h1 h2 _ => h v' w' h1 (((Below.refl _ _).alloc hb _).trans h2)
end

end Go.Proofs.YtailfiofcicloaaGreatDoor
