/- Distinct, Except and Intersect. -/
import Derived.Test.YtafbgmpbfonljaaDoorRwOnce
import Derived.Test.YtafbgmpbfonljaaDoorRwRef
namespace Go.Proofs.YtafbgmpbfonljaaDoor
open Go.RowKit Go.Sort

theorem entered {f : FuncId} {fn : Func} (hf : Tryd.prog.funcs[f]? = some fn) (hb : fn.body.isSome = true) (hname : (fn.name == "runtime.NumGoroutine") = false) (a : Array Value) (w : World) :
    (callFunc f a).run Tryd.prog w = .ok (.enter f a) w := by
  have h1 : fn.name ≠ "runtime.NumGoroutine" := by simpa using hname
  have h2 : fn.body ≠ none := by intro h; rw [h] at hb; cases hb
  simp [callFunc, hf, h1, h2]
theorem yes_any (s : ByteArray) (w : World) : Calls Tryd.prog 31 #[.string s] w fun e w' => e = .returned (.bool true) ∧ Below w.heap.size w w' := by
  go_enter Tryd.func31, Tryd.ntmps31
  go_wp2
  go_ret
  exact ⟨rfl, Below.refl _ _⟩

theorem distinct_any (w : World) (v : Value) (L : List Row) (hl : LiesR w v L) (hr : RightL L) (hlen : L.length ≤ 1000) :
    Calls Tryd.prog 12 #[v] w fun e w' => ∃ u, e = .returned u ∧ LiesR w' u (distR L) ∧ Below w.heap.size w w' := by
  have h := once_any w v L 31 #[] (fun _ => true) hl hr hlen (entered Tryd.func31 (by kernel_rfl) (by kernel_rfl)) (fun w' _ r _ => yes_any _ _)
  go_enter Tryd.func12, Tryd.ntmps12
  go_wp2_with (go_at_call 30; refine h.mono ?_; rintro e w1 ⟨u, rfl, hu, hb1⟩)
  go_ret
  rw [List.filter_eq_self.2 (fun _ _ => rfl)] at hu
  exact ⟨_, rfl, hu, hb1⟩

theorem len_plc {B : List Row} (hB : RightL B) {r : Row} (hr : RightR r) : (((getS (shP (enumR B B.length)) (encS r)).length : Int) == 0) = (memB B r == false) := by
  rw [getS_shP _ (enumR_right hB) _ hr]
  have h := plc_nil_iff (enumR B B.length) r
  have e : (∀ x ∈ enumR B B.length, x.2 ≠ r) ↔ ¬ r ∈ B := by
    have h2 := enumR_rows (L := B) (Nat.le_refl B.length)
    rw [List.take_length] at h2
    constructor
    · intro hx hm
      rw [← h2] at hm
      obtain ⟨x, hx', rfl⟩ := List.mem_map.1 hm
      exact hx x hx' rfl
    · rintro hn x hx rfl
      exact hn (by rw [← h2]; exact List.mem_map.2 ⟨x, hx, rfl⟩)
  rw [e, ← memB_false] at h
  cases hb : memB B r
  · rw [h.2 hb]; rfl
  · have : plc (enumR B B.length) r ≠ [] := fun c => by rw [h.1 c] at hb; cases hb
    cases hp : plc (enumR B B.length) r with
    | nil => exact absurd hp this
    | cons a l => simp; omega

set_option maxHeartbeats 1000000 in
theorem lacks_any (w : World) (base pb box : Nat) (S : Sh) (k : ByteArray) (h : ShelfAt w base pb S) (hbx : w.cell? ⟨box, 0, none⟩ = some (.pointer (some ⟨pb, 0, none⟩))) (hk : k.size ≤ maxLen) :
    Calls Tryd.prog 34 #[.string k, .pointer (some ⟨box, 0, none⟩)] w fun e w' => e = .returned (.bool (((getS S k).length : Int) == 0)) ∧ Below w.heap.size w w' := by
  go_enter Tryd.func34, Tryd.ntmps34
  go_wp2_with (go_at_call 35; refine (get_any _ _ _ _ _ h hk).mono ?_; rintro e w1 ⟨u, rfl, hu, rfl⟩; obtain ⟨uo, uc, rfl, _, _⟩ := hu)
  go_ret
  exact ⟨rfl, Below.refl _ _⟩
set_option maxHeartbeats 1000000 in
theorem hasit_any (w : World) (base pb box : Nat) (S : Sh) (k : ByteArray) (h : ShelfAt w base pb S) (hbx : w.cell? ⟨box, 0, none⟩ = some (.pointer (some ⟨pb, 0, none⟩))) (hk : k.size ≤ maxLen) :
    Calls Tryd.prog 36 #[.string k, .pointer (some ⟨box, 0, none⟩)] w fun e w' => e = .returned (.bool (!(((getS S k).length : Int) == 0))) ∧ Below w.heap.size w w' := by
  go_enter Tryd.func36, Tryd.ntmps36
  go_wp2_with (go_at_call 35; refine (get_any _ _ _ _ _ h hk).mono ?_; rintro e w1 ⟨u, rfl, hu, rfl⟩; obtain ⟨uo, uc, rfl, _, _⟩ := hu)
  go_ret
  refine ⟨ret_bool ?_, Below.refl _ _⟩
  cases hl : (getS S k).length with
  | zero => rfl
  | succ n => simp; omega

set_option maxHeartbeats 1000000 in
theorem except_any (w : World) (v u : Value) (A B : List Row) (hA : LiesR w v A) (hB : LiesR w u B) (rA : RightL A) (rB : RightL B) (la : A.length ≤ 1000) (lb : B.length ≤ 1000) :
    Calls Tryd.prog 15 #[v, u] w fun e w' => ∃ x, e = .returned x ∧ LiesR w' x (partR A B false) ∧ Below w.heap.size w w' := by
  go_enter Tryd.func15, Tryd.ntmps15
  go_wp2_with fail
  refine (shelved_any _ _ B hB rB lb).mono ?_
  rintro e w1 ⟨pb, rfl, hs1, hb1⟩
  go_wp2_with fail
  have hb2 : Below w.heap.size w (w1.alloc (.cells #[.pointer (some ⟨pb, 0, none⟩)] 53)) := hb1.alloc hb1.size _
  have hs2 : ShelfAt (w1.alloc (.cells #[.pointer (some ⟨pb, 0, none⟩)] 53)) w.heap.size pb (shP (enumR B B.length)) := hs1.keep ((Below.refl _ _).alloc (Nat.le_refl _) _)
  have hx2 : (w1.alloc (.cells #[.pointer (some ⟨pb, 0, none⟩)] 53)).cell? ⟨w1.heap.size, 0, none⟩ = some (.pointer (some ⟨pb, 0, none⟩)) := by simp [go_sem]
  refine (once_any _ _ A 34 #[.pointer (some ⟨w1.heap.size, 0, none⟩)] (fun r => memB B r == false) (hA.keep hb2) rA la (entered Tryd.func34 (by kernel_rfl) (by kernel_rfl)) (fun w' hw' r hr => by
    have := lacks_any w' _ pb w1.heap.size _ (encS r) (hs2.keep hw') (cell_keep hx2 hw') (encS_size (rA r hr).1 (by have := (rA r hr).2; omega))
    rw [len_plc rB (rA r hr).1] at this
    exact this)).mono ?_
  rintro e w3 ⟨x, rfl, hx, hb3⟩
  go_wp2_with fail
  go_ret
  exact ⟨_, rfl, hx, btrans hb2 hb3⟩

set_option maxHeartbeats 1000000 in
theorem intersect_any (w : World) (v u : Value) (A B : List Row) (hA : LiesR w v A) (hB : LiesR w u B) (rA : RightL A) (rB : RightL B) (la : A.length ≤ 1000) (lb : B.length ≤ 1000) :
    Calls Tryd.prog 17 #[v, u] w fun e w' => ∃ x, e = .returned x ∧ LiesR w' x (partR A B true) ∧ Below w.heap.size w w' := by
  go_enter Tryd.func17, Tryd.ntmps17
  go_wp2_with fail
  refine (shelved_any _ _ B hB rB lb).mono ?_
  rintro e w1 ⟨pb, rfl, hs1, hb1⟩
  go_wp2_with fail
  have hb2 : Below w.heap.size w (w1.alloc (.cells #[.pointer (some ⟨pb, 0, none⟩)] 53)) := hb1.alloc hb1.size _
  have hs2 : ShelfAt (w1.alloc (.cells #[.pointer (some ⟨pb, 0, none⟩)] 53)) w.heap.size pb (shP (enumR B B.length)) := hs1.keep ((Below.refl _ _).alloc (Nat.le_refl _) _)
  have hx2 : (w1.alloc (.cells #[.pointer (some ⟨pb, 0, none⟩)] 53)).cell? ⟨w1.heap.size, 0, none⟩ = some (.pointer (some ⟨pb, 0, none⟩)) := by simp [go_sem]
  refine (once_any _ _ A 36 #[.pointer (some ⟨w1.heap.size, 0, none⟩)] (fun r => memB B r == true) (hA.keep hb2) rA la (entered Tryd.func36 (by kernel_rfl) (by kernel_rfl)) (fun w' hw' r hr => by
    have := hasit_any w' _ pb w1.heap.size _ (encS r) (hs2.keep hw') (cell_keep hx2 hw') (encS_size (rA r hr).1 (by have := (rA r hr).2; omega))
    rw [len_plc rB (rA r hr).1] at this
    have e : (!(memB B r == false)) = (memB B r == true) := by cases memB B r <;> rfl
    rw [e] at this
    exact this)).mono ?_
  rintro e w3 ⟨x, rfl, hx, hb3⟩
  go_wp2_with fail
  go_ret
  exact ⟨_, rfl, hx, btrans hb2 hb3⟩

end Go.Proofs.YtafbgmpbfonljaaDoor
