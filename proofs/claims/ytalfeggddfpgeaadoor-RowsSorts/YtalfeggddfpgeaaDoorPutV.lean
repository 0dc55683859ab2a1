/- Contract of putValue: the bytes of a right value. -/
import Derived.Test.YtalfeggddfpgeaaDoorPutInt
namespace Go.Proofs.YtalfeggddfpgeaaDoor
open Go.RowKit Go.Sort

/-- A value: its type, its number, its text. -/
abbrev Ent : Type := Int × Int × ByteArray
/-- The bytes of a right value. -/
def encV (e : Ent) : List UInt8 :=
  if e.1 = 1 then [UInt8.ofNat (2 + e.2.1.toNat)] else if e.1 = 2 then 4 :: encI e.2.1 else if e.1 = 3 then 5 :: (esc e.2.2.data.toList ++ [0, 0]) else [1]

set_option maxHeartbeats 2000000 in
theorem putValue_any (w : World) (base : Nat) (v : Value) (bs : List UInt8) (t n : Int) (s : ByteArray) (hown : OwnB w base v bs) (hb : base ≤ w.heap.size) (hlen : bs.length ≤ 499000)
    (hn : inR n) (hs : s.size ≤ 1100) (ht : t = 0 ∨ (t = 1 ∧ (n = 0 ∨ n = 1)) ∨ t = 2 ∨ t = 3) :
    Calls Tryd.prog 45 #[v, V t n s] w fun e w' => ∃ v', e = .returned v' ∧ OwnB w' base v' (bs ++ encV (t, n, s)) ∧ Below base w w' := by
  have hown1 := hown.alloc (.cells #[.int .i64 t, .int .i64 n, .string s] 34)
  have hbel1 : Below base w (w.alloc (.cells #[.int .i64 t, .int .i64 n, .string s] 34)) := (Below.refl _ _).alloc hb _
  have hne : some w.heap.size ≠ v.ownBlock := fun h => by have := (World.ownsRow.lt hown _ h.symm).2; omega
  have pa := At.alloc w t n s
  rcases ht with rfl | ⟨rfl, hn1⟩ | rfl | rfl
  · go_enter Tryd.func45, Tryd.ntmps45
    go_wp2_with (at_builtin; refine wpList_push (.tmp 32) (.tmp 33) rfl rfl rfl hown1 (by simp; omega) [1] rfl rfl (by first | rfl | simp) (by simp; omega) ?_; intro v1 w1 hr1 hb1)
    go_ret
    exact ⟨_, rfl, by simpa [encV] using hr1, hbel1.trans hb1⟩
  · rcases hn1 with rfl | rfl
    · go_enter Tryd.func45, Tryd.ntmps45
      go_wp2_with (at_builtin; refine wpList_push (.tmp 9) (.tmp 14) rfl rfl rfl hown1 (by simp; omega) [2] rfl rfl (by first | rfl | simp) (by simp; omega) ?_; intro v1 w1 hr1 hb1)
      go_ret
      exact ⟨_, rfl, by simpa [encV] using hr1, hbel1.trans hb1⟩
    · go_enter Tryd.func45, Tryd.ntmps45
      go_wp2_with (at_builtin; refine wpList_push (.tmp 9) (.tmp 14) rfl rfl rfl hown1 (by simp; omega) [3] rfl rfl (by first | rfl | simp) (by simp; omega) ?_; intro v1 w1 hr1 hb1)
      go_ret
      exact ⟨_, rfl, by simpa [encV] using hr1, hbel1.trans hb1⟩
  · go_enter Tryd.func45, Tryd.ntmps45
    go_wp2
    obtain ⟨W, hW⟩ : ∃ W, W = w.alloc (.cells #[.int .i64 2, .int .i64 n, .string s] 34) := ⟨_, rfl⟩
    have hq : w.heap.size < W.heap.size := by rw [hW]; simp
    rw [← hW] at hown1 hbel1 pa ⊢
    clear hW
    generalize hqq : w.heap.size = q at *
    have hbq : base ≤ W.heap.size := by omega
    have c1 := pa.2.1
    go_region_law (first
      | (refine step_push (.tmp 18) (.tmp 19) rfl rfl rfl (hown1.alloc _) (by simp; omega) [4] rfl (heap_alloc_new W _) rfl (by simp; omega) ?_; intro v1 w1 hr1 hb1 hg1; have c2 := ((pa.alloc' _).drew.grown hg1 hne).2.1; have hsz1 := hg1.size; simp at hsz1)
      | (refine step_call 51 #[v1, .int .i64 n] rfl (by go_simp) ?_; refine (putInt_any _ base _ _ n hr1 (by omega) (by simp; omega) hn).mono ?_; rintro e w2 ⟨v2, rfl, hr2, hb2⟩; refine ⟨_, rfl, ?_⟩))
    all_goals
      go_wp2
      go_ret
      exact ⟨v2, rfl, by simpa [encV] using hr2, ((hbel1.trans ((Below.refl base W).alloc hbq _)).drew.trans hb1).trans hb2⟩
  · go_enter Tryd.func45, Tryd.ntmps45
    go_wp2
    obtain ⟨W, hW⟩ : ∃ W, W = w.alloc (.cells #[.int .i64 3, .int .i64 n, .string s] 34) := ⟨_, rfl⟩
    have hq : w.heap.size < W.heap.size := by rw [hW]; simp
    rw [← hW] at hown1 hbel1 pa ⊢
    clear hW
    generalize hqq : w.heap.size = q at *
    have hbq : base ≤ W.heap.size := by omega
    have c1 := pa.2.2
    go_region_law (first
      | (refine step_push (.tmp 26) (.tmp 27) rfl rfl rfl (hown1.alloc _) (by simp; omega) [5] rfl (heap_alloc_new W _) rfl (by simp; omega) ?_; intro v1 w1 hr1 hb1 hg1; have c2 := ((pa.alloc' _).drew.grown hg1 hne).2.2; have hsz1 := hg1.size; simp at hsz1)
      | (refine step_call 52 #[v1, .string s] rfl (by go_simp) ?_; refine (putText_any _ base _ _ s hr1 (by omega) (by simp; omega) hs).mono ?_; rintro e w2 ⟨v2, rfl, hr2, hb2⟩; refine ⟨_, rfl, ?_⟩))
    all_goals
      go_wp2
      go_ret
      exact ⟨v2, rfl, by simpa [encV] using hr2, ((hbel1.trans ((Below.refl base W).alloc hbq _)).drew.trans hb1).trans hb2⟩

end Go.Proofs.YtalfeggddfpgeaaDoor
