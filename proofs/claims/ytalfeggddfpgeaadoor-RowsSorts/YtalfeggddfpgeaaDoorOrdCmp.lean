/- Contracts of cmp.Compare and cmp.Or as Order uses them, of Order itself, and of Less. -/
import Derived.Test.YtalfeggddfpgeaaDoorLogic
import Derived.Test.YtalfeggddfpgeaaDoorGrow
import Derived.Test.YtalfeggddfpgeaaDoorOrdPlain
import Derived.LoopN
import Derived.Deep.Light
namespace Go.Proofs.YtalfeggddfpgeaaDoor
open Go.RowKit Go.Sort

abbrev ptr (q : Nat) : Value := .pointer (some ⟨q, 0, none⟩)

theorem cmpI_any (x y : Int) (w : World) : Calls Tryd.prog 42 #[.int .i64 x, .int .i64 y] w fun e w' => e = .returned (.int .i64 (ordI x y)) ∧ w' = w := by
  by_cases h1 : x < y
  · have e : ordI x y = -1 := by simp [ordI, h1]
    have E : Hid (_ = _) := e
    clear e
    go_enter Tryd.func42, Tryd.ntmps42
    go_wp2
    go_ret
    exact ⟨ret_int E.out.symm, rfl⟩
  · by_cases h2 : y < x
    · have e : ordI x y = 1 := by simp [ordI, h1, h2]
      have E : Hid (_ = _) := e
      clear e
      go_enter Tryd.func42, Tryd.ntmps42
      go_wp2
      go_ret
      exact ⟨ret_int E.out.symm, rfl⟩
    · have e : ordI x y = 0 := by simp [ordI, h1, h2]
      have E : Hid (_ = _) := e
      clear e
      go_enter Tryd.func42, Tryd.ntmps42
      go_wp2
      go_ret
      exact ⟨ret_int E.out.symm, rfl⟩

theorem cmpS_any (x y : ByteArray) (w : World) : Calls Tryd.prog 43 #[.string x, .string y] w fun e w' => e = .returned (.int .i64 (ordL x.toList y.toList)) ∧ w' = w := by
  cases h1 : Op.bytesLess x.toList y.toList
  · cases h2 : (x.toList == y.toList)
    · have e : ordL x.toList y.toList = 1 := by
        have h3 : Op.bytesLess y.toList x.toList = true := by
          cases h4 : Op.bytesLess y.toList x.toList
          · rw [bl_tri _ _ h1 h4] at h2; simp at h2
          · rfl
        simp [ordL, h1, h3]
      have E : Hid (_ = _) := e
      clear e
      go_enter Tryd.func43, Tryd.ntmps43
      go_wp2
      go_ret
      exact ⟨ret_int E.out.symm, rfl⟩
    · have e : ordL x.toList y.toList = 0 := by
        have h3 : x.toList = y.toList := by simpa using h2
        rw [h3]; simp [ordL, bl_irrefl]
      have E : Hid (_ = _) := e
      clear e
      go_enter Tryd.func43, Tryd.ntmps43
      go_wp2
      go_ret
      exact ⟨ret_int E.out.symm, rfl⟩
  · have e : ordL x.toList y.toList = -1 := by simp [ordL, h1]
    have E : Hid (_ = _) := e
    clear e
    go_enter Tryd.func43, Tryd.ntmps43
    go_wp2
    go_ret
    exact ⟨ret_int E.out.symm, rfl⟩

/-- The first of three that is not 0. -/
def or3i (p r u : Int) : Int := if p = 0 then (if r = 0 then u else r) else p
theorem or_ints (p r u : Int) (q : Nat) (w : World) (h : w.heap[q]? = some (.cells #[.int .i64 p, .int .i64 r, .int .i64 u] 3)) :
    Calls Tryd.prog 41 #[.slice (some ⟨q, 0, none⟩) 3 3] w fun e w' => e = .returned (.int .i64 (or3i p r u)) ∧ w' = w := by
  have h0 : w.cell? ⟨q, 0, none⟩ = some (.int .i64 p) := by simp [World.cell?, h]
  have h1 : w.cell? ⟨q, 1, none⟩ = some (.int .i64 r) := by simp [World.cell?, h]
  have h2 : w.cell? ⟨q, 2, none⟩ = some (.int .i64 u) := by simp [World.cell?, h]
  clear h
  by_cases c0 : p = 0
  · have b0 : (p != 0) = false := by simp [c0]
    by_cases c1 : r = 0
    · have b1 : (r != 0) = false := by simp [c1]
      by_cases c2 : u = 0
      · have b2 : (u != 0) = false := by simp [c2]
        have e : or3i p r u = 0 := by simp [or3i, c0, c1, c2]
        clear c0 c1 c2
        have E : Hid (_ = _) := e
        clear e
        go_enter Tryd.func41, Tryd.ntmps41
        go_wp2_with fail
        refine wp_loop_rounds 4 ?_
        rw [rounds_succ]
        go_wp2_with fail
        rw [rounds_succ]
        go_wp2_with fail
        rw [rounds_succ]
        go_wp2_with fail
        rw [rounds_succ]
        go_wp2_with fail
        go_ret
        exact ⟨ret_int E.out.symm, rfl⟩
      · have b2 : (u != 0) = true := by simp [c2]
        have e : or3i p r u = u := by simp [or3i, c0, c1]
        clear c0 c1 c2
        have E : Hid (_ = _) := e
        clear e
        go_enter Tryd.func41, Tryd.ntmps41
        go_wp2_with fail
        refine wp_loop_rounds 4 ?_
        rw [rounds_succ]
        go_wp2_with fail
        rw [rounds_succ]
        go_wp2_with fail
        rw [rounds_succ]
        go_wp2_with fail
        go_ret
        exact ⟨ret_int E.out.symm, rfl⟩
    · have b1 : (r != 0) = true := by simp [c1]
      have e : or3i p r u = r := by simp [or3i, c0, c1]
      clear c0 c1
      have E : Hid (_ = _) := e
      clear e
      go_enter Tryd.func41, Tryd.ntmps41
      go_wp2_with fail
      refine wp_loop_rounds 4 ?_
      rw [rounds_succ]
      go_wp2_with fail
      rw [rounds_succ]
      go_wp2_with fail
      go_ret
      exact ⟨ret_int E.out.symm, rfl⟩
  · have b0 : (p != 0) = true := by simp [c0]
    have e : or3i p r u = p := by simp [or3i, c0]
    clear c0
    have E : Hid (_ = _) := e
    clear e
    go_enter Tryd.func41, Tryd.ntmps41
    go_wp2_with fail
    refine wp_loop_rounds 4 ?_
    rw [rounds_succ]
    go_wp2_with fail
    go_ret
    exact ⟨ret_int E.out.symm, rfl⟩

theorem ordV_or (t n : Int) (s : ByteArray) (t' n' : Int) (s' : ByteArray) : ordV t n s t' n' s' = or3i (ordI t t') (ordI n n') (ordL s.toList s'.toList) := rfl

set_option maxRecDepth 100000 in
set_option maxHeartbeats 1000000 in
theorem order_any (t n : Int) (s : ByteArray) (t' n' : Int) (s' : ByteArray) (w : World) :
    Calls Tryd.prog 37 #[V t n s, V t' n' s'] w fun e w' => e = .returned (.int .i64 (ordV t n s t' n' s')) ∧ Below w.heap.size w w' := by
  rw [ordV_or]
  have ca := ((At.alloc w t n s).keep ((Below.refl _ _).alloc (Nat.le_refl _) (.cells #[.int .i64 t', .int .i64 n', .string s'] 34))).cells
  have cb : ∀ d os, _ := (show At ((w.alloc (.cells #[.int .i64 t, .int .i64 n, .string s] 34)).alloc (.cells #[.int .i64 t', .int .i64 n', .string s'] 34)) (w.heap.size + 1) t' n' s' by simpa using At.alloc (w.alloc (.cells #[.int .i64 t, .int .i64 n, .string s] 34)) t' n' s').cells
  go_enter Tryd.func37, Tryd.ntmps37
  go_wp2_with fail
  refine wp_region_grow [0, 1, 2, 3, 4, 5, 6, 7, 8, 9, 10, 11, 12, 13, 14] [15, 16, 17] (by kernel_rfl) (by kernel_rfl) ?_
  repeat (refine wpV_step rfl (fun K hK => ?_); simp only [Soft, softUpon]; go_simp; first | (refine hK _ ?_; clear hK K) | (apply Exists.intro; refine ⟨fun _ => ?_, hK _ ?_⟩; (first | (go_at_call 42; exact (cmpI_any _ _ _).mono fun _ _ h => ⟨h.1, h.2 ▸ Below.refl _ _⟩) | (go_at_call 43; exact (cmpS_any _ _ _).mono fun _ _ h => ⟨h.1, h.2 ▸ Below.refl _ _⟩)); clear hK K))
  refine wpV_nil ?_
  clear ca cb
  refine wpT_newAs (fun q => .slice (some ⟨q, 0, none⟩) 3 3) (.cells #[.int .i64 (ordI t t'), .int .i64 (ordI n n'), .int .i64 (ordL s.toList s'.toList)] 3) rfl rfl (fun W => by go_simp) ?_
  intro q hq
  refine wpT_soft (.int .i64 (or3i (ordI t t') (ordI n n') (ordL s.toList s'.toList))) rfl rfl ?_ ?_
  · rintro W ⟨hW, hWq⟩
    simp only [softUpon]
    go_simp
    exact (or_ints _ _ _ q W hWq).mono fun _ _ h => ⟨h.1, h.2 ▸ Below.refl _ _⟩
  refine wpT_assign rfl rfl rfl ?_
  refine wpT_nil ?_
  rintro W ⟨hW, _⟩
  go_wp2
  go_ret
  exact ⟨rfl, bnew (bnew hW)⟩

end Go.Proofs.YtalfeggddfpgeaaDoor
