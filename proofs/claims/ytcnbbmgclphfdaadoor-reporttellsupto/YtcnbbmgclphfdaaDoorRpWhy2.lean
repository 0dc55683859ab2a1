/- Contract of the program's words of an error. -/
import Derived.Test.YtcnbbmgclphfdaaDoorRpWhy
import Derived.Laws.Tables
namespace Go.Proofs.YtcnbbmgclphfdaaDoor
open Go.RowKit Go.Sort

/-- An array that is written out, its cells by a name. -/
theorem wpList_buildC {ops : Array Oper} {rest : List Oper} {o : Oper} {a : Act} {w : World} {Q : Exit → Act → World → Prop} (cells : Array Value) (hg : o.guard = none) (t : TypeId) (parts : Array (Nat × Operand)) (ho : o.op = .build t parts)
    (hf : Tryd.prog.built t (parts.map fun (i, x) => (i, a.eval x)).toList = some cells)
    (h : wpList Tryd.prog ops Q rest (a.put o.dst (.agg cells)) w) : wpList Tryd.prog ops Q (o :: rest) a w :=
  wpList_build hg t parts ho (by rw [hf]; rfl) (by rw [hf]; exact h)
theorem setRow_alloc (w : World) (old cells : Array Value) (t : TypeId) : (w.alloc (.cells old t)).setRow w.heap.size cells = w.alloc (.cells cells t) := by
  unfold World.setRow World.alloc
  congr 1
  apply Array.ext
  · simp
  · intro i h1 h2
    simp only [Array.getElem_modify]
    split
    · rename_i hk; subst hk; simp
    · rename_i hk
      have : i < w.heap.size := by simp at h1; omega
      simp [Array.getElem_push, this]
theorem wpList_storeC {ops : Array Oper} {rest : List Oper} {o : Oper} {a : Act} {w : World} {Q : Exit → Act → World → Prop} (cells : Array Value) (hgd : o.guard = none) (ty : TypeId) (x y : Operand) (ho : o.op = .store ty x y)
    (t : TypeId) (old : Array Value) {H : Nat} (hx : a.eval x = .pointer (some ⟨H, 0, none⟩)) (hH : w.heap.size = H) (hy : a.eval y = .agg cells)
    (hi : (Tryd.prog.info? ty).map (·.size) = some cells.size)
    (hold : old.size = cells.size) (h1 : cells.all (·.oneCell') = true)
    (h : wpList Tryd.prog ops Q rest (a.put o.dst undef) (w.alloc (.cells cells t))) : wpList Tryd.prog ops Q (o :: rest) a (w.alloc (.cells old t)) := by
  subst hH
  exact wpList_store_row hgd ty x y ho w.heap.size cells hx hy t old (heap_alloc_new w _) hi hold h1 (by rw [setRow_alloc]; exact h)

/-- The cells of an array of texts. -/
def strC (L : List ByteArray) : Array Value := (L.map Value.string).toArray
theorem strC_lies (w : World) (L : List ByteArray) (t : TypeId) : LiesS (w.alloc (.cells (strC L) t)) (.slice (some ⟨w.heap.size, 0, none⟩) L.length L.length) L := by
  refine ⟨_, _, rfl, ⟨nofun, Nat.le_refl _⟩, fun i hi => ⟨w.heap.size, 0, rfl, ?_⟩⟩
  rw [cell_of_row _ w.heap.size (0 + i) (strC L) t (0, 0) (heap_alloc_new w _), Nat.zero_add]
  simp [strC, hi]

set_option maxHeartbeats 2000000 in
set_option maxRecDepth 100000 in
theorem why_any (w : World) (hG : Glob w) (n : Int) (h0 : -9223372036854775808 ≤ n) (h1 : n ≤ 9223372036854775807) : Calls Tryd.prog 19 #[.int .i64 n] w fun e w' => e = .returned (.string (whyS n)) ∧ Below w.heap.size w w' := by
  have hl := strC_lies w whyW 73
  go_enter Tryd.func19, Tryd.ntmps19
  go_wp2_with (first
    | (refine wpList_buildC (strC whyW) rfl 73 _ rfl (by kernel_rfl) ?_)
    | (refine wpList_storeC (strC whyW) rfl 73 _ _ rfl _ _ rfl (by simp) rfl (by kernel_rfl) (by kernel_rfl) (by kernel_rfl) ?_))
  have hbw : Below w.heap.size w (w.alloc (.cells (strC whyW) 73)) := (Below.refl _ _).alloc (Nat.le_refl _) _
  have hGW := hG.keep hbw
  obtain ⟨H, hH⟩ : ∃ H, H = w.heap.size := ⟨_, rfl⟩
  rw [← hH] at hl ⊢
  generalize w.alloc (.cells (strC whyW) 73) = W at hl hbw hGW ⊢
  have hal : Tryd.prog.arrayLen 73 = 19 := by kernel_rfl
  have hs := decB_size h0 h1
  have k1 : Hid (∀ d os, Calls Tryd.prog 30 #[.int .i64 n] (grow (redrawn W d) os) fun e w' => e = .returned (.string (decB n)) ∧ Below (grow (redrawn W d) os).heap.size (grow (redrawn W d) os) w') := fun d os => itoa_any _ (hGW.keep (below_regrown ..)) n h0 h1
  have k2 : Hid (∀ d os o, Calls Tryd.prog 37 #[.slice (some ⟨H, 0, none⟩) 19 19, .int .i64 n, .string o] (grow (redrawn W d) os) fun e w' => e = .returned (.string (wordS whyW n o)) ∧ Below (grow (redrawn W d) os).heap.size (grow (redrawn W d) os) w') := fun d os o => wordAt_any _ _ _ (hl.keep (below_regrown ..)) n o
  have HS : Hid (whyS n = wordS whyW n (⟨#[101, 114, 114, 111, 114, 32]⟩ ++ decB n)) := rfl
  clear hl hG hGW h0 h1 hH
  generalize decB n = D at *
  refine wp_region_quiet_below (by kernel_rfl) (by kernel_rfl) ?_
  repeat (first | go_big_quiet_step (first | exact Calls.regrown_of (k1.out _ _) | exact Calls.regrown_of (k2.out _ _ _)) | quiet_step (first | exact Calls.regrown_of (k1.out _ _) | exact Calls.regrown_of (k2.out _ _ _)))
  refine wpQuiet_nil ?_
  rintro _ ⟨⟨dq, osq⟩, rfl⟩
  have hb := below_regrown W dq osq
  generalize grow (redrawn W dq) osq = w1 at hb ⊢
  go_wp2_with fail
  go_ret
  exact ⟨by rw [HS.out]; rfl, btrans hbw hb⟩

/-- Where something may not flow. -/
def targetW : List ByteArray := [⟨#[]⟩, ⟨#[32, 112, 114, 105, 110, 116]⟩, ⟨#[32, 99, 111, 108, 117, 109, 110]⟩, ⟨#[32, 114, 111, 119, 115]⟩, ⟨#[32, 115, 97, 118, 101, 100]⟩, ⟨#[32, 105, 110, 112, 117, 116]⟩]
set_option maxHeartbeats 2000000 in
set_option maxRecDepth 100000 in
theorem target_any (w : World) (n : Int) : Calls Tryd.prog 38 #[.int .i64 n] w fun e w' => e = .returned (.string (wordS targetW n E0)) ∧ Below w.heap.size w w' := by
  have hl := strC_lies w targetW 82
  go_enter Tryd.func38, Tryd.ntmps38
  go_wp2_with (first
    | (refine wpList_buildC (strC targetW) rfl 82 _ rfl (by kernel_rfl) ?_)
    | (refine wpList_storeC (strC targetW) rfl 82 _ _ rfl _ _ rfl (by simp) rfl (by kernel_rfl) (by kernel_rfl) (by kernel_rfl) ?_))
  have hbw : Below w.heap.size w (w.alloc (.cells (strC targetW) 82)) := (Below.refl _ _).alloc (Nat.le_refl _) _
  generalize w.alloc (.cells (strC targetW) 82) = W at hl hbw ⊢
  refine (wordAt_any W _ _ hl n E0).mono ?_
  rintro e w1 ⟨rfl, b1⟩
  go_wp2_with fail
  go_ret
  exact ⟨rfl, btrans hbw b1⟩

end Go.Proofs.YtcnbbmgclphfdaaDoor
