/- joinedBy: the bytes of one value of a row. -/
import Derived.Test.YtafbgmpbfonljaaDoorRwJoin
namespace Go.Proofs.YtafbgmpbfonljaaDoor
open Go.RowKit Go.Sort

/-- The value by which a row is joined: there, and not null. -/
def jb (r : Row) (c : Int) : Option Ent := if 0 ≤ c ∧ c < r.length then (if isNull (r.getD c.toNat (0, 0, E0)).1 (r.getD c.toNat (0, 0, E0)).2.1 (r.getD c.toNat (0, 0, E0)).2.2 = true then none else some (r.getD c.toNat (0, 0, E0))) else none
def jkey (o : Option Ent) : ByteArray := match o with | none => E0 | some e => encS [e]
theorem right_one {r : Row} (h : RightR r) {e : Ent} (he : e ∈ r) : RightR [e] := by
  have hs := sound_of h.1 h.2 e he
  refine ⟨?_, fun x hx => by rw [List.mem_singleton.1 hx]; exact h.2 e he⟩
  unfold encErr
  have : rowErr [e] = 0 := by rw [rowErr, if_pos hs.1]; rfl
  rw [this]; simp
theorem jb_mem {r : Row} {c : Int} {e : Ent} (h : jb r c = some e) : e ∈ r := by
  unfold jb at h
  split at h
  · rename_i hc
    split at h
    · cases h
    · simp only [Option.some.injEq] at h
      have hl : c.toNat < r.length := by omega
      rw [← h, show r.getD c.toNat (0, 0, E0) = r[c.toNat] by simp [List.getD, hl]]
      exact List.getElem_mem hl
  · cases h

set_option maxHeartbeats 4000000 in
theorem joinedBy_any (w : World) (v : Value) (r : Row) (c : Int) (hv : Lies w v r) (hroom : ∃ ao m cap, v = .slice ao m cap ∧ m ≤ cap) (hr : RightR r) (hl : r.length ≤ 40) (hc : inR c) :
    Calls Tryd.prog 42 #[v, .int .i64 c] w fun e w' => e = .returned (.tuple #[.string (jkey (jb r c)), .bool (jb r c).isSome]) ∧ Below w.heap.size w w' := by
  obtain ⟨ao, cap, rfl, hcl⟩ := id hv
  obtain ⟨_, _, _, he, hcap⟩ := hroom
  simp only [Value.slice.injEq] at he
  obtain ⟨rfl, rfl, rfl⟩ := he
  unfold inR at hc
  by_cases h0 : c < 0
  · have hd : decide (c < 0) = true := by simpa using h0
    have HJ : Hid (jb r c = none) := by show _ = _; unfold jb; rw [if_neg (by omega)]
    clear hcl
    go_enter Tryd.func42, Tryd.ntmps42
    go_wp2_with fail
    refine wp_region_quiet_below (by kernel_rfl) (by kernel_rfl) ?_
    repeat (first | go_big_quiet_step (fail) | quiet_step (fail))
    refine wpQuiet_nil ?_
    rintro _ ⟨⟨dq, osq⟩, rfl⟩
    have hb := below_regrown w dq osq
    generalize grow (redrawn w dq) osq = w1 at hb ⊢
    go_wp2_with fail
    go_ret2
    exact ⟨by rw [HJ.out]; rfl, hb⟩
  · have hd : decide (c < 0) = false := by simpa using h0
    by_cases h1 : (r.length : Int) ≤ c
    · have hd1 : decide ((r.length : Int) ≤ c) = true := by simpa using h1
      have HJ : Hid (jb r c = none) := by show _ = _; unfold jb; rw [if_neg (by omega)]
      clear hcl
      go_enter Tryd.func42, Tryd.ntmps42
      go_wp2_with fail
      refine wp_region_quiet_below (by kernel_rfl) (by kernel_rfl) ?_
      repeat (first | go_big_quiet_step (fail) | quiet_step (fail))
      refine wpQuiet_nil ?_
      rintro _ ⟨⟨dq, osq⟩, rfl⟩
      have hb := below_regrown w dq osq
      generalize grow (redrawn w dq) osq = w1 at hb ⊢
      go_wp2_with fail
      go_ret2
      exact ⟨by rw [HJ.out]; rfl, hb⟩
    · have hd1 : decide ((r.length : Int) ≤ c) = false := by simpa using h1
      obtain ⟨k, rfl⟩ : ∃ k : Nat, c = k := ⟨c.toNat, by omega⟩
      have hk : k < r.length := by omega
      have hd2 : decide (r.length ≤ k) = false := by simp; omega
      have hmem : r[k] ∈ r := List.getElem_mem hk
      have HR1 : Aside (RightR [r[k]]) := right_one hr hmem
      have HJ : Hid (jb r k = if isNull r[k].1 r[k].2.1 r[k].2.2 = true then none else some r[k]) := by
        show _ = _; unfold jb; rw [if_pos (by omega)]; simp [List.getD, hk]
      obtain ⟨b, off, rfl, x1, x2, x3⟩ := hcl k hk
      have HL1 : Aside (∀ w', Below w.heap.size w w' → Lies w' (.slice (some ⟨b, off + k * 3, none⟩) 1 (cap - k)) [r[k]]) := fun w' hw => by
        refine ⟨_, cap - k, rfl, fun i hi => ⟨b, off + k * 3, rfl, ?_⟩⟩
        have hi0 : i = 0 := by simp at hi; omega
        subst hi0
        simpa using ⟨cell_keep x1 hw, cell_keep x2 hw, cell_keep x3 hw⟩
      clear hcl hmem
      generalize r[k] = en at HR1 HJ HL1 x1 x2 x3
      obtain ⟨t, n, s⟩ := en
      simp only at x1 x2 x3 HJ
      have xx1 : ∀ d os, (grow (redrawn w d) os).cell? ⟨b, off + k * 3, none⟩ = some (.int .i64 t) := fun d os => cell_regrown x1 d os
      have xx2 : ∀ d os, (grow (redrawn w d) os).cell? ⟨b, off + k * 3 + 1, none⟩ = some (.int .i64 n) := fun d os => cell_regrown x2 d os
      have xx3 : ∀ d os, (grow (redrawn w d) os).cell? ⟨b, off + k * 3 + 2, none⟩ = some (.string s) := fun d os => cell_regrown x3 d os
      have hve := run_veq
      have i0 : (0 : Int) ≤ (k : Int) := by omega
      have i1 : (k : Int) < (r.length : Int) := by omega
      go_enter Tryd.func42, Tryd.ntmps42
      go_wp2_with fail
      refine wp_region_quiet_below (by kernel_rfl) (by kernel_rfl) ?_
      repeat (first | go_big_quiet_step (exact Calls.regrown_of (null_any _)) | quiet_step (exact Calls.regrown_of (null_any _)))
      refine wpQuiet_nil ?_
      rintro _ ⟨⟨dq, osq⟩, rfl⟩
      have hb := below_regrown w dq osq
      generalize grow (redrawn w dq) osq = w1 at hb ⊢
      clear xx1 xx2 xx3 hve
      cases hz : veq t n s 0 0 E0
      · have HJ2 : Hid (jb r k = some (t, n, s)) := by show _ = _; rw [HJ.out, if_neg]; simp [isNull, hz]
        have i2 : (k : Int) + 1 ≤ (cap : Int) := by omega
        have i3 : (k : Int) ≤ (cap : Int) := by omega
        have i4 : ¬ cap = k := by omega
        have hw1 : IntKind.i64.wrap ((k : Int) + 1) = (k : Int) + 1 := by rw [IntKind.wrap_i64]; omega
        have e1 : k + 1 - k = 1 := by omega
        go_wp2_with fail
        refine (bytesOf_any _ _ _ (HL1.out w1 hb) HR1.out (by simp)).mono ?_
        rintro e w2 ⟨rfl, hb2⟩
        go_wp2_with fail
        go_ret2
        exact ⟨by rw [HJ2.out]; rfl, btrans hb hb2⟩
      · have HJ2 : Hid (jb r k = none) := by show _ = _; rw [HJ.out, if_pos]; simp [isNull, hz]
        go_wp2_with fail
        go_ret2
        exact ⟨by rw [HJ2.out]; rfl, hb⟩

end Go.Proofs.YtafbgmpbfonljaaDoor
