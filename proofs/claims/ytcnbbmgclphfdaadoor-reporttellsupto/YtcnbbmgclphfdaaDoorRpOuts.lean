/- Contracts of how the program tells lists of rows, and what was told; and of how the document tells what was told. -/
import Derived.Test.YtcnbbmgclphfdaaDoorRpRefV2
namespace Go.Proofs.YtcnbbmgclphfdaaDoor
open Go.RowKit Go.Sort

set_option maxHeartbeats 800000 in
set_option maxRecDepth 100000 in
theorem rows_any (w : World) (hG : Glob w) (v : Value) (L : List (List Ent)) (hl : LiesR w v L) (hg : GoodL L) :
    Calls Tryd.prog 13 #[v] w fun e w' => e = .returned (.string (rowsB L)) ∧ Below w.heap.size w w' := by
  obtain ⟨h40, hg⟩ := hg
  obtain ⟨ao, cap, rfl, hn, hc⟩ := hl
  have hf := IsB.fresh w
  have bW : Below w.heap.size w (w.alloc (.cells #[.pointer none, .slice none 0 0] 61)) := (Below.refl _ _).alloc (Nat.le_refl _) _
  go_enter Tryd.func13, Tryd.ntmps13
  go_wp2_with fail
  generalize w.alloc (.cells #[.pointer none, .slice none 0 0] 61) = W at hf bW ⊢
  go_loopw [8] (fun i wr => ∃ j : Nat, j ≤ L.length ∧ i = .int .i64 j ∧ IsB w.heap.size w.heap.size (rowsL (L.take j)) wr ∧ Below w.heap.size w wr) (fun i _ => L.length - (intOf i).toNat)
  case atStart => exact ⟨0, Nat.zero_le _, rfl, hf, bW⟩
  case round =>
    clear hf bW
    obtain ⟨j, hj, rfl, hB, hbel⟩ := hrel
    have s1 : (rowsL (L.take j)).length ≤ 10000000 := by
      have h3 := rowsL_len (L := L.take j) (fun x hx => hg x (List.mem_of_mem_take hx))
      rw [List.length_take] at h3
      omega
    by_cases h : j < L.length
    · obtain ⟨b, off, r, rfl, h1, h2⟩ := hc j h
      replace h1 := cell_keep h1 hbel
      replace h2 := h2.keep hbel
      have hge := hg L[j] (List.getElem_mem h)
      have HT : Hid (rowsL (L.take (j + 1)) = rowsL (L.take j) ++ (rowB L[j] ++ ⟨#[10]⟩).data.toList) := by
        show rowsL (L.take (j + 1)) = _
        rw [List.take_succ_eq_append_getElem h, rowsL_snoc, ByteArray.data_append, Array.toList_append, rowB_data]
      have s2 : (rowB L[j]).size ≤ 1000000 := by
        have := rowB_size hge.2.1
        have := hge.1
        omega
      have s3 : (rowB L[j] ++ (⟨#[10]⟩ : ByteArray)).size ≤ 1000001 := by
        rw [ByteArray.size_append, show (⟨#[10]⟩ : ByteArray).size = 1 from rfl]; omega
      have kr := row_any wr (hG.keep hbel) r L[j] h2 hge.2.1 (by have := hge.1; omega)
      generalize rowsL (L.take j) = R at *
      generalize rowB L[j] = x at *
      obtain ⟨ro, rcap, rfl, _⟩ := h2
      clear hc hge
      go_wp2_with fail
      refine kr.mono ?_
      rintro e w2 ⟨rfl, b2⟩
      replace hB := hB.keep b2
      replace hbel := btrans hbel b2
      go_wp2_with fail
      refine (writeString_any w.heap.size w.heap.size R (x ++ (⟨#[10]⟩ : ByteArray)) w2 hB (by omega) hbel.size).mono ?_
      rintro e w3 ⟨rfl, hB3, b3⟩
      go_wp2_with fail
      go_roundw
      case rel => exact ⟨j + 1, by omega, by go_num, by rw [HT.out]; exact hB3, hbel.trans b3⟩
      case measure => simp [intOf]; omega
    · have hjl : j = L.length := by omega
      subst hjl
      have HR : Hid (rowsB L = ⟨(rowsL (L.take L.length)).toArray⟩) := by show rowsB L = _; rw [List.take_of_length_le (Nat.le_refl _)]; rfl
      generalize rowsL (L.take L.length) = R at *
      go_wp2_with fail
      refine (string_any w.heap.size w.heap.size R wr hB hbel.size).mono ?_
      rintro e w3 ⟨rfl, _, b3⟩
      go_wp2_with fail
      go_ret
      exact ⟨by rw [HR.out]; rfl, hbel.trans b3⟩

/-- v is a slice of names with levels and holds C. -/
def LiesC2 (w : World) (v : Value) (C : List (ByteArray × Int)) : Prop :=
  ∃ ao cap, v = .slice ao C.length cap ∧ ∀ i (h : i < C.length), ∃ b off, ao = some ⟨b, off, none⟩ ∧ w.cell? ⟨b, off + i * 2, none⟩ = some (.string C[i].1)
theorem LiesC2.keep {w w' : World} {v : Value} {C : List (ByteArray × Int)} (h : LiesC2 w v C) (k : Below w.heap.size w w') : LiesC2 w' v C := by
  obtain ⟨ao, cap, rfl, hc⟩ := h
  refine ⟨ao, cap, rfl, fun i hi => ?_⟩
  obtain ⟨b, off, h0, h1⟩ := hc i hi
  exact ⟨b, off, h0, cell_keep h1 k⟩
/-- v is a slice of what was told and holds O. -/
def LiesO (w : World) (v : Value) (O : List (Int × Ent)) : Prop :=
  ∃ ao cap, v = .slice ao O.length cap ∧ ∀ i (h : i < O.length), ∃ b off, ao = some ⟨b, off, none⟩ ∧ w.cell? ⟨b, off + i * 4, none⟩ = some (.int .i64 O[i].1) ∧
    w.cell? ⟨b, off + i * 4 + 1, none⟩ = some (.int .i64 O[i].2.1) ∧ w.cell? ⟨b, off + i * 4 + 2, none⟩ = some (.int .i64 O[i].2.2.1) ∧ w.cell? ⟨b, off + i * 4 + 3, none⟩ = some (.string O[i].2.2.2)
theorem LiesO.keep {w w' : World} {v : Value} {O : List (Int × Ent)} (h : LiesO w v O) (k : Below w.heap.size w w') : LiesO w' v O := by
  obtain ⟨ao, cap, rfl, hc⟩ := h
  refine ⟨ao, cap, rfl, fun i hi => ?_⟩
  obtain ⟨b, off, h0, h1, h2, h3, h4⟩ := hc i hi
  exact ⟨b, off, h0, cell_keep h1 k, cell_keep h2 k, cell_keep h3 k, cell_keep h4 k⟩
/-- A channel's name. -/
def chanB (C : List (ByteArray × Int)) (c : Int) : ByteArray := if 0 ≤ c ∧ c < C.length then (C.getD c.toNat (E0, 0)).1 else ⟨#[63]⟩
theorem chanB_in {C : List (ByteArray × Int)} {k : Nat} (h : k < C.length) : chanB C (k : Int) = C[k].1 := by
  unfold chanB; rw [if_pos ⟨by omega, by omega⟩]; simp [h]
theorem chanB_out {C : List (ByteArray × Int)} {c : Int} (h : c < 0 ∨ (C.length : Int) ≤ c) : chanB C c = ⟨#[63]⟩ := by
  unfold chanB; rw [if_neg (by omega)]
/-- One that was told. -/
def outB (C : List (ByteArray × Int)) (o : Int × Ent) : ByteArray := ((chanB C o.1 ++ ⟨#[32]⟩) ++ valE o.2) ++ ⟨#[10]⟩
def outsL (C : List (ByteArray × Int)) (O : List (Int × Ent)) : List UInt8 := O.flatMap fun o => (outB C o).data.toList
def outsB (C : List (ByteArray × Int)) (O : List (Int × Ent)) : ByteArray := ⟨(outsL C O).toArray⟩
theorem outsB_data (C : List (ByteArray × Int)) (O : List (Int × Ent)) : (outsB C O).data.toList = outsL C O := by simp [outsB]
theorem outsL_snoc (C : List (ByteArray × Int)) (O : List (Int × Ent)) (o : Int × Ent) : outsL C (O ++ [o]) = outsL C O ++ (outB C o).data.toList := by simp [outsL]
def GoodC (C : List (ByteArray × Int)) : Prop := ∀ c ∈ C, c.1.size ≤ 2000000
def GoodO (O : List (Int × Ent)) : Prop := O.length ≤ 60 ∧ ∀ o ∈ O, o.2.2.2.size ≤ 1100 ∧ inR o.2.2.1 ∧ RightE o.2
theorem chanB_size {C : List (ByteArray × Int)} (h : GoodC C) (c : Int) : (chanB C c).size ≤ 2000000 := by
  unfold chanB
  split
  · rename_i hk
    have hlt : c.toNat < C.length := by omega
    have he : C.getD c.toNat (E0, 0) = C[c.toNat] := by simp [hlt]
    rw [he]
    exact h _ (List.getElem_mem hlt)
  · decide
theorem outB_size {C : List (ByteArray × Int)} (h : GoodC C) {o : Int × Ent} (ho : o.2.2.2.size ≤ 1100 ∧ inR o.2.2.1 ∧ RightE o.2) : (outB C o).size ≤ 2003304 := by
  have h1 := chanB_size h o.1
  have h2 : (valE o.2).size ≤ 3302 := valB_size ho.2.1 ho.1
  unfold outB
  rw [ByteArray.size_append, ByteArray.size_append, ByteArray.size_append, show (⟨#[10]⟩ : ByteArray).size = 1 from rfl, show (⟨#[32]⟩ : ByteArray).size = 1 from rfl]
  omega
theorem outsL_len {C : List (ByteArray × Int)} (h : GoodC C) {O : List (Int × Ent)} (ho : ∀ o ∈ O, o.2.2.2.size ≤ 1100 ∧ inR o.2.2.1 ∧ RightE o.2) : (outsL C O).length ≤ 2003304 * O.length := by
  induction O with
  | nil => simp [outsL]
  | cons o r ih =>
    have h1 := outB_size h (ho o (by simp))
    have h2 := ih (fun x hx => ho x (by simp [hx]))
    have h3 : (outB C o).data.toList.length = (outB C o).size := by simp
    simp only [outsL, List.flatMap_cons, List.length_append, List.length_cons] at h2 ⊢
    omega

end Go.Proofs.YtcnbbmgclphfdaaDoor
