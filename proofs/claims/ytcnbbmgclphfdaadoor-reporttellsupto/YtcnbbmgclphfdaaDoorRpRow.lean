/- Contract of how the program tells a row. -/
import Derived.Test.YtcnbbmgclphfdaaDoorRpValue
import Derived.Lib.Join
namespace Go.Proofs.YtcnbbmgclphfdaaDoor
open Go.RowKit Go.Sort

def valE (e : Ent) : ByteArray := valB e.1 e.2.1 e.2.2
/-- A row's text. -/
def rowB (l : List Ent) : ByteArray := ⟨(Lib.join (l.map fun e => (valE e).data.toList) [44, 32]).toArray⟩
theorem info_S : (Tryd.prog.info? 9).map (fun i => (i.zero, i.size, i.bytes)) = some (some (.string ⟨#[]⟩), 1, 16) := by kernel_rfl
theorem valE_size {l : List Ent} (hf : Fair l) {e : Ent} (he : e ∈ l) : (valE e).size ≤ 3302 := valB_size (hf e he).2.2 (hf e he).1
theorem lens_le {l : List Ent} (hf : Fair l) : Lib.lens (l.map fun e => (valE e).data.toList) ≤ 3302 * l.length := by
  induction l with
  | nil => simp [Lib.lens]
  | cons e r ih =>
    have h1 := valE_size hf (e := e) (by simp)
    have h2 := ih (fun x hx => hf x (by simp [hx]))
    have h3 : (valE e).data.toList.length = (valE e).size := by simp
    simp only [Lib.lens, List.map_cons, List.map_map, List.sum_cons, List.length_cons] at h2 ⊢
    omega
theorem rowB_size {l : List Ent} (hf : Fair l) : (rowB l).size ≤ 3304 * l.length := by
  unfold rowB
  rw [mk_size]
  cases l with
  | nil => simp [Lib.join_nil]
  | cons e r =>
    have := lens_le hf
    rw [List.map_cons] at this ⊢
    rw [Lib.join_length]
    simp at this ⊢
    omega

set_option maxHeartbeats 2000000 in
set_option maxRecDepth 100000 in
theorem row_any (w : World) (hG : Glob w) (v : Value) (l : List Ent) (hl : Lies w v l) (hf : Fair l) (hn : l.length ≤ 60) :
    Calls Tryd.prog 9 #[v] w fun e w' => e = .returned (.string (rowB l)) ∧ Below w.heap.size w w' := by
  obtain ⟨ao, cap, rfl, hc⟩ := hl
  go_enter Tryd.func9, Tryd.ntmps9
  go_wp2_with fail
  go_loopw [3, 8] (fun z i wr => ∃ j : Nat, j ≤ l.length ∧ i = .int .i64 j ∧ Own1 wr w.heap.size 9 z ((l.take j).map fun e => .string (valE e)) ∧ Below w.heap.size w wr) (fun _ i _ => l.length - (intOf i).toNat)
  case atStart => exact ⟨0, Nat.zero_le _, rfl, Own1.nil _ _ _, Below.refl _ _⟩
  case round =>
    obtain ⟨j, hj, rfl, ho, hbel⟩ := hrel
    by_cases h : j < l.length
    · obtain ⟨b, off, rfl, h1, h2, h3⟩ := hc j h
      have hfe := hf l[j] (List.getElem_mem h)
      have HT : Hid ((l.take (j + 1)).map (fun e => Value.string (valE e)) = (l.take j).map (fun e => Value.string (valE e)) ++ [.string (valE l[j])]) := by
        show (l.take (j + 1)).map (fun e => Value.string (valE e)) = _
        rw [List.take_succ_eq_append_getElem h, List.map_append]; rfl
      have HE : Hid (valE l[j] = valB l[j].1 l[j].2.1 l[j].2.2) := rfl
      have hlen : ((l.take j).map fun e => Value.string (valE e)).length ≤ 60 := by simp; omega
      replace h1 := cell_keep h1 hbel
      replace h2 := cell_keep h2 hbel
      replace h3 := cell_keep h3 hbel
      generalize (l.take j).map (fun e => Value.string (valE e)) = xs at *
      generalize valE l[j] = x at *
      generalize l[j] = E at *
      obtain ⟨t, n, s⟩ := E
      dsimp only at h1 h2 h3 hfe HE
      obtain ⟨za, zc, rfl⟩ := ho.shape
      have ba : Below wr.heap.size wr (wr.alloc (.cells #[.int .i64 t, .int .i64 n, .string s] 28)) := (Below.refl _ _).alloc (Nat.le_refl _) _
      have kv := value_any _ ((hG.keep hbel).keep ba) t n s hfe.2.2 (by omega)
      rw [← HE.out] at kv
      have hy0 : ∀ y ∈ [Value.string x], y.oneCell' = true := by intro y hy; simp at hy; subst hy; rfl
      go_wp2_with fail
      refine kv.mono ?_
      rintro e w2 ⟨rfl, b2⟩
      replace b2 := bnew b2
      replace ho := ho.keep b2
      replace hbel := btrans hbel b2
      clear kv h1 h2 h3 ba hc b2
      go_wp2_with (at_builtin; refine wpList_push1 info_S Tryd.underlying53 rfl (by decide) (.tmp 12) (.tmp 15) rfl rfl rfl (ys := [.string x]) rfl rfl rfl ho hy0 hbel.size (by simp; omega) ?_; intro v3 w3 ho3 hb3 _)
      go_roundw
      case rel => exact ⟨j + 1, by omega, by go_num, by rw [HT.out]; exact ho3, hbel.trans hb3⟩
      case measure => simp [intOf]; omega
    · have hjl : j = l.length := by omega
      subst hjl
      rw [List.take_of_length_le (Nat.le_refl _)] at ho
      have HR : Hid (rowB l = ⟨(Lib.join ((l.map valE).map (·.data.toList)) [44, 32]).toArray⟩) := by
        show rowB l = _
        rw [List.map_map]; rfl
      have hsz := rowB_size hf
      rw [HR.out, mk_size] at hsz
      have ho' : Own1 wr w.heap.size 9 u3 ((l.map valE).map .string) := by rw [List.map_map]; exact ho
      obtain ⟨ao', cap', rfl, hn', hc'⟩ := ho'.lies.strings
      have hlm : (l.map valE).length = l.length := by simp
      rw [hlm]
      cases ao' with
      | none =>
        have h0 : l = [] := by
          cases l with
          | nil => rfl
          | cons e r => obtain ⟨b, off, hx, _⟩ := hc' 0 (by simp); cases hx
        subst h0
        go_wp2_with fail
        refine (Tryd.strings_Join_none _ _ _ wr).mono ?_
        rintro e w2 ⟨rfl, hw2⟩
        subst hw2
        go_wp2_with fail
        go_ret
        exact ⟨by rw [HR.out]; rfl, hbel⟩
      | some ad =>
        by_cases hl0 : l = []
        · subst hl0
          go_wp2_with fail
          refine (Tryd.strings_Join_none _ _ _ wr).mono ?_
          rintro e w2 ⟨rfl, hw2⟩
          subst hw2
          go_wp2_with fail
          go_ret
          exact ⟨by rw [HR.out]; rfl, hbel⟩
        · have hpos : 0 < l.length := by cases l with | nil => exact absurd rfl hl0 | cons => simp
          obtain ⟨b, off, hx, hc0⟩ := hc' 0 (by simpa using hpos)
          simp only [Option.some.injEq] at hx
          subst hx
          have hbk : b < wr.heap.size := block_lt_of_cell hc0
          have kj := Tryd.strings_Join b off cap' (l.map valE) ⟨#[44, 32]⟩ wr (by
              intro j x hj
              obtain ⟨hjl, rfl⟩ := List.getElem?_eq_some_iff.1 hj
              obtain ⟨b', off', hx', hcell⟩ := hc' j hjl
              simp only [Option.some.injEq, Addr.mk.injEq] at hx'
              obtain ⟨rfl, rfl, _⟩ := hx'
              exact hcell) hbk (by rw [hlm]; omega) hn'.2 (by
              show (Lib.join ((l.map valE).map (·.data.toList)) [44, 32]).length ≤ _
              omega)
          rw [hlm] at kj
          clear hc hc' hc0 ho ho' hlm hsz
          go_wp2_with fail
          refine kj.mono ?_
          rintro e w2 ⟨rfl, b2⟩
          go_wp2_with fail
          go_ret
          exact ⟨by rw [HR.out, List.map_map]; rfl, btrans hbel b2⟩

end Go.Proofs.YtcnbbmgclphfdaaDoor
