/- Contract of how the program reads a row's text. -/
import Derived.Test.YtcnbbmgclphfdaaDoorRpTake
import Derived.Test.YtcnbbmgclphfdaaDoorRpRow
import Derived.Test.YtcnbbmgclphfdaaDoorOwnV
namespace Go.Proofs.YtcnbbmgclphfdaaDoor
open Go.RowKit Go.Sort

def rowL (l : List Ent) : List UInt8 := Lib.join (l.map fun e => (valE e).data.toList) [44, 32]
theorem rowB_data (l : List Ent) : (rowB l).data.toList = rowL l := by simp [rowB, rowL]
theorem rowL_one (e : Ent) : rowL [e] = (valE e).data.toList := by simp [rowL, Lib.join_one]
theorem rowL_two (e e' : Ent) (r : List Ent) : rowL (e :: e' :: r) = (valE e).data.toList ++ 44 :: 32 :: rowL (e' :: r) := by
  simp [rowL, Lib.join, List.intercalate]
/-- What stands behind the first value. -/
def restL (r : List Ent) : List UInt8 := if r = [] then [] else 44 :: 32 :: rowL r
theorem rowL_cons (e : Ent) (r : List Ent) : rowL (e :: r) = (valE e).data.toList ++ restL r := by
  cases r with
  | nil => rw [rowL_one]; simp [restL]
  | cons e' r' => rw [rowL_two]; simp [restL]
theorem restL_form (r : List Ent) : restL r = [] ∨ ∃ x, restL r = 44 :: 32 :: x := by
  unfold restL; split
  · exact .inl rfl
  · exact .inr ⟨_, rfl⟩
theorem mk_toList (z : ByteArray) : (⟨z.data.toList.toArray⟩ : ByteArray) = z := by simp

theorem ownV_shape {w : World} {base : Nat} {v : Value} {l : List Ent} (h : OwnV w base v l) : ∃ ao cap, v = .slice ao l.length cap := by
  obtain ⟨ao, cap, hv, _⟩ := h.lies
  exact ⟨ao, cap, hv⟩
theorem valE_ne (e : Ent) : (valE e).data.toList ≠ [] := by
  unfold valE valB
  split
  · simp
  split
  · split <;> simp
  split
  · rw [decB_data]; exact itoa_ne _
  split
  · simp [quoteB, quoteL]
  · simp
theorem rowL_ne {l : List Ent} (h : l ≠ []) : rowL l ≠ [] := by
  cases l with
  | nil => exact absurd rfl h
  | cons e r =>
    rw [rowL_cons]
    intro hc
    exact valE_ne e (List.append_eq_nil_iff.1 hc).1
theorem empty_B {z : ByteArray} (h : z.toList = []) : z = E0 := toList_inj (by rw [h, ByteArray.toList_eq])

def RightE (e : Ent) : Prop := rightE e.1 e.2.1 e.2.2 = 0
theorem take_any (w : World) (hG : Glob w) (s : ByteArray) (t n : Int) (z : ByteArray) (rest : List UInt8) (hre : RightE (t, n, z)) (hn : inR n) (h : s.data.toList = (valE (t, n, z)).data.toList ++ rest) (hrest : rest = [] ∨ ∃ r, rest = 44 :: 32 :: r) (hsz : s.size ≤ 1000000)
    (hx : ∀ c ∈ z.data.toList, escB c = true → HexOK c) :
    Calls Tryd.prog 52 #[.string s] w fun e w' => e = .returned (.tuple #[V t n z, .string ⟨rest.toArray⟩, .bool true]) ∧ Below w.heap.size w w' := by
  unfold RightE rightE at hre
  simp only at hre
  split at hre
  · rename_i ht
    subst ht
    split at hre
    · rename_i hc
      obtain ⟨rfl, hz⟩ := hc
      obtain rfl := empty_B hz
      refine take_plain w hG s nullT 0 0 E0 rest (fun w0 g => plain_null w0 g) h (by decide) (by decide) hrest hsz
    · exact absurd hre (by decide)
  split at hre
  · rename_i ht
    subst ht
    split at hre
    · rename_i hc
      obtain ⟨hb, hz⟩ := hc
      obtain rfl := empty_B hz
      rcases hb with rfl | rfl
      · exact take_plain w hG s falseT 1 0 E0 rest (fun w0 g => plain_false w0 g) h (by decide) (by decide) hrest hsz
      · have h' : s.data.toList = trueT.data.toList ++ rest := by rw [h, show valE (1, 1, E0) = trueT by decide +kernel]
        exact take_plain w hG s trueT 1 1 E0 rest (fun w0 g => plain_true w0 g) h' (by decide) (by decide) hrest hsz
    · exact absurd hre (by decide)
  split at hre
  · rename_i ht
    subst ht
    split at hre
    · rename_i hz
      obtain rfl := empty_B hz
      refine take_plain w hG s (decB n) 2 n E0 rest (fun w0 g => plain_int w0 g n hn) h ?_ ?_ hrest hsz
      · intro c hc
        rw [decB_data] at hc
        have := itoa_bytes n c hc
        omega
      · have h1 := itoa_ne n
        rw [size_of_list (decB_data n)]
        exact List.length_pos_iff.2 h1
    · exact absurd hre (by decide)
  split at hre
  · rename_i ht
    subst ht
    split at hre
    · rename_i hn0
      subst hn0
      have hl : s.data.toList = 39 :: (spellsL z.data.toList ++ 39 :: rest) := by
        rw [h]
        show (quoteB z).data.toList ++ rest = _
        simp [quoteB, quoteL]
      have := take_text w s z.data.toList rest hl (by rcases hrest with rfl | ⟨r, rfl⟩ <;> simp) hsz hx
      rwa [mk_toList] at this
    · exact absurd hre (by decide)
  · exact absurd hre (by decide)

set_option maxHeartbeats 2000000 in
set_option maxRecDepth 100000 in
theorem valuesOf_any (w : World) (hG : Glob w) (l : List Ent) (hl : l ≠ []) (hr : ∀ e ∈ l, RightE e) (hf : Fair l) (hn : l.length ≤ 60) (hx : ∀ e ∈ l, ∀ c ∈ e.2.2.data.toList, escB c = true → HexOK c) :
    Calls Tryd.prog 41 #[.string (rowB l)] w fun e w' => ∃ v, e = .returned (.tuple #[v, .bool true]) ∧ OwnV w' w.heap.size v l ∧ Below w.heap.size w w' := by
  have hsz : (rowB l).size ≤ 1000000 := by have := rowB_size hf; omega
  have hne : ((rowB l).toList == []) = false := by
    rw [ByteArray.toList_eq, rowB_data]
    rw [beq_eq_false_iff_ne]
    exact rowL_ne hl
  go_enter Tryd.func41, Tryd.ntmps41
  go_wp2_with fail
  go_loopw [0, 4] (fun x z wr => ∃ (sc : ByteArray) (done todo : List Ent), x = .string sc ∧ l = done ++ todo ∧ todo ≠ [] ∧ sc.data.toList = rowL todo ∧ sc.size ≤ 1000000 ∧ OwnV wr w.heap.size z done ∧ Below w.heap.size w wr) (fun x _ _ => match x with | .string sc => sc.size | _ => 0)
  case atStart => exact ⟨rowB l, [], l, rfl, rfl, hl, rowB_data l, hsz, OwnV.nil _ _, Below.refl _ _⟩
  case round =>
    clear hne hsz
    obtain ⟨sc, done, todo, rfl, hdt, htn, hsc, hz, ho, hbel⟩ := hrel
    cases todo with
    | nil => exact absurd rfl htn
    | cons e r =>
      have hmem : e ∈ l := by rw [hdt]; simp
      have hdl : done.length ≤ 60 := by
        have := congrArg List.length hdt
        simp at this; omega
      have hfe := hf e hmem
      have hre := hr e hmem
      have hxe := hx e hmem
      rw [rowL_cons] at hsc
      have hss := size_of_list hsc
      have HT : Hid (l = (done ++ [e]) ++ r) := by show l = _; rw [hdt]; simp
      obtain ⟨t, n, z⟩ := e
      have kt := take_any wr (hG.keep hbel) sc t n z (restL r) hre hfe.2.2 hsc (restL_form r) hz hxe
      obtain ⟨za, zc, rfl⟩ := ownV_shape ho
      by_cases hr0 : r = []
      · subst hr0
        rw [show restL [] = [] from rfl] at kt
        clear hsc hdt
        go_wp2_with fail
        refine kt.mono ?_
        rintro e w1 ⟨rfl, b1⟩
        replace ho := ho.keep b1
        replace hbel := btrans hbel b1
        have ba : Below w1.heap.size w1 (w1.alloc (.cells #[.int .i64 t, .int .i64 n, .string z] 28)) := (Below.refl _ _).alloc (Nat.le_refl _) _
        replace ho := ho.keep ba
        replace hbel := btrans hbel ba
        clear kt hss b1 ba
        go_wp2_with (at_builtin; refine wpList_pushV (.tmp 18) (.tmp 20) rfl rfl rfl ho hbel.size [(t, n, z)] rfl rfl (by first | rfl | simp) (by simp; omega) ?_; intro v3 w3 ho3 hb3)
        go_ret2
        exact ⟨_, rfl, by rw [HT.out, List.append_nil]; exact ho3, hbel.trans hb3⟩
      · have hrs : restL r = 44 :: 32 :: rowL r := by unfold restL; rw [if_neg hr0]
        rw [hrs] at kt hss
        have hvp : 0 < (valE (t, n, z)).data.toList.length := List.length_pos_iff.2 (valE_ne _)
        have hss2 : (rowL r).length + 2 < sc.size := by
          rw [hss]; simp only [List.length_append, List.length_cons]; omega
        have kc := fun w' => Tryd.strings_CutPrefix ⟨(44 :: 32 :: rowL r).toArray⟩ ⟨#[44, 32]⟩ w'
        rw [show (⟨(44 :: 32 :: rowL r).toArray⟩ : ByteArray).data.toList = 44 :: 32 :: rowL r by simp, show (⟨#[44, 32]⟩ : ByteArray).data.toList = [44, 32] from rfl, show Lib.hasPrefix (44 :: 32 :: rowL r) [44, 32] = true by simp [Lib.hasPrefix], show Lib.trimPrefix (44 :: 32 :: rowL r) [44, 32] = rowL r by simp [Lib.trimPrefix, Lib.hasPrefix]] at kc
        have hqe : ((⟨(44 :: 32 :: rowL r).toArray⟩ : ByteArray).toList == []) = false := by rw [ByteArray.toList_eq]; rfl
        have hms := mk_size (rowL r)
        generalize (⟨(44 :: 32 :: rowL r).toArray⟩ : ByteArray) = RR at *
        clear hsc hdt hss hvp hrs
        go_wp2_with fail
        refine kt.mono ?_
        rintro e w1 ⟨rfl, b1⟩
        replace ho := ho.keep b1
        replace hbel := btrans hbel b1
        have ba : Below w1.heap.size w1 (w1.alloc (.cells #[.int .i64 t, .int .i64 n, .string z] 28)) := (Below.refl _ _).alloc (Nat.le_refl _) _
        replace ho := ho.keep ba
        replace hbel := btrans hbel ba
        clear kt b1 ba
        go_wp2_with (at_builtin; refine wpList_pushV (.tmp 18) (.tmp 20) rfl rfl rfl ho hbel.size [(t, n, z)] rfl rfl (by first | rfl | simp) (by simp; omega) ?_; intro v3 w3 ho3 hb3)
        refine (kc w3).mono ?_
        rintro e w4 ⟨rfl, hw⟩
        subst hw
        go_wp2_with fail
        go_roundw
        case rel => exact ⟨_, done ++ [(t, n, z)], r, rfl, HT.out, hr0, by simp, by omega, ho3, hbel.trans hb3⟩
        case measure => show (⟨(rowL r).toArray⟩ : ByteArray).size < sc.size; omega

end Go.Proofs.YtcnbbmgclphfdaaDoor
