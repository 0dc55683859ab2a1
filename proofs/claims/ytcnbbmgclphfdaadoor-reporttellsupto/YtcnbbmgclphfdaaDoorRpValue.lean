/- Contract of how the program tells a value. -/
import Derived.Test.YtcnbbmgclphfdaaDoorRpQuote
import Derived.Test.YtcnbbmgclphfdaaDoorRows2
namespace Go.Proofs.YtcnbbmgclphfdaaDoor
open Go.RowKit Go.Sort

/-- A value's text. -/
def valB (t n : Int) (s : ByteArray) : ByteArray :=
  if t = 0 then ⟨#[110, 117, 108, 108]⟩ else if t = 1 then (if veq t n s 1 1 E0 = true then ⟨#[116, 114, 117, 101]⟩ else ⟨#[102, 97, 108, 115, 101]⟩)
  else if t = 2 then decB n else if t = 3 then quoteB s else ⟨#[63]⟩
theorem quoteB_size (s : ByteArray) : (quoteB s).size ≤ 3 * s.size + 2 := by
  have := spellsL_len s.data.toList
  have hs : s.data.toList.length = s.size := by simp
  unfold quoteB quoteL
  rw [mk_size]
  simp
  omega
theorem valB_size {t n : Int} {s : ByteArray} (hn : inR n) (hs : s.size ≤ 1100) : (valB t n s).size ≤ 3302 := by
  have h1 := decB_size (n := n) hn.1 hn.2
  have h2 := quoteB_size s
  unfold valB
  split
  · decide
  split
  · split <;> decide
  split
  · omega
  split
  · omega
  · decide

set_option maxHeartbeats 2000000 in
set_option maxRecDepth 100000 in
theorem value_any (w : World) (hG : Glob w) (t n : Int) (s : ByteArray) (hn : inR n) (hs : s.size ≤ 1000000) : Calls Tryd.prog 11 #[V t n s] w fun e w' => e = .returned (.string (valB t n s)) ∧ Below w.heap.size w w' := by
  obtain ⟨W, hW⟩ : ∃ W, W = w.alloc (.cells #[.int .i64 t, .int .i64 n, .string s] 28) := ⟨_, rfl⟩
  have bW : Below w.heap.size w W := by rw [hW]; exact (Below.refl _ _).alloc (Nat.le_refl _) _
  have hGW := hG.keep bW
  by_cases h0 : t = 0
  · subst h0
    have HV : Hid (valB 0 n s = ⟨#[110, 117, 108, 108]⟩) := rfl
    go_enter Tryd.func11, Tryd.ntmps11
    go_wp2_with fail
    go_ret
    exact ⟨by rw [HV.out]; rfl, by rw [← hW]; exact bW⟩
  by_cases h1 : t = 1
  · subst h1
    have HV : Hid (valB 1 n s = if veq 1 n s 1 1 E0 = true then ⟨#[116, 114, 117, 101]⟩ else ⟨#[102, 97, 108, 115, 101]⟩) := rfl
    have kt := true_any 1 n s W
    rw [show oneOf true = 1 from rfl] at kt
    generalize veq 1 n s 1 1 E0 = b at kt HV
    go_enter Tryd.func11, Tryd.ntmps11
    go_wp2_with fail
    rw [← hW]
    refine kt.mono ?_
    rintro e w1 ⟨rfl, b1⟩
    go_wp2_with fail
    refine (Tryd.strconv_FormatBool b w1).mono ?_
    rintro e w2 ⟨rfl, hw2⟩
    subst hw2
    go_wp2_with fail
    go_ret
    exact ⟨by rw [HV.out]; cases b <;> rfl, btrans bW b1⟩
  by_cases h2 : t = 2
  · subst h2
    have HV : Hid (valB 2 n s = decB n) := rfl
    go_enter Tryd.func11, Tryd.ntmps11
    go_wp2_with fail
    rw [← hW]
    refine (itoa_any W hGW n hn.1 hn.2).mono ?_
    rintro e w1 ⟨rfl, b1⟩
    go_wp2_with fail
    go_ret
    exact ⟨by rw [HV.out]; rfl, btrans bW b1⟩
  by_cases h3 : t = 3
  · subst h3
    have HV : Hid (valB 3 n s = quoteB s) := rfl
    have kq := quoted_any W s hs
    go_enter Tryd.func11, Tryd.ntmps11
    go_wp2_with fail
    rw [← hW]
    refine kq.mono ?_
    rintro e w1 ⟨rfl, b1⟩
    go_wp2_with fail
    go_ret
    exact ⟨by rw [HV.out]; rfl, btrans bW b1⟩
  · have HV : Hid (valB t n s = ⟨#[63]⟩) := by
      show valB t n s = _
      unfold valB
      rw [if_neg h0, if_neg h1, if_neg h2, if_neg h3]
    have q0 : (t == 0) = false := by rw [beq_eq_false_iff_ne]; exact h0
    have q1 : (t == 1) = false := by rw [beq_eq_false_iff_ne]; exact h1
    have q2 : (t == 2) = false := by rw [beq_eq_false_iff_ne]; exact h2
    have q3 : (t == 3) = false := by rw [beq_eq_false_iff_ne]; exact h3
    go_enter Tryd.func11, Tryd.ntmps11
    go_wp2_with fail
    go_ret
    exact ⟨by rw [HV.out]; rfl, by rw [← hW]; exact bW⟩

end Go.Proofs.YtcnbbmgclphfdaaDoor
