/- Contract of takeValue: the value at the front of a text that is not empty, and what is left behind it. -/
import Derived.Test.YthbmcfbchomckaaTakeText
import Derived.Test.YthbmcfbchomckaaPutV
namespace Go.Proofs.Ythbmcfbchomckaa
open Go.RowKit Go.Sort

/-- The value at the front, and what is left behind it. -/
def takeV : List UInt8 → Option (Ent × List UInt8)
  | [] => none
  | c :: r => if c = 1 then some ((0, 0, E0), r) else if c = 2 then some ((1, 0, E0), r) else if c = 3 then some ((1, 1, E0), r)
    else if c = 4 then (if r.length < 8 then none else some ((2, decI (r.take 8), E0), r.drop 8))
    else if c = 5 then (scanT r).map (fun p => ((3, 0, ⟨p.1.toArray⟩), p.2)) else none
def valRes : Option (Ent × List UInt8) → Value
  | some p => .tuple #[V p.1.1 p.1.2.1 p.1.2.2, .string ⟨p.2.toArray⟩, .bool true]
  | none => .tuple #[V 0 0 E0, .string E0, .bool false]
theorem textRes_val (o : Option (List UInt8 × List UInt8)) : textRes o = valRes (o.map fun p => ((3, 0, ⟨p.1.toArray⟩), p.2)) := by cases o <;> rfl

/-- What the test of a first byte asks. -/
theorem first_tests {s : ByteArray} (h0 : 0 < s.size) (c : UInt8) (hc : s[0] = c) (d : UInt8) : ((s[0].toNat : Int) == (d.toNat : Int)) = decide (c = d) := by
  rw [hc]
  by_cases h : c = d
  · subst h; simp
  · rw [u8_ne h]; simp [h]

theorem bbelow {w w1 : World} {t n : Int} {s : ByteArray} (hb : Below (w.alloc (.cells #[.int .i64 t, .int .i64 n, .string s] 33)).heap.size (w.alloc (.cells #[.int .i64 t, .int .i64 n, .string s] 33)) w1) :
    (w1.cell? ⟨w.heap.size, 0, none⟩ = some (.int .i64 t) ∧ w1.cell? ⟨w.heap.size, 1, none⟩ = some (.int .i64 n) ∧ w1.cell? ⟨w.heap.size, 2, none⟩ = some (.string s)) ∧
    (w1.frozen? ⟨w.heap.size, 0, none⟩ = false ∧ w1.frozen? ⟨w.heap.size, 1, none⟩ = false ∧ w1.frozen? ⟨w.heap.size, 2, none⟩ = false) := by
  have a := (At.alloc w t n s).keep hb
  have h : ∀ o, w1.frozen? ⟨w.heap.size, o, none⟩ = (w.alloc (.cells #[.int .i64 t, .int .i64 n, .string s] 33)).frozen? ⟨w.heap.size, o, none⟩ := fun o => hb.frozen (by simp)
  refine ⟨a, ?_, ?_, ?_⟩
  · rw [h]; simp [go_sem]
  · rw [h]; simp [go_sem]
  · rw [h]; simp [go_sem]

set_option maxHeartbeats 2000000 in
theorem takeValue_any (s : ByteArray) (hs : s.size ≤ 1000000) (h0 : 0 < s.size) (w : World) :
    Calls Try.prog 24 #[.string s] w fun e w' => e = .returned (valRes (takeV s.data.toList)) ∧ Below w.heap.size w w' := by
  obtain ⟨c, hc⟩ : ∃ c, s[0] = c := ⟨_, rfl⟩
  have HL : Hid (s.data.toList = c :: (behind s 1).data.toList) := by
    show s.data.toList = _
    have := drop_succ s 0 h0
    rw [List.drop_zero] at this
    rw [this, hc]
    rfl
  have hex := extract_behind s 1
  have hbs : (behind s 1).size = s.size - 1 := by show (s.data.toList.drop 1).toArray.size = _; simp
  have hw1 : (1 : Int) ≤ (s.size : Int) := by omega
  have q1 := first_tests h0 c hc 1
  have q2 := first_tests h0 c hc 2
  have q3 := first_tests h0 c hc 3
  have q4 := first_tests h0 c hc 4
  have q5 := first_tests h0 c hc 5
  clear hc
  rcases (show c = 1 ∨ c = 2 ∨ c = 3 ∨ c = 4 ∨ c = 5 ∨ (¬ c = 1 ∧ ¬ c = 2 ∧ ¬ c = 3 ∧ ¬ c = 4 ∧ ¬ c = 5) by
    by_cases a1 : c = 1 <;> by_cases a2 : c = 2 <;> by_cases a3 : c = 3 <;> by_cases a4 : c = 4 <;> by_cases a5 : c = 5 <;> simp [a1, a2, a3, a4, a5]) with hcc | hcc | hcc | hcc | hcc | ⟨n1, n2, n3, n4, n5⟩
  · subst hcc
    have t3 : ((s[0].toNat : Int) == 3) = false := q3
    have t2 : ((s[0].toNat : Int) == 2) = false := q2
    have t1 : ((s[0].toNat : Int) == 1) = true := q1
    clear q1 q2 q3 q4 q5
    go_enter Try.func24, Try.ntmps24
    go_wp2
    exact bodyPost_ret (v := .tuple #[V 0 0 E0, .string (behind s 1), .bool true]) (by simp [results, Try.results24, go_sem]) rfl ⟨by rw [HL.out]; rfl, (Below.refl _ _).alloc (Nat.le_refl _) _⟩
  · subst hcc
    have t3 : ((s[0].toNat : Int) == 3) = false := q3
    have t2 : ((s[0].toNat : Int) == 2) = true := q2
    clear q1 q2 q3 q4 q5
    go_enter Try.func24, Try.ntmps24
    go_wp2
    exact bodyPost_ret (v := .tuple #[V 1 0 E0, .string (behind s 1), .bool true]) (by simp [results, Try.results24, go_sem]) rfl ⟨by rw [HL.out]; rfl, (Below.refl _ _).alloc (Nat.le_refl _) _⟩
  · subst hcc
    have t3 : ((s[0].toNat : Int) == 3) = true := q3
    clear q1 q2 q3 q4 q5
    go_enter Try.func24, Try.ntmps24
    go_wp2
    exact bodyPost_ret (v := .tuple #[V 1 1 E0, .string (behind s 1), .bool true]) (by simp [results, Try.results24, go_sem]) rfl ⟨by rw [HL.out]; rfl, (Below.refl _ _).alloc (Nat.le_refl _) _⟩
  · subst hcc
    have t3 : ((s[0].toNat : Int) == 3) = false := q3
    have t2 : ((s[0].toNat : Int) == 2) = false := q2
    have t1 : ((s[0].toNat : Int) == 1) = false := q1
    have t4 : ((s[0].toNat : Int) == 4) = true := q4
    clear q1 q2 q3 q4 q5
    have hrl : (behind s 1).data.toList.length = (behind s 1).size := by simp
    by_cases h8 : (behind s 1).size < 8
    · have HV : Hid (takeV s.data.toList = none) := by
        show takeV _ = _
        rw [HL.out]
        show (if (behind s 1).data.toList.length < 8 then none else _) = none
        rw [hrl, if_pos h8]
      clear hrl
      go_enter Try.func24, Try.ntmps24
      go_wp2_with (go_at_call 32; refine (takeInt_no (behind s 1) h8 _).mono ?_; rintro e w1 ⟨rfl, hb1⟩; have hq := bbelow hb1)
      exact bodyPost_ret (v := .tuple #[V 0 0 E0, .string E0, .bool false]) (by simp [results, Try.results24, go_sem, hq]) rfl ⟨by rw [HV.out]; rfl, bset3 (bnew hb1) (Nat.le_refl _) _ _ _⟩
    · have HV : Hid (takeV s.data.toList = some ((2, decI (pre (behind s 1) 8), E0), (behind s 1).data.toList.drop 8)) := by
        show takeV _ = _
        rw [HL.out]
        show (if (behind s 1).data.toList.length < 8 then none else _) = _
        rw [hrl, if_neg h8]
      clear hrl
      go_enter Try.func24, Try.ntmps24
      go_wp2_with (go_at_call 32; refine (takeInt_yes (behind s 1) (by omega) (by omega) _).mono ?_; rintro e w1 ⟨rfl, hb1⟩; have hq := bbelow hb1)
      exact bodyPost_ret (v := .tuple #[V 2 (decI (pre (behind s 1) 8)) E0, .string (behind (behind s 1) 8), .bool true]) (by simp [results, Try.results24, go_sem, hq]) rfl ⟨by rw [HV.out]; rfl, bset3 (bnew hb1) (Nat.le_refl _) _ _ _⟩
  · subst hcc
    have t3 : ((s[0].toNat : Int) == 3) = false := q3
    have t2 : ((s[0].toNat : Int) == 2) = false := q2
    have t1 : ((s[0].toNat : Int) == 1) = false := q1
    have t4 : ((s[0].toNat : Int) == 4) = false := q4
    have t5 : ((s[0].toNat : Int) == 5) = true := q5
    clear q1 q2 q3 q4 q5
    have HV : Hid (takeV s.data.toList = (scanT (behind s 1).data.toList).map (fun p => ((3, 0, ⟨p.1.toArray⟩), p.2))) := by
      show takeV _ = _
      rw [HL.out]
      rfl
    have hc5 := takeText_any (behind s 1) (by omega)
    generalize scanT (behind s 1).data.toList = o at HV hc5
    cases o with
    | none =>
      go_enter Try.func24, Try.ntmps24
      go_wp2_with (go_at_call 33; refine (hc5 _).mono ?_; rintro e w1 ⟨rfl, hb1⟩; have hq := bbelow hb1; simp only [textRes])
      exact bodyPost_ret (v := .tuple #[V 0 0 E0, .string E0, .bool false]) (by simp [results, Try.results24, go_sem, hq]) rfl ⟨by rw [HV.out]; rfl, bset3 (bnew hb1) (Nat.le_refl _) _ _ _⟩
    | some p =>
      go_enter Try.func24, Try.ntmps24
      go_wp2_with (go_at_call 33; refine (hc5 _).mono ?_; rintro e w1 ⟨rfl, hb1⟩; have hq := bbelow hb1; simp only [textRes])
      exact bodyPost_ret (v := .tuple #[V 3 0 ⟨p.1.toArray⟩, .string ⟨p.2.toArray⟩, .bool true]) (by simp [results, Try.results24, go_sem, hq]) rfl ⟨by rw [HV.out]; rfl, bset3 (bnew hb1) (Nat.le_refl _) _ _ _⟩
  · have t3 : ((s[0].toNat : Int) == 3) = false := by rw [decide_eq_false n3] at q3; exact q3
    have t2 : ((s[0].toNat : Int) == 2) = false := by rw [decide_eq_false n2] at q2; exact q2
    have t1 : ((s[0].toNat : Int) == 1) = false := by rw [decide_eq_false n1] at q1; exact q1
    have t4 : ((s[0].toNat : Int) == 4) = false := by rw [decide_eq_false n4] at q4; exact q4
    have t5 : ((s[0].toNat : Int) == 5) = false := by rw [decide_eq_false n5] at q5; exact q5
    have HV : Hid (takeV s.data.toList = none) := by
      show takeV _ = _
      rw [HL.out]
      simp [takeV, n1, n2, n3, n4, n5]
    clear q1 q2 q3 q4 q5 n1 n2 n3 n4 n5
    go_enter Try.func24, Try.ntmps24
    go_wp2
    exact bodyPost_ret (v := .tuple #[V 0 0 E0, .string E0, .bool false]) (by simp [results, Try.results24, go_sem]) rfl ⟨by rw [HV.out]; rfl, (Below.refl _ _).alloc (Nat.le_refl _) _⟩

end Go.Proofs.Ythbmcfbchomckaa
