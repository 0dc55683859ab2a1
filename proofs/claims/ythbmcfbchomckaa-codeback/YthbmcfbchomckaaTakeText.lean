/- Contract of takeText: the text at the front, and what is left behind its end. -/
import Derived.Test.YthbmcfbchomckaaTakeInt
import Derived.Test.YthbmcfbchomckaaBytes
import Derived.WalkMore
namespace Go.Proofs.Ythbmcfbchomckaa
open Go.RowKit Go.Sort

/-- The text at the front, and what is left behind its end. -/
def scanT : List UInt8 → Option (List UInt8 × List UInt8)
  | [] => none
  | [_] => none
  | a :: b :: r => if a = 0 then (if b = 255 then (scanT r).map (fun p => (0 :: p.1, p.2)) else if b = 0 then some ([], r) else none) else (scanT (b :: r)).map (fun p => (a :: p.1, p.2))
def textRes : Option (List UInt8 × List UInt8) → Value
  | some p => .tuple #[V 3 0 ⟨p.1.toArray⟩, .string ⟨p.2.toArray⟩, .bool true]
  | none => .tuple #[V 0 0 E0, .string E0, .bool false]
/-- A text whose first bytes have been gone over. -/
def went (acc : List UInt8) (o : Option (List UInt8 × List UInt8)) : Option (List UInt8 × List UInt8) := o.map fun p => (acc ++ p.1, p.2)
theorem went_nil (o : Option (List UInt8 × List UInt8)) : went [] o = o := by cases o <;> rfl
theorem went_step (acc : List UInt8) (x : UInt8) (o : Option (List UInt8 × List UInt8)) : went acc (o.map fun p => (x :: p.1, p.2)) = went (acc ++ [x]) o := by cases o <;> simp [went]
theorem drop_two (s : ByteArray) (k : Nat) (h : k + 1 < s.size) : s.data.toList.drop k = s[k] :: s[k + 1] :: s.data.toList.drop (k + 2) := by
  have h' : k < s.data.toList.length := by simp; omega
  have h2 : k + 1 < s.data.toList.length := by simpa using h
  rw [List.drop_eq_getElem_cons h', List.drop_eq_getElem_cons h2]
  rfl
theorem u8_ne {c d : UInt8} (h : ¬ c = d) : ((c.toNat : Int) == (d.toNat : Int)) = false := by
  have : c.toNat ≠ d.toNat := fun e => h (UInt8.toNat_inj.1 e)
  simp; omega

set_option maxHeartbeats 4000000 in
theorem takeText_any (s : ByteArray) (hs : s.size ≤ 1000000) (w : World) :
    Calls Try.prog 33 #[.string s] w fun e w' => e = .returned (textRes (scanT s.data.toList)) ∧ Below w.heap.size w w' := by
  have hb0 : Below w.heap.size w (w.alloc (.cells #[.int .i64 0, .int .i64 0, .string E0] 33)) := (Below.refl _ _).alloc (Nat.le_refl _) _
  have hW0 : (w.alloc (.cells #[.int .i64 0, .int .i64 0, .string E0] 33)).heap.size = w.heap.size + 1 := by simp
  go_enter Try.func33, Try.ntmps33
  go_wp2
  go_step3
  go_wp2
  go_step3
  go_wp2
  go_loopw [5, 6] (fun u i wr => ∃ (k : Nat) (acc : List UInt8), k ≤ s.size ∧ i = .int .i64 k ∧ OwnB wr (w.heap.size + 1) u acc ∧ acc.length ≤ k ∧ scanT s.data.toList = went acc (scanT (s.data.toList.drop k)) ∧
      Below (w.heap.size + 1) (w.alloc (.cells #[.int .i64 0, .int .i64 0, .string E0] 33)) wr) (fun _ i _ => s.size - (intOf i).toNat)
  case atStart => exact ⟨0, [], Nat.zero_le _, rfl, OwnB.nil _ _, Nat.le_refl _, (went_nil _).symm, Below.refl _ _⟩
  case round =>
    obtain ⟨k, acc, hk, rfl, hr, hal, hsc, hbel⟩ := hrel
    have hsz : w.heap.size + 1 ≤ wr.heap.size := by have := hbel.size; omega
    have HS : Hid (scanT s.data.toList = went acc (scanT (s.data.toList.drop k))) := hsc
    have hq : (∀ o, wr.cell? ⟨w.heap.size, o, none⟩ = (w.alloc (.cells #[.int .i64 0, .int .i64 0, .string E0] 33)).cell? ⟨w.heap.size, o, none⟩) ∧ (∀ o, wr.frozen? ⟨w.heap.size, o, none⟩ = (w.alloc (.cells #[.int .i64 0, .int .i64 0, .string E0] 33)).frozen? ⟨w.heap.size, o, none⟩) :=
      ⟨fun o => hbel.cell (by simp), fun o => hbel.frozen (by simp)⟩
    clear hsc
    by_cases hlt : k + 1 < s.size
    · have HD : Hid (s.data.toList.drop k = s[k] :: s[k + 1] :: s.data.toList.drop (k + 2)) := drop_two s k hlt
      have HD1 : Hid (s.data.toList.drop (k + 1) = s[k + 1] :: s.data.toList.drop (k + 2)) := drop_succ s (k + 1) hlt
      have hk0 : k < s.size := by omega
      by_cases h0 : s[k] = 0
      · have t0 : ((s[k].toNat : Int) != 0) = false := by rw [h0]; rfl
        have H0 : Hid (s[k] = 0) := h0
        clear h0
        by_cases h1 : s[k + 1] = 255
        · have t1 : ((s[k + 1].toNat : Int) == 255) = true := by rw [h1]; rfl
          have H1 : Hid (s[k + 1] = 255) := h1
          clear h1 hb0 hW0 hq
          go_wp2_with (at_builtin; refine wpList_push (.tmp 31) (.tmp 32) rfl rfl rfl hr (by omega) [0] rfl rfl (by first | rfl | simp) (by simp; omega) ?_; intro v1 w1 hr1 hb1)
          go_roundw
          case rel => exact ⟨k + 2, acc ++ [0], by omega, by go_num, hr1, by simp; omega, by rw [HS.out, HD.out, scanT, if_pos H0.out, if_pos H1.out, went_step], hbel.trans hb1⟩
          case measure => simp [intOf]; omega
        · have t1 : ((s[k + 1].toNat : Int) == 255) = false := u8_ne (d := 255) h1
          have H1 : Hid (¬ s[k + 1] = 255) := h1
          clear h1
          by_cases h2 : s[k + 1] = 0
          · have t2 : ((s[k + 1].toNat : Int) == 0) = true := by rw [h2]; rfl
            have H2 : Hid (s[k + 1] = 0) := h2
            clear h2
            have hcv := run_string hr.drew
            have hex := extract_behind s (k + 2)
            have j1 : (k : Int) + 2 ≤ (s.size : Int) := by omega
            have j0 : (0 : Int) ≤ (k : Int) + 2 := by omega
            have j2 : ((k : Int) + 2).toNat = k + 2 := by omega
            have hsl : ∀ W : World, (Instr.slice 9 (.string s) (some (.int .i64 ((k : Int) + 2))) none none).run Try.prog W = .ok (.string (behind s (k + 2))) W := fun W => by rw [run_slice_string_from_if W 9 s .i64 _ Try.underlying9, if_pos ⟨j0, j1⟩, j2, hex]
            have hwk : IntKind.i64.wrap ((k : Int) + 2) = (k : Int) + 2 := by simp only [IntKind.wrap, IntKind.signed, IntKind.bits]; simp; omega
            go_wp2_with fail
            go_region_with (go_at_call 41; refine (text_any _ _).mono ?_; rintro e w1 ⟨rfl, hb1⟩; have hq1 : (∀ o, w1.cell? ⟨w.heap.size, o, none⟩ = wr.cell? ⟨w.heap.size, o, none⟩) ∧ (∀ o, w1.frozen? ⟨w.heap.size, o, none⟩ = wr.frozen? ⟨w.heap.size, o, none⟩) := ⟨fun o => (undrew hb1).cell (show w.heap.size < wr.heap.size by omega), fun o => (undrew hb1).frozen (show w.heap.size < wr.heap.size by omega)⟩)
            all_goals
              go_wp2_with fail
              rw [Exit.noGoto_ret]
              exact bodyPost_ret (v := .tuple #[V 3 0 ⟨acc.toArray⟩, .string (behind s (k + 2)), .bool true]) (by simp [results, Try.results33, go_sem, hq1, hq]) rfl ⟨by rw [HS.out, HD.out, scanT, if_pos H0.out, if_neg H1.out, if_pos H2.out]; simp [went, textRes, behind],
                bset3 (hb0.trans ((hbel.mono (Nat.le_succ _)).trans ((undrew hb1).mono (by omega)))) (Nat.le_refl _) _ _ _⟩
          · have t2 : ((s[k + 1].toNat : Int) == 0) = false := u8_ne (d := 0) h2
            have H2 : Hid (¬ s[k + 1] = 0) := h2
            clear h2
            go_wp2_with fail
            rw [Exit.noGoto_ret]
            exact bodyPost_ret (v := .tuple #[V 0 0 E0, .string E0, .bool false]) (by simp [results, Try.results33, go_sem, hq]) rfl ⟨by rw [HS.out, HD.out, scanT, if_pos H0.out, if_neg H1.out, if_neg H2.out]; rfl,
              bset3 (hb0.trans (hbel.mono (Nat.le_succ _))) (Nat.le_refl _) _ _ _⟩
      · have t0 : ((s[k].toNat : Int) != 0) = true := by have h : s[k].toNat ≠ 0 := fun e => h0 (UInt8.toNat_inj.1 e)
                                                         simp; omega
        have H0 : Hid (¬ s[k] = 0) := h0
        clear h0 hb0 hW0 hq
        go_wp2_with (at_builtin; refine wpList_push (.tmp 17) (.tmp 21) rfl rfl rfl hr (by omega) [s[k]] rfl rfl (by first | rfl | simp) (by simp; omega) ?_; intro v1 w1 hr1 hb1)
        go_roundw
        case rel => exact ⟨k + 1, acc ++ [s[k]], by omega, by go_num, hr1, by simp; omega, by rw [HS.out, HD.out, scanT, if_neg H0.out, went_step, HD1.out], hbel.trans hb1⟩
        case measure => simp [intOf]; omega
    · have HN : Hid (scanT (s.data.toList.drop k) = none) := by
        show scanT (s.data.toList.drop k) = none
        have hl : (s.data.toList.drop k).length ≤ 1 := by simp; omega
        match s.data.toList.drop k, hl with
        | [], _ => rfl
        | [_], _ => rfl
      go_wp2_with fail
      rw [Exit.noGoto_ret]
      exact bodyPost_ret (v := .tuple #[V 0 0 E0, .string E0, .bool false]) (by simp [results, Try.results33, go_sem, hq]) rfl ⟨by rw [HS.out, HN.out]; rfl,
        bset3 (hb0.trans (hbel.mono (Nat.le_succ _))) (Nat.le_refl _) _ _ _⟩

end Go.Proofs.Ythbmcfbchomckaa
