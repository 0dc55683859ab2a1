/- Contract of the program's pairUp. -/
import Derived.Test.YtobbomdknahicaaLatTurn
namespace Go.Proofs.Ytobbomdknahicaa
open Go.RowKit Go.Sort

/-- In a region that draws its order: a whole array is read. -/
theorem wpQuiet_load_mid {ops : Array Oper} {C : World → Prop} {Q : Act → Prop} {a : Act} {o : Oper} {rest : List Oper} (hw : Region.wanted o (yielded ops a.tmps) = true) (ty : TypeId) (x : Operand) (ho : o.op = .load ty x)
    (b off : Nat) (hx : a.eval x = .pointer (some ⟨b, off, none⟩)) (cs : List Value) (d : TypeDesc) (hC : ∀ w, C w → w.rangeAt b off cs)
    (hu : Try.prog.underlying ty = some d) (hd : d.isRow = true) (hi : (Try.prog.info? ty).map (·.size) = some cs.length)
    (h : wpQuiet Try.prog ops C Q rest (a.put o.dst (.agg cs.toArray))) : wpQuiet Try.prog ops C Q (o :: rest) a :=
  BigFrame.wpQuiet_want hw fun K hK => ⟨.agg cs.toArray, fun w hw' => by
    unfold Oper.quietAt execOp
    simp only [ho, hx, Instr.loadAt, Instr.sureAddr, Sem.run_bind, Sem.run_pure, Result.andThen_ok, run_loadVar_mid w b off ty cs d (hC w hw') hu hd hi]
    exact ⟨rfl, rfl⟩, hK _ h⟩

/-- Have all pairs a join and a meet? -/
def pairsB (n : Nat) (F G : Nat → Nat → Int) : Bool := (List.range n).all fun a => (List.range n).all fun b => decide (0 ≤ F a b) && decide (0 ≤ G a b)
theorem pairsB_iff {n : Nat} {F G : Nat → Nat → Int} : pairsB n F G = true ↔ ∀ a b, a < n → b < n → 0 ≤ F a b ∧ 0 ≤ G a b := by
  simp only [pairsB, List.all_eq_true, List.mem_range, Bool.and_eq_true, decide_eq_true_eq]
  exact ⟨fun h a b ha hb => h a ha b hb, fun h a ha b hb => h a b ha hb⟩
theorem pairsB_false {n a b : Nat} {F G : Nat → Nat → Int} (ha : a < n) (hb : b < n) (h : F a b < 0 ∨ G a b < 0) : pairsB n F G = false := by
  cases c : pairsB n F G with
  | false => rfl
  | true => have := pairsB_iff.1 c a b ha hb; omega
theorem pairsB_true {n : Nat} {F G J M : Nat → Nat → Int} (h : PairP n F G J M n 0) : pairsB n F G = true :=
  pairsB_iff.2 fun a b ha hb => (h a b ha hb (.inl ha)).2.2

set_option maxRecDepth 100000 in
set_option maxHeartbeats 4000000 in
theorem pairUp_any (w : World) (q n cap : Nat) (ao : Option Addr) (pv : Value) (A B : Nat → Nat) (J M : Nat → Nat → Int) (bt tp : Int)
    (hq : LatW w q (.slice ao n cap) pv A B J M bt tp) (hn : n ≤ 16) (hA : ∀ x, A x < 65536) (hB : ∀ x, B x < 65536) (F G : Nat → Nat → Int) (hF : ∀ a b, firstM (A a &&& A b) A = F a b) (hG : ∀ a b, firstM (B a &&& B b) B = G a b) :
    Calls Try.prog 36 #[.pointer (some ⟨q, 0, none⟩)] w fun e w' => e = .returned (.bool (pairsB n F G)) ∧ w.grownBy w' (some q) ∧
      (pairsB n F G = true → ∃ J' M', LatW w' q (.slice ao n cap) pv A B J' M' bt tp ∧ PairP n F G J' M' n 0) := by
  have c0 := hq.names
  go_enter Try.func36, Try.ntmps36
  go_wp2_with fail
  go_loopw [12] (fun i wr => ∃ (k : Nat) (J M : Nat → Nat → Int), k ≤ n ∧ i = .int .i64 k ∧ w.grownBy wr (some q) ∧ LatW wr q (.slice ao n cap) pv A B J M bt tp ∧ PairP n F G J M k 0) (fun i _ => n - (intOf i).toNat)
  case atStart => exact ⟨0, J, M, Nat.zero_le _, rfl, grown_refl _ _, hq, PairP.start n F G J M⟩
  case round =>
    clear hq c0
    obtain ⟨k, J, M, hkl, rfl, hgr, hqr, htp⟩ := hrel
    by_cases hk : k < n
    · have i0 : (0 : Int) ≤ (k : Int) := by omega
      have i1 : (k : Int) < 16 := by omega
      have c1 := hqr.names
      obtain ⟨wx, hwx⟩ : ∃ x, x = wr := ⟨_, rfl⟩
      rw [← hwx] at hgr hqr c1 ⊢
      clear hwx
      go_wp2_with fail
      go_loopw [20] (fun i wr => ∃ (j : Nat) (J M : Nat → Nat → Int), j ≤ n ∧ i = .int .i64 j ∧ w.grownBy wr (some q) ∧ LatW wr q (.slice ao n cap) pv A B J M bt tp ∧ PairP n F G J M k j) (fun i _ => n - (intOf i).toNat)
      case atStart => exact ⟨0, J, M, Nat.zero_le _, rfl, hgr, hqr, htp⟩
      case round =>
        clear hgr hqr htp c1 wx J M
        obtain ⟨j, J, M, hjl, rfl, hgr, hqr, htp⟩ := hrel
        by_cases hj : j < n
        · have j0 : (0 : Int) ≤ (j : Int) := by omega
          have j1 : (j : Int) < 16 := by omega
          have a1 := cell_regrown (hqr.above (a := k) (by omega))
          have a2 := cell_regrown (hqr.above (a := j) (by omega))
          have hand1 := u32_and_nat (A k) (A j) (by have := hA k; omega) (by have := hA j; omega)
          have hlt1 : A k &&& A j < 65536 := Nat.lt_of_le_of_lt Nat.and_le_left (hA k)
          have f1 : ∀ d os, Calls Try.prog 37 #[.int .u32 ((A k &&& A j : Nat) : Int), .agg (maskCells A).toArray] (grow (redrawn wr d) os) fun e w' => e = .returned (.int .i64 (F k j)) ∧ Below (grow (redrawn wr d) os).heap.size (grow (redrawn wr d) os) w' := fun d os => by
            rw [← hF k j]; exact first_any _ _ A hlt1 hA
          have r1 : ∀ w', (∃ p : Regrown, w' = grow (redrawn wr p.d) p.os) → w'.rangeAt q 2 (maskCells A) := by
            rintro _ ⟨⟨d, os⟩, rfl⟩
            exact (hqr.keep (below_regrown wr d os)).aboves
          go_wp2_with fail
          refine wp_region_quiet_below (by kernel_rfl) (by kernel_rfl) ?_
          iterate 16 (first | go_big_quiet_step (fail) | quiet_step (fail))
          refine wpQuiet_load_mid rfl 55 (.tmp 38) rfl q 2 rfl (maskCells A) _ r1 under_masks rfl (by rw [maskCells_length]; exact size_masks) ?_
          go_simp
          iterate 2 (first | go_big_quiet_step (exact Calls.regrown_of (f1 _ _)) | quiet_step (exact Calls.regrown_of (f1 _ _)))
          refine wpQuiet_nil ?_
          rintro ⟨dq, osq⟩
          dsimp only
          have hb1 := below_regrown wr dq osq
          replace hqr := hqr.keep hb1
          replace hgr := grown_below hgr hb1
          generalize grow (redrawn wr dq) osq = w1 at hqr hgr ⊢
          clear hb1 a1 a2 hand1 hlt1 f1 r1 wr
          have a1 := cell_regrown (hqr.below (a := k) (by omega))
          have a2 := cell_regrown (hqr.below (a := j) (by omega))
          have hand1 := u32_and_nat (B k) (B j) (by have := hB k; omega) (by have := hB j; omega)
          have hlt1 : B k &&& B j < 65536 := Nat.lt_of_le_of_lt Nat.and_le_left (hB k)
          have f1 : ∀ d os, Calls Try.prog 37 #[.int .u32 ((B k &&& B j : Nat) : Int), .agg (maskCells B).toArray] (grow (redrawn w1 d) os) fun e w' => e = .returned (.int .i64 (G k j)) ∧ Below (grow (redrawn w1 d) os).heap.size (grow (redrawn w1 d) os) w' := fun d os => by
            rw [← hG k j]; exact first_any _ _ B hlt1 hB
          have r1 : ∀ w', (∃ p : Regrown, w' = grow (redrawn w1 p.d) p.os) → w'.rangeAt q 18 (maskCells B) := by
            rintro _ ⟨⟨d, os⟩, rfl⟩
            exact (hqr.keep (below_regrown w1 d os)).belows
          go_wp2_with fail
          refine wp_region_quiet_below (by kernel_rfl) (by kernel_rfl) ?_
          iterate 16 (first | go_big_quiet_step (fail) | quiet_step (fail))
          refine wpQuiet_load_mid rfl 55 (.tmp 56) rfl q 18 rfl (maskCells B) _ r1 under_masks rfl (by rw [maskCells_length]; exact size_masks) ?_
          go_simp
          iterate 2 (first | go_big_quiet_step (exact Calls.regrown_of (f1 _ _)) | quiet_step (exact Calls.regrown_of (f1 _ _)))
          refine wpQuiet_nil ?_
          rintro ⟨dq, osq⟩
          dsimp only
          have hb1 := below_regrown w1 dq osq
          replace hqr := hqr.keep hb1
          replace hgr := grown_below hgr hb1
          generalize grow (redrawn w1 dq) osq = w2 at hqr hgr ⊢
          clear hb1 a1 a2 hand1 hlt1 f1 r1 w1
          have HFG : Hid ((F k j < 0 ∨ G k j < 0) → pairsB n F G = false) := fun h => pairsB_false hk hj h
          have HNEW : Hid (0 ≤ F k j → 0 ≤ G k j → PairP n F G (setJ J k j (F k j)) (setJ M k j (G k j)) k (j + 1)) := fun h1 h2 => htp.more h1 h2
          clear htp
          obtain ⟨x, hx⟩ : ∃ x, x = F k j := ⟨_, rfl⟩
          obtain ⟨y, hy⟩ : ∃ y, y = G k j := ⟨_, rfl⟩
          rw [← hx, ← hy] at HFG HNEW ⊢
          clear hx hy hF hG
          by_cases hx0 : x < 0
          · go_wp2_with fail
            go_ret
            rw [HFG.out (.inl hx0)]
            exact ⟨rfl, hgr, fun h => by cases h⟩
          by_cases hy0 : y < 0
          · go_wp2_with fail
            go_ret
            rw [HFG.out (.inr hy0)]
            exact ⟨rfl, hgr, fun h => by cases h⟩
          have HP := HNEW.out (by omega) (by omega)
          clear HNEW HFG
          have cj := hqr.joins (a := k) (b := j) (by omega) (by omega)
          have fj := hqr.frozen (34 + k * 16 + j)
          have cm := hqr.meets (a := k) (b := j) (by omega) (by omega)
          have fm := hqr.frozen (290 + k * 16 + j)
          go_wp2_with fail
          go_region
          go_wp2_with fail
          go_roundw
          case rel =>
            exact ⟨j + 1, _, _, by omega, by go_num, grown_drew (grown_trans (grown_trans hgr (grown_set _ _ _ _)) (grown_set _ _ _ _)), ((hqr.setJoin (x := k) (y := j) (by omega) (by omega) x).setMeet (x := k) (y := j) (by omega) (by omega) y).drew, HP⟩
          case measure => simp [intOf]; omega
        · have hjn : j = n := by omega
          subst hjn
          have hnew := htp.row
          clear hF hG
          go_wp2_with fail
          go_roundw
          case rel => exact ⟨k + 1, J, M, by omega, by go_num, hgr, hqr, hnew⟩
          case measure => simp [intOf]; omega
    · have hkn : k = n := by omega
      subst hkn
      have HX : Hid (pairsB k F G = true) := pairsB_true htp
      clear hF hG
      go_wp2_with fail
      go_ret
      exact ⟨by rw [HX.out]; rfl, hgr, fun _ => ⟨J, M, hqr, htp⟩⟩

end Go.Proofs.Ytobbomdknahicaa
