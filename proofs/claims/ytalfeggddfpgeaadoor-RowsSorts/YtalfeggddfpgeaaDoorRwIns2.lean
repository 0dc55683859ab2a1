/- The library's sort by insertion, of places. -/
import Derived.Test.YtalfeggddfpgeaaDoorRwIns
import Derived.Test.YtalfeggddfpgeaaDoorRwShelf
namespace Go.Proofs.YtalfeggddfpgeaaDoor
open Go.RowKit Go.Sort

def natCells (P : List Nat) : List Value := P.map fun k : Nat => Value.int .i64 (k : Int)
/-- The places that are sorted. -/
def DataAt (w : World) (base g cap n : Nat) (P : List Nat) : Prop := P.length = n ∧ base ≤ g ∧ Own1 w base 3 (.slice (some ⟨g, 0, none⟩) n cap) (natCells P)
theorem DataAt.cell {w : World} {base g cap n : Nat} {P : List Nat} (h : DataAt w base g cap n P) {k : Nat} (hk : k < n) : w.cell? ⟨g, k, none⟩ = some (.int .i64 (nth P k : Int)) ∧ w.frozen? ⟨g, k, none⟩ = false := by
  obtain ⟨h1, _, h2⟩ := h
  have hk' : k < (natCells P).length := by simp [natCells]; omega
  have := h2.cellAt hk'
  rw [nth_get (by omega)]
  simpa [natCells] using this
theorem DataAt.keep {w w' : World} {base g cap n : Nat} {P : List Nat} (h : DataAt w base g cap n P) (k : Below w.heap.size w w') : DataAt w' base g cap n P := ⟨h.1, h.2.1, h.2.2.keep k⟩
theorem DataAt.stored {w : World} {base g cap n : Nat} {P : List Nat} (h : DataAt w base g cap n P) (i x : Nat) : DataAt (w.setCell ⟨g, i, none⟩ (.int .i64 (x : Int))) base g cap n (P.set i x) := by
  obtain ⟨h1, h0, h2⟩ := h
  refine ⟨by simpa using h1, h0, ?_⟩
  have hl : (natCells P).length = n := by simp [natCells, h1]
  have h2' : Own1 w base 3 (.slice (some ⟨g, 0, none⟩) (natCells P).length cap) (natCells P) := by rw [hl]; exact h2
  have := h2'.stored i (.int .i64 (x : Int))
  rw [hl] at this
  have e : (natCells P).set i (.int .i64 (x : Int)) = natCells (P.set i x) := by simp [natCells, List.map_set]
  rw [e] at this
  exact this
theorem DataAt.swap {w : World} {base g cap n : Nat} {P : List Nat} (h : DataAt w base g cap n P) (i j : Nat) :
    DataAt ((w.setCell ⟨g, i, none⟩ (.int .i64 (nth P j : Int))).setCell ⟨g, j, none⟩ (.int .i64 (nth P i : Int))) base g cap n (swp P i j) := (h.stored i (nth P j)).stored j (nth P i)
theorem grownBy_set {w0 w : World} {g i : Nat} {x : Value} (h : w0.grownBy w (some g)) : w0.grownBy (w.setCell ⟨g, i, none⟩ x) (some g) :=
  ⟨h.os, h.tape, h.output, by have := h.size; simpa using this, fun k hk hne => (heap_setCell_other w ⟨g, i, none⟩ k x (fun e => hne (by simp [e]))).trans (h.block k hk hne)⟩
theorem grownBy_below {w0 w w1 : World} {row : Option Nat} (h : w0.grownBy w row) (k : Below w.heap.size w w1) : w0.grownBy w1 row :=
  ⟨k.os.trans h.os, k.tape.trans h.tape, k.output.trans h.output, Nat.le_trans h.size k.size, fun i hi hne => (k.block i (Nat.lt_of_lt_of_le hi h.size)).trans (h.block i hi hne)⟩
theorem grownBy_drew {w0 w : World} {row : Option Nat} (h : w0.grownBy w row) : w0.grownBy w.drew row := ⟨h.os, h.tape, h.output, h.size, h.block⟩
theorem grownBy_refl (w : World) (row : Option Nat) : w.grownBy w row := ⟨rfl, rfl, rfl, Nat.le_refl _, fun _ _ _ => rfl⟩
/-- The comparison answers so, wherever nothing but the places has turned. -/
def CmpOK (w0 : World) (g n K : Nat) (cb : Array Value) (cf : Nat → Nat → Int) : Prop :=
  ∀ w', w0.grownBy w' (some g) → ∀ p q, p < n → q < n → Calls Tryd.prog K (#[.int .i64 (p : Int), .int .i64 (q : Int)] ++ cb) w' fun e w'' => e = .returned (.int .i64 (cf p q)) ∧ Below w'.heap.size w' w''

theorem nth_lt {P Q : List Nat} {n k : Nat} (hp : P.Perm Q) (h : ∀ x ∈ Q, x < n) (hk : k < P.length) : nth P k < n := by
  rw [nth_get hk]
  exact h _ (hp.mem_iff.1 (List.getElem_mem hk))

set_option maxHeartbeats 4000000 in
theorem ins_any (w0 w : World) (base g cap n K a b : Nat) (cb : Array Value) (cf : Nat → Nat → Int) (P : List Nat) (hd : DataAt w base g cap n P) (hg : w0.grownBy w (some g)) (hcmp : CmpOK w0 g n K cb cf) (hK : ∀ a w, (callFunc K a).run Tryd.prog w = .ok (.enter K a) w)
    (hc : Pre cf) (hn : n ≤ 1000) (hab : a ≤ b) (hbn : b ≤ n) (hinc : ∀ k l, a ≤ k → k < l → l < b → nth P k < nth P l) (hlt : ∀ x ∈ P, x < n) :
    Calls Tryd.prog 35 #[.slice (some ⟨g, 0, none⟩) n cap, .int .i64 a, .int .i64 b, .func (.func K) #[] cb] w fun e w' => e = .returned (.tuple #[]) ∧ ∃ P', DataAt w' base g cap n P' ∧ P'.Perm P ∧ SameOut P' P a b ∧ SortedOn cf P' a b ∧ w0.grownBy w' (some g) := by
  have HO0 : Aside (Out cf P a b (a + 1)) := Out.start (by rw [hd.1]; exact hbn) hinc
  have HCM : Aside _ := hcmp
  have HLT : Aside _ := hlt
  have HC : Aside _ := hc
  clear hinc hcmp hlt hc
  go_enter Tryd.func35, Tryd.ntmps35
  go_wp2_with fail
  go_loopw [8] (fun vi wr => ∃ (i : Nat) (Q : List Nat), vi = .int .i64 i ∧ Out cf Q a b i ∧ DataAt wr base g cap n Q ∧ Q.Perm P ∧ SameOut Q P a b ∧ w0.grownBy wr (some g)) (fun vi _ => b + 1 - (intOf vi).toNat)
  case atStart => exact ⟨a + 1, P, by go_num, HO0.out, hd, List.Perm.refl _, fun k _ => rfl, hg⟩
  case round =>
    obtain ⟨i, Q, rfl, hout, hdq, hperm, hso, hgr⟩ := hrel
    clear hd hg
    have hai := hout.ai
    have hQl : Q.length = n := hdq.1
    by_cases hib : i < b
    · have hibz : decide ((i : Int) < (b : Int)) = true := by simp; omega
      have HI0 : Aside (Ins cf Q a b i i) := hout.inner hib
      have HR : Aside (∀ k l, i < k → k < l → l < b → nth Q k < nth Q l) := fun k l h1 h2 h3 => hout.R k l (by omega) h2 h3
      obtain ⟨wx, rfl⟩ : ∃ x, x = wr := ⟨_, rfl⟩
      have HD0 : Aside _ := And.intro hdq (And.intro hperm (And.intro hso hgr))
      clear hout hdq hperm hso hgr
      go_wp2_with fail
      go_loopw [9] (fun vj wr => ∃ (j : Nat) (Q1 : List Nat), vj = .int .i64 j ∧ Ins cf Q1 a b i j ∧ (∀ k, i < k → nth Q1 k = nth Q k) ∧ DataAt wr base g cap n Q1 ∧ Q1.Perm P ∧ SameOut Q1 P a b ∧ w0.grownBy wr (some g)) (fun vj _ => (intOf vj).toNat)
      case atStart => exact ⟨i, Q, rfl, HI0.out, fun _ _ => rfl, HD0.out.1, HD0.out.2.1, HD0.out.2.2.1, HD0.out.2.2.2⟩
      case round =>
        obtain ⟨j, Q1, rfl, hins, hsm, hd1, hp1, hso1, hg1⟩ := hrel
        clear HI0 HD0
        have haj := hins.aj
        have hji := hins.ji
        have hQl1 : Q1.length = n := hd1.1
        by_cases hja : a < j
        · obtain ⟨j, rfl⟩ : ∃ j', j = j' + 1 := ⟨j - 1, by omega⟩
          have hpx := nth_lt hp1 HLT.out (show j + 1 < Q1.length by omega)
          have hqx := nth_lt hp1 HLT.out (show j < Q1.length by omega)
          obtain ⟨c1, f1⟩ := hd1.cell (show j + 1 < n by omega)
          obtain ⟨c2, f2⟩ := hd1.cell (show j < n by omega)
          have cc1 : ∀ d os, (grow (redrawn wr d) os).cell? ⟨g, j + 1, none⟩ = some (.int .i64 (nth Q1 (j + 1) : Int)) := fun d os => cell_regrown c1 d os
          have cc2 : ∀ d os, (grow (redrawn wr d) os).cell? ⟨g, j, none⟩ = some (.int .i64 (nth Q1 j : Int)) := fun d os => cell_regrown c2 d os
          have hcl : Aside (∀ d os, Calls Tryd.prog K (#[.int .i64 (nth Q1 (j + 1) : Int), .int .i64 (nth Q1 j : Int)] ++ cb) (grow (redrawn wr d) os) fun e w'' => e = .returned (.int .i64 (cf (nth Q1 (j + 1)) (nth Q1 j))) ∧ Below (grow (redrawn wr d) os).heap.size (grow (redrawn wr d) os) w'') := fun d os => HCM.out _ (grownBy_below hg1 (below_regrown ..)) _ _ hpx hqx
          have HST : Aside (cf (nth Q1 (j + 1)) (nth Q1 j) < 0 → Ins cf (swp Q1 (j + 1) j) a b i j) := fun h => hins.step (by omega) h
          have HDN : Aside (¬ cf (nth Q1 (j + 1)) (nth Q1 j) < 0 → Out cf Q1 a b (i + 1)) := fun h => hins.done HC.out (fun k l x1 x2 x3 => by rw [hsm k (by omega), hsm l (by omega)]; exact HR.out k l x1 x2 x3) (.inr (by simpa using h))
          have HW : Aside _ := And.intro hd1 (And.intro hp1 (And.intro hso1 (And.intro hg1 hsm)))
          have HSW : Aside (∀ w, DataAt w base g cap n Q1 → DataAt ((w.setCell ⟨g, j + 1, none⟩ (.int .i64 (nth Q1 j : Int))).setCell ⟨g, j, none⟩ (.int .i64 (nth Q1 (j + 1) : Int))) base g cap n (swp Q1 (j + 1) j)) := fun w h => h.swap (j + 1) j
          have HPM : Aside ((swp Q1 (j + 1) j).Perm P) := (swp_perm (by omega) (by omega)).trans hp1
          have HSS : Aside (SameOut (swp Q1 (j + 1) j) P a b) := fun k hk => by
            rw [nth_swp (by omega) (by omega), if_neg (by omega), if_neg (by omega)]; exact hso1 k hk
          have HSM : Aside (∀ k, i < k → nth (swp Q1 (j + 1) j) k = nth Q k) := fun k hk => by
            rw [nth_swp (by omega) (by omega), if_neg (by omega), if_neg (by omega)]; exact hsm k hk
          have hjaz : decide ((a : Int) < (j : Int) + 1) = true := by simp; omega
          have hwp : IntKind.i64.wrap (j : Int) = (j : Int) := by rw [IntKind.wrap_i64]; omega
          have jz : (j : Int) + 1 < (n : Int) := by omega
          have jz1 : (j : Int) < (n : Int) := by omega
          have p0 : (0 : Int) ≤ (j : Int) + 1 := by omega
          have e0 : ((j : Int) + 1).toNat = j + 1 := by omega
          clear hins hd1 hp1 hso1 hg1 hsm
          generalize nth Q1 (j + 1) = e at *
          generalize nth Q1 j = y at *
          go_wp2_with fail
          refine wp_region_quiet_below (by kernel_rfl) (by kernel_rfl) ?_
          repeat (first | go_big_quiet_step (exact Calls.regrown_of (hcl.out _ _)) | quiet_step (exact Calls.regrown_of (hcl.out _ _)))
          refine wpQuiet_nil ?_
          rintro _ ⟨⟨dq, osq⟩, rfl⟩
          have hb := below_regrown wr dq osq
          generalize grow (redrawn wr dq) osq = w1 at hb ⊢
          have d1 := cell_keep c1 hb
          have d2 := cell_keep c2 hb
          have g1 := ((bcell hb).2 g (j + 1) (block_lt_of_cell c1)).trans f1
          have g2 := ((bcell hb).2 g j (block_lt_of_cell c2)).trans f2
          have ng : ¬ j + 1 = j := by omega
          clear cc1 cc2 hcl c1 c2 f1 f2
          by_cases hz : cf e y < 0
          · have hzb : decide (cf e y < 0) = true := by simpa using hz
            go_wp2_with fail
            go_region
            · go_wp2_with fail
              go_roundw
              case rel => exact ⟨j, swp Q1 (j + 1) j, by go_num, HST.out hz, HSM.out, HSW.out _ (HW.out.1.keep hb), HPM.out, HSS.out, grownBy_drew (grownBy_set (grownBy_set (grownBy_below HW.out.2.2.2.1 hb)))⟩
              case measure => simp [intOf]
          · have hzb : decide (cf e y < 0) = false := by simpa using hz
            go_wp2_with fail
            go_roundw
            case rel => exact ⟨i + 1, Q1, by go_num, HDN.out (by omega), HW.out.1.keep hb, HW.out.2.1, HW.out.2.2.1, grownBy_below HW.out.2.2.2.1 hb⟩
            case measure => simp [intOf]; omega
        · have hje : j = a := by omega
          subst hje
          have hjz : decide ((j : Int) < (j : Int)) = false := by simp
          go_wp2_with fail
          refine wp_region_quiet_below (by kernel_rfl) (by kernel_rfl) ?_
          repeat (first | go_big_quiet_step (fail) | quiet_step (fail))
          refine wpQuiet_nil ?_
          rintro _ ⟨⟨dq, osq⟩, rfl⟩
          have hb := below_regrown wr dq osq
          generalize grow (redrawn wr dq) osq = w1 at hb ⊢
          go_wp2_with fail
          go_roundw
          case rel => exact ⟨i + 1, Q1, by go_num, hins.done HC.out (fun k l x1 x2 x3 => by rw [hsm k (by omega), hsm l (by omega)]; exact HR.out k l x1 x2 x3) (.inl rfl), hd1.keep hb, hp1, hso1, grownBy_below hg1 hb⟩
          case measure => simp [intOf]; omega
    · have hibz : decide ((i : Int) < (b : Int)) = false := by simp; omega
      go_wp2_with fail
      go_end0
      exact ⟨rfl, Q, hdq, hperm, hso, fun k l h1 h2 h3 => hout.S k l h1 h2 (by omega), hgr⟩

end Go.Proofs.YtalfeggddfpgeaaDoor
