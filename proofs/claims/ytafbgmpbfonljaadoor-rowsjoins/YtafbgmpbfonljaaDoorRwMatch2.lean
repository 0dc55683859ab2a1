/- Match: the program's. -/
import Derived.Test.YtafbgmpbfonljaaDoorRwMatch
namespace Go.Proofs.YtafbgmpbfonljaaDoor
open Go.RowKit Go.Sort

/-- The rows of a list by what they are joined by, with their places. -/
def jps (B : List Row) (j : Int) : Nat → List (Nat × Row)
  | 0 => []
  | k + 1 => jps B j k ++ (match jb (B.getD k []) j with | none => [] | some e => [(k, [e])])
/-- The pairs of the first k rows, and of row k with those of the second list below q. -/
def mtR (A B : List Row) (i j : Int) : Nat → List (Int × Int)
  | 0 => []
  | k + 1 => mtR A B i j k ++ (match jb (A.getD k []) i with | none => [] | some e => (plc (jps B j B.length) [e]).map fun n => ((k : Int), n))
def mtP (A B : List Row) (i j : Int) (k q : Nat) : List (Int × Int) := mtR A B i j k ++ (match jb (A.getD k []) i with | none => [] | some e => (plc (jps B j q) [e]).map fun n => ((k : Int), n))
theorem jps_length (B : List Row) (j : Int) : ∀ k, (jps B j k).length ≤ k
  | 0 => by simp [jps]
  | k + 1 => by
    have := jps_length B j k
    rw [jps, List.length_append]
    split <;> simp <;> omega
theorem getD_mem {B : List Row} {k : Nat} {e : Ent} {j : Int} (h : jb (B.getD k []) j = some e) : B.getD k [] ∈ B := by
  by_cases c : k < B.length
  · rw [show B.getD k [] = B[k] by simp [List.getD, c]]; exact List.getElem_mem c
  · rw [show B.getD k [] = [] by simp [List.getD, List.getElem?_eq_none (Nat.le_of_not_lt c)]] at h
    have := jb_mem h
    cases this
theorem jps_right {B : List Row} (hB : RightL B) (j : Int) : ∀ k, ∀ x ∈ jps B j k, RightR x.2
  | 0, x, h => by simp [jps] at h
  | k + 1, x, h => by
    rw [jps] at h
    rcases List.mem_append.1 h with h | h
    · exact jps_right hB j k x h
    · split at h
      · cases h
      · rename_i e he
        rw [List.mem_singleton.1 h]
        exact right_one (hB _ (getD_mem he)).1 (jb_mem he)
theorem plc_length (ps : List (Nat × Row)) (r : Row) : (plc ps r).length ≤ ps.length := by
  unfold plc; rw [List.length_map]; exact List.length_filter_le ..
theorem mtR_length (A B : List Row) (i j : Int) : ∀ k, (mtR A B i j k).length ≤ k * B.length
  | 0 => by simp [mtR]
  | k + 1 => by
    have := mtR_length A B i j k
    rw [mtR, List.length_append, Nat.succ_mul]
    split
    · simp; omega
    · rename_i e _
      have := plc_length (jps B j B.length) [e]
      have := jps_length B j B.length
      simp; omega

def pairCells (ps : List (Int × Int)) : List Value := ps.flatMap fun p => [.int .i64 p.1, .int .i64 p.2]
theorem pairCells_append (l m : List (Int × Int)) : pairCells (l ++ m) = pairCells l ++ pairCells m := by simp [pairCells]
theorem pairCells_length (l : List (Int × Int)) : (pairCells l).length = l.length * 2 := by
  induction l with
  | nil => rfl
  | cons e l ih =>
    have : pairCells (e :: l) = [.int .i64 e.1, .int .i64 e.2] ++ pairCells l := rfl
    rw [this, List.length_append, ih]
    simp; omega
theorem pairCells_one {u : Value} {l : List (Int × Int)} (h : u ∈ pairCells l) : u.oneCell' = true := by
  simp only [pairCells, List.mem_flatMap, List.mem_cons, List.not_mem_nil, or_false] at h
  obtain ⟨e, _, rfl | rfl⟩ := h <;> rfl
theorem pairCells_get : ∀ (l : List (Int × Int)) (i : Nat) (h : i < l.length), (pairCells l)[i * 2]? = some (.int .i64 l[i].1) ∧ (pairCells l)[i * 2 + 1]? = some (.int .i64 l[i].2)
  | e :: l, 0, _ => ⟨rfl, rfl⟩
  | e :: l, i + 1, h => by
    obtain ⟨h1, h2⟩ := pairCells_get l i (by simpa using h)
    have hc : pairCells (e :: l) = .int .i64 e.1 :: .int .i64 e.2 :: pairCells l := rfl
    have e1 : (i + 1) * 2 = i * 2 + 1 + 1 := by omega
    rw [hc, e1]
    refine ⟨?_, ?_⟩
    · simpa using h1
    · rw [show i * 2 + 1 + 1 + 1 = (i * 2 + 1) + 1 + 1 from rfl]; simpa using h2
theorem info_Q : (Tryd.prog.info? 38).map (fun i => (i.zero, i.size, i.bytes)) = some (some (.agg #[.int .i64 0, .int .i64 0]), 2, 16) := by kernel_rfl
/-- v is a slice of pairs of the calls' own, in a block from base on, and holds ps. -/
def OwnQ (w : World) (base : Nat) (v : Value) (ps : List (Int × Int)) : Prop := w.ownsRow base 38 2 v ps.length (pairCells ps)
theorem OwnQ.nil (w : World) (base : Nat) : OwnQ w base (.slice none 0 0) [] := World.ownsRow_nil _ _ _ _
theorem OwnQ.keep {w w' : World} {base : Nat} {v : Value} {l : List (Int × Int)} (h : OwnQ w base v l) (k : Below w.heap.size w w') : OwnQ w' base v l :=
  World.ownsRow.kept h (grownBy_of_below k) (by cases hv : v.ownBlock <;> simp)
/-- v is a slice of pairs and holds ps. -/
def LiesQ (w : World) (v : Value) (ps : List (Int × Int)) : Prop :=
  ∃ ao cap, v = .slice ao ps.length cap ∧ ∀ i (h : i < ps.length), ∃ b off, ao = some ⟨b, off, none⟩ ∧ w.cell? ⟨b, off + i * 2, none⟩ = some (.int .i64 ps[i].1) ∧ w.cell? ⟨b, off + i * 2 + 1, none⟩ = some (.int .i64 ps[i].2)
theorem LiesQ.keep {w w' : World} {v : Value} {ps : List (Int × Int)} (h : LiesQ w v ps) (k : Below w.heap.size w w') : LiesQ w' v ps := by
  obtain ⟨ao, cap, rfl, hc⟩ := h
  refine ⟨ao, cap, rfl, fun i hi => ?_⟩
  obtain ⟨b, off, h0, h1, h2⟩ := hc i hi
  exact ⟨b, off, h0, cell_keep h1 k, cell_keep h2 k⟩
theorem OwnQ.lies {w : World} {base : Nat} {v : Value} {l : List (Int × Int)} (h : OwnQ w base v l) : LiesQ w v l := by
  rcases h.2 with ⟨rfl, h0⟩ | ⟨g, cap, cur, rfl, hrest⟩
  · have : l = [] := List.eq_nil_of_length_eq_zero h0
    subst this
    exact ⟨none, 0, rfl, fun i hi => absurd hi (by simp)⟩
  · refine ⟨_, cap, rfl, fun i hi => ⟨g, 0, rfl, ?_⟩⟩
    obtain ⟨h1, h2⟩ := pairCells_get l i hi
    have hadd : ∀ j, (⟨g, 0, none⟩ : Addr).add j = ⟨g, 0 + j, none⟩ := fun j => by unfold Addr.add; split <;> simp_all
    refine ⟨?_, ?_⟩
    · rw [← hadd]; exact World.ownsRow.cells h (g := g) rfl _ _ h1
    · rw [Nat.add_assoc, ← hadd]; exact World.ownsRow.cells h (g := g) rfl _ _ h2
/-- One append of a pair that lies in a new block. -/
theorem wpList_pushQ {ops : Array Oper} {rest : List Oper} {o : Oper} {a : Act} {Q : Exit → Act → World → Prop} {w : World} {base : Nat} {v : Value} {l : List (Int × Int)} {C : Array Value} {H : Nat}
    (s x : Operand) (hgd : o.guard = none) (ho : o.op = .call { callee := .builtin .append, args := #[s, x], argTypes := #[36, 36] })
    (hs : a.eval s = v) (hown : OwnQ w base v l) (hb : base ≤ w.heap.size) (m : List (Int × Int)) (hC : C.toList = pairCells m)
    (hx : a.eval x = .slice (some ⟨H, 0, none⟩) m.length m.length) (hH : w.heap.size = H) (hlen : l.length + m.length ≤ 1000000000)
    (h : ∀ v' w', OwnQ w' base v' (l ++ m) → Below base w w' → wpList Tryd.prog ops Q rest (a.put o.dst v') w') :
    wpList Tryd.prog ops Q (o :: rest) a (w.alloc (.cells C 38)) := by
  subst hH
  obtain ⟨i0, hi, hz0, hz1, hz2⟩ := info_parts info_Q
  refine wpList_append_own _ hgd s x 36 ho base 38 i0 _ 2 16 Tryd.underlying36 hi hz0 hz1 hz2 rfl (by decide) v l.length (pairCells l) hs (World.ownsRow.alloc hown _) ⟨w.heap.size, 0, none⟩ m.length m.length (pairCells m) hx (pairCells_length m) ?_ (fun u hu => pairCells_one hu) ?_ ?_ ?_ ?_
  · intro j u hj
    rw [← hC] at hj
    have hadd : (⟨w.heap.size, 0, none⟩ : Addr).add j = ⟨w.heap.size, j, none⟩ := by unfold Addr.add; split <;> simp_all
    rw [hadd, cell_of_row _ w.heap.size j C 38 (0, 0) (heap_alloc_new w _)]
    simpa using hj
  · unfold maxLen; omega
  · omega
  · simp; omega
  · intro v' w' h1 h2 _
    refine h v' w' ?_ ?_
    · unfold OwnQ
      rw [pairCells_append, List.length_append]
      exact h1
    · refine Below.grown ((Below.refl _ _).alloc hb _) h2 (by simp; omega) fun k hk => (World.ownsRow.lt hown k hk).1

/-- What get answers lies in memory where the shelf lay before. -/
theorem get_any2 (w2 w : World) (base pb : Nat) (S : Sh) (k : ByteArray) (h : ShelfAt w2 base pb S) (hw : Below w2.heap.size w2 w) (hk : k.size ≤ maxLen) :
    Calls Tryd.prog 35 #[.pointer (some ⟨pb, 0, none⟩), .string k] w fun e w' => ∃ u, e = .returned u ∧ LiesN w2 u (getS S k) ∧ w' = w := by
  obtain ⟨mb, n, pl, vs, h1', h2, h3, h4', h5, h6', h7⟩ := h
  have h1 := (hw.block pb (Array.getElem?_eq_some_iff.1 h1').1).trans h1'
  have h4 := h4'.keep hw
  have h6 := h6'.keep hw
  clear h1' h4' h6'
  have hlook := h4.lookOk hk
  have p0 : w.cell? ⟨pb, 0, none⟩ = some (.map (some mb)) := by rw [cell_of_row _ _ _ _ _ _ h1]; rfl
  have p1 : w.cell? ⟨pb, 1, none⟩ = some pl := by rw [cell_of_row _ _ _ _ _ _ h1]; rfl
  have hg := getS_idx S k
  cases hi : idxS S k with
  | none =>
    rw [show idxI S k = none by simp [idxI, hi]] at hlook
    simp only [Option.getD_none, Option.isSome_none] at hlook
    rw [hi] at hg
    have HG : Hid (getS S k = []) := hg
    clear hg h1 h2 h3 h4 h5 h6 h7
    go_enter Tryd.func35, Tryd.ntmps35
    go_wp2
    go_ret
    exact ⟨_, rfl, by rw [HG.out]; exact ⟨none, 0, rfl, ⟨fun _ => rfl, Nat.le_refl _⟩, fun i h => absurd h (by simp)⟩, rfl⟩
  | some i =>
    obtain ⟨hiS, _⟩ := idxS_lt hi
    have hiV : i < vs.length := by rw [h7.1]; exact hiS
    rw [show idxI S k = some (i : Int) by simp [idxI, hi]] at hlook
    simp only [Option.getD_some, Option.isSome_some] at hlook
    rw [hi] at hg
    have HG : Hid (getS S k = S[i].2) := by show _ = _; rw [hg]; simp [List.getD, hiS]
    obtain ⟨ao, cap, rfl⟩ := h6.shape
    obtain ⟨g, rfl, _, hcell, _⟩ := h6.cell (i := i) hiV
    have hvi : Aside (LiesN w2 vs[i] S[i].2) := (h7.2.1 i hiV hiS).lies.ints
    have i0 : (0 : Int) ≤ (i : Int) := by omega
    have i1 : (i : Int) < (vs.length : Int) := by omega
    clear hg h1 h2 h3 h4 h5 h6 h7
    go_enter Tryd.func35, Tryd.ntmps35
    go_wp2
    go_ret
    exact ⟨_, rfl, by rw [HG.out]; exact hvi.out, rfl⟩

/-- The rows of a list have room for what they hold. -/
def RoomyR (w : World) (v : Value) (n : Nat) : Prop := ∀ i, i < n → ∀ b off k c r, v = .slice (some ⟨b, off, none⟩) k c → w.cell? ⟨b, off + i, none⟩ = some r → ∃ ao m cap, r = .slice ao m cap ∧ m ≤ cap

set_option maxHeartbeats 4000000 in
theorem match_any (w : World) (v u : Value) (A B : List Row) (i j : Int) (hA : LiesR w v A) (hB : LiesR w u B) (rA : RightL A) (rB : RightL B) (la : A.length ≤ 40) (lb : B.length ≤ 40) (oA : RoomyR w v A.length) (oB : RoomyR w u B.length) (hi : inR i) (hj : inR j) :
    Calls Tryd.prog 23 #[v, u, .int .i64 i, .int .i64 j] w fun e w' => ∃ x, e = .returned x ∧ LiesQ w' x (mtR A B i j A.length) ∧ Below w.heap.size w w' := by
  obtain ⟨ao, ac, rfl, _, hac⟩ := hA
  obtain ⟨bo, bc, rfl, _, hbc⟩ := hB
  have HA : Aside _ := And.intro hac oA
  have HB : Aside _ := And.intro hbc oB
  clear hac hbc oA oB
  go_enter Tryd.func23, Tryd.ntmps23
  go_wp2_with fail
  refine (newShelf_any _).mono ?_
  rintro e w1 ⟨pb, rfl, hs1, hb1⟩
  go_wp2_with fail
  go_loopw [24] (fun n wr => ∃ k : Nat, k ≤ B.length ∧ n = .int .i64 k ∧ ShelfAt wr w.heap.size pb (shP (jps B j k)) ∧ Below w.heap.size w wr) (fun n _ => B.length - (intOf n).toNat)
  case atStart => exact ⟨0, Nat.zero_le _, rfl, hs1, hb1⟩
  case round =>
    clear hs1 hb1
    obtain ⟨k, hk, rfl, hs, hbel⟩ := hrel
    have hsz := hbel.size
    by_cases hlt : k < B.length
    · have hkt : decide ((k : Int) < (B.length : Int)) = true := by simp; omega
      obtain ⟨b, off, x, rfl, c1, c2⟩ := HB.out.1 k hlt
      have hro := HB.out.2 k hlt b off _ _ x rfl c1
      obtain ⟨hR, hR40⟩ := rB _ (List.getElem_mem hlt)
      have HJ : Hid (jps B j (k + 1) = jps B j k ++ (match jb B[k] j with | none => [] | some e => [(k, [e])])) := by show _ = _; rw [jps, show B.getD k [] = B[k] by simp [List.getD, hlt]]
      obtain ⟨hsl, hsb⟩ := shP_len (jps B j k)
      have hjl := jps_length B j k
      have hjm : Aside (∀ e, jb B[k] j = some e → RightR [e]) := fun e he => right_one hR (jb_mem he)
      have g1 := cell_keep c1 hbel
      have hjc := joinedBy_any wr x B[k] j (c2.keep hbel) hro hR hR40 hj
      generalize jb B[k] j = o at HJ hjm hjc
      have HSB : Aside _ := hsb
      clear hsb hR c1 c2
      cases o with
      | none =>
        go_wp2_with fail
        refine hjc.mono ?_
        rintro e w2 ⟨rfl, hb2⟩
        clear hjc
        simp only [jkey, Option.isSome_none]
        go_wp2_with fail
        go_roundw
        case rel => exact ⟨k + 1, by omega, by go_num, by rw [HJ.out, List.append_nil]; exact hs.keep hb2, btrans hbel hb2⟩
        case measure => simp [intOf]; omega
      | some en =>
        have hes := encS_size (hjm.out en rfl) (by simp)
        go_wp2_with fail
        refine hjc.mono ?_
        rintro e w2 ⟨rfl, hb2⟩
        clear hjc
        simp only [jkey, Option.isSome_some]
        have hs2 := hs.keep hb2
        have hz2 := hb2.size
        go_wp2_with fail
        refine (put_any _ _ _ _ _ _ hs2 (by omega) hes (by omega) (fun e he => by have := HSB.out e he; omega)).mono ?_
        rintro e w3 ⟨rfl, hs3, hb3⟩
        go_wp2_with fail
        go_roundw
        case rel => exact ⟨k + 1, by omega, by go_num, by rw [HJ.out, shP_snoc]; exact hs3, (btrans hbel hb2).trans hb3⟩
        case measure => simp [intOf]; omega
    · have hkt : decide ((k : Int) < (B.length : Int)) = false := by simp; omega
      have hkk : k = B.length := by omega
      subst hkk
      obtain ⟨w2, rfl⟩ : ∃ x, x = wr := ⟨_, rfl⟩
      go_wp2_with fail
      go_loopw [14, 43] (fun x n wr => ∃ k : Nat, k ≤ A.length ∧ n = .int .i64 k ∧ OwnQ wr w2.heap.size x (mtR A B i j k) ∧ Below w2.heap.size w2 wr) (fun _ n _ => A.length - (intOf n).toNat)
      case atStart => exact ⟨0, Nat.zero_le _, rfl, OwnQ.nil _ _, Below.refl _ _⟩
      case round =>
        obtain ⟨k, hk, rfl, hown, hbx⟩ := hrel
        have hszx := hbx.size
        have hbw := btrans hbel hbx
        by_cases hlt : k < A.length
        · have hkt : decide ((k : Int) < (A.length : Int)) = true := by simp; omega
          obtain ⟨b, off, x, rfl, c1, c2⟩ := HA.out.1 k hlt
          have hro := HA.out.2 k hlt b off _ _ x rfl c1
          obtain ⟨hR, hR40⟩ := rA _ (List.getElem_mem hlt)
          have HJ : Hid (mtR A B i j (k + 1) = mtR A B i j k ++ (match jb A[k] i with | none => [] | some e => (plc (jps B j B.length) [e]).map fun n => ((k : Int), n))) := by show _ = _; rw [mtR, show A.getD k [] = A[k] by simp [List.getD, hlt]]
          have hjm : Aside (∀ e, jb A[k] i = some e → RightR [e]) := fun e he => right_one hR (jb_mem he)
          have g1 := cell_keep c1 hbw
          have hjc := joinedBy_any wr x A[k] i (c2.keep hbw) hro hR hR40 hi
          have hml := mtR_length A B i j k
          have hml2 : k * B.length ≤ 40 * 40 := Nat.mul_le_mul (by omega) lb
          generalize jb A[k] i = o at HJ hjm hjc
          clear hR c1 c2
          cases o with
          | none =>
            go_wp2_with fail
            refine hjc.mono ?_
            rintro e w4 ⟨rfl, hb4⟩
            clear hjc
            simp only [jkey, Option.isSome_none]
            go_wp2_with fail
            go_roundw
            case rel => exact ⟨k + 1, by omega, by go_num, by rw [HJ.out, List.append_nil]; exact hown.keep hb4, btrans hbx hb4⟩
            case measure => simp [intOf]; omega
          | some en =>
            have hes := encS_size (hjm.out en rfl) (by simp)
            have hgs := getS_shP (jps B j B.length) (jps_right rB j B.length) [en] (hjm.out en rfl)
            have hpl := plc_length (jps B j B.length) [en]
            have hjl := jps_length B j B.length
            go_wp2_with fail
            refine hjc.mono ?_
            rintro e w4 ⟨rfl, hb4⟩
            clear hjc
            simp only [jkey, Option.isSome_some]
            have hown4 := hown.keep hb4
            have hb4' := btrans hbx hb4
            go_wp2_with fail
            refine (get_any2 w2 _ _ _ _ _ hs hb4' hes).mono ?_
            rintro e w5 ⟨x5, rfl, l5, rfl⟩
            rw [hgs] at l5
            clear hgs hown hb4
            generalize plc (jps B j B.length) [en] = R at HJ hpl l5
            obtain ⟨ro, rc, rfl, _, hrc⟩ := l5
            have HRC : Aside _ := hrc
            clear hrc
            go_wp2_with fail
            go_loopw [14, 60] (fun x n wr => ∃ q : Nat, q ≤ R.length ∧ n = .int .i64 q ∧ OwnQ wr w2.heap.size x (mtR A B i j k ++ (R.take q).map fun n => ((k : Int), n)) ∧ Below w2.heap.size w2 wr) (fun _ n _ => R.length - (intOf n).toNat)
            case atStart => exact ⟨0, Nat.zero_le _, rfl, by simpa using hown4, hb4'⟩
            case round =>
              clear hown4
              clear hb4'
              obtain ⟨q, hq, rfl, hown, hbq⟩ := hrel
              have hszq := hbq.size
              by_cases hqr : q < R.length
              · have hqt : decide ((q : Int) < (R.length : Int)) = true := by simp; omega
                obtain ⟨rb, rof, rfl, d1⟩ := lieN_at HRC.out hbq hqr
                have HT : Hid ((R.take (q + 1)).map (fun n => ((k : Int), n)) = (R.take q).map (fun n => ((k : Int), n)) ++ [((k : Int), R[q])]) := by show _ = _; rw [List.take_succ_eq_append_getElem hqr, List.map_append]; rfl
                generalize R[q] = n at d1 HT
                have hll : (mtR A B i j k ++ (R.take q).map fun n => ((k : Int), n)).length + [((k : Int), n)].length ≤ 1000000000 := by simp; omega
                go_wp2_with (at_builtin; refine wpList_pushQ (.tmp 64) (.tmp 68) rfl rfl rfl hown hszq [((k : Int), n)] rfl rfl (by first | rfl | simp) hll ?_; intro v6 w6 hr6 hb6)
                go_roundw
                case rel => exact ⟨q + 1, by omega, by go_num, by rw [HT.out, ← List.append_assoc]; exact hr6, hbq.trans hb6⟩
                case measure => simp [intOf]; omega
              · have hqt : decide ((q : Int) < (R.length : Int)) = false := by simp; omega
                have hqq : q = R.length := by omega
                subst hqq
                rw [List.take_length] at hown
                go_wp2_with fail
                go_roundw
                case rel => exact ⟨k + 1, by omega, by go_num, by rw [HJ.out]; exact hown, hbq⟩
                case measure => simp [intOf]; omega
        · have hkt : decide ((k : Int) < (A.length : Int)) = false := by simp; omega
          have hkk : k = A.length := by omega
          subst hkk
          go_wp2_with fail
          go_ret
          exact ⟨_, rfl, hown.lies, btrans hbel hbx⟩

end Go.Proofs.YtafbgmpbfonljaaDoor
