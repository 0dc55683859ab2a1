/- The walk of LatticeEdges. -/
import Derived.Test.YtobbomdknahicaaAlive3
import Derived.Test.YtobbomdknahicaaFew3
import Derived.Test.YtobbomdknahicaaLatMore
import Derived.Test.YtobbomdknahicaaOwnP
import Derived.Maps.AppendAt
namespace Go.Proofs.Ytobbomdknahicaa
open Go.RowKit Go.Sort

theorem step_catP {ops : Array Oper} {o : Oper} {a : Act} {w : World} {K : Act → World → Prop} {Q : Exit → Act → World → Prop} {X : Prop} {base : Nat} {v u : Value} {E F : List (ByteArray × ByteArray)}
    (s x : Operand) (hgd : o.guard = none) (ho : o.op = .call { callee := .builtin .append, args := #[s, x], argTypes := #[23, 23] })
    (hs : a.eval s = v) (hx : a.eval x = u) (hown : OwnP w base v E) (hsrc : LiesP w u F) (hb : base ≤ w.heap.size) (hlen : E.length + F.length ≤ 1000000000)
    (h : ∀ v' w', OwnP w' base v' (E ++ F) → Below base w w' → K (a.put o.dst v') w') :
    if Region.wanted o (yielded ops a.tmps) = true then Oper.wp Try.prog o a w K Q else X := by
  have hw : Region.wanted o (yielded ops a.tmps) = true := by simp [Region.wanted, hgd]
  rw [if_pos hw]
  exact wp_catP s x ho hs hx hown hsrc hb hlen fun v' w' h1 h2 _ => h v' w' h1 h2

/-- One append of a pair that lies in a new block; and where the slice lies then. -/
theorem wpList_pushP_at {ops : Array Oper} {rest : List Oper} {o : Oper} {a : Act} {Q : Exit → Act → World → Prop} {w : World} {base H : Nat} {v : Value} {E : List (ByteArray × ByteArray)} {lo hi : ByteArray}
    (s x : Operand) (hgd : o.guard = none) (ho : o.op = .call { callee := .builtin .append, args := #[s, x], argTypes := #[23, 23] })
    (hs : a.eval s = v) (hx : a.eval x = .slice (some ⟨H, 0, none⟩) 1 1) (hH : w.heap.size = H) (hown : OwnP w base v E) (hb : base ≤ w.heap.size) (hlen : E.length + 1 ≤ 1000000000)
    (h : ∀ v' w', OwnP w' base v' (E ++ [(lo, hi)]) → Below base w w' → w.grownBy w' v.ownBlock → (v'.ownBlock = v.ownBlock ∨ v'.ownBlock = some (w.heap.size + 1)) → wpList Try.prog ops Q rest (a.put o.dst v') w') :
    wpList Try.prog ops Q (o :: rest) a (w.alloc (.cells #[.string lo, .string hi] 47)) := by
  subst hH
  obtain ⟨i0, hi0, hz0, hz1, hz2⟩ := info_parts info_P
  refine wpList_append_own_at _ hgd s x 23 ho base 47 i0 _ 2 32 Try.underlying23 hi0 hz0 hz1 hz2 rfl (by decide) v E.length (pcells E) hs (hown.alloc _) ⟨w.heap.size, 0, none⟩ 1 1 (pcells [(lo, hi)]) hx (pcells_length _) ?_ (fun u hu => pcells_one hu) ?_ ?_ ?_ ?_
  · intro j u hj
    have hadd : (⟨w.heap.size, 0, none⟩ : Addr).add j = ⟨w.heap.size, j, none⟩ := by unfold Addr.add; split <;> simp_all
    rw [hadd, cell_of_row _ w.heap.size j _ 47 (0, 0) (heap_alloc_new w _)]
    simpa [pcells] using hj
  · unfold maxLen; omega
  · omega
  · simp; omega
  · intro v' w' h1 h2 _ h4
    have ga := World.grownBy_alloc w (.cells #[.string lo, .string hi] 47) v.ownBlock
    refine h v' w' ?_ (Below.grown ((Below.refl _ _).alloc hb _) h2 (by simp; omega) fun k hk => (World.ownsRow.lt hown k hk).1) ⟨h2.os.trans ga.os, h2.tape.trans ga.tape, h2.output.trans ga.output, Nat.le_trans ga.size h2.size, fun k hk hne => (h2.block k (Nat.lt_of_lt_of_le hk ga.size) hne).trans (ga.block k hk hne)⟩ (by simpa using h4)
    unfold OwnP
    rw [pcells_append, List.length_append]
    exact h1

/-- Edges that New is asked with the second time. -/
def Good (E F : List (ByteArray × ByteArray)) : Prop := Follows E F ∧ E.length ≤ F.length ∧ (F.length ≤ 64 ∨ F.length = E.length)
theorem Good.start (E : List (ByteArray × ByteArray)) (k : Nat) : Good E (E.drop k ++ E.take k) := by
  refine ⟨⟨fun e he => ?_, fun f hf => .inl ?_⟩, by simp; omega, .inr (by simp; omega)⟩
  · rw [← List.take_append_drop k E] at he
    rcases List.mem_append.1 he with h | h
    · exact List.mem_append.2 (.inr h)
    · exact List.mem_append.2 (.inl h)
  · rcases List.mem_append.1 hf with h | h
    · exact List.mem_of_mem_drop h
    · exact List.mem_of_mem_take h
theorem Good.push {E F : List (ByteArray × ByteArray)} (h : Good E F) (hlt : F.length < 64) {e f : ByteArray × ByteArray} (he : e ∈ E) (hf : f ∈ E) (hm : e.2 = f.1) : Good E (F ++ [(e.1, f.2)]) := by
  refine ⟨⟨fun x hx => List.mem_append.2 (.inl (h.1.1 x hx)), fun x hx => ?_⟩, by simp; have := h.2.1; omega, .inl (by simp; omega)⟩
  rcases List.mem_append.1 hx with h1 | h1
  · exact h.1.2 x h1
  · simp only [List.mem_singleton] at h1
    exact .inr ⟨e, he, f, hf, hm, h1⟩
theorem Good.len {E F : List (ByteArray × ByteArray)} (h : Good E F) : 64 < F.length ↔ 64 < E.length := by
  have := h.2.1
  rcases h.2.2 with h | h <;> omega
theorem Good.sizes {E F : List (ByteArray × ByteArray)} (h : Good E F) (hs : ∀ e ∈ E, e.1.size ≤ 1000 ∧ e.2.size ≤ 1000) : ∀ e ∈ F, e.1.size ≤ 1000 ∧ e.2.size ≤ 1000 := fun f hf => by
  rcases h.1.2 f hf with h1 | ⟨e, he, g, hg, _, rfl⟩
  · exact hs f h1
  · exact ⟨(hs e he).1, (hs g hg).2⟩
theorem OwnP.apart {w : World} {base q : Nat} {v : Value} {E : List (ByteArray × ByteArray)} (h : OwnP w base v E) (hq : w.heap.size ≤ q) : v.ownBlock ≠ some q := fun e => by
  have := (World.ownsRow.lt h q e).2
  omega

theorem turn_at {m : Nat} (turn : Int) (hm : 0 < m) (h80 : m ≤ 80) : ∃ kk : Nat, (wrap64 (turn.tmod (m : Int) + (m : Int))).tmod (m : Int) = (kk : Int) ∧ kk < m := by
  have h1 : turn.tmod (m : Int) < (m : Int) := Int.tmod_lt_of_pos turn (by omega)
  have h2 : -(m : Int) < turn.tmod (m : Int) := Int.lt_tmod_of_pos turn (by omega)
  have hw : wrap64 (turn.tmod (m : Int) + (m : Int)) = turn.tmod (m : Int) + (m : Int) := by unfold wrap64; omega
  rw [hw]
  have h3 : 0 ≤ (turn.tmod (m : Int) + (m : Int)).tmod (m : Int) := Int.tmod_nonneg _ (by omega)
  have h4 : (turn.tmod (m : Int) + (m : Int)).tmod (m : Int) < (m : Int) := Int.tmod_lt_of_pos _ (by omega)
  exact ⟨((turn.tmod (m : Int) + (m : Int)).tmod (m : Int)).toNat, by omega, by omega⟩
theorem LiesP.drop {w : World} {b off k : Nat} {E : List (ByteArray × ByteArray)} {cap : Nat} (h : LiesP w (.slice (some ⟨b, off, none⟩) E.length cap) E) (hk : k ≤ E.length) : LiesP w (.slice (some ⟨b, off + k * 2, none⟩) (E.length - k) (cap - k)) (E.drop k) := by
  obtain ⟨ao, c, he, hn, hc⟩ := h
  simp only [Value.slice.injEq] at he
  obtain ⟨rfl, _, rfl⟩ := he
  refine ⟨some ⟨b, off + k * 2, none⟩, cap - k, by simp, ⟨nofun, by simp; omega⟩, fun i hi => ⟨b, off + k * 2, rfl, ?_⟩⟩
  simp at hi
  obtain ⟨b', off', e, h1, h2⟩ := hc (k + i) (by omega)
  simp only [Option.some.injEq, Addr.mk.injEq] at e
  obtain ⟨rfl, rfl, _⟩ := e
  have e1 : off + k * 2 + i * 2 = off + (k + i) * 2 := by omega
  rw [e1]
  exact ⟨by simpa using h1, by simpa using h2⟩

set_option maxRecDepth 100000 in
set_option maxHeartbeats 8000000 in
theorem latEdges_walk {P : Prop} (v u : Value) (L : List ByteArray) (E : List (ByteArray × ByteArray)) (turn : Int) (w : World) (hL : LiesS w v L) (hl : L.length ≤ maxLen) (hE : LiesP w u E) (hel : E.length ≤ maxLen) (_ : P) :
    Calls Try.prog 6 #[v, u, .int .i64 turn] w fun e w' => e = .returned (.bool true) ∧ Below w.heap.size w w' := by
  have few := few_any w v u L E hL hE hl hel
  cases hf : fewB L E
  · rw [hf] at few
    clear hL hE hl hel hf
    go_enter Try.func6, Try.ntmps6
    go_wp2_with fail
    refine (few).mono ?_
    rintro e y1 ⟨rfl, c1⟩
    go_wp2_with fail
    refine (alive_any _).mono ?_
    rintro e y2 ⟨rfl, c2⟩
    go_wp2_with fail
    go_ret
    exact ⟨rfl, btrans c1 c2⟩
  · rw [hf] at few
    obtain ⟨l20, e80⟩ := few_len hf
    have HSZ : Hid (∀ s ∈ L, s.size ≤ 1000) := few_s hf
    have HSE : Hid (∀ e ∈ E, e.1.size ≤ 1000 ∧ e.2.size ≤ 1000) := few_e hf
    clear hf
    obtain ⟨ao, cap, rfl, _, _⟩ := id hL
    obtain ⟨bo, cbp, rfl, hn1, hd⟩ := id hE
    by_cases h0 : E.length = 0
    · have hb : ((E.length : Int) == 0) = true := by simp [h0]
      clear hL hE hl hel hd h0
      go_enter Try.func6, Try.ntmps6
      go_wp2_with fail
      refine (few).mono ?_
      rintro e y1 ⟨rfl, c1⟩
      go_wp2_with fail
      refine (alive_any _).mono ?_
      rintro e y2 ⟨rfl, c2⟩
      go_wp2_with fail
      go_ret
      exact ⟨rfl, btrans c1 c2⟩
    · obtain ⟨b0, off0, rfl, _, _⟩ := hd 0 (by omega)
      have hb : ((E.length : Int) == 0) = false := beq_eq_false_iff_ne.2 (by omega)
      go_enter Try.func6, Try.ntmps6
      go_wp2_with fail
      refine (few).mono ?_
      rintro e y1 ⟨rfl, c1⟩
      obtain ⟨kk, hkk, hlt⟩ := turn_at turn (m := E.length) (by omega) e80
      have i0 : (0 : Int) ≤ (kk : Int) := by omega
      have i1 : (kk : Int) ≤ (E.length : Int) := by omega
      have i2 : (E.length : Int) ≤ (cbp : Int) := by have := hn1.2; omega
      have i3 : (kk : Int) ≤ (cbp : Int) := by omega
      have s1 := (hE.keep c1).drop (k := kk) (by omega)
      have hs1 := c1.size
      go_wp2_with fail
      clear hkk
      have hck : ¬ cbp = kk := by have := hn1.2; omega
      have bA : Below w.heap.size w ((y1.alloc (.cells #[] 47)).drew) := (c1.trans ((Below.refl _ _).alloc hs1 _)).drew
      have oA : OwnP ((y1.alloc (.cells #[] 47)).drew) w.heap.size (.slice (some ⟨y1.heap.size, 0, none⟩) 0 0) [] := (OwnP.lit y1 [] rfl hs1 rfl (by simp)).drew
      have sA : LiesP ((y1.alloc (.cells #[] 47)).drew) (.slice (some ⟨b0, off0 + kk * 2, none⟩) (E.length - kk) (cbp - kk)) (E.drop kk) := (hE.keep bA).drop (by omega)
      clear s1
      go_region_law (first
        | (refine step_catP (.tmp 39) (.tmp 42) rfl rfl rfl rfl oA sA (by simp; omega) (by simp; omega) ?_; intro v3 w3 ho3 hb3; have bB := bA.trans hb3; have hs3 := bB.size; have sB : LiesP w3 (.slice (some ⟨b0, off0, none⟩) kk cbp) (E.take kk) := (hE.keep bB).take (Nat.le_of_lt hlt) (by omega); obtain ⟨a3, c3, rfl⟩ := ho3.shapeN (n := E.length - kk) (by simp))
        | (refine step_catP (.tmp 43) (.tmp 46) rfl rfl rfl rfl ho3 sB hs3 (by simp; omega) ?_; intro v4 w4 ho4 hb4))
      obtain ⟨a4, c4, rfl⟩ := ho4.shapeN (n := E.length) (by simp; omega)
      have bC : Below w.heap.size w w4 := bB.trans hb4
      replace ho4 : OwnP w4 w.heap.size (.slice a4 E.length c4) (E.drop kk ++ E.take kk) := by simpa using ho4
      have HG0 : Good E (E.drop kk ++ E.take kk) := Good.start E kk
      clear ho3 hb3 hb4 bA bB oA sA sB hs3 hs1 c1
      go_wp2_with fail
      go_loopw [8, 50] (fun x i wr => ∃ (k : Nat) (G : List (ByteArray × ByteArray)), k ≤ E.length ∧ i = .int .i64 k ∧ OwnP wr w.heap.size x G ∧ Good E G ∧ Below w.heap.size w wr) (fun _ i _ => E.length - (intOf i).toNat)
      case atStart => exact ⟨0, _, Nat.zero_le _, rfl, ho4, HG0, bC⟩
      case round =>
        clear ho4 HG0 bC
        obtain ⟨wx, rfl⟩ : ∃ x, x = wr := ⟨_, rfl⟩
        obtain ⟨k, G, hkl, rfl, hox, hgx, hbx⟩ := hrel
        have hszx := hbx.size
        obtain ⟨xa, xc, rfl⟩ := hox.shape
        by_cases hk : k < E.length
        · obtain ⟨_, _, hbo, g1, g2⟩ := lieP_at hd hbx hk
          simp only [Option.some.injEq, Addr.mk.injEq] at hbo
          obtain ⟨rfl, rfl, _⟩ := hbo
          have j0 : (0 : Int) ≤ (k : Int) := by omega
          have j1 : (k : Int) < (E.length : Int) := by omega
          have HM : Hid (E[k] ∈ E) := List.getElem_mem hk
          generalize E[k] = ed at g1 g2 HM
          obtain ⟨lo, hi⟩ := ed
          simp only at g1 g2
          go_wp2_with fail
          go_loopw [8, 56] (fun x i wy => ∃ (j : Nat) (G : List (ByteArray × ByteArray)), j ≤ E.length ∧ i = .int .i64 j ∧ OwnP wy w.heap.size x G ∧ Good E G ∧ Below w.heap.size w wy ∧ wy.heap[wx.heap.size]? = some (.cells #[.string lo, .string hi] 47 (0, 0)) ∧ x.ownBlock ≠ some wx.heap.size) (fun _ i _ => E.length - (intOf i).toNat)
          case atStart => exact ⟨0, G, Nat.zero_le _, rfl, hox.alloc _, hgx, hbx.alloc hszx _, heap_alloc_new wx _, hox.apart (Nat.le_refl _)⟩
          case round =>
            clear hox hgx g1 g2
            obtain ⟨wy, rfl⟩ : ∃ x, x = wr := ⟨_, rfl⟩
            obtain ⟨j, G, hjl, rfl, hoy, hgy, hby, hq, hap⟩ := hrel
            have hszy := hby.size
            have hql : wx.heap.size < wy.heap.size := (Array.getElem?_eq_some_iff.1 hq).1
            obtain ⟨ya, yc, rfl⟩ := hoy.shape
            by_cases hj : j < E.length
            · obtain ⟨_, _, hbo, g1, g2⟩ := lieP_at hd hby hj
              simp only [Option.some.injEq, Addr.mk.injEq] at hbo
              obtain ⟨rfl, rfl, _⟩ := hbo
              have j2 : (0 : Int) ≤ (j : Int) := by omega
              have j3 : (j : Int) < (E.length : Int) := by omega
              have HM2 : Hid (E[j] ∈ E) := List.getElem_mem hj
              generalize E[j] = ed2 at g1 g2 HM2
              obtain ⟨lo2, hi2⟩ := ed2
              simp only at g1 g2
              have qa : (wy.alloc (.cells #[.string lo2, .string hi2] 47)).heap[wx.heap.size]? = some (.cells #[.string lo, .string hi] 47 (0, 0)) := (((Below.refl wy.heap.size wy).alloc (Nat.le_refl _) _).block _ hql).trans hq
              have e1 : (wy.alloc (.cells #[.string lo2, .string hi2] 47)).cell? ⟨wx.heap.size, 0, none⟩ = some (.string lo) := by rw [cell_of_row _ _ _ _ _ _ qa]; rfl
              have e2 : (wy.alloc (.cells #[.string lo2, .string hi2] 47)).cell? ⟨wx.heap.size, 1, none⟩ = some (.string hi) := by rw [cell_of_row _ _ _ _ _ _ qa]; rfl
              have hte := toList_beq hi lo2
              by_cases hne : hi = lo2
              · rw [decide_eq_true hne] at hte
                by_cases h64 : G.length < 64
                · have HGP : Hid (Good E (G ++ [(lo, hi2)])) := hgy.push h64 HM.out HM2.out hne
                  have hd64 : decide ((G.length : Int) < 64) = true := by simp; omega
                  clear hne hd
                  go_wp2_with (at_builtin; refine wpList_pushP_at (.tmp 70) (.tmp 76) rfl rfl rfl rfl (by simp) (hoy.alloc _) (by simp; omega) (by omega) ?_; intro v5 w5 ho5 hb5 hg5 hat5)
                  go_roundw
                  case rel =>
                    refine ⟨j + 1, _, by omega, by go_num, ho5, HGP.out, (hby.alloc hszy _).trans hb5, (hg5.block _ (by simp; omega) (fun h => hap h.symm)).trans qa, ?_⟩
                    rcases hat5 with h | h
                    · rw [h]; exact hap
                    · rw [h]; simp; omega
                  case measure => simp [intOf]; omega
                · have hd64 : decide ((G.length : Int) < 64) = false := by simp; omega
                  clear hne hd
                  go_wp2_with fail
                  go_roundw
                  case rel => exact ⟨j + 1, G, by omega, by go_num, hoy.alloc _, hgy, hby.alloc hszy _, qa, hap⟩
                  case measure => simp [intOf]; omega
              · rw [decide_eq_false hne] at hte
                clear hne hd
                go_wp2_with fail
                go_roundw
                case rel => exact ⟨j + 1, G, by omega, by go_num, hoy.alloc _, hgy, hby.alloc hszy _, qa, hap⟩
                case measure => simp [intOf]; omega
            · have hjn : j = E.length := by omega
              subst hjn
              go_wp2_with fail
              go_roundw
              case rel => exact ⟨k + 1, G, by omega, by go_num, hoy, hgy, hby⟩
              case measure => simp [intOf]; omega
        · have hkn : k = E.length := by omega
          subst hkn
          have hgl := hgx.len
          have hg80 : G.length ≤ 80 := by rcases hgx.2.2 with h | h <;> omega
          have n1 := fun wq (g : Below w.heap.size w wq) => new_any wq _ _ L E (hL.keep g) (hE.keep g) (by omega) (by omega) HSZ.out HSE.out
          have n2 := fun wq x (g : Below w.heap.size w wq) (hx : LiesP wq x G) => new_any wq _ x L G (hL.keep g) hx (by omega) (by omega) HSZ.out (hgx.sizes HSE.out)
          simp only [latErr_follows hgx.1 hgl] at n2
          have HLE : Hid (latErr L E = 0 → leL L G = leL L E) := fun h => leL_follows hgx.1 (latErr_zero h).2.2.2.1
          clear hgx hgl hd hE hL few hn1 hb
          by_cases h0 : latErr L E = 0
          · rw [h0] at n1
            simp only [h0] at n2
            have hfl := HLE.out h0
            clear h0 HLE
            go_wp2_with fail
            refine (n1 _ hbx).mono ?_
            rintro e z1 ⟨p1, rfl, b1, hlat, _⟩
            replace hlat := hlat (by trivial)
            obtain ⟨q1, rfl⟩ := hlat.ptr
            have d1 := btrans hbx b1
            replace hox := hox.keep b1
            go_wp2_with fail
            refine (n2 _ _ d1 hox.lies).mono ?_
            rintro e z2 ⟨p2, rfl, b2, mlat, _⟩
            replace mlat := mlat (by trivial)
            obtain ⟨q2, rfl⟩ := mlat.ptr
            replace hlat := hlat.keep b2
            have d2 := btrans d1 b2
            have r0 : Below z2.heap.size z2 z2 := Below.refl _ _
            have l1 := fun (x y : Int) wq (g : Below z2.heap.size z2 wq) => leq_any wq _ L E (hlat.keep g) x y
            have l2 := fun (x y : Int) wq (g : Below z2.heap.size z2 wq) => leq_any wq _ L G (mlat.keep g) x y
            have j1 := fun (x y : Int) wq (g : Below z2.heap.size z2 wq) => join_any wq _ L E (hlat.keep g) x y
            have j2 := fun (x y : Int) wq (g : Below z2.heap.size z2 wq) => join_any wq _ L G (mlat.keep g) x y
            have m1 := fun (x y : Int) wq (g : Below z2.heap.size z2 wq) => meet_any wq _ L E (hlat.keep g) x y
            have m2 := fun (x y : Int) wq (g : Below z2.heap.size z2 wq) => meet_any wq _ L G (mlat.keep g) x y
            simp only [hfl] at l2 j2 m2
            clear hfl hlat mlat n1 n2 hox b1 b2 d1
            generalize joinI (leL L E) L.length = J at j1 j2
            generalize meetI (leL L E) L.length = M at m1 m2
            generalize leL L E = le at l1 l2
            generalize L.length = n at l20 ⊢
            go_wp2_with fail
            go_loopw [107] (fun i wr => ∃ k : Nat, k ≤ n ∧ i = .int .i64 k ∧ Below z2.heap.size z2 wr) (fun i _ => n - (intOf i).toNat)
            case atStart => exact ⟨0, Nat.zero_le _, rfl, r0⟩
            case round =>
              obtain ⟨a, hal, rfl, hba⟩ := hrel
              by_cases ha : a < n
              · go_wp2_with fail
                go_loopw [112] (fun i wr => ∃ k : Nat, k ≤ n ∧ i = .int .i64 k ∧ Below z2.heap.size z2 wr) (fun i _ => n - (intOf i).toNat)
                case atStart => exact ⟨0, Nat.zero_le _, rfl, hba⟩
                case round =>
                  obtain ⟨b, hbl, rfl, hbb⟩ := hrel
                  by_cases hb : b < n
                  · skip
                    go_wp2_with fail
                    refine (l1 a b _ hbb).mono ?_
                    rintro e y101 ⟨rfl, c101⟩
                    replace c101 := btrans hbb c101
                    go_wp2_with fail
                    refine (l2 a b _ c101).mono ?_
                    rintro e y102 ⟨rfl, c102⟩
                    replace c102 := btrans c101 c102
                    go_wp2_with fail
                    refine (j1 a b _ c102).mono ?_
                    rintro e y103 ⟨rfl, c103⟩
                    replace c103 := btrans c102 c103
                    go_wp2_with fail
                    refine (j2 a b _ c103).mono ?_
                    rintro e y104 ⟨rfl, c104⟩
                    replace c104 := btrans c103 c104
                    go_wp2_with fail
                    refine (m1 a b _ c104).mono ?_
                    rintro e y105 ⟨rfl, c105⟩
                    replace c105 := btrans c104 c105
                    go_wp2_with fail
                    refine (m2 a b _ c105).mono ?_
                    rintro e y106 ⟨rfl, c106⟩
                    replace c106 := btrans c105 c106
                    go_wp2_with fail
                    go_roundw
                    case rel => exact ⟨b + 1, by omega, by go_num, c106⟩
                    case measure => simp [intOf]; omega
                  · have hbn : b = n := by omega
                    subst hbn
                    go_wp2_with fail
                    go_roundw
                    case rel => exact ⟨a + 1, by omega, by go_num, hbb⟩
                    case measure => simp [intOf]; omega
              · have han : a = n := by omega
                subst han
                go_wp2_with fail
                refine (alive_any _).mono ?_
                rintro e y201 ⟨rfl, c201⟩
                replace c201 := btrans hba c201
                go_wp2_with fail
                go_ret
                exact ⟨rfl, btrans d2 c201⟩
          · have n1' : ∀ wq, Below w.heap.size w wq → Calls Try.prog 11 #[.slice ao L.length cap, .slice (some ⟨b0, off0, none⟩) E.length cbp] wq fun e w' => e = Ending.returned (.tuple #[.pointer none, .int .i64 (latErr L E)]) ∧ Below wq.heap.size wq w' := fun wq g => (n1 wq g).mono fun e w' ⟨p, h1, h2, _, h3⟩ => by rw [h3 h0] at h1; exact ⟨h1, h2⟩
            have n2' : ∀ wq x, Below w.heap.size w wq → LiesP wq x G → Calls Try.prog 11 #[.slice ao L.length cap, x] wq fun e w' => e = Ending.returned (.tuple #[.pointer none, .int .i64 (latErr L E)]) ∧ Below wq.heap.size wq w' := fun wq x g hx => (n2 wq x g hx).mono fun e w' ⟨p, h1, h2, _, h3⟩ => by rw [h3 h0] at h1; exact ⟨h1, h2⟩
            clear n1 n2 h0 HLE
            generalize latErr L E = er at n1' n2'
            go_wp2_with fail
            refine (n1' _ hbx).mono ?_
            rintro e z1 ⟨rfl, b1⟩
            have d1 := btrans hbx b1
            replace hox := hox.keep b1
            go_wp2_with fail
            refine (n2' _ _ d1 hox.lies).mono ?_
            rintro e z2 ⟨rfl, b2⟩
            have d2 := btrans d1 b2
            go_wp2_with fail
            refine (alive_any _).mono ?_
            rintro e y301 ⟨rfl, c301⟩
            replace c301 := btrans d2 c301
            go_wp2_with fail
            go_ret
            exact ⟨rfl, c301⟩

end Go.Proofs.Ytobbomdknahicaa
