/- The program's reader: what is assigned is parted into names and expressions. -/
import Derived.Test.YtckidlbmoalomaaGreatDoorJ19
import Derived.Test.YtckidlbmoalomaaGreatDoorJ21


namespace Go.Proofs.YtckidlbmoalomaaGreatDoor
open Go.RowKit
set_option maxRecDepth 10000
set_option linter.unusedSimpArgs false
set_option linter.unusedVariables false

theorem rd_elk {P : Program} {σ : AW} {D : Nat → Prop} {n e : Nat} {ps : List Value} {v : Value} (h : Rd σ D (sl n ps) v) (hsz : szOf P e = some n) {i : Nat} (hi : i < ps.length) :
    ∃ b o c cs x, v = .slice (some ⟨b, o, none⟩) ps.length c ∧ (∀ τ, Ks σ τ → ∀ q, rowOf τ ⟨b, q, none⟩ = some cs) ∧ elemAtA P e ⟨b, o, none⟩ ps.length (i : Int) = some (.pointer (some ⟨b, o + i * n, none⟩)) ∧ (cs.drop (o + i * n)).take n = cellsL x ∧ Rd σ D ps[i] x ∧ (cellsL x).length = n := by
  obtain ⟨l, h1, hs⟩ := rd_sl.1 h
  have hl := h1.length
  rcases hs with ⟨rfl, _⟩ | ⟨b, o, c, k, e', z, cs, rfl, hb, hk, hz, hlt, hD, hcs, hx⟩
  · simp at hl; omega
  · have hi' : i < l.length := by omega
    refine ⟨b, o, c, cs, l[i], by rw [hl], fun τ kp q => ?_, by rw [elem_i hsz hi, add_none], ?_, h1.at hi hi', hx _ (List.getElem_mem hi')⟩
    · have hb' := (kp.get b hlt (by rw [hb]; exact hz)).trans hb
      rcases hk with rfl | rfl
      · exact row_1 hb'
      · exact row_2 hb'
    · have := flat_at hx hi'
      rw [← hcs, List.drop_take, List.drop_drop, List.take_take] at this
      have hle : (i + 1) * n ≤ l.length * n := Nat.mul_le_mul_right n hi'
      rw [Nat.add_mul, Nat.one_mul] at hle
      rw [Nat.min_eq_left (by omega)] at this
      exact this
def GrowTO (σ : AW) (N e : Nat) (v : Value) (ws : List ByteArray) : Prop := (ws = [] ∧ v = .slice none 0 0) ∨ GrowT σ N e v ws
theorem GrowTO.gr {r : Nat} {σ σ' : AW} {N e : Nat} {v : Value} {ws : List ByteArray} (h : GrowTO σ N e v ws) (g : Gr r σ σ') (hr : r < N) : GrowTO σ' N e v ws := h.imp id (fun h => h.gr g hr)
theorem GrowTO.rd {σ : AW} {N e : Nat} {v : Value} {ws : List ByteArray} (h : GrowTO σ N e v ws) : Rd σ (fun k => N ≤ k) (sl 1 (ws.map Value.string)) v := by
  rcases h with ⟨rfl, rfl⟩ | h
  · exact rd_nil _ _ _
  · exact h.rd
theorem growTO_app {P : Program} {σ : AW} {N t e bts : Nat} {zv v : Value} {ws : List ByteArray} {x : ByteArray} (hu : P.underlying t = some (.slice e)) (hio : (P.info? e).map (fun i => (i.zero, i.size, i.bytes)) = some (some zv, 1, bts)) (hz : (cellsL zv).length = 1) (hN : N ≤ σ.next) (hG : GrowTO σ N e v ws) (hb : (2 * (ws.length + 1) + 768) * bts ≤ 281474976710656) (hlen : ws.length + 1 ≤ 1000000000) :
    ∃ v' σ', appendA P (σ.push ⟨1, e, 1, [x].map Value.string⟩) t t v (.slice (some ⟨σ.next, 0, none⟩) 1 2) = some (v', σ') ∧ GrowT σ' N e v' (ws ++ [x]) ∧ Ow N σ σ' ∧ ∀ j, j < σ.next → (σ.get j).elem ≠ e → σ'.get j = σ.get j := by
  rcases hG with ⟨rfl, rfl⟩ | hG
  · refine ⟨_, _, append_0 (l := [.string x]) hu hio hz push_eq rfl rfl (by simpa using hb), ⟨σ.next + 1, 1, 2, 1, rfl, push_at rfl, .inr ⟨rfl, rfl, rfl⟩, by omega, Nat.lt_succ_self _⟩, ((Ow.refl N σ).push _).push _, fun j hj _ => by rw [push_ne (by first | omega | (simp only [push_next, set_next]; first | done | omega)), push_ne (by omega)]⟩
  · obtain ⟨B, c, k, z, rfl, h2, h3, h4, h5⟩ := hG
    change ∃ v' σ', appendA P (σ.push ⟨1, e, 1, [.string x]⟩) t t _ _ = _ ∧ _
    have hne : B ≠ σ.next := by omega
    have hcs : (ws.map Value.string).length = ws.length * 1 := by simp
    have hnx : (if k = 1 then σ.push ⟨1, e, 1, [.string x]⟩ else (σ.push ⟨1, e, 1, [.string x]⟩).set B noBlk).next = σ.next + 1 := by split <;> rfl
    refine ⟨_, _, append_1 hu hio hz (by decide) (len := ws.length) (by rw [push_ne hne]; exact h2) (h3.imp (fun h => ⟨h.1, h.2.1⟩) (fun h => ⟨h.1, h.2.1, rfl, h.2.2⟩)) hcs push_eq rfl rfl hb hlen, ?_, ?_, fun j hj hz0 => ?_⟩
    · refine ⟨σ.next + 1, 1, 2, 1, by rw [List.length_append]; rfl, ?_, .inr ⟨rfl, rfl, rfl⟩, by omega, by rw [push_next, hnx]; omega⟩
      have := push_eq (σ := if k = 1 then σ.push ⟨1, e, 1, [.string x]⟩ else (σ.push ⟨1, e, 1, [.string x]⟩).set B noBlk) (b := ⟨2, e, 1, ws.map Value.string ++ [.string x]⟩)
      rw [hnx] at this
      rw [this]
      simp
    · split
      · exact (((Ow.refl N σ).push _).push _)
      · exact ((((Ow.refl N σ).push _).set h4 _).push _)
    · have hjB : j ≠ B := fun e => hz0 (by rw [e, h2])
      rw [push_ne (by rw [hnx]; omega)]
      split
      · exact push_ne (by omega)
      · rw [set_ne hjB, push_ne (by omega)]
def GrowD (σ : AW) (N : Nat) (D : Nat → Prop) (e n : Nat) (v : Value) (vs ps : List Value) : Prop := (vs = [] ∧ ps = [] ∧ v = .slice none 0 0) ∨ ∃ B c k z, v = .slice (some ⟨B, 0, none⟩) vs.length c ∧ σ.get B = ⟨k, e, z, vs.flatMap cellsL⟩ ∧ ((k = 1 ∧ c = 2 * vs.length ∧ z = 1) ∨ (k = 2 ∧ c = 1 ∧ z = n)) ∧ N ≤ B ∧ B < σ.next ∧ RdL σ D ps vs ∧ ∀ v ∈ vs, Sh n v
theorem GrowD.same {σ σ' : AW} {N : Nat} {D : Nat → Prop} {e n : Nat} {v : Value} {vs ps : List Value} (h : GrowD σ N D e n v vs ps) (hD : ∀ k, D k → k < N) (nx : σ.next ≤ σ'.next) (kp : ∀ k, k < N → k < σ.next → (σ.get k).esz ≠ 0 → σ'.get k = σ.get k) (he : ∀ j, j < σ.next → N ≤ j → (σ.get j).elem = e → σ'.get j = σ.get j) : GrowD σ' N D e n v vs ps := by
  rcases h with h | ⟨B, c, k, z, h1, h2, h3, h4, h5, h6, h7⟩
  · exact .inl h
  · exact .inr ⟨B, c, k, z, h1, by rw [he B h5 h4 (by rw [h2])]; exact h2, h3, h4, Nat.lt_of_lt_of_le h5 nx, h6.keep (fun j hj hlt hz => kp j (hD j hj) hlt hz) nx (fun _ h _ => h), h7⟩
theorem growX_app {P : Program} {σ : AW} {N t e n bts : Nat} {zv v : Value} {vs ps l : List Value} (hu : P.underlying t = some (.slice e)) (hio : (P.info? e).map (fun i => (i.zero, i.size, i.bytes)) = some (some zv, n, bts)) (hz : (cellsL zv).length = n) (hn : 0 < n) (hN : N ≤ σ.next) {D : Nat → Prop} (hD : ∀ k, D k → k < N) (hG : GrowD σ N D e n v vs ps) (hl : l.length = n) (ho : l.all oneB = true) (hb : (2 * (vs.length + 1) + 768) * bts ≤ 281474976710656) (hlen : vs.length + 1 ≤ 1000000000) :
    ∃ σ', appendA P (σ.push ⟨1, e, 1, l⟩) t t v (.slice (some ⟨σ.next, 0, none⟩) 1 2) = some (.slice (some ⟨σ.next + 1, 0, none⟩) (vs.length + 1) 1, σ') ∧ σ'.get (σ.next + 1) = ⟨2, e, n, vs.flatMap cellsL ++ l⟩ ∧ σ'.next = σ.next + 2 ∧ RdL σ' D ps vs ∧ (∀ u ∈ vs, Sh n u) ∧ Ow N σ σ' ∧ ∀ j, j < σ.next → (σ.get j).elem ≠ e → σ'.get j = σ.get j := by
  rcases hG with ⟨rfl, rfl, rfl⟩ | hG
  · refine ⟨_, append_0 hu hio hz push_eq hl ho (by simpa using hb), push_at rfl, rfl, rfl, fun u hu => absurd hu (by simp), ((Ow.refl N σ).push _).push _, fun j hj _ => by rw [push_ne (by first | omega | (simp only [push_next, set_next]; first | done | omega)), push_ne (by omega)]⟩
  · obtain ⟨B, c, k, z, rfl, h2, h3, h4, h5, h6, h7⟩ := hG
    have hne : B ≠ σ.next := by omega
    have hnx : (if k = 1 then σ.push ⟨1, e, 1, l⟩ else (σ.push ⟨1, e, 1, l⟩).set B noBlk).next = σ.next + 1 := by split <;> rfl
    have hkeep : ∀ j, j ≠ B → j < σ.next → ((if k = 1 then σ.push ⟨1, e, 1, l⟩ else (σ.push ⟨1, e, 1, l⟩).set B noBlk).push ⟨2, e, n, vs.flatMap cellsL ++ l⟩).get j = σ.get j := fun j h1 h2 => by
      rw [push_ne (by rw [hnx]; omega)]
      split
      · exact push_ne (by omega)
      · rw [set_ne h1, push_ne (by omega)]
    refine ⟨_, by
      have := append_1 hu hio hz hn (len := vs.length) (σ := σ.push ⟨1, e, 1, l⟩) (by rw [push_ne hne]; exact h2) (h3.imp (fun h => ⟨h.1, h.2.1⟩) (fun h => ⟨h.1, h.2.1, rfl, h.2.2⟩)) (flat_len h7) push_eq hl ho hb hlen
      exact this, ?_, by rw [push_next, hnx], ?_, h7, ?_, fun j hj hz0 => ?_⟩
    · have := push_eq (σ := if k = 1 then σ.push ⟨1, e, 1, l⟩ else (σ.push ⟨1, e, 1, l⟩).set B noBlk) (b := ⟨2, e, n, vs.flatMap cellsL ++ l⟩)
      rw [hnx] at this
      exact this
    · exact h6.keep (fun j hj hlt _ => hkeep j (by have := hD j hj; omega) hlt) (by rw [push_next, hnx]; omega) (fun j hj _ => hj)
    · split
      · exact (((Ow.refl N σ).push _).push _)
      · exact ((((Ow.refl N σ).push _).set h4 _).push _)
    · exact hkeep j (fun e => hz0 (by rw [e, h2])) hj
def zeroItem : List Value := [.int .i64 0, .int .i64 0, .string ⟨#[]⟩, .string ⟨#[]⟩, .slice none 0 0, .slice none 0 0, .string ⟨#[]⟩]
theorem Ow.gr {σ σ' : AW} (h : Ow σ.next σ σ') (r : Nat) : Gr r σ σ' := ⟨h.next, fun k h1 _ => h.get k h1 h1⟩
theorem ev_zE (A : Fr) : ev A (.const (.agg #[.int .i64 0, .int .i64 0, .string ⟨#[]⟩, .string ⟨#[]⟩, .slice none 0 0, .slice none 0 0])) = some (.agg #[.int .i64 0, .int .i64 0, .string ⟨#[]⟩, .string ⟨#[]⟩, .slice none 0 0, .slice none 0 0]) := rfl
theorem store_last {P : Program} {σ : AW} {t B e z n i : Nat} {cs l lx : List Value} (hg : σ.get B = ⟨2, e, z, cs ++ l⟩) (hs : szOf P t = some n) (hl : l.length = n) (hx : lx.length = n) (ho : lx.all oneB = true) (hc : cs.length = i) : storeA P σ t ⟨B, i, none⟩ (.agg ⟨lx⟩) = some (σ.set B ⟨2, e, z, cs ++ lx⟩) := by
  have h1 : i + n ≤ (cs ++ l).length := by rw [List.length_append]; omega
  have h2 : (cs ++ l).drop (i + n) = [] := List.drop_eq_nil_of_le (by rw [List.length_append]; omega)
  have h3 : (cs ++ l).take i = cs := List.take_left' hc
  simp only [storeA, row_2 hg, hs, cellsL, hx, h1, ho, and_self, if_true, hg, h2, h3, List.append_nil]
theorem W_twoE {P : Program} {id : Nat} {l l1 all2 : List Oper} (i j : Nat) (ord : List Nat) {A : Fr} {σ σ' : AW} {Q : Exit → Fr → AW → Prop} (hm : P.follows .mixedOrders = true) (hij : (Nat.blt i l.length && Nat.blt j l.length && !Nat.beq i j) = true) (hpl : l.all (fun o => plainK o.op) = true)
    (e1 : addE l j i = l1) (hok1 : regOK l1 = true) (hf1 : floatFit l1 (floatAt l1 (ancL [] l1)) A = true)
    (e2 : permOps (addE l i j) ord = all2) (hpe : permOK (addE l i j) ord = true) (hwi : within (addE l i j) = true) (hok2 : regOK all2 = true) (hf2 : floatFit all2 (floatAt all2 (ancL [] all2)) A = true)
    (h : ∃ A', OpsV P l1 0 l1 [] [(0, σ)] A σ (fun pd st A1 σ1 => (∀ p ∈ owes l1 (ancL [] l1) (floatAt l1 (ancL [] l1)), OwedV P l1 pd st p) ∧ A1 = A' ∧ σ1 = σ') ∧ OpsV P all2 0 all2 [] [(0, σ)] A σ (fun pd st A1 σ1 => (∀ p ∈ owes all2 (ancL [] all2) (floatAt all2 (ancL [] all2)), OwedV P all2 pd st p) ∧ A1 = A' ∧ σ1 = σ') ∧ Q .normal A' σ') : W P (.region id l.toArray true) A σ Q := by
  obtain ⟨A', h1, h2, h3⟩ := h
  exact W_two i j ord hm hij hpl e1 hok1 hf1 h1 e2 hpe hwi hok2 hf2 h2 h3
def AsgOK (l : List (ByteArray × Tr)) : Prop := ∀ p ∈ l, ∃ k m s t kids qs, p.2 = mkE k m s t kids qs
set_option maxHeartbeats 3200000 in
theorem assign_c {σ : AW} {M : Nat} {l : List (ByteArray × Tr)} (hl : AsgOK l) (hlen : l.length ≤ 200000) {D : Nat → Prop} {v : Value} (hv : Rd σ D (sl 7 (l.map fun p => withName p.2 p.1)) v) {k a : Int} {tb : ByteArray} (gM : σ.get M = ⟨1, 55, 0, [.int .i64 k, .int .i64 a, .string tb, .slice none 0 0, .slice none 0 0, .slice none 0 0, .slice none 0 0, .slice none 0 0, .slice none 0 0]⟩) (hM : M < σ.next) :
    C Tryz.prog 104 [.pointer (some ⟨M, 0, none⟩), v] σ fun _ σ' => ∃ vn ve, σ'.get M = ⟨1, 55, 0, [.int .i64 k, .int .i64 a, .string tb, vn, ve, .slice none 0 0, .slice none 0 0, .slice none 0 0, .slice none 0 0]⟩ ∧ Rd σ' (fun j => σ.next ≤ j) (sl 1 (l.map fun p => nameT p.1)) vn ∧ Rd σ' (fun j => D j ∨ σ.next ≤ j) (sl 6 (l.map fun p => p.2)) ve ∧ Gr M σ σ' := by
  have hlm : (l.map fun p => withName p.2 p.1).length = l.length := List.length_map ..
  have l1 : ∀ τ, lenA Tryz.prog τ 40 v = some (.int .i64 l.length) := fun τ => by obtain ⟨a, c, rfl⟩ := rd_len hv; rw [hlm]; exact ln_40 τ a _ c
  refine C_enter rfl Tryz.func104 rfl Tryz.ntmps104 Tryz.results104 (Nat.le_of_ble_eq_true rfl) ?_; intro A hz hA; have a0 := hA 0 _ rfl; have a1 := hA 1 _ rfl; clear hA
  repeat (first | apply s_R | apply o_n | ((first | apply o_p | (refine' o_g rfl rfl ?_ ?_; rotate_left) | apply w_c); (focus simp (disch := first | decide | (try simp only [zz, hz]) <;> omega | fail) only [go_sem, hz, a0, a1, l1] <;> rfl); with_reducible first | apply o_i | apply g_1 | apply g_2 | apply g_3 | apply g_4 | apply c_1 | apply c_2) | apply r_E | apply b_k | apply s_k | apply s_q)
  refine W_loop (WL_inv (fun m B σ1 => ∃ (i : Nat) (vs : List Value) (vn ve : Value), i ≤ l.length ∧ m = l.length - i ∧ vs.length = i ∧ B.size = 36 ∧ B.get 0 = some (.pointer (some ⟨M, 0, none⟩)) ∧ B.get 6 = some v ∧ B.get 7 = some (.int .i64 (l.length : Int)) ∧ B.get 8 = some (.int .i64 (i : Int)) ∧ Gr M σ σ1 ∧ (∃ a b c, vn = .slice a b c) ∧ (∃ a c, ve = .slice a i c) ∧ σ1.get M = ⟨1, 55, 0, [.int .i64 k, .int .i64 a, .string tb, vn, ve, .slice none 0 0, .slice none 0 0, .slice none 0 0, .slice none 0 0]⟩ ∧ GrowTO σ1 σ.next 9 vn ((l.take i).map fun p => p.1) ∧ GrowD σ1 σ.next (fun j => D j ∧ j < σ.next) 37 6 ve vs ((l.take i).map fun p => p.2)) ?_ (m := l.length) (by refine' ⟨0, [], .slice none 0 0, .slice none 0 0, Nat.zero_le _, rfl, rfl, ?_, ?_, ?_, ?_, ?_, Gr.refl M σ, ⟨_, _, _, rfl⟩, ⟨_, _, rfl⟩, gM, .inl ⟨rfl, rfl⟩, .inl ⟨rfl, rfl, rfl⟩⟩; any_goals simp (disch := first | decide | (try simp only [zz, hz]) <;> omega | fail) only [go_sem, hz, a0, a1] <;> rfl))
  rintro m B σ1 ⟨i, vs, _, _, hi, rfl, hvl, hz, b0, b6, b7, b8, g1, ⟨na, nb, nc, rfl⟩, ⟨ea, ec, rfl⟩, gM1, hT, hG⟩
  have nx1 := g1.next
  by_cases hlt : i < l.length
  · have c1 : decide ((i : Int) < (l.length : Int)) = true := by simp [hlt]
    have ks1 : Ks σ σ1 := g1.ks (by rw [gM])
    obtain ⟨ba, o, c, cs, x, rfl, hrow, hel, htk, hx, hxl⟩ := rd_elk (P := Tryz.prog) hv sz_105 (i := i) (by rw [hlm]; exact hlt)
    simp only [List.getElem_map] at hx
    obtain ⟨k1, m1, s1, t1, kids1, qs1, hpe⟩ := hl _ (List.getElem_mem hlt)
    generalize hp : l[i] = p at hx hpe
    obtain ⟨nm, ex⟩ := p
    simp only at hx hpe
    subst hpe
    obtain ⟨lx, v6, rfl, hlx, hy, hv6⟩ := mkE_shape hx
    simp only [rd_str] at hv6
    subst hv6
    have hox : lx.all oneB = true := by
      obtain ⟨_, e, _, _, rfl, rfl, _, _, rfl, rfl, _, _, rfl, rfl, _, _, rfl, rfl, vk, _, rfl, q1, vq, _, rfl, q2, rfl⟩ := rd_agg.1 hy
      injection e with e
      injection e with e
      subst e
      simp only [List.all_cons, List.all_nil, rd_one q1, rd_one q2]
      rfl
    simp only [cellsL] at htk
    have hr1 := hrow _ ks1
    have hl7 : (lx ++ [Value.string nm]).length = 7 := by simp [hlx]
    have ho7 : (lx ++ [Value.string nm]).all oneB = true := by simp [hox, oneB]
    have hg6 : (lx ++ [Value.string nm])[6]? = some (.string nm) := by rw [List.getElem?_append_right (by omega), hlx]; rfl
    have ht6 : (lx ++ [Value.string nm]).take 6 = lx := List.take_left' hlx
    generalize hL7 : lx ++ [Value.string nm] = l7 at htk hl7 ho7 hg6 ht6
    repeat (first | apply s_R | apply o_n | ((first | apply o_p | (refine' o_g rfl rfl ?_ ?_; rotate_left) | apply w_c); (focus simp (disch := first | decide | (try simp only [zz, hz]) <;> omega | fail) only [go_sem, hz, b0, b6, b7, b8, c1, hel, ↓hr1, htk, hl7, ho7] <;> rfl); with_reducible first | apply o_i | apply g_1 | apply g_2 | apply g_3 | apply g_4 | apply c_1 | apply c_2) | apply r_E | apply b_k | apply s_k | apply s_q)
    have qg : Gr M σ1 ((σ1.push ⟨1, 105, 0, zeroItem⟩).set σ1.next ⟨1, 105, 0, l7⟩) := ((Ow.refl σ1.next σ1).push _).set (Nat.le_refl _) _ |>.gr M
    have qI : ((σ1.push ⟨1, 105, 0, zeroItem⟩).set σ1.next ⟨1, 105, 0, l7⟩).get σ1.next = ⟨1, 105, 0, l7⟩ := set_eq
    have qn : ((σ1.push ⟨1, 105, 0, zeroItem⟩).set σ1.next ⟨1, 105, 0, l7⟩).next = σ1.next + 1 := rfl
    unfold zeroItem at qg qI qn
    have ow : Ow σ1.next σ1 ((σ1.push ⟨1, 105, 0, [.int .i64 0, .int .i64 0, .string ⟨#[]⟩, .string ⟨#[]⟩, .slice none 0 0, .slice none 0 0, .string ⟨#[]⟩]⟩).set σ1.next ⟨1, 105, 0, l7⟩) := ((Ow.refl σ1.next σ1).push _).set (Nat.le_refl _) _
    generalize hτ : (σ1.push _).set σ1.next _ = τ at qg qI qn ow
    have gM2 := (ow.get M (by omega) (by omega)).trans gM1
    have hT2 := hT.gr qg hM
    have hG2 := hG.same (fun _ h => h.2) ow.next (fun j hj hlt _ => ow.get j hlt hlt) (fun j hj _ _ => ow.get j hj hj)
    clear hT hG
    have hlen1 : ((l.take i).map fun p => p.1).length = i := by simp; omega
    obtain ⟨vn', σ2, ap1, hT3, ow2, ks2⟩ := growTO_app (P := Tryz.prog) (x := nm) us_53 io_9 rfl (by rw [qn]; omega) hT2 (by rw [hlen1]; omega) (by rw [hlen1]; omega)
    have hrI : ∀ q, rowOf τ ⟨σ1.next, q, none⟩ = some l7 := fun q => row_1 qI
    have gM3 := (ks2 M (by omega) (by rw [gM2]; exact ne_of_beq_false rfl)).trans gM2
    obtain ⟨ma, mb, mc, rfl⟩ : ∃ a b c, vn' = .slice a b c := by obtain ⟨B, c, _, _, e, _⟩ := hT3; exact ⟨_, _, _, e⟩
    refine W_regDE mixed (by kernel_rfl) (by kernel_rfl) ?_
    repeat (apply v_x; (focus simp (disch := first | decide | (try simp only [zz, hz]) <;> omega | fail) only [go_sem, hz, b0, gM2, gM3, ↓hrI, hg6, ap1] <;> rfl); first | refine vX_n ?_ | refine vX_l ?_ | refine vX_e ?_)
    refine V_nil ?_; refine And.intro (owes_by (L := [(4, 0), (4, 8), (6, 0)]) ?_ ?_) ?_; rotate_left 2; (try simp only [Then, Out, JumpL]); rotate_right 2; focus (kernel_rfl)
    · (repeat (refine owe_cons (Owed_op rfl rfl rfl rfl rfl (by simp (disch := first | decide | (try simp only [zz, hz]) <;> omega | fail) only [go_sem, hz, b0, gM2, gM3, ↓hrI, hg6] <;> rfl)) ?_)); exact owe_nil
    have nx2 := ow2.next
    have nM : ∀ B : Blk, Gr M σ2 (σ2.set M B) := fun B => ⟨Nat.le_refl _, fun k _ h => set_ne h⟩
    have hT4 := hT3.gr (nM ⟨1, 55, 0, [.int .i64 k, .int .i64 a, .string tb, .slice ma mb mc, .slice ea i ec, .slice none 0 0, .slice none 0 0, .slice none 0 0, .slice none 0 0]⟩) hM
    have hG4 := hG2.same (σ' := σ2.set M ⟨1, 55, 0, [.int .i64 k, .int .i64 a, .string tb, .slice ma mb mc, .slice ea i ec, .slice none 0 0, .slice none 0 0, .slice none 0 0, .slice none 0 0]⟩) (fun _ h => h.2) nx2 (fun j hj hlt hz => (set_ne (fun e => hz (by rw [e, gM2]))).trans (ow2.get j hlt hj)) (fun j hj hN he => (set_ne (by omega)).trans (ks2 j hj (by rw [he]; exact ne_of_beq_false rfl)))
    have gg4 : Gr M σ (σ2.set M ⟨1, 55, 0, [.int .i64 k, .int .i64 a, .string tb, .slice ma mb mc, .slice ea i ec, .slice none 0 0, .slice none 0 0, .slice none 0 0, .slice none 0 0]⟩) := ((g1.trans qg).ow ow2).trans (nM _)
    have qI4 : (σ2.set M ⟨1, 55, 0, [.int .i64 k, .int .i64 a, .string tb, .slice ma mb mc, .slice ea i ec, .slice none 0 0, .slice none 0 0, .slice none 0 0, .slice none 0 0]⟩).get σ1.next = ⟨1, 105, 0, l7⟩ := (set_ne (by omega)).trans ((ks2 σ1.next (by omega) (by rw [qI]; exact ne_of_beq_false rfl)).trans qI)
    have gM4 : (σ2.set M ⟨1, 55, 0, [.int .i64 k, .int .i64 a, .string tb, .slice ma mb mc, .slice ea i ec, .slice none 0 0, .slice none 0 0, .slice none 0 0, .slice none 0 0]⟩).get M = ⟨1, 55, 0, [.int .i64 k, .int .i64 a, .string tb, .slice ma mb mc, .slice ea i ec, .slice none 0 0, .slice none 0 0, .slice none 0 0, .slice none 0 0]⟩ := set_eq
    have n4 : σ1.next + 1 ≤ (σ2.set M ⟨1, 55, 0, [.int .i64 k, .int .i64 a, .string tb, .slice ma mb mc, .slice ea i ec, .slice none 0 0, .slice none 0 0, .slice none 0 0, .slice none 0 0]⟩).next := by rw [set_next]; omega
    generalize hτ4 : σ2.set M _ = τ4 at hT4 hG4 gg4 qI4 gM4 n4
    obtain ⟨σ5, ap2, g5E, n5, rd5, sh5, ow5, ks5⟩ := growX_app (P := Tryz.prog) (l := [.int .i64 0, .int .i64 0, .string ⟨#[]⟩, .string ⟨#[]⟩, .slice none 0 0, .slice none 0 0]) us_34 io_37 rfl (by decide) (by omega) (fun _ h => h.2) hG4 rfl rfl (by rw [hvl]; omega) (by rw [hvl]; omega)
    rw [hvl] at ap2
    have bsE : buildSliceA Tryz.prog τ4 34 1 [(0, .agg #[.int .i64 0, .int .i64 0, .string ⟨#[]⟩, .string ⟨#[]⟩, .slice none 0 0, .slice none 0 0])] = some (.slice (some ⟨τ4.next, 0, none⟩) 1 2, τ4.push ⟨1, 37, 1, [.int .i64 0, .int .i64 0, .string ⟨#[]⟩, .string ⟨#[]⟩, .slice none 0 0, .slice none 0 0]⟩) := bsl1 us_34 sz_37 zr_37 rfl (by decide) (by decide) _ rfl
    have hrI4 : ∀ q, rowOf τ4 ⟨σ1.next, q, none⟩ = some l7 := fun q => row_1 qI4
    have gM5 := (ks5 M (by omega) (by rw [gM4]; exact ne_of_beq_false rfl)).trans gM4
    have hrI5 : ∀ q, rowOf σ5 ⟨σ1.next, q, none⟩ = some l7 := fun q => row_1 ((ks5 σ1.next (by omega) (by rw [qI4]; exact ne_of_beq_false rfl)).trans qI4)
    have hrI6 : ∀ B q, rowOf (τ4.push B) ⟨σ1.next, q, none⟩ = some l7 := fun B q => row_1 ((push_ne (by omega)).trans qI4)
    have hel5 : elemAtA Tryz.prog 37 ⟨τ4.next + 1, 0, none⟩ (i + 1) (i : Int) = some (.pointer (some ⟨τ4.next + 1, i * 6, none⟩)) := by rw [elem_i sz_37 (by omega), add_none, Nat.zero_add]
    have hfl : (vs.flatMap cellsL).length = i * 6 := by rw [flat_len sh5, hvl]
    have hst1 := store_last (P := Tryz.prog) (t := 37) g5E sz_37 rfl hlx hox hfl
    have hst2 := store_last (P := Tryz.prog) (t := 37) ((set_ne (b := ⟨1, 55, 0, [.int .i64 k, .int .i64 a, .string tb, .slice ma mb mc, .slice (some ⟨τ4.next + 1, 0, none⟩) (i + 1) 1, .slice none 0 0, .slice none 0 0, .slice none 0 0, .slice none 0 0]⟩) (show τ4.next + 1 ≠ M by omega)).trans g5E) sz_37 rfl hlx hox hfl
    have p5 : ∀ B : Blk, (σ5.set (τ4.next + 1) B).get M = _ := fun B => (set_ne (by omega)).trans gM5
    have p6 : ∀ B : Blk, (σ5.set M B).get (τ4.next + 1) = _ := fun B => (set_ne (by omega)).trans g5E
    refine W_twoE (σ' := (σ5.set (τ4.next + 1) ⟨2, 37, 6, vs.flatMap cellsL ++ lx⟩).set M ⟨1, 55, 0, [.int .i64 k, .int .i64 a, .string tb, .slice ma mb mc, .slice (some ⟨τ4.next + 1, 0, none⟩) (i + 1) 1, .slice none 0 0, .slice none 0 0, .slice none 0 0, .slice none 0 0]⟩) (i := 10) (j := 13) [0, 1, 2, 3, 4, 5, 6, 7, 8, 9, 11, 12, 13, 10] mixed (by kernel_rfl) (by kernel_rfl) (by simp only [addE, List.modify_succ_cons, List.modify_zero_cons]; rfl) (by kernel_rfl) (by kernel_rfl) (by simp only [addE, List.modify_succ_cons, List.modify_zero_cons, permOps, List.filterMap_cons, List.filterMap_nil, List.getElem?_cons_zero, List.getElem?_cons_succ, Option.map_some, renum, Option.map_none]; rfl) (by kernel_rfl) (by kernel_rfl) (by kernel_rfl) (by kernel_rfl) ?_
    apply Exists.intro
    refine ⟨?_, ?_, ?_⟩
    · repeat (apply v_x; (focus simp (disch := first | decide | (try simp only [zz, hz]) <;> omega | fail) only [go_sem, hz, b0, gM4, gM5, ↓hrI4, ht6, hlx, hox, List.drop_zero, ev_zE, bsE, ap2, hel5, ↓hst1, ↓hst2, p5, p6] <;> rfl); first | refine vX_n ?_ | refine vX_l ?_ | refine vX_e ?_)
      refine V_nil ?_
      refine And.intro (owes_by (L := [(3, 0), (3, 8), (5, 0), (5, 8), (6, 0), (6, 8)]) ?_ ?_) ?_
      focus (kernel_rfl)
      · (repeat (refine owe_cons (Owed_op rfl rfl rfl rfl rfl (by simp (disch := first | decide | (try simp only [zz, hz]) <;> omega | fail) only [go_sem, hz, b0, gM4, gM5, ↓hrI4, ↓hrI5, ↓hrI6, ht6, hlx, hox, List.drop_zero] <;> rfl)) ?_)); exact owe_nil
      · exact ⟨rfl, rfl⟩
    · repeat (apply v_x; (focus simp (disch := first | decide | (try simp only [zz, hz]) <;> omega | fail) only [go_sem, hz, b0, gM4, gM5, ↓hrI4, ht6, hlx, hox, List.drop_zero, ev_zE, bsE, ap2, hel5, ↓hst1, ↓hst2, p5, p6] <;> rfl); first | refine vX_n ?_ | refine vX_l ?_ | refine vX_e ?_)
      refine V_nil ?_
      refine And.intro (owes_by (L := [(3, 0), (3, 8), (5, 0), (5, 8), (6, 0), (6, 8)]) ?_ ?_) ?_
      focus (kernel_rfl)
      · (repeat (refine owe_cons (Owed_op rfl rfl rfl rfl rfl (by simp (disch := first | decide | (try simp only [zz, hz]) <;> omega | fail) only [go_sem, hz, b0, gM4, gM5, ↓hrI4, ↓hrI5, ↓hrI6, ht6, hlx, hox, List.drop_zero] <;> rfl)) ?_)); exact owe_nil
      · exact ⟨by simp only [put_none], set_comm (by omega)⟩
    · simp only [Then, Out, JumpL]
      have hadd : fastB .add (.int .i64 (i : Int)) (.int .i64 1) = some (.int .i64 ((i + 1 : Nat) : Int)) := by rw [bin_addI (by omega) (by omega)]; rfl
      have nx5 := ow5.next
      have htk1 : l.take (i + 1) = l.take i ++ [(nm, mkE k1 m1 s1 t1 kids1 qs1)] := by rw [List.take_add_one, List.getElem?_eq_getElem hlt, hp]; rfl
      have esM : ∀ j, (σ.get j).esz ≠ 0 → j ≠ M := fun j h e => h (by rw [e, gM])
      have setM : ∀ (σ : AW) (B : Blk), Gr M σ (σ.set M B) := fun _ _ => ⟨Nat.le_refl _, fun _ _ h => set_ne h⟩
      have gr6 := ((gg4.ow ow5).ow ((Ow.refl σ.next σ5).set (show σ.next ≤ τ4.next + 1 by omega) ⟨2, 37, 6, vs.flatMap cellsL ++ lx⟩)).trans (setM _ ⟨1, 55, 0, [.int .i64 k, .int .i64 a, .string tb, .slice ma mb mc, .slice (some ⟨τ4.next + 1, 0, none⟩) (i + 1) 1, .slice none 0 0, .slice none 0 0, .slice none 0 0, .slice none 0 0]⟩)
      repeat (first | apply s_R | apply o_n | ((first | apply o_p | (refine' o_g rfl rfl ?_ ?_; rotate_left) | apply w_c); (focus simp (disch := first | decide | (try simp only [zz, hz]) <;> omega | fail) only [go_sem, hz, b0, b6, b7, b8, hadd] <;> rfl); with_reducible first | apply o_i | apply g_1 | apply g_2 | apply g_3 | apply g_4 | apply c_1 | apply c_2) | apply r_E | apply b_k | apply s_k | apply s_q)
      refine ⟨l.length - (i + 1), by omega, i + 1, vs ++ [.agg ⟨lx⟩], _, _, hlt, rfl, by rw [List.length_append, hvl]; rfl, by simp (disch := first | decide | (try simp only [zz, hz]) <;> omega | fail) only [go_sem, hz] <;> rfl, by simp (disch := first | decide | (try simp only [zz, hz]) <;> omega | fail) only [go_sem, hz, b0] <;> rfl, by simp (disch := first | decide | (try simp only [zz, hz]) <;> omega | fail) only [go_sem, hz, b6] <;> rfl, by simp (disch := first | decide | (try simp only [zz, hz]) <;> omega | fail) only [go_sem, hz, b7] <;> rfl, by simp (disch := first | decide | (try simp only [zz, hz]) <;> omega | fail) only [go_sem, hz] <;> rfl, gr6, ⟨_, _, _, rfl⟩, ⟨_, _, rfl⟩, set_eq, ?_, ?_⟩
      · rw [htk1, List.map_append]
        obtain ⟨B', c', k', z', h1, h2, h3, h4, h5⟩ := hT4
        refine .inr ⟨B', c', k', z', h1, ?_, h3, h4, Nat.lt_of_lt_of_le h5 nx5⟩
        rw [set_ne (by omega), set_ne (by omega), ks5 B' h5 (by rw [h2]; exact ne_of_beq_false rfl)]
        exact h2
      · rw [htk1, List.map_append]
        refine .inr ⟨τ4.next + 1, 1, 2, 6, by rw [List.length_append, hvl]; rfl, ?_, .inr ⟨rfl, rfl, rfl⟩, by omega, by rw [set_next, set_next]; omega, RdL.append (rd5.keep (fun j hj hlt' hz' => ?_) (by rw [set_next, set_next]; exact Nat.le_refl _) (fun _ h _ => h)) (RdL.one (hy.keep (fun j hj hlt' hz' => ?_) gr6.next (fun j hj hlt' => ⟨hj, hlt'⟩))), fun u hu => ?_⟩
        · rw [set_ne (by omega), set_eq, List.flatMap_append]
          simp [cellsL]
        · rw [set_ne (fun e => hz' (by rw [e, gM5])), set_ne (by have := hj.2; omega)]
        · rw [set_ne (esM j hz'), set_ne (by omega), ow5.get j (by omega) hlt', gg4.get j hlt' (esM j hz')]
        · rcases List.mem_append.1 hu with hu | hu
          · exact sh5 u hu
          · simp only [List.mem_singleton] at hu
            subst hu
            exact ⟨lx, rfl, hlx, hox⟩
  · have c1 : decide ((i : Int) < (l.length : Int)) = false := by simp [hlt]
    repeat (first | apply s_R | apply o_n | ((first | apply o_p | (refine' o_g rfl rfl ?_ ?_; rotate_left) | apply w_c); (focus simp (disch := first | decide | (try simp only [zz, hz]) <;> omega | fail) only [go_sem, hz, b0, b6, b7, b8, c1] <;> rfl); with_reducible first | apply o_i | apply g_1 | apply g_2 | apply g_3 | apply g_4 | apply c_1 | apply c_2) | apply r_E | apply b_k | apply s_k | apply s_q)
    refine W_exit ?_; simp only [Then, Out, JumpL, reduceIte, Nat.reduceEqDiff]
    repeat (first | apply s_R | apply o_n | ((first | apply o_p | (refine' o_g rfl rfl ?_ ?_; rotate_left) | apply w_c); (focus simp (disch := first | decide | (try simp only [zz, hz]) <;> omega | fail) only [go_sem, hz] <;> rfl); with_reducible first | apply o_i | apply g_1 | apply g_2 | apply g_3 | apply g_4 | apply c_1 | apply c_2) | apply r_E | apply b_k | apply s_k | apply s_q)
    refine end_mk (by simp (disch := first | decide | (try simp only [zz, hz]) <;> omega | fail) only [go_sem, hz] <;> rfl) ?_; (try simp only [resultA])
    have hil : i = l.length := by omega
    subst hil
    rw [List.take_length] at hT hG
    refine ⟨_, _, gM1, ?_, ?_, g1⟩
    · have := hT.rd
      rw [List.map_map] at this
      exact this
    · rcases hG with ⟨_, h2, h3⟩ | hG
      · rw [h2, h3]; exact rd_nil _ _ _
      · obtain ⟨B, c, k, z, e1, h2, h3, h4, h5, h6, h7⟩ := hG
        rw [e1]
        refine rd_sl.2 ⟨vs, h6.keep (fun _ _ _ _ => rfl) (Nat.le_refl _) (fun k hk _ => .inl hk.1), .inr ⟨B, 0, c, k, _, z, _, rfl, h2, h3.imp (·.1) (·.1), ?_, h5, .inr h4, ?_, fun u hu => (h7 u hu).len⟩⟩
        · rcases h3 with ⟨_, _, rfl⟩ | ⟨_, _, rfl⟩ <;> decide
        · rw [List.drop_zero, List.take_of_length_le (by rw [flat_len h7]; exact Nat.le_refl _)]
end Go.Proofs.YtckidlbmoalomaaGreatDoor
