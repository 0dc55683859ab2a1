/- What the program's Scan does at each pass, in plain words; Clone; take at the end too. -/
import Derived.Test.YthogkmcahnkkoaaGreatDoorJ14
import Derived.ScopeJumps
namespace Go.Proofs.YthogkmcahnkkoaaGreatDoor
open Go.RowKit Go.Sort
theorem clone_any (w : World) (s : ByteArray) (hs : s.size ≤ 1000000) : Calls Tryz.prog 84 #[.string s] w fun e w' => e = .returned (.string s) ∧ Below w.heap.size w w' := by
 have a := Tryz.stringslite_Clone s w (by omega)
 go_enter Tryz.func84, Tryz.ntmps84
 go_wp2_with fail
 refine a.mono ?_
 rintro e w1 ⟨rfl, b1⟩
 go_wp2_with fail
 go_ret
 exact ⟨rfl, b1⟩
theorem Am : ∀ (l : List UInt8) (o k : Nat), nD l o k = nD (l.drop (runN gy l)) (o + runN gy l) k
 | [], o, k => rfl
 | c :: r, o, k => by
  by_cases h : gy c = true
  ·rw [KX h, Am r]
   have e : runN gy (c :: r) = runN gy r + 1 := by rw [runN, if_pos h]
   rw [e, List.drop_succ_cons, show o + 1 + runN gy r = o + (runN gy r + 1) by omega]
  ·have e : runN gy (c :: r) = 0 := by rw [runN, if_neg h]
   rw [e]; rfl
theorem Hr (p : UInt8 → Bool) : ∀ l : List UInt8, l.drop (runN p l) = [] ∨ ∃ c r, l.drop (runN p l) = c :: r ∧ p c = false
 | [] => .inl rfl
 | c :: r => by
  by_cases h : p c = true
  ·have e : runN p (c :: r) = runN p r + 1 := by rw [runN, if_pos h]
   rw [e, List.drop_succ_cons]
   exact Hr p r
  ·have e : runN p (c :: r) = 0 := by rw [runN, if_neg h]
   rw [e]
   exact .inr ⟨c, r, rfl, by simpa using h⟩
theorem VI {l : List UInt8} (h : Lib.hasPrefix l [45, 45] = true) : ∃ c d r, l = c :: d :: r ∧ c.toNat = 45 ∧ d.toNat = 45 := by
 have h' : [45, 45] <+: l := List.isPrefixOf_iff_prefix.1 h
 obtain ⟨r, rfl⟩ := h'
 exact ⟨45, 45, r, rfl, rfl, rfl⟩
theorem YW {c : UInt8} {r : List UInt8} (h : Lib.hasPrefix (c :: r) [45, 45] = false) : ¬ (c.toNat = 45 ∧ r.head?.map UInt8.toNat = some 45) := by
 rintro ⟨h1, h2⟩
 have e1 : c = 45 := UInt8.toNat_inj.1 h1
 cases r with
 | nil => simp at h2
 | cons d q =>
  have e2 : d = 45 := UInt8.toNat_inj.1 (by simpa using h2)
  subst e1 e2
  have : Lib.hasPrefix (45 :: 45 :: q) [45, 45] = true := by
   show List.isPrefixOf [45, 45] (45 :: 45 :: q) = true
   rw [List.isPrefixOf_iff_prefix]
   exact ⟨q, rfl⟩
  rw [this] at h
  cases h
theorem Oo {l : List UInt8} (h : Lib.hasPrefix l [45, 45] = true) (o k : Nat) : nD l o k = nD (l.drop (runN mY l)) (o + runN mY l) k ∧ 0 < runN mY l := by
 obtain ⟨c, d, r, rfl, h1, h2⟩ := VI h
 exact ⟨NS h1 h2, xq (by simp [mY, h1])⟩
def BU : List UInt8 → (Int × List UInt8 × Nat × Nat) ⊕ Nat
 | [] => .inl (0, [], 0, 0)
 | c :: r => oI (c :: r)
theorem RY {l : List UInt8} (hb : l = [] ∨ ∃ c r, l = c :: r ∧ gy c = false) (hd : Lib.hasPrefix l [45, 45] = false) (o k : Nat) :
  nD l o k = match BU l with
   | .inr n => ([], o + n, 10)
   | .inl (kind, t, n, len) => if 6000 ≤ k then ([], o, 8) else if l = [] then ([(kind, ⟨t.toArray⟩, (n : Int), (o : Int))], 0, 0) else iL [(kind, ⟨t.toArray⟩, (n : Int), (o : Int))] (nD (l.drop len) (o + len) (k + 1)) := by
 rcases hb with rfl | ⟨c, r, rfl, hb⟩
 ·rw [QW]; rfl
 ·rw [QX hb (YW hd)]
  show (match oI (c :: r) with | .inr n => _ | .inl (kind, t, n, len) => _) = match oI (c :: r) with | .inr n => _ | .inl (kind, t, n, len) => _
  generalize oI (c :: r) = z
  rcases z with ⟨kind, t, n, len⟩ | n
  ·simp
  ·rfl
theorem RZ {l : List UInt8} {kind : Int} {t : List UInt8} {n len : Nat} (h : oI l = .inl (kind, t, n, len)) : kind ≠ 0 := by
 cases l with
 | nil => cases h
 | cons c r =>
  replace h : zX c r = .inl (kind, t, n, len) := h
  unfold zX at h
  repeat' split at h
  all_goals first | (cases h; done) | (simp only [Sum.inl.injEq, Prod.mk.injEq] at h; obtain ⟨rfl, _⟩ := h; decide)
theorem Oq {l : List UInt8} {kind : Int} {t : List UInt8} {n len : Nat} (h : BU l = .inl (kind, t, n, len)) : (l = [] ∧ kind = 0) ∨ (¬ l = [] ∧ kind ≠ 0 ∧ 0 < len ∧ len ≤ l.length) := by
 cases l with
 | nil =>
  simp only [BU, Sum.inl.injEq, Prod.mk.injEq] at h
  exact .inl ⟨rfl, h.1.symm⟩
 | cons c r => exact .inr ⟨by simp, RZ (l := c :: r) h, EM (l := c :: r) h⟩
theorem Si {l : List UInt8} {kind : Int} {t : List UInt8} {n len : Nat} (h : oI l = .inl (kind, t, n, len)) : t.length ≤ 1000 := by
 cases l with
 | nil => cases h
 | cons c r =>
  replace h : zX c r = .inl (kind, t, n, len) := h
  unfold zX at h
  split at h
  ·split at h
   ·cases h
   ·simp only [Sum.inl.injEq, Prod.mk.injEq] at h
    obtain ⟨_, rfl, _⟩ := h
    rw [List.length_take]; omega
  ·split at h
   ·split at h
    ·cases h
    ·simp only [Sum.inl.injEq, Prod.mk.injEq] at h
     obtain ⟨_, rfl, _⟩ := h
     rw [List.length_take]; omega
   ·split at h
    ·split at h
     ·rename_i b k e
      simp only [Sum.inl.injEq, Prod.mk.injEq] at h
      obtain ⟨_, rfl, _⟩ := h
      unfold Dh at e
      split at e
      ·cases e
      ·split at e
       ·cases e
       ·split at e
        ·cases e
        ·simp only [Sum.inl.injEq, Prod.mk.injEq] at e
         obtain ⟨rfl, _⟩ := e
         omega
     ·cases h
    ·split at h
     ·rename_i m e
      simp only [Sum.inl.injEq, Prod.mk.injEq] at h
      obtain ⟨_, rfl, _⟩ := h
      exact Nat.le_trans ((by decide : ∀ m ∈ rF, m.length ≤ 2) m (List.mem_of_find?_eq_some e)) (by decide)
     ·cases h
theorem Sj {l : List UInt8} {kind : Int} {t : List UInt8} {n len : Nat} (h : BU l = .inl (kind, t, n, len)) : t.length ≤ 1000 := by
 cases l with
 | nil =>
  simp only [BU, Sum.inl.injEq, Prod.mk.injEq] at h
  obtain ⟨_, rfl, _⟩ := h
  simp
 | cons c r => exact Si (l := c :: r) h
theorem VJ {l : List UInt8} {d : Nat} (h : oI l = .inr d) : d ≤ l.length := by
 cases l with
 | nil => simp only [oI, Sum.inr.injEq] at h; omega
 | cons c r =>
  replace h : zX c r = .inr d := h
  unfold zX at h
  split at h
  ·split at h
   ·simp only [Sum.inr.injEq] at h; omega
   ·cases h
  ·split at h
   ·split at h
    ·simp only [Sum.inr.injEq] at h; omega
    ·cases h
   ·split at h
    ·split at h
     ·cases h
     ·rename_i k e
      simp only [Sum.inr.injEq] at h
      subst h
      unfold Dh at e
      split at e
      ·simp only [Sum.inr.injEq] at e; omega
      ·split at e
       ·simp only [Sum.inr.injEq] at e; omega
       ·split at e
        ·rename_i hr
         simp only [Sum.inr.injEq] at e
         have := zW false (c :: r)
         omega
        ·cases e
    ·split at h
     ·cases h
     ·simp only [Sum.inr.injEq] at h; omega
theorem VK {l : List UInt8} {d : Nat} (h : BU l = .inr d) : d ≤ l.length := by
 cases l with
 | nil => cases h
 | cons c r => exact VJ (l := c :: r) h
theorem dN.set13 {w : World} {b : Nat} {k n a : Int} {t : ByteArray} (h : dN w b k t n a) (t' : ByteArray) (a' : Int) : dN ((w.setCell ⟨b, 1, none⟩ (.string t')).setCell ⟨b, 3, none⟩ (.int .i64 a')) b k t' n a' :=
 heap_setCell_same _ b 3 _ _ _ (heap_setCell_same w b 1 _ _ _ h)
theorem dN.after {w w' : World} {b : Nat} {k n a : Int} {t : ByteArray} {v : Value} (h : dN w b k t n a) (hk : ∀ i, i < w.heap.size → v.ownBlock ≠ some i → w'.heap[i]? = w.heap[i]?) (hn : v.ownBlock ≠ some b) : dN w' b k t n a := (hk b h.lt hn).trans h
theorem qH (s : ByteArray) (k : Nat) : (s.extract k s.size).data.toList = s.data.toList.drop k := by
 rw [xG]
 have h : (s.data.toList.drop k).length ≤ s.size - k := by simp
 rw [List.take_of_length_le h]
theorem Sl (w : World) (s : ByteArray) (k : Nat) (hk : k ≤ s.size) (hs : s.size ≤ 1000000) (hm : uw w ∨ ∀ c ∈ s.data.toList, c.toNat ≠ 39) :
  Calls Tryz.prog 83 #[.string (s.extract k s.size)] w fun e w' => e = .returned (gX (BU (s.data.toList.drop k))) ∧ Below w.heap.size w w' := by
 have he := qH s k
 by_cases h : k = s.size
 ·subst h
  have h1 : s.data.toList.drop s.size = [] := List.drop_eq_nil_of_le (by simp)
  rw [h1] at he ⊢
  have h2 : s.extract s.size s.size = ⟨#[]⟩ := toList_inj (by rw [ByteArray.toList_eq, he, ByteArray.toList_eq])
  rw [h2]
  exact take_nil w
 ·have h0 : 0 < (s.extract k s.size).size := by simp; omega
  have hx : (s.extract k s.size).size ≤ 1000000 := by simp; omega
  have a := take_any w (s.extract k s.size) h0 (hm.imp id fun hn => hn _ (by
   have : (s.extract k s.size)[0] ∈ (s.extract k s.size).data.toList := by
    rw [lN _ h0]; exact List.mem_cons_self ..
   rw [he] at this
   exact List.mem_of_mem_drop this)) hx
  have hc := lN _ h0
  rw [he] at a hc
  rw [hc] at a ⊢
  exact a
theorem Ap {P : Program} {Q : Exit → Act → World → Prop} {a : Act} {w : World} {c body : Code} (l : Nat) (J : Act → World → Prop) (μ : Act → World → Nat) (hf : findLabel c l = some (Code.skip.seq body))
  (first : (∀ a w, J a w → body.wp P (Exit.jump l J Q) a w) → c.wp P (Exit.jump l J Q) a w)
  (pass : ∀ a w, J a w → body.wp P (Exit.jump l (fun a' w' => J a' w' ∧ μ a' w' < μ a w) Q) a w) : (Code.scope c).wp P Q a w :=
 wp_scope_jumps l J μ hf (first fun a w hJ => wp_mono (pass a w hJ) fun e a w h => by
  cases e <;> first | exact h | exact ⟨h.1, h.2.1⟩) fun a w hJ => wp_seq (wp_skip (pass a w hJ))
section
variable {α : Type} {m : Nat} {enc : α → List Value}
theorem yH (he : ∀ x, (enc x).length = m) (hm : 0 < m) (h1c : ∀ x, ∀ u ∈ enc x, u.oneCell' = true) {ops : Array Oper} {rest : List Oper} {o : Oper} {a : Act} {Q : Exit → Act → World → Prop} {w : World} {base H : Nat} {t e : TypeId} {z : Value} {bytes : Nat} {v : Value} {L : List α} {C : Array Value} (y : α)
  (hinfo : (Tryz.prog.info? e).map (fun i => (i.zero, i.size, i.bytes)) = some (some z, m, bytes)) (ht : Tryz.prog.underlying t = some (.slice e)) (hzc : z.cells.size = m) (hby : bytes ≤ 4096)
  (s x : Operand) (hgd : o.guard = none) (ho : o.op = .call { callee := .builtin .append, args := #[s, x], argTypes := #[t, t] })
  (hs : a.eval s = v) (hx : a.eval x = .slice (some ⟨H, 0, none⟩) 1 1) (hH : w.heap.size = H) (hC : C.toList = enc y) (hown : kK m enc w base e v L) (hb : base ≤ w.heap.size) (hlen : L.length + 1 ≤ 10000000)
  (h : ∀ v' w', kK m enc w' base e v' (L ++ [y]) → Below base w w' → (∀ i, i < w.heap.size → v.ownBlock ≠ some i → w'.heap[i]? = w.heap[i]?) → wpList Tryz.prog ops Q rest (a.put o.dst v') w') :
  wpList Tryz.prog ops Q (o :: rest) a (w.alloc (.cells C e)) := by
 refine Lu he hm h1c (L := L) (M := [y]) hinfo ht hzc hby s x hgd ho hs hx (hown.alloc _) (kK.lies he (kK.lit he w [y] (by rw [hC]; simp [ji]) (base := base) hb hH (by simp))) (by simp; omega) hlen fun v' w' h1 h2 h3 => h v' w' h1 (((Below.refl _ _).alloc hb _).trans h2) fun i hi hne => ?_
 rw [h3.block i (by simp; omega) (fun e => hne e.symm)]
 exact Below.heap_alloc _ _ _ (by simpa using hi)
theorem kK.notOwn {w : World} {base : Nat} {e : TypeId} {v : Value} {L : List α} (h : kK m enc w base e v L) {q : Nat} (hq : w.heap.size ≤ q) : v.ownBlock ≠ some q := fun hv => by
 have := (World.ownsRow.lt h q hv).2
 omega
end
end Go.Proofs.YthogkmcahnkkoaaGreatDoor
