/- Slices of structs: how they lie in memory, slices that the calls themselves make, and what an append makes of them; for any struct whose fields are one cell each. Tokens in memory. Contracts of the program's takeName, takeInt, takeMark. Contracts of the program's markSize and takeMark. The library's contracts at this program: each an application of a theorem of the library's. -/
import Derived.Test.YthogkmcahnkkoaaGreatDoorJ12
import Derived.Shelf.Strings.Builder1
import Derived.Shelf.Strings.Builder2
import Derived.Shelf.Small.Wraps
import Derived.Shelf.Strings.BuilderF
import Derived.Shelf.Strconv.Itoa0
import Derived.Shelf.Strconv.Itoa1
import Derived.Shelf.LaysM
import Derived.Shelf.Strconv.Itoa2
import Derived.Shelf.Strconv.Itoa3
import Derived.Shelf.Strconv.Clone
import Derived.Shelf.Strings.Search1
import Derived.Shelf.Strings.Search2
import Derived.Shelf.Strings.Search3
import Derived.Shelf.Strings.Count
import Derived.Shelf.Strings.Shaped
import Derived.Shelf.Strings.Prefix
import Derived.Shelf.Strings.Split
import Derived.Shelf.Strings.Replace
import Derived.Shelf.Bits.Mul64
import Derived.Shelf.Strings.Repeat
import Derived.Shelf.Unicode.DecodeSlow
namespace Go.Proofs.YthogkmcahnkkoaaGreatDoor
open Go.RowKit Go.Sort
section
variable {α : Type} {m : Nat} {enc : α → List Value}
def ji (enc : α → List Value) (L : List α) : List Value := L.flatMap enc
theorem Gu (L K : List α) : ji enc (L ++ K) = ji enc L ++ ji enc K := by simp [ji]
theorem pO (he : ∀ x, (enc x).length = m) (L : List α) : (ji enc L).length = L.length * m := by
 induction L with
 | nil => simp [ji]
 | cons e l ih =>
  have : ji enc (e :: l) = enc e ++ ji enc l := rfl
  rw [this, List.length_append, ih, he, List.length_cons, Nat.succ_mul, Nat.add_comm]
theorem zl (he : ∀ x, (enc x).length = m) : ∀ (L : List α) (i : Nat) (h : i < L.length) (j : Nat), j < m → (ji enc L)[i * m + j]? = (enc L[i])[j]?
 | e :: l, 0, _, j, hj => by
  have hc : ji enc (e :: l) = enc e ++ ji enc l := rfl
  rw [hc, Nat.zero_mul, Nat.zero_add, List.getElem?_append_left (by rw [he]; exact hj)]
  rfl
 | e :: l, i + 1, h, j, hj => by
  have hc : ji enc (e :: l) = enc e ++ ji enc l := rfl
  have := zl he l i (by simpa using h) j hj
  have e1 : (i + 1) * m + j = m + (i * m + j) := by rw [Nat.succ_mul]; omega
  rw [hc, e1, List.getElem?_append_right (by rw [he]; omega), he, Nat.add_sub_cancel_left, this]
  rfl
def yG (m : Nat) (enc : α → List Value) (w : World) (v : Value) (L : List α) : Prop :=
 ∃ ao cap, v = .slice ao L.length cap ∧ ((ao = none → cap = 0) ∧ L.length ≤ cap) ∧ ∀ i (h : i < L.length), ∃ b off, ao = some ⟨b, off, none⟩ ∧ ∀ j u, (enc L[i])[j]? = some u → w.cell? ⟨b, off + i * m + j, none⟩ = some u
theorem yG.keep {w w' : World} {v : Value} {L : List α} (h : yG m enc w v L) (k : Below w.heap.size w w') : yG m enc w' v L := by
 obtain ⟨ao, cap, rfl, hn, hc⟩ := h
 refine ⟨ao, cap, rfl, hn, fun i hi => ?_⟩
 obtain ⟨b, off, h0, h1⟩ := hc i hi
 exact ⟨b, off, h0, fun j u hj => o9 (h1 j u hj) k⟩
theorem yG.nil (w : World) : yG m enc w (.slice none 0 0) [] := ⟨none, 0, rfl, ⟨fun _ => rfl, Nat.le_refl _⟩, fun i hi => absurd hi (by simp)⟩
def kK (m : Nat) (enc : α → List Value) (w : World) (base : Nat) (e : TypeId) (v : Value) (L : List α) : Prop := w.ownsRow base e m v L.length (ji enc L)
theorem kK.nil (w : World) (base : Nat) (e : TypeId) : kK m enc w base e (.slice none 0 0) [] := World.ownsRow_nil _ _ _ _
theorem kK.alloc {w : World} {base : Nat} {e : TypeId} {v : Value} {L : List α} (h : kK m enc w base e v L) (o : Obj) : kK m enc (w.alloc o) base e v L := World.ownsRow.alloc h o
theorem kK.keep {w w' : World} {base : Nat} {e : TypeId} {v : Value} {L : List α} (h : kK m enc w base e v L) (k : Below w.heap.size w w') : kK m enc w' base e v L :=
 World.ownsRow.kept h (uX k) (by cases hv : v.ownBlock <;> simp)
theorem kK.drew {w : World} {base : Nat} {e : TypeId} {v : Value} {L : List α} (h : kK m enc w base e v L) : kK m enc w.drew base e v L := h
theorem kK.mono {w : World} {base base' : Nat} {e : TypeId} {v : Value} {L : List α} (h : kK m enc w base e v L) (hb : base' ≤ base) : kK m enc w base' e v L := by
 refine ⟨h.1, ?_⟩
 rcases h.2 with h | ⟨g, cap, cur, h1, h2, h3⟩
 ·exact .inl h
 ·exact .inr ⟨g, cap, cur, h1, Nat.le_trans hb h2, h3⟩
theorem kK.shapeN {w : World} {base n : Nat} {e : TypeId} {v : Value} {L : List α} (h : kK m enc w base e v L) (hn : L.length = n) : ∃ ao cap, v = .slice ao n cap := by
 subst hn
 rcases h.2 with ⟨rfl, h0⟩ | ⟨g, cap, cur, rfl, _⟩
 ·exact ⟨none, 0, by rw [h0]⟩
 ·exact ⟨_, cap, rfl⟩
theorem kK.lies {w : World} {base : Nat} {e : TypeId} {v : Value} {L : List α} (he : ∀ x, (enc x).length = m) (h : kK m enc w base e v L) : yG m enc w v L := by
 rcases h.2 with ⟨rfl, h0⟩ | ⟨g, cap, cur, rfl, h3⟩
 ·exact ⟨none, 0, by rw [h0], ⟨fun _ => rfl, by omega⟩, fun i hi => by omega⟩
 ·refine ⟨_, cap, rfl, ⟨nofun, h3.2.2.1⟩, fun i hi => ⟨g, 0, rfl, fun j u hj => ?_⟩⟩
  have hjm : j < m := by
   have := (List.getElem?_eq_some_iff.1 hj).1
   rwa [he] at this
  have hg := zl he L i hi j hjm
  rw [hj] at hg
  have hadd : ∀ j, (⟨g, 0, none⟩ : Addr).add j = ⟨g, 0 + j, none⟩ := fun j => by unfold Addr.add; split <;> simp_all
  rw [Nat.add_assoc, ← hadd]
  exact World.ownsRow.cells h (g := g) rfl _ _ hg
theorem kK.lit (he : ∀ x, (enc x).length = m) (w : World) {base H : Nat} {e : TypeId} {C : Array Value} (L : List α) (hC : C.toList = ji enc L) (hb : base ≤ w.heap.size) (hH : w.heap.size = H) (hlen : L.length ≤ 1000000000) :
  kK m enc (w.alloc (.cells C e)) base e (.slice (some ⟨H, 0, none⟩) L.length L.length) L := by
 subst hH
 have hs : C.size = L.length * m := by rw [← Array.length_toList, hC, pO he]
 have := World.ownsRow_lit (base := base) (e := e) (size := m) w C L.length hb (by unfold maxLen; omega) hs
 rw [hC] at this
 exact this
theorem yG.cells (he : ∀ x, (enc x).length = m) (hm : 0 < m) {w : World} {b off : Nat} {n cap : Nat} {L : List α} (h : yG m enc w (.slice (some ⟨b, off, none⟩) n cap) L) : ∀ j u, (ji enc L)[j]? = some u → w.cell? ((⟨b, off, none⟩ : Addr).add j) = some u := by
 obtain ⟨ao, cap', hv, _, hc⟩ := h
 simp only [Value.slice.injEq] at hv
 obtain ⟨rfl, rfl, rfl⟩ := hv
 intro j u hj
 have hlt : j < L.length * m := by
  have := (List.getElem?_eq_some_iff.1 hj).1
  rwa [pO he] at this
 have hi : j / m < L.length := Nat.div_lt_of_lt_mul (by rw [Nat.mul_comm]; exact hlt)
 obtain ⟨b', off', hb, h1⟩ := hc (j / m) hi
 simp only [Option.some.injEq, Addr.mk.injEq, and_true] at hb
 obtain ⟨rfl, rfl⟩ := hb
 have hjm : j % m < m := Nat.mod_lt _ hm
 have hg := zl he L (j / m) hi (j % m) hjm
 have hdm : j / m * m + j % m = j := Nat.div_add_mod' j m
 rw [hdm, hj] at hg
 have hadd : (⟨b, off, none⟩ : Addr).add j = ⟨b, off + j, none⟩ := by unfold Addr.add; split <;> simp_all
 have := h1 (j % m) u hg.symm
 rw [Nat.add_assoc, hdm] at this
 rw [hadd]
 exact this
theorem Oh (h1 : ∀ x, ∀ u ∈ enc x, u.oneCell' = true) {u : Value} {L : List α} (h : u ∈ ji enc L) : u.oneCell' = true := by
 simp only [ji, List.mem_flatMap] at h
 obtain ⟨x, _, hx⟩ := h
 exact h1 x u hx
theorem YU (he : ∀ x, (enc x).length = m) (hm : 0 < m) (h1c : ∀ x, ∀ u ∈ enc x, u.oneCell' = true) {o : Oper} {a : Act} {K : Act → World → Prop} {Q : Exit → Act → World → Prop} {w : World} {base : Nat} {t e : TypeId} {z : Value} {bytes : Nat} {v u : Value} {L M : List α}
  (hinfo : (Tryz.prog.info? e).map (fun i => (i.zero, i.size, i.bytes)) = some (some z, m, bytes)) (ht : Tryz.prog.underlying t = some (.slice e)) (hzc : z.cells.size = m) (hby : bytes ≤ 4096)
  (s x : Operand) (ho : o.op = .call { callee := .builtin .append, args := #[s, x], argTypes := #[t, t] })
  (hs : a.eval s = v) (hx : a.eval x = u) (hown : kK m enc w base e v L) (hsrc : yG m enc w u M) (hb : base ≤ w.heap.size) (hlen : L.length + M.length ≤ 10000000)
  (h : ∀ v' w', kK m enc w' base e v' (L ++ M) → Below base w w' → w.grownBy w' v.ownBlock → K (a.put o.dst v') w') :
  Oper.wp Tryz.prog o a w K Q := by
 obtain ⟨i0, hi, hz0, hz1, hz2⟩ := info_parts hinfo
 have hsrc' := hsrc
 obtain ⟨ao, cap, rfl, hn, hc⟩ := hsrc
 cases ao with
 | none =>
  have hm : M = [] := by
   cases M with
   | nil => rfl
   | cons f m => obtain ⟨b, off, he, _⟩ := hc 0 (by simp); cases he
  subst hm
  rw [hn.1 rfl] at hx
  have hrun := run_append_owned_none (P := Tryz.prog) (w := w) base t o.type e i0 m ht hi v L.length (ji enc L) hown
  unfold Oper.wp
  simp only [List.length_nil] at hx
  simp [execOp, ho, resolve, invoke, builtin, hs, hx, hrun, Result.andThen]
  exact h v w (by rw [List.append_nil]; exact hown) (Below.refl _ _) ⟨rfl, rfl, rfl, Nat.le_refl _, fun _ _ _ => rfl⟩
 | some ad =>
  refine wp_append_own _ s x t ho base e i0 z m bytes ht hi hz0 hz1 hz2 hzc hm v L.length (ji enc L) hs hown ad M.length cap (ji enc M) hx (pO he M) ?_ (fun u hu => Oh h1c hu) ?_ ?_ hb ?_
  ·intro j y hj
   have hlt : j < M.length * m := by
    have := (List.getElem?_eq_some_iff.1 hj).1
    rwa [pO he] at this
   have hpos : 0 < M.length := by
    rcases Nat.eq_zero_or_pos M.length with h0 | h0
    ·rw [h0, Nat.zero_mul] at hlt; omega
    ·exact h0
   obtain ⟨b, off, had, _⟩ := hc 0 hpos
   simp only [Option.some.injEq] at had
   subst had
   exact hsrc'.cells he hm j y hj
  ·unfold maxLen; omega
  ·exact Nat.le_trans (Nat.mul_le_mul hlen hby) (by decide)
  ·intro v' w' h1 h2 _
   refine h v' w' ?_ (Below.grown (Below.refl _ _) h2 hb fun k hk => (World.ownsRow.lt hown k hk).1) h2
   unfold kK
   rw [Gu, List.length_append]
   exact h1
theorem Lu (he : ∀ x, (enc x).length = m) (hm : 0 < m) (h1c : ∀ x, ∀ u ∈ enc x, u.oneCell' = true) {ops : Array Oper} {rest : List Oper} {o : Oper} {a : Act} {Q : Exit → Act → World → Prop} {w : World} {base : Nat} {t e : TypeId} {z : Value} {bytes : Nat} {v u : Value} {L M : List α}
  (hinfo : (Tryz.prog.info? e).map (fun i => (i.zero, i.size, i.bytes)) = some (some z, m, bytes)) (ht : Tryz.prog.underlying t = some (.slice e)) (hzc : z.cells.size = m) (hby : bytes ≤ 4096)
  (s x : Operand) (hgd : o.guard = none) (ho : o.op = .call { callee := .builtin .append, args := #[s, x], argTypes := #[t, t] })
  (hs : a.eval s = v) (hx : a.eval x = u) (hown : kK m enc w base e v L) (hsrc : yG m enc w u M) (hb : base ≤ w.heap.size) (hlen : L.length + M.length ≤ 10000000)
  (h : ∀ v' w', kK m enc w' base e v' (L ++ M) → Below base w w' → w.grownBy w' v.ownBlock → wpList Tryz.prog ops Q rest (a.put o.dst v') w') :
  wpList Tryz.prog ops Q (o :: rest) a w :=
 wpList_plain hgd fun _ hK => YU he hm h1c hinfo ht hzc hby s x ho hs hx hown hsrc hb hlen fun v' w' h1 h2 h3 => hK _ _ (h v' w' h1 h2 h3)
end
abbrev T4 (k : Int) (t : ByteArray) (n a : Int) : Value := .agg #[.int .i64 k, .string t, .int .i64 n, .int .i64 a]
theorem xG (s : ByteArray) (k e : Nat) : s.extract k e = ⟨((s.data.toList.drop k).take (e - k)).toArray⟩ := by
 refine toList_inj ?_
 rw [ByteArray.toList_eq, ByteArray.toList_eq]
 simp [ByteArray.extract, ByteArray.copySlice]
def dN (w : World) (b : Nat) (k : Int) (t : ByteArray) (n a : Int) : Prop := w.heap[b]? = some (.cells #[.int .i64 k, .string t, .int .i64 n, .int .i64 a] 100 (0, 0))
theorem dN.cells {w : World} {b : Nat} {k n a : Int} {t : ByteArray} (h : dN w b k t n a) : w.cell? ⟨b, 0, none⟩ = some (.int .i64 k) ∧ w.cell? ⟨b, 1, none⟩ = some (.string t) ∧ w.cell? ⟨b, 2, none⟩ = some (.int .i64 n) ∧ w.cell? ⟨b, 3, none⟩ = some (.int .i64 a) := by
 refine ⟨?_, ?_, ?_, ?_⟩ <;> (rw [cell_of_row w b _ _ _ _ h]; rfl)
theorem dN.frozen {w : World} {b : Nat} {k n a : Int} {t : ByteArray} (h : dN w b k t n a) (i : Nat) : w.frozen? ⟨b, i, none⟩ = false := frozen_of_row w b i _ _ h
theorem dN.lt {w : World} {b : Nat} {k n a : Int} {t : ByteArray} (h : dN w b k t n a) : b < w.heap.size := (Array.getElem?_eq_some_iff.1 h).1
theorem dN.keep {w w' : World} {b : Nat} {k n a : Int} {t : ByteArray} (h : dN w b k t n a) (g : Below w.heap.size w w') : dN w' b k t n a := (g.block b h.lt).trans h
theorem dN.alloc {w : World} {b : Nat} {k n a : Int} {t : ByteArray} (h : dN w b k t n a) (o : Obj) : dN (w.alloc o) b k t n a := h.keep ((Below.refl _ _).alloc (Nat.le_refl _) _)
def RN (t : Tk) : List Value := [.int .i64 t.1, .string t.2.1, .int .i64 t.2.2.1, .int .i64 t.2.2.2]
theorem LC (t : Tk) : (RN t).length = 4 := rfl
theorem LD (t : Tk) : ∀ u ∈ RN t, u.oneCell' = true := by
 intro u hu
 simp only [RN, List.mem_cons, List.not_mem_nil, or_false] at hu
 rcases hu with rfl | rfl | rfl | rfl <;> rfl
theorem VF : (Tryz.prog.info? 100).map (fun i => (i.zero, i.size, i.bytes)) = some (some (.agg #[.int .i64 0, .string ⟨#[]⟩, .int .i64 0, .int .i64 0]), 4, 40) := by kernel_rfl
theorem Fe {out : List Tk} {p : Nat} {e : Int} (h : e ≠ 0) (l : List Tk) : iL out (l, p, e) = ([], p, e) := by simp [iL, h]
theorem LG (out : List Tk) (r : List Tk × Nat × Int) : ((iL out r).2.2 = 0 → (iL out r).2.1 = 0) ∧ ((iL out r).2.2 ≠ 0 → (iL out r).1 = []) := by
 unfold iL
 by_cases h : r.2.2 = 0
 ·rw [if_pos h]; exact ⟨fun _ => rfl, fun h => absurd rfl h⟩
 ·rw [if_neg h]; exact ⟨fun h' => absurd h' h, fun _ => rfl⟩
theorem rW : ∀ (f : Nat) (l : List UInt8) (o k : Nat), ((jI f l o k).2.2 = 0 → (jI f l o k).2.1 = 0) ∧ ((jI f l o k).2.2 ≠ 0 → (jI f l o k).1 = [])
 | 0, _, _, _ => ⟨fun _ => rfl, fun _ => rfl⟩
 | f + 1, [], o, k => by
  unfold jI
  split
  ·exact ⟨fun h => by simp at h, fun _ => rfl⟩
  ·exact ⟨fun _ => rfl, fun h => absurd rfl h⟩
 | f + 1, c :: r, o, k => by
  unfold jI
  split
  ·exact rW f _ _ _
  ·split
   ·exact rW f _ _ _
   ·split
    ·exact ⟨fun h => by simp at h, fun _ => rfl⟩
    ·split
     ·exact ⟨fun h => by simp at h, fun _ => rfl⟩
     ·exact LG _ _
theorem entered {f : FuncId} {fn : Func} (hf : Tryz.prog.funcs[f]? = some fn) (hb : fn.body.isSome = true) (hname : (fn.name == "runtime.NumGoroutine") = false) (a : Array Value) (w : World) :
  (callFunc f a).run Tryz.prog w = .ok (.enter f a) w := by
 have h1 : fn.name ≠ "runtime.NumGoroutine" := by simpa using hname
 have h2 : fn.body ≠ none := by intro h; rw [h] at hb; cases hb
 simp [callFunc, hf, h1, h2]
theorem RP (w : World) (s : ByteArray) (hs : s.size ≤ 1000000) : Calls Tryz.prog 79 #[.string s, .func (.func 155) #[] #[]] w fun e w' => e = .returned (.int .i64 (runN nameB s.data.toList : Int)) ∧ w' = w :=
 xE 155 nameB (entered Tryz.func155 (by kernel_rfl) (by kernel_rfl)) name_any w s hs
theorem Oi (w : World) (s : ByteArray) (hs : s.size ≤ 1000000) : Calls Tryz.prog 79 #[.string s, .func (.func 120) #[] #[]] w fun e w' => e = .returned (.int .i64 (runN dM s.data.toList : Int)) ∧ w' = w :=
 xE 120 dM (entered Tryz.func120 (by kernel_rfl) (by kernel_rfl)) BR w s hs
theorem VG (w : World) (s : ByteArray) (hs : s.size ≤ 1000000) : Calls Tryz.prog 79 #[.string s, .func (.func 157) #[] #[]] w fun e w' => e = .returned (.int .i64 (runN EJ s.data.toList : Int)) ∧ w' = w :=
 xE 157 EJ (entered Tryz.func157 (by kernel_rfl) (by kernel_rfl)) YT w s hs
theorem Oj (w : World) (s : ByteArray) (hs : s.size ≤ 1000000) : Calls Tryz.prog 79 #[.string s, .func (.func 80) #[] #[]] w fun e w' => e = .returned (.int .i64 (runN gy s.data.toList : Int)) ∧ w' = w :=
 xE 80 gy (entered Tryz.func80 (by kernel_rfl) (by kernel_rfl)) RG w s hs
theorem RQ (w : World) (s : ByteArray) (hs : s.size ≤ 1000000) : Calls Tryz.prog 79 #[.string s, .func (.func 82) #[] #[]] w fun e w' => e = .returned (.int .i64 (runN mY s.data.toList : Int)) ∧ w' = w :=
 xE 82 mY (entered Tryz.func82 (by kernel_rfl) (by kernel_rfl)) RH w s hs
def gX : (Int × List UInt8 × Nat × Nat) ⊕ Nat → Value
 | .inl (kind, t, n, len) => .tuple #[T4 kind ⟨t.toArray⟩ (n : Int) 0, .int .i64 (len : Int), .int .i64 (-1)]
 | .inr d => .tuple #[T4 0 ⟨#[]⟩ 0 0, .int .i64 0, .int .i64 (d : Int)]
theorem pR (s : ByteArray) (n : Nat) : s.extract 0 n = ⟨(s.data.toList.take n).toArray⟩ := by
 rw [xG]; simp
set_option maxHeartbeats 1000000 in
theorem Jk (w : World) (s : ByteArray) (hs : s.size ≤ 1000000) :
  Calls Tryz.prog 119 #[.string s] w fun e w' =>
   e = .returned (gX (if 30 < runN nameB s.data.toList then .inr 0 else .inl (1, s.data.toList.take (runN nameB s.data.toList), 0, runN nameB s.data.toList))) ∧ Below w.heap.size w w' := by
 have a1 := RP (w.alloc (.cells #[.int .i64 0, .string ⟨#[]⟩, .int .i64 0, .int .i64 0] 100)) s hs
 have hle : runN nameB s.data.toList ≤ s.size := by have := qE nameB s.data.toList; simpa using this
 generalize runN nameB s.data.toList = n at a1 hle
 have i0 : (0 : Int) ≤ (n : Int) := by omega
 have i1 : (n : Int) ≤ (s.size : Int) := by omega
 have HE : Hid (s.extract 0 n = ⟨(s.data.toList.take n).toArray⟩) := pR s n
 by_cases h : 30 < n
 ·have q : decide ((30 : Int) < (n : Int)) = true := by simp; omega
  simp only [h, if_true]
  go_enter Tryz.func119, Tryz.ntmps119
  go_wp2_with fail
  refine a1.mono ?_
  rintro e w1 ⟨rfl, hw1⟩
  subst w1
  go_wp2_with fail
  exact bodyPost_ret (v := gX (.inr 0)) (by simp [results, Tryz.results119, go_sem, gX]) rfl ⟨rfl, ((Below.refl _ _).alloc (Nat.le_refl _) _)⟩
 ·have q : decide ((30 : Int) < (n : Int)) = false := by simp; omega
  simp only [h, if_false]
  go_enter Tryz.func119, Tryz.ntmps119
  go_wp2_with fail
  refine a1.mono ?_
  rintro e w1 ⟨rfl, hw1⟩
  subst w1
  go_wp2_with fail
  exact bodyPost_ret (v := gX (.inl (1, s.data.toList.take n, 0, n))) (by simp [results, Tryz.results119, go_sem, gX, HE.out]) rfl ⟨rfl, ((Below.refl _ _).alloc (Nat.le_refl _) _)⟩
theorem Fg {p : UInt8 → Bool} : ∀ (l : List UInt8) (j : Nat), j < runN p l → ∃ c, l[j]? = some c ∧ p c = true
 | [], j, h => by simp [runN] at h
 | c :: r, j, h => by
  unfold runN at h
  by_cases hc : p c = true
  ·rw [if_pos hc] at h
   cases j with
   | zero => exact ⟨c, rfl, hc⟩
   | succ j =>
    obtain ⟨d, h1, h2⟩ := Fg (p := p) r j (by omega)
    exact ⟨d, by simpa using h1, h2⟩
  ·rw [if_neg hc] at h; omega
theorem RS (l : List UInt8) (c : UInt8) : xk (l ++ [c]) = 10 * xk l + (c.toNat - 48) := by simp [xk, List.foldl_append]
theorem YV (l : List UInt8) (h : ∀ c ∈ l, dM c = true) : xk l < 10 ^ l.length := by
 have : ∀ (l : List UInt8) (a : Nat), (∀ c ∈ l, dM c = true) → l.foldl (fun n c => 10 * n + (c.toNat - 48)) a < (a + 1) * 10 ^ l.length := by
  intro l
  induction l with
  | nil => intro a _; simp
  | cons c r ih =>
   intro a ha
   have hd := ha c (List.mem_cons_self ..)
   simp only [dM, Bool.and_eq_true, decide_eq_true_eq] at hd
   have := ih (10 * a + (c.toNat - 48)) fun d hd => ha d (List.mem_cons_of_mem _ hd)
   simp only [List.foldl_cons, List.length_cons]
   refine Nat.lt_of_lt_of_le this ?_
   rw [Nat.pow_succ, Nat.mul_comm (10 ^ r.length) 10, ← Nat.mul_assoc]
   exact Nat.mul_le_mul_right _ (by omega)
 simpa [xk] using this l 0 h
theorem RU {c : UInt8} (h : dM c = true) : 48 ≤ c.toNat ∧ c.toNat ≤ 57 := by
 simpa [dM] using h
theorem Ol {p : UInt8 → Bool} {s : ByteArray} {i : Nat} (h : i < runN p s.data.toList) (hi : i < s.size) : p s[i] = true := by
 obtain ⟨c, h1, h2⟩ := Fg _ _ h
 have h' : i < s.data.toList.length := by simpa using hi
 rw [List.getElem?_eq_getElem h'] at h1
 have : s[i] = c := by injection h1
 rw [this]; exact h2
theorem Om {s : ByteArray} {k : Nat} (h : k ≤ runN dM s.data.toList) : xk (s.data.toList.take k) < 10 ^ k := by
 have hl : (s.data.toList.take k).length = k := by
  rw [List.length_take]; have := qE dM s.data.toList; omega
 have := YV (s.data.toList.take k) fun c hc => by
  obtain ⟨i, hi, rfl⟩ := List.getElem_of_mem hc
  rw [hl] at hi
  obtain ⟨d, h1, h2⟩ := Fg (p := dM) s.data.toList i (by omega)
  rw [List.getElem_take]
  rw [List.getElem?_eq_some_iff] at h1
  obtain ⟨_, h1⟩ := h1
  rw [h1]; exact h2
 rwa [hl] at this
set_option maxHeartbeats 2000000 in
theorem LH (w : World) (s : ByteArray) (hs : s.size ≤ 1000000) :
  Calls Tryz.prog 121 #[.string s] w fun e w' =>
   e = .returned (gX (if 18 < runN dM s.data.toList then .inr 0 else .inl (2, s.data.toList.take (runN dM s.data.toList), xk (s.data.toList.take (runN dM s.data.toList)), runN dM s.data.toList))) ∧ Below w.heap.size w w' := by
 have a1 := Oi (w.alloc (.cells #[.int .i64 0, .string ⟨#[]⟩, .int .i64 0, .int .i64 0] 100)) s hs
 have hle : runN dM s.data.toList ≤ s.size := by have := qE dM s.data.toList; simpa using this
 have HD : Hid (∀ i (hi : i < s.size), i < runN dM s.data.toList → 48 ≤ s[i].toNat ∧ s[i].toNat ≤ 57) := fun i hi h => RU (Ol h hi)
 have HN : Hid (∀ k, k ≤ runN dM s.data.toList → xk (s.data.toList.take k) < 10 ^ k) := fun k h => Om h
 generalize runN dM s.data.toList = n at a1 hle HD HN
 have i0 : (0 : Int) ≤ (n : Int) := by omega
 have i1 : (n : Int) ≤ (s.size : Int) := by omega
 have HE : Hid (s.extract 0 n = ⟨(s.data.toList.take n).toArray⟩) := pR s n
 by_cases h : 18 < n
 ·have q : decide ((18 : Int) < (n : Int)) = true := by simp; omega
  simp only [h, if_true]
  go_enter Tryz.func121, Tryz.ntmps121
  go_wp2_with fail
  refine a1.mono ?_
  rintro e w1 ⟨rfl, hw1⟩
  subst w1
  go_wp2_with fail
  exact bodyPost_ret (v := gX (.inr 0)) (by simp [results, Tryz.results121, go_sem, gX]) rfl ⟨rfl, ((Below.refl _ _).alloc (Nat.le_refl _) _)⟩
 ·have q : decide ((18 : Int) < (n : Int)) = false := by simp; omega
  simp only [h, if_false]
  go_enter Tryz.func121, Tryz.ntmps121
  go_wp2_with fail
  refine a1.mono ?_
  rintro e w1 ⟨rfl, hw1⟩
  subst w1
  go_wp2_with fail
  go_loopw [5, 13] (fun x i wr => ∃ k : Nat, k ≤ n ∧ i = .int .i64 k ∧ x = .int .i64 (xk (s.data.toList.take k) : Int) ∧ wr = w.alloc (.cells #[.int .i64 0, .string ⟨#[]⟩, .int .i64 0, .int .i64 0] 100)) (fun _ i _ => n - (intOf i).toNat)
  case atStart => exact ⟨0, Nat.zero_le _, rfl, rfl, rfl⟩
  case round =>
   obtain ⟨k, hkn, rfl, rfl, rfl⟩ := hrel
   have hb := HN.out k hkn
   have adB : (10 : Nat) ^ k ≤ 10 ^ 18 := Nat.pow_le_pow_right (by decide) (by omega)
   have hb2 : xk (s.data.toList.take k) < 1000000000000000000 := Nat.lt_of_lt_of_le hb adB
   clear hb adB
   by_cases hk : k < n
   ·have hks : k < s.size := by omega
    have HT := RS (s.data.toList.take k) s[k]
    rw [← RF s hks] at HT
    obtain ⟨d0, d1⟩ := HD.out k hks hk
    have j0 : (0 : Int) ≤ (k : Int) := by omega
    have j1 : (k : Int) < (s.size : Int) := by omega
    have hb3 := HN.out (k + 1) (by omega)
    have aat : (10 : Nat) ^ (k + 1) ≤ 10 ^ 18 := Nat.pow_le_pow_right (by decide) (by omega)
    have hb4 : xk (s.data.toList.take (k + 1)) < 1000000000000000000 := Nat.lt_of_lt_of_le hb3 aat
    clear hb3 aat
    have HT' : Hid (xk (s.data.toList.take (k + 1)) = 10 * xk (s.data.toList.take k) + (s[k].toNat - 48)) := HT
    rw [HT] at hb4
    generalize xk (s.data.toList.take k) = m at *
    have hsub : IntKind.u8.wrap ((s[k].toNat : Int) - 48) = ((s[k].toNat - 48 : Nat) : Int) := by
     simp only [IntKind.wrap, IntKind.signed, IntKind.bits]
     simp
     omega
    clear HT
    go_wp2_with fail
    go_roundw
    case rel => exact ⟨k + 1, by omega, by go_num, by rw [HT'.out]; go_num, by first | rfl | trivial⟩
    case measure => simp [intOf]; omega
   ·have hkn' : k = n := by omega
    subst hkn'
    go_wp2_with fail
    exact bodyPost_ret (v := gX (.inl (2, s.data.toList.take k, xk (s.data.toList.take k), k))) (by simp [results, Tryz.results121, go_sem, gX, HE.out]) rfl ⟨rfl, ((Below.refl _ _).alloc (Nat.le_refl _) _)⟩
def aN (c d : Nat) : Nat :=
 if c = 124 then (if d = 124 then 2 else 0)
 else if c = 60 then (if d = 62 then 2 else if d = 61 then 2 else 1)
 else if c = 62 then (if d = 61 then 2 else 1)
 else if c = 40 ∨ c = 41 ∨ c = 44 ∨ c = 59 ∨ c = 46 ∨ c = 42 ∨ c = 43 ∨ c = 45 ∨ c = 47 ∨ c = 37 ∨ c = 61 ∨ c = 123 ∨ c = 125 ∨ c = 58 then 1 else 0
theorem zn (c : Nat) : c = 124 ∨ c = 60 ∨ c = 62 ∨ c = 40 ∨ c = 41 ∨ c = 44 ∨ c = 59 ∨ c = 46 ∨ c = 42 ∨ c = 43 ∨ c = 45 ∨ c = 47 ∨ c = 37 ∨ c = 61 ∨ c = 123 ∨ c = 125 ∨ c = 58 ∨ (¬ c = 124 ∧ ¬ c = 60 ∧ ¬ c = 62 ∧ ¬ c = 40 ∧ ¬ c = 41 ∧ ¬ c = 44 ∧ ¬ c = 59 ∧ ¬ c = 46 ∧ ¬ c = 42 ∧ ¬ c = 43 ∧ ¬ c = 45 ∧ ¬ c = 47 ∧ ¬ c = 37 ∧ ¬ c = 61 ∧ ¬ c = 123 ∧ ¬ c = 125 ∧ ¬ c = 58) := by omega
set_option maxRecDepth 100000 in
set_option maxHeartbeats 4000000 in
theorem Jl (w : World) (s : ByteArray) (h0 : 0 < s.size) (hs : s.size ≤ 1000000) :
  Calls Tryz.prog 158 #[.string s] w fun e w' => e = .returned (.int .i64 (aN s[0].toNat (if h : 1 < s.size then s[1].toNat else 0) : Int)) ∧ w' = w := by
 have i0 : (0 : Int) < (s.size : Int) := by omega
 by_cases h1 : 1 < s.size
 ·have j1 : decide ((1 : Int) < (s.size : Int)) = true := by simp; omega
  have i1 : (1 : Int) < (s.size : Int) := by omega
  simp only [h1, dite_true]
  rcases zn s[0].toNat with hc | hc | hc | hc | hc | hc | hc | hc | hc | hc | hc | hc | hc | hc | hc | hc | hc | hc
  ·have k : (s[0].toNat : Int) = 124 := by omega
   by_cases abu : s[1].toNat = 124
   ·have k2 : (s[1].toNat : Int) = 124 := by omega
    have HM : Hid (aN s[0].toNat s[1].toNat = 2) := by show aN _ _ = _; rw [hc, abu]; rfl
    go_enter Tryz.func158, Tryz.ntmps158
    go_wp2_with fail
    go_ret
    exact ⟨HM.out.symm ▸ rfl, rfl⟩
   have n124 : ((s[1].toNat : Int) == 124) = false := by rw [beq_eq_false_iff_ne]; omega
   have HM : Hid (aN s[0].toNat s[1].toNat = 0) := by show aN _ _ = _; rw [hc]; simp [aN, abu]
   clear abu
   go_enter Tryz.func158, Tryz.ntmps158
   go_wp2_with fail
   go_ret
   exact ⟨HM.out.symm ▸ rfl, rfl⟩
  ·have k : (s[0].toNat : Int) = 60 := by omega
   by_cases h62 : s[1].toNat = 62
   ·have k2 : (s[1].toNat : Int) = 62 := by omega
    have HM : Hid (aN s[0].toNat s[1].toNat = 2) := by show aN _ _ = _; rw [hc, h62]; rfl
    go_enter Tryz.func158, Tryz.ntmps158
    go_wp2_with fail
    go_ret
    exact ⟨HM.out.symm ▸ rfl, rfl⟩
   by_cases h61 : s[1].toNat = 61
   ·have k2 : (s[1].toNat : Int) = 61 := by omega
    have HM : Hid (aN s[0].toNat s[1].toNat = 2) := by show aN _ _ = _; rw [hc, h61]; rfl
    go_enter Tryz.func158, Tryz.ntmps158
    go_wp2_with fail
    go_ret
    exact ⟨HM.out.symm ▸ rfl, rfl⟩
   have n62 : ((s[1].toNat : Int) == 62) = false := by rw [beq_eq_false_iff_ne]; omega
   have n61 : ((s[1].toNat : Int) == 61) = false := by rw [beq_eq_false_iff_ne]; omega
   have HM : Hid (aN s[0].toNat s[1].toNat = 1) := by show aN _ _ = _; rw [hc]; simp [aN, h62, h61]
   clear h62 h61
   go_enter Tryz.func158, Tryz.ntmps158
   go_wp2_with fail
   go_ret
   exact ⟨HM.out.symm ▸ rfl, rfl⟩
  ·have k : (s[0].toNat : Int) = 62 := by omega
   by_cases h61 : s[1].toNat = 61
   ·have k2 : (s[1].toNat : Int) = 61 := by omega
    have HM : Hid (aN s[0].toNat s[1].toNat = 2) := by show aN _ _ = _; rw [hc, h61]; rfl
    go_enter Tryz.func158, Tryz.ntmps158
    go_wp2_with fail
    go_ret
    exact ⟨HM.out.symm ▸ rfl, rfl⟩
   have n61 : ((s[1].toNat : Int) == 61) = false := by rw [beq_eq_false_iff_ne]; omega
   have HM : Hid (aN s[0].toNat s[1].toNat = 1) := by show aN _ _ = _; rw [hc]; simp [aN, h61]
   clear h61
   go_enter Tryz.func158, Tryz.ntmps158
   go_wp2_with fail
   go_ret
   exact ⟨HM.out.symm ▸ rfl, rfl⟩
  ·have k : (s[0].toNat : Int) = 40 := by omega
   have HM : Hid (aN s[0].toNat s[1].toNat = 1) := by show aN _ _ = _; rw [hc]; simp [aN]
   go_enter Tryz.func158, Tryz.ntmps158
   go_wp2_with fail
   go_ret
   exact ⟨HM.out.symm ▸ rfl, rfl⟩
  ·have k : (s[0].toNat : Int) = 41 := by omega
   have HM : Hid (aN s[0].toNat s[1].toNat = 1) := by show aN _ _ = _; rw [hc]; simp [aN]
   go_enter Tryz.func158, Tryz.ntmps158
   go_wp2_with fail
   go_ret
   exact ⟨HM.out.symm ▸ rfl, rfl⟩
  ·have k : (s[0].toNat : Int) = 44 := by omega
   have HM : Hid (aN s[0].toNat s[1].toNat = 1) := by show aN _ _ = _; rw [hc]; simp [aN]
   go_enter Tryz.func158, Tryz.ntmps158
   go_wp2_with fail
   go_ret
   exact ⟨HM.out.symm ▸ rfl, rfl⟩
  ·have k : (s[0].toNat : Int) = 59 := by omega
   have HM : Hid (aN s[0].toNat s[1].toNat = 1) := by show aN _ _ = _; rw [hc]; simp [aN]
   go_enter Tryz.func158, Tryz.ntmps158
   go_wp2_with fail
   go_ret
   exact ⟨HM.out.symm ▸ rfl, rfl⟩
  ·have k : (s[0].toNat : Int) = 46 := by omega
   have HM : Hid (aN s[0].toNat s[1].toNat = 1) := by show aN _ _ = _; rw [hc]; simp [aN]
   go_enter Tryz.func158, Tryz.ntmps158
   go_wp2_with fail
   go_ret
   exact ⟨HM.out.symm ▸ rfl, rfl⟩
  ·have k : (s[0].toNat : Int) = 42 := by omega
   have HM : Hid (aN s[0].toNat s[1].toNat = 1) := by show aN _ _ = _; rw [hc]; simp [aN]
   go_enter Tryz.func158, Tryz.ntmps158
   go_wp2_with fail
   go_ret
   exact ⟨HM.out.symm ▸ rfl, rfl⟩
  ·have k : (s[0].toNat : Int) = 43 := by omega
   have HM : Hid (aN s[0].toNat s[1].toNat = 1) := by show aN _ _ = _; rw [hc]; simp [aN]
   go_enter Tryz.func158, Tryz.ntmps158
   go_wp2_with fail
   go_ret
   exact ⟨HM.out.symm ▸ rfl, rfl⟩
  ·have k : (s[0].toNat : Int) = 45 := by omega
   have HM : Hid (aN s[0].toNat s[1].toNat = 1) := by show aN _ _ = _; rw [hc]; simp [aN]
   go_enter Tryz.func158, Tryz.ntmps158
   go_wp2_with fail
   go_ret
   exact ⟨HM.out.symm ▸ rfl, rfl⟩
  ·have k : (s[0].toNat : Int) = 47 := by omega
   have HM : Hid (aN s[0].toNat s[1].toNat = 1) := by show aN _ _ = _; rw [hc]; simp [aN]
   go_enter Tryz.func158, Tryz.ntmps158
   go_wp2_with fail
   go_ret
   exact ⟨HM.out.symm ▸ rfl, rfl⟩
  ·have k : (s[0].toNat : Int) = 37 := by omega
   have HM : Hid (aN s[0].toNat s[1].toNat = 1) := by show aN _ _ = _; rw [hc]; simp [aN]
   go_enter Tryz.func158, Tryz.ntmps158
   go_wp2_with fail
   go_ret
   exact ⟨HM.out.symm ▸ rfl, rfl⟩
  ·have k : (s[0].toNat : Int) = 61 := by omega
   have HM : Hid (aN s[0].toNat s[1].toNat = 1) := by show aN _ _ = _; rw [hc]; simp [aN]
   go_enter Tryz.func158, Tryz.ntmps158
   go_wp2_with fail
   go_ret
   exact ⟨HM.out.symm ▸ rfl, rfl⟩
  ·have k : (s[0].toNat : Int) = 123 := by omega
   have HM : Hid (aN s[0].toNat s[1].toNat = 1) := by show aN _ _ = _; rw [hc]; simp [aN]
   go_enter Tryz.func158, Tryz.ntmps158
   go_wp2_with fail
   go_ret
   exact ⟨HM.out.symm ▸ rfl, rfl⟩
  ·have k : (s[0].toNat : Int) = 125 := by omega
   have HM : Hid (aN s[0].toNat s[1].toNat = 1) := by show aN _ _ = _; rw [hc]; simp [aN]
   go_enter Tryz.func158, Tryz.ntmps158
   go_wp2_with fail
   go_ret
   exact ⟨HM.out.symm ▸ rfl, rfl⟩
  ·have k : (s[0].toNat : Int) = 58 := by omega
   have HM : Hid (aN s[0].toNat s[1].toNat = 1) := by show aN _ _ = _; rw [hc]; simp [aN]
   go_enter Tryz.func158, Tryz.ntmps158
   go_wp2_with fail
   go_ret
   exact ⟨HM.out.symm ▸ rfl, rfl⟩
  ·have HM : Hid (aN s[0].toNat s[1].toNat = 0) := by show aN _ _ = _; unfold aN; simp only [hc, false_or, if_false]
   have n124 : ((s[0].toNat : Int) == 124) = false := by rw [beq_eq_false_iff_ne]; omega
   have n60 : ((s[0].toNat : Int) == 60) = false := by rw [beq_eq_false_iff_ne]; omega
   have n62 : ((s[0].toNat : Int) == 62) = false := by rw [beq_eq_false_iff_ne]; omega
   have n40 : ((s[0].toNat : Int) == 40) = false := by rw [beq_eq_false_iff_ne]; omega
   have n41 : ((s[0].toNat : Int) == 41) = false := by rw [beq_eq_false_iff_ne]; omega
   have n44 : ((s[0].toNat : Int) == 44) = false := by rw [beq_eq_false_iff_ne]; omega
   have n59 : ((s[0].toNat : Int) == 59) = false := by rw [beq_eq_false_iff_ne]; omega
   have n46 : ((s[0].toNat : Int) == 46) = false := by rw [beq_eq_false_iff_ne]; omega
   have n42 : ((s[0].toNat : Int) == 42) = false := by rw [beq_eq_false_iff_ne]; omega
   have n43 : ((s[0].toNat : Int) == 43) = false := by rw [beq_eq_false_iff_ne]; omega
   have n45 : ((s[0].toNat : Int) == 45) = false := by rw [beq_eq_false_iff_ne]; omega
   have n47 : ((s[0].toNat : Int) == 47) = false := by rw [beq_eq_false_iff_ne]; omega
   have n37 : ((s[0].toNat : Int) == 37) = false := by rw [beq_eq_false_iff_ne]; omega
   have n61 : ((s[0].toNat : Int) == 61) = false := by rw [beq_eq_false_iff_ne]; omega
   have n123 : ((s[0].toNat : Int) == 123) = false := by rw [beq_eq_false_iff_ne]; omega
   have n125 : ((s[0].toNat : Int) == 125) = false := by rw [beq_eq_false_iff_ne]; omega
   have n58 : ((s[0].toNat : Int) == 58) = false := by rw [beq_eq_false_iff_ne]; omega
   clear hc
   go_enter Tryz.func158, Tryz.ntmps158
   go_wp2_with fail
   go_ret
   exact ⟨HM.out.symm ▸ rfl, rfl⟩
 ·have j1 : decide ((1 : Int) < (s.size : Int)) = false := by simp; omega
  simp only [h1, dite_false]
  rcases zn s[0].toNat with hc | hc | hc | hc | hc | hc | hc | hc | hc | hc | hc | hc | hc | hc | hc | hc | hc | hc
  ·have k : (s[0].toNat : Int) = 124 := by omega
   have HM : Hid (aN s[0].toNat 0 = 0) := by show aN _ _ = _; rw [hc]; simp [aN]
   go_enter Tryz.func158, Tryz.ntmps158
   go_wp2_with fail
   go_ret
   exact ⟨HM.out.symm ▸ rfl, rfl⟩
  ·have k : (s[0].toNat : Int) = 60 := by omega
   have HM : Hid (aN s[0].toNat 0 = 1) := by show aN _ _ = _; rw [hc]; simp [aN]
   go_enter Tryz.func158, Tryz.ntmps158
   go_wp2_with fail
   go_ret
   exact ⟨HM.out.symm ▸ rfl, rfl⟩
  ·have k : (s[0].toNat : Int) = 62 := by omega
   have HM : Hid (aN s[0].toNat 0 = 1) := by show aN _ _ = _; rw [hc]; simp [aN]
   go_enter Tryz.func158, Tryz.ntmps158
   go_wp2_with fail
   go_ret
   exact ⟨HM.out.symm ▸ rfl, rfl⟩
  ·have k : (s[0].toNat : Int) = 40 := by omega
   have HM : Hid (aN s[0].toNat 0 = 1) := by show aN _ _ = _; rw [hc]; simp [aN]
   go_enter Tryz.func158, Tryz.ntmps158
   go_wp2_with fail
   go_ret
   exact ⟨HM.out.symm ▸ rfl, rfl⟩
  ·have k : (s[0].toNat : Int) = 41 := by omega
   have HM : Hid (aN s[0].toNat 0 = 1) := by show aN _ _ = _; rw [hc]; simp [aN]
   go_enter Tryz.func158, Tryz.ntmps158
   go_wp2_with fail
   go_ret
   exact ⟨HM.out.symm ▸ rfl, rfl⟩
  ·have k : (s[0].toNat : Int) = 44 := by omega
   have HM : Hid (aN s[0].toNat 0 = 1) := by show aN _ _ = _; rw [hc]; simp [aN]
   go_enter Tryz.func158, Tryz.ntmps158
   go_wp2_with fail
   go_ret
   exact ⟨HM.out.symm ▸ rfl, rfl⟩
  ·have k : (s[0].toNat : Int) = 59 := by omega
   have HM : Hid (aN s[0].toNat 0 = 1) := by show aN _ _ = _; rw [hc]; simp [aN]
   go_enter Tryz.func158, Tryz.ntmps158
   go_wp2_with fail
   go_ret
   exact ⟨HM.out.symm ▸ rfl, rfl⟩
  ·have k : (s[0].toNat : Int) = 46 := by omega
   have HM : Hid (aN s[0].toNat 0 = 1) := by show aN _ _ = _; rw [hc]; simp [aN]
   go_enter Tryz.func158, Tryz.ntmps158
   go_wp2_with fail
   go_ret
   exact ⟨HM.out.symm ▸ rfl, rfl⟩
  ·have k : (s[0].toNat : Int) = 42 := by omega
   have HM : Hid (aN s[0].toNat 0 = 1) := by show aN _ _ = _; rw [hc]; simp [aN]
   go_enter Tryz.func158, Tryz.ntmps158
   go_wp2_with fail
   go_ret
   exact ⟨HM.out.symm ▸ rfl, rfl⟩
  ·have k : (s[0].toNat : Int) = 43 := by omega
   have HM : Hid (aN s[0].toNat 0 = 1) := by show aN _ _ = _; rw [hc]; simp [aN]
   go_enter Tryz.func158, Tryz.ntmps158
   go_wp2_with fail
   go_ret
   exact ⟨HM.out.symm ▸ rfl, rfl⟩
  ·have k : (s[0].toNat : Int) = 45 := by omega
   have HM : Hid (aN s[0].toNat 0 = 1) := by show aN _ _ = _; rw [hc]; simp [aN]
   go_enter Tryz.func158, Tryz.ntmps158
   go_wp2_with fail
   go_ret
   exact ⟨HM.out.symm ▸ rfl, rfl⟩
  ·have k : (s[0].toNat : Int) = 47 := by omega
   have HM : Hid (aN s[0].toNat 0 = 1) := by show aN _ _ = _; rw [hc]; simp [aN]
   go_enter Tryz.func158, Tryz.ntmps158
   go_wp2_with fail
   go_ret
   exact ⟨HM.out.symm ▸ rfl, rfl⟩
  ·have k : (s[0].toNat : Int) = 37 := by omega
   have HM : Hid (aN s[0].toNat 0 = 1) := by show aN _ _ = _; rw [hc]; simp [aN]
   go_enter Tryz.func158, Tryz.ntmps158
   go_wp2_with fail
   go_ret
   exact ⟨HM.out.symm ▸ rfl, rfl⟩
  ·have k : (s[0].toNat : Int) = 61 := by omega
   have HM : Hid (aN s[0].toNat 0 = 1) := by show aN _ _ = _; rw [hc]; simp [aN]
   go_enter Tryz.func158, Tryz.ntmps158
   go_wp2_with fail
   go_ret
   exact ⟨HM.out.symm ▸ rfl, rfl⟩
  ·have k : (s[0].toNat : Int) = 123 := by omega
   have HM : Hid (aN s[0].toNat 0 = 1) := by show aN _ _ = _; rw [hc]; simp [aN]
   go_enter Tryz.func158, Tryz.ntmps158
   go_wp2_with fail
   go_ret
   exact ⟨HM.out.symm ▸ rfl, rfl⟩
  ·have k : (s[0].toNat : Int) = 125 := by omega
   have HM : Hid (aN s[0].toNat 0 = 1) := by show aN _ _ = _; rw [hc]; simp [aN]
   go_enter Tryz.func158, Tryz.ntmps158
   go_wp2_with fail
   go_ret
   exact ⟨HM.out.symm ▸ rfl, rfl⟩
  ·have k : (s[0].toNat : Int) = 58 := by omega
   have HM : Hid (aN s[0].toNat 0 = 1) := by show aN _ _ = _; rw [hc]; simp [aN]
   go_enter Tryz.func158, Tryz.ntmps158
   go_wp2_with fail
   go_ret
   exact ⟨HM.out.symm ▸ rfl, rfl⟩
  ·have HM : Hid (aN s[0].toNat 0 = 0) := by show aN _ _ = _; unfold aN; simp only [hc, false_or, if_false]
   have n124 : ((s[0].toNat : Int) == 124) = false := by rw [beq_eq_false_iff_ne]; omega
   have n60 : ((s[0].toNat : Int) == 60) = false := by rw [beq_eq_false_iff_ne]; omega
   have n62 : ((s[0].toNat : Int) == 62) = false := by rw [beq_eq_false_iff_ne]; omega
   have n40 : ((s[0].toNat : Int) == 40) = false := by rw [beq_eq_false_iff_ne]; omega
   have n41 : ((s[0].toNat : Int) == 41) = false := by rw [beq_eq_false_iff_ne]; omega
   have n44 : ((s[0].toNat : Int) == 44) = false := by rw [beq_eq_false_iff_ne]; omega
   have n59 : ((s[0].toNat : Int) == 59) = false := by rw [beq_eq_false_iff_ne]; omega
   have n46 : ((s[0].toNat : Int) == 46) = false := by rw [beq_eq_false_iff_ne]; omega
   have n42 : ((s[0].toNat : Int) == 42) = false := by rw [beq_eq_false_iff_ne]; omega
   have n43 : ((s[0].toNat : Int) == 43) = false := by rw [beq_eq_false_iff_ne]; omega
   have n45 : ((s[0].toNat : Int) == 45) = false := by rw [beq_eq_false_iff_ne]; omega
   have n47 : ((s[0].toNat : Int) == 47) = false := by rw [beq_eq_false_iff_ne]; omega
   have n37 : ((s[0].toNat : Int) == 37) = false := by rw [beq_eq_false_iff_ne]; omega
   have n61 : ((s[0].toNat : Int) == 61) = false := by rw [beq_eq_false_iff_ne]; omega
   have n123 : ((s[0].toNat : Int) == 123) = false := by rw [beq_eq_false_iff_ne]; omega
   have n125 : ((s[0].toNat : Int) == 125) = false := by rw [beq_eq_false_iff_ne]; omega
   have n58 : ((s[0].toNat : Int) == 58) = false := by rw [beq_eq_false_iff_ne]; omega
   clear hc
   go_enter Tryz.func158, Tryz.ntmps158
   go_wp2_with fail
   go_ret
   exact ⟨HM.out.symm ▸ rfl, rfl⟩
end Go.Proofs.YthogkmcahnkkoaaGreatDoor
namespace Go.Proofs
open Go.Shelf
def Tryz.lays121_ren : Go.Shelf.Ren := ⟨fun | 121 => 55 | 214 => 96 | n => n, fun | 4 => 4 | 9 => 9 | n => n, fun | n => n⟩
theorem Tryz.lays121 : Go.Proofs.Lays.n121 Tryz.prog Tryz.lays121_ren := {
 mixed := by kernel_rfl
 f121 := Tryz.func55.trans (congrArg some (by kernel_rfl))
 f214 := Tryz.func96.trans (congrArg some (by kernel_rfl))
 t4 := Tryz.underlying4
 a4 := Tryz.isAgg4
 z4 := Tryz.sizeOf4
 v4 := Tryz.zeroValue4
 t9 := Tryz.underlying9
 a9 := Tryz.isAgg9
 z9 := Tryz.sizeOf9
 v9 := Tryz.zeroValue9 }
open Go.RowKit in
theorem Tryz.strconv_FormatBool (b : Bool) (w : World) :
 Calls Tryz.prog 55 #[.bool b] w fun e w' => e = .returned (.string ⟨(Lib.formatBool b).toArray⟩) ∧ w' = w := Any.strconv_FormatBool Tryz.lays121 b w
def Tryz.laysM171_ren : Go.Shelf.Ren := ⟨fun | 171 => 56 | 243 => 97 | 246 => 136 | 283 => 166 | 284 => 167 | 285 => 168 | 286 => 169 | 129 => 186 | 317 => 185 | 318 => 187 | 319 => 188 | 320 => 189 | 337 => 205 | 338 => 206 | n => n, fun | 3 => 3 | 9 => 9 | 2 => 2 | 4 => 4 | 171 => 171 | 0 => 0 | 53 => 172 | 37 => 69 | 5 => 5 | 173 => 175 | 212 => 188 | 51 => 178 | 20 => 20 | 213 => 189 | 46 => 162 | 232 => 213 | 233 => 214 | n => n, fun | 17 => 0 | 18 => 4 | 19 => 5 | n => n⟩
theorem Tryz.laysM171 : Go.Proofs.LaysM.n171 Tryz.prog Tryz.laysM171_ren := {
 mixed := by kernel_rfl
 f129 := Tryz.func186.trans (congrArg some (by kernel_rfl))
 f171 := Tryz.func56.trans (congrArg some (by kernel_rfl))
 f243 := Tryz.func97.trans (congrArg some (by kernel_rfl))
 f246 := Tryz.func136.trans (congrArg some (by kernel_rfl))
 f283 := Tryz.func166.trans (congrArg some (by kernel_rfl))
 f284 := Tryz.func167.trans (congrArg some (by kernel_rfl))
 f285 := Tryz.func168.trans (congrArg some (by kernel_rfl))
 f286 := Tryz.func169.trans (congrArg some (by kernel_rfl))
 f317 := Tryz.func185.trans (congrArg some (by kernel_rfl))
 f318 := Tryz.func187.trans (congrArg some (by kernel_rfl))
 f319 := Tryz.func188.trans (congrArg some (by kernel_rfl))
 f320 := Tryz.func189.trans (congrArg some (by kernel_rfl))
 f337 := Tryz.func205.trans (congrArg some (by kernel_rfl))
 f338 := Tryz.func206.trans (congrArg some (by kernel_rfl))
 t0 := Tryz.underlying0
 a0 := Tryz.isAgg0
 z0 := Tryz.sizeOf0
 v0 := Tryz.zeroValue0
 t2 := Tryz.underlying2
 a2 := Tryz.isAgg2
 z2 := Tryz.sizeOf2
 v2 := Tryz.zeroValue2
 t3 := Tryz.underlying3
 a3 := Tryz.isAgg3
 z3 := Tryz.sizeOf3
 v3 := Tryz.zeroValue3
 t4 := Tryz.underlying4
 a4 := Tryz.isAgg4
 z4 := Tryz.sizeOf4
 v4 := Tryz.zeroValue4
 t5 := Tryz.underlying5
 a5 := Tryz.isAgg5
 z5 := Tryz.sizeOf5
 v5 := Tryz.zeroValue5
 t9 := Tryz.underlying9
 a9 := Tryz.isAgg9
 z9 := Tryz.sizeOf9
 v9 := Tryz.zeroValue9
 t20 := Tryz.underlying20
 a20 := Tryz.isAgg20
 z20 := Tryz.sizeOf20
 v20 := Tryz.zeroValue20
 t37 := Tryz.underlying69
 a37 := Tryz.isAgg69
 z37 := Tryz.sizeOf69
 v37 := Tryz.zeroValue69
 t46 := Tryz.underlying162
 a46 := Tryz.isAgg162
 z46 := Tryz.sizeOf162
 v46 := Tryz.zeroValue162
 t51 := Tryz.underlying178
 a51 := Tryz.isAgg178
 z51 := Tryz.sizeOf178
 v51 := Tryz.zeroValue178
 t53 := Tryz.underlying172
 a53 := Tryz.isAgg172
 z53 := Tryz.sizeOf172
 v53 := Tryz.zeroValue172
 t171 := Tryz.underlying171
 a171 := Tryz.isAgg171
 z171 := Tryz.sizeOf171
 v171 := Tryz.zeroValue171
 t173 := Tryz.underlying175
 a173 := Tryz.isAgg175
 z173 := Tryz.sizeOf175
 v173 := Tryz.zeroValue175
 t212 := Tryz.underlying188
 a212 := Tryz.isAgg188
 z212 := Tryz.sizeOf188
 v212 := Tryz.zeroValue188
 t213 := Tryz.underlying189
 a213 := Tryz.isAgg189
 z213 := Tryz.sizeOf189
 t232 := Tryz.underlying213
 a232 := Tryz.isAgg213
 z232 := Tryz.sizeOf213
 v232 := Tryz.zeroValue213
 t233 := Tryz.underlying214
 a233 := Tryz.isAgg214
 z233 := Tryz.sizeOf214
 v233 := Tryz.zeroValue214
 g17 := by kernel_rfl
 g18 := by kernel_rfl
 g19 := by kernel_rfl
 i0 := by kernel_rfl
 i2 := by kernel_rfl
 i3 := by kernel_rfl
 i4 := by kernel_rfl
 i5 := by kernel_rfl
 i9 := by kernel_rfl
 i20 := by kernel_rfl
 i37 := by kernel_rfl
 i46 := by kernel_rfl
 i51 := by kernel_rfl
 i53 := by kernel_rfl
 i171 := by kernel_rfl
 i173 := by kernel_rfl
 i212 := by kernel_rfl
 i232 := by kernel_rfl
 i233 := by kernel_rfl
 m17 := by kernel_rfl
 m18 := by kernel_rfl
 m19 := by kernel_rfl }
open Go.RowKit Go.Sort Go.Lib in
theorem Tryz.strconv_Itoa (n : Int) (h0 : -9223372036854775808 ≤ n) (h1 : n ≤ 9223372036854775807) (w : World) (htab : Lib.TabIs Tryz.prog w "internal/strconv.uint64pow10" .u64 Lib.pow10Tab) :
 Calls Tryz.prog 56 #[.int .i64 n] w fun e w' => e = .returned (.string ⟨(Lib.itoa n).toArray⟩) ∧ ∃ k os, w' = grow (w.drewN k) os := Any.strconv_Itoa Tryz.laysM171 n h0 h1 w htab
def Tryz.laysM316_ren : Go.Shelf.Ren := ⟨fun | 316 => 124 | n => n, fun | 9 => 9 | 3 => 3 | 4 => 4 | 37 => 69 | 0 => 0 | 127 => 116 | 5 => 5 | n => n, fun | n => n⟩
theorem Tryz.laysM316 : Go.Proofs.LaysM.n316 Tryz.prog Tryz.laysM316_ren := {
 mixed := by kernel_rfl
 f316 := Tryz.func124.trans (congrArg some (by kernel_rfl))
 t0 := Tryz.underlying0
 a0 := Tryz.isAgg0
 z0 := Tryz.sizeOf0
 v0 := Tryz.zeroValue0
 t3 := Tryz.underlying3
 a3 := Tryz.isAgg3
 z3 := Tryz.sizeOf3
 v3 := Tryz.zeroValue3
 t4 := Tryz.underlying4
 a4 := Tryz.isAgg4
 z4 := Tryz.sizeOf4
 v4 := Tryz.zeroValue4
 t9 := Tryz.underlying9
 a9 := Tryz.isAgg9
 z9 := Tryz.sizeOf9
 v9 := Tryz.zeroValue9
 t37 := Tryz.underlying69
 a37 := Tryz.isAgg69
 z37 := Tryz.sizeOf69
 v37 := Tryz.zeroValue69
 t127 := Tryz.underlying116
 a127 := Tryz.isAgg116
 z127 := Tryz.sizeOf116
 v127 := Tryz.zeroValue116
 t5 := Tryz.underlying5
 a5 := Tryz.isAgg5
 z5 := Tryz.sizeOf5
 v5 := Tryz.zeroValue5
 i0 := by kernel_rfl
 i3 := by kernel_rfl
 i4 := by kernel_rfl
 i5 := by kernel_rfl
 i9 := by kernel_rfl
 i37 := by kernel_rfl
 i127 := by kernel_rfl }
open Go.RowKit in
theorem Tryz.stringslite_Clone (s : ByteArray) (w : World) (hlim : s.size ≤ 281474976710656) :
 Calls Tryz.prog 124 #[.string s] w fun e w' => e = .returned (.string s) ∧ Below w.heap.size w w' := Any.stringslite_Clone Tryz.laysM316 s w hlim
def Tryz.laysM138_ren : Go.Shelf.Ren := ⟨fun | 138 => 137 | 195 => 170 | 218 => 171 | 143 => 139 | 219 => 173 | 217 => 191 | 225 => 192 | 224 => 193 | 267 => 194 | 266 => 207 | 314 => 208 | n => n, fun | 9 => 9 | 3 => 3 | 4 => 4 | 5 => 5 | 0 => 0 | 46 => 162 | 146 => 179 | 51 => 178 | n => n, fun | 1 => 1 | n => n⟩
theorem Tryz.laysM138 : Go.Proofs.LaysM.n138 Tryz.prog Tryz.laysM138_ren := {
 mixed := by kernel_rfl
 f138 := Tryz.func137.trans (congrArg some (by kernel_rfl))
 f143 := Tryz.func139.trans (congrArg some (by kernel_rfl))
 f195 := Tryz.func170.trans (congrArg some (by kernel_rfl))
 f217 := Tryz.func191.trans (congrArg some (by kernel_rfl))
 f218 := Tryz.func171.trans (congrArg some (by kernel_rfl))
 f219 := Tryz.func173.trans (congrArg some (by kernel_rfl))
 f224 := Tryz.func193.trans (congrArg some (by kernel_rfl))
 f225 := Tryz.func192.trans (congrArg some (by kernel_rfl))
 f266 := Tryz.func207.trans (congrArg some (by kernel_rfl))
 f267 := Tryz.func194.trans (congrArg some (by kernel_rfl))
 f314 := Tryz.func208.trans (congrArg some (by kernel_rfl))
 t0 := Tryz.underlying0
 a0 := Tryz.isAgg0
 z0 := Tryz.sizeOf0
 v0 := Tryz.zeroValue0
 t3 := Tryz.underlying3
 a3 := Tryz.isAgg3
 z3 := Tryz.sizeOf3
 v3 := Tryz.zeroValue3
 t4 := Tryz.underlying4
 a4 := Tryz.isAgg4
 z4 := Tryz.sizeOf4
 v4 := Tryz.zeroValue4
 t5 := Tryz.underlying5
 a5 := Tryz.isAgg5
 z5 := Tryz.sizeOf5
 v5 := Tryz.zeroValue5
 t9 := Tryz.underlying9
 a9 := Tryz.isAgg9
 z9 := Tryz.sizeOf9
 v9 := Tryz.zeroValue9
 t46 := Tryz.underlying162
 a46 := Tryz.isAgg162
 z46 := Tryz.sizeOf162
 v46 := Tryz.zeroValue162
 t51 := Tryz.underlying178
 a51 := Tryz.isAgg178
 z51 := Tryz.sizeOf178
 v51 := Tryz.zeroValue178
 t146 := Tryz.underlying179
 a146 := Tryz.isAgg179
 z146 := Tryz.sizeOf179
 v146 := Tryz.zeroValue179
 g1 := by kernel_rfl
 i0 := by kernel_rfl
 i3 := by kernel_rfl
 i4 := by kernel_rfl
 i5 := by kernel_rfl
 i9 := by kernel_rfl
 i46 := by kernel_rfl
 i51 := by kernel_rfl
 i146 := by kernel_rfl
 m1 := by kernel_rfl
 s1_3 := fun w h => Go.Proofs.cell_of_shapedOpen_int (zero := #[.int .i64 0]) (t := 3) h (of_decide_eq_true (by kernel_rfl)) (by kernel_rfl) rfl (by kernel_rfl) (by kernel_rfl) Tryz.underlying3 }
def Tryz.lays99_ren : Go.Shelf.Ren := ⟨fun | 99 => 81 | 206 => 117 | n => n, fun | 9 => 9 | 4 => 4 | 3 => 3 | n => n, fun | n => n⟩
theorem Tryz.lays99 : Go.Proofs.Lays.n99 Tryz.prog Tryz.lays99_ren := {
 mixed := by kernel_rfl
 f99 := Tryz.func81.trans (congrArg some (by kernel_rfl))
 f206 := Tryz.func117.trans (congrArg some (by kernel_rfl))
 t3 := Tryz.underlying3
 a3 := Tryz.isAgg3
 z3 := Tryz.sizeOf3
 v3 := Tryz.zeroValue3
 t4 := Tryz.underlying4
 a4 := Tryz.isAgg4
 z4 := Tryz.sizeOf4
 v4 := Tryz.zeroValue4
 t9 := Tryz.underlying9
 a9 := Tryz.isAgg9
 z9 := Tryz.sizeOf9
 v9 := Tryz.zeroValue9 }
open Go.RowKit Go.Lib in
theorem Tryz.strings_HasPrefix (s p : ByteArray) (w : World) :
 Calls Tryz.prog 81 #[.string s, .string p] w fun e w' => e = .returned (.bool (Lib.hasPrefix s.data.toList p.data.toList)) ∧ w' = w := Any.strings_HasPrefix Tryz.lays99 s p w
def Tryz.lays155_ren : Go.Shelf.Ren := ⟨fun | 155 => 57 | 154 => 98 | 138 => 137 | 165 => 138 | 143 => 139 | 166 => 135 | 197 => 140 | 169 => 26 | 195 => 170 | 218 => 171 | 240 => 165 | 241 => 172 | 219 => 173 | 260 => 174 | 276 => 184 | 277 => 190 | 217 => 191 | 225 => 192 | 224 => 193 | 267 => 194 | 266 => 207 | 314 => 208 | n => n, fun | 9 => 9 | 3 => 3 | 4 => 4 | 72 => 71 | 0 => 0 | 76 => 156 | 105 => 160 | 21 => 21 | 5 => 5 | 70 => 68 | 20 => 20 | 37 => 69 | 75 => 155 | 127 => 116 | 164 => 184 | 46 => 162 | 119 => 192 | 139 => 195 | 138 => 194 | 146 => 179 | 51 => 178 | 80 => 75 | n => n, fun | 1 => 1 | 3 => 2 | 4 => 3 | n => n⟩
theorem Tryz.lays155 : Go.Proofs.Lays.n155 Tryz.prog Tryz.lays155_ren := {
 mixed := by kernel_rfl
 f138 := Tryz.func137.trans (congrArg some (by kernel_rfl))
 f143 := Tryz.func139.trans (congrArg some (by kernel_rfl))
 f154 := Tryz.func98.trans (congrArg some (by kernel_rfl))
 f155 := Tryz.func57.trans (congrArg some (by kernel_rfl))
 f165 := Tryz.func138.trans (congrArg some (by kernel_rfl))
 f166 := Tryz.func135.trans (congrArg some (by kernel_rfl))
 f169 := Tryz.func26.trans (congrArg some (by kernel_rfl))
 f195 := Tryz.func170.trans (congrArg some (by kernel_rfl))
 f197 := Tryz.func140.trans (congrArg some (by kernel_rfl))
 f217 := Tryz.func191.trans (congrArg some (by kernel_rfl))
 f218 := Tryz.func171.trans (congrArg some (by kernel_rfl))
 f219 := Tryz.func173.trans (congrArg some (by kernel_rfl))
 f224 := Tryz.func193.trans (congrArg some (by kernel_rfl))
 f225 := Tryz.func192.trans (congrArg some (by kernel_rfl))
 f240 := Tryz.func165.trans (congrArg some (by kernel_rfl))
 f241 := Tryz.func172.trans (congrArg some (by kernel_rfl))
 f260 := Tryz.func174.trans (congrArg some (by kernel_rfl))
 f266 := Tryz.func207.trans (congrArg some (by kernel_rfl))
 f267 := Tryz.func194.trans (congrArg some (by kernel_rfl))
 f276 := Tryz.func184.trans (congrArg some (by kernel_rfl))
 f277 := Tryz.func190.trans (congrArg some (by kernel_rfl))
 f314 := Tryz.func208.trans (congrArg some (by kernel_rfl))
 t0 := Tryz.underlying0
 a0 := Tryz.isAgg0
 z0 := Tryz.sizeOf0
 v0 := Tryz.zeroValue0
 t3 := Tryz.underlying3
 a3 := Tryz.isAgg3
 z3 := Tryz.sizeOf3
 v3 := Tryz.zeroValue3
 t4 := Tryz.underlying4
 a4 := Tryz.isAgg4
 z4 := Tryz.sizeOf4
 v4 := Tryz.zeroValue4
 t5 := Tryz.underlying5
 a5 := Tryz.isAgg5
 z5 := Tryz.sizeOf5
 v5 := Tryz.zeroValue5
 t9 := Tryz.underlying9
 a9 := Tryz.isAgg9
 z9 := Tryz.sizeOf9
 v9 := Tryz.zeroValue9
 t20 := Tryz.underlying20
 a20 := Tryz.isAgg20
 z20 := Tryz.sizeOf20
 v20 := Tryz.zeroValue20
 t21 := Tryz.underlying21
 a21 := Tryz.isAgg21
 z21 := Tryz.sizeOf21
 v21 := Tryz.zeroValue21
 t37 := Tryz.underlying69
 a37 := Tryz.isAgg69
 z37 := Tryz.sizeOf69
 v37 := Tryz.zeroValue69
 t46 := Tryz.underlying162
 a46 := Tryz.isAgg162
 z46 := Tryz.sizeOf162
 v46 := Tryz.zeroValue162
 t51 := Tryz.underlying178
 a51 := Tryz.isAgg178
 z51 := Tryz.sizeOf178
 v51 := Tryz.zeroValue178
 t70 := Tryz.underlying68
 a70 := Tryz.isAgg68
 z70 := Tryz.sizeOf68
 v70 := Tryz.zeroValue68
 t72 := Tryz.underlying71
 a72 := Tryz.isAgg71
 z72 := Tryz.sizeOf71
 v72 := Tryz.zeroValue71
 t75 := Tryz.underlying155
 a75 := Tryz.isAgg155
 z75 := Tryz.sizeOf155
 v75 := Tryz.zeroValue155
 t76 := Tryz.underlying156
 a76 := Tryz.isAgg156
 z76 := Tryz.sizeOf156
 v76 := Tryz.zeroValue156
 t105 := Tryz.underlying160
 a105 := Tryz.isAgg160
 z105 := Tryz.sizeOf160
 v105 := Tryz.zeroValue160
 t119 := Tryz.underlying192
 a119 := Tryz.isAgg192
 z119 := Tryz.sizeOf192
 t127 := Tryz.underlying116
 a127 := Tryz.isAgg116
 z127 := Tryz.sizeOf116
 v127 := Tryz.zeroValue116
 t138 := Tryz.underlying194
 a138 := Tryz.isAgg194
 z138 := Tryz.sizeOf194
 v138 := Tryz.zeroValue194
 t139 := Tryz.underlying195
 a139 := Tryz.isAgg195
 z139 := Tryz.sizeOf195
 v139 := Tryz.zeroValue195
 t146 := Tryz.underlying179
 a146 := Tryz.isAgg179
 z146 := Tryz.sizeOf179
 v146 := Tryz.zeroValue179
 t164 := Tryz.underlying184
 a164 := Tryz.isAgg184
 z164 := Tryz.sizeOf184
 v164 := Tryz.zeroValue184
 g1 := by kernel_rfl
 g3 := by kernel_rfl
 g4 := by kernel_rfl }
theorem Tryz.Builder_Extra_155 : Builder.Extra Tryz.prog Tryz.lays155_ren := {
 sizeBuilder := by kernel_rfl
 liesBuilder := by kernel_rfl
 t5 := Tryz.underlying5
 a5 := Tryz.isAgg5
 z5 := Tryz.sizeOf5
 v5 := Tryz.zeroValue5
 infoByte := by kernel_rfl
 cellsByte := by kernel_rfl
 sizeByte := by kernel_rfl
 neB5 := by decide }
open Go.RowKit Go.Lib in
theorem Tryz.strings_ReplaceAll (s old new : ByteArray) (m : Int) (w : World) (hs : s.size < 4294967281) (hm : w.cell? ⟨1, 0, none⟩ = some (.int .i64 m)) (h1 : 1 ≤ old.size) (hlen : s.size + Lib.countB s old * new.size ≤ 140737488355328) :
 Calls Tryz.prog 57 #[.string s, .string old, .string new] w fun e w' =>
  e = .returned (.string ⟨(Lib.replaceAll s.data.toList old.data.toList new.data.toList).toArray⟩) ∧ Below w.heap.size w w' := Any.strings_ReplaceAll Tryz.lays155 Tryz.Builder_Extra_155 s old new m w hs hm h1 hlen
def Tryz.lays105_ren : Go.Shelf.Ren := ⟨fun | 105 => 108 | 212 => 145 | 99 => 81 | 165 => 138 | 166 => 135 | 170 => 134 | 169 => 26 | 263 => 177 | 264 => 178 | 206 => 117 | 240 => 165 | 241 => 172 | 276 => 184 | 277 => 190 | n => n, fun | 9 => 9 | 3 => 3 | 4 => 4 | 20 => 20 | 0 => 0 | 46 => 162 | 109 => 163 | 5 => 5 | 72 => 71 | 76 => 156 | 51 => 178 | 146 => 179 | 53 => 172 | 148 => 181 | 70 => 68 | 37 => 69 | 75 => 155 | 127 => 116 | 164 => 184 | 80 => 75 | n => n, fun | n => n⟩
theorem Tryz.lays105 : Go.Proofs.Lays.n105 Tryz.prog Tryz.lays105_ren := {
 mixed := by kernel_rfl
 f99 := Tryz.func81.trans (congrArg some (by kernel_rfl))
 f105 := Tryz.func108.trans (congrArg some (by kernel_rfl))
 f165 := Tryz.func138.trans (congrArg some (by kernel_rfl))
 f166 := Tryz.func135.trans (congrArg some (by kernel_rfl))
 f169 := Tryz.func26.trans (congrArg some (by kernel_rfl))
 f170 := Tryz.func134.trans (congrArg some (by kernel_rfl))
 f206 := Tryz.func117.trans (congrArg some (by kernel_rfl))
 f212 := Tryz.func145.trans (congrArg some (by kernel_rfl))
 f240 := Tryz.func165.trans (congrArg some (by kernel_rfl))
 f241 := Tryz.func172.trans (congrArg some (by kernel_rfl))
 f263 := Tryz.func177.trans (congrArg some (by kernel_rfl))
 f264 := Tryz.func178.trans (congrArg some (by kernel_rfl))
 f276 := Tryz.func184.trans (congrArg some (by kernel_rfl))
 f277 := Tryz.func190.trans (congrArg some (by kernel_rfl))
 t0 := Tryz.underlying0
 a0 := Tryz.isAgg0
 z0 := Tryz.sizeOf0
 v0 := Tryz.zeroValue0
 t3 := Tryz.underlying3
 a3 := Tryz.isAgg3
 z3 := Tryz.sizeOf3
 v3 := Tryz.zeroValue3
 t4 := Tryz.underlying4
 a4 := Tryz.isAgg4
 z4 := Tryz.sizeOf4
 v4 := Tryz.zeroValue4
 t5 := Tryz.underlying5
 a5 := Tryz.isAgg5
 z5 := Tryz.sizeOf5
 v5 := Tryz.zeroValue5
 t9 := Tryz.underlying9
 a9 := Tryz.isAgg9
 z9 := Tryz.sizeOf9
 v9 := Tryz.zeroValue9
 t20 := Tryz.underlying20
 a20 := Tryz.isAgg20
 z20 := Tryz.sizeOf20
 v20 := Tryz.zeroValue20
 t37 := Tryz.underlying69
 a37 := Tryz.isAgg69
 z37 := Tryz.sizeOf69
 v37 := Tryz.zeroValue69
 t46 := Tryz.underlying162
 a46 := Tryz.isAgg162
 z46 := Tryz.sizeOf162
 v46 := Tryz.zeroValue162
 t51 := Tryz.underlying178
 a51 := Tryz.isAgg178
 z51 := Tryz.sizeOf178
 v51 := Tryz.zeroValue178
 t53 := Tryz.underlying172
 a53 := Tryz.isAgg172
 z53 := Tryz.sizeOf172
 v53 := Tryz.zeroValue172
 t70 := Tryz.underlying68
 a70 := Tryz.isAgg68
 z70 := Tryz.sizeOf68
 v70 := Tryz.zeroValue68
 t72 := Tryz.underlying71
 a72 := Tryz.isAgg71
 z72 := Tryz.sizeOf71
 v72 := Tryz.zeroValue71
 t75 := Tryz.underlying155
 a75 := Tryz.isAgg155
 z75 := Tryz.sizeOf155
 v75 := Tryz.zeroValue155
 t76 := Tryz.underlying156
 a76 := Tryz.isAgg156
 z76 := Tryz.sizeOf156
 v76 := Tryz.zeroValue156
 t109 := Tryz.underlying163
 a109 := Tryz.isAgg163
 z109 := Tryz.sizeOf163
 v109 := Tryz.zeroValue163
 t127 := Tryz.underlying116
 a127 := Tryz.isAgg116
 z127 := Tryz.sizeOf116
 v127 := Tryz.zeroValue116
 t146 := Tryz.underlying179
 a146 := Tryz.isAgg179
 z146 := Tryz.sizeOf179
 v146 := Tryz.zeroValue179
 t148 := Tryz.underlying181
 a148 := Tryz.isAgg181
 z148 := Tryz.sizeOf181
 v148 := Tryz.zeroValue181
 t164 := Tryz.underlying184
 a164 := Tryz.isAgg184
 z164 := Tryz.sizeOf184
 v164 := Tryz.zeroValue184 }
theorem Tryz.Builder_Extra_105 : Builder.Extra Tryz.prog Tryz.lays105_ren := {
 sizeBuilder := by kernel_rfl
 liesBuilder := by kernel_rfl
 t5 := Tryz.underlying5
 a5 := Tryz.isAgg5
 z5 := Tryz.sizeOf5
 v5 := Tryz.zeroValue5
 infoByte := by kernel_rfl
 cellsByte := by kernel_rfl
 sizeByte := by kernel_rfl
 neB5 := by decide }
open Go.RowKit Go.Lib in
theorem Tryz.strings_Repeat (s : ByteArray) (c : Nat) (w : World) (hc : c ≤ 9223372036854775807) (hlen : s.size * c ≤ 140737488355328) :
 Calls Tryz.prog 108 #[.string s, .int .i64 c] w fun e w' => e = .returned (.string ⟨(Lib.repeatL s.data.toList c).toArray⟩) ∧ Below w.heap.size w w' := Any.strings_Repeat Tryz.lays105 Tryz.Builder_Extra_105 s c w hc hlen
end Go.Proofs
