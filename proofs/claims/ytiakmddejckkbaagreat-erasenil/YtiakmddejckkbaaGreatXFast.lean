/- Runs of closed code, reckoned: numbers and texts, the short way. -/
import Derived.Test.YtiakmddejckkbaaGreatXOp8
import Derived.Laws.Strings
import Derived.Laws.IdiomStrings
import Derived.Laws.BytesArg
namespace Go.Proofs.YtiakmddejckkbaaGreat

/-- Are two texts the same? -/
def eqL : List UInt8 → List UInt8 → Bool
  | [], [] => true
  | a :: l, b :: m => match Nat.beq a.toNat b.toNat with
    | true => eqL l m
    | false => false
  | _, _ => false
theorem eqL_eq : ∀ (l m : List UInt8), eqL l m = (l == m)
  | [], [] => rfl
  | [], _ :: _ => rfl
  | _ :: _, [] => rfl
  | a :: l, b :: m => by
    show (match Nat.beq a.toNat b.toNat with | true => eqL l m | false => false) = _
    rw [eqL_eq l m]
    by_cases h : a = b
    · subst h; simp [Nat.beq_refl]
    · have h1 : Nat.beq a.toNat b.toNat = false := by
        cases hq : Nat.beq a.toNat b.toNat with
        | false => rfl
        | true => exact absurd (UInt8.toNat_inj.1 (Nat.eq_of_beq_eq_true hq)) h
      rw [h1]
      simp [h]
/-- A number that needs no wrapping. -/
def smallI (k : IntKind) (n : Int) : Option Value := match k with
  | .i64 => match n with
    | .ofNat m => match Nat.ble m 9223372036854775807 with
      | true => some (.int .i64 (.ofNat m))
      | false => none
    | .negSucc _ => none
  | _ => none
theorem smallI_ok {k : IntKind} {n : Int} {v : Value} (h : smallI k n = some v) : v = .int k (k.wrap n) := by
  unfold smallI at h
  split at h
  · split at h
    · rename_i m
      split at h
      · rename_i hb
        injection h with h
        subst h
        have hm := Nat.le_of_ble_eq_true hb
        have : IntKind.i64.wrap (Int.ofNat m) = Int.ofNat m := by
          unfold IntKind.wrap
          simp [IntKind.bits, IntKind.signed]
          omega
        rw [this]
      · cases h
    · cases h
  · cases h
def fastB (op : BinOp) (x y : Value) : Option Value := match x with
  | .int k a => match y with
    | .int j b => match decide (k = j) with
      | true => (match op with
        | .add => smallI k (a + b)
        | .sub => smallI k (a - b)
        | .eql => some (.bool (a == b))
        | .neq => some (.bool (a != b))
        | .lss => some (.bool (decide (a < b)))
        | .leq => some (.bool (decide (a ≤ b)))
        | .gtr => some (.bool (decide (a > b)))
        | .geq => some (.bool (decide (a ≥ b)))
        | _ => none)
      | false => none
    | _ => none
  | .string a => match y with
    | .string b => (match op with
      | .eql => some (.bool (eqL a.data.toList b.data.toList))
      | .neq => some (.bool (!(eqL a.data.toList b.data.toList)))
      | _ => none)
    | _ => none
  | _ => none
theorem fastB_ok {P : Program} {op : BinOp} {t : TypeId} {x y v : Value} {ox oy : Operand} (h : fastB op x y = some v) (w : World) : (do eqGuard op t ox oy x y; binOp op t x y : Sem Value).run P w = .ok v w ∧ Fl x ∧ Fl y ∧ Fl v := by
  unfold fastB at h
  split at h
  · rename_i k a
    split at h
    · rename_i j b
      split at h
      · rename_i hk
        have hk := of_decide_eq_true hk
        subst hk
        have hg : (eqGuard op t ox oy (.int k a) (.int k b)).run P w = .ok () w := by unfold eqGuard; cases op <;> simp
        split at h
        · have := smallI_ok h
          subst this
          exact ⟨by simp [hg, binOp, Op.intArith], fun _ => rfl, fun _ => rfl, fun _ => rfl⟩
        · have := smallI_ok h
          subst this
          exact ⟨by simp [hg, binOp, Op.intArith], fun _ => rfl, fun _ => rfl, fun _ => rfl⟩
        all_goals first
          | (injection h with h; subst h; exact ⟨by simp [hg, binOp, Op.intCmp], fun _ => rfl, fun _ => rfl, fun _ => rfl⟩)
          | cases h
      · cases h
    · cases h
  · rename_i a
    split at h
    · rename_i b
      have hg : (eqGuard op t ox oy (.string a) (.string b)).run P w = .ok () w := by unfold eqGuard; cases op <;> simp
      split at h
      · injection h with h
        subst h
        rw [eqL_eq, ← Go.ByteArray.toList_eq a, ← Go.ByteArray.toList_eq b]
        exact ⟨by simp [hg, binOp, Op.stringOp], fun _ => rfl, fun _ => rfl, fun _ => rfl⟩
      · injection h with h
        subst h
        rw [eqL_eq, ← Go.ByteArray.toList_eq a, ← Go.ByteArray.toList_eq b]
        exact ⟨by simp [hg, binOp, Op.stringOp], fun _ => rfl, fun _ => rfl, fun _ => rfl⟩
      · cases h
    · cases h
  · cases h

/-- A byte of a text. -/
def byteAt (P : Program) (t : TypeId) (x ix : Value) : Option Value := match x with
  | .string s => match ix with
    | .int _ (.ofNat i) => match P.underlying t with
      | some .string => match s.data.toList[i]? with
        | some b => some (.int .u8 (.ofNat b.toNat))
        | none => none
      | _ => none
    | _ => none
  | _ => none
theorem byteAt_ok {P : Program} {t : TypeId} {x ix v : Value} (h : byteAt P t x ix = some v) (w : World) : (Instr.index t x ix).run P w = .ok v w ∧ Fl x ∧ Fl ix ∧ Fl v := by
  unfold byteAt at h
  split at h
  · rename_i s
    split at h
    · rename_i k i
      split at h
      · rename_i hu
        split at h
        · rename_i b hb
          injection h with h
          subst h
          refine ⟨?_, fun _ => rfl, fun _ => rfl, fun _ => rfl⟩
          have hi : i < s.data.toList.length := (List.getElem?_eq_some_iff.1 hb).1
          have hs : s[i]? = some b := by
            rw [← hb]
            have hi' : i < s.size := by simpa using hi
            rw [getElem?_pos s i hi']
            simp only [List.getElem?_eq_getElem hi]
            rfl
          unfold Instr.index
          have h0 : (0 : Int) ≤ Int.ofNat i := Int.natCast_nonneg i
          have hn : (Int.ofNat i).toNat = i := rfl
          simp only [Sem.run_bind, asIntOf, Sem.run_pure, Result.andThen_ok, run_underlying hu, if_pos h0, hn, hs]
          rfl
        · cases h
      · cases h
    · cases h
  · cases h
/-- The bytes of cells. -/
def bytesOf : List Value → Option (List UInt8)
  | [] => some []
  | .int .u8 (.ofNat n) :: l => match Nat.blt n 256 with
    | true => (match bytesOf l with
      | some r => some (UInt8.ofNat n :: r)
      | none => none)
    | false => none
  | _ => none
theorem bytesOf_ok : ∀ {cs : List Value} {l : List UInt8}, bytesOf cs = some l → cs = l.map (fun b => Value.int .u8 (b.toNat : Int))
  | [], l, h => by injection h with h; subst h; rfl
  | c :: cs, l, h => by
    unfold bytesOf at h
    split at h
    · rename_i h'; cases h'
    · rename_i n l' h'
      split at h
      · rename_i hn
        split at h
        · rename_i r hr
          injection h with h
          subst h
          injection h' with h1 h2
          subst h1 h2
          rw [List.map_cons, ← bytesOf_ok hr]
          have : n < 256 := Nat.le_of_ble_eq_true hn
          simp [UInt8.toNat_ofNat', Nat.mod_eq_of_lt this]
        · cases h
      · cases h
    · cases h
/-- Bytes as a text. -/
def textA (P : Program) (σ : AW) (src dst : TypeId) (x : Value) : Option Value := match P.underlying src with
  | some (.slice e) => match P.underlying e with
    | some (.int .u8) => match P.underlying dst with
      | some .string => match x with
        | .slice none _ _ => some (.string ByteArray.empty)
        | .slice (some a) len _ => match rowOf σ a with
          | none => none
          | some cs => match bytesOf ((cs.drop a.off).take len) with
            | some l => if l.length = len then some (.string ⟨l.toArray⟩) else none
            | none => none
        | _ => none
      | _ => none
    | _ => none
  | _ => none
theorem text_ok {P : Program} {ρ : Rn} {σ : AW} {w : World} (hR : Rel ρ σ w) {src dst : TypeId} {x v : Value} (h : textA P σ src dst x = some v) : (convert src dst (ren ρ x)).run P w = .ok v w ∧ Fl v := by
  unfold textA at h
  split at h
  · rename_i e hs
    split at h
    · rename_i he
      split at h
      · rename_i hd
        split at h
        · rename_i len c
          injection h with h
          subst h
          exact ⟨run_convert_bytes_nil w src e hs he len c dst hd, fun _ => rfl⟩
        · rename_i a len c
          split at h
          · cases h
          · rename_i cs hr
            split at h
            · rename_i l hl
              split at h
              · rename_i hlen
                injection h with h
                subst h hlen
                refine ⟨?_, fun _ => rfl⟩
                obtain ⟨_, hsp, _⟩ := row_ok hR hr
                rw [ren_slice]
                refine run_convert_bytes_back w src dst e (renB ρ a) _ l hs he hd (fun j hj => ?_)
                rw [renB_none ρ hsp, add_none]
                have hb := bytesOf_ok hl
                have hc : cs[a.off + j]? = some (.int .u8 (l[j].toNat : Int)) := by
                  have : ((cs.drop a.off).take l.length)[j]? = some (.int .u8 (l[j].toNat : Int)) := by
                    rw [hb]; simp [hj]
                  rw [List.getElem?_take, if_pos hj, List.getElem?_drop] at this
                  exact this
                exact cell_ok hR hr hc
              · cases h
            · cases h
        · cases h
      · cases h
    · cases h
  · cases h

end Go.Proofs.YtiakmddejckkbaaGreat
