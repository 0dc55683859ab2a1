/- The program's reader: a whole expression. What is read is a tree of the kind that is asked for. -/
import Derived.Test.YthogkmcahnkkoaaGreatDoorJ18
namespace Go.Proofs.YthogkmcahnkkoaaGreatDoor
open Go.RowKit
set_option maxRecDepth 10000
set_option linter.unusedSimpArgs false
set_option linter.unusedVariables false
section
variable {r b : Nat} {T : List Tk}
theorem YX {d : Int} {m : SM Tr} (hf : Reads (fun _ => True) 6 r b T d 20 [.pointer (some ⟨r, 0, none⟩)] m) : Reads (fun _ => True) 6 r b T d 19 [.pointer (some ⟨r, 0, none⟩)] m := by
 intro σ s he h
 have hlr := h.lr
 have hlb := h.lb
 refine pK Tryz.func19 Tryz.ntmps19 Tryz.results19 fun A hz a0 => ?_
 refine jR a0 ?_
 refine aj (aU a0) ?_
 refine C.mono (hf _ _ trivial (h.kp ((Kp.refl σ).push _))) ?_
 rintro _ σ2 ⟨⟨t2, l, rfl, hl, ho⟩, h2, g2⟩
 have nM := g2.next
 simp only [ah] at nM
 have gN := (g2.get σ.next (by first | omega | (simp only [ah, au]; first | done | omega)) (by omega)).trans aA
 refine dV a0 hl ho gN ?_
 refine fQ hl ?_
 exact aX ((Ow.refl _ _).set (Nat.le_refl _) _) g2.unpush h2 hlr hlb ((TE.ks ⟨t2, l, rfl, hl, ho⟩ ((Ks.refl σ2).set (.inr (by rw [gN])) _)).lo (fun k hk => by have := hk; simp only [ah] at this; omega))
def WhE (r n0 n4 g : Nat) (σ : AW) : Prop := σ.get n0 = ⟨1, 65, 0, [.func (.func g) ⟨[]⟩ ⟨[]⟩]⟩ ∧ σ.get n4 = ⟨1, 63, 0, [.pointer (some ⟨r, 0, none⟩)]⟩ ∧ n0 < σ.next ∧ n4 < σ.next ∧ n0 ≠ r ∧ n4 ≠ r
theorem Ox (r n0 n4 g : Nat) : Stable r (WhE r n0 n4 g) := fun _ _ ⟨h1, h2, h3, h4, h5, h6⟩ g => ⟨(g.get _ h3 h5).trans h1, (g.get _ h4 h6).trans h2, Nat.lt_of_lt_of_le h3 g.next, Nat.lt_of_lt_of_le h4 g.next, h5, h6⟩
theorem VP {d : Int} {m : SM Tr} {n0 n4 g : Nat} (hf : Reads (fun _ => True) 6 r b T d g [.pointer (some ⟨r, 0, none⟩)] m) : Reads (WhE r n0 n4 g) 6 r b T d 40 ([] ++ [.pointer (some ⟨n0, 0, none⟩), .pointer (some ⟨n4, 0, none⟩)]) m := by
 intro σ s he h
 obtain ⟨e1, e2, e3, e4, e5, e6⟩ := he
 have hlr := h.lr
 have hlb := h.lb
 refine fG Tryz.func40 Tryz.ntmps40 Tryz.results40 fun A hz a0 a1 => ?_
 refine dV a0 a1 e1 e2 ?_
 refine aj (bP a0 a1) ?_
 refine C.mono (hf _ _ trivial (h.kp ((Kp.refl σ).push _))) ?_
 rintro _ σ2 ⟨⟨t2, l, rfl, hl, ho⟩, h2, g2⟩
 have nM := g2.next
 simp only [ah] at nM
 have gN := (g2.get σ.next (by first | omega | (simp only [ah, au]; first | done | omega)) (by omega)).trans aA
 refine dV a0 hl ho gN ?_
 refine fQ hl ?_
 exact aX ((Ow.refl _ _).set (Nat.le_refl _) _) g2.unpush h2 hlr hlb ((TE.ks ⟨t2, l, rfl, hl, ho⟩ ((Ks.refl σ2).set (.inr (by rw [gN])) _)).lo (fun k hk => by have := hk; simp only [ah] at this; omega))
end
def aau (n : Nat) (σ : AW) (p : Tr × Int × Int) (v : Value) (σ' : AW) : Prop := ∃ x, v = .tuple ⟨[x, .int .i64 p.2.1, .int .i64 p.2.2]⟩ ∧ TE n σ' (fun k => σ.next ≤ k) x p.1 ∧ Kp σ σ'
def Jp (s : Sy) : Sy := if s.head.1 = 0 then s else (bK 10 s).2
theorem VQ {α : Type} (z : α) (m : SM α) (A : List Tk) (p : Nat) : EU z m (A, p, 0) = if (Jp (m ⟨A, 0, 0⟩).2).err ≠ 0 then (z, (Jp (m ⟨A, 0, 0⟩).2).pl, (Jp (m ⟨A, 0, 0⟩).2).err) else ((m ⟨A, 0, 0⟩).1, 0, 0) := by
 have e : (do
   let x ← m
   let t ← wB
   if t.1 ≠ 0 then do
    bK 10
    pure x
   else pure x : SM α) ⟨A, 0, 0⟩ = ((m ⟨A, 0, 0⟩).1, Jp (m ⟨A, 0, 0⟩).2) := by
  rw [SM.bind_run]
  generalize m ⟨A, 0, 0⟩ = q
  obtain ⟨x, s⟩ := q
  show (if s.head.1 ≠ 0 then (bK 10 >>= fun _ => pure x : SM α) else pure x) s = (x, Jp s)
  unfold Jp
  by_cases h : s.head.1 = 0
  ·rw [if_neg (by simp [h]), if_pos h]; rfl
  ·rw [if_pos h, if_neg h]; rfl
 unfold EU
 simp only [ne_eq, not_true_eq_false, if_false]
 rw [e]
theorem Kp.gr2 {r : Nat} {σ σ1 σ2 : AW} (h : Kp σ σ1) (g : Gr r σ1 σ2) (hr : σ.next ≤ r) : Kp σ σ2 := ⟨Nat.le_trans h.next g.next, fun k hk => (g.get k (Nat.lt_of_lt_of_le hk h.next) (by omega)).trans (h.get k hk)⟩
set_option maxHeartbeats 1600000 in
theorem YZ {s : ByteArray} (hs : s.size ≤ 1000000) {g : Nat} {m : SM Tr} (hf : ∀ r b T, Reads (fun _ => True) 6 r b T 1 g [.pointer (some ⟨r, 0, none⟩)] m) (σ : AW) :
  C Tryz.prog 18 [.string s, .func (.func g) ⟨[]⟩ ⟨[]⟩] σ (aau 6 σ (EU zE m (dw s))) := by
 refine fG Tryz.func18 Tryz.ntmps18 Tryz.results18 fun A hz a0 a1 => ?_
 refine gQ a0 a1 ?_
 refine aj (bP a0 a1) ?_
 refine C.mono (VO _ s hs) ?_
 rintro _ _ (⟨h0, rfl, rfl⟩ | ⟨h0, rfl, rfl⟩)
 ·have c1 : ((dw s).2.2 != 0) = true := by simp [h0]
  refine dS a0 a1 c1 ?_
  refine dG ?_
  unfold EU
  rw [if_pos h0]
  exact ⟨_, rfl, iM (aW _ _ _) (aW _ _ _), ((((Kp.refl σ).push _).push _).push _).set (by omega) _⟩
 ·have c1 : ((dw s).2.2 != 0) = false := by simp [h0]
  obtain ⟨⟨T0, e0, hT⟩, hlen⟩ := zo s h0
  obtain ⟨p, hp⟩ : ∃ p, dw s = ((dw s).1, p, 0) := ⟨_, Prod.ext rfl (Prod.ext rfl h0)⟩
  rw [hp, VQ]
  clear hp
  have c2 : ((0 : Int) != 0) = false := rfl
  refine dV a0 a1 c1 c2 ?_
  refine aj (bP a0 a1) ?_
  generalize (dw s).1 = T at *
  have hlast : ∀ t, T[T.length - 1]? = some t → t.1 = 0 := fun t ht => by
   rw [hT] at ht
   simp at ht
   rw [← ht]
  have hpos : 0 < T.length := by rw [hT]; simp
  have hd := BM (r := σ.next + 1 + 1 + 1 + 1) (b := σ.next + 1 + 1 + 1) (T := T) (fs := []) (cs := [.pointer (some ⟨σ.next, 0, none⟩), .pointer (some ⟨σ.next + 1 + 1 + 1 + 1 + 1, 0, none⟩)]) (Ox (σ.next + 1 + 1 + 1 + 1) σ.next (σ.next + 1 + 1 + 1 + 1 + 1) g) (d := 0) (by omega) (by omega) (fun _ => VP (hf _ _ _))
  rw [if_neg (by decide)] at hd
  refine C.mono (hd _ ⟨T, 0, 0⟩ (by refine' ⟨?_, ?_, by first | omega | (simp only [ah, au]; first | done | omega), by first | omega | (simp only [ah, au]; first | done | omega), by omega, by omega⟩; any_goals (first | exact dD | fail)) (by refine' ⟨0, ⟨?_, ?_, by first | omega | (simp only [ah, au]; first | done | omega), by first | omega | (simp only [ah, au]; first | done | omega), hpos, by omega, hlast⟩, rfl⟩; any_goals (first | exact dD | fail))) ?_
  rintro _ σ2 ⟨⟨t2, l2, rfl, hl2, ho2⟩, h2, g2⟩
  have t2 : TE 6 σ2 _ (.agg ⟨l2⟩) _ := ⟨t2, l2, rfl, hl2, ho2⟩
  have nM := g2.next
  simp only [ah, au] at nM
  have gA2 : σ2.get (σ.next + 1) = ⟨1, 42, 0, [.int .i64 0, .int .i64 0, .string ⟨#[]⟩, .string ⟨#[]⟩, .slice none 0 0, .slice none 0 0]⟩ := (g2.get _ (by first | omega | (simp only [ah, au]; first | done | omega)) (by omega)).trans (dD)
  have gB2 : σ2.get (σ.next + 1 + 1) = ⟨1, 42, 0, [.int .i64 0, .int .i64 0, .string ⟨#[]⟩, .string ⟨#[]⟩, .slice none 0 0, .slice none 0 0]⟩ := (g2.get _ (by first | omega | (simp only [ah, au]; first | done | omega)) (by omega)).trans (dD)
  have Y0 : σ2.get (σ.next + 1 + 1 + 1 + 1 + 1) = ⟨1, 63, 0, [.pointer (some ⟨σ.next + 1 + 1 + 1 + 1, 0, none⟩)]⟩ := (g2.get _ (by first | omega | (simp only [ah, au]; first | done | omega)) (by omega)).trans (dD)
  have kp2 : Kp σ σ2 := (((((((Kp.refl σ).push _).push _).push _).push _).push _).push _).set (by omega) _ |>.gr2 g2 (by omega)
  clear g2 hd
  generalize m ⟨T, 0, 0⟩ = q at *
  obtain ⟨x, s2⟩ := q
  simp only at h2 t2 ⊢
  obtain ⟨i2, r2, e2, ht2⟩ := h2.head
  have hr := r2.get
  have hb := r2.toks
  have hi := r2.li
  have e0 : bU Tryz.prog 100 ⟨σ.next + 1 + 1 + 1, 4 * i2, none⟩ (T.length - i2) 0 = some (.pointer (some ⟨σ.next + 1 + 1 + 1, 4 * i2, none⟩)) := EW ug (by omega)
  have hd2 := aar ht2
  have h2r : ∀ B1 B2 : fZ, lu ((σ2.push B1).set σ2.next B2) (σ.next + 1 + 1 + 1 + 1) (σ.next + 1 + 1 + 1) T 0 s2 := fun _ _ => h2.ow (((Ow.refl σ2.next σ2).push _).set (Nat.le_refl _) _) h2.lr h2.lb
  have k2 : ∀ B1 B2 : fZ, Ks σ2 ((σ2.push B1).set σ2.next B2) := fun _ _ => ((Ks.refl σ2).push _).set (.inl (Nat.le_refl _)) _
  have kp3 : ∀ B1 B2 : fZ, Kp σ ((σ2.push B1).set σ2.next B2) := fun _ _ => (kp2.push _).set (by omega) _
  refine aY a0 a1 hl2 ho2 Y0 hr hb (cJ hd2 e0) ?_
  refine W.mono (Q := fun e A' σ' => e = .normal ∧ A'.size = 55 ∧ A'.get 4 = some (.pointer (some ⟨σ.next + 1, 0, none⟩)) ∧ A'.get 7 = some (.pointer (some ⟨σ.next + 1 + 1, 0, none⟩)) ∧ A'.get 11 = some (.pointer (some ⟨σ.next + 1 + 1 + 1 + 1 + 1, 0, none⟩)) ∧ A'.get 12 = some (.pointer (some ⟨σ2.next, 0, none⟩)) ∧ lu σ' (σ.next + 1 + 1 + 1 + 1) (σ.next + 1 + 1 + 1) T 0 (Jp s2) ∧ σ'.get (σ.next + 1) = ⟨1, 42, 0, [.int .i64 0, .int .i64 0, .string ⟨#[]⟩, .string ⟨#[]⟩, .slice none 0 0, .slice none 0 0]⟩ ∧ σ'.get (σ.next + 1 + 1) = ⟨1, 42, 0, [.int .i64 0, .int .i64 0, .string ⟨#[]⟩, .string ⟨#[]⟩, .slice none 0 0, .slice none 0 0]⟩ ∧ σ'.get (σ.next + 1 + 1 + 1 + 1 + 1) = ⟨1, 63, 0, [.pointer (some ⟨σ.next + 1 + 1 + 1 + 1, 0, none⟩)]⟩ ∧ σ'.get σ2.next = ⟨1, 42, 0, l2⟩ ∧ Ks σ2 σ' ∧ Kp σ σ' ∧ σ2.next < σ'.next) ?_ ?_
  ·unfold Jp
   by_cases c : s2.head.1 = 0
   ·have c2 : (s2.head.1 != 0) = false := by simp [c]
    rw [if_pos c]
    refine jR c2 ?_
    exact (by refine' ⟨rfl, ?_, ?_, ?_, ?_, ?_, h2r _ _, ?_, ?_, ?_, ?_, k2 _ _, kp3 _ _, by first | omega | (simp only [ah, au]; first | done | omega)⟩; any_goals (first | exact lF gA2 gB2 Y0 | fail))
   ·have c2 : (s2.head.1 != 0) = true := by simp [c]
    rw [if_neg c]
    refine gQ c2 Y0 ?_
    refine aj (aU Y0) ?_
    refine C.mono (rP (h2r _ _) 10) ?_
    rintro _ σ3 ⟨h3, g3⟩
    have Dl := g3.next
    simp only [ah, au] at Dl
    refine iO ?_
    exact (by refine' ⟨rfl, ?_, ?_, ?_, ?_, ?_, h3, (g3.get _ (by first | omega | (simp only [ah, au]; first | done | omega)) (by omega)).trans ?_, (g3.get _ (by first | omega | (simp only [ah, au]; first | done | omega)) (by omega)).trans ?_, (g3.get _ (by first | omega | (simp only [ah, au]; first | done | omega)) (by omega)).trans ?_, (g3.get _ (by first | omega | (simp only [ah, au]; first | done | omega)) (by omega)).trans ?_, (k2 _ _).trans (g3.ks (h2r _ _).ez), (kp3 _ _).gr2 g3 (by omega), by omega⟩; any_goals (first | exact lF gA2 gB2 Y0 | fail))
  rintro _ A σ3 ⟨rfl, hz, a4, a7, a11, a12, h3, Y1, gB3, gP3, rU, k3, kp3, Dl⟩
  simp only [Then]
  clear e0 hd2 hr hb hi r2 e2 ht2 h2r k2 h2
  generalize Jp s2 = s3 at *
  obtain ⟨i3, r3, e3, ht3⟩ := h3.head
  have hr := r3.get
  by_cases c : s3.err = 0
  ·have c2 : (s3.err != 0) = false := by simp [c]
   rw [if_neg (by simp [c])]
   refine aY a4 a7 a11 a12 Y1 gP3 rU (cJ hr (cJ c2 (cJ hl2 ho2))) ?_
   refine D7 a4 hl2 ?_
   exact ⟨_, rfl, ((t2.ks k3).ks ((Ks.refl σ3).set (.inr (by rw [Y1])) _)).lo (fun k hk => by have := hk; simp only [ah, au] at this; omega), kp3.set (by omega) _⟩
  ·have c2 : (s3.err != 0) = true := by simp [c]
   rw [if_pos c]
   refine aY a4 a7 a11 a12 Y1 gP3 rU (cJ hr c2) ?_
   refine bY mixed (by kernel_rfl) (by kernel_rfl) ?_
   refine XM a4 a7 a11 a12 Y1 gB3 gP3 hr ?_
   refine oW [(0, 0), (1, 0), (1, 10), (4, 0), (4, 10), (5, 0), (5, 10), (8, 0), (8, 10)] ?_ ?_
   ·(repeat (refine aO (bg rfl rfl rfl rfl rfl (kC a4 a7 a11 a12 Y1 gB3 gP3 hr)) ?_)); exact bn
   refine fQ a4 ?_
   exact ⟨_, rfl, iM (aW _ _ _) (aW _ _ _), kp3.set (by omega) _⟩
theorem Qm {s : ByteArray} (hs : s.size ≤ 1000000) (σ : AW) : C Tryz.prog 10 [.string s] σ (aau 6 σ (NU s)) := by
 refine pK Tryz.func10 Tryz.ntmps10 Tryz.results10 fun A hz a0 => ?_
 refine jR a0 ?_
 refine aj (aU a0) ?_
 refine C.mono (YZ hs (m := orS (I8 39)) (fun r b T => YX (Lr Ot (VD Ot 39 1 (by decide) (by decide))).2.2.1) _) ?_
 rintro _ σ1 ⟨x, rfl, t1, k1⟩
 have wI := k1.next
 simp only [ah] at wI
 obtain ⟨t1, l, rfl, hl, ho⟩ := t1
 have nN : σ1.get σ.next = _ := (k1.get σ.next (by first | omega | (simp only [ah, au]; first | done | omega))).trans aA
 refine dV a0 hl ho nN ?_
 refine fQ hl ?_
 exact ⟨_, rfl, (TE.ks ⟨t1, l, rfl, hl, ho⟩ ((Ks.refl σ1).set (.inr (by rw [nN])) _)).lo (fun k hk => by have := hk; simp only [ah] at this; omega), ⟨by rw [au]; omega, fun k hk => by rw [bG (by omega), k1.get k (by rw [ah]; omega), aC (by omega)]⟩⟩
end Go.Proofs.YthogkmcahnkkoaaGreatDoor
namespace Go.Proofs.YthogkmcahnkkoaaGreatDoor
def oJ (P : Tr → Prop) (l : List Tr) : Prop := l.length ≤ 200000 ∧ ∀ x ∈ l, P x
theorem oJ.mono {P Q : Tr → Prop} {l : List Tr} (h : oJ P l) (k : ∀ x, P x → Q x) : oJ Q l := ⟨h.1, fun x hx => k x (h.2 x hx)⟩
theorem oJ.nil (P : Tr → Prop) : oJ P [] := ⟨by simp, fun x hx => absurd hx (by simp)⟩
def isText (x : Tr) : Prop := ∃ s, x = .string s
def wf : Nat → Nat → Tr → Prop
 | 0, _, _ => False
 | n + 1, 0, p => ∃ k m s t kids qs, p = kH k m s t kids qs ∧ oJ (wf n 0) kids ∧ oJ (wf n 1) qs
 | n + 1, 1, p => ∃ k d m items froms wh gr ha or kids, p = DL k d m items froms wh gr ha or kids ∧ oJ (fun x => ∃ e s, x = withName e s ∧ wf n 0 e) items ∧ oJ (wf n 2) froms ∧ oJ (wf n 0) wh ∧ oJ (wf n 0) gr ∧ oJ (wf n 0) ha ∧ oJ (fun x => ∃ e b, x = uT e b ∧ wf n 0 e) or ∧ oJ (wf n 1) kids
 | n + 1, 2, p => ∃ k v t a q kids on, p = DZ k v t a q kids on ∧ oJ (wf n 1) q ∧ oJ (wf n 2) kids ∧ oJ (wf n 0) on
 | n + 1, 3, p => ∃ k a t names es qs wh body other, p = mkS k a t names es qs wh body other ∧ oJ isText names ∧ oJ (wf n 0) es ∧ oJ (wf n 1) qs ∧ oJ (wf n 0) wh ∧ oJ (wf n 3) body ∧ oJ (wf n 3) other
 | _ + 1, _ + 4, _ => False
theorem jr : ∀ (n k : Nat) (p : Tr), wf n k p → wf (n + 1) k p
 | 0, _, _, h => h.elim
 | n + 1, 0, _, ⟨k, m, s, t, kids, qs, e, h1, h2⟩ => ⟨k, m, s, t, kids, qs, e, h1.mono (jr n 0), h2.mono (jr n 1)⟩
 | n + 1, 1, _, ⟨k, d, m, items, froms, wh, gr, ha, or, kids, e, h1, h2, h3, h4, h5, h6, h7⟩ => ⟨k, d, m, items, froms, wh, gr, ha, or, kids, e, h1.mono (fun _ ⟨a, s, e, h⟩ => ⟨a, s, e, jr n 0 a h⟩), h2.mono (jr n 2), h3.mono (jr n 0), h4.mono (jr n 0), h5.mono (jr n 0), h6.mono (fun _ ⟨a, s, e, h⟩ => ⟨a, s, e, jr n 0 a h⟩), h7.mono (jr n 1)⟩
 | n + 1, 2, _, ⟨k, v, t, a, q, kids, on, e, h1, h2, h3⟩ => ⟨k, v, t, a, q, kids, on, e, h1.mono (jr n 1), h2.mono (jr n 2), h3.mono (jr n 0)⟩
 | n + 1, 3, _, ⟨k, a, t, names, es, qs, wh, body, other, e, h0, h1, h2, h3, h4, h5⟩ => ⟨k, a, t, names, es, qs, wh, body, other, e, h0, h1.mono (jr n 0), h2.mono (jr n 1), h3.mono (jr n 0), h4.mono (jr n 3), h5.mono (jr n 3)⟩
theorem VR {n m k : Nat} {p : Tr} (h : wf n k p) (hm : n ≤ m) : wf m k p := by
 induction hm with
 | refl => exact h
 | step _ ih => exact jr _ _ _ ih
def Wf (k : Nat) (p : Tr) : Prop := ∃ n, wf n k p
def WfL (k : Nat) (l : List Tr) : Prop := oJ (Wf k) l
theorem Y2 {Q : Nat → Tr → Prop} (hm : ∀ n m x, Q n x → n ≤ m → Q m x) {l : List Tr} (h : oJ (fun x => ∃ n, Q n x) l) : ∃ n, oJ (Q n) l := by
 have key : ∀ {l : List Tr}, (∀ x ∈ l, ∃ n, Q n x) → ∃ n, ∀ x ∈ l, Q n x := by
  intro l
  induction l with
  | nil => exact fun _ => ⟨0, fun x hx => absurd hx (by simp)⟩
  | cons y l ih =>
   intro h
   obtain ⟨n, hn⟩ := h y (List.mem_cons_self ..)
   obtain ⟨m, hm'⟩ := ih (fun x hx => h x (List.mem_cons_of_mem _ hx))
   refine ⟨n + m, fun x hx => ?_⟩
   cases hx with
   | head => exact hm _ _ _ hn (Nat.le_add_right ..)
   | tail _ hx => exact hm _ _ _ (hm' x hx) (Nat.le_add_left ..)
 obtain ⟨n, hn⟩ := key h.2
 exact ⟨n, h.1, hn⟩
theorem Qn {k : Nat} {l : List Tr} (h : WfL k l) : ∃ n, oJ (wf n k) l := Y2 (Q := fun n x => wf n k x) (fun _ _ _ h hm => VR h hm) h
theorem Y3 (k : Nat) : WfL k [] := oJ.nil _
theorem Y4 {k : Nat} {x y : Tr} (h : Wf k x) (h' : Wf k y) : WfL k [x, y] := ⟨by simp, fun z hz => by
 simp only [List.mem_cons, List.not_mem_nil, or_false] at hz
 rcases hz with rfl | rfl
 ·exact h
 ·exact h'⟩
theorem ags {k m : Int} {s t : ByteArray} {kids qs : List Tr} (h1 : WfL 0 kids) (h2 : WfL 1 qs) : Wf 0 (kH k m s t kids qs) := by
 obtain ⟨n1, h1⟩ := Qn h1
 obtain ⟨n2, h2⟩ := Qn h2
 exact ⟨n1 + n2 + 1, k, m, s, t, kids, qs, rfl, h1.mono (fun _ h => VR h (by omega)), h2.mono (fun _ h => VR h (by omega))⟩
def Yl {α : Type} (m : SM α) (P : α → Prop) : Prop := ∀ σ, σ.left.length ≤ 100000 → P (m σ).1 ∧ (m σ).2.left.length ≤ 100000
section
variable {α β : Type} {P : α → Prop} {Q : β → Prop}
theorem Yl.bind {m : SM α} {k : α → SM β} (h : Yl m P) (hk : ∀ a, P a → Yl (k a) Q) : Yl (m >>= k) Q := fun σ hs => hk _ (h σ hs).1 _ (h σ hs).2
theorem Yl.any {m : SM α} {k : α → SM β} (hk : ∀ a, Yl (k a) Q) (hm : bQ m := by first | exact bQ.head | exact bQ.sees _ | exact bQ.take _ | exact bQ.takeKind _ | exact bQ.want _ | exact bQ.refuse _ | exact bQ.takeAny _ | exact bQ.name | exact bQ.number | exact vT _ | exact Hl | exact bQ.name.list _) : Yl (m >>= k) Q := fun σ hs => hk _ _ (Nat.le_trans (hm σ) hs)
theorem Yl.pure {a : α} (h : P a) : Yl (Pure.pure a : SM α) P := fun _ hs => ⟨h, hs⟩
theorem Yl.ite {c : Prop} [Decidable c] {m n : SM α} (h : Yl m P) (h' : Yl n P) : Yl (if c then m else n) P := by
 split
 ·exact h
 ·exact h'
theorem Yl.mono {P' : α → Prop} {m : SM α} (h : Yl m P) (k : ∀ a, P a → P' a) : Yl m P' := fun σ hs => ⟨k _ (h σ hs).1, (h σ hs).2⟩
theorem Yl.loopN {I : Nat → α → Prop} {s : α → SM (Option α)} (h : ∀ n a, I (n + 1) a → Yl (s a) (fun o => ∀ b, o = some b → I n b)) (hz : ∀ n a, I n a → P a) : ∀ (f : Nat) (x : α), I f x → Yl (loopS s f x) P
 | 0, x, hx => .pure (hz 0 x hx)
 | f + 1, x, hx => (h f x hx).bind fun o ho => by
  cases o with
  | none => exact .pure (hz _ x hx)
  | some y => exact Yl.loopN h hz f y (ho y rfl)
theorem Yl.whileN {I : Nat → α → Prop} {s : α → SM (Option α)} (h : ∀ n a, I (n + 1) a → Yl (s a) (fun o => ∀ b, o = some b → I n b)) (hz : ∀ n a, I n a → P a) {x : α} (hx : ∀ n, n ≤ 100000 → I n x) : Yl (rJ s x) P := fun σ hs => Yl.loopN h hz σ.left.length x (hx _ hs) σ hs
theorem Yl.while {s : α → SM (Option α)} (h : ∀ a, P a → Yl (s a) (fun o => ∀ b, o = some b → P b)) {x : α} (hx : P x) : Yl (rJ s x) P := Yl.whileN (I := fun _ => P) (fun _ => h) (fun _ _ h => h) (fun _ _ => hx)
theorem Yl.fromLeft {I : Tr → Prop} {m : Tr → ByteArray → SM Tr} (h : ∀ a b, I a → Yl (m a b) I) (l : List ByteArray) {x : Tr} (hx : I x) : Yl (dL m l x) I :=
 Yl.while (fun a ha => Yl.any fun o => by
  cases o with
  | none => exact .pure (fun b hb => by cases hb)
  | some y => exact (h a y ha).bind fun z hz => .pure (fun b hb => by injection hb with hb; subst hb; exact hz)) hx
theorem VT {n : Nat} {P : α → Prop} {l : List α} {y : α} (h : l.length + (n + 1) ≤ 200000 ∧ ∀ a ∈ l, P a) (hy : P y) : (l ++ [y]).length + n ≤ 200000 ∧ ∀ a ∈ l ++ [y], P a := by
 refine ⟨by rw [List.length_append]; simp; omega, fun a ha => ?_⟩
 rcases List.mem_append.1 ha with ha | ha
 ·exact h.2 a ha
 ·simp only [List.mem_singleton] at ha; rw [ha]; exact hy
theorem Yl.each {r : SM α} (h : Yl r P) (x : ByteArray) {l : List α} (hn : l.length ≤ 100000) (hl : ∀ a ∈ l, P a) : Yl (Di x r l) (fun l => l.length ≤ 200000 ∧ ∀ a ∈ l, P a) :=
 Yl.whileN (I := fun n l => l.length + n ≤ 200000 ∧ ∀ a ∈ l, P a) (fun n l hl => Yl.any fun _ => .ite (h.bind fun y hy => .pure (fun b hb => by
  injection hb with hb
  subst hb
  exact VT hl hy)) (.pure (fun b hb => by cases hb))) (fun n l h => ⟨by omega, h.2⟩) (fun n hn' => ⟨by omega, hl⟩)
theorem Yl.list {r : SM α} (h : Yl r P) (x : ByteArray) : Yl (jW x r) (fun l => l.length ≤ 200000 ∧ ∀ a ∈ l, P a) := h.bind fun y hy => h.each x (by simp) (fun a ha => by simp only [List.mem_singleton] at ha; rw [ha]; exact hy)
theorem Yl.behind {r : SM α} (h : Yl r P) (x : ByteArray) : Yl (fJ x r) (fun l => l.length ≤ 200000 ∧ ∀ a ∈ l, P a) := Yl.any fun _ => .ite (h.bind fun y hy => .pure ⟨by simp, fun a ha => by simp only [List.mem_singleton] at ha; rw [ha]; exact hy⟩) (.pure ⟨by simp, fun a ha => absurd ha (by simp)⟩)
theorem Yl.inBrackets {r : SM α} (h : Yl r P) : Yl (bH r) P := Yl.any fun _ => h.bind fun _ hx => Yl.any fun _ => .pure hx
theorem Yl.listInBrackets {r : SM α} (h : Yl r P) : Yl (jF r) (fun l => l.length ≤ 200000 ∧ ∀ a ∈ l, P a) := Yl.inBrackets (Yl.any fun _ => .ite (.pure ⟨by simp, fun a ha => absurd ha (by simp)⟩) (h.list _))
end
structure YlK (K : gG) : Prop where
 or : Yl K.or (Wf 0)
 not : Yl K.not (Wf 0)
 unary : Yl K.unary (Wf 0)
 parts : Yl K.parts (Wf 1)
 block : Yl K.block (WfL 3)
section
variable {K : gG} (h : YlK K)
include h
omit h in
theorem Yl.operands {r : SM Tr} (hr : Yl r (Wf 0)) (l : List ByteArray) : Yl (fP r l) (Wf 0) := hr.bind fun _ hx => .fromLeft (fun _ _ ha => hr.bind fun _ hy => .pure (ags (Y4 ha hy) (Y3 _))) _ hx
end
theorem Yl.deep {α : Type} {P : α → Prop} {z : α} (hz : P z) : Yl (tooDeep z) P := Yl.any fun _ => .pure hz
end Go.Proofs.YthogkmcahnkkoaaGreatDoor
