/- Runs of closed code, reckoned: a region whose order is left open, whichever operation comes up. -/
import Derived.Test.YtiakmddejckkbaaGreatXDraw2
namespace Go.Proofs.YtiakmddejckkbaaGreat

section
variable {P : Program} {call : CallA} {Q : Exit → Act → World → Prop}
theorem count_less {α : Type} {p q : α → Bool} : ∀ (l : List α), (∀ x ∈ l, q x = true → p x = true) → (∃ x ∈ l, p x = true ∧ q x = false) → (l.filter q).length < (l.filter p).length
  | [], _, h => by obtain ⟨x, hx, _⟩ := h; cases hx
  | y :: l, h, ⟨x, hx, h1, h2⟩ => by
    have hle : ∀ l : List α, (∀ x ∈ l, q x = true → p x = true) → (l.filter q).length ≤ (l.filter p).length := by
      intro l
      induction l with
      | nil => intro _; exact Nat.le_refl _
      | cons z l ih =>
        intro hz
        have := ih (fun x hx => hz x (List.mem_cons_of_mem _ hx))
        have hz1 := hz z (List.mem_cons_self ..)
        simp only [List.filter_cons]
        cases hq : q z with
        | true => rw [hz1 hq]; simp; omega
        | false => cases p z <;> simp <;> omega
    have hl := hle l (fun x hx => h x (List.mem_cons_of_mem _ hx))
    simp only [List.filter_cons]
    cases hx with
    | head => rw [h1, h2]; simp; omega
    | tail _ hx =>
      have := count_less l (fun x hx => h x (List.mem_cons_of_mem _ hx)) ⟨x, hx, h1, h2⟩
      have hy := h y (List.mem_cons_self ..)
      cases hq : q y with
      | true => rw [hy hq]; simp; omega
      | false => cases p y <;> simp <;> omega
def left (L : Array Bool) : Nat := ((List.range L.size).filter fun i => !L.getD i true).length

theorem inv_any {all : List Oper} {ops : Array Oper} {i0 : Nat} (hi0 : floatAt all (ancL [] all) = i0) (hops : ops.toList = all) (hC : CallOK P call) (hc : RegC all (ancL [] all) i0) {tr : List (Fr × AW × Value)} {A0 Af : Fr} {σf : AW} {ρ0 : Rn} {σ0 : AW} {w0 : World}
    (hfit : ∀ o : Oper, all[i0]? = some o → ∀ d, o.dst = some d → ∃ u, A0.get d = some u) (htr : traceA call P all all A0 σ0 = some (tr, Af, σf)) (hcalm : calm call P all (ancL [] all) tr σf = true)
    (hQ : ∀ ρ' a' w', Step ρ0 σ0 w0 ρ' σf w' → TR ρ' σf Af a' → Q .normal a' w') :
    ∀ (fuel : Nat) (L : Array Bool) (f : Nat) (ρ : Rn) (a : Act) (w : World), left L ≤ fuel → Inv P all i0 tr A0 Af σf ρ0 σ0 w0 L f ρ a w → wpAny P .any ops Q fuel L a w := by
  obtain ⟨hlen, hst0, hstep⟩ := trace_at htr
  have hvs : ∀ i o, all[i]? = some o → ∃ v, (tr[i]?.map (·.2.2)) = some v ∧ (stAt tr Af σf (i + 1)).1 = putA (stAt tr Af σf i).1 o.dst v := fun i o hi => by
    obtain ⟨v, h1, _, h3⟩ := hstep i o hi
    exact ⟨v, by rw [h1]; rfl, h3⟩
  have hgs : ∀ i o, all[i]? = some o → ∃ v, guardA call P all (stAt tr Af σf i).1 (stAt tr Af σf i).2 o = some (v, (stAt tr Af σf (i + 1)).2) := fun i o hi => by
    obtain ⟨v, _, h2, _⟩ := hstep i o hi
    exact ⟨v, h2⟩
  have hbefore := tmp_before (by rw [hst0]) hvs hc.once
  have hend : stAt tr Af σf all.length = (Af, σf) := by
    unfold stAt
    rw [List.getElem?_eq_none (by omega)]
  have hplace : ∀ f, f ∈ places all → f ≤ all.length := fun f hf => by
    unfold places at hf
    cases hf with
    | head => exact Nat.zero_le _
    | tail _ hf =>
      obtain ⟨p, hp, he⟩ := List.mem_filterMap.1 hf
      obtain ⟨o, i⟩ := p
      simp only at he
      split at he
      · injection he with he
        have := List.mem_zipIdx hp
        omega
      · cases he
  have hfit0 : ∀ o t d, all[i0]? = some o → o.op = .alloc t → o.dst = some d → ∃ u, A0.get d = some u := fun o t d ho hop hd => by
    exact hfit o ho d hd
  -- the variable that was made before its time is taken in
  have conv : ∀ (L : Array Bool) (f : Nat) (ρ : Rn) (a : Act) (w : World), i0 < all.length → f ≤ i0 → listed L i0 → (∀ j o, all[j]? = some o → effect o.op = true → j < i0 → listed L j) → Inv P all i0 tr A0 Af σf ρ0 σ0 w0 L f ρ a w → ∃ ρ', Inv P all i0 tr A0 Af σf ρ0 σ0 w0 L (i0 + 1) ρ' a w := by
    intro L f ρ a w hlt hfi hl hall hI
    have ho : all[i0]? = some all[i0] := List.getElem?_eq_getElem hlt
    obtain ⟨t, d, hop, hgd, hdst, _⟩ := hc.float _ ho
    have heff : effect (all[i0]).op = true := by rw [hop]; rfl
    have hsame : (stAt tr Af σf i0).2 = (stAt tr Af σf f).2 := st_same hgs f i0 hfi (by omega) (fun j x h1 h2 hj => by
      cases hx : effect x.op with
      | false => rfl
      | true => have := (hI.eff j x hj hx (by omega)).1 (hall j x hj hx h2); omega)
    obtain ⟨v, hv1, hv2, hv3⟩ := hstep i0 _ ho
    have hvv : (tr[i0]?.map (·.2.2)) = some v := by rw [hv1]; rfl
    -- what it comes to
    have hg : guardA call P all (stAt tr Af σf i0).1 (stAt tr Af σf i0).2 all[i0] = opA P (stAt tr Af σf i0).1 (stAt tr Af σf i0).2 all[i0] := by
      unfold guardA wantedA
      rw [hgd]
      simp only
      unfold stepA
      rw [hop]
    rw [hg] at hv2
    unfold opA at hv2
    rw [hop] at hv2
    simp only at hv2
    cases hz : zeroOf P t with
    | none => rw [hz] at hv2; cases hv2
    | some z =>
      rw [hz] at hv2
      injection hv2 with hv2
      injection hv2 with q1 q2
      have hnx : (stAt tr Af σf (i0 + 1)).2 = (stAt tr Af σf f).2.push ⟨1, t, 0, cellsL z⟩ := by rw [← q2, hsame]
      have hfl : Fl z := (zeroOf_run hz w).2
      have hplc : i0 + 1 ∈ places all := by
        unfold places
        refine List.mem_cons_of_mem _ (List.mem_filterMap.2 ⟨(all[i0], i0), ?_, by simp [heff]⟩)
        rw [List.mem_iff_getElem?]
        exact ⟨i0, by simp [ho]⟩
      -- its cell
      by_cases hAd : ∃ u, A0.get d = some u
      · obtain ⟨u, hAd⟩ := hAd
        obtain ⟨b, z', hz', htm, hbk, hnl, hnew⟩ := hI.side hl hfi _ t d u ho hop hdst hAd
        rw [hz] at hz'
        injection hz' with hz'
        subst hz'
        have hrel := rel_adopt hI.step.rel hfl hbk hnl
        have hdom : ∀ k, (stAt tr Af σf f).2.dom k → ((stAt tr Af σf f).2.push ⟨1, t, 0, cellsL z⟩).dom k := fun k hk => ⟨Nat.lt_succ_of_lt hk.1, by rw [AW.push, AW.get_up, AW.get_set, if_neg (Nat.ne_of_lt hk.1)]; exact hk.2⟩
        have hren : ∀ v, Sc (stAt tr Af σf f).2.dom v → ren (fun k => if k = (stAt tr Af σf f).2.next then (b, 0) else ρ k) v = ren ρ v := fun v hv => hv _ _ fun k hk => if_neg (Nat.ne_of_lt hk.1)
        refine ⟨fun k => if k = (stAt tr Af σf f).2.next then (b, 0) else ρ k, hI.closed, hplc, fun j x hj hx hne => ?_, fun _ _ => hl, ?_, hI.size, hI.defers, fun j x tt y uu hj hq hlj hd hu hA => ?_, fun tt y hn hA => ?_, fun _ h => by omega⟩
        · constructor
          · intro h; have := (hI.eff j x hj hx hne).1 h; omega
          · intro h; exact hall j x hj hx (by omega)
        · rw [hnx]
          have hs := hI.step
          refine ⟨hrel, fun k hk => ?_, Nat.le_trans hs.mono (Nat.le_succ _), fun k hk => ?_, fun k hk => ?_, hs.same, hs.os, hs.tape, hs.output, hs.size⟩
          · have := hs.mono
            rw [if_neg (by omega)]
            exact hs.agree k hk
          · have := hs.mono
            rw [AW.push, AW.get_up, AW.get_set, if_neg (by omega)]
            exact hs.kept k hk
          · by_cases e : k = (stAt tr Af σf f).2.next
            · exact .inl (by simp only [if_pos e]; exact hnew)
            · simp only [if_neg e]
              refine hs.came k ?_
              unfold AW.live at hk ⊢
              rw [AW.push, AW.get_up, AW.get_set, if_neg e] at hk
              exact hk
        · rw [hnx]
          by_cases hji : j = i0
          · subst hji
            rw [ho] at hj
            injection hj with hj
            subst hj
            rw [hdst] at hd
            injection hd with hd
            subst hd
            rw [hvv] at hu
            injection hu with hu
            subst hu
            rw [← q1, hsame]
            refine ⟨?_, sc_ptr (push_dom (by simp))⟩
            rw [htm, ren_ptr]
            simp [renB]
          · obtain ⟨h1, h2⟩ := hI.done j x tt y uu hj (fun e => absurd e hji) hlj hd hu hA
            exact ⟨by rw [hren y h2]; exact h1, h2.mono hdom⟩
        · rw [hnx]
          obtain ⟨h1, h2⟩ := hI.todo tt y hn hA
          exact ⟨by rw [hren y h2]; exact h1, h2.mono hdom⟩
      · exact absurd hfit0 (fun h => hAd (h _ t d ho hop hdst))
  -- when nothing is left, all is done
  have fin : ∀ (L : Array Bool) (f : Nat) (ρ : Rn) (a : Act) (w : World), Region.ready .any ops L = [] → Inv P all i0 tr A0 Af σf ρ0 σ0 w0 L f ρ a w → Q .normal a w := by
    intro L f ρ a w hr hI
    have hall : ∀ i, i < all.length → listed L i := by
      intro i
      induction i using Nat.strongRecOn with
      | _ i ih =>
        intro hi
        apply Classical.byContradiction
        intro hn
        have ho : all[i]? = some all[i] := List.getElem?_eq_getElem hi
        have : i ∈ Region.ready .any ops L := by
          rw [mem_ready]
          refine ⟨?_, all[i], by rw [← ho, ← hops]; simp, fun e he hb => ?_⟩
          · have hiL : i < L.size := by rw [hI.closed.size]; exact hi
            unfold listed at hn
            simp only [Array.getD_eq_getD_getElem?, Array.getElem?_eq_getElem hiL, Option.getD_some] at hn ⊢
            simpa using hn
          · have hlt := hc.less i _ e ho (by simpa using he) hb
            exact ih e.on hlt (by omega)
        rw [hr] at this
        cases this
    obtain ⟨f, ρ, hI, hF⟩ : ∃ f' ρ', Inv P all i0 tr A0 Af σf ρ0 σ0 w0 L f' ρ' a w ∧ (i0 < all.length → i0 < f') := by
      by_cases h : i0 < all.length ∧ f ≤ i0
      · obtain ⟨ρ', hI'⟩ := conv L f ρ a w h.1 h.2 (hall i0 h.1) (fun j o hj _ _ => hall j (List.getElem?_eq_some_iff.1 hj).1) hI
        exact ⟨i0 + 1, ρ', hI', fun _ => Nat.lt_succ_self _⟩
      · exact ⟨f, ρ, hI, fun h' => by omega⟩
    have hsf : (stAt tr Af σf all.length).2 = (stAt tr Af σf f).2 := st_same hgs f all.length (hplace f hI.place) (Nat.le_refl _) (fun j o h1 h2 hj => by
      cases he : effect o.op with
      | false => rfl
      | true =>
        by_cases hji : j = i0
        · subst hji; have := hF h2; omega
        · have := (hI.eff j o hj he hji).1 (hall j h2); omega)
    rw [hend] at hsf
    refine hQ ρ a w (by have := hI.step; rw [← hsf] at this; exact this) ⟨?_, fun t v e => ?_, fun t v e => ?_, hI.defers⟩
    · rw [hI.size]
      have : ∀ i, i ≤ all.length → (stAt tr Af σf i).1.size = A0.size := by
        intro i
        induction i with
        | zero => intro _; rw [hst0]
        | succ i ih =>
          intro hi
          obtain ⟨v, _, hp⟩ := hvs i _ (List.getElem?_eq_getElem (by omega : i < all.length))
          rw [hp, ← ih (by omega)]
          cases (all[i]).dst <;> rfl
      have h2 := this all.length (Nat.le_refl _)
      rw [hend] at h2
      exact h2.symm
    all_goals
      have hq : a.tmps[t]? = some (ren ρ v) ∧ Sc (stAt tr Af σf f).2.dom v := by
        have hb := hbefore t all.length (Nat.le_refl _)
        rw [hend] at hb
        by_cases hw : ∃ (j : Nat) (o : Oper), all[j]? = some o ∧ o.dst = some t
        · obtain ⟨j, o, hj, hd⟩ := hw
          have hjl := (List.getElem?_eq_some_iff.1 hj).1
          obtain ⟨u, hu, _⟩ := hvs j o hj
          have := hb.2 j o u hjl hj hd hu
          rw [e] at this
          cases hA : A0.get t with
          | none => rw [hA] at this; cases this
          | some x =>
            rw [hA] at this
            injection this with this
            subst this
            exact hI.done j o t v x hj (fun e => hF (e ▸ hjl)) (hall j hjl) hd hu hA
        · have hn : ∀ (j : Nat) (o : Oper), all[j]? = some o → o.dst ≠ some t := fun j o hj hd => hw ⟨j, o, hj, hd⟩
          have := hb.1 (fun j o _ hj => hn j o hj)
          rw [e] at this
          exact hI.todo t v (fun j o hj _ => hn j o hj) this.symm
    · exact hq.1
    · rw [← hsf] at hq; exact hq.2
  intro fuel
  induction fuel with
  | zero =>
    intro L f ρ a w hl hI
    have hr : Region.ready .any ops L = [] := by
      cases hq : Region.ready .any ops L with
      | nil => rfl
      | cons i r =>
        have hi : i ∈ Region.ready .any ops L := by rw [hq]; exact List.mem_cons_self ..
        rw [mem_ready] at hi
        obtain ⟨h1, o, ho, _⟩ := hi
        have hmem : i ∈ (List.range L.size).filter fun i => !L.getD i true := by
          rw [List.mem_filter, List.mem_range]
          refine ⟨?_, by rw [h1]; rfl⟩
          rw [hI.closed.size, ← hops, Array.length_toList]
          exact (Array.getElem?_eq_some_iff.1 ho).1
        have := List.length_pos_of_mem hmem
        unfold left at hl
        omega
    exact ⟨hr, fin L f ρ a w hr hI⟩
  | succ fuel ih =>
    intro L f ρ a w hl hI
    refine ⟨fun hr => fin L f ρ a w hr hI, fun i hi => ?_⟩
    rw [mem_ready] at hi
    obtain ⟨hun, o, hoA, hedge⟩ := hi
    have ho : all[i]? = some o := by rw [← hops]; simpa using hoA
    have hil := (List.getElem?_eq_some_iff.1 ho).1
    have hiL : i < L.size := by rw [hI.closed.size]; exact hil
    have hnl : ¬ listed L i := by
      unfold listed
      simp only [Array.getD_eq_getD_getElem?, Array.getElem?_eq_getElem hiL, Option.getD_some] at hun ⊢
      rw [hun]
      simp
    have hedge' : ∀ e ∈ o.after.toList, Region.binds .any e = true → listed L e.on := fun e he hb => hedge e (by simpa using he) hb
    obtain ⟨v, hv1, hv2, hv3⟩ := hstep i o ho
    have hvv : (tr[i]?.map (·.2.2)) = some v := by rw [hv1]; rfl
    obtain ⟨f, ρ, hI, hF⟩ : ∃ f' ρ', Inv P all i0 tr A0 Af σf ρ0 σ0 w0 L f' ρ' a w ∧ (effect o.op = true → i ≠ i0 → i0 < i → i0 < f') := by
      by_cases h : effect o.op = true ∧ i ≠ i0 ∧ i0 < i ∧ f ≤ i0
      · obtain ⟨h1, h2, h3, h4⟩ := h
        have hlt : i0 < all.length := by omega
        have ho0 : all[i0]? = some all[i0] := List.getElem?_eq_getElem hlt
        obtain ⟨t, d, hop, _⟩ := hc.float _ ho0
        have he0 : effect (all[i0]).op = true := by rw [hop]; rfl
        obtain ⟨ρ', hI'⟩ := conv L f ρ a w hlt h4 (anc_listed hc hI.closed i i0 o ho (.inr hedge') (hc.chain i i0 o _ ho ho0 h3 h2 h1 he0)).1
          (fun j x hj hx hji => (anc_listed hc hI.closed i j o ho (.inr hedge') (hc.chain i j o x ho hj (by omega) h2 h1 hx)).1) hI
        exact ⟨i0 + 1, ρ', hI', fun _ _ _ => Nat.lt_succ_self _⟩
      · exact ⟨f, ρ, hI, fun h1 h2 h3 => by
          apply Classical.byContradiction
          intro h4
          exact h ⟨h1, h2, h3, by omega⟩⟩
    -- what a temporary that it looks at is
    have hlook : ∀ t, t ∈ looks all o → ∀ u, (stAt tr Af σf i).1.get t = some u → a.tmps[t]? = some (ren ρ u) ∧ Sc (stAt tr Af σf f).2.dom u := fun t ht u hu => by
      have hb := hbefore t i (by omega)
      by_cases hw : ∃ (j : Nat) (x : Oper), j < i ∧ all[j]? = some x ∧ x.dst = some t
      · obtain ⟨j, x, hji, hj, hd⟩ := hw
        obtain ⟨y, hy, _⟩ := hvs j x hj
        have := hb.2 j x y hji hj hd hy
        rw [hu] at this
        cases hA : A0.get t with
        | none => rw [hA] at this; cases this
        | some z =>
          rw [hA] at this
          injection this with this
          subst this
          rcases hc.look i j o x t ho hj (by omega) hd ht with h | h
          · refine hI.done j x t u z hj (fun e => ?_) (anc_listed hc hI.closed i j o ho (.inr hedge') h.2).1 hd hy hA
            subst e
            cases heo : effect o.op with
            | true => exact hF heo (by omega) hji
            | false =>
              obtain ⟨_, d, _, _, hd', hno⟩ := hc.float x hj
              rw [hd] at hd'
              injection hd' with hd'
              subst hd'
              exact absurd ht (hno i o ho heo)
          · obtain ⟨e, _, hlt, hle⟩ : ∃ e : Nat, True ∧ i < j ∧ e = e := by
              -- an ancestor stands ahead
              have key : ∀ k m (x : Oper), all[k]? = some x → bitB (getN 0 (ancL [] all) k) m = true → m < k := by
                intro k
                induction k using Nat.strongRecOn with
                | _ k ihk =>
                  intro m x hx hb
                  obtain ⟨e, he, hbd, hm⟩ := hc.anc k x m hx hb
                  have hlt := hc.less k x e hx he hbd
                  rcases hm with rfl | hm
                  · exact hlt
                  · obtain ⟨x', hx'⟩ : ∃ x', all[e.on]? = some x' := ⟨_, List.getElem?_eq_getElem (by have := (List.getElem?_eq_some_iff.1 hx).1; omega)⟩
                    have := ihk e.on hlt m x' hx' hm
                    omega
              exact ⟨0, trivial, key j i x hj h, rfl⟩
            omega
      · have hn : ∀ (j : Nat) (x : Oper), j < i → all[j]? = some x → x.dst ≠ some t := fun j x h1 h2 h3 => hw ⟨j, x, h1, h2, h3⟩
        have := hb.1 hn
        rw [hu] at this
        refine hI.todo t u (fun j x hj hlj hd => ?_) this.symm
        have hji : j ≠ i := fun e => hnl (e ▸ hlj)
        by_cases hlt : j < i
        · exact hn j x hlt hj hd
        · rcases hc.look i j o x t ho hj (Ne.symm hji) hd ht with h | h
          · omega
          · exact hnl (anc_listed hc hI.closed j i x hj (.inl hlj) h).1
    have hE : HE ρ (stAt tr Af σf f).2 (stAt tr Af σf i).1 a o.op.operands.toList := fun x hx u hu => by
      cases x with
      | tmp t =>
        have hu : (stAt tr Af σf i).1.get t = some u := hu
        obtain ⟨h1, h2⟩ := hlook t (by
          unfold looks
          exact List.mem_append_left _ (List.mem_filterMap.2 ⟨.tmp t, hx, rfl⟩)) u hu
        refine ⟨?_, h2⟩
        show a.tmps.getD t undef = _
        simp [h1]
      | const c =>
        simp only [ev] at hu
        split at hu
        · rename_i hf
          injection hu with hu
          subst hu
          exact ⟨(flatB_fl hf ρ).symm, (flatB_fl hf).sc _⟩
        · cases hu
      | func g =>
        simp only [ev] at hu
        injection hu with hu
        subst hu
        exact ⟨by rw [ren_func]; simp [Act.eval], sc_func (fun v hv => by cases hv) (fun v hv => by cases hv)⟩
      | global g => cases hu
    have hG : ∀ g b x d u, o.guard = some (g, b) → all[g]? = some x → x.dst = some d → (stAt tr Af σf i).1.get d = some u → a.tmps[d]? = some (ren ρ u) := fun g b x d u h1 h2 h3 h4 =>
      (hlook d (by
        unfold looks
        refine List.mem_append_right _ ?_
        rw [h1]
        simp only [h2, h3]
        simp) u h4).1
    -- the rest, behind it
    have go : ∀ f' σ', i ≠ i0 → (i0 < f' → i0 < all.length → listed (L.setIfInBounds i true) i0) → (i0 < f' → i0 < f) → (f' ≤ i0 → f ≤ i0) → (stAt tr Af σf f').2 = σ' → f' ∈ places all → (∀ j x, all[j]? = some x → effect x.op = true → j ≠ i0 → (listed (L.setIfInBounds i true) j ↔ j < f')) → guardA call P all (stAt tr Af σf i).1 (stAt tr Af σf f).2 o = some (v, σ') → wpOp P ops Q i (wpAny P .any ops Q fuel (L.setIfInBounds i true)) a w := by
      intro f' σ' hne0 hfl' hff hfs hf' hpl heff hg
      unfold wpOp
      rw [hoA]
      refine guardA_wp (Q := Q) hops hC hI.step.rel hE hG hg (fun ρ' w' hst hs => ?_)
      refine ih _ f' ρ' _ _ ?_ ?_
      · -- one less is left
        have : left (L.setIfInBounds i true) < left L := by
          unfold left
          rw [Array.size_setIfInBounds]
          refine count_less _ (fun x _ hx => ?_) ⟨i, List.mem_range.2 hiL, by rw [hun]; rfl, ?_⟩
          · by_cases e : i = x
            · subst e; simp [hiL] at hx
            · rw [getD_set_ne true e] at hx; exact hx
          · simp [hiL]
        omega
      · have hput : ∀ t u, o.dst ≠ some t → a.tmps[t]? = some u → (a.put o.dst (ren ρ' v)).tmps[t]? = some u := fun t u hne ht => by
          cases hd : o.dst with
          | none => exact ht
          | some d =>
            rw [hd] at hne
            simp only [Act.put]
            rw [Array.getElem?_setIfInBounds_ne (fun e => hne (by rw [e]))]
            exact ht
        subst hf'
        refine ⟨⟨by rw [Array.size_setIfInBounds]; exact hI.closed.size, fun j x hj hlj e he hb => ?_⟩, hpl, heff, hfl', hI.step.trans hst, ?_, ?_, fun j x t u z hj hq0 hlj hd hu hA => ?_, fun t u hn hA => ?_, fun hl0 hf0 o0 t0 d0 u0 ho0 hop0 hd0 hA0 => ?_⟩
        · rw [set_listed hI.closed ho] at hlj ⊢
          rcases hlj with rfl | hlj
          · rw [ho] at hj
            injection hj with hj
            subst hj
            exact .inr (hedge' e he hb)
          · exact .inr (hI.closed.closed j x hj hlj e he hb)
        · rw [← hI.size]; cases o.dst <;> simp [Act.put]
        · rw [← hI.defers]; cases o.dst <;> rfl
        · rw [set_listed hI.closed ho] at hlj
          by_cases hji : j = i
          · subst hji
            rw [ho] at hj
            injection hj with hj
            subst hj
            rw [hvv] at hu
            injection hu with hu
            subst hu
            refine ⟨?_, hs⟩
            rw [hd]
            simp only [Act.put]
            have ht : t < a.tmps.size := by
              rw [hI.size]
              unfold Fr.get at hA
              split at hA
              · rename_i hb; exact Nat.le_of_ble_eq_true hb
              · cases hA
            simp [ht]
          · have hlj := hlj.resolve_left hji
            obtain ⟨h1, h2⟩ := hI.done j x t u z hj (fun e => hff (hq0 e)) hlj hd hu hA
            have hne : o.dst ≠ some t := hc.once i j o x t ho hj (Ne.symm hji) hd
            refine ⟨hput t _ hne ?_, hst.sc h2⟩
            rw [hst.ren h2]
            exact h1
        · have hne : o.dst ≠ some t := hn i o ho ((set_listed hI.closed ho i).2 (.inl rfl))
          obtain ⟨h1, h2⟩ := hI.todo t u (fun j x hj hlj => hn j x hj ((set_listed hI.closed ho j).2 (.inr hlj))) hA
          refine ⟨hput t _ hne ?_, hst.sc h2⟩
          rw [hst.ren h2]
          exact h1
        · rw [set_listed hI.closed ho] at hl0
          have hl0 := hl0.resolve_left (Ne.symm hne0)
          obtain ⟨b, z, hz, htm, hbk, hnl', hnew⟩ := hI.side hl0 (hfs hf0) o0 t0 d0 u0 ho0 hop0 hd0 hA0
          have hblt := (Array.getElem?_eq_some_iff.1 hbk).1
          refine ⟨b, z, hz, hput d0 _ (fun e => hc.once i0 i o0 o d0 ho0 ho (Ne.symm hne0) e hd0) htm, ?_, fun k hk => ?_, hnew⟩
          · rw [hst.same b hblt hnl']; exact hbk
          · rcases hst.came k hk with h | ⟨j, hj, e⟩
            · omega
            · rw [← e]; exact hnl' j hj
    cases heo : effect o.op with
    | true =>
     by_cases hii : i = i0
     · -- the variable that is made whenever it comes up
      have hfi0 : f ≤ i0 := by
        rcases Nat.lt_or_ge i0 f with h | h
        · exact absurd (hii ▸ hI.fl h (by omega)) hnl
        · exact h
      obtain ⟨t, d, hop, hgd, hdst, _⟩ := hc.float o (hii ▸ ho)
      have hg : guardA call P all (stAt tr Af σf i).1 (stAt tr Af σf i).2 o = opA P (stAt tr Af σf i).1 (stAt tr Af σf i).2 o := by
        unfold guardA wantedA
        rw [hgd]
        simp only
        unfold stepA
        rw [hop]
      rw [hg] at hv2
      unfold opA at hv2
      rw [hop] at hv2
      simp only at hv2
      cases hz : zeroOf P t with
      | none => rw [hz] at hv2; cases hv2
      | some z =>
        obtain ⟨hz1, hz2⟩ := zeroOf_run hz w
        have hrun : (execOp a.eval o).run P w = .ok (.value (.pointer (some ⟨w.heap.size, 0, none⟩))) (w.alloc (.cells z.cells t)) := by
          simp only [execOp, hop, Instr.alloc, Sem.run_bind, hz1, Result.andThen_ok, newVar, newRow, run_newObj, Sem.run_pure]
          rfl
        have hwant : Region.wanted o (yielded ops a.tmps) = true := by unfold Region.wanted; rw [hgd]
        unfold wpOp
        rw [hoA]
        simp only [hwant, if_true]
        refine .inl ?_
        unfold Oper.wp
        rw [hrun]
        show wpAny P .any ops Q fuel (L.setIfInBounds i true) (a.put o.dst (.pointer (some ⟨w.heap.size, 0, none⟩))) (w.alloc (.cells z.cells t))
        have hleft : left (L.setIfInBounds i true) < left L := by
          unfold left
          rw [Array.size_setIfInBounds]
          refine count_less _ (fun x _ hx => ?_) ⟨i, List.mem_range.2 hiL, by rw [hun]; rfl, ?_⟩
          · by_cases e : i = x
            · subst e; simp [hiL] at hx
            · rw [getD_set_ne true e] at hx; exact hx
          · simp [hiL]
        have hput : ∀ t u, o.dst ≠ some t → a.tmps[t]? = some u → (a.put o.dst (.pointer (some ⟨w.heap.size, 0, none⟩))).tmps[t]? = some u := fun t u hne ht => by
          rw [hdst] at hne ⊢
          simp only [Act.put]
          rw [Array.getElem?_setIfInBounds_ne (fun e => hne (by rw [e]))]
          exact ht
        have hbes := step_beside hI.step.rel (.cells z.cells t)
        refine ih _ f ρ _ _ (by omega) ⟨⟨by rw [Array.size_setIfInBounds]; exact hI.closed.size, fun j x hj hlj e he hb => ?_⟩, hI.place, fun j x hj hx hne => ?_, fun h => by omega, hI.step.trans hbes, ?_, ?_, fun j x tt u zz hj hq0 hlj hd hu hA => ?_, fun tt u hn hA => ?_, fun _ _ o0 t0 d0 u0 ho0 hop0 hd0 hA0 => ?_⟩
        · rw [set_listed hI.closed ho] at hlj ⊢
          rcases hlj with rfl | hlj
          · rw [ho] at hj
            injection hj with hj
            subst hj
            exact .inr (hedge' e he hb)
          · exact .inr (hI.closed.closed j x hj hlj e he hb)
        · rw [set_listed hI.closed ho, ← hI.eff j x hj hx hne]
          exact ⟨fun h => h.resolve_left (fun e => hne (e.trans hii)), .inr⟩
        · rw [← hI.size, hdst]; simp [Act.put]
        · rw [← hI.defers, hdst]; rfl
        · have hji : j ≠ i := fun e => by have := hq0 (e.trans hii); omega
          rw [set_listed hI.closed ho] at hlj
          obtain ⟨h1, h2⟩ := hI.done j x tt u zz hj hq0 (hlj.resolve_left hji) hd hu hA
          exact ⟨hput tt _ (hc.once i j o x tt ho hj (Ne.symm hji) hd) h1, h2⟩
        · have hne : o.dst ≠ some tt := hn i o ho ((set_listed hI.closed ho i).2 (.inl rfl))
          obtain ⟨h1, h2⟩ := hI.todo tt u (fun j x hj hlj => hn j x hj ((set_listed hI.closed ho j).2 (.inr hlj))) hA
          exact ⟨hput tt _ hne h1, h2⟩
        · rw [← hii, ho] at ho0
          injection ho0 with ho0
          subst ho0
          rw [hop] at hop0
          injection hop0 with hop0
          subst hop0
          rw [hdst] at hd0
          injection hd0 with hd0
          subst hd0
          refine ⟨w.heap.size, z, hz, ?_, ?_, fun k hk => Nat.ne_of_lt (hI.step.rel.blk k hk).lt, hI.step.size⟩
          · rw [hdst]
            simp only [Act.put]
            have ht : d < a.tmps.size := by
              rw [hI.size]
              unfold Fr.get at hA0
              split at hA0
              · rename_i hb; exact Nat.le_of_ble_eq_true hb
              · cases hA0
            simp [ht]
          · unfold World.alloc; simp
     · have hfi : f ≤ i := by
         rcases Nat.lt_or_ge i f with h | h
         · exact absurd ((hI.eff i o ho heo hii).2 h) hnl
         · exact h
       have hsame : (stAt tr Af σf i).2 = (stAt tr Af σf f).2 := st_same hgs f i hfi (by omega) (fun j x h1 h2 hj => by
         cases hx : effect x.op with
         | false => rfl
         | true =>
           have hb := hc.chain i j o x ho hj h2 hii heo hx
           by_cases hj0 : j = i0
           · have := hF heo hii (by omega); omega
           · have := (hI.eff j x hj hx hj0).1 (anc_listed hc hI.closed i j o ho (.inr hedge') hb).1
             omega)
       refine go (i + 1) _ hii (fun h1 h2 => ?_) (fun h => hF heo hii (by omega)) (fun h => by omega) rfl ?_ (fun j x hj hx hj0 => ?_) (by rw [← hsame]; exact hv2)
       · have ho0 : all[i0]? = some all[i0] := List.getElem?_eq_getElem h2
         obtain ⟨t, d, hop, _⟩ := hc.float _ ho0
         exact (set_listed hI.closed ho i0).2 (.inr (anc_listed hc hI.closed i i0 o ho (.inr hedge') (hc.chain i i0 o _ ho ho0 (by omega) hii heo (by rw [hop]; rfl))).1)
       · unfold places
         refine List.mem_cons_of_mem _ (List.mem_filterMap.2 ⟨(o, i), ?_, by simp [heo]⟩)
         rw [List.mem_iff_getElem?]
         exact ⟨i, by simp [ho]⟩
       · rw [set_listed hI.closed ho]
         constructor
         · rintro (rfl | h)
           · omega
           · have := (hI.eff j x hj hx hj0).1 h; omega
         · intro h
           by_cases e : j = i
           · exact .inl e
           · exact .inr (anc_listed hc hI.closed i j o ho (.inr hedge') (hc.chain i j o x ho hj (by omega) hii heo hx)).1
    | false =>
      have hmay : mayBe all (ancL [] all) i0 i f = true := by
        unfold mayBe
        rw [List.all_eq_true]
        rintro ⟨x, j⟩ hxj
        rw [List.mem_iff_getElem?] at hxj
        obtain ⟨k, hk⟩ := hxj
        have hj : all[j]? = some x := by
          simp only [List.getElem?_zipIdx, Option.map_eq_some_iff, Prod.mk.injEq] at hk
          obtain ⟨y, hy, rfl, rfl⟩ := hk
          simpa using hy
        simp only [Bool.or_eq_true, Bool.not_eq_true', Bool.and_eq_true, decide_eq_true_eq, beq_iff_eq]
        cases hx : effect x.op with
        | false => exact .inl (.inl rfl)
        | true =>
          by_cases hj0 : j = i0
          · exact .inl (.inr hj0)
          refine .inr ⟨?_, ?_⟩
          · cases hb : bitB (getN 0 (ancL [] all) i) j with
            | false => exact .inl rfl
            | true => exact .inr ((hI.eff j x hj hx hj0).1 (anc_listed hc hI.closed i j o ho (.inr hedge') hb).1)
          · cases hb : bitB (getN 0 (ancL [] all) j) i with
            | false => exact .inl rfl
            | true =>
              right
              rcases Nat.lt_or_ge j f with h | h
              · exact absurd (anc_listed hc hI.closed j i x hj (.inl ((hI.eff j x hj hx hj0).2 h)) hb).1 hnl
              · exact h
      unfold calm at hcalm
      rw [hi0] at hcalm
      have hz : (all.zip tr)[i]? = some (o, ((stAt tr Af σf i).1, (stAt tr Af σf i).2, v)) := by
        rw [List.getElem?_zip_eq_some]
        exact ⟨ho, hv1⟩
      have hci := all_zip hcalm hz
      simp only [heo, Bool.false_or, List.all_eq_true] at hci
      have hcf := hci f hI.place
      rw [hmay] at hcf
      simp only [Bool.not_true, Bool.false_or] at hcf
      have est : stOf tr σf f = (stAt tr Af σf f).2 := by
        unfold stAt stOf
        cases tr[f]? with
        | none => rfl
        | some p => rfl
      rw [est] at hcf
      cases hgf : guardA call P all (stAt tr Af σf i).1 (stAt tr Af σf f).2 o with
      | none => rw [hgf] at hcf; cases hcf
      | some p =>
        obtain ⟨u, σu⟩ := p
        rw [hgf] at hcf
        have hu := veq_eq hcf
        subst hu
        have hσ := guard_same heo hgf
        subst hσ
        have hne0 : i ≠ i0 := fun e => by
          obtain ⟨t, d, hop, _⟩ := hc.float o (e ▸ ho)
          rw [hop] at heo
          cases heo
        refine go f _ hne0 (fun h1 h2 => (set_listed hI.closed ho i0).2 (.inr (hI.fl h1 h2))) id id rfl hI.place (fun j x hj hx hj0 => ?_) hgf
        rw [set_listed hI.closed ho, hI.eff j x hj hx hj0]
        constructor
        · rintro (rfl | h)
          · rw [ho] at hj
            injection hj with hj
            subst hj
            rw [heo] at hx
            cases hx
          · exact h
        · exact .inr
end

end Go.Proofs.YtiakmddejckkbaaGreat
