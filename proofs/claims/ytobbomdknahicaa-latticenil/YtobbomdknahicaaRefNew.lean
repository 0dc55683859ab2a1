/- Contract of the document's New. -/
import Derived.Test.YtobbomdknahicaaRefFind
import Derived.Test.YtobbomdknahicaaRefBot
import Derived.Test.YtobbomdknahicaaRefMeet
import Derived.Test.YtobbomdknahicaaNewSpec
namespace Go.Proofs.Ytobbomdknahicaa
open Go.RowKit Go.Sort

theorem info_string : (Try.prog.info? 9).map (fun i => (i.zero, i.size, i.bytes)) = some (some (.string ⟨#[]⟩), 1, 16) := by kernel_rfl
theorem info_bool : (Try.prog.info? 4).map (fun i => (i.zero, i.size, i.bytes)) = some (some (.bool false), 1, 1) := by kernel_rfl
theorem info_bools : (Try.prog.info? 67).map (fun i => (i.zero, i.size, i.bytes)) = some (some (.slice none 0 0), 1, 24) := by kernel_rfl
theorem one_strings (L : List ByteArray) : ∀ y ∈ L.map Value.string, y.oneCell' = true := by
  intro y hy
  simp only [List.mem_map] at hy
  obtain ⟨s, _, rfl⟩ := hy
  rfl
theorem one_row (E : List (Nat × Nat)) (a k n : Nat) : ∀ y ∈ rowAt E a k n, y.oneCell' = true := by
  intro y hy
  simp only [rowAt, List.mem_map] at hy
  obtain ⟨s, _, rfl⟩ := hy
  rfl

theorem tab_at {w : World} {base n : Nat} {X : List (Nat × Nat)} {rows : List Value} (h : ∀ a (ha : a < rows.length), Own1 w base 4 rows[a] (rowAt X a n n)) {a b : Nat} (ha : a < rows.length) (hb : b < n) :
    ∃ rg rc, rows[a] = .slice (some ⟨rg, 0, none⟩) n rc ∧ w.cell? ⟨rg, b, none⟩ = some (.bool (reach X a n b)) := by
  have h1 := h a ha
  obtain ⟨ra, rc, hv⟩ := h1.shapeN (rowAt_length ..)
  rw [hv] at h1
  obtain ⟨rg, rfl, _, hc, _⟩ := h1.cell (i := b) (by rw [rowAt_length]; exact hb)
  rw [rowAt_at] at hc
  exact ⟨rg, rc, hv, hc⟩

set_option maxRecDepth 100000 in
set_option maxHeartbeats 8000000 in
theorem refNew_any (w : World) (v u : Value) (L : List ByteArray) (E : List (ByteArray × ByteArray)) (hL : LiesS w v L) (hE : LiesP w u E) (hl : L.length ≤ 1000) (hel : E.length ≤ 1000) :
    Calls Try.prog 12 #[v, u] w fun e w' => ∃ p, e = .returned (.tuple #[p, .int .i64 (latErr L E)]) ∧ Below w.heap.size w w' ∧
      (latErr L E = 0 → RLat w' p L L.length fun a b => reach (ixE L E) a L.length b) ∧ (latErr L E ≠ 0 → p = .pointer none) := by
  have hL0 := hL
  obtain ⟨ao, cap, rfl, hn0, hc⟩ := hL
  obtain ⟨bo, cbp, rfl, hn1, hd⟩ := hE
  by_cases h16 : 16 < L.length
  · have HX : Hid (latErr L E = 8) := latErr_many (.inl h16)
    clear hc hd
    go_enter Try.func12, Try.ntmps12
    go_wp2_with fail
    go_ret2
    rw [HX.out]
    exact ⟨_, rfl, Below.refl _ _, fun h => absurd h (by decide), fun _ => rfl⟩
  by_cases h64 : 64 < E.length
  · have HX : Hid (latErr L E = 8) := latErr_many (.inr h64)
    clear hc hd
    go_enter Try.func12, Try.ntmps12
    go_wp2_with fail
    go_ret2
    rw [HX.out]
    exact ⟨_, rfl, Below.refl _ _, fun h => absurd h (by decide), fun _ => rfl⟩
  go_enter Try.func12, Try.ntmps12
  go_wp2_with fail
  go_loopw [6] (fun i wr => ∃ k : Nat, k ≤ L.length ∧ i = .int .i64 k ∧ Below w.heap.size w wr ∧ ∀ c, c < k → nameOk L c = true) (fun i _ => L.length - (intOf i).toNat)
  case atStart => exact ⟨0, Nat.zero_le _, rfl, Below.refl _ _, fun c hc => absurd hc (by omega)⟩
  case round =>
    obtain ⟨k, hkl, rfl, hbel, hno⟩ := hrel
    have HN : Hid (∀ c, c < k → nameOk L c = true) := hno
    clear hno
    by_cases hk : k < L.length
    · obtain ⟨b, off, rfl, g1⟩ := lieS_at hc hbel hk
      have hlk := (hL0.keep hbel).take (cap' := cap) (Nat.le_of_lt hk) (by have := hn0.2; omega)
      have i0 : (0 : Int) ≤ (k : Int) := by omega
      have i1 : (k : Int) < (L.length : Int) := by omega
      have i2 : (k : Int) ≤ (cap : Int) := by have := hn0.2; omega
      have c1 := cell_regrown g1
      have HK : Hid (nameOk L k = (!L[k].toList.isEmpty && decide (L[k].size ≤ 30) && !hasB (L.take k) L[k])) := nameOk_at hk
      have HF : Hid (nameOk L k = false → latErr L E = 11) := fun h => latErr_names (by omega) (by omega) (.inl (namesOk_false hk h))
      have hf := findI_neg (L := L.take k) (s := L[k])
      clear hc hd
      have quit : ∀ (wx : World), Below w.heap.size w wx → nameOk L k = false → ∃ p, Ending.returned (.tuple #[.pointer none, .int .i64 11]) = .returned (.tuple #[p, .int .i64 (latErr L E)]) ∧ Below w.heap.size w wx ∧
          (latErr L E = 0 → RLat wx p L L.length fun a b => reach (ixE L E) a L.length b) ∧ (latErr L E ≠ 0 → p = .pointer none) := fun wx hb h => by
        rw [HF.out h]
        exact ⟨_, rfl, hb, fun h => absurd h (by decide), fun _ => rfl⟩
      cases he : L[k].toList.isEmpty
      · by_cases h30 : 30 < L[k].size
        · have HX : Hid (nameOk L k = false) := by show nameOk L k = false; rw [HK.out]; simp; omega
          have h30' : decide ((30 : Int) < (L[k].size : Int)) = true := by simp; omega
          go_wp2_with fail
          refine wp_region_quiet_below (by kernel_rfl) (by kernel_rfl) ?_
          repeat (first | go_big_quiet_step (fail) | quiet_step (fail))
          refine wpQuiet_nil ?_
          rintro _ ⟨⟨dq, osq⟩, rfl⟩
          have hb := below_regrown wr dq osq
          go_wp2_with fail
          go_ret2
          exact quit _ (btrans hbel hb) HX.out
        · have h30' : L[k].size ≤ 30 := by omega
          have hfc : ∀ d os, Calls Try.prog 14 #[.slice (some ⟨b, off, none⟩) k cap, .string L[k]] (grow (redrawn wr d) os) fun e w' => e = .returned (.int .i64 (findI (L.take k) L[k])) ∧ Below (grow (redrawn wr d) os).heap.size (grow (redrawn wr d) os) w' :=
            fun d os => refFind_any _ _ (L.take k) L[k] (hlk.keep (below_regrown wr d os)) (by simp; omega)
          cases hh : hasB (L.take k) L[k]
          · have HX : Hid (nameOk L k = true) := by show nameOk L k = true; rw [HK.out, he, hh]; simpa using h30'
            rw [show findI (L.take k) L[k] = -1 by unfold findI; rw [hh]; rfl] at hfc
            clear hf HK hlk h30'
            have h30' : decide ((30 : Int) < (L[k].size : Int)) = false := by simp; omega
            go_wp2_with fail
            refine wp_region_quiet_below (by kernel_rfl) (by kernel_rfl) ?_
            repeat (first | go_big_quiet_step (exact Calls.regrown_of (hfc _ _)) | quiet_step (exact Calls.regrown_of (hfc _ _)))
            refine wpQuiet_nil ?_
            rintro _ ⟨⟨dq, osq⟩, rfl⟩
            have hb := below_regrown wr dq osq
            go_wp2_with fail
            go_roundw
            case rel => exact ⟨k + 1, by omega, by go_num, btrans hbel hb, fun c hc => by
              by_cases e : c < k
              · exact HN.out c e
              · have : c = k := by omega
                subst this; exact HX.out⟩
            case measure => simp [intOf]; omega
          · have HX : Hid (nameOk L k = false) := by show nameOk L k = false; rw [HK.out, hh]; simp
            obtain ⟨z, hz, hz0⟩ : ∃ z, findI (L.take k) L[k] = z ∧ 0 ≤ z := ⟨_, rfl, by rw [(findI_pos hh).1]; omega⟩
            rw [hz] at hfc
            clear hf HK hlk h30' hz
            have h30' : decide ((30 : Int) < (L[k].size : Int)) = false := by simp; omega
            have hz1 : decide ((0 : Int) ≤ z) = true := by simpa using hz0
            go_wp2_with fail
            refine wp_region_quiet_below (by kernel_rfl) (by kernel_rfl) ?_
            repeat (first | go_big_quiet_step (exact Calls.regrown_of (hfc _ _)) | quiet_step (exact Calls.regrown_of (hfc _ _)))
            refine wpQuiet_nil ?_
            rintro _ ⟨⟨dq, osq⟩, rfl⟩
            have hb := below_regrown wr dq osq
            go_wp2_with fail
            go_ret2
            exact quit _ (btrans hbel hb) HX.out
      · have HX : Hid (nameOk L k = false) := by show nameOk L k = false; rw [HK.out, he]; rfl
        go_wp2_with fail
        refine wp_region_quiet_below (by kernel_rfl) (by kernel_rfl) ?_
        repeat (first | go_big_quiet_step (fail) | quiet_step (fail))
        refine wpQuiet_nil ?_
        rintro _ ⟨⟨dq, osq⟩, rfl⟩
        have hb := below_regrown wr dq osq
        go_wp2_with fail
        go_ret2
        exact quit _ (btrans hbel hb) HX.out
    · have hkn : k = L.length := by omega
      subst hkn
      have HM : Hid (namesOk L = true) := namesOk_true HN.out
      clear HN
      go_wp2_with fail
      go_loopw [7] (fun i wx => ∃ k : Nat, k ≤ E.length ∧ i = .int .i64 k ∧ Below w.heap.size w wx ∧ ∀ c (hc : c < E.length), c < k → (hasB L E[c].1 && hasB L E[c].2) = true) (fun i _ => E.length - (intOf i).toNat)
      case atStart => exact ⟨0, Nat.zero_le _, rfl, hbel, fun c _ hc => absurd hc (by omega)⟩
      case round =>
        obtain ⟨k, hkl, rfl, hbel, hno⟩ := hrel
        have HN : Hid (∀ c (hc : c < E.length), c < k → (hasB L E[c].1 && hasB L E[c].2) = true) := hno
        clear hno
        by_cases hk : k < E.length
        · obtain ⟨b, off, rfl, g1, g2⟩ := lieP_at hd hbel hk
          have i0 : (0 : Int) ≤ (k : Int) := by omega
          have i1 : (k : Int) < (E.length : Int) := by omega
          have HF : Hid ((hasB L E[k].1 && hasB L E[k].2) = false → latErr L E = 11) := fun h => latErr_names (by omega) (by omega) (.inr (edgesOk_false hk h))
          have HG : Hid ((hasB L E[k].1 && hasB L E[k].2) = true → ∀ c (hc : c < E.length), c < k + 1 → (hasB L E[c].1 && hasB L E[c].2) = true) := fun h c hc hck => by
            by_cases e : c < k
            · exact HN.out c hc e
            · have : c = k := by omega
              subst this; exact h
          have f1 := fun (wx : World) (g : Below w.heap.size w wx) => refFind_any wx _ L E[k].1 (hL0.keep g) hl
          have f2 := fun (wx : World) (g : Below w.heap.size w wx) => refFind_any wx _ L E[k].2 (hL0.keep g) hl
          clear hc hd HN
          generalize E[k] = ed at g1 g2 HF HG f1 f2
          obtain ⟨lo, hi⟩ := ed
          simp only at g1 g2 HF HG f1 f2
          cases h1 : hasB L lo
          · have HX : Hid (latErr L E = 11) := HF.out (by rw [h1]; rfl)
            rw [show findI L lo = -1 by unfold findI; rw [h1]; rfl] at f1
            go_wp2_with fail
            refine (f1 _ hbel).mono ?_
            rintro e w1 ⟨rfl, b1⟩
            go_wp2_with fail
            go_ret2
            rw [HX.out]
            exact ⟨_, rfl, btrans hbel b1, fun h => absurd h (by decide), fun _ => rfl⟩
          · obtain ⟨z, hz, hz0⟩ : ∃ z, findI L lo = z ∧ 0 ≤ z := ⟨_, rfl, by rw [(findI_pos h1).1]; omega⟩
            rw [hz] at f1
            cases h2 : hasB L hi
            · have HX : Hid (latErr L E = 11) := HF.out (by rw [h2]; simp)
              rw [show findI L hi = -1 by unfold findI; rw [h2]; rfl] at f2
              clear hz
              go_wp2_with fail
              refine (f1 _ hbel).mono ?_
              rintro e w1 ⟨rfl, b1⟩
              replace g2 := cell_keep g2 b1
              replace b1 := btrans hbel b1
              go_wp2_with fail
              refine (f2 _ b1).mono ?_
              rintro e w2 ⟨rfl, b2⟩
              go_wp2_with fail
              go_ret2
              rw [HX.out]
              exact ⟨_, rfl, btrans b1 b2, fun h => absurd h (by decide), fun _ => rfl⟩
            · obtain ⟨y, hy, hy0⟩ : ∃ y, findI L hi = y ∧ 0 ≤ y := ⟨_, rfl, by rw [(findI_pos h2).1]; omega⟩
              rw [hy] at f2
              have HX : Hid (∀ c (hc : c < E.length), c < k + 1 → (hasB L E[c].1 && hasB L E[c].2) = true) := HG.out (by rw [h1, h2]; rfl)
              clear hz hy
              go_wp2_with fail
              refine (f1 _ hbel).mono ?_
              rintro e w1 ⟨rfl, b1⟩
              replace g2 := cell_keep g2 b1
              go_wp2_with fail
              refine (f2 _ (btrans hbel b1)).mono ?_
              rintro e w2 ⟨rfl, b2⟩
              go_wp2_with fail
              go_roundw
              case rel => exact ⟨k + 1, by omega, by go_num, btrans (btrans hbel b1) b2, HX.out⟩
              case measure => simp [intOf]; omega
        · have hke : k = E.length := by omega
          subst hke
          have HE : Hid (edgesOk L E = true) := edgesOk_true fun c hc => HN.out c hc hc
          clear HN
          have hszb := hbel.size
          have hsrc := (hL0.keep hbel).cells
          go_wp2_with (at_builtin; refine wpList_cat1 info_string Try.underlying22 rfl (by decide) (.tmp 81) (.tmp 82) rfl rfl rfl rfl (Own1.lit _ (base := w.heap.size) [] rfl hszb rfl (by simp)) (hsrc.keep ((Below.refl _ _).alloc (Nat.le_refl _) _)) (one_strings L) (by simp; omega) (by simp; omega) ?_; intro v3 w3 hr3 hbe3 hgx; clear hgx; obtain ⟨oa3, oc3, rfl⟩ := hr3.shape)
          replace hr3 : Own1 w3 w.heap.size 9 (.slice oa3 L.length oc3) (L.map .string) := by simpa using hr3
          have hbe3' : Below w.heap.size w w3 := hbel.trans (((Below.refl _ _).alloc hszb _).trans hbe3)
          have hsz3 := hbe3'.size
          have hxlt := ixE_lt HE.out
          have hxlen : (ixE L E).length = E.length := by simp [ixE]
          have HXE : Hid (∀ j (h : j < E.length) (h' : j < (ixE L E).length), (ixE L E)[j] = (posN L E[j].1, posN L E[j].2)) := fun j h h' => by simp [ixE]
          have HFA : Hid (∀ j (h : j < E.length), hasB L E[j].1 = true ∧ hasB L E[j].2 = true) := fun j h => edges_at HE.out h
          obtain ⟨X, HXX⟩ : ∃ X, Hid (X = ixE L E) := ⟨_, rfl⟩
          rw [← HXX.out] at hxlt hxlen HXE
          clear hbe3 hsrc
          go_loopw [10] (fun i wx => ∃ k bs rows, k ≤ L.length ∧ i = .int .i64 (k : Nat) ∧ Below w.heap.size w wx ∧ wx.heap[w3.heap.size]? = some (.cells #[.slice oa3 L.length oc3, bs] 66 (0, 0)) ∧
            Own1 wx w.heap.size 9 (.slice oa3 L.length oc3) (L.map .string) ∧ Own1 wx w.heap.size 67 bs rows ∧ rows.length = k ∧ ∀ a (ha : a < rows.length), Own1 wx w.heap.size 4 rows[a] (rowAt X a L.length L.length)) (fun i _ => L.length - (intOf i).toNat)
          case atStart => exact ⟨0, .slice none 0 0, [], Nat.zero_le _, rfl, hbe3'.trans ((Below.refl _ _).alloc hsz3 _), heap_alloc_new w3 _, hr3.alloc _, Own1.nil _ _ _, rfl, fun a ha => absurd ha (by simp)⟩
          case round =>
            obtain ⟨wx, rfl⟩ : ∃ x, x = wr := ⟨_, rfl⟩
            obtain ⟨k, bs, rows, hkl, rfl, hbx, hq, hns, hbs, hrk, hrows⟩ := hrel
            have hszx := hbx.size
            by_cases hk : k < L.length
            · clear hbel hc
              have j0 : (0 : Int) ≤ (k : Int) := by omega
              have j1 : (k : Int) < (L.length : Int) := by omega
              go_wp2_with (at_make; refine wpList_make1 info_bool Try.underlying67 rfl (by decide) (.tmp 91) (.tmp 91) rfl rfl .i64 .i64 L.length rfl rfl (by omega) (Nat.le_refl _) ?_; intro w4 ho4 hb4; have ho4c := ho4.cellAt (i := k) (by simp; omega); have ho4d := ho4c.1; have ho4e := ho4c.2; simp only [List.getElem_replicate] at ho4d)
              go_loopw [11, 12] (fun row i wy => ∃ m : Nat, m ≤ L.length ∧ i = .int .i64 m ∧ Own1 wy wx.heap.size 4 row (rowAt X k m L.length) ∧ Below wx.heap.size wx wy) (fun _ i _ => L.length - (intOf i).toNat)
              case atStart =>
                refine ⟨0, Nat.zero_le _, rfl, ?_, hb4.setCell (p := ⟨wx.heap.size, k, none⟩) (Nat.le_refl _) _⟩
                have := Own1.stored (xs := List.replicate L.length (Value.bool false)) (by simpa using ho4) k (.bool true)
                rw [row_start (E := X)] at this
                simpa using this
              case round =>
                clear ho4 ho4c ho4d ho4e hb4
                obtain ⟨wy, rfl⟩ : ∃ x, x = wr := ⟨_, rfl⟩
                obtain ⟨m, hml, rfl, hor, hby⟩ := hrel
                have hszy := hby.size
                obtain ⟨ra, rc, rfl⟩ := hor.shapeN (rowAt_length ..)
                obtain ⟨rg, rfl, hrg⟩ := hor.cell (i := 0) (by rw [rowAt_length]; omega)
                clear hrg
                by_cases hm : m < L.length
                · have hor' := hor.keep ((Below.refl wy.heap.size wy).alloc (Nat.le_refl _) (.cells #[] 4))
                  go_wp2_with (at_builtin; refine wpList_cat1 info_bool Try.underlying67 rfl (by decide) (.tmp 101) (.tmp 102) rfl rfl rfl rfl (Own1.lit _ (base := wy.heap.size) [] rfl (Nat.le_refl _) rfl (by simp)) hor'.lies (one_row _ _ _ _) (by simp) (by simp [rowAt_length]; omega) ?_; intro v5 w5 ho5 hb5 hgx; clear hgx; obtain ⟨na, nc, rfl⟩ := ho5.shapeN (rowAt_length ..); obtain ⟨ng, rfl, hng, hgx⟩ := ho5.cell (i := 0) (by show 0 < (rowAt X k m L.length).length; rw [rowAt_length]; omega); clear hgx)
                  replace ho5 : Own1 w5 wy.heap.size 4 (.slice (some ⟨ng, 0, none⟩) L.length nc) (rowP X k m 0 L.length) := by rw [rowP_zero]; exact ho5
                  have hb5' : Below wy.heap.size wy w5 := ((Below.refl _ _).alloc (Nat.le_refl _) _).trans hb5
                  clear hb5 hor'
                  go_loopw [14] (fun i wz => ∃ j : Nat, j ≤ E.length ∧ i = .int .i64 j ∧ Own1 wz wy.heap.size 4 (.slice (some ⟨ng, 0, none⟩) L.length nc) (rowP X k m j L.length) ∧ Below wy.heap.size wy wz) (fun i _ => E.length - (intOf i).toNat)
                  case atStart => exact ⟨0, Nat.zero_le _, rfl, ho5, hb5'⟩
                  case round =>
                    clear ho5 hb5'
                    obtain ⟨wz, rfl⟩ : ∃ x, x = wr := ⟨_, rfl⟩
                    obtain ⟨j, hjl, rfl, hoz, hbz⟩ := hrel
                    have hbwz : Below w.heap.size w wz := hbx.trans ((hby.trans (hbz.mono hszy)).mono hszx)
                    by_cases hj : j < E.length
                    · obtain ⟨eb, eoff, rfl, g1, g2⟩ := lieP_at hd hbwz hj
                      have hjx : j < X.length := by omega
                      have HS : Hid (rowP X k m (j + 1) L.length = if reach X k m X[j].1 = true then (rowP X k m j L.length).set X[j].2 (.bool true) else rowP X k m j L.length) := rowP_succ hjx
                      obtain ⟨hx, hy⟩ := hxlt X[j] (List.getElem_mem hjx)
                      obtain ⟨a1, a2⟩ := HFA.out j hj
                      have hxe := HXE.out j hj hjx
                      have f1 := fun (wq : World) (g : Below w.heap.size w wq) => refFind_any wq _ L E[j].1 (hL0.keep g) hl
                      have f2 := fun (wq : World) (g : Below w.heap.size w wq) => refFind_any wq _ L E[j].2 (hL0.keep g) hl
                      rw [(findI_pos a1).1] at f1
                      rw [(findI_pos a2).1] at f2
                      rw [hxe] at HS hx hy
                      generalize posN L E[j].1 = x at f1 HS hx hxe
                      generalize posN L E[j].2 = y at f2 HS hy hxe
                      generalize E[j] = ed at g1 g2 f1 f2
                      obtain ⟨lo, hi⟩ := ed
                      simp only at g1 g2 f1 f2 HS hx hy
                      clear hxe a1 a2
                      have rcell := ((hor.keep hbz).cellAt (i := x) (by rw [rowAt_length]; exact hx)).1
                      rw [rowAt_at] at rcell
                      obtain ⟨ncell, nfro⟩ := hoz.cellAt (i := y) (by rw [rowP_length]; exact hy)
                      have j2 : (0 : Int) ≤ (j : Int) := by omega
                      have j3 : (j : Int) < (E.length : Int) := by omega
                      have j4 : (0 : Int) ≤ (x : Int) := by omega
                      have j5 : (x : Int) < (L.length : Int) := by omega
                      have j6 : (0 : Int) ≤ (y : Int) := by omega
                      have j7 : (y : Int) < (L.length : Int) := by omega
                      generalize (rowP X k m j L.length)[y]'(by rw [rowP_length]; exact hy) = nold at ncell
                      clear hq hns hbs hrows hrk hr3 hbe3' hsz3 hxlt hxlen HXE HFA hd hn0 hn1 hL0
                      cases hre : reach X k m x
                      · rw [hre] at rcell
                        have HT : Hid (rowP X k m (j + 1) L.length = rowP X k m j L.length) := by show rowP _ _ _ _ _ = _; rw [HS.out, hre]; simp
                        clear HS
                        go_wp2_with fail
                        refine (f1 _ hbwz).mono ?_
                        rintro e w7 ⟨rfl, b7⟩
                        replace rcell := cell_keep rcell b7
                        go_wp2_with fail
                        go_roundw
                        case rel => exact ⟨j + 1, by omega, by go_num, by rw [HT.out]; exact hoz.keep b7, hbz.trans (b7.mono hbz.size)⟩
                        case measure => simp [intOf]; omega
                      · rw [hre] at rcell
                        have HT : Hid (rowP X k m (j + 1) L.length = (rowP X k m j L.length).set y (.bool true)) := by show rowP _ _ _ _ _ = _; rw [HS.out, hre]; simp
                        clear HS
                        go_wp2_with fail
                        refine (f1 _ hbwz).mono ?_
                        rintro e w7 ⟨rfl, b7⟩
                        replace rcell := cell_keep rcell b7
                        replace g2 := cell_keep g2 b7
                        have hbw7 := btrans hbwz b7
                        go_wp2_with fail
                        refine (f2 _ hbw7).mono ?_
                        rintro e w8 ⟨rfl, b8⟩
                        have b78 := btrans b7 b8
                        have hoz8 := hoz.keep b78
                        have nfro8 : w8.frozen? ⟨ng, y, none⟩ = false := (b78.frozen (p := ⟨ng, y, none⟩) (block_lt_of_cell ncell)).trans nfro
                        replace ncell := cell_keep ncell b78
                        go_wp2_with fail
                        go_roundw
                        case rel =>
                          refine ⟨j + 1, by omega, by go_num, ?_, (hbz.trans (b78.mono hbz.size)).setCell (p := ⟨ng, y, none⟩) hng _⟩
                          rw [HT.out]
                          have := Own1.stored (xs := rowP X k m j L.length) (by rw [rowP_length]; exact hoz8) y (.bool true)
                          rw [rowP_length] at this
                          exact this
                        case measure => simp [intOf]; omega
                    · have hje : j = E.length := by omega
                      subst hje
                      have hoz' : Own1 wz wx.heap.size 4 (.slice (some ⟨ng, 0, none⟩) L.length nc) (rowAt X k (m + 1) L.length) := by rw [← rowP_all, hxlen]; exact hoz.mono hszy
                      go_wp2_with fail
                      go_roundw
                      case rel => exact ⟨m + 1, by omega, by go_num, hoz', hby.trans (hbz.mono hszy)⟩
                      case measure => simp [intOf]; omega
                · have hmn : m = L.length := by omega
                  subst hmn
                  obtain ⟨ba, bc, rfl⟩ := hbs.shapeN hrk
                  have hql : w3.heap.size < wx.heap.size := (Array.getElem?_eq_some_iff.1 hq).1
                  have hqy : wy.heap[w3.heap.size]? = some (.cells #[.slice oa3 L.length oc3, .slice ba k bc] 66 (0, 0)) := (hby.block _ hql).trans hq
                  have hbs' := hbs.keep hby
                  have cb : wy.cell? ⟨w3.heap.size, 1, none⟩ = some (.slice ba k bc) := by rw [cell_of_row _ _ _ _ _ _ hqy]; rfl
                  clear hd HXE HFA hxlt hxlen hr3
                  go_wp2_with (at_builtin; refine wpList_push1 info_bools Try.underlying64 rfl (by decide) (.tmp 134) (.tmp 136) rfl rfl rfl (ys := [.slice (some ⟨rg, 0, none⟩) L.length rc]) rfl rfl rfl hbs' (by intro y hy; simp at hy; subst hy; rfl) (by omega) (by simp; omega) ?_; intro v9 w9 ho9 hb9 hg9; obtain ⟨va, vc, rfl⟩ := ho9.shapeN (n := k + 1) (by simp [hrk]); have hq9 := heap_grown hqy hbs' (by decide) hg9; have cb9 : w9.cell? ⟨w3.heap.size, 1, none⟩ = some (.slice ba k bc) := (by rw [cell_of_row _ _ _ _ _ _ hq9]; rfl); have cf9 := frozen_of_row w9 w3.heap.size 1 _ _ hq9)
                  go_roundw
                  case rel =>
                    have hg9' := hg9
                    have keep9 : ∀ {b' : Nat} {e : TypeId} {v : Value} {xs : List Value}, e ≠ 67 → e ≠ 66 → Own1 wy b' e v xs → ∀ x, Own1 (w9.setCell ⟨w3.heap.size, 1, none⟩ x) b' e v xs := fun h1 h2 h x => (h.grown hbs' h1 hg9).setOther hq9 h2
                    refine ⟨k + 1, _, rows ++ [.slice (some ⟨rg, 0, none⟩) L.length rc], by omega, by go_num, ((hbx.trans (hby.mono hszx)).trans hb9).setCell (p := ⟨w3.heap.size, 1, none⟩) hsz3 _, heap_setCell_same w9 w3.heap.size 1 _ _ _ hq9, keep9 (by decide) (by decide) (hns.keep hby) _, ho9.setOther hq9 (by decide), by simp [hrk], fun a ha => ?_⟩
                    by_cases hak : a < rows.length
                    · rw [List.getElem_append_left hak]
                      exact keep9 (by decide) (by decide) ((hrows a hak).keep hby) _
                    · have hak' : a = k := by simp at ha; omega
                      subst hak'
                      have : (rows ++ [Value.slice (some ⟨rg, 0, none⟩) L.length rc])[a] = .slice (some ⟨rg, 0, none⟩) L.length rc := by rw [List.getElem_append_right (by omega)]; simp
                      rw [this]
                      exact keep9 (by decide) (by decide) (hor.mono hszx) _
                  case measure => simp [intOf]; omega
            · have hkn : k = L.length := by omega
              have hrn : rows.length = L.length := by omega
              by_cases h0 : L.length = 0
              · have HX : Hid (latErr L E = 12) := by show latErr L E = 12; rw [latErr_rest (by omega) (by omega) HM.out HE.out, if_pos h0]
                clear hd HXE HFA hxlt hxlen hr3 hc hns hbs hrows hq
                go_wp2_with fail
                go_ret2
                rw [HX.out]
                exact ⟨_, rfl, hbx, fun h => absurd h (by decide), fun _ => rfl⟩
              · have hlat : RLat wx (.pointer (some ⟨w3.heap.size, 0, none⟩)) L L.length (fun a b => reach X a L.length b) :=
                  ⟨w3.heap.size, .slice oa3 L.length oc3, bs, rows, rfl, by rw [cell_of_row _ _ _ _ _ _ hq]; rfl, by rw [cell_of_row _ _ _ _ _ _ hq]; rfl, hns.lies.strings, hbs.lies, hrn, fun a ha => (hrows a ha).lies⟩
                have HOK : Hid (latErr L E = if latOk (leR L.length fun a b => reach X a L.length b) L.length = true then 0 else 12) := by
                  show latErr L E = _
                  rw [latErr_rest (by omega) (by omega) HM.out HE.out, if_neg h0, HXX.out]
                  rfl
                have HLAT : Hid (∀ wq, Below wx.heap.size wx wq → RLat wq (.pointer (some ⟨w3.heap.size, 0, none⟩)) L L.length fun a b => reach (ixE L E) a L.length b) := fun wq g => by
                  rw [← HXX.out]; exact hlat.keep g
                obtain ⟨ba, bc, rfl⟩ := hbs.shapeN hrn
                obtain ⟨bg, rfl, hbg⟩ := hbs.cell (i := 0) (by omega)
                clear hbg
                have cb : wx.cell? ⟨w3.heap.size, 1, none⟩ = some (.slice (some ⟨bg, 0, none⟩) L.length bc) := by rw [cell_of_row _ _ _ _ _ _ hq]; rfl
                have cr : ∀ a (ha : a < rows.length), wx.cell? ⟨bg, a, none⟩ = some rows[a] := fun a ha => (hbs.cellAt ha).1
                have hquit : ∀ (a b : Nat), a < L.length → b < L.length → ∀ wq, Below wx.heap.size wx wq → pairOk (leR L.length fun a b => reach X a L.length b) L.length (a : Int) (b : Int) = false → ∃ p, Ending.returned (.tuple #[.pointer none, .int .i64 12]) = .returned (.tuple #[p, .int .i64 (latErr L E)]) ∧ Below w.heap.size w wq ∧
                    (latErr L E = 0 → RLat wq p L L.length fun a b => reach (ixE L E) a L.length b) ∧ (latErr L E ≠ 0 → p = .pointer none) := fun a b ha hb wq g h => by
                  rw [HOK.out, latOk_false ha hb h]
                  exact ⟨_, rfl, hbx.trans (g.mono hszx), fun h => absurd h (by decide), fun _ => rfl⟩
                have hle : ∀ (a b : Nat), a < L.length → b < L.length → leR L.length (fun a b => reach X a L.length b) (a : Int) (b : Int) = reach X a L.length b := fun a b ha hb => by simp [leR, isI_cast, ha, hb]
                clear hd HXE HFA hxlt hxlen hr3 hc hns hbs hq HXX HM HE
                subst hkn
                have hnb : ((L.length : Int) == 0) = false := beq_eq_false_iff_ne.2 (by omega)
                go_wp2_with fail
                go_loopw [15] (fun i wy => ∃ a : Nat, a ≤ L.length ∧ i = .int .i64 a ∧ Below wx.heap.size wx wy ∧ ∀ a' b' : Nat, a' < a → b' < L.length → pairOk (leR L.length fun a b => reach X a L.length b) L.length (a' : Int) (b' : Int) = true) (fun i _ => L.length - (intOf i).toNat)
                case atStart => exact ⟨0, Nat.zero_le _, rfl, Below.refl _ _, fun a' b' h => absurd h (by omega)⟩
                case round =>
                  obtain ⟨wu, rfl⟩ : ∃ x, x = wr := ⟨_, rfl⟩
                  obtain ⟨a, hal, rfl, hbu, hno⟩ := hrel
                  have HN : Hid (∀ a' b' : Nat, a' < a → b' < L.length → pairOk (leR L.length fun a b => reach X a L.length b) L.length (a' : Int) (b' : Int) = true) := hno
                  clear hno
                  by_cases ha : a < L.length
                  · go_wp2_with fail
                    go_loopw [16] (fun i wy => ∃ b : Nat, b ≤ L.length ∧ i = .int .i64 b ∧ Below wx.heap.size wx wy ∧ ∀ b' : Nat, b' < b → pairOk (leR L.length fun a b => reach X a L.length b) L.length (a : Int) (b' : Int) = true) (fun i _ => L.length - (intOf i).toNat)
                    case atStart => exact ⟨0, Nat.zero_le _, rfl, hbu, fun b' h => absurd h (by omega)⟩
                    case round =>
                      obtain ⟨wy, rfl⟩ : ∃ x, x = wr := ⟨_, rfl⟩
                      obtain ⟨b, hbl, rfl, hby, hno⟩ := hrel
                      have HN2 : Hid (∀ b' : Nat, b' < b → pairOk (leR L.length fun a b => reach X a L.length b) L.length (a : Int) (b' : Int) = true) := hno
                      clear hno
                      by_cases hb : b < L.length
                      · have quit := hquit a b ha hb
                        have hab := hle a b ha hb
                        have hba := hle b a hb ha
                        obtain ⟨rg1, rc1, e1, c1⟩ := tab_at hrows (a := a) (b := b) (by omega) hb
                        obtain ⟨rg2, rc2, e2, c2⟩ := tab_at hrows (a := b) (b := a) (by omega) ha
                        have d1 := cr a (by omega)
                        have d2 := cr b (by omega)
                        rw [e1] at d1
                        rw [e2] at d2
                        replace c1 := cell_keep c1 hby
                        replace c2 := cell_keep c2 hby
                        replace d1 := cell_keep d1 hby
                        replace d2 := cell_keep d2 hby
                        have d0 := cell_keep cb hby
                        have cJ := fun (wq : World) (g : Below wx.heap.size wx wq) => refJoin_any wq _ L _ (hlat.keep g) hl (a : Int) (b : Int)
                        have cM := fun (wq : World) (g : Below wx.heap.size wx wq) => refMeet_any wq _ L _ (hlat.keep g) hl (a : Int) (b : Int)
                        have HG : Hid (pairOk (leR L.length fun a b => reach X a L.length b) L.length (a : Int) (b : Int) = true → ∀ b' : Nat, b' < b + 1 → pairOk (leR L.length fun a b => reach X a L.length b) L.length (a : Int) (b' : Int) = true) := fun h b' hb' => by
                          by_cases e : b' < b
                          · exact HN2.out b' e
                          · have : b' = b := by omega
                            subst this; exact h
                        have HP : Hid (pairOk (leR L.length fun a b => reach X a L.length b) L.length (a : Int) (b : Int) = (!((a : Int) != (b : Int) && leR L.length (fun a b => reach X a L.length b) (a : Int) (b : Int) && leR L.length (fun a b => reach X a L.length b) (b : Int) (a : Int)) && decide (0 ≤ joinI (leR L.length fun a b => reach X a L.length b) L.length (a : Int) (b : Int)) && decide (0 ≤ meetI (leR L.length fun a b => reach X a L.length b) L.length (a : Int) (b : Int)))) := rfl
                        generalize joinI (leR L.length fun a b => reach X a L.length b) L.length (a : Int) (b : Int) = J at cJ HP
                        generalize meetI (leR L.length fun a b => reach X a L.length b) L.length (a : Int) (b : Int) = M at cM HP
                        rw [hab, hba] at HP
                        generalize pairOk (leR L.length fun a b => reach X a L.length b) L.length (a : Int) (b : Int) = PK at HP HG quit
                        clear hab hba e1 e2 hle hquit HN HN2 hrows cr hlat HOK HLAT
                        generalize reach X a L.length b = r1 at c1 HP
                        generalize reach X b L.length a = r2 at c2 HP
                        have i0 : (0 : Int) ≤ (a : Int) := by omega
                        have i1 : (a : Int) < (L.length : Int) := by omega
                        have i2 : (0 : Int) ≤ (b : Int) := by omega
                        have i3 : (b : Int) < (L.length : Int) := by omega
                        by_cases hne : a = b
                        · have hq : ((a : Int) != (b : Int)) = false := by simp [hne]
                          have HQ : Hid ((!((a : Int) != (b : Int) && r1 && r2)) = true) := by show (!_) = _; rw [hq]; rfl
                          clear hne
                          go_wp2_with fail
                          refine (cJ _ hby).mono ?_
                          rintro e w6 ⟨rfl, b6⟩
                          have b6' := btrans hby b6
                          by_cases hj : J < 0
                          · go_wp2_with fail
                            go_ret2
                            exact quit _ b6' (by rw [HP.out]; simp; omega)
                          · go_wp2_with fail
                            refine (cM _ b6').mono ?_
                            rintro e w7 ⟨rfl, b7⟩
                            have b7' := btrans b6' b7
                            by_cases hm : M < 0
                            · go_wp2_with fail
                              go_ret2
                              exact quit _ b7' (by rw [HP.out]; simp; omega)
                            · go_wp2_with fail
                              go_roundw
                              case rel => exact ⟨b + 1, by omega, by go_num, b7', HG.out (by rw [HP.out, HQ.out, decide_eq_true (by omega), decide_eq_true (by omega)]; rfl)⟩
                              case measure => simp [intOf]; omega
                        · have hq : ((a : Int) != (b : Int)) = true := by simp; omega
                          clear hne
                          cases r1
                          · have HQ : Hid ((!((a : Int) != (b : Int) && false && r2)) = true) := by show (!_) = _; simp
                            go_wp2_with fail
                            refine (cJ _ hby).mono ?_
                            rintro e w6 ⟨rfl, b6⟩
                            have b6' := btrans hby b6
                            by_cases hj : J < 0
                            · go_wp2_with fail
                              go_ret2
                              exact quit _ b6' (by rw [HP.out]; simp; omega)
                            · go_wp2_with fail
                              refine (cM _ b6').mono ?_
                              rintro e w7 ⟨rfl, b7⟩
                              have b7' := btrans b6' b7
                              by_cases hm : M < 0
                              · go_wp2_with fail
                                go_ret2
                                exact quit _ b7' (by rw [HP.out]; simp; omega)
                              · go_wp2_with fail
                                go_roundw
                                case rel => exact ⟨b + 1, by omega, by go_num, b7', HG.out (by rw [HP.out, HQ.out, decide_eq_true (by omega), decide_eq_true (by omega)]; rfl)⟩
                                case measure => simp [intOf]; omega
                          · cases r2
                            · have HQ : Hid ((!((a : Int) != (b : Int) && true && false)) = true) := by show (!_) = _; simp
                              go_wp2_with fail
                              refine (cJ _ hby).mono ?_
                              rintro e w6 ⟨rfl, b6⟩
                              have b6' := btrans hby b6
                              by_cases hj : J < 0
                              · go_wp2_with fail
                                go_ret2
                                exact quit _ b6' (by rw [HP.out]; simp; omega)
                              · go_wp2_with fail
                                refine (cM _ b6').mono ?_
                                rintro e w7 ⟨rfl, b7⟩
                                have b7' := btrans b6' b7
                                by_cases hm : M < 0
                                · go_wp2_with fail
                                  go_ret2
                                  exact quit _ b7' (by rw [HP.out]; simp; omega)
                                · go_wp2_with fail
                                  go_roundw
                                  case rel => exact ⟨b + 1, by omega, by go_num, b7', HG.out (by rw [HP.out, HQ.out, decide_eq_true (by omega), decide_eq_true (by omega)]; rfl)⟩
                                  case measure => simp [intOf]; omega
                            · go_wp2_with fail
                              go_ret2
                              exact quit _ hby (by rw [HP.out, hq]; rfl)
                      · have hbn : b = L.length := by omega
                        subst hbn
                        clear hle hquit hrows cr hlat HOK HLAT
                        go_wp2_with fail
                        go_roundw
                        case rel => exact ⟨a + 1, by omega, by go_num, hby, fun a' b' h1 h2 => by
                          by_cases e : a' < a
                          · exact HN.out a' b' e h2
                          · have : a' = a := by omega
                            subst this; exact HN2.out b' h2⟩
                        case measure => simp [intOf]; omega
                  · have han : a = L.length := by omega
                    subst han
                    have HX : Hid (latErr L E = 0) := by show latErr L E = 0; rw [HOK.out, if_pos (latOk_pair.2 fun x y hx hy => HN.out x y hx hy)]
                    clear hle hquit hrows cr hlat HOK
                    go_wp2_with fail
                    go_ret2
                    rw [HX.out]
                    exact ⟨_, rfl, hbx.trans (hbu.mono hszx), fun _ => HLAT.out _ hbu, fun h => absurd rfl h⟩

end Go.Proofs.Ytobbomdknahicaa
