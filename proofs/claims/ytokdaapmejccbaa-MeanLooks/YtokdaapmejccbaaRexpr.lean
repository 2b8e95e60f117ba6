import Derived.Test.YtokdaapmejccbaaRnodes
import Derived.Test.YtokdaapmejccbaaRight
namespace Go.Proofs.Ytokdaapmejccbaa
open Go.RowKit
open Ex.In (InL)
open Ex.pn (pnL)
set_option linter.unusedVariables false
theorem pn_in {n : Nat} {W : World} : ∀ (e : Ex) (d : Int), e.In n W → ∀ y ∈ e.pn d, y.2.In n W
  | .mk k S t a c kids, d, h, y, hy => by
    rw [Ex.pn] at hy
    rcases List.mem_cons.1 hy with rfl | hy
    · exact h
    · rw [Ex.In] at h
      split at hy
      · exact pnL_in kids _ 0 h.2 y hy
      · cases hy
  where
  pnL_in {n : Nat} {W : World} {a : Option Addr} : ∀ (l : List Ex) (d : Int) (i : Nat), InL n W a i l → ∀ y ∈ pnL d l, y.2.In n W
    | [], d, i, _, y, hy => by rw [pnL] at hy; cases hy
    | e :: r, d, i, h, y, hy => by
      rw [InL] at h
      rw [pnL] at hy
      rcases List.mem_append.1 hy with hy | hy
      · exact pn_in e d h.2.1 y hy
      · exact pnL_in r d (i + 1) h.2.2 y hy
theorem pnL_in {n : Nat} {W : World} {a : Option Addr} : ∀ (l : List Ex) (d : Int) (i : Nat), InL n W a i l → ∀ y ∈ pnL d l, y.2.In n W := pn_in.pnL_in
theorem rnodes_in {n : Nat} {W : World} {e : Ex} (h : e.In n W) : ∀ y ∈ rnodes e, y.2.In n W := fun y hy => pn_in e 1 h y (List.mem_of_mem_take hy)
theorem rnodes_pos (e : Ex) : 0 < (rnodes e).length := by
  unfold rnodes; rw [pn_eq]; simp
theorem rnodes_len (e : Ex) : (rnodes e).length ≤ 61 := by unfold rnodes; simp; omega
/-- A node of a slice, its eight cells. -/
theorem Nd.at {w : World} {N g n c i : Nat} {l : List (Int × Ex)} {x : Int × Ex} (h : Nd w N (.slice (some ⟨g, 0, none⟩) n c) l) (hx : l[i]? = some x) : ∀ j, j < 8 → w.cell? ⟨g, i * 8 + j, none⟩ = (ncell x).toArray[j]? := fun j hj => by
  rw [List.getElem?_toArray, ← ncells_at l i j x hx hj]
  obtain ⟨u, hu⟩ : ∃ u, (ncells l)[i * 8 + j]? = some u := by
    rw [ncells_at l i j x hx hj]
    exact ⟨_, List.getElem?_eq_getElem (by rw [ncell_len]; exact hj)⟩
  rw [hu]
  exact h.cells _ _ hu
set_option maxRecDepth 20000 in
set_option maxHeartbeats 2000000 in
theorem rexpr_any (e : Ex) (w : World) (hin : e.In w.heap.size w) :
    Calls Try.prog 98 #[e.val] w fun r W' => r = .returned (.int .i64 (check e)) ∧ Below w.heap.size w W' := by
  have hA := (Below.refl w.heap.size w).alloc (Nat.le_refl _) (.cells e.cells 57)
  have hno := rnodes_any e (w.alloc (.cells e.cells 57)) (hin.grow hA)
  have HE : Hid (∀ {W1 : World}, Below (w.alloc (.cells e.cells 57)).heap.size (w.alloc (.cells e.cells 57)) W1 → Below w.heap.size w W1) := fun hb => hA.trans (hb.mono (by simp))
  have HI : Hid (∀ y ∈ rnodes e, y.2.In w.heap.size w) := rnodes_in hin
  have HC : Hid (chk 0 (rnodes e) = check e) := chk_rnodes e
  have hpos := rnodes_pos e
  have h61 := rnodes_len e
  generalize check e = C at *
  rw [val_eq] at hno ⊢
  generalize rnodes e = l at *
  rw [cells_eq] at hno
  go_enter Try.func98, Try.ntmps98
  go_wp2_with (go_at_call 40; refine hno.mono ?_; rintro r W1 ⟨v, rfl, hNd, hb1⟩; rw [← cells_eq] at hb1; obtain ⟨g, cap, rfl, -, -⟩ := World.ownsRow.form hNd hpos; have HB1 : Hid (Below w.heap.size w W1 ∧ Nd W1 (w.alloc (.cells e.cells 57)).heap.size (.slice (some ⟨g, 0, none⟩) l.length cap) l) := ⟨HE.out hb1, hNd⟩; clear hb1 hNd hno HE hA)
  go_loopw [8] (fun p wr => ∃ i : Nat, p = .int .i64 i ∧ i ≤ l.length ∧ Hid (chkI (l.take i)) ∧ Hid (Below W1.heap.size W1 wr)) (fun p _ => l.length - (intOf p).toNat)
  case atStart => exact ⟨0, rfl, Nat.zero_le _, ⟨by simp, fun r => rfl⟩, Below.refl _ _⟩
  case round =>
    obtain ⟨i, rfl, hi, HK, HB⟩ := hrel
    have HBw : Hid (Below w.heap.size w wr) := HB1.out.1.trans (HB.out.mono HB1.out.1.size)
    by_cases hend : i = l.length
    · have hC0 : C = 0 := by
        rw [← HC.out]
        have := HK.out.2 []
        rw [List.append_nil, hend, List.take_length] at this
        exact this
      subst hend hC0
      go_wp2_with fail
      go_ret
      exact ⟨rfl, HBw.out⟩
    · have hlt : i < l.length := by omega
      clear hend
      obtain ⟨x, hx⟩ : ∃ x, l[i]? = some x := ⟨_, List.getElem?_eq_getElem hlt⟩
      have hc := (HB1.out.2.below HB.out).at hx
      have c0 := hc 0 (by omega)
      have c1 := hc 1 (by omega)
      have c2 := hc 2 (by omega)
      have c3 := hc 3 (by omega)
      have c4 := hc 4 (by omega)
      have c5 := hc 5 (by omega)
      have c6 := hc 6 (by omega)
      have c7 := hc 7 (by omega)
      rw [ncell_eq] at c0 c1 c2 c3 c4 c5 c6 c7
      simp only [List.getElem?_toArray, List.getElem?_cons_zero, List.getElem?_cons_succ, Nat.add_zero] at c0 c1 c2 c3 c4 c5 c6 c7
      have hti : (l.take i).length = i := by rw [List.length_take]; omega
      have hsp : l = (l.take i ++ [x]) ++ l.drop (i + 1) := by
        rw [List.append_assoc]
        have h1 := List.take_append_drop i l
        rw [List.drop_eq_getElem_cons hlt] at h1
        have h2 : l[i] = x := by rw [List.getElem?_eq_getElem hlt] at hx; simpa using hx
        rw [h2] at h1
        exact h1.symm
      have HS : Hid (∀ V, (∀ r, chk i (x :: r) = V) → V = C) := fun V hV => by
        have h1 := chkI_stop (l.take i) x HK.out V (by rw [hti]; exact hV) (l.drop (i + 1))
        rw [← hsp, HC.out] at h1
        exact h1.symm
      have HN : Hid (i < 60 → x.1 ≤ 12 → formOk x.2 = true → chkI (l.take (i + 1))) := fun h1 h2 h3 => by
        have h4 := chkI_step (l.take i) x HK.out (by rw [hti]; exact h1) h2 h3
        have h5 : l.take (i + 1) = l.take i ++ [x] := by rw [List.take_add_one, hx, Option.toList_some]
        rw [h5]; exact h4
      have hxin := HI.out x (List.mem_of_getElem? hx)
      have hxt := hxin.tlen
      have hA3 := HB.out.alloc HB.out.size (.cells (ncell x).toArray 80)
      have bX := BoxN.new wr 80 (ncell x).toArray
      have HB3 : Hid (∀ {W4 : World}, Below (wr.alloc (.cells (ncell x).toArray 80)).heap.size (wr.alloc (.cells (ncell x).toArray 80)) W4 → Below W1.heap.size W1 W4 ∧ Below w.heap.size w W4) := fun hb => by
        have h1 := hA3.trans (hb.mono hA3.size)
        exact ⟨h1, HB1.out.1.trans (h1.mono HB1.out.1.size)⟩
      have hright := right_any x.2 (wr.alloc (.cells (ncell x).toArray 80)) hxt
      rw [ncell_eq, val_eq] at hright
      clear hc hsp hti hx HC HK hxin hA3 bX HB hpos
      by_cases h60 : i = 60
      · have hv : (2 : Int) = C := HS.out 2 (fun r => chk_large i x r (by omega))
        have g1 : ((i : Int) == 60) = true := by simp; omega
        clear h60 HS
        subst hv
        go_wp2_with fail
        go_ret
        rw [← ncell_eq]
        exact ⟨rfl, (HB3.out (Below.refl _ _)).2⟩
      · have g1 : ((i : Int) == 60) = false := by simp; omega
        have h59 : i < 60 := by omega
        clear h60
        by_cases h12 : 12 < x.1
        · have hv : (5 : Int) = C := HS.out 5 (fun r => chk_deep i x r h59 h12)
          have g2 : decide (12 < x.1) = true := by simpa using h12
          clear h12 HS
          subst hv
          go_wp2_with fail
          go_ret
          rw [← ncell_eq]
          exact ⟨rfl, (HB3.out (Below.refl _ _)).2⟩
        · have g2 : decide (12 < x.1) = false := by simpa using h12
          have H12 : Hid (x.1 ≤ 12) := by unfold Hid; omega
          clear h12
          cases hf : formOk x.2 with
          | false =>
            have hv : (3 : Int) = C := HS.out 3 (fun r => chk_form i x r h59 H12.out hf)
            rw [hf] at hright
            clear hf HS
            subst hv
            go_wp2_with (go_at_call 126; refine hright.mono ?_; clear hright; rintro r W4 ⟨rfl, hb4⟩; rw [← ncell_eq] at hb4)
            go_ret
            exact ⟨rfl, (HB3.out hb4).2⟩
          | true =>
            have HN2 : Hid (chkI (l.take (i + 1))) := HN.out h59 H12.out hf
            rw [hf] at hright
            clear hf HS HN
            go_wp2_with (go_at_call 126; refine hright.mono ?_; clear hright; rintro r W4 ⟨rfl, hb4⟩; rw [← ncell_eq] at hb4)
            exact ⟨⟨i + 1, by go_num, by omega, HN2, (HB3.out hb4).1⟩, by simp [intOf]; omega⟩
end Go.Proofs.Ytokdaapmejccbaa
