import Derived.Test.YtbeohmcmphebhaaDoorXParG
import Derived.Laws.CopyRow
namespace Go.Proofs.YtbeohmcmphebhaaDoor
open Go.RowKit
open Ex.Ou (OuL)
set_option linter.unusedVariables false
theorem store_ex (W : World) (E : Nat) (y z : Ex) (h : BoxN W E 27 y.cells) : (storeCells ⟨E, 0, none⟩ z.cells.toList).run Tryd.prog W = .ok () (W.setRow E z.cells) := by
  have := run_storeCells_at (P := Tryd.prog) E 0 27 z.cells.toList 0 y.cells W h (by exact Nat.le_refl 7) (ex_one z)
  rw [this]
  congr 2
theorem postL_no {m : Nat} {e : Ex} {u : Tk} (h : kindB u.k = 0) : postL m e u = .ok (e, u) := by
  cases m with
  | zero => rfl
  | succ g => rw [postL, if_pos h]
set_option maxRecDepth 20000 in
set_option maxHeartbeats 8000000 in
theorem pre_post (T : ByteArray) (B n : Nat) (hT : T.size ≤ 1000000) (hd : Does T B 73 (n + 1) (primP (preP n))) (t : Tk) (w : World) (ht : t.of T.data.toList) (hn : t.s.length < n + 1) (hB : BoxN w B 60 (pcells T t)) (h38 : ¬ t.k = 38) (h33 : ¬ t.k = 33) :
    Calls Tryd.prog 52 #[.pointer (some ⟨B, 0, none⟩)] w fun e w' => PR T B w (thn (primP (preP n) t) fun x => postL x.2.s.length x.1 x.2) e w' := by
  have hBl := hB.lt
  have g38 : ((t.k.toNat : Int) == 38) = false := ne_int h38 (by decide)
  have g33 : ((t.k.toNat : Int) == 33) = false := ne_int h33 (by decide)
  have R0 : Hid (Rp T B w (w.alloc (.cells z7 27)) t) := Rp.start hB
  have hcb := R0.out.box.cell
  rw [pcells_eq] at hcb
  have hpm := hd t (w.alloc (.cells z7 27)) ht hn R0.out.box
  have hfin := primP_fine (preP_fine (T := T.data.toList) n) t ht (by omega)
  rw [z7_eq] at hcb hpm
  clear h38 h33 hB ht hd
  cases hp : primP (preP n) t with
  | error s =>
    rw [hp] at hpm
    rw [thn_error]
    unfold PR at hpm
    simp only at hpm
    unfold thrown at hpm
    clear hp hfin
    go_enter Tryd.func52, Tryd.ntmps52
    go_wp2_with (go_at_call 73; refine hpm.mono ?_; rintro e w3 ⟨rfl, hg3⟩; rw [← z7_eq] at hg3)
    exact ⟨rfl, rfl, gr_trans R0.out.gr hg3⟩
  | ok x =>
    rw [hp] at hpm hfin
    rw [thn_ok]
    unfold PR at hpm
    simp only at hpm
    unfold Says at hpm
    have HF : Hid (Fine T.data.toList t.s.length (.ok x)) := hfin
    generalize hR : postL x.2.s.length x.1 x.2 = R
    have HR : Hid (postL x.2.s.length x.1 x.2 = R) := hR
    clear hp hfin hR
    go_enter Tryd.func52, Tryd.ntmps52
    go_wp2_with (go_at_call 73; refine hpm.mono ?_; clear hpm; rintro e w1 ⟨⟨y0, rfl, hye, hyo⟩, hb1, hg1⟩; rw [← z7_eq] at hg1 hyo; have R1 : Hid _ := R0.out.call hg1 hb1; have HYO : Hid _ := hyo; clear hb1 hg1 hyo)
    have HE : Hid (w.heap.size < w1.heap.size) := R1.out.res.lt
    have hE : w1.heap.size = w1.heap.size := rfl
    have S0 : Hid (Rp T B w (w1.alloc (.cells y0.cells 27)) x.2 ∧ BoxN (w1.alloc (.cells y0.cells 27)) w1.heap.size 27 y0.cells ∧ y0.Ou (fun b => w.heap.size + 1 ≤ b ∧ b ≠ w1.heap.size) (w1.alloc (.cells y0.cells 27))) :=
      ⟨R1.out.alloc _, BoxN.new w1 27 y0.cells, Ex.Ou.gr (World.grownBy_alloc w1 (.cells y0.cells 27) none) (fun b hb hlt => ⟨by simp, by simp at hb; omega, by omega⟩) HYO.out⟩
    rw [cells_eq] at S0
    go_loopg [] x.2.s.length (fun g wr => ∃ (y : Ex) (u : Tk), Hid (Rp T B w wr u ∧ BoxN wr w1.heap.size 27 y.cells ∧ y.Ou (fun b => w.heap.size + 1 ≤ b ∧ b ≠ w1.heap.size) wr ∧ u.of T.data.toList ∧ u.s.length ≤ g ∧ postL g y.er u = R))
    case atStart => exact ⟨y0, x.2, S0.out.1, S0.out.2.1, S0.out.2.2, HF.out.1, Nat.le_refl _, by rw [hye]; exact HR.out⟩
    case round =>
      clear S0 HR hye HYO R1 HF hcb R0
      obtain ⟨y, u, HL⟩ := hrel
      generalize w1.heap.size = E at *
      clear hE
      have hcb := HL.out.1.box.cell
      rw [pcells_eq] at hcb
      have hce := HL.out.2.1.cell
      rw [cells_eq] at hce
      have hkb : ∀ W, _ := fun W => kindB_any u.k W
      by_cases hk0 : kindB u.k = 0
      · have hRe : R = .ok (y.er, u) := by have := HL.out.2.2.2.2.2; rw [postL_no hk0] at this; exact this.symm
        subst hRe
        rw [hk0] at hkb
        clear hk0
        go_wp2_with (first
          | (go_at_call 74; refine (hkb _).mono ?_; rintro e w2 ⟨rfl, rfl⟩)
          | (refine wpList_store_box rfl 27 _ _ rfl w.heap.size _ rfl rfl z7 HL.out.1.res Tryd.info27 rfl (by simp [Value.oneCell']) ?_; intro w5 hx5 hg5; have hc := hx5.cell))
        refine bodyPost_ret (by simp [results, Tryd.results52, go_sem, hc]) rfl ⟨⟨y, rfl, rfl, ?_⟩, HL.out.1.last hg5⟩
        exact Ex.Ou.gr hg5 (fun b hb _ => ⟨fun e => by cases e; omega, by omega⟩) HL.out.2.2.1
      · have hkn : (kindB u.k != 0) = true := by simpa using hk0
        have hu0 := kindB_ne hk0
        have har0 := around_gen (fun b => w.heap.size + 1 ≤ b ∧ b ≠ E) (kindB u.k) y wr.drew (fun b hb => ⟨by have := HL.out.1.res.lt; have : wr.heap.size ≤ b := hb; omega, by have := HL.out.2.1.lt; have : wr.heap.size ≤ b := hb; omega⟩) (Ex.Ou.gr (gr_drew (gr_refl B wr)) (fun b hb _ => ⟨fun e => by cases e; omega, hb⟩) HL.out.2.2.1)
        have har : Calls Tryd.prog 72 #[.int .i64 (kindB u.k), .agg #[.int .i64 y.k, .int .u64 (wd y.S 0), .int .u64 (wd y.S 1), .int .u64 (wd y.S 2), .int .u64 (wd y.S 3), .string y.t, .slice y.a y.kids.length y.c]] wr.drew fun e w' => (∃ z : Ex, e = .returned (.agg z.cells) ∧ z.er = nd (kindB u.k) [y.er] ∧ Hid (z.Ou (fun b => w.heap.size + 1 ≤ b ∧ b ≠ E) w')) ∧ Below wr.drew.heap.size wr.drew w' := har0.mono fun e w' h => h
        clear har0
        have HS : Hid (∀ (w5 : World) (z : Ex), Below wr.drew.heap.size wr.drew w5 → BoxN w5 E 27 y.cells ∧ Hid (Rp T B w w5 u) ∧ (storeCells ⟨E, 0, none⟩ z.cells.toList).run Tryd.prog w5 = .ok () (w5.setRow E z.cells) ∧ z.cells.size = 7) := by
          intro w5 z hb
          have h1 : BoxN w5 E 27 y.cells := BoxN.below (W := wr.drew) HL.out.2.1 hb HL.out.2.1.lt
          have h2 : Rp T B w wr.drew u := ⟨HL.out.1.box, HL.out.1.res, gr_drew HL.out.1.gr, hBl⟩
          exact ⟨h1, h2.below hb, store_ex w5 E y z h1, rfl⟩
        cases gk with
        | zero =>
          exfalso
          have h0 : u.s = [] := List.eq_nil_of_length_eq_zero (by have := HL.out.2.2.2.2.1; omega)
          have h2 := (tokS_end u.s).2 h0
          rw [← HL.out.2.2.2.1.1] at h2
          exact hu0 h2
        | succ g =>
          have htk : ∀ W, BoxN W B 60 (pcells T u) → _ := fun W hW => take_any T B u W (by omega) HL.out.2.2.2.1 hW
          have htf := take_fine HL.out.2.2.2.1 hu0
          have hstep : Hid (thn (take u) (fun v => postL g (nd (kindB u.k) [y.er]) v) = R) := by
            have := HL.out.2.2.2.2.2
            rw [postL, if_neg hk0] at this
            exact this
          have hz27 : ∀ W, (Go.sizeOf 27).run Tryd.prog W = .ok 7 W := Tryd.sizeOf27
          clear hk0 hu0
          generalize kindB u.k = kk at *
          cases hv : take u with
          | error s =>
            have hRe : R = .error s := by have := hstep.out; rw [hv, thn_error] at this; exact this.symm
            subst hRe
            rw [hv] at htk
            unfold TakeR at htk
            simp only at htk
            unfold thrown at htk
            clear htf hv hstep
            go_wp2_with (go_at_call 74; refine (hkb _).mono ?_; rintro e w2 ⟨rfl, rfl⟩)
            refine wp_region_any (by kernel_rfl) ?_
            try (change wpAny _ _ _ _ _ _ _ (World.drew _))
            refine wpAny_take (i := 0) (v := .pointer (some ⟨B, 0, none⟩)) rfl (by kernel_rfl) (by kernel_rfl) (by kernel_rfl) (fun _ _ _ h => h) (Or.inl ⟨by rfl, ?_⟩) ?_
            · intro w; go_simp
            refine wpAny_take (i := 1) (v := .pointer (some ⟨B, 0, none⟩)) rfl (by kernel_rfl) (by kernel_rfl) (by kernel_rfl) (fun _ _ _ h => h) (Or.inl ⟨by rfl, ?_⟩) ?_
            · intro w; go_simp
            refine wpAny_take (i := 2) (v := .pointer (some ⟨B, 2, none⟩)) rfl (by kernel_rfl) (by kernel_rfl) (by kernel_rfl) (fun _ _ _ h => h) (Or.inl ⟨by rfl, ?_⟩) ?_
            · intro w; go_simp
            refine wpAny_take (i := 3) (v := .pointer (some ⟨B, 2, none⟩)) rfl (by kernel_rfl) (by kernel_rfl) (by kernel_rfl) (fun _ _ _ h => h) (Or.inl ⟨by rfl, ?_⟩) ?_
            · intro w; go_simp
            refine wpAny_ready (rs := [4, 6]) (by kernel_rfl) (by simp) (AllReady.cons rfl (fun K hK => ?_) (AllReady.cons rfl (fun K hK => ?_) AllReady.nil))
            · go_simp
              refine hK _ _ ?_
              clear hK K
              refine wpAny_ready (rs := [5, 6]) (by kernel_rfl) (by simp) (AllReady.cons rfl (fun K hK => ?_) (AllReady.cons rfl (fun K hK => ?_) AllReady.nil))
              · go_simp
                go_at_call 74
                refine (hkb _).mono ?_
                rintro e w8 ⟨rfl, rfl⟩
                refine hK _ _ ?_
                clear hK K
                refine wpAny_ready (rs := [6]) (by kernel_rfl) (by simp) (AllReady.cons rfl (fun K hK => ?_) AllReady.nil)
                go_simp
                refine hK _ _ ?_
                clear hK K
                refine wpAny_ready (rs := [7]) (by kernel_rfl) (by simp) (AllReady.cons rfl (fun K hK => ?_) AllReady.nil)
                go_simp
                go_at_call 72
                refine har.mono ?_
                rintro e w5 ⟨⟨z, rfl, hze, hzo⟩, hb5⟩
                obtain ⟨hE5, R5, hs1, hz1⟩ := HS.out w5 z hb5
                refine hK _ _ ?_
                clear hK K
                refine wpAny_ready (rs := [8]) (by kernel_rfl) (by simp) (AllReady.cons rfl (fun K hK => ?_) AllReady.nil)
                go_simp
                refine hK _ _ ?_
                clear hK K
                refine wpAny_done (by kernel_rfl) ?_ _
                have g6 := grown_row (cs := z.cells) hE5
                generalize w5.setRow E z.cells = w6 at *
                have R6 : Hid _ := R5.out.own g6.2 HE.out
                go_wp2_with (go_at_call 24; refine (htk _ R6.out.box).mono ?_; rintro e w7 ⟨rfl, hg7⟩)
                exact ⟨rfl, rfl, gr_trans R6.out.gr hg7⟩
              · go_simp
                refine hK _ _ ?_
                clear hK K
                refine wpAny_ready (rs := [5]) (by kernel_rfl) (by simp) (AllReady.cons rfl (fun K hK => ?_) AllReady.nil)
                go_simp
                go_at_call 74
                refine (hkb _).mono ?_
                rintro e w8 ⟨rfl, rfl⟩
                refine hK _ _ ?_
                clear hK K
                refine wpAny_ready (rs := [7]) (by kernel_rfl) (by simp) (AllReady.cons rfl (fun K hK => ?_) AllReady.nil)
                go_simp
                go_at_call 72
                refine har.mono ?_
                rintro e w5 ⟨⟨z, rfl, hze, hzo⟩, hb5⟩
                obtain ⟨hE5, R5, hs1, hz1⟩ := HS.out w5 z hb5
                refine hK _ _ ?_
                clear hK K
                refine wpAny_ready (rs := [8]) (by kernel_rfl) (by simp) (AllReady.cons rfl (fun K hK => ?_) AllReady.nil)
                go_simp
                refine hK _ _ ?_
                clear hK K
                refine wpAny_done (by kernel_rfl) ?_ _
                have g6 := grown_row (cs := z.cells) hE5
                generalize w5.setRow E z.cells = w6 at *
                have R6 : Hid _ := R5.out.own g6.2 HE.out
                go_wp2_with (go_at_call 24; refine (htk _ R6.out.box).mono ?_; rintro e w7 ⟨rfl, hg7⟩)
                exact ⟨rfl, rfl, gr_trans R6.out.gr hg7⟩
            · go_simp
              refine hK _ _ ?_
              clear hK K
              refine wpAny_ready (rs := [4]) (by kernel_rfl) (by simp) (AllReady.cons rfl (fun K hK => ?_) AllReady.nil)
              go_simp
              refine hK _ _ ?_
              clear hK K
              refine wpAny_ready (rs := [5]) (by kernel_rfl) (by simp) (AllReady.cons rfl (fun K hK => ?_) AllReady.nil)
              go_simp
              go_at_call 74
              refine (hkb _).mono ?_
              rintro e w8 ⟨rfl, rfl⟩
              refine hK _ _ ?_
              clear hK K
              refine wpAny_ready (rs := [7]) (by kernel_rfl) (by simp) (AllReady.cons rfl (fun K hK => ?_) AllReady.nil)
              go_simp
              go_at_call 72
              refine har.mono ?_
              rintro e w5 ⟨⟨z, rfl, hze, hzo⟩, hb5⟩
              obtain ⟨hE5, R5, hs1, hz1⟩ := HS.out w5 z hb5
              refine hK _ _ ?_
              clear hK K
              refine wpAny_ready (rs := [8]) (by kernel_rfl) (by simp) (AllReady.cons rfl (fun K hK => ?_) AllReady.nil)
              go_simp
              refine hK _ _ ?_
              clear hK K
              refine wpAny_done (by kernel_rfl) ?_ _
              have g6 := grown_row (cs := z.cells) hE5
              generalize w5.setRow E z.cells = w6 at *
              have R6 : Hid _ := R5.out.own g6.2 HE.out
              go_wp2_with (go_at_call 24; refine (htk _ R6.out.box).mono ?_; rintro e w7 ⟨rfl, hg7⟩)
              exact ⟨rfl, rfl, gr_trans R6.out.gr hg7⟩
          | ok v =>
            have hst : Hid (postL g (nd kk [y.er]) v = R) := by have := hstep.out; rw [hv, thn_ok] at this; exact this
            rw [hv] at htk htf
            simp only at htf
            unfold TakeR at htk
            simp only at htk
            have HV : Hid (v.of T.data.toList ∧ v.s.length ≤ g) := ⟨htf.1, by have := HL.out.2.2.2.2.1; omega⟩
            clear htf hv hstep
            go_wp2_with (go_at_call 74; refine (hkb _).mono ?_; rintro e w2 ⟨rfl, rfl⟩)
            refine wp_region_any (by kernel_rfl) ?_
            try (change wpAny _ _ _ _ _ _ _ (World.drew _))
            refine wpAny_take (i := 0) (v := .pointer (some ⟨B, 0, none⟩)) rfl (by kernel_rfl) (by kernel_rfl) (by kernel_rfl) (fun _ _ _ h => h) (Or.inl ⟨by rfl, ?_⟩) ?_
            · intro w; go_simp
            refine wpAny_take (i := 1) (v := .pointer (some ⟨B, 0, none⟩)) rfl (by kernel_rfl) (by kernel_rfl) (by kernel_rfl) (fun _ _ _ h => h) (Or.inl ⟨by rfl, ?_⟩) ?_
            · intro w; go_simp
            refine wpAny_take (i := 2) (v := .pointer (some ⟨B, 2, none⟩)) rfl (by kernel_rfl) (by kernel_rfl) (by kernel_rfl) (fun _ _ _ h => h) (Or.inl ⟨by rfl, ?_⟩) ?_
            · intro w; go_simp
            refine wpAny_take (i := 3) (v := .pointer (some ⟨B, 2, none⟩)) rfl (by kernel_rfl) (by kernel_rfl) (by kernel_rfl) (fun _ _ _ h => h) (Or.inl ⟨by rfl, ?_⟩) ?_
            · intro w; go_simp
            refine wpAny_ready (rs := [4, 6]) (by kernel_rfl) (by simp) (AllReady.cons rfl (fun K hK => ?_) (AllReady.cons rfl (fun K hK => ?_) AllReady.nil))
            · go_simp
              refine hK _ _ ?_
              clear hK K
              refine wpAny_ready (rs := [5, 6]) (by kernel_rfl) (by simp) (AllReady.cons rfl (fun K hK => ?_) (AllReady.cons rfl (fun K hK => ?_) AllReady.nil))
              · go_simp
                go_at_call 74
                refine (hkb _).mono ?_
                rintro e w8 ⟨rfl, rfl⟩
                refine hK _ _ ?_
                clear hK K
                refine wpAny_ready (rs := [6]) (by kernel_rfl) (by simp) (AllReady.cons rfl (fun K hK => ?_) AllReady.nil)
                go_simp
                refine hK _ _ ?_
                clear hK K
                refine wpAny_ready (rs := [7]) (by kernel_rfl) (by simp) (AllReady.cons rfl (fun K hK => ?_) AllReady.nil)
                go_simp
                go_at_call 72
                refine har.mono ?_
                rintro e w5 ⟨⟨z, rfl, hze, hzo⟩, hb5⟩
                obtain ⟨hE5, R5, hs1, hz1⟩ := HS.out w5 z hb5
                refine hK _ _ ?_
                clear hK K
                refine wpAny_ready (rs := [8]) (by kernel_rfl) (by simp) (AllReady.cons rfl (fun K hK => ?_) AllReady.nil)
                go_simp
                refine hK _ _ ?_
                clear hK K
                refine wpAny_done (by kernel_rfl) ?_ _
                have g6 := grown_row (cs := z.cells) hE5
                generalize w5.setRow E z.cells = w6 at *
                have R6 : Hid _ := R5.out.own g6.2 HE.out
                have N6 : Hid (z.Ou (fun b => w.heap.size + 1 ≤ b ∧ b ≠ E) w6) := Ex.Ou.gr g6.2 (fun b hb _ => ⟨fun e => by cases e; exact hb.2 rfl, hb⟩) (hzo.out)
                have B6 : Hid (BoxN w6 E 27 z.cells) := g6.1
                clear g6 hE5
                go_wp2_with (go_at_call 24; refine (htk _ R6.out.box).mono ?_; rintro e w7 ⟨rfl, hb7, hg7⟩)
                go_roundg g
                case measure => omega
                case rel =>
                  refine ⟨z, v, R6.out.call hg7 hb7, BoxN.kept (t := 27) B6.out hg7 (fun e => by cases e; have := HE.out; omega), Ex.Ou.gr hg7 (fun b hb _ => ⟨fun e => by cases e; omega, hb⟩) N6.out, HV.out.1, by have := HV.out.2; omega, ?_⟩
                  rw [hze]; exact hst.out
              · go_simp
                refine hK _ _ ?_
                clear hK K
                refine wpAny_ready (rs := [5]) (by kernel_rfl) (by simp) (AllReady.cons rfl (fun K hK => ?_) AllReady.nil)
                go_simp
                go_at_call 74
                refine (hkb _).mono ?_
                rintro e w8 ⟨rfl, rfl⟩
                refine hK _ _ ?_
                clear hK K
                refine wpAny_ready (rs := [7]) (by kernel_rfl) (by simp) (AllReady.cons rfl (fun K hK => ?_) AllReady.nil)
                go_simp
                go_at_call 72
                refine har.mono ?_
                rintro e w5 ⟨⟨z, rfl, hze, hzo⟩, hb5⟩
                obtain ⟨hE5, R5, hs1, hz1⟩ := HS.out w5 z hb5
                refine hK _ _ ?_
                clear hK K
                refine wpAny_ready (rs := [8]) (by kernel_rfl) (by simp) (AllReady.cons rfl (fun K hK => ?_) AllReady.nil)
                go_simp
                refine hK _ _ ?_
                clear hK K
                refine wpAny_done (by kernel_rfl) ?_ _
                have g6 := grown_row (cs := z.cells) hE5
                generalize w5.setRow E z.cells = w6 at *
                have R6 : Hid _ := R5.out.own g6.2 HE.out
                have N6 : Hid (z.Ou (fun b => w.heap.size + 1 ≤ b ∧ b ≠ E) w6) := Ex.Ou.gr g6.2 (fun b hb _ => ⟨fun e => by cases e; exact hb.2 rfl, hb⟩) (hzo.out)
                have B6 : Hid (BoxN w6 E 27 z.cells) := g6.1
                clear g6 hE5
                go_wp2_with (go_at_call 24; refine (htk _ R6.out.box).mono ?_; rintro e w7 ⟨rfl, hb7, hg7⟩)
                go_roundg g
                case measure => omega
                case rel =>
                  refine ⟨z, v, R6.out.call hg7 hb7, BoxN.kept (t := 27) B6.out hg7 (fun e => by cases e; have := HE.out; omega), Ex.Ou.gr hg7 (fun b hb _ => ⟨fun e => by cases e; omega, hb⟩) N6.out, HV.out.1, by have := HV.out.2; omega, ?_⟩
                  rw [hze]; exact hst.out
            · go_simp
              refine hK _ _ ?_
              clear hK K
              refine wpAny_ready (rs := [4]) (by kernel_rfl) (by simp) (AllReady.cons rfl (fun K hK => ?_) AllReady.nil)
              go_simp
              refine hK _ _ ?_
              clear hK K
              refine wpAny_ready (rs := [5]) (by kernel_rfl) (by simp) (AllReady.cons rfl (fun K hK => ?_) AllReady.nil)
              go_simp
              go_at_call 74
              refine (hkb _).mono ?_
              rintro e w8 ⟨rfl, rfl⟩
              refine hK _ _ ?_
              clear hK K
              refine wpAny_ready (rs := [7]) (by kernel_rfl) (by simp) (AllReady.cons rfl (fun K hK => ?_) AllReady.nil)
              go_simp
              go_at_call 72
              refine har.mono ?_
              rintro e w5 ⟨⟨z, rfl, hze, hzo⟩, hb5⟩
              obtain ⟨hE5, R5, hs1, hz1⟩ := HS.out w5 z hb5
              refine hK _ _ ?_
              clear hK K
              refine wpAny_ready (rs := [8]) (by kernel_rfl) (by simp) (AllReady.cons rfl (fun K hK => ?_) AllReady.nil)
              go_simp
              refine hK _ _ ?_
              clear hK K
              refine wpAny_done (by kernel_rfl) ?_ _
              have g6 := grown_row (cs := z.cells) hE5
              generalize w5.setRow E z.cells = w6 at *
              have R6 : Hid _ := R5.out.own g6.2 HE.out
              have N6 : Hid (z.Ou (fun b => w.heap.size + 1 ≤ b ∧ b ≠ E) w6) := Ex.Ou.gr g6.2 (fun b hb _ => ⟨fun e => by cases e; exact hb.2 rfl, hb⟩) (hzo.out)
              have B6 : Hid (BoxN w6 E 27 z.cells) := g6.1
              clear g6 hE5
              go_wp2_with (go_at_call 24; refine (htk _ R6.out.box).mono ?_; rintro e w7 ⟨rfl, hb7, hg7⟩)
              go_roundg g
              case measure => omega
              case rel =>
                refine ⟨z, v, R6.out.call hg7 hb7, BoxN.kept (t := 27) B6.out hg7 (fun e => by cases e; have := HE.out; omega), Ex.Ou.gr hg7 (fun b hb _ => ⟨fun e => by cases e; omega, hb⟩) N6.out, HV.out.1, by have := HV.out.2; omega, ?_⟩
                rw [hze]; exact hst.out
end Go.Proofs.YtbeohmcmphebhaaDoor
