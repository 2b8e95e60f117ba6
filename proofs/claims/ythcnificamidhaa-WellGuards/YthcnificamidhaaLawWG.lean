import Derived.Test.YthcnificamidhaaWgC
import Derived.WalkKit
import Derived.Below
import Derived.Deep.QuietTactic
import Derived.Deep.AppendLies
namespace Go.Proofs.Ythcnificamidhaa
open Go.RowKit
set_option linter.unusedVariables false
set_option linter.unusedSimpArgs false
set_option maxRecDepth 20000 in
set_option maxHeartbeats 8000000 in
theorem wellGuards_any (g : Gr) (w : World) (hin : g.In w.heap.size w) (h96 : g.rules.length * 96 ≤ 140737488355328) :
    Calls Try.prog 5 #[g.val] w fun r W' => r = .returned (.bool true) ∧ Below w.heap.size w W' := by
  have hA := Below.refl (w.alloc (.cells #[.slice g.a g.rules.length g.c] 24)).heap.size (w.alloc (.cells #[.slice g.a g.rules.length g.c] 24))
  have HN : Hid (∀ W, Below (w.alloc (.cells #[.slice g.a g.rules.length g.c] 24)).heap.size (w.alloc (.cells #[.slice g.a g.rules.length g.c] 24)) W → Below w.heap.size w W ∧ BoxN W w.heap.size 24 #[.slice g.a g.rules.length g.c]) := fun W h => by
    have h0 := (Below.refl w.heap.size w).alloc (Nat.le_refl _) (.cells #[.slice g.a g.rules.length g.c] 24)
    exact ⟨h0.trans (h.mono h0.size), (BoxN.new w 24 #[.slice g.a g.rules.length g.c]).below h (by simp)⟩
  have hl := lit_any ⟨#[120]⟩
  have hr := ref_any ⟨#[97]⟩
  have ho : ∀ (a : Option Addr) (W : World), _ := fun a W => of_any 5 a [exo 3 nx none 0 [], exo 4 na none 0 []] 2 W
  have h1 : ∀ (a : Option Addr) (W : World) (hin : (eb1 a 2).In W.heap.size W), _ := fun a W hin => one_any (eb1 a 2) W hin
  have hv : ∀ a, (eb1 a 2).val = _ := fun a => exo_val 5 ByteArray.empty a 2 [exo 3 nx none 0 [], exo 4 na none 0 []]
  have ho9 : ∀ (B : Nat) (W : World), _ := fun B W => of_any 9 (some ⟨B, 0, none⟩) [exo 3 nx none 0 []] 1 W
  have ho2 : ∀ (B : Nat) (a : Option Addr) (W : World), _ := fun B a W => of_any 5 a [opx B, exo 4 na none 0 []] 2 W
  have h2 : ∀ (B : Nat) (a : Option Addr) (W : World) (hin : (eb2 a 2 (some ⟨B, 0, none⟩) 1).In W.heap.size W), _ := fun B a W hin => one_any (eb2 a 2 (some ⟨B, 0, none⟩) 1) W hin
  have hv2 : ∀ (B : Nat) a, (eb2 a 2 (some ⟨B, 0, none⟩) 1).val = _ := fun B a => exo_val 5 ByteArray.empty a 2 [opx B, exo 4 na none 0 []]
  simp only [List.length_cons, List.length_nil, Nat.zero_add] at hv ho ho9 ho2 hv2
  rw [exo_val] at hl hr
  rw [gval_eq]
  go_enter Try.func5, Try.ntmps5
  go_wp2_with (first
    | (go_at_call 13; refine (hl _).mono ?_; rintro e1 W1 ⟨rfl, hb1⟩; have k1 := hA.trans (hb1.mono hA.size); clear hb1)
    | (go_at_call 14; refine (hr _).mono ?_; rintro e2 W2 ⟨rfl, hb2⟩; have k2 := k1.trans (hb2.mono k1.size); clear hb2 k1)
    | (go_at_call 12; refine (ho (some ⟨W2.heap.size, 0, none⟩) _).mono ?_; rintro e3 W3 ⟨rfl, hb3⟩; rw [exo_val]; have hI := first_in W2 k2; have k3 := hI.1.trans (hb3.mono hI.1.size); have hI3 := hI.2.grow hb3; have h11 := h1 _ _ hI3; rw [hv] at h11; clear hb3 hI k2 hI3)
    | (go_at_call 11; refine h11.mono ?_; rintro e4 W4 ⟨g1, rfl, hg1, hin1, hb4⟩; have k4 := k3.trans (hb4.mono k3.size); have h9 := well9 g1 W4 hin1; clear hb4 k3 h11)
    | (go_at_call 9; refine h9.mono ?_; rintro e5 W5 ⟨n5, e5', rfl, hw5, hb5⟩; obtain rfl := first_says hg1 hw5; have k5 := k4.trans (hb5.mono k4.size); clear hb5 k4 h9 hw5 hg1 hin1)
    | (go_at_call 13; refine (hl _).mono ?_; rintro e6 W6 ⟨rfl, hb6⟩; have k6 := k5.trans (hb6.mono k5.size); clear hb6 k5)
    | (go_at_call 12; refine (ho9 W6.heap.size _).mono ?_; rintro e7 W7 ⟨rfl, hb7⟩; rw [exo_val]; have hJ := opt_in W6 k6; have k7 := hJ.1.trans (hb7.mono hJ.1.size); have hJ7 := hJ.2.grow hb7; clear hb7 hJ k6)
    | (go_at_call 14; refine (hr _).mono ?_; rintro e8 W8 ⟨rfl, hb8⟩; have k8 := k7.trans (hb8.mono k7.size); have hJ8 := hJ7.grow hb8; clear hb8 hJ7 k7)
    | (go_at_call 12; refine (ho2 W6.heap.size (some ⟨W8.heap.size, 0, none⟩) _).mono ?_; rintro e9 W9 ⟨rfl, hb9⟩; rw [exo_val]; have hI := second_in W6.heap.size W8 k8 hJ8; have k9 := hI.1.trans (hb9.mono hI.1.size); have hI9 := hI.2.grow hb9; have h12 := h2 _ _ _ hI9; rw [hv2] at h12; clear hb9 hI k8 hJ8 hI9)
    | (go_at_call 11; refine h12.mono ?_; rintro e10 W10 ⟨g2, rfl, hg2, hin2, hb10⟩; have k10 := k9.trans (hb10.mono k9.size); have h19 := well9 g2 W10 hin2; clear hb10 k9 h12)
    | (go_at_call 9; refine h19.mono ?_; rintro e11 W11 ⟨n11, e11', rfl, hw11, hb11⟩; obtain rfl := second_says hg2 hw11; have k11 := k10.trans (hb11.mono k10.size); have HK : Hid _ := HN.out W11 k11; have cG : (W11.alloc (.cells #[.slice none 0 0] 24)).cell? ⟨w.heap.size, 0, none⟩ = some (.slice g.a g.rules.length g.c) := (HK.out.2.alloc _).cell 0; clear hb11 k10 h19 hw11 hg2 hin2 k11))
  have HI : Hid (g.In w.heap.size w) := hin
  clear HN cG hr ho h1 hv ho9 ho2 h2 hv2 hA hin
  have hN96 : g.rules.length * 96 ≤ 140737488355328 := h96
  go_loopw [40] (fun p wr => ∃ (i : Nat) (v : Value) (l : List (ByteArray × Ex)), p = .int .i64 i ∧ i ≤ g.rules.length ∧ Hid (Wk W11 wr W11.heap.size v g.rules l i)) (fun p _ => g.rules.length - (intOf p).toNat)
  case atStart => exact ⟨0, .slice none 0 0, [], rfl, Nat.zero_le _, BoxN.new W11 24 _, World.ownsRow_nil _ _ _ _, (Below.refl _ W11).alloc (Nat.le_refl _) _, rfl, fun j q r _ h => by simp at h⟩
  case round =>
    obtain ⟨i, v, l, rfl, hil, HQ⟩ := hrel
    obtain ⟨av, cv, rfl⟩ := HQ.out.form
    have hs3 := HQ.out.low.size
    have hs11 := HK.out.1.size
    by_cases hend : i = g.rules.length
    · have g1 : decide (i < g.rules.length) = false := by simp; omega
      subst hend
      have hll : l.length = g.rules.length := HQ.out.len
      have HW : Hid (Below w.heap.size w wr) := HK.out.1.trans (HQ.out.low.mono hs11)
      have hgi : Gr.In wr.heap.size wr ⟨av, cv, l⟩ := by
        have h5 : Wk W11 wr W11.heap.size (.slice av l.length cv) g.rules l g.rules.length := by rw [hll]; exact HQ.out
        refine Wk.gr h5 (by omega) fun r hr => ?_
        obtain ⟨q, hq⟩ := List.getElem?_of_mem hr
        have hru := (HI.out.below HW.out).rule q r hq
        exact ⟨hru.name, hru.body.mono HW.out.size⟩
      have HA := HQ.out.all
      have h9 := well9 _ wr hgi
      have hck := fun W => gcheck_any ⟨av, cv, l⟩ W
      have cN := HQ.out.box.cell 0
      simp only [List.getElem?_toArray, List.getElem?_cons_zero] at cN
      have HX : Hid (∀ W, Below wr.heap.size wr W → Below w.heap.size w W ∧ W.cell? ⟨W11.heap.size, 0, none⟩ = some (.slice av g.rules.length cv) ∧ Gr.In W.heap.size W ⟨av, cv, l⟩) := fun W hb => ⟨HW.out.trans (hb.mono HW.out.size), (hb.cell (p := ⟨W11.heap.size, 0, none⟩) HQ.out.box.lt).trans cN, hgi.grow hb⟩
      rw [gval_eq] at h9
      simp only [gval_eq] at hck
      simp only [hll] at h9 hck
      have HT : Hid _ := fun (n e : Int) (h : Go.Proofs.Ythcnificamidhaa.W9 ⟨av, cv, l⟩ n e) => third_says HA h
      clear HQ hgi HA
      go_wp2_with (first
        | (go_at_call 9; refine h9.mono ?_; rintro e12 W12 ⟨n12, e12', rfl, hw12, hb12⟩; have H12 : Hid _ := HX.out W12 hb12; have H13 : Hid _ := HT.out n12 e12' hw12; have hc12 := hck W12 H12.out.2.2; have c12 := H12.out.2.1; clear hb12 h9 hw12 hck)
        | (go_at_call 15; refine hc12.mono ?_; rintro e13 W13 ⟨rfl, hb13⟩; have H14 : Hid _ := H12.out.1.trans (hb13.mono H12.out.1.size)))
      all_goals
        go_ret
        first
          | exact ⟨rfl, H12.out.1⟩
          | (refine ⟨?_, H14.out⟩
             have hb : (e12' != 8 && (e12' == 0 || e12' == 9 || gcheck l != 0)) = true := by
               rcases H13.out with ⟨h5, h6 | h6⟩ | ⟨h5, h6, h7⟩
               · rw [h6]; rfl
               · rw [h6]; rfl
               · have h8 : (gcheck l != 0) = true := by simpa using h5
                 have h9 : (e12' != 8) = true := by simpa using h7
                 rw [h8, h9]; simp
             show Ending.returned (.bool (e12' != 8 && (e12' == 0 || e12' == 9 || gcheck l != 0))) = .returned (.bool true)
             rw [hb])
          | (exfalso
             rcases H13.out with ⟨h5, h6 | h6⟩ | ⟨h5, h6, h7⟩
             · omega
             · omega
             · exact h7 (by assumption))
    · have hlt : i < g.rules.length := by omega
      clear hend
      obtain ⟨x, hx⟩ : ∃ x, g.rules[i]? = some x := ⟨_, List.getElem?_eq_getElem hlt⟩
      have hru := (HI.out.below (HK.out.1.trans (HQ.out.low.mono hs11))).rule i x hx
      obtain ⟨b, o, ha, hb, c0, c1, c2, c3, c4, c5, c6, c7⟩ := rcells hru
      have bT := BoxN.new wr 47 (rcell x).toArray
      have bN := HQ.out.box.alloc (.cells (rcell x).toArray 47)
      have HS0 : Hid (BoxN ((wr.alloc (.cells (rcell x).toArray 47)).drew) W11.heap.size 24 #[.slice av i cv] ∧ BoxN ((wr.alloc (.cells (rcell x).toArray 47)).drew) wr.heap.size 47 (rcell x).toArray) := ⟨bN, bT⟩
      rw [rcell_eq] at HS0
      rw [ha]
      have HSB : Hid (∀ W W' : World, BoxN W W11.heap.size 24 #[.slice av i cv] ∧ BoxN W wr.heap.size 47 #[.string x.1, .int .i64 x.2.k, .int .u64 (wd x.2.S 0), .int .u64 (wd x.2.S 1), .int .u64 (wd x.2.S 2), .int .u64 (wd x.2.S 3), .string x.2.t, .slice x.2.a x.2.kids.length x.2.c] → Below W.heap.size W W' → BoxN W' W11.heap.size 24 #[.slice av i cv] ∧ BoxN W' wr.heap.size 47 #[.string x.1, .int .i64 x.2.k, .int .u64 (wd x.2.S 0), .int .u64 (wd x.2.S 1), .int .u64 (wd x.2.S 2), .int .u64 (wd x.2.S 3), .string x.2.t, .slice x.2.a x.2.kids.length x.2.c]) := fun W W' h hb => ⟨h.1.below hb h.1.lt, h.2.below hb h.2.lt⟩
      have HA0 := (Below.refl wr.heap.size wr).alloc (Nat.le_refl _) (.cells (rcell x).toArray 47)
      have HWk : Hid (∀ V, Below ((wr.alloc (.cells (rcell x).toArray 47)).drew).heap.size ((wr.alloc (.cells (rcell x).toArray 47)).drew) V → Wk W11 V W11.heap.size (.slice av i cv) g.rules l i ∧ wr.heap.size < V.heap.size) := fun V hb => ⟨HQ.out.below (HA0.drew.trans (hb.mono (by show wr.heap.size ≤ (wr.alloc _).heap.size; simp))), by have := hb.size; have : (wr.alloc (.cells (rcell x).toArray 47)).heap.size ≤ V.heap.size := this; simp at this; omega⟩
      have HOb : Hid (∀ k, (Value.slice av i cv).ownBlock = some k → k < wr.heap.size) := fun k hk => (World.ownsRow.lt HQ.out.own k hk).2
      rw [rcell_eq] at HWk
      clear bT bN HA0
      go_wp2_with fail
      generalize hw0 : wr.alloc (.cells #[.string x.1, .int .i64 x.2.k, .int .u64 (wd x.2.S 0), .int .u64 (wd x.2.S 1), .int .u64 (wd x.2.S 2), .int .u64 (wd x.2.S 3), .string x.2.t, .slice x.2.a x.2.kids.length x.2.c] 47) = w0 at *
      refine wp_region_sch (fun W => BoxN W W11.heap.size 24 #[.slice av i cv] ∧ BoxN W wr.heap.size 47 #[.string x.1, .int .i64 x.2.k, .int .u64 (wd x.2.S 0), .int .u64 (wd x.2.S 1), .int .u64 (wd x.2.S 2), .int .u64 (wd x.2.S 3), .string x.2.t, .slice x.2.a x.2.kids.length x.2.c]) 13 [(0,true),(1,true),(2,true),(3,true),(5,true),(6,true),(4,false),(7,false),(8,false),(9,true),(10,false),(11,false),(12,true),(13,false)] _ (by kernel_rfl) (by kernel_rfl) (fun _ => by kernel_rfl) (by kernel_rfl) rfl (fun c a d v w h => by cases d <;> exact h) HS0.out ?_
      iterate 6
        refine wpSch_read rfl rfl ?_
        apply Exists.intro
        refine ⟨fun W hW => ?_, ?_⟩
        · have d0 := hW.1.cell 0
          have e0 := hW.2.cell 0
          have e1 := hW.2.cell 1
          have e2 := hW.2.cell 2
          have e3 := hW.2.cell 3
          have e4 := hW.2.cell 4
          have e5 := hW.2.cell 5
          have e6 := hW.2.cell 6
          have e7 := hW.2.cell 7
          simp only [List.getElem?_toArray, List.getElem?_cons_zero, List.getElem?_cons_succ] at d0 e0 e1 e2 e3 e4 e5 e6 e7
          go_simp
          with_reducible rfl
        simp only [Act.put, List.setIfInBounds_toArray, List.set_cons_zero, List.set_cons_succ]
      have hkc : (exo 3 nx none 0 []).cells ++ x.2.cells = #[.int .i64 3, .int .u64 0, .int .u64 0, .int .u64 0, .int .u64 0, .string ⟨#[120]⟩, .slice none 0 0, .int .i64 x.2.k, .int .u64 (wd x.2.S 0), .int .u64 (wd x.2.S 1), .int .u64 (wd x.2.S 2), .int .u64 (wd x.2.S 3), .string x.2.t, .slice x.2.a x.2.kids.length x.2.c] := by rw [exo_cells, cells_eq]; rfl
      have HKC : Hid _ := hkc
      refine wpSch_list rfl rfl (fun K hK => ?_)
      go_wp2_with (go_at_call 13; refine (hl _).mono ?_; rintro r1 V1 ⟨rfl, hb1⟩)
      have HS1 : Hid _ := HSB.out _ V1 HS0.out hb1
      refine hK _ _ (fun _ => HS1.out) ?_
      have HV1 : Hid _ := HWk.out V1 hb1
      clear hK K hb1 hl hkc
      refine wpSch_list rfl rfl (fun K hK => ?_)
      go_wp2_with fail
      have HA2 := (Below.refl V1.heap.size V1).alloc (Nat.le_refl _) (.cells ((exo 3 nx none 0 []).cells ++ x.2.cells) 43)
      have HS2 : Hid _ := HSB.out _ _ HS1.out HA2
      have HV2 : Hid _ := HV1.out.1.below HA2
      have HB2 : Hid _ := BoxN.new V1 43 ((exo 3 nx none 0 []).cells ++ x.2.cells)
      rw [HKC.out] at HS2 HV2
      have HB2' : Hid (BoxN _ V1.heap.size 43 ((exo 3 nx none 0 []).cells ++ x.2.cells)) := HB2
      refine hK _ _ (fun _ => HS2.out) ?_
      have HV1s : Hid (wr.heap.size < V1.heap.size) := HV1.out.2
      have HV1N : Hid (W11.heap.size < V1.heap.size) := HV1.out.1.box.lt
      rw [HKC.out] at HB2'
      clear hK K HS1 HV1 HA2 HB2
      generalize V1.alloc (.cells #[.int .i64 3, .int .u64 0, .int .u64 0, .int .u64 0, .int .u64 0, .string ⟨#[120]⟩, .slice none 0 0, .int .i64 x.2.k, .int .u64 (wd x.2.S 0), .int .u64 (wd x.2.S 1), .int .u64 (wd x.2.S 2), .int .u64 (wd x.2.S 3), .string x.2.t, .slice x.2.a x.2.kids.length x.2.c] 43) = V2 at *
      have ho5 : ∀ W : World, _ := fun W => of_any 5 (some ⟨V1.heap.size, 0, none⟩) [exo 3 nx none 0 [], x.2] 2 W
      simp only [exo_val, List.length_cons, List.length_nil, Nat.zero_add] at ho5
      refine wpSch_list rfl rfl (fun K hK => ?_)
      go_wp2_with (go_at_call 12; refine (ho5 _).mono ?_; rintro r3 V3 ⟨rfl, hb3⟩)
      have HS3 : Hid _ := HSB.out _ V3 HS2.out hb3
      have HV3 : Hid _ := HV2.out.below hb3
      have HB3 : Hid (BoxN V3 V1.heap.size 43 _) := HB2'.out.below hb3 HB2'.out.lt
      refine hK _ _ (fun _ => HS3.out) ?_
      clear hK K HS2 HV2 HB2' hb3 ho5
      refine wpSch_read rfl rfl ?_
      apply Exists.intro
      refine ⟨fun W hW => ?_, ?_⟩
      · go_simp
        with_reducible rfl
      simp only [Act.put, List.setIfInBounds_toArray, List.set_cons_zero, List.set_cons_succ]
      refine wpSch_list rfl rfl (fun K hK => ?_)
      go_wp2_with fail
      have HA4 := (Below.refl V3.heap.size V3).alloc (Nat.le_refl _) (.cells (rcell (x.1, grd nx (some ⟨V1.heap.size, 0, none⟩) 2 x.2)).toArray 47)
      have HS4 : Hid _ := HSB.out _ _ HS3.out HA4
      have HV4 : Hid _ := HV3.out.below HA4
      have HB4 : Hid (BoxN _ V1.heap.size 43 _) := HB3.out.below HA4 HB3.out.lt
      have hR4 := BoxN.new V3 47 (rcell (x.1, grd nx (some ⟨V1.heap.size, 0, none⟩) 2 x.2)).toArray
      have hrc : rcell (x.1, grd nx (some ⟨V1.heap.size, 0, none⟩) 2 x.2) = [.string x.1, .int .i64 5, .int .u64 0, .int .u64 0, .int .u64 0, .int .u64 0, .string ByteArray.empty, .slice (some ⟨V1.heap.size, 0, none⟩) 2 2] := by
        unfold grd
        rw [rcell_eq]
        simp [exo, Ex.k, Ex.S, Ex.t, Ex.a, Ex.c, Ex.kids]
        exact ⟨wd_none 0, wd_none 1, wd_none 2, wd_none 3⟩
      have HRC : Hid _ := hrc
      have hsz4 : (V3.alloc (.cells (rcell (x.1, grd nx (some ⟨V1.heap.size, 0, none⟩) 2 x.2)).toArray 47)).heap.size = V3.heap.size + 1 := by simp
      rw [hrc] at HS4 HV4 HB4 hR4 hsz4
      refine hK _ _ (fun _ => HS4.out) ?_
      clear hK K HS3 HV3 HB3 HA4 hrc
      generalize V3.alloc (.cells #[.string x.1, .int .i64 5, .int .u64 0, .int .u64 0, .int .u64 0, .int .u64 0, .string ByteArray.empty, .slice (some ⟨V1.heap.size, 0, none⟩) 2 2] 47) = V4 at *
      obtain ⟨i0, hi, hz⟩ : ∃ i0, Try.prog.info? 47 = some i0 ∧ (i0.zero, i0.size, i0.bytes) = (some (.agg #[.string ⟨#[]⟩, .int .i64 0, .int .u64 0, .int .u64 0, .int .u64 0, .int .u64 0, .string ⟨#[]⟩, .slice none 0 0]), 8, 96) := by
        simpa [Option.map_eq_some_iff] using Try.info47
      simp only [Prod.mk.injEq] at hz
      obtain ⟨hz0, hz1, hz2⟩ := hz
      have hlen := HV4.out.len
      have hown := HV4.out.own
      rw [hlen] at hown
      have HNEW : Hid _ := World.news_of_block hR4
      have hN4 := HV4.out.box.lt
      refine wpSch_list rfl rfl (fun K hK => ?_)
      refine wpList_append_lies _ rfl _ _ 22 rfl (W11.heap.size + 1) 47 i0 _ 8 96 Try.underlying22 hi hz0 hz1 hz2 rfl (by decide) _ i (rcsL l) rfl hown ⟨V3.heap.size, 0, none⟩ 1 1 (rcell (x.1, grd nx (some ⟨V1.heap.size, 0, none⟩) 2 x.2)) rfl rfl ?d1 (rcell_one _) (by omega) ?d3 ?d4 ?d5 V4.heap.size rfl ?_
      case d1 => rw [HRC.out]; exact HNEW.out
      case d3 => unfold maxLen; omega
      case d4 => omega
      case d5 => omega
      intro g8 cap8 w8 hown8 hgr8 hor8 hg8
      have hNo : some W11.heap.size ≠ (Value.slice av i cv).ownBlock := fun e => by have := World.ownsRow.lt hown W11.heap.size e.symm; omega
      have hTo : some wr.heap.size ≠ (Value.slice av i cv).ownBlock := fun e => by have := HOb.out _ e.symm; omega
      have hBo : (Value.slice av i cv).ownBlock ≠ some V1.heap.size := fun e => by have := HOb.out _ e; have := HV1s.out; omega
      have HS8 : Hid (BoxN w8 W11.heap.size 24 _ ∧ BoxN w8 wr.heap.size 47 _) := ⟨HS4.out.1.kept hgr8 hNo, HS4.out.2.kept hgr8 hTo⟩
      have HE : Hid _ := HV4.out.app hx HB4.out HV1N.out hBo hgr8 hor8 hown8
      have c8 := HS8.out.1.cell 0
      simp only [List.getElem?_toArray, List.getElem?_cons_zero] at c8
      have f8 : w8.frozen? ⟨W11.heap.size, 0, none⟩ = false := by simp [World.frozen?, show w8.heap[W11.heap.size]? = _ from HS8.out.1]
      clear hown hown8 hgr8 hor8 hg8 hNo hTo hBo HS4 HV4 HB4 HNEW HRC hR4
      go_wp2_with fail
      refine hK _ _ (fun _ => HS8.out) ?_
      clear hK K HS8
      refine wpSch_read rfl rfl ?_
      apply Exists.intro
      refine ⟨fun W hW => ?_, ?_⟩
      · go_simp
        with_reducible rfl
      simp only [Act.put, List.setIfInBounds_toArray, List.set_cons_zero, List.set_cons_succ]
      refine wpSch_list rfl rfl (fun K hK => ?_)
      go_wp2_with fail
      refine hK _ _ (fun h => absurd rfl h) ?_
      clear hK K
      unfold wpSch
      go_wp2_with fail
      exact ⟨⟨i + 1, _, _, by go_num, by omega, HE⟩, by simp [intOf]; omega⟩
end Go.Proofs.Ythcnificamidhaa
