import Derived.Test.YtbeohmcmphebhaaXRPrA
namespace Go.Proofs.Ytbeohmcmphebhaa
open Go.RowKit
open Ex.pr (prKs)
set_option linter.unusedVariables false
set_option linter.unusedSimpArgs false
set_option maxRecDepth 20000 in
set_option maxHeartbeats 8000000 in
theorem rp_9 (e : Ex) (hrp : ∀ x ∈ e.kids, RpC x) (hpl : ∀ x ∈ e.kids, x.pr.length ≤ 190000) (hjl : e.pr.length ≤ 1000000) (h8 : e.kids.length ≤ 8) (hbb : ∃ BB, prKs 3 e.kids = [BB]) (hk : e.k = 9) (w : World) (hin : e.In w.heap.size w) :
    Calls Try.prog 28 #[e.val] w fun r w' => r = .returned (.string (tba e.pr)) ∧ Below w.heap.size w w' := by
  obtain ⟨i0, hi, hz⟩ : ∃ i0, Try.prog.info? 9 = some i0 ∧ (i0.zero, i0.size, i0.bytes) = (some (.string ByteArray.empty), 1, 16) := by
    simpa [Option.map_eq_some_iff] using Try.info9
  simp only [Prod.mk.injEq] at hz
  obtain ⟨hz0, hz1, hz2⟩ := hz
  have hpr : e.pr = (prKs 3 e.kids).headD [] ++ [sgn e.k] := by rw [pr_eq, if_neg (by omega), if_neg (by omega), if_neg (by omega), if_neg (by omega), if_neg (by omega), if_neg (by omega), if_neg (by omega), if_neg (by omega)]
  rw [hpr] at hjl ⊢
  obtain ⟨R, hR⟩ : ∃ R, tba ((prKs 3 e.kids).headD [] ++ [sgn e.k]) = R := ⟨_, rfl⟩
  rw [hR]
  have HR : Hid (tba ((prKs 3 e.kids).headD [] ++ [sgn e.k]) = R) := hR
  clear hR
  have hB := (Below.refl w.heap.size w).alloc (Nat.le_refl _) (.cells e.cells 46)
  have bE := BoxN.new w 46 e.cells
  have HB : Hid (Below w.heap.size w (w.alloc (.cells e.cells 46)) ∧ BoxN (w.alloc (.cells e.cells 46)) w.heap.size 46 e.cells ∧ e.In w.heap.size (w.alloc (.cells e.cells 46))) := ⟨hB, bE, hin.below hB⟩
  have hsz1 : (w.alloc (.cells e.cells 46)).heap.size = w.heap.size + 1 := by simp
  have HRp : Hid (∀ x ∈ e.kids, RpC x) := hrp
  have HPl : Hid (∀ x ∈ e.kids, x.pr.length ≤ 190000) := hpl
  have hSdrew : ∀ {w4 : World} {v : Value} {l : List ByteArray}, Ss w4 (w.heap.size + 1) v l → ∀ n, Ss (w4.drewN n) (w.heap.size + 1) v l := fun h _ => h
  have hdrw : ∀ (w4 : World) (n : Nat), Below (w.heap.size + 1) w4 (w4.drewN n) := fun w4 n => ⟨rfl, rfl, rfl, Nat.le_refl _, fun _ _ => rfl⟩
  have HBB : Hid (∃ BB, prKs 3 e.kids = [BB]) := hbb
  have HSg : Hid (sgn e.k = 63) := by unfold Hid; rw [hk]; rfl
  have hs1 : IntKind.i64.wrap (e.k - 7) = 2 := by rw [hk]; rfl
  have hs2 : wrap64 (e.k - 7) = 2 := by rw [hk]; unfold wrap64; omega
  clear hbb
  have q1 : (e.k == 1) = false := by simp [hk]
  have q2 : (e.k == 2) = false := by simp [hk]
  have q3 : (e.k == 3) = false := by simp [hk]
  have q4 : (e.k == 4) = false := by simp [hk]
  have q5 : (e.k == 5) = false := by simp [hk]
  have q6 : (e.k == 6) = false := by simp [hk]
  have q10 : (e.k == 10) = false := by simp [hk]
  have q11 : (e.k == 11) = false := by simp [hk]
  have q99 : decide (10 ≤ e.k) = false := by simp; omega
  rw [val_eq]
  clear hk hpr hB bE hin hrp hpl
  go_enter Try.func28, Try.ntmps28
  go_wp2_with fail
  go_loopw [3, 14] (fun p q wr => ∃ (i : Nat) (ao : Option Addr) (co : Nat), p = .slice ao i co ∧ q = .int .i64 i ∧ i ≤ e.kids.length ∧ Hid (Ss wr (w.heap.size + 1) p (sts (prKs 3 (e.kids.take i))) ∧ Below (w.heap.size + 1) (w.alloc (.cells e.cells 46)) wr)) (fun _ q _ => e.kids.length - (intOf q).toNat)
  case atStart => exact ⟨0, none, 0, rfl, rfl, Nat.zero_le _, World.ownsRow_nil _ _ _ _, by rw [cells_eq]; exact Below.refl _ _⟩
  case round =>
    obtain ⟨i, ao, co, rfl, rfl, hil, HQ⟩ := hrel
    by_cases hend : i = e.kids.length
    · have cE := (HB.out.2.1.below HQ.out.2 (by omega)).cell
      rw [cells_eq] at cE
      subst hend
      have hS := HQ.out.1
      rw [List.take_length] at hS
      have HBw : Hid (Below w.heap.size w wr) := HB.out.1.trans (HQ.out.2.mono (by omega))
      obtain ⟨BB, hBB⟩ : ∃ BB, prKs 3 e.kids = [BB] := HBB.out
      rw [hBB] at hS hjl HR
      have hlen1 : e.kids.length = 1 := by have := prKs_length 3 e.kids; rw [hBB] at this; simpa using this.symm
      obtain ⟨g, cap, hv, -, hgl⟩ := World.ownsRow.form hS (by simp [sts])
      injection hv with e1 e2 e3
      subst e1 e3
      have hcl := hS.cells 0 (by simp [sts])
      simp only [sts, List.map_cons, List.map_nil, List.getD_cons_zero, Nat.add_zero] at hcl
      simp only [List.headD_cons] at hjl HR
      have hbs : (tba BB).size ≤ 1000000 := by rw [tba_size]; simp only [List.length_append, List.length_cons, List.length_nil] at hjl; omega
      have htb : tba (BB ++ [sgn e.k]) = tba BB ++ ⟨#[63]⟩ := by rw [HSg.out]; exact (tba_app BB [63]).symm
      rw [htb] at HR
      generalize tba BB = TB at *
      rw [hlen1]
      clear htb hBB hS hlen1
      have hwl : w.heap.size < wr.heap.size := by have := HQ.out.2.size; rw [hsz1] at this; omega
      go_wp2_with fail
      go_region
      go_wp2_with fail
      go_ret
      exact ⟨ret_str HR.out, (HBw.out.alloc HBw.out.size _).drew⟩
    · have hlt : i < e.kids.length := by omega
      clear hend
      obtain ⟨x, hx⟩ : ∃ x, e.kids[i]? = some x := ⟨_, List.getElem?_eq_getElem hlt⟩
      have hmem := List.mem_of_getElem? hx
      have hB1 := HQ.out.2
      obtain ⟨⟨b, o, ha, hb, hc⟩, hinx⟩ := (HB.out.2.2.below (hB1.mono (by omega))).kid hx
      have c0 := hc 0 (by omega)
      have c1 := hc 1 (by omega)
      have c2 := hc 2 (by omega)
      have c3 := hc 3 (by omega)
      have c4 := hc 4 (by omega)
      have c5 := hc 5 (by omega)
      have c6 := hc 6 (by omega)
      rw [cells_eq] at c0 c1 c2 c3 c4 c5 c6
      simp only [List.getElem?_toArray, List.getElem?_cons_zero, List.getElem?_cons_succ, Nat.add_zero] at c0 c1 c2 c3 c4 c5 c6
      rw [ha]
      have HT : Hid (prKs 3 (e.kids.take (i + 1)) = prKs 3 (e.kids.take i) ++ [brk 3 x.k x.pr]) := prKs_take 3 e.kids i x hx
      have HN : Hid ((sts (prKs 3 (e.kids.take i))).length = i) := by unfold Hid; rw [sts_len, prKs_length, List.length_take]; omega
      have hA3 := (Below.refl _ wr).alloc (Nat.le_refl _) (.cells x.cells 46)
      have bX3 := BoxN.new wr 46 x.cells
      have hcall := HRp.out x hmem (wr.alloc (.cells x.cells 46)) ((hinx.below (hA3.mono (by have := hB1.size; rw [hsz1] at this; omega))).mono (by have := hB1.size; rw [hsz1] at this; simp; omega))
      have hxs : (tba x.pr).size ≤ 200000 := by have h1 := HPl.out x hmem; rw [tba_size]; omega
      have HBR : Hid (∀ T, tba x.pr = T → tba (brk 3 x.k x.pr) = if 3 ≤ tight x.k then T else (⟨#[40]⟩ ++ T) ++ ⟨#[41]⟩) := fun T hT => by subst hT; unfold brk; split; rfl; exact (by rw [← tba_app, ← tba_app]; rfl)
      have H4 : Hid (∀ {w4 : World}, Below (wr.alloc (.cells x.cells 46)).heap.size (wr.alloc (.cells x.cells 46)) w4 → BoxN w4 wr.heap.size 46 x.cells ∧ BoxN w4 w.heap.size 46 e.cells ∧ Ss w4 (w.heap.size + 1) (.slice ao i co) (sts (prKs 3 (e.kids.take i))) ∧ Below (w.heap.size + 1) (w.alloc (.cells e.cells 46)) w4) := fun hb4 => by
        have h1 := hA3.trans (hb4.mono (by simp))
        exact ⟨bX3.below hb4 (by simp), (HB.out.2.1.below hB1 (by omega)).below h1 (by have := (HB.out.2.1.below hB1 (by omega)).lt; omega), HQ.out.1.below h1, hB1.trans (h1.mono (by have := hB1.size; rw [hsz1] at this; omega))⟩
      generalize brk 3 x.k x.pr = BR at *
      obtain ⟨T, hT⟩ : ∃ T, tba x.pr = T := ⟨_, rfl⟩
      have HBR2 := HBR.out T hT
      rw [hT] at hcall hxs
      rw [val_eq, cells_eq] at hcall
      clear hT HBR hc hinx ha hb hx hmem hA3 bX3 hB1
      have hcase : (x.k = 6) ∨ (x.k = 5) ∨ (x.k = 10) ∨ (x.k = 11) ∨ (x.k ≠ 6 ∧ x.k ≠ 5 ∧ x.k ≠ 10 ∧ x.k ≠ 11) := by omega
      rcases hcase with hxk | hxk | hxk | hxk | hxk
      · have x6 : (x.k == 6) = true := by simp; omega
        have x5 : (x.k == 5) = false := by simp; omega
        have x10 : (x.k == 10) = false := by simp; omega
        have x11 : (x.k == 11) = false := by simp; omega
        have ht : tight x.k = 0 := by unfold tight; rw [if_pos hxk]
        rw [ht] at HBR2
        rw [if_neg (by omega)] at HBR2
        clear ht
        have HBR3 : Hid _ := HBR2
        clear HBR2 hxk
        go_wp2_with (go_at_call 28; refine hcall.mono ?_; clear hcall; rintro r w4 ⟨rfl, hb4⟩; rw [← cells_eq] at hb4; have k4 := H4.out hb4; have cX4 := k4.1.cell; have cE4 := k4.2.1.cell; rw [cells_eq] at cX4 cE4; clear hb4 H4)
        go_quiet (fail)
        go_wp2_with (at_builtin; refine wpList_append_own _ rfl _ _ 56 rfl (w.heap.size + 1) 9 i0 _ 1 16 Try.underlying56 hi hz0 hz1 hz2 rfl (by decide) _ _ _ rfl (World.ownsRow.alloc (hSdrew k4.2.2.1 _) (.cells #[.string ((⟨#[40]⟩ ++ T) ++ ⟨#[41]⟩)] 9)) ⟨w4.heap.size, 0, none⟩ 1 1 [.string ((⟨#[40]⟩ ++ T) ++ ⟨#[41]⟩)] rfl rfl ?a1 ?a2 ?a3 ?a4 ?a5 ?_)
        case a1 => intro j u hu; match j, hu with | 0, hu => (simp at hu; subst hu; exact (BoxN.new (w4.drewN nq) 9 #[.string ((⟨#[40]⟩ ++ T) ++ ⟨#[41]⟩)]).cell 0)
        case a2 => intro u hu; simp at hu; subst hu; rfl
        case a3 => rw [HN.out]; unfold maxLen; omega
        case a4 => rw [HN.out]; omega
        case a5 => have := k4.2.2.2.size; rw [hsz1] at this; simp; omega
        intro v8 w8 hown8 hgrow8 _
        rw [HN.out] at hown8
        obtain ⟨g8, cap8, rfl, -, -⟩ := World.ownsRow.form hown8 (by omega)
        have hB8 := (Below.alloc (k4.2.2.2.trans (hdrw w4 nq)) (by have := k4.2.2.2.size; rw [hsz1] at this; exact this) (.cells #[.string ((⟨#[40]⟩ ++ T) ++ ⟨#[41]⟩)] 9)).grown hgrow8 (by have := k4.2.2.2.size; rw [hsz1] at this; simp; omega) (fun q hq => (World.ownsRow.lt k4.2.2.1 q hq).1)
        have HQ8 : Hid (Ss w8 (w.heap.size + 1) (.slice (some ⟨g8, 0, none⟩) (i + 1) cap8) (sts (prKs 3 (e.kids.take (i + 1)))) ∧ Below (w.heap.size + 1) (w.alloc (.cells e.cells 46)) w8) := by
          refine ⟨?_, hB8⟩
          unfold Ss sts
          rw [HT.out, List.map_append, List.map_cons, List.map_nil, HBR3.out, List.length_append, List.length_map, ← List.length_map (f := tba)]
          have h1 := HN.out
          unfold sts at h1 hown8
          rw [h1]
          simpa [scs] using hown8
        clear hown8 hgrow8 hB8 k4 cX4 cE4
        go_wp2_with fail
        exact ⟨⟨i + 1, some ⟨g8, 0, none⟩, cap8, rfl, by go_num, by omega, HQ8⟩, by simp [intOf]; omega⟩
      · have x6 : (x.k == 6) = false := by simp; omega
        have x5 : (x.k == 5) = true := by simp; omega
        have x10 : (x.k == 10) = false := by simp; omega
        have x11 : (x.k == 11) = false := by simp; omega
        have ht : tight x.k = 1 := by unfold tight; rw [if_neg (by omega), if_pos hxk]
        rw [ht] at HBR2
        rw [if_neg (by omega)] at HBR2
        clear ht
        have HBR3 : Hid _ := HBR2
        clear HBR2 hxk
        go_wp2_with (go_at_call 28; refine hcall.mono ?_; clear hcall; rintro r w4 ⟨rfl, hb4⟩; rw [← cells_eq] at hb4; have k4 := H4.out hb4; have cX4 := k4.1.cell; have cE4 := k4.2.1.cell; rw [cells_eq] at cX4 cE4; clear hb4 H4)
        go_quiet (fail)
        go_wp2_with (at_builtin; refine wpList_append_own _ rfl _ _ 56 rfl (w.heap.size + 1) 9 i0 _ 1 16 Try.underlying56 hi hz0 hz1 hz2 rfl (by decide) _ _ _ rfl (World.ownsRow.alloc (hSdrew k4.2.2.1 _) (.cells #[.string ((⟨#[40]⟩ ++ T) ++ ⟨#[41]⟩)] 9)) ⟨w4.heap.size, 0, none⟩ 1 1 [.string ((⟨#[40]⟩ ++ T) ++ ⟨#[41]⟩)] rfl rfl ?b1 ?b2 ?b3 ?b4 ?b5 ?_)
        case b1 => intro j u hu; match j, hu with | 0, hu => (simp at hu; subst hu; exact (BoxN.new (w4.drewN nq) 9 #[.string ((⟨#[40]⟩ ++ T) ++ ⟨#[41]⟩)]).cell 0)
        case b2 => intro u hu; simp at hu; subst hu; rfl
        case b3 => rw [HN.out]; unfold maxLen; omega
        case b4 => rw [HN.out]; omega
        case b5 => have := k4.2.2.2.size; rw [hsz1] at this; simp; omega
        intro v8 w8 hown8 hgrow8 _
        rw [HN.out] at hown8
        obtain ⟨g8, cap8, rfl, -, -⟩ := World.ownsRow.form hown8 (by omega)
        have hB8 := (Below.alloc (k4.2.2.2.trans (hdrw w4 nq)) (by have := k4.2.2.2.size; rw [hsz1] at this; exact this) (.cells #[.string ((⟨#[40]⟩ ++ T) ++ ⟨#[41]⟩)] 9)).grown hgrow8 (by have := k4.2.2.2.size; rw [hsz1] at this; simp; omega) (fun q hq => (World.ownsRow.lt k4.2.2.1 q hq).1)
        have HQ8 : Hid (Ss w8 (w.heap.size + 1) (.slice (some ⟨g8, 0, none⟩) (i + 1) cap8) (sts (prKs 3 (e.kids.take (i + 1)))) ∧ Below (w.heap.size + 1) (w.alloc (.cells e.cells 46)) w8) := by
          refine ⟨?_, hB8⟩
          unfold Ss sts
          rw [HT.out, List.map_append, List.map_cons, List.map_nil, HBR3.out, List.length_append, List.length_map, ← List.length_map (f := tba)]
          have h1 := HN.out
          unfold sts at h1 hown8
          rw [h1]
          simpa [scs] using hown8
        clear hown8 hgrow8 hB8 k4 cX4 cE4
        go_wp2_with fail
        exact ⟨⟨i + 1, some ⟨g8, 0, none⟩, cap8, rfl, by go_num, by omega, HQ8⟩, by simp [intOf]; omega⟩
      · have x6 : (x.k == 6) = false := by simp; omega
        have x5 : (x.k == 5) = false := by simp; omega
        have x10 : (x.k == 10) = true := by simp; omega
        have x11 : (x.k == 11) = false := by simp; omega
        have ht : tight x.k = 2 := by unfold tight; rw [if_neg (by omega), if_neg (by omega), if_pos (by omega)]
        rw [ht] at HBR2
        rw [if_neg (by omega)] at HBR2
        clear ht
        have HBR3 : Hid _ := HBR2
        clear HBR2 hxk
        go_wp2_with (go_at_call 28; refine hcall.mono ?_; clear hcall; rintro r w4 ⟨rfl, hb4⟩; rw [← cells_eq] at hb4; have k4 := H4.out hb4; have cX4 := k4.1.cell; have cE4 := k4.2.1.cell; rw [cells_eq] at cX4 cE4; clear hb4 H4)
        go_quiet (fail)
        go_wp2_with (at_builtin; refine wpList_append_own _ rfl _ _ 56 rfl (w.heap.size + 1) 9 i0 _ 1 16 Try.underlying56 hi hz0 hz1 hz2 rfl (by decide) _ _ _ rfl (World.ownsRow.alloc (hSdrew k4.2.2.1 _) (.cells #[.string ((⟨#[40]⟩ ++ T) ++ ⟨#[41]⟩)] 9)) ⟨w4.heap.size, 0, none⟩ 1 1 [.string ((⟨#[40]⟩ ++ T) ++ ⟨#[41]⟩)] rfl rfl ?c1 ?c2 ?c3 ?c4 ?c5 ?_)
        case c1 => intro j u hu; match j, hu with | 0, hu => (simp at hu; subst hu; exact (BoxN.new (w4.drewN nq) 9 #[.string ((⟨#[40]⟩ ++ T) ++ ⟨#[41]⟩)]).cell 0)
        case c2 => intro u hu; simp at hu; subst hu; rfl
        case c3 => rw [HN.out]; unfold maxLen; omega
        case c4 => rw [HN.out]; omega
        case c5 => have := k4.2.2.2.size; rw [hsz1] at this; simp; omega
        intro v8 w8 hown8 hgrow8 _
        rw [HN.out] at hown8
        obtain ⟨g8, cap8, rfl, -, -⟩ := World.ownsRow.form hown8 (by omega)
        have hB8 := (Below.alloc (k4.2.2.2.trans (hdrw w4 nq)) (by have := k4.2.2.2.size; rw [hsz1] at this; exact this) (.cells #[.string ((⟨#[40]⟩ ++ T) ++ ⟨#[41]⟩)] 9)).grown hgrow8 (by have := k4.2.2.2.size; rw [hsz1] at this; simp; omega) (fun q hq => (World.ownsRow.lt k4.2.2.1 q hq).1)
        have HQ8 : Hid (Ss w8 (w.heap.size + 1) (.slice (some ⟨g8, 0, none⟩) (i + 1) cap8) (sts (prKs 3 (e.kids.take (i + 1)))) ∧ Below (w.heap.size + 1) (w.alloc (.cells e.cells 46)) w8) := by
          refine ⟨?_, hB8⟩
          unfold Ss sts
          rw [HT.out, List.map_append, List.map_cons, List.map_nil, HBR3.out, List.length_append, List.length_map, ← List.length_map (f := tba)]
          have h1 := HN.out
          unfold sts at h1 hown8
          rw [h1]
          simpa [scs] using hown8
        clear hown8 hgrow8 hB8 k4 cX4 cE4
        go_wp2_with fail
        exact ⟨⟨i + 1, some ⟨g8, 0, none⟩, cap8, rfl, by go_num, by omega, HQ8⟩, by simp [intOf]; omega⟩
      · have x6 : (x.k == 6) = false := by simp; omega
        have x5 : (x.k == 5) = false := by simp; omega
        have x10 : (x.k == 10) = false := by simp; omega
        have x11 : (x.k == 11) = true := by simp; omega
        have ht : tight x.k = 2 := by unfold tight; rw [if_neg (by omega), if_neg (by omega), if_pos (by omega)]
        rw [ht] at HBR2
        rw [if_neg (by omega)] at HBR2
        clear ht
        have HBR3 : Hid _ := HBR2
        clear HBR2 hxk
        go_wp2_with (go_at_call 28; refine hcall.mono ?_; clear hcall; rintro r w4 ⟨rfl, hb4⟩; rw [← cells_eq] at hb4; have k4 := H4.out hb4; have cX4 := k4.1.cell; have cE4 := k4.2.1.cell; rw [cells_eq] at cX4 cE4; clear hb4 H4)
        go_quiet (fail)
        go_wp2_with (at_builtin; refine wpList_append_own _ rfl _ _ 56 rfl (w.heap.size + 1) 9 i0 _ 1 16 Try.underlying56 hi hz0 hz1 hz2 rfl (by decide) _ _ _ rfl (World.ownsRow.alloc (hSdrew k4.2.2.1 _) (.cells #[.string ((⟨#[40]⟩ ++ T) ++ ⟨#[41]⟩)] 9)) ⟨w4.heap.size, 0, none⟩ 1 1 [.string ((⟨#[40]⟩ ++ T) ++ ⟨#[41]⟩)] rfl rfl ?d1 ?d2 ?d3 ?d4 ?d5 ?_)
        case d1 => intro j u hu; match j, hu with | 0, hu => (simp at hu; subst hu; exact (BoxN.new (w4.drewN nq) 9 #[.string ((⟨#[40]⟩ ++ T) ++ ⟨#[41]⟩)]).cell 0)
        case d2 => intro u hu; simp at hu; subst hu; rfl
        case d3 => rw [HN.out]; unfold maxLen; omega
        case d4 => rw [HN.out]; omega
        case d5 => have := k4.2.2.2.size; rw [hsz1] at this; simp; omega
        intro v8 w8 hown8 hgrow8 _
        rw [HN.out] at hown8
        obtain ⟨g8, cap8, rfl, -, -⟩ := World.ownsRow.form hown8 (by omega)
        have hB8 := (Below.alloc (k4.2.2.2.trans (hdrw w4 nq)) (by have := k4.2.2.2.size; rw [hsz1] at this; exact this) (.cells #[.string ((⟨#[40]⟩ ++ T) ++ ⟨#[41]⟩)] 9)).grown hgrow8 (by have := k4.2.2.2.size; rw [hsz1] at this; simp; omega) (fun q hq => (World.ownsRow.lt k4.2.2.1 q hq).1)
        have HQ8 : Hid (Ss w8 (w.heap.size + 1) (.slice (some ⟨g8, 0, none⟩) (i + 1) cap8) (sts (prKs 3 (e.kids.take (i + 1)))) ∧ Below (w.heap.size + 1) (w.alloc (.cells e.cells 46)) w8) := by
          refine ⟨?_, hB8⟩
          unfold Ss sts
          rw [HT.out, List.map_append, List.map_cons, List.map_nil, HBR3.out, List.length_append, List.length_map, ← List.length_map (f := tba)]
          have h1 := HN.out
          unfold sts at h1 hown8
          rw [h1]
          simpa [scs] using hown8
        clear hown8 hgrow8 hB8 k4 cX4 cE4
        go_wp2_with fail
        exact ⟨⟨i + 1, some ⟨g8, 0, none⟩, cap8, rfl, by go_num, by omega, HQ8⟩, by simp [intOf]; omega⟩
      · have x6 : (x.k == 6) = false := by simp; omega
        have x5 : (x.k == 5) = false := by simp; omega
        have x10 : (x.k == 10) = false := by simp; omega
        have x11 : (x.k == 11) = false := by simp; omega
        have ht : tight x.k = 3 := by unfold tight; rw [if_neg (by omega), if_neg (by omega), if_neg (by omega)]
        rw [ht] at HBR2
        rw [if_pos (by omega)] at HBR2
        clear ht
        have HBR3 : Hid _ := HBR2
        clear HBR2 hxk
        go_wp2_with (go_at_call 28; refine hcall.mono ?_; clear hcall; rintro r w4 ⟨rfl, hb4⟩; rw [← cells_eq] at hb4; have k4 := H4.out hb4; have cX4 := k4.1.cell; have cE4 := k4.2.1.cell; rw [cells_eq] at cX4 cE4; clear hb4 H4)
        go_quiet (fail)
        go_wp2_with (at_builtin; refine wpList_append_own _ rfl _ _ 56 rfl (w.heap.size + 1) 9 i0 _ 1 16 Try.underlying56 hi hz0 hz1 hz2 rfl (by decide) _ _ _ rfl (World.ownsRow.alloc (hSdrew k4.2.2.1 _) (.cells #[.string T] 9)) ⟨w4.heap.size, 0, none⟩ 1 1 [.string T] rfl rfl ?f1 ?f2 ?f3 ?f4 ?f5 ?_)
        case f1 => intro j u hu; match j, hu with | 0, hu => (simp at hu; subst hu; exact (BoxN.new (w4.drewN nq) 9 #[.string T]).cell 0)
        case f2 => intro u hu; simp at hu; subst hu; rfl
        case f3 => rw [HN.out]; unfold maxLen; omega
        case f4 => rw [HN.out]; omega
        case f5 => have := k4.2.2.2.size; rw [hsz1] at this; simp; omega
        intro v8 w8 hown8 hgrow8 _
        rw [HN.out] at hown8
        obtain ⟨g8, cap8, rfl, -, -⟩ := World.ownsRow.form hown8 (by omega)
        have hB8 := (Below.alloc (k4.2.2.2.trans (hdrw w4 nq)) (by have := k4.2.2.2.size; rw [hsz1] at this; exact this) (.cells #[.string T] 9)).grown hgrow8 (by have := k4.2.2.2.size; rw [hsz1] at this; simp; omega) (fun q hq => (World.ownsRow.lt k4.2.2.1 q hq).1)
        have HQ8 : Hid (Ss w8 (w.heap.size + 1) (.slice (some ⟨g8, 0, none⟩) (i + 1) cap8) (sts (prKs 3 (e.kids.take (i + 1)))) ∧ Below (w.heap.size + 1) (w.alloc (.cells e.cells 46)) w8) := by
          refine ⟨?_, hB8⟩
          unfold Ss sts
          rw [HT.out, List.map_append, List.map_cons, List.map_nil, HBR3.out, List.length_append, List.length_map, ← List.length_map (f := tba)]
          have h1 := HN.out
          unfold sts at h1 hown8
          rw [h1]
          simpa [scs] using hown8
        clear hown8 hgrow8 hB8 k4 cX4 cE4
        go_wp2_with fail
        exact ⟨⟨i + 1, some ⟨g8, 0, none⟩, cap8, rfl, by go_num, by omega, HQ8⟩, by simp [intOf]; omega⟩
end Go.Proofs.Ytbeohmcmphebhaa
