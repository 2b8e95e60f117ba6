import Derived.Test.YtbeohmcmphebhaaDoorXURunclass
namespace Go.Proofs.YtbeohmcmphebhaaDoor
open Go.RowKit
attribute [local go_sem] setCell_drewN alloc_drewN
theorem kept_start (w : World) (oth : Bool) : Kept w (((w.alloc (.cells #[.int .u64 0, .int .u64 0, .int .u64 0, .int .u64 0] 24)).alloc (.cells #[.bool oth] 4)).alloc (.cells #[.slice none 0 0] 88)).drew oth (.slice none 0 0) [] := by
  refine ⟨((((Below.refl _ _).alloc (Nat.le_refl _) _).alloc (by simp) _).alloc (by simp; omega) _).drew, ((((Blk.new w _ _).alloc _)).alloc _).drew, ?_, ?_, World.ownsRow_nil _ _ _ _⟩
  · have h := ((Blk.new (w.alloc (.cells #[.int .u64 0, .int .u64 0, .int .u64 0, .int .u64 0] 24)) #[.bool oth] 4).alloc (.cells #[.slice none 0 0] 88)).drew
    simpa using h
  · have h := (Blk.new ((w.alloc (.cells #[.int .u64 0, .int .u64 0, .int .u64 0, .int .u64 0] 24)).alloc (.cells #[.bool oth] 4)) #[.slice none 0 0] 88).drew
    simpa using h
set_option maxRecDepth 20000 in
set_option maxHeartbeats 8000000 in
theorem runclass_yes (s : ByteArray) (w : World) (hs : s.size ≤ 2000000) (h91 : s.data.toList.headD 0 = 91) (R : Option (BitVec 256 × Nat)) (hR : unclass s.data.toList = R) :
    Calls Tryd.prog 30 #[.string s] w fun e w' => e = .returned (.tuple #[.agg #[.int .u64 (wd (kS R) 0), .int .u64 (wd (kS R) 1), .int .u64 (wd (kS R) 2), .int .u64 (wd (kS R) 3)], .int .i64 (kN R), .int .i64 (kE R)]) ∧ Below w.heap.size w w' := by
  obtain ⟨i0, hi, hz0, hz1, hz2⟩ := info_parts Tryd.info89
  have h0 : s.size ≠ 0 := fun e => by rw [empty_of s e] at h91; exact absurd h91 (by decide)
  have he := nonempty s h0
  have h1 : 0 < s.size := by omega
  have h1' : (0 : Int) < s.size := by omega
  have e91 : s[0].toNat = 91 := by have := headD_at s 0 h1; rw [List.drop_zero, h91] at this; rw [← this]; rfl
  have hx : ((s[0].toNat : Int) != 91) = false := by simp; omega
  have hn := uc_of_none s.data.toList h91
  have hsome := uc_of_some s.data.toList h91
  rw [hR, llen] at hsome
  rw [hR] at hn
  rw [within_at] at hn hsome
  have hoth : (∃ h : 1 < s.size, others s.data.toList = decide (s[1].toNat = 94)) ∨ (¬ 1 < s.size ∧ others s.data.toList = false) := by
    by_cases h : 1 < s.size
    · exact .inl ⟨h, oth_yes s h⟩
    · exact .inr ⟨h, oth_no s h⟩
  generalize others s.data.toList = oth at *
  obtain ⟨K0, hK0⟩ : ∃ K0 : Nat, K0 = if oth then 2 else 1 := ⟨_, rfl⟩
  rw [← hK0] at hn hsome
  generalize hX : ucl (s.data.toList.drop K0) 0#256 = X at *
  have HX0 : Hid (ucl (s.data.toList.drop K0) (setOf []) = X) := by rw [setOf_nil]; exact hX
  have HN : Hid (X = none → R = none) := hn
  have HS : Hid (∀ acc m, X = some (acc, m) → R = some (if oth then ~~~acc else acc, s.size - m + 1)) := hsome
  clear hn hsome e91 hR h91 hX
  have hstart : (oth = false ∧ K0 = 1 ∧ ((∃ h : 1 < s.size, ((s[1].toNat : Int) == 94) = false) ∨ ¬ 1 < s.size)) ∨ (oth = true ∧ K0 = 2 ∧ ∃ h : 1 < s.size, ((s[1].toNat : Int) == 94) = true) := by
    rcases hoth with ⟨h, ho⟩ | ⟨h, rfl⟩
    · cases oth
      · exact .inl ⟨rfl, hK0, .inl ⟨h, by have := of_decide_eq_false ho.symm; simp; omega⟩⟩
      · exact .inr ⟨rfl, hK0, h, by have := of_decide_eq_true ho.symm; simp; omega⟩
    · exact .inl ⟨rfl, hK0, .inr h⟩
  clear hoth hK0
  have d1 : 1 < s.size → decide ((1 : Int) < (s.size : Int)) = true := fun h => by simp; omega
  have d1' : ¬ 1 < s.size → decide ((1 : Int) < (s.size : Int)) = false := fun h => by simp; omega
  have hk1 : K0 ≤ s.size := by rcases hstart with ⟨_, h, _⟩ | ⟨_, h, h2, _⟩ <;> omega
  rcases hstart with ⟨rfl, rfl, ⟨h2, h3⟩ | h2⟩ | ⟨rfl, rfl, h2, h3⟩
  · have h4 := d1 h2
    have h5 : (1 : Int) < (s.size : Int) := by omega
    clear d1 d1'
    have hK := kept_start w false
    go_enter Tryd.func30, Tryd.ntmps30
    go_wp2_with fail
    go_region
    go_wp2_with fail
    go_loopw [6, 9, 10, 11] (fun i _ _ _ wx => ∃ (k : Nat) (v : Value) (l : List (Nat × Nat)), i = .int .i64 k ∧ 1 ≤ k ∧ k ≤ s.size ∧ l.length ≤ k ∧ Hid (ucl (s.data.toList.drop k) (setOf l) = X) ∧ Kept w wx false v l) (fun i _ _ _ _ => s.size - (intOf i).toNat)
    case atStart => exact ⟨1, _, [], rfl, by omega, by omega, by simp, HX0, hK⟩
    case round =>
      clear HX0 hK
      obtain ⟨k, v, l, rfl, hk, hk2, hl, HX, hK⟩ := hrel
      have hk0 : (0 : Int) ≤ (k : Int) := by omega
      by_cases hlt : k < s.size
      · have dl : decide (k < s.size) = true := by simp; omega
        have dl' : decide ((k : Int) < (s.size : Int)) = true := by simp; omega
        have hlt' : (k : Int) < (s.size : Int) := by omega
        by_cases h93 : s[k].toNat = 93
        · obtain ⟨T, hT⟩ : ∃ T, (if false then ~~~(setOf l) else setOf l) = T := ⟨_, rfl⟩
          have HR : Hid (R = some (T, s.size - (s.size - k) + 1)) := by rw [← hT]; exact HS.out _ _ (HX.out.symm.trans (ucl_93 s k _ hlt h93))
          have hx3 : ((s[k].toNat : Int) != 93) = false := by simp; omega
          have dg : decide (s.size ≤ k) = false := by simp; omega
          have HT : Hid ((if false then ~~~(setOf l) else setOf l) = T) := hT
          clear HN HS HX h93 hT
          go_wp2_with fail
          refine (set26 l v (w.heap.size + 3) (w.heap.size + 1 + 1) (w.heap.size + 1) false _ hK.pairs (by unfold IsBox; rw [hK.sp.cell]; rfl) (by unfold IsBox; rw [hK.no.cell]; rfl) hK.sp.lt hK.no.lt (by omega) T HT.out).mono ?_
          rintro e w2 ⟨rfl, hb2⟩
          have hK2 := hK.call hb2
          have hcR2 := hK2.res.cell
          have hfR2 := hK2.res.frozen
          have hltR2 := hK2.res.lt
          have hB2 := hK2.B
          clear hK hK2 hb2 HT
          go_wp2_with fail
          exact bodyPost_ret (v := .tuple #[.agg #[.int .u64 (wd T 0), .int .u64 (wd T 1), .int .u64 (wd T 2), .int .u64 (wd T 3)], .int .i64 ((k : Int) + 1), .int .i64 0]) (by simp [results, Tryd.results30, go_sem, hcR2]) rfl ⟨ret_k (by rw [HR.out]; rfl) (by rw [HR.out]; show _ = ((s.size - (s.size - k) + 1 : Nat) : Int); omega) (by rw [HR.out]; rfl), (((hB2.setCell (by simp) _).setCell (by simp) _).setCell (by simp) _).setCell (by simp) _⟩
        · have hx3 : ((s[k].toNat : Int) != 93) = true := by simp; omega
          have hP := signAt_lt cg (s.data.toList.drop k)
          rw [List.length_drop, llen] at hP
          generalize hPP : signAt cg (s.data.toList.drop k) = P at *
          have HP : Hid (signAt cg (s.data.toList.drop k) = P) := hPP
          clear hPP
          by_cases hz : P.2 = 0
          · have HR : Hid (R = none) := HN.out (HX.out.symm.trans (u_none s k _ hlt h93 (by rw [HP.out]; exact hz)))
            have hq : ((P.2 : Int) == 0) = true := by simp; omega
            clear HN HS HX h93 hz
            go_wp2_with fail
            refine (said_any (s.extract k s.size) ⟨#[91, 93, 45, 94, 92]⟩ _ (by unfold maxLen; have := cut_size s k; omega) gd_cg_lt).mono ?_
            rintro e w1 ⟨rfl, hb1⟩
            rw [cut_list, show signAt (⟨#[91, 93, 45, 94, 92]⟩ : ByteArray).data.toList (s.data.toList.drop k) = P from HP.out]
            have hK1 := hK.call hb1
            have hsp1 := hK1.sp.cell
            have hspf1 := hK1.sp.frozen
            have hspl1 := hK1.sp.lt
            clear hK hb1
            go_wp2_with fail
            refine (bad_any _).mono ?_
            rintro e w9 ⟨rfl, hb9⟩
            have hK9 := hK1.call hb9
            have hcR9 := hK9.res.cell
            have hfR9 := hK9.res.frozen
            have hltR9 := hK9.res.lt
            have hB9 := hK9.B
            clear hK9 hb9
            go_wp2_with fail
            exact bodyPost_ret (v := .tuple #[.agg #[.int .u64 0, .int .u64 0, .int .u64 0, .int .u64 0], .int .i64 0, .int .i64 4]) (by simp [results, Tryd.results30, go_sem, hcR9]) rfl ⟨by rw [HR.out]; simp only [kS, kN, kE, wd_zeroU], (((hB9.setCell (by simp) _).setCell (by simp) _).setCell (by simp) _).setCell (by simp) _⟩
          · have hq : ((P.2 : Int) == 0) = false := by simp; omega
            by_cases hc : k + P.2 + 1 < s.size
            · by_cases h45 : s[k + P.2].toNat = 45
              · by_cases h93b : s[k + P.2 + 1].toNat = 93
                · have hdash : dash (s.data.toList.drop (k + P.2)) = false := by rw [dash_at s (k + P.2) hc, decide_eq_true h93b]; simp
                  have c1 : decide ((k : Int) + (P.2 : Int) + 1 < (s.size : Int)) = true := by simp; omega
                  have c2 : ((s[k + P.2].toNat : Int) == 45) = true := by simp; omega
                  have c3 : ((s[k + P.2 + 1].toNat : Int) != 93) = false := by simp; omega
                  have c0 : (k : Int) + (P.2 : Int) < (s.size : Int) := by omega
                  have c4 : (k : Int) + (P.2 : Int) + 1 < (s.size : Int) := by omega
                  clear h45 h93b
                  have HXN : Hid (ucl (s.data.toList.drop (k + P.2)) (setOf (l ++ [(P.1, P.1)])) = X) := (u_single s k l hlt h93 P HP.out hz hdash).symm.trans HX.out
                  clear HN HS HX h93 hdash
                  go_wp2_with fail
                  refine (said_any (s.extract k s.size) ⟨#[91, 93, 45, 94, 92]⟩ _ (by unfold maxLen; have := cut_size s k; omega) gd_cg_lt).mono ?_
                  rintro e w1 ⟨rfl, hb1⟩
                  rw [cut_list, show signAt (⟨#[91, 93, 45, 94, 92]⟩ : ByteArray).data.toList (s.data.toList.drop k) = P from HP.out]
                  have hK1 := hK.call hb1
                  have hsp1 := hK1.sp.cell
                  have hspf1 := hK1.sp.frozen
                  have hspl1 := hK1.sp.lt
                  clear hK hb1
                  go_wp2_with (at_builtin; refine wpList_append_own _ rfl _ _ 88 rfl (w.heap.size + 3) 89 i0 (.agg #[.int .i64 0, .int .i64 0]) 2 16 Tryd.underlying88 hi hz0 hz1 hz2 rfl (by decide) _ _ _ rfl (World.ownsRow.alloc hK1.pairs _) ⟨w1.heap.size, 0, none⟩ 1 1 [.int .i64 (P.1 : Int), .int .i64 (P.1 : Int)] rfl rfl ?c1 ?c2 ?c3 ?c4 ?c5 ?_)
                  case c1 =>
                    intro j u hj
                    match j, hj with
                    | 0, hj => simp at hj; subst hj; simp [Addr.add]
                    | 1, hj => simp at hj; subst hj; simp [Addr.add]
                  case c2 => intro u hu; simp at hu; rcases hu with rfl | rfl <;> rfl
                  case c3 => unfold maxLen; omega
                  case c4 => omega
                  case c5 => simp; omega
                  intro v' w5 hown5 hgrow _
                  obtain ⟨gg, cap, rfl, -⟩ := World.ownsRow.form hown5 (by omega)
                  have hown6 : Pairs w5 (w.heap.size + 3) (Value.slice (some ⟨gg, 0, none⟩) (l.length + 1) cap) (l ++ [(P.1, P.1)]) := by unfold Pairs; rw [pcs_app, List.length_append]; exact hown5
                  have hrow : ∀ q, v.ownBlock = some q → w.heap.size + 3 ≤ q := fun q hq => (World.ownsRow.lt hK1.pairs q hq).1
                  have hres5 := (hK1.res.alloc (.cells #[.int .i64 (P.1 : Int), .int .i64 (P.1 : Int)] 89)).grown hgrow (fun e => by have := hrow _ e.symm; omega)
                  have hno5 := (hK1.no.alloc (.cells #[.int .i64 (P.1 : Int), .int .i64 (P.1 : Int)] 89)).grown hgrow (fun e => by have := hrow _ e.symm; omega)
                  have hsp5 := (hK1.sp.alloc (.cells #[.int .i64 (P.1 : Int), .int .i64 (P.1 : Int)] 89)).grown hgrow (fun e => by have := hrow _ e.symm; omega)
                  have hB5 := (hK1.B.alloc hK1.B.size (.cells #[.int .i64 (P.1 : Int), .int .i64 (P.1 : Int)] 89)).grown hgrow (by have := hK1.B.size; simp; omega) (fun q hq => by have := hrow q hq; omega)
                  have hsc5 := hsp5.cell
                  have hsf5 := hsp5.frozen
                  have hsl5 := hsp5.lt
                  have HK : Hid (Kept w (w5.setCell ⟨w.heap.size + 1 + 1, 0, none⟩ (Value.slice (some ⟨gg, 0, none⟩) (l.length + 1) cap)) false (Value.slice (some ⟨gg, 0, none⟩) (l.length + 1) cap) (l ++ [(P.1, P.1)])) := ⟨hB5.setCell (p := ⟨w.heap.size + 1 + 1, 0, none⟩) (show w.heap.size ≤ w.heap.size + 1 + 1 by omega) _, hres5.other 0 (Value.slice (some ⟨gg, 0, none⟩) (l.length + 1) cap) (by omega), hno5.other 0 (Value.slice (some ⟨gg, 0, none⟩) (l.length + 1) cap) (by omega), hsp5.set 0 (Value.slice (some ⟨gg, 0, none⟩) (l.length + 1) cap), hown6.other 0 (Value.slice (some ⟨gg, 0, none⟩) (l.length + 1) cap) (by omega)⟩
                  clear hrow hown5 hown6 hgrow hres5 hno5 hsp5 hB5 hK1
                  go_wp2_with fail
                  exact ⟨⟨k + P.2, (Value.slice (some ⟨gg, 0, none⟩) (l.length + 1) cap), l ++ [(P.1, P.1)], by go_num, by omega, by omega, by rw [List.length_append, List.length_singleton]; omega, HXN, HK.out⟩, by simp [intOf]; omega⟩
                · have hdash : dash (s.data.toList.drop (k + P.2)) = true := by rw [dash_at s (k + P.2) hc, decide_eq_true h45, decide_eq_false h93b]; rfl
                  have c1 : decide ((k : Int) + (P.2 : Int) + 1 < (s.size : Int)) = true := by simp; omega
                  have c2 : ((s[k + P.2].toNat : Int) == 45) = true := by simp; omega
                  have c3 : ((s[k + P.2 + 1].toNat : Int) != 93) = true := by simp; omega
                  have c0 : (k : Int) + (P.2 : Int) < (s.size : Int) := by omega
                  have c4 : (k : Int) + (P.2 : Int) + 1 < (s.size : Int) := by omega
                  have c5 : (k : Int) + (P.2 : Int) + 1 ≤ (s.size : Int) := by omega
                  have hQ := signAt_lt cg (s.data.toList.drop (k + P.2 + 1))
                  rw [List.length_drop, llen] at hQ
                  have hub := u_bad s k (setOf l) hlt h93 P
                  have hup := u_pair s k l hlt h93 P
                  generalize hQQ : signAt cg (s.data.toList.drop (k + P.2 + 1)) = Q at *
                  have HQ : Hid (signAt cg (s.data.toList.drop (k + P.2 + 1)) = Q) := hQQ
                  have hbad := hub Q HP.out hz hdash rfl
                  have hpair := hup Q HP.out hz hdash rfl
                  clear hub hup hQQ h45 h93b h93 hdash
                  by_cases hb : Q.2 = 0 ∨ Q.1 < P.1
                  · have HR : Hid (R = none) := HN.out (HX.out.symm.trans (hbad hb))
                    have hor : ((Q.2 : Int) == 0) = true ∨ (((Q.2 : Int) == 0) = false ∧ decide (Q.1 < P.1) = true) := by
                      by_cases e : Q.2 = 0
                      · left; simp; omega
                      · right; simp; omega
                    clear hbad hpair HN HS HX hb
                    rcases hor with q1 | ⟨q1, q2⟩
                    all_goals
                      go_wp2_with fail
                      refine (said_any (s.extract k s.size) ⟨#[91, 93, 45, 94, 92]⟩ _ (by unfold maxLen; have := cut_size s k; omega) gd_cg_lt).mono ?_
                      rintro e w1 ⟨rfl, hb1⟩
                      rw [cut_list, show signAt (⟨#[91, 93, 45, 94, 92]⟩ : ByteArray).data.toList (s.data.toList.drop k) = P from HP.out]
                      have hK1 := hK.call hb1
                      have hsp1 := hK1.sp.cell
                      have hspf1 := hK1.sp.frozen
                      have hspl1 := hK1.sp.lt
                      clear hK hb1
                      go_wp2_with fail
                      refine (said_any (s.extract (k + P.2 + 1) s.size) ⟨#[91, 93, 45, 94, 92]⟩ _ (by unfold maxLen; have := cut_size s (k + P.2 + 1); omega) gd_cg_lt).mono ?_
                      rintro e w2 ⟨rfl, hb2⟩
                      rw [cut_list, show signAt (⟨#[91, 93, 45, 94, 92]⟩ : ByteArray).data.toList (s.data.toList.drop (k + P.2 + 1)) = Q from HQ.out]
                      have hK2 := hK1.call hb2
                      have hsp2 := hK2.sp.cell
                      have hspf2 := hK2.sp.frozen
                      have hspl2 := hK2.sp.lt
                      clear hK1 hb2 hsp1 hspf1 hspl1
                      go_wp2_with fail
                      refine (bad_any _).mono ?_
                      rintro e w9 ⟨rfl, hb9⟩
                      have hK9 := hK2.call hb9
                      have hcR9 := hK9.res.cell
                      have hfR9 := hK9.res.frozen
                      have hltR9 := hK9.res.lt
                      have hB9 := hK9.B
                      clear hK9 hb9
                      go_wp2_with fail
                      exact bodyPost_ret (v := .tuple #[.agg #[.int .u64 0, .int .u64 0, .int .u64 0, .int .u64 0], .int .i64 0, .int .i64 4]) (by simp [results, Tryd.results30, go_sem, hcR9]) rfl ⟨by rw [HR.out]; simp only [kS, kN, kE, wd_zeroU], (((hB9.setCell (by simp) _).setCell (by simp) _).setCell (by simp) _).setCell (by simp) _⟩
                  · have HXN : Hid (ucl (s.data.toList.drop (k + P.2 + (Q.2 + 1))) (setOf (l ++ [(P.1, Q.1)])) = X) := (hpair (by omega) (by omega)).symm.trans HX.out
                    have q1 : ((Q.2 : Int) == 0) = false := by simp; omega
                    have q2 : decide (Q.1 < P.1) = false := by simp; omega
                    clear hbad hpair HN HS HX hb
                    go_wp2_with fail
                    refine (said_any (s.extract k s.size) ⟨#[91, 93, 45, 94, 92]⟩ _ (by unfold maxLen; have := cut_size s k; omega) gd_cg_lt).mono ?_
                    rintro e w1 ⟨rfl, hb1⟩
                    rw [cut_list, show signAt (⟨#[91, 93, 45, 94, 92]⟩ : ByteArray).data.toList (s.data.toList.drop k) = P from HP.out]
                    have hK1 := hK.call hb1
                    have hsp1 := hK1.sp.cell
                    have hspf1 := hK1.sp.frozen
                    have hspl1 := hK1.sp.lt
                    clear hK hb1
                    go_wp2_with fail
                    refine (said_any (s.extract (k + P.2 + 1) s.size) ⟨#[91, 93, 45, 94, 92]⟩ _ (by unfold maxLen; have := cut_size s (k + P.2 + 1); omega) gd_cg_lt).mono ?_
                    rintro e w2 ⟨rfl, hb2⟩
                    rw [cut_list, show signAt (⟨#[91, 93, 45, 94, 92]⟩ : ByteArray).data.toList (s.data.toList.drop (k + P.2 + 1)) = Q from HQ.out]
                    have hK2 := hK1.call hb2
                    have hsp2 := hK2.sp.cell
                    have hspf2 := hK2.sp.frozen
                    have hspl2 := hK2.sp.lt
                    clear hK1 hb2 hsp1 hspf1 hspl1
                    go_wp2_with (at_builtin; refine wpList_append_own _ rfl _ _ 88 rfl (w.heap.size + 3) 89 i0 (.agg #[.int .i64 0, .int .i64 0]) 2 16 Tryd.underlying88 hi hz0 hz1 hz2 rfl (by decide) _ _ _ rfl (World.ownsRow.alloc hK2.pairs _) ⟨w2.heap.size, 0, none⟩ 1 1 [.int .i64 (P.1 : Int), .int .i64 (Q.1 : Int)] rfl rfl ?c1 ?c2 ?c3 ?c4 ?c5 ?_)
                    case c1 =>
                      intro j u hj
                      match j, hj with
                      | 0, hj => simp at hj; subst hj; simp [Addr.add]
                      | 1, hj => simp at hj; subst hj; simp [Addr.add]
                    case c2 => intro u hu; simp at hu; rcases hu with rfl | rfl <;> rfl
                    case c3 => unfold maxLen; omega
                    case c4 => omega
                    case c5 => simp; omega
                    intro v' w5 hown5 hgrow _
                    obtain ⟨gg, cap, rfl, -⟩ := World.ownsRow.form hown5 (by omega)
                    have hown6 : Pairs w5 (w.heap.size + 3) (Value.slice (some ⟨gg, 0, none⟩) (l.length + 1) cap) (l ++ [(P.1, Q.1)]) := by unfold Pairs; rw [pcs_app, List.length_append]; exact hown5
                    have hrow : ∀ q, v.ownBlock = some q → w.heap.size + 3 ≤ q := fun q hq => (World.ownsRow.lt hK2.pairs q hq).1
                    have hres5 := (hK2.res.alloc (.cells #[.int .i64 (P.1 : Int), .int .i64 (Q.1 : Int)] 89)).grown hgrow (fun e => by have := hrow _ e.symm; omega)
                    have hno5 := (hK2.no.alloc (.cells #[.int .i64 (P.1 : Int), .int .i64 (Q.1 : Int)] 89)).grown hgrow (fun e => by have := hrow _ e.symm; omega)
                    have hsp5 := (hK2.sp.alloc (.cells #[.int .i64 (P.1 : Int), .int .i64 (Q.1 : Int)] 89)).grown hgrow (fun e => by have := hrow _ e.symm; omega)
                    have hB5 := (hK2.B.alloc hK2.B.size (.cells #[.int .i64 (P.1 : Int), .int .i64 (Q.1 : Int)] 89)).grown hgrow (by have := hK2.B.size; simp; omega) (fun q hq => by have := hrow q hq; omega)
                    have hsc5 := hsp5.cell
                    have hsf5 := hsp5.frozen
                    have hsl5 := hsp5.lt
                    have HK : Hid (Kept w (w5.setCell ⟨w.heap.size + 1 + 1, 0, none⟩ (Value.slice (some ⟨gg, 0, none⟩) (l.length + 1) cap)) false (Value.slice (some ⟨gg, 0, none⟩) (l.length + 1) cap) (l ++ [(P.1, Q.1)])) := ⟨hB5.setCell (p := ⟨w.heap.size + 1 + 1, 0, none⟩) (show w.heap.size ≤ w.heap.size + 1 + 1 by omega) _, hres5.other 0 (Value.slice (some ⟨gg, 0, none⟩) (l.length + 1) cap) (by omega), hno5.other 0 (Value.slice (some ⟨gg, 0, none⟩) (l.length + 1) cap) (by omega), hsp5.set 0 (Value.slice (some ⟨gg, 0, none⟩) (l.length + 1) cap), hown6.other 0 (Value.slice (some ⟨gg, 0, none⟩) (l.length + 1) cap) (by omega)⟩
                    clear hrow hown5 hown6 hgrow hres5 hno5 hsp5 hB5 hK2
                    go_wp2_with fail
                    exact ⟨⟨k + P.2 + (Q.2 + 1), (Value.slice (some ⟨gg, 0, none⟩) (l.length + 1) cap), l ++ [(P.1, Q.1)], by go_num, by omega, by omega, by rw [List.length_append, List.length_singleton]; omega, HXN, HK.out⟩, by simp [intOf]; omega⟩
              · have hdash : dash (s.data.toList.drop (k + P.2)) = false := by rw [dash_at s (k + P.2) hc, decide_eq_false h45]; rfl
                have c1 : decide ((k : Int) + (P.2 : Int) + 1 < (s.size : Int)) = true := by simp; omega
                have c2 : ((s[k + P.2].toNat : Int) == 45) = false := by simp; omega
                have c0 : (k : Int) + (P.2 : Int) < (s.size : Int) := by omega
                clear h45
                have HXN : Hid (ucl (s.data.toList.drop (k + P.2)) (setOf (l ++ [(P.1, P.1)])) = X) := (u_single s k l hlt h93 P HP.out hz hdash).symm.trans HX.out
                clear HN HS HX h93 hdash
                go_wp2_with fail
                refine (said_any (s.extract k s.size) ⟨#[91, 93, 45, 94, 92]⟩ _ (by unfold maxLen; have := cut_size s k; omega) gd_cg_lt).mono ?_
                rintro e w1 ⟨rfl, hb1⟩
                rw [cut_list, show signAt (⟨#[91, 93, 45, 94, 92]⟩ : ByteArray).data.toList (s.data.toList.drop k) = P from HP.out]
                have hK1 := hK.call hb1
                have hsp1 := hK1.sp.cell
                have hspf1 := hK1.sp.frozen
                have hspl1 := hK1.sp.lt
                clear hK hb1
                go_wp2_with (at_builtin; refine wpList_append_own _ rfl _ _ 88 rfl (w.heap.size + 3) 89 i0 (.agg #[.int .i64 0, .int .i64 0]) 2 16 Tryd.underlying88 hi hz0 hz1 hz2 rfl (by decide) _ _ _ rfl (World.ownsRow.alloc hK1.pairs _) ⟨w1.heap.size, 0, none⟩ 1 1 [.int .i64 (P.1 : Int), .int .i64 (P.1 : Int)] rfl rfl ?c1 ?c2 ?c3 ?c4 ?c5 ?_)
                case c1 =>
                  intro j u hj
                  match j, hj with
                  | 0, hj => simp at hj; subst hj; simp [Addr.add]
                  | 1, hj => simp at hj; subst hj; simp [Addr.add]
                case c2 => intro u hu; simp at hu; rcases hu with rfl | rfl <;> rfl
                case c3 => unfold maxLen; omega
                case c4 => omega
                case c5 => simp; omega
                intro v' w5 hown5 hgrow _
                obtain ⟨gg, cap, rfl, -⟩ := World.ownsRow.form hown5 (by omega)
                have hown6 : Pairs w5 (w.heap.size + 3) (Value.slice (some ⟨gg, 0, none⟩) (l.length + 1) cap) (l ++ [(P.1, P.1)]) := by unfold Pairs; rw [pcs_app, List.length_append]; exact hown5
                have hrow : ∀ q, v.ownBlock = some q → w.heap.size + 3 ≤ q := fun q hq => (World.ownsRow.lt hK1.pairs q hq).1
                have hres5 := (hK1.res.alloc (.cells #[.int .i64 (P.1 : Int), .int .i64 (P.1 : Int)] 89)).grown hgrow (fun e => by have := hrow _ e.symm; omega)
                have hno5 := (hK1.no.alloc (.cells #[.int .i64 (P.1 : Int), .int .i64 (P.1 : Int)] 89)).grown hgrow (fun e => by have := hrow _ e.symm; omega)
                have hsp5 := (hK1.sp.alloc (.cells #[.int .i64 (P.1 : Int), .int .i64 (P.1 : Int)] 89)).grown hgrow (fun e => by have := hrow _ e.symm; omega)
                have hB5 := (hK1.B.alloc hK1.B.size (.cells #[.int .i64 (P.1 : Int), .int .i64 (P.1 : Int)] 89)).grown hgrow (by have := hK1.B.size; simp; omega) (fun q hq => by have := hrow q hq; omega)
                have hsc5 := hsp5.cell
                have hsf5 := hsp5.frozen
                have hsl5 := hsp5.lt
                have HK : Hid (Kept w (w5.setCell ⟨w.heap.size + 1 + 1, 0, none⟩ (Value.slice (some ⟨gg, 0, none⟩) (l.length + 1) cap)) false (Value.slice (some ⟨gg, 0, none⟩) (l.length + 1) cap) (l ++ [(P.1, P.1)])) := ⟨hB5.setCell (p := ⟨w.heap.size + 1 + 1, 0, none⟩) (show w.heap.size ≤ w.heap.size + 1 + 1 by omega) _, hres5.other 0 (Value.slice (some ⟨gg, 0, none⟩) (l.length + 1) cap) (by omega), hno5.other 0 (Value.slice (some ⟨gg, 0, none⟩) (l.length + 1) cap) (by omega), hsp5.set 0 (Value.slice (some ⟨gg, 0, none⟩) (l.length + 1) cap), hown6.other 0 (Value.slice (some ⟨gg, 0, none⟩) (l.length + 1) cap) (by omega)⟩
                clear hrow hown5 hown6 hgrow hres5 hno5 hsp5 hB5 hK1
                go_wp2_with fail
                exact ⟨⟨k + P.2, (Value.slice (some ⟨gg, 0, none⟩) (l.length + 1) cap), l ++ [(P.1, P.1)], by go_num, by omega, by omega, by rw [List.length_append, List.length_singleton]; omega, HXN, HK.out⟩, by simp [intOf]; omega⟩
            · have hdash := dash_over s (k + P.2) (by omega)
              have c1 : decide ((k : Int) + (P.2 : Int) + 1 < (s.size : Int)) = false := by simp; omega
              clear hc
              have HXN : Hid (ucl (s.data.toList.drop (k + P.2)) (setOf (l ++ [(P.1, P.1)])) = X) := (u_single s k l hlt h93 P HP.out hz hdash).symm.trans HX.out
              clear HN HS HX h93 hdash
              go_wp2_with fail
              refine (said_any (s.extract k s.size) ⟨#[91, 93, 45, 94, 92]⟩ _ (by unfold maxLen; have := cut_size s k; omega) gd_cg_lt).mono ?_
              rintro e w1 ⟨rfl, hb1⟩
              rw [cut_list, show signAt (⟨#[91, 93, 45, 94, 92]⟩ : ByteArray).data.toList (s.data.toList.drop k) = P from HP.out]
              have hK1 := hK.call hb1
              have hsp1 := hK1.sp.cell
              have hspf1 := hK1.sp.frozen
              have hspl1 := hK1.sp.lt
              clear hK hb1
              go_wp2_with (at_builtin; refine wpList_append_own _ rfl _ _ 88 rfl (w.heap.size + 3) 89 i0 (.agg #[.int .i64 0, .int .i64 0]) 2 16 Tryd.underlying88 hi hz0 hz1 hz2 rfl (by decide) _ _ _ rfl (World.ownsRow.alloc hK1.pairs _) ⟨w1.heap.size, 0, none⟩ 1 1 [.int .i64 (P.1 : Int), .int .i64 (P.1 : Int)] rfl rfl ?c1 ?c2 ?c3 ?c4 ?c5 ?_)
              case c1 =>
                intro j u hj
                match j, hj with
                | 0, hj => simp at hj; subst hj; simp [Addr.add]
                | 1, hj => simp at hj; subst hj; simp [Addr.add]
              case c2 => intro u hu; simp at hu; rcases hu with rfl | rfl <;> rfl
              case c3 => unfold maxLen; omega
              case c4 => omega
              case c5 => simp; omega
              intro v' w5 hown5 hgrow _
              obtain ⟨gg, cap, rfl, -⟩ := World.ownsRow.form hown5 (by omega)
              have hown6 : Pairs w5 (w.heap.size + 3) (Value.slice (some ⟨gg, 0, none⟩) (l.length + 1) cap) (l ++ [(P.1, P.1)]) := by unfold Pairs; rw [pcs_app, List.length_append]; exact hown5
              have hrow : ∀ q, v.ownBlock = some q → w.heap.size + 3 ≤ q := fun q hq => (World.ownsRow.lt hK1.pairs q hq).1
              have hres5 := (hK1.res.alloc (.cells #[.int .i64 (P.1 : Int), .int .i64 (P.1 : Int)] 89)).grown hgrow (fun e => by have := hrow _ e.symm; omega)
              have hno5 := (hK1.no.alloc (.cells #[.int .i64 (P.1 : Int), .int .i64 (P.1 : Int)] 89)).grown hgrow (fun e => by have := hrow _ e.symm; omega)
              have hsp5 := (hK1.sp.alloc (.cells #[.int .i64 (P.1 : Int), .int .i64 (P.1 : Int)] 89)).grown hgrow (fun e => by have := hrow _ e.symm; omega)
              have hB5 := (hK1.B.alloc hK1.B.size (.cells #[.int .i64 (P.1 : Int), .int .i64 (P.1 : Int)] 89)).grown hgrow (by have := hK1.B.size; simp; omega) (fun q hq => by have := hrow q hq; omega)
              have hsc5 := hsp5.cell
              have hsf5 := hsp5.frozen
              have hsl5 := hsp5.lt
              have HK : Hid (Kept w (w5.setCell ⟨w.heap.size + 1 + 1, 0, none⟩ (Value.slice (some ⟨gg, 0, none⟩) (l.length + 1) cap)) false (Value.slice (some ⟨gg, 0, none⟩) (l.length + 1) cap) (l ++ [(P.1, P.1)])) := ⟨hB5.setCell (p := ⟨w.heap.size + 1 + 1, 0, none⟩) (show w.heap.size ≤ w.heap.size + 1 + 1 by omega) _, hres5.other 0 (Value.slice (some ⟨gg, 0, none⟩) (l.length + 1) cap) (by omega), hno5.other 0 (Value.slice (some ⟨gg, 0, none⟩) (l.length + 1) cap) (by omega), hsp5.set 0 (Value.slice (some ⟨gg, 0, none⟩) (l.length + 1) cap), hown6.other 0 (Value.slice (some ⟨gg, 0, none⟩) (l.length + 1) cap) (by omega)⟩
              clear hrow hown5 hown6 hgrow hres5 hno5 hsp5 hB5 hK1
              go_wp2_with fail
              exact ⟨⟨k + P.2, (Value.slice (some ⟨gg, 0, none⟩) (l.length + 1) cap), l ++ [(P.1, P.1)], by go_num, by omega, by omega, by rw [List.length_append, List.length_singleton]; omega, HXN, HK.out⟩, by simp [intOf]; omega⟩
      · have HR : Hid (R = none) := HN.out (HX.out.symm.trans (ucl_0 s k _ (by omega)))
        have dl : decide (k < s.size) = false := by simp; omega
        have dl' : decide ((k : Int) < (s.size : Int)) = false := by simp; omega
        have dg : decide (s.size ≤ k) = true := by simp; omega
        clear HN HS HX
        go_wp2_with fail
        refine (bad_any _).mono ?_
        rintro e w9 ⟨rfl, hb9⟩
        have hK9 := hK.call hb9
        have hcR9 := hK9.res.cell
        have hfR9 := hK9.res.frozen
        have hltR9 := hK9.res.lt
        have hB9 := hK9.B
        clear hK9 hb9
        go_wp2_with fail
        exact bodyPost_ret (v := .tuple #[.agg #[.int .u64 0, .int .u64 0, .int .u64 0, .int .u64 0], .int .i64 0, .int .i64 4]) (by simp [results, Tryd.results30, go_sem, hcR9]) rfl ⟨by rw [HR.out]; simp only [kS, kN, kE, wd_zeroU], (((hB9.setCell (by simp) _).setCell (by simp) _).setCell (by simp) _).setCell (by simp) _⟩
  · have h4 := d1' h2
    clear d1 d1'
    have hK := kept_start w false
    go_enter Tryd.func30, Tryd.ntmps30
    go_wp2_with fail
    go_region
    go_wp2_with fail
    go_loopw [6, 9, 10, 11] (fun i _ _ _ wx => ∃ (k : Nat) (v : Value) (l : List (Nat × Nat)), i = .int .i64 k ∧ 1 ≤ k ∧ k ≤ s.size ∧ l.length ≤ k ∧ Hid (ucl (s.data.toList.drop k) (setOf l) = X) ∧ Kept w wx false v l) (fun i _ _ _ _ => s.size - (intOf i).toNat)
    case atStart => exact ⟨1, _, [], rfl, by omega, by omega, by simp, HX0, hK⟩
    case round =>
      clear HX0 hK
      obtain ⟨k, v, l, rfl, hk, hk2, hl, HX, hK⟩ := hrel
      have hk0 : (0 : Int) ≤ (k : Int) := by omega
      by_cases hlt : k < s.size
      · exact absurd hlt (by omega)
      · have HR : Hid (R = none) := HN.out (HX.out.symm.trans (ucl_0 s k _ (by omega)))
        have dl : decide (k < s.size) = false := by simp; omega
        have dl' : decide ((k : Int) < (s.size : Int)) = false := by simp; omega
        have dg : decide (s.size ≤ k) = true := by simp; omega
        clear HN HS HX
        go_wp2_with fail
        refine (bad_any _).mono ?_
        rintro e w9 ⟨rfl, hb9⟩
        have hK9 := hK.call hb9
        have hcR9 := hK9.res.cell
        have hfR9 := hK9.res.frozen
        have hltR9 := hK9.res.lt
        have hB9 := hK9.B
        clear hK9 hb9
        go_wp2_with fail
        exact bodyPost_ret (v := .tuple #[.agg #[.int .u64 0, .int .u64 0, .int .u64 0, .int .u64 0], .int .i64 0, .int .i64 4]) (by simp [results, Tryd.results30, go_sem, hcR9]) rfl ⟨by rw [HR.out]; simp only [kS, kN, kE, wd_zeroU], (((hB9.setCell (by simp) _).setCell (by simp) _).setCell (by simp) _).setCell (by simp) _⟩
  · have h4 := d1 h2
    have h5 : (1 : Int) < (s.size : Int) := by omega
    clear d1 d1'
    have hK := kept_start w true
    go_enter Tryd.func30, Tryd.ntmps30
    go_wp2_with fail
    go_region
    go_wp2_with fail
    go_loopw [6, 9, 10, 11] (fun i _ _ _ wx => ∃ (k : Nat) (v : Value) (l : List (Nat × Nat)), i = .int .i64 k ∧ 1 ≤ k ∧ k ≤ s.size ∧ l.length ≤ k ∧ Hid (ucl (s.data.toList.drop k) (setOf l) = X) ∧ Kept w wx true v l) (fun i _ _ _ _ => s.size - (intOf i).toNat)
    case atStart => exact ⟨2, _, [], rfl, by omega, by omega, by simp, HX0, hK⟩
    case round =>
      clear HX0 hK
      obtain ⟨k, v, l, rfl, hk, hk2, hl, HX, hK⟩ := hrel
      have hk0 : (0 : Int) ≤ (k : Int) := by omega
      by_cases hlt : k < s.size
      · have dl : decide (k < s.size) = true := by simp; omega
        have dl' : decide ((k : Int) < (s.size : Int)) = true := by simp; omega
        have hlt' : (k : Int) < (s.size : Int) := by omega
        by_cases h93 : s[k].toNat = 93
        · obtain ⟨T, hT⟩ : ∃ T, (if true then ~~~(setOf l) else setOf l) = T := ⟨_, rfl⟩
          have HR : Hid (R = some (T, s.size - (s.size - k) + 1)) := by rw [← hT]; exact HS.out _ _ (HX.out.symm.trans (ucl_93 s k _ hlt h93))
          have hx3 : ((s[k].toNat : Int) != 93) = false := by simp; omega
          have dg : decide (s.size ≤ k) = false := by simp; omega
          have HT : Hid ((if true then ~~~(setOf l) else setOf l) = T) := hT
          clear HN HS HX h93 hT
          go_wp2_with fail
          refine (set26 l v (w.heap.size + 3) (w.heap.size + 1 + 1) (w.heap.size + 1) true _ hK.pairs (by unfold IsBox; rw [hK.sp.cell]; rfl) (by unfold IsBox; rw [hK.no.cell]; rfl) hK.sp.lt hK.no.lt (by omega) T HT.out).mono ?_
          rintro e w2 ⟨rfl, hb2⟩
          have hK2 := hK.call hb2
          have hcR2 := hK2.res.cell
          have hfR2 := hK2.res.frozen
          have hltR2 := hK2.res.lt
          have hB2 := hK2.B
          clear hK hK2 hb2 HT
          go_wp2_with fail
          exact bodyPost_ret (v := .tuple #[.agg #[.int .u64 (wd T 0), .int .u64 (wd T 1), .int .u64 (wd T 2), .int .u64 (wd T 3)], .int .i64 ((k : Int) + 1), .int .i64 0]) (by simp [results, Tryd.results30, go_sem, hcR2]) rfl ⟨ret_k (by rw [HR.out]; rfl) (by rw [HR.out]; show _ = ((s.size - (s.size - k) + 1 : Nat) : Int); omega) (by rw [HR.out]; rfl), (((hB2.setCell (by simp) _).setCell (by simp) _).setCell (by simp) _).setCell (by simp) _⟩
        · have hx3 : ((s[k].toNat : Int) != 93) = true := by simp; omega
          have hP := signAt_lt cg (s.data.toList.drop k)
          rw [List.length_drop, llen] at hP
          generalize hPP : signAt cg (s.data.toList.drop k) = P at *
          have HP : Hid (signAt cg (s.data.toList.drop k) = P) := hPP
          clear hPP
          by_cases hz : P.2 = 0
          · have HR : Hid (R = none) := HN.out (HX.out.symm.trans (u_none s k _ hlt h93 (by rw [HP.out]; exact hz)))
            have hq : ((P.2 : Int) == 0) = true := by simp; omega
            clear HN HS HX h93 hz
            go_wp2_with fail
            refine (said_any (s.extract k s.size) ⟨#[91, 93, 45, 94, 92]⟩ _ (by unfold maxLen; have := cut_size s k; omega) gd_cg_lt).mono ?_
            rintro e w1 ⟨rfl, hb1⟩
            rw [cut_list, show signAt (⟨#[91, 93, 45, 94, 92]⟩ : ByteArray).data.toList (s.data.toList.drop k) = P from HP.out]
            have hK1 := hK.call hb1
            have hsp1 := hK1.sp.cell
            have hspf1 := hK1.sp.frozen
            have hspl1 := hK1.sp.lt
            clear hK hb1
            go_wp2_with fail
            refine (bad_any _).mono ?_
            rintro e w9 ⟨rfl, hb9⟩
            have hK9 := hK1.call hb9
            have hcR9 := hK9.res.cell
            have hfR9 := hK9.res.frozen
            have hltR9 := hK9.res.lt
            have hB9 := hK9.B
            clear hK9 hb9
            go_wp2_with fail
            exact bodyPost_ret (v := .tuple #[.agg #[.int .u64 0, .int .u64 0, .int .u64 0, .int .u64 0], .int .i64 0, .int .i64 4]) (by simp [results, Tryd.results30, go_sem, hcR9]) rfl ⟨by rw [HR.out]; simp only [kS, kN, kE, wd_zeroU], (((hB9.setCell (by simp) _).setCell (by simp) _).setCell (by simp) _).setCell (by simp) _⟩
          · have hq : ((P.2 : Int) == 0) = false := by simp; omega
            by_cases hc : k + P.2 + 1 < s.size
            · by_cases h45 : s[k + P.2].toNat = 45
              · by_cases h93b : s[k + P.2 + 1].toNat = 93
                · have hdash : dash (s.data.toList.drop (k + P.2)) = false := by rw [dash_at s (k + P.2) hc, decide_eq_true h93b]; simp
                  have c1 : decide ((k : Int) + (P.2 : Int) + 1 < (s.size : Int)) = true := by simp; omega
                  have c2 : ((s[k + P.2].toNat : Int) == 45) = true := by simp; omega
                  have c3 : ((s[k + P.2 + 1].toNat : Int) != 93) = false := by simp; omega
                  have c0 : (k : Int) + (P.2 : Int) < (s.size : Int) := by omega
                  have c4 : (k : Int) + (P.2 : Int) + 1 < (s.size : Int) := by omega
                  clear h45 h93b
                  have HXN : Hid (ucl (s.data.toList.drop (k + P.2)) (setOf (l ++ [(P.1, P.1)])) = X) := (u_single s k l hlt h93 P HP.out hz hdash).symm.trans HX.out
                  clear HN HS HX h93 hdash
                  go_wp2_with fail
                  refine (said_any (s.extract k s.size) ⟨#[91, 93, 45, 94, 92]⟩ _ (by unfold maxLen; have := cut_size s k; omega) gd_cg_lt).mono ?_
                  rintro e w1 ⟨rfl, hb1⟩
                  rw [cut_list, show signAt (⟨#[91, 93, 45, 94, 92]⟩ : ByteArray).data.toList (s.data.toList.drop k) = P from HP.out]
                  have hK1 := hK.call hb1
                  have hsp1 := hK1.sp.cell
                  have hspf1 := hK1.sp.frozen
                  have hspl1 := hK1.sp.lt
                  clear hK hb1
                  go_wp2_with (at_builtin; refine wpList_append_own _ rfl _ _ 88 rfl (w.heap.size + 3) 89 i0 (.agg #[.int .i64 0, .int .i64 0]) 2 16 Tryd.underlying88 hi hz0 hz1 hz2 rfl (by decide) _ _ _ rfl (World.ownsRow.alloc hK1.pairs _) ⟨w1.heap.size, 0, none⟩ 1 1 [.int .i64 (P.1 : Int), .int .i64 (P.1 : Int)] rfl rfl ?c1 ?c2 ?c3 ?c4 ?c5 ?_)
                  case c1 =>
                    intro j u hj
                    match j, hj with
                    | 0, hj => simp at hj; subst hj; simp [Addr.add]
                    | 1, hj => simp at hj; subst hj; simp [Addr.add]
                  case c2 => intro u hu; simp at hu; rcases hu with rfl | rfl <;> rfl
                  case c3 => unfold maxLen; omega
                  case c4 => omega
                  case c5 => simp; omega
                  intro v' w5 hown5 hgrow _
                  obtain ⟨gg, cap, rfl, -⟩ := World.ownsRow.form hown5 (by omega)
                  have hown6 : Pairs w5 (w.heap.size + 3) (Value.slice (some ⟨gg, 0, none⟩) (l.length + 1) cap) (l ++ [(P.1, P.1)]) := by unfold Pairs; rw [pcs_app, List.length_append]; exact hown5
                  have hrow : ∀ q, v.ownBlock = some q → w.heap.size + 3 ≤ q := fun q hq => (World.ownsRow.lt hK1.pairs q hq).1
                  have hres5 := (hK1.res.alloc (.cells #[.int .i64 (P.1 : Int), .int .i64 (P.1 : Int)] 89)).grown hgrow (fun e => by have := hrow _ e.symm; omega)
                  have hno5 := (hK1.no.alloc (.cells #[.int .i64 (P.1 : Int), .int .i64 (P.1 : Int)] 89)).grown hgrow (fun e => by have := hrow _ e.symm; omega)
                  have hsp5 := (hK1.sp.alloc (.cells #[.int .i64 (P.1 : Int), .int .i64 (P.1 : Int)] 89)).grown hgrow (fun e => by have := hrow _ e.symm; omega)
                  have hB5 := (hK1.B.alloc hK1.B.size (.cells #[.int .i64 (P.1 : Int), .int .i64 (P.1 : Int)] 89)).grown hgrow (by have := hK1.B.size; simp; omega) (fun q hq => by have := hrow q hq; omega)
                  have hsc5 := hsp5.cell
                  have hsf5 := hsp5.frozen
                  have hsl5 := hsp5.lt
                  have HK : Hid (Kept w (w5.setCell ⟨w.heap.size + 1 + 1, 0, none⟩ (Value.slice (some ⟨gg, 0, none⟩) (l.length + 1) cap)) true (Value.slice (some ⟨gg, 0, none⟩) (l.length + 1) cap) (l ++ [(P.1, P.1)])) := ⟨hB5.setCell (p := ⟨w.heap.size + 1 + 1, 0, none⟩) (show w.heap.size ≤ w.heap.size + 1 + 1 by omega) _, hres5.other 0 (Value.slice (some ⟨gg, 0, none⟩) (l.length + 1) cap) (by omega), hno5.other 0 (Value.slice (some ⟨gg, 0, none⟩) (l.length + 1) cap) (by omega), hsp5.set 0 (Value.slice (some ⟨gg, 0, none⟩) (l.length + 1) cap), hown6.other 0 (Value.slice (some ⟨gg, 0, none⟩) (l.length + 1) cap) (by omega)⟩
                  clear hrow hown5 hown6 hgrow hres5 hno5 hsp5 hB5 hK1
                  go_wp2_with fail
                  exact ⟨⟨k + P.2, (Value.slice (some ⟨gg, 0, none⟩) (l.length + 1) cap), l ++ [(P.1, P.1)], by go_num, by omega, by omega, by rw [List.length_append, List.length_singleton]; omega, HXN, HK.out⟩, by simp [intOf]; omega⟩
                · have hdash : dash (s.data.toList.drop (k + P.2)) = true := by rw [dash_at s (k + P.2) hc, decide_eq_true h45, decide_eq_false h93b]; rfl
                  have c1 : decide ((k : Int) + (P.2 : Int) + 1 < (s.size : Int)) = true := by simp; omega
                  have c2 : ((s[k + P.2].toNat : Int) == 45) = true := by simp; omega
                  have c3 : ((s[k + P.2 + 1].toNat : Int) != 93) = true := by simp; omega
                  have c0 : (k : Int) + (P.2 : Int) < (s.size : Int) := by omega
                  have c4 : (k : Int) + (P.2 : Int) + 1 < (s.size : Int) := by omega
                  have c5 : (k : Int) + (P.2 : Int) + 1 ≤ (s.size : Int) := by omega
                  have hQ := signAt_lt cg (s.data.toList.drop (k + P.2 + 1))
                  rw [List.length_drop, llen] at hQ
                  have hub := u_bad s k (setOf l) hlt h93 P
                  have hup := u_pair s k l hlt h93 P
                  generalize hQQ : signAt cg (s.data.toList.drop (k + P.2 + 1)) = Q at *
                  have HQ : Hid (signAt cg (s.data.toList.drop (k + P.2 + 1)) = Q) := hQQ
                  have hbad := hub Q HP.out hz hdash rfl
                  have hpair := hup Q HP.out hz hdash rfl
                  clear hub hup hQQ h45 h93b h93 hdash
                  by_cases hb : Q.2 = 0 ∨ Q.1 < P.1
                  · have HR : Hid (R = none) := HN.out (HX.out.symm.trans (hbad hb))
                    have hor : ((Q.2 : Int) == 0) = true ∨ (((Q.2 : Int) == 0) = false ∧ decide (Q.1 < P.1) = true) := by
                      by_cases e : Q.2 = 0
                      · left; simp; omega
                      · right; simp; omega
                    clear hbad hpair HN HS HX hb
                    rcases hor with q1 | ⟨q1, q2⟩
                    all_goals
                      go_wp2_with fail
                      refine (said_any (s.extract k s.size) ⟨#[91, 93, 45, 94, 92]⟩ _ (by unfold maxLen; have := cut_size s k; omega) gd_cg_lt).mono ?_
                      rintro e w1 ⟨rfl, hb1⟩
                      rw [cut_list, show signAt (⟨#[91, 93, 45, 94, 92]⟩ : ByteArray).data.toList (s.data.toList.drop k) = P from HP.out]
                      have hK1 := hK.call hb1
                      have hsp1 := hK1.sp.cell
                      have hspf1 := hK1.sp.frozen
                      have hspl1 := hK1.sp.lt
                      clear hK hb1
                      go_wp2_with fail
                      refine (said_any (s.extract (k + P.2 + 1) s.size) ⟨#[91, 93, 45, 94, 92]⟩ _ (by unfold maxLen; have := cut_size s (k + P.2 + 1); omega) gd_cg_lt).mono ?_
                      rintro e w2 ⟨rfl, hb2⟩
                      rw [cut_list, show signAt (⟨#[91, 93, 45, 94, 92]⟩ : ByteArray).data.toList (s.data.toList.drop (k + P.2 + 1)) = Q from HQ.out]
                      have hK2 := hK1.call hb2
                      have hsp2 := hK2.sp.cell
                      have hspf2 := hK2.sp.frozen
                      have hspl2 := hK2.sp.lt
                      clear hK1 hb2 hsp1 hspf1 hspl1
                      go_wp2_with fail
                      refine (bad_any _).mono ?_
                      rintro e w9 ⟨rfl, hb9⟩
                      have hK9 := hK2.call hb9
                      have hcR9 := hK9.res.cell
                      have hfR9 := hK9.res.frozen
                      have hltR9 := hK9.res.lt
                      have hB9 := hK9.B
                      clear hK9 hb9
                      go_wp2_with fail
                      exact bodyPost_ret (v := .tuple #[.agg #[.int .u64 0, .int .u64 0, .int .u64 0, .int .u64 0], .int .i64 0, .int .i64 4]) (by simp [results, Tryd.results30, go_sem, hcR9]) rfl ⟨by rw [HR.out]; simp only [kS, kN, kE, wd_zeroU], (((hB9.setCell (by simp) _).setCell (by simp) _).setCell (by simp) _).setCell (by simp) _⟩
                  · have HXN : Hid (ucl (s.data.toList.drop (k + P.2 + (Q.2 + 1))) (setOf (l ++ [(P.1, Q.1)])) = X) := (hpair (by omega) (by omega)).symm.trans HX.out
                    have q1 : ((Q.2 : Int) == 0) = false := by simp; omega
                    have q2 : decide (Q.1 < P.1) = false := by simp; omega
                    clear hbad hpair HN HS HX hb
                    go_wp2_with fail
                    refine (said_any (s.extract k s.size) ⟨#[91, 93, 45, 94, 92]⟩ _ (by unfold maxLen; have := cut_size s k; omega) gd_cg_lt).mono ?_
                    rintro e w1 ⟨rfl, hb1⟩
                    rw [cut_list, show signAt (⟨#[91, 93, 45, 94, 92]⟩ : ByteArray).data.toList (s.data.toList.drop k) = P from HP.out]
                    have hK1 := hK.call hb1
                    have hsp1 := hK1.sp.cell
                    have hspf1 := hK1.sp.frozen
                    have hspl1 := hK1.sp.lt
                    clear hK hb1
                    go_wp2_with fail
                    refine (said_any (s.extract (k + P.2 + 1) s.size) ⟨#[91, 93, 45, 94, 92]⟩ _ (by unfold maxLen; have := cut_size s (k + P.2 + 1); omega) gd_cg_lt).mono ?_
                    rintro e w2 ⟨rfl, hb2⟩
                    rw [cut_list, show signAt (⟨#[91, 93, 45, 94, 92]⟩ : ByteArray).data.toList (s.data.toList.drop (k + P.2 + 1)) = Q from HQ.out]
                    have hK2 := hK1.call hb2
                    have hsp2 := hK2.sp.cell
                    have hspf2 := hK2.sp.frozen
                    have hspl2 := hK2.sp.lt
                    clear hK1 hb2 hsp1 hspf1 hspl1
                    go_wp2_with (at_builtin; refine wpList_append_own _ rfl _ _ 88 rfl (w.heap.size + 3) 89 i0 (.agg #[.int .i64 0, .int .i64 0]) 2 16 Tryd.underlying88 hi hz0 hz1 hz2 rfl (by decide) _ _ _ rfl (World.ownsRow.alloc hK2.pairs _) ⟨w2.heap.size, 0, none⟩ 1 1 [.int .i64 (P.1 : Int), .int .i64 (Q.1 : Int)] rfl rfl ?c1 ?c2 ?c3 ?c4 ?c5 ?_)
                    case c1 =>
                      intro j u hj
                      match j, hj with
                      | 0, hj => simp at hj; subst hj; simp [Addr.add]
                      | 1, hj => simp at hj; subst hj; simp [Addr.add]
                    case c2 => intro u hu; simp at hu; rcases hu with rfl | rfl <;> rfl
                    case c3 => unfold maxLen; omega
                    case c4 => omega
                    case c5 => simp; omega
                    intro v' w5 hown5 hgrow _
                    obtain ⟨gg, cap, rfl, -⟩ := World.ownsRow.form hown5 (by omega)
                    have hown6 : Pairs w5 (w.heap.size + 3) (Value.slice (some ⟨gg, 0, none⟩) (l.length + 1) cap) (l ++ [(P.1, Q.1)]) := by unfold Pairs; rw [pcs_app, List.length_append]; exact hown5
                    have hrow : ∀ q, v.ownBlock = some q → w.heap.size + 3 ≤ q := fun q hq => (World.ownsRow.lt hK2.pairs q hq).1
                    have hres5 := (hK2.res.alloc (.cells #[.int .i64 (P.1 : Int), .int .i64 (Q.1 : Int)] 89)).grown hgrow (fun e => by have := hrow _ e.symm; omega)
                    have hno5 := (hK2.no.alloc (.cells #[.int .i64 (P.1 : Int), .int .i64 (Q.1 : Int)] 89)).grown hgrow (fun e => by have := hrow _ e.symm; omega)
                    have hsp5 := (hK2.sp.alloc (.cells #[.int .i64 (P.1 : Int), .int .i64 (Q.1 : Int)] 89)).grown hgrow (fun e => by have := hrow _ e.symm; omega)
                    have hB5 := (hK2.B.alloc hK2.B.size (.cells #[.int .i64 (P.1 : Int), .int .i64 (Q.1 : Int)] 89)).grown hgrow (by have := hK2.B.size; simp; omega) (fun q hq => by have := hrow q hq; omega)
                    have hsc5 := hsp5.cell
                    have hsf5 := hsp5.frozen
                    have hsl5 := hsp5.lt
                    have HK : Hid (Kept w (w5.setCell ⟨w.heap.size + 1 + 1, 0, none⟩ (Value.slice (some ⟨gg, 0, none⟩) (l.length + 1) cap)) true (Value.slice (some ⟨gg, 0, none⟩) (l.length + 1) cap) (l ++ [(P.1, Q.1)])) := ⟨hB5.setCell (p := ⟨w.heap.size + 1 + 1, 0, none⟩) (show w.heap.size ≤ w.heap.size + 1 + 1 by omega) _, hres5.other 0 (Value.slice (some ⟨gg, 0, none⟩) (l.length + 1) cap) (by omega), hno5.other 0 (Value.slice (some ⟨gg, 0, none⟩) (l.length + 1) cap) (by omega), hsp5.set 0 (Value.slice (some ⟨gg, 0, none⟩) (l.length + 1) cap), hown6.other 0 (Value.slice (some ⟨gg, 0, none⟩) (l.length + 1) cap) (by omega)⟩
                    clear hrow hown5 hown6 hgrow hres5 hno5 hsp5 hB5 hK2
                    go_wp2_with fail
                    exact ⟨⟨k + P.2 + (Q.2 + 1), (Value.slice (some ⟨gg, 0, none⟩) (l.length + 1) cap), l ++ [(P.1, Q.1)], by go_num, by omega, by omega, by rw [List.length_append, List.length_singleton]; omega, HXN, HK.out⟩, by simp [intOf]; omega⟩
              · have hdash : dash (s.data.toList.drop (k + P.2)) = false := by rw [dash_at s (k + P.2) hc, decide_eq_false h45]; rfl
                have c1 : decide ((k : Int) + (P.2 : Int) + 1 < (s.size : Int)) = true := by simp; omega
                have c2 : ((s[k + P.2].toNat : Int) == 45) = false := by simp; omega
                have c0 : (k : Int) + (P.2 : Int) < (s.size : Int) := by omega
                clear h45
                have HXN : Hid (ucl (s.data.toList.drop (k + P.2)) (setOf (l ++ [(P.1, P.1)])) = X) := (u_single s k l hlt h93 P HP.out hz hdash).symm.trans HX.out
                clear HN HS HX h93 hdash
                go_wp2_with fail
                refine (said_any (s.extract k s.size) ⟨#[91, 93, 45, 94, 92]⟩ _ (by unfold maxLen; have := cut_size s k; omega) gd_cg_lt).mono ?_
                rintro e w1 ⟨rfl, hb1⟩
                rw [cut_list, show signAt (⟨#[91, 93, 45, 94, 92]⟩ : ByteArray).data.toList (s.data.toList.drop k) = P from HP.out]
                have hK1 := hK.call hb1
                have hsp1 := hK1.sp.cell
                have hspf1 := hK1.sp.frozen
                have hspl1 := hK1.sp.lt
                clear hK hb1
                go_wp2_with (at_builtin; refine wpList_append_own _ rfl _ _ 88 rfl (w.heap.size + 3) 89 i0 (.agg #[.int .i64 0, .int .i64 0]) 2 16 Tryd.underlying88 hi hz0 hz1 hz2 rfl (by decide) _ _ _ rfl (World.ownsRow.alloc hK1.pairs _) ⟨w1.heap.size, 0, none⟩ 1 1 [.int .i64 (P.1 : Int), .int .i64 (P.1 : Int)] rfl rfl ?c1 ?c2 ?c3 ?c4 ?c5 ?_)
                case c1 =>
                  intro j u hj
                  match j, hj with
                  | 0, hj => simp at hj; subst hj; simp [Addr.add]
                  | 1, hj => simp at hj; subst hj; simp [Addr.add]
                case c2 => intro u hu; simp at hu; rcases hu with rfl | rfl <;> rfl
                case c3 => unfold maxLen; omega
                case c4 => omega
                case c5 => simp; omega
                intro v' w5 hown5 hgrow _
                obtain ⟨gg, cap, rfl, -⟩ := World.ownsRow.form hown5 (by omega)
                have hown6 : Pairs w5 (w.heap.size + 3) (Value.slice (some ⟨gg, 0, none⟩) (l.length + 1) cap) (l ++ [(P.1, P.1)]) := by unfold Pairs; rw [pcs_app, List.length_append]; exact hown5
                have hrow : ∀ q, v.ownBlock = some q → w.heap.size + 3 ≤ q := fun q hq => (World.ownsRow.lt hK1.pairs q hq).1
                have hres5 := (hK1.res.alloc (.cells #[.int .i64 (P.1 : Int), .int .i64 (P.1 : Int)] 89)).grown hgrow (fun e => by have := hrow _ e.symm; omega)
                have hno5 := (hK1.no.alloc (.cells #[.int .i64 (P.1 : Int), .int .i64 (P.1 : Int)] 89)).grown hgrow (fun e => by have := hrow _ e.symm; omega)
                have hsp5 := (hK1.sp.alloc (.cells #[.int .i64 (P.1 : Int), .int .i64 (P.1 : Int)] 89)).grown hgrow (fun e => by have := hrow _ e.symm; omega)
                have hB5 := (hK1.B.alloc hK1.B.size (.cells #[.int .i64 (P.1 : Int), .int .i64 (P.1 : Int)] 89)).grown hgrow (by have := hK1.B.size; simp; omega) (fun q hq => by have := hrow q hq; omega)
                have hsc5 := hsp5.cell
                have hsf5 := hsp5.frozen
                have hsl5 := hsp5.lt
                have HK : Hid (Kept w (w5.setCell ⟨w.heap.size + 1 + 1, 0, none⟩ (Value.slice (some ⟨gg, 0, none⟩) (l.length + 1) cap)) true (Value.slice (some ⟨gg, 0, none⟩) (l.length + 1) cap) (l ++ [(P.1, P.1)])) := ⟨hB5.setCell (p := ⟨w.heap.size + 1 + 1, 0, none⟩) (show w.heap.size ≤ w.heap.size + 1 + 1 by omega) _, hres5.other 0 (Value.slice (some ⟨gg, 0, none⟩) (l.length + 1) cap) (by omega), hno5.other 0 (Value.slice (some ⟨gg, 0, none⟩) (l.length + 1) cap) (by omega), hsp5.set 0 (Value.slice (some ⟨gg, 0, none⟩) (l.length + 1) cap), hown6.other 0 (Value.slice (some ⟨gg, 0, none⟩) (l.length + 1) cap) (by omega)⟩
                clear hrow hown5 hown6 hgrow hres5 hno5 hsp5 hB5 hK1
                go_wp2_with fail
                exact ⟨⟨k + P.2, (Value.slice (some ⟨gg, 0, none⟩) (l.length + 1) cap), l ++ [(P.1, P.1)], by go_num, by omega, by omega, by rw [List.length_append, List.length_singleton]; omega, HXN, HK.out⟩, by simp [intOf]; omega⟩
            · have hdash := dash_over s (k + P.2) (by omega)
              have c1 : decide ((k : Int) + (P.2 : Int) + 1 < (s.size : Int)) = false := by simp; omega
              clear hc
              have HXN : Hid (ucl (s.data.toList.drop (k + P.2)) (setOf (l ++ [(P.1, P.1)])) = X) := (u_single s k l hlt h93 P HP.out hz hdash).symm.trans HX.out
              clear HN HS HX h93 hdash
              go_wp2_with fail
              refine (said_any (s.extract k s.size) ⟨#[91, 93, 45, 94, 92]⟩ _ (by unfold maxLen; have := cut_size s k; omega) gd_cg_lt).mono ?_
              rintro e w1 ⟨rfl, hb1⟩
              rw [cut_list, show signAt (⟨#[91, 93, 45, 94, 92]⟩ : ByteArray).data.toList (s.data.toList.drop k) = P from HP.out]
              have hK1 := hK.call hb1
              have hsp1 := hK1.sp.cell
              have hspf1 := hK1.sp.frozen
              have hspl1 := hK1.sp.lt
              clear hK hb1
              go_wp2_with (at_builtin; refine wpList_append_own _ rfl _ _ 88 rfl (w.heap.size + 3) 89 i0 (.agg #[.int .i64 0, .int .i64 0]) 2 16 Tryd.underlying88 hi hz0 hz1 hz2 rfl (by decide) _ _ _ rfl (World.ownsRow.alloc hK1.pairs _) ⟨w1.heap.size, 0, none⟩ 1 1 [.int .i64 (P.1 : Int), .int .i64 (P.1 : Int)] rfl rfl ?c1 ?c2 ?c3 ?c4 ?c5 ?_)
              case c1 =>
                intro j u hj
                match j, hj with
                | 0, hj => simp at hj; subst hj; simp [Addr.add]
                | 1, hj => simp at hj; subst hj; simp [Addr.add]
              case c2 => intro u hu; simp at hu; rcases hu with rfl | rfl <;> rfl
              case c3 => unfold maxLen; omega
              case c4 => omega
              case c5 => simp; omega
              intro v' w5 hown5 hgrow _
              obtain ⟨gg, cap, rfl, -⟩ := World.ownsRow.form hown5 (by omega)
              have hown6 : Pairs w5 (w.heap.size + 3) (Value.slice (some ⟨gg, 0, none⟩) (l.length + 1) cap) (l ++ [(P.1, P.1)]) := by unfold Pairs; rw [pcs_app, List.length_append]; exact hown5
              have hrow : ∀ q, v.ownBlock = some q → w.heap.size + 3 ≤ q := fun q hq => (World.ownsRow.lt hK1.pairs q hq).1
              have hres5 := (hK1.res.alloc (.cells #[.int .i64 (P.1 : Int), .int .i64 (P.1 : Int)] 89)).grown hgrow (fun e => by have := hrow _ e.symm; omega)
              have hno5 := (hK1.no.alloc (.cells #[.int .i64 (P.1 : Int), .int .i64 (P.1 : Int)] 89)).grown hgrow (fun e => by have := hrow _ e.symm; omega)
              have hsp5 := (hK1.sp.alloc (.cells #[.int .i64 (P.1 : Int), .int .i64 (P.1 : Int)] 89)).grown hgrow (fun e => by have := hrow _ e.symm; omega)
              have hB5 := (hK1.B.alloc hK1.B.size (.cells #[.int .i64 (P.1 : Int), .int .i64 (P.1 : Int)] 89)).grown hgrow (by have := hK1.B.size; simp; omega) (fun q hq => by have := hrow q hq; omega)
              have hsc5 := hsp5.cell
              have hsf5 := hsp5.frozen
              have hsl5 := hsp5.lt
              have HK : Hid (Kept w (w5.setCell ⟨w.heap.size + 1 + 1, 0, none⟩ (Value.slice (some ⟨gg, 0, none⟩) (l.length + 1) cap)) true (Value.slice (some ⟨gg, 0, none⟩) (l.length + 1) cap) (l ++ [(P.1, P.1)])) := ⟨hB5.setCell (p := ⟨w.heap.size + 1 + 1, 0, none⟩) (show w.heap.size ≤ w.heap.size + 1 + 1 by omega) _, hres5.other 0 (Value.slice (some ⟨gg, 0, none⟩) (l.length + 1) cap) (by omega), hno5.other 0 (Value.slice (some ⟨gg, 0, none⟩) (l.length + 1) cap) (by omega), hsp5.set 0 (Value.slice (some ⟨gg, 0, none⟩) (l.length + 1) cap), hown6.other 0 (Value.slice (some ⟨gg, 0, none⟩) (l.length + 1) cap) (by omega)⟩
              clear hrow hown5 hown6 hgrow hres5 hno5 hsp5 hB5 hK1
              go_wp2_with fail
              exact ⟨⟨k + P.2, (Value.slice (some ⟨gg, 0, none⟩) (l.length + 1) cap), l ++ [(P.1, P.1)], by go_num, by omega, by omega, by rw [List.length_append, List.length_singleton]; omega, HXN, HK.out⟩, by simp [intOf]; omega⟩
      · have HR : Hid (R = none) := HN.out (HX.out.symm.trans (ucl_0 s k _ (by omega)))
        have dl : decide (k < s.size) = false := by simp; omega
        have dl' : decide ((k : Int) < (s.size : Int)) = false := by simp; omega
        have dg : decide (s.size ≤ k) = true := by simp; omega
        clear HN HS HX
        go_wp2_with fail
        refine (bad_any _).mono ?_
        rintro e w9 ⟨rfl, hb9⟩
        have hK9 := hK.call hb9
        have hcR9 := hK9.res.cell
        have hfR9 := hK9.res.frozen
        have hltR9 := hK9.res.lt
        have hB9 := hK9.B
        clear hK9 hb9
        go_wp2_with fail
        exact bodyPost_ret (v := .tuple #[.agg #[.int .u64 0, .int .u64 0, .int .u64 0, .int .u64 0], .int .i64 0, .int .i64 4]) (by simp [results, Tryd.results30, go_sem, hcR9]) rfl ⟨by rw [HR.out]; simp only [kS, kN, kE, wd_zeroU], (((hB9.setCell (by simp) _).setCell (by simp) _).setCell (by simp) _).setCell (by simp) _⟩
end Go.Proofs.YtbeohmcmphebhaaDoor
