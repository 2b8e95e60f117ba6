import Derived.Test.YtomeocofnbnegaaDoorPlaceNone
namespace Go.Proofs.YtomeocofnbnegaaDoor
open Go.RowKit
set_option maxRecDepth 20000 in
set_option maxHeartbeats 2000000 in
theorem place_line (s : ByteArray) (A l R : List UInt8) (n : Nat) (C m : Int) (V : Value) (w : World) (hs : (s.size : Int) ≤ 1048576) (hm : w.cell? ⟨0, 0, none⟩ = some (.int .i64 m)) (hn : n ≤ List.count 10 s.data.toList)
    (HLi : Hid (Line s.data.toList A l R n)) (HSp : Hid ((spl (List.count 10 s.data.toList) s.data.toList)[n]? = some l)) (HA : Hid (A.length = offL (spl (List.count 10 s.data.toList) s.data.toList) n))
    (hC63 : C ≤ 9223372036854775807)
    (V1 : Hid (C < 1 → V = .tuple #[.int .i64 0, .int .i64 12])) (V2 : Hid (∀ q : Nat, C = 1 + (q : Int) → V = backAns A.length l q)) :
    Calls Tryd.prog 8 #[.string s, .agg #[.int .i64 (1 + (n : Int)), .int .i64 C]] w fun e w' => e = .returned V ∧ Below w.heap.size w w' := by
  obtain ⟨i0, hi, hz0, hz1, hz2⟩ := info_parts Tryd.info3
  have HL : Hid (s.data.toList.length = s.size) := size_list s
  have hw0 := lt_of_cell hm
  have hlen : s.size = A.length + (l.length + R.length) := by
    have h1 := congrArg List.length HLi.out.eq
    rw [List.length_append, List.length_append, HL.out] at h1
    exact h1
  have hal : A.length + l.length ≤ s.size := by omega
  have HAl : Hid (A.length + l.length ≤ s.size) := hal
  clear hlen hal
  go_enter Tryd.func8, Tryd.ntmps8
  go_wp2_with fail
  refine (split_any s m _ hs (by rw [World.cell?_alloc_past _ _ _ hw0]; exact hm)).mono ?_
  rintro e w1 ⟨X, rfl, rfl, hX⟩
  obtain ⟨c, HC⟩ : ∃ c, Hid (List.count 10 s.data.toList = c) := ⟨_, rfl⟩
  rw [HC.out] at hX hn HSp HA ⊢
  have HX : Hid (∀ j, j < c + 1 → ∃ p : ByteArray, X[j]? = some (.string p) ∧ (spl c s.data.toList)[j]? = some p.data.toList) := hX
  have hcl : (c : Int) ≤ 1048576 := by
    have h1 : List.count 10 s.data.toList ≤ s.data.toList.length := List.count_le_length
    have h2 := HL.out
    have := HC.out
    omega
  clear hX
  go_wp2_with fail
  go_loopw [6, 7, 8, 13] (fun a _ _ i wx => wx = ((w.alloc (.cells #[.int .i64 (1 + (n : Int)), .int .i64 C] 23)).alloc (.cells X 9)) ∧ ∃ (j o : Nat), i = .int .i64 j ∧ j ≤ n ∧ a = .int .i64 o ∧ o ≤ s.size + 1 ∧ Hid (o = offL (spl c s.data.toList) j)) (fun _ _ _ i _ => c + 1 - (intOf i).toNat)
  case atStart => exact ⟨rfl, 0, 0, rfl, by omega, rfl, by omega, by unfold Hid; exact (offL_zero _).symm⟩
  case round =>
    obtain ⟨rfl, j, o, rfl, hj, rfl, ho, HO⟩ := hrel
    have hjc : j < c + 1 := by omega
    obtain ⟨p, hp1, hp2⟩ := HX.out j hjc
    have hji : (j : Int) < (c : Int) + 1 := by omega
    by_cases hjn : j < n
    · have HO2 : Hid (offL (spl c s.data.toList) (j + 1) = o + (p.size + 1)) := by unfold Hid; rw [offL_step _ _ _ hp2, HO.out]; rfl
      have hob : o + p.size ≤ s.size := by
        obtain ⟨A, l, R, h1, h2, h3⟩ := spl_line c s.data.toList HC.out j (by omega)
        rw [hp2] at h1
        have h4 := congrArg List.length h2.eq
        rw [List.length_append, List.length_append, HL.out, h3, ← HO.out, ← Option.some.inj h1] at h4
        have h5 : p.data.toList.length = p.size := rfl
        omega
      have gE : ((j : Int) + 1 == 1 + (n : Int)) = false := by
        rw [beq_eq_false_iff_ne]
        omega
      clear hp2
      go_wp2_with fail
      exact ⟨⟨trivial, j + 1, o + (p.size + 1), by go_num, by omega, by go_num, by omega, HO2.out.symm⟩, by simp [intOf]; omega⟩
    · obtain rfl : j = n := by omega
      have gE : ((j : Int) + 1 == 1 + (j : Int)) = true := by
        rw [beq_iff_eq]
        omega
      have HPl : Hid (p.data.toList = l) := by
        have := HSp.out
        rw [hp2] at this
        exact Option.some.inj this
      have HOA : Hid (o = A.length) := HO.out.trans HA.out.symm
      clear hp2 hj hjn
      have hps : (p.size : Int) ≤ 1048576 := by
        have h1 : p.data.toList.length = p.size := rfl
        rw [HPl.out] at h1
        have := HAl.out
        omega
      have hos : (o : Int) + (p.size : Int) ≤ 1048576 := by
        have h1 : p.data.toList.length = p.size := rfl
        rw [HPl.out] at h1
        have := HAl.out
        have := HOA.out
        omega
      go_wp2_with fail
      refine (signsList_any p _ hps).mono ?_
      rintro e w2 ⟨v, rfl, hown, hb⟩
      rw [HPl.out] at hown
      obtain ⟨hc, hf⟩ := bcell hb
      have hnl : ((nS l : Nat) : Int) ≤ 1048576 := by
        have h1 := nS_le l
        have h3 : p.data.toList.length = p.size := rfl
        rw [HPl.out] at h3
        omega
      have d0 : w2.cell? ⟨w.heap.size, 0, none⟩ = some (.int .i64 (1 + (j : Int))) := by rw [hc _ _ (by simp; omega)]; simp [go_sem]
      have d1 : w2.cell? ⟨w.heap.size, 1, none⟩ = some (.int .i64 C) := by rw [hc _ _ (by simp; omega)]; simp [go_sem]
      have hy2 : w.heap.size + 1 < w2.heap.size := by have := hb.size; simp at this; omega
      have hB : Below w.heap.size w w2 := (((Below.refl _ _).alloc (Nat.le_refl _) _).alloc (by simp) _).trans (hb.mono (by simp; omega))
      clear hb hp1 hc hf
      have hown1 := own_base (base' := w.heap.size) hown (by simp; omega)
      have hsz2 := hB.size
      go_wp2_with (at_builtin; refine wpList_append_own _ rfl _ _ 35 rfl w.heap.size 3 i0 (.int .i64 0) 1 8 Tryd.underlying35 hi hz0 hz1 hz2 rfl (by decide) _ _ _ rfl (hown1.alloc _) ⟨w2.heap.size, 0, none⟩ 1 1 [.int .i64 (p.size : Int)] rfl rfl ?c1 ?c2 ?c3 ?c4 ?c5 ?_)
      case c1 =>
        intro k u hk
        match k, hk with
        | 0, hk => simp at hk; subst hk; simp [Addr.add]
      case c2 => intro u hu; simp at hu; subst hu; rfl
      case c3 => unfold maxLen; omega
      case c4 => omega
      case c5 => simp; omega
      intro v' w3 hown3 hgrow _
      have HB : Hid (((p.size : Nat) : Int) = (bp l (nS l) : Int)) := by
        unfold Hid
        have h3 : p.data.toList.length = p.size := rfl
        rw [HPl.out] at h3
        rw [bp_end, h3]
      rw [HB.out, bcs_snoc] at hown3
      have hB3 := (hB.alloc hsz2 _).grown hgrow (by simp; omega) (fun q hq => (hown1.lt _ hq).1)
      have hbx : Below (w.heap.size + 1) w2 w3 := ((Below.refl (w.heap.size + 1) w2).alloc (by omega) _).grown hgrow (by simp; omega) (fun q hq => by have := (hown.lt _ hq).1; simp at this; omega)
      have e1 : w3.cell? ⟨w.heap.size, 1, none⟩ = some (.int .i64 C) := by rw [hbx.cell (p := ⟨w.heap.size, 1, none⟩) (by simp)]; exact d1
      clear hbx hown hown1 hgrow hB hsz2
      obtain ⟨g, cap, rfl, hg1, hg2, hcell⟩ := own_form hown3
      clear hown3
      by_cases hC1 : C < 1
      · have g1 : decide (C < 1) = true := by simpa using hC1
        go_wp2_with fail
        go_ret2
        exact ⟨by rw [V1.out hC1]; rfl, hB3⟩
      · have g1 : decide (C < 1) = false := by simpa using hC1
        obtain ⟨q, hq⟩ : ∃ q : Nat, C = 1 + (q : Int) := ⟨(C - 1).toNat, by omega⟩
        subst hq
        by_cases hq2 : q ≤ nS l
        · have g2 : decide ((nS l : Int) + 1 < 1 + (q : Int)) = false := by rw [decide_eq_false_iff_not]; omega
          have hqc := hcell q (by omega)
          rw [bcs_at _ _ _ (by omega)] at hqc
          clear hcell
          have hbp : (o : Int) + (bp l q : Int) ≤ 1048576 := by
            have h1 := (bp_runs l q hq2).2.1
            have h3 : p.data.toList.length = p.size := rfl
            rw [HPl.out] at h3
            omega
          have HQ : Hid (q ≤ nS l) := hq2
          clear hq2
          have hq3 : (q : Int) ≤ (nS l : Int) := by have := HQ.out; omega
          go_wp2_with fail
          go_ret2
          exact ⟨by rw [V2.out q rfl, backAns_yes HQ.out, ← HOA.out]; rfl, hB3⟩
        · have g2 : decide ((nS l : Int) + 1 < 1 + (q : Int)) = true := by rw [decide_eq_true_iff]; omega
          clear hcell
          go_wp2_with fail
          go_ret2
          exact ⟨by rw [V2.out q rfl, backAns_no hq2]; rfl, hB3⟩
end Go.Proofs.YtomeocofnbnegaaDoor
