import Derived.Test.YtomeocofnbnegabBack
namespace Go.Proofs.Ytomeocofnbnegab
open Go.RowKit
theorem Tail.uniq {h A H A' H' : List UInt8} (T : Tail h A H) (T' : Tail h A' H') : A = A' ∧ H = H' := by
  have he : A ++ H = A' ++ H' := T.eq.symm.trans T'.eq
  have key : ∀ {A H A' H' : List UInt8}, A ++ H = A' ++ H' → (∀ b ∈ H, b ≠ 10) → (A' = [] ∨ ∃ Q, A' = Q ++ [10]) → A'.length ≤ A.length := by
    intro A H A' H' he hH hf
    rcases hf with rfl | ⟨Q, rfl⟩
    · simp
    · rcases Nat.lt_or_ge A.length (Q ++ [10]).length with h | h
      · exfalso
        rw [List.length_append] at h
        simp at h
        have h1 : (A ++ H)[Q.length]? = ((Q ++ [10]) ++ H')[Q.length]? := by rw [he]
        rw [List.getElem?_append_right (by omega), List.append_assoc, List.getElem?_append_right (Nat.le_refl _), Nat.sub_self] at h1
        have h2 : H[Q.length - A.length]? = some 10 := by rw [h1]; rfl
        obtain ⟨h3, h4⟩ := List.getElem?_eq_some_iff.1 h2
        exact hH 10 (by rw [← h4]; exact List.getElem_mem h3) rfl
      · exact h
  have h1 := key he T.no T'.fin
  have h2 := key he.symm T'.no T.fin
  exact List.append_inj he (by omega)
set_option maxHeartbeats 400000 in
theorem within_any (k : Int) (n : Nat) (w : World) (h0 : (1 : Int) ≤ (n : Int)) (h1 : (n : Int) ≤ 1048577) :
    Calls Try.prog 7 #[.int .i64 k, .int .i64 n] w fun e w' => ∃ j : Nat, e = .returned (.int .i64 j) ∧ j < n ∧ w' = w := by
  go_enter Try.func7, Try.ntmps7
  go_wp2_with fail
  go_ret
  have hw : 0 ≤ IntKind.u64.wrap k := by simp [IntKind.wrap, IntKind.bits, IntKind.signed]; omega
  have h2 : (IntKind.u64.wrap k).tmod (n : Int) = (IntKind.u64.wrap k) % (n : Int) := Int.tmod_eq_emod_of_nonneg hw
  have h3 := Int.emod_nonneg (IntKind.u64.wrap k) (show (n : Int) ≠ 0 from by omega)
  have h4 := Int.emod_lt_of_pos (IntKind.u64.wrap k) (show (0 : Int) < n from by omega)
  obtain ⟨j, hj⟩ := Int.eq_ofNat_of_zero_le h3
  refine ⟨j, ?_, by omega, rfl⟩
  refine ret_int ?_
  rw [h2, hj]
  unfold wrap64; omega
/-- A slice of the call's own with something in it. -/
theorem own_form {w : World} {base : Nat} {e : TypeId} {v : Value} {n : Nat} {xs : List Value} (h : w.ownsRow base e 1 v (n + 1) xs) : ∃ g cap, v = .slice (some ⟨g, 0, none⟩) (n + 1) cap ∧ base ≤ g ∧ g < w.heap.size ∧ ∀ j, j < n + 1 → w.cell? ⟨g, j, none⟩ = xs[j]? := by
  have h0 := h
  obtain ⟨h1, h2⟩ := h
  rcases h2 with ⟨_, h2⟩ | ⟨g, cap, cur, rfl, hg, hh, hn, _⟩
  · omega
  · refine ⟨g, cap, rfl, hg, ?_, fun j hj => h0.cellAt j (by omega)⟩
    rcases Nat.lt_or_ge g w.heap.size with h3 | h3
    · exact h3
    · rw [Array.getElem?_eq_none h3] at hh; cases hh
theorem own_base {w : World} {base base' : Nat} {e : TypeId} {size : Nat} {v : Value} {n : Nat} {xs : List Value} (h : w.ownsRow base e size v n xs) (hb : base' ≤ base) : w.ownsRow base' e size v n xs := by
  obtain ⟨h1, h2⟩ := h
  refine ⟨h1, ?_⟩
  rcases h2 with h2 | ⟨g, cap, cur, hv, hg, r⟩
  · exact .inl h2
  · exact .inr ⟨g, cap, cur, hv, by omega, r⟩
theorem bcs_at (t : List UInt8) (n j : Nat) (h : j < n) : (bcs t n)[j]? = some (.int .i64 (bp t j : Int)) := by
  unfold bcs
  rw [List.getElem?_map, List.getElem?_range h]; rfl
theorem ex_tail {A H : List UInt8} (T : Tail ((⟨#[97, 10, 98, 99]⟩ : ByteArray).data.toList.take 3) A H) : nS H = 1 := by
  have T2 : Tail ((⟨#[97, 10, 98, 99]⟩ : ByteArray).data.toList.take 3) [97, 10] [98] := ⟨rfl, by decide, .inr ⟨[97], rfl⟩⟩
  rw [(T.uniq T2).2]; decide
theorem ex_count : List.count 10 ((⟨#[97, 10, 98, 99]⟩ : ByteArray).data.toList.take 3) = 1 := by decide
theorem sign_at (t : List UInt8) (j : Nat) (h : j ≤ nS t) : t = t.take (bp t j) ++ t.drop (bp t j) ∧ Runs j (t.take (bp t j) ++ t.drop (bp t j)) (t.drop (bp t j)) ∧ Runs j (t.take (bp t j)) [] := by
  obtain ⟨h1, h2, _⟩ := bp_runs t j h
  refine ⟨(List.take_append_drop _ _).symm, by rw [List.take_append_drop]; exact h1, ?_⟩
  obtain ⟨p, h3, h4⟩ := h1.pre
  have h5 : t.take (bp t j) ++ t.drop (bp t j) = p ++ t.drop (bp t j) := by rw [List.take_append_drop]; exact h3
  rw [List.append_cancel_right h5]; exact h4
set_option maxRecDepth 20000 in
set_option maxHeartbeats 4000000 in
theorem placeBack_any (s : ByteArray) (k : Int) (w : World) (hs : (s.size : Int) ≤ 1048576) :
    Calls Try.prog 3 #[.string s, .int .i64 k] w fun e w' => e = .returned (.bool true) ∧ Below w.heap.size w w' := by
  obtain ⟨i0, hi, hz0, hz1, hz2⟩ := info_parts Try.info3
  have HL : Hid (s.data.toList.length = s.size) := size_list s
  have hnl := nS_le s.data.toList
  rw [HL.out] at hnl
  go_enter Try.func3, Try.ntmps3
  go_wp2_with fail
  refine (where_ok ⟨#[97, 10, 98, 99]⟩ 3 _ (by decide) (by decide)).mono ?_
  rintro e w1 ⟨A0, H0, hT0, rfl, hb1⟩
  rw [ex_count, ex_tail hT0]
  clear hT0
  go_wp2_with fail
  refine (signsList_any s _ hs).mono ?_
  rintro e w2 ⟨v, rfl, hown, hb2⟩
  have hB2 : Below w.heap.size w w2 := (hb1.alloc hb1.size _).trans (hb2.mono (by have := hb1.size; simp; omega))
  have hsz2 := hB2.size
  have hown1 := own_base (base' := w.heap.size) hown (by have := hb1.size; simp; omega)
  clear hb2 hb1 hown
  go_wp2_with (at_builtin; refine wpList_append_own _ rfl _ _ 27 rfl w.heap.size 3 i0 (.int .i64 0) 1 8 Try.underlying27 hi hz0 hz1 hz2 rfl (by decide) _ _ _ rfl (hown1.alloc _) ⟨w2.heap.size, 0, none⟩ 1 1 [.int .i64 (s.size : Int)] rfl rfl ?c1 ?c2 ?c3 ?c4 ?c5 ?_)
  case c1 =>
    intro j u hj
    match j, hj with
    | 0, hj => simp at hj; subst hj; simp [Addr.add]
  case c2 => intro u hu; simp at hu; subst hu; rfl
  case c3 => unfold maxLen; omega
  case c4 => omega
  case c5 => simp; omega
  intro v' w3 hown3 hgrow _
  have HB : Hid (((s.size : Nat) : Int) = (bp s.data.toList (nS s.data.toList) : Int)) := by unfold Hid; rw [bp_end, HL.out]
  rw [HB.out, bcs_snoc] at hown3
  have hB3 := (hB2.alloc hsz2 _).grown hgrow (by simp; omega) (fun q hq => (hown1.lt _ hq).1)
  clear hown1 hgrow hB2 hsz2
  obtain ⟨g, cap, rfl, hg1, hg2, hcell⟩ := own_form hown3
  clear hown3
  have hnl2 : ((nS s.data.toList + 1 : Nat) : Int) ≤ 1048577 := by omega
  obtain ⟨N, HN⟩ : ∃ N, Hid (nS s.data.toList + 1 = N) := ⟨_, rfl⟩
  rw [HN.out] at hnl2 hcell ⊢
  have hN1 : (1 : Int) ≤ (N : Int) := by have := HN.out; omega
  clear hnl
  go_wp2_with fail
  refine (within_any k N _ hN1 hnl2).mono ?_
  rintro e w4 ⟨j, rfl, hj, hw4⟩
  subst hw4
  have hjc := hcell j hj
  rw [bcs_at _ _ _ hj] at hjc
  clear hcell
  have hj0 : (0 : Int) ≤ (j : Int) := by omega
  have hj1 : (j : Int) < (N : Int) := by omega
  go_wp2_with fail
  have hjn : j ≤ nS s.data.toList := by have := HN.out; omega
  obtain ⟨P1, P2, P3⟩ := sign_at s.data.toList j hjn
  have hble : bp s.data.toList j ≤ s.size := by rw [← HL.out]; exact (bp_runs s.data.toList j hjn).2.1
  have H1 : Hid _ := P1
  have H2 : Hid _ := P2
  have H3 : Hid _ := P3
  clear P1 P2 P3
  refine (where_ok s (bp s.data.toList j) _ hs hble).mono ?_
  rintro e w5 ⟨A, H, hT, rfl, hb5⟩
  have HT : Hid _ := hT
  have hB5 : Below w.heap.size w w5 := hB3.trans (hb5.mono hB3.size)
  clear hT hb5 hB3 hjc
  go_wp2_with fail
  refine (back_ok s (s.data.toList.take (bp s.data.toList j)) A H (s.data.toList.drop (bp s.data.toList j)) j _ hs H1 HT H2 H3).mono ?_
  rintro e w6 ⟨rfl, hb6⟩
  have HLen : Hid ((s.data.toList.take (bp s.data.toList j)).length = bp s.data.toList j) := by unfold Hid; rw [List.length_take, HL.out]; omega
  rw [HLen.out]
  have hB6 : Below w.heap.size w w6 := (hB5.alloc hB5.size _).trans (hb6.mono (by have := hB5.size; simp; omega))
  go_wp2_with fail
  go_ret
  exact ⟨rfl, hB6⟩
end Go.Proofs.Ytomeocofnbnegab
