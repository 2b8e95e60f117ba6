import Derived.Test.YtomeocofnbnegaaDoorBackAll
namespace Go.Proofs.YtomeocofnbnegaaDoor
open Go.RowKit
/-- A slice of the call's own with something in it. -/
theorem own_form {w : World} {base : Nat} {e : TypeId} {v : Value} {n : Nat} {xs : List Value} (h : w.ownsRow base e 1 v (n + 1) xs) : ∃ g cap, v = .slice (some ⟨g, 0, none⟩) (n + 1) cap ∧ base ≤ g ∧ g < w.heap.size ∧ ∀ j, j < n + 1 → w.cell? ⟨g, j, none⟩ = xs[j]? := by
  have h0 := h
  obtain ⟨h1, h2⟩ := h
  rcases h2 with ⟨_, h2⟩ | ⟨g, cap, cur, rfl, hg, hh, hn, _⟩
  · omega
  · refine ⟨g, cap, rfl, hg, ?_, fun j hj => h0.cellAt j (by omega)⟩
    rcases Nat.lt_or_ge g w.heap.size with h3 | h3
    · exact h3
    · rw [Array.getElem?_eq_none h3] at hh; cases hh
theorem own_base {w : World} {base base' : Nat} {e : TypeId} {size : Nat} {v : Value} {n : Nat} {xs : List Value} (h : w.ownsRow base e size v n xs) (hb : base' ≤ base) : w.ownsRow base' e size v n xs := by
  obtain ⟨h1, h2⟩ := h
  refine ⟨h1, ?_⟩
  rcases h2 with h2 | ⟨g, cap, cur, hv, hg, r⟩
  · exact .inl h2
  · exact .inr ⟨g, cap, cur, hv, by omega, r⟩
theorem bcs_at (t : List UInt8) (n j : Nat) (h : j < n) : (bcs t n)[j]? = some (.int .i64 (bp t j : Int)) := by
  unfold bcs
  rw [List.getElem?_map, List.getElem?_range h]; rfl
theorem offL_zero (ls : List (List UInt8)) : offL ls 0 = 0 := by cases ls <;> rfl
set_option maxRecDepth 20000 in
set_option maxHeartbeats 1000000 in
theorem place_none (s : ByteArray) (L C m : Int) (w : World) (hs : (s.size : Int) ≤ 1048576) (hm : w.cell? ⟨0, 0, none⟩ = some (.int .i64 m)) (HN : Hid (L < 1 ∨ (List.count 10 s.data.toList : Nat) + 1 < L)) :
    Calls Tryd.prog 8 #[.string s, .agg #[.int .i64 L, .int .i64 C]] w fun e w' => e = .returned (.tuple #[.int .i64 0, .int .i64 12]) ∧ Below w.heap.size w w' := by
  have HL : Hid (s.data.toList.length = s.size) := size_list s
  have hw0 := lt_of_cell hm
  go_enter Tryd.func8, Tryd.ntmps8
  go_wp2_with fail
  refine (split_any s m _ hs (by rw [World.cell?_alloc_past _ _ _ hw0]; exact hm)).mono ?_
  rintro e w1 ⟨X, rfl, rfl, hX⟩
  obtain ⟨c, HC⟩ : ∃ c, Hid (List.count 10 s.data.toList = c) := ⟨_, rfl⟩
  rw [HC.out] at hX ⊢
  have HX : Hid (∀ j, j < c + 1 → ∃ p : ByteArray, X[j]? = some (.string p) ∧ (spl c s.data.toList)[j]? = some p.data.toList) := hX
  have hcl : (c : Int) ≤ 1048576 := by
    have h1 : List.count 10 s.data.toList ≤ s.data.toList.length := List.count_le_length
    have h2 := HL.out
    have := HC.out
    omega
  clear hX
  go_wp2_with fail
  go_loopw [6, 7, 8, 13] (fun a _ _ i wx => wx = ((w.alloc (.cells #[.int .i64 L, .int .i64 C] 23)).alloc (.cells X 9)) ∧ ∃ (j o : Nat), i = .int .i64 j ∧ j ≤ c + 1 ∧ a = .int .i64 o ∧ o ≤ s.size + 1 ∧ Hid (o = offL (spl c s.data.toList) j)) (fun _ _ _ i _ => c + 1 - (intOf i).toNat)
  case atStart => exact ⟨rfl, 0, 0, rfl, by omega, rfl, by omega, by unfold Hid; exact (offL_zero _).symm⟩
  case round =>
    obtain ⟨rfl, j, o, rfl, hj, rfl, ho, HO⟩ := hrel
    by_cases hjc : j < c + 1
    · obtain ⟨p, hp1, hp2⟩ := HX.out j hjc
      have HO2 : Hid (offL (spl c s.data.toList) (j + 1) = o + (p.size + 1)) := by unfold Hid; rw [offL_step _ _ _ hp2, HO.out]; rfl
      have hob : o + p.size ≤ s.size := by
        obtain ⟨A, l, R, h1, h2, h3⟩ := spl_line c s.data.toList HC.out j (by omega)
        rw [hp2] at h1
        have h4 := congrArg List.length h2.eq
        rw [List.length_append, List.length_append, HL.out, h3, ← HO.out, ← Option.some.inj h1] at h4
        have h5 : p.data.toList.length = p.size := rfl
        omega
      have gE : ((j : Int) + 1 == L) = false := by
        rw [beq_eq_false_iff_ne]
        have h1 := HN.out
        rw [HC.out] at h1
        omega
      have hji : (j : Int) < (c : Int) + 1 := by omega
      clear hp2
      go_wp2_with fail
      exact ⟨⟨trivial, j + 1, o + (p.size + 1), by go_num, by omega, by go_num, by omega, HO2.out.symm⟩, by simp [intOf]; omega⟩
    · go_wp2_with fail
      go_ret2
      exact ⟨rfl, ((Below.refl _ _).alloc (Nat.le_refl _) _).alloc (by simp) _⟩
end Go.Proofs.YtomeocofnbnegaaDoor
