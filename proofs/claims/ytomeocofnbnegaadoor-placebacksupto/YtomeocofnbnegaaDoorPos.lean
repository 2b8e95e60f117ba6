import Derived.Test.YtomeocofnbnegaaDoorBack
namespace Go.Proofs.YtomeocofnbnegaaDoor
open Go.RowKit
/-- A text line by line, k line ends of it. -/
def spl : Nat → List UInt8 → List (List UInt8)
  | 0, t => [t]
  | k + 1, t => t.takeWhile (fun b => b != 10) :: spl k (t.drop ((t.takeWhile (fun b => b != 10)).length + 1))
theorem take_line (Q1 r : List UInt8) (h : ∀ b ∈ Q1, b ≠ 10) : (Q1 ++ 10 :: r).takeWhile (fun b => b != 10) = Q1 := by
  rw [List.takeWhile_append_of_pos (fun b hb => by simpa using h b hb)]
  simp
theorem count_line (Q1 r : List UInt8) (h : ∀ b ∈ Q1, b ≠ 10) : List.count 10 (Q1 ++ 10 :: r) = List.count 10 r + 1 := by
  rw [List.count_append, count_no Q1 h]; simp
theorem ext_between (s : ByteArray) (i j : Nat) : (s.extract i j).data.toList = (s.data.toList.take j).drop i := by
  rw [ByteArray.data_extract, Array.toList_extract, List.extract_eq_take_drop, List.drop_take]
theorem split_list (k : Nat) (s : ByteArray) (hk : List.count 10 s.data.toList = k) : (Lib.splitB ⟨#[10]⟩ 0 k s).map (fun p => p.data.toList) = spl k s.data.toList := by
  induction k generalizing s with
  | zero => rfl
  | succ k ih =>
    obtain ⟨Q1, Q2, h1, h2⟩ := first_nl s.data.toList (by omega)
    have hi : Lib.indexB s ⟨#[10]⟩ = (Q1.length : Nat) := by
      show Lib.index s.data.toList [10] = _
      rw [Lib.index_one, h1]; exact indexByte_at Q1 Q2 h2
    have hsz : (⟨#[10]⟩ : ByteArray).size = 1 := rfl
    rw [Lib.splitB_hit _ _ _ _ _ hi, List.map_cons, hsz, Nat.add_zero]
    have e2 : (s.extract (Q1.length + 1) s.size).data.toList = Q2 := by
      rw [ext_list, h1, List.drop_append, List.drop_eq_nil_of_le (by omega), show Q1.length + 1 - Q1.length = 1 from by omega]; rfl
    rw [ih _ (by rw [e2]; rw [h1, count_line Q1 Q2 h2] at hk; omega), e2, take_list]
    show _ = s.data.toList.takeWhile (fun b => b != 10) :: spl k (s.data.toList.drop ((s.data.toList.takeWhile (fun b => b != 10)).length + 1))
    rw [h1, take_line Q1 Q2 h2, List.take_left]
    rw [List.drop_append, List.drop_eq_nil_of_le (by omega), show Q1.length + 1 - Q1.length = 1 from by omega]; rfl
theorem spl_last (k : Nat) (t : List UInt8) (hk : List.count 10 t = k) : ∃ A H, (spl k t)[k]? = some H ∧ Tail t A H := by
  induction k generalizing t with
  | zero => exact ⟨[], t, rfl, ⟨rfl, fun b hb e => by rw [e] at hb; exact List.count_eq_zero.1 hk hb, .inl rfl⟩⟩
  | succ k ih =>
    obtain ⟨Q1, Q2, h1, h2⟩ := first_nl t (by omega)
    have hc : List.count 10 Q2 = k := by rw [h1, count_line Q1 Q2 h2] at hk; omega
    obtain ⟨A, H, h3, h4⟩ := ih Q2 hc
    refine ⟨Q1 ++ 10 :: A, H, ?_, ?_, h4.no, ?_⟩
    · show (t.takeWhile (fun b => b != 10) :: spl k (t.drop ((t.takeWhile (fun b => b != 10)).length + 1)))[k + 1]? = _
      rw [h1, take_line Q1 Q2 h2, List.drop_append, List.drop_eq_nil_of_le (by omega), show Q1.length + 1 - Q1.length = 1 from by omega, List.getElem?_cons_succ]
      exact h3
    · rw [h1, h4.eq]; simp
    · rcases h4.fin with e | ⟨A', e⟩
      · exact .inr ⟨Q1, by rw [e]⟩
      · exact .inr ⟨Q1 ++ 10 :: A', by rw [e]; simp⟩
theorem spl_length (k : Nat) (t : List UInt8) : (spl k t).length = k + 1 := by
  induction k generalizing t with
  | zero => rfl
  | succ k ih => rw [spl, List.length_cons, ih]
theorem count_nl (s : ByteArray) : Lib.countB s ⟨#[10]⟩ = List.count 10 s.data.toList := Lib.count_one 10 s.data.toList
/-- Of a place in memory that is there. -/
theorem lt_of_cell {w : World} {b o : Nat} {v : Value} (h : w.cell? ⟨b, o, none⟩ = some v) : b < w.heap.size := by
  rcases Nat.lt_or_ge b w.heap.size with h1 | h1
  · exact h1
  · simp [World.cell?, Array.getElem?_eq_none h1] at h
theorem split_any (s : ByteArray) (m : Int) (w : World) (hs : (s.size : Int) ≤ 1048576) (hm : w.cell? ⟨0, 0, none⟩ = some (.int .i64 m)) :
    Calls Tryd.prog 12 #[.string s, .string ⟨#[10]⟩] w fun e w' => ∃ X : Array Value, e = .returned (.slice (some ⟨w.heap.size, 0, none⟩) (List.count 10 s.data.toList + 1) (List.count 10 s.data.toList + 1)) ∧ w' = w.alloc (.cells X 9) ∧
      ∀ j, j < List.count 10 s.data.toList + 1 → ∃ p : ByteArray, X[j]? = some (.string p) ∧ (spl (List.count 10 s.data.toList) s.data.toList)[j]? = some p.data.toList := by
  refine (Tryd.strings_Split s ⟨#[10]⟩ m w (by omega) hm (by decide)).mono ?_
  rintro e w' ⟨rfl, rfl⟩
  refine ⟨_, by rw [count_nl], rfl, fun j hj => ?_⟩
  have h1 := split_list _ s rfl
  rw [count_nl]
  have h2 := congrArg (fun q => q[j]?) h1
  simp only [List.getElem?_map] at h2
  have hl : j < (spl (List.count 10 s.data.toList) s.data.toList).length := by rw [spl_length]; exact hj
  rw [List.getElem?_eq_getElem hl] at h2
  obtain ⟨p, h3, h4⟩ := Option.map_eq_some_iff.1 h2
  exact ⟨p, by rw [List.getElem?_toArray, List.getElem?_map, h3]; rfl, by rw [List.getElem?_eq_getElem hl, h4]⟩
/-- The length of a slice of the call's own. -/
theorem own_len {w : World} {base : Nat} {e : TypeId} {size : Nat} {v : Value} {n : Nat} {xs : List Value} (h : w.ownsRow base e size v n xs) : ∃ a cap, v = .slice a n cap := by
  rcases h.2 with ⟨rfl, rfl⟩ | ⟨g, cap, cur, rfl, _⟩
  · exact ⟨none, 0, rfl⟩
  · exact ⟨_, cap, rfl⟩
set_option maxRecDepth 20000 in
set_option maxHeartbeats 1000000 in
theorem pos_ok (s : ByteArray) (at' : Nat) (m : Int) (w : World) (hs : (s.size : Int) ≤ 1048576) (hat : at' ≤ s.size) (hm : w.cell? ⟨0, 0, none⟩ = some (.int .i64 m)) :
    Calls Tryd.prog 6 #[.string s, .int .i64 at'] w fun e w' => ∃ A H, Tail (s.data.toList.take at') A H ∧ e = .returned (.tuple #[.agg #[.int .i64 (1 + (List.count 10 (s.data.toList.take at') : Nat)), .int .i64 (1 + (nS H : Nat))], .int .i64 0]) ∧ Below w.heap.size w w' := by
  have g1 : decide ((at' : Int) < 0) = false := by simp
  have g2 : decide ((s.size : Int) < (at' : Int)) = false := by simp; omega
  have hat2 : (at' : Int) ≤ (s.size : Int) := by omega
  have hw0 := lt_of_cell hm
  go_enter Tryd.func6, Tryd.ntmps6
  go_wp2_with fail
  obtain ⟨hd, HE⟩ : ∃ hd, Hid (s.extract 0 at' = hd) := ⟨_, rfl⟩
  have hz : hd.size = at' := by rw [← HE.out]; simp; omega
  have HX : Hid (s.data.toList.take at' = hd.data.toList) := by unfold Hid; rw [← HE.out]; exact (take_list s at').symm
  rw [HE.out]
  have hds : (hd.size : Int) ≤ 1048576 := by omega
  have HZ : Hid (hd.size = at') := hz
  clear hz
  refine (split_any hd m _ hds (by rw [World.cell?_alloc_past _ _ _ hw0]; exact hm)).mono ?_
  rintro e w1 ⟨X, rfl, rfl, hX⟩
  obtain ⟨c, HC⟩ : ∃ c, Hid (List.count 10 hd.data.toList = c) := ⟨_, rfl⟩
  rw [HC.out] at hX ⊢
  obtain ⟨A, H, hH, hT⟩ := spl_last c hd.data.toList HC.out
  obtain ⟨p, hp1, hp2⟩ := hX c (by omega)
  rw [hH] at hp2
  have HP : Hid (p.data.toList = H) := (Option.some.inj hp2).symm
  have HT : Hid (Tail hd.data.toList A H) := hT
  clear hX hp2 hH hT
  have hcl : (c : Int) ≤ 1048576 := by
    have h1 : List.count 10 hd.data.toList ≤ hd.data.toList.length := List.count_le_length
    have h2 : hd.data.toList.length = hd.size := rfl
    have := HC.out
    omega
  go_wp2_with fail
  have hps : (p.size : Int) ≤ 1048576 := by
    have h1 := congrArg List.length HT.out.eq
    rw [List.length_append] at h1
    have h2 : hd.data.toList.length = hd.size := rfl
    have h3 : p.data.toList.length = p.size := rfl
    rw [HP.out] at h3
    omega
  refine (signsList_any p _ hps).mono ?_
  rintro e w2 ⟨v, rfl, hown, hb⟩
  rw [HP.out] at hown
  obtain ⟨a, cap, rfl⟩ := own_len hown
  have hnl : ((nS H : Nat) : Int) ≤ 1048576 := by
    have h1 := nS_le H
    have h3 : p.data.toList.length = p.size := rfl
    rw [HP.out] at h3
    omega
  obtain ⟨hc, hf⟩ := bcell hb
  have d0 : w2.cell? ⟨w.heap.size, 0, none⟩ = some (.int .i64 0) := by rw [hc _ _ (by simp; omega)]; simp [go_sem]
  have d1 : w2.cell? ⟨w.heap.size, 1, none⟩ = some (.int .i64 0) := by rw [hc _ _ (by simp; omega)]; simp [go_sem]
  have f0 : w2.frozen? ⟨w.heap.size, 0, none⟩ = false := by rw [hf _ _ (by simp; omega)]; simp [go_sem]
  have f1 : w2.frozen? ⟨w.heap.size, 1, none⟩ = false := by rw [hf _ _ (by simp; omega)]; simp [go_sem]
  have hB : Below w.heap.size w w2 := (((Below.refl _ _).alloc (Nat.le_refl _) _).alloc (by simp) _).trans (hb.mono (by simp; omega))
  clear hown hb hp1 hc hf
  go_wp2_with fail
  exact bodyPost_ret (v := .tuple #[.agg #[.int .i64 ((c : Int) + 1), .int .i64 (1 + (nS H : Nat))], .int .i64 0]) (by simp [results, Tryd.results6, go_sem, d0, d1]) rfl ⟨A, H, by rw [HX.out]; exact HT.out, by rw [HX.out, HC.out, show (1 + (c : Int)) = (c : Int) + 1 from by omega], (hB.setCell (Nat.le_refl _) _).setCell (Nat.le_refl _) _⟩
set_option maxRecDepth 20000 in
set_option maxHeartbeats 1000000 in
theorem where_out (s : ByteArray) (a : Int) (w : World) (h : a < 0 ∨ (s.size : Int) < a) :
    Calls Tryd.prog 5 #[.string s, .int .i64 a] w fun e w' => e = .returned (.tuple #[.agg #[.int .i64 0, .int .i64 0], .int .i64 1]) ∧ Below w.heap.size w w' := by
  by_cases h0 : a < 0
  · have g1 : decide (a < 0) = true := by simpa using h0
    go_enter Tryd.func5, Tryd.ntmps5
    go_wp2_with fail
    exact bodyPost_ret (v := .tuple #[.agg #[.int .i64 0, .int .i64 0], .int .i64 1]) (by simp [results, Tryd.results5, go_sem]) rfl ⟨rfl, (Below.refl _ _).alloc (Nat.le_refl _) _⟩
  · have g1 : decide (a < 0) = false := by simpa using h0
    have h1 : (s.size : Int) < a := by omega
    have g2 : decide ((s.size : Int) < a) = true := by simpa using h1
    go_enter Tryd.func5, Tryd.ntmps5
    go_wp2_with fail
    exact bodyPost_ret (v := .tuple #[.agg #[.int .i64 0, .int .i64 0], .int .i64 1]) (by simp [results, Tryd.results5, go_sem]) rfl ⟨rfl, (Below.refl _ _).alloc (Nat.le_refl _) _⟩
set_option maxRecDepth 20000 in
set_option maxHeartbeats 1000000 in
theorem pos_out (s : ByteArray) (a : Int) (w : World) (h : a < 0 ∨ (s.size : Int) < a) :
    Calls Tryd.prog 6 #[.string s, .int .i64 a] w fun e w' => e = .returned (.tuple #[.agg #[.int .i64 0, .int .i64 0], .int .i64 1]) ∧ Below w.heap.size w w' := by
  by_cases h0 : a < 0
  · have g1 : decide (a < 0) = true := by simpa using h0
    go_enter Tryd.func6, Tryd.ntmps6
    go_wp2_with fail
    exact bodyPost_ret (v := .tuple #[.agg #[.int .i64 0, .int .i64 0], .int .i64 1]) (by simp [results, Tryd.results6, go_sem]) rfl ⟨rfl, (Below.refl _ _).alloc (Nat.le_refl _) _⟩
  · have g1 : decide (a < 0) = false := by simpa using h0
    have h1 : (s.size : Int) < a := by omega
    have g2 : decide ((s.size : Int) < a) = true := by simpa using h1
    go_enter Tryd.func6, Tryd.ntmps6
    go_wp2_with fail
    exact bodyPost_ret (v := .tuple #[.agg #[.int .i64 0, .int .i64 0], .int .i64 1]) (by simp [results, Tryd.results6, go_sem]) rfl ⟨rfl, (Below.refl _ _).alloc (Nat.le_refl _) _⟩
end Go.Proofs.YtomeocofnbnegaaDoor
